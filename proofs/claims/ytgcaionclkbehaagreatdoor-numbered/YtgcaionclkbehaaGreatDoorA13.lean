import Derived.Test.YtgcaionclkbehaaGreatDoorN7
import Derived.Laws.BytesString
set_option linter.all false
namespace Go.Proofs.YtgcaionclkbehaaGreatDoor
open Tryz
section
open Go.Conc Go.RowKit Go.Lib
abbrev sl79 : Value := .slice (some ⟨79,0,none⟩) 1 1
abbrev tokT (bs : List UInt8) : List Value := [num 1,str bs,str [],nilV, .bool false]
abbrev tokS : List Value := [num 2,str [],str [97],sl79, .bool false]
abbrev scO2 (k : Nat) (l : Value) : Obj := .cells #[aptr 65 0,num (k : Nat), .pointer none,nilV,l] 121
def h1 (bs bs2 : List UInt8) (k : Nat) : AS := (g6 bs bs2 k).add (tgO [97] sl79)
def h1b (bs bs2 : List UInt8) (k : Nat) : AS := (h1 bs bs2 k).add (.cells tokS.toArray 60)
def e1 (bs bs2 : List UInt8) (k : Nat) : AS := ((((h1b bs bs2 k).set 68 none).add (.cells (tokT bs).toArray 60)).add (.cells (tokT bs).toArray 60 (1,1))).set 66 (some (scO2 k (.slice (some ⟨83,0,none⟩) 1 1)))
def h2 (bs bs2 : List UInt8) (k : Nat) : AS := ((((e1 bs bs2 k).add (.cells tokS.toArray 60)).set 83 none).add (.cells (tokT bs ++ tokS).toArray 60 (1,1))).set 66 (some (scO2 k (.slice (some ⟨85,0,none⟩) 2 2)))
def h3 (bs bs2 : List UInt8) (k : Nat) : AS := ((h2 bs bs2 k).add (.cells #[str [115,99,114,105,112,116],str [115,116,121,108,101]] 9)).add (.cells #[str [116,105,116,108,101],str [116,101,120,116,97,114,101,97]] 9)
section
variable {n : Nat} {V : Array Value → Option Value} {all : List Int} {s : AS} {bs bs2 : List UInt8}
theorem famh3 : Fam (h3 bs bs2) 65 66 (.pointer none) nilV (.slice (some ⟨85,0,none⟩) 2 2) := ⟨fun k => by kernel_rfl,fun k k' => by kernel_rfl,fun k => by show 66 < 88; decide,fun k => by show 65 < 88; decide,fun k => by kernel_rfl⟩
theorem string2_f {pr : Prim} {x0 x1 x2 x4 : Value} {l : List UInt8} {fz : Nat × Nat} (h84 : pr 84 = none) (hs : s.get 66 = some (.cells #[x0,x1,x2, .slice (some ⟨68,0,none⟩) l.length l.length,x4] 121)) (hb : s.get 68 = some (.cells (byC l) 5 fz)) (h0 : l ≠ []) (hl : l.length ≤ 1000000) : EF prog ktB pr 84 #[aptr 66 2] s (str l) (s.set 68 none) := by
 obtain ⟨c,l,rfl⟩ : ∃ c l',l = c :: l' := by
  cases l with
  | nil => exact absurd rfl h0
  | cons c l => exact ⟨c,l,rfl⟩
 refine EF.of h84 func84 rfl ?_
 refine EW.seq (EW.go 5 (by kernel_rfl) ?_)
 refine EW.seq (EW.draw (by kernel_rfl) (by kernel_rfl) (by kernel_rfl) ?_)
 iterate 3 refine ET.q (by kernel_rfl) (by kernel_rfl) ?_
 refine ET.asS s (by kernel_rfl) ?_
 refine ET.op (by kernel_rfl) (op_ld (b := 66) (off := 3) (v := .slice (some ⟨68,0,none⟩) (c :: l).length (c :: l).length) rfl underlying55 rfl (by kernel_rfl) hs rfl) ?_
 iterate 4 refine ET.q (by kernel_rfl) (by kernel_rfl) ?_
 refine ET.asS s (by kernel_rfl) ?_
 refine ET.op (by kernel_rfl) (op_ld (b := 66) (off := 3) (v := .slice (some ⟨68,0,none⟩) (c :: l).length (c :: l).length) rfl underlying55 rfl (by kernel_rfl) hs rfl) ?_
 refine ET.q (by kernel_rfl) (by kernel_rfl) ?_
 refine ET.asS s (by kernel_rfl) ?_
 refine ET.op (by kernel_rfl) (op_uns (d := 68) (l := c :: l) (e := 5) (fz := fz) rfl (by kernel_rfl) (by kernel_rfl) (by kernel_rfl) hb (by kernel_rfl) (by simp) (by omega)) ?_
 refine ET.q (by kernel_rfl) (by kernel_rfl) ?_
 have hld : zc6 prog 55 (aptr 66 3) s = some (.slice (some ⟨68,0,none⟩) (c :: l).length (c :: l).length) := by
  unfold zc6
  simp only [aptr,hs,underlying55]
  rfl
 refine ET.nil ⟨zf8 [(zc6 prog 55 (aptr 66 3) s, .slice (some ⟨68,0,none⟩) (c :: l).length (c :: l).length),(zc6 prog 55 (aptr 66 3) s, .slice (some ⟨68,0,none⟩) (c :: l).length (c :: l).length)] (by kernel_rfl) (lds2 ⟨hld,rfl⟩ ⟨hld,rfl⟩),_,_,_,_,_,_,rfl,rfl,?_⟩
 exact EW.ret ⟨.inr rfl,by kernel_rfl,by kernel_rfl⟩
theorem lits.pos (h : lits bs) : bs ≠ [] ∧ 0 < bs.length ∧ bs.length ≤ 5 := by
 rcases h with ⟨a,b,c,rfl⟩ | ⟨a,b,c,d,rfl⟩ | ⟨a,b,c,d,e,rfl⟩ <;> simp
theorem endText_f (hbs : lits bs) (k : Nat) : EF prog ktB (prN prog n 65 V all) 73 #[aptr 66 0] (h1b bs bs2 k) (.tuple #[]) (e1 bs bs2 k) := by
 have hp := hbs.pos
 have h158 : EF prog ktB (prN prog n 65 V all) 158 #[aptr 66 2] (h1b bs bs2 k) (num (bs.length : Nat)) (h1b bs bs2 k) := EF.eval 20 (by kernel_rfl)
 have h84 := string2_f (pr := prN prog n 65 V all) (s := h1b bs bs2 k) (x0 := aptr 65 0) (x1 := num (k : Nat)) (x2 := aptr 66 2) (x4 := nilV) (l := bs) (fz := (1,1)) (by kernel_rfl) (by kernel_rfl) (by kernel_rfl) hp.1 (by omega)
 refine EF.of (by kernel_rfl) func73 rfl ?_
 refine EW.seq (EW.region (by kernel_rfl) ?_)
 refine EO.go 3 5 (by kernel_rfl) ?_
 refine EO.asS (h1b bs bs2 k) (by kernel_rfl) ?_
 refine EO.callF #[aptr 66 2] (by kernel_rfl) rfl rfl (by kernel_rfl) (by kernel_rfl) h158 ?_
 refine EO.op (by kernel_rfl) (zc5 (u := num (bs.length : Nat)) (w := num 0) rfl (by kernel_rfl) (by kernel_rfl) (bin_gtr (b := true) (decide_eq_true (by omega)))) ?_
 refine EO.nil ?_
 refine EW.condT (by kernel_rfl) ?_
 refine EW.seq (EW.draw (by kernel_rfl) (by kernel_rfl) (by kernel_rfl) ?_)
 iterate 8 refine ET.q (by kernel_rfl) (by kernel_rfl) ?_
 refine ET.asS (h1b bs bs2 k) (by kernel_rfl) ?_
 refine ET.callF #[aptr 66 2] (by kernel_rfl) rfl rfl (by kernel_rfl) (by kernel_rfl) h84 ?_
 iterate 6 refine ET.q (by kernel_rfl) (by kernel_rfl) ?_
 refine ET.nil ⟨zf8 [(zc6 prog 56 (aptr 66 4) (h1b bs bs2 k),nilV),(zc6 prog 56 (aptr 66 4) ((h1b bs bs2 k).set 68 none),nilV)] (by kernel_rfl) (lds2 ⟨by kernel_rfl,rfl⟩ ⟨by kernel_rfl,rfl⟩),_,_,_,_,_,_,rfl,rfl,?_⟩
 refine EW.go 20 (by kernel_rfl) ?_
 exact ⟨.inl rfl,by kernel_rfl,by kernel_rfl⟩
theorem add_f (hbs : lits bs) (k : Nat) : EF prog ktB (prN prog n 65 V all) 249 #[aptr 66 0, .agg tokS.toArray] (h1 bs bs2 k) (.tuple #[]) (h2 bs bs2 k) := by
 have he := endText_f (n := n) (V := V) (all := all) (bs2 := bs2) hbs k
 refine EF.of (by kernel_rfl) func249 rfl ?_
 refine EW.seq (EW.go 5 (by kernel_rfl) ?_)
 refine EW.asS (h1b bs bs2 k) (by kernel_rfl) ?_
 refine EW.seq (EW.region (by kernel_rfl) ?_)
 refine EO.go 1 5 (by kernel_rfl) ?_
 refine EO.asS (h1b bs bs2 k) (by kernel_rfl) ?_
 refine EO.callF #[aptr 66 0] (by kernel_rfl) rfl rfl (by kernel_rfl) (by kernel_rfl) he ?_
 refine EO.nil ?_
 refine EW.asS (e1 bs bs2 k) (by kernel_rfl) ?_
 refine EW.draw (by kernel_rfl) (by kernel_rfl) (by kernel_rfl) ?_
 iterate 11 refine ET.q (by kernel_rfl) (by kernel_rfl) ?_
 refine ET.nil ⟨zf8 [(zc6 prog 56 (aptr 66 4) (e1 bs bs2 k), .slice (some ⟨83,0,none⟩) 1 1),(zc6 prog 60 (aptr 81 0) (e1 bs bs2 k), .agg tokS.toArray)] (by kernel_rfl) (lds2 ⟨by kernel_rfl,rfl⟩ ⟨by kernel_rfl,rfl⟩),_,_,_,_,_,_,rfl,rfl,?_⟩
 exact ⟨.inl rfl,by kernel_rfl,by kernel_rfl⟩
theorem takeStart_f (hbs : lits bs) {k m : Nat} {t2 : List UInt8} (L : TagL all k m t2) (hV : V #[str t2,num 1] = some (str bs2)) : EF prog ktB (prN prog n 65 V all) 148 #[aptr 66 0] (sc2b bs k) (.tuple #[]) (h3 bs bs2 (k + 6 + m + 1 + 1)) := by
 have hk := L.hk
 have htt := takeTag_f (n := n) (bs := bs) L hV
 generalize k + 6 + m + 1 + 1 = k7 at htt ⊢
 refine EF.of (by kernel_rfl) func148 rfl ?_
 refine EW.seq (EW.region (by kernel_rfl) ?_)
 refine EO.go 3 5 (by kernel_rfl) ?_
 refine EO.asS (sc2b bs (k)) (by kernel_rfl) ?_
 refine EO.op (by kernel_rfl) (op_ld (b := 66) (off := 1) (v := num ((k : Nat) : Int)) rfl underlying3 rfl (by kernel_rfl) ((fam2b (bs := bs)).get (k)) rfl) ?_
 refine EO.op (by kernel_rfl) (zf3 (i := ((k : Nat) : Int)) (j := 1) (r := ((k + 1 : Nat) : Int)) rfl (by kernel_rfl) (by kernel_rfl) (by omega) (by omega)) ?_
 refine EO.go 2 5 (by kernel_rfl) ?_
 refine EO.asS (sc2b bs (k)) (by kernel_rfl) ?_
 refine EO.op (by kernel_rfl) (op_st (b := 66) (off := 1) (w := num ((k + 1 : Nat) : Int)) rfl (by kernel_rfl) (by kernel_rfl) rfl rfl (by kernel_rfl) ((fam2b (bs := bs)).get (k)) (by simp)) ?_
 refine EO.nil ?_
 refine EW.asS (sc2b bs (k + 1)) ((fam2b (bs := bs)).set (k) (k + 1)) ?_
 refine EW.seq (EW.region (by kernel_rfl) ?_)
 refine EO.go 1 5 (by kernel_rfl) ?_
 refine EO.asS (sc2b bs (k + 1)) (by kernel_rfl) ?_
 refine EO.callF #[aptr 66 0] (by kernel_rfl) rfl rfl (by kernel_rfl) (by kernel_rfl) htt ?_
 refine EO.fin 5 (by kernel_rfl) ?_
 refine EW.asS (h1 bs bs2 k7) (by kernel_rfl) ?_
 refine EW.seq (EW.go 9 (by kernel_rfl) ?_)
 refine EW.seq (EW.region (by kernel_rfl) ?_)
 refine EO.go 8 5 (by kernel_rfl) ?_
 refine EO.asS (h1 bs bs2 k7) (by kernel_rfl) ?_
 refine EO.callF #[aptr 66 0, .agg tokS.toArray] (by kernel_rfl) rfl rfl (by kernel_rfl) (by kernel_rfl) (add_f hbs k7) ?_
 refine EO.nil ?_
 refine EW.asS (h2 bs bs2 k7) (by kernel_rfl) ?_
 refine EW.go 60 (by kernel_rfl) ?_
 exact ⟨.inl rfl,by kernel_rfl,by kernel_rfl⟩
end
end
section
open Go.Conc Go.RowKit Go.Lib
structure PageL (all : List Int) (k m : Nat) (t t2 : List UInt8) : Prop where
 pos : 0 < k
 words : ∀ j,j < k → lAt all j ≠ 60 ∧ lAt all j ≠ -1
 lt : lAt all k = 60
 tag : TagL all k m t2
 txt : ze8 ((all.drop 0).take k) = t
 fin : lAt all (k + 6 + m + 1 + 1) = -1
section
variable {n : Nat} {V : Array Value → Option Value} {all : List Int} {s : AS} {bs bs2 : List UInt8}
theorem of_f (hbs : lits bs) {k m : Nat} {t t2 : List UInt8} (L : PageL all k m t t2) (hV0 : V #[str t,num 0] = some (str bs)) (hV1 : V #[str t2,num 1] = some (str bs2))
  (hn1 : zc7 prog ktB (prAdd 157 V (prRow 65 all)) n 71 #[aptr 66 0] (sc1 k) = some (.func (.func 148) #[aptr 66 0] #[],sc1b k)) (hn2 : zc7 prog ktB (prAdd 157 V (prRow 65 all)) n 71 #[aptr 66 0] (sc2 bs k) = some (.func (.func 148) #[aptr 66 0] #[],sc2b bs k)) :
  EF prog ktB (prN prog n 65 V all) 40 #[aptr 65 0] rd0 (.slice (some ⟨85,0,none⟩) 2 2) (h3 bs bs2 (k + 6 + m + 1 + 1)) := by
 have hk := L.tag.hk
 have hw0 := L.words 0 L.pos
 have ha1 := zh7 (n := n) (V := V) (all := all) fam1 (k := 0) (by omega)
 have hb1 := begunW (n := n) (V := V) (all := all) fam1 (k := 0) (by omega) hw0.1
 have htw := takeWords_f (n := n) hbs (t := t) (k := 0) (m := k) (by omega) (fun j hj => by rw [Nat.zero_add]; exact L.words j hj) (by rw [Nat.zero_add]; exact L.lt) L.txt hV0 (by rw [Nat.zero_add]; exact hn1)
 rw [Nat.zero_add] at htw
 have ha2 := zh7 (n := n) (V := V) (all := all) (fam2 (bs := bs)) (k := k) (by omega)
 rw [L.lt] at ha2
 have hb2 := begunT (fam2 (bs := bs)) L.lt hn2
 have hts := takeStart_f (n := n) hbs L.tag hV1
 have ha3 := zh7 (n := n) (V := V) (all := all) (famh3 (bs := bs) (bs2 := bs2)) (k := k + 6 + m + 1 + 1) (by omega)
 rw [L.fin] at ha3
 generalize k + 6 + m + 1 + 1 = k7 at hts ha3 ⊢
 generalize lAt all 0 = l0 at ha1 hw0
 have he : EF prog ktB (prN prog n 65 V all) 73 #[aptr 66 0] (h3 bs bs2 k7) (.tuple #[]) (h3 bs bs2 k7) := EF.eval 40 (by kernel_rfl)
 refine EF.of (by kernel_rfl) func40 rfl ?_
 iterate 2
  refine EW.seq (EW.go 5 (by kernel_rfl) ?_)
 refine EW.asS (sc1 0) (by kernel_rfl) ?_
 refine EW.seq (EW.block ?_)
 refine EW.loop ?_
 refine EW.seq (EW.seq (EW.region (by kernel_rfl) ?_))
 refine EO.callF #[aptr 66 0,num 0] (by kernel_rfl) rfl rfl (by kernel_rfl) (by kernel_rfl) ha1 ?_
 refine EO.op (by kernel_rfl) (zc5 (u := .int .i32 l0) (w := .int .i32 (-1)) rfl (by kernel_rfl) (by kernel_rfl) (bin_neqK (b := true) (by simp [hw0.2]))) ?_
 refine EO.nil ?_
 refine EW.condT (by kernel_rfl) (EW.skip ?_)
 refine EW.block ?_
 refine EW.asS (sc1 0) (by kernel_rfl) ?_
 refine EW.seq (EW.region (by kernel_rfl) ?_)
 refine EO.callF #[aptr 66 0] (by kernel_rfl) rfl rfl (by kernel_rfl) (by kernel_rfl) hb1 ?_
 refine EO.fin 5 (by kernel_rfl) ?_
 refine EW.seq (EW.go 5 (by kernel_rfl) ?_)
 refine EW.condF (by kernel_rfl) ?_
 refine EW.asS (sc1 0) (by kernel_rfl) ?_
 refine EW.region (by kernel_rfl) ?_
 refine EO.callF #[aptr 66 0] (by kernel_rfl) rfl rfl (by kernel_rfl) (by kernel_rfl) htw ?_
 refine EO.nil ?_
 refine EW.asS (sc2 bs k) (by kernel_rfl) ?_
 refine EW.loop ?_
 refine EW.seq (EW.seq (EW.region (by kernel_rfl) ?_))
 refine EO.callF #[aptr 66 0,num 0] (by kernel_rfl) rfl rfl (by kernel_rfl) (by kernel_rfl) ha2 ?_
 refine EO.fin 5 (by kernel_rfl) ?_
 refine EW.condT (by kernel_rfl) (EW.skip ?_)
 refine EW.block ?_
 refine EW.asS (sc2 bs k) (by kernel_rfl) ?_
 refine EW.seq (EW.region (by kernel_rfl) ?_)
 refine EO.callF #[aptr 66 0] (by kernel_rfl) rfl rfl (by kernel_rfl) (by kernel_rfl) hb2 ?_
 refine EO.fin 5 (by kernel_rfl) ?_
 refine EW.asS (sc2b bs k) (by kernel_rfl) ?_
 refine EW.seq (EW.go 5 (by kernel_rfl) ?_)
 refine EW.condT (by kernel_rfl) ?_
 refine EW.asS (sc2b bs k) (by kernel_rfl) ?_
 refine EW.region (by kernel_rfl) ?_
 refine EO.go 1 5 (by kernel_rfl) ?_
 refine EO.asS (sc2b bs k) (by kernel_rfl) ?_
 refine EO.call (f := .tmp 12) (g := 148) (first := #[aptr 66 0]) (cap := #[]) (args := #[aptr 66 0]) (by kernel_rfl) rfl rfl (by kernel_rfl) (by kernel_rfl) (by kernel_rfl) hts ?_
 refine EO.nil ?_
 refine EW.asS (h3 bs bs2 k7) (by kernel_rfl) ?_
 refine EW.loop ?_
 refine EW.seq (EW.seq (EW.region (by kernel_rfl) ?_))
 refine EO.callF #[aptr 66 0,num 0] (by kernel_rfl) rfl rfl (by kernel_rfl) (by kernel_rfl) ha3 ?_
 refine EO.fin 5 (by kernel_rfl) ?_
 refine EW.asS (h3 bs bs2 k7) (by kernel_rfl) ?_
 refine EW.condF (by kernel_rfl) (EW.exit ?_)
 refine EW.seq (EW.region (by kernel_rfl) ?_)
 refine EO.asS (h3 bs bs2 k7) (by kernel_rfl) ?_
 refine EO.callF #[aptr 66 0] (by kernel_rfl) rfl rfl (by kernel_rfl) (by kernel_rfl) he ?_
 refine EO.nil ?_
 refine EW.asS (h3 bs bs2 k7) (by kernel_rfl) ?_
 refine EW.seq (EW.go 5 (by kernel_rfl) ?_)
 exact EW.ret ⟨.inr rfl,by kernel_rfl,by kernel_rfl⟩
end
end
section
open Go.Conc Go.RowKit Go.Lib
def Asc (l : List UInt8) : Prop := ∀ b ∈ l,b.toNat < 128
def lets (l : List UInt8) : List Int := l.map fun b => ((b.toNat : Nat) : Int)
theorem enc1 {b : UInt8} (h : b.toNat < 128) : Lib.encodeRune ((b.toNat : Nat) : Int) = [b] := by
 unfold Lib.encodeRune
 rw [Lib.encodeRuneZ_one (by omega) (by omega)]
 simp
theorem utf8_asc : ∀ {l : List UInt8},Asc l → ze8 (lets l) = l
 | [],_ => rfl
 | b :: l,h => by
  show Lib.encodeRune ((b.toNat : Nat) : Int) ++ ze8 (lets l) = b :: l
  rw [enc1 (h b (by simp)),utf8_asc fun x hx => h x (by simp [hx])]
  rfl
theorem round_asc {l : List UInt8} (h : Asc l) : ∀ (m k : Nat),k + m = l.length → RoundL ⟨l.toArray⟩ k (lets (l.drop k))
 | 0,k,hk => by
  rw [List.drop_of_length_le (by omega)]
  show ¬ k < ByteArray.size ⟨l.toArray⟩
  simp [ByteArray.size]
  omega
 | m + 1,k,hk => by
  have hlt : k < l.length := by omega
  have h1 : k < ByteArray.size ⟨l.toArray⟩ := by simpa [ByteArray.size] using hlt
  have h2 : (ByteArray.mk l.toArray)[k]'h1 = l[k] := by show l.toArray[k] = l[k]; simp
  have hd : Utf8.decode ⟨l.toArray⟩ k = (l[k].toNat,1) := by rw [decode_low h1 (by rw [h2]; exact h _ (List.getElem_mem hlt)),h2]
  rw [List.drop_eq_getElem_cons hlt]
  refine ⟨h1,by rw [hd],?_⟩
  rw [hd]
  exact round_asc h m (k + 1) (by omega)
theorem lAt_lets {l : List UInt8} {k : Nat} {b : UInt8} (h : l[k]? = some b) : lAt (lets l) k = ((b.toNat : Nat) : Int) := by
 unfold lAt lets
 rw [List.getElem?_map,h]
 rfl
theorem zk5 {l : List UInt8} (ha : Asc l) {k : Nat} {b : UInt8} (h : l[k]? = some b) : isB (lets l) k b := ⟨lAt_lets h,ha b (List.mem_of_getElem? h)⟩
def pageT (w1 w2 : List UInt8) : List UInt8 := w1 ++ ([60,97,32,98,61,39] ++ (w2 ++ [39,62]))
theorem pageT_len (w1 w2 : List UInt8) : (pageT w1 w2).length = w1.length + w2.length + 8 := by simp [pageT]; omega
theorem page_of {w1 w2 : List UInt8} (ha1 : Asc w1) (ha2 : Asc w2) (h60 : ∀ b ∈ w1,b ≠ 60) (h39 : ∀ b ∈ w2,b ≠ 39) (hp : 0 < w1.length) (hl : w1.length + w2.length ≤ 90000) : PageL (lets (pageT w1 w2)) w1.length w2.length w1 w2 := by
 have ha : Asc (pageT w1 w2) := by
  intro b hb
  simp only [pageT,List.mem_append,List.mem_cons,List.not_mem_nil,or_false] at hb
  rcases hb with hb | (rfl | rfl | rfl | rfl | rfl | rfl) | hb | rfl | rfl <;> first | exact ha1 b hb | exact ha2 b hb | decide
 have at1 : ∀ j,j < w1.length → (pageT w1 w2)[j]? = w1[j]? := fun j hj => by unfold pageT; rw [List.getElem?_append_left hj]
 have at2 : ∀ j,j < 6 → (pageT w1 w2)[w1.length + j]? = ([60,97,32,98,61,39] : List UInt8)[j]? := fun j hj => by
  unfold pageT
  rw [List.getElem?_append_right (by omega),List.getElem?_append_left (by simp; omega)]
  congr 1
  omega
 have at3 : ∀ j,j < w2.length → (pageT w1 w2)[w1.length + 6 + j]? = w2[j]? := fun j hj => by
  unfold pageT
  rw [List.getElem?_append_right (by omega),List.getElem?_append_right (by simp; omega),List.getElem?_append_left (by simp; omega)]
  congr 1
  simp
  omega
 have at4 : ∀ j,(pageT w1 w2)[w1.length + 6 + w2.length + j]? = ([39,62] : List UInt8)[j]? := fun j => by
  unfold pageT
  rw [List.getElem?_append_right (by omega),List.getElem?_append_right (by simp; omega),List.getElem?_append_right (by simp; omega)]
  congr 1
  simp
  omega
 have hdrop : ∀ i,(lets (pageT w1 w2)).drop i = lets ((pageT w1 w2).drop i) := fun i => by unfold lets; rw [List.map_drop]
 have htake : ∀ i l,(lets l).take i = lets (l.take i) := fun i l => by unfold lets; rw [List.map_take]
 refine ⟨hp,fun j hj => ?_,?_,⟨zk5 ha (at2 1 (by omega)),zk5 ha (at2 2 (by omega)),zk5 ha (at2 3 (by omega)),zk5 ha (at2 4 (by omega)),zk5 ha (at2 5 (by omega)),fun j hj => ?_,zk5 ha (at4 0),zk5 ha (at4 1),?_,?_,?_,by omega⟩,?_,?_⟩
 ·
  have e : (pageT w1 w2)[j]? = some w1[j] := (at1 j hj).trans (List.getElem?_eq_getElem hj)
  rw [lAt_lets e]
  refine ⟨fun h => h60 _ (List.getElem_mem hj) ?_,by omega⟩
  have h6 : (60 : UInt8).toNat = 60 := rfl
  exact UInt8.toNat_inj.1 (by omega)
 ·
  have := lAt_lets (at2 0 (by omega))
  simpa using this
 ·
  exact ⟨w2[j],zk5 ha ((at3 j hj).trans (List.getElem?_eq_getElem hj)),by simpa using h39 _ (List.getElem_mem hj)⟩
 ·
  rw [hdrop,htake]
  have : ((pageT w1 w2).drop (w1.length + 6)).take w2.length = w2 := by
   unfold pageT
   rw [← List.append_assoc,List.drop_left' (by simp),List.take_left]
  rw [this,utf8_asc ha2]
 ·
  rw [hdrop,htake]
  have : ((pageT w1 w2).drop (w1.length + 1)).take 1 = [97] := by
   unfold pageT
   rw [← List.drop_drop,List.drop_left]
   rfl
  rw [this,utf8_asc (by intro b hb; simp at hb; subst hb; decide)]
 ·
  rw [hdrop,htake]
  have : ((pageT w1 w2).drop (w1.length + 3)).take 1 = [98] := by
   unfold pageT
   rw [← List.drop_drop,List.drop_left]
   rfl
  rw [this,utf8_asc (by intro b hb; simp at hb; subst hb; decide)]
 ·
  rw [hdrop,htake]
  have : ((pageT w1 w2).drop 0).take w1.length = w1 := by
   unfold pageT
   rw [List.drop_zero,List.take_left]
  rw [this,utf8_asc ha1]
 ·
  unfold lAt lets
  rw [List.getElem?_map,show w1.length + 6 + w2.length + 1 + 1 = w1.length + 6 + w2.length + 2 by omega,at4 2]
  rfl
def AS.only (s : AS) : List Nat → AS
 | [] => ⟨[],s.nx⟩
 | b :: l => match s.get b with
  | some o => if okTy o = true then (s.only l).set b (some o) else s.only l
  | none => s.only l
theorem only_ok (l : List Nat) : SelOk fun s => s.only l := by
 intro s
 induction l with
 | nil => exact ⟨rfl,fun b o h => by simp only [AS.only] at h; unfold AS.get at h; simp at h⟩
 | cons b l ih =>
  simp only [AS.only]
  split
  ·
   next o ho =>
   split
   ·
    next hok =>
    refine ⟨ih.1,fun b' o' h => ?_⟩
    rw [AS.get_set] at h
    split at h
    ·
     next e => cases h; rw [e]; exact ⟨ho,hok⟩
    ·
     exact ih.2 b' o' h
   ·
    exact ih
  ·
   exact ih
def vN (w1 w2 bs : List UInt8) (args : Array Value) : Option Value := match args.toList with
 | [.string x, .int .i64 w] => if x = ⟨w1.toArray⟩ ∧ w = 0 then some (str bs) else if x = ⟨w2.toArray⟩ ∧ w = 1 then some (str bs) else none
 | _ => none
def tk1 (bs : List UInt8) : AS := (((((⟨[],88⟩ : AS).set 85 (some (.cells (tokT bs ++ tokS).toArray 60 (1,1)))).set 79 (some (.cells #[str [98],str bs] 47 (1,1))))).set 64 (some (.cells #[.slice (some ⟨85,0,none⟩) 2 2] 56))).set 1 (some (.cells entC.toArray 335))
structure NumP (cap semi : Bool) (ds hs : List Nat) (nn : Nat) : Prop where
 hd : ∀ d ∈ ds,d < 10
 hh : ∀ d ∈ hs,d < 16
 nd : ds ≠ []
 nh : hs ≠ []
 ld : ds.length ≤ 8
 lh : hs.length ≤ 8
 vd : valD 10 ds = nn
 vh : valD 16 hs = nn
 lo : 160 ≤ nn
abbrev w1T (cap semi : Bool) (ds : List Nat) : List UInt8 := 38 :: 35 :: numT false cap semi ds
abbrev w2T (cap semi : Bool) (hs : List Nat) : List UInt8 := 38 :: 35 :: numT true cap semi hs
def outT (nn : Nat) : List UInt8 := encL (letN (min nn 1114112)) ++ [124]
theorem outT_lits (nn : Nat) : lits (outT nn) := by
 unfold outT encL lits
 split
 ·
  exact .inl ⟨_,_,_,rfl⟩
 ·
  split
  ·
   exact .inr (.inl ⟨_,_,_,_,rfl⟩)
  ·
   exact .inr (.inr ⟨_,_,_,_,_,rfl⟩)
theorem digC_ok : ∀ cap : Bool, ∀ d,d < 16 → (digC cap d).toNat < 128 ∧ digC cap d ≠ 60 ∧ digC cap d ≠ 39 := by decide
theorem numT_ok {hex cap semi : Bool} {ds : List Nat} (h : ∀ d ∈ ds,d < 16) : ∀ b ∈ (38 :: 35 :: numT hex cap semi ds),b.toNat < 128 ∧ b ≠ 60 ∧ b ≠ 39 := by
 intro b hb
 simp only [numT,List.mem_cons,List.mem_append,List.mem_map] at hb
 rcases hb with rfl | rfl | hb | ⟨d,hd,rfl⟩ | hb
 ·
  decide
 ·
  decide
 ·
  cases hex <;> cases cap <;> simp [ze4] at hb <;> subst hb <;> decide
 ·
  exact digC_ok cap d (h d hd)
 ·
  cases semi <;> simp [endT] at hb
  ·
   subst hb; decide
  ·
   rcases hb with rfl | rfl <;> decide
theorem w1_len {cap semi : Bool} {ds : List Nat} (h : ds.length ≤ 8) : (w1T cap semi ds).length ≤ 12 ∧ 0 < (w1T cap semi ds).length ∧ ds.length + 3 ≤ (w1T cap semi ds).length := by
 cases semi <;> simp [numT,ze4,endT] <;> omega
theorem w2_len {cap semi : Bool} {ds : List Nat} (h : ds.length ≤ 8) : (w2T cap semi ds).length ≤ 13 ∧ ds.length + 4 ≤ (w2T cap semi ds).length := by
 cases semi <;> simp [numT,ze4,endT] <;> omega
section
variable {cap semi : Bool} {ds hs : List Nat} {nn : Nat}
abbrev pgT (cap semi : Bool) (ds hs : List Nat) : List UInt8 := pageT (w1T cap semi ds) (w2T cap semi hs)
abbrev vT (cap semi : Bool) (ds hs : List Nat) (nn : Nat) : Array Value → Option Value := vN (w1T cap semi ds) (w2T cap semi hs) (outT nn)
theorem vT_ok (h : NumP cap semi ds hs nn) : ∀ args v,vT cap semi ds hs nn args = some v → args.toList.all (flatV 1) = true ∧ flatV 1 v = true ∧ ∃ s1,EF prog ktB (prRow 65 (lets (pgT cap semi ds hs))) 157 args ⟨[],65 + 1⟩ v s1 := by
 intro args v hv
 unfold vT vN at hv
 split at hv
 ·
  next x w ha =>
  have ha' : args = #[.string x, .int .i64 w] := by apply Array.toList_inj.1; simp [ha]
  subst ha'
  split at hv
  ·
   next hc =>
   obtain ⟨rfl,rfl⟩ := hc
   cases hv
   have := withRef_e (rn := 65) (all := lets (pgT cap semi ds hs)) (s := ⟨[],65 + 1⟩) (hex := false) (cap := cap) (semi := semi) (ds := ds) h.hd h.nd h.ld (by show 160 ≤ valD 10 ds; rw [h.vd]; exact h.lo) 0
   obtain ⟨s',h1,_⟩ := this
   rw [show baseT false = 10 from rfl,h.vd] at h1
   exact ⟨rfl,rfl,s',h1⟩
  ·
   split at hv
   ·
    next hc =>
    obtain ⟨rfl,rfl⟩ := hc
    cases hv
    have := withRef_e (rn := 65) (all := lets (pgT cap semi ds hs)) (s := ⟨[],65 + 1⟩) (hex := true) (cap := cap) (semi := semi) (ds := hs) h.hh h.nh h.lh (by show 160 ≤ valD 16 hs; rw [h.vh]; exact h.lo) 1
    obtain ⟨s',h1,_⟩ := this
    rw [show baseT true = 16 from rfl,h.vh] at h1
    exact ⟨rfl,rfl,s',h1⟩
   ·
    cases hv
 ·
  cases hv
theorem tokens_e (h : NumP cap semi ds hs nn) : ∃ n n1, ∀ pr : Prim,pr 30 = none → EF prog ktB (prTx prog n 65 ⟨(pgT cap semi ds hs).toArray⟩ (fun s => s.only [1,64,79,85]) (prN prog n1 65 (vT cap semi ds hs nn) (lets (pgT cap semi ds hs))) pr) 30 #[str (pgT cap semi ds hs)] ⟨sA.hp,64⟩ (.tuple #[.slice (some ⟨85,0,none⟩) 2 2,num 0]) (tk1 (outT nn)) := by
 have l1 := w1_len (cap := cap) (semi := semi) h.ld
 have l2 := w2_len (cap := cap) (semi := semi) h.lh
 have n1 := numT_ok (hex := false) (cap := cap) (semi := semi) (ds := ds) (fun d hd => by have := h.hd d hd; omega)
 have n2 := numT_ok (hex := true) (cap := cap) (semi := semi) (ds := hs) h.hh
 have L := page_of (w1 := w1T cap semi ds) (w2 := w2T cap semi hs) (fun b hb => (n1 b hb).1) (fun b hb => (n2 b hb).1) (fun b hb => (n1 b hb).2.1) (fun b hb => (n2 b hb).2.2) l1.2.1 (by omega)
 have hne : w1T cap semi ds ≠ w2T cap semi hs ∨ True := .inr trivial
 have hV0 : vT cap semi ds hs nn #[str (w1T cap semi ds),num 0] = some (str (outT nn)) := by
  unfold vT vN
  simp
 have hV1 : vT cap semi ds hs nn #[str (w2T cap semi hs),num 1] = some (str (outT nn)) := by
  unfold vT vN
  simp
 have hlen : (pgT cap semi ds hs).length = (w1T cap semi ds).length + (w2T cap semi hs).length + 8 := pageT_len _ _
 have htagl := L.tag.nm.1
 generalize hw1 : (w1T cap semi ds).length = k at L htagl
 generalize hw2 : (w2T cap semi hs).length = m at L
 generalize hal : lets (pgT cap semi ds hs) = all at L htagl
 generalize hvv : vT cap semi ds hs nn = V at hV0 hV1
 have hb := outT_lits nn
 obtain ⟨m1,hm1⟩ := beg1_e (V := V) fam1 (by have := L.tag.hk; omega) L.lt htagl
 obtain ⟨m2,hm2⟩ := beg1_e (V := V) (fam2 (bs := outT nn)) (by have := L.tag.hk; omega) L.lt htagl
 have hof := of_f (n := max m1 m2) hb L hV0 hV1 (zj0 (Nat.le_max_left _ _) _ _ _ _ hm1) (zj0 (Nat.le_max_right _ _) _ _ _ _ hm2)
 generalize k + 6 + m + 1 + 1 = k7 at hof
 generalize outT nn = bs at *
 have hw : EW prog ktB (prN prog (max m1 m2) 65 V all) (match Tryz.f48.body with | some c => c | none => .skip) ((aptr 65 0 :: (#[aptr 64 0] : Array Value).toList) ++ List.replicate (Tryz.f48.ntmps - ((#[aptr 64 0] : Array Value).size + 1)) undef) ⟨((⟨sA.hp,64⟩ : AS).add (.cells #[.slice none 0 0] 56)).hp,65 + 1⟩ fun e _ s' => (e = .normal ∨ e = .ret) ∧ AS.keeps ((⟨sA.hp,64⟩ : AS).add (.cells #[.slice none 0 0] 56)) s' = true ∧ s'.only [1,64,79,85] = tk1 bs := by
  refine EW.region (by kernel_rfl) ?_
  refine EO.go 1 5 (by kernel_rfl) ?_
  refine EO.asS rd0 (by kernel_rfl) ?_
  refine EO.callF #[aptr 65 0] (by kernel_rfl) rfl rfl (by kernel_rfl) (by kernel_rfl) hof ?_
  refine EO.fin 5 (by kernel_rfl) ?_
  exact ⟨.inl rfl,by kernel_rfl,by kernel_rfl⟩
 obtain ⟨n,hn⟩ := prTx_e (str := ⟨(pgT cap semi ds hs).toArray⟩) (r0 := 65) (sel := fun s => s.only [1,64,79,85]) (prx := prN prog (max m1 m2) 65 V all) (s := (⟨sA.hp,64⟩ : AS).add (.cells #[.slice none 0 0] 56)) (s1 := tk1 bs) (f := 48) (y := #[aptr 64 0]) func48 rfl rfl rfl (by kernel_rfl) (by kernel_rfl) hw
 refine ⟨n,max m1 m2,fun pr h30 => ?_⟩
 have h47 := hn pr
 generalize hP : prTx prog n 65 ⟨(pgT cap semi ds hs).toArray⟩ (fun s => s.only [1,64,79,85]) (prN prog (max m1 m2) 65 V all) pr = pP at h47
 have h30' : pP 30 = none := by rw [← hP]; unfold prTx; exact h30
 generalize hT : pgT cap semi ds hs = T at *
 refine EF.of h30' func30 rfl ?_
 refine EW.seq (EW.go 5 (by kernel_rfl) ?_)
 refine EW.seq (EW.seq (EW.region (by kernel_rfl) ?_))
 refine EO.go 1 5 (by kernel_rfl) ?_
 refine EO.op (by kernel_rfl) (op_lenS (l := T) rfl underlying9 (by kernel_rfl)) ?_
 refine EO.op (by kernel_rfl) (zc5 (u := num (T.length : Nat)) (w := num 20000) rfl (by kernel_rfl) (by kernel_rfl) (bin_gtr (b := false) (decide_eq_false (by omega)))) ?_
 refine EO.nil ?_
 refine EW.condF (by kernel_rfl) (EW.skip ?_)
 refine EW.seq (EW.go 5 (by kernel_rfl) ?_)
 refine EW.asS ((⟨sA.hp,64⟩ : AS).add (.cells #[.slice none 0 0] 56)) (by kernel_rfl) ?_
 refine EW.seq (EW.region (by kernel_rfl) ?_)
 refine EO.go 2 5 (by kernel_rfl) ?_
 refine EO.asS ((⟨sA.hp,64⟩ : AS).add (.cells #[.slice none 0 0] 56)) (by kernel_rfl) ?_
 refine EO.callF #[str T, .func (.func 48) #[] #[aptr 64 0]] (by kernel_rfl) rfl rfl (by kernel_rfl) (by kernel_rfl) h47 ?_
 refine EO.nil ?_
 refine EW.asS (tk1 bs) (by kernel_rfl) ?_
 refine EW.seq (EW.go 5 (by kernel_rfl) ?_)
 exact EW.ret ⟨.inr rfl,by kernel_rfl,by kernel_rfl⟩
end
end
section
open Go.Conc Go.RowKit Go.Lib
section
variable {ι : Type} {P : Program} {KT : TypeId → Prop} {An : Who} {N0 : ι → Nat} {M : ι → World → Nat → Prop} {O : ι → Nat → Prop} {R : ι → World → World → Prop} {D : ι → World → World → Array Event → Prop} {X : ι → Goroutine → World → Prop} {Hd : ι → List (Nat × Obj) → World → Prop} {kt : TypeId → Bool} {pr : Prim}
def WI (P : Program) (KT : TypeId → Prop) (An : Who) (X : ι → Goroutine → World → Prop) (Hd : ι → List (Nat × Obj) → World → Prop) (c : Code) (aA : TL) (s : AS) (Q : Exit → TL → AS → Prop) : Prop :=
 ∀ (fn : FuncId) (S : Who) (l fr : List (Nat × Obj)) (i : ι) (w : World) (a : Act) (Q' : PostI ι),Sim P KT An S s l → Hd i (l ++ fr) w → AR (VR S) aA.toArray a.tmps → a.defers = [] → (∀ b,s.nx ≤ b → S b = none) →
  (∀ e aA' s' i' S' l' w' a',Q e aA' s' → Sim P KT An S' s' l' → Hd i' (l' ++ fr) w' → AR (VR S') aA'.toArray a'.tmps → a'.defers = [] → (∀ b,s'.nx ≤ b → S' b = none) → Q' i' e a' w') → wpI X fn c i Q' a w
def WO (P : Program) (KT : TypeId → Prop) (An : Who) (X : ι → Goroutine → World → Prop) (Hd : ι → List (Nat × Obj) → World → Prop) (ops : Array Oper) (k : Nat) (aA : TL) (s : AS) (Q : TL → AS → Prop) : Prop :=
 ∀ (fn : FuncId) (S : Who) (l fr : List (Nat × Obj)) (i : ι) (w : World) (a : Act) (Q' : PostI ι),Sim P KT An S s l → Hd i (l ++ fr) w → AR (VR S) aA.toArray a.tmps → a.defers = [] → (∀ b,s.nx ≤ b → S b = none) →
  (∀ aA' s' i' S' l' w' a',Q aA' s' → Sim P KT An S' s' l' → Hd i' (l' ++ fr) w' → AR (VR S') aA'.toArray a'.tmps → a'.defers = [] → (∀ b,s'.nx ≤ b → S' b = none) → Q' i' .normal a' w') → OpsI X fn ops (List.range' k (ops.size - k)) i Q' a w
variable {aA : TL} {s s1 : AS} {Q : Exit → TL → AS → Prop} {K : TL → AS → Prop} {c x y : Code} {ops : Array Oper} {o : Oper} {v : Value}
theorem WI.of (Y : Cy P KT N0 M O R D X Hd) (hm : P.follows .mixedOrders = true) (hkt : ∀ t, kt t = false → ¬ KT t) (hp : PrimOk P KT An R D X Hd pr) (hnm : ∀ (f : FuncId) (f₀ : Func), P.funcs[f]? = some f₀ → (f₀.name == "runtime.NumGoroutine") = false) (h : EW P kt pr c aA s Q) : WI P KT An X Hd c aA s Q := by
 obtain ⟨n,e,aA',s',h1,h2⟩ := h
 intro fn S l fr i w a Q' hS hF hA hd hfr k
 have hnx := (ev_nx (P := P) (kt := kt) hp.nx n).1 _ _ _ _ _ _ h1
 refine ((ev_sound Y hm hkt hp hnm n).1 c fn aA aA' s s' e S l fr i w a Q' h1 hS hF hA hd (fun b hb _ => hfr b hb) ?_).1
 intro i' S' l' w' a' q1 q2 q3 q4 q5 q6
 exact k e aA' s' i' S' l' w' a' h2 q3 q4 q5 q6 fun b hb => by rw [q2 b (.inr hb)]; exact hfr b (by omega)
theorem WI.mono {Q2 : Exit → TL → AS → Prop} (h : WI P KT An X Hd c aA s Q) (hq : ∀ e a s,Q e a s → Q2 e a s) : WI P KT An X Hd c aA s Q2 :=
 fun fn S l fr i w a Q' hS hF hA hd hfr k => h fn S l fr i w a Q' hS hF hA hd hfr fun e aA' s' i' S' l' w' a' q => k e aA' s' i' S' l' w' a' (hq _ _ _ q)
def thenW (P : Program) (KT : TypeId → Prop) (An : Who) (X : ι → Goroutine → World → Prop) (Hd : ι → List (Nat × Obj) → World → Prop) (y : Code) (Q : Exit → TL → AS → Prop) : Exit → TL → AS → Prop := fun e a s => match e with
 | .normal => WI P KT An X Hd y a s Q
 | e => Q e a s
theorem WI.seq (Y : Cy P KT N0 M O R D X Hd) (h : WI P KT An X Hd x aA s (thenW P KT An X Hd y Q)) : WI P KT An X Hd (.seq x y) aA s Q := by
 intro fn S l fr i w a Q' hS hF hA hd hfr k
 refine za5 Y.C Y.T (h fn S l fr i w a _ hS hF hA hd hfr ?_)
 intro e aA' s' i' S' l' w' a' q q3 q4 q5 q6 q7
 cases e with
 | normal => exact q fn S' l' fr i' w' a' Q' q3 q4 q5 q6 q7 k
 | _ => exact k _ aA' s' i' S' l' w' a' q q3 q4 q5 q6 q7
theorem WI.block (Y : Cy P KT N0 M O R D X Hd) {id : Nat} (h : WI P KT An X Hd x aA s (blockQ id Q)) : WI P KT An X Hd (.block id x) aA s Q := by
 intro fn S l fr i w a Q' hS hF hA hd hfr k
 refine zd6 Y.C Y.T (h fn S l fr i w a _ hS hF hA hd hfr ?_)
 intro e aA' s' i' S' l' w' a' q q3 q4 q5 q6 q7
 simp only [zg5]
 unfold blockQ at q
 cases e with
 | exit m =>
  simp only at q ⊢
  by_cases hm : m = id
  ·
   rw [if_pos hm] at q ⊢
   exact k _ aA' s' i' S' l' w' a' q q3 q4 q5 q6 q7
  ·
   rw [if_neg hm] at q ⊢
   exact k _ aA' s' i' S' l' w' a' q q3 q4 q5 q6 q7
 | _ => exact k _ aA' s' i' S' l' w' a' q q3 q4 q5 q6 q7
theorem WI.loopI (Y : Cy P KT N0 M O R D X Hd) (I : Nat → TL → AS → Prop) (h : ∀ m a s,I m a s → WI P KT An X Hd c a s (fun e a' s' => match e with | .normal => ∃ m',m' < m ∧ I m' a' s' | e => Q e a' s')) : ∀ m a s,I m a s → WI P KT An X Hd (.loop c) a s Q := by
 intro m aA s hI fn S l fr i w a Q' hS hF hA hd hfr k
 refine wpI_of_loopI Y.C Y.T ?_
 revert aA s S l i w a
 induction m using Nat.strongRecOn with
 | _ m ih =>
  intro aA s hI S l i w a hS hF hA hd hfr
  refine loopI_round Y.C Y.T (h m aA s hI fn S l fr i w a _ hS hF hA hd hfr ?_)
  intro e aA' s' i' S' l' w' a' q q3 q4 q5 q6 q7
  cases e with
  | normal =>
   obtain ⟨m',hm,hI'⟩ := q
   exact ih m' hm aA' s' hI' S' l' i' w' a' q3 q4 q5 q6 q7
  | _ => exact k _ aA' s' i' S' l' w' a' q q3 q4 q5 q6 q7
theorem WI.region (Y : Cy P KT N0 M O R D X Hd) {id : Nat} (h : WO P KT An X Hd ops 0 aA s (fun a' s' => Q .normal a' s')) : WI P KT An X Hd (.region id ops false) aA s Q := by
 intro fn S l fr i w a Q' hS hF hA hd hfr k
 refine za2 Y.C Y.T ?_
 rw [List.range_eq_range']
 exact h fn S l fr i w a Q' hS hF hA hd hfr fun aA' s' i' S' l' w' a' q => k .normal aA' s' i' S' l' w' a' q
theorem WO.of (Y : Cy P KT N0 M O R D X Hd) (hm : P.follows .mixedOrders = true) (hkt : ∀ t, kt t = false → ¬ KT t) (hp : PrimOk P KT An R D X Hd pr) (hnm : ∀ (f : FuncId) (f₀ : Func), P.funcs[f]? = some f₀ → (f₀.name == "runtime.NumGoroutine") = false) (hok : okOps ops = true) {k : Nat} (hk : k ≤ ops.size) (h : EO P kt pr ops (ops.toList.drop k) aA s K) : WO P KT An X Hd ops k aA s K := by
 obtain ⟨n,aA',s',h1,h2⟩ := h
 intro fn S l fr i w a Q' hS hF hA hd hfr kk
 have hc : ∀ f args s v s',zc7 P kt pr n f args s = some (v,s') → s.nx ≤ s'.nx := fun f args s v s' => (ev_nx (P := P) (kt := kt) hp.nx n).2 f args s v s'
 have hnx := evOps_nx (P := P) (kt := kt) hc _ h1
 refine evOps_sound Y hkt (fun f args s v s' hh => (ev_sound Y hm hkt hp hnm n).2 f args s v s' hh) hc hok (ops.size - k) k rfl hk h1 hS hF hA hd (fun b hb _ => hfr b hb) ?_
 intro i' S' l' w' a' q1 q2 q3 q4 q5 q6
 exact kk aA' s' i' S' l' w' a' h2 q3 q4 q5 q6 fun b hb => by rw [q2 b (.inr hb)]; exact hfr b (by omega)
theorem opd_rel {S : Who} {a : Act} (hA : AR (VR S) aA.toArray a.tmps) (hok : okOps ops = true) {k : Nat} (ho : ops[k]? = some o) : OpdR S aA a o := fun x hx => at_rel hA (by
 unfold okOps at hok
 rw [List.all_eq_true] at hok
 have := hok o (by rw [Array.mem_toList_iff]; exact Array.mem_of_getElem? ho)
 rw [List.all_eq_true] at this
 exact this x (by simpa using hx))
theorem range_cons {k n : Nat} (h : k < n) : List.range' k (n - k) = k :: List.range' (k + 1) (n - (k + 1)) := by
 obtain ⟨m,hm⟩ : ∃ m,n - k = m + 1 := ⟨n - k - 1,by omega⟩
 rw [hm,List.range'_succ,show n - (k + 1) = m by omega]
theorem WO.op (Y : Cy P KT N0 M O R D X Hd) (hkt : ∀ t,kt t = false → ¬ KT t) (hok : okOps ops = true) {k : Nat} (ho : ops[k]? = some o) (hw : Region.wanted o (zc2 ops aA) = true) (h : evOp P kt (fun _ _ _ => none) aA o s = some (v,s1)) (kk : WO P KT An X Hd ops (k + 1) (aA.put o.dst v) s1 K) : WO P KT An X Hd ops k aA s K := by
 intro fn S l fr i w a Q' hS hF hA hd hfr kx
 have hnx := evOp_nx (P := P) (kt := kt) (call := fun _ _ _ => none) (fun f args s v s' h => by cases h) h
 rw [range_cons (Array.getElem?_eq_some_iff.1 ho).1]
 refine op_sound Y hkt (call := fun _ _ _ => none) (fun f args s v s' h => by cases h) ho (by rw [zl7 hA]; exact hw) (opd_rel hA hok ho) hS hF h (fun b hb _ => hfr b hb) ?_
 intro i1 S1 l1 w1 v1 hS1 hb1 hSim1 hF1 hv1
 refine kk fn S1 l1 fr i1 w1 (a.put o.dst v1) Q' hSim1 hF1 (put_rel (hA.mono hS1) hv1 _) ?_ (fun b hb => by rw [hb1 b (.inr hb)]; exact hfr b (by omega)) kx
 cases hdst : o.dst <;> exact hd
theorem WO.q (Y : Cy P KT N0 M O R D X Hd) (hkt : ∀ t,kt t = false → ¬ KT t) (hok : okOps ops = true) {k : Nat} (ho : ops[k]? = some o) (hw : Region.wanted o (zc2 ops aA) = true) (h : qOk (evOp P kt (fun _ _ _ => none) aA o s) = true) (kk : WO P KT An X Hd ops (k + 1) (aA.put o.dst (qV (evOp P kt (fun _ _ _ => none) aA o s))) (qS (evOp P kt (fun _ _ _ => none) aA o s)) K) : WO P KT An X Hd ops k aA s K := by
 generalize hq : evOp P kt (fun _ _ _ => none) aA o s = q at h kk
 obtain _ | ⟨v,s'⟩ := q
 ·
  cases h
 ·
  exact WO.op Y hkt hok ho hw hq kk
end
end
section
open Go.Conc Go.RowKit Go.Lib
theorem bstr_run {P : Program} {w : World} {src dst e : TypeId} {g c : Nat} {b : UInt8} (hs : P.underlying src = some (.slice e)) (he : P.underlying e = some (.int .u8)) (hd : P.underlying dst = some .string) (hc : w.cell? ⟨g,0,none⟩ = some (.int .u8 b.toNat)) : (convert src dst (.slice (some ⟨g,0,none⟩) 1 c)).run P w = .ok (str [b]) w ∧ (convert src dst (.slice (some ⟨g,0,none⟩) 1 c)).events P w #[] = #[⟨.cell ⟨g,0,none⟩,false,false⟩] := by
 have ha : Addr.add ⟨g,0,none⟩ 0 = ⟨g,0,none⟩ := by unfold Addr.add; simp
 have hl : (loadCells ⟨g,0,none⟩ 1).run P w = .ok (#[.int .u8 (b.toNat : Int)] : Array Value) w := by
  simp [loadCells,loadCellsFrom,ha,load,Sem.run,hc]
 have hle : (loadCells ⟨g,0,none⟩ 1).events P w #[] = #[⟨.cell ⟨g,0,none⟩,false,false⟩] := by
  simp [loadCells,loadCellsFrom,ha,events_load,hc]
 constructor
 ·
  rw [run_convert_bytes_string w src dst e _ 1 c hs he hd,run_bytesToString w _ 1 c [(b.toNat : Int)] hl]
  simp
  rfl
 ·
  simp [convert,run_underlying hs,run_underlying hd,run_underlying he,Conv.bytesToString,hl,hle]
section
variable {ι : Type} {P : Program} {KT : TypeId → Prop} {An : Who} {N0 : ι → Nat} {M : ι → World → Nat → Prop} {O : ι → Nat → Prop} {R : ι → World → World → Prop} {D : ι → World → World → Array Event → Prop} {X : ι → Goroutine → World → Prop} {Hd : ι → List (Nat × Obj) → World → Prop}
variable {aA : TL} {s : AS} {K : TL → AS → Prop} {ops : Array Oper} {o : Oper}
theorem WO.bstr (Y : Cy P KT N0 M O R D X Hd) {k : Nat} (ho : ops[k]? = some o) (hw : Region.wanted o (zc2 ops aA) = true) {t u e : TypeId} {q : Tmp} {nm c : Nat} {b : UInt8} {ty : TypeId} {fz : Nat × Nat} (hop : o.op = .convert t u (.tmp q)) (hx : aA.at (.tmp q) = .slice (some ⟨nm,0,none⟩) 1 c) (hg : s.get nm = some (.cells #[.int .u8 b.toNat] ty fz)) (ht : P.underlying t = some (.slice e)) (he : P.underlying e = some (.int .u8)) (hu : P.underlying u = some .string) (kk : WO P KT An X Hd ops (k + 1) (aA.put o.dst (str [b])) s K) : WO P KT An X Hd ops k aA s K := by
 intro fn S l fr i w a Q' hS hF hA hd hfr kx
 rw [range_cons (Array.getElem?_eq_some_iff.1 ho).1]
 obtain ⟨g,z,e0,o',h1,h2,h3,h4⟩ := hS.live nm _ hg
 obtain ⟨cs',rfl,r1,⟨r2,_⟩,r3⟩ := h3
 have hx' : ∃ c',a.eval (.tmp q) = .slice (some ⟨g,0,none⟩) 1 c' := by
  have := at_rel (x := .tmp q) hA rfl
  rw [hx] at this
  obtain ⟨g',z',e',c',q1,q2,_⟩ := this.sl
  rw [h1] at q1
  cases q1
  exact ⟨c',q2⟩
 obtain ⟨c',hx'⟩ := hx'
 have hc0 : cs'[0]? = some (.int .u8 b.toNat) := by
  have hlt : 0 < cs'.size := by simp at r2; omega
  have := (r3 0 _ _ rfl (Array.getElem?_eq_getElem hlt)).sc rfl
  rw [Array.getElem?_eq_getElem hlt,this]
  rfl
 refine za0 Y.C ho (by rw [zl7 hA]; exact hw) fun w₁ hR Kx hK => ?_
 have hF₁ := (Y.Z hF).rely hF hR
 obtain ⟨hmine,hblk⟩ := (Y.Z hF₁).own hF₁ (List.mem_append_left _ h2)
 have hc : w₁.cell? ⟨g,0,none⟩ = some (.int .u8 b.toNat) := by simp [World.cell?,hblk,hc0]
 obtain ⟨hr1,he1⟩ := bstr_run (c := c') ht he hu hc
 have hr : (execOp a.eval o).run P w₁ = .ok (.value (str [b])) w₁ := by simp [execOp,hop,hx',hr1]
 have he2 : (execOp a.eval o).events P w₁ #[] = #[⟨.cell ⟨g,0,none⟩,false,false⟩] := by simp [execOp,hop,hx',hr1,he1]
 rw [hr]
 refine hK _ _ ⟨?_,kk fn S l fr i w₁ (a.put o.dst (str [b])) Q' hS hF₁ (put_rel hA (VR.of_sc rfl) _) ?_ hfr kx⟩
 ·
  refine (Y.Z hF₁).env.does ((Y.Z hF₁).size hF₁) (Own.refl _) fun ev hev => ?_
  have hev := mem_listed hev
  rw [he2] at hev
  simp at hev
  subst hev
  exact .inl ⟨_,rfl,hmine⟩
 ·
  cases hdst : o.dst <;> exact hd
end
end
section
open Go.Conc Go.RowKit Go.Lib
section
variable {ι : Type} {P : Program} {KT : TypeId → Prop} {An : Who} {N0 : ι → Nat} {M : ι → World → Nat → Prop} {O : ι → Nat → Prop} {R : ι → World → World → Prop} {D : ι → World → World → Array Event → Prop} {X : ι → Goroutine → World → Prop} {Hd : ι → List (Nat × Obj) → World → Prop} {kt : TypeId → Bool} {pr : Prim}
variable {aA : TL} {s s1 : AS} {K : TL → AS → Prop} {ops : Array Oper} {o : Oper} {v : Value}
theorem WO.asS (s' : AS) (h : s = s') {k : Nat} (kk : WO P KT An X Hd ops k aA s' K) : WO P KT An X Hd ops k aA s K := h ▸ kk
theorem WI.asS {c : Code} {Q : Exit → TL → AS → Prop} (s' : AS) (h : s = s') (kk : WI P KT An X Hd c aA s' Q) : WI P KT An X Hd c aA s Q := h ▸ kk
theorem WI.fill {c : Code} {Q : Exit → TL → AS → Prop} (f : (Nat → Value) → TL) (h : aA = f (fun i => aA.getD i undef)) (k : ∀ x,WI P KT An X Hd c (f x) s Q) : WI P KT An X Hd c aA s Q := h ▸ k _
end
end
end Go.Proofs.YtgcaionclkbehaaGreatDoor
