import Derived.Test.YtgcaionclkbehaaGreatDoorN5
set_option linter.all false
namespace Go.Proofs.YtgcaionclkbehaaGreatDoor
open Tryz
section
open Go.Conc Go.RowKit Go.Lib
def rd0 : AS := ⟨((⟨sA.hp,64⟩ : AS).add (.cells #[.slice none 0 0] 56)).hp,66⟩
def sc1 (k : Nat) : AS := rd0.add (.cells #[aptr 65 0,num (k : Nat), .pointer none, .slice none 0 0, .slice none 0 0] 121)
abbrev bxO : Obj := .cells #[aptr 66 0] 196
def sc1b (k : Nat) : AS := (sc1 k).add bxO
def sc2 (bs : List UInt8) (k : Nat) : AS := ((rd0.add (.cells #[aptr 65 0,num (k : Nat),aptr 66 2, .slice (some ⟨68,0,none⟩) bs.length bs.length, .slice none 0 0] 121)).add bxO).add (.cells (byC bs) 5 (1,1))
def sc2b (bs : List UInt8) (k : Nat) : AS := (sc2 bs k).add bxO
theorem fam1 : Fam sc1 65 66 (.pointer none) (.slice none 0 0) (.slice none 0 0) := ⟨fun k => by kernel_rfl,fun k k' => by kernel_rfl,fun k => by show 66 < 67; decide,fun k => by show 65 < 67; decide,fun k => by kernel_rfl⟩
theorem fam2 {bs : List UInt8} : Fam (sc2 bs) 65 66 (aptr 66 2) (.slice (some ⟨68,0,none⟩) bs.length bs.length) (.slice none 0 0) := ⟨fun k => by kernel_rfl,fun k k' => by kernel_rfl,fun k => by show 66 < 69; decide,fun k => by show 65 < 69; decide,fun k => by kernel_rfl⟩
theorem fam1b : Fam sc1b 65 66 (.pointer none) (.slice none 0 0) (.slice none 0 0) := ⟨fun k => by kernel_rfl,fun k k' => by kernel_rfl,fun k => by show 66 < 68; decide,fun k => by show 65 < 68; decide,fun k => by kernel_rfl⟩
theorem fam2b {bs : List UInt8} : Fam (sc2b bs) 65 66 (aptr 66 2) (.slice (some ⟨68,0,none⟩) bs.length bs.length) (.slice none 0 0) := ⟨fun k => by kernel_rfl,fun k k' => by kernel_rfl,fun k => by show 66 < 70; decide,fun k => by show 65 < 70; decide,fun k => by kernel_rfl⟩
section
variable {n : Nat} {V : Array Value → Option Value} {all : List Int} {s : AS}
theorem begunW {St : Nat → AS} {rn c : Nat} {p q r : Value} (F : Fam St rn c p q r) {k : Nat} (hk : k ≤ 1000000) (hl : lAt all k ≠ 60) : EF prog ktB (prN prog n rn V all) 71 #[aptr c 0] (St k) .nilFunc (St k) := by
 refine EF.forget ?_
 unfold begOk
 simp only [aptr,F.get k]
 rw [if_pos ⟨trivial,by omega,by omega,by simpa using hl,F.rlt k,F.lt k,F.tame k⟩]
def lits (bs : List UInt8) : Prop := (∃ a b c,bs = [a,b,c]) ∨ (∃ a b c d,bs = [a,b,c,d]) ∨ ∃ a b c d e,bs = [a,b,c,d,e]
theorem writeS_f {bs : List UInt8} (hbs : lits bs) (k : Nat) : ∃ v,EF prog ktB (prN prog n 65 V all) 156 #[aptr 66 2,str bs] (sc1b k) v (sc2 bs k) := by
 rcases hbs with ⟨a,b,c,rfl⟩ | ⟨a,b,c,d,rfl⟩ | ⟨a,b,c,d,e,rfl⟩
 ·
  exact ⟨.tuple #[num 3, .nilIface],EF.eval 60 (by kernel_rfl)⟩
 ·
  exact ⟨.tuple #[num 4, .nilIface],EF.eval 60 (by kernel_rfl)⟩
 ·
  exact ⟨.tuple #[num 5, .nilIface],EF.eval 60 (by kernel_rfl)⟩
theorem beg1_e {St : Nat → AS} {rn c : Nat} {p q r : Value} (F : Fam St rn c p q r) {k : Nat} (hk : k ≤ 900000) (h0 : lAt all k = 60) (h1 : lAt all (k + 1) = 97) : EF prog ktB (prAdd 157 V (prRow rn all)) 71 #[aptr c 0] (St k) (.func (.func 148) #[aptr c 0] #[]) ((St k).add (.cells #[aptr c 0] 196)) := by
 have hlt := F.lt k
 have hs2 : ((St k).add (.cells #[aptr c 0] 196)).get c = some (.cells #[aptr rn 0,num (k : Nat),p,q,r] 121) := by rw [AS.get_add,if_neg (by omega)]; exact F.get k
 have ha0 := ahead_e (rn := rn) (all := all) (pr := prAdd 157 V (prRow rn all)) (s := (St k).add (.cells #[aptr c 0] 196)) (by kernel_rfl) (by kernel_rfl) (p := 0) hs2 rfl rfl (by omega)
 have ha1 := ahead_e (rn := rn) (all := all) (pr := prAdd 157 V (prRow rn all)) (s := (St k).add (.cells #[aptr c 0] 196)) (by kernel_rfl) (by kernel_rfl) (p := 1) hs2 rfl rfl (by omega)
 rw [Nat.add_zero,h0] at ha0
 rw [h1] at ha1
 have hs3 : ((St k).add (.cells #[aptr c 0] 196)).get (St k).nx = some (.cells #[aptr c 0] 196) := by rw [AS.get_add,if_pos rfl]
 refine EF.of (by kernel_rfl) func71 rfl ?_
 refine EW.seq (EW.go 5 (by kernel_rfl) ?_)
 refine EW.asS ((St k).add (.cells #[aptr c 0] 196)) (by kernel_rfl) ?_
 generalize (St k).add (.cells #[aptr c 0] 196) = s2 at hs2 ha0 ha1 hs3
 generalize (St k).nx = bx at hs3
 refine EW.seq (EW.seq (EW.region (by kernel_rfl) ?_))
 refine EO.op (by kernel_rfl) (op_ld (b := bx) (off := 0) (v := aptr c 0) rfl underlying196 rfl (by kernel_rfl) hs3 rfl) ?_
 refine EO.callF #[aptr c 0,num 0] (by kernel_rfl) rfl rfl (by kernel_rfl) (by kernel_rfl) ha0 ?_
 refine EO.fin 5 (by kernel_rfl) ?_
 refine EW.asS s2 (by kernel_rfl) ?_
 refine EW.condF (by kernel_rfl) (EW.skip ?_)
 refine EW.seq (EW.seq (EW.region (by kernel_rfl) ?_))
 refine EO.op (by kernel_rfl) (op_ld (b := bx) (off := 0) (v := aptr c 0) rfl underlying196 rfl (by kernel_rfl) hs3 rfl) ?_
 refine EO.callF #[aptr c 0,num 1] (by kernel_rfl) rfl rfl (by kernel_rfl) (by kernel_rfl) ha1 ?_
 refine EO.fin 5 (by kernel_rfl) ?_
 refine EW.asS s2 (by kernel_rfl) ?_
 refine EW.block ?_
 refine EW.seq (EW.go 30 (by kernel_rfl) ?_)
 refine EW.asS s2 (by kernel_rfl) ?_
 refine EW.condT (by kernel_rfl) ?_
 refine EW.seq (EW.region (by kernel_rfl) ?_)
 refine EO.op (by kernel_rfl) (op_ld (b := bx) (off := 0) (v := aptr c 0) rfl underlying196 rfl (by kernel_rfl) hs3 rfl) ?_
 refine EO.fin 5 (by kernel_rfl) ?_
 exact EW.ret ⟨.inr rfl,by kernel_rfl,by kernel_rfl⟩
theorem begunT {St : Nat → AS} {rn c : Nat} {p q r : Value} (F : Fam St rn c p q r) {k : Nat} (h0 : lAt all k = 60) (hn : zc7 prog ktB (prAdd 157 V (prRow rn all)) n 71 #[aptr c 0] (St k) = some (.func (.func 148) #[aptr c 0] #[],(St k).add (.cells #[aptr c 0] 196))) : EF prog ktB (prN prog n rn V all) 71 #[aptr c 0] (St k) (.func (.func 148) #[aptr c 0] #[]) ((St k).add (.cells #[aptr c 0] 196)) := by
 have hb : begOk rn all #[aptr c 0] (St k) = none := by
  unfold begOk
  simp only [aptr,F.get k]
  rw [if_neg (fun h => h.2.2.2.1 (by simpa using h0))]
 refine EF.given (g := fun args s => match begOk rn all args s with | some v => some (v,s) | none => zc7 prog ktB (prAdd 157 V (prRow rn all)) n 71 args s) (by unfold prN zi7; rfl) ?_
 simp only [hb]
 exact hn
def sl72 (k : Nat) (x : Nat → Value) : TL := [aptr 66 0,x 1,num (k : Nat),x 3,x 4,x 5,x 6,x 7,x 8,x 9,x 10,x 11,x 12,x 13,x 14,x 15,x 16,x 17,x 18,x 19,x 20,x 21,x 22,x 23,x 24,x 25,x 26,x 27,x 28,x 29,x 30,x 31,x 32,x 33,x 34,x 35,x 36]
theorem takeWords_f {bs t : List UInt8} (hbs : lits bs) {k m : Nat} (hm : k + m ≤ 700000) (hin : ∀ j,j < m → lAt all (k + j) ≠ 60 ∧ lAt all (k + j) ≠ -1) (h0 : lAt all (k + m) = 60) (ht : ze8 ((all.drop k).take m) = t) (hV : V #[str t,num 0] = some (str bs))
  (hn : zc7 prog ktB (prAdd 157 V (prRow 65 all)) n 71 #[aptr 66 0] (sc1 (k + m)) = some (.func (.func 148) #[aptr 66 0] #[],sc1b (k + m))) : EF prog ktB (prN prog n 65 V all) 72 #[aptr 66 0] (sc1 k) (.tuple #[]) (sc2 bs (k + m)) := by
 refine EF.of (by kernel_rfl) func72 rfl ?_
 refine EW.seq (EW.region (by kernel_rfl) ?_)
 refine EO.go 3 5 (by kernel_rfl) ?_
 refine EO.asS (sc1 k) (by kernel_rfl) ?_
 refine EO.op (by kernel_rfl) (op_ld (b := 66) (off := 1) (v := num (k : Nat)) rfl underlying3 rfl (by kernel_rfl) (fam1.get k) rfl) ?_
 refine EO.fin 5 (by kernel_rfl) ?_
 refine EW.asS (sc1 k) (by kernel_rfl) ?_
 refine EW.fill (sl72 k) (by kernel_rfl) ?_
 intro x0
 refine EW.seq (EW.block ?_)
 refine EW.mono (EW.loopI (Q := fun e a' s' => e = .exit 0 ∧ s' = sc1b (k + m) ∧ ∃ x,a' = sl72 k x) (fun u a' s' => ∃ j,u + j = m ∧ s' = sc1 (k + j) ∧ ∃ x,a' = sl72 k x) ?_ m _ _ ⟨0,by omega,rfl,x0,rfl⟩) ?_
 ·
  rintro u a' s' ⟨j,hu,rfl,x,rfl⟩
  have hah := zh7 (n := n) (V := V) (all := all) fam1 (k := k + j) (by omega)
  by_cases hj : j < m
  ·
   obtain ⟨hl1,hl2⟩ := hin j hj
   have hbg := begunW (n := n) (V := V) (all := all) fam1 (k := k + j) (by omega) hl1
   generalize lAt all (k + j) = l at hah hl2
   refine EW.seq (EW.seq (EW.region (by kernel_rfl) ?_))
   refine EO.go 1 5 (by kernel_rfl) ?_
   refine EO.asS (sc1 (k + j)) (by kernel_rfl) ?_
   refine EO.callF #[aptr 66 0,num 0] (by kernel_rfl) rfl rfl (by kernel_rfl) (by kernel_rfl) hah ?_
   refine EO.op (by kernel_rfl) (zc5 (u := .int .i32 l) (w := .int .i32 (-1)) rfl (by kernel_rfl) (by kernel_rfl) (bin_neqK (b := true) (by simp [hl2]))) ?_
   refine EO.go 2 5 (by kernel_rfl) ?_
   refine EO.asS (sc1 (k + j)) (by kernel_rfl) ?_
   refine EO.callF #[aptr 66 0] (by kernel_rfl) rfl rfl (by kernel_rfl) (by kernel_rfl) hbg ?_
   refine EO.fin 5 (by kernel_rfl) ?_
   refine EW.asS (sc1 (k + j)) (by kernel_rfl) ?_
   refine EW.condT (by kernel_rfl) (EW.skip ?_)
   refine EW.block ?_
   refine EW.region (by kernel_rfl) ?_
   refine EO.go 3 5 (by kernel_rfl) ?_
   refine EO.asS (sc1 (k + j)) (by kernel_rfl) ?_
   refine EO.op (by kernel_rfl) (op_ld (b := 66) (off := 1) (v := num ((k + j : Nat) : Int)) rfl underlying3 rfl (by kernel_rfl) (fam1.get (k + j)) rfl) ?_
   refine EO.op (by kernel_rfl) (zf3 (i := ((k + j : Nat) : Int)) (j := 1) (r := ((k + (j + 1) : Nat) : Int)) rfl (by kernel_rfl) (by kernel_rfl) (by omega) (by omega)) ?_
   refine EO.go 2 5 (by kernel_rfl) ?_
   refine EO.asS (sc1 (k + j)) (by kernel_rfl) ?_
   refine EO.op (by kernel_rfl) (op_st (b := 66) (off := 1) (w := num ((k + (j + 1) : Nat) : Int)) rfl (by kernel_rfl) (by kernel_rfl) rfl rfl (by kernel_rfl) (fam1.get (k + j)) (by simp)) ?_
   refine EO.nil ?_
   exact ⟨u - 1,by omega,j + 1,by omega,fam1.set (k + j) (k + (j + 1)),fillX (by kernel_rfl)⟩
  ·
   obtain rfl : j = m := by omega
   have hbg := begunT fam1 h0 hn
   rw [h0] at hah
   refine EW.seq (EW.seq (EW.region (by kernel_rfl) ?_))
   refine EO.go 1 5 (by kernel_rfl) ?_
   refine EO.asS (sc1 (k + j)) (by kernel_rfl) ?_
   refine EO.callF #[aptr 66 0,num 0] (by kernel_rfl) rfl rfl (by kernel_rfl) (by kernel_rfl) hah ?_
   refine EO.go 3 5 (by kernel_rfl) ?_
   refine EO.asS (sc1 (k + j)) (by kernel_rfl) ?_
   refine EO.callF #[aptr 66 0] (by kernel_rfl) rfl rfl (by kernel_rfl) (by kernel_rfl) hbg ?_
   refine EO.fin 5 (by kernel_rfl) ?_
   refine EW.asS (sc1b (k + j)) (by kernel_rfl) ?_
   refine EW.condF (by kernel_rfl) (EW.exit ?_)
   exact ⟨rfl,rfl,fillX (by kernel_rfl)⟩
 rintro e a' s' ⟨rfl,rfl,x,rfl⟩
 have htx := rtext_e (n := n) (rn := 65) (V := V) (all := all) (s := sc1b (k + m)) (k := k) (j := k + m) (by omega)
 rw [show k + m - k = m by omega,ht] at htx
 have h157 : EF prog ktB (prN prog n 65 V all) 157 #[str t,num 0] (sc1b (k + m)) (str bs) (sc1b (k + m)) := EF.given (g := fun args s => match V args with | some v => some (v,s) | none => none) (by unfold prN zi7 prAdd; rfl) (by simp only [hV])
 obtain ⟨v,h156⟩ := writeS_f (n := n) (V := V) (all := all) hbs (k + m)
 refine EW.draw (by kernel_rfl) (by kernel_rfl) (by kernel_rfl) ?_
 iterate 3 refine ET.q (by kernel_rfl) (by kernel_rfl) ?_
 iterate 3 refine ET.q (by kernel_rfl) (by kernel_rfl) ?_
 refine ET.asS (sc1b (k + m)) (by kernel_rfl) ?_
 refine ET.op (by kernel_rfl) (op_ld (b := 66) (off := 0) (v := aptr 65 0) rfl underlying84 rfl (by kernel_rfl) (fam1b.get (k + m)) rfl) ?_
 iterate 4 refine ET.q (by kernel_rfl) (by kernel_rfl) ?_
 refine ET.asS (sc1b (k + m)) (by kernel_rfl) ?_
 refine ET.op (by kernel_rfl) (op_ld (b := 66) (off := 1) (v := num ((k + m : Nat) : Int)) rfl underlying3 rfl (by kernel_rfl) (fam1b.get (k + m)) rfl) ?_
 refine ET.callF #[aptr 65 0,num (k : Nat),num ((k + m : Nat) : Int)] (by kernel_rfl) rfl rfl (by kernel_rfl) (by kernel_rfl) htx ?_
 refine ET.callF #[str t,num 0] (by kernel_rfl) rfl rfl (by kernel_rfl) (by kernel_rfl) h157 ?_
 refine ET.callF #[aptr 66 2,str bs] (by kernel_rfl) rfl rfl (by kernel_rfl) (by kernel_rfl) h156 ?_
 refine ET.nil ⟨zf8 [(zc6 prog 84 (aptr 66 0) (sc1b (k + m)),aptr 65 0),(zc6 prog 3 (aptr 66 1) (sc1b (k + m)),num ((k + m : Nat) : Int))] (by kernel_rfl) (lds2 ⟨ld_row fam1b _,rfl⟩ ⟨ld_at fam1b _,rfl⟩),_,_,_,_,_,_,rfl,rfl,?_⟩
 exact ⟨.inl rfl,by kernel_rfl,by kernel_rfl⟩
end
end
section
open Go.Conc Go.RowKit Go.Lib
abbrev nilV : Value := .slice none 0 0
abbrev tgO (nm : List UInt8) (at_ : Value) : Obj := .cells #[str nm,at_, .bool false] 262
abbrev itO (b : UInt8) : Obj := .stringIter ⟨#[b]⟩ 1
abbrev blZ : Obj := .cells #[.pointer none, .slice none 0 0] 119
abbrev atO (a b : List UInt8) : Obj := .cells #[str a,str b] 47
def g1 (bs : List UInt8) (k : Nat) : AS := (sc2b bs k).add (tgO [] nilV)
def g2 (bs : List UInt8) (k : Nat) : AS := (((sc2b bs k).add (tgO [97] nilV)).add blZ).add (itO 97)
def g3 (bs : List UInt8) (k : Nat) : AS := (g2 bs k).add (atO [] [])
def g4 (bs : List UInt8) (k : Nat) : AS := (((g3 bs k).add blZ).add (itO 98)).add (atO [98] [])
def g5 (bs bs2 : List UInt8) (k : Nat) : AS := ((((g2 bs k).add (atO [98] bs2)).add blZ).add (itO 98)).add (atO [98] bs2)
def g6 (bs bs2 : List UInt8) (k : Nat) : AS := ((((((((((sc2b bs k).add (tgO [97] (.slice (some ⟨79,0,none⟩) 1 1))).add blZ).add (itO 97)).add (atO [98] bs2)).add blZ).add (itO 98)).add (atO [98] bs2)).add (atO [98] bs2)).add (atO [98] bs2)).add (.cells #[str [98],str bs2] 47 (1,1))
section
variable {bs bs2 : List UInt8}
theorem famg1 : Fam (g1 bs) 65 66 (aptr 66 2) (.slice (some ⟨68,0,none⟩) bs.length bs.length) nilV := ⟨fun k => by kernel_rfl,fun k k' => by kernel_rfl,fun k => by show 66 < 71; decide,fun k => by show 65 < 71; decide,fun k => by kernel_rfl⟩
theorem famg2 : Fam (g2 bs) 65 66 (aptr 66 2) (.slice (some ⟨68,0,none⟩) bs.length bs.length) nilV := ⟨fun k => by kernel_rfl,fun k k' => by kernel_rfl,fun k => by show 66 < 73; decide,fun k => by show 65 < 73; decide,fun k => by kernel_rfl⟩
theorem famg3 : Fam (g3 bs) 65 66 (aptr 66 2) (.slice (some ⟨68,0,none⟩) bs.length bs.length) nilV := ⟨fun k => by kernel_rfl,fun k k' => by kernel_rfl,fun k => by show 66 < 74; decide,fun k => by show 65 < 74; decide,fun k => by kernel_rfl⟩
theorem famg4 : Fam (g4 bs) 65 66 (aptr 66 2) (.slice (some ⟨68,0,none⟩) bs.length bs.length) nilV := ⟨fun k => by kernel_rfl,fun k k' => by kernel_rfl,fun k => by show 66 < 77; decide,fun k => by show 65 < 77; decide,fun k => by kernel_rfl⟩
theorem famg6 : Fam (g6 bs bs2) 65 66 (aptr 66 2) (.slice (some ⟨68,0,none⟩) bs.length bs.length) nilV := ⟨fun k => by kernel_rfl,fun k k' => by kernel_rfl,fun k => by show 66 < 80; decide,fun k => by show 65 < 80; decide,fun k => by kernel_rfl⟩
end
section
variable {n : Nat} {V : Array Value → Option Value} {all : List Int} {s : AS} {bs bs2 : List UInt8}
theorem low97_f (k : Nat) : EF prog ktB (prN prog n 65 V all) 258 #[str [97]] (g1 bs k) (str [97]) (((g1 bs k).add blZ).add (itO 97)) := EF.eval 80 (by kernel_rfl)
theorem low98_f (k : Nat) : EF prog ktB (prN prog n 65 V all) 258 #[str [98]] (g3 bs k) (str [98]) (((g3 bs k).add blZ).add (itO 98)) := EF.eval 80 (by kernel_rfl)
structure TagL (all : List Int) (k m : Nat) (t2 : List UInt8) : Prop where
 nm : isB all (k + 1) 97
 sp : isB all (k + 2) 32
 an : isB all (k + 3) 98
 eq : isB all (k + 4) 61
 q1 : isB all (k + 5) 39
 val : ∀ j,j < m → ∃ b,isB all (k + 6 + j) b ∧ b ∉ ([39] : List UInt8)
 q2 : isB all (k + 6 + m) 39
 gt : isB all (k + 6 + m + 1) 62
 txt : ze8 ((all.drop (k + 6)).take m) = t2
 nmT : ze8 ((all.drop (k + 1)).take 1) = [97]
 anT : ze8 ((all.drop (k + 3)).take 1) = [98]
 hk : k + m ≤ 100000
theorem takeAttr_f {k m : Nat} {t2 : List UInt8} (L : TagL all k m t2) (hV : V #[str t2,num 1] = some (str bs2)) : EF prog ktB (prN prog n 65 V all) 326 #[aptr 66 0] (g2 bs (k + 3)) (.agg #[str [98],str bs2]) (g5 bs bs2 (k + 6 + m + 1)) := by
 have hk := L.hk
 have hup := upTo_f (n := n) (V := V) (famg3 (bs := bs)) (stops := [9,10,12,13,32,47,62,61]) (k := k + 3 + 1) (m := 0) (by omega) (fun j hj => absurd hj (by omega)) ⟨61,L.eq,by decide⟩
 have hsp1 := skipSpace_f (n := n) (V := V) (famg4 (bs := bs)) (k := k + 3 + 1) (by omega) L.eq (by decide)
 have hah := zh7 (n := n) (V := V) (all := all) (famg4 (bs := bs)) (k := k + 3 + 1) (by omega)
 rw [show lAt all (k + 3 + 1) = 61 from L.eq.1] at hah
 have hsp2 := skipSpace_f (n := n) (V := V) (famg4 (bs := bs)) (k := k + 3 + 1 + 1) (by omega) L.q1 (by decide)
 have htv := takeValue_f (n := n) (V := V) (famg4 (bs := bs)) (k := k + 3 + 1 + 1) (m := m) (by omega) L.q1 L.val L.q2
 rw [show k + 3 + 1 + 1 + 1 = k + 6 by omega,L.txt] at htv
 have htx := rtext_e (n := n) (rn := 65) (V := V) (all := all) (s := g3 bs (k + 3 + 1)) (k := k + 3) (j := k + 3 + 1) (by omega)
 rw [show k + 3 + 1 - (k + 3) = 1 by omega,L.anT] at htx
 have h157 : EF prog ktB (prN prog n 65 V all) 157 #[str t2,num 1] (g4 bs (k + 6 + m + 1)) (str bs2) (g4 bs (k + 6 + m + 1)) := EF.given (g := fun args s => match V args with | some v => some (v,s) | none => none) (by unfold prN zi7 prAdd; rfl) (by simp only [hV])
 generalize hk3 : k + 3 = k3 at *
 generalize hk6 : k + 6 + m + 1 = k6 at *
 refine EF.of (by kernel_rfl) func326 rfl ?_
 refine EW.seq (EW.go 5 (by kernel_rfl) ?_)
 refine EW.asS (g3 bs k3) (by kernel_rfl) ?_
 refine EW.seq (EW.region (by kernel_rfl) ?_)
 refine EO.fin 5 (by kernel_rfl) ?_
 refine EW.asS (g3 bs k3) (by kernel_rfl) ?_
 refine EW.seq (EW.region (by kernel_rfl) ?_)
 refine EO.go 3 5 (by kernel_rfl) ?_
 refine EO.asS (g3 bs (k3)) (by kernel_rfl) ?_
 refine EO.op (by kernel_rfl) (op_ld (b := 66) (off := 1) (v := num ((k3 : Nat) : Int)) rfl underlying3 rfl (by kernel_rfl) ((famg3 (bs := bs)).get (k3)) rfl) ?_
 refine EO.op (by kernel_rfl) (zf3 (i := ((k3 : Nat) : Int)) (j := 1) (r := ((k3 + 1 : Nat) : Int)) rfl (by kernel_rfl) (by kernel_rfl) (by omega) (by omega)) ?_
 refine EO.go 2 5 (by kernel_rfl) ?_
 refine EO.asS (g3 bs (k3)) (by kernel_rfl) ?_
 refine EO.op (by kernel_rfl) (op_st (b := 66) (off := 1) (w := num ((k3 + 1 : Nat) : Int)) rfl (by kernel_rfl) (by kernel_rfl) rfl rfl (by kernel_rfl) ((famg3 (bs := bs)).get (k3)) (by simp)) ?_
 refine EO.nil ?_
 refine EW.asS (g3 bs (k3 + 1)) ((famg3 (bs := bs)).set (k3) (k3 + 1)) ?_
 refine EW.seq (EW.region (by kernel_rfl) ?_)
 refine EO.go 1 5 (by kernel_rfl) ?_
 refine EO.asS (g3 bs (k3 + 1)) (by kernel_rfl) ?_
 refine EO.callF #[aptr 66 0,str [9,10,12,13,32,47,62,61]] (by kernel_rfl) rfl rfl (by kernel_rfl) (by kernel_rfl) hup ?_
 refine EO.nil ?_
 refine EW.asS (g3 bs (k3 + 1)) (by kernel_rfl) ?_
 refine EW.seq (EW.draw (by kernel_rfl) (by kernel_rfl) (by kernel_rfl) ?_)
 iterate 3 refine ET.q (by kernel_rfl) (by kernel_rfl) ?_
 refine ET.asS (g3 bs (k3 + 1)) (by kernel_rfl) ?_
 refine ET.op (by kernel_rfl) (op_ld (b := 66) (off := 0) (v := aptr 65 0) rfl underlying84 rfl (by kernel_rfl) ((famg3 (bs := bs)).get (k3 + 1)) rfl) ?_
 iterate 4 refine ET.q (by kernel_rfl) (by kernel_rfl) ?_
 refine ET.asS (g3 bs (k3 + 1)) (by kernel_rfl) ?_
 refine ET.op (by kernel_rfl) (op_ld (b := 66) (off := 1) (v := num ((k3 + 1 : Nat) : Int)) rfl underlying3 rfl (by kernel_rfl) ((famg3 (bs := bs)).get (k3 + 1)) rfl) ?_
 refine ET.callF #[aptr 65 0,num (k3 : Nat),num ((k3 + 1 : Nat) : Int)] (by kernel_rfl) rfl rfl (by kernel_rfl) (by kernel_rfl) htx ?_
 refine ET.callF #[str [98]] (by kernel_rfl) rfl rfl (by kernel_rfl) (by kernel_rfl) (low98_f (k3 + 1)) ?_
 iterate 3 refine ET.q (by kernel_rfl) (by kernel_rfl) ?_
 refine ET.nil ⟨zf8 [(zc6 prog 84 (aptr 66 0) (g3 bs (k3 + 1)),aptr 65 0),(zc6 prog 3 (aptr 66 1) (g3 bs (k3 + 1)),num ((k3 + 1 : Nat) : Int))] (by kernel_rfl) (lds2 ⟨ld_row famg3 _,rfl⟩ ⟨ld_at famg3 _,rfl⟩),_,_,_,_,_,_,rfl,rfl,?_⟩
 refine EW.asS (g4 bs (k3 + 1)) (by kernel_rfl) ?_
 refine EW.seq (EW.region (by kernel_rfl) ?_)
 refine EO.go 1 5 (by kernel_rfl) ?_
 refine EO.asS (g4 bs (k3 + 1)) (by kernel_rfl) ?_
 refine EO.callF #[aptr 66 0] (by kernel_rfl) rfl rfl (by kernel_rfl) (by kernel_rfl) hsp1 ?_
 refine EO.nil ?_
 refine EW.asS (g4 bs (k3 + 1)) (by kernel_rfl) ?_
 refine EW.seq (EW.seq (EW.region (by kernel_rfl) ?_))
 refine EO.go 1 5 (by kernel_rfl) ?_
 refine EO.asS (g4 bs (k3 + 1)) (by kernel_rfl) ?_
 refine EO.callF #[aptr 66 0,num 0] (by kernel_rfl) rfl rfl (by kernel_rfl) (by kernel_rfl) hah ?_
 refine EO.fin 5 (by kernel_rfl) ?_
 refine EW.asS (g4 bs (k3 + 1)) (by kernel_rfl) ?_
 refine EW.condT (by kernel_rfl) ?_
 refine EW.seq (EW.region (by kernel_rfl) ?_)
 refine EO.go 3 5 (by kernel_rfl) ?_
 refine EO.asS (g4 bs (k3 + 1)) (by kernel_rfl) ?_
 refine EO.op (by kernel_rfl) (op_ld (b := 66) (off := 1) (v := num ((k3 + 1 : Nat) : Int)) rfl underlying3 rfl (by kernel_rfl) ((famg4 (bs := bs)).get (k3 + 1)) rfl) ?_
 refine EO.op (by kernel_rfl) (zf3 (i := ((k3 + 1 : Nat) : Int)) (j := 1) (r := ((k3 + 1 + 1 : Nat) : Int)) rfl (by kernel_rfl) (by kernel_rfl) (by omega) (by omega)) ?_
 refine EO.go 2 5 (by kernel_rfl) ?_
 refine EO.asS (g4 bs (k3 + 1)) (by kernel_rfl) ?_
 refine EO.op (by kernel_rfl) (op_st (b := 66) (off := 1) (w := num ((k3 + 1 + 1 : Nat) : Int)) rfl (by kernel_rfl) (by kernel_rfl) rfl rfl (by kernel_rfl) ((famg4 (bs := bs)).get (k3 + 1)) (by simp)) ?_
 refine EO.nil ?_
 refine EW.asS (g4 bs (k3 + 1 + 1)) ((famg4 (bs := bs)).set (k3 + 1) (k3 + 1 + 1)) ?_
 refine EW.seq (EW.region (by kernel_rfl) ?_)
 refine EO.go 1 5 (by kernel_rfl) ?_
 refine EO.asS (g4 bs (k3 + 1 + 1)) (by kernel_rfl) ?_
 refine EO.callF #[aptr 66 0] (by kernel_rfl) rfl rfl (by kernel_rfl) (by kernel_rfl) hsp2 ?_
 refine EO.nil ?_
 refine EW.asS (g4 bs (k3 + 1 + 1)) (by kernel_rfl) ?_
 refine EW.region (by kernel_rfl) ?_
 refine EO.go 1 5 (by kernel_rfl) ?_
 refine EO.asS (g4 bs (k3 + 1 + 1)) (by kernel_rfl) ?_
 refine EO.callF #[aptr 66 0] (by kernel_rfl) rfl rfl (by kernel_rfl) (by kernel_rfl) htv ?_
 refine EO.callF #[str t2,num 1] (by kernel_rfl) rfl rfl (by kernel_rfl) (by kernel_rfl) h157 ?_
 refine EO.fin 5 (by kernel_rfl) ?_
 refine EW.seq (EW.go 5 (by kernel_rfl) ?_)
 exact EW.ret ⟨.inr rfl,by kernel_rfl,by kernel_rfl⟩
theorem give_f (k : Nat) : EF prog ktB (prN prog n 65 V all) 325 #[aptr 70 0, .agg #[str [98],str bs2]] (g5 bs bs2 k) (.tuple #[]) (g6 bs bs2 k) := by
 refine EF.of (by kernel_rfl) func325 rfl ?_
 refine EW.seq (EW.go 5 (by kernel_rfl) ?_)
 refine EW.asS ((g5 bs bs2 k).add (atO [98] bs2)) (by kernel_rfl) ?_
 refine EW.seq (EW.go 5 (by kernel_rfl) ?_)
 refine EW.seq (EW.go 60 (by kernel_rfl) ?_)
 refine EW.asS ((g5 bs bs2 k).add (atO [98] bs2)) (by kernel_rfl) ?_
 refine EW.condT (by kernel_rfl) ?_
 refine EW.draw (by kernel_rfl) (by kernel_rfl) (by kernel_rfl) ?_
 iterate 11 refine ET.q (by kernel_rfl) (by kernel_rfl) ?_
 refine ET.nil ⟨zf8 [(zc6 prog 42 (aptr 70 1) ((g5 bs bs2 k).add (atO [98] bs2)),nilV),(zc6 prog 47 (aptr 77 0) ((g5 bs bs2 k).add (atO [98] bs2)), .agg #[str [98],str bs2])] (by kernel_rfl) (lds2 ⟨by kernel_rfl,rfl⟩ ⟨by kernel_rfl,rfl⟩),_,_,_,_,_,_,rfl,rfl,?_⟩
 exact ⟨.inl rfl,by kernel_rfl,by kernel_rfl⟩
theorem takeTag_f {k m : Nat} {t2 : List UInt8} (L : TagL all k m t2) (hV : V #[str t2,num 1] = some (str bs2)) : EF prog ktB (prN prog n 65 V all) 248 #[aptr 66 0] (sc2b bs (k + 1)) (.tuple #[.agg #[str [97], .slice (some ⟨79,0,none⟩) 1 1, .bool false], .bool true]) (g6 bs bs2 (k + 6 + m + 1 + 1)) := by
 have hk := L.hk
 have hup := upTo_f (n := n) (V := V) (famg1 (bs := bs)) (stops := [9,10,12,13,32,47,62]) (k := k + 1) (m := 1) (by omega) (fun j hj => ⟨97,(by obtain rfl : j = 0 := (by omega); exact L.nm),by decide⟩) ⟨32,L.sp,by decide⟩
 rw [L.nmT] at hup
 have hsk := skipToAttr_f (n := n) (V := V) (famg2 (bs := bs)) (k := k + 1 + 1) (m := 1) (by omega) (fun j hj => by obtain rfl : j = 0 := (by omega); exact L.sp) L.an (by decide)
 have hah := zh7 (n := n) (V := V) (all := all) (famg2 (bs := bs)) (k := k + 3) (by omega)
 rw [L.an.1] at hah
 have hta := takeAttr_f (n := n) (bs := bs) L hV
 have hsk2 := skipToAttr_f (n := n) (V := V) (famg6 (bs := bs) (bs2 := bs2)) (k := k + 6 + m + 1) (m := 0) (by omega) (fun j hj => absurd hj (by omega)) L.gt (by decide)
 have hah2 := zh7 (n := n) (V := V) (all := all) (famg6 (bs := bs) (bs2 := bs2)) (k := k + 6 + m + 1) (by omega)
 rw [L.gt.1] at hah2
 rw [show k + 1 + 1 + 1 = k + 3 by omega] at hsk
 generalize hk6 : k + 6 + m + 1 = k6 at *
 refine EF.of (by kernel_rfl) func248 rfl ?_
 refine EW.seq (EW.go 5 (by kernel_rfl) ?_)
 refine EW.asS (g1 bs (k + 1)) (by kernel_rfl) ?_
 refine EW.seq (EW.region (by kernel_rfl) ?_)
 refine EO.go 1 5 (by kernel_rfl) ?_
 refine EO.asS (g1 bs (k + 1)) (by kernel_rfl) ?_
 refine EO.callF #[aptr 66 0,str [9,10,12,13,32,47,62]] (by kernel_rfl) rfl rfl (by kernel_rfl) (by kernel_rfl) hup ?_
 refine EO.callF #[str [97]] (by kernel_rfl) rfl rfl (by kernel_rfl) (by kernel_rfl) (low97_f (k + 1 + 1)) ?_
 refine EO.fin 5 (by kernel_rfl) ?_
 refine EW.asS (g2 bs (k + 1 + 1)) (by kernel_rfl) ?_
 refine EW.block ?_
 refine EW.loop ?_
 refine EW.block ?_
 refine EW.seq (EW.region (by kernel_rfl) ?_)
 refine EO.go 1 5 (by kernel_rfl) ?_
 refine EO.asS (g2 bs (k + 1 + 1)) (by kernel_rfl) ?_
 refine EO.callF #[aptr 66 0] (by kernel_rfl) rfl rfl (by kernel_rfl) (by kernel_rfl) hsk ?_
 refine EO.fin 5 (by kernel_rfl) ?_
 refine EW.asS (g2 bs (k + 3)) (by kernel_rfl) ?_
 refine EW.seq (EW.seq (EW.region (by kernel_rfl) ?_))
 refine EO.go 1 5 (by kernel_rfl) ?_
 refine EO.asS (g2 bs (k + 3)) (by kernel_rfl) ?_
 refine EO.callF #[aptr 66 0,num 0] (by kernel_rfl) rfl rfl (by kernel_rfl) (by kernel_rfl) hah ?_
 refine EO.nil ?_
 refine EW.asS (g2 bs (k + 3)) (by kernel_rfl) ?_
 refine EW.go 9 (by kernel_rfl) ?_
 refine EW.asS (g2 bs (k + 3)) (by kernel_rfl) ?_
 refine EW.region (by kernel_rfl) ?_
 refine EO.go 1 5 (by kernel_rfl) ?_
 refine EO.asS (g2 bs (k + 3)) (by kernel_rfl) ?_
 refine EO.callF #[aptr 66 0] (by kernel_rfl) rfl rfl (by kernel_rfl) (by kernel_rfl) hta ?_
 refine EO.callF #[aptr 70 0, .agg #[str [98],str bs2]] (by kernel_rfl) rfl rfl (by kernel_rfl) (by kernel_rfl) (give_f k6) ?_
 refine EO.nil ?_
 refine EW.asS (g6 bs bs2 k6) (by kernel_rfl) ?_
 refine EW.loop ?_
 refine EW.block ?_
 refine EW.seq (EW.region (by kernel_rfl) ?_)
 refine EO.go 1 5 (by kernel_rfl) ?_
 refine EO.asS (g6 bs bs2 k6) (by kernel_rfl) ?_
 refine EO.callF #[aptr 66 0] (by kernel_rfl) rfl rfl (by kernel_rfl) (by kernel_rfl) hsk2 ?_
 refine EO.fin 5 (by kernel_rfl) ?_
 refine EW.asS (g6 bs bs2 k6) (by kernel_rfl) ?_
 refine EW.seq (EW.seq (EW.region (by kernel_rfl) ?_))
 refine EO.go 1 5 (by kernel_rfl) ?_
 refine EO.asS (g6 bs bs2 k6) (by kernel_rfl) ?_
 refine EO.callF #[aptr 66 0,num 0] (by kernel_rfl) rfl rfl (by kernel_rfl) (by kernel_rfl) hah2 ?_
 refine EO.nil ?_
 refine EW.asS (g6 bs bs2 k6) (by kernel_rfl) ?_
 refine EW.block ?_
 refine EW.seq (EW.go 9 (by kernel_rfl) ?_)
 refine EW.condF (by kernel_rfl) ?_
 refine EW.seq (EW.go 9 (by kernel_rfl) ?_)
 refine EW.condT (by kernel_rfl) ?_
 refine EW.asS (g6 bs bs2 k6) (by kernel_rfl) ?_
 refine EW.seq (EW.region (by kernel_rfl) ?_)
 refine EO.go 3 5 (by kernel_rfl) ?_
 refine EO.asS (g6 bs bs2 (k6)) (by kernel_rfl) ?_
 refine EO.op (by kernel_rfl) (op_ld (b := 66) (off := 1) (v := num ((k6 : Nat) : Int)) rfl underlying3 rfl (by kernel_rfl) ((famg6 (bs := bs) (bs2 := bs2)).get (k6)) rfl) ?_
 refine EO.op (by kernel_rfl) (zf3 (i := ((k6 : Nat) : Int)) (j := 1) (r := ((k6 + 1 : Nat) : Int)) rfl (by kernel_rfl) (by kernel_rfl) (by omega) (by omega)) ?_
 refine EO.go 2 5 (by kernel_rfl) ?_
 refine EO.asS (g6 bs bs2 (k6)) (by kernel_rfl) ?_
 refine EO.op (by kernel_rfl) (op_st (b := 66) (off := 1) (w := num ((k6 + 1 : Nat) : Int)) rfl (by kernel_rfl) (by kernel_rfl) rfl rfl (by kernel_rfl) ((famg6 (bs := bs) (bs2 := bs2)).get (k6)) (by simp)) ?_
 refine EO.nil ?_
 refine EW.asS (g6 bs bs2 (k6 + 1)) ((famg6 (bs := bs) (bs2 := bs2)).set (k6) (k6 + 1)) ?_
 refine EW.seq (EW.go 9 (by kernel_rfl) ?_)
 exact EW.ret ⟨.inr rfl,by kernel_rfl,by kernel_rfl⟩
end
end
end Go.Proofs.YtgcaionclkbehaaGreatDoor
