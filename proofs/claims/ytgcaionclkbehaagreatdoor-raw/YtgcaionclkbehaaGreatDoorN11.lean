import Derived.Test.YtgcaionclkbehaaGreatDoorR8
import Derived.Laws.BytesString
set_option linter.all false
namespace Go.Proofs.YtgcaionclkbehaaGreatDoor
open Tryz
section
open Go.Conc Go.RowKit Go.Lib
def BegQ (P : Program) (i : Nat) (cap : Bool) : Prop := ∀ (t w : List UInt8) (rest : List Int),EF P ktB (prQ0 P 65 t w i cap (hdL i cap ++ rest)) 71 #[aptr 66 0] (sc1 0) (.func (.func 148) #[aptr 66 0] #[]) (sc1b 0)
theorem begQ {i : Nat} (hi : i < 4) (cap : Bool) : BegQ prog i cap := by
 have hi' : i = 0 ∨ i = 1 ∨ i = 2 ∨ i = 3 := by omega
 rcases hi' with rfl | rfl | rfl | rfl <;> cases cap <;> exact fun t w rest => EF.eval 60 (by kernel_rfl)
theorem hd_at {i : Nat} (hi : i < 4) (cap : Bool) (rest : List Int) : lAt (hdL i cap ++ rest) 0 = 60 := by
 have hi' : i = 0 ∨ i = 1 ∨ i = 2 ∨ i = 3 := by omega
 rcases hi' with rfl | rfl | rfl | rfl <;> cases cap <;> rfl
section
variable {n i : Nat} {t w : List UInt8} {cap : Bool} {all : List Int} {s : AS} {nm bs : List UInt8}
structure RawL (all : List Int) (i : Nat) (cap : Bool) (m : Nat) (t : List UInt8) : Prop where
 hd : ∃ rest,all = hdL i cap ++ rest
 inn : ∀ j,j < m → lAt all (hdN i + j) ≠ -1 ∧ EndsAt all (hdN i + j) (tagOf i) false
 en : EndsAt all (hdN i + m) (tagOf i) true
 txt : zf4 ((all.drop (hdN i)).take m) = t
 tail : EndL all i cap (hdN i + m)
abbrev outQ (i : Nat) (t w : List UInt8) : List UInt8 := if Nat.ble 2 i = true then w else t
theorem of_q (hi : i < 4) {m : Nat} (L : RawL all i cap m t) (hwv : wrV t w t 0 = some (str w)) (h0 : t ≠ []) (hw0 : w ≠ []) (htl : t.length ≤ 1000000) (hwl : w.length ≤ 1000000)
  (hn1 : zb8 prog ktB (prQ0 prog 65 t w i cap all) n 71 #[aptr 66 0] (sc1 0) = some (.func (.func 148) #[aptr 66 0] #[],sc1b 0)) (hn2 : zb8 prog ktB (prQ0 prog 65 t w i cap all) n 71 #[aptr 66 0] (q1 (tagOf i) (outQ i t w) (hdN i + m)) = some (.func (.func 253) #[aptr 66 0] #[],q1b (tagOf i) (outQ i t w) (hdN i + m))) :
  EF prog ktB (prQ prog n 65 t w i cap all) 40 #[aptr 65 0] rd0 (slN 90 4) (q4 (tagOf i) (outQ i t w) [122] (hdN i + m + 2 + (zb5 i cap).length + 1 + 1 + 1)) := by
 have hk := L.tail.hk
 obtain ⟨rest,hrest⟩ := L.hd
 have hp := hpQ n 65 t w i cap all
 have h60 : lAt all 0 = 60 := by rw [hrest]; exact hd_at hi cap rest
 have ha1 := zj0 hp fam1 (k := 0) (by omega)
 rw [h60] at ha1
 have hb1 := begunF_q (n := n) (t := t) (w := w) (i := i) (cap := cap) fam1 h60 hn1
 have hinn := inner_q (n := n) (w := w) (cap := cap) hi (k := hdN i) (m := m) (by omega) L.inn L.tail.lt L.en L.txt hwv h0 hw0 htl hwl
 have hst : EF prog ktB (prQ prog n 65 t w i cap all) 148 #[aptr 66 0] (sc1b 0) (.tuple #[]) (q1 (tagOf i) (outQ i t w) (hdN i + m)) := by
  subst hrest
  exact start_q hi hinn
 have ha2 := zj0 hp (famq1 (nm := tagOf i) (bs := outQ i t w)) (k := hdN i + m) (by omega)
 rw [L.tail.lt] at ha2
 have hb2 := begunF_q (n := n) (t := t) (w := w) (i := i) (cap := cap) (famq1 (nm := tagOf i) (bs := outQ i t w)) L.tail.lt hn2
 have hbs0 : outQ i t w ≠ [] := by unfold outQ; split <;> assumption
 have hbsl : (outQ i t w).length ≤ 1000000 := by unfold outQ; split <;> assumption
 have hte := takeEnd_q (n := n) (t := t) (w := w) (bs := outQ i t w) L.tail hbs0 hbsl
 have hz := L.tail.z
 have hzT := L.tail.zT
 have hfin := L.tail.fin
 have hkk : hdN i + m + 2 + (zb5 i cap).length + 1 + 1 ≤ 700000 := by omega
 generalize hdN i + m + 2 + (zb5 i cap).length + 1 + 1 = k7 at hte hz hzT hfin hkk ⊢
 have ha3 := zj0 hp (famq2 (nm := tagOf i) (bs := outQ i t w)) (k := k7) (by omega)
 rw [hz] at ha3
 have hb3 := begun_q (n := n) (t := t) (w := w) (i := i) (cap := cap) (all := all) (famq2 (nm := tagOf i) (bs := outQ i t w)) (k := k7) (by omega) (by rw [hz]; decide)
 have htw := wordsZ_q (n := n) (t := t) (w := w) (i := i) (cap := cap) (nm := tagOf i) (bs := outQ i t w) (by omega) hz hzT hfin
 have ha4 := zj0 hp (famq3 (nm := tagOf i) (bs := outQ i t w) (bz := [122])) (k := k7 + 1) (by omega)
 rw [hfin] at ha4
 have he := endT2_q (n := n) (t := t) (w := w) (i := i) (cap := cap) (all := all) (nm := tagOf i) (ba := outQ i t w) (bs := [122]) (by simp) (by simp) (k7 + 1)
 generalize hdN i + m = kE at hst ha2 hb2 hte
 generalize hP : prQ prog n 65 t w i cap all = pP at *
 have h40 : pP 40 = none := by rw [← hP]; kernel_rfl
 clear hP
 generalize outQ i t w = bs at *
 generalize tagOf i = nm at *
 refine EF.of h40 func40 rfl ?_
 iterate 2
  refine EW.seq (EW.go 5 (by kernel_rfl) ?_)
 refine EW.asS (sc1 0) (by kernel_rfl) (EW.seq (EW.block ?_))
 refine EW.loop (EW.seq (EW.seq (EW.region (by kernel_rfl) ?_)))
 refine EO.callF #[aptr 66 0,num 0] (by kernel_rfl) rfl rfl (by kernel_rfl) (by kernel_rfl) ha1 (EO.fin 5 (by kernel_rfl) ?_)
 refine EW.condT (by kernel_rfl) (EW.skip (EW.block ?_))
 refine EW.asS (sc1 0) (by kernel_rfl) (EW.seq (EW.region (by kernel_rfl) ?_))
 refine EO.callF #[aptr 66 0] (by kernel_rfl) rfl rfl (by kernel_rfl) (by kernel_rfl) hb1 (EO.fin 5 (by kernel_rfl) ?_)
 refine EW.asS (sc1b 0) (by kernel_rfl) (EW.seq (EW.go 5 (by kernel_rfl) ?_))
 refine EW.condT (by kernel_rfl) (EW.asS (sc1b 0) (by kernel_rfl) ?_)
 refine EW.region (by kernel_rfl) (EO.gs 1 5 (sc1b 0) (by kernel_rfl) ?_)
 refine EO.call (f := .tmp 12) (g := 148) (first := #[aptr 66 0]) (cap := #[]) (args := #[aptr 66 0]) (by kernel_rfl) rfl rfl (by kernel_rfl) (by kernel_rfl) (by kernel_rfl) hst ?_
 refine EO.nil (EW.asS (q1 nm bs kE) (by kernel_rfl) ?_)
 refine EW.loop (EW.seq (EW.seq (EW.region (by kernel_rfl) ?_)))
 refine EO.callF #[aptr 66 0,num 0] (by kernel_rfl) rfl rfl (by kernel_rfl) (by kernel_rfl) ha2 (EO.fin 5 (by kernel_rfl) ?_)
 refine EW.condT (by kernel_rfl) (EW.skip (EW.block ?_))
 refine EW.asS (q1 nm bs kE) (by kernel_rfl) (EW.seq (EW.region (by kernel_rfl) ?_))
 refine EO.callF #[aptr 66 0] (by kernel_rfl) rfl rfl (by kernel_rfl) (by kernel_rfl) hb2 (EO.fin 5 (by kernel_rfl) ?_)
 refine EW.asS (q1b nm bs kE) (by kernel_rfl) (EW.seq (EW.go 5 (by kernel_rfl) ?_))
 refine EW.condT (by kernel_rfl) (EW.asS (q1b nm bs kE) (by kernel_rfl) ?_)
 refine EW.region (by kernel_rfl) (EO.gs 1 5 (q1b nm bs kE) (by kernel_rfl) ?_)
 refine EO.call (f := .tmp 12) (g := 253) (first := #[aptr 66 0]) (cap := #[]) (args := #[aptr 66 0]) (by kernel_rfl) rfl rfl (by kernel_rfl) (by kernel_rfl) (by kernel_rfl) hte ?_
 refine EO.nil (EW.asS (q2 nm bs k7) (by kernel_rfl) ?_)
 refine EW.loop (EW.seq (EW.seq (EW.region (by kernel_rfl) ?_)))
 refine EO.callF #[aptr 66 0,num 0] (by kernel_rfl) rfl rfl (by kernel_rfl) (by kernel_rfl) ha3 (EO.fin 5 (by kernel_rfl) ?_)
 refine EW.condT (by kernel_rfl) (EW.skip (EW.block ?_))
 refine EW.asS (q2 nm bs k7) (by kernel_rfl) (EW.seq (EW.region (by kernel_rfl) ?_))
 refine EO.callF #[aptr 66 0] (by kernel_rfl) rfl rfl (by kernel_rfl) (by kernel_rfl) hb3 (EO.fin 5 (by kernel_rfl) ?_)
 refine EW.seq (EW.go 5 (by kernel_rfl) (EW.condF (by kernel_rfl) ?_))
 refine EW.asS (q2 nm bs k7) (by kernel_rfl) (EW.region (by kernel_rfl) ?_)
 refine EO.callF #[aptr 66 0] (by kernel_rfl) rfl rfl (by kernel_rfl) (by kernel_rfl) htw (EO.nil ?_)
 refine EW.asS (q3 nm bs [122] (k7 + 1)) (by kernel_rfl) (EW.loop ?_)
 refine EW.seq (EW.seq (EW.region (by kernel_rfl) (EO.callF #[aptr 66 0,num 0] (by kernel_rfl) rfl rfl (by kernel_rfl) (by kernel_rfl) ha4 ?_)))
 refine EO.fin 5 (by kernel_rfl) (EW.asS (q3 nm bs [122] (k7 + 1)) (by kernel_rfl) ?_)
 refine EW.condF (by kernel_rfl) (EW.exit (EW.seq (EW.region (by kernel_rfl) ?_)))
 refine EO.asS (q3 nm bs [122] (k7 + 1)) (by kernel_rfl) (EO.callF #[aptr 66 0] (by kernel_rfl) rfl rfl (by kernel_rfl) (by kernel_rfl) he ?_)
 refine EO.nil (EW.asS (q4 nm bs [122] (k7 + 1)) (by kernel_rfl) ?_)
 refine EW.seq (EW.go 5 (by kernel_rfl) ?_)
 exact EW.ret ⟨.inr rfl,by kernel_rfl,by kernel_rfl⟩
end
end
section
open Go.Conc Go.RowKit Go.Lib
theorem enc1 {b : UInt8} (h : b.toNat < 128) : Lib.encodeRune ((b.toNat : Nat) : Int) = [b] := by
 unfold Lib.encodeRune
 rw [Lib.encodeRuneZ_one (by omega) (by omega)]
 simp
def AS.only (s : AS) : List Nat → AS
 | [] => ⟨[],s.nx⟩
 | b :: l => match s.get b with
  | some o => if okTy o = true then (s.only l).set b (some o) else s.only l
  | none => s.only l
theorem only_ok (l : List Nat) : SelOk fun s => s.only l := by
 intro s
 induction l with
 | nil => exact ⟨rfl,fun b o h => by simp only [AS.only] at h; unfold AS.get at h; simp at h⟩
 | cons b l ih =>
  simp only [AS.only]
  split
  ·
   next o ho =>
   split
   ·
    next hok =>
    refine ⟨ih.1,fun b' o' h => ?_⟩
    rw [AS.get_set] at h
    split at h
    ·
     next e => cases h; rw [e]; exact ⟨ho,hok⟩
    ·
     exact ih.2 b' o' h
   ·
    exact ih
  ·
   exact ih
end
section
open Go.Conc Go.RowKit Go.Lib
def It (c : Nat) : Prop := c < 128 ∨ c = 233
def itB (c : Nat) : List UInt8 := if c = 233 then [195,169] else [UInt8.ofNat c]
def itT (cl : List Nat) : List UInt8 := cl.flatMap itB
def itL (cl : List Nat) : List Int := cl.map fun c => ((c : Nat) : Int)
theorem itB_len (c : Nat) : 1 ≤ (itB c).length ∧ (itB c).length ≤ 2 := by unfold itB; split <;> simp
theorem zi6 (a b : List Nat) : itT (a ++ b) = itT a ++ itT b := by simp [itT]
theorem itT_len (cl : List Nat) : cl.length ≤ (itT cl).length ∧ (itT cl).length ≤ 2 * cl.length := by
 induction cl with
 | nil => simp [itT]
 | cons c cl ih =>
  have := itB_len c
  simp only [itT,List.flatMap_cons,List.length_append,List.length_cons] at ih ⊢
  omega
theorem get_ba {l : List UInt8} {k : Nat} {b : UInt8} (h : l[k]? = some b) : ∃ h1 : k < ByteArray.size ⟨l.toArray⟩,(ByteArray.mk l.toArray)[k]'h1 = b := by
 obtain ⟨hlt,hget⟩ := List.getElem?_eq_some_iff.1 h
 refine ⟨by simpa [ByteArray.size] using hlt,?_⟩
 show l.toArray[k] = b
 simpa using hget
theorem decode_it {l : List UInt8} {k c : Nat} (hc : It c) (h : (l.drop k).take (itB c).length = itB c) : k < ByteArray.size ⟨l.toArray⟩ ∧ Utf8.decode ⟨l.toArray⟩ k = (c,(itB c).length) := by
 have hpre : ∀ i,i < (itB c).length → l[k + i]? = (itB c)[i]? := by
  intro i hi
  rw [← h,List.getElem?_take_of_lt hi,List.getElem?_drop]
 by_cases h233 : c = 233
 ·
  subst h233
  have e0 : l[k]? = some 195 := hpre 0 (by decide)
  have e1 : l[k + 1]? = some 169 := hpre 1 (by decide)
  obtain ⟨l0,g0⟩ := get_ba e0
  obtain ⟨l1,g1⟩ := get_ba e1
  refine ⟨l0,?_⟩
  have b0 : (ByteArray.mk l.toArray).get! k = 195 := by
   have : (ByteArray.mk l.toArray).get! k = (ByteArray.mk l.toArray)[k]'l0 := by
    show l.toArray[k]! = l.toArray[k]
    exact getElem!_pos _ _ _
   rw [this,g0]
  have b1 : (ByteArray.mk l.toArray).get! (k + 1) = 169 := by
   have : (ByteArray.mk l.toArray).get! (k + 1) = (ByteArray.mk l.toArray)[k + 1]'l1 := by
    show l.toArray[k + 1]! = l.toArray[k + 1]
    exact getElem!_pos _ _ _
   rw [this,g1]
  unfold Utf8.decode
  simp only [Nat.add_zero,b0,b1]
  have hl1 : decide (k + 1 < ByteArray.size ⟨l.toArray⟩) = true := decide_eq_true l1
  simp [hl1,l1]
  rfl
 ·
  have hlt : c < 128 := hc.resolve_right h233
  have hb : itB c = [UInt8.ofNat c] := by unfold itB; rw [if_neg h233]
  have e0 : l[k]? = some (UInt8.ofNat c) := by
   have := hpre 0 (by rw [hb]; simp)
   rw [hb] at this
   simpa using this
  obtain ⟨l0,g0⟩ := get_ba e0
  have hn : (UInt8.ofNat c).toNat = c := by
   have := u8n (n := c) (by omega)
   omega
  refine ⟨l0,?_⟩
  rw [decode_low l0 (by rw [g0,hn]; exact hlt),g0,hn,hb]
  rfl
theorem round_it {l : List UInt8} : ∀ {cl : List Nat} {k : Nat},(∀ c ∈ cl,It c) → l.drop k = itT cl → k ≤ l.length → RoundL ⟨l.toArray⟩ k (itL cl)
 | [],k,_,h,hk => by
  show ¬ k < ByteArray.size ⟨l.toArray⟩
  have : (l.drop k).length = 0 := by rw [h]; rfl
  simp at this
  simp [ByteArray.size]
  omega
 | c :: cl,k,ha,h,hk => by
  have hb : (l.drop k).take (itB c).length = itB c := by rw [h]; simp [itT]
  obtain ⟨h1,h2⟩ := decode_it (ha c (by simp)) hb
  refine ⟨h1,by rw [h2],?_⟩
  rw [h2]
  have hlen : (l.drop k).length = (itB c).length + (itT cl).length := by rw [h]; simp [itT]
  simp at hlen
  refine round_it (fun x hx => ha x (by simp [hx])) ?_ (by omega)
  rw [← List.drop_drop,h]
  simp [itT]
theorem utf8_it : ∀ {cl : List Nat},(∀ c ∈ cl,It c) → zf4 (itL cl) = itT cl
 | [],_ => rfl
 | c :: cl,h => by
  show Lib.encodeRune ((c : Nat) : Int) ++ zf4 (itL cl) = itB c ++ itT cl
  rw [utf8_it fun x hx => h x (by simp [hx])]
  congr 1
  by_cases h233 : c = 233
  ·
   subst h233; decide +kernel
  ·
   have hlt : c < 128 := (h c (by simp)).resolve_right h233
   have hn : (UInt8.ofNat c).toNat = c := by
    have := u8n (n := c) (by omega)
    omega
   have := enc1 (b := UInt8.ofNat c) (by omega)
   rw [hn] at this
   rw [this]
   unfold itB
   rw [if_neg h233]
theorem good_it {cl : List Nat} (h : ∀ c ∈ cl,It c) : ∀ r ∈ itL cl,Good r := by
 intro r hr
 obtain ⟨c,hc,rfl⟩ := List.mem_map.1 hr
 rcases h c hc with h | h
 iterate 2
  ·
   exact .inl ⟨by omega,by omega⟩
end
section
open Go.Conc Go.RowKit Go.Lib
def tailL : Nat → Bool → List Int
 | 0,false => [60,47,115,99,114,105,112,116,32,62,122]
 | 0,true => [60,47,83,67,82,73,80,84,32,62,122]
 | 1,false => [60,47,115,116,121,108,101,32,62,122]
 | 1,true => [60,47,83,116,121,108,101,32,62,122]
 | 2,false => [60,47,116,105,116,108,101,32,62,122]
 | 2,true => [60,47,116,73,116,76,101,32,62,122]
 | _,false => [60,47,116,101,120,116,97,114,101,97,32,62,122]
 | _,true => [60,47,84,69,88,84,65,82,69,65,32,62,122]
def hdNn : Nat → Bool → List Nat
 | 0,false => [60,115,99,114,105,112,116,32,97,61,49,62]
 | 0,true => [60,83,67,82,73,80,84,32,97,61,49,62]
 | 1,false => [60,115,116,121,108,101,32,97,61,49,62]
 | 1,true => [60,83,116,121,108,101,32,97,61,49,62]
 | 2,false => [60,116,105,116,108,101,32,97,61,49,62]
 | 2,true => [60,116,73,116,76,101,32,97,61,49,62]
 | _,false => [60,116,101,120,116,97,114,101,97,32,97,61,49,62]
 | _,true => [60,84,69,88,84,65,82,69,65,32,97,61,49,62]
def tailN : Nat → Bool → List Nat
 | 0,false => [60,47,115,99,114,105,112,116,32,62,122]
 | 0,true => [60,47,83,67,82,73,80,84,32,62,122]
 | 1,false => [60,47,115,116,121,108,101,32,62,122]
 | 1,true => [60,47,83,116,121,108,101,32,62,122]
 | 2,false => [60,47,116,105,116,108,101,32,62,122]
 | 2,true => [60,47,116,73,116,76,101,32,62,122]
 | _,false => [60,47,116,101,120,116,97,114,101,97,32,62,122]
 | _,true => [60,47,84,69,88,84,65,82,69,65,32,62,122]
def midN : Nat → List Nat
 | 0 => [60,98,62,38,108,116,59,60,47,115,99,114,105,112,116,120,62]
 | 1 => [60,98,62,38,108,116,59,60,47,115,116,121,108,101,120,62]
 | 2 => [60,98,62,38,108,116,59,60,47,116,105,116,108,101,120,62]
 | _ => [60,98,62,38,108,116,59,60,47,116,101,120,116,97,114,101,97,120,62]
def inN (i : Nat) (cl : List Nat) : List Nat := cl ++ (midN i ++ (cl ++ [60,33,45,45]))
def pageN (i : Nat) (cap : Bool) (cl : List Nat) : List Nat := hdNn i cap ++ (inN i cl ++ tailN i cap)
theorem zg0 (A B : List Int) (j : Nat) : lAt (A ++ B) (A.length + j) = lAt B j := by
 unfold lAt
 rw [List.getElem?_append_right (by omega),show A.length + j - A.length = j by omega]
theorem lAt_left {A B : List Int} {j : Nat} (h : j < A.length) : lAt (A ++ B) j = lAt A j := by
 unfold lAt
 rw [List.getElem?_append_left h]
theorem hasT_right (A B : List Int) : ∀ (l : List UInt8) (q : Nat),hasT (A ++ B) (A.length + q) l = hasT B q l
 | [],q => rfl
 | b :: l,q => by
  simp only [hasT]
  rw [zg0,Nat.add_assoc,hasT_right A B l (q + 1)]
theorem hasT_left (A B : List Int) : ∀ (l : List UInt8) (q : Nat),q + l.length ≤ A.length → hasT (A ++ B) q l = hasT A q l
 | [],q,_ => rfl
 | b :: l,q,h => by
  simp only [List.length_cons] at h
  simp only [hasT]
  rw [lAt_left (by omega),hasT_left A B l (q + 1) (by omega)]
theorem EndsAt.right {A B : List Int} {q : Nat} {nm : List UInt8} {b : Bool} (h : EndsAt B q nm b) : EndsAt (A ++ B) (A.length + q) nm b := by
 unfold EndsAt at h ⊢
 have e : A.length + q + (2 + nm.length) = A.length + (q + (2 + nm.length)) := Nat.add_assoc ..
 rw [hasT_right,e,zg0]
 exact h
theorem low_at {x : Int} {c : Int} (hc : c < 65) (h : lowI x = c) : x = c := by
 unfold lowI at h
 split at h <;> omega
theorem endsF1 {all : List Int} {q : Nat} {nm : List UInt8} (h : lAt all q ≠ 60) : EndsAt all q nm false := by
 refine .inl ⟨rfl,?_⟩
 show hasT all q (60 :: 47 :: nm) = false
 simp only [hasT]
 rw [Bool.and_eq_false_iff]
 refine .inl (beq_eq_false_iff_ne.2 fun e => h (low_at (by decide) (e.trans (by decide))))
theorem endsF2 {all : List Int} {q : Nat} {nm : List UInt8} (h : lAt all (q + 1) ≠ 47) : EndsAt all q nm false := by
 refine .inl ⟨rfl,?_⟩
 show hasT all q (60 :: 47 :: nm) = false
 simp only [hasT]
 rw [Bool.and_eq_false_iff]
 refine .inr ?_
 rw [Bool.and_eq_false_iff]
 refine .inl (beq_eq_false_iff_ne.2 fun e => h (low_at (by decide) (e.trans (by decide))))
def chkE (M : List Int) (nm : List UInt8) (d : Nat) : Bool := (lAt M d != 60) || (decide (d + 1 < M.length) && lAt M (d + 1) != 47) || (decide (d + (2 + nm.length) < M.length) && hasT M d ([60,47] ++ nm) && lAt M (d + (2 + nm.length)) == 120)
theorem chkE_ok {M R : List Int} {nm : List UInt8} {d : Nat} (hd : d < M.length) (h : chkE M nm d = true) : EndsAt (M ++ R) d nm false := by
 unfold chkE at h
 simp only [Bool.or_eq_true,Bool.and_eq_true,decide_eq_true_eq,bne_iff_ne,beq_iff_eq] at h
 rcases h with (h | ⟨h1,h2⟩) | ⟨⟨h1,h2⟩,h3⟩
 ·
  exact endsF1 (by rw [lAt_left hd]; exact h)
 ·
  exact endsF2 (by rw [lAt_left h1]; exact h2)
 ·
  refine .inr ⟨?_,?_,?_⟩
  ·
   rw [hasT_left _ _ _ _ (by simp; omega)]; exact h2
  iterate 2
   ·
    rw [lAt_left h1,h3]; decide
theorem nmOf {B : List Int} {k m : Nat} {stops : List UInt8} (h : (List.range m).all (fun j => decide (0 ≤ lAt B (k + 2 + j)) && decide (lAt B (k + 2 + j) < 128) && !(stops.contains (UInt8.ofNat (lAt B (k + 2 + j)).toNat))) = true) : ∀ j,j < m → ∃ b,isB B (k + 2 + j) b ∧ b ∉ stops := by
 intro j hj
 have := List.all_eq_true.1 h j (List.mem_range.2 hj)
 simp only [Bool.and_eq_true,decide_eq_true_eq,Bool.not_eq_true',List.contains_eq_mem,decide_eq_false_iff_not] at this
 obtain ⟨⟨h1,h2⟩,h3⟩ := this
 have e := u8n (n := (lAt B (k + 2 + j)).toNat) (by omega)
 exact ⟨UInt8.ofNat (lAt B (k + 2 + j)).toNat,⟨by rw [e]; omega,by omega⟩,h3⟩
section
variable {i : Nat} {cap : Bool} {cl : List Nat}
theorem cases4 (hi : i < 4) : i = 0 ∨ i = 1 ∨ i = 2 ∨ i = 3 := by omega
theorem tail_ok (hi : i < 4) (cap : Bool) : EndL (tailL i cap) i cap 0 ∧ EndsAt (tailL i cap) 0 (tagOf i) true := by
 rcases cases4 hi with rfl | rfl | rfl | rfl <;> cases cap <;> exact ⟨⟨rfl,rfl,⟨_,rfl,by decide⟩,nmOf (by decide),by decide +kernel,⟨rfl,by decide⟩,⟨rfl,by decide⟩,rfl,by decide +kernel,rfl,by decide⟩, .inr ⟨by decide,by decide,by decide⟩⟩
theorem EndL.right {A B : List Int} (h : EndL B i cap 0) (hk : A.length + (zb5 i cap).length ≤ 600000) : EndL (A ++ B) i cap A.length := by
 have hd : ∀ j,(A ++ B).drop (A.length + j) = B.drop j := fun j => by rw [← List.drop_drop,List.drop_left]
 refine ⟨?_,?_,?_,fun j hj => ?_,?_,⟨?_,h.sp.2⟩,⟨?_,h.gt.2⟩,?_,?_,?_,hk⟩
 ·
  have := zg0 A B 0
  rw [Nat.add_zero] at this
  rw [this]; exact h.lt
 ·
  rw [zg0]; exact h.sla
 ·
  rw [zg0]; exact h.c0
 ·
  obtain ⟨b,hb,hn⟩ := h.nm j hj
  refine ⟨b,⟨?_,hb.2⟩,hn⟩
  rw [show A.length + 2 + j = A.length + (0 + 2 + j) by omega,zg0]; exact hb.1
 ·
  rw [hd]; exact h.nmT
 ·
  rw [show A.length + 2 + (zb5 i cap).length = A.length + (0 + 2 + (zb5 i cap).length) by omega,zg0]; exact h.sp.1
 ·
  rw [show A.length + 2 + (zb5 i cap).length + 1 = A.length + (0 + 2 + (zb5 i cap).length + 1) by omega,zg0]; exact h.gt.1
 ·
  rw [show A.length + 2 + (zb5 i cap).length + 1 + 1 = A.length + (0 + 2 + (zb5 i cap).length + 1 + 1) by omega,zg0]; exact h.z
 ·
  rw [show A.length + 2 + (zb5 i cap).length + 1 + 1 = A.length + (0 + 2 + (zb5 i cap).length + 1 + 1) by omega,hd]; exact h.zT
 ·
  rw [show A.length + 2 + (zb5 i cap).length + 1 + 1 + 1 = A.length + (0 + 2 + (zb5 i cap).length + 1 + 1 + 1) by omega,zg0]; exact h.fin
theorem itL_app (a b : List Nat) : itL (a ++ b) = itL a ++ itL b := by simp [itL]
theorem zh5 (a : List Nat) : (itL a).length = a.length := by simp [itL]
theorem itL_hd (hi : i < 4) (cap : Bool) : itL (hdNn i cap) = hdL i cap ∧ hdN i = (hdL i cap).length ∧ itL (tailN i cap) = tailL i cap ∧ (zb5 i cap).length ≤ 8 ∧ hdN i ≤ 14 := by
 rcases cases4 hi with rfl | rfl | rfl | rfl <;> cases cap <;> exact ⟨rfl,rfl,rfl,by decide,by decide⟩
theorem mid_ok (hi : i < 4) : (List.range (itL (midN i)).length).all (chkE (itL (midN i)) (tagOf i)) = true ∧ (midN i).length ≤ 19 := by
 rcases cases4 hi with rfl | rfl | rfl | rfl <;> exact ⟨by decide,by decide⟩
theorem fin_ok (hi : i < 4) : (List.range 4).all (chkE [60,33,45,45] (tagOf i)) = true := by
 rcases cases4 hi with rfl | rfl | rfl | rfl <;> decide
theorem lAt_it {l : List Nat} {j : Nat} (h : j < l.length) : lAt (itL l) j = ((l[j] : Nat) : Int) := by
 unfold lAt itL
 rw [List.getElem?_map,List.getElem?_eq_getElem h]
 rfl
def Cl (cl : List Nat) : Prop := ∀ c ∈ cl,It c ∧ c ≠ 60 ∧ c ≠ 38
theorem cl_at {B : List Int} (h : Cl cl) {j : Nat} (hj : j < cl.length) : lAt (itL cl ++ B) j ≠ 60 := by
 rw [lAt_left (by rw [zh5]; exact hj),lAt_it hj]
 have := (h _ (List.getElem_mem hj)).2.1
 omega
theorem inner_ends (hi : i < 4) (h : Cl cl) {j : Nat} (hj : j < (inN i cl).length) : EndsAt (itL (inN i cl) ++ tailL i cap) j (tagOf i) false := by
 have hm := mid_ok hi
 have hf := fin_ok hi
 have e : itL (inN i cl) ++ tailL i cap = itL cl ++ (itL (midN i) ++ (itL cl ++ ([60,33,45,45] ++ tailL i cap))) := by
  unfold inN
  rw [itL_app,itL_app,itL_app]
  simp only [List.append_assoc]
  rfl
 have hlen : (inN i cl).length = cl.length + ((midN i).length + (cl.length + 4)) := by simp [inN]
 rw [e]
 by_cases h1 : j < cl.length
 ·
  exact endsF1 (cl_at h h1)
 ·
  obtain ⟨d,rfl⟩ : ∃ d,j = (itL cl).length + d := ⟨j - cl.length,by rw [zh5]; omega⟩
  rw [zh5] at hj
  refine EndsAt.right ?_
  by_cases h2 : d < (midN i).length
  ·
   refine chkE_ok (by rw [zh5]; exact h2) (List.all_eq_true.1 hm.1 d (List.mem_range.2 (by rw [zh5]; exact h2)))
  ·
   obtain ⟨q,rfl⟩ : ∃ q,d = (itL (midN i)).length + q := ⟨d - (midN i).length,by rw [zh5]; omega⟩
   rw [zh5] at hj h2
   refine EndsAt.right ?_
   by_cases h3 : q < cl.length
   ·
    exact endsF1 (cl_at h h3)
   ·
    obtain ⟨f,rfl⟩ : ∃ f,q = (itL cl).length + f := ⟨q - cl.length,by rw [zh5]; omega⟩
    rw [zh5] at hj
    refine EndsAt.right ?_
    have h4 : f < 4 := by omega
    exact chkE_ok (by simpa using h4) (List.all_eq_true.1 hf f (List.mem_range.2 h4))
theorem It_lit : ∀ c ∈ [60,33,45,45],It c := by
 intro c hc
 simp at hc
 rcases hc with rfl | rfl | rfl | rfl <;> exact .inl (by decide)
theorem lit_ok (hi : i < 4) (cap : Bool) : (∀ c ∈ hdNn i cap,c < 128) ∧ (∀ c ∈ midN i,c < 128) ∧ ∀ c ∈ tailN i cap,c < 128 := by
 rcases cases4 hi with rfl | rfl | rfl | rfl <;> cases cap <;> decide
theorem in_it (hi : i < 4) (h : Cl cl) : ∀ c ∈ inN i cl,It c := by
 have hl := lit_ok hi false
 intro c hc
 simp only [inN,List.mem_append] at hc
 rcases hc with hc | hc | hc | hc
 ·
  exact (h c hc).1
 ·
  exact .inl (hl.2.1 c hc)
 ·
  exact (h c hc).1
 ·
  exact It_lit c hc
theorem page_it (hi : i < 4) (h : Cl cl) : ∀ c ∈ pageN i cap cl,It c := by
 have hl := lit_ok hi cap
 intro c hc
 simp only [pageN,List.mem_append] at hc
 rcases hc with hc | hc | hc
 ·
  exact .inl (hl.1 c hc)
 ·
  exact in_it hi h c hc
 ·
  exact .inl (hl.2.2 c hc)
theorem raw_of (hi : i < 4) (cap : Bool) (h : Cl cl) (hlen : cl.length ≤ 1000) : RawL (itL (pageN i cap cl)) i cap (inN i cl).length (itT (inN i cl)) := by
 have hH := itL_hd hi cap
 have hT := tail_ok hi cap
 have hm := mid_ok hi
 have hlen2 : (inN i cl).length = cl.length + ((midN i).length + (cl.length + 4)) := by simp [inN]
 have e : itL (pageN i cap cl) = hdL i cap ++ (itL (inN i cl) ++ tailL i cap) := by
  unfold pageN
  rw [itL_app,itL_app,hH.1,hH.2.2.1]
 have e2 : itL (pageN i cap cl) = (hdL i cap ++ itL (inN i cl)) ++ tailL i cap := by rw [e,List.append_assoc]
 have eK : hdN i + (inN i cl).length = (hdL i cap ++ itL (inN i cl)).length := by rw [List.length_append,zh5,hH.2.1]
 refine ⟨⟨_,e⟩,fun j hj => ⟨?_,?_⟩,?_,?_,?_⟩
 ·
  rw [e,hH.2.1,zg0,lAt_left (by rw [zh5]; exact hj),lAt_it hj]
  omega
 ·
  rw [e,hH.2.1]
  exact EndsAt.right (inner_ends hi h hj)
 ·
  rw [e2,eK]
  exact EndsAt.right (q := 0) hT.2
 ·
  rw [e,hH.2.1,List.drop_left, ← zh5 (inN i cl),List.take_left,utf8_it (in_it hi h)]
 ·
  rw [e2,eK]
  exact EndL.right hT.1 (by rw [← eK]; omega)
theorem all_ok (hi : i < 4) (cap : Bool) (h : Cl cl) (k : Nat) : -1 ≤ lAt (itL (pageN i cap cl)) k ∧ lAt (itL (pageN i cap cl)) k ≤ 1114111 := by
 by_cases hk : k < (pageN i cap cl).length
 ·
  rw [lAt_it hk]
  rcases page_it hi h _ (List.getElem_mem hk) with q | q <;> omega
 ·
  unfold lAt
  rw [List.getElem?_eq_none (by rw [zh5]; omega)]
  decide
end
end
section
open Go.Conc Go.RowKit Go.Lib
def rawT (C nm : List UInt8) : List UInt8 := C ++ [60,98,62,38,108,116,59,60,47] ++ nm ++ [120,62] ++ C ++ [60,33,45,45]
def rawW (C nm : List UInt8) : List UInt8 := C ++ [60,98,62,60,60,47] ++ nm ++ [120,62] ++ C ++ [60,33,45,45]
def rawP (sp t : List UInt8) : List UInt8 := [60] ++ sp ++ [32,97,61,49,62] ++ t ++ [60,47] ++ sp ++ [32,62] ++ [122]
def tk2 (nm bs : List UInt8) : AS := (((⟨[],91⟩ : AS).set 90 (some (.cells (tkS nm ++ tokT bs ++ tkE nm ++ tokT [122]).toArray 60 (1,1)))).set 64 (some (.cells #[slN 90 4] 56))).set 1 (some (.cells entC.toArray 335))
section
variable {i : Nat} {cap : Bool} {cl : List Nat}
theorem itT_mid (hi : i < 4) : itT (midN i) = [60,98,62,38,108,116,59,60,47] ++ tagOf i ++ [120,62] := by
 rcases cases4 hi with rfl | rfl | rfl | rfl <;> decide
theorem itT_ends (hi : i < 4) (cap : Bool) : itT (hdNn i cap) = [60] ++ zb5 i cap ++ [32,97,61,49,62] ∧ itT (tailN i cap) = [60,47] ++ zb5 i cap ++ [32,62] ++ [122] := by
 rcases cases4 hi with rfl | rfl | rfl | rfl <;> cases cap <;> exact ⟨by decide,by decide⟩
theorem itT_in (hi : i < 4) (cl : List Nat) : itT (inN i cl) = rawT (itT cl) (tagOf i) := by
 unfold inN rawT
 rw [zi6,zi6,zi6,itT_mid hi]
 simp only [List.append_assoc]
 rfl
theorem itT_page (hi : i < 4) (cap : Bool) (cl : List Nat) : itT (pageN i cap cl) = rawP (zb5 i cap) (rawT (itT cl) (tagOf i)) := by
 unfold pageN rawP
 rw [zi6,zi6,(itT_ends hi cap).1,(itT_ends hi cap).2,itT_in hi]
 simp only [List.append_assoc]
theorem no38 (h : Cl cl) : (38 : UInt8) ∉ itT cl := by
 intro hm
 obtain ⟨c,hc,hb⟩ := List.mem_flatMap.1 hm
 obtain ⟨h1,h2,h3⟩ := h c hc
 unfold itB at hb
 split at hb
 ·
  simp at hb
 ·
  next h233 =>
  have hlt : c < 128 := h1.resolve_right h233
  rw [List.mem_singleton] at hb
  have e := u8n (n := c) (by omega)
  rw [← hb] at e
  simp at e
  omega
theorem tag38 (hi : i < 4) : (38 : UInt8) ∉ tagOf i ∧ (tagOf i).length ≤ 8 := by
 rcases cases4 hi with rfl | rfl | rfl | rfl <;> exact ⟨by decide,by decide⟩
theorem raw_len (C nm : List UInt8) : (rawT C nm).length = 2 * C.length + nm.length + 15 ∧ (rawW C nm).length = 2 * C.length + nm.length + 12 := by
 unfold rawT rawW
 constructor <;> simp <;> omega
theorem raw_split (hi : i < 4) (h : Cl cl) (hl : (itT cl).length ≤ 1000) : ∃ a r,(38 : UInt8) ∉ a ∧ (38 : UInt8) ∉ r ∧ r ≠ [] ∧ a.length + r.length ≤ 800000 ∧ rawT (itT cl) (tagOf i) = a ++ 38 :: 108 :: 116 :: 59 :: r ∧ rawW (itT cl) (tagOf i) = a ++ [60] ++ r := by
 have h1 := no38 h
 have h2 := tag38 hi
 refine ⟨itT cl ++ [60,98,62], [60,47] ++ tagOf i ++ [120,62] ++ itT cl ++ [60,33,45,45],?_,?_,by simp,by simp; omega,?_,?_⟩
 ·
  simp [h1]
 ·
  simp [h1,h2.1]
 ·
  simp [rawT]
 ·
  simp [rawW]
theorem tokens_q (hi : i < 4) (h : Cl cl) (hl : (itT cl).length ≤ 1000) : ∃ n n1, ∀ pr : Prim,pr 30 = none → EF prog ktB (prTx prog n 65 ⟨(rawP (zb5 i cap) (rawT (itT cl) (tagOf i))).toArray⟩ (fun s => s.only [1,64,90]) (prQ prog n1 65 (rawT (itT cl) (tagOf i)) (rawW (itT cl) (tagOf i)) i cap (itL (pageN i cap cl))) pr) 30 #[str (rawP (zb5 i cap) (rawT (itT cl) (tagOf i)))] ⟨sA.hp,64⟩ (.tuple #[slN 90 4,num 0]) (tk2 (tagOf i) (outQ i (rawT (itT cl) (tagOf i)) (rawW (itT cl) (tagOf i)))) := by
 have hlc := itT_len cl
 have L := raw_of hi cap h (by omega)
 rw [itT_in hi] at L
 obtain ⟨rest,hrest⟩ := L.hd
 have hlen := raw_len (itT cl) (tagOf i)
 have h38 := tag38 hi
 have hsp := (itL_hd hi cap).2.2.2.1
 have hPl : (rawP (zb5 i cap) (rawT (itT cl) (tagOf i))).length ≤ 20000 := by
  unfold rawP
  simp only [List.length_append,List.length_cons,List.length_nil]
  omega
 have h0 : rawT (itT cl) (tagOf i) ≠ [] := fun e => by rw [e] at hlen; simp at hlen
 have hw0 : rawW (itT cl) (tagOf i) ≠ [] := fun e => by rw [e] at hlen; simp at hlen
 have htl : (rawT (itT cl) (tagOf i)).length ≤ 1000000 := by omega
 have hwl : (rawW (itT cl) (tagOf i)).length ≤ 1000000 := by omega
 have hwv : wrV (rawT (itT cl) (tagOf i)) (rawW (itT cl) (tagOf i)) (rawT (itT cl) (tagOf i)) 0 = some (str (rawW (itT cl) (tagOf i))) := by
  unfold wrV
  rw [if_neg (by simp),if_neg ?_,if_pos ⟨rfl,rfl⟩]
  rintro ⟨e,_⟩
  rw [(zl5 _ _).1 e] at hlen
  simp at hlen
 generalize hal : itL (pageN i cap cl) = all at L hrest
 generalize rawT (itT cl) (tagOf i) = t at *
 generalize rawW (itT cl) (tagOf i) = w at *
 have hb1 : EF prog ktB (prQ0 prog 65 t w i cap all) 71 #[aptr 66 0] (sc1 0) (.func (.func 148) #[aptr 66 0] #[]) (sc1b 0) := by
  rw [hrest]
  exact begQ hi cap t w rest
 obtain ⟨c,hc1,hc2⟩ := L.tail.c0
 have hb2 := beg2_e (t := t) (w := w) (i := i) (cap := cap) (nm := tagOf i) (bs := outQ i t w) (by have := L.tail.hk; omega) L.tail.lt L.tail.sla hc1 hc2
 obtain ⟨m1,hm1⟩ := hb1
 obtain ⟨m2,hm2⟩ := hb2
 have hof := of_q (n := max m1 m2) hi L hwv h0 hw0 htl hwl (zj2 (Nat.le_max_left _ _) _ _ _ _ hm1) (zj2 (Nat.le_max_right _ _) _ _ _ _ hm2)
 generalize hdN i + (inN i cl).length + 2 + (zb5 i cap).length + 1 + 1 + 1 = k7 at hof
 generalize outQ i t w = bs at *
 generalize hnm : tagOf i = nm at hof ⊢
 generalize hpx : prQ prog (max m1 m2) 65 t w i cap all = prx at hof
 have hw : EW prog ktB prx (match Tryz.f48.body with | some c => c | none => .skip) ((aptr 65 0 :: (#[aptr 64 0] : Array Value).toList) ++ List.replicate (Tryz.f48.ntmps - ((#[aptr 64 0] : Array Value).size + 1)) undef) ⟨((⟨sA.hp,64⟩ : AS).add (.cells #[.slice none 0 0] 56)).hp,65 + 1⟩ fun e _ s' => (e = .normal ∨ e = .ret) ∧ AS.keeps ((⟨sA.hp,64⟩ : AS).add (.cells #[.slice none 0 0] 56)) s' = true ∧ s'.only [1,64,90] = tk2 nm bs := by
  refine EW.region (by kernel_rfl) (EO.gc 1 5 (by kernel_rfl) hof ?_)
  refine EO.fin 5 (by kernel_rfl) ?_
  exact ⟨.inl rfl,by kernel_rfl,by kernel_rfl⟩
 obtain ⟨n,hn⟩ := prTx_e (str := ⟨(rawP (zb5 i cap) t).toArray⟩) (r0 := 65) (sel := fun s => s.only [1,64,90]) (prx := prx) (s := (⟨sA.hp,64⟩ : AS).add (.cells #[.slice none 0 0] 56)) (s1 := tk2 nm bs) (f := 48) (y := #[aptr 64 0]) func48 rfl rfl rfl (by kernel_rfl) (by kernel_rfl) hw
 refine ⟨n,max m1 m2,fun pr h30 => ?_⟩
 have h47 := hn pr
 rw [hpx]
 generalize hP : prTx prog n 65 ⟨(rawP (zb5 i cap) t).toArray⟩ (fun s => s.only [1,64,90]) prx pr = pP at h47
 have h30' : pP 30 = none := by rw [← hP]; unfold prTx; exact h30
 generalize hT : rawP (zb5 i cap) t = T at *
 refine EF.of h30' func30 rfl ?_
 refine EW.seq (EW.go 5 (by kernel_rfl) (EW.seq (EW.seq (EW.region (by kernel_rfl) ?_))))
 refine EO.go 1 5 (by kernel_rfl) (EO.op (by kernel_rfl) (zl0 (l := T) rfl underlying9 (by kernel_rfl)) ?_)
 refine EO.op (by kernel_rfl) (zc4 (u := num (T.length : Nat)) (w := num 20000) rfl (by kernel_rfl) (by kernel_rfl) (bin_gtr (b := false) (decide_eq_false (by omega)))) (EO.nil ?_)
 refine EW.condF (by kernel_rfl) (EW.skip (EW.seq (EW.go 5 (by kernel_rfl) ?_)))
 refine EW.asS ((⟨sA.hp,64⟩ : AS).add (.cells #[.slice none 0 0] 56)) (by kernel_rfl) (EW.seq (EW.region (by kernel_rfl) ?_))
 refine EO.gc 2 5 (by kernel_rfl) h47 (EO.nil ?_)
 refine EW.asS (tk2 nm bs) (by kernel_rfl) (EW.seq (EW.go 5 (by kernel_rfl) ?_))
 exact EW.ret ⟨.inr rfl,by kernel_rfl,by kernel_rfl⟩
end
end
section
open Go.Conc Go.RowKit Go.Lib
section
variable {ι : Type} {P : Program} {KT : TypeId → Prop} {An : Who} {N0 : ι → Nat} {M : ι → World → Nat → Prop} {O : ι → Nat → Prop} {R : ι → World → World → Prop} {D : ι → World → World → Array Event → Prop} {X : ι → Goroutine → World → Prop} {Hd : ι → List (Nat × Obj) → World → Prop} {kt : TypeId → Bool} {pr : Prim}
def WI (P : Program) (KT : TypeId → Prop) (An : Who) (X : ι → Goroutine → World → Prop) (Hd : ι → List (Nat × Obj) → World → Prop) (c : Code) (aA : TL) (s : AS) (Q : Exit → TL → AS → Prop) : Prop :=
 ∀ (fn : FuncId) (S : Who) (l fr : List (Nat × Obj)) (i : ι) (w : World) (a : Act) (Q' : PostI ι),Sim P KT An S s l → Hd i (l ++ fr) w → AR (VR S) aA.toArray a.tmps → a.defers = [] → (∀ b,s.nx ≤ b → S b = none) →
  (∀ e aA' s' i' S' l' w' a',Q e aA' s' → Sim P KT An S' s' l' → Hd i' (l' ++ fr) w' → AR (VR S') aA'.toArray a'.tmps → a'.defers = [] → (∀ b,s'.nx ≤ b → S' b = none) → Q' i' e a' w') → wpI X fn c i Q' a w
variable {aA : TL} {s s1 : AS} {Q : Exit → TL → AS → Prop} {K : TL → AS → Prop} {c x y : Code} {ops : Array Oper} {o : Oper} {v : Value}
theorem WI.of (Y : Cy P KT N0 M O R D X Hd) (hm : P.follows .mixedOrders = true) (hkt : ∀ t, kt t = false → ¬ KT t) (hp : PrimOk P KT An R D X Hd pr) (hnm : ∀ (f : FuncId) (f₀ : Func), P.funcs[f]? = some f₀ → (f₀.name == "runtime.NumGoroutine") = false) (h : EW P kt pr c aA s Q) : WI P KT An X Hd c aA s Q := by
 obtain ⟨n,e,aA',s',h1,h2⟩ := h
 intro fn S l fr i w a Q' hS hF hA hd hfr k
 have hnx := (ev_nx (P := P) (kt := kt) hp.nx n).1 _ _ _ _ _ _ h1
 refine ((ev_sound Y hm hkt hp hnm n).1 c fn aA aA' s s' e S l fr i w a Q' h1 hS hF hA hd (fun b hb _ => hfr b hb) ?_).1
 intro i' S' l' w' a' q1 q2 q3 q4 q5 q6
 exact k e aA' s' i' S' l' w' a' h2 q3 q4 q5 q6 fun b hb => by rw [q2 b (.inr hb)]; exact hfr b (by omega)
def thenW (P : Program) (KT : TypeId → Prop) (An : Who) (X : ι → Goroutine → World → Prop) (Hd : ι → List (Nat × Obj) → World → Prop) (y : Code) (Q : Exit → TL → AS → Prop) : Exit → TL → AS → Prop := fun e a s => match e with
 | .normal => WI P KT An X Hd y a s Q
 | e => Q e a s
theorem WI.seq (Y : Cy P KT N0 M O R D X Hd) (h : WI P KT An X Hd x aA s (thenW P KT An X Hd y Q)) : WI P KT An X Hd (.seq x y) aA s Q := by
 intro fn S l fr i w a Q' hS hF hA hd hfr k
 refine za5 Y.C Y.T (h fn S l fr i w a _ hS hF hA hd hfr ?_)
 intro e aA' s' i' S' l' w' a' q q3 q4 q5 q6 q7
 cases e with
 | normal => exact q fn S' l' fr i' w' a' Q' q3 q4 q5 q6 q7 k
 | _ => exact k _ aA' s' i' S' l' w' a' q q3 q4 q5 q6 q7
end
end
section
open Go.Conc Go.RowKit Go.Lib
section
variable {ι : Type} {P : Program} {KT : TypeId → Prop} {An : Who} {N0 : ι → Nat} {M : ι → World → Nat → Prop} {O : ι → Nat → Prop} {R : ι → World → World → Prop} {D : ι → World → World → Array Event → Prop} {X : ι → Goroutine → World → Prop} {Hd : ι → List (Nat × Obj) → World → Prop} {kt : TypeId → Bool} {pr : Prim}
variable {aA : TL} {s s1 : AS} {K : TL → AS → Prop} {ops : Array Oper} {o : Oper} {v : Value}
theorem WI.asS {c : Code} {Q : Exit → TL → AS → Prop} (s' : AS) (h : s = s') (kk : WI P KT An X Hd c aA s' Q) : WI P KT An X Hd c aA s Q := h ▸ kk
theorem WI.fill {c : Code} {Q : Exit → TL → AS → Prop} (f : (Nat → Value) → TL) (h : aA = f (fun i => aA.getD i undef)) (k : ∀ x,WI P KT An X Hd c (f x) s Q) : WI P KT An X Hd c aA s Q := h ▸ k _
end
end
section
open Go.Conc Go.RowKit Go.Lib
section
variable {ι : Type} {P : Program} {KT : TypeId → Prop} {An : Who} {N0 : ι → Nat} {M : ι → World → Nat → Prop} {O : ι → Nat → Prop} {R : ι → World → World → Prop} {D : ι → World → World → Array Event → Prop} {X : ι → Goroutine → World → Prop} {Hd : ι → List (Nat × Obj) → World → Prop} {kt : TypeId → Bool} {pr : Prim}
variable {aA : TL} {s s0 : AS} {Q : Exit → TL → AS → Prop} {c : Code}
theorem WI.rest (s0 : AS) (hg : ∀ b o,s0.get b = some o → s.get b = some o) (hn : s.nx ≤ s0.nx) (h : WI P KT An X Hd c aA s0 Q) : WI P KT An X Hd c aA s Q := by
 intro fn S l fr i w a Q' hS hF hA hd hfr k
 exact h fn S l fr i w a Q' ⟨fun b o hb => hS.live b o (hg b o hb),fun b b' o o' x x' hb hb' => hS.inj b b' o o' x x' (hg b o hb) (hg b' o' hb'),fun b o hb => Nat.lt_of_lt_of_le (hS.lt b o (hg b o hb)) hn,hS.an⟩ hF hA hd (fun b hb => hfr b (by omega)) k
end
end
end Go.Proofs.YtgcaionclkbehaaGreatDoor
