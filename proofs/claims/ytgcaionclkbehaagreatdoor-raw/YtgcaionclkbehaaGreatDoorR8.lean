import Derived.Test.YtgcaionclkbehaaGreatDoorR6
set_option linter.all false
namespace Go.Proofs.YtgcaionclkbehaaGreatDoor
open Tryz
section
open Go.Conc Go.RowKit Go.Lib
def q1 (nm bs : List UInt8) (k : Nat) : AS := (qA nm (rd0.add (scQ k (aptr 66 2) (.slice (some ⟨78,0,none⟩) bs.length bs.length) sl77))).add (.cells (byC bs) 5 (1,1))
theorem famq0 {nm : List UInt8} : Fam (q0 nm) 65 66 (.pointer none) nilV sl77 := ⟨fun k => by kernel_rfl,fun k k' => by kernel_rfl,fun k => by show 66 < 78; decide,fun k => by show 65 < 78; decide,fun k => by kernel_rfl⟩
theorem famq1 {nm bs : List UInt8} : Fam (q1 nm bs) 65 66 (aptr 66 2) (.slice (some ⟨78,0,none⟩) bs.length bs.length) sl77 := ⟨fun k => by kernel_rfl,fun k k' => by kernel_rfl,fun k => by show 66 < 79; decide,fun k => by show 65 < 79; decide,fun k => by kernel_rfl⟩
def EndsAt (all : List Int) (q : Nat) (nm : List UInt8) (b : Bool) : Prop := (b = false ∧ hasT all q ([60,47] ++ nm) = false) ∨ (hasT all q ([60,47] ++ nm) = true ∧ (0 ≤ lAt all (q + (2 + nm.length)) ∧ lAt all (q + (2 + nm.length)) < 128) ∧ b = decide (UInt8.ofNat (lAt all (q + (2 + nm.length))).toNat ∈ stopsE))
theorem tagOf_ok (i : Nat) : (tagOf i).all (fun b => decide (b.toNat < 128)) = true ∧ (tagOf i).length < 14 ∧ 0 < (tagOf i).length := by
 match i with
 | 0 => decide
 | 1 => decide
 | 2 => decide
 | n + 3 => exact ⟨by show List.all [116,101,120,116,97,114,101,97] _ = true; decide,by show List.length [116,101,120,116,97,114,101,97] < 14; decide,by show 0 < List.length [116,101,120,116,97,114,101,97]; decide⟩
section
variable {n i : Nat} {t w : List UInt8} {cap : Bool} {all : List Int} {s : AS}
theorem ends_q {St : Nat → AS} {p q r : Value} (F : Fam St 65 66 p q r) {k : Nat} {b : Bool} (hk : k ≤ 800000) (h : EndsAt all k (tagOf i) b) : EF prog ktB (prQ prog n 65 t w i cap all) 327 #[aptr 66 0,str (tagOf i)] (St k) (.bool b) (St k) := by
 have ht := tagOf_ok i
 refine EF.forget ?_
 unfold endOk
 simp only [aptr,F.get k]
 rw [if_pos ⟨trivial,by omega,by omega,F.rlt k,F.lt k,F.tame k,ht.1,ht.2.1⟩]
 simp only [Int.toNat_natCast]
 rcases h with ⟨rfl,h⟩ | ⟨h1,h2,rfl⟩
 ·
  rw [if_neg (by rw [h]; simp)]
 ·
  rw [if_pos h1,if_pos h2]
theorem begun_q {St : Nat → AS} {p q r : Value} (F : Fam St 65 66 p q r) {k : Nat} (hk : k ≤ 1000000) (hl : lAt all k ≠ 60) : EF prog ktB (prQ prog n 65 t w i cap all) 71 #[aptr 66 0] (St k) .nilFunc (St k) := by
 refine EF.given (g := fun args s => match begOk 65 all args s with | some v => some (v,s) | none => zb8 prog ktB (prQ0 prog 65 t w i cap all) n 71 args s) (by unfold prQ zc9 prQ1 zc9; rfl) ?_
 have : begOk 65 all #[aptr 66 0] (St k) = some .nilFunc := by
  unfold begOk
  simp only [aptr,F.get k]
  rw [if_pos ⟨trivial,by omega,by omega,by simpa using hl,F.rlt k,F.lt k,F.tame k⟩]
 simp only [this]
theorem begunF_q {St : Nat → AS} {p q r v : Value} {s1 : AS} (F : Fam St 65 66 p q r) {k : Nat} (h0 : lAt all k = 60) (hn : zb8 prog ktB (prQ0 prog 65 t w i cap all) n 71 #[aptr 66 0] (St k) = some (v,s1)) : EF prog ktB (prQ prog n 65 t w i cap all) 71 #[aptr 66 0] (St k) v s1 := by
 have hb : begOk 65 all #[aptr 66 0] (St k) = none := by
  unfold begOk
  simp only [aptr,F.get k]
  rw [if_neg (fun h => h.2.2.2.1 (by simpa using h0))]
 refine EF.given (g := fun args s => match begOk 65 all args s with | some v => some (v,s) | none => zb8 prog ktB (prQ0 prog 65 t w i cap all) n 71 args s) (by unfold prQ zc9 prQ1 zc9; rfl) ?_
 simp only [hb]
 exact hn
theorem with_q {x v : List UInt8} {k : Int} (h : wrV t w x k = some (str v)) (hs : s.get 1 = some (.cells entC.toArray 335)) (hn : 66 ≤ s.nx) : EF prog ktB (prQ prog n 65 t w i cap all) 157 #[str x,num k] s (str v) s := by
 refine EF.given (g := fun args s => match wrOk t w args s with | some v => some (v,s) | none => zb8 prog ktB (prRow 65 all) 0 157 args s) (by unfold prQ zc9 prQ1 zc9 prQ0 prAdd prW; rfl) ?_
 have : wrOk t w #[str x,num k] s = some (str v) := by
  unfold wrOk
  simp only [hs]
  rw [if_pos ⟨by kernel_rfl,hn⟩]
  exact h
 simp only [this]
theorem write_q {nm : List UInt8} {bs : List UInt8} (h0 : bs ≠ []) (hl : bs.length ≤ 1000000) (k : Nat) : EF prog ktB (prQ prog n 65 t w i cap all) 156 #[aptr 66 2,str bs] (q0 nm k) (.tuple #[num (bs.length : Nat), .nilIface]) (q1 nm bs k) := by
 have hc : EF prog ktB (prQ prog n 65 t w i cap all) 261 #[aptr 66 2] (q0 nm k) (.tuple #[]) ((q0 nm k).set 66 (some (scQ k (aptr 66 2) nilV sl77))) := by
  refine EF.of (by kernel_rfl) func261 rfl ?_
  refine EW.go 20 (by kernel_rfl) ?_
  exact ⟨.inl rfl,by kernel_rfl,by kernel_rfl⟩
 generalize hs1 : (q0 nm k).set 66 (some (scQ k (aptr 66 2) nilV sl77)) = s1 at hc
 have g66 : s1.get 66 = some (scQ k (aptr 66 2) nilV sl77) := by rw [← hs1,AS.get_set,if_pos rfl]
 have hnx : s1.nx = 78 := by rw [← hs1]; rfl
 refine EF.of (by kernel_rfl) func156 rfl ?_
 refine EW.seq (EW.go 5 (by kernel_rfl) (EW.seq (EW.region (by kernel_rfl) ?_)))
 refine EO.gc 1 5 (by kernel_rfl) hc (EO.nil ?_)
 refine EW.asS s1 (by kernel_rfl) (EW.seq (EW.region (by kernel_rfl) ?_))
 refine EO.gs 4 5 s1 (by kernel_rfl) (EO.op (by kernel_rfl) (op_ld (b := 66) (off := 3) (v := nilV) rfl underlying55 rfl (by kernel_rfl) g66 rfl) ?_)
 refine EO.gs 1 5 s1 (by kernel_rfl) ?_
 have hap := app_none (P := prog) (e := 5) (s := s1) (news := strCells ⟨bs.toArray⟩) (m := bs.length) (by simpa using h0)
 rw [hnx] at hap
 refine EO.op (by kernel_rfl) (op_appS (sl := nilV) (m := bs) rfl (by kernel_rfl) (by kernel_rfl) underlying55 underlying9 (by kernel_rfl) (by kernel_rfl) (by omega) rfl hap) ?_
 generalize hs2 : s1.add (.cells (strCells ⟨bs.toArray⟩).toArray 5 (1,1)) = s2
 have g66' : s2.get 66 = some (scQ k (aptr 66 2) nilV sl77) := by rw [← hs2,AS.get_add,if_neg (by omega)]; exact g66
 refine EO.gs 2 5 s2 (by kernel_rfl) (EO.op (by kernel_rfl) (op_st (b := 66) (off := 3) (w := .slice (some ⟨78,0,none⟩) bs.length bs.length) rfl (by kernel_rfl) (by kernel_rfl) rfl rfl (by kernel_rfl) g66' (by simp)) ?_)
 refine EO.nil ?_
 refine EW.asS (q1 nm bs k) (by rw [← hs2, ← hs1]; kernel_rfl) (EW.seq (EW.region (by kernel_rfl) ?_))
 refine EO.go 1 5 (by kernel_rfl) (EO.op (by kernel_rfl) (zl0 (l := bs) rfl underlying9 (by kernel_rfl)) ?_)
 refine EO.fin 5 (by kernel_rfl) ?_
 exact EW.ret ⟨.inr rfl,by kernel_rfl,by kernel_rfl⟩
def sl252 (nm : List UInt8) (k : Nat) (x : Nat → Value) : TL := [aptr 66 0,str nm,x 2,x 3,num (k : Nat)] ++ tlX x 5 40
def sl252b (nm tx : List UInt8) (k : Nat) (x : Nat → Value) : TL := [aptr 66 0,str nm,x 2,x 3,num (k : Nat),str tx] ++ tlX x 6 39
theorem inner_q (hi : i < 4) {k m : Nat} (hm : k + m ≤ 700000) (hin : ∀ j,j < m → lAt all (k + j) ≠ -1 ∧ EndsAt all (k + j) (tagOf i) false) (h60 : lAt all (k + m) = 60) (hend : EndsAt all (k + m) (tagOf i) true) (ht : zf4 ((all.drop k).take m) = t) (hwv : wrV t w t 0 = some (str w)) (h0 : t ≠ []) (hw0 : w ≠ []) (htl : t.length ≤ 1000000) (hwl : w.length ≤ 1000000) : EF prog ktB (prQ prog n 65 t w i cap all) 252 #[aptr 66 0,str (tagOf i)] (q0 (tagOf i) k) (.tuple #[]) (q1 (tagOf i) (if Nat.ble 2 i = true then w else t) (k + m)) := by
 have F := famq0 (nm := tagOf i)
 have hpl := plain_q (n := n) (i := i) (t := t) (w := w) (cap := cap) (all := all) (s := q0 (tagOf i) (k + m))
 have hwr := with_q (n := n) (i := i) (cap := cap) (all := all) (s := q0 (tagOf i) (k + m)) hwv (by kernel_rfl) (by show 66 ≤ 78; decide)
 have hwt := write_q (n := n) (i := i) (t := t) (w := w) (cap := cap) (all := all) (nm := tagOf i) (bs := if Nat.ble 2 i = true then w else t) (by split <;> assumption) (by split <;> assumption) (k + m)
 have hE := fun j b hj h => ends_q (n := n) (i := i) (t := t) (w := w) (cap := cap) (all := all) F (k := k + j) (b := b) hj h
 have hA := fun j hj => zj0 (hpQ n 65 t w i cap all) F (k := k + j) hj
 have htx := rtext_e (hpQ n 65 t w i cap all) (s := q0 (tagOf i) (k + m)) (k := k) (j := k + m) (by omega)
 rw [show k + m - k = m by omega,ht] at htx
 generalize hP : prQ prog n 65 t w i cap all = pP at *
 have h252 : pP 252 = none := by rw [← hP]; kernel_rfl
 clear hP
 generalize tagOf i = nm at *
 generalize Nat.ble 2 i = bb at *
 refine EF.of h252 func252 rfl ?_
 refine EW.seq (EW.region (by kernel_rfl) (EO.gs 3 5 (q0 nm k) (by kernel_rfl) ?_))
 refine EO.op (by kernel_rfl) (op_ld (b := 66) (off := 1) (v := num (k : Nat)) rfl underlying3 rfl (by kernel_rfl) (F.get k) rfl) (EO.fin 5 (by kernel_rfl) ?_)
 refine EW.asS (q0 nm k) (by kernel_rfl) ?_
 refine EW.fill (sl252 nm k) (by kernel_rfl) ?_
 intro x0
 refine EW.seq (EW.block ?_)
 refine EW.mono (EW.loopI (Q := fun e a' s' => e = .exit 0 ∧ s' = q0 nm (k + m) ∧ ∃ x,a' = sl252 nm k x) (fun u a' s' => ∃ j,u + j = m ∧ s' = q0 nm (k + j) ∧ ∃ x,a' = sl252 nm k x) ?_ m _ _ ⟨0,by omega,rfl,x0,rfl⟩) ?_
 ·
  rintro u a' s' ⟨j,hu,rfl,x,rfl⟩
  have hah := hA j (by omega)
  by_cases hj : j < m
  ·
   obtain ⟨hl2,he⟩ := hin j hj
   have hen := hE j false (by omega) he
   generalize lAt all (k + j) = l at hah hl2
   refine EW.seq (EW.seq (EW.region (by kernel_rfl) (EO.gc 1 5 (by kernel_rfl) hah ?_)))
   refine EO.op (by kernel_rfl) (zc4 (u := .int .i32 l) (w := .int .i32 (-1)) rfl (by kernel_rfl) (by kernel_rfl) (zf7 (b := true) (by simp [hl2]))) (EO.gc 3 5 (by kernel_rfl) hen ?_)
   refine EO.fin 5 (by kernel_rfl) (EW.asS (q0 nm (k + j)) (by kernel_rfl) ?_)
   refine EW.condT (by kernel_rfl) (EW.skip (EW.block ?_))
   refine EW.region (by kernel_rfl) (EO.gs 3 5 (q0 nm (k + j)) (by kernel_rfl) ?_)
   refine EO.op (by kernel_rfl) (op_ld (b := 66) (off := 1) (v := num ((k + j : Nat) : Int)) rfl underlying3 rfl (by kernel_rfl) (F.get (k + j)) rfl) (EO.op (by kernel_rfl) (op_addI (i := ((k + j : Nat) : Int)) (j := 1) (r := ((k + (j + 1) : Nat) : Int)) rfl (by kernel_rfl) (by kernel_rfl) (by omega) (by omega)) ?_)
   refine EO.gs 2 5 (q0 nm (k + j)) (by kernel_rfl) (EO.op (by kernel_rfl) (op_st (b := 66) (off := 1) (w := num ((k + (j + 1) : Nat) : Int)) rfl (by kernel_rfl) (by kernel_rfl) rfl rfl (by kernel_rfl) (F.get (k + j)) (by simp)) ?_)
   refine EO.nil ?_
   exact ⟨u - 1,by omega,j + 1,by omega,F.set (k + j) (k + (j + 1)),fillX (by kernel_rfl)⟩
  ·
   obtain rfl : j = m := by omega
   have hen := hE j true (by omega) hend
   rw [h60] at hah
   refine EW.seq (EW.seq (EW.region (by kernel_rfl) (EO.gc 1 5 (by kernel_rfl) hah ?_)))
   refine EO.gc 4 5 (by kernel_rfl) hen (EO.fin 5 (by kernel_rfl) ?_)
   refine EW.asS (q0 nm (k + j)) (by kernel_rfl) (EW.condF (by kernel_rfl) (EW.exit ?_))
   exact ⟨rfl,rfl,fillX (by kernel_rfl)⟩
 rintro e a' s' ⟨rfl,rfl,x,rfl⟩
 refine EW.seq (EW.draw (by kernel_rfl) (by kernel_rfl) (by kernel_rfl) ?_)
 iterate 3 refine ET.q (by kernel_rfl) (by kernel_rfl) ?_
 refine ET.asS (q0 nm (k + m)) (by kernel_rfl) ?_
 refine ET.op (by kernel_rfl) (op_ld (b := 66) (off := 0) (v := aptr 65 0) rfl underlying84 rfl (by kernel_rfl) (F.get (k + m)) rfl) ?_
 iterate 4 refine ET.q (by kernel_rfl) (by kernel_rfl) ?_
 refine ET.asS (q0 nm (k + m)) (by kernel_rfl) ?_
 refine ET.op (by kernel_rfl) (op_ld (b := 66) (off := 1) (v := num ((k + m : Nat) : Int)) rfl underlying3 rfl (by kernel_rfl) (F.get (k + m)) rfl) ?_
 refine ET.callF #[aptr 65 0,num (k : Nat),num ((k + m : Nat) : Int)] (by kernel_rfl) rfl rfl (by kernel_rfl) (by kernel_rfl) htx ?_
 refine ET.q (by kernel_rfl) (by kernel_rfl) ?_
 refine ET.nil ⟨zg1 [(zc8 prog 84 (aptr 66 0) (q0 nm (k + m)),aptr 65 0),(zc8 prog 3 (aptr 66 1) (q0 nm (k + m)),num ((k + m : Nat) : Int))] (by kernel_rfl) (lds2 ⟨ld_row F _,rfl⟩ ⟨ld_at F _,rfl⟩),_,_,_,_,_,_,rfl,rfl,?_⟩
 refine EW.asS (q0 nm (k + m)) (by kernel_rfl) ?_
 refine EW.seq (EW.mono (Q := fun e a' s' => e = .normal ∧ s' = q0 nm (k + m) ∧ ∃ x,a' = sl252b nm (if bb = true then w else t) k x) ?_ ?_)
 ·
  refine EW.seq (EW.region (by kernel_rfl) (EO.gc 1 5 (by kernel_rfl) hpl ?_))
  refine EO.nil ?_
  cases bb with
  | false => exact EW.condF (by kernel_rfl) (EW.skip ⟨rfl,by kernel_rfl,fillX (by kernel_rfl)⟩)
  | true =>
   refine EW.condT (by kernel_rfl) (EW.asS (q0 nm (k + m)) (by kernel_rfl) ?_)
   refine EW.region (by kernel_rfl) (EO.gc 1 5 (by kernel_rfl) hwr ?_)
   refine EO.fin 5 (by kernel_rfl) ?_
   exact ⟨rfl,by kernel_rfl,fillX (by kernel_rfl)⟩
 rintro e a' s' ⟨rfl,rfl,x,rfl⟩
 generalize (if bb = true then w else t) = bs at hwt ⊢
 refine EW.region (by kernel_rfl) (EO.gc 4 5 (by kernel_rfl) hwt ?_)
 refine EO.nil ?_
 exact ⟨.inl rfl,by kernel_rfl,by kernel_rfl⟩
end
end
set_option maxRecDepth 100000
section
open Go.Conc Go.RowKit Go.Lib
abbrev tkE (nm : List UInt8) : List Value := [num 3,str [],str nm,nilV, .bool false]
abbrev slN (d m : Nat) : Value := .slice (some ⟨d,0,none⟩) m m
def q1b (nm bs : List UInt8) (k : Nat) : AS := ((q1 nm bs k).add bxO).add bxO
def p0 (nm bs : List UInt8) (k : Nat) : AS := (q1b nm bs k).add (tgO [] nilV)
def p1 (nm bs : List UInt8) (k : Nat) : AS := (q1b nm bs k).add (tgO nm nilV)
def p2 (nm bs : List UInt8) (k : Nat) : AS := (p1 nm bs k).add (tgO nm nilV)
def p3 (nm bs : List UInt8) (k : Nat) : AS := (p2 nm bs k).add (.cells (tkE nm).toArray 60)
def p4 (nm bs : List UInt8) (k : Nat) : AS := (((((p3 nm bs k).set 78 none).add (.cells (tokT bs).toArray 60)).set 77 none).add (.cells (tkS nm ++ tokT bs).toArray 60 (1,1))).set 66 (some (scQ k (.pointer none) nilV (slN 85 2)))
def q2 (nm bs : List UInt8) (k : Nat) : AS := ((((p4 nm bs k).add (.cells (tkE nm).toArray 60)).set 85 none).add (.cells (tkS nm ++ tokT bs ++ tkE nm).toArray 60 (1,1))).set 66 (some (scQ k (.pointer none) nilV (slN 87 3)))
def q3 (nm bs bz : List UInt8) (k : Nat) : AS := ((q2 nm bs k).add (.cells (byC bz) 5 (1,1))).set 66 (some (scQ k (aptr 66 2) (.slice (some ⟨88,0,none⟩) bz.length bz.length) (slN 87 3)))
def q4 (nm bs bz : List UInt8) (k : Nat) : AS := (((((q3 nm bs bz k).set 88 none).add (.cells (tokT bz).toArray 60)).set 87 none).add (.cells (tkS nm ++ tokT bs ++ tkE nm ++ tokT bz).toArray 60 (1,1))).set 66 (some (scQ k (.pointer none) nilV (slN 90 4)))
section
variable {nm bs bz : List UInt8}
theorem famq1b : Fam (q1b nm bs) 65 66 (aptr 66 2) (.slice (some ⟨78,0,none⟩) bs.length bs.length) sl77 := ⟨fun k => by kernel_rfl,fun k k' => by kernel_rfl,fun k => by show 66 < 81; decide,fun k => by show 65 < 81; decide,fun k => by kernel_rfl⟩
theorem famp0 : Fam (p0 nm bs) 65 66 (aptr 66 2) (.slice (some ⟨78,0,none⟩) bs.length bs.length) sl77 := ⟨fun k => by kernel_rfl,fun k k' => by kernel_rfl,fun k => by show 66 < 82; decide,fun k => by show 65 < 82; decide,fun k => by kernel_rfl⟩
theorem famp1 : Fam (p1 nm bs) 65 66 (aptr 66 2) (.slice (some ⟨78,0,none⟩) bs.length bs.length) sl77 := ⟨fun k => by kernel_rfl,fun k k' => by kernel_rfl,fun k => by show 66 < 82; decide,fun k => by show 65 < 82; decide,fun k => by kernel_rfl⟩
theorem famq2 : Fam (q2 nm bs) 65 66 (.pointer none) nilV (slN 87 3) := ⟨fun k => by kernel_rfl,fun k k' => by kernel_rfl,fun k => by show 66 < 88; decide,fun k => by show 65 < 88; decide,fun k => by kernel_rfl⟩
theorem famq3 : Fam (q3 nm bs bz) 65 66 (aptr 66 2) (.slice (some ⟨88,0,none⟩) bz.length bz.length) (slN 87 3) := ⟨fun k => by kernel_rfl,fun k k' => by kernel_rfl,fun k => by show 66 < 89; decide,fun k => by show 65 < 89; decide,fun k => by kernel_rfl⟩
end
section
variable {n i : Nat} {t w : List UInt8} {cap : Bool} {all : List Int} {s : AS} {nm bs : List UInt8}
theorem strD_f {pr : Prim} {x0 x1 x2 x4 : Value} {l : List UInt8} {fz : Nat × Nat} {d : Nat} (h84 : pr 84 = none) (hs : s.get 66 = some (.cells #[x0,x1,x2, .slice (some ⟨d,0,none⟩) l.length l.length,x4] 121)) (hb : s.get d = some (.cells (byC l) 5 fz)) (h0 : l ≠ []) (hl : l.length ≤ 1000000) : EF prog ktB pr 84 #[aptr 66 2] s (str l) (s.set d none) := by
 obtain ⟨c,l,rfl⟩ : ∃ c l',l = c :: l' := by
  cases l with
  | nil => exact absurd rfl h0
  | cons c l => exact ⟨c,l,rfl⟩
 refine EF.of h84 func84 rfl ?_
 refine EW.seq (EW.go 5 (by kernel_rfl) ?_)
 refine EW.seq (EW.draw (by kernel_rfl) (by kernel_rfl) (by kernel_rfl) ?_)
 iterate 3 refine ET.q (by kernel_rfl) (by kernel_rfl) ?_
 refine ET.asS s (by kernel_rfl) ?_
 refine ET.op (by kernel_rfl) (op_ld (b := 66) (off := 3) (v := .slice (some ⟨d,0,none⟩) (c :: l).length (c :: l).length) rfl underlying55 rfl (by kernel_rfl) hs rfl) ?_
 iterate 4 refine ET.q (by kernel_rfl) (by kernel_rfl) ?_
 refine ET.asS s (by kernel_rfl) ?_
 refine ET.op (by kernel_rfl) (op_ld (b := 66) (off := 3) (v := .slice (some ⟨d,0,none⟩) (c :: l).length (c :: l).length) rfl underlying55 rfl (by kernel_rfl) hs rfl) ?_
 refine ET.q (by kernel_rfl) (by kernel_rfl) ?_
 refine ET.asS s (by kernel_rfl) ?_
 refine ET.op (by kernel_rfl) (op_uns (d := d) (l := c :: l) (e := 5) (fz := fz) rfl (by kernel_rfl) (by kernel_rfl) (by kernel_rfl) hb (by kernel_rfl) (by simp) (by omega)) ?_
 refine ET.q (by kernel_rfl) (by kernel_rfl) ?_
 have hld : zc8 prog 55 (aptr 66 3) s = some (.slice (some ⟨d,0,none⟩) (c :: l).length (c :: l).length) := by
  unfold zc8
  simp only [aptr,hs,underlying55]
  rfl
 refine ET.nil ⟨zg1 [(zc8 prog 55 (aptr 66 3) s, .slice (some ⟨d,0,none⟩) (c :: l).length (c :: l).length),(zc8 prog 55 (aptr 66 3) s, .slice (some ⟨d,0,none⟩) (c :: l).length (c :: l).length)] (by kernel_rfl) (lds2 ⟨hld,rfl⟩ ⟨hld,rfl⟩),_,_,_,_,_,_,rfl,rfl,?_⟩
 exact EW.ret ⟨.inr rfl,by kernel_rfl,by kernel_rfl⟩
theorem beg2_e {k : Nat} {c : Int} (hk : k ≤ 900000) (h0 : lAt all k = 60) (h1 : lAt all (k + 1) = 47) (h2 : lAt all (k + 2) = c) (hc : c = 115 ∨ c = 116 ∨ c = 83 ∨ c = 84) : EF prog ktB (prQ0 prog 65 t w i cap all) 71 #[aptr 66 0] (q1 nm bs k) (.func (.func 253) #[aptr 66 0] #[]) (q1b nm bs k) := by
 have ha0 := ahead_e (rn := 65) (all := all) (pr := prQ0 prog 65 t w i cap all) (s := (q1 nm bs k).add bxO) (c := 66) (k := k) (p := 0) (cs := #[aptr 65 0,num (k : Nat),aptr 66 2, .slice (some ⟨78,0,none⟩) bs.length bs.length,sl77]) (t := 121) (fz := (0,0)) (by kernel_rfl) (by kernel_rfl) (by kernel_rfl) rfl rfl (by omega)
 have ha1 := ahead_e (rn := 65) (all := all) (pr := prQ0 prog 65 t w i cap all) (s := (q1 nm bs k).add bxO) (c := 66) (k := k) (p := 1) (cs := #[aptr 65 0,num (k : Nat),aptr 66 2, .slice (some ⟨78,0,none⟩) bs.length bs.length,sl77]) (t := 121) (fz := (0,0)) (by kernel_rfl) (by kernel_rfl) (by kernel_rfl) rfl rfl (by omega)
 have ha2 := ahead_e (rn := 65) (all := all) (pr := prQ0 prog 65 t w i cap all) (s := q1b nm bs k) (c := 66) (k := k) (p := 2) (cs := #[aptr 65 0,num (k : Nat),aptr 66 2, .slice (some ⟨78,0,none⟩) bs.length bs.length,sl77]) (t := 121) (fz := (0,0)) (by kernel_rfl) (by kernel_rfl) (by kernel_rfl) rfl rfl (by omega)
 rw [Nat.add_zero,h0] at ha0
 rw [h1] at ha1
 rw [h2] at ha2
 have h149 : EF prog ktB (prQ0 prog 65 t w i cap all) 149 #[aptr 66 0] ((q1 nm bs k).add bxO) (.func (.func 253) #[aptr 66 0] #[]) (q1b nm bs k) := by
  refine EF.of (by kernel_rfl) func149 rfl ?_
  refine EW.seq (EW.go 5 (by kernel_rfl) (EW.asS (q1b nm bs k) (by kernel_rfl) ?_))
  refine EW.seq (EW.seq (EW.region (by kernel_rfl) (EO.gc 1 5 (by kernel_rfl) ha2 ?_)))
  refine EO.fin 5 (by kernel_rfl) (EW.asS (q1b nm bs k) (by kernel_rfl) ?_)
  refine EW.block ?_
  rcases hc with rfl | rfl | rfl | rfl
  all_goals
   refine EW.seq (EW.go 30 (by kernel_rfl) (EW.condT (by kernel_rfl) ?_))
   refine EW.asS (q1b nm bs k) (by kernel_rfl) (EW.seq (EW.go 9 (by kernel_rfl) ?_))
   exact EW.ret ⟨.inr rfl,by kernel_rfl,by kernel_rfl⟩
 refine EF.of (by kernel_rfl) func71 rfl ?_
 refine EW.seq (EW.go 5 (by kernel_rfl) (EW.asS ((q1 nm bs k).add bxO) (by kernel_rfl) ?_))
 refine EW.seq (EW.seq (EW.region (by kernel_rfl) (EO.gc 1 5 (by kernel_rfl) ha0 ?_)))
 refine EO.fin 5 (by kernel_rfl) (EW.condF (by kernel_rfl) (EW.skip ?_))
 refine EW.asS ((q1 nm bs k).add bxO) (by kernel_rfl) (EW.seq (EW.seq (EW.region (by kernel_rfl) ?_)))
 refine EO.gc 1 5 (by kernel_rfl) ha1 (EO.fin 5 (by kernel_rfl) ?_)
 refine EW.asS ((q1 nm bs k).add bxO) (by kernel_rfl) (EW.block ?_)
 refine EW.seq (EW.go 30 (by kernel_rfl) (EW.condF (by kernel_rfl) ?_))
 refine EW.seq (EW.go 9 (by kernel_rfl) (EW.condT (by kernel_rfl) ?_))
 refine EW.asS ((q1 nm bs k).add bxO) (by kernel_rfl) (EW.seq (EW.region (by kernel_rfl) ?_))
 refine EO.gc 1 5 (by kernel_rfl) h149 (EO.fin 5 (by kernel_rfl) ?_)
 exact EW.ret ⟨.inr rfl,by kernel_rfl,by kernel_rfl⟩
structure EndL (all : List Int) (i : Nat) (cap : Bool) (k : Nat) : Prop where
 lt : lAt all k = 60
 sla : lAt all (k + 1) = 47
 c0 : ∃ c,lAt all (k + 2) = c ∧ (c = 115 ∨ c = 116 ∨ c = 83 ∨ c = 84)
 nm : ∀ j,j < (zb5 i cap).length → ∃ b,isB all (k + 2 + j) b ∧ b ∉ ([9,10,12,13,32,47,62] : List UInt8)
 nmT : zf4 ((all.drop (k + 2)).take (zb5 i cap).length) = zb5 i cap
 sp : isB all (k + 2 + (zb5 i cap).length) 32
 gt : isB all (k + 2 + (zb5 i cap).length + 1) 62
 z : lAt all (k + 2 + (zb5 i cap).length + 1 + 1) = 122
 zT : zf4 ((all.drop (k + 2 + (zb5 i cap).length + 1 + 1)).take 1) = [122]
 fin : lAt all (k + 2 + (zb5 i cap).length + 1 + 1 + 1) = -1
 hk : k + (zb5 i cap).length ≤ 600000
theorem low_q : EF prog ktB (prQ prog n 65 t w i cap all) 258 #[str (zb5 i cap)] s (str (tagOf i)) s := by
 refine EF.given (g := fun args s => match lowV i cap args with | some v => some (v,s) | none => none) (by unfold prQ zc9 prQ1 zc9 prQ0 prAdd; rfl) ?_
 have : lowV i cap #[str (zb5 i cap)] = some (str (tagOf i)) := by unfold lowV; simp
 simp only [this]
theorem tagE_q {k : Nat} (L : EndL all i cap k) : EF prog ktB (prQ prog n 65 t w i cap all) 248 #[aptr 66 0] (q1b (tagOf i) bs (k + 2)) (.tuple #[.agg #[str (tagOf i),nilV, .bool false], .bool true]) (p1 (tagOf i) bs (k + 2 + (zb5 i cap).length + 1 + 1)) := by
 have hk := L.hk
 have hup := upTo_f (hpQ n 65 t w i cap all) (famp0 (nm := tagOf i) (bs := bs)) (stops := [9,10,12,13,32,47,62]) (k := k + 2) (m := (zb5 i cap).length) (by omega) L.nm ⟨32,L.sp,by decide⟩
 rw [L.nmT] at hup
 have hlow := low_q (n := n) (t := t) (w := w) (i := i) (cap := cap) (all := all) (s := p0 (tagOf i) bs (k + 2 + (zb5 i cap).length))
 have hsk := skipToAttr_f (hpQ n 65 t w i cap all) (famp1 (nm := tagOf i) (bs := bs)) (k := k + 2 + (zb5 i cap).length) (m := 1) (by omega) (fun j hj => by obtain rfl : j = 0 := (by omega); exact L.sp) L.gt (by decide)
 have hah := zj0 (hpQ n 65 t w i cap all) (famp1 (nm := tagOf i) (bs := bs)) (k := k + 2 + (zb5 i cap).length + 1) (by omega)
 rw [L.gt.1] at hah
 have F1 := famp1 (nm := tagOf i) (bs := bs)
 generalize hP : prQ prog n 65 t w i cap all = pP at *
 have h248 : pP 248 = none := by rw [← hP]; kernel_rfl
 clear hP
 generalize zb5 i cap = sp at *
 generalize tagOf i = nm at *
 generalize hk2 : k + 2 = k2 at *
 generalize hk6 : k2 + sp.length = k6 at *
 refine EF.of h248 func248 rfl ?_
 refine EW.seq (EW.go 5 (by kernel_rfl) (EW.asS (p0 nm bs k2) (by kernel_rfl) ?_))
 refine EW.seq (EW.region (by kernel_rfl) (EO.gc 1 5 (by kernel_rfl) hup ?_))
 refine EO.callF #[str sp] (by kernel_rfl) rfl rfl (by kernel_rfl) (by kernel_rfl) hlow (EO.fin 5 (by kernel_rfl) ?_)
 refine EW.asS (p1 nm bs k6) (by kernel_rfl) (EW.block ?_)
 refine EW.loop (EW.block ?_)
 refine EW.seq (EW.region (by kernel_rfl) (EO.gc 1 5 (by kernel_rfl) hsk ?_))
 refine EO.fin 5 (by kernel_rfl) (EW.asS (p1 nm bs (k6 + 1)) (by kernel_rfl) ?_)
 refine EW.seq (EW.seq (EW.region (by kernel_rfl) (EO.gc 1 5 (by kernel_rfl) hah ?_)))
 refine EO.nil (EW.asS (p1 nm bs (k6 + 1)) (by kernel_rfl) ?_)
 refine EW.block (EW.seq (EW.go 9 (by kernel_rfl) ?_))
 refine EW.condF (by kernel_rfl) (EW.seq (EW.go 9 (by kernel_rfl) ?_))
 refine EW.condT (by kernel_rfl) (EW.asS (p1 nm bs (k6 + 1)) (by kernel_rfl) ?_)
 refine EW.seq (EW.region (by kernel_rfl) (EO.gs 3 5 (p1 nm bs (k6 + 1)) (by kernel_rfl) ?_))
 refine EO.op (by kernel_rfl) (op_ld (b := 66) (off := 1) (v := num ((k6 + 1 : Nat) : Int)) rfl underlying3 rfl (by kernel_rfl) (F1.get (k6 + 1)) rfl) (EO.op (by kernel_rfl) (op_addI (i := ((k6 + 1 : Nat) : Int)) (j := 1) (r := ((k6 + 1 + 1 : Nat) : Int)) rfl (by kernel_rfl) (by kernel_rfl) (by omega) (by omega)) ?_)
 refine EO.gs 2 5 (p1 nm bs (k6 + 1)) (by kernel_rfl) (EO.op (by kernel_rfl) (op_st (b := 66) (off := 1) (w := num ((k6 + 1 + 1 : Nat) : Int)) rfl (by kernel_rfl) (by kernel_rfl) rfl rfl (by kernel_rfl) (F1.get (k6 + 1)) (by simp)) ?_)
 refine EO.nil (EW.asS (p1 nm bs (k6 + 1 + 1)) (F1.set (k6 + 1) (k6 + 1 + 1)) ?_)
 refine EW.seq (EW.go 9 (by kernel_rfl) ?_)
 exact EW.ret ⟨.inr rfl,by kernel_rfl,by kernel_rfl⟩
theorem endT1_q (h0 : bs ≠ []) (hl : bs.length ≤ 1000000) (k : Nat) : EF prog ktB (prQ prog n 65 t w i cap all) 73 #[aptr 66 0] (p3 nm bs k) (.tuple #[]) (p4 nm bs k) := by
 have hpos : 0 < bs.length := List.length_pos_iff.2 h0
 have h158 : EF prog ktB (prQ prog n 65 t w i cap all) 158 #[aptr 66 2] (p3 nm bs k) (num (bs.length : Nat)) (p3 nm bs k) := EF.eval 20 (by kernel_rfl)
 have h84 := strD_f (pr := prQ prog n 65 t w i cap all) (s := p3 nm bs k) (x0 := aptr 65 0) (x1 := num (k : Nat)) (x2 := aptr 66 2) (x4 := sl77) (l := bs) (fz := (1,1)) (d := 78) (by kernel_rfl) (by kernel_rfl) (by kernel_rfl) h0 hl
 refine EF.of (by kernel_rfl) func73 rfl ?_
 refine EW.seq (EW.region (by kernel_rfl) (EO.gc 3 5 (by kernel_rfl) h158 ?_))
 refine EO.op (by kernel_rfl) (zc4 (u := num (bs.length : Nat)) (w := num 0) rfl (by kernel_rfl) (by kernel_rfl) (bin_gtr (b := true) (decide_eq_true (by omega)))) (EO.nil ?_)
 refine EW.condT (by kernel_rfl) ?_
 refine EW.seq (EW.draw (by kernel_rfl) (by kernel_rfl) (by kernel_rfl) ?_)
 iterate 8 refine ET.q (by kernel_rfl) (by kernel_rfl) ?_
 refine ET.asS (p3 nm bs k) (by kernel_rfl) ?_
 refine ET.callF #[aptr 66 2] (by kernel_rfl) rfl rfl (by kernel_rfl) (by kernel_rfl) h84 ?_
 iterate 6 refine ET.q (by kernel_rfl) (by kernel_rfl) ?_
 refine ET.nil ⟨zg1 [(zc8 prog 56 (aptr 66 4) (p3 nm bs k),sl77),(zc8 prog 56 (aptr 66 4) ((p3 nm bs k).set 78 none),sl77)] (by kernel_rfl) (lds2 ⟨by kernel_rfl,rfl⟩ ⟨by kernel_rfl,rfl⟩),_,_,_,_,_,_,rfl,rfl,?_⟩
 refine EW.go 20 (by kernel_rfl) ?_
 exact ⟨.inl rfl,by kernel_rfl,by kernel_rfl⟩
theorem addE_q (h0 : bs ≠ []) (hl : bs.length ≤ 1000000) (k : Nat) : EF prog ktB (prQ prog n 65 t w i cap all) 249 #[aptr 66 0, .agg (tkE nm).toArray] (p2 nm bs k) (.tuple #[]) (q2 nm bs k) := by
 have he := endT1_q (n := n) (t := t) (w := w) (i := i) (cap := cap) (all := all) (nm := nm) h0 hl k
 refine EF.of (by kernel_rfl) func249 rfl ?_
 refine EW.seq (EW.go 5 (by kernel_rfl) (EW.asS (p3 nm bs k) (by kernel_rfl) ?_))
 refine EW.seq (EW.region (by kernel_rfl) (EO.gc 1 5 (by kernel_rfl) he ?_))
 refine EO.nil (EW.asS (p4 nm bs k) (by kernel_rfl) ?_)
 refine EW.draw (by kernel_rfl) (by kernel_rfl) (by kernel_rfl) ?_
 iterate 11 refine ET.q (by kernel_rfl) (by kernel_rfl) ?_
 refine ET.nil ⟨zg1 [(zc8 prog 56 (aptr 66 4) (p4 nm bs k),slN 85 2),(zc8 prog 60 (aptr 83 0) (p4 nm bs k), .agg (tkE nm).toArray)] (by kernel_rfl) (lds2 ⟨by kernel_rfl,rfl⟩ ⟨by kernel_rfl,rfl⟩),_,_,_,_,_,_,rfl,rfl,?_⟩
 exact ⟨.inl rfl,by kernel_rfl,by kernel_rfl⟩
theorem takeEnd_q {k : Nat} (L : EndL all i cap k) (h0 : bs ≠ []) (hl : bs.length ≤ 1000000) : EF prog ktB (prQ prog n 65 t w i cap all) 253 #[aptr 66 0] (q1b (tagOf i) bs k) (.tuple #[]) (q2 (tagOf i) bs (k + 2 + (zb5 i cap).length + 1 + 1)) := by
 have hk := L.hk
 have htt := tagE_q (n := n) (t := t) (w := w) (bs := bs) L
 have F := famq1b (nm := tagOf i) (bs := bs)
 generalize k + 2 + (zb5 i cap).length + 1 + 1 = k7 at *
 have hadd := addE_q (n := n) (t := t) (w := w) (i := i) (cap := cap) (all := all) (nm := tagOf i) h0 hl k7
 generalize hP : prQ prog n 65 t w i cap all = pP at *
 have h253 : pP 253 = none := by rw [← hP]; kernel_rfl
 clear hP
 generalize tagOf i = nm at *
 refine EF.of h253 func253 rfl ?_
 refine EW.seq (EW.region (by kernel_rfl) (EO.gs 3 5 (q1b nm bs (k)) (by kernel_rfl) ?_))
 refine EO.op (by kernel_rfl) (op_ld (b := 66) (off := 1) (v := num ((k : Nat) : Int)) rfl underlying3 rfl (by kernel_rfl) (F.get (k)) rfl) (EO.op (by kernel_rfl) (op_addI (i := ((k : Nat) : Int)) (j := 2) (r := ((k + 2 : Nat) : Int)) rfl (by kernel_rfl) (by kernel_rfl) (by omega) (by omega)) ?_)
 refine EO.gs 2 5 (q1b nm bs (k)) (by kernel_rfl) (EO.op (by kernel_rfl) (op_st (b := 66) (off := 1) (w := num ((k + 2 : Nat) : Int)) rfl (by kernel_rfl) (by kernel_rfl) rfl rfl (by kernel_rfl) (F.get (k)) (by simp)) ?_)
 refine EO.nil (EW.asS (q1b nm bs (k + 2)) (F.set k (k + 2)) ?_)
 refine EW.seq (EW.region (by kernel_rfl) (EO.gc 1 5 (by kernel_rfl) htt ?_))
 refine EO.fin 5 (by kernel_rfl) (EW.asS (p2 nm bs k7) (by kernel_rfl) ?_)
 refine EW.seq (EW.go 9 (by kernel_rfl) (EW.condT (by kernel_rfl) ?_))
 refine EW.region (by kernel_rfl) (EO.gc 4 5 (by kernel_rfl) hadd ?_)
 refine EO.nil ?_
 exact ⟨.inl rfl,by kernel_rfl,by kernel_rfl⟩
theorem writeZ_q {nm ba : List UInt8} {bs : List UInt8} (h0 : bs ≠ []) (hl : bs.length ≤ 1000000) (k : Nat) : EF prog ktB (prQ prog n 65 t w i cap all) 156 #[aptr 66 2,str bs] (q2 nm ba k) (.tuple #[num (bs.length : Nat), .nilIface]) (q3 nm ba bs k) := by
 have hc : EF prog ktB (prQ prog n 65 t w i cap all) 261 #[aptr 66 2] (q2 nm ba k) (.tuple #[]) ((q2 nm ba k).set 66 (some (scQ k (aptr 66 2) nilV (slN 87 3)))) := by
  refine EF.of (by kernel_rfl) func261 rfl ?_
  refine EW.go 20 (by kernel_rfl) ?_
  exact ⟨.inl rfl,by kernel_rfl,by kernel_rfl⟩
 generalize hs1 : (q2 nm ba k).set 66 (some (scQ k (aptr 66 2) nilV (slN 87 3))) = s1 at hc
 have g66 : s1.get 66 = some (scQ k (aptr 66 2) nilV (slN 87 3)) := by rw [← hs1,AS.get_set,if_pos rfl]
 have hnx : s1.nx = 88 := by rw [← hs1]; rfl
 refine EF.of (by kernel_rfl) func156 rfl ?_
 refine EW.seq (EW.go 5 (by kernel_rfl) (EW.seq (EW.region (by kernel_rfl) ?_)))
 refine EO.gc 1 5 (by kernel_rfl) hc (EO.nil ?_)
 refine EW.asS s1 (by kernel_rfl) (EW.seq (EW.region (by kernel_rfl) ?_))
 refine EO.gs 4 5 s1 (by kernel_rfl) (EO.op (by kernel_rfl) (op_ld (b := 66) (off := 3) (v := nilV) rfl underlying55 rfl (by kernel_rfl) g66 rfl) ?_)
 refine EO.gs 1 5 s1 (by kernel_rfl) ?_
 have hap := app_none (P := prog) (e := 5) (s := s1) (news := strCells ⟨bs.toArray⟩) (m := bs.length) (by simpa using h0)
 rw [hnx] at hap
 refine EO.op (by kernel_rfl) (op_appS (sl := nilV) (m := bs) rfl (by kernel_rfl) (by kernel_rfl) underlying55 underlying9 (by kernel_rfl) (by kernel_rfl) (by omega) rfl hap) ?_
 generalize hs2 : s1.add (.cells (strCells ⟨bs.toArray⟩).toArray 5 (1,1)) = s2
 have g66' : s2.get 66 = some (scQ k (aptr 66 2) nilV (slN 87 3)) := by rw [← hs2,AS.get_add,if_neg (by omega)]; exact g66
 refine EO.gs 2 5 s2 (by kernel_rfl) (EO.op (by kernel_rfl) (op_st (b := 66) (off := 3) (w := .slice (some ⟨88,0,none⟩) bs.length bs.length) rfl (by kernel_rfl) (by kernel_rfl) rfl rfl (by kernel_rfl) g66' (by simp)) ?_)
 refine EO.nil ?_
 refine EW.asS (q3 nm ba bs k) (by rw [← hs2, ← hs1]; kernel_rfl) (EW.seq (EW.region (by kernel_rfl) ?_))
 refine EO.go 1 5 (by kernel_rfl) (EO.op (by kernel_rfl) (zl0 (l := bs) rfl underlying9 (by kernel_rfl)) ?_)
 refine EO.fin 5 (by kernel_rfl) ?_
 exact EW.ret ⟨.inr rfl,by kernel_rfl,by kernel_rfl⟩
theorem wordsZ_q {k : Nat} (hk : k ≤ 700000) (hz : lAt all k = 122) (hzT : zf4 ((all.drop k).take 1) = [122]) (hf : lAt all (k + 1) = -1) : EF prog ktB (prQ prog n 65 t w i cap all) 72 #[aptr 66 0] (q2 nm bs k) (.tuple #[]) (q3 nm bs [122] (k + 1)) := by
 have F := famq2 (nm := nm) (bs := bs)
 have ha0 := zj0 (hpQ n 65 t w i cap all) F (k := k) (by omega)
 have ha1 := zj0 (hpQ n 65 t w i cap all) F (k := k + 1) (by omega)
 have hbg := begun_q (n := n) (t := t) (w := w) (i := i) (cap := cap) (all := all) F (k := k) (by omega) (by rw [hz]; decide)
 have htx := rtext_e (hpQ n 65 t w i cap all) (s := q2 nm bs (k + 1)) (k := k) (j := k + 1) (by omega)
 rw [show k + 1 - k = 1 by omega,hzT] at htx
 have hwr := with_q (n := n) (i := i) (t := t) (w := w) (cap := cap) (all := all) (s := q2 nm bs (k + 1)) (x := [122]) (v := [122]) (k := 0) (by unfold wrV; rw [if_neg (by simp),if_pos ⟨by kernel_rfl,rfl⟩]) (by kernel_rfl) (by show 66 ≤ 88; decide)
 have hwt := writeZ_q (n := n) (i := i) (t := t) (w := w) (cap := cap) (all := all) (nm := nm) (ba := bs) (bs := [122]) (by simp) (by simp) (k + 1)
 rw [hz] at ha0
 rw [hf] at ha1
 generalize hP : prQ prog n 65 t w i cap all = pP at *
 have h72 : pP 72 = none := by rw [← hP]; kernel_rfl
 clear hP
 refine EF.of h72 func72 rfl ?_
 refine EW.seq (EW.region (by kernel_rfl) (EO.gs 3 5 (q2 nm bs k) (by kernel_rfl) ?_))
 refine EO.op (by kernel_rfl) (op_ld (b := 66) (off := 1) (v := num (k : Nat)) rfl underlying3 rfl (by kernel_rfl) (F.get k) rfl) (EO.fin 5 (by kernel_rfl) ?_)
 refine EW.asS (q2 nm bs k) (by kernel_rfl) (EW.seq (EW.block ?_))
 refine EW.loop (EW.seq (EW.seq (EW.region (by kernel_rfl) ?_)))
 refine EO.gc 1 5 (by kernel_rfl) ha0 (EO.gc 3 5 (by kernel_rfl) hbg ?_)
 refine EO.fin 5 (by kernel_rfl) (EW.asS (q2 nm bs k) (by kernel_rfl) ?_)
 refine EW.condT (by kernel_rfl) (EW.skip (EW.block ?_))
 refine EW.region (by kernel_rfl) (EO.gs 3 5 (q2 nm bs (k)) (by kernel_rfl) ?_)
 refine EO.op (by kernel_rfl) (op_ld (b := 66) (off := 1) (v := num ((k : Nat) : Int)) rfl underlying3 rfl (by kernel_rfl) (F.get (k)) rfl) (EO.op (by kernel_rfl) (op_addI (i := ((k : Nat) : Int)) (j := 1) (r := ((k + 1 : Nat) : Int)) rfl (by kernel_rfl) (by kernel_rfl) (by omega) (by omega)) ?_)
 refine EO.gs 2 5 (q2 nm bs (k)) (by kernel_rfl) (EO.op (by kernel_rfl) (op_st (b := 66) (off := 1) (w := num ((k + 1 : Nat) : Int)) rfl (by kernel_rfl) (by kernel_rfl) rfl rfl (by kernel_rfl) (F.get (k)) (by simp)) ?_)
 refine EO.nil (EW.asS (q2 nm bs (k + 1)) (F.set k (k + 1)) ?_)
 refine EW.loop (EW.seq (EW.seq (EW.region (by kernel_rfl) ?_)))
 refine EO.gc 1 5 (by kernel_rfl) ha1 (EO.fin 5 (by kernel_rfl) ?_)
 refine EW.asS (q2 nm bs (k + 1)) (by kernel_rfl) (EW.condF (by kernel_rfl) (EW.exit ?_))
 refine EW.draw (by kernel_rfl) (by kernel_rfl) (by kernel_rfl) ?_
 iterate 6 refine ET.q (by kernel_rfl) (by kernel_rfl) ?_
 refine ET.asS (q2 nm bs (k + 1)) (by kernel_rfl) ?_
 refine ET.op (by kernel_rfl) (op_ld (b := 66) (off := 0) (v := aptr 65 0) rfl underlying84 rfl (by kernel_rfl) (F.get (k + 1)) rfl) ?_
 iterate 4 refine ET.q (by kernel_rfl) (by kernel_rfl) ?_
 refine ET.asS (q2 nm bs (k + 1)) (by kernel_rfl) ?_
 refine ET.op (by kernel_rfl) (op_ld (b := 66) (off := 1) (v := num ((k + 1 : Nat) : Int)) rfl underlying3 rfl (by kernel_rfl) (F.get (k + 1)) rfl) ?_
 refine ET.callF #[aptr 65 0,num (k : Nat),num ((k + 1 : Nat) : Int)] (by kernel_rfl) rfl rfl (by kernel_rfl) (by kernel_rfl) htx ?_
 refine ET.callF #[str [122],num 0] (by kernel_rfl) rfl rfl (by kernel_rfl) (by kernel_rfl) hwr ?_
 refine ET.callF #[aptr 66 2,str [122]] (by kernel_rfl) rfl rfl (by kernel_rfl) (by kernel_rfl) hwt ?_
 refine ET.nil ⟨zg1 [(zc8 prog 84 (aptr 66 0) (q2 nm bs (k + 1)),aptr 65 0),(zc8 prog 3 (aptr 66 1) (q2 nm bs (k + 1)),num ((k + 1 : Nat) : Int))] (by kernel_rfl) (lds2 ⟨ld_row F (k + 1),rfl⟩ ⟨ld_at F (k + 1),rfl⟩),_,_,_,_,_,_,rfl,rfl,?_⟩
 exact ⟨.inl rfl,by kernel_rfl,by kernel_rfl⟩
theorem endT2_q {ba : List UInt8} (h0 : bs ≠ []) (hl : bs.length ≤ 1000000) (k : Nat) : EF prog ktB (prQ prog n 65 t w i cap all) 73 #[aptr 66 0] (q3 nm ba bs k) (.tuple #[]) (q4 nm ba bs k) := by
 have hpos : 0 < bs.length := List.length_pos_iff.2 h0
 have h158 : EF prog ktB (prQ prog n 65 t w i cap all) 158 #[aptr 66 2] (q3 nm ba bs k) (num (bs.length : Nat)) (q3 nm ba bs k) := EF.eval 20 (by kernel_rfl)
 have h84 := strD_f (pr := prQ prog n 65 t w i cap all) (s := q3 nm ba bs k) (x0 := aptr 65 0) (x1 := num (k : Nat)) (x2 := aptr 66 2) (x4 := (slN 87 3)) (l := bs) (fz := (1,1)) (d := 88) (by kernel_rfl) (by kernel_rfl) (by kernel_rfl) h0 hl
 refine EF.of (by kernel_rfl) func73 rfl ?_
 refine EW.seq (EW.region (by kernel_rfl) (EO.gc 3 5 (by kernel_rfl) h158 ?_))
 refine EO.op (by kernel_rfl) (zc4 (u := num (bs.length : Nat)) (w := num 0) rfl (by kernel_rfl) (by kernel_rfl) (bin_gtr (b := true) (decide_eq_true (by omega)))) (EO.nil ?_)
 refine EW.condT (by kernel_rfl) ?_
 refine EW.seq (EW.draw (by kernel_rfl) (by kernel_rfl) (by kernel_rfl) ?_)
 iterate 8 refine ET.q (by kernel_rfl) (by kernel_rfl) ?_
 refine ET.asS (q3 nm ba bs k) (by kernel_rfl) ?_
 refine ET.callF #[aptr 66 2] (by kernel_rfl) rfl rfl (by kernel_rfl) (by kernel_rfl) h84 ?_
 iterate 6 refine ET.q (by kernel_rfl) (by kernel_rfl) ?_
 refine ET.nil ⟨zg1 [(zc8 prog 56 (aptr 66 4) (q3 nm ba bs k),(slN 87 3)),(zc8 prog 56 (aptr 66 4) ((q3 nm ba bs k).set 88 none),(slN 87 3))] (by kernel_rfl) (lds2 ⟨by kernel_rfl,rfl⟩ ⟨by kernel_rfl,rfl⟩),_,_,_,_,_,_,rfl,rfl,?_⟩
 refine EW.go 20 (by kernel_rfl) ?_
 exact ⟨.inl rfl,by kernel_rfl,by kernel_rfl⟩
end
end
end Go.Proofs.YtgcaionclkbehaaGreatDoor
