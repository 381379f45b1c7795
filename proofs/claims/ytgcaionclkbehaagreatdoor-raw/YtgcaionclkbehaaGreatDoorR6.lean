import Derived.Test.YtgcaionclkbehaaGreatDoorN8
set_option linter.all false
set_option maxRecDepth 100000
namespace Go.Proofs.YtgcaionclkbehaaGreatDoor
open Tryz
open Go.Conc Go.RowKit Go.Lib
def hdL : Nat → Bool → List Int
 | 0,false => [60,115,99,114,105,112,116,32,97,61,49,62]
 | 0,true => [60,83,67,82,73,80,84,32,97,61,49,62]
 | 1,false => [60,115,116,121,108,101,32,97,61,49,62]
 | 1,true => [60,83,116,121,108,101,32,97,61,49,62]
 | 2,false => [60,116,105,116,108,101,32,97,61,49,62]
 | 2,true => [60,116,73,116,76,101,32,97,61,49,62]
 | _,false => [60,116,101,120,116,97,114,101,97,32,97,61,49,62]
 | _,true => [60,84,69,88,84,65,82,69,65,32,97,61,49,62]
def hdN : Nat → Nat
 | 0 => 12
 | 1 => 11
 | 2 => 11
 | _ => 14
abbrev sl73 : Value := .slice (some ⟨73,0,none⟩) 1 1
abbrev sl77 : Value := .slice (some ⟨77,0,none⟩) 1 1
abbrev a1O : Obj := .cells #[str [97],str [49]] 47
abbrev tkS (nm : List UInt8) : List Value := [num 2,str [],str nm,sl73, .bool false]
abbrev scQ (k : Nat) (p q l : Value) : Obj := .cells #[aptr 65 0,num (k : Nat),p,q,l] 121
def qB (nm : List UInt8) (s : AS) : AS := ((((((s.add bxO).add (tgO nm sl73)).add a1O).add a1O).add a1O).add a1O).add (.cells #[str [97],str [49]] 47 (1,1))
def qT (nm : List UInt8) (k : Nat) : AS := qB nm (rd0.add (scQ k (.pointer none) nilV nilV))
def qU (nm : List UInt8) (k : Nat) : AS := (qT nm k).add (tgO nm sl73)
def qA (nm : List UInt8) (s : AS) : AS := ((((qB nm s).add (tgO nm sl73)).add (.cells (tkS nm).toArray 60)).add (.cells (tkS nm).toArray 60)).add (.cells (tkS nm).toArray 60 (1,1))
def q0 (nm : List UInt8) (k : Nat) : AS := qA nm (rd0.add (scQ k (.pointer none) nilV sl77))
def TagQ (P : Program) (i : Nat) (cap : Bool) : Prop := ∀ (n : Nat) (t w : List UInt8) (rest : List Int),EF P ktB (prQ P n 65 t w i cap (hdL i cap ++ rest)) 248 #[aptr 66 0] (sc1b 1) (.tuple #[.agg #[str (tagOf i),sl73, .bool false], .bool true]) (qT (tagOf i) (hdN i))
theorem tagQ0f : TagQ prog 0 false := fun n t w rest => EF.eval 200 (by kernel_rfl)
theorem tagQ0t : TagQ prog 0 true := fun n t w rest => EF.eval 200 (by kernel_rfl)
theorem tagQ1f : TagQ prog 1 false := fun n t w rest => EF.eval 200 (by kernel_rfl)
theorem tagQ1t : TagQ prog 1 true := fun n t w rest => EF.eval 200 (by kernel_rfl)
theorem tagQ2f : TagQ prog 2 false := fun n t w rest => EF.eval 200 (by kernel_rfl)
theorem tagQ2t : TagQ prog 2 true := fun n t w rest => EF.eval 200 (by kernel_rfl)
theorem tagQ3f : TagQ prog 3 false := fun n t w rest => EF.eval 200 (by kernel_rfl)
theorem tagQ3t : TagQ prog 3 true := fun n t w rest => EF.eval 200 (by kernel_rfl)
theorem tagQ {i : Nat} (hi : i < 4) (cap : Bool) : TagQ prog i cap := by
 have hi' : i = 0 ∨ i = 1 ∨ i = 2 ∨ i = 3 := by omega
 rcases hi' with rfl | rfl | rfl | rfl
 ·
  cases cap
  ·
   exact tagQ0f
  ·
   exact tagQ0t
 ·
  cases cap
  ·
   exact tagQ1f
  ·
   exact tagQ1t
 ·
  cases cap
  ·
   exact tagQ2f
  ·
   exact tagQ2t
 ·
  cases cap
  ·
   exact tagQ3f
  ·
   exact tagQ3t
section
variable {n i : Nat} {t w : List UInt8} {cap : Bool} {all : List Int} {s : AS}
theorem isV_at (b : Bool) : isV i b #[str (tagOf i)] = some (.bool b) := by unfold isV; simp
theorem raw_q : EF prog ktB (prQ prog n 65 t w i cap all) 250 #[str (tagOf i)] s (.bool (!Nat.ble 2 i)) s := EF.given (g := fun args s => match isV i (!Nat.ble 2 i) args with | some v => some (v,s) | none => none) (by unfold prQ zc9 prQ1 zc9 prQ0 prAdd; rfl) (by simp only [isV_at])
theorem plain_q : EF prog ktB (prQ prog n 65 t w i cap all) 251 #[str (tagOf i)] s (.bool (Nat.ble 2 i)) s := EF.given (g := fun args s => match isV i (Nat.ble 2 i) args with | some v => some (v,s) | none => none) (by unfold prQ zc9 prQ1 zc9 prQ0 prAdd; rfl) (by simp only [isV_at])
theorem addQ (hi : i < 4) (k : Nat) : EF prog ktB (prQ prog n 65 t w i cap all) 249 #[aptr 66 0, .agg (tkS (tagOf i)).toArray] (qU (tagOf i) k) (.tuple #[]) (q0 (tagOf i) k) := by
 have hi' : i = 0 ∨ i = 1 ∨ i = 2 ∨ i = 3 := by omega
 rcases hi' with rfl | rfl | rfl | rfl <;> exact EF.eval 60 (by kernel_rfl)
theorem start_q (hi : i < 4) {rest : List Int} {S : AS} (h252 : EF prog ktB (prQ prog n 65 t w i cap (hdL i cap ++ rest)) 252 #[aptr 66 0,str (tagOf i)] (q0 (tagOf i) (hdN i)) (.tuple #[]) S) : EF prog ktB (prQ prog n 65 t w i cap (hdL i cap ++ rest)) 148 #[aptr 66 0] (sc1b 0) (.tuple #[]) S := by
 have htt := tagQ hi cap n t w rest
 have hadd := addQ (n := n) (t := t) (w := w) (cap := cap) (all := hdL i cap ++ rest) hi (hdN i)
 have hraw := raw_q (n := n) (i := i) (t := t) (w := w) (cap := cap) (all := hdL i cap ++ rest) (s := q0 (tagOf i) (hdN i))
 have hpl := plain_q (n := n) (i := i) (t := t) (w := w) (cap := cap) (all := hdL i cap ++ rest) (s := q0 (tagOf i) (hdN i))
 generalize hP : prQ prog n 65 t w i cap (hdL i cap ++ rest) = pP at *
 have h148 : pP 148 = none := by rw [← hP]; kernel_rfl
 clear hP
 generalize tagOf i = nm at *
 generalize hdN i = k7 at *
 generalize Nat.ble 2 i = bb at *
 refine EF.of h148 func148 rfl ?_
 refine EW.seq (EW.go 9 (by kernel_rfl) (EW.asS (sc1b 1) (by kernel_rfl) ?_))
 refine EW.seq (EW.region (by kernel_rfl) (EO.gc 1 5 (by kernel_rfl) htt ?_))
 refine EO.fin 5 (by kernel_rfl) (EW.asS (qU nm k7) (by kernel_rfl) ?_)
 refine EW.seq (EW.go 9 (by kernel_rfl) (EW.seq (EW.region (by kernel_rfl) ?_)))
 refine EO.gc 8 5 (by kernel_rfl) hadd (EO.nil ?_)
 refine EW.asS (q0 nm k7) (by kernel_rfl) (EW.seq (EW.region (by kernel_rfl) ?_))
 refine EO.gc 2 5 (by kernel_rfl) hraw ?_
 cases bb with
 | false =>
  refine EO.fin 5 (by kernel_rfl) (EW.asS (q0 nm k7) (by kernel_rfl) ?_)
  refine EW.condT (by kernel_rfl) (EW.region (by kernel_rfl) ?_)
  refine EO.gc 3 5 (by kernel_rfl) h252 (EO.nil ?_)
  exact ⟨.inl rfl,by kernel_rfl,by kernel_rfl⟩
 | true =>
  refine EO.gc 3 5 (by kernel_rfl) hpl (EO.fin 5 (by kernel_rfl) ?_)
  refine EW.asS (q0 nm k7) (by kernel_rfl) (EW.condT (by kernel_rfl) ?_)
  refine EW.region (by kernel_rfl) (EO.gc 3 5 (by kernel_rfl) h252 ?_)
  refine EO.nil ?_
  exact ⟨.inl rfl,by kernel_rfl,by kernel_rfl⟩
end
end Go.Proofs.YtgcaionclkbehaaGreatDoor
