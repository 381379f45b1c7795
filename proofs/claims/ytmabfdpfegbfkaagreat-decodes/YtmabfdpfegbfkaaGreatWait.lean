/-
  Goroutine 0 beside the child: from the go statement to Wait.
-/
import Derived.Test.YtmabfdpfegbfkaaGreatRecv
import Derived.Test.YtmabfdpfegbfkaaGreatBorn
import Derived.Test.YtmabfdpfegbfkaaGreatAdd
import Derived.Conc.FxGenWait
set_option linter.all false
set_option linter.unusedSectionVars false
set_option linter.unusedSimpArgs false
namespace Go.Proofs.YtmabfdpfegbfkaaGreat
open Go.Conc Go.RowKit
def code18 (b : Option Code) : Code := match b with | some (.seq _ (.seq _ (.seq _ (.seq _ c)))) => c | _ => .skip
def ops18 (b : Option Code) (n : Nat) : Array Oper := match code18 b with | .seq (.region _ o4 _) (.seq (.region _ o5 _) (.region _ o6 _)) => if n = 4 then o4 else if n = 5 then o5 else o6 | _ => #[]
section
variable {N Pb Bb : Nat} {Shun : Loc → Prop} {val : Value} {B Low : Nat} {Mine : Loc → Prop} {w₀ w w₁ : World} {AnchW : Goroutine → World → Prop} {p u v : Value} {n : Nat} {xs : List Value}
variable [Go.ConcR.Payload] [Go.ConcX.Payload]
variable [Go.ConcX.Shy (Cfg.Wg (kcfg Tryz.prog N Pb Shun (pieceV Pb) B Low Mine)) (Cfg.C (kcfg Tryz.prog N Pb Shun (pieceV Pb) B Low Mine))]
variable {vs : List Value} {s : ByteArray}
/-- What Wait keeps. -/
def FW (w₀ : World) (N Pb Bb n : Nat) (xs : List Value) (w : World) : Prop := ∃ p v, HM w₀ N Pb Bb p v v n xs w
theorem fw_aside (h : FW w₀ N Pb Bb n xs w) (r : Go.ConcX.Aside2 N (N + 5) w w₁) : FW w₀ N Pb Bb n xs w₁ := by
  obtain ⟨p, v, h⟩ := h
  have hb : ∀ b, b = Bb ∨ N + 10 ≤ b → w₁.heap[b]? = w.heap[b]? := fun b hb => r.block b (by have := h.lo; omega) (by have := h.lo; omega)
  refine ⟨p, v, (hb _ (.inl rfl)).trans h.bd, ⟨h.row.1, ?_⟩, h.lo, h.np, h.plo, by rw [r.size]; exact h.size, ⟨r.tape.trans h.old.tape, r.os.trans h.old.os, r.output.trans h.old.output, fun b h1 h2 => (r.block b (by omega) (by omega)).trans (h.old.block b h1 h2)⟩, h.nil⟩
  rcases h.row.2 with z | ⟨g, cap, cur, h1, h2, h3, h4⟩
  · exact .inl z
  · exact .inr ⟨g, cap, cur, h1, h2, (hb g (.inr h2)).trans h3, h4⟩
set_option maxRecDepth 100000 in
set_option maxHeartbeats 2000000 in
theorem wait_x {b : Frame} {a : Act} {k : List Item} {cs : List Frame} (hk : b.kind ≠ .early) (ha : a.eval (.tmp 6) = .pointer (some ⟨N + 5, 0, none⟩)) (hF : HQ w₀ N Pb Bb (kcfg Tryz.prog N Pb Shun (pieceV Pb) B Low Mine) p v n xs w) :
    XM (kcfg Tryz.prog N Pb Shun (pieceV Pb) B Low Mine) (Go.ConcX.Gen.AnchW7 link (FW w₀ N Pb Bb n xs) (Cfg.Wg (kcfg Tryz.prog N Pb Shun (pieceV Pb) B Low Mine)) (Cfg.C (kcfg Tryz.prog N Pb Shun (pieceV Pb) B Low Mine)) [pieceV Pb] (b.at a (.inRegion (ops18 Tryz.f18.body 6) [0] :: k)) cs) .join (G (b.at a (.code (.region 6 (ops18 Tryz.f18.body 6) false) :: k)) cs) w := by
  have C : ClosedI Tryz.prog true (RMd (kcfg Tryz.prog N Pb Shun (pieceV Pb) B Low Mine)) (DMd (kcfg Tryz.prog N Pb Shun (pieceV Pb) B Low Mine)) (XM (kcfg Tryz.prog N Pb Shun (pieceV Pb) B Low Mine) (Go.ConcX.Gen.AnchW7 link (FW w₀ N Pb Bb n xs) (Cfg.Wg (kcfg Tryz.prog N Pb Shun (pieceV Pb) B Low Mine)) (Cfg.C (kcfg Tryz.prog N Pb Shun (pieceV Pb) B Low Mine)) [pieceV Pb] (b.at a (.inRegion (ops18 Tryz.f18.body 6) [0] :: k)) cs)) := XM.closed (K := (kcfg Tryz.prog N Pb Shun (pieceV Pb) B Low Mine))
  have T := termsM (K := (kcfg Tryz.prog N Pb Shun (pieceV Pb) B Low Mine))
  refine C.step rfl fun _ h₁ => ?_
  replace hF := hF.rely h₁
  clear h₁
  rw [stepG_region]
  simp only [goes_go]
  refine ⟨(T .join).idle _, ?_⟩
  have hr : List.range (ops18 Tryz.f18.body 6).size = [0] := by rfl
  rw [hr]
  refine C.step rfl fun w₁ h₁ => ?_
  replace hF := hF.rely h₁
  clear h₁
  refine goes_call (b := b) (a := a) (args := #[.tmp 6]) (ats := #[114]) (i := 0) (ops := ops18 Tryz.f18.body 6) rfl rfl hk rfl wgLib.f_wait (Go.ConcX.Gen.nm_wait link) rfl ⟨(T .join).idle _, ?_⟩
  have hW := Go.ConcX.Gen.waitStart (L := link) (P := Tryz.prog) (Wg := Cfg.Wg (kcfg Tryz.prog N Pb Shun (pieceV Pb) B Low Mine)) (C := Cfg.C (kcfg Tryz.prog N Pb Shun (pieceV Pb) B Low Mine)) (Low := Low) (Mine := Mine) (vals := [pieceV Pb]) (F := FW w₀ N Pb Bb n xs) (b₀ := b) (a₀ := a) (ops₀ := ops18 Tryz.f18.body 6) (i₀ := 0) (rest₀ := []) (k₀ := k) (cs := cs) wgLib (fun _ _ r h => fw_aside h r) w₁ ⟨⟨p, v, hF.hm⟩, hF.ka⟩
  have ht : (#[Operand.tmp 6].map a.eval) = #[Value.pointer (some ⟨N + 5, 0, none⟩)] := by simp [ha]
  rw [ht]
  simp only [Go.ConcX.Gen.body_wait, Go.Conc.Lib.waitFn, Option.getD_some] at hW
  walk_nrmf Go.Conc.Lib.waitFn
  exact way_of_goes hW
end
end Go.Proofs.YtmabfdpfegbfkaaGreat
