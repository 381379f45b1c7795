/-
  Steps of a goroutine: 'defer' of whatever callee; a deferred closure is entered; a deferred close; 'recover' where nothing panics. They know no program.
-/
import Derived.Test.YtmabfdpfegbfkaaGreatWalk
import Derived.Conc.TokenWalk
set_option linter.all false
namespace Go.Proofs.YtmabfdpfegbfkaaGreat
open Go.Conc

section
variable {P : Program} {main : Bool} {b : Frame} {a : Act} {k : List Item} {cs : List Frame} {w : World} {ops : Array Oper} {i : Nat} {rest : List Nat} {o : Oper}

theorem stepG_deferX {d : Deferred} (ho : ops[i]? = some o) (hw : Region.wanted o (yielded ops a.tmps) = true) (hk : b.kind ≠ .early) (hr : (execOp a.eval o).run P w = .ok (.defer d) w) (he : (execOp a.eval o).events P w #[] = #[]) :
    stepG P main (G (b.at a (.inRegion ops (i :: rest) :: k)) cs) w = .go (G (b.at (Act.put ⟨a.tmps, d :: a.defers⟩ o.dst undef) (.inRegion ops rest :: k)) cs) w #[] := by
  have hfin : (b.at ⟨a.tmps, d :: a.defers⟩ (.inRegion ops (i :: rest) :: k)).finish undef = b.at (Act.put ⟨a.tmps, d :: a.defers⟩ o.dst undef) (.inRegion ops rest :: k) := by rw [Frame.finish_at, ho]; rfl
  have hk' : (b.kind == CallKind.early) = false := by simpa using hk
  rw [stepG_oper ho hw, ← hfin]
  simp [stepG.apply, hr, he, G, Frame.at, hk', GStep.after, seen_none]

/-- 'recover' in a deferred call, where the frame that calls it returns. -/
theorem stepG_recover {c : Frame} (ho : ops[i]? = some o) (hw : Region.wanted o (yielded ops a.tmps) = true) (hk : b.kind = .deferred) (hro : b.roundOf = none) (hc : c.mode = .returning) (hr : (execOp a.eval o).run P w = .ok .recover w) (he : (execOp a.eval o).events P w #[] = #[]) :
    stepG P main (G (b.at a (.inRegion ops (i :: rest) :: k)) (c :: cs)) w = .go (G (b.at (a.put o.dst .nilIface) (.inRegion ops rest :: k)) (c :: cs)) w #[] := by
  have hfin : (b.at a (.inRegion ops (i :: rest) :: k)).finish .nilIface = b.at (a.put o.dst .nilIface) (.inRegion ops rest :: k) := by rw [Frame.finish_at, ho]; rfl
  rw [stepG_oper ho hw, ← hfin]
  simp [stepG.apply, hr, he, G, Frame.at, hk, hro, tryRecover, hc, GStep.after, seen_none]

variable {todo : List Item} {ds : List Deferred} {f : FuncId} {fn : Func} {args cap : Array Value}

theorem stepG_unwind_closure {c : Code} (hd : a.defers = { target := .fn (.func f) cap, args := args } :: ds) (hf : P.funcs[f]? = some fn) (hname : (fn.name == "runtime.NumGoroutine") = false) (hb : fn.body = some c) :
    stepG P main (G { b.at a todo with mode := .returning } cs) w =
      .go (G ((baseD f).at { tmps := (args ++ cap) ++ Array.replicate (fn.ntmps - (args ++ cap).size) undef, defers := [] } [.code c]) ({ b.at ⟨a.tmps, ds⟩ todo with mode := .returning } :: cs)) w #[] := by
  have h1 : ¬ fn.name = "runtime.NumGoroutine" := by simpa using hname
  rw [← enter_atD (args ++ cap) hf hb]
  simp [G, stepG, unwind, callDeferred, Frame.at, hd, invoke, callFunc, hf, h1, hb, GStep.after, seen_none]

theorem stepG_unwind_close {ats : Array TypeId} {ty : TypeId} {cn : Array Bool} {r cap s rc : Nat} {buf : Array Value} {tm : Bool} (hd : a.defers = { target := .builtin .close ats ty cn, args := #[.chan (some r)] } :: ds)
    (h : w.heap[r]? = some (.chan cap buf false s rc tm)) (hq : (P.funcs[b.fn]?).any (·.norace) = false) :
    stepG P main (G { b.at a todo with mode := .returning } cs) w = .go (G { b.at ⟨a.tmps, ds⟩ todo with mode := .returning } cs) (w.setChan r cap buf true s rc tm) (closeEvents r) := by
  have hr : (builtin .close ats ty cn #[.chan (some r)]).run P w = .ok (.value (.tuple #[])) (w.setChan r cap buf true s rc tm) := by
    simp [go_sem, run_close_open _ _ h, World.setChan]
  have he : (builtin .close ats ty cn #[.chan (some r)]).events P w #[] = closeEvents r := by
    simp [go_sem, events_close_open _ _ h, closeEvents]
  have hs : seen P b.fn (closeEvents r) = closeEvents r := seen_eq hq (by intro e he f; simp only [closeEvents, List.mem_toArray, List.mem_cons, List.not_mem_nil, or_false] at he; rcases he with rfl | rfl <;> simp)
  simp [G, stepG, unwind, callDeferred, Frame.at, hd, invoke, hr, he, hs, GStep.after]
end
end Go.Proofs.YtmabfdpfegbfkaaGreat
