/-
  What the two builtins that make a string of a row of bytes list. They know no program.
-/
import Derived.Test.YtmabfdpfegbfkaaGreatPure
import Derived.Conc.AppendEvents3
set_option linter.all false
namespace Go.Proofs.YtmabfdpfegbfkaaGreat
open Go.Conc
section
variable {P : Program}
theorem events_sliceData_nil (w : World) (ts : Array TypeId) (ty : TypeId) (n c : Nat) (es : Array Event) : (Builtin.unsafeSliceData_ ts ty #[.slice none n c]).events P w es = es := by
  show Sem.events P (pure (Value.pointer none) : Sem Value) w es = es
  simp
theorem events_sliceData_row (w : World) (ts : Array TypeId) (ty : TypeId) (a : Addr) (n c : Nat) (hc : c ≠ 0) (es : Array Event) : (Builtin.unsafeSliceData_ ts ty #[.slice (some a) n c]).events P w es = es := by
  obtain ⟨k, rfl⟩ : ∃ k, c = k + 1 := ⟨c - 1, by omega⟩
  show Sem.events P (pure (Value.pointer (some a)) : Sem Value) w es = es
  simp
theorem events_unsafeString_none (w : World) (pt it ty : TypeId) (p : Option Addr) (es : Array Event) : (Builtin.unsafeString_ #[pt, it] ty #[.pointer p, .int .i64 0]).events P w es = es := by
  have hmax : IntKind.i64.max = 9223372036854775807 := rfl
  cases p with
  | none =>
    obtain ⟨t1, t2, t3, hdef⟩ : ∃ t1 t2 t3 : String, Builtin.unsafeString_ #[pt, it] ty #[.pointer none, .int .i64 0] =
        (do
          let n ← asInt (.int .i64 0)
          if n < 0 then runtimePanic (.error t1)
          if n > IntKind.i64.max then unsupported (.unsafePointer t2)
          if n = 0 then pure (.string .empty)
          else runtimePanic (.error t3)) := ⟨_, _, _, rfl⟩
    rw [hdef]
    simp [asInt, asIntOf, hmax]
  | some a =>
    obtain ⟨t1, t2, t3, hdef⟩ : ∃ t1 t2 t3 : String, Builtin.unsafeString_ #[pt, it] ty #[.pointer (some a), .int .i64 0] =
        (do
          let n ← asInt (.int .i64 0)
          if n < 0 then runtimePanic (.error t1)
          if n > IntKind.i64.max then unsupported (.unsafePointer t2)
          if n = 0 then pure (.string .empty)
          else if ← variablesAt a (← elemOf pt) n.toNat then do
            let s ← loadBytes a .empty n.toNat
            freeze a n.toNat
            pure (.string s)
          else unsupported (.unsafePointer t3)) := ⟨_, _, _, rfl⟩
    rw [hdef]
    simp [asInt, asIntOf, hmax]
theorem add_one_add (a : Addr) (j : Nat) : (a.add 1).add j = a.add (j + 1) := by
  unfold Addr.add
  by_cases hj : j = 0
  · subst hj; simp
  · simp [hj]; omega
theorem events_loadBytes (w : World) : ∀ (l : List UInt8) (a : Addr) (acc : ByteArray) (es : Array Event), (∀ j x, l[j]? = some x → w.cell? (a.add j) = some (.int .u8 x.toNat)) →
    ∀ ev ∈ (loadBytes a acc l.length).events P w es, ev ∈ es ∨ ∃ ad, ev.loc = .cell ad ∧ ad.block = a.block
  | [], a, acc, es, _ => fun ev h => .inl (by simpa [loadBytes] using h)
  | x :: l, a, acc, es, h => fun ev hev => by
    have h0 : w.cell? a = some (.int .u8 x.toNat) := by
      have := h 0 x rfl
      simpa [Addr.add] using this
    have hx : ((x.toNat : Int).toNat).toUInt8 = x := by simp
    simp only [List.length_cons, loadBytes, Sem.events_bind, run_load, h0, Result.evThen_ok] at hev
    rcases events_loadBytes w l (a.add 1) _ _ (fun j y hy => by rw [add_one_add]; exact h (j + 1) y (by simpa using hy)) ev hev with z | ⟨ad, z1, z2⟩
    · rcases events_load_at (P := P) w a .plain es h0 ev z with y | ⟨y, _⟩
      · exact .inl y
      · exact .inr ⟨a, y, rfl⟩
    · exact .inr ⟨ad, z1, by rw [z2, addBlock]⟩
theorem events_unsafeString_row (w : World) (pt it ty e : TypeId) (hp : P.underlying pt = some (.pointer e)) (hc : P.cellsOf e = 1) (g cells : Nat) (hsh : w.shape? g = some (e, cells)) (l : List UInt8) (h0 : l ≠ []) (hn : l.length ≤ cells) (h63 : l.length ≤ 9223372036854775807)
    (hcell : ∀ j x, l[j]? = some x → w.cell? ((⟨g, 0, none⟩ : Addr).add j) = some (.int .u8 x.toNat)) :
    ∀ ev ∈ (Builtin.unsafeString_ #[pt, it] ty #[.pointer (some ⟨g, 0, none⟩), .int .i64 l.length]).events P w #[], ∃ ad, ev.loc = .cell ad ∧ ad.block = g := by
  have hl : l.length ≠ 0 := by simpa using h0
  have hlb := Lib.run_loadBytes (P := P) w l ⟨g, 0, none⟩ .empty hcell
  have hlies := Lib.liesAt_bytes (P := P) hc (cells / P.cellsOf e) l.length (by rw [hc]; simpa using hn)
  have h63' : ¬ (9223372036854775807 : Int) < (l.length : Int) := by omega
  obtain ⟨t1, t2, t3, hdef⟩ : ∃ t1 t2 t3 : String, Builtin.unsafeString_ #[pt, it] ty #[.pointer (some ⟨g, 0, none⟩), .int .i64 l.length] =
      (do
        let n ← asInt (.int .i64 l.length)
        if n < 0 then runtimePanic (.error t1)
        if n > IntKind.i64.max then unsupported (.unsafePointer t2)
        if n = 0 then pure (.string .empty)
        else if ← variablesAt ⟨g, 0, none⟩ (← elemOf pt) n.toNat then do
          let s ← loadBytes ⟨g, 0, none⟩ .empty n.toNat
          freeze ⟨g, 0, none⟩ n.toNat
          pure (.string s)
        else unsupported (.unsafePointer t3)) := ⟨_, _, _, rfl⟩
  rw [hdef]
  have hmax : IntKind.i64.max = 9223372036854775807 := rfl
  have hneg : ¬ (l.length : Int) < 0 := by omega
  intro ev hev
  simp [asInt, asIntOf, hmax, h63', hneg, hl, variablesAt, hsh, elemOf, run_underlying hp, hlies, hlb] at hev
  rcases events_loadBytes (P := P) w l ⟨g, 0, none⟩ .empty #[] hcell ev hev with z | z
  · simp at z
  · exact z
end
end Go.Proofs.YtmabfdpfegbfkaaGreat
