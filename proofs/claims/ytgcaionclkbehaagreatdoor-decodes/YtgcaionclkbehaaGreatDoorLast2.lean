/-
  What the two builtins that make a string of a row of bytes list. They know no program.
-/
import Derived.Test.YtgcaionclkbehaaGreatDoorRune
import Derived.Lib.Builder
import Derived.Conc.AppendEvents3
import Derived.Test.YtgcaionclkbehaaGreatDoorWalkI
set_option linter.all false
namespace Go.Proofs.YtgcaionclkbehaaGreatDoor
open Go.Conc
section
variable {P : Program}
theorem events_sliceData_nil (w : World) (ts : Array TypeId) (ty : TypeId) (n c : Nat) (es : Array Event) : (Builtin.unsafeSliceData_ ts ty #[.slice none n c]).events P w es = es := by
  show Sem.events P (pure (Value.pointer none) : Sem Value) w es = es
  simp
theorem events_sliceData_row (w : World) (ts : Array TypeId) (ty : TypeId) (a : Addr) (n c : Nat) (hc : c ≠ 0) (es : Array Event) : (Builtin.unsafeSliceData_ ts ty #[.slice (some a) n c]).events P w es = es := by
  obtain ⟨k, rfl⟩ : ∃ k, c = k + 1 := ⟨c - 1, by omega⟩
  show Sem.events P (pure (Value.pointer (some a)) : Sem Value) w es = es
  simp
theorem events_unsafeString_none (w : World) (pt it ty : TypeId) (p : Option Addr) (es : Array Event) : (Builtin.unsafeString_ #[pt, it] ty #[.pointer p, .int .i64 0]).events P w es = es := by
  have hmax : IntKind.i64.max = 9223372036854775807 := rfl
  cases p with
  | none =>
    obtain ⟨t1, t2, t3, hdef⟩ : ∃ t1 t2 t3 : String, Builtin.unsafeString_ #[pt, it] ty #[.pointer none, .int .i64 0] =
        (do
          let n ← asInt (.int .i64 0)
          if n < 0 then runtimePanic (.error t1)
          if n > IntKind.i64.max then unsupported (.unsafePointer t2)
          if n = 0 then pure (.string .empty)
          else runtimePanic (.error t3)) := ⟨_, _, _, rfl⟩
    rw [hdef]
    simp [asInt, asIntOf, hmax]
  | some a =>
    obtain ⟨t1, t2, t3, hdef⟩ : ∃ t1 t2 t3 : String, Builtin.unsafeString_ #[pt, it] ty #[.pointer (some a), .int .i64 0] =
        (do
          let n ← asInt (.int .i64 0)
          if n < 0 then runtimePanic (.error t1)
          if n > IntKind.i64.max then unsupported (.unsafePointer t2)
          if n = 0 then pure (.string .empty)
          else if ← variablesAt a (← elemOf pt) n.toNat then do
            let s ← loadBytes a .empty n.toNat
            freeze a n.toNat
            pure (.string s)
          else unsupported (.unsafePointer t3)) := ⟨_, _, _, rfl⟩
    rw [hdef]
    simp [asInt, asIntOf, hmax]
theorem add_one_add (a : Addr) (j : Nat) : (a.add 1).add j = a.add (j + 1) := by
  unfold Addr.add
  by_cases hj : j = 0
  · subst hj; simp
  · simp [hj]; omega
theorem events_loadBytes (w : World) : ∀ (l : List UInt8) (a : Addr) (acc : ByteArray) (es : Array Event), (∀ j x, l[j]? = some x → w.cell? (a.add j) = some (.int .u8 x.toNat)) →
    ∀ ev ∈ (loadBytes a acc l.length).events P w es, ev ∈ es ∨ ∃ ad, ev.loc = .cell ad ∧ ad.block = a.block
  | [], a, acc, es, _ => fun ev h => .inl (by simpa [loadBytes] using h)
  | x :: l, a, acc, es, h => fun ev hev => by
    have h0 : w.cell? a = some (.int .u8 x.toNat) := by
      have := h 0 x rfl
      simpa [Addr.add] using this
    have hx : ((x.toNat : Int).toNat).toUInt8 = x := by simp
    simp only [List.length_cons, loadBytes, Sem.events_bind, run_load, h0, Result.evThen_ok] at hev
    rcases events_loadBytes w l (a.add 1) _ _ (fun j y hy => by rw [add_one_add]; exact h (j + 1) y (by simpa using hy)) ev hev with z | ⟨ad, z1, z2⟩
    · rcases events_load_at (P := P) w a .plain es h0 ev z with y | ⟨y, _⟩
      · exact .inl y
      · exact .inr ⟨a, y, rfl⟩
    · exact .inr ⟨ad, z1, by rw [z2, addBlock]⟩
theorem events_unsafeString_row (w : World) (pt it ty e : TypeId) (hp : P.underlying pt = some (.pointer e)) (hc : P.cellsOf e = 1) (g cells : Nat) (hsh : w.shape? g = some (e, cells)) (l : List UInt8) (h0 : l ≠ []) (hn : l.length ≤ cells) (h63 : l.length ≤ 9223372036854775807)
    (hcell : ∀ j x, l[j]? = some x → w.cell? ((⟨g, 0, none⟩ : Addr).add j) = some (.int .u8 x.toNat)) :
    ∀ ev ∈ (Builtin.unsafeString_ #[pt, it] ty #[.pointer (some ⟨g, 0, none⟩), .int .i64 l.length]).events P w #[], ∃ ad, ev.loc = .cell ad ∧ ad.block = g := by
  have hl : l.length ≠ 0 := by simpa using h0
  have hlb := Lib.run_loadBytes (P := P) w l ⟨g, 0, none⟩ .empty hcell
  have hlies := Lib.liesAt_bytes (P := P) hc (cells / P.cellsOf e) l.length (by rw [hc]; simpa using hn)
  have h63' : ¬ (9223372036854775807 : Int) < (l.length : Int) := by omega
  obtain ⟨t1, t2, t3, hdef⟩ : ∃ t1 t2 t3 : String, Builtin.unsafeString_ #[pt, it] ty #[.pointer (some ⟨g, 0, none⟩), .int .i64 l.length] =
      (do
        let n ← asInt (.int .i64 l.length)
        if n < 0 then runtimePanic (.error t1)
        if n > IntKind.i64.max then unsupported (.unsafePointer t2)
        if n = 0 then pure (.string .empty)
        else if ← variablesAt ⟨g, 0, none⟩ (← elemOf pt) n.toNat then do
          let s ← loadBytes ⟨g, 0, none⟩ .empty n.toNat
          freeze ⟨g, 0, none⟩ n.toNat
          pure (.string s)
        else unsupported (.unsafePointer t3)) := ⟨_, _, _, rfl⟩
  rw [hdef]
  have hmax : IntKind.i64.max = 9223372036854775807 := rfl
  have hneg : ¬ (l.length : Int) < 0 := by omega
  intro ev hev
  simp [asInt, asIntOf, hmax, h63', hneg, hl, variablesAt, hsh, elemOf, run_underlying hp, hlies, hlb] at hev
  rcases events_loadBytes (P := P) w l ⟨g, 0, none⟩ .empty #[] hcell ev hev with z | z
  · simp at z
  · exact z
theorem freeze_ne (w : World) {b k n : Nat} (h : k ≠ b) : (w.freeze ⟨b, 0, none⟩ n).heap[k]? = w.heap[k]? := by
  unfold World.freeze
  split
  · rfl
  · simp [Array.getElem?_modify, Ne.symm h]
theorem freeze_at (w : World) {b n : Nat} {cs : Array Value} {t : TypeId} {fz : Nat × Nat} (h : w.heap[b]? = some (.cells cs t fz)) : ∃ fz', (w.freeze ⟨b, 0, none⟩ n).heap[b]? = some (.cells cs t fz') := by
  unfold World.freeze
  split
  · exact ⟨_, h⟩
  · simp [Array.getElem?_modify, h]
theorem Own.freeze {KT : TypeId → Prop} {M : World → Nat → Prop} {w : World} {b : Nat} {cs : Array Value} {t : TypeId} {fz : Nat × Nat} (hb : w.heap[b]? = some (.cells cs t fz)) (hm : M w b) (ht : ¬ KT t) (n : Nat) : Own KT M w (w.freeze ⟨b, 0, none⟩ n) := by
  have hw : (w.freeze ⟨b, 0, none⟩ n).tape = w.tape ∧ (w.freeze ⟨b, 0, none⟩ n).os = w.os ∧ (w.freeze ⟨b, 0, none⟩ n).output = w.output ∧ (w.freeze ⟨b, 0, none⟩ n).heap.size = w.heap.size := by
    unfold World.freeze
    split <;> simp
  refine ⟨hw.1, hw.2.1, hw.2.2.1, by rw [hw.2.2.2]; exact Nat.le_refl _, fun k _ hk => freeze_ne w (fun e => hk (e ▸ hm)), fun k cs' t' fz' h hk => ?_⟩
  by_cases e : k = b
  · subst e
    obtain ⟨fz2, h2⟩ := freeze_at w (n := n) hb
    rw [h2] at h
    cases h
    exact absurd hk ht
  · exact freeze_ne w e
end
end Go.Proofs.YtgcaionclkbehaaGreatDoor
/-
  A region that draws its order, whose last TWO operations come last, in their order. It knows no program.
-/
namespace Go.Proofs.YtgcaionclkbehaaGreatDoor
open Go.Conc
section
variable {ι : Type} {P : Program} {main : Bool} {R : ι → World → World → Prop} {D : ι → World → World → Array Event → Prop} {X : ι → Goroutine → World → Prop} {fn : FuncId} {Q : PostI ι} {a : Act} {w : World} {vs : ι}
theorem wpI_region_last2 (C : ClosedI P main R D X) (T : ∀ i, Terms (R i) (D i)) {id n : Nat} {ops : Array Oper} {S : World → Prop} {K : Act → World → Prop} (hd : LetsDraw (D vs)) (hm : P.follows .mixedOrders = true) (hn : ops.size = n + 2)
    (dn : Array Bool → Bool) (hdn0 : dn (Array.replicate (n + 2) false) = true)
    (hdn : ∀ listed : Array Bool, listed.size = n + 2 → listed[n]? = some false → listed[n + 1]? = some false → dn listed = true → ∀ i ∈ Region.ready .any ops ((listed.setIfInBounds n true).setIfInBounds (n + 1) true), dn (listed.setIfInBounds i true) = true)
    (hord : ∀ listed : Array Bool, listed.size = n + 2 → listed[n]? = some false → listed[n + 1]? = some false → dn listed = true → Region.ready .any ops listed = if Region.ready .any ops ((listed.setIfInBounds n true).setIfInBounds (n + 1) true) = [] then [n] else Region.ready .any ops ((listed.setIfInBounds n true).setIfInBounds (n + 1) true))
    (hord2 : ∀ listed : Array Bool, listed.size = n + 2 → listed[n]? = some false → listed[n + 1]? = some false → dn listed = true → Region.ready .any ops ((listed.setIfInBounds n true).setIfInBounds (n + 1) true) = [] → Region.ready .any ops (listed.setIfInBounds n true) = [n + 1])
    (h : ∀ w₁, R vs w w₁ → AnyCH P (R vs) (D vs) fn .any ops (fun e a' w' => e = .normal ∧ K a' w') S n (((Array.replicate (n + 2) false).setIfInBounds n true).setIfInBounds (n + 1) true) a { w₁ with drawn := w₁.drawn + 1 })
    (hlast : ∀ a' w', K a' w' → OpsI X fn ops [n, n + 1] vs Q a' w') : wpI X fn (.region id ops true) vs Q a w := by
  have fin : ∀ (fuel t : Nat) (listed : Array Bool) (a : Act) (w : World), listed.size = n + 2 → listed[n]? = some false → listed[n + 1]? = some false → dn listed = true → Region.ready .any ops ((listed.setIfInBounds n true).setIfInBounds (n + 1) true) = [] → K a w →
      OpsI X fn ops (Region.linearise.go .any ops (fuel + 2) t listed []) vs Q a w := by
    intro fuel t listed a w hs hl hl1 hdl he hK
    have hr : Region.ready .any ops listed = [n] := by rw [hord listed hs hl hl1 hdl, if_pos he]
    have hr2 := hord2 listed hs hl hl1 hdl he
    rw [go_cons (i := n) (by rw [hr]; simp [Nat.mod_one]), go_cons (i := n + 1) (by rw [hr2]; simp [Nat.mod_one]), go_nil he]
    exact hlast a w hK
  have key : ∀ (fuel t : Nat) (listed : Array Bool) (a : Act) (w : World), listed.size = n + 2 → listed[n]? = some false → listed[n + 1]? = some false → dn listed = true → AnyCH P (R vs) (D vs) fn .any ops (fun e a' w' => e = .normal ∧ K a' w') S fuel ((listed.setIfInBounds n true).setIfInBounds (n + 1) true) a w →
      OpsI X fn ops (Region.linearise.go .any ops (fuel + 2) t listed []) vs Q a w := by
    intro fuel
    induction fuel with
    | zero => intro t listed a w hs hl hl1 hdl hA; exact fin 0 t listed a w hs hl hl1 hdl hA.1 hA.2.2
    | succ fuel ih =>
      intro t listed a w hs hl hl1 hdl hA
      by_cases he : Region.ready .any ops ((listed.setIfInBounds n true).setIfInBounds (n + 1) true) = []
      · exact fin (fuel + 1) t listed a w hs hl hl1 hdl he (hA.1 he).2
      · have hr : Region.ready .any ops listed = Region.ready .any ops ((listed.setIfInBounds n true).setIfInBounds (n + 1) true) := by rw [hord listed hs hl hl1 hdl, if_neg he]
        have hpos : 0 < (Region.ready .any ops listed).length := by
          rw [hr]; exact List.length_pos_iff.2 he
        obtain ⟨i, hi⟩ : ∃ i, (Region.ready .any ops listed)[t % (Region.ready .any ops listed).length]? = some i := ⟨_, List.getElem?_eq_getElem (Nat.mod_lt _ hpos)⟩
        have hmem : i ∈ Region.ready .any ops ((listed.setIfInBounds n true).setIfInBounds (n + 1) true) := by rw [← hr]; exact List.mem_of_getElem? hi
        have h0 := (mem_ready.1 hmem).1
        have hin1 : i ≠ n + 1 := by
          rintro rfl
          rw [Array.getD_eq_getD_getElem?, Array.getElem?_setIfInBounds_self_of_lt (by simp; omega)] at h0
          simp at h0
        have hin : i ≠ n := by
          rintro rfl
          rw [Array.getD_eq_getD_getElem?, Array.getElem?_setIfInBounds_ne (by omega), Array.getElem?_setIfInBounds_self_of_lt (by omega)] at h0
          simp at h0
        rw [go_cons hi]
        refine opsI_of_opC C T (OpC_mono (fun a' w' x => ih _ _ a' w' (by simpa using hs) (by rw [Array.getElem?_setIfInBounds_ne hin]; exact hl) (by rw [Array.getElem?_setIfInBounds_ne hin1]; exact hl1) (hdn listed hs hl hl1 hdl i hmem) ?_) (hA.2 i hmem))
        rw [Array.setIfInBounds_comm _ _ hin, Array.setIfInBounds_comm _ _ hin1]
        exact x.2
  intro b k cs hb hk hc
  refine C.step rfl fun w₁ h₁ => ?_
  rw [stepG_region_draw]
  refine ⟨hd _, ?_⟩
  simp only [Region.schedule, hm, Bool.true_or, if_true]
  have hk' := key n (w₁.tape w₁.drawn (.order b.fn id)) (Array.replicate (n + 2) false) a { w₁ with drawn := w₁.drawn + 1 } (by simp) (by simp) (by simp) hdn0 (h w₁ h₁) b k cs hb hk hc
  have e : Region.linearise .any ops (w₁.tape w₁.drawn (.order b.fn id)) = Region.linearise.go .any ops (n + 2) (w₁.tape w₁.drawn (.order b.fn id)) (Array.replicate (n + 2) false) [] := by
    unfold Region.linearise
    rw [hn]
  rw [e]
  exact hk'
end
end Go.Proofs.YtgcaionclkbehaaGreatDoor
