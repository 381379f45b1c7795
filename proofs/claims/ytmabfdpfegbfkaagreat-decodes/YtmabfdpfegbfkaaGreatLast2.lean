/-
  A region that draws its order, whose last TWO operations come last, in their order. It knows no program.
-/
import Derived.Test.YtmabfdpfegbfkaaGreatWalkI
set_option linter.all false
namespace Go.Proofs.YtmabfdpfegbfkaaGreat
open Go.Conc
section
variable {ι : Type} {P : Program} {main : Bool} {R : ι → World → World → Prop} {D : ι → World → World → Array Event → Prop} {X : ι → Goroutine → World → Prop} {fn : FuncId} {Q : PostI ι} {a : Act} {w : World} {vs : ι}
theorem wpI_region_last2 (C : ClosedI P main R D X) (T : ∀ i, Terms (R i) (D i)) {id n : Nat} {ops : Array Oper} {S : World → Prop} {K : Act → World → Prop} (hd : LetsDraw (D vs)) (hm : P.follows .mixedOrders = true) (hn : ops.size = n + 2)
    (dn : Array Bool → Bool) (hdn0 : dn (Array.replicate (n + 2) false) = true)
    (hdn : ∀ listed : Array Bool, listed.size = n + 2 → listed[n]? = some false → listed[n + 1]? = some false → dn listed = true → ∀ i ∈ Region.ready .any ops ((listed.setIfInBounds n true).setIfInBounds (n + 1) true), dn (listed.setIfInBounds i true) = true)
    (hord : ∀ listed : Array Bool, listed.size = n + 2 → listed[n]? = some false → listed[n + 1]? = some false → dn listed = true → Region.ready .any ops listed = if Region.ready .any ops ((listed.setIfInBounds n true).setIfInBounds (n + 1) true) = [] then [n] else Region.ready .any ops ((listed.setIfInBounds n true).setIfInBounds (n + 1) true))
    (hord2 : ∀ listed : Array Bool, listed.size = n + 2 → listed[n]? = some false → listed[n + 1]? = some false → dn listed = true → Region.ready .any ops ((listed.setIfInBounds n true).setIfInBounds (n + 1) true) = [] → Region.ready .any ops (listed.setIfInBounds n true) = [n + 1])
    (h : ∀ w₁, R vs w w₁ → AnyCH P (R vs) (D vs) fn .any ops (fun e a' w' => e = .normal ∧ K a' w') S n (((Array.replicate (n + 2) false).setIfInBounds n true).setIfInBounds (n + 1) true) a { w₁ with drawn := w₁.drawn + 1 })
    (hlast : ∀ a' w', K a' w' → OpsI X fn ops [n, n + 1] vs Q a' w') : wpI X fn (.region id ops true) vs Q a w := by
  have fin : ∀ (fuel t : Nat) (listed : Array Bool) (a : Act) (w : World), listed.size = n + 2 → listed[n]? = some false → listed[n + 1]? = some false → dn listed = true → Region.ready .any ops ((listed.setIfInBounds n true).setIfInBounds (n + 1) true) = [] → K a w →
      OpsI X fn ops (Region.linearise.go .any ops (fuel + 2) t listed []) vs Q a w := by
    intro fuel t listed a w hs hl hl1 hdl he hK
    have hr : Region.ready .any ops listed = [n] := by rw [hord listed hs hl hl1 hdl, if_pos he]
    have hr2 := hord2 listed hs hl hl1 hdl he
    rw [go_cons (i := n) (by rw [hr]; simp [Nat.mod_one]), go_cons (i := n + 1) (by rw [hr2]; simp [Nat.mod_one]), go_nil he]
    exact hlast a w hK
  have key : ∀ (fuel t : Nat) (listed : Array Bool) (a : Act) (w : World), listed.size = n + 2 → listed[n]? = some false → listed[n + 1]? = some false → dn listed = true → AnyCH P (R vs) (D vs) fn .any ops (fun e a' w' => e = .normal ∧ K a' w') S fuel ((listed.setIfInBounds n true).setIfInBounds (n + 1) true) a w →
      OpsI X fn ops (Region.linearise.go .any ops (fuel + 2) t listed []) vs Q a w := by
    intro fuel
    induction fuel with
    | zero => intro t listed a w hs hl hl1 hdl hA; exact fin 0 t listed a w hs hl hl1 hdl hA.1 hA.2.2
    | succ fuel ih =>
      intro t listed a w hs hl hl1 hdl hA
      by_cases he : Region.ready .any ops ((listed.setIfInBounds n true).setIfInBounds (n + 1) true) = []
      · exact fin (fuel + 1) t listed a w hs hl hl1 hdl he (hA.1 he).2
      · have hr : Region.ready .any ops listed = Region.ready .any ops ((listed.setIfInBounds n true).setIfInBounds (n + 1) true) := by rw [hord listed hs hl hl1 hdl, if_neg he]
        have hpos : 0 < (Region.ready .any ops listed).length := by
          rw [hr]; exact List.length_pos_iff.2 he
        obtain ⟨i, hi⟩ : ∃ i, (Region.ready .any ops listed)[t % (Region.ready .any ops listed).length]? = some i := ⟨_, List.getElem?_eq_getElem (Nat.mod_lt _ hpos)⟩
        have hmem : i ∈ Region.ready .any ops ((listed.setIfInBounds n true).setIfInBounds (n + 1) true) := by rw [← hr]; exact List.mem_of_getElem? hi
        have h0 := (mem_ready.1 hmem).1
        have hin1 : i ≠ n + 1 := by
          rintro rfl
          rw [Array.getD_eq_getD_getElem?, Array.getElem?_setIfInBounds_self_of_lt (by simp; omega)] at h0
          simp at h0
        have hin : i ≠ n := by
          rintro rfl
          rw [Array.getD_eq_getD_getElem?, Array.getElem?_setIfInBounds_ne (by omega), Array.getElem?_setIfInBounds_self_of_lt (by omega)] at h0
          simp at h0
        rw [go_cons hi]
        refine opsI_of_opC C T (OpC_mono (fun a' w' x => ih _ _ a' w' (by simpa using hs) (by rw [Array.getElem?_setIfInBounds_ne hin]; exact hl) (by rw [Array.getElem?_setIfInBounds_ne hin1]; exact hl1) (hdn listed hs hl hl1 hdl i hmem) ?_) (hA.2 i hmem))
        rw [Array.setIfInBounds_comm _ _ hin, Array.setIfInBounds_comm _ _ hin1]
        exact x.2
  intro b k cs hb hk hc
  refine C.step rfl fun w₁ h₁ => ?_
  rw [stepG_region_draw]
  refine ⟨hd _, ?_⟩
  simp only [Region.schedule, hm, Bool.true_or, if_true]
  have hk' := key n (w₁.tape w₁.drawn (.order b.fn id)) (Array.replicate (n + 2) false) a { w₁ with drawn := w₁.drawn + 1 } (by simp) (by simp) (by simp) hdn0 (h w₁ h₁) b k cs hb hk hc
  have e : Region.linearise .any ops (w₁.tape w₁.drawn (.order b.fn id)) = Region.linearise.go .any ops (n + 2) (w₁.tape w₁.drawn (.order b.fn id)) (Array.replicate (n + 2) false) [] := by
    unfold Region.linearise
    rw [hn]
  rw [e]
  exact hk'
end
end Go.Proofs.YtmabfdpfegbfkaaGreat
