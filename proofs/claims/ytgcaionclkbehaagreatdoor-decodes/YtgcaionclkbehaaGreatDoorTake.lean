/-
  The child of letters.Each, on: (*decoder).take.
-/
import Derived.Test.YtgcaionclkbehaaGreatDoorFol
set_option linter.all false
set_option linter.unusedSectionVars false
set_option linter.unusedSimpArgs false
namespace Go.Proofs.YtgcaionclkbehaaGreatDoor
open Go.Conc Go.RowKit
/-- What a byte does to the decoder, and the letters that it hands on. -/
def takeS (d : DS) (b : Int) : DS × List Int :=
  if 0 < d.missing then if d.low ≤ b ∧ b ≤ d.high then followS d b else ((beginS (endS d).1 b).1, (endS d).2 ++ (beginS (endS d).1 b).2) else beginS d b
theorem cleanAll_append (c : CS) (x y : List Int) : cleanAll c (x ++ y) = ((cleanAll (cleanAll c x).1 y).1, (cleanAll c x).2 ++ (cleanAll (cleanAll c x).1 y).2) := by
  induction x generalizing c with
  | nil => simp [cleanAll]
  | cons r l ih => simp [cleanAll, ih]
theorem isEmpty_app {α : Type} (x y : List α) : (x ++ y).isEmpty = (x.isEmpty && y.isEmpty) := by cases x <;> rfl
theorem V_append (x y : List Int) : V (x ++ y) = V x ++ V y := by simp [V]
section
variable {N Pb c1 c2 : Nat} {Shun : Loc → Prop} {val : Value} {B : Nat} {Mine : Loc → Prop} {c : CS} {d : DS} {w w₁ : World}
variable [Go.ConcR.Payload] [Go.ConcX.Payload]
set_option maxRecDepth 100000 in
set_option maxHeartbeats 2000000 in
theorem take_x (hF : HC N Pb c1 c2 c d w) (fr : Bool) (b : Int) (vs : List Value) :
    CallsX Tryz.prog (XK (kcfg Tryz.prog N Pb Shun val B Mine)) 117 #[.pointer (some ⟨c2, 0, none⟩), .int .u8 b] (fr, V (cleanAll c (takeS d b).2).2 ++ vs) w (fun i' _ w' => i' = (fr && (cleanAll c (takeS d b).2).2.isEmpty, vs) ∧ HC N Pb c1 c2 (cleanAll c (takeS d b).2).1 (takeS d b).1 w') := by
  have C : Closed Tryz.prog false (RKd (kcfg Tryz.prog N Pb Shun val B Mine)) (DK (kcfg Tryz.prog N Pb Shun val B Mine)) (XK (kcfg Tryz.prog N Pb Shun val B Mine)) := XK.closed (K := (kcfg Tryz.prog N Pb Shun val B Mine))
  have T := termsK (K := (kcfg Tryz.prog N Pb Shun val B Mine))
  have Tq := T (true, [])
  have evb : ∀ (w : World) (es : Array Event) (a : Addr) (m : Mode) (x : Bool), (store a (.bool x) m).events Tryz.prog w es = storedEv Tryz.prog w es a (.bool x) m := fun w es a m x => events_store Tryz.prog w es a _ m rfl
  have hdr : ∀ w : World, RKd (kcfg Tryz.prog N Pb Shun val B Mine) (true, []) w { w with drawn := w.drawn + 1 } := ownDrawK
  refine callsX_of Tryz.func117 (by rfl) rfl ?_
  simp only [Tryz.ntmps117, List.size_toArray, List.length_cons, List.length_nil, Nat.reduceAdd, Nat.reduceSub, Array.replicate_succ, Array.replicate_zero, List.push_toArray, List.append_toArray, List.nil_append, List.cons_append]
  refine wpX_seq C T ?_
  co_apply wpX_seqC C T (RKd.refl _)
  co_reg (T _)
  co_op HC.rely hF (co_quiet Tq)
  co_opw HC.rely hF (skip) (co_still Tq)
  co_opw HC.rely hF (skip) (co_still Tq)
  co_opw HC.rely hF (have hc := hF.cells_de) (refine dk_read hF ?_; co_evs (exact evk_kid (.inr (.inr rfl))))
  clear hc
  co_op HC.rely hF (co_quiet Tq)
  co_apply opsC_nil (T _)
  co_then
  by_cases hm : 0 < d.missing
  · have hmb : decide (0 < d.missing) = true := decide_eq_true hm
    try simp only [hmb]
    refine wpX_cond C T (t := true) rfl ?_
    simp only [if_true, if_false, reduceIte, Bool.false_eq_true]
    refine wpX_seq C T ?_
    by_cases hl : d.low ≤ b
    · have hlb : decide (d.low ≤ b) = true := decide_eq_true hl
      co_apply wpX_seqC C T (RKd.refl _)
      co_reg (T _)
      co_op HC.rely hF (co_quiet Tq)
      co_opw HC.rely hF (skip) (co_still Tq)
      co_opw HC.rely hF (skip) (co_still Tq)
      co_opw HC.rely hF (have hc := hF.cells_de) (refine dk_read hF ?_; co_evs (exact evk_kid (.inr (.inr rfl))))
      clear hc
      co_op HC.rely hF (co_quiet Tq)
      co_op HC.rely hF (co_quiet Tq)
      co_op HC.rely hF (co_quiet Tq)
      try simp only [hlb]
      co_op HC.rely hF (co_quiet Tq)
      co_op HC.rely hF (co_quiet Tq)
      co_opw HC.rely hF (skip) (co_still Tq)
      co_opw HC.rely hF (skip) (co_still Tq)
      co_opw HC.rely hF (have hc := hF.cells_de) (refine dk_read hF ?_; co_evs (exact evk_kid (.inr (.inr rfl))))
      clear hc
      co_op HC.rely hF (co_quiet Tq)
      co_op HC.rely hF (co_quiet Tq)
      co_apply opsC_nil (T _)
      co_then
      by_cases hh : b ≤ d.high
      · have hhb : decide (b ≤ d.high) = true := decide_eq_true hh
        try simp only [hhb]
        refine wpX_cond C T (t := true) rfl ?_
        simp only [if_true, if_false, reduceIte, Bool.false_eq_true]
        refine wpX_seq C T ?_
        have hts : takeS d b = followS d b := by simp only [takeS, if_pos hm, if_pos (And.intro hl hh)]
        refine wpX_region C T ?_
        simp only [List.size_toArray, List.length_cons, List.length_nil, Nat.reduceAdd, Nat.zero_add, List.range, List.range.loop]
        refine opsX_cons C rfl (by rfl) fun _ hR Kx hKx => ?_
        replace hF := HC.rely hF hR
        clear hR
        go_simp
        try (unfold stored; go_simp)
        refine hKx _ _ ⟨?_, ?_⟩
        · co_quiet Tq
        clear hKx Kx
        try walk_nrm
        refine opsX_cons C rfl (by rfl) fun _ hR Kx hKx => ?_
        replace hF := HC.rely hF hR
        clear hR
        go_simp
        try (unfold stored; go_simp)
        refine hKx _ _ ⟨?_, ?_⟩
        · co_quiet Tq
        clear hKx Kx
        try walk_nrm
        refine opsX_callX C T rfl (by rfl) rfl rfl (by simp [Act.eval]) (by rw [hts]) (follow_x hF fr b vs) ?_
        rintro _ _ _ ⟨rfl, hF⟩
        refine opsX_nil C T ?_
        show wpX _ _ _ _ _ _ _
        refine wpX_ret C T ?_
        exact ⟨.inr rfl, rfl, _, resultsC_none (by rfl) _, by simp [hts], by rw [hts]; exact hF⟩
      · have hhb : decide (b ≤ d.high) = false := decide_eq_false hh
        try simp only [hhb]
        refine wpX_cond C T (t := false) rfl ?_
        simp only [if_true, if_false, reduceIte, Bool.false_eq_true]
        refine wpX_skip C T ?_
        show wpX _ _ _ _ _ _ _
        have hts : takeS d b = ((beginS (endS d).1 b).1, (endS d).2 ++ (beginS (endS d).1 b).2) := by simp only [takeS, if_pos hm, if_neg (fun h : d.low ≤ b ∧ b ≤ d.high => hh h.2)]
        rw [hts]
        simp only [cleanAll_append, V_append, List.append_assoc]
        refine wpX_region C T ?_
        simp only [List.size_toArray, List.length_cons, List.length_nil, Nat.reduceAdd, Nat.zero_add, List.range, List.range.loop]
        refine opsX_cons C rfl (by rfl) fun _ hR Kx hKx => ?_
        replace hF := HC.rely hF hR
        clear hR
        go_simp
        try (unfold stored; go_simp)
        refine hKx _ _ ⟨?_, ?_⟩
        · co_quiet Tq
        clear hKx Kx
        try walk_nrm
        refine opsX_callX C T rfl (by rfl) rfl rfl (by simp [Act.eval]) rfl (end_x hF fr _) ?_
        rintro _ _ _ ⟨rfl, hF⟩
        refine opsX_nil C T ?_
        show wpX _ _ _ _ _ _ _
        refine wpX_region C T ?_
        simp only [List.size_toArray, List.length_cons, List.length_nil, Nat.reduceAdd, Nat.zero_add, List.range, List.range.loop]
        refine opsX_cons C rfl (by rfl) fun _ hR Kx hKx => ?_
        replace hF := HC.rely hF hR
        clear hR
        go_simp
        try (unfold stored; go_simp)
        refine hKx _ _ ⟨?_, ?_⟩
        · co_quiet Tq
        clear hKx Kx
        try walk_nrm
        refine opsX_cons C rfl (by rfl) fun _ hR Kx hKx => ?_
        replace hF := HC.rely hF hR
        clear hR
        go_simp
        try (unfold stored; go_simp)
        refine hKx _ _ ⟨?_, ?_⟩
        · co_quiet Tq
        clear hKx Kx
        try walk_nrm
        refine opsX_callX C T rfl (by rfl) rfl rfl (by simp [Act.eval]) rfl (begin_x hF _ b vs) ?_
        rintro _ _ _ ⟨rfl, hF⟩
        refine opsX_nil C T ?_
        exact ⟨.inl rfl, rfl, _, resultsC_none (by rfl) _, by simp [isEmpty_app, Bool.and_assoc], hF⟩
    · have hlb : decide (d.low ≤ b) = false := decide_eq_false hl
      co_apply wpX_seqC C T (RKd.refl _)
      co_reg (T _)
      co_op HC.rely hF (co_quiet Tq)
      co_opw HC.rely hF (skip) (co_still Tq)
      co_opw HC.rely hF (skip) (co_still Tq)
      co_opw HC.rely hF (have hc := hF.cells_de) (refine dk_read hF ?_; co_evs (exact evk_kid (.inr (.inr rfl))))
      clear hc
      co_op HC.rely hF (co_quiet Tq)
      co_op HC.rely hF (co_quiet Tq)
      co_op HC.rely hF (co_quiet Tq)
      try simp only [hlb]
      co_apply opsC_unwanted (T _) rfl (by rfl)
      co_apply opsC_unwanted (T _) rfl (by rfl)
      co_apply opsC_unwanted (T _) rfl (by rfl)
      co_apply opsC_unwanted (T _) rfl (by rfl)
      co_apply opsC_unwanted (T _) rfl (by rfl)
      co_apply opsC_unwanted (T _) rfl (by rfl)
      co_op HC.rely hF (co_quiet Tq)
      co_apply opsC_nil (T _)
      co_then
      refine wpX_cond C T (t := false) rfl ?_
      simp only [if_true, if_false, reduceIte, Bool.false_eq_true]
      refine wpX_skip C T ?_
      show wpX _ _ _ _ _ _ _
      have hts : takeS d b = ((beginS (endS d).1 b).1, (endS d).2 ++ (beginS (endS d).1 b).2) := by simp only [takeS, if_pos hm, if_neg (fun h : d.low ≤ b ∧ b ≤ d.high => hl h.1)]
      rw [hts]
      simp only [cleanAll_append, V_append, List.append_assoc]
      refine wpX_region C T ?_
      simp only [List.size_toArray, List.length_cons, List.length_nil, Nat.reduceAdd, Nat.zero_add, List.range, List.range.loop]
      refine opsX_cons C rfl (by rfl) fun _ hR Kx hKx => ?_
      replace hF := HC.rely hF hR
      clear hR
      go_simp
      try (unfold stored; go_simp)
      refine hKx _ _ ⟨?_, ?_⟩
      · co_quiet Tq
      clear hKx Kx
      try walk_nrm
      refine opsX_callX C T rfl (by rfl) rfl rfl (by simp [Act.eval]) rfl (end_x hF fr _) ?_
      rintro _ _ _ ⟨rfl, hF⟩
      refine opsX_nil C T ?_
      show wpX _ _ _ _ _ _ _
      refine wpX_region C T ?_
      simp only [List.size_toArray, List.length_cons, List.length_nil, Nat.reduceAdd, Nat.zero_add, List.range, List.range.loop]
      refine opsX_cons C rfl (by rfl) fun _ hR Kx hKx => ?_
      replace hF := HC.rely hF hR
      clear hR
      go_simp
      try (unfold stored; go_simp)
      refine hKx _ _ ⟨?_, ?_⟩
      · co_quiet Tq
      clear hKx Kx
      try walk_nrm
      refine opsX_cons C rfl (by rfl) fun _ hR Kx hKx => ?_
      replace hF := HC.rely hF hR
      clear hR
      go_simp
      try (unfold stored; go_simp)
      refine hKx _ _ ⟨?_, ?_⟩
      · co_quiet Tq
      clear hKx Kx
      try walk_nrm
      refine opsX_callX C T rfl (by rfl) rfl rfl (by simp [Act.eval]) rfl (begin_x hF _ b vs) ?_
      rintro _ _ _ ⟨rfl, hF⟩
      refine opsX_nil C T ?_
      exact ⟨.inl rfl, rfl, _, resultsC_none (by rfl) _, by simp [isEmpty_app, Bool.and_assoc], hF⟩
  · have hmb : decide (0 < d.missing) = false := decide_eq_false hm
    try simp only [hmb]
    refine wpX_cond C T (t := false) rfl ?_
    simp only [if_true, if_false, reduceIte, Bool.false_eq_true]
    refine wpX_skip C T ?_
    show wpX _ _ _ _ _ _ _
    have hts : takeS d b = beginS d b := by simp only [takeS, if_neg hm]
    refine wpX_region C T ?_
    simp only [List.size_toArray, List.length_cons, List.length_nil, Nat.reduceAdd, Nat.zero_add, List.range, List.range.loop]
    refine opsX_cons C rfl (by rfl) fun _ hR Kx hKx => ?_
    replace hF := HC.rely hF hR
    clear hR
    go_simp
    try (unfold stored; go_simp)
    refine hKx _ _ ⟨?_, ?_⟩
    · co_quiet Tq
    clear hKx Kx
    try walk_nrm
    refine opsX_cons C rfl (by rfl) fun _ hR Kx hKx => ?_
    replace hF := HC.rely hF hR
    clear hR
    go_simp
    try (unfold stored; go_simp)
    refine hKx _ _ ⟨?_, ?_⟩
    · co_quiet Tq
    clear hKx Kx
    try walk_nrm
    refine opsX_callX C T rfl (by rfl) rfl rfl (by simp [Act.eval]) (by rw [hts]) (begin_x hF fr b vs) ?_
    rintro _ _ _ ⟨rfl, hF⟩
    refine opsX_nil C T ?_
    exact ⟨.inl rfl, rfl, _, resultsC_none (by rfl) _, by simp [hts], by rw [hts]; exact hF⟩
end
end Go.Proofs.YtgcaionclkbehaaGreatDoor
