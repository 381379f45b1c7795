/-
  The document's answer, alone: folioref.follows.
-/
import Derived.Test.YtgcaionclkbehaaGreatDoorDecode
set_option linter.all false
set_option linter.unusedSectionVars false
set_option linter.unusedSimpArgs false
namespace Go.Proofs.YtgcaionclkbehaaGreatDoor
open Go.Conc Go.RowKit
/-- How many bytes a lead needs, and the bounds of the first. -/
def folS (c : Int) : Int × Int × Int :=
  if 194 ≤ c ∧ c ≤ 223 then (1, 128, 191) else if c = 224 then (2, 160, 191) else if c = 237 then (2, 128, 159) else if 225 ≤ c ∧ c ≤ 239 then (2, 128, 191) else if c = 240 then (3, 144, 191) else if 241 ≤ c ∧ c ≤ 243 then (3, 128, 191) else if c = 244 then (3, 128, 143) else (0, 0, 0)
theorem resultsC_tmp3 {P : Program} {fn : Func} {t u x : Tmp} (h : fn.results = #[.tmp t, .tmp u, .tmp x]) (tmps : Array Value) : ResultsC P fn tmps (.tuple #[tmps.getD t undef, tmps.getD u undef, tmps.getD x undef]) := fun w => by
  constructor <;> simp [results, h]
section
variable {w w₁ w₂ : World} {Post : Value → World → Prop} {S : Nat → Prop}
theorem at_rely (h : AtRel w w₁) (r : AtRel w₁ w₂) : AtRel w w₂ := atRel_trans _ _ _ h r
set_option maxRecDepth 100000 in
set_option maxHeartbeats 2000000 in
theorem follows_x (c : Int) :
    CallsI Tryz.prog (ZI Tryz.prog Post 0) 181 #[.int .u8 c] S w (fun S' x w' => S' = S ∧ x = .tuple #[.int .i64 (folS c).1, .int .i64 (folS c).2.1, .int .i64 (folS c).2.2] ∧ AtRel w w') := by
  have C : ClosedI Tryz.prog true (fun _ : Nat → Prop => AtRel) DZ (ZI Tryz.prog Post 0) := ZI.closed
  have T : ∀ S, Terms AtRel (DZ S) := termsS
  have hF := atRel_refl w
  refine callsI_of Tryz.func181 (by rfl) rfl ?_
  simp only [Tryz.ntmps181, List.size_toArray, List.length_cons, List.length_nil, Nat.reduceAdd, Nat.reduceSub, Array.replicate_succ, Array.replicate_zero, List.push_toArray, List.append_toArray, List.nil_append, List.cons_append]
  refine wpI_seq C T ?_
  refine wpI_region C T ?_
  simp only [List.size_toArray, List.length_cons, List.length_nil, Nat.reduceAdd, Nat.zero_add, List.range, List.range.loop]
  refine opsI_cons C rfl (by rfl) fun _ hR Kx hKx => ?_
  replace hF := at_rely hF hR
  clear hR
  go_simp
  try (unfold stored; go_simp)
  refine hKx _ _ ⟨?_, ?_⟩
  · co_quiet (T S)
  clear hKx Kx
  try walk_nrm
  refine opsI_cons C rfl (by rfl) fun _ hR Kx hKx => ?_
  replace hF := at_rely hF hR
  clear hR
  go_simp
  try (unfold stored; go_simp)
  refine hKx _ _ ⟨?_, ?_⟩
  · co_quiet (T S)
  clear hKx Kx
  try walk_nrm
  refine opsI_cons C rfl (by rfl) fun _ hR Kx hKx => ?_
  replace hF := at_rely hF hR
  clear hR
  go_simp
  try (unfold stored; go_simp)
  refine hKx _ _ ⟨?_, ?_⟩
  · co_quiet (T S)
  clear hKx Kx
  try walk_nrm
  refine opsI_nil C T ?_
  show wpI _ _ _ _ _ _ _
  refine wpI_seq C T ?_
  refine wpI_block C T ?_
  refine wpI_seq C T ?_
  by_cases l194 : 194 ≤ c
  · have lb194 : decide (194 ≤ c) = true := decide_eq_true l194
    refine wpI_region C T ?_
    simp only [List.size_toArray, List.length_cons, List.length_nil, Nat.reduceAdd, Nat.zero_add, List.range, List.range.loop]
    refine opsI_cons C rfl (by rfl) fun _ hR Kx hKx => ?_
    replace hF := at_rely hF hR
    clear hR
    go_simp
    try (unfold stored; go_simp)
    refine hKx _ _ ⟨?_, ?_⟩
    · co_quiet (T S)
    clear hKx Kx
    try walk_nrm
    refine opsI_cons C rfl (by rfl) fun _ hR Kx hKx => ?_
    replace hF := at_rely hF hR
    clear hR
    go_simp
    try (unfold stored; go_simp)
    refine hKx _ _ ⟨?_, ?_⟩
    · co_quiet (T S)
    clear hKx Kx
    try walk_nrm
    try simp only [lb194]
    refine opsI_cons C rfl (by rfl) fun _ hR Kx hKx => ?_
    replace hF := at_rely hF hR
    clear hR
    go_simp
    try (unfold stored; go_simp)
    refine hKx _ _ ⟨?_, ?_⟩
    · co_quiet (T S)
    clear hKx Kx
    try walk_nrm
    refine opsI_cons C rfl (by rfl) fun _ hR Kx hKx => ?_
    replace hF := at_rely hF hR
    clear hR
    go_simp
    try (unfold stored; go_simp)
    refine hKx _ _ ⟨?_, ?_⟩
    · co_quiet (T S)
    clear hKx Kx
    try walk_nrm
    refine opsI_cons C rfl (by rfl) fun _ hR Kx hKx => ?_
    replace hF := at_rely hF hR
    clear hR
    go_simp
    try (unfold stored; go_simp)
    refine hKx _ _ ⟨?_, ?_⟩
    · co_quiet (T S)
    clear hKx Kx
    try walk_nrm
    refine opsI_cons C rfl (by rfl) fun _ hR Kx hKx => ?_
    replace hF := at_rely hF hR
    clear hR
    go_simp
    try (unfold stored; go_simp)
    refine hKx _ _ ⟨?_, ?_⟩
    · co_quiet (T S)
    clear hKx Kx
    try walk_nrm
    refine opsI_cons C rfl (by rfl) fun _ hR Kx hKx => ?_
    replace hF := at_rely hF hR
    clear hR
    go_simp
    try (unfold stored; go_simp)
    refine hKx _ _ ⟨?_, ?_⟩
    · co_quiet (T S)
    clear hKx Kx
    try walk_nrm
    refine opsI_nil C T ?_
    show wpI _ _ _ _ _ _ _
    by_cases u194 : c ≤ 223
    · have ub194 : decide (c ≤ 223) = true := decide_eq_true u194
      try simp only [ub194]
      refine wpI_cond C T (t := true) rfl ?_
      simp only [if_true, if_false, reduceIte, Bool.false_eq_true]
      refine wpI_seq C T ?_
      refine wpI_region C T ?_
      simp only [List.size_toArray, List.length_cons, List.length_nil, Nat.reduceAdd, Nat.zero_add, List.range, List.range.loop]
      refine opsI_cons C rfl (by rfl) fun _ hR Kx hKx => ?_
      replace hF := at_rely hF hR
      clear hR
      go_simp
      try (unfold stored; go_simp)
      refine hKx _ _ ⟨?_, ?_⟩
      · co_quiet (T S)
      clear hKx Kx
      try walk_nrm
      refine opsI_cons C rfl (by rfl) fun _ hR Kx hKx => ?_
      replace hF := at_rely hF hR
      clear hR
      go_simp
      try (unfold stored; go_simp)
      refine hKx _ _ ⟨?_, ?_⟩
      · co_quiet (T S)
      clear hKx Kx
      try walk_nrm
      refine opsI_cons C rfl (by rfl) fun _ hR Kx hKx => ?_
      replace hF := at_rely hF hR
      clear hR
      go_simp
      try (unfold stored; go_simp)
      refine hKx _ _ ⟨?_, ?_⟩
      · co_quiet (T S)
      clear hKx Kx
      try walk_nrm
      refine opsI_nil C T ?_
      show wpI _ _ _ _ _ _ _
      refine wpI_ret C T ?_
      exact ⟨.inr rfl, rfl, _, resultsC_tmp3 (by rfl) _, rfl, by simp [folS, *], hF⟩
    · have ub194 : decide (c ≤ 223) = false := decide_eq_false u194
      try simp only [ub194]
      refine wpI_cond C T (t := false) rfl ?_
      simp only [if_true, if_false, reduceIte, Bool.false_eq_true]
      refine wpI_seq C T ?_
      refine wpI_region C T ?_
      simp only [List.size_toArray, List.length_cons, List.length_nil, Nat.reduceAdd, Nat.zero_add, List.range, List.range.loop]
      refine opsI_cons C rfl (by rfl) fun _ hR Kx hKx => ?_
      replace hF := at_rely hF hR
      clear hR
      go_simp
      try (unfold stored; go_simp)
      refine hKx _ _ ⟨?_, ?_⟩
      · co_quiet (T S)
      clear hKx Kx
      try walk_nrm
      refine opsI_cons C rfl (by rfl) fun _ hR Kx hKx => ?_
      replace hF := at_rely hF hR
      clear hR
      go_simp
      try (unfold stored; go_simp)
      refine hKx _ _ ⟨?_, ?_⟩
      · co_quiet (T S)
      clear hKx Kx
      try walk_nrm
      refine opsI_cons C rfl (by rfl) fun _ hR Kx hKx => ?_
      replace hF := at_rely hF hR
      clear hR
      go_simp
      try (unfold stored; go_simp)
      refine hKx _ _ ⟨?_, ?_⟩
      · co_quiet (T S)
      clear hKx Kx
      try walk_nrm
      refine opsI_nil C T ?_
      show wpI _ _ _ _ _ _ _
      by_cases h224 : c = 224
      · have hb224 : (c == 224) = true := by simp [h224]
        simp only [hb224]
        refine wpI_cond C T (t := true) rfl ?_
        simp only [if_true, if_false, reduceIte, Bool.false_eq_true]
        refine wpI_seq C T ?_
        refine wpI_region C T ?_
        simp only [List.size_toArray, List.length_cons, List.length_nil, Nat.reduceAdd, Nat.zero_add, List.range, List.range.loop]
        refine opsI_cons C rfl (by rfl) fun _ hR Kx hKx => ?_
        replace hF := at_rely hF hR
        clear hR
        go_simp
        try (unfold stored; go_simp)
        refine hKx _ _ ⟨?_, ?_⟩
        · co_quiet (T S)
        clear hKx Kx
        try walk_nrm
        refine opsI_cons C rfl (by rfl) fun _ hR Kx hKx => ?_
        replace hF := at_rely hF hR
        clear hR
        go_simp
        try (unfold stored; go_simp)
        refine hKx _ _ ⟨?_, ?_⟩
        · co_quiet (T S)
        clear hKx Kx
        try walk_nrm
        refine opsI_cons C rfl (by rfl) fun _ hR Kx hKx => ?_
        replace hF := at_rely hF hR
        clear hR
        go_simp
        try (unfold stored; go_simp)
        refine hKx _ _ ⟨?_, ?_⟩
        · co_quiet (T S)
        clear hKx Kx
        try walk_nrm
        refine opsI_nil C T ?_
        show wpI _ _ _ _ _ _ _
        refine wpI_ret C T ?_
        exact ⟨.inr rfl, rfl, _, resultsC_tmp3 (by rfl) _, rfl, by simp [folS, *], hF⟩
      · have hb224 : (c == 224) = false := by simp [h224]
        simp only [hb224]
        refine wpI_cond C T (t := false) rfl ?_
        simp only [if_true, if_false, reduceIte, Bool.false_eq_true]
        refine wpI_seq C T ?_
        refine wpI_region C T ?_
        simp only [List.size_toArray, List.length_cons, List.length_nil, Nat.reduceAdd, Nat.zero_add, List.range, List.range.loop]
        refine opsI_cons C rfl (by rfl) fun _ hR Kx hKx => ?_
        replace hF := at_rely hF hR
        clear hR
        go_simp
        try (unfold stored; go_simp)
        refine hKx _ _ ⟨?_, ?_⟩
        · co_quiet (T S)
        clear hKx Kx
        try walk_nrm
        refine opsI_cons C rfl (by rfl) fun _ hR Kx hKx => ?_
        replace hF := at_rely hF hR
        clear hR
        go_simp
        try (unfold stored; go_simp)
        refine hKx _ _ ⟨?_, ?_⟩
        · co_quiet (T S)
        clear hKx Kx
        try walk_nrm
        refine opsI_cons C rfl (by rfl) fun _ hR Kx hKx => ?_
        replace hF := at_rely hF hR
        clear hR
        go_simp
        try (unfold stored; go_simp)
        refine hKx _ _ ⟨?_, ?_⟩
        · co_quiet (T S)
        clear hKx Kx
        try walk_nrm
        refine opsI_nil C T ?_
        show wpI _ _ _ _ _ _ _
        by_cases h237 : c = 237
        · have hb237 : (c == 237) = true := by simp [h237]
          simp only [hb237]
          refine wpI_cond C T (t := true) rfl ?_
          simp only [if_true, if_false, reduceIte, Bool.false_eq_true]
          refine wpI_seq C T ?_
          refine wpI_region C T ?_
          simp only [List.size_toArray, List.length_cons, List.length_nil, Nat.reduceAdd, Nat.zero_add, List.range, List.range.loop]
          refine opsI_cons C rfl (by rfl) fun _ hR Kx hKx => ?_
          replace hF := at_rely hF hR
          clear hR
          go_simp
          try (unfold stored; go_simp)
          refine hKx _ _ ⟨?_, ?_⟩
          · co_quiet (T S)
          clear hKx Kx
          try walk_nrm
          refine opsI_cons C rfl (by rfl) fun _ hR Kx hKx => ?_
          replace hF := at_rely hF hR
          clear hR
          go_simp
          try (unfold stored; go_simp)
          refine hKx _ _ ⟨?_, ?_⟩
          · co_quiet (T S)
          clear hKx Kx
          try walk_nrm
          refine opsI_cons C rfl (by rfl) fun _ hR Kx hKx => ?_
          replace hF := at_rely hF hR
          clear hR
          go_simp
          try (unfold stored; go_simp)
          refine hKx _ _ ⟨?_, ?_⟩
          · co_quiet (T S)
          clear hKx Kx
          try walk_nrm
          refine opsI_nil C T ?_
          show wpI _ _ _ _ _ _ _
          refine wpI_ret C T ?_
          exact ⟨.inr rfl, rfl, _, resultsC_tmp3 (by rfl) _, rfl, by simp [folS, *], hF⟩
        · have hb237 : (c == 237) = false := by simp [h237]
          simp only [hb237]
          refine wpI_cond C T (t := false) rfl ?_
          simp only [if_true, if_false, reduceIte, Bool.false_eq_true]
          refine wpI_seq C T ?_
          by_cases l225 : 225 ≤ c
          · have lb225 : decide (225 ≤ c) = true := decide_eq_true l225
            refine wpI_region C T ?_
            simp only [List.size_toArray, List.length_cons, List.length_nil, Nat.reduceAdd, Nat.zero_add, List.range, List.range.loop]
            refine opsI_cons C rfl (by rfl) fun _ hR Kx hKx => ?_
            replace hF := at_rely hF hR
            clear hR
            go_simp
            try (unfold stored; go_simp)
            refine hKx _ _ ⟨?_, ?_⟩
            · co_quiet (T S)
            clear hKx Kx
            try walk_nrm
            refine opsI_cons C rfl (by rfl) fun _ hR Kx hKx => ?_
            replace hF := at_rely hF hR
            clear hR
            go_simp
            try (unfold stored; go_simp)
            refine hKx _ _ ⟨?_, ?_⟩
            · co_quiet (T S)
            clear hKx Kx
            try walk_nrm
            try simp only [lb225]
            refine opsI_cons C rfl (by rfl) fun _ hR Kx hKx => ?_
            replace hF := at_rely hF hR
            clear hR
            go_simp
            try (unfold stored; go_simp)
            refine hKx _ _ ⟨?_, ?_⟩
            · co_quiet (T S)
            clear hKx Kx
            try walk_nrm
            refine opsI_cons C rfl (by rfl) fun _ hR Kx hKx => ?_
            replace hF := at_rely hF hR
            clear hR
            go_simp
            try (unfold stored; go_simp)
            refine hKx _ _ ⟨?_, ?_⟩
            · co_quiet (T S)
            clear hKx Kx
            try walk_nrm
            refine opsI_cons C rfl (by rfl) fun _ hR Kx hKx => ?_
            replace hF := at_rely hF hR
            clear hR
            go_simp
            try (unfold stored; go_simp)
            refine hKx _ _ ⟨?_, ?_⟩
            · co_quiet (T S)
            clear hKx Kx
            try walk_nrm
            refine opsI_cons C rfl (by rfl) fun _ hR Kx hKx => ?_
            replace hF := at_rely hF hR
            clear hR
            go_simp
            try (unfold stored; go_simp)
            refine hKx _ _ ⟨?_, ?_⟩
            · co_quiet (T S)
            clear hKx Kx
            try walk_nrm
            refine opsI_cons C rfl (by rfl) fun _ hR Kx hKx => ?_
            replace hF := at_rely hF hR
            clear hR
            go_simp
            try (unfold stored; go_simp)
            refine hKx _ _ ⟨?_, ?_⟩
            · co_quiet (T S)
            clear hKx Kx
            try walk_nrm
            refine opsI_nil C T ?_
            show wpI _ _ _ _ _ _ _
            by_cases u225 : c ≤ 239
            · have ub225 : decide (c ≤ 239) = true := decide_eq_true u225
              try simp only [ub225]
              refine wpI_cond C T (t := true) rfl ?_
              simp only [if_true, if_false, reduceIte, Bool.false_eq_true]
              refine wpI_seq C T ?_
              refine wpI_region C T ?_
              simp only [List.size_toArray, List.length_cons, List.length_nil, Nat.reduceAdd, Nat.zero_add, List.range, List.range.loop]
              refine opsI_cons C rfl (by rfl) fun _ hR Kx hKx => ?_
              replace hF := at_rely hF hR
              clear hR
              go_simp
              try (unfold stored; go_simp)
              refine hKx _ _ ⟨?_, ?_⟩
              · co_quiet (T S)
              clear hKx Kx
              try walk_nrm
              refine opsI_cons C rfl (by rfl) fun _ hR Kx hKx => ?_
              replace hF := at_rely hF hR
              clear hR
              go_simp
              try (unfold stored; go_simp)
              refine hKx _ _ ⟨?_, ?_⟩
              · co_quiet (T S)
              clear hKx Kx
              try walk_nrm
              refine opsI_cons C rfl (by rfl) fun _ hR Kx hKx => ?_
              replace hF := at_rely hF hR
              clear hR
              go_simp
              try (unfold stored; go_simp)
              refine hKx _ _ ⟨?_, ?_⟩
              · co_quiet (T S)
              clear hKx Kx
              try walk_nrm
              refine opsI_nil C T ?_
              show wpI _ _ _ _ _ _ _
              refine wpI_ret C T ?_
              exact ⟨.inr rfl, rfl, _, resultsC_tmp3 (by rfl) _, rfl, by simp [folS, *], hF⟩
            · have ub225 : decide (c ≤ 239) = false := decide_eq_false u225
              try simp only [ub225]
              refine wpI_cond C T (t := false) rfl ?_
              simp only [if_true, if_false, reduceIte, Bool.false_eq_true]
              refine wpI_seq C T ?_
              refine wpI_region C T ?_
              simp only [List.size_toArray, List.length_cons, List.length_nil, Nat.reduceAdd, Nat.zero_add, List.range, List.range.loop]
              refine opsI_cons C rfl (by rfl) fun _ hR Kx hKx => ?_
              replace hF := at_rely hF hR
              clear hR
              go_simp
              try (unfold stored; go_simp)
              refine hKx _ _ ⟨?_, ?_⟩
              · co_quiet (T S)
              clear hKx Kx
              try walk_nrm
              refine opsI_cons C rfl (by rfl) fun _ hR Kx hKx => ?_
              replace hF := at_rely hF hR
              clear hR
              go_simp
              try (unfold stored; go_simp)
              refine hKx _ _ ⟨?_, ?_⟩
              · co_quiet (T S)
              clear hKx Kx
              try walk_nrm
              refine opsI_cons C rfl (by rfl) fun _ hR Kx hKx => ?_
              replace hF := at_rely hF hR
              clear hR
              go_simp
              try (unfold stored; go_simp)
              refine hKx _ _ ⟨?_, ?_⟩
              · co_quiet (T S)
              clear hKx Kx
              try walk_nrm
              refine opsI_nil C T ?_
              show wpI _ _ _ _ _ _ _
              by_cases h240 : c = 240
              · have hb240 : (c == 240) = true := by simp [h240]
                simp only [hb240]
                refine wpI_cond C T (t := true) rfl ?_
                simp only [if_true, if_false, reduceIte, Bool.false_eq_true]
                refine wpI_seq C T ?_
                refine wpI_region C T ?_
                simp only [List.size_toArray, List.length_cons, List.length_nil, Nat.reduceAdd, Nat.zero_add, List.range, List.range.loop]
                refine opsI_cons C rfl (by rfl) fun _ hR Kx hKx => ?_
                replace hF := at_rely hF hR
                clear hR
                go_simp
                try (unfold stored; go_simp)
                refine hKx _ _ ⟨?_, ?_⟩
                · co_quiet (T S)
                clear hKx Kx
                try walk_nrm
                refine opsI_cons C rfl (by rfl) fun _ hR Kx hKx => ?_
                replace hF := at_rely hF hR
                clear hR
                go_simp
                try (unfold stored; go_simp)
                refine hKx _ _ ⟨?_, ?_⟩
                · co_quiet (T S)
                clear hKx Kx
                try walk_nrm
                refine opsI_cons C rfl (by rfl) fun _ hR Kx hKx => ?_
                replace hF := at_rely hF hR
                clear hR
                go_simp
                try (unfold stored; go_simp)
                refine hKx _ _ ⟨?_, ?_⟩
                · co_quiet (T S)
                clear hKx Kx
                try walk_nrm
                refine opsI_nil C T ?_
                show wpI _ _ _ _ _ _ _
                refine wpI_ret C T ?_
                exact ⟨.inr rfl, rfl, _, resultsC_tmp3 (by rfl) _, rfl, by simp [folS, *], hF⟩
              · have hb240 : (c == 240) = false := by simp [h240]
                simp only [hb240]
                refine wpI_cond C T (t := false) rfl ?_
                simp only [if_true, if_false, reduceIte, Bool.false_eq_true]
                refine wpI_seq C T ?_
                by_cases l241 : 241 ≤ c
                · have lb241 : decide (241 ≤ c) = true := decide_eq_true l241
                  refine wpI_region C T ?_
                  simp only [List.size_toArray, List.length_cons, List.length_nil, Nat.reduceAdd, Nat.zero_add, List.range, List.range.loop]
                  refine opsI_cons C rfl (by rfl) fun _ hR Kx hKx => ?_
                  replace hF := at_rely hF hR
                  clear hR
                  go_simp
                  try (unfold stored; go_simp)
                  refine hKx _ _ ⟨?_, ?_⟩
                  · co_quiet (T S)
                  clear hKx Kx
                  try walk_nrm
                  refine opsI_cons C rfl (by rfl) fun _ hR Kx hKx => ?_
                  replace hF := at_rely hF hR
                  clear hR
                  go_simp
                  try (unfold stored; go_simp)
                  refine hKx _ _ ⟨?_, ?_⟩
                  · co_quiet (T S)
                  clear hKx Kx
                  try walk_nrm
                  try simp only [lb241]
                  refine opsI_cons C rfl (by rfl) fun _ hR Kx hKx => ?_
                  replace hF := at_rely hF hR
                  clear hR
                  go_simp
                  try (unfold stored; go_simp)
                  refine hKx _ _ ⟨?_, ?_⟩
                  · co_quiet (T S)
                  clear hKx Kx
                  try walk_nrm
                  refine opsI_cons C rfl (by rfl) fun _ hR Kx hKx => ?_
                  replace hF := at_rely hF hR
                  clear hR
                  go_simp
                  try (unfold stored; go_simp)
                  refine hKx _ _ ⟨?_, ?_⟩
                  · co_quiet (T S)
                  clear hKx Kx
                  try walk_nrm
                  refine opsI_cons C rfl (by rfl) fun _ hR Kx hKx => ?_
                  replace hF := at_rely hF hR
                  clear hR
                  go_simp
                  try (unfold stored; go_simp)
                  refine hKx _ _ ⟨?_, ?_⟩
                  · co_quiet (T S)
                  clear hKx Kx
                  try walk_nrm
                  refine opsI_cons C rfl (by rfl) fun _ hR Kx hKx => ?_
                  replace hF := at_rely hF hR
                  clear hR
                  go_simp
                  try (unfold stored; go_simp)
                  refine hKx _ _ ⟨?_, ?_⟩
                  · co_quiet (T S)
                  clear hKx Kx
                  try walk_nrm
                  refine opsI_cons C rfl (by rfl) fun _ hR Kx hKx => ?_
                  replace hF := at_rely hF hR
                  clear hR
                  go_simp
                  try (unfold stored; go_simp)
                  refine hKx _ _ ⟨?_, ?_⟩
                  · co_quiet (T S)
                  clear hKx Kx
                  try walk_nrm
                  refine opsI_nil C T ?_
                  show wpI _ _ _ _ _ _ _
                  by_cases u241 : c ≤ 243
                  · have ub241 : decide (c ≤ 243) = true := decide_eq_true u241
                    try simp only [ub241]
                    refine wpI_cond C T (t := true) rfl ?_
                    simp only [if_true, if_false, reduceIte, Bool.false_eq_true]
                    refine wpI_seq C T ?_
                    refine wpI_region C T ?_
                    simp only [List.size_toArray, List.length_cons, List.length_nil, Nat.reduceAdd, Nat.zero_add, List.range, List.range.loop]
                    refine opsI_cons C rfl (by rfl) fun _ hR Kx hKx => ?_
                    replace hF := at_rely hF hR
                    clear hR
                    go_simp
                    try (unfold stored; go_simp)
                    refine hKx _ _ ⟨?_, ?_⟩
                    · co_quiet (T S)
                    clear hKx Kx
                    try walk_nrm
                    refine opsI_cons C rfl (by rfl) fun _ hR Kx hKx => ?_
                    replace hF := at_rely hF hR
                    clear hR
                    go_simp
                    try (unfold stored; go_simp)
                    refine hKx _ _ ⟨?_, ?_⟩
                    · co_quiet (T S)
                    clear hKx Kx
                    try walk_nrm
                    refine opsI_cons C rfl (by rfl) fun _ hR Kx hKx => ?_
                    replace hF := at_rely hF hR
                    clear hR
                    go_simp
                    try (unfold stored; go_simp)
                    refine hKx _ _ ⟨?_, ?_⟩
                    · co_quiet (T S)
                    clear hKx Kx
                    try walk_nrm
                    refine opsI_nil C T ?_
                    show wpI _ _ _ _ _ _ _
                    refine wpI_ret C T ?_
                    exact ⟨.inr rfl, rfl, _, resultsC_tmp3 (by rfl) _, rfl, by simp [folS, *], hF⟩
                  · have ub241 : decide (c ≤ 243) = false := decide_eq_false u241
                    try simp only [ub241]
                    refine wpI_cond C T (t := false) rfl ?_
                    simp only [if_true, if_false, reduceIte, Bool.false_eq_true]
                    refine wpI_seq C T ?_
                    refine wpI_region C T ?_
                    simp only [List.size_toArray, List.length_cons, List.length_nil, Nat.reduceAdd, Nat.zero_add, List.range, List.range.loop]
                    refine opsI_cons C rfl (by rfl) fun _ hR Kx hKx => ?_
                    replace hF := at_rely hF hR
                    clear hR
                    go_simp
                    try (unfold stored; go_simp)
                    refine hKx _ _ ⟨?_, ?_⟩
                    · co_quiet (T S)
                    clear hKx Kx
                    try walk_nrm
                    refine opsI_cons C rfl (by rfl) fun _ hR Kx hKx => ?_
                    replace hF := at_rely hF hR
                    clear hR
                    go_simp
                    try (unfold stored; go_simp)
                    refine hKx _ _ ⟨?_, ?_⟩
                    · co_quiet (T S)
                    clear hKx Kx
                    try walk_nrm
                    refine opsI_cons C rfl (by rfl) fun _ hR Kx hKx => ?_
                    replace hF := at_rely hF hR
                    clear hR
                    go_simp
                    try (unfold stored; go_simp)
                    refine hKx _ _ ⟨?_, ?_⟩
                    · co_quiet (T S)
                    clear hKx Kx
                    try walk_nrm
                    refine opsI_nil C T ?_
                    show wpI _ _ _ _ _ _ _
                    by_cases h244 : c = 244
                    · have hb244 : (c == 244) = true := by simp [h244]
                      simp only [hb244]
                      refine wpI_cond C T (t := true) rfl ?_
                      simp only [if_true, if_false, reduceIte, Bool.false_eq_true]
                      refine wpI_seq C T ?_
                      refine wpI_region C T ?_
                      simp only [List.size_toArray, List.length_cons, List.length_nil, Nat.reduceAdd, Nat.zero_add, List.range, List.range.loop]
                      refine opsI_cons C rfl (by rfl) fun _ hR Kx hKx => ?_
                      replace hF := at_rely hF hR
                      clear hR
                      go_simp
                      try (unfold stored; go_simp)
                      refine hKx _ _ ⟨?_, ?_⟩
                      · co_quiet (T S)
                      clear hKx Kx
                      try walk_nrm
                      refine opsI_cons C rfl (by rfl) fun _ hR Kx hKx => ?_
                      replace hF := at_rely hF hR
                      clear hR
                      go_simp
                      try (unfold stored; go_simp)
                      refine hKx _ _ ⟨?_, ?_⟩
                      · co_quiet (T S)
                      clear hKx Kx
                      try walk_nrm
                      refine opsI_cons C rfl (by rfl) fun _ hR Kx hKx => ?_
                      replace hF := at_rely hF hR
                      clear hR
                      go_simp
                      try (unfold stored; go_simp)
                      refine hKx _ _ ⟨?_, ?_⟩
                      · co_quiet (T S)
                      clear hKx Kx
                      try walk_nrm
                      refine opsI_nil C T ?_
                      show wpI _ _ _ _ _ _ _
                      refine wpI_ret C T ?_
                      exact ⟨.inr rfl, rfl, _, resultsC_tmp3 (by rfl) _, rfl, by simp [folS, *], hF⟩
                    · have hb244 : (c == 244) = false := by simp [h244]
                      simp only [hb244]
                      refine wpI_cond C T (t := false) rfl ?_
                      simp only [if_true, if_false, reduceIte, Bool.false_eq_true]
                      refine wpI_skip C T ?_
                      show wpI _ _ _ _ _ _ _
                      refine wpI_seq C T ?_
                      refine wpI_region C T ?_
                      simp only [List.size_toArray, List.length_cons, List.length_nil, Nat.reduceAdd, Nat.zero_add, List.range, List.range.loop]
                      refine opsI_cons C rfl (by rfl) fun _ hR Kx hKx => ?_
                      replace hF := at_rely hF hR
                      clear hR
                      go_simp
                      try (unfold stored; go_simp)
                      refine hKx _ _ ⟨?_, ?_⟩
                      · co_quiet (T S)
                      clear hKx Kx
                      try walk_nrm
                      refine opsI_cons C rfl (by rfl) fun _ hR Kx hKx => ?_
                      replace hF := at_rely hF hR
                      clear hR
                      go_simp
                      try (unfold stored; go_simp)
                      refine hKx _ _ ⟨?_, ?_⟩
                      · co_quiet (T S)
                      clear hKx Kx
                      try walk_nrm
                      refine opsI_cons C rfl (by rfl) fun _ hR Kx hKx => ?_
                      replace hF := at_rely hF hR
                      clear hR
                      go_simp
                      try (unfold stored; go_simp)
                      refine hKx _ _ ⟨?_, ?_⟩
                      · co_quiet (T S)
                      clear hKx Kx
                      try walk_nrm
                      refine opsI_nil C T ?_
                      show wpI _ _ _ _ _ _ _
                      refine wpI_ret C T ?_
                      exact ⟨.inr rfl, rfl, _, resultsC_tmp3 (by rfl) _, rfl, by simp [folS, *], hF⟩
                · have lb241 : decide (241 ≤ c) = false := decide_eq_false l241
                  refine wpI_region C T ?_
                  simp only [List.size_toArray, List.length_cons, List.length_nil, Nat.reduceAdd, Nat.zero_add, List.range, List.range.loop]
                  refine opsI_cons C rfl (by rfl) fun _ hR Kx hKx => ?_
                  replace hF := at_rely hF hR
                  clear hR
                  go_simp
                  try (unfold stored; go_simp)
                  refine hKx _ _ ⟨?_, ?_⟩
                  · co_quiet (T S)
                  clear hKx Kx
                  try walk_nrm
                  refine opsI_cons C rfl (by rfl) fun _ hR Kx hKx => ?_
                  replace hF := at_rely hF hR
                  clear hR
                  go_simp
                  try (unfold stored; go_simp)
                  refine hKx _ _ ⟨?_, ?_⟩
                  · co_quiet (T S)
                  clear hKx Kx
                  try walk_nrm
                  try simp only [lb241]
                  refine opsI_cons C rfl (by rfl) fun _ hR Kx hKx => ?_
                  replace hF := at_rely hF hR
                  clear hR
                  go_simp
                  try (unfold stored; go_simp)
                  refine hKx _ _ ⟨?_, ?_⟩
                  · co_quiet (T S)
                  clear hKx Kx
                  try walk_nrm
                  refine opsI_unwanted C T rfl (by rfl) ?_
                  try walk_nrm
                  refine opsI_unwanted C T rfl (by rfl) ?_
                  try walk_nrm
                  refine opsI_cons C rfl (by rfl) fun _ hR Kx hKx => ?_
                  replace hF := at_rely hF hR
                  clear hR
                  go_simp
                  try (unfold stored; go_simp)
                  refine hKx _ _ ⟨?_, ?_⟩
                  · co_quiet (T S)
                  clear hKx Kx
                  try walk_nrm
                  refine opsI_cons C rfl (by rfl) fun _ hR Kx hKx => ?_
                  replace hF := at_rely hF hR
                  clear hR
                  go_simp
                  try (unfold stored; go_simp)
                  refine hKx _ _ ⟨?_, ?_⟩
                  · co_quiet (T S)
                  clear hKx Kx
                  try walk_nrm
                  refine opsI_nil C T ?_
                  show wpI _ _ _ _ _ _ _
                  refine wpI_cond C T (t := false) rfl ?_
                  simp only [if_true, if_false, reduceIte, Bool.false_eq_true]
                  refine wpI_seq C T ?_
                  refine wpI_region C T ?_
                  simp only [List.size_toArray, List.length_cons, List.length_nil, Nat.reduceAdd, Nat.zero_add, List.range, List.range.loop]
                  refine opsI_cons C rfl (by rfl) fun _ hR Kx hKx => ?_
                  replace hF := at_rely hF hR
                  clear hR
                  go_simp
                  try (unfold stored; go_simp)
                  refine hKx _ _ ⟨?_, ?_⟩
                  · co_quiet (T S)
                  clear hKx Kx
                  try walk_nrm
                  refine opsI_cons C rfl (by rfl) fun _ hR Kx hKx => ?_
                  replace hF := at_rely hF hR
                  clear hR
                  go_simp
                  try (unfold stored; go_simp)
                  refine hKx _ _ ⟨?_, ?_⟩
                  · co_quiet (T S)
                  clear hKx Kx
                  try walk_nrm
                  refine opsI_cons C rfl (by rfl) fun _ hR Kx hKx => ?_
                  replace hF := at_rely hF hR
                  clear hR
                  go_simp
                  try (unfold stored; go_simp)
                  refine hKx _ _ ⟨?_, ?_⟩
                  · co_quiet (T S)
                  clear hKx Kx
                  try walk_nrm
                  refine opsI_nil C T ?_
                  show wpI _ _ _ _ _ _ _
                  by_cases h244 : c = 244
                  · have hb244 : (c == 244) = true := by simp [h244]
                    simp only [hb244]
                    refine wpI_cond C T (t := true) rfl ?_
                    simp only [if_true, if_false, reduceIte, Bool.false_eq_true]
                    refine wpI_seq C T ?_
                    refine wpI_region C T ?_
                    simp only [List.size_toArray, List.length_cons, List.length_nil, Nat.reduceAdd, Nat.zero_add, List.range, List.range.loop]
                    refine opsI_cons C rfl (by rfl) fun _ hR Kx hKx => ?_
                    replace hF := at_rely hF hR
                    clear hR
                    go_simp
                    try (unfold stored; go_simp)
                    refine hKx _ _ ⟨?_, ?_⟩
                    · co_quiet (T S)
                    clear hKx Kx
                    try walk_nrm
                    refine opsI_cons C rfl (by rfl) fun _ hR Kx hKx => ?_
                    replace hF := at_rely hF hR
                    clear hR
                    go_simp
                    try (unfold stored; go_simp)
                    refine hKx _ _ ⟨?_, ?_⟩
                    · co_quiet (T S)
                    clear hKx Kx
                    try walk_nrm
                    refine opsI_cons C rfl (by rfl) fun _ hR Kx hKx => ?_
                    replace hF := at_rely hF hR
                    clear hR
                    go_simp
                    try (unfold stored; go_simp)
                    refine hKx _ _ ⟨?_, ?_⟩
                    · co_quiet (T S)
                    clear hKx Kx
                    try walk_nrm
                    refine opsI_nil C T ?_
                    show wpI _ _ _ _ _ _ _
                    refine wpI_ret C T ?_
                    exact ⟨.inr rfl, rfl, _, resultsC_tmp3 (by rfl) _, rfl, by simp [folS, *], hF⟩
                  · have hb244 : (c == 244) = false := by simp [h244]
                    simp only [hb244]
                    refine wpI_cond C T (t := false) rfl ?_
                    simp only [if_true, if_false, reduceIte, Bool.false_eq_true]
                    refine wpI_skip C T ?_
                    show wpI _ _ _ _ _ _ _
                    refine wpI_seq C T ?_
                    refine wpI_region C T ?_
                    simp only [List.size_toArray, List.length_cons, List.length_nil, Nat.reduceAdd, Nat.zero_add, List.range, List.range.loop]
                    refine opsI_cons C rfl (by rfl) fun _ hR Kx hKx => ?_
                    replace hF := at_rely hF hR
                    clear hR
                    go_simp
                    try (unfold stored; go_simp)
                    refine hKx _ _ ⟨?_, ?_⟩
                    · co_quiet (T S)
                    clear hKx Kx
                    try walk_nrm
                    refine opsI_cons C rfl (by rfl) fun _ hR Kx hKx => ?_
                    replace hF := at_rely hF hR
                    clear hR
                    go_simp
                    try (unfold stored; go_simp)
                    refine hKx _ _ ⟨?_, ?_⟩
                    · co_quiet (T S)
                    clear hKx Kx
                    try walk_nrm
                    refine opsI_cons C rfl (by rfl) fun _ hR Kx hKx => ?_
                    replace hF := at_rely hF hR
                    clear hR
                    go_simp
                    try (unfold stored; go_simp)
                    refine hKx _ _ ⟨?_, ?_⟩
                    · co_quiet (T S)
                    clear hKx Kx
                    try walk_nrm
                    refine opsI_nil C T ?_
                    show wpI _ _ _ _ _ _ _
                    refine wpI_ret C T ?_
                    exact ⟨.inr rfl, rfl, _, resultsC_tmp3 (by rfl) _, rfl, by simp [folS, *], hF⟩
          · have lb225 : decide (225 ≤ c) = false := decide_eq_false l225
            refine wpI_region C T ?_
            simp only [List.size_toArray, List.length_cons, List.length_nil, Nat.reduceAdd, Nat.zero_add, List.range, List.range.loop]
            refine opsI_cons C rfl (by rfl) fun _ hR Kx hKx => ?_
            replace hF := at_rely hF hR
            clear hR
            go_simp
            try (unfold stored; go_simp)
            refine hKx _ _ ⟨?_, ?_⟩
            · co_quiet (T S)
            clear hKx Kx
            try walk_nrm
            refine opsI_cons C rfl (by rfl) fun _ hR Kx hKx => ?_
            replace hF := at_rely hF hR
            clear hR
            go_simp
            try (unfold stored; go_simp)
            refine hKx _ _ ⟨?_, ?_⟩
            · co_quiet (T S)
            clear hKx Kx
            try walk_nrm
            try simp only [lb225]
            refine opsI_cons C rfl (by rfl) fun _ hR Kx hKx => ?_
            replace hF := at_rely hF hR
            clear hR
            go_simp
            try (unfold stored; go_simp)
            refine hKx _ _ ⟨?_, ?_⟩
            · co_quiet (T S)
            clear hKx Kx
            try walk_nrm
            refine opsI_unwanted C T rfl (by rfl) ?_
            try walk_nrm
            refine opsI_unwanted C T rfl (by rfl) ?_
            try walk_nrm
            refine opsI_cons C rfl (by rfl) fun _ hR Kx hKx => ?_
            replace hF := at_rely hF hR
            clear hR
            go_simp
            try (unfold stored; go_simp)
            refine hKx _ _ ⟨?_, ?_⟩
            · co_quiet (T S)
            clear hKx Kx
            try walk_nrm
            refine opsI_cons C rfl (by rfl) fun _ hR Kx hKx => ?_
            replace hF := at_rely hF hR
            clear hR
            go_simp
            try (unfold stored; go_simp)
            refine hKx _ _ ⟨?_, ?_⟩
            · co_quiet (T S)
            clear hKx Kx
            try walk_nrm
            refine opsI_nil C T ?_
            show wpI _ _ _ _ _ _ _
            refine wpI_cond C T (t := false) rfl ?_
            simp only [if_true, if_false, reduceIte, Bool.false_eq_true]
            refine wpI_seq C T ?_
            refine wpI_region C T ?_
            simp only [List.size_toArray, List.length_cons, List.length_nil, Nat.reduceAdd, Nat.zero_add, List.range, List.range.loop]
            refine opsI_cons C rfl (by rfl) fun _ hR Kx hKx => ?_
            replace hF := at_rely hF hR
            clear hR
            go_simp
            try (unfold stored; go_simp)
            refine hKx _ _ ⟨?_, ?_⟩
            · co_quiet (T S)
            clear hKx Kx
            try walk_nrm
            refine opsI_cons C rfl (by rfl) fun _ hR Kx hKx => ?_
            replace hF := at_rely hF hR
            clear hR
            go_simp
            try (unfold stored; go_simp)
            refine hKx _ _ ⟨?_, ?_⟩
            · co_quiet (T S)
            clear hKx Kx
            try walk_nrm
            refine opsI_cons C rfl (by rfl) fun _ hR Kx hKx => ?_
            replace hF := at_rely hF hR
            clear hR
            go_simp
            try (unfold stored; go_simp)
            refine hKx _ _ ⟨?_, ?_⟩
            · co_quiet (T S)
            clear hKx Kx
            try walk_nrm
            refine opsI_nil C T ?_
            show wpI _ _ _ _ _ _ _
            by_cases h240 : c = 240
            · have hb240 : (c == 240) = true := by simp [h240]
              simp only [hb240]
              refine wpI_cond C T (t := true) rfl ?_
              simp only [if_true, if_false, reduceIte, Bool.false_eq_true]
              refine wpI_seq C T ?_
              refine wpI_region C T ?_
              simp only [List.size_toArray, List.length_cons, List.length_nil, Nat.reduceAdd, Nat.zero_add, List.range, List.range.loop]
              refine opsI_cons C rfl (by rfl) fun _ hR Kx hKx => ?_
              replace hF := at_rely hF hR
              clear hR
              go_simp
              try (unfold stored; go_simp)
              refine hKx _ _ ⟨?_, ?_⟩
              · co_quiet (T S)
              clear hKx Kx
              try walk_nrm
              refine opsI_cons C rfl (by rfl) fun _ hR Kx hKx => ?_
              replace hF := at_rely hF hR
              clear hR
              go_simp
              try (unfold stored; go_simp)
              refine hKx _ _ ⟨?_, ?_⟩
              · co_quiet (T S)
              clear hKx Kx
              try walk_nrm
              refine opsI_cons C rfl (by rfl) fun _ hR Kx hKx => ?_
              replace hF := at_rely hF hR
              clear hR
              go_simp
              try (unfold stored; go_simp)
              refine hKx _ _ ⟨?_, ?_⟩
              · co_quiet (T S)
              clear hKx Kx
              try walk_nrm
              refine opsI_nil C T ?_
              show wpI _ _ _ _ _ _ _
              refine wpI_ret C T ?_
              exact ⟨.inr rfl, rfl, _, resultsC_tmp3 (by rfl) _, rfl, by simp [folS, *], hF⟩
            · have hb240 : (c == 240) = false := by simp [h240]
              simp only [hb240]
              refine wpI_cond C T (t := false) rfl ?_
              simp only [if_true, if_false, reduceIte, Bool.false_eq_true]
              refine wpI_seq C T ?_
              by_cases l241 : 241 ≤ c
              · have lb241 : decide (241 ≤ c) = true := decide_eq_true l241
                refine wpI_region C T ?_
                simp only [List.size_toArray, List.length_cons, List.length_nil, Nat.reduceAdd, Nat.zero_add, List.range, List.range.loop]
                refine opsI_cons C rfl (by rfl) fun _ hR Kx hKx => ?_
                replace hF := at_rely hF hR
                clear hR
                go_simp
                try (unfold stored; go_simp)
                refine hKx _ _ ⟨?_, ?_⟩
                · co_quiet (T S)
                clear hKx Kx
                try walk_nrm
                refine opsI_cons C rfl (by rfl) fun _ hR Kx hKx => ?_
                replace hF := at_rely hF hR
                clear hR
                go_simp
                try (unfold stored; go_simp)
                refine hKx _ _ ⟨?_, ?_⟩
                · co_quiet (T S)
                clear hKx Kx
                try walk_nrm
                try simp only [lb241]
                refine opsI_cons C rfl (by rfl) fun _ hR Kx hKx => ?_
                replace hF := at_rely hF hR
                clear hR
                go_simp
                try (unfold stored; go_simp)
                refine hKx _ _ ⟨?_, ?_⟩
                · co_quiet (T S)
                clear hKx Kx
                try walk_nrm
                refine opsI_cons C rfl (by rfl) fun _ hR Kx hKx => ?_
                replace hF := at_rely hF hR
                clear hR
                go_simp
                try (unfold stored; go_simp)
                refine hKx _ _ ⟨?_, ?_⟩
                · co_quiet (T S)
                clear hKx Kx
                try walk_nrm
                refine opsI_cons C rfl (by rfl) fun _ hR Kx hKx => ?_
                replace hF := at_rely hF hR
                clear hR
                go_simp
                try (unfold stored; go_simp)
                refine hKx _ _ ⟨?_, ?_⟩
                · co_quiet (T S)
                clear hKx Kx
                try walk_nrm
                refine opsI_cons C rfl (by rfl) fun _ hR Kx hKx => ?_
                replace hF := at_rely hF hR
                clear hR
                go_simp
                try (unfold stored; go_simp)
                refine hKx _ _ ⟨?_, ?_⟩
                · co_quiet (T S)
                clear hKx Kx
                try walk_nrm
                refine opsI_cons C rfl (by rfl) fun _ hR Kx hKx => ?_
                replace hF := at_rely hF hR
                clear hR
                go_simp
                try (unfold stored; go_simp)
                refine hKx _ _ ⟨?_, ?_⟩
                · co_quiet (T S)
                clear hKx Kx
                try walk_nrm
                refine opsI_nil C T ?_
                show wpI _ _ _ _ _ _ _
                by_cases u241 : c ≤ 243
                · have ub241 : decide (c ≤ 243) = true := decide_eq_true u241
                  try simp only [ub241]
                  refine wpI_cond C T (t := true) rfl ?_
                  simp only [if_true, if_false, reduceIte, Bool.false_eq_true]
                  refine wpI_seq C T ?_
                  refine wpI_region C T ?_
                  simp only [List.size_toArray, List.length_cons, List.length_nil, Nat.reduceAdd, Nat.zero_add, List.range, List.range.loop]
                  refine opsI_cons C rfl (by rfl) fun _ hR Kx hKx => ?_
                  replace hF := at_rely hF hR
                  clear hR
                  go_simp
                  try (unfold stored; go_simp)
                  refine hKx _ _ ⟨?_, ?_⟩
                  · co_quiet (T S)
                  clear hKx Kx
                  try walk_nrm
                  refine opsI_cons C rfl (by rfl) fun _ hR Kx hKx => ?_
                  replace hF := at_rely hF hR
                  clear hR
                  go_simp
                  try (unfold stored; go_simp)
                  refine hKx _ _ ⟨?_, ?_⟩
                  · co_quiet (T S)
                  clear hKx Kx
                  try walk_nrm
                  refine opsI_cons C rfl (by rfl) fun _ hR Kx hKx => ?_
                  replace hF := at_rely hF hR
                  clear hR
                  go_simp
                  try (unfold stored; go_simp)
                  refine hKx _ _ ⟨?_, ?_⟩
                  · co_quiet (T S)
                  clear hKx Kx
                  try walk_nrm
                  refine opsI_nil C T ?_
                  show wpI _ _ _ _ _ _ _
                  refine wpI_ret C T ?_
                  exact ⟨.inr rfl, rfl, _, resultsC_tmp3 (by rfl) _, rfl, by simp [folS, *], hF⟩
                · have ub241 : decide (c ≤ 243) = false := decide_eq_false u241
                  try simp only [ub241]
                  refine wpI_cond C T (t := false) rfl ?_
                  simp only [if_true, if_false, reduceIte, Bool.false_eq_true]
                  refine wpI_seq C T ?_
                  refine wpI_region C T ?_
                  simp only [List.size_toArray, List.length_cons, List.length_nil, Nat.reduceAdd, Nat.zero_add, List.range, List.range.loop]
                  refine opsI_cons C rfl (by rfl) fun _ hR Kx hKx => ?_
                  replace hF := at_rely hF hR
                  clear hR
                  go_simp
                  try (unfold stored; go_simp)
                  refine hKx _ _ ⟨?_, ?_⟩
                  · co_quiet (T S)
                  clear hKx Kx
                  try walk_nrm
                  refine opsI_cons C rfl (by rfl) fun _ hR Kx hKx => ?_
                  replace hF := at_rely hF hR
                  clear hR
                  go_simp
                  try (unfold stored; go_simp)
                  refine hKx _ _ ⟨?_, ?_⟩
                  · co_quiet (T S)
                  clear hKx Kx
                  try walk_nrm
                  refine opsI_cons C rfl (by rfl) fun _ hR Kx hKx => ?_
                  replace hF := at_rely hF hR
                  clear hR
                  go_simp
                  try (unfold stored; go_simp)
                  refine hKx _ _ ⟨?_, ?_⟩
                  · co_quiet (T S)
                  clear hKx Kx
                  try walk_nrm
                  refine opsI_nil C T ?_
                  show wpI _ _ _ _ _ _ _
                  by_cases h244 : c = 244
                  · have hb244 : (c == 244) = true := by simp [h244]
                    simp only [hb244]
                    refine wpI_cond C T (t := true) rfl ?_
                    simp only [if_true, if_false, reduceIte, Bool.false_eq_true]
                    refine wpI_seq C T ?_
                    refine wpI_region C T ?_
                    simp only [List.size_toArray, List.length_cons, List.length_nil, Nat.reduceAdd, Nat.zero_add, List.range, List.range.loop]
                    refine opsI_cons C rfl (by rfl) fun _ hR Kx hKx => ?_
                    replace hF := at_rely hF hR
                    clear hR
                    go_simp
                    try (unfold stored; go_simp)
                    refine hKx _ _ ⟨?_, ?_⟩
                    · co_quiet (T S)
                    clear hKx Kx
                    try walk_nrm
                    refine opsI_cons C rfl (by rfl) fun _ hR Kx hKx => ?_
                    replace hF := at_rely hF hR
                    clear hR
                    go_simp
                    try (unfold stored; go_simp)
                    refine hKx _ _ ⟨?_, ?_⟩
                    · co_quiet (T S)
                    clear hKx Kx
                    try walk_nrm
                    refine opsI_cons C rfl (by rfl) fun _ hR Kx hKx => ?_
                    replace hF := at_rely hF hR
                    clear hR
                    go_simp
                    try (unfold stored; go_simp)
                    refine hKx _ _ ⟨?_, ?_⟩
                    · co_quiet (T S)
                    clear hKx Kx
                    try walk_nrm
                    refine opsI_nil C T ?_
                    show wpI _ _ _ _ _ _ _
                    refine wpI_ret C T ?_
                    exact ⟨.inr rfl, rfl, _, resultsC_tmp3 (by rfl) _, rfl, by simp [folS, *], hF⟩
                  · have hb244 : (c == 244) = false := by simp [h244]
                    simp only [hb244]
                    refine wpI_cond C T (t := false) rfl ?_
                    simp only [if_true, if_false, reduceIte, Bool.false_eq_true]
                    refine wpI_skip C T ?_
                    show wpI _ _ _ _ _ _ _
                    refine wpI_seq C T ?_
                    refine wpI_region C T ?_
                    simp only [List.size_toArray, List.length_cons, List.length_nil, Nat.reduceAdd, Nat.zero_add, List.range, List.range.loop]
                    refine opsI_cons C rfl (by rfl) fun _ hR Kx hKx => ?_
                    replace hF := at_rely hF hR
                    clear hR
                    go_simp
                    try (unfold stored; go_simp)
                    refine hKx _ _ ⟨?_, ?_⟩
                    · co_quiet (T S)
                    clear hKx Kx
                    try walk_nrm
                    refine opsI_cons C rfl (by rfl) fun _ hR Kx hKx => ?_
                    replace hF := at_rely hF hR
                    clear hR
                    go_simp
                    try (unfold stored; go_simp)
                    refine hKx _ _ ⟨?_, ?_⟩
                    · co_quiet (T S)
                    clear hKx Kx
                    try walk_nrm
                    refine opsI_cons C rfl (by rfl) fun _ hR Kx hKx => ?_
                    replace hF := at_rely hF hR
                    clear hR
                    go_simp
                    try (unfold stored; go_simp)
                    refine hKx _ _ ⟨?_, ?_⟩
                    · co_quiet (T S)
                    clear hKx Kx
                    try walk_nrm
                    refine opsI_nil C T ?_
                    show wpI _ _ _ _ _ _ _
                    refine wpI_ret C T ?_
                    exact ⟨.inr rfl, rfl, _, resultsC_tmp3 (by rfl) _, rfl, by simp [folS, *], hF⟩
              · have lb241 : decide (241 ≤ c) = false := decide_eq_false l241
                refine wpI_region C T ?_
                simp only [List.size_toArray, List.length_cons, List.length_nil, Nat.reduceAdd, Nat.zero_add, List.range, List.range.loop]
                refine opsI_cons C rfl (by rfl) fun _ hR Kx hKx => ?_
                replace hF := at_rely hF hR
                clear hR
                go_simp
                try (unfold stored; go_simp)
                refine hKx _ _ ⟨?_, ?_⟩
                · co_quiet (T S)
                clear hKx Kx
                try walk_nrm
                refine opsI_cons C rfl (by rfl) fun _ hR Kx hKx => ?_
                replace hF := at_rely hF hR
                clear hR
                go_simp
                try (unfold stored; go_simp)
                refine hKx _ _ ⟨?_, ?_⟩
                · co_quiet (T S)
                clear hKx Kx
                try walk_nrm
                try simp only [lb241]
                refine opsI_cons C rfl (by rfl) fun _ hR Kx hKx => ?_
                replace hF := at_rely hF hR
                clear hR
                go_simp
                try (unfold stored; go_simp)
                refine hKx _ _ ⟨?_, ?_⟩
                · co_quiet (T S)
                clear hKx Kx
                try walk_nrm
                refine opsI_unwanted C T rfl (by rfl) ?_
                try walk_nrm
                refine opsI_unwanted C T rfl (by rfl) ?_
                try walk_nrm
                refine opsI_cons C rfl (by rfl) fun _ hR Kx hKx => ?_
                replace hF := at_rely hF hR
                clear hR
                go_simp
                try (unfold stored; go_simp)
                refine hKx _ _ ⟨?_, ?_⟩
                · co_quiet (T S)
                clear hKx Kx
                try walk_nrm
                refine opsI_cons C rfl (by rfl) fun _ hR Kx hKx => ?_
                replace hF := at_rely hF hR
                clear hR
                go_simp
                try (unfold stored; go_simp)
                refine hKx _ _ ⟨?_, ?_⟩
                · co_quiet (T S)
                clear hKx Kx
                try walk_nrm
                refine opsI_nil C T ?_
                show wpI _ _ _ _ _ _ _
                refine wpI_cond C T (t := false) rfl ?_
                simp only [if_true, if_false, reduceIte, Bool.false_eq_true]
                refine wpI_seq C T ?_
                refine wpI_region C T ?_
                simp only [List.size_toArray, List.length_cons, List.length_nil, Nat.reduceAdd, Nat.zero_add, List.range, List.range.loop]
                refine opsI_cons C rfl (by rfl) fun _ hR Kx hKx => ?_
                replace hF := at_rely hF hR
                clear hR
                go_simp
                try (unfold stored; go_simp)
                refine hKx _ _ ⟨?_, ?_⟩
                · co_quiet (T S)
                clear hKx Kx
                try walk_nrm
                refine opsI_cons C rfl (by rfl) fun _ hR Kx hKx => ?_
                replace hF := at_rely hF hR
                clear hR
                go_simp
                try (unfold stored; go_simp)
                refine hKx _ _ ⟨?_, ?_⟩
                · co_quiet (T S)
                clear hKx Kx
                try walk_nrm
                refine opsI_cons C rfl (by rfl) fun _ hR Kx hKx => ?_
                replace hF := at_rely hF hR
                clear hR
                go_simp
                try (unfold stored; go_simp)
                refine hKx _ _ ⟨?_, ?_⟩
                · co_quiet (T S)
                clear hKx Kx
                try walk_nrm
                refine opsI_nil C T ?_
                show wpI _ _ _ _ _ _ _
                by_cases h244 : c = 244
                · have hb244 : (c == 244) = true := by simp [h244]
                  simp only [hb244]
                  refine wpI_cond C T (t := true) rfl ?_
                  simp only [if_true, if_false, reduceIte, Bool.false_eq_true]
                  refine wpI_seq C T ?_
                  refine wpI_region C T ?_
                  simp only [List.size_toArray, List.length_cons, List.length_nil, Nat.reduceAdd, Nat.zero_add, List.range, List.range.loop]
                  refine opsI_cons C rfl (by rfl) fun _ hR Kx hKx => ?_
                  replace hF := at_rely hF hR
                  clear hR
                  go_simp
                  try (unfold stored; go_simp)
                  refine hKx _ _ ⟨?_, ?_⟩
                  · co_quiet (T S)
                  clear hKx Kx
                  try walk_nrm
                  refine opsI_cons C rfl (by rfl) fun _ hR Kx hKx => ?_
                  replace hF := at_rely hF hR
                  clear hR
                  go_simp
                  try (unfold stored; go_simp)
                  refine hKx _ _ ⟨?_, ?_⟩
                  · co_quiet (T S)
                  clear hKx Kx
                  try walk_nrm
                  refine opsI_cons C rfl (by rfl) fun _ hR Kx hKx => ?_
                  replace hF := at_rely hF hR
                  clear hR
                  go_simp
                  try (unfold stored; go_simp)
                  refine hKx _ _ ⟨?_, ?_⟩
                  · co_quiet (T S)
                  clear hKx Kx
                  try walk_nrm
                  refine opsI_nil C T ?_
                  show wpI _ _ _ _ _ _ _
                  refine wpI_ret C T ?_
                  exact ⟨.inr rfl, rfl, _, resultsC_tmp3 (by rfl) _, rfl, by simp [folS, *], hF⟩
                · have hb244 : (c == 244) = false := by simp [h244]
                  simp only [hb244]
                  refine wpI_cond C T (t := false) rfl ?_
                  simp only [if_true, if_false, reduceIte, Bool.false_eq_true]
                  refine wpI_skip C T ?_
                  show wpI _ _ _ _ _ _ _
                  refine wpI_seq C T ?_
                  refine wpI_region C T ?_
                  simp only [List.size_toArray, List.length_cons, List.length_nil, Nat.reduceAdd, Nat.zero_add, List.range, List.range.loop]
                  refine opsI_cons C rfl (by rfl) fun _ hR Kx hKx => ?_
                  replace hF := at_rely hF hR
                  clear hR
                  go_simp
                  try (unfold stored; go_simp)
                  refine hKx _ _ ⟨?_, ?_⟩
                  · co_quiet (T S)
                  clear hKx Kx
                  try walk_nrm
                  refine opsI_cons C rfl (by rfl) fun _ hR Kx hKx => ?_
                  replace hF := at_rely hF hR
                  clear hR
                  go_simp
                  try (unfold stored; go_simp)
                  refine hKx _ _ ⟨?_, ?_⟩
                  · co_quiet (T S)
                  clear hKx Kx
                  try walk_nrm
                  refine opsI_cons C rfl (by rfl) fun _ hR Kx hKx => ?_
                  replace hF := at_rely hF hR
                  clear hR
                  go_simp
                  try (unfold stored; go_simp)
                  refine hKx _ _ ⟨?_, ?_⟩
                  · co_quiet (T S)
                  clear hKx Kx
                  try walk_nrm
                  refine opsI_nil C T ?_
                  show wpI _ _ _ _ _ _ _
                  refine wpI_ret C T ?_
                  exact ⟨.inr rfl, rfl, _, resultsC_tmp3 (by rfl) _, rfl, by simp [folS, *], hF⟩
  · have lb194 : decide (194 ≤ c) = false := decide_eq_false l194
    refine wpI_region C T ?_
    simp only [List.size_toArray, List.length_cons, List.length_nil, Nat.reduceAdd, Nat.zero_add, List.range, List.range.loop]
    refine opsI_cons C rfl (by rfl) fun _ hR Kx hKx => ?_
    replace hF := at_rely hF hR
    clear hR
    go_simp
    try (unfold stored; go_simp)
    refine hKx _ _ ⟨?_, ?_⟩
    · co_quiet (T S)
    clear hKx Kx
    try walk_nrm
    refine opsI_cons C rfl (by rfl) fun _ hR Kx hKx => ?_
    replace hF := at_rely hF hR
    clear hR
    go_simp
    try (unfold stored; go_simp)
    refine hKx _ _ ⟨?_, ?_⟩
    · co_quiet (T S)
    clear hKx Kx
    try walk_nrm
    try simp only [lb194]
    refine opsI_cons C rfl (by rfl) fun _ hR Kx hKx => ?_
    replace hF := at_rely hF hR
    clear hR
    go_simp
    try (unfold stored; go_simp)
    refine hKx _ _ ⟨?_, ?_⟩
    · co_quiet (T S)
    clear hKx Kx
    try walk_nrm
    refine opsI_unwanted C T rfl (by rfl) ?_
    try walk_nrm
    refine opsI_unwanted C T rfl (by rfl) ?_
    try walk_nrm
    refine opsI_cons C rfl (by rfl) fun _ hR Kx hKx => ?_
    replace hF := at_rely hF hR
    clear hR
    go_simp
    try (unfold stored; go_simp)
    refine hKx _ _ ⟨?_, ?_⟩
    · co_quiet (T S)
    clear hKx Kx
    try walk_nrm
    refine opsI_cons C rfl (by rfl) fun _ hR Kx hKx => ?_
    replace hF := at_rely hF hR
    clear hR
    go_simp
    try (unfold stored; go_simp)
    refine hKx _ _ ⟨?_, ?_⟩
    · co_quiet (T S)
    clear hKx Kx
    try walk_nrm
    refine opsI_nil C T ?_
    show wpI _ _ _ _ _ _ _
    refine wpI_cond C T (t := false) rfl ?_
    simp only [if_true, if_false, reduceIte, Bool.false_eq_true]
    refine wpI_seq C T ?_
    refine wpI_region C T ?_
    simp only [List.size_toArray, List.length_cons, List.length_nil, Nat.reduceAdd, Nat.zero_add, List.range, List.range.loop]
    refine opsI_cons C rfl (by rfl) fun _ hR Kx hKx => ?_
    replace hF := at_rely hF hR
    clear hR
    go_simp
    try (unfold stored; go_simp)
    refine hKx _ _ ⟨?_, ?_⟩
    · co_quiet (T S)
    clear hKx Kx
    try walk_nrm
    refine opsI_cons C rfl (by rfl) fun _ hR Kx hKx => ?_
    replace hF := at_rely hF hR
    clear hR
    go_simp
    try (unfold stored; go_simp)
    refine hKx _ _ ⟨?_, ?_⟩
    · co_quiet (T S)
    clear hKx Kx
    try walk_nrm
    refine opsI_cons C rfl (by rfl) fun _ hR Kx hKx => ?_
    replace hF := at_rely hF hR
    clear hR
    go_simp
    try (unfold stored; go_simp)
    refine hKx _ _ ⟨?_, ?_⟩
    · co_quiet (T S)
    clear hKx Kx
    try walk_nrm
    refine opsI_nil C T ?_
    show wpI _ _ _ _ _ _ _
    by_cases h224 : c = 224
    · have hb224 : (c == 224) = true := by simp [h224]
      simp only [hb224]
      refine wpI_cond C T (t := true) rfl ?_
      simp only [if_true, if_false, reduceIte, Bool.false_eq_true]
      refine wpI_seq C T ?_
      refine wpI_region C T ?_
      simp only [List.size_toArray, List.length_cons, List.length_nil, Nat.reduceAdd, Nat.zero_add, List.range, List.range.loop]
      refine opsI_cons C rfl (by rfl) fun _ hR Kx hKx => ?_
      replace hF := at_rely hF hR
      clear hR
      go_simp
      try (unfold stored; go_simp)
      refine hKx _ _ ⟨?_, ?_⟩
      · co_quiet (T S)
      clear hKx Kx
      try walk_nrm
      refine opsI_cons C rfl (by rfl) fun _ hR Kx hKx => ?_
      replace hF := at_rely hF hR
      clear hR
      go_simp
      try (unfold stored; go_simp)
      refine hKx _ _ ⟨?_, ?_⟩
      · co_quiet (T S)
      clear hKx Kx
      try walk_nrm
      refine opsI_cons C rfl (by rfl) fun _ hR Kx hKx => ?_
      replace hF := at_rely hF hR
      clear hR
      go_simp
      try (unfold stored; go_simp)
      refine hKx _ _ ⟨?_, ?_⟩
      · co_quiet (T S)
      clear hKx Kx
      try walk_nrm
      refine opsI_nil C T ?_
      show wpI _ _ _ _ _ _ _
      refine wpI_ret C T ?_
      exact ⟨.inr rfl, rfl, _, resultsC_tmp3 (by rfl) _, rfl, by simp [folS, *], hF⟩
    · have hb224 : (c == 224) = false := by simp [h224]
      simp only [hb224]
      refine wpI_cond C T (t := false) rfl ?_
      simp only [if_true, if_false, reduceIte, Bool.false_eq_true]
      refine wpI_seq C T ?_
      refine wpI_region C T ?_
      simp only [List.size_toArray, List.length_cons, List.length_nil, Nat.reduceAdd, Nat.zero_add, List.range, List.range.loop]
      refine opsI_cons C rfl (by rfl) fun _ hR Kx hKx => ?_
      replace hF := at_rely hF hR
      clear hR
      go_simp
      try (unfold stored; go_simp)
      refine hKx _ _ ⟨?_, ?_⟩
      · co_quiet (T S)
      clear hKx Kx
      try walk_nrm
      refine opsI_cons C rfl (by rfl) fun _ hR Kx hKx => ?_
      replace hF := at_rely hF hR
      clear hR
      go_simp
      try (unfold stored; go_simp)
      refine hKx _ _ ⟨?_, ?_⟩
      · co_quiet (T S)
      clear hKx Kx
      try walk_nrm
      refine opsI_cons C rfl (by rfl) fun _ hR Kx hKx => ?_
      replace hF := at_rely hF hR
      clear hR
      go_simp
      try (unfold stored; go_simp)
      refine hKx _ _ ⟨?_, ?_⟩
      · co_quiet (T S)
      clear hKx Kx
      try walk_nrm
      refine opsI_nil C T ?_
      show wpI _ _ _ _ _ _ _
      by_cases h237 : c = 237
      · have hb237 : (c == 237) = true := by simp [h237]
        simp only [hb237]
        refine wpI_cond C T (t := true) rfl ?_
        simp only [if_true, if_false, reduceIte, Bool.false_eq_true]
        refine wpI_seq C T ?_
        refine wpI_region C T ?_
        simp only [List.size_toArray, List.length_cons, List.length_nil, Nat.reduceAdd, Nat.zero_add, List.range, List.range.loop]
        refine opsI_cons C rfl (by rfl) fun _ hR Kx hKx => ?_
        replace hF := at_rely hF hR
        clear hR
        go_simp
        try (unfold stored; go_simp)
        refine hKx _ _ ⟨?_, ?_⟩
        · co_quiet (T S)
        clear hKx Kx
        try walk_nrm
        refine opsI_cons C rfl (by rfl) fun _ hR Kx hKx => ?_
        replace hF := at_rely hF hR
        clear hR
        go_simp
        try (unfold stored; go_simp)
        refine hKx _ _ ⟨?_, ?_⟩
        · co_quiet (T S)
        clear hKx Kx
        try walk_nrm
        refine opsI_cons C rfl (by rfl) fun _ hR Kx hKx => ?_
        replace hF := at_rely hF hR
        clear hR
        go_simp
        try (unfold stored; go_simp)
        refine hKx _ _ ⟨?_, ?_⟩
        · co_quiet (T S)
        clear hKx Kx
        try walk_nrm
        refine opsI_nil C T ?_
        show wpI _ _ _ _ _ _ _
        refine wpI_ret C T ?_
        exact ⟨.inr rfl, rfl, _, resultsC_tmp3 (by rfl) _, rfl, by simp [folS, *], hF⟩
      · have hb237 : (c == 237) = false := by simp [h237]
        simp only [hb237]
        refine wpI_cond C T (t := false) rfl ?_
        simp only [if_true, if_false, reduceIte, Bool.false_eq_true]
        refine wpI_seq C T ?_
        by_cases l225 : 225 ≤ c
        · have lb225 : decide (225 ≤ c) = true := decide_eq_true l225
          refine wpI_region C T ?_
          simp only [List.size_toArray, List.length_cons, List.length_nil, Nat.reduceAdd, Nat.zero_add, List.range, List.range.loop]
          refine opsI_cons C rfl (by rfl) fun _ hR Kx hKx => ?_
          replace hF := at_rely hF hR
          clear hR
          go_simp
          try (unfold stored; go_simp)
          refine hKx _ _ ⟨?_, ?_⟩
          · co_quiet (T S)
          clear hKx Kx
          try walk_nrm
          refine opsI_cons C rfl (by rfl) fun _ hR Kx hKx => ?_
          replace hF := at_rely hF hR
          clear hR
          go_simp
          try (unfold stored; go_simp)
          refine hKx _ _ ⟨?_, ?_⟩
          · co_quiet (T S)
          clear hKx Kx
          try walk_nrm
          try simp only [lb225]
          refine opsI_cons C rfl (by rfl) fun _ hR Kx hKx => ?_
          replace hF := at_rely hF hR
          clear hR
          go_simp
          try (unfold stored; go_simp)
          refine hKx _ _ ⟨?_, ?_⟩
          · co_quiet (T S)
          clear hKx Kx
          try walk_nrm
          refine opsI_cons C rfl (by rfl) fun _ hR Kx hKx => ?_
          replace hF := at_rely hF hR
          clear hR
          go_simp
          try (unfold stored; go_simp)
          refine hKx _ _ ⟨?_, ?_⟩
          · co_quiet (T S)
          clear hKx Kx
          try walk_nrm
          refine opsI_cons C rfl (by rfl) fun _ hR Kx hKx => ?_
          replace hF := at_rely hF hR
          clear hR
          go_simp
          try (unfold stored; go_simp)
          refine hKx _ _ ⟨?_, ?_⟩
          · co_quiet (T S)
          clear hKx Kx
          try walk_nrm
          refine opsI_cons C rfl (by rfl) fun _ hR Kx hKx => ?_
          replace hF := at_rely hF hR
          clear hR
          go_simp
          try (unfold stored; go_simp)
          refine hKx _ _ ⟨?_, ?_⟩
          · co_quiet (T S)
          clear hKx Kx
          try walk_nrm
          refine opsI_cons C rfl (by rfl) fun _ hR Kx hKx => ?_
          replace hF := at_rely hF hR
          clear hR
          go_simp
          try (unfold stored; go_simp)
          refine hKx _ _ ⟨?_, ?_⟩
          · co_quiet (T S)
          clear hKx Kx
          try walk_nrm
          refine opsI_nil C T ?_
          show wpI _ _ _ _ _ _ _
          by_cases u225 : c ≤ 239
          · have ub225 : decide (c ≤ 239) = true := decide_eq_true u225
            try simp only [ub225]
            refine wpI_cond C T (t := true) rfl ?_
            simp only [if_true, if_false, reduceIte, Bool.false_eq_true]
            refine wpI_seq C T ?_
            refine wpI_region C T ?_
            simp only [List.size_toArray, List.length_cons, List.length_nil, Nat.reduceAdd, Nat.zero_add, List.range, List.range.loop]
            refine opsI_cons C rfl (by rfl) fun _ hR Kx hKx => ?_
            replace hF := at_rely hF hR
            clear hR
            go_simp
            try (unfold stored; go_simp)
            refine hKx _ _ ⟨?_, ?_⟩
            · co_quiet (T S)
            clear hKx Kx
            try walk_nrm
            refine opsI_cons C rfl (by rfl) fun _ hR Kx hKx => ?_
            replace hF := at_rely hF hR
            clear hR
            go_simp
            try (unfold stored; go_simp)
            refine hKx _ _ ⟨?_, ?_⟩
            · co_quiet (T S)
            clear hKx Kx
            try walk_nrm
            refine opsI_cons C rfl (by rfl) fun _ hR Kx hKx => ?_
            replace hF := at_rely hF hR
            clear hR
            go_simp
            try (unfold stored; go_simp)
            refine hKx _ _ ⟨?_, ?_⟩
            · co_quiet (T S)
            clear hKx Kx
            try walk_nrm
            refine opsI_nil C T ?_
            show wpI _ _ _ _ _ _ _
            refine wpI_ret C T ?_
            exact ⟨.inr rfl, rfl, _, resultsC_tmp3 (by rfl) _, rfl, by simp [folS, *], hF⟩
          · have ub225 : decide (c ≤ 239) = false := decide_eq_false u225
            try simp only [ub225]
            refine wpI_cond C T (t := false) rfl ?_
            simp only [if_true, if_false, reduceIte, Bool.false_eq_true]
            refine wpI_seq C T ?_
            refine wpI_region C T ?_
            simp only [List.size_toArray, List.length_cons, List.length_nil, Nat.reduceAdd, Nat.zero_add, List.range, List.range.loop]
            refine opsI_cons C rfl (by rfl) fun _ hR Kx hKx => ?_
            replace hF := at_rely hF hR
            clear hR
            go_simp
            try (unfold stored; go_simp)
            refine hKx _ _ ⟨?_, ?_⟩
            · co_quiet (T S)
            clear hKx Kx
            try walk_nrm
            refine opsI_cons C rfl (by rfl) fun _ hR Kx hKx => ?_
            replace hF := at_rely hF hR
            clear hR
            go_simp
            try (unfold stored; go_simp)
            refine hKx _ _ ⟨?_, ?_⟩
            · co_quiet (T S)
            clear hKx Kx
            try walk_nrm
            refine opsI_cons C rfl (by rfl) fun _ hR Kx hKx => ?_
            replace hF := at_rely hF hR
            clear hR
            go_simp
            try (unfold stored; go_simp)
            refine hKx _ _ ⟨?_, ?_⟩
            · co_quiet (T S)
            clear hKx Kx
            try walk_nrm
            refine opsI_nil C T ?_
            show wpI _ _ _ _ _ _ _
            by_cases h240 : c = 240
            · have hb240 : (c == 240) = true := by simp [h240]
              simp only [hb240]
              refine wpI_cond C T (t := true) rfl ?_
              simp only [if_true, if_false, reduceIte, Bool.false_eq_true]
              refine wpI_seq C T ?_
              refine wpI_region C T ?_
              simp only [List.size_toArray, List.length_cons, List.length_nil, Nat.reduceAdd, Nat.zero_add, List.range, List.range.loop]
              refine opsI_cons C rfl (by rfl) fun _ hR Kx hKx => ?_
              replace hF := at_rely hF hR
              clear hR
              go_simp
              try (unfold stored; go_simp)
              refine hKx _ _ ⟨?_, ?_⟩
              · co_quiet (T S)
              clear hKx Kx
              try walk_nrm
              refine opsI_cons C rfl (by rfl) fun _ hR Kx hKx => ?_
              replace hF := at_rely hF hR
              clear hR
              go_simp
              try (unfold stored; go_simp)
              refine hKx _ _ ⟨?_, ?_⟩
              · co_quiet (T S)
              clear hKx Kx
              try walk_nrm
              refine opsI_cons C rfl (by rfl) fun _ hR Kx hKx => ?_
              replace hF := at_rely hF hR
              clear hR
              go_simp
              try (unfold stored; go_simp)
              refine hKx _ _ ⟨?_, ?_⟩
              · co_quiet (T S)
              clear hKx Kx
              try walk_nrm
              refine opsI_nil C T ?_
              show wpI _ _ _ _ _ _ _
              refine wpI_ret C T ?_
              exact ⟨.inr rfl, rfl, _, resultsC_tmp3 (by rfl) _, rfl, by simp [folS, *], hF⟩
            · have hb240 : (c == 240) = false := by simp [h240]
              simp only [hb240]
              refine wpI_cond C T (t := false) rfl ?_
              simp only [if_true, if_false, reduceIte, Bool.false_eq_true]
              refine wpI_seq C T ?_
              by_cases l241 : 241 ≤ c
              · have lb241 : decide (241 ≤ c) = true := decide_eq_true l241
                refine wpI_region C T ?_
                simp only [List.size_toArray, List.length_cons, List.length_nil, Nat.reduceAdd, Nat.zero_add, List.range, List.range.loop]
                refine opsI_cons C rfl (by rfl) fun _ hR Kx hKx => ?_
                replace hF := at_rely hF hR
                clear hR
                go_simp
                try (unfold stored; go_simp)
                refine hKx _ _ ⟨?_, ?_⟩
                · co_quiet (T S)
                clear hKx Kx
                try walk_nrm
                refine opsI_cons C rfl (by rfl) fun _ hR Kx hKx => ?_
                replace hF := at_rely hF hR
                clear hR
                go_simp
                try (unfold stored; go_simp)
                refine hKx _ _ ⟨?_, ?_⟩
                · co_quiet (T S)
                clear hKx Kx
                try walk_nrm
                try simp only [lb241]
                refine opsI_cons C rfl (by rfl) fun _ hR Kx hKx => ?_
                replace hF := at_rely hF hR
                clear hR
                go_simp
                try (unfold stored; go_simp)
                refine hKx _ _ ⟨?_, ?_⟩
                · co_quiet (T S)
                clear hKx Kx
                try walk_nrm
                refine opsI_cons C rfl (by rfl) fun _ hR Kx hKx => ?_
                replace hF := at_rely hF hR
                clear hR
                go_simp
                try (unfold stored; go_simp)
                refine hKx _ _ ⟨?_, ?_⟩
                · co_quiet (T S)
                clear hKx Kx
                try walk_nrm
                refine opsI_cons C rfl (by rfl) fun _ hR Kx hKx => ?_
                replace hF := at_rely hF hR
                clear hR
                go_simp
                try (unfold stored; go_simp)
                refine hKx _ _ ⟨?_, ?_⟩
                · co_quiet (T S)
                clear hKx Kx
                try walk_nrm
                refine opsI_cons C rfl (by rfl) fun _ hR Kx hKx => ?_
                replace hF := at_rely hF hR
                clear hR
                go_simp
                try (unfold stored; go_simp)
                refine hKx _ _ ⟨?_, ?_⟩
                · co_quiet (T S)
                clear hKx Kx
                try walk_nrm
                refine opsI_cons C rfl (by rfl) fun _ hR Kx hKx => ?_
                replace hF := at_rely hF hR
                clear hR
                go_simp
                try (unfold stored; go_simp)
                refine hKx _ _ ⟨?_, ?_⟩
                · co_quiet (T S)
                clear hKx Kx
                try walk_nrm
                refine opsI_nil C T ?_
                show wpI _ _ _ _ _ _ _
                by_cases u241 : c ≤ 243
                · have ub241 : decide (c ≤ 243) = true := decide_eq_true u241
                  try simp only [ub241]
                  refine wpI_cond C T (t := true) rfl ?_
                  simp only [if_true, if_false, reduceIte, Bool.false_eq_true]
                  refine wpI_seq C T ?_
                  refine wpI_region C T ?_
                  simp only [List.size_toArray, List.length_cons, List.length_nil, Nat.reduceAdd, Nat.zero_add, List.range, List.range.loop]
                  refine opsI_cons C rfl (by rfl) fun _ hR Kx hKx => ?_
                  replace hF := at_rely hF hR
                  clear hR
                  go_simp
                  try (unfold stored; go_simp)
                  refine hKx _ _ ⟨?_, ?_⟩
                  · co_quiet (T S)
                  clear hKx Kx
                  try walk_nrm
                  refine opsI_cons C rfl (by rfl) fun _ hR Kx hKx => ?_
                  replace hF := at_rely hF hR
                  clear hR
                  go_simp
                  try (unfold stored; go_simp)
                  refine hKx _ _ ⟨?_, ?_⟩
                  · co_quiet (T S)
                  clear hKx Kx
                  try walk_nrm
                  refine opsI_cons C rfl (by rfl) fun _ hR Kx hKx => ?_
                  replace hF := at_rely hF hR
                  clear hR
                  go_simp
                  try (unfold stored; go_simp)
                  refine hKx _ _ ⟨?_, ?_⟩
                  · co_quiet (T S)
                  clear hKx Kx
                  try walk_nrm
                  refine opsI_nil C T ?_
                  show wpI _ _ _ _ _ _ _
                  refine wpI_ret C T ?_
                  exact ⟨.inr rfl, rfl, _, resultsC_tmp3 (by rfl) _, rfl, by simp [folS, *], hF⟩
                · have ub241 : decide (c ≤ 243) = false := decide_eq_false u241
                  try simp only [ub241]
                  refine wpI_cond C T (t := false) rfl ?_
                  simp only [if_true, if_false, reduceIte, Bool.false_eq_true]
                  refine wpI_seq C T ?_
                  refine wpI_region C T ?_
                  simp only [List.size_toArray, List.length_cons, List.length_nil, Nat.reduceAdd, Nat.zero_add, List.range, List.range.loop]
                  refine opsI_cons C rfl (by rfl) fun _ hR Kx hKx => ?_
                  replace hF := at_rely hF hR
                  clear hR
                  go_simp
                  try (unfold stored; go_simp)
                  refine hKx _ _ ⟨?_, ?_⟩
                  · co_quiet (T S)
                  clear hKx Kx
                  try walk_nrm
                  refine opsI_cons C rfl (by rfl) fun _ hR Kx hKx => ?_
                  replace hF := at_rely hF hR
                  clear hR
                  go_simp
                  try (unfold stored; go_simp)
                  refine hKx _ _ ⟨?_, ?_⟩
                  · co_quiet (T S)
                  clear hKx Kx
                  try walk_nrm
                  refine opsI_cons C rfl (by rfl) fun _ hR Kx hKx => ?_
                  replace hF := at_rely hF hR
                  clear hR
                  go_simp
                  try (unfold stored; go_simp)
                  refine hKx _ _ ⟨?_, ?_⟩
                  · co_quiet (T S)
                  clear hKx Kx
                  try walk_nrm
                  refine opsI_nil C T ?_
                  show wpI _ _ _ _ _ _ _
                  by_cases h244 : c = 244
                  · have hb244 : (c == 244) = true := by simp [h244]
                    simp only [hb244]
                    refine wpI_cond C T (t := true) rfl ?_
                    simp only [if_true, if_false, reduceIte, Bool.false_eq_true]
                    refine wpI_seq C T ?_
                    refine wpI_region C T ?_
                    simp only [List.size_toArray, List.length_cons, List.length_nil, Nat.reduceAdd, Nat.zero_add, List.range, List.range.loop]
                    refine opsI_cons C rfl (by rfl) fun _ hR Kx hKx => ?_
                    replace hF := at_rely hF hR
                    clear hR
                    go_simp
                    try (unfold stored; go_simp)
                    refine hKx _ _ ⟨?_, ?_⟩
                    · co_quiet (T S)
                    clear hKx Kx
                    try walk_nrm
                    refine opsI_cons C rfl (by rfl) fun _ hR Kx hKx => ?_
                    replace hF := at_rely hF hR
                    clear hR
                    go_simp
                    try (unfold stored; go_simp)
                    refine hKx _ _ ⟨?_, ?_⟩
                    · co_quiet (T S)
                    clear hKx Kx
                    try walk_nrm
                    refine opsI_cons C rfl (by rfl) fun _ hR Kx hKx => ?_
                    replace hF := at_rely hF hR
                    clear hR
                    go_simp
                    try (unfold stored; go_simp)
                    refine hKx _ _ ⟨?_, ?_⟩
                    · co_quiet (T S)
                    clear hKx Kx
                    try walk_nrm
                    refine opsI_nil C T ?_
                    show wpI _ _ _ _ _ _ _
                    refine wpI_ret C T ?_
                    exact ⟨.inr rfl, rfl, _, resultsC_tmp3 (by rfl) _, rfl, by simp [folS, *], hF⟩
                  · have hb244 : (c == 244) = false := by simp [h244]
                    simp only [hb244]
                    refine wpI_cond C T (t := false) rfl ?_
                    simp only [if_true, if_false, reduceIte, Bool.false_eq_true]
                    refine wpI_skip C T ?_
                    show wpI _ _ _ _ _ _ _
                    refine wpI_seq C T ?_
                    refine wpI_region C T ?_
                    simp only [List.size_toArray, List.length_cons, List.length_nil, Nat.reduceAdd, Nat.zero_add, List.range, List.range.loop]
                    refine opsI_cons C rfl (by rfl) fun _ hR Kx hKx => ?_
                    replace hF := at_rely hF hR
                    clear hR
                    go_simp
                    try (unfold stored; go_simp)
                    refine hKx _ _ ⟨?_, ?_⟩
                    · co_quiet (T S)
                    clear hKx Kx
                    try walk_nrm
                    refine opsI_cons C rfl (by rfl) fun _ hR Kx hKx => ?_
                    replace hF := at_rely hF hR
                    clear hR
                    go_simp
                    try (unfold stored; go_simp)
                    refine hKx _ _ ⟨?_, ?_⟩
                    · co_quiet (T S)
                    clear hKx Kx
                    try walk_nrm
                    refine opsI_cons C rfl (by rfl) fun _ hR Kx hKx => ?_
                    replace hF := at_rely hF hR
                    clear hR
                    go_simp
                    try (unfold stored; go_simp)
                    refine hKx _ _ ⟨?_, ?_⟩
                    · co_quiet (T S)
                    clear hKx Kx
                    try walk_nrm
                    refine opsI_nil C T ?_
                    show wpI _ _ _ _ _ _ _
                    refine wpI_ret C T ?_
                    exact ⟨.inr rfl, rfl, _, resultsC_tmp3 (by rfl) _, rfl, by simp [folS, *], hF⟩
              · have lb241 : decide (241 ≤ c) = false := decide_eq_false l241
                refine wpI_region C T ?_
                simp only [List.size_toArray, List.length_cons, List.length_nil, Nat.reduceAdd, Nat.zero_add, List.range, List.range.loop]
                refine opsI_cons C rfl (by rfl) fun _ hR Kx hKx => ?_
                replace hF := at_rely hF hR
                clear hR
                go_simp
                try (unfold stored; go_simp)
                refine hKx _ _ ⟨?_, ?_⟩
                · co_quiet (T S)
                clear hKx Kx
                try walk_nrm
                refine opsI_cons C rfl (by rfl) fun _ hR Kx hKx => ?_
                replace hF := at_rely hF hR
                clear hR
                go_simp
                try (unfold stored; go_simp)
                refine hKx _ _ ⟨?_, ?_⟩
                · co_quiet (T S)
                clear hKx Kx
                try walk_nrm
                try simp only [lb241]
                refine opsI_cons C rfl (by rfl) fun _ hR Kx hKx => ?_
                replace hF := at_rely hF hR
                clear hR
                go_simp
                try (unfold stored; go_simp)
                refine hKx _ _ ⟨?_, ?_⟩
                · co_quiet (T S)
                clear hKx Kx
                try walk_nrm
                refine opsI_unwanted C T rfl (by rfl) ?_
                try walk_nrm
                refine opsI_unwanted C T rfl (by rfl) ?_
                try walk_nrm
                refine opsI_cons C rfl (by rfl) fun _ hR Kx hKx => ?_
                replace hF := at_rely hF hR
                clear hR
                go_simp
                try (unfold stored; go_simp)
                refine hKx _ _ ⟨?_, ?_⟩
                · co_quiet (T S)
                clear hKx Kx
                try walk_nrm
                refine opsI_cons C rfl (by rfl) fun _ hR Kx hKx => ?_
                replace hF := at_rely hF hR
                clear hR
                go_simp
                try (unfold stored; go_simp)
                refine hKx _ _ ⟨?_, ?_⟩
                · co_quiet (T S)
                clear hKx Kx
                try walk_nrm
                refine opsI_nil C T ?_
                show wpI _ _ _ _ _ _ _
                refine wpI_cond C T (t := false) rfl ?_
                simp only [if_true, if_false, reduceIte, Bool.false_eq_true]
                refine wpI_seq C T ?_
                refine wpI_region C T ?_
                simp only [List.size_toArray, List.length_cons, List.length_nil, Nat.reduceAdd, Nat.zero_add, List.range, List.range.loop]
                refine opsI_cons C rfl (by rfl) fun _ hR Kx hKx => ?_
                replace hF := at_rely hF hR
                clear hR
                go_simp
                try (unfold stored; go_simp)
                refine hKx _ _ ⟨?_, ?_⟩
                · co_quiet (T S)
                clear hKx Kx
                try walk_nrm
                refine opsI_cons C rfl (by rfl) fun _ hR Kx hKx => ?_
                replace hF := at_rely hF hR
                clear hR
                go_simp
                try (unfold stored; go_simp)
                refine hKx _ _ ⟨?_, ?_⟩
                · co_quiet (T S)
                clear hKx Kx
                try walk_nrm
                refine opsI_cons C rfl (by rfl) fun _ hR Kx hKx => ?_
                replace hF := at_rely hF hR
                clear hR
                go_simp
                try (unfold stored; go_simp)
                refine hKx _ _ ⟨?_, ?_⟩
                · co_quiet (T S)
                clear hKx Kx
                try walk_nrm
                refine opsI_nil C T ?_
                show wpI _ _ _ _ _ _ _
                by_cases h244 : c = 244
                · have hb244 : (c == 244) = true := by simp [h244]
                  simp only [hb244]
                  refine wpI_cond C T (t := true) rfl ?_
                  simp only [if_true, if_false, reduceIte, Bool.false_eq_true]
                  refine wpI_seq C T ?_
                  refine wpI_region C T ?_
                  simp only [List.size_toArray, List.length_cons, List.length_nil, Nat.reduceAdd, Nat.zero_add, List.range, List.range.loop]
                  refine opsI_cons C rfl (by rfl) fun _ hR Kx hKx => ?_
                  replace hF := at_rely hF hR
                  clear hR
                  go_simp
                  try (unfold stored; go_simp)
                  refine hKx _ _ ⟨?_, ?_⟩
                  · co_quiet (T S)
                  clear hKx Kx
                  try walk_nrm
                  refine opsI_cons C rfl (by rfl) fun _ hR Kx hKx => ?_
                  replace hF := at_rely hF hR
                  clear hR
                  go_simp
                  try (unfold stored; go_simp)
                  refine hKx _ _ ⟨?_, ?_⟩
                  · co_quiet (T S)
                  clear hKx Kx
                  try walk_nrm
                  refine opsI_cons C rfl (by rfl) fun _ hR Kx hKx => ?_
                  replace hF := at_rely hF hR
                  clear hR
                  go_simp
                  try (unfold stored; go_simp)
                  refine hKx _ _ ⟨?_, ?_⟩
                  · co_quiet (T S)
                  clear hKx Kx
                  try walk_nrm
                  refine opsI_nil C T ?_
                  show wpI _ _ _ _ _ _ _
                  refine wpI_ret C T ?_
                  exact ⟨.inr rfl, rfl, _, resultsC_tmp3 (by rfl) _, rfl, by simp [folS, *], hF⟩
                · have hb244 : (c == 244) = false := by simp [h244]
                  simp only [hb244]
                  refine wpI_cond C T (t := false) rfl ?_
                  simp only [if_true, if_false, reduceIte, Bool.false_eq_true]
                  refine wpI_skip C T ?_
                  show wpI _ _ _ _ _ _ _
                  refine wpI_seq C T ?_
                  refine wpI_region C T ?_
                  simp only [List.size_toArray, List.length_cons, List.length_nil, Nat.reduceAdd, Nat.zero_add, List.range, List.range.loop]
                  refine opsI_cons C rfl (by rfl) fun _ hR Kx hKx => ?_
                  replace hF := at_rely hF hR
                  clear hR
                  go_simp
                  try (unfold stored; go_simp)
                  refine hKx _ _ ⟨?_, ?_⟩
                  · co_quiet (T S)
                  clear hKx Kx
                  try walk_nrm
                  refine opsI_cons C rfl (by rfl) fun _ hR Kx hKx => ?_
                  replace hF := at_rely hF hR
                  clear hR
                  go_simp
                  try (unfold stored; go_simp)
                  refine hKx _ _ ⟨?_, ?_⟩
                  · co_quiet (T S)
                  clear hKx Kx
                  try walk_nrm
                  refine opsI_cons C rfl (by rfl) fun _ hR Kx hKx => ?_
                  replace hF := at_rely hF hR
                  clear hR
                  go_simp
                  try (unfold stored; go_simp)
                  refine hKx _ _ ⟨?_, ?_⟩
                  · co_quiet (T S)
                  clear hKx Kx
                  try walk_nrm
                  refine opsI_nil C T ?_
                  show wpI _ _ _ _ _ _ _
                  refine wpI_ret C T ?_
                  exact ⟨.inr rfl, rfl, _, resultsC_tmp3 (by rfl) _, rfl, by simp [folS, *], hF⟩
        · have lb225 : decide (225 ≤ c) = false := decide_eq_false l225
          refine wpI_region C T ?_
          simp only [List.size_toArray, List.length_cons, List.length_nil, Nat.reduceAdd, Nat.zero_add, List.range, List.range.loop]
          refine opsI_cons C rfl (by rfl) fun _ hR Kx hKx => ?_
          replace hF := at_rely hF hR
          clear hR
          go_simp
          try (unfold stored; go_simp)
          refine hKx _ _ ⟨?_, ?_⟩
          · co_quiet (T S)
          clear hKx Kx
          try walk_nrm
          refine opsI_cons C rfl (by rfl) fun _ hR Kx hKx => ?_
          replace hF := at_rely hF hR
          clear hR
          go_simp
          try (unfold stored; go_simp)
          refine hKx _ _ ⟨?_, ?_⟩
          · co_quiet (T S)
          clear hKx Kx
          try walk_nrm
          try simp only [lb225]
          refine opsI_cons C rfl (by rfl) fun _ hR Kx hKx => ?_
          replace hF := at_rely hF hR
          clear hR
          go_simp
          try (unfold stored; go_simp)
          refine hKx _ _ ⟨?_, ?_⟩
          · co_quiet (T S)
          clear hKx Kx
          try walk_nrm
          refine opsI_unwanted C T rfl (by rfl) ?_
          try walk_nrm
          refine opsI_unwanted C T rfl (by rfl) ?_
          try walk_nrm
          refine opsI_cons C rfl (by rfl) fun _ hR Kx hKx => ?_
          replace hF := at_rely hF hR
          clear hR
          go_simp
          try (unfold stored; go_simp)
          refine hKx _ _ ⟨?_, ?_⟩
          · co_quiet (T S)
          clear hKx Kx
          try walk_nrm
          refine opsI_cons C rfl (by rfl) fun _ hR Kx hKx => ?_
          replace hF := at_rely hF hR
          clear hR
          go_simp
          try (unfold stored; go_simp)
          refine hKx _ _ ⟨?_, ?_⟩
          · co_quiet (T S)
          clear hKx Kx
          try walk_nrm
          refine opsI_nil C T ?_
          show wpI _ _ _ _ _ _ _
          refine wpI_cond C T (t := false) rfl ?_
          simp only [if_true, if_false, reduceIte, Bool.false_eq_true]
          refine wpI_seq C T ?_
          refine wpI_region C T ?_
          simp only [List.size_toArray, List.length_cons, List.length_nil, Nat.reduceAdd, Nat.zero_add, List.range, List.range.loop]
          refine opsI_cons C rfl (by rfl) fun _ hR Kx hKx => ?_
          replace hF := at_rely hF hR
          clear hR
          go_simp
          try (unfold stored; go_simp)
          refine hKx _ _ ⟨?_, ?_⟩
          · co_quiet (T S)
          clear hKx Kx
          try walk_nrm
          refine opsI_cons C rfl (by rfl) fun _ hR Kx hKx => ?_
          replace hF := at_rely hF hR
          clear hR
          go_simp
          try (unfold stored; go_simp)
          refine hKx _ _ ⟨?_, ?_⟩
          · co_quiet (T S)
          clear hKx Kx
          try walk_nrm
          refine opsI_cons C rfl (by rfl) fun _ hR Kx hKx => ?_
          replace hF := at_rely hF hR
          clear hR
          go_simp
          try (unfold stored; go_simp)
          refine hKx _ _ ⟨?_, ?_⟩
          · co_quiet (T S)
          clear hKx Kx
          try walk_nrm
          refine opsI_nil C T ?_
          show wpI _ _ _ _ _ _ _
          by_cases h240 : c = 240
          · have hb240 : (c == 240) = true := by simp [h240]
            simp only [hb240]
            refine wpI_cond C T (t := true) rfl ?_
            simp only [if_true, if_false, reduceIte, Bool.false_eq_true]
            refine wpI_seq C T ?_
            refine wpI_region C T ?_
            simp only [List.size_toArray, List.length_cons, List.length_nil, Nat.reduceAdd, Nat.zero_add, List.range, List.range.loop]
            refine opsI_cons C rfl (by rfl) fun _ hR Kx hKx => ?_
            replace hF := at_rely hF hR
            clear hR
            go_simp
            try (unfold stored; go_simp)
            refine hKx _ _ ⟨?_, ?_⟩
            · co_quiet (T S)
            clear hKx Kx
            try walk_nrm
            refine opsI_cons C rfl (by rfl) fun _ hR Kx hKx => ?_
            replace hF := at_rely hF hR
            clear hR
            go_simp
            try (unfold stored; go_simp)
            refine hKx _ _ ⟨?_, ?_⟩
            · co_quiet (T S)
            clear hKx Kx
            try walk_nrm
            refine opsI_cons C rfl (by rfl) fun _ hR Kx hKx => ?_
            replace hF := at_rely hF hR
            clear hR
            go_simp
            try (unfold stored; go_simp)
            refine hKx _ _ ⟨?_, ?_⟩
            · co_quiet (T S)
            clear hKx Kx
            try walk_nrm
            refine opsI_nil C T ?_
            show wpI _ _ _ _ _ _ _
            refine wpI_ret C T ?_
            exact ⟨.inr rfl, rfl, _, resultsC_tmp3 (by rfl) _, rfl, by simp [folS, *], hF⟩
          · have hb240 : (c == 240) = false := by simp [h240]
            simp only [hb240]
            refine wpI_cond C T (t := false) rfl ?_
            simp only [if_true, if_false, reduceIte, Bool.false_eq_true]
            refine wpI_seq C T ?_
            by_cases l241 : 241 ≤ c
            · have lb241 : decide (241 ≤ c) = true := decide_eq_true l241
              refine wpI_region C T ?_
              simp only [List.size_toArray, List.length_cons, List.length_nil, Nat.reduceAdd, Nat.zero_add, List.range, List.range.loop]
              refine opsI_cons C rfl (by rfl) fun _ hR Kx hKx => ?_
              replace hF := at_rely hF hR
              clear hR
              go_simp
              try (unfold stored; go_simp)
              refine hKx _ _ ⟨?_, ?_⟩
              · co_quiet (T S)
              clear hKx Kx
              try walk_nrm
              refine opsI_cons C rfl (by rfl) fun _ hR Kx hKx => ?_
              replace hF := at_rely hF hR
              clear hR
              go_simp
              try (unfold stored; go_simp)
              refine hKx _ _ ⟨?_, ?_⟩
              · co_quiet (T S)
              clear hKx Kx
              try walk_nrm
              try simp only [lb241]
              refine opsI_cons C rfl (by rfl) fun _ hR Kx hKx => ?_
              replace hF := at_rely hF hR
              clear hR
              go_simp
              try (unfold stored; go_simp)
              refine hKx _ _ ⟨?_, ?_⟩
              · co_quiet (T S)
              clear hKx Kx
              try walk_nrm
              refine opsI_cons C rfl (by rfl) fun _ hR Kx hKx => ?_
              replace hF := at_rely hF hR
              clear hR
              go_simp
              try (unfold stored; go_simp)
              refine hKx _ _ ⟨?_, ?_⟩
              · co_quiet (T S)
              clear hKx Kx
              try walk_nrm
              refine opsI_cons C rfl (by rfl) fun _ hR Kx hKx => ?_
              replace hF := at_rely hF hR
              clear hR
              go_simp
              try (unfold stored; go_simp)
              refine hKx _ _ ⟨?_, ?_⟩
              · co_quiet (T S)
              clear hKx Kx
              try walk_nrm
              refine opsI_cons C rfl (by rfl) fun _ hR Kx hKx => ?_
              replace hF := at_rely hF hR
              clear hR
              go_simp
              try (unfold stored; go_simp)
              refine hKx _ _ ⟨?_, ?_⟩
              · co_quiet (T S)
              clear hKx Kx
              try walk_nrm
              refine opsI_cons C rfl (by rfl) fun _ hR Kx hKx => ?_
              replace hF := at_rely hF hR
              clear hR
              go_simp
              try (unfold stored; go_simp)
              refine hKx _ _ ⟨?_, ?_⟩
              · co_quiet (T S)
              clear hKx Kx
              try walk_nrm
              refine opsI_nil C T ?_
              show wpI _ _ _ _ _ _ _
              by_cases u241 : c ≤ 243
              · have ub241 : decide (c ≤ 243) = true := decide_eq_true u241
                try simp only [ub241]
                refine wpI_cond C T (t := true) rfl ?_
                simp only [if_true, if_false, reduceIte, Bool.false_eq_true]
                refine wpI_seq C T ?_
                refine wpI_region C T ?_
                simp only [List.size_toArray, List.length_cons, List.length_nil, Nat.reduceAdd, Nat.zero_add, List.range, List.range.loop]
                refine opsI_cons C rfl (by rfl) fun _ hR Kx hKx => ?_
                replace hF := at_rely hF hR
                clear hR
                go_simp
                try (unfold stored; go_simp)
                refine hKx _ _ ⟨?_, ?_⟩
                · co_quiet (T S)
                clear hKx Kx
                try walk_nrm
                refine opsI_cons C rfl (by rfl) fun _ hR Kx hKx => ?_
                replace hF := at_rely hF hR
                clear hR
                go_simp
                try (unfold stored; go_simp)
                refine hKx _ _ ⟨?_, ?_⟩
                · co_quiet (T S)
                clear hKx Kx
                try walk_nrm
                refine opsI_cons C rfl (by rfl) fun _ hR Kx hKx => ?_
                replace hF := at_rely hF hR
                clear hR
                go_simp
                try (unfold stored; go_simp)
                refine hKx _ _ ⟨?_, ?_⟩
                · co_quiet (T S)
                clear hKx Kx
                try walk_nrm
                refine opsI_nil C T ?_
                show wpI _ _ _ _ _ _ _
                refine wpI_ret C T ?_
                exact ⟨.inr rfl, rfl, _, resultsC_tmp3 (by rfl) _, rfl, by simp [folS, *], hF⟩
              · have ub241 : decide (c ≤ 243) = false := decide_eq_false u241
                try simp only [ub241]
                refine wpI_cond C T (t := false) rfl ?_
                simp only [if_true, if_false, reduceIte, Bool.false_eq_true]
                refine wpI_seq C T ?_
                refine wpI_region C T ?_
                simp only [List.size_toArray, List.length_cons, List.length_nil, Nat.reduceAdd, Nat.zero_add, List.range, List.range.loop]
                refine opsI_cons C rfl (by rfl) fun _ hR Kx hKx => ?_
                replace hF := at_rely hF hR
                clear hR
                go_simp
                try (unfold stored; go_simp)
                refine hKx _ _ ⟨?_, ?_⟩
                · co_quiet (T S)
                clear hKx Kx
                try walk_nrm
                refine opsI_cons C rfl (by rfl) fun _ hR Kx hKx => ?_
                replace hF := at_rely hF hR
                clear hR
                go_simp
                try (unfold stored; go_simp)
                refine hKx _ _ ⟨?_, ?_⟩
                · co_quiet (T S)
                clear hKx Kx
                try walk_nrm
                refine opsI_cons C rfl (by rfl) fun _ hR Kx hKx => ?_
                replace hF := at_rely hF hR
                clear hR
                go_simp
                try (unfold stored; go_simp)
                refine hKx _ _ ⟨?_, ?_⟩
                · co_quiet (T S)
                clear hKx Kx
                try walk_nrm
                refine opsI_nil C T ?_
                show wpI _ _ _ _ _ _ _
                by_cases h244 : c = 244
                · have hb244 : (c == 244) = true := by simp [h244]
                  simp only [hb244]
                  refine wpI_cond C T (t := true) rfl ?_
                  simp only [if_true, if_false, reduceIte, Bool.false_eq_true]
                  refine wpI_seq C T ?_
                  refine wpI_region C T ?_
                  simp only [List.size_toArray, List.length_cons, List.length_nil, Nat.reduceAdd, Nat.zero_add, List.range, List.range.loop]
                  refine opsI_cons C rfl (by rfl) fun _ hR Kx hKx => ?_
                  replace hF := at_rely hF hR
                  clear hR
                  go_simp
                  try (unfold stored; go_simp)
                  refine hKx _ _ ⟨?_, ?_⟩
                  · co_quiet (T S)
                  clear hKx Kx
                  try walk_nrm
                  refine opsI_cons C rfl (by rfl) fun _ hR Kx hKx => ?_
                  replace hF := at_rely hF hR
                  clear hR
                  go_simp
                  try (unfold stored; go_simp)
                  refine hKx _ _ ⟨?_, ?_⟩
                  · co_quiet (T S)
                  clear hKx Kx
                  try walk_nrm
                  refine opsI_cons C rfl (by rfl) fun _ hR Kx hKx => ?_
                  replace hF := at_rely hF hR
                  clear hR
                  go_simp
                  try (unfold stored; go_simp)
                  refine hKx _ _ ⟨?_, ?_⟩
                  · co_quiet (T S)
                  clear hKx Kx
                  try walk_nrm
                  refine opsI_nil C T ?_
                  show wpI _ _ _ _ _ _ _
                  refine wpI_ret C T ?_
                  exact ⟨.inr rfl, rfl, _, resultsC_tmp3 (by rfl) _, rfl, by simp [folS, *], hF⟩
                · have hb244 : (c == 244) = false := by simp [h244]
                  simp only [hb244]
                  refine wpI_cond C T (t := false) rfl ?_
                  simp only [if_true, if_false, reduceIte, Bool.false_eq_true]
                  refine wpI_skip C T ?_
                  show wpI _ _ _ _ _ _ _
                  refine wpI_seq C T ?_
                  refine wpI_region C T ?_
                  simp only [List.size_toArray, List.length_cons, List.length_nil, Nat.reduceAdd, Nat.zero_add, List.range, List.range.loop]
                  refine opsI_cons C rfl (by rfl) fun _ hR Kx hKx => ?_
                  replace hF := at_rely hF hR
                  clear hR
                  go_simp
                  try (unfold stored; go_simp)
                  refine hKx _ _ ⟨?_, ?_⟩
                  · co_quiet (T S)
                  clear hKx Kx
                  try walk_nrm
                  refine opsI_cons C rfl (by rfl) fun _ hR Kx hKx => ?_
                  replace hF := at_rely hF hR
                  clear hR
                  go_simp
                  try (unfold stored; go_simp)
                  refine hKx _ _ ⟨?_, ?_⟩
                  · co_quiet (T S)
                  clear hKx Kx
                  try walk_nrm
                  refine opsI_cons C rfl (by rfl) fun _ hR Kx hKx => ?_
                  replace hF := at_rely hF hR
                  clear hR
                  go_simp
                  try (unfold stored; go_simp)
                  refine hKx _ _ ⟨?_, ?_⟩
                  · co_quiet (T S)
                  clear hKx Kx
                  try walk_nrm
                  refine opsI_nil C T ?_
                  show wpI _ _ _ _ _ _ _
                  refine wpI_ret C T ?_
                  exact ⟨.inr rfl, rfl, _, resultsC_tmp3 (by rfl) _, rfl, by simp [folS, *], hF⟩
            · have lb241 : decide (241 ≤ c) = false := decide_eq_false l241
              refine wpI_region C T ?_
              simp only [List.size_toArray, List.length_cons, List.length_nil, Nat.reduceAdd, Nat.zero_add, List.range, List.range.loop]
              refine opsI_cons C rfl (by rfl) fun _ hR Kx hKx => ?_
              replace hF := at_rely hF hR
              clear hR
              go_simp
              try (unfold stored; go_simp)
              refine hKx _ _ ⟨?_, ?_⟩
              · co_quiet (T S)
              clear hKx Kx
              try walk_nrm
              refine opsI_cons C rfl (by rfl) fun _ hR Kx hKx => ?_
              replace hF := at_rely hF hR
              clear hR
              go_simp
              try (unfold stored; go_simp)
              refine hKx _ _ ⟨?_, ?_⟩
              · co_quiet (T S)
              clear hKx Kx
              try walk_nrm
              try simp only [lb241]
              refine opsI_cons C rfl (by rfl) fun _ hR Kx hKx => ?_
              replace hF := at_rely hF hR
              clear hR
              go_simp
              try (unfold stored; go_simp)
              refine hKx _ _ ⟨?_, ?_⟩
              · co_quiet (T S)
              clear hKx Kx
              try walk_nrm
              refine opsI_unwanted C T rfl (by rfl) ?_
              try walk_nrm
              refine opsI_unwanted C T rfl (by rfl) ?_
              try walk_nrm
              refine opsI_cons C rfl (by rfl) fun _ hR Kx hKx => ?_
              replace hF := at_rely hF hR
              clear hR
              go_simp
              try (unfold stored; go_simp)
              refine hKx _ _ ⟨?_, ?_⟩
              · co_quiet (T S)
              clear hKx Kx
              try walk_nrm
              refine opsI_cons C rfl (by rfl) fun _ hR Kx hKx => ?_
              replace hF := at_rely hF hR
              clear hR
              go_simp
              try (unfold stored; go_simp)
              refine hKx _ _ ⟨?_, ?_⟩
              · co_quiet (T S)
              clear hKx Kx
              try walk_nrm
              refine opsI_nil C T ?_
              show wpI _ _ _ _ _ _ _
              refine wpI_cond C T (t := false) rfl ?_
              simp only [if_true, if_false, reduceIte, Bool.false_eq_true]
              refine wpI_seq C T ?_
              refine wpI_region C T ?_
              simp only [List.size_toArray, List.length_cons, List.length_nil, Nat.reduceAdd, Nat.zero_add, List.range, List.range.loop]
              refine opsI_cons C rfl (by rfl) fun _ hR Kx hKx => ?_
              replace hF := at_rely hF hR
              clear hR
              go_simp
              try (unfold stored; go_simp)
              refine hKx _ _ ⟨?_, ?_⟩
              · co_quiet (T S)
              clear hKx Kx
              try walk_nrm
              refine opsI_cons C rfl (by rfl) fun _ hR Kx hKx => ?_
              replace hF := at_rely hF hR
              clear hR
              go_simp
              try (unfold stored; go_simp)
              refine hKx _ _ ⟨?_, ?_⟩
              · co_quiet (T S)
              clear hKx Kx
              try walk_nrm
              refine opsI_cons C rfl (by rfl) fun _ hR Kx hKx => ?_
              replace hF := at_rely hF hR
              clear hR
              go_simp
              try (unfold stored; go_simp)
              refine hKx _ _ ⟨?_, ?_⟩
              · co_quiet (T S)
              clear hKx Kx
              try walk_nrm
              refine opsI_nil C T ?_
              show wpI _ _ _ _ _ _ _
              by_cases h244 : c = 244
              · have hb244 : (c == 244) = true := by simp [h244]
                simp only [hb244]
                refine wpI_cond C T (t := true) rfl ?_
                simp only [if_true, if_false, reduceIte, Bool.false_eq_true]
                refine wpI_seq C T ?_
                refine wpI_region C T ?_
                simp only [List.size_toArray, List.length_cons, List.length_nil, Nat.reduceAdd, Nat.zero_add, List.range, List.range.loop]
                refine opsI_cons C rfl (by rfl) fun _ hR Kx hKx => ?_
                replace hF := at_rely hF hR
                clear hR
                go_simp
                try (unfold stored; go_simp)
                refine hKx _ _ ⟨?_, ?_⟩
                · co_quiet (T S)
                clear hKx Kx
                try walk_nrm
                refine opsI_cons C rfl (by rfl) fun _ hR Kx hKx => ?_
                replace hF := at_rely hF hR
                clear hR
                go_simp
                try (unfold stored; go_simp)
                refine hKx _ _ ⟨?_, ?_⟩
                · co_quiet (T S)
                clear hKx Kx
                try walk_nrm
                refine opsI_cons C rfl (by rfl) fun _ hR Kx hKx => ?_
                replace hF := at_rely hF hR
                clear hR
                go_simp
                try (unfold stored; go_simp)
                refine hKx _ _ ⟨?_, ?_⟩
                · co_quiet (T S)
                clear hKx Kx
                try walk_nrm
                refine opsI_nil C T ?_
                show wpI _ _ _ _ _ _ _
                refine wpI_ret C T ?_
                exact ⟨.inr rfl, rfl, _, resultsC_tmp3 (by rfl) _, rfl, by simp [folS, *], hF⟩
              · have hb244 : (c == 244) = false := by simp [h244]
                simp only [hb244]
                refine wpI_cond C T (t := false) rfl ?_
                simp only [if_true, if_false, reduceIte, Bool.false_eq_true]
                refine wpI_skip C T ?_
                show wpI _ _ _ _ _ _ _
                refine wpI_seq C T ?_
                refine wpI_region C T ?_
                simp only [List.size_toArray, List.length_cons, List.length_nil, Nat.reduceAdd, Nat.zero_add, List.range, List.range.loop]
                refine opsI_cons C rfl (by rfl) fun _ hR Kx hKx => ?_
                replace hF := at_rely hF hR
                clear hR
                go_simp
                try (unfold stored; go_simp)
                refine hKx _ _ ⟨?_, ?_⟩
                · co_quiet (T S)
                clear hKx Kx
                try walk_nrm
                refine opsI_cons C rfl (by rfl) fun _ hR Kx hKx => ?_
                replace hF := at_rely hF hR
                clear hR
                go_simp
                try (unfold stored; go_simp)
                refine hKx _ _ ⟨?_, ?_⟩
                · co_quiet (T S)
                clear hKx Kx
                try walk_nrm
                refine opsI_cons C rfl (by rfl) fun _ hR Kx hKx => ?_
                replace hF := at_rely hF hR
                clear hR
                go_simp
                try (unfold stored; go_simp)
                refine hKx _ _ ⟨?_, ?_⟩
                · co_quiet (T S)
                clear hKx Kx
                try walk_nrm
                refine opsI_nil C T ?_
                show wpI _ _ _ _ _ _ _
                refine wpI_ret C T ?_
                exact ⟨.inr rfl, rfl, _, resultsC_tmp3 (by rfl) _, rfl, by simp [folS, *], hF⟩
end
end Go.Proofs.YtgcaionclkbehaaGreatDoor
