/-
  The letters that the program sends, as bytes, are the document's answer.
-/
import Derived.Test.YtgcaionclkbehaaGreatDoorLet
set_option linter.all false
set_option linter.unusedSectionVars false
set_option linter.unusedSimpArgs false
namespace Go.Proofs.YtgcaionclkbehaaGreatDoor

/-- The letters that the decoder hands on, from a state. -/
def rawS (d : DS) : List Int → List Int
  | [] => (endS d).2
  | b :: l => (takeS d b).2 ++ rawS (takeS d b).1 l
theorem from_raw (l : List Int) : ∀ (c : CS) (d : DS), lettersFrom c d l = (cleanAll c (rawS d l)).2 := by
  induction l with
  | nil => intro c d; rw [lettersFrom_nil]; rfl
  | cons b l ih => intro c d; rw [lettersFrom_cons, ih, rawS, cleanAll_append]
def toZ (l : List UInt8) : List Int := l.map fun b => (b.toNat : Int)
theorem toZ_range {l : List UInt8} {b : Int} (h : b ∈ toZ l) : 0 ≤ b ∧ b < 256 := by
  simp only [toZ, List.mem_map] at h
  obtain ⟨x, _, rfl⟩ := h
  have := x.toNat_lt
  omega
theorem raw_zero (d d' : DS) (h : d.missing = 0) (h' : d'.missing = 0) (b : Int) : (takeS d b).2 = (takeS d' b).2 ∧ ((takeS d b).1 = (takeS d' b).1 ∨ (takeS d b).1.missing = 0 ∧ (takeS d' b).1.missing = 0) := by
  have e : takeS d b = beginS d b := by unfold takeS; rw [if_neg (by omega)]
  have e' : takeS d' b = beginS d' b := by unfold takeS; rw [if_neg (by omega)]
  rw [e, e']
  unfold beginS
  by_cases c1 : b < 128
  · simp only [if_pos c1]; exact ⟨trivial, .inr ⟨h, h'⟩⟩
  by_cases c2 : b < 194
  · simp only [if_neg c1, if_pos c2]; exact ⟨trivial, .inr ⟨h, h'⟩⟩
  by_cases c3 : b > 244
  · simp only [if_neg c1, if_neg c2, if_pos c3]; exact ⟨trivial, .inr ⟨h, h'⟩⟩
  by_cases c4 : b < 224
  · simp only [if_neg c1, if_neg c2, if_neg c3, if_pos c4]; exact ⟨trivial, .inl trivial⟩
  by_cases c5 : b < 240
  · simp only [if_neg c1, if_neg c2, if_neg c3, if_neg c4, if_pos c5]; exact ⟨trivial, .inl trivial⟩
  · simp only [if_neg c1, if_neg c2, if_neg c3, if_neg c4, if_neg c5]; exact ⟨trivial, .inl trivial⟩
/-- With nothing pending the rest of the state is of no account. -/
theorem raw_free (l : List Int) : ∀ (d d' : DS), d.missing = 0 → d'.missing = 0 → rawS d l = rawS d' l := by
  induction l with
  | nil => intro d d' h h'; simp [rawS, endS, h, h']
  | cons b l ih =>
    intro d d' h h'
    obtain ⟨h1, h2⟩ := raw_zero d d' h h' b
    rw [rawS, rawS, h1]
    rcases h2 with h2 | ⟨h2, h3⟩
    · rw [h2]
    · rw [ih _ _ h2 h3]
def d0 : DS := ⟨0, 0, 0, 0⟩
/-- The letter of a lead's rest, once all that it needs is there. -/
def valS : Nat → Int → List Int → Int
  | 0, L, _ => L
  | _ + 1, L, [] => L
  | n + 1, L, b :: l => valS n (followL L b) l
theorem pend (n : Nat) (hn : n ≤ 2) : ∀ (L lo hi : Int) (l : List Int), (haveS (n + 1) lo hi l = n + 1 → rawS ⟨L, ((n + 1 : Nat) : Int), lo, hi⟩ l = valS (n + 1) L l :: rawS d0 (l.drop (n + 1))) ∧ (haveS (n + 1) lo hi l ≠ n + 1 → rawS ⟨L, ((n + 1 : Nat) : Int), lo, hi⟩ l = 65533 :: rawS d0 (l.drop (haveS (n + 1) lo hi l))) := by
  induction n with
  | zero =>
    intro L lo hi l
    cases l with
    | nil => simp [haveS, rawS, endS, d0]
    | cons b l =>
      by_cases hb : lo ≤ b ∧ b ≤ hi
      · refine ⟨fun _ => ?_, fun h => absurd (by simp [haveS, hb]) h⟩
        have e : takeS ⟨L, ((0 + 1 : Nat) : Int), lo, hi⟩ b = (⟨followL L b, 0, 128, 191⟩, [followL L b]) := by
          unfold takeS
          rw [if_pos (by show (0 : Int) < ((0 + 1 : Nat) : Int); omega), if_pos hb]
          unfold followS
          rfl
        rw [rawS, e]
        simp only [List.cons_append, List.nil_append, valS, List.drop_succ_cons, List.drop_zero]
        rw [raw_free l ⟨followL L b, 0, 128, 191⟩ d0 rfl rfl]
      · refine ⟨fun h => absurd h (by simp [haveS, hb]), fun _ => ?_⟩
        have e : takeS ⟨L, ((0 + 1 : Nat) : Int), lo, hi⟩ b = ((beginS ⟨L, 0, lo, hi⟩ b).1, 65533 :: (beginS ⟨L, 0, lo, hi⟩ b).2) := by
          unfold takeS
          rw [if_pos (by show (0 : Int) < ((0 + 1 : Nat) : Int); omega), if_neg hb]
          rfl
        have e2 : rawS ⟨L, 0, lo, hi⟩ (b :: l) = (beginS ⟨L, 0, lo, hi⟩ b).2 ++ rawS (beginS ⟨L, 0, lo, hi⟩ b).1 l := by rw [rawS]; rfl
        rw [rawS, e]
        simp only [haveS, if_neg hb, List.drop_zero, List.cons_append]
        rw [← e2, raw_free (b :: l) ⟨L, 0, lo, hi⟩ d0 rfl rfl]
  | succ n ih =>
    intro L lo hi l
    cases l with
    | nil =>
      have h0 : (0 : Int) < ((n + 1 + 1 : Nat) : Int) := by omega
      refine ⟨fun h => by simp [haveS] at h, fun _ => ?_⟩
      have e : endS ⟨L, ((n + 1 + 1 : Nat) : Int), lo, hi⟩ = (⟨L, 0, lo, hi⟩, [65533]) := by unfold endS; rw [if_pos h0]
      rw [rawS, e]
      rfl
    | cons b l =>
      by_cases hb : lo ≤ b ∧ b ≤ hi
      · obtain ⟨i1, i2⟩ := ih (by omega) (followL L b) 128 191 l
        have hw : IntKind.i64.wrap (((n + 1 + 1 : Nat) : Int) - 1) = ((n + 1 : Nat) : Int) := by rw [IntKind.wrap_i64]; omega
        have e : takeS ⟨L, ((n + 1 + 1 : Nat) : Int), lo, hi⟩ b = (⟨followL L b, ((n + 1 : Nat) : Int), 128, 191⟩, []) := by
          unfold takeS
          rw [if_pos (by show (0 : Int) < ((n + 1 + 1 : Nat) : Int); omega), if_pos hb]
          unfold followS
          simp only [hw]
          rw [if_neg (by omega)]
        have eh : haveS (n + 1 + 1) lo hi (b :: l) = haveS (n + 1) 128 191 l + 1 := by rw [haveS, if_pos hb]
        rw [rawS, e, eh]
        simp only [List.nil_append, List.drop_succ_cons]
        refine ⟨fun h => ?_, fun h => ?_⟩
        · rw [i1 (by omega), valS]
        · rw [i2 (by omega)]
      · refine ⟨fun h => absurd h (by simp [haveS, hb]), fun _ => ?_⟩
        have e : takeS ⟨L, ((n + 1 + 1 : Nat) : Int), lo, hi⟩ b = ((beginS ⟨L, 0, lo, hi⟩ b).1, 65533 :: (beginS ⟨L, 0, lo, hi⟩ b).2) := by
          unfold takeS
          rw [if_pos (by show (0 : Int) < ((n + 1 + 1 : Nat) : Int); omega), if_neg hb]
          unfold endS
          rw [if_pos (by show (0 : Int) < ((n + 1 + 1 : Nat) : Int); omega)]
          rfl
        have e2 : rawS ⟨L, 0, lo, hi⟩ (b :: l) = (beginS ⟨L, 0, lo, hi⟩ b).2 ++ rawS (beginS ⟨L, 0, lo, hi⟩ b).1 l := by rw [rawS]; rfl
        rw [rawS, e]
        simp only [haveS, if_neg hb, List.drop_zero, List.cons_append]
        rw [← e2, raw_free (b :: l) ⟨L, 0, lo, hi⟩ d0 rfl rfl]
theorem have_cons {n : Nat} {lo hi : Int} {t : List UInt8} (h : haveS (n + 1) lo hi (toZ t) = n + 1) : ∃ b t', t = b :: t' ∧ lo ≤ (b.toNat : Int) ∧ (b.toNat : Int) ≤ hi ∧ haveS n 128 191 (toZ t') = n := by
  cases t with
  | nil => simp [toZ, haveS] at h
  | cons b t' =>
    by_cases hb : lo ≤ (b.toNat : Int) ∧ (b.toNat : Int) ≤ hi
    · have e : haveS (n + 1) lo hi (toZ (b :: t')) = haveS n 128 191 (toZ t') + 1 := by
        show haveS (n + 1) lo hi ((b.toNat : Int) :: toZ t') = _
        rw [haveS, if_pos hb]
      exact ⟨b, t', rfl, hb.1, hb.2, by omega⟩
    · have e : haveS (n + 1) lo hi (toZ (b :: t')) = 0 := by
        show haveS (n + 1) lo hi ((b.toNat : Int) :: toZ t') = _
        rw [haveS, if_neg hb]
      omega
theorem have_le (n : Nat) : ∀ (lo hi : Int) (l : List Int), haveS n lo hi l ≤ n ∧ haveS n lo hi l ≤ l.length := by
  induction n with
  | zero => intro lo hi l; simp [haveS]
  | succ n ih =>
    intro lo hi l
    cases l with
    | nil => simp [haveS]
    | cons b l =>
      rw [haveS]
      split
      · have := ih 128 191 l
        simp only [List.length_cons]
        omega
      · simp
theorem fb_range (c : Int) : 128 ≤ (fbS c).1 ∧ (fbS c).2 ≤ 191 ∧ (c = 224 → (fbS c).1 = 160) ∧ (c = 237 → (fbS c).2 = 159) ∧ (c = 240 → (fbS c).1 = 144) ∧ (c = 244 → (fbS c).2 = 143) := by
  unfold fbS
  (repeat' split) <;> simp <;> omega
theorem fol_lead (c : Int) (h : 194 ≤ c) (h' : c ≤ 244) : folS c = (if c < 224 then 1 else if c < 240 then 2 else 3, (fbS c).1, (fbS c).2) := by
  unfold folS fbS
  (repeat' split) <;> first | rfl | (exfalso; omega)
theorem fol_none (c : Int) (h : c < 194 ∨ 244 < c) : folS c = (0, 0, 0) := by
  unfold folS
  (repeat' split) <;> first | rfl | (exfalso; omega)
theorem byte_back (b : UInt8) : ((b.toNat : Int)).toNat.toUInt8 = b := by simp
theorem enc_of {r : Int} {l : List UInt8} (h : Lib.encodeRuneZ r = toZ l) : Lib.encodeRune r = l := by
  unfold Lib.encodeRune
  rw [h, toZ, List.map_map]
  conv => rhs; rw [← List.map_id l]
  refine List.map_congr_left fun b _ => ?_
  simp
/-- A letter at the front. -/
def letU : List UInt8 → Nat × Bool
  | [] => (0, false)
  | c :: t => letS (toZ (c :: t)) 0 c.toNat
theorem letU_low (c : UInt8) (t : List UInt8) (h : (c.toNat : Int) < 128) : letU (c :: t) = (1, true) := by simp only [letU, letS, if_pos h]
theorem letU_high (c : UInt8) (t : List UInt8) (h : ¬ (c.toNat : Int) < 128) : letU (c :: t) = (1 + haveS (folS c.toNat).1.toNat (folS c.toNat).2.1 (folS c.toNat).2.2 (toZ t), decide (0 < (folS c.toNat).1) && decide (haveS (folS c.toNat).1.toNat (folS c.toNat).2.1 (folS c.toNat).2.2 (toZ t) = (folS c.toNat).1.toNat)) := by
  simp only [letU, letS, if_neg h]
  rfl
theorem raw_step (c : UInt8) (t : List UInt8) : ∃ r, rawS d0 (toZ (c :: t)) = r :: rawS d0 (toZ ((c :: t).drop (letU (c :: t)).1)) ∧ 1 ≤ (letU (c :: t)).1 ∧ (letU (c :: t)).1 ≤ (c :: t).length ∧ (((c.toNat : Int) < 128 ∧ letU (c :: t) = (1, true) ∧ r = (c.toNat : Int)) ∨ (128 ≤ (c.toNat : Int) ∧ (letU (c :: t)).2 = true ∧ 128 ≤ r ∧ Lib.encodeRune r = (c :: t).take (letU (c :: t)).1) ∨ (128 ≤ (c.toNat : Int) ∧ (letU (c :: t)).2 = false ∧ r = 65533)) := by
  have hc := c.toNat_lt
  have er : ∀ r, (takeS d0 (c.toNat : Int)) = (d0, [r]) → rawS d0 (toZ (c :: t)) = r :: rawS d0 (toZ t) := fun r h => by
    show rawS d0 ((c.toNat : Int) :: toZ t) = _
    rw [rawS, h]; rfl
  have eb : takeS d0 (c.toNat : Int) = beginS d0 c.toNat := by unfold takeS; rw [if_neg (by show ¬ (0 : Int) < 0; omega)]
  by_cases c1 : (c.toNat : Int) < 128
  · rw [letU_low c t c1]
    have hw : IntKind.i32.wrap (c.toNat : Int) = (c.toNat : Int) := by rw [IntKind.wrap_i32]; omega
    refine ⟨(c.toNat : Int), ?_, Nat.le_refl _, by simp, .inl ⟨c1, rfl, rfl⟩⟩
    rw [er (c.toNat : Int) (by rw [eb, beginS, if_pos c1, hw])]
    rfl
  have hl := letU_high c t c1
  by_cases c2 : (c.toNat : Int) < 194 ∨ 244 < (c.toNat : Int)
  · rw [fol_none _ c2] at hl
    have hl' : letU (c :: t) = (1, false) := by rw [hl]; simp [haveS]
    rw [hl']
    refine ⟨65533, ?_, Nat.le_refl _, by simp, .inr (.inr ⟨by omega, rfl, rfl⟩)⟩
    rw [er 65533 (by
      rw [eb, beginS, if_neg c1]
      by_cases c3 : (c.toNat : Int) < 194
      · rw [if_pos c3]
      · rw [if_neg c3, if_pos (by omega)])]
    rfl
  have hf := fol_lead (c.toNat : Int) (by omega) (by omega)
  obtain ⟨b1, b2, b3, b4, b5, b6⟩ := fb_range (c.toNat : Int)
  -- a lead
  have main : ∀ (n : Nat) (L : Int), n ≤ 2 → (folS (c.toNat : Int)).1 = ((n + 1 : Nat) : Int) → beginS d0 c.toNat = (⟨L, ((n + 1 : Nat) : Int), (fbS c.toNat).1, (fbS c.toNat).2⟩, []) → (haveS (n + 1) (fbS c.toNat).1 (fbS c.toNat).2 (toZ t) = n + 1 → 128 ≤ valS (n + 1) L (toZ t) ∧ Lib.encodeRuneZ (valS (n + 1) L (toZ t)) = toZ (c :: t.take (n + 1))) → ∃ r, rawS d0 (toZ (c :: t)) = r :: rawS d0 (toZ ((c :: t).drop (letU (c :: t)).1)) ∧ 1 ≤ (letU (c :: t)).1 ∧ (letU (c :: t)).1 ≤ (c :: t).length ∧ (((c.toNat : Int) < 128 ∧ letU (c :: t) = (1, true) ∧ r = (c.toNat : Int)) ∨ (128 ≤ (c.toNat : Int) ∧ (letU (c :: t)).2 = true ∧ 128 ≤ r ∧ Lib.encodeRune r = (c :: t).take (letU (c :: t)).1) ∨ (128 ≤ (c.toNat : Int) ∧ (letU (c :: t)).2 = false ∧ r = 65533)) := by
    intro n L hn h1 h2 h3
    have hl2 : letU (c :: t) = (1 + haveS (n + 1) (fbS c.toNat).1 (fbS c.toNat).2 (toZ t), decide (haveS (n + 1) (fbS c.toNat).1 (fbS c.toNat).2 (toZ t) = n + 1)) := by
      rw [hl]
      have e1 : (folS (c.toNat : Int)).2.1 = (fbS c.toNat).1 := by rw [hf]
      have e2 : (folS (c.toNat : Int)).2.2 = (fbS c.toNat).2 := by rw [hf]
      have e3 : decide (0 < (folS (c.toNat : Int)).1) = true := decide_eq_true (by omega)
      rw [e1, e2, e3, h1, Bool.true_and, Int.toNat_natCast]
    have hle := have_le (n + 1) (fbS c.toNat).1 (fbS c.toNat).2 (toZ t)
    have hlen : (toZ t).length = t.length := by simp [toZ]
    have hr : rawS d0 (toZ (c :: t)) = rawS ⟨L, ((n + 1 : Nat) : Int), (fbS c.toNat).1, (fbS c.toNat).2⟩ (toZ t) := by
      show rawS d0 ((c.toNat : Int) :: toZ t) = _
      rw [rawS, eb, h2]
      rfl
    obtain ⟨p1, p2⟩ := pend n hn L (fbS c.toNat).1 (fbS c.toNat).2 (toZ t)
    rw [hr, hl2]
    have hd : ∀ k, toZ ((c :: t).drop (1 + k)) = (toZ t).drop k := fun k => by rw [Nat.add_comm, List.drop_succ_cons, toZ, toZ, List.map_drop]
    by_cases hh : haveS (n + 1) (fbS c.toNat).1 (fbS c.toNat).2 (toZ t) = n + 1
    · obtain ⟨h4, h5⟩ := h3 hh
      refine ⟨_, by rw [p1 hh, hd, hh], by simp, by simp; omega, .inr (.inl ⟨by omega, by simp [hh], h4, ?_⟩)⟩
      rw [enc_of h5]
      simp only [hh]
      rw [Nat.add_comm 1 (n + 1), List.take_succ_cons]
    · refine ⟨_, by rw [p2 hh, hd], by simp, by simp; omega, .inr (.inr ⟨by omega, by simp [hh], rfl⟩)⟩
  by_cases c4 : (c.toNat : Int) < 224
  · refine main 0 (leadL c.toNat 31) (by omega) (by rw [hf]; simp [c4]) (by rw [beginS, if_neg c1, if_neg (by omega), if_neg (by omega), if_pos c4]; rfl) fun h => ?_
    obtain ⟨x, t', rfl, x1, x2, _⟩ := have_cons h
    have hL : leadL c.toNat 31 = (c.toNat : Int) - 192 := by rw [leadL_eq _ 31 (by omega) (by omega) (by simp)]; omega
    have hv : valS (0 + 1) (leadL c.toNat 31) (toZ (x :: t')) = ((c.toNat : Int) - 192) * 64 + (x.toNat : Int) % 64 := by
      show followL (leadL c.toNat 31) (x.toNat : Int) = _
      rw [hL, followL_eq _ _ (by omega) (by omega) (by omega) (by omega)]
    rw [hv]
    refine ⟨by omega, ?_⟩
    rw [Lib.encodeRuneZ_two (by omega) (by omega)]
    simp only [toZ, List.map_cons, List.take_succ_cons, List.take_zero, List.map_nil, List.cons.injEq, and_true, Nat.zero_add, Nat.reduceAdd]
    omega
  by_cases c5 : (c.toNat : Int) < 240
  · refine main 1 (leadL c.toNat 15) (by omega) (by rw [hf]; simp [c4, c5]) (by rw [beginS, if_neg c1, if_neg (by omega), if_neg (by omega), if_neg c4, if_pos c5]; rfl) fun h => ?_
    obtain ⟨x, t', rfl, x1, x2, h'⟩ := have_cons h
    obtain ⟨y, t'', rfl, y1, y2, _⟩ := have_cons (n := 0) h'
    have hL : leadL c.toNat 15 = (c.toNat : Int) - 224 := by rw [leadL_eq _ 15 (by omega) (by omega) (by simp)]; omega
    have hv : valS (1 + 1) (leadL c.toNat 15) (toZ (x :: y :: t'')) = (((c.toNat : Int) - 224) * 64 + (x.toNat : Int) % 64) * 64 + (y.toNat : Int) % 64 := by
      show followL (followL (leadL c.toNat 15) (x.toNat : Int)) (y.toNat : Int) = _
      rw [hL, followL_eq ((c.toNat : Int) - 224) _ (by omega) (by omega) (by omega) (by omega), followL_eq (((c.toNat : Int) - 224) * 64 + (x.toNat : Int) % 64) _ (by omega) (by omega) (by omega) (by omega)]
    rw [hv]
    refine ⟨by omega, ?_⟩
    rw [Lib.encodeRuneZ_three (by omega)]
    simp only [toZ, List.map_cons, List.take_succ_cons, List.take_zero, List.map_nil, List.cons.injEq, and_true, Nat.zero_add, Nat.reduceAdd]
    omega
  · refine main 2 (leadL c.toNat 7) (by omega) (by rw [hf]; simp [c4, c5]) (by rw [beginS, if_neg c1, if_neg (by omega), if_neg (by omega), if_neg c4, if_neg c5]; rfl) fun h => ?_
    obtain ⟨x, t', rfl, x1, x2, h'⟩ := have_cons h
    obtain ⟨y, t'', rfl, y1, y2, h''⟩ := have_cons (n := 1) h'
    obtain ⟨z, t3, rfl, z1, z2, _⟩ := have_cons (n := 0) h''
    have hL : leadL c.toNat 7 = (c.toNat : Int) - 240 := by rw [leadL_eq _ 7 (by omega) (by omega) (by simp)]; omega
    have hv : valS (2 + 1) (leadL c.toNat 7) (toZ (x :: y :: z :: t3)) = ((((c.toNat : Int) - 240) * 64 + (x.toNat : Int) % 64) * 64 + (y.toNat : Int) % 64) * 64 + (z.toNat : Int) % 64 := by
      show followL (followL (followL (leadL c.toNat 7) (x.toNat : Int)) (y.toNat : Int)) (z.toNat : Int) = _
      rw [hL, followL_eq ((c.toNat : Int) - 240) _ (by omega) (by omega) (by omega) (by omega), followL_eq (((c.toNat : Int) - 240) * 64 + (x.toNat : Int) % 64) _ (by omega) (by omega) (by omega) (by omega), followL_eq ((((c.toNat : Int) - 240) * 64 + (x.toNat : Int) % 64) * 64 + (y.toNat : Int) % 64) _ (by omega) (by omega) (by omega) (by omega)]
    rw [hv]
    refine ⟨by omega, ?_⟩
    rw [Lib.encodeRuneZ_four (by omega) (by omega)]
    simp only [toZ, List.map_cons, List.take_succ_cons, List.take_zero, List.map_nil, List.cons.injEq, and_true, Nat.zero_add, Nat.reduceAdd]
    omega
/-- What the document makes of the letter at the front. -/
def pieceS (c : UInt8) (t : List UInt8) : List UInt8 :=
  if (letU (c :: t)).2 = false ∨ (c :: t).take (letU (c :: t)).1 = [0] then [239, 191, 189] else if (c :: t).take (letU (c :: t)).1 = [13] then (if t.head? = some 10 then [] else [10]) else (c :: t).take (letU (c :: t)).1
/-- The document's answer, behind the mark, by at most so many letters. -/
def refGo : Nat → List UInt8 → List UInt8
  | 0, _ => []
  | _ + 1, [] => []
  | f + 1, c :: t => pieceS c t ++ refGo f ((c :: t).drop (letU (c :: t)).1)
theorem letU_pos (c : UInt8) (t : List UInt8) : 1 ≤ (letU (c :: t)).1 ∧ (letU (c :: t)).1 ≤ (c :: t).length := by
  obtain ⟨_, _, h1, h2, _⟩ := raw_step c t
  exact ⟨h1, h2⟩
theorem refGo_fuel (f : Nat) : ∀ (f' : Nat) (l : List UInt8), l.length ≤ f → l.length ≤ f' → refGo f l = refGo f' l := by
  induction f with
  | zero =>
    intro f' l h _
    have : l = [] := List.length_eq_zero_iff.1 (by omega)
    subst this
    cases f' <;> rfl
  | succ f ih =>
    intro f' l h h'
    cases l with
    | nil => cases f' <;> rfl
    | cons c t =>
      have hp := letU_pos c t
      cases f' with
      | zero => simp at h'
      | succ f' =>
        have hl : ((c :: t).drop (letU (c :: t)).1).length = (c :: t).length - (letU (c :: t)).1 := List.length_drop
        rw [refGo, refGo, ih f' _ (by omega) (by omega)]
def refL (l : List UInt8) : List UInt8 := refGo l.length l
theorem refL_cons (c : UInt8) (t : List UInt8) : refL (c :: t) = pieceS c t ++ refL ((c :: t).drop (letU (c :: t)).1) := by
  have hp := letU_pos c t
  have hl : ((c :: t).drop (letU (c :: t)).1).length = (c :: t).length - (letU (c :: t)).1 := List.length_drop
  show refGo (t.length + 1) (c :: t) = _
  rw [refGo, refL]
  rw [refGo_fuel t.length ((c :: t).drop (letU (c :: t)).1).length _ (by simp only [List.length_cons] at hl; omega) (Nat.le_refl _)]
def behindS : List UInt8 → List UInt8
  | [] => []
  | c :: t => if c = 10 then refL t else refL (c :: t)
theorem utf8Of_append (x y : List Int) : utf8Of (x ++ y) = utf8Of x ++ utf8Of y := by simp [utf8Of]
theorem enc_sub : utf8Of [65533] = [239, 191, 189] := by
  have : Lib.encodeRuneZ 65533 = toZ [239, 191, 189] := by rw [Lib.encodeRuneZ_three (by omega)]; rfl
  simp [utf8Of, enc_of this]
theorem enc_low (c : UInt8) (h : (c.toNat : Int) < 128) : utf8Of [(c.toNat : Int)] = [c] := by
  have : Lib.encodeRuneZ (c.toNat : Int) = toZ [c] := by rw [Lib.encodeRuneZ_one (by omega) (by omega)]; rfl
  simp [utf8Of, enc_of this]
theorem cleanAll_cons (c : CS) (r : Int) (l : List Int) : (cleanAll c (r :: l)).2 = (cleanS c r).2 ++ (cleanAll ⟨true, r == 13⟩ l).2 := rfl
theorem byte_eq {c d : UInt8} (h : (c.toNat : Int) = (d.toNat : Int)) : c = d := UInt8.toNat_inj.1 (by omega)
theorem pieceS_low (c : UInt8) (t : List UInt8) (h : (c.toNat : Int) < 128) : pieceS c t = if c = 0 then [239, 191, 189] else if c = 13 then (if t.head? = some 10 then [] else [10]) else [c] := by
  unfold pieceS
  rw [letU_low c t h]
  simp
theorem clean_ref (n : Nat) : ∀ l : List UInt8, l.length ≤ n → utf8Of (cleanAll ⟨true, false⟩ (rawS d0 (toZ l))).2 = refL l ∧ utf8Of (cleanAll ⟨true, true⟩ (rawS d0 (toZ l))).2 = behindS l := by
  induction n with
  | zero =>
    intro l h
    have : l = [] := List.length_eq_zero_iff.1 (by omega)
    subst this
    exact ⟨rfl, rfl⟩
  | succ n ih =>
    intro l hlen
    cases l with
    | nil => exact ⟨rfl, rfl⟩
    | cons c t =>
      obtain ⟨r, hr, h1, h2, h3⟩ := raw_step c t
      have hl : ((c :: t).drop (letU (c :: t)).1).length = (c :: t).length - (letU (c :: t)).1 := List.length_drop
      obtain ⟨i1, i2⟩ := ih ((c :: t).drop (letU (c :: t)).1) (by omega)
      rw [hr, cleanAll_cons, cleanAll_cons, utf8Of_append, utf8Of_append]
      rcases h3 with ⟨c1, hu, rfl⟩ | ⟨c1, hu, r1, he⟩ | ⟨c1, hu, rfl⟩
      · rw [hu] at i1 i2
        simp only [List.drop_succ_cons, List.drop_zero] at i1 i2
        have hR := refL_cons c t
        rw [hu, pieceS_low c t c1] at hR
        simp only [hu, List.drop_succ_cons, List.drop_zero] at hR ⊢
        by_cases e13 : c = 13
        · subst e13
          have hz : ((13 : UInt8).toNat : Int) = 13 := rfl
          rw [hz]
          have hq : ((13 : Int) == 13) = true := rfl
          have hcl : ∀ q, (cleanS ⟨true, q⟩ 13).2 = [10] := fun q => by simp [cleanS]
          rw [hcl, hcl, hq, i2]
          have h10 : utf8Of [10] = [10] := enc_low 10 (by decide)
          have hB : behindS (13 :: t) = refL (13 :: t) := by rw [behindS, if_neg (by decide)]
          rw [h10, hB]
          have hX : [10] ++ behindS t = refL (13 :: t) := by
            rw [hR, if_neg (by decide), if_pos rfl]
            cases t with
            | nil => simp [behindS]; rfl
            | cons e t =>
              by_cases ee : e = 10
              · subst ee
                have h2 := refL_cons 10 t
                rw [letU_low 10 t (by decide), pieceS_low 10 t (by decide), if_neg (by decide), if_neg (by decide)] at h2
                simp only [List.drop_succ_cons, List.drop_zero] at h2
                simp [behindS, h2]
              · simp [behindS, ee]
          exact ⟨hX, hX⟩
        · have hn13 : ((c.toNat : Int) == 13) = false := by
            rw [Bool.eq_false_iff]
            intro h
            exact e13 (byte_eq (by simpa using h))
          rw [hn13, i1]
          rw [if_neg e13] at hR
          by_cases e10 : c = 10
          · subst e10
            rw [if_neg (by decide)] at hR
            have hz : ((10 : UInt8).toNat : Int) = 10 := rfl
            rw [hz]
            have h10 : utf8Of [10] = [10] := enc_low 10 (by decide)
            have a1 : (cleanS ⟨true, false⟩ 10).2 = [10] := by simp [cleanS]
            have a2 : (cleanS ⟨true, true⟩ 10).2 = [] := by simp [cleanS]
            rw [a1, a2, h10, hR, behindS, if_pos rfl]
            exact ⟨rfl, by simp [utf8Of]⟩
          · have hB : behindS (c :: t) = refL (c :: t) := by rw [behindS, if_neg e10]
            rw [hB, hR]
            have hn10 : ((c.toNat : Int) == 10) = false := by
              rw [Bool.eq_false_iff]
              intro h
              exact e10 (byte_eq (by simpa using h))
            have hq13 : ¬ (c.toNat : Int) = 13 := by simpa using hn13
            by_cases e0 : c = 0
            · subst e0
              have hcl : ∀ q, (cleanS ⟨true, q⟩ (((0 : UInt8).toNat : Int))).2 = [65533] := fun q => by cases q <;> rfl
              rw [hcl, hcl, enc_sub, if_pos rfl]
              exact ⟨rfl, rfl⟩
            · have hn0 : ¬ (c.toNat : Int) = 0 := fun h => e0 (byte_eq (by simpa using h))
              have hcl : ∀ q, (cleanS ⟨true, q⟩ (c.toNat : Int)).2 = [(c.toNat : Int)] := fun q => by
                unfold cleanS
                simp only [hn10, Bool.and_false, Bool.not_true, Bool.false_and, if_neg hq13, if_neg hn0, Bool.false_eq_true, if_false]
              rw [hcl, hcl, enc_low c c1, if_neg e0]
              exact ⟨rfl, rfl⟩
      · have hB : behindS (c :: t) = refL (c :: t) := by rw [behindS, if_neg (fun h => by rw [h] at c1; revert c1; decide)]
        have hcl : ∀ q, (cleanS ⟨true, q⟩ r).2 = [r] := fun q => by
          have hn10 : (r == 10) = false := by rw [Bool.eq_false_iff]; intro h; have : r = 10 := by simpa using h
                                              omega
          unfold cleanS
          simp only [hn10, Bool.and_false, Bool.not_true, Bool.false_and, if_neg (show ¬ r = 13 by omega), if_neg (show ¬ r = 0 by omega), Bool.false_eq_true, if_false]
        have hn13 : (r == 13) = false := by rw [Bool.eq_false_iff]; intro h; have : r = 13 := by simpa using h
                                            omega
        have hc0 : ∀ x : UInt8, (x.toNat : Int) < 128 → ¬ (c :: t).take (letU (c :: t)).1 = [x] := fun x hx h => by
          obtain ⟨k, hk⟩ : ∃ k, (letU (c :: t)).1 = k + 1 := ⟨(letU (c :: t)).1 - 1, by omega⟩
          rw [hk, List.take_succ_cons] at h
          have : c = x := by injection h
          rw [this] at c1
          omega
        rw [hcl, hcl, hn13, i1, hB, refL_cons c t, pieceS, if_neg (by
          rintro (h | h)
          · rw [hu] at h; cases h
          · exact hc0 0 (by decide) h), if_neg (hc0 13 (by decide)), ← he]
        have : utf8Of [r] = Lib.encodeRune r := by simp [utf8Of]
        rw [this]
        exact ⟨rfl, rfl⟩
      · have hB : behindS (c :: t) = refL (c :: t) := by rw [behindS, if_neg (fun h => by rw [h] at c1; revert c1; decide)]
        have hcl : ∀ q, (cleanS ⟨true, q⟩ 65533).2 = [65533] := fun q => by cases q <;> rfl
        have hn13 : ((65533 : Int) == 13) = false := rfl
        rw [hcl, hcl, hn13, i1, hB, refL_cons c t, pieceS, if_pos (.inl hu), enc_sub]
        exact ⟨rfl, rfl⟩
/-- The document's answer. -/
def refS (l : List UInt8) : List UInt8 := if l.take 3 = [239, 187, 191] then refL (l.drop 3) else refL l
theorem letters_ref (s : ByteArray) : utf8Of (lettersOf s) = refS s.data.toList := by
  unfold lettersOf
  rw [from_raw]
  show utf8Of (cleanAll ⟨false, false⟩ (rawS d0 (toZ s.data.toList))).2 = _
  generalize s.data.toList = l
  cases l with
  | nil => rfl
  | cons c t =>
    obtain ⟨r, hr, h1, h2, h3⟩ := raw_step c t
    have hT := (clean_ref _ (c :: t) (Nat.le_refl _)).1
    by_cases hm : (c :: t).take 3 = [239, 187, 191]
    · obtain ⟨u, hu⟩ : ∃ u, c :: t = 239 :: 187 :: 191 :: u := ⟨(c :: t).drop 3, by rw [← List.take_append_drop 3 (c :: t), hm]; rfl⟩
      have hraw : rawS d0 (toZ (239 :: 187 :: 191 :: u)) = 65279 :: rawS d0 (toZ u) := by
        have e1 : takeS d0 239 = (⟨15, 2, 128, 191⟩, []) := by
          show ((⟨leadL 239 15, 2, (fbS 239).1, (fbS 239).2⟩ : DS), ([] : List Int)) = _
          rw [leadL_eq 239 15 (by omega) (by omega) (by simp)]
          rfl
        have e2 : takeS ⟨15, 2, 128, 191⟩ 187 = (⟨1019, 1, 128, 191⟩, []) := by
          show ((⟨followL 15 187, 1, 128, 191⟩ : DS), ([] : List Int)) = _
          rw [followL_eq 15 187 (by omega) (by omega) (by omega) (by omega)]
          rfl
        have e3 : takeS ⟨1019, 1, 128, 191⟩ 191 = (⟨65279, 0, 128, 191⟩, [65279]) := by
          show ((⟨followL 1019 191, 0, 128, 191⟩ : DS), [followL 1019 191]) = _
          rw [followL_eq 1019 191 (by omega) (by omega) (by omega) (by omega)]
          rfl
        show rawS d0 (239 :: 187 :: 191 :: toZ u) = _
        rw [rawS, e1, rawS, e2, rawS, e3, raw_free (toZ u) ⟨65279, 0, 128, 191⟩ d0 rfl rfl]
        rfl
      unfold refS
      rw [if_pos hm, hu, hraw, cleanAll_cons]
      have : (cleanS ⟨false, false⟩ 65279).2 = [] := rfl
      rw [this, List.nil_append]
      exact (clean_ref _ u (Nat.le_refl _)).1
    · unfold refS
      rw [if_neg hm, ← hT, hr, cleanAll_cons, cleanAll_cons]
      have hne : r ≠ 65279 := by
        rintro rfl
        rcases h3 with ⟨c1, _, h⟩ | ⟨_, _, _, h⟩ | ⟨_, _, h⟩
        · omega
        · have e : Lib.encodeRuneZ 65279 = toZ [239, 187, 191] := by rw [Lib.encodeRuneZ_three (by omega)]; rfl
          rw [enc_of e] at h
          have hn : (letU (c :: t)).1 = 3 := by
            have := congrArg List.length h
            simp only [List.length_take, List.length_cons, List.length_nil] at this h2
            omega
          rw [hn] at h
          exact hm h.symm
        · omega
      have : (cleanS ⟨false, false⟩ r).2 = (cleanS ⟨true, false⟩ r).2 := by
        unfold cleanS
        have hb : (r == 65279) = false := by rw [Bool.eq_false_iff]; intro h; exact hne (by simpa using h)
        simp only [hb, Bool.and_false]
      rw [this]
end Go.Proofs.YtgcaionclkbehaaGreatDoor
