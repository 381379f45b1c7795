/-
  Of the decoder and the cleaner, in plain words: every letter is one; how many there are.
-/
import Derived.Test.YtgcaionclkbehaaGreatDoorRead
import Derived.Test.YtgcaionclkbehaaGreatDoorWrite
set_option linter.all false
set_option linter.unusedSectionVars false
namespace Go.Proofs.YtgcaionclkbehaaGreatDoor
open Go.RowKit

theorem or_i32 (l x : Nat) (hl : l < 32768) (hx : x < 64) : bits .or .i32 ((l * 64 : Nat) : Int) (x : Int) = ((l * 64 + x : Nat) : Int) := by
  have h1 : (BitVec.ofInt 32 ((l * 64 : Nat) : Int)).toNat = l * 64 := by
    rw [BitVec.ofInt_natCast, BitVec.toNat_ofNat]; exact Nat.mod_eq_of_lt (by omega)
  have h2 : (BitVec.ofInt 32 (x : Int)).toNat = x := by
    rw [BitVec.ofInt_natCast, BitVec.toNat_ofNat]; exact Nat.mod_eq_of_lt (by omega)
  show IntKind.i32.wrap ((BitVec.ofInt 32 ((l * 64 : Nat) : Int) ||| BitVec.ofInt 32 (x : Int)).toNat : Int) = _
  have h3 : l * 64 ||| x = l * 64 + x := by
    have := Nat.shiftLeft_add_eq_or_of_lt (i := 6) (b := x) (by simpa using hx) l
    rw [Nat.shiftLeft_eq] at this
    exact this.symm
  rw [BitVec.toNat_or, h1, h2, h3, IntKind.wrap_i32]
  omega
theorem followL_eq (l b : Int) (h0 : 0 ≤ l) (h1 : l < 32768) (h2 : 0 ≤ b) (h3 : b < 256) : followL l b = l * 64 + b % 64 := by
  have e1 : IntKind.i32.wrap (l * 64) = l * 64 := by rw [IntKind.wrap_i32]; omega
  have e2 : IntKind.i32.wrap (b % 64) = b % 64 := by rw [IntKind.wrap_i32]; omega
  unfold followL
  rw [and63 b h2 h3, e1, e2]
  have := or_i32 l.toNat (b % 64).toNat (by omega) (by omega)
  have a1 : ((l.toNat * 64 : Nat) : Int) = l * 64 := by omega
  have a2 : ((b % 64).toNat : Int) = b % 64 := by omega
  rw [a1, a2] at this
  rw [this]
  omega
theorem leadL_eq (b k : Int) (h0 : 0 ≤ b) (h1 : b < 256) (hk : k = 31 ∨ k = 15 ∨ k = 7) : leadL b k = b % (k + 1) := by
  have h : ∀ n : _root_.Fin 256, bits .and .u8 (n.val : Int) 31 = (n.val : Int) % 32 ∧ bits .and .u8 (n.val : Int) 15 = (n.val : Int) % 16 ∧ bits .and .u8 (n.val : Int) 7 = (n.val : Int) % 8 := by decide +kernel
  have hb := h ⟨b.toNat, by omega⟩
  simp only [Int.toNat_of_nonneg h0] at hb
  unfold leadL
  rcases hk with rfl | rfl | rfl
  · rw [hb.1, IntKind.wrap_i32]; omega
  · rw [hb.2.1, IntKind.wrap_i32]; omega
  · rw [hb.2.2, IntKind.wrap_i32]; omega

/-- The states of the decoder. -/
def DInv (d : DS) : Prop :=
  d.missing = 0 ∨
  (d.missing = 1 ∧ d.low = 128 ∧ d.high = 191 ∧ ((2 ≤ d.letter ∧ d.letter ≤ 863) ∨ (896 ≤ d.letter ∧ d.letter ≤ 17407))) ∨
  (d.missing = 2 ∧ 0 ≤ d.letter ∧ d.letter ≤ 15 ∧ d.low = (fbS (224 + d.letter)).1 ∧ d.high = (fbS (224 + d.letter)).2) ∨
  (d.missing = 2 ∧ 16 ≤ d.letter ∧ d.letter ≤ 271 ∧ d.low = 128 ∧ d.high = 191) ∨
  (d.missing = 3 ∧ 0 ≤ d.letter ∧ d.letter ≤ 4 ∧ d.low = (fbS (240 + d.letter)).1 ∧ d.high = (fbS (240 + d.letter)).2)

theorem begin_inv (d : DS) (b : Int) (h0 : 0 ≤ b) (h1 : b < 256) (hd : d.missing = 0) : DInv (beginS d b).1 ∧ (∀ r ∈ (beginS d b).2, Good r) ∧ (beginS d b).2.length ≤ 1 := by
  unfold beginS
  by_cases c1 : b < 128
  · simp only [if_pos c1]
    refine ⟨.inl hd, fun r hr => ?_, by simp⟩
    have : IntKind.i32.wrap b = b := by rw [IntKind.wrap_i32]; omega
    simp only [this, List.mem_singleton] at hr
    exact .inl (by omega)
  by_cases c2 : b < 194
  · simp only [if_neg c1, if_pos c2]
    exact ⟨.inl hd, fun r hr => by simp only [List.mem_singleton] at hr; exact .inr (by omega), by simp⟩
  by_cases c3 : b > 244
  · simp only [if_neg c1, if_neg c2, if_pos c3]
    exact ⟨.inl hd, fun r hr => by simp only [List.mem_singleton] at hr; exact .inr (by omega), by simp⟩
  by_cases c4 : b < 224
  · simp only [if_neg c1, if_neg c2, if_neg c3, if_pos c4]
    refine ⟨.inr (.inl ⟨rfl, ?_, ?_, ?_⟩), by simp, by simp⟩
    · show (fbS b).1 = 128
      rw [fbS, if_neg (by omega), if_neg (by omega), if_neg (by omega), if_neg (by omega)]
    · show (fbS b).2 = 191
      rw [fbS, if_neg (by omega), if_neg (by omega), if_neg (by omega), if_neg (by omega)]
    · show (2 ≤ leadL b 31 ∧ leadL b 31 ≤ 863) ∨ (896 ≤ leadL b 31 ∧ leadL b 31 ≤ 17407)
      rw [leadL_eq b 31 h0 h1 (by simp)]
      omega
  by_cases c5 : b < 240
  · simp only [if_neg c1, if_neg c2, if_neg c3, if_neg c4, if_pos c5]
    have e : leadL b 15 = b - 224 := by rw [leadL_eq b 15 h0 h1 (by simp)]; omega
    have e2 : 224 + leadL b 15 = b := by omega
    exact ⟨.inr (.inr (.inl ⟨rfl, by show 0 ≤ leadL b 15; omega, by show leadL b 15 ≤ 15; omega, by show _ = (fbS (224 + leadL b 15)).1; rw [e2], by show _ = (fbS (224 + leadL b 15)).2; rw [e2]⟩)), by simp, by simp⟩
  · simp only [if_neg c1, if_neg c2, if_neg c3, if_neg c4, if_neg c5]
    have e : leadL b 7 = b - 240 := by rw [leadL_eq b 7 h0 h1 (by simp)]; omega
    have e2 : 240 + leadL b 7 = b := by omega
    exact ⟨.inr (.inr (.inr (.inr ⟨rfl, by show 0 ≤ leadL b 7; omega, by show leadL b 7 ≤ 4; omega, by show _ = (fbS (240 + leadL b 7)).1; rw [e2], by show _ = (fbS (240 + leadL b 7)).2; rw [e2]⟩))), by simp, by simp⟩

theorem follow_inv (d : DS) (b : Int) (hd : DInv d) (hm : 0 < d.missing) (hl : d.low ≤ b) (hh : b ≤ d.high) : DInv (followS d b).1 ∧ (∀ r ∈ (followS d b).2, Good r) ∧ (followS d b).2.length ≤ 1 := by
  have hfb : ∀ x : Int, 128 ≤ (fbS x).1 ∧ (fbS x).2 ≤ 191 := by intro x; unfold fbS; (repeat' split) <;> exact ⟨by decide, by decide⟩
  have hlen : (followS d b).2.length ≤ 1 := by unfold followS; split <;> simp
  have hw1 : ∀ m : Int, 1 ≤ m → m ≤ 3 → IntKind.i64.wrap (m - 1) = m - 1 := fun m _ _ => by rw [IntKind.wrap_i64]; omega
  rcases hd with h | ⟨h, h1, h2, h3⟩ | ⟨h, h1, h2, h3, h4⟩ | ⟨h, h1, h2, h3, h4⟩ | ⟨h, h1, h2, h3, h4⟩
  · omega
  · have hf := followL_eq d.letter b (by omega) (by omega) (by omega) (by omega)
    refine ⟨.inl ?_, fun r hr => ?_, hlen⟩
    · show IntKind.i64.wrap (d.missing - 1) = 0
      rw [hw1 _ (by omega) (by omega)]; omega
    · have : (followS d b).2 = [followL d.letter b] := by unfold followS; rw [hw1 _ (by omega) (by omega)]; simp [h]
      rw [this, List.mem_singleton] at hr
      subst hr
      rw [hf]
      unfold Good
      omega
  · have hb := hfb (224 + d.letter)
    have hf := followL_eq d.letter b (by omega) (by omega) (by omega) (by omega)
    have hmm : IntKind.i64.wrap (d.missing - 1) = 1 := by rw [hw1 _ (by omega) (by omega)]; omega
    refine ⟨.inr (.inl ⟨hmm, rfl, rfl, ?_⟩), fun r hr => ?_, hlen⟩
    · show (2 ≤ followL d.letter b ∧ followL d.letter b ≤ 863) ∨ (896 ≤ followL d.letter b ∧ followL d.letter b ≤ 17407)
      rw [hf]
      by_cases e0 : d.letter = 0
      · have : (fbS (224 + d.letter)).1 = 160 := by rw [e0]; rfl
        omega
      · by_cases e13 : d.letter = 13
        · have : (fbS (224 + d.letter)).2 = 159 := by rw [e13]; rfl
          omega
        · omega
    · have : (followS d b).2 = [] := by unfold followS; rw [hmm]; simp
      rw [this] at hr; simp at hr
  · have hf := followL_eq d.letter b (by omega) (by omega) (by omega) (by omega)
    have hmm : IntKind.i64.wrap (d.missing - 1) = 1 := by rw [hw1 _ (by omega) (by omega)]; omega
    refine ⟨.inr (.inl ⟨hmm, rfl, rfl, ?_⟩), fun r hr => ?_, hlen⟩
    · show (2 ≤ followL d.letter b ∧ followL d.letter b ≤ 863) ∨ (896 ≤ followL d.letter b ∧ followL d.letter b ≤ 17407)
      rw [hf]
      omega
    · have : (followS d b).2 = [] := by unfold followS; rw [hmm]; simp
      rw [this] at hr; simp at hr
  · have hb := hfb (240 + d.letter)
    have hf := followL_eq d.letter b (by omega) (by omega) (by omega) (by omega)
    have hmm : IntKind.i64.wrap (d.missing - 1) = 2 := by rw [hw1 _ (by omega) (by omega)]; omega
    refine ⟨.inr (.inr (.inr (.inl ⟨hmm, ?_, ?_, rfl, rfl⟩))), fun r hr => ?_, hlen⟩
    · show 16 ≤ followL d.letter b
      rw [hf]
      by_cases e0 : d.letter = 0
      · have : (fbS (240 + d.letter)).1 = 144 := by rw [e0]; rfl
        omega
      · omega
    · show followL d.letter b ≤ 271
      rw [hf]
      by_cases e4 : d.letter = 4
      · have : (fbS (240 + d.letter)).2 = 143 := by rw [e4]; rfl
        omega
      · omega
    · have : (followS d b).2 = [] := by unfold followS; rw [hmm]; simp
      rw [this] at hr; simp at hr
theorem end_inv (d : DS) (hd : DInv d) : (endS d).1.missing = 0 ∧ (∀ r ∈ (endS d).2, Good r) ∧ (endS d).2.length ≤ 1 := by
  unfold endS
  split
  · exact ⟨rfl, fun r hr => by simp only [List.mem_singleton] at hr; exact .inr (by omega), by simp⟩
  · refine ⟨?_, by simp, by simp⟩
    rcases hd with h | ⟨h, _⟩ | ⟨h, _⟩ | ⟨h, _⟩ | ⟨h, _⟩ <;> first | exact h | (exfalso; omega)
theorem take_inv (d : DS) (b : Int) (h0 : 0 ≤ b) (h1 : b < 256) (hd : DInv d) : DInv (takeS d b).1 ∧ (∀ r ∈ (takeS d b).2, Good r) ∧ (takeS d b).2.length ≤ 2 := by
  unfold takeS
  split
  · rename_i hm
    split
    · rename_i h
      obtain ⟨a, c, e⟩ := follow_inv d b hd hm h.1 h.2
      exact ⟨a, c, by omega⟩
    · obtain ⟨a, c, e⟩ := end_inv d hd
      obtain ⟨a', c', e'⟩ := begin_inv (endS d).1 b h0 h1 a
      refine ⟨a', fun r hr => ?_, by simp; omega⟩
      rcases List.mem_append.1 hr with z | z
      · exact c r z
      · exact c' r z
  · rename_i hm
    have hz : d.missing = 0 := by rcases hd with h | ⟨h, _⟩ | ⟨h, _⟩ | ⟨h, _⟩ | ⟨h, _⟩ <;> first | exact h | (exfalso; omega)
    obtain ⟨a, c, e⟩ := begin_inv d b h0 h1 hz
    exact ⟨a, c, by omega⟩
theorem clean_good (c : CS) (l : List Int) (h : ∀ r ∈ l, Good r) : (∀ r ∈ (cleanAll c l).2, Good r) ∧ (cleanAll c l).2.length ≤ l.length := by
  induction l generalizing c with
  | nil => simp [cleanAll]
  | cons r l ih =>
    obtain ⟨h1, h2⟩ := ih (cleanS c r).1 fun x hx => h x (by simp [hx])
    have hr := h r (by simp)
    have h3 : (∀ x ∈ (cleanS c r).2, Good x) ∧ (cleanS c r).2.length ≤ 1 := by
      simp only [cleanS]
      repeat' split
      · simp
      · simp
      · exact ⟨fun x hx => by simp only [List.mem_singleton] at hx; exact .inl (by omega), by simp⟩
      · exact ⟨fun x hx => by simp only [List.mem_singleton] at hx; exact .inr (by omega), by simp⟩
      · exact ⟨fun x hx => by simp only [List.mem_singleton] at hx; rw [hx]; exact hr, by simp⟩
    refine ⟨fun x hx => ?_, by simp [cleanAll]; omega⟩
    simp only [cleanAll, List.mem_append] at hx
    exact hx.elim (h3.1 x) (h1 x)
theorem from_good (l : List Int) (hl : ∀ b ∈ l, 0 ≤ b ∧ b < 256) : ∀ (c : CS) (d : DS), DInv d → (∀ r ∈ lettersFrom c d l, Good r) ∧ (lettersFrom c d l).length ≤ 2 * l.length + 1 := by
  induction l with
  | nil =>
    intro c d hd
    rw [lettersFrom_nil]
    obtain ⟨_, h2, h3⟩ := end_inv d hd
    obtain ⟨h4, h5⟩ := clean_good c _ h2
    exact ⟨h4, by simp; omega⟩
  | cons b l ih =>
    intro c d hd
    rw [lettersFrom_cons]
    obtain ⟨h1, h2, h3⟩ := take_inv d b (hl b (by simp)).1 (hl b (by simp)).2 hd
    obtain ⟨h4, h5⟩ := clean_good c _ h2
    obtain ⟨h6, h7⟩ := ih (fun x hx => hl x (by simp [hx])) (cleanAll c (takeS d b).2).1 _ h1
    refine ⟨fun r hr => (List.mem_append.1 hr).elim (h4 r) (h6 r), by simp; omega⟩
/-- ████ Every letter is one; there are few. ████ -/
theorem letters_good (s : ByteArray) (hs : s.size ≤ 20000) : (∀ r ∈ lettersOf s, Good r) ∧ 4 * (lettersOf s).length ≤ 1000000 := by
  obtain ⟨h1, h2⟩ := from_good (bytesOf s) (fun b hb => by
    simp only [bytesOf, List.mem_map] at hb
    obtain ⟨x, _, rfl⟩ := hb
    have := x.toNat_lt
    omega) ⟨false, false⟩ ⟨0, 0, 0, 0⟩ (.inl rfl)
  refine ⟨h1, ?_⟩
  have h3 : (bytesOf s).length = s.size := by simp [bytesOf]
  unfold lettersOf
  omega
end Go.Proofs.YtgcaionclkbehaaGreatDoor
