/-
 The laws' company: goroutine 0 alone, the table of names at block 1; awake as a given function.
-/
import Derived.Test.YtgcaionclkbehaaGreatDoorW4
import Derived.Test.YtgcaionclkbehaaGreatDoorP1
set_option linter.all false
namespace Go.Proofs.YtgcaionclkbehaaGreatDoor
open Go.Conc Go.RowKit Go.Lib
section
variable {Post : Value → World → Prop} {Ex : Nat → Prop} {w₀ : World} {An : Who}
theorem mixed_tryz : Tryz.prog.follows .mixedOrders = true := by kernel_rfl
theorem prLone_ok {z1 e1 : Nat} (h1 : An 1 = some (1, z1, e1)) (n : Nat) : PrimOk Tryz.prog KTs An (fun _ : Zx => AtRel) (fun j => DZ j.1) (fun j => ZI Tryz.prog Post 0 j.1) (HdZ Ex w₀) (prLone Tryz.prog n) := by
 have hb := prBase_ok (An := An) (cyZ (Post := Post) (Ex := Ex) (w₀ := w₀))
 constructor
 ·
  intro f g args s v s' hf h
  unfold prLone at hf
  split at hf
  ·
   cases hf
   exact (prOf_sound (Post := Post) (Ex := Ex) (w₀ := w₀) h1 h).1
  ·
   exact hb.nx f g args s v s' hf h
 ·
  intro f g args s v s' hf h
  unfold prLone at hf
  split at hf
  ·
   next he =>
   have he := Nat.eq_of_beq_eq_true he
   subst he
   cases hf
   exact (prOf_sound (Post := Post) (Ex := Ex) (w₀ := w₀) h1 h).2
  ·
   exact hb.sound f g args s v s' hf h
def prAw (P : Program) (n : Nat) : Prim := fun f => if f.beq 15 then some (fun args s => if args.toList.isEmpty ∧ oeq (s.get 1) (some (.cells entC.toArray 335)) = true then some (.bool true, s) else none) else prLone P n f
theorem entC_sc : entC.all isSc = true := by decide +kernel
theorem sA_get (b : Nat) : sA.get b = if b = 1 then some (.cells entC.toArray 335) else none := by
 unfold AS.get sA
 by_cases h : b < 16
 ·
  have h16 : b / 16 = 0 := by omega
  have hm : b % 16 = b := by omega
  rw [h16, hm]
  match b, h with
  | 0, _ => rfl
  | 1, _ => rfl
  | b + 2, _ => rw [if_neg (by omega)]; simp
 ·
  rw [if_neg (by omega)]
  have h16 : 1 ≤ b / 16 := by omega
  obtain ⟨k, hk⟩ : ∃ k, b / 16 = k + 1 := ⟨b / 16 - 1, by omega⟩
  rw [hk]
  simp
theorem prAw_ok {z1 e1 : Nat} (h1 : An 1 = some (1, z1, e1)) (hAn : ∀ b, 32 ≤ b → An b = none) : ∃ n, PrimOk Tryz.prog KTs An (fun _ : Zx => AtRel) (fun j => DZ j.1) (fun j => ZI Tryz.prog Post 0 j.1) (HdZ Ex w₀) (prAw Tryz.prog n) := by
 obtain ⟨n, hn⟩ := of_e
 obtain ⟨s', ⟨m, haw⟩, hs'⟩ := awake_e hn
 have hL := prLone_ok (Post := Post) (Ex := Ex) (w₀ := w₀) h1 n
 refine ⟨n, ?_, ?_⟩
 ·
  intro f g args s v s' hf h
  unfold prAw at hf
  split at hf
  ·
   cases hf
   simp only at h
   split at h
   ·
    cases h; exact Nat.le_refl _
   ·
    cases h
  ·
   exact hL.nx f g args s v s' hf h
 ·
  intro f g args s v s2 hf h
  unfold prAw at hf
  split at hf
  ·
   next he =>
   have he := Nat.eq_of_beq_eq_true he
   subst he
   cases hf
   simp only at h
   split at h
   ·
    next hc =>
    obtain ⟨ha, ho⟩ := hc
    cases h
    have ha : args = #[] := by apply Array.toList_inj.1; simpa using ha
    subst ha
    exact Sound.alone1 (k := 32) (m := 1) (c := 1) (s0 := sA) (s1 := s') cyZ h1 hAn entC_sc sA_get rfl hs' (oeq_sound ho) rfl rfl ((ev_sound cyZ mixed_tryz ktB_ok hL nm_tryz m).2 _ _ _ _ _ haw)
   ·
    cases h
  ·
   exact hL.sound f g args s v s2 hf h
end
end Go.Proofs.YtgcaionclkbehaaGreatDoor
namespace Go.Proofs.YtgcaionclkbehaaGreatDoor
open Go.Conc Go.RowKit Go.Lib
theorem idxF_no {c : UInt8} : ∀ {l : List UInt8} {k : Nat}, c ∉ l → idxF c.toNat l k = -1
 | [], k, _ => rfl
 | b :: l, k, h => by
  unfold idxF
  rw [beq_byte]
  simp only [List.mem_cons, not_or] at h
  rw [show (b == c) = false by simp; exact fun e => h.1 e.symm]
  simp only [if_false, Bool.false_eq_true]
  exact idxF_no h.2
theorem idxF_yes {c : UInt8} {b : List UInt8} : ∀ {a : List UInt8} {k : Nat}, c ∉ a → idxF c.toNat (a ++ c :: b) k = a.length + k
 | [], k, _ => by
  rw [List.nil_append]
  unfold idxF
  rw [beq_byte]
  simp
 | x :: a, k, h => by
  rw [List.cons_append]
  unfold idxF
  rw [beq_byte]
  simp only [List.mem_cons, not_or] at h
  rw [show (x == c) = false by simp; exact fun e => h.1 e.symm]
  simp only [if_false, Bool.false_eq_true]
  rw [idxF_yes h.2]
  simp only [List.length_cons]
  omega
section
variable {n : Nat} {s : AS}
theorem index0_e (l : List UInt8) (c : UInt8) (s : AS) : EF Tryz.prog ktB (prAw Tryz.prog n) 341 #[str l, str [c]] s (.int .i64 (if beqL [c] l = true then 0 else idxF (((c.toNat : Nat) : Int).toNat % 256) l 0)) s := by
 refine EF.of (by kernel_rfl) Tryz.func341 rfl ?_
 iterate 2
  refine EW.seq (EW.go 50 (by kernel_rfl) ?_)
 refine EW.seq (EW.block ?_)
 refine EW.seq (EW.go 50 (by kernel_rfl) ?_)
 refine EW.cond (b := beqL [c] l) (by kernel_rfl) (fun hb => ?_) (fun hb => ?_)
 ·
  rw [if_pos hb]
  refine EW.goE 50 .ret (by kernel_rfl) ?_
  exact ⟨.inr rfl, by kernel_rfl, by kernel_rfl⟩
 ·
  rw [if_neg (by rw [hb]; simp)]
  refine EW.goE 50 .ret (by kernel_rfl) ?_
  exact ⟨.inr rfl, by kernel_rfl, by kernel_rfl⟩
theorem toNat_mod (c : UInt8) : ((c.toNat : Nat) : Int).toNat % 256 = c.toNat := by
 have := c.toNat_lt
 rw [Int.toNat_natCast]
 exact Nat.mod_eq_of_lt this
theorem index_no {l : List UInt8} {c : UInt8} (h : c ∉ l) : EF Tryz.prog ktB (prAw Tryz.prog n) 341 #[str l, str [c]] s (num (-1)) s := by
 have := index0_e (n := n) l c s
 rw [toNat_mod, idxF_no h, beqL_ne (by rintro rfl; simp at h)] at this
 exact this
theorem index_yes {a b : List UInt8} {c : UInt8} (h : c ∉ a) : EF Tryz.prog ktB (prAw Tryz.prog n) 341 #[str (a ++ c :: b), str [c]] s (num a.length) s := by
 have := index0_e (n := n) (a ++ c :: b) c s
 rw [toNat_mod, idxF_yes h] at this
 by_cases hb : beqL [c] (a ++ c :: b) = true
 ·
  have e := (beqL_iff _ _).1 hb
  have ha : a = [] := by
   cases a with
   | nil => rfl
   | cons x a => simp at e
  subst ha
  rw [if_pos hb] at this
  exact this
 ·
  rw [if_neg hb] at this
  exact this
def CutN (c : UInt8) (x a b : List UInt8) (t : Bool) : Prop := (t = false ∧ c ∉ x ∧ a = x ∧ b = []) ∨ (t = true ∧ c ∉ a ∧ x = a ++ c :: b)
theorem take_cut (a b : List UInt8) (c : UInt8) : ((a ++ c :: b).take a.length).drop 0 = a := by simp
theorem drop_cut (a b : List UInt8) (c : UInt8) : ((a ++ c :: b).take (a ++ c :: b).length).drop (a.length + 1) = b := by
 rw [List.take_length, show a ++ c :: b = (a ++ [c]) ++ b by simp, show a.length + 1 = (a ++ [c]).length by simp, List.drop_left]
theorem cut0_e {c : UInt8} {x a b : List UInt8} {t : Bool} (h : CutN c x a b t) (hx : x.length ≤ 1000000) : EF Tryz.prog ktB (prAw Tryz.prog n) 331 #[str x, str [c]] s (.tuple #[str a, str b, .bool t]) s := by
 refine EF.of (by kernel_rfl) Tryz.func331 rfl ?_
 refine EW.seq (EW.go 50 (by kernel_rfl) ?_)
 refine EW.seq (EW.seq (EW.region (by kernel_rfl) ?_))
 refine EO.go 2 50 (by kernel_rfl) ?_
 rcases h with ⟨rfl, h, rfl, rfl⟩ | ⟨rfl, h, rfl⟩
 ·
  refine EO.callF #[str a, str [c]] (by kernel_rfl) rfl rfl (by kernel_rfl) (by kernel_rfl) (index_no h) ?_
  refine EO.fin 50 (by kernel_rfl) ?_
  refine EW.go 50 (by kernel_rfl) ?_
  refine EW.goE 50 .ret (by kernel_rfl) ?_
  exact ⟨.inr rfl, by kernel_rfl, by kernel_rfl⟩
 ·
  have hl : a.length + (b.length + 1) ≤ 1000000 := by simpa using hx
  refine EO.callF #[str (a ++ c :: b), str [c]] (by kernel_rfl) rfl rfl (by kernel_rfl) (by kernel_rfl) (index_yes h) ?_
  refine EO.fin 50 (by kernel_rfl) ?_
  refine EW.seq (EW.go 50 (by kernel_rfl) ?_)
  refine EW.condT (by kernel_rfl) ?_
  refine EW.seq (EW.draw (by kernel_rfl) (by kernel_rfl) (by kernel_rfl) ?_)
  iterate 2
   refine ET.q (by kernel_rfl) (by kernel_rfl) ?_
  refine ET.op (by kernel_rfl) (op_sub (l := a ++ c :: b) (i := 0) (j := a.length) rfl Tryz.underlying9 (by kernel_rfl) ((show _ = evBounds (a ++ c :: b).length (a ++ c :: b).length none (some (num a.length)) by kernel_rfl).trans (bnd_hi (by omega) (by simp; omega))) (take_cut _ _ _)) ?_
  iterate 4
   refine ET.q (by kernel_rfl) (by kernel_rfl) ?_
  refine ET.op (by kernel_rfl) (op_addI (i := a.length) (j := 1) (r := a.length + 1) rfl (by kernel_rfl) (by kernel_rfl) rfl (by omega)) ?_
  refine ET.op (by kernel_rfl) (op_sub (l := a ++ c :: b) (i := a.length + 1) (j := (a ++ c :: b).length) rfl Tryz.underlying9 (by kernel_rfl) ((show _ = evBounds (a ++ c :: b).length (a ++ c :: b).length (some (num (a.length + 1))) none by kernel_rfl).trans (bnd_lo (by omega) (by simp; omega))) (drop_cut _ _ _)) ?_
  iterate 3
   refine ET.q (by kernel_rfl) (by kernel_rfl) ?_
  refine ET.nil ⟨by kernel_rfl, _, _, _, _, _, _, rfl, rfl, ?_⟩
  refine EW.ret ?_
  exact ⟨.inr rfl, by kernel_rfl, by kernel_rfl⟩
theorem cut_e {c : UInt8} {x a b : List UInt8} {t : Bool} (h : CutN c x a b t) (hx : x.length ≤ 1000000) : EF Tryz.prog ktB (prAw Tryz.prog n) 262 #[str x, str [c]] s (.tuple #[str a, str b, .bool t]) s := by
 refine EF.of (by kernel_rfl) Tryz.func262 rfl ?_
 refine EW.seq (EW.go 50 (by kernel_rfl) ?_)
 refine EW.seq (EW.region (by kernel_rfl) ?_)
 refine EO.go 2 50 (by kernel_rfl) ?_
 refine EO.callF #[str x, str [c]] (by kernel_rfl) rfl rfl (by kernel_rfl) (by kernel_rfl) (cut0_e h hx) ?_
 refine EO.fin 50 (by kernel_rfl) ?_
 refine EW.ret ?_
 exact ⟨.inr rfl, by kernel_rfl, by kernel_rfl⟩
end
end Go.Proofs.YtgcaionclkbehaaGreatDoor
namespace Go.Proofs.YtgcaionclkbehaaGreatDoor
open Go.Conc Go.RowKit Go.Lib
section
variable {n : Nat} {s : AS} {pr : Prim}
theorem hasPre_e {l p : List UInt8} {b : Bool} (hp : pr 178 = none) (h : (decide (p.length ≤ l.length) && beqL (l.take p.length) p) = b) : EF Tryz.prog ktB pr 178 #[str l, str p] s (.bool b) s := by
 refine EF.of hp Tryz.func178 rfl ?_
 refine EW.seq (EW.go 5 (by kernel_rfl) ?_)
 refine EW.seq (EW.region (by kernel_rfl) ?_)
 refine EO.go 1 5 (by kernel_rfl) ?_
 refine EO.op (by kernel_rfl) (op_lenS (l := l) rfl Tryz.underlying9 (by kernel_rfl)) ?_
 refine EO.go 1 5 (by kernel_rfl) ?_
 refine EO.op (by kernel_rfl) (op_lenS (l := p) rfl Tryz.underlying9 (by kernel_rfl)) ?_
 by_cases hl : p.length ≤ l.length
 ·
  refine EO.op (by kernel_rfl) (op_bin (u := num l.length) (w := num p.length) rfl (by kernel_rfl) (by kernel_rfl) (bin_geq (b := true) (decide_eq_true (by omega)))) ?_
  refine EO.go 3 5 (by kernel_rfl) ?_
  refine EO.op (by kernel_rfl) (op_lenS (l := p) rfl Tryz.underlying9 (by kernel_rfl)) ?_
  refine EO.op (by kernel_rfl) (op_sub (l := l) (i := 0) (j := p.length) rfl Tryz.underlying9 (by kernel_rfl) ((show _ = evBounds l.length l.length none (some (num p.length)) by kernel_rfl).trans (bnd_hi (by omega) (by omega))) rfl) ?_
  refine EO.fin 5 (by kernel_rfl) ?_
  refine EW.ret ⟨.inr rfl, ?_, by kernel_rfl⟩
  rw [decide_eq_true hl, Bool.true_and] at h
  rw [← h]
  kernel_rfl
 ·
  refine EO.op (by kernel_rfl) (op_bin (u := num l.length) (w := num p.length) rfl (by kernel_rfl) (by kernel_rfl) (bin_geq (b := false) (decide_eq_false (by omega)))) ?_
  refine EO.fin 5 (by kernel_rfl) ?_
  refine EW.ret ⟨.inr rfl, ?_, by kernel_rfl⟩
  rw [decide_eq_false hl, Bool.false_and] at h
  rw [← h]
  kernel_rfl
theorem hasPrefix_e {l p : List UInt8} {b : Bool} (hp : pr 178 = none) (hp' : pr 89 = none) (h : (decide (p.length ≤ l.length) && beqL (l.take p.length) p) = b) : EF Tryz.prog ktB pr 89 #[str l, str p] s (.bool b) s := by
 refine EF.of hp' Tryz.func89 rfl ?_
 refine EW.seq (EW.go 5 (by kernel_rfl) ?_)
 refine EW.seq (EW.region (by kernel_rfl) ?_)
 refine EO.go 2 5 (by kernel_rfl) ?_
 refine EO.callF #[str l, str p] (by kernel_rfl) rfl rfl (by kernel_rfl) (by kernel_rfl) (hasPre_e hp h) ?_
 refine EO.fin 5 (by kernel_rfl) ?_
 exact EW.ret ⟨.inr rfl, by kernel_rfl, by kernel_rfl⟩
theorem cutPre0_e {l p x : List UInt8} {b : Bool} (h : (b = false ∧ (decide (p.length ≤ l.length) && beqL (l.take p.length) p) = false ∧ x = l) ∨ (b = true ∧ l = p ++ x)) : EF Tryz.prog ktB (prAw Tryz.prog n) 340 #[str l, str p] s (.tuple #[str x, .bool b]) s := by
 refine EF.of (by kernel_rfl) Tryz.func340 rfl ?_
 refine EW.seq (EW.go 5 (by kernel_rfl) ?_)
 refine EW.seq (EW.seq (EW.region (by kernel_rfl) ?_))
 refine EO.go 2 5 (by kernel_rfl) ?_
 rcases h with ⟨rfl, h, rfl⟩ | ⟨rfl, rfl⟩
 ·
  refine EO.callF #[str x, str p] (by kernel_rfl) rfl rfl (by kernel_rfl) (by kernel_rfl) (hasPre_e (by kernel_rfl) h) ?_
  refine EO.fin 5 (by kernel_rfl) ?_
  refine EW.goE 5 .ret (by kernel_rfl) ?_
  exact ⟨.inr rfl, by kernel_rfl, by kernel_rfl⟩
 ·
  refine EO.callF #[str (p ++ x), str p] (by kernel_rfl) rfl rfl (by kernel_rfl) (by kernel_rfl) (hasPre_e (b := true) (by kernel_rfl) (by simp [(beqL_iff p p).2 rfl])) ?_
  refine EO.fin 5 (by kernel_rfl) ?_
  refine EW.go 5 (by kernel_rfl) ?_
  refine EW.seq (EW.region (by kernel_rfl) ?_)
  refine EO.go 2 5 (by kernel_rfl) ?_
  refine EO.op (by kernel_rfl) (op_lenS (l := p) rfl Tryz.underlying9 (by kernel_rfl)) ?_
  refine EO.op (by kernel_rfl) (op_sub (l := p ++ x) (i := p.length) (j := (p ++ x).length) rfl Tryz.underlying9 (by kernel_rfl) ((show _ = evBounds (p ++ x).length (p ++ x).length (some (num p.length)) none by kernel_rfl).trans (bnd_lo (by omega) (by simp; omega))) (by rw [List.take_length, List.drop_left])) ?_
  refine EO.fin 5 (by kernel_rfl) ?_
  exact EW.ret ⟨.inr rfl, by kernel_rfl, by kernel_rfl⟩
theorem cutPre_e {l p x : List UInt8} {b : Bool} (h : (b = false ∧ (decide (p.length ≤ l.length) && beqL (l.take p.length) p) = false ∧ x = l) ∨ (b = true ∧ l = p ++ x)) : EF Tryz.prog ktB (prAw Tryz.prog n) 269 #[str l, str p] s (.tuple #[str x, .bool b]) s := by
 refine EF.of (by kernel_rfl) Tryz.func269 rfl ?_
 refine EW.seq (EW.go 5 (by kernel_rfl) ?_)
 refine EW.seq (EW.region (by kernel_rfl) ?_)
 refine EO.go 2 5 (by kernel_rfl) ?_
 refine EO.callF #[str l, str p] (by kernel_rfl) rfl rfl (by kernel_rfl) (by kernel_rfl) (cutPre0_e h) ?_
 refine EO.fin 5 (by kernel_rfl) ?_
 exact EW.ret ⟨.inr rfl, by kernel_rfl, by kernel_rfl⟩
theorem indexS_yes {a b : List UInt8} {c : UInt8} (h : c ∉ a) : EF Tryz.prog ktB (prAw Tryz.prog n) 270 #[str (a ++ c :: b), str [c]] s (num a.length) s := by
 refine EF.of (by kernel_rfl) Tryz.func270 rfl ?_
 refine EW.seq (EW.go 5 (by kernel_rfl) ?_)
 refine EW.seq (EW.region (by kernel_rfl) ?_)
 refine EO.go 2 5 (by kernel_rfl) ?_
 refine EO.callF #[str (a ++ c :: b), str [c]] (by kernel_rfl) rfl rfl (by kernel_rfl) (by kernel_rfl) (index_yes h) ?_
 refine EO.fin 5 (by kernel_rfl) ?_
 exact EW.ret ⟨.inr rfl, by kernel_rfl, by kernel_rfl⟩
abbrev z0 : AS := ⟨[], 32⟩
theorem cutFrom_e {c : UInt8} {x a b : List UInt8} {t : Bool} (h : CutN c x a b t) (hx : x.length ≤ 1000000) : ∃ s1, EF Tryz.prog ktB (prAw Tryz.prog n) 171 #[str x, str [c]] z0 (.tuple #[str a, .agg #[str b, .bool t]]) s1 := by
 suffices h : ∃ s1, EF Tryz.prog ktB (prAw Tryz.prog n) 171 #[str x, str [c]] z0 (.tuple #[str a, .agg #[str b, .bool t]]) s1 ∧ True from h.imp fun _ h => h.1
 refine EF.ofE (by kernel_rfl) Tryz.func171 rfl ?_
 refine EW.seq (EW.go 50 (by kernel_rfl) ?_)
 refine EW.seq (EW.region (by kernel_rfl) ?_)
 refine EO.go 2 50 (by kernel_rfl) ?_
 refine EO.callF #[str x, str [c]] (by kernel_rfl) rfl rfl (by kernel_rfl) (by kernel_rfl) (cut_e h hx) ?_
 refine EO.fin 50 (by kernel_rfl) ?_
 refine EW.goE 50 .ret (by kernel_rfl) ?_
 exact ⟨.inr rfl, by kernel_rfl, trivial⟩
abbrev httpL : List UInt8 := [104, 116, 116, 112]
abbrev ftpL : List UInt8 := [102, 116, 112]
def SchN (x sa : List UInt8) (sb : Bool) (y : List UInt8) : Prop := (sb = false ∧ 58 ∉ x ∧ sa = [] ∧ y = x) ∨ (sb = true ∧ (sa = httpL ∨ sa = ftpL) ∧ x = sa ++ 58 :: y)
theorem cutScheme_e {x sa y : List UInt8} {sb : Bool} (h : SchN x sa sb y) (hx : x.length ≤ 1000000) : ∃ s1, EF Tryz.prog ktB (prAw Tryz.prog n) 172 #[str x] z0 (.tuple #[.agg #[str sa, .bool sb], str y]) s1 := by
 suffices h : ∃ s1, EF Tryz.prog ktB (prAw Tryz.prog n) 172 #[str x] z0 (.tuple #[.agg #[str sa, .bool sb], str y]) s1 ∧ True from h.imp fun _ h => h.1
 refine EF.ofE (by kernel_rfl) Tryz.func172 rfl ?_
 refine EW.seq (EW.go 50 (by kernel_rfl) ?_)
 refine EW.seq (EW.region (by kernel_rfl) ?_)
 refine EO.go 1 50 (by kernel_rfl) ?_
 rcases h with ⟨rfl, h, rfl, rfl⟩ | ⟨rfl, rfl | rfl, rfl⟩
 ·
  refine EO.callF #[str y, str [58]] (by kernel_rfl) rfl rfl (by kernel_rfl) (by kernel_rfl) (cut_e (.inl ⟨rfl, h, rfl, rfl⟩) hx) ?_
  refine EO.fin 50 (by kernel_rfl) ?_
  refine EW.seq (EW.goE 50 .ret (by kernel_rfl) ?_)
  exact ⟨.inr rfl, by kernel_rfl, trivial⟩
 ·
  refine EO.callF #[str (httpL ++ 58 :: y), str [58]] (by kernel_rfl) rfl rfl (by kernel_rfl) (by kernel_rfl) (cut_e (a := httpL) (b := y) (t := true) (.inr ⟨rfl, by decide, rfl⟩) hx) ?_
  refine EO.fin 50 (by kernel_rfl) ?_
  refine EW.seq (EW.go 500 (by kernel_rfl) ?_)
  refine EW.goE 50 .ret (by kernel_rfl) ?_
  exact ⟨.inr rfl, by kernel_rfl, trivial⟩
 ·
  refine EO.callF #[str (ftpL ++ 58 :: y), str [58]] (by kernel_rfl) rfl rfl (by kernel_rfl) (by kernel_rfl) (cut_e (a := ftpL) (b := y) (t := true) (.inr ⟨rfl, by decide, rfl⟩) hx) ?_
  refine EO.fin 50 (by kernel_rfl) ?_
  refine EW.seq (EW.go 500 (by kernel_rfl) ?_)
  refine EW.goE 50 .ret (by kernel_rfl) ?_
  exact ⟨.inr rfl, by kernel_rfl, trivial⟩
def HostN (x ha : List UInt8) (hb : Bool) (p : List UInt8) : Prop := (hb = false ∧ (decide (2 ≤ x.length) && beqL (x.take 2) [47, 47]) = false ∧ ha = [] ∧ p = x) ∨ (hb = true ∧ 47 ∉ ha ∧ x = [47, 47] ++ (ha ++ p) ∧ ∃ p', p = 47 :: p')
theorem cutHost_e {x ha p : List UInt8} {hb : Bool} (h : HostN x ha hb p) (hx : x.length ≤ 1000000) : ∃ s1, EF Tryz.prog ktB (prAw Tryz.prog n) 173 #[str x] z0 (.tuple #[.agg #[str ha, .bool hb], str p]) s1 := by
 suffices h : ∃ s1, EF Tryz.prog ktB (prAw Tryz.prog n) 173 #[str x] z0 (.tuple #[.agg #[str ha, .bool hb], str p]) s1 ∧ True from h.imp fun _ h => h.1
 refine EF.ofE (by kernel_rfl) Tryz.func173 rfl ?_
 refine EW.seq (EW.go 50 (by kernel_rfl) ?_)
 refine EW.seq (EW.region (by kernel_rfl) ?_)
 refine EO.go 1 50 (by kernel_rfl) ?_
 rcases h with ⟨rfl, h, rfl, rfl⟩ | ⟨rfl, h, rfl, p', rfl⟩
 ·
  refine EO.callF #[str p, str [47, 47]] (by kernel_rfl) rfl rfl (by kernel_rfl) (by kernel_rfl) (cutPre_e (.inl ⟨rfl, h, rfl⟩)) ?_
  refine EO.fin 50 (by kernel_rfl) ?_
  refine EW.seq (EW.goE 50 .ret (by kernel_rfl) ?_)
  exact ⟨.inr rfl, by kernel_rfl, trivial⟩
 ·
  refine EO.callF #[str ([47, 47] ++ (ha ++ 47 :: p')), str [47, 47]] (by kernel_rfl) rfl rfl (by kernel_rfl) (by kernel_rfl) (cutPre_e (.inr ⟨rfl, rfl⟩)) ?_
  refine EO.fin 50 (by kernel_rfl) ?_
  refine EW.seq (EW.go 50 (by kernel_rfl) ?_)
  refine EW.seq (EW.region (by kernel_rfl) ?_)
  refine EO.go 1 50 (by kernel_rfl) ?_
  refine EO.callF #[str (ha ++ 47 :: p'), str [47]] (by kernel_rfl) rfl rfl (by kernel_rfl) (by kernel_rfl) (indexS_yes h) ?_
  refine EO.fin 50 (by kernel_rfl) ?_
  refine EW.seq (EW.go 50 (by kernel_rfl) ?_)
  refine EW.seq (EW.draw (by kernel_rfl) (by kernel_rfl) (by kernel_rfl) ?_)
  iterate 2
   refine ET.q (by kernel_rfl) (by kernel_rfl) ?_
  refine ET.op (by kernel_rfl) (op_sub (l := ha ++ 47 :: p') (i := 0) (j := ha.length) rfl Tryz.underlying9 (by kernel_rfl) ((show _ = evBounds (ha ++ 47 :: p').length (ha ++ 47 :: p').length none (some (num ha.length)) by kernel_rfl).trans (bnd_hi (by omega) (by simp; omega))) (take_cut _ _ _)) ?_
  iterate 3
   refine ET.q (by kernel_rfl) (by kernel_rfl) ?_
  refine ET.op (by kernel_rfl) (op_sub (l := ha ++ 47 :: p') (i := ha.length) (j := (ha ++ 47 :: p').length) rfl Tryz.underlying9 (by kernel_rfl) ((show _ = evBounds (ha ++ 47 :: p').length (ha ++ 47 :: p').length (some (num ha.length)) none by kernel_rfl).trans (bnd_lo (by omega) (by simp; omega))) (by rw [List.take_length, List.drop_left])) ?_
  iterate 2
   refine ET.q (by kernel_rfl) (by kernel_rfl) ?_
  refine ET.nil ⟨by kernel_rfl, _, _, _, _, _, _, rfl, rfl, ?_⟩
  exact EW.ret ⟨.inr rfl, by kernel_rfl, trivial⟩
end
end Go.Proofs.YtgcaionclkbehaaGreatDoor
