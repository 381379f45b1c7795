/-
 foliokeep.Resolved, over the heap of names.
-/
import Derived.Test.YtgcaionclkbehaaGreatDoorA13
set_option linter.all false
namespace Go.Proofs.YtgcaionclkbehaaGreatDoor
open Go.Conc Go.RowKit Go.Lib
def upL : Nat → List UInt8
 | 0 => [103]
 | n + 1 => [46, 46, 47] ++ upL n
theorem upL_len (n : Nat) : (upL n).length = 3 * n + 1 := by
 induction n with
 | zero => rfl
 | succ n ih => unfold upL; simp only [List.length_append, List.length_cons, List.length_nil, ih]; omega
abbrev stL : List UInt8 := [115, 47, 116, 47, 46, 46, 47, 46, 46, 47, 103]
abbrev ftpX : List UInt8 := [102, 116, 112, 58, 120]
def sl13b (q base w1 w2 w3 : List UInt8) (N d i : Nat) (r want : List UInt8) (x : Nat → Value) : TL := [x 0, x 1, str q, x 3, x 4, x 5, x 6, .bool true, str base, num ((d : Nat) : Int), x 10, str w1, str w2, str w3, num ((N : Nat) : Int), str r, str want, num ((i : Nat) : Int), x 18, x 19, x 20, x 21, x 22, x 23, x 24, x 25, x 26, x 27, x 28, x 29, x 30, x 31, x 32, x 33, x 34, x 35, x 36, x 37, x 38, x 39, x 40, x 41, x 42, x 43, x 44, x 45, x 46, x 47, x 48, x 49, x 50, x 51, x 52, x 53, x 54, x 55, x 56, x 57, x 58, x 59, x 60, x 61, x 62, x 63, x 64, x 65, x 66, x 67, x 68, x 69, x 70, x 71, x 72, x 73, x 74, x 75, x 76, x 77, x 78, x 79, x 80, x 81, x 82, x 83, x 84, x 85, x 86, x 87, x 88, x 89, x 90, x 91, x 92, x 93, x 94, x 95, x 96, x 97, x 98, x 99, x 100, x 101, x 102, x 103, x 104, x 105, x 106, x 107, x 108, x 109, x 110, x 111, x 112, x 113, x 114, x 115, x 116, x 117, x 118, x 119, x 120, x 121]
structure ResV (V : Array Value → Option Value) : Prop where
 r1 : ∀ cs q, lowC cs → cs.length ≤ 10 → smallOk q → V #[str (baseL cs ++ [102, 63] ++ q), str stL] = some (str (baseL cs ++ [103]))
 r2 : ∀ cs q, lowC cs → cs.length ≤ 10 → smallOk q → V #[str (baseL cs ++ [102, 63] ++ q ++ [35, 109]), str []] = some (str (baseL cs ++ [102, 63] ++ q))
 r3 : ∀ cs q, lowC cs → cs.length ≤ 10 → smallOk q → V #[str (baseL cs ++ [102]), str ([35] ++ q)] = some (str (baseL cs ++ [102, 35] ++ q))
 r4 : ∀ cs n, lowC cs → cs.length ≤ 10 → n ≤ 13 → V #[str (baseL cs ++ [102]), str (upL n)] = some (str (baseL (cs.take (cs.length - n)) ++ [103]))
 r5 : ∀ cs, lowC cs → cs.length ≤ 10 → V #[str (baseL cs ++ [102]), str ftpX] = some (str ftpX)
section
variable {Post : Value → World → Prop} {Ex : Nat → Prop} {w₀ : World} {An : Who} {pr : Prim}
theorem tail13_e (h19 : pr 19 = none) (h31 : pr 31 = none) (h32 : pr 32 = none) {V : Array Value → Option Value} (h49 : pr 49 = some (alG V)) (hV : ResV V) {v0 : Value} {u : Int} (hu : -9223372036854775808 ≤ u ∧ u ≤ 9223372036854775807) {q0 cs : List UInt8} (hq0 : q0.length ≤ 9223372036854775807) (hlow : lowC cs) (hcs : cs.length ≤ 10) {x : Nat → Value} {s : AS} : ∀ c, (match Tryz.f13.body with | some (.seq _ (.seq _ (.seq _ (.seq _ (.seq _ c))))) => c | _ => .skip) = c → EW Tryz.prog ktB pr c (sl13 v0 u q0 cs x) s (fun e a' s' => e = .ret ∧ a'.getD 6 undef = .bool true ∧ s' = s) := by
 rintro c rfl
 have hbl := baseL_len cs
 obtain ⟨q, hqo, hsm⟩ := small_e (pr := pr) (s := s) h31 hq0
 have hql := hqo.1
 refine EW.seq (EW.region (by kernel_rfl) ?_)
 refine EO.go 1 5 (by kernel_rfl) ?_
 refine EO.asS s (by kernel_rfl) ?_
 refine EO.callF #[str q0] (by kernel_rfl) rfl rfl (by kernel_rfl) (by kernel_rfl) hsm ?_
 refine EO.fin 5 (by kernel_rfl) ?_
 refine EW.seq (EW.region (by kernel_rfl) ?_)
 refine EO.go 1 5 (by kernel_rfl) ?_
 refine EO.op (by kernel_rfl) (op_addS (l := baseL cs) (m := [102, 63]) rfl (by kernel_rfl) (by kernel_rfl) (by simp only [List.length_append, List.length_cons, List.length_nil]; omega)) ?_
 refine EO.go 1 5 (by kernel_rfl) ?_
 refine EO.op (by kernel_rfl) (op_addS (l := baseL cs ++ [102, 63]) (m := q) rfl (by kernel_rfl) (by kernel_rfl) (by simp only [List.length_append, List.length_cons, List.length_nil]; omega)) ?_
 refine EO.asS s (by kernel_rfl) ?_
 refine EO.callF #[str (baseL cs ++ [102, 63] ++ q), str stL] (by kernel_rfl) rfl rfl (by kernel_rfl) (by kernel_rfl) (resolveW_e h32 h49 (hV.r1 cs q hlow hcs hqo)) ?_
 refine EO.fin 5 (by kernel_rfl) ?_
 refine EW.seq (EW.region (by kernel_rfl) ?_)
 refine EO.go 1 5 (by kernel_rfl) ?_
 refine EO.op (by kernel_rfl) (op_addS (l := baseL cs) (m := [102, 63]) rfl (by kernel_rfl) (by kernel_rfl) (by simp only [List.length_append, List.length_cons, List.length_nil]; omega)) ?_
 refine EO.go 1 5 (by kernel_rfl) ?_
 refine EO.op (by kernel_rfl) (op_addS (l := baseL cs ++ [102, 63]) (m := q) rfl (by kernel_rfl) (by kernel_rfl) (by simp only [List.length_append, List.length_cons, List.length_nil]; omega)) ?_
 refine EO.op (by kernel_rfl) (op_addS (l := baseL cs ++ [102, 63] ++ q) (m := [35, 109]) rfl (by kernel_rfl) (by kernel_rfl) (by simp only [List.length_append, List.length_cons, List.length_nil]; omega)) ?_
 refine EO.asS s (by kernel_rfl) ?_
 refine EO.callF #[str (baseL cs ++ [102, 63] ++ q ++ [35, 109]), str []] (by kernel_rfl) rfl rfl (by kernel_rfl) (by kernel_rfl) (resolveW_e h32 h49 (hV.r2 cs q hlow hcs hqo)) ?_
 refine EO.fin 5 (by kernel_rfl) ?_
 refine EW.seq (EW.region (by kernel_rfl) ?_)
 refine EO.go 1 5 (by kernel_rfl) ?_
 refine EO.op (by kernel_rfl) (op_addS (l := baseL cs) (m := [102]) rfl (by kernel_rfl) (by kernel_rfl) (by simp only [List.length_append, List.length_cons, List.length_nil]; omega)) ?_
 refine EO.go 1 5 (by kernel_rfl) ?_
 refine EO.op (by kernel_rfl) (op_addS (l := [35]) (m := q) rfl (by kernel_rfl) (by kernel_rfl) (by simp only [List.length_append, List.length_cons, List.length_nil]; omega)) ?_
 refine EO.asS s (by kernel_rfl) ?_
 refine EO.callF #[str (baseL cs ++ [102]), str ([35] ++ q)] (by kernel_rfl) rfl rfl (by kernel_rfl) (by kernel_rfl) (resolveW_e h32 h49 (hV.r3 cs q hlow hcs hqo)) ?_
 refine EO.fin 5 (by kernel_rfl) ?_
 have hN : pickN u 14 < 14 := pickN_lt u 14 (by omega)
 refine EW.seq (EW.region (by kernel_rfl) ?_)
 refine EO.go 1 5 (by kernel_rfl) ?_
 refine EO.asS s (by kernel_rfl) ?_
 refine EO.callF #[num u, num 14] (by kernel_rfl) rfl rfl (by kernel_rfl) (by kernel_rfl) (pick14_e h19 hu) ?_
 refine EO.fin 5 (by kernel_rfl) ?_
 generalize pickN u 14 = N at hN ⊢
 iterate 2
  refine EW.seq (EW.go 5 (by kernel_rfl) ?_)
 refine EW.seq (EW.seq (EW.go 5 (by kernel_rfl) ?_))
 refine EW.asS s (by kernel_rfl) ?_
 refine EW.fill (sl13b q (baseL cs) (baseL cs ++ [103]) (baseL cs ++ [102, 63] ++ q) (baseL cs ++ [102, 35] ++ q) N cs.length 0 [103] (baseL cs)) (by kernel_rfl) ?_
 intro x0
 refine EW.block ?_
 refine EW.mono (EW.loopI (Q := fun e a' s' => e = .exit 2 ∧ s' = s ∧ ∃ x, a' = sl13b q (baseL cs) (baseL cs ++ [103]) (baseL cs ++ [102, 63] ++ q) (baseL cs ++ [102, 35] ++ q) N (cs.length - N) N (upL N) (baseL (cs.take (cs.length - N))) x) (fun m a' s' => s' = s ∧ ∃ i, i + m = N ∧ ∃ x, a' = sl13b q (baseL cs) (baseL cs ++ [103]) (baseL cs ++ [102, 63] ++ q) (baseL cs ++ [102, 35] ++ q) N (cs.length - i) i (upL i) (baseL (cs.take (cs.length - i))) x) ?_ N _ _ ⟨rfl, 0, by omega, x0, by rw [Nat.sub_zero, List.take_length]; rfl⟩) ?_
 ·
  rintro m a' s' ⟨rfl, i, him, x, rfl⟩
  have hul := upL_len i
  cases m with
  | zero =>
   have hi : i = N := by omega
   subst hi
   refine EW.seq (EW.seq (EW.region (by kernel_rfl) ?_))
   refine EO.go 2 5 (by kernel_rfl) ?_
   refine EO.op (by kernel_rfl) (op_bin (u := num ((i : Nat) : Int)) (w := num ((i : Nat) : Int)) rfl (by kernel_rfl) (by kernel_rfl) (bin_lss (b := false) (decide_eq_false (by omega)))) ?_
   refine EO.nil ?_
   refine EW.condF (by kernel_rfl) (EW.exit ?_)
   exact ⟨rfl, by kernel_rfl, fillX (by kernel_rfl)⟩
  | succ k =>
   refine EW.seq (EW.seq (EW.region (by kernel_rfl) ?_))
   refine EO.go 2 5 (by kernel_rfl) ?_
   refine EO.op (by kernel_rfl) (op_bin (u := num ((i : Nat) : Int)) (w := num ((N : Nat) : Int)) rfl (by kernel_rfl) (by kernel_rfl) (bin_lss (b := true) (decide_eq_true (by omega)))) ?_
   refine EO.nil ?_
   refine EW.condT (by kernel_rfl) (EW.skip ?_)
   refine EW.seq (EW.block ?_)
   refine EW.seq (EW.region (by kernel_rfl) ?_)
   refine EO.go 1 5 (by kernel_rfl) ?_
   refine EO.op (by kernel_rfl) (op_addS (l := [46, 46, 47]) (m := upL i) rfl (by kernel_rfl) (by kernel_rfl) (by simp only [List.length_append, List.length_cons, List.length_nil]; omega)) ?_
   refine EO.fin 5 (by kernel_rfl) ?_
   refine EW.seq (EW.region (by kernel_rfl) ?_)
   refine EO.go 1 5 (by kernel_rfl) ?_
   by_cases hd : 0 < cs.length - i
   ·
    have hbk := baseL_len (cs.take (cs.length - i))
    have hsp : ∃ c, cs.take (cs.length - i) = cs.take (cs.length - (i + 1)) ++ [c] := by
     obtain ⟨j, hj⟩ : ∃ j, cs.length - i = j + 1 := ⟨cs.length - i - 1, by omega⟩
     have hlt : j < cs.length := by omega
     refine ⟨cs[j], ?_⟩
     rw [hj, show cs.length - (i + 1) = j by omega, List.take_add_one, List.getElem?_eq_getElem hlt]
     rfl
    obtain ⟨c, hsp⟩ := hsp
    refine EO.op (by kernel_rfl) (op_bin (u := num ((cs.length - i : Nat) : Int)) (w := num 0) rfl (by kernel_rfl) (by kernel_rfl) (bin_gtr (b := true) (decide_eq_true (by omega)))) ?_
    refine EO.nil ?_
    refine EW.condT (by kernel_rfl) ?_
    refine EW.seq (EW.region (by kernel_rfl) ?_)
    refine EO.go 2 5 (by kernel_rfl) ?_
    refine EO.op (by kernel_rfl) (op_lenS (l := baseL (cs.take (cs.length - i))) rfl Tryz.underlying9 (by kernel_rfl)) ?_
    have hbl2 : (baseL (cs.take (cs.length - i))).length = (baseL (cs.take (cs.length - (i + 1)))).length + 2 := by rw [hsp, baseL_snoc]; simp
    refine EO.op (by kernel_rfl) (op_subI (i := ((baseL (cs.take (cs.length - i))).length : Int)) (j := 2) (r := ((baseL (cs.take (cs.length - (i + 1)))).length : Int)) rfl (by kernel_rfl) (by kernel_rfl) (by omega) (by simp only [List.length_take] at hbk; omega)) ?_
    refine EO.op (by kernel_rfl) (op_sub (l := baseL (cs.take (cs.length - i))) (m := baseL (cs.take (cs.length - (i + 1)))) (i := 0) (j := (baseL (cs.take (cs.length - (i + 1)))).length) rfl Tryz.underlying9 (by kernel_rfl) ((show _ = evBounds (baseL (cs.take (cs.length - i))).length (baseL (cs.take (cs.length - i))).length none (some (num ((baseL (cs.take (cs.length - (i + 1)))).length : Int))) by kernel_rfl).trans ((bnd_hi (by omega) (by omega)).trans (by rw [Int.toNat_natCast]))) (by rw [hsp, baseL_snoc, List.append_assoc, List.take_left, List.drop_zero])) ?_
    refine EO.fin 5 (by kernel_rfl) ?_
    refine EW.region (by kernel_rfl) ?_
    refine EO.go 1 5 (by kernel_rfl) ?_
    refine EO.op (by kernel_rfl) (op_subI (i := ((cs.length - i : Nat) : Int)) (j := 1) (r := ((cs.length - (i + 1) : Nat) : Int)) rfl (by kernel_rfl) (by kernel_rfl) (by omega) (by omega)) ?_
    refine EO.fin 5 (by kernel_rfl) ?_
    refine EW.region (by kernel_rfl) ?_
    refine EO.go 1 5 (by kernel_rfl) ?_
    refine EO.op (by kernel_rfl) (op_addI (i := ((i : Nat) : Int)) (j := 1) (r := ((i + 1 : Nat) : Int)) rfl (by kernel_rfl) (by kernel_rfl) (by omega) (by omega)) ?_
    refine EO.fin 5 (by kernel_rfl) ?_
    exact ⟨k, Nat.lt_succ_self k, by kernel_rfl, i + 1, by omega, fillX (by kernel_rfl)⟩
   ·
    refine EO.op (by kernel_rfl) (op_bin (u := num ((cs.length - i : Nat) : Int)) (w := num 0) rfl (by kernel_rfl) (by kernel_rfl) (bin_gtr (b := false) (decide_eq_false (by omega)))) ?_
    refine EO.nil ?_
    refine EW.condF (by kernel_rfl) (EW.skip ?_)
    refine EW.region (by kernel_rfl) ?_
    refine EO.go 1 5 (by kernel_rfl) ?_
    refine EO.op (by kernel_rfl) (op_addI (i := ((i : Nat) : Int)) (j := 1) (r := ((i + 1 : Nat) : Int)) rfl (by kernel_rfl) (by kernel_rfl) (by omega) (by omega)) ?_
    refine EO.fin 5 (by kernel_rfl) ?_
    refine ⟨k, Nat.lt_succ_self k, by kernel_rfl, i + 1, by omega, ?_⟩
    rw [show cs.length - (i + 1) = cs.length - i by omega]
    exact fillX (by kernel_rfl)
 ·
  rintro e a' s' ⟨rfl, rfl, x, rfl⟩
  have hbk := baseL_len (cs.take (cs.length - N))
  simp only [List.length_take] at hbk
  refine EW.seq (EW.region (by kernel_rfl) ?_)
  refine EO.go 1 5 (by kernel_rfl) ?_
  refine EO.op (by kernel_rfl) (op_addS (l := baseL cs) (m := [102]) rfl (by kernel_rfl) (by kernel_rfl) (by simp only [List.length_append, List.length_cons, List.length_nil]; omega)) ?_
  refine EO.go 1 5 (by kernel_rfl) ?_
  refine EO.asS s' (by kernel_rfl) ?_
  refine EO.callF #[str (baseL cs ++ [102]), str (upL N)] (by kernel_rfl) rfl rfl (by kernel_rfl) (by kernel_rfl) (resolveW_e h32 h49 (hV.r4 cs N hlow hcs (by omega))) ?_
  refine EO.fin 5 (by kernel_rfl) ?_
  refine EW.seq (EW.region (by kernel_rfl) ?_)
  refine EO.go 1 5 (by kernel_rfl) ?_
  refine EO.op (by kernel_rfl) (op_addS (l := baseL cs) (m := [102]) rfl (by kernel_rfl) (by kernel_rfl) (by simp only [List.length_append, List.length_cons, List.length_nil]; omega)) ?_
  refine EO.asS s' (by kernel_rfl) ?_
  refine EO.callF #[str (baseL cs ++ [102]), str ftpX] (by kernel_rfl) rfl rfl (by kernel_rfl) (by kernel_rfl) (resolveW_e h32 h49 (hV.r5 cs hlow hcs)) ?_
  refine EO.fin 5 (by kernel_rfl) ?_
  refine EW.seq (EW.region (by kernel_rfl) ?_)
  refine EO.go 4 5 (by kernel_rfl) ?_
  refine EO.op (by kernel_rfl) (op_addS (l := baseL cs) (m := [103]) rfl (by kernel_rfl) (by kernel_rfl) (by simp only [List.length_append, List.length_cons, List.length_nil]; omega)) ?_
  refine EO.op (by kernel_rfl) (op_bin (u := str (baseL cs ++ [103])) (w := str (baseL cs ++ [103])) rfl (by kernel_rfl) (by kernel_rfl) (bin_eqS (b := true) ((beqL_iff _ _).2 rfl))) ?_
  refine EO.go 4 5 (by kernel_rfl) ?_
  refine EO.op (by kernel_rfl) (op_addS (l := baseL cs) (m := [102, 63]) rfl (by kernel_rfl) (by kernel_rfl) (by simp only [List.length_append, List.length_cons, List.length_nil]; omega)) ?_
  refine EO.go 1 5 (by kernel_rfl) ?_
  refine EO.op (by kernel_rfl) (op_addS (l := baseL cs ++ [102, 63]) (m := q) rfl (by kernel_rfl) (by kernel_rfl) (by simp only [List.length_append, List.length_cons, List.length_nil]; omega)) ?_
  refine EO.op (by kernel_rfl) (op_bin (u := str (baseL cs ++ [102, 63] ++ q)) (w := str (baseL cs ++ [102, 63] ++ q)) rfl (by kernel_rfl) (by kernel_rfl) (bin_eqS (b := true) ((beqL_iff _ _).2 rfl))) ?_
  refine EO.go 4 5 (by kernel_rfl) ?_
  refine EO.op (by kernel_rfl) (op_addS (l := baseL cs) (m := [102, 35]) rfl (by kernel_rfl) (by kernel_rfl) (by simp only [List.length_append, List.length_cons, List.length_nil]; omega)) ?_
  refine EO.go 1 5 (by kernel_rfl) ?_
  refine EO.op (by kernel_rfl) (op_addS (l := baseL cs ++ [102, 35]) (m := q) rfl (by kernel_rfl) (by kernel_rfl) (by simp only [List.length_append, List.length_cons, List.length_nil]; omega)) ?_
  refine EO.op (by kernel_rfl) (op_bin (u := str (baseL cs ++ [102, 35] ++ q)) (w := str (baseL cs ++ [102, 35] ++ q)) rfl (by kernel_rfl) (by kernel_rfl) (bin_eqS (b := true) ((beqL_iff _ _).2 rfl))) ?_
  refine EO.go 4 5 (by kernel_rfl) ?_
  refine EO.op (by kernel_rfl) (op_addS (l := baseL (cs.take (cs.length - N))) (m := [103]) rfl (by kernel_rfl) (by kernel_rfl) (by simp only [List.length_append, List.length_cons, List.length_nil]; omega)) ?_
  refine EO.op (by kernel_rfl) (op_bin (u := str (baseL (cs.take (cs.length - N)) ++ [103])) (w := str (baseL (cs.take (cs.length - N)) ++ [103])) rfl (by kernel_rfl) (by kernel_rfl) (bin_eqS (b := true) ((beqL_iff _ _).2 rfl))) ?_
  refine EO.fin 5 (by kernel_rfl) ?_
  exact EW.ret ⟨rfl, by kernel_rfl, by kernel_rfl⟩
end
end Go.Proofs.YtgcaionclkbehaaGreatDoor
namespace Go.Proofs.YtgcaionclkbehaaGreatDoor
open Go.Conc Go.RowKit Go.Lib
section
variable {ι : Type} {P : Program} {KT : TypeId → Prop} {An : Who} {N0 : ι → Nat} {M : ι → World → Nat → Prop} {O : ι → Nat → Prop} {R : ι → World → World → Prop} {D : ι → World → World → Array Event → Prop} {X : ι → Goroutine → World → Prop} {Hd : ι → List (Nat × Obj) → World → Prop} {pr pr0 : Prim} {kt : TypeId → Bool}
open Classical in
theorem PrimOk.alone2 (Y : Cy P KT N0 M O R D X Hd) (hm : P.follows .mixedOrders = true) (hkt : ∀ t, kt t = false → ¬ KT t) (hnm : ∀ (f : FuncId) (f₀ : Func), P.funcs[f]? = some f₀ → (f₀.name == "runtime.NumGoroutine") = false) {k m : Nat} (hAn : ∀ b, k ≤ b → An b = none) (hp0 : PrimOk P KT An R D X Hd pr0) (hp : PrimOk P KT An R D X Hd pr) (f : FuncId) : ∃ V, PrimOk P KT An R D X Hd (prAl f V pr) ∧ ∀ args v s1, args.toList.all (flatV m) = true → flatV m v = true → EF P kt pr0 f args ⟨[], k⟩ v s1 → V args = some v := by
 refine ⟨fun args => if h : ∃ v s1, args.toList.all (flatV m) = true ∧ flatV m v = true ∧ EF P kt pr0 f args ⟨[], k⟩ v s1 then some (Classical.choose h) else none, ⟨?_, ?_⟩, ?_⟩
 ·
  intro g h args s v s' hf hh
  unfold prAl at hf
  split at hf
  ·
   cases hf
   unfold alG at hh
   split at hh
   ·
    cases hh; exact Nat.le_refl _
   ·
    cases hh
  ·
   exact hp.nx g h args s v s' hf hh
 ·
  intro g h args s v s' hf hh
  unfold prAl at hf
  split at hf
  ·
   next he =>
   have he := Nat.eq_of_beq_eq_true he
   subst he
   cases hf
   unfold alG at hh
   split at hh
   ·
    next v' hv =>
    cases hh
    dsimp only at hv
    split at hv
    ·
     next hex =>
     cases hv
     obtain ⟨s1, h1, h2, n, h3⟩ := Classical.choose_spec hex
     exact Sound.alone Y hAn h1 h2 ((ev_sound Y hm hkt hp0 hnm n).2 _ _ _ _ _ h3)
    ·
     cases hv
   ·
    cases hh
  ·
   exact hp.sound g h args s v s' hf hh
 ·
  intro args v s1 h1 h2 h3
  have hex : ∃ v s1, args.toList.all (flatV m) = true ∧ flatV m v = true ∧ EF P kt pr0 f args ⟨[], k⟩ v s1 := ⟨v, s1, h1, h2, h3⟩
  simp only [dif_pos hex]
  obtain ⟨s2, _, _, h4⟩ := Classical.choose_spec hex
  rw [(EF.one h4 h3).1]
end
def Says (pr0 : Prim) (f : FuncId) (V : Array Value → Option Value) : Prop := ∀ args v s1, args.toList.all (flatV 5) = true → flatV 5 v = true → EF Tryz.prog ktB pr0 f args z0 v s1 → V args = some v
section
variable {n : Nat} {V1 V2 V3 V4 V5 V6 V7 V8 : Array Value → Option Value}
theorem split_v (h1 : Says (prAw Tryz.prog n) 171 V1) (h2 : Says (prAw Tryz.prog n) 172 V2) (h3 : Says (prAw Tryz.prog n) 173 V3) (h4 : Says (pr3 V1 V2 V3 (prAw Tryz.prog n)) 86 V4) {x a1 a2 a3 m q sa ha p : List UInt8} {mt qt sb hb : Bool} (hc1 : CutN 35 x a1 m mt) (hc2 : CutN 63 a1 a2 q qt) (hs : SchN a2 sa sb a3) (hh : HostN a3 ha hb p) (l0 : x.length ≤ 1000000) (l1 : a1.length ≤ 1000000) (l2 : a2.length ≤ 1000000) (l3 : a3.length ≤ 1000000) : V4 #[str x] = some (adr sa sb ha hb p q qt m mt) := by
 obtain ⟨_, e1⟩ := cutFrom_e (n := n) hc1 l0
 obtain ⟨_, e2⟩ := cutFrom_e (n := n) hc2 l1
 obtain ⟨_, e3⟩ := cutScheme_e (n := n) hs l2
 obtain ⟨_, e4⟩ := cutHost_e (n := n) hh l3
 obtain ⟨_, e5⟩ := split_e (n := n) (h1 _ _ _ (by rfl) (by rfl) e1) (h1 _ _ _ (by rfl) (by rfl) e2) (h2 _ _ _ (by rfl) (by rfl) e3) (h3 _ _ _ (by rfl) (by rfl) e4)
 exact h4 _ _ _ (by rfl) (by rfl) e5
theorem plain_v (h5 : Says (prAw Tryz.prog n) 87 V5) {parts left : List (List UInt8)} (hp0 : parts ≠ []) (hp : ∀ x ∈ parts, 47 ∉ x) (hone : ∀ x ∈ parts, x ≠ [46]) (hl : (joinL parts).length ≤ 100000) (hd : dotsL parts = false) (hleft : parts.foldl stepL [] = left) (hl0 : left ≠ []) (hll : (joinL left).length ≤ 100000) {x y : List UInt8} (hx : joinL parts = x) (hy : joinL left = y) : V5 #[str x] = some (str y) := by
 subst hx hy
 obtain ⟨_, e⟩ := plain_e (n := n) hp0 hp hone hl hd hleft hl0 hll
 exact h5 _ _ _ (by rfl) (by rfl) e
theorem text_v (h6 : Says (prAw Tryz.prog n) 88 V6) {sa ha p q m out : List UInt8} {sb hb qt mt : Bool} (ho : wrP sb [] sa [58] ++ wrP hb [47, 47] ha [] ++ p ++ wrP qt [63] q [] ++ wrP mt [35] m [] = out) (hl : out.length ≤ 1000000) (h0 : out ≠ []) : V6 #[adr sa sb ha hb p q qt m mt] = some (str out) := by
 subst ho
 obtain ⟨_, e⟩ := text_e (n := n) hl h0
 exact h6 _ _ _ (by rfl) (by rfl) e
theorem folder_v (h7 : Says (prAw Tryz.prog n) 90 V7) {sa ha p d f q m fo : List UInt8} {sb qt mt : Bool} (hp : p = d ++ 47 :: f) (hf : 47 ∉ f) (hl : p.length ≤ 1000000) (hfo : d ++ [47] = fo) : V7 #[adr sa sb ha true p q qt m mt] = some (str fo) := by
 subst hp hfo
 obtain ⟨_, e⟩ := folder_e (n := n) (sa := sa) (ha := ha) (q := q) (m := m) (sb := sb) (qt := qt) (mt := mt) hf hl (by cases d with | nil => exact ⟨_, _, rfl⟩ | cons c d => exact ⟨_, _, rfl⟩)
 exact h7 _ _ _ (by rfl) (by rfl) e
end
def dirL (cs : List UInt8) : List UInt8 := cs.flatMap fun c => [47, c]
theorem dirL_eq (cs : List UInt8) : 47 :: cs.flatMap (fun c => [c, 47]) = dirL cs ++ [47] := by
 unfold dirL
 induction cs with
 | nil => rfl
 | cons c cs ih => simp only [List.flatMap_cons, List.cons_append, List.nil_append, ih]
theorem dirL_len (cs : List UInt8) : (dirL cs).length = 2 * cs.length := by
 unfold dirL
 induction cs with
 | nil => rfl
 | cons c cs ih => simp only [List.flatMap_cons, List.length_append, List.length_cons, List.length_nil, ih]; omega
theorem baseL_dir (cs : List UInt8) : baseL cs = httpL ++ 58 :: ([47, 47] ++ ([104] ++ (dirL cs ++ [47]))) := by
 rw [← dirL_eq]
 rfl
theorem low_ne {cs : List UInt8} (h : lowC cs) {c : UInt8} (hc : c ∈ cs) : c ≠ 35 ∧ c ≠ 63 ∧ c ≠ 58 ∧ c ≠ 47 ∧ c ≠ 46 := by
 have := h c hc
 refine ⟨?_, ?_, ?_, ?_, ?_⟩ <;> (rintro rfl; revert this; decide)
theorem mem_dir {cs : List UInt8} {x : UInt8} (h : x ∈ dirL cs) : x = 47 ∨ x ∈ cs := by
 unfold dirL at h
 rw [List.mem_flatMap] at h
 obtain ⟨c, hc, hx⟩ := h
 simp only [List.mem_cons, List.not_mem_nil, or_false] at hx
 rcases hx with rfl | rfl
 ·
  exact .inl rfl
 ·
  exact .inr hc
abbrev oneL (cs : List UInt8) : List (List UInt8) := cs.map fun c => [c]
theorem joinL_dir (cs : List UInt8) {T : List (List UInt8)} (hT : T ≠ []) : joinL ([] :: (oneL cs ++ T)) = dirL cs ++ [47] ++ joinL T := by
 obtain ⟨t, T, rfl⟩ : ∃ t T', T = t :: T' := by
  cases T with
  | nil => exact absurd rfl hT
  | cons t T => exact ⟨t, T, rfl⟩
 rw [joinL_cat, joinL_cat]
 unfold catL dirL oneL
 simp [List.flatMap_append, List.flatMap_map]
theorem fold_one (cs : List UInt8) (acc : List (List UInt8)) : (oneL cs).foldl stepL acc = acc ++ oneL cs := by
 induction cs generalizing acc with
 | nil => simp
 | cons c cs ih =>
  have h1 : stepL acc [c] = acc ++ [[c]] := by unfold stepL; rw [if_neg (by simp)]
  rw [show oneL (c :: cs) = [c] :: oneL cs from rfl, List.foldl_cons, h1, ih]
  simp
theorem fold_dots : ∀ (n : Nat) (cs : List UInt8), (List.replicate n [46, 46]).foldl stepL ([] :: oneL cs) = [] :: oneL (cs.take (cs.length - n))
 | 0, cs => by simp
 | n + 1, cs => by
  rw [List.replicate_succ, List.foldl_cons]
  have hs : stepL ([] :: oneL cs) [46, 46] = [] :: oneL (cs.take (cs.length - 1)) := by
   unfold stepL
   rw [if_pos rfl]
   cases cs with
   | nil => rfl
   | cons c cs =>
    rw [if_neg (by simp), List.dropLast_cons_of_ne_nil (by simp)]
    unfold oneL
    rw [← List.dropLast_eq_take, List.map_dropLast]
  rw [hs, fold_dots n, List.length_take, List.take_take]
  congr 3
  omega
theorem upL_join (n : Nat) : upL n = joinL (List.replicate n [46, 46] ++ [[103]]) := by
 induction n with
 | zero => rfl
 | succ n ih =>
  rw [List.replicate_succ, List.cons_append, joinL_cons (by simp), ← ih]
  rfl
end Go.Proofs.YtgcaionclkbehaaGreatDoor
namespace Go.Proofs.YtgcaionclkbehaaGreatDoor
open Go.Conc Go.RowKit Go.Lib
theorem no_base {cs : List UInt8} (h : lowC cs) {y : UInt8} (hy : y = 35 ∨ y = 63) : y ∉ baseL cs := by
 rw [baseL_dir]
 intro hm
 simp only [List.mem_append, List.mem_cons, List.not_mem_nil, or_false] at hm
 have hd : y ∈ dirL cs → False := fun hd => by
  rcases mem_dir hd with rfl | hc
  ·
   revert hy; decide
  ·
   have := low_ne h hc
   rcases hy with rfl | rfl
   ·
    exact this.1 rfl
   ·
    exact this.2.1 rfl
 rcases hm with hm | hm | hm | hm | hm | hm
 all_goals first
  | exact hd hm
  | (rcases hy with rfl | rfl <;> revert hm <;> decide)
theorem no_small {q : List UInt8} (h : smallOk q) {y : UInt8} (hy : y = 35 ∨ y = 63) : y ∉ q := fun hm => by
 have := h.2 y hm
 rcases hy with rfl | rfl <;> (revert this; decide)
theorem no_up (n : Nat) {y : UInt8} (hy : y = 35 ∨ y = 63 ∨ y = 58) : y ∉ upL n := by
 induction n with
 | zero => rcases hy with rfl | rfl | rfl <;> decide
 | succ n ih =>
  unfold upL
  intro hm
  rcases List.mem_append.1 hm with hm | hm
  ·
   rcases hy with rfl | rfl | rfl <;> (revert hm; decide)
  ·
   exact ih hm
section
variable {n : Nat} {V1 V2 V3 V4 V5 V6 V7 V8 : Array Value → Option Value}
theorem base_v (h1 : Says (prAw Tryz.prog n) 171 V1) (h2 : Says (prAw Tryz.prog n) 172 V2) (h3 : Says (prAw Tryz.prog n) 173 V3) (h4 : Says (pr3 V1 V2 V3 (prAw Tryz.prog n)) 86 V4) {cs x a1 m q : List UInt8} {mt qt : Bool} (hlow : lowC cs) (hcs : cs.length ≤ 10) (hc1 : CutN 35 x a1 m mt) (hc2 : CutN 63 a1 (baseL cs ++ [102]) q qt) (l0 : x.length ≤ 1000) (l1 : a1.length ≤ 1000) : V4 #[str x] = some (adr httpL true [104] true (dirL cs ++ [47] ++ [102]) q qt m mt) := by
 have hdl := dirL_len cs
 refine split_v h1 h2 h3 h4 hc1 hc2 (a3 := [47, 47] ++ ([104] ++ (dirL cs ++ [47] ++ [102]))) (.inr ⟨rfl, .inl rfl, ?_⟩) (.inr ⟨rfl, by decide, rfl, ?_⟩) (by omega) (by omega) ?_ ?_
 ·
  rw [baseL_dir]
  simp
 ·
  rw [← dirL_eq]
  exact ⟨_, rfl⟩
 ·
  have := baseL_len cs
  simp only [List.length_append, List.length_cons, List.length_nil]
  omega
 ·
  simp only [List.length_append, List.length_cons, List.length_nil]
  omega
theorem resV (h1 : Says (prAw Tryz.prog n) 171 V1) (h2 : Says (prAw Tryz.prog n) 172 V2) (h3 : Says (prAw Tryz.prog n) 173 V3) (h4 : Says (pr3 V1 V2 V3 (prAw Tryz.prog n)) 86 V4) (h5 : Says (prAw Tryz.prog n) 87 V5) (h6 : Says (prAw Tryz.prog n) 88 V6) (h7 : Says (prAw Tryz.prog n) 90 V7) (h8 : Says (pr7 V4 V5 V6 V7 (pr3 V1 V2 V3 (prAw Tryz.prog n))) 49 V8) : ResV V8 := by
 have hfolder : ∀ (cs q m : List UInt8) (qt mt : Bool), cs.length ≤ 10 → V7 #[adr httpL true [104] true (dirL cs ++ [47] ++ [102]) q qt m mt] = some (str (dirL cs ++ [47])) := fun cs q m qt mt hcs => by
  have hdl := dirL_len cs
  exact folder_v h7 (d := dirL cs) (f := [102]) (by simp) (by decide) (by simp only [List.length_append, List.length_cons, List.length_nil]; omega) rfl
 have hparts : ∀ (cs : List UInt8) (T T' : List (List UInt8)), lowC cs → ∀ y ∈ [] :: (oneL cs ++ T), y = [] ∨ (∃ c ∈ cs, y = [c]) ∨ y ∈ T := fun cs T T' hlow y hy => by
  rcases List.mem_cons.1 hy with rfl | hy
  ·
   exact .inl rfl
  ·
   rcases List.mem_append.1 hy with hy | hy
   ·
    obtain ⟨c, hc, rfl⟩ := List.mem_map.1 hy
    exact .inr (.inl ⟨c, hc, rfl⟩)
   ·
    exact .inr (.inr hy)
 have hplain : ∀ (cs cs' : List UInt8) (T : List (List UInt8)), lowC cs → cs.length ≤ 10 → cs'.length ≤ 10 → T ≠ [] → (∀ y ∈ T, 47 ∉ y ∧ y ≠ [46]) → dotsL ([] :: (oneL cs ++ T)) = false → T.foldl stepL ([] :: oneL cs) = [] :: (oneL cs' ++ [[103]]) → (joinL T).length ≤ 1000 → V5 #[str (dirL cs ++ [47] ++ joinL T)] = some (str (dirL cs' ++ [47] ++ [103])) := by
  intro cs cs' T hlow hcs hcs' hT hTy hd hf hl
  have hdl := dirL_len cs
  have hdl' := dirL_len cs'
  refine plain_v h5 (parts := [] :: (oneL cs ++ T)) (left := [] :: (oneL cs' ++ [[103]])) (by simp) (fun y hy => ?_) (fun y hy => ?_) ?_ hd ?_ (by simp) ?_ (joinL_dir cs hT) (joinL_dir cs' (by simp))
  ·
   rcases hparts cs T T hlow y hy with rfl | ⟨c, hc, rfl⟩ | hy
   ·
    simp
   ·
    have := low_ne hlow hc
    simp only [List.mem_singleton]
    exact fun e => this.2.2.2.1 e.symm
   ·
    exact (hTy y hy).1
  ·
   rcases hparts cs T T hlow y hy with rfl | ⟨c, hc, rfl⟩ | hy
   ·
    simp
   ·
    have := low_ne hlow hc
    intro e
    exact this.2.2.2.2 (by simpa using e)
   ·
    exact (hTy y hy).2
  ·
   rw [joinL_dir cs hT]
   simp only [List.length_append, List.length_cons, List.length_nil]
   omega
  ·
   rw [List.foldl_cons, List.foldl_append, show stepL [] [] = [[]] from rfl, fold_one]
   exact hf
  ·
   rw [joinL_dir cs' (by simp)]
   simp only [List.length_append, List.length_cons, List.length_nil, joinL]
   omega
 have htext : ∀ (p q m : List UInt8) (qt mt : Bool) (out : List UInt8), [104, 116, 116, 112, 58, 47, 47, 104] ++ p ++ wrP qt [63] q [] ++ wrP mt [35] m [] = out → out.length ≤ 1000 → V6 #[adr httpL true [104] true p q qt m mt] = some (str out) := fun p q m qt mt out ho hl => text_v h6 ho (by omega) (by rw [← ho]; simp)
 refine ⟨fun cs q hlow hcs hq => ?_, fun cs q hlow hcs hq => ?_, fun cs q hlow hcs hq => ?_, fun cs k hlow hcs hk => ?_, fun cs hlow hcs => ?_⟩
 ·
  -- s/t/../../g
  have hbl := baseL_len cs
  have hql := hq.1
  have hdl := dirL_len cs
  have hR : V4 #[str stL] = some (adr [] false [] false stL [] false [] false) := split_v h1 h2 h3 h4 (a1 := stL) (a2 := stL) (a3 := stL) (.inl ⟨rfl, by decide, rfl, rfl⟩) (.inl ⟨rfl, by decide, rfl, rfl⟩) (.inl ⟨rfl, by decide, rfl, rfl⟩) (.inl ⟨rfl, by decide, rfl, rfl⟩) (by decide) (by decide) (by decide) (by decide)
  have hB : V4 #[str (baseL cs ++ [102, 63] ++ q)] = some (adr httpL true [104] true (dirL cs ++ [47] ++ [102]) q true [] false) := base_v h1 h2 h3 h4 hlow hcs (a1 := baseL cs ++ [102, 63] ++ q) (.inl ⟨rfl, by
   simp only [List.mem_append, not_or]
   exact ⟨⟨no_base hlow (.inl rfl), by decide⟩, no_small hq (.inl rfl)⟩, rfl, rfl⟩) (.inr ⟨rfl, by
   simp only [List.mem_append, not_or]
   exact ⟨no_base hlow (.inr rfl), by decide⟩, by simp⟩) (by simp only [List.length_append, List.length_cons, List.length_nil]; omega) (by simp only [List.length_append, List.length_cons, List.length_nil]; omega)
  have hP := hplain cs cs [[115], [116], [46, 46], [46, 46], [103]] hlow hcs hcs (by simp) (by decide) (by
   rw [show ([] :: (oneL cs ++ [[115], [116], [46, 46], [46, 46], [103]]) : List (List UInt8)) = ([] :: (oneL cs ++ [[115], [116], [46, 46], [46, 46]])) ++ [[103]] by simp, dotsL_snoc]
   rfl) (by
   have e1 : stepL ([] :: oneL cs) [115] = [] :: oneL cs ++ [[115]] := by unfold stepL; rw [if_neg (by simp)]
   have e2 : stepL ([] :: oneL cs ++ [[115]]) [116] = [] :: oneL cs ++ [[115]] ++ [[116]] := by unfold stepL; rw [if_neg (by simp)]
   have e3 : stepL ([] :: oneL cs ++ [[115]] ++ [[116]]) [46, 46] = [] :: oneL cs ++ [[115]] := by
    unfold stepL
    rw [if_pos rfl, if_neg (by simp), List.dropLast_concat]
   have e4 : stepL ([] :: oneL cs ++ [[115]]) [46, 46] = [] :: oneL cs := by
    unfold stepL
    rw [if_pos rfl, if_neg (by simp), List.dropLast_concat]
   have e5 : stepL ([] :: oneL cs) [103] = [] :: (oneL cs ++ [[103]]) := by unfold stepL; rw [if_neg (by simp)]; rfl
   simp only [List.foldl_cons, List.foldl_nil]
   rw [e1, e2, e3, e4, e5]) (by decide)
  have hT := htext (dirL cs ++ [47] ++ [103]) [] [] false false (baseL cs ++ [103]) (by rw [baseL_dir]; simp [wrP]) (by simp only [List.length_append, List.length_cons, List.length_nil]; omega)
  obtain ⟨_, e⟩ := resolve3_e (n := n) (V1 := V1) (V2 := V2) (V3 := V3) (c := 115) (p := [47, 116, 47, 46, 46, 47, 46, 46, 47, 103]) (by decide) (by simp only [List.length_append, List.length_cons, List.length_nil]; omega) hR hB (hfolder cs q [] true false hcs) hP hT
  exact h8 _ _ _ (by rfl) (by rfl) e
 ·
  -- an empty reference
  have hbl := baseL_len cs
  have hql := hq.1
  have hR : V4 #[str []] = some (adr [] false [] false [] [] false [] false) := split_v h1 h2 h3 h4 (a1 := []) (a2 := []) (a3 := []) (.inl ⟨rfl, by decide, rfl, rfl⟩) (.inl ⟨rfl, by decide, rfl, rfl⟩) (.inl ⟨rfl, by decide, rfl, rfl⟩) (.inl ⟨rfl, by decide, rfl, rfl⟩) (by decide) (by decide) (by decide) (by decide)
  have hB : V4 #[str (baseL cs ++ [102, 63] ++ q ++ [35, 109])] = some (adr httpL true [104] true (dirL cs ++ [47] ++ [102]) q true [109] true) := base_v h1 h2 h3 h4 hlow hcs (a1 := baseL cs ++ [102, 63] ++ q) (.inr ⟨rfl, by
   simp only [List.mem_append, not_or]
   exact ⟨⟨no_base hlow (.inl rfl), by decide⟩, no_small hq (.inl rfl)⟩, by simp⟩) (.inr ⟨rfl, by
   simp only [List.mem_append, not_or]
   exact ⟨no_base hlow (.inr rfl), by decide⟩, by simp⟩) (by simp only [List.length_append, List.length_cons, List.length_nil]; omega) (by simp only [List.length_append, List.length_cons, List.length_nil]; omega)
  have hT := htext (dirL cs ++ [47] ++ [102]) q [] true false (baseL cs ++ [102, 63] ++ q) (by rw [baseL_dir]; simp [wrP]) (by simp only [List.length_append, List.length_cons, List.length_nil]; omega)
  obtain ⟨_, e⟩ := resolve2_e (n := n) (V1 := V1) (V2 := V2) (V3 := V3) (V5 := V5) (V7 := V7) hR hB hT
  exact h8 _ _ _ (by rfl) (by rfl) e
 ·
  -- a mark
  have hbl := baseL_len cs
  have hql := hq.1
  have hR : V4 #[str ([35] ++ q)] = some (adr [] false [] false [] [] false q true) := split_v h1 h2 h3 h4 (a1 := []) (a2 := []) (a3 := []) (.inr ⟨rfl, by decide, rfl⟩) (.inl ⟨rfl, by decide, rfl, rfl⟩) (.inl ⟨rfl, by decide, rfl, rfl⟩) (.inl ⟨rfl, by decide, rfl, rfl⟩) (by simp only [List.length_append, List.length_cons, List.length_nil]; omega) (by decide) (by decide) (by decide)
  have hB : V4 #[str (baseL cs ++ [102])] = some (adr httpL true [104] true (dirL cs ++ [47] ++ [102]) [] false [] false) := base_v h1 h2 h3 h4 hlow hcs (a1 := baseL cs ++ [102]) (.inl ⟨rfl, by
   simp only [List.mem_append, not_or]
   exact ⟨no_base hlow (.inl rfl), by decide⟩, rfl, rfl⟩) (.inl ⟨rfl, by
   simp only [List.mem_append, not_or]
   exact ⟨no_base hlow (.inr rfl), by decide⟩, rfl, rfl⟩) (by simp only [List.length_append, List.length_cons, List.length_nil]; omega) (by simp only [List.length_append, List.length_cons, List.length_nil]; omega)
  have hT := htext (dirL cs ++ [47] ++ [102]) [] q false true (baseL cs ++ [102, 35] ++ q) (by rw [baseL_dir]; simp [wrP]) (by simp only [List.length_append, List.length_cons, List.length_nil]; omega)
  obtain ⟨_, e⟩ := resolve2_e (n := n) (V1 := V1) (V2 := V2) (V3 := V3) (V5 := V5) (V7 := V7) hR hB hT
  exact h8 _ _ _ (by rfl) (by rfl) e
 ·
  -- steps up
  have hbl := baseL_len cs
  have hdl := dirL_len cs
  have hul := upL_len k
  have hbk := baseL_len (cs.take (cs.length - k))
  have htk : (cs.take (cs.length - k)).length ≤ 10 := by simp only [List.length_take]; omega
  obtain ⟨c, p, hcp, hc47, hhost⟩ : ∃ c p, upL k = c :: p ∧ c ≠ 47 ∧ (decide (2 ≤ (upL k).length) && beqL ((upL k).take 2) [47, 47]) = false := by
   cases k with
   | zero => exact ⟨103, [], rfl, by decide, by decide⟩
   | succ k => exact ⟨46, [46, 47] ++ upL k, rfl, by decide, by rw [show (upL (k + 1)).take 2 = [46, 46] from rfl, show beqL [46, 46] [47, 47] = false from rfl, Bool.and_false]⟩
  have hR : V4 #[str (upL k)] = some (adr [] false [] false (upL k) [] false [] false) := split_v h1 h2 h3 h4 (a1 := upL k) (a2 := upL k) (a3 := upL k) (.inl ⟨rfl, no_up k (.inl rfl), rfl, rfl⟩) (.inl ⟨rfl, no_up k (.inr (.inl rfl)), rfl, rfl⟩) (.inl ⟨rfl, no_up k (.inr (.inr rfl)), rfl, rfl⟩) (.inl ⟨rfl, hhost, rfl, rfl⟩) (by omega) (by omega) (by omega) (by omega)
  have hB : V4 #[str (baseL cs ++ [102])] = some (adr httpL true [104] true (dirL cs ++ [47] ++ [102]) [] false [] false) := base_v h1 h2 h3 h4 hlow hcs (a1 := baseL cs ++ [102]) (.inl ⟨rfl, by
   simp only [List.mem_append, not_or]
   exact ⟨no_base hlow (.inl rfl), by decide⟩, rfl, rfl⟩) (.inl ⟨rfl, by
   simp only [List.mem_append, not_or]
   exact ⟨no_base hlow (.inr rfl), by decide⟩, rfl, rfl⟩) (by simp only [List.length_append, List.length_cons, List.length_nil]; omega) (by simp only [List.length_append, List.length_cons, List.length_nil]; omega)
  have hP := hplain cs (cs.take (cs.length - k)) (List.replicate k [46, 46] ++ [[103]]) hlow hcs htk (by simp) (by
   intro y hy
   rcases List.mem_append.1 hy with hy | hy
   ·
    rw [(List.mem_replicate.1 hy).2]; decide
   ·
    rw [List.mem_singleton.1 hy]; decide) (by
   rw [show ([] :: (oneL cs ++ (List.replicate k [46, 46] ++ [[103]])) : List (List UInt8)) = ([] :: (oneL cs ++ List.replicate k [46, 46])) ++ [[103]] by simp, dotsL_snoc]
   rfl) (by
   rw [List.foldl_append, fold_dots]
   simp only [List.foldl_cons, List.foldl_nil]
   unfold stepL
   rw [if_neg (by simp)]
   rfl) (by rw [← upL_join]; omega)
  rw [← upL_join] at hP
  have hT := htext (dirL (cs.take (cs.length - k)) ++ [47] ++ [103]) [] [] false false (baseL (cs.take (cs.length - k)) ++ [103]) (by rw [baseL_dir]; simp [wrP]) (by simp only [List.length_append, List.length_cons, List.length_nil]; omega)
  have hlc : (dirL cs ++ [47]).length + (c :: p).length ≤ 1000000 := by rw [← hcp]; simp only [List.length_append, List.length_cons, List.length_nil]; omega
  rw [hcp] at hR hP ⊢
  obtain ⟨_, e⟩ := resolve3_e (n := n) (V1 := V1) (V2 := V2) (V3 := V3) (c := c) (p := p) hc47 hlc hR hB (hfolder cs [] [] false false hcs) hP hT
  exact h8 _ _ _ (by rfl) (by rfl) e
 ·
  -- another scheme
  have hR : V4 #[str ftpX] = some (adr ftpL true [] false [120] [] false [] false) := split_v h1 h2 h3 h4 (a1 := ftpX) (a2 := ftpX) (a3 := [120]) (.inl ⟨rfl, by decide, rfl, rfl⟩) (.inl ⟨rfl, by decide, rfl, rfl⟩) (.inr ⟨rfl, .inr rfl, rfl⟩) (.inl ⟨rfl, by decide, rfl, rfl⟩) (by decide) (by decide) (by decide) (by decide)
  have hP : V5 #[str [120]] = some (str [120]) := plain_v h5 (parts := [[120]]) (left := [[120]]) (by simp) (by decide) (by decide) (by decide) rfl rfl (by simp) (by decide) rfl rfl
  have hT : V6 #[adr ftpL true [] false [120] [] false [] false] = some (str ftpX) := text_v h6 rfl (by decide) (by decide)
  obtain ⟨_, e⟩ := resolve1_e (n := n) (V1 := V1) (V2 := V2) (V3 := V3) (V7 := V7) (b := baseL cs ++ [102]) hR hP hT
  exact h8 _ _ _ (by rfl) (by rfl) e
end
end Go.Proofs.YtgcaionclkbehaaGreatDoor
