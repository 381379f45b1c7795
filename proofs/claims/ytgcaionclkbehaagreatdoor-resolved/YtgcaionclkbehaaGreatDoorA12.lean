/-
 addresses.plain, by the evaluator's rules.
-/
import Derived.Test.YtgcaionclkbehaaGreatDoorA9
set_option linter.all false
namespace Go.Proofs.YtgcaionclkbehaaGreatDoor
open Go.Conc Go.RowKit Go.Lib
theorem op_appR {P : Program} {kt : TypeId → Bool} {c : CallF} {a : TL} {s s' : AS} {o : Oper} {v : Value} {x y : Operand} {t e : TypeId} {sl z w : Value} {d k bytes : Nat} {fz : Nat × Nat} (hop : o.op = .call { callee := .builtin .append, args := #[x, y], argTypes := #[t, t] }) (hx : a.at x = sl) (hy : a.at y = .slice (some ⟨d, 0, none⟩) 1 k) (ht : P.underlying t = some (.slice e)) (hi : (P.info? e).map (fun i => (i.zero, i.size, i.bytes)) = some (some z, 1, bytes)) (hz : z.cells.size = 1) (hb : bytes ≤ 1000) (hkt : kt e = false) (hd : s.get d = some (.cells #[w] e fz)) (hap : rowsApart sl (some ⟨d, 0, none⟩) = true) (ho : w.oneCell' = true) (h : evAppend P e sl [w] 1 s = some (v, s')) : evOp P kt c a o s = some (v, s') := by
 have hq : evQuiet P a o = none := by
  unfold evQuiet
  rw [hop]
 have hc : evCells s 1 (some ⟨d, 0, none⟩) 1 = some [w] := by
  unfold evCells
  simp only
  rw [hd]
  rfl
 unfold evOp
 rw [if_neg (by rw [hop]; simp [isNew])]
 rw [hop]
 simp only
 rw [hq]
 simp only [List.map_cons, List.map_nil]
 rw [hx, hy]
 unfold evBuiltin
 simp only [if_true]
 rw [ht]
 simp only
 rw [hi]
 simp only
 rw [hc]
 simp only
 rw [if_pos ⟨hz, by omega, hb, by omega, hkt, hap, by simp [ho]⟩]
 exact h
theorem endQ {Q : Exit → TL → AS → Prop} {a : TL} {s : AS} (f : (Nat → Value) → TL) (s' : AS) (ha : a = f (fun j => a.getD j undef)) (hs : s = s') (h : ∀ x, Q .normal (f x) s') : Q .normal a s := by
 subst hs
 exact ha ▸ h _
def stepL (left : List (List UInt8)) (p : List UInt8) : List (List UInt8) := if p = [46, 46] then (if left = [[]] then left else left.dropLast) else left ++ [p]
def dotsL (l : List (List UInt8)) : Bool := match l.getLast? with
 | some p => decide (p = [46, 46])
 | none => false
def RowL (s : AS) (v : Value) (left : List (List UInt8)) : Prop := (v = .slice none 0 0 ∧ left = []) ∨ ∃ (b c : Nat) (fz : Nat × Nat) (cs : List Value), v = .slice (some ⟨b, 0, none⟩) left.length c ∧ left.length ≤ c ∧ 0 < c ∧ 33 ≤ b ∧ b < s.nx ∧ s.get b = some (.cells cs.toArray 9 fz) ∧ cs.take left.length = left.map str
def sl87 (v3 : Value) (d : Bool) (K i : Nat) (x : Nat → Value) : TL := [x 0, x 1, x 2, v3, .bool d, x 5, x 6, x 7, x 8, .slice (some ⟨32, 0, none⟩) K K, num ((K : Nat) : Int), num ((i : Nat) : Int), x 12, x 13, x 14, x 15, x 16, x 17, x 18, x 19, x 20, x 21, x 22, x 23, x 24, x 25, x 26, x 27, x 28, x 29, x 30, x 31, x 32, x 33, x 34, x 35, x 36, x 37, x 38, x 39, x 40, x 41, x 42, x 43, x 44, x 45, x 46, x 47, x 48, x 49, x 50]
theorem RowL.add {s : AS} {v : Value} {left : List (List UInt8)} (h : RowL s v left) (o : Obj) : RowL (s.add o) v left := by
 rcases h with h | ⟨b, c, fz, cs, h1, h2, h3, h4, h5, h6, h7⟩
 ·
  exact .inl h
 ·
  exact .inr ⟨b, c, fz, cs, h1, h2, h3, h4, by simp; omega, by rw [AS.get_add, if_neg (by omega)]; exact h6, h7⟩
theorem RowL.cell {left : List (List UInt8)} {cs : List Value} (h : cs.take left.length = left.map str) {i : Nat} (hi : i < left.length) : cs.toArray[i]? = some (str left[i]) := by
 have e : (cs.take left.length)[i]? = (left.map str)[i]? := by rw [h]
 rw [List.getElem?_take_of_lt hi, List.getElem?_map, List.getElem?_eq_getElem hi] at e
 simpa using e
section
variable {s : AS} {n : Nat}
theorem split_row_e {parts : List (List UInt8)} (hp0 : parts ≠ []) (hp : ∀ x ∈ parts, 47 ∉ x) (hl : (joinL parts).length ≤ 100000) : ∃ s', EF Tryz.prog ktB (prAw Tryz.prog n) 174 #[str (joinL parts), str [47]] z0 (.slice (some ⟨32, 0, none⟩) parts.length parts.length) s' ∧ s'.nx = 33 ∧ s'.get 32 = some (.cells (parts.map str).toArray 9) := by
 obtain ⟨s1, h1, h2, h3⟩ := split0_e (n := n) hp0 hp hl
 refine EF.ofE (by kernel_rfl) Tryz.func174 rfl ?_
 refine EW.seq (EW.go 5 (by kernel_rfl) ?_)
 refine EW.seq (EW.region (by kernel_rfl) ?_)
 refine EO.go 2 5 (by kernel_rfl) ?_
 refine EO.asS z0 (by kernel_rfl) ?_
 refine EO.callF #[str (joinL parts), str [47], num 0, num (-1)] (by kernel_rfl) rfl rfl (by kernel_rfl) (by kernel_rfl) h1 ?_
 refine EO.fin 5 (by kernel_rfl) ?_
 exact EW.ret ⟨.inr rfl, by kernel_rfl, h2, h3⟩
theorem is_e {p : List UInt8} {b k : Nat} {bb : Bool} (hs : s.get b = some (.cells #[str [46], str [46, 46]] 9)) (h : (beqL p [46] || (beqL p [46, 46] || false)) = bb) : EF Tryz.prog ktB (prAw Tryz.prog n) 127 #[str p, .slice (some ⟨b, 0, none⟩) 2 k] s (.bool bb) s := by
 refine EF.prim (g := fun args s => match args.toList with
  | [.string x, .slice y n _] => match evCells s 1 y n with
   | some l => if n ≤ 1000000 ∧ (l.all fun v => match v with | .string _ => true | _ => false) = true then some (.bool (l.any fun v => match v with | .string z => beqL x.data.toList z.data.toList | _ => false), s) else none
   | none => none
  | _ => none) (by kernel_rfl) ?_
 have hc : evCells s 1 (some ⟨b, 0, none⟩) 2 = some [str [46], str [46, 46]] := by
  unfold evCells
  simp only
  rw [hs]
  rfl
 simp only
 rw [hc]
 simp only
 rw [if_pos ⟨by omega, rfl⟩, ← h]
 rfl
theorem front_e {v : Value} {left : List (List UInt8)} {bb : Bool} (h : RowL s v left) (hb : decide (left = [[]]) = bb) (hl : left.length ≤ 1000000) : EF Tryz.prog ktB (prAw Tryz.prog n) 175 #[v] s (.bool bb) s := by
 refine EF.of (by kernel_rfl) Tryz.func175 rfl ?_
 refine EW.seq (EW.go 5 (by kernel_rfl) ?_)
 refine EW.seq (EW.region (by kernel_rfl) ?_)
 rcases h with ⟨rfl, rfl⟩ | ⟨b, c, fz, cs, rfl, h2, h3, h4, h5, h6, h7⟩
 ·
  refine EO.fin 5 (by kernel_rfl) ?_
  refine EW.ret ⟨.inr rfl, ?_, by kernel_rfl⟩
  rw [← hb]
  kernel_rfl
 ·
  refine EO.go 2 5 (by kernel_rfl) ?_
  by_cases h1 : left.length = 1
  ·
   obtain ⟨y, rfl⟩ := List.length_eq_one_iff.1 h1
   have hcell := RowL.cell h7 (i := 0) (by simp)
   refine EO.go 4 5 (by kernel_rfl) ?_
   refine EO.asS s (by kernel_rfl) ?_
   refine EO.op (by kernel_rfl) (op_ld (b := b) (off := 0) (v := str y) rfl Tryz.underlying9 rfl (by kernel_rfl) h6 hcell) ?_
   refine EO.fin 5 (by kernel_rfl) ?_
   have hbb : beqL y [] = bb := by
    rw [← hb]
    cases y with
    | nil => rfl
    | cons z y => simp [beqL]
   exact EW.ret ⟨.inr rfl, Eq.trans (b := some (.bool (beqL y []))) (by kernel_rfl) (by rw [hbb]), by kernel_rfl⟩
  ·
   refine EO.op (by kernel_rfl) (op_bin (u := num left.length) (w := num 1) rfl (by kernel_rfl) (by kernel_rfl) (bin_eql (b := false) (by rw [beq_eq_false_iff_ne]; omega))) ?_
   refine EO.fin 5 (by kernel_rfl) ?_
   have hbf : false = bb := by
    rw [← hb]
    exact (decide_eq_false fun e => h1 (by rw [e]; rfl)).symm
   exact EW.ret ⟨.inr rfl, Eq.trans (b := some (.bool false)) (by kernel_rfl) (by rw [hbf]), by kernel_rfl⟩
theorem stepL_len (left : List (List UInt8)) (p : List UInt8) : (stepL left p).length ≤ left.length + 1 := by
 unfold stepL
 split
 ·
  split
  ·
   omega
  ·
   simp only [List.length_dropLast]; omega
 ·
  simp
theorem dots_two : (beqL [46, 46] [46] || (beqL [46, 46] [46, 46] || false)) = true := rfl
theorem round_e {parts : List (List UInt8)} {i : Nat} {p : List UInt8} {v3 : Value} {d0 : Bool} {x : Nat → Value} {left : List (List UInt8)} {Q : Exit → TL → AS → Prop} (hi : parts[i]? = some p) (hK : parts.length ≤ 100001) (hg : s.get 32 = some (.cells (parts.map str).toArray 9)) (hnx : 33 ≤ s.nx) (hr : RowL s v3 left) (hle : left.length ≤ 100001) (hone : p ≠ [46])
  (hq : ∀ v' s' x', s'.get 32 = some (.cells (parts.map str).toArray 9) → 33 ≤ s'.nx → RowL s' v' (stepL left p) → Q .normal (sl87 v' (decide (p = [46, 46])) parts.length (i + 1) x') s') : ∀ c, (match Tryz.f87.body with | some (.seq _ (.seq _ (.seq _ (.seq (.seq _ (.block _ (.loop c))) _)))) => c | _ => .skip) = c → EW Tryz.prog ktB (prAw Tryz.prog n) c (sl87 v3 d0 parts.length i x) s Q := by
 rintro c rfl
 have hilt : i < parts.length := (List.getElem?_eq_some_iff.1 hi).1
 have hcell : (parts.map str).toArray[i]? = some (str p) := by simp [hi]
 refine EW.seq (EW.region (by kernel_rfl) ?_)
 refine EO.op (by kernel_rfl) (op_bin (u := num ((i : Nat) : Int)) (w := num ((parts.length : Nat) : Int)) rfl (by kernel_rfl) (by kernel_rfl) (bin_lss (b := true) (decide_eq_true (by omega)))) ?_
 refine EO.nil ?_
 refine EW.seq (EW.condT (by kernel_rfl) (EW.skip ?_))
 refine EW.seq (EW.block ?_)
 refine EW.seq (EW.region (by kernel_rfl) ?_)
 refine EO.op (by kernel_rfl) (op_idxO (b := 32) (off := 0) (n := parts.length) (cp := parts.length) (sp := none) (kd := .i64) (j := ((i : Nat) : Int)) (sz := 1) (k := i) rfl Tryz.underlying62 (by kernel_rfl) (by kernel_rfl) (by kernel_rfl) (by omega) (by omega) (by simp)) ?_
 refine EO.op (by kernel_rfl) (op_ld (b := 32) (off := i) (v := str p) rfl Tryz.underlying9 rfl (by kernel_rfl) hg hcell) ?_
 refine EO.fin 5 (by kernel_rfl) ?_
 refine EW.seq (EW.region (by kernel_rfl) ?_)
 refine EO.go 2 5 (by kernel_rfl) ?_
 refine EO.asS (s.add (.cells #[str [46], str [46, 46]] 9)) (by kernel_rfl) ?_
 have hg1 : (s.add (.cells #[str [46], str [46, 46]] 9)).get 32 = some (.cells (parts.map str).toArray 9) := by rw [AS.get_add, if_neg (by omega)]; exact hg
 have hn1 : (s.add (.cells #[str [46], str [46, 46]] 9)).get s.nx = some (.cells #[str [46], str [46, 46]] 9) := by rw [AS.get_add, if_pos rfl]
 have hr1 := hr.add (.cells #[str [46], str [46, 46]] 9)
 by_cases hp : p = [46, 46]
 ·
  subst hp
  refine EO.callF #[str [46, 46], .slice (some ⟨s.nx, 0, none⟩) 2 2] (by kernel_rfl) rfl rfl (by kernel_rfl) (by kernel_rfl) (is_e hn1 dots_two) ?_
  refine EO.fin 5 (by kernel_rfl) ?_
  refine EW.block ?_
  refine EW.seq (EW.go 5 (by kernel_rfl) ?_)
  refine EW.condF (by kernel_rfl) ?_
  refine EW.seq (EW.region (by kernel_rfl) ?_)
  refine EO.go 4 5 (by kernel_rfl) ?_
  refine EO.asS (s.add (.cells #[str [46], str [46, 46]] 9)) (by kernel_rfl) ?_
  by_cases hf : left = [[]]
  ·
   refine EO.callF #[v3] (by kernel_rfl) rfl rfl (by kernel_rfl) (by kernel_rfl) (front_e hr1 (decide_eq_true hf) (by omega)) ?_
   refine EO.fin 5 (by kernel_rfl) ?_
   refine EW.condF (by kernel_rfl) (EW.skip ?_)
   refine EW.region (by kernel_rfl) ?_
   refine EO.op (by kernel_rfl) (op_addI (i := ((i : Nat) : Int)) (j := 1) (r := ((i + 1 : Nat) : Int)) rfl (by kernel_rfl) (by kernel_rfl) (by omega) (by omega)) ?_
   refine EO.fin 5 (by kernel_rfl) ?_
   refine endQ (sl87 v3 true parts.length (i + 1)) (s.add (.cells #[str [46], str [46, 46]] 9)) (by kernel_rfl) (by kernel_rfl) fun x' => hq v3 _ x' hg1 (by simp; omega) ?_
   unfold stepL
   rw [if_pos rfl, if_pos hf]
   exact hr1
  ·
   refine EO.callF #[v3] (by kernel_rfl) rfl rfl (by kernel_rfl) (by kernel_rfl) (front_e hr1 (decide_eq_false hf) (by omega)) ?_
   refine EO.fin 5 (by kernel_rfl) ?_
   refine EW.condT (by kernel_rfl) ?_
   refine EW.region (by kernel_rfl) ?_
   have hst : stepL left [46, 46] = left.dropLast := by
    unfold stepL
    rw [if_pos rfl, if_neg hf]
   rcases hr1 with ⟨rfl, rfl⟩ | ⟨b, c, fz, cs, rfl, h2, h3, h4, h5, h6, h7⟩
   ·
    refine EO.fin 5 (by kernel_rfl) ?_
    refine EW.region (by kernel_rfl) ?_
    refine EO.op (by kernel_rfl) (op_addI (i := ((i : Nat) : Int)) (j := 1) (r := ((i + 1 : Nat) : Int)) rfl (by kernel_rfl) (by kernel_rfl) (by omega) (by omega)) ?_
    refine EO.fin 5 (by kernel_rfl) ?_
    exact endQ (sl87 (.slice none 0 0) true parts.length (i + 1)) (s.add (.cells #[str [46], str [46, 46]] 9)) (by kernel_rfl) (by kernel_rfl) fun x' => hq _ _ x' hg1 (by simp; omega) (.inl ⟨rfl, by rw [hst]; rfl⟩)
   ·
    have hmx : ∀ k : Nat, k = left.length - 1 → (if (0 : Int) > ((left.length : Nat) : Int) - 1 then (0 : Int) else ((left.length : Nat) : Int) - 1) = ((k : Nat) : Int) := by
     intro k hk
     split <;> omega
    refine EO.go 3 5 (by kernel_rfl) ?_
    refine EO.op (by kernel_rfl) (op_subI (i := ((left.length : Nat) : Int)) (j := 1) (r := ((left.length : Nat) : Int) - 1) rfl (by kernel_rfl) (by kernel_rfl) rfl (by omega)) ?_
    refine EO.asS (s.add (.cells #[str [46], str [46, 46]] 9)) (by kernel_rfl) ?_
    refine EO.op (v := num ((left.length - 1 : Nat) : Int)) (s1 := s.add (.cells #[str [46], str [46, 46]] 9)) (by kernel_rfl) ((show _ = some (num (if (0 : Int) > ((left.length : Nat) : Int) - 1 then (0 : Int) else ((left.length : Nat) : Int) - 1), s.add (.cells #[str [46], str [46, 46]] 9)) by kernel_rfl).trans (by rw [hmx _ rfl])) ?_
    refine EO.op (by kernel_rfl) (op_slR (b := b) (off := 0) (n := left.length) (cp := c) (i := 0) (j := left.length - 1) (sz := 1) rfl Tryz.underlying62 (by kernel_rfl) h6 (by kernel_rfl) ((show _ = evBounds left.length c none (some (num ((left.length - 1 : Nat) : Int))) by kernel_rfl).trans ((bnd_hi (by omega) (by omega)).trans (by rw [Int.toNat_natCast]))) h3) ?_
    refine EO.fin 5 (by kernel_rfl) ?_
    refine EW.region (by kernel_rfl) ?_
    refine EO.op (by kernel_rfl) (op_addI (i := ((i : Nat) : Int)) (j := 1) (r := ((i + 1 : Nat) : Int)) rfl (by kernel_rfl) (by kernel_rfl) (by omega) (by omega)) ?_
    refine EO.fin 5 (by kernel_rfl) ?_
    refine endQ (sl87 (.slice (some ⟨b, 0, none⟩) (left.length - 1) c) true parts.length (i + 1)) (s.add (.cells #[str [46], str [46, 46]] 9)) (by kernel_rfl) (by kernel_rfl) fun x' => hq _ _ x' hg1 (by simp; omega) ?_
    have hdl : (left.dropLast).length = left.length - 1 := List.length_dropLast
    rw [hst]
    refine .inr ⟨b, c, fz, cs, by rw [hdl], by omega, h3, h4, h5, h6, ?_⟩
    rw [hdl, List.dropLast_eq_take, List.map_take, ← h7, List.take_take, Nat.min_eq_left (by omega)]
 ·
  have hdots : (beqL p [46] || (beqL p [46, 46] || false)) = false := by rw [beqL_ne hone, beqL_ne hp]; rfl
  have hst : stepL left p = left ++ [p] := by
   unfold stepL
   rw [if_neg hp]
  refine EO.callF #[str p, .slice (some ⟨s.nx, 0, none⟩) 2 2] (by kernel_rfl) rfl rfl (by kernel_rfl) (by kernel_rfl) (is_e hn1 hdots) ?_
  refine EO.fin 5 (by kernel_rfl) ?_
  refine EW.block ?_
  refine EW.seq (EW.go 5 (by kernel_rfl) ?_)
  refine EW.condT (by kernel_rfl) ?_
  refine EW.region (by kernel_rfl) ?_
  refine EO.go 3 5 (by kernel_rfl) ?_
  refine EO.asS ((s.add (.cells #[str [46], str [46, 46]] 9)).add (.cells #[str p] 9)) (by kernel_rfl) ?_
  have hr2 := hr1.add (.cells #[str p] 9)
  have hg2 : ((s.add (.cells #[str [46], str [46, 46]] 9)).add (.cells #[str p] 9)).get 32 = some (.cells (parts.map str).toArray 9) := by rw [AS.get_add, if_neg (by simp; omega)]; exact hg1
  have hn2 : ((s.add (.cells #[str [46], str [46, 46]] 9)).add (.cells #[str p] 9)).get (s.nx + 1) = some (.cells #[str p] 9) := by rw [AS.get_add, if_pos (by simp)]
  have hnx2 : ((s.add (.cells #[str [46], str [46, 46]] 9)).add (.cells #[str p] 9)).nx = s.nx + 2 := rfl
  generalize hs2 : (s.add (.cells #[str [46], str [46, 46]] 9)).add (.cells #[str p] 9) = s2 at hr2 hg2 hn2 hnx2 ⊢
  have hex : ∃ v' s3, evAppend Tryz.prog 9 v3 [str p] 1 s2 = some (v', s3) ∧ rowsApart v3 (some ⟨s.nx + 1, 0, none⟩) = true ∧ s3.get 32 = some (.cells (parts.map str).toArray 9) ∧ 33 ≤ s3.nx ∧ RowL s3 v' (left ++ [p]) := by
   rcases hr with ⟨rfl, rfl⟩ | ⟨b, c, fz, cs, rfl, h2, h3, h4, h5, h6, h7⟩
   ·
    refine ⟨_, _, app_none (by simp), rfl, by rw [AS.get_add, if_neg (by omega)]; exact hg2, by show 33 ≤ s2.nx + 1; omega, .inr ⟨s2.nx, 1, (1, 1), [str p], rfl, by simp, by omega, by omega, by simp, by rw [AS.get_add, if_pos rfl], rfl⟩⟩
   ·
    rcases hr2 with ⟨e, _⟩ | ⟨b', c', fz', cs', e, _, _, _, _, h6', _⟩
    ·
     cases e
    cases e
    have hcl : left.length ≤ cs.length := by
     have := congrArg List.length h7
     simp only [List.length_take, List.length_map] at this
     omega
    have h62 : s2.get b = some (.cells cs.toArray 9 fz) := by
     rw [← hs2, AS.get_add, if_neg (by show ¬ b = s.nx + 1; omega), AS.get_add, if_neg (by omega)]
     exact h6
    refine ⟨_, _, app_row (sz := 1) (by simp) h62 (by kernel_rfl) (by simpa using hcl) (by omega), ?_, by rw [AS.get_add, if_neg (by show ¬ 32 = s2.nx; omega), AS.get_set, if_neg (by omega)]; exact hg2, by show 33 ≤ s2.nx + 1; omega, .inr ⟨s2.nx, left.length + 1, (1, 1), cs.take (left.length * 1) ++ [str p], by simp, by simp, by omega, by omega, by simp, by rw [AS.get_add, if_pos (by simp)], ?_⟩⟩
    ·
     show (!b.beq (s.nx + 1)) = true
     have : b.beq (s.nx + 1) = false := by
      rw [Bool.eq_false_iff]
      intro e
      have := Nat.eq_of_beq_eq_true e
      omega
     rw [this]
     rfl
    ·
     rw [Nat.mul_one, h7, List.map_append]
     exact List.take_of_length_le (by simp only [List.length_append, List.length_map, List.length_cons, List.length_nil]; omega)
  obtain ⟨v', s3, e1, e2, e3, e4, e5⟩ := hex
  refine EO.op (by kernel_rfl) (op_appR (sl := v3) (z := .string ⟨#[]⟩) (w := str p) (d := s.nx + 1) (k := 1) (bytes := 16) rfl (by kernel_rfl) (by kernel_rfl) Tryz.underlying62 (by kernel_rfl) rfl (by omega) (by kernel_rfl) hn2 e2 rfl e1) ?_
  refine EO.fin 5 (by kernel_rfl) ?_
  refine EW.region (by kernel_rfl) ?_
  refine EO.op (by kernel_rfl) (op_addI (i := ((i : Nat) : Int)) (j := 1) (r := ((i + 1 : Nat) : Int)) rfl (by kernel_rfl) (by kernel_rfl) (by omega) (by omega)) ?_
  refine EO.asS s3 (by kernel_rfl) ?_
  refine EO.fin 5 (by kernel_rfl) ?_
  rw [decide_eq_false hp, hst] at hq
  exact endQ (sl87 v' false parts.length (i + 1)) s3 (by kernel_rfl) (by kernel_rfl) fun x' => hq v' s3 x' e3 e4 e5
end
end Go.Proofs.YtgcaionclkbehaaGreatDoor
namespace Go.Proofs.YtgcaionclkbehaaGreatDoor
open Go.Conc Go.RowKit Go.Lib
theorem dotsL_snoc (l : List (List UInt8)) (p : List UInt8) : dotsL (l ++ [p]) = decide (p = [46, 46]) := by
 unfold dotsL
 rw [List.getLast?_append]
 rfl
section
variable {n : Nat}
theorem plain_e {parts left : List (List UInt8)} (hp0 : parts ≠ []) (hp : ∀ x ∈ parts, 47 ∉ x) (hone : ∀ x ∈ parts, x ≠ [46]) (hl : (joinL parts).length ≤ 100000) (hd : dotsL parts = false) (hleft : parts.foldl stepL [] = left) (hl0 : left ≠ []) (hll : (joinL left).length ≤ 100000) : ∃ s1, EF Tryz.prog ktB (prAw Tryz.prog n) 87 #[str (joinL parts)] z0 (str (joinL left)) s1 := by
 suffices h : ∃ s1, EF Tryz.prog ktB (prAw Tryz.prog n) 87 #[str (joinL parts)] z0 (str (joinL left)) s1 ∧ True from h.imp fun _ h => h.1
 have hK : parts.length ≤ 100001 := by
  cases parts with
  | nil => exact absurd rfl hp0
  | cons p r => have := joinL_len r p; simp only [List.length_cons]; omega
 obtain ⟨s1, h1, h2, h3⟩ := split_row_e (n := n) hp0 hp hl
 refine EF.ofE (by kernel_rfl) Tryz.func87 rfl ?_
 iterate 3
  refine EW.seq (EW.go 5 (by kernel_rfl) ?_)
 refine EW.seq (EW.seq (EW.region (by kernel_rfl) ?_))
 refine EO.go 1 5 (by kernel_rfl) ?_
 refine EO.asS z0 (by kernel_rfl) ?_
 refine EO.callF #[str (joinL parts), str [47]] (by kernel_rfl) rfl rfl (by kernel_rfl) (by kernel_rfl) h1 ?_
 refine EO.fin 5 (by kernel_rfl) ?_
 refine EW.asS s1 (by kernel_rfl) ?_
 refine EW.fill (sl87 (.slice none 0 0) false parts.length 0) (by kernel_rfl) ?_
 intro x0
 refine EW.block ?_
 refine EW.mono (EW.loopI (Q := fun e a' s' => e = .exit 0 ∧ ∃ v3, RowL s' v3 (parts.foldl stepL []) ∧ ∃ x, a' = sl87 v3 (dotsL parts) parts.length parts.length x) (fun m a' s' => ∃ i, i + m = parts.length ∧ s'.get 32 = some (.cells (parts.map str).toArray 9) ∧ 33 ≤ s'.nx ∧ ((parts.take i).foldl stepL []).length ≤ i ∧ ∃ v3, RowL s' v3 ((parts.take i).foldl stepL []) ∧ ∃ x, a' = sl87 v3 (dotsL (parts.take i)) parts.length i x) ?_ parts.length _ _ ⟨0, by omega, h3, by omega, by simp, _, .inl ⟨rfl, by simp⟩, x0, rfl⟩) ?_
 ·
  rintro m a' s' ⟨i, him, hg, hnx, hle, v3, hr, x, rfl⟩
  cases m with
  | zero =>
   have hi : i = parts.length := by omega
   subst hi
   rw [List.take_length] at hr
   refine EW.seq (EW.region (by kernel_rfl) ?_)
   refine EO.op (by kernel_rfl) (op_bin (u := num ((parts.length : Nat) : Int)) (w := num ((parts.length : Nat) : Int)) rfl (by kernel_rfl) (by kernel_rfl) (bin_lss (b := false) (decide_eq_false (by omega)))) ?_
   refine EO.nil ?_
   refine EW.seq (EW.condF (by kernel_rfl) (EW.exit ?_))
   refine ⟨rfl, v3, hr, ?_⟩
   rw [List.take_length]
   exact fillX (by kernel_rfl)
  | succ k =>
   have hilt : i < parts.length := by omega
   have hi : parts[i]? = some parts[i] := List.getElem?_eq_getElem hilt
   have htk : parts.take (i + 1) = parts.take i ++ [parts[i]] := by rw [List.take_add_one, hi]; rfl
   have hle' := stepL_len ((parts.take i).foldl stepL []) parts[i]
   refine round_e hi hK hg hnx hr (by omega) (hone _ (List.getElem_mem _)) (fun v' s'' x' g1 g2 g3 => ⟨k, Nat.lt_succ_self k, i + 1, by omega, g1, g2, ?_, v', ?_, x', ?_⟩) _ rfl
   ·
    rw [htk, List.foldl_append]
    simp only [List.foldl_cons, List.foldl_nil]
    omega
   ·
    rw [htk, List.foldl_append]
    exact g3
   ·
    rw [htk, dotsL_snoc]
 ·
  rintro e a' s' ⟨rfl, v3, hr, x, rfl⟩
  rw [hleft] at hr
  rw [hd]
  rcases hr with ⟨_, e⟩ | ⟨b, c, fz, cs, rfl, g2, g3, g4, g5, g6, g7⟩
  ·
   exact absurd e hl0
  refine EW.seq (EW.region (by kernel_rfl) ?_)
  refine EO.go 1 5 (by kernel_rfl) ?_
  refine EO.asS s' (by kernel_rfl) ?_
  cases left with
  | nil => exact absurd rfl hl0
  | cons p r =>
   cases r with
   | nil =>
    refine EO.callF #[.slice (some ⟨b, 0, none⟩) 1 c, str [47]] (by kernel_rfl) rfl rfl (by kernel_rfl) (by kernel_rfl) (join1_e (p := p) g6 (RowL.cell g7 (i := 0) (by simp))) ?_
    refine EO.fin 5 (by kernel_rfl) ?_
    refine EW.seq (EW.go 5 (by kernel_rfl) ?_)
    refine EW.goE 5 .ret (by kernel_rfl) ?_
    exact ⟨.inr rfl, by kernel_rfl, trivial⟩
   | cons q r =>
    obtain ⟨s2, hj⟩ := join_e (n := n) (c := c) g5 g6 (fun i h => RowL.cell g7 h) (by simpa using g2) hll
    refine EO.callF #[.slice (some ⟨b, 0, none⟩) (r.length + 2) c, str [47]] (by kernel_rfl) rfl rfl (by kernel_rfl) (by kernel_rfl) hj ?_
    refine EO.fin 5 (by kernel_rfl) ?_
    refine EW.seq (EW.go 5 (by kernel_rfl) ?_)
    refine EW.goE 5 .ret (by kernel_rfl) ?_
    exact ⟨.inr rfl, by kernel_rfl, trivial⟩
end
end Go.Proofs.YtgcaionclkbehaaGreatDoor
namespace Go.Proofs.YtgcaionclkbehaaGreatDoor
open Go.Conc Go.RowKit Go.Lib
theorem op_addB {P : Program} {kt : TypeId → Bool} {c : CallF} {a : TL} {s : AS} {o : Oper} {t : TypeId} {x y : Operand} {z} {i j r : Int} (hop : o.op = .binOp .add t x y z) (hx : a.at x = num i) (hy : a.at y = num j) (hr : i + j = r) (hs : -9223372036854775808 ≤ r ∧ r ≤ 9223372036854775807) : evOp P kt c a o s = some (num r, s) := by
 refine evOp_quiet (by rw [hop]; rfl) (by rw [hop]; trivial) ?_
 unfold evQuiet
 rw [hop]
 simp only
 rw [hx, hy]
 unfold evBin
 simp only [if_pos]
 rw [hr, wrapF_ok hs]
theorem bin_geqK {k : IntKind} {i j : Int} {b : Bool} (h : decide (i ≥ j) = b) : evBin .geq (.int k i) (.int k j) = some (.bool b) := by unfold evBin; simp only [if_pos]; rw [h]
theorem bin_leqK {k : IntKind} {i j : Int} {b : Bool} (h : decide (i ≤ j) = b) : evBin .leq (.int k i) (.int k j) = some (.bool b) := by unfold evBin; simp only [if_pos]; rw [h]
def pickN (y : Int) (m : Int) : Nat := ((if y < 0 then -(y + 1) else y) % m).toNat
theorem pickN_lt (y : Int) (m : Nat) (hm : 0 < m) : pickN y m < m := by
 unfold pickN
 have h1 := Int.emod_nonneg (if y < 0 then -(y + 1) else y) (b := (m : Int)) (by omega)
 have h2 := Int.emod_lt_of_pos (if y < 0 then -(y + 1) else y) (b := (m : Int)) (by omega)
 omega
def sl31 (q out : List UInt8) (i : Nat) (x : Nat → Value) : TL := [str q, x 1, str [], str out, num ((i : Nat) : Int), x 5, x 6, x 7, x 8, x 9, x 10, x 11, x 12, x 13, x 14, x 15, x 16, x 17, x 18, x 19, x 20, x 21, x 22, x 23, x 24, x 25, x 26, x 27, x 28, x 29, x 30, x 31, x 32, x 33]
def smallOk (out : List UInt8) : Prop := out.length ≤ 8 ∧ ∀ c ∈ out, 97 ≤ c.toNat ∧ c.toNat ≤ 122
section
variable {pr : Prim} {s : AS}
theorem pick26_e {y : Int} (hp : pr 19 = none) (hy : -9223372036854775808 ≤ y ∧ y ≤ 9223372036854775807) : EF Tryz.prog ktB pr 19 #[num y, num 26] s (num ((pickN y 26 : Nat) : Int)) s := by
 refine EF.of hp Tryz.func19 rfl ?_
 refine EW.seq (EW.go 5 (by kernel_rfl) ?_)
 refine EW.seq (EW.seq (EW.region (by kernel_rfl) ?_))
 refine EO.go 1 5 (by kernel_rfl) ?_
 by_cases h : y < 0
 ·
  have hpk : ((-(y + 1)).tmod 26 : Int) = ((pickN y 26 : Nat) : Int) := by
   unfold pickN
   rw [if_pos h, Int.tmod_eq_emod_of_nonneg (by omega)]
   omega
  refine EO.op (by kernel_rfl) (op_bin (u := num y) (w := num 0) rfl (by kernel_rfl) (by kernel_rfl) (bin_lss (b := true) (decide_eq_true h))) ?_
  refine EO.nil ?_
  refine EW.condT (by kernel_rfl) ?_
  refine EW.region (by kernel_rfl) ?_
  refine EO.go 1 5 (by kernel_rfl) ?_
  refine EO.op (by kernel_rfl) (op_addB (i := y) (j := 1) (r := y + 1) rfl (by kernel_rfl) (by kernel_rfl) rfl (by omega)) ?_
  refine EO.asS s (by kernel_rfl) ?_
  refine EO.op (v := num (-(y + 1))) (s1 := s) (by kernel_rfl) ((show _ = some (num (IntKind.i64.wrap (0 - (y + 1))), s) by kernel_rfl).trans (by rw [wrapS (by omega), Int.zero_sub])) ?_
  refine EO.fin 5 (by kernel_rfl) ?_
  refine EW.seq (EW.region (by kernel_rfl) ?_)
  refine EO.go 2 5 (by kernel_rfl) ?_
  refine EO.asS s (by kernel_rfl) ?_
  refine EO.op (v := num ((pickN y 26 : Nat) : Int)) (s1 := s) (by kernel_rfl) ((show _ = some (num ((-(y + 1)).tmod 26), s) by kernel_rfl).trans (by rw [hpk])) ?_
  refine EO.fin 5 (by kernel_rfl) ?_
  exact EW.ret ⟨.inr rfl, by kernel_rfl, by kernel_rfl⟩
 ·
  have hpk : (y.tmod 26 : Int) = ((pickN y 26 : Nat) : Int) := by
   unfold pickN
   rw [if_neg h, Int.tmod_eq_emod_of_nonneg (by omega)]
   omega
  refine EO.op (by kernel_rfl) (op_bin (u := num y) (w := num 0) rfl (by kernel_rfl) (by kernel_rfl) (bin_lss (b := false) (decide_eq_false h))) ?_
  refine EO.nil ?_
  refine EW.condF (by kernel_rfl) (EW.skip ?_)
  refine EW.seq (EW.region (by kernel_rfl) ?_)
  refine EO.go 2 5 (by kernel_rfl) ?_
  refine EO.asS s (by kernel_rfl) ?_
  refine EO.op (v := num ((pickN y 26 : Nat) : Int)) (s1 := s) (by kernel_rfl) ((show _ = some (num (y.tmod 26), s) by kernel_rfl).trans (by rw [hpk])) ?_
  refine EO.fin 5 (by kernel_rfl) ?_
  exact EW.ret ⟨.inr rfl, by kernel_rfl, by kernel_rfl⟩
theorem pick14_e {y : Int} (hp : pr 19 = none) (hy : -9223372036854775808 ≤ y ∧ y ≤ 9223372036854775807) : EF Tryz.prog ktB pr 19 #[num y, num 14] s (num ((pickN y 14 : Nat) : Int)) s := by
 refine EF.of hp Tryz.func19 rfl ?_
 refine EW.seq (EW.go 5 (by kernel_rfl) ?_)
 refine EW.seq (EW.seq (EW.region (by kernel_rfl) ?_))
 refine EO.go 1 5 (by kernel_rfl) ?_
 by_cases h : y < 0
 ·
  have hpk : ((-(y + 1)).tmod 14 : Int) = ((pickN y 14 : Nat) : Int) := by
   unfold pickN
   rw [if_pos h, Int.tmod_eq_emod_of_nonneg (by omega)]
   omega
  refine EO.op (by kernel_rfl) (op_bin (u := num y) (w := num 0) rfl (by kernel_rfl) (by kernel_rfl) (bin_lss (b := true) (decide_eq_true h))) ?_
  refine EO.nil ?_
  refine EW.condT (by kernel_rfl) ?_
  refine EW.region (by kernel_rfl) ?_
  refine EO.go 1 5 (by kernel_rfl) ?_
  refine EO.op (by kernel_rfl) (op_addB (i := y) (j := 1) (r := y + 1) rfl (by kernel_rfl) (by kernel_rfl) rfl (by omega)) ?_
  refine EO.asS s (by kernel_rfl) ?_
  refine EO.op (v := num (-(y + 1))) (s1 := s) (by kernel_rfl) ((show _ = some (num (IntKind.i64.wrap (0 - (y + 1))), s) by kernel_rfl).trans (by rw [wrapS (by omega), Int.zero_sub])) ?_
  refine EO.fin 5 (by kernel_rfl) ?_
  refine EW.seq (EW.region (by kernel_rfl) ?_)
  refine EO.go 2 5 (by kernel_rfl) ?_
  refine EO.asS s (by kernel_rfl) ?_
  refine EO.op (v := num ((pickN y 14 : Nat) : Int)) (s1 := s) (by kernel_rfl) ((show _ = some (num ((-(y + 1)).tmod 14), s) by kernel_rfl).trans (by rw [hpk])) ?_
  refine EO.fin 5 (by kernel_rfl) ?_
  exact EW.ret ⟨.inr rfl, by kernel_rfl, by kernel_rfl⟩
 ·
  have hpk : (y.tmod 14 : Int) = ((pickN y 14 : Nat) : Int) := by
   unfold pickN
   rw [if_neg h, Int.tmod_eq_emod_of_nonneg (by omega)]
   omega
  refine EO.op (by kernel_rfl) (op_bin (u := num y) (w := num 0) rfl (by kernel_rfl) (by kernel_rfl) (bin_lss (b := false) (decide_eq_false h))) ?_
  refine EO.nil ?_
  refine EW.condF (by kernel_rfl) (EW.skip ?_)
  refine EW.seq (EW.region (by kernel_rfl) ?_)
  refine EO.go 2 5 (by kernel_rfl) ?_
  refine EO.asS s (by kernel_rfl) ?_
  refine EO.op (v := num ((pickN y 14 : Nat) : Int)) (s1 := s) (by kernel_rfl) ((show _ = some (num (y.tmod 14), s) by kernel_rfl).trans (by rw [hpk])) ?_
  refine EO.fin 5 (by kernel_rfl) ?_
  exact EW.ret ⟨.inr rfl, by kernel_rfl, by kernel_rfl⟩
theorem small_e {q : List UInt8} (hp : pr 31 = none) (hq : q.length ≤ 9223372036854775807) : ∃ out, smallOk out ∧ EF Tryz.prog ktB pr 31 #[str q] s (str out) s := by
 suffices h : EW Tryz.prog ktB pr (match Tryz.f31.body with | some c => c | none => .skip) ((#[str q] : Array Value).toList ++ List.replicate (Tryz.f31.ntmps - (#[str q] : Array Value).toList.length) undef) s (fun e a' s1 => (e = .normal ∨ e = .ret) ∧ s1 = s ∧ ∃ out, smallOk out ∧ evRes Tryz.prog Tryz.f31 a' s1 = some (str out)) by
  obtain ⟨m, e, a', s1, h1, he, h2, out, h3, h4⟩ := h
  exact ⟨out, h3, EF.of hp Tryz.func31 rfl ⟨m, e, a', s1, h1, he, h4, h2⟩⟩
 iterate 2
  refine EW.seq (EW.go 5 (by kernel_rfl) ?_)
 refine EW.seq (EW.seq (EW.go 5 (by kernel_rfl) ?_))
 refine EW.asS s (by kernel_rfl) ?_
 refine EW.fill (sl31 q [] 0) (by kernel_rfl) ?_
 intro x0
 refine EW.block ?_
 refine EW.mono (EW.loopI (Q := fun e a' s' => e = .exit 0 ∧ s' = s ∧ ∃ out i, smallOk out ∧ ∃ x, a' = sl31 q out i x) (fun m a' s' => s' = s ∧ ∃ out i, i + m = q.length + 1 ∧ i ≤ q.length ∧ smallOk out ∧ ∃ x, a' = sl31 q out i x) ?_ (q.length + 1) _ _ ⟨rfl, [], 0, by omega, by omega, ⟨by simp, by simp⟩, x0, rfl⟩) ?_
 ·
  rintro m a' s' ⟨rfl, out, i, him, hi, hok, x, rfl⟩
  obtain ⟨k, rfl⟩ : ∃ k, m = k + 1 := ⟨m - 1, by omega⟩
  refine EW.seq (EW.seq (EW.region (by kernel_rfl) ?_))
  refine EO.go 2 5 (by kernel_rfl) ?_
  refine EO.op (by kernel_rfl) (op_lenS (l := q) rfl Tryz.underlying9 (by kernel_rfl)) ?_
  by_cases hlt : i < q.length
  ·
   refine EO.op (by kernel_rfl) (op_bin (u := num ((i : Nat) : Int)) (w := num q.length) rfl (by kernel_rfl) (by kernel_rfl) (bin_lss (b := true) (decide_eq_true (by omega)))) ?_
   refine EO.go 2 5 (by kernel_rfl) ?_
   refine EO.op (by kernel_rfl) (op_lenS (l := out) rfl Tryz.underlying9 (by kernel_rfl)) ?_
   by_cases h8 : out.length < 8
   ·
    refine EO.op (by kernel_rfl) (op_bin (u := num out.length) (w := num 8) rfl (by kernel_rfl) (by kernel_rfl) (bin_lss (b := true) (decide_eq_true (by omega)))) ?_
    refine EO.fin 5 (by kernel_rfl) ?_
    refine EW.condT (by kernel_rfl) (EW.skip ?_)
    refine EW.seq (EW.block ?_)
    have hb : q[i]? = some q[i] := List.getElem?_eq_getElem hlt
    generalize q[i] = c at hb
    have hidx : q[((i : Nat) : Int).toNat]? = some c := by rw [Int.toNat_natCast]; exact hb
    have hend : ∀ (out' : List UInt8) (a1 : TL) (s1 : AS), smallOk out' → s1 = s' → (∃ x, a1 = sl31 q out' i x) → EW Tryz.prog ktB pr (match Tryz.f31.body with | some (.seq _ (.seq _ (.seq (.seq _ (.block _ (.loop (.seq _ (.seq _ c))))) _))) => c | _ => .skip) a1 s1 (fun e a' s'' => match e with | .normal => ∃ m', m' < k + 1 ∧ s'' = s' ∧ ∃ out i, i + m' = q.length + 1 ∧ i ≤ q.length ∧ smallOk out ∧ ∃ x, a' = sl31 q out i x | e => e = .exit 0 ∧ s'' = s' ∧ ∃ out i, smallOk out ∧ ∃ x, a' = sl31 q out i x) := by
     rintro out' a1 s1 ho rfl ⟨x1, rfl⟩
     refine EW.region (by kernel_rfl) ?_
     refine EO.go 1 5 (by kernel_rfl) ?_
     refine EO.op (by kernel_rfl) (op_addB (i := ((i : Nat) : Int)) (j := 1) (r := ((i + 1 : Nat) : Int)) rfl (by kernel_rfl) (by kernel_rfl) (by omega) (by omega)) ?_
     refine EO.fin 5 (by kernel_rfl) ?_
     exact ⟨k, Nat.lt_succ_self k, by kernel_rfl, out', i + 1, by omega, by omega, ho, fillX (by kernel_rfl)⟩
    refine EW.seq (EW.region (by kernel_rfl) ?_)
    refine EO.go 2 5 (by kernel_rfl) ?_
    refine EO.op (by kernel_rfl) (op_idx (l := q) (k := .i64) (n := ((i : Nat) : Int)) (b := c) rfl Tryz.underlying9 (by kernel_rfl) (by kernel_rfl) (by omega) hidx) ?_
    by_cases h97 : 97 ≤ c.toNat
    ·
     refine EO.op (by kernel_rfl) (op_bin (u := .int .u8 c.toNat) (w := .int .u8 97) rfl (by kernel_rfl) (by kernel_rfl) (bin_geqK (b := true) (decide_eq_true (by omega)))) ?_
     refine EO.go 3 5 (by kernel_rfl) ?_
     refine EO.op (by kernel_rfl) (op_idx (l := q) (k := .i64) (n := ((i : Nat) : Int)) (b := c) rfl Tryz.underlying9 (by kernel_rfl) (by kernel_rfl) (by omega) hidx) ?_
     by_cases h122 : c.toNat ≤ 122
     ·
      refine EO.op (by kernel_rfl) (op_bin (u := .int .u8 c.toNat) (w := .int .u8 122) rfl (by kernel_rfl) (by kernel_rfl) (bin_leqK (b := true) (decide_eq_true (by omega)))) ?_
      refine EO.fin 5 (by kernel_rfl) ?_
      refine EW.condT (by kernel_rfl) ?_
      refine EW.region (by kernel_rfl) ?_
      refine EO.go 4 5 (by kernel_rfl) ?_
      refine EO.op (by kernel_rfl) (op_addB (i := ((i : Nat) : Int)) (j := 1) (r := ((i + 1 : Nat) : Int)) rfl (by kernel_rfl) (by kernel_rfl) (by omega) (by omega)) ?_
      refine EO.op (by kernel_rfl) (op_sub (l := q) (m := [c]) (i := i) (j := i + 1) rfl Tryz.underlying9 (by kernel_rfl) ((show _ = evBounds q.length q.length (some (num ((i : Nat) : Int))) (some (num ((i + 1 : Nat) : Int))) by kernel_rfl).trans ((bnd_both (by omega) (by omega) (by omega)).trans (by rw [Int.toNat_natCast, Int.toNat_natCast]))) (by rw [List.take_add_one, hb, List.drop_append_of_le_length (by simp; omega), List.drop_eq_nil_of_le (by simp; omega)]; rfl)) ?_
      refine EO.op (by kernel_rfl) (op_addS (l := out) (m := [c]) rfl (by kernel_rfl) (by kernel_rfl) (by simp; omega)) ?_
      refine EO.fin 5 (by kernel_rfl) ?_
      refine hend (out ++ [c]) _ _ ⟨by simp; omega, fun y hy => ?_⟩ (by kernel_rfl) (fillX (by kernel_rfl))
      rcases List.mem_append.1 hy with hy | hy
      ·
       exact hok.2 y hy
      ·
       rw [List.mem_singleton.1 hy]; exact ⟨h97, h122⟩
     ·
      refine EO.op (by kernel_rfl) (op_bin (u := .int .u8 c.toNat) (w := .int .u8 122) rfl (by kernel_rfl) (by kernel_rfl) (bin_leqK (b := false) (decide_eq_false (by omega)))) ?_
      refine EO.fin 5 (by kernel_rfl) ?_
      refine EW.condF (by kernel_rfl) (EW.skip ?_)
      exact hend out _ _ hok (by kernel_rfl) (fillX (by kernel_rfl))
    ·
     refine EO.op (by kernel_rfl) (op_bin (u := .int .u8 c.toNat) (w := .int .u8 97) rfl (by kernel_rfl) (by kernel_rfl) (bin_geqK (b := false) (decide_eq_false (by omega)))) ?_
     refine EO.fin 5 (by kernel_rfl) ?_
     refine EW.condF (by kernel_rfl) (EW.skip ?_)
     exact hend out _ _ hok (by kernel_rfl) (fillX (by kernel_rfl))
   ·
    refine EO.op (by kernel_rfl) (op_bin (u := num out.length) (w := num 8) rfl (by kernel_rfl) (by kernel_rfl) (bin_lss (b := false) (decide_eq_false (by omega)))) ?_
    refine EO.fin 5 (by kernel_rfl) ?_
    refine EW.condF (by kernel_rfl) (EW.exit ?_)
    exact ⟨rfl, by kernel_rfl, out, i, hok, fillX (by kernel_rfl)⟩
  ·
   refine EO.op (by kernel_rfl) (op_bin (u := num ((i : Nat) : Int)) (w := num q.length) rfl (by kernel_rfl) (by kernel_rfl) (bin_lss (b := false) (decide_eq_false (by omega)))) ?_
   refine EO.fin 5 (by kernel_rfl) ?_
   refine EW.condF (by kernel_rfl) (EW.exit ?_)
   exact ⟨rfl, by kernel_rfl, out, i, hok, fillX (by kernel_rfl)⟩
 ·
  rintro e a' s' ⟨rfl, rfl, out, i, hok, x, rfl⟩
  refine EW.goE 5 .ret (by kernel_rfl) ?_
  exact ⟨.inr rfl, by kernel_rfl, out, hok, by kernel_rfl⟩
end
end Go.Proofs.YtgcaionclkbehaaGreatDoor
