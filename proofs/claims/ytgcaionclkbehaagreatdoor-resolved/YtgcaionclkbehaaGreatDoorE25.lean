/-
 addresses.split, by the evaluator's rules.
-/
import Derived.Test.YtgcaionclkbehaaGreatDoorA2
import Derived.Test.YtgcaionclkbehaaGreatDoorP1
set_option linter.all false
namespace Go.Proofs.YtgcaionclkbehaaGreatDoor
open Go.Conc Go.RowKit Go.Lib
abbrev adr (sa : List UInt8) (sb : Bool) (ha : List UInt8) (hb : Bool) (p q : List UInt8) (qt : Bool) (m : List UInt8) (mt : Bool) : Value := .agg #[str sa, .bool sb, str ha, .bool hb, str p, str q, .bool qt, str m, .bool mt]
abbrev pr3 (V1 V2 V3 : Array Value → Option Value) (pr : Prim) : Prim := prAl 173 V3 (prAl 172 V2 (prAl 171 V1 pr))
section
variable {n : Nat} {s : AS} {V1 V2 V3 : Array Value → Option Value}
theorem split_e {x a1 a2 a3 m q sa ha p : List UInt8} {mt qt sb hb : Bool} (h1 : V1 #[str x, str [35]] = some (.tuple #[str a1, .agg #[str m, .bool mt]])) (h2 : V1 #[str a1, str [63]] = some (.tuple #[str a2, .agg #[str q, .bool qt]])) (h3 : V2 #[str a2] = some (.tuple #[.agg #[str sa, .bool sb], str a3])) (h4 : V3 #[str a3] = some (.tuple #[.agg #[str ha, .bool hb], str p])) :
  ∃ s1, EF Tryz.prog ktB (pr3 V1 V2 V3 (prAw Tryz.prog n)) 86 #[str x] z0 (adr sa sb ha hb p q qt m mt) s1 := by
 suffices h : ∃ s1, EF Tryz.prog ktB (pr3 V1 V2 V3 (prAw Tryz.prog n)) 86 #[str x] z0 (adr sa sb ha hb p q qt m mt) s1 ∧ True from h.imp fun _ h => h.1
 refine EF.ofE (by kernel_rfl) Tryz.func86 rfl ?_
 iterate 2
  refine EW.seq (EW.go 50 (by kernel_rfl) ?_)
 refine EW.seq (EW.region (by kernel_rfl) ?_)
 refine EO.go 1 50 (by kernel_rfl) ?_
 refine EO.callF #[str x, str [35]] (by kernel_rfl) rfl rfl (by kernel_rfl) (by kernel_rfl) (EF.al (V := V1) (by kernel_rfl) h1) ?_
 refine EO.fin 50 (by kernel_rfl) ?_
 refine EW.seq (EW.region (by kernel_rfl) ?_)
 refine EO.go 1 50 (by kernel_rfl) ?_
 refine EO.callF #[str a1, str [63]] (by kernel_rfl) rfl rfl (by kernel_rfl) (by kernel_rfl) (EF.al (V := V1) (by kernel_rfl) h2) ?_
 refine EO.fin 50 (by kernel_rfl) ?_
 refine EW.seq (EW.region (by kernel_rfl) ?_)
 refine EO.go 1 50 (by kernel_rfl) ?_
 refine EO.callF #[str a2] (by kernel_rfl) rfl rfl (by kernel_rfl) (by kernel_rfl) (EF.al (V := V2) (by kernel_rfl) h3) ?_
 refine EO.fin 50 (by kernel_rfl) ?_
 refine EW.seq (EW.region (by kernel_rfl) ?_)
 refine EO.go 1 50 (by kernel_rfl) ?_
 refine EO.callF #[str a3] (by kernel_rfl) rfl rfl (by kernel_rfl) (by kernel_rfl) (EF.al (V := V3) (by kernel_rfl) h4) ?_
 refine EO.fin 50 (by kernel_rfl) ?_
 refine EW.goE 50 .ret (by kernel_rfl) ?_
 exact ⟨.inr rfl, by kernel_rfl, trivial⟩
end
end Go.Proofs.YtgcaionclkbehaaGreatDoor
namespace Go.Proofs.YtgcaionclkbehaaGreatDoor
open Go.Conc Go.RowKit Go.Lib
def veqable : Nat → Value → Bool
 | 0, _ => false
 | n + 1, v => match v with
  | .bool _ | .int _ _ | .string _ | .pointer _ | .slice _ _ _ | .nilFunc | .nilIface => true
  | .func _ x y => x.toList.all (veqable n) && y.toList.all (veqable n)
  | .agg x => x.toList.all (veqable n)
  | _ => false
theorem zip_self {α : Type} {p : α × α → Bool} : ∀ {l : List α}, (∀ x ∈ l, p (x, x) = true) → (l.zip l).all p = true
 | [], _ => rfl
 | x :: l, h => by
  rw [List.zip_cons_cons, List.all_cons, h x (by simp), zip_self fun y hy => h y (by simp [hy])]
  rfl
theorem veq_self : ∀ {n : Nat} {v : Value}, veqable n v = true → veq n v v = true
 | 0, v, h => by simp [veqable] at h
 | n + 1, v, h => by
  cases v with
  | bool b => unfold veq; simp
  | int k i => unfold veq; simp
  | string x => unfold veq; exact (beqL_iff _ _).2 rfl
  | pointer x => unfold veq; simp
  | slice x l c => unfold veq; simp
  | nilFunc => unfold veq; rfl
  | nilIface => unfold veq; rfl
  | func f x y =>
   unfold veqable at h
   simp only [Bool.and_eq_true, List.all_eq_true] at h
   unfold veq
   simp only [beq_self_eq_true, Bool.true_and, Nat.beq_refl]
   rw [zip_self fun z hz => veq_self (h.1 z hz), zip_self fun z hz => veq_self (h.2 z hz)]
   rfl
  | agg x =>
   unfold veqable at h
   simp only [List.all_eq_true] at h
   unfold veq
   simp only [Nat.beq_refl, Bool.true_and]
   exact zip_self fun z hz => veq_self (h z hz)
  | _ => simp [veqable] at h
def ldEs (P : Program) (ops : Array Oper) (q : Nat) : List Nat := (List.range q).filter fun i => (match ops.toList[i]? with | some o => kindOf P o | none => 0) == 3
def ldList (P : Program) (ops : Array Oper) (deps : List Nat) (q : Nat) (tr : List (TL × Value × AS)) (s : AS) : List (Option Value × Value) :=
 (List.range q).flatMap fun r => match ops.toList[r]?, tr[r]? with
  | some o, some (a, v, _) => match o.op with
   | .load t x => if Region.wanted o (yieldedL ops a) then ((0 :: (ldEs P ops q).map (· + 1)).filter fun p => !((ldEs P ops q).any fun e => (e.blt p && (deps.getD e 0).testBit r) || (!e.blt p && (deps.getD r 0).testBit e))).map fun p => (evLoad P t (a.at x) (heapAt tr s p), v) else []
   | _ => []
  | _, _ => [(none, undef)]
theorem okLoads_of {P : Program} {ops : Array Oper} {deps : List Nat} {q : Nat} {tr : List (TL × Value × AS)} {s : AS} (L : List (Option Value × Value)) (hL : ldList P ops deps q tr s = L) (h : ∀ x ∈ L, x.1 = some x.2 ∧ veqable 20 x.2 = true) : okLoads P ops deps q tr s = true := by
 subst hL
 unfold okLoads
 simp only
 rw [List.all_eq_true]
 intro r hr
 have hsub : ∀ x, x ∈ (match ops.toList[r]?, tr[r]? with
  | some o, some (a, v, _) => match o.op with
   | .load t x => if Region.wanted o (yieldedL ops a) then ((0 :: (ldEs P ops q).map (· + 1)).filter fun p => !((ldEs P ops q).any fun e => (e.blt p && (deps.getD e 0).testBit r) || (!e.blt p && (deps.getD r 0).testBit e))).map fun p => (evLoad P t (a.at x) (heapAt tr s p), v) else []
   | _ => []
  | _, _ => [(none, undef)] : List (Option Value × Value)) → x.1 = some x.2 ∧ veqable 20 x.2 = true := fun x hx => h x (List.mem_flatMap.2 ⟨r, hr, hx⟩)
 cases ho : ops.toList[r]? with
 | none => rw [ho] at hsub; exact absurd (hsub (none, undef) (by simp)).1 (by simp)
 | some o =>
  cases ht : tr[r]? with
  | none => rw [ho, ht] at hsub; exact absurd (hsub (none, undef) (by simp)).1 (by simp)
  | some z =>
   obtain ⟨a, v, s'⟩ := z
   rw [ho, ht] at hsub
   simp only at hsub ⊢
   cases hop : o.op with
   | load t x =>
    rw [hop] at hsub
    simp only at hsub ⊢
    rw [List.all_eq_true]
    intro p hp
    by_cases hw : Region.wanted o (yieldedL ops a) = true
    ·
     rw [if_pos hw] at hsub
     by_cases he : ((ldEs P ops q).any fun e => (e.blt p && (deps.getD e 0).testBit r) || (!e.blt p && (deps.getD r 0).testBit e)) = true
     ·
      rw [Bool.or_eq_true, Bool.or_eq_true]
      exact .inl (.inl he)
     ·
      have hm := hsub (evLoad P t (a.at x) (heapAt tr s p), v) (List.mem_map.2 ⟨p, List.mem_filter.2 ⟨hp, by simpa using he⟩, rfl⟩)
      simp only at hm
      rw [hm.1]
      simp only [veq_self hm.2, Bool.or_true, Bool.true_or]
    ·
     simp only [Bool.not_eq_true] at hw
     rw [hw]
     simp
   | _ => rfl
theorem bin_eqlK {k : IntKind} {i j : Int} {b : Bool} (h : (i == j) = b) : evBin .eql (.int k i) (.int k j) = some (.bool b) := by unfold evBin; simp only [if_pos]; rw [h]
theorem fillX {f : (Nat → Value) → TL} {a : TL} (h : a = f (fun j => a.getD j undef)) : ∃ x, a = f x := ⟨_, h⟩
end Go.Proofs.YtgcaionclkbehaaGreatDoor
namespace Go.Proofs.YtgcaionclkbehaaGreatDoor
open Go.Conc Go.RowKit Go.Lib
section
variable {n : Nat} {s : AS}
theorem lastIdx0_e {d f : List UInt8} (h : 47 ∉ f) (hl : (d ++ 47 :: f).length ≤ 1000000) : EF Tryz.prog ktB (prAw Tryz.prog n) 273 #[str (d ++ 47 :: f), .int .u8 47] s (num d.length) s := by
 have hl' : d.length + (f.length + 1) ≤ 1000000 := by simpa using hl
 refine EF.of (by kernel_rfl) Tryz.func273 rfl ?_
 refine EW.seq (EW.go 50 (by kernel_rfl) ?_)
 refine EW.seq (EW.seq (EW.region (by kernel_rfl) ?_))
 refine EO.go 1 50 (by kernel_rfl) ?_
 refine EO.op (by kernel_rfl) (op_lenS (l := d ++ 47 :: f) rfl Tryz.underlying9 (by kernel_rfl)) ?_
 refine EO.op (by kernel_rfl) (op_subI (i := (d ++ 47 :: f).length) (j := 1) (r := ((d.length + f.length : Nat) : Int)) rfl (by kernel_rfl) (by kernel_rfl) (by simp; omega) (by omega)) ?_
 refine EO.fin 50 (by kernel_rfl) ?_
 refine EW.block ?_
 refine EW.loopI (fun m a s' => s' = s ∧ m ≤ f.length ∧ ∃ x : Nat → Value, a = [str (d ++ 47 :: f), .int .u8 47, x 2, x 3, num 0, num ((d.length + m : Nat) : Int), x 6, x 7, x 8, x 9, x 10, x 11, x 12, x 13, x 14, x 15, x 16, x 17, x 18]) ?_ f.length _ _ ⟨by kernel_rfl, Nat.le_refl _, fillX (by kernel_rfl)⟩
 rintro m a s' ⟨rfl, hm, x, rfl⟩
 refine EW.seq (EW.go 50 (by kernel_rfl) ?_)
 refine EW.seq (EW.block ?_)
 refine EW.seq (EW.region (by kernel_rfl) ?_)
 refine EO.go 2 50 (by kernel_rfl) ?_
 cases m with
 | zero =>
  refine EO.op (by kernel_rfl) (op_idx (l := d ++ 47 :: f) (k := .i64) (n := ((d.length : Nat) : Int)) (b := 47) rfl Tryz.underlying9 (by kernel_rfl) (by kernel_rfl) (by omega) (by simp)) ?_
  refine EO.fin 50 (by kernel_rfl) ?_
  refine EW.goE 50 .ret (by kernel_rfl) ?_
  exact ⟨.inr rfl, by kernel_rfl, by kernel_rfl⟩
 | succ k =>
  have hb : f[k]? = some f[k] := List.getElem?_eq_getElem (by omega)
  have hne : f[k] ≠ 47 := fun e => h (e ▸ List.getElem_mem _)
  refine EO.op (by kernel_rfl) (op_idx (l := d ++ 47 :: f) (k := .i64) (n := ((d.length + (k + 1) : Nat) : Int)) (b := f[k]) rfl Tryz.underlying9 (by kernel_rfl) (by kernel_rfl) (by omega) (by rw [Int.toNat_natCast, List.getElem?_append_right (by omega), show d.length + (k + 1) - d.length = k + 1 by omega]; simpa using hb)) ?_
  refine EO.go 1 50 (by kernel_rfl) ?_
  refine EO.op (by kernel_rfl) (op_bin (u := .int .u8 f[k].toNat) (w := .int .u8 47) rfl (by kernel_rfl) (by kernel_rfl) (bin_eqlK (b := false) (by
   rw [beq_eq_false_iff_ne]
   intro e
   exact hne (UInt8.toNat_inj.1 (by have : ((f[k].toNat : Nat) : Int) = ((47 : Nat) : Int) := e; exact Int.ofNat.inj this))))) ?_
  refine EO.nil ?_
  refine EW.go 50 (by kernel_rfl) ?_
  refine EW.region (by kernel_rfl) ?_
  refine EO.go 1 50 (by kernel_rfl) ?_
  refine EO.op (by kernel_rfl) (op_subI (i := ((d.length + (k + 1) : Nat) : Int)) (j := 1) (r := ((d.length + k : Nat) : Int)) rfl (by kernel_rfl) (by kernel_rfl) (by omega) (by omega)) ?_
  refine EO.fin 50 (by kernel_rfl) ?_
  exact ⟨k, Nat.lt_succ_self k, by kernel_rfl, by omega, fillX (by kernel_rfl)⟩
theorem lastIdx_e {d f : List UInt8} (h : 47 ∉ f) (hl : (d ++ 47 :: f).length ≤ 1000000) : EF Tryz.prog ktB (prAw Tryz.prog n) 179 #[str (d ++ 47 :: f), str [47]] s (num d.length) s := by
 refine EF.of (by kernel_rfl) Tryz.func179 rfl ?_
 iterate 2
  refine EW.seq (EW.go 50 (by kernel_rfl) ?_)
 refine EW.seq (EW.block ?_)
 refine EW.seq (EW.go 50 (by kernel_rfl) ?_)
 refine EW.condF (by kernel_rfl) ?_
 refine EW.seq (EW.go 50 (by kernel_rfl) ?_)
 refine EW.condT (by kernel_rfl) ?_
 refine EW.seq (EW.region (by kernel_rfl) ?_)
 refine EO.go 3 50 (by kernel_rfl) ?_
 refine EO.callF #[str (d ++ 47 :: f), .int .u8 47] (by kernel_rfl) rfl rfl (by kernel_rfl) (by kernel_rfl) (lastIdx0_e h hl) ?_
 refine EO.fin 50 (by kernel_rfl) ?_
 exact EW.ret ⟨.inr rfl, by kernel_rfl, by kernel_rfl⟩
theorem folder_e {sa ha d f q m : List UInt8} {sb qt mt : Bool} (h : 47 ∉ f) (hl : (d ++ 47 :: f).length ≤ 1000000) (hd : ∃ c d', d ++ 47 :: f = c :: d') : ∃ s1, EF Tryz.prog ktB (prAw Tryz.prog n) 90 #[adr sa sb ha true (d ++ 47 :: f) q qt m mt] z0 (str (d ++ [47])) s1 := by
 suffices h : ∃ s1, EF Tryz.prog ktB (prAw Tryz.prog n) 90 #[adr sa sb ha true (d ++ 47 :: f) q qt m mt] z0 (str (d ++ [47])) s1 ∧ True from h.imp fun _ h => h.1
 have hl' : d.length + (f.length + 1) ≤ 1000000 := by simpa using hl
 obtain ⟨c, d', hd⟩ := hd
 refine EF.ofE (by kernel_rfl) Tryz.func90 rfl ?_
 refine EW.seq (EW.go 50 (by kernel_rfl) ?_)
 refine EW.seq (EW.seq (EW.region (by kernel_rfl) ?_))
 refine EO.go 6 50 (by kernel_rfl) ?_
 refine EO.op (by kernel_rfl) (op_bin (u := str (d ++ 47 :: f)) (w := str []) rfl (by kernel_rfl) (by kernel_rfl) (bin_eqS (b := false) (beqL_ne (by rw [hd]; simp)))) ?_
 refine EO.fin 50 (by kernel_rfl) ?_
 refine EW.go 50 (by kernel_rfl) ?_
 refine EW.seq (EW.draw (by kernel_rfl) (by kernel_rfl) (by kernel_rfl) ?_)
 iterate 4
  refine ET.q (by kernel_rfl) (by kernel_rfl) ?_
 refine ET.callF #[str (d ++ 47 :: f), str [47]] (by kernel_rfl) rfl rfl (by kernel_rfl) (by kernel_rfl) (lastIdx_e h hl) ?_
 refine ET.op (by kernel_rfl) (op_addI (i := d.length) (j := 1) (r := d.length + 1) rfl (by kernel_rfl) (by kernel_rfl) rfl (by omega)) ?_
 refine ET.op (by kernel_rfl) (op_sub (l := d ++ 47 :: f) (m := d ++ [47]) (i := 0) (j := d.length + 1) rfl Tryz.underlying9 (by kernel_rfl) ((show _ = evBounds (d ++ 47 :: f).length (d ++ 47 :: f).length none (some (num (d.length + 1))) by kernel_rfl).trans (bnd_hi (by omega) (by simp; omega))) (by rw [List.drop_zero, show d ++ 47 :: f = (d ++ [47]) ++ f by simp, show d.length + 1 = (d ++ [47]).length by simp, List.take_left])) ?_
 refine ET.q (by kernel_rfl) (by kernel_rfl) ?_
 refine ET.nil ⟨okLoads_of [(some (str (d ++ 47 :: f)), str (d ++ 47 :: f)), (some (str (d ++ 47 :: f)), str (d ++ 47 :: f)), (some (str (d ++ 47 :: f)), str (d ++ 47 :: f))] (by kernel_rfl) (by simp [veqable]), _, _, _, _, _, _, rfl, rfl, ?_⟩
 exact EW.ret ⟨.inr rfl, by kernel_rfl, trivial⟩
end
end Go.Proofs.YtgcaionclkbehaaGreatDoor
namespace Go.Proofs.YtgcaionclkbehaaGreatDoor
open Go.Conc Go.RowKit Go.Lib
abbrev pr7 (V4 V5 V6 V7 : Array Value → Option Value) (pr : Prim) : Prim := prAl 90 V7 (prAl 88 V6 (prAl 87 V5 (prAl 86 V4 pr)))
section
variable {n : Nat} {s : AS} {V1 V2 V3 V4 V5 V6 V7 : Array Value → Option Value}
theorem resolve1_e {b r sa ha p p' q m out : List UInt8} {hb qt mt : Bool} (h1 : V4 #[str r] = some (adr sa true ha hb p q qt m mt)) (h2 : V5 #[str p] = some (str p')) (h3 : V6 #[adr sa true ha hb p' q qt m mt] = some (str out)) :
  ∃ s1, EF Tryz.prog ktB (pr7 V4 V5 V6 V7 (pr3 V1 V2 V3 (prAw Tryz.prog n))) 49 #[str b, str r] z0 (str out) s1 := by
 suffices h : ∃ s1, EF Tryz.prog ktB (pr7 V4 V5 V6 V7 (pr3 V1 V2 V3 (prAw Tryz.prog n))) 49 #[str b, str r] z0 (str out) s1 ∧ True from h.imp fun _ h => h.1
 refine EF.ofE (by kernel_rfl) Tryz.func49 rfl ?_
 refine EW.seq (EW.go 50 (by kernel_rfl) ?_)
 refine EW.seq (EW.region (by kernel_rfl) ?_)
 refine EO.go 1 50 (by kernel_rfl) ?_
 refine EO.callF #[str r] (by kernel_rfl) rfl rfl (by kernel_rfl) (by kernel_rfl) (EF.al (V := V4) (by kernel_rfl) h1) ?_
 refine EO.fin 50 (by kernel_rfl) ?_
 refine EW.seq (EW.seq (EW.go 50 (by kernel_rfl) ?_))
 refine EW.condT (by kernel_rfl) ?_
 refine EW.seq (EW.region (by kernel_rfl) ?_)
 refine EO.go 2 50 (by kernel_rfl) ?_
 refine EO.callF #[str p] (by kernel_rfl) rfl rfl (by kernel_rfl) (by kernel_rfl) (EF.al (V := V5) (by kernel_rfl) h2) ?_
 refine EO.fin 50 (by kernel_rfl) ?_
 refine EW.seq (EW.region (by kernel_rfl) ?_)
 refine EO.go 1 50 (by kernel_rfl) ?_
 refine EO.callF #[adr sa true ha hb p' q qt m mt] (by kernel_rfl) rfl rfl (by kernel_rfl) (by kernel_rfl) (EF.al (V := V6) (by kernel_rfl) h3) ?_
 refine EO.fin 50 (by kernel_rfl) ?_
 exact EW.ret ⟨.inr rfl, by kernel_rfl, trivial⟩
theorem resolve2_e {b r bsa bha bp bq bm q m out : List UInt8} {bsb bhb bqt bmt mt : Bool} (h1 : V4 #[str r] = some (adr [] false [] false [] q false m mt)) (h2 : V4 #[str b] = some (adr bsa bsb bha bhb bp bq bqt bm bmt)) (h3 : V6 #[adr bsa bsb bha bhb bp bq bqt m mt] = some (str out)) :
  ∃ s1, EF Tryz.prog ktB (pr7 V4 V5 V6 V7 (pr3 V1 V2 V3 (prAw Tryz.prog n))) 49 #[str b, str r] z0 (str out) s1 := by
 suffices h : ∃ s1, EF Tryz.prog ktB (pr7 V4 V5 V6 V7 (pr3 V1 V2 V3 (prAw Tryz.prog n))) 49 #[str b, str r] z0 (str out) s1 ∧ True from h.imp fun _ h => h.1
 refine EF.ofE (by kernel_rfl) Tryz.func49 rfl ?_
 refine EW.seq (EW.go 50 (by kernel_rfl) ?_)
 refine EW.seq (EW.region (by kernel_rfl) ?_)
 refine EO.go 1 50 (by kernel_rfl) ?_
 refine EO.callF #[str r] (by kernel_rfl) rfl rfl (by kernel_rfl) (by kernel_rfl) (EF.al (V := V4) (by kernel_rfl) h1) ?_
 refine EO.fin 50 (by kernel_rfl) ?_
 refine EW.seq (EW.go 50 (by kernel_rfl) ?_)
 refine EW.seq (EW.region (by kernel_rfl) ?_)
 refine EO.go 1 50 (by kernel_rfl) ?_
 refine EO.callF #[str b] (by kernel_rfl) rfl rfl (by kernel_rfl) (by kernel_rfl) (EF.al (V := V4) (by kernel_rfl) h2) ?_
 refine EO.fin 50 (by kernel_rfl) ?_
 iterate 4
  refine EW.seq (EW.go 50 (by kernel_rfl) ?_)
 refine EW.seq (EW.region (by kernel_rfl) ?_)
 refine EO.go 1 50 (by kernel_rfl) ?_
 refine EO.callF #[adr bsa bsb bha bhb bp bq bqt m mt] (by kernel_rfl) rfl rfl (by kernel_rfl) (by kernel_rfl) (EF.al (V := V6) (by kernel_rfl) h3) ?_
 refine EO.fin 50 (by kernel_rfl) ?_
 exact EW.ret ⟨.inr rfl, by kernel_rfl, trivial⟩
theorem resolve3_e {b r bsa bha bp bq bm q m fo p p' out : List UInt8} {c : UInt8} {bsb bhb bqt bmt qt mt : Bool} (hc : c ≠ 47) (hlen : fo.length + (c :: p).length ≤ 1000000) (h1 : V4 #[str r] = some (adr [] false [] false (c :: p) q qt m mt)) (h2 : V4 #[str b] = some (adr bsa bsb bha bhb bp bq bqt bm bmt)) (h3 : V7 #[adr bsa bsb bha bhb bp bq bqt bm bmt] = some (str fo)) (h4 : V5 #[str (fo ++ c :: p)] = some (str p')) (h5 : V6 #[adr bsa bsb bha bhb p' q qt m mt] = some (str out)) :
  ∃ s1, EF Tryz.prog ktB (pr7 V4 V5 V6 V7 (pr3 V1 V2 V3 (prAw Tryz.prog n))) 49 #[str b, str r] z0 (str out) s1 := by
 suffices h : ∃ s1, EF Tryz.prog ktB (pr7 V4 V5 V6 V7 (pr3 V1 V2 V3 (prAw Tryz.prog n))) 49 #[str b, str r] z0 (str out) s1 ∧ True from h.imp fun _ h => h.1
 refine EF.ofE (by kernel_rfl) Tryz.func49 rfl ?_
 refine EW.seq (EW.go 50 (by kernel_rfl) ?_)
 refine EW.seq (EW.region (by kernel_rfl) ?_)
 refine EO.go 1 50 (by kernel_rfl) ?_
 refine EO.callF #[str r] (by kernel_rfl) rfl rfl (by kernel_rfl) (by kernel_rfl) (EF.al (V := V4) (by kernel_rfl) h1) ?_
 refine EO.fin 50 (by kernel_rfl) ?_
 refine EW.seq (EW.go 50 (by kernel_rfl) ?_)
 refine EW.seq (EW.region (by kernel_rfl) ?_)
 refine EO.go 1 50 (by kernel_rfl) ?_
 refine EO.callF #[str b] (by kernel_rfl) rfl rfl (by kernel_rfl) (by kernel_rfl) (EF.al (V := V4) (by kernel_rfl) h2) ?_
 refine EO.fin 50 (by kernel_rfl) ?_
 iterate 3
  refine EW.seq (EW.go 50 (by kernel_rfl) ?_)
 refine EW.seq (EW.block ?_)
 refine EW.seq (EW.go 50 (by kernel_rfl) ?_)
 refine EW.condF (by kernel_rfl) ?_
 refine EW.seq (EW.region (by kernel_rfl) ?_)
 refine EO.go 2 50 (by kernel_rfl) ?_
 refine EO.callF #[str (c :: p), str [47]] (by kernel_rfl) rfl rfl (by kernel_rfl) (by kernel_rfl) (hasPrefix_e (b := false) (by kernel_rfl) (by kernel_rfl) (by
  rw [show (c :: p).take ([47] : List UInt8).length = [c] by simp, beqL_ne (by simpa using hc), Bool.and_false])) ?_
 refine EO.fin 50 (by kernel_rfl) ?_
 refine EW.condF (by kernel_rfl) ?_
 refine EW.draw (by kernel_rfl) (by kernel_rfl) (by kernel_rfl) ?_
 refine ET.q (by kernel_rfl) (by kernel_rfl) ?_
 refine ET.callF #[adr bsa bsb bha bhb bp bq bqt bm bmt] (by kernel_rfl) rfl rfl (by kernel_rfl) (by kernel_rfl) (EF.al (V := V7) (by kernel_rfl) h3) ?_
 iterate 2
  refine ET.q (by kernel_rfl) (by kernel_rfl) ?_
 refine ET.op (by kernel_rfl) (op_addS (l := fo) (m := c :: p) rfl (by kernel_rfl) (by kernel_rfl) (by omega)) ?_
 refine ET.callF #[str (fo ++ c :: p)] (by kernel_rfl) rfl rfl (by kernel_rfl) (by kernel_rfl) (EF.al (V := V5) (by kernel_rfl) h4) ?_
 iterate 2
  refine ET.q (by kernel_rfl) (by kernel_rfl) ?_
 refine ET.nil ⟨okLoads_of [(some (adr bsa bsb bha bhb bp bq bqt bm bmt), adr bsa bsb bha bhb bp bq bqt bm bmt), (some (str (c :: p)), str (c :: p)), (some (str (c :: p)), str (c :: p))] (by kernel_rfl) (by simp [veqable]), _, _, _, _, _, _, rfl, rfl, ?_⟩
 refine EW.seq (EW.region (by kernel_rfl) ?_)
 refine EO.go 1 50 (by kernel_rfl) ?_
 refine EO.callF #[adr bsa bsb bha bhb p' q qt m mt] (by kernel_rfl) rfl rfl (by kernel_rfl) (by kernel_rfl) (EF.al (V := V6) (by kernel_rfl) h5) ?_
 refine EO.fin 50 (by kernel_rfl) ?_
 exact EW.ret ⟨.inr rfl, by kernel_rfl, trivial⟩
theorem resolveW_e {pr : Prim} {V : Array Value → Option Value} {b r out : List UInt8} (hp : pr 32 = none) (hV : pr 49 = some (alG V)) (h : V #[str b, str r] = some (str out)) : EF Tryz.prog ktB pr 32 #[str b, str r] s (str out) s := by
 refine EF.of hp Tryz.func32 rfl ?_
 refine EW.seq (EW.go 50 (by kernel_rfl) ?_)
 refine EW.seq (EW.region (by kernel_rfl) ?_)
 refine EO.go 2 50 (by kernel_rfl) ?_
 refine EO.callF #[str b, str r] (by kernel_rfl) rfl rfl (by kernel_rfl) (by kernel_rfl) (EF.al hV h) ?_
 refine EO.fin 50 (by kernel_rfl) ?_
 exact EW.ret ⟨.inr rfl, by kernel_rfl, by kernel_rfl⟩
end
end Go.Proofs.YtgcaionclkbehaaGreatDoor
namespace Go.Proofs.YtgcaionclkbehaaGreatDoor
open Go.Conc Go.RowKit Go.Lib
section
variable {P : Program} {kt : TypeId → Bool} {pr : Prim} {c : CallF} {a : TL} {s s' : AS} {o : Oper} {v : Value}
theorem op_ldA {t : TypeId} {x : Operand} {b off n : Nat} {cs r : Array Value} {ty : TypeId} {fz : Nat × Nat} {d : TypeDesc} (hop : o.op = .load t x) (ht : P.underlying t = some d) (hd : d.isRow = true) (hsz : sizeT P t = some n) (hx : a.at x = aptr b off) (hs : s.get b = some (.cells cs ty fz)) (hl : off + n ≤ cs.size) (hr : (cs.toList.drop off |>.take n).toArray = r) : evOp P kt c a o s = some (.agg r, s) := by
 unfold evOp
 rw [if_neg (by rw [hop]; simp [isNew]), hop]
 simp only
 unfold evLoad
 rw [hx]
 simp only [aptr, hs, ht, hd, hsz, if_true]
 rw [if_pos hl, hr]
theorem op_cnv {t u : TypeId} {x : Operand} (hop : o.op = .convert t u x) (hq : evQuiet P a o = none) (h : evConvP P t u (a.at x) s = some v) : evOp P kt c a o s = some (v, s) := by
 unfold evOp
 rw [if_neg (by rw [hop]; simp [isNew])]
 rw [hop]
 simp only
 rw [hq]
 simp only
 rw [h]
theorem cnv_1 {t u e : TypeId} {x : Value} {b k : Nat} {cs : Array Value} {ty : TypeId} {fz : Nat × Nat} (hx : x = aptr b 0) (ht : P.underlying t = some (.pointer e)) (hu : P.underlying u = some .unsafePointer) (hs : s.get b = some (.cells cs ty fz)) (hz : sizeT P e = some (k + 1)) (hl : 0 < cs.size) : evConvP P t u x s = some (aptr b 0) := by
 subst hx
 unfold evConvP
 rw [ht, hu]
 simp only [aptr]
 rw [hs, hz]
 simp only
 rw [if_pos hl]
theorem cnv_2 {t u e : TypeId} {x : Value} {b k : Nat} {cs : Array Value} {ty : TypeId} (hx : x = aptr b 0) (ht : P.underlying t = some .unsafePointer) (hu : P.underlying u = some (.pointer e)) (hs : s.get b = some (.cells cs ty (0, 0))) (hz : sizeT P e = some (k + 1)) (hl : liesAt P P.depth ty (cs.size / P.cellsOf ty) 0 e 1 = true) : evConvP P t u x s = some (aptr b 0) := by
 subst hx
 unfold evConvP
 rw [ht, hu]
 simp only [aptr]
 rw [hs, hz]
 simp only
 rw [if_pos hl]
theorem op_neqP {t e : TypeId} {x y : Operand} {z} {b k : Nat} (hop : o.op = .binOp .neq t x y z) (hx : a.at x = aptr b 0) (hy : a.at y = aptr b 0) (ht : P.underlying t = some (.pointer e)) (hz : sizeT P e = some (k + 1)) : evOp P kt c a o s = some (.bool false, s) := by
 refine evOp_quiet (by rw [hop]; rfl) (by rw [hop]; trivial) ?_
 unfold evQuiet
 rw [hop]
 simp only
 rw [hx, hy]
 have h1 : evBin .neq (aptr b 0) (aptr b 0) = none := rfl
 have h2 : evBinP P .neq t (aptr b 0) (aptr b 0) = some (.bool false) := by
  unfold evBinP
  simp only [aptr, ht]
  rw [hz]
  simp
 rw [h1, h2]
theorem op_appS {x y : Operand} {t t' e : TypeId} {sl : Value} {m : List UInt8} (hop : o.op = .call { callee := .builtin .append, args := #[x, y], argTypes := #[t, t'] }) (hx : a.at x = sl) (hy : a.at y = str m) (ht : P.underlying t = some (.slice e)) (ht' : P.underlying t' = some .string) (hi : (P.info? e).map (fun i => (i.zero, i.size, i.bytes)) = some (some (Value.int .u8 0), 1, 1)) (hkt : kt e = false) (hm : m.length ≤ 1000000000) (hp : plainRow sl = true) (h : evAppend P e sl (strCells ⟨m.toArray⟩) m.length s = some (v, s')) : evOp P kt c a o s = some (v, s') := by
 have hq : evQuiet P a o = none := by
  unfold evQuiet
  rw [hop]
 unfold evOp
 rw [if_neg (by rw [hop]; simp [isNew])]
 rw [hop]
 simp only
 rw [hq]
 simp only [List.map_cons, List.map_nil]
 rw [hx, hy]
 unfold evBuiltin
 simp only
 rw [ht, ht']
 simp only
 rw [hi]
 simp only
 rw [if_pos ⟨by show m.toArray.size ≤ _; simpa using hm, hkt, hp⟩]
 show evAppend P e sl (strCells ⟨m.toArray⟩) m.toArray.size s = _
 rw [List.size_toArray]
 exact h
theorem app_0 {e : TypeId} {sl : Value} {news : List Value} (h : sl = .slice none 0 0 ∨ ∃ d n k, sl = .slice (some ⟨d, 0, none⟩) n k) : evAppend P e sl news 0 s = some (sl, s) := by
 rcases h with rfl | ⟨d, n, k, rfl⟩
 ·
  rfl
 ·
  rfl
theorem app_none {e : TypeId} {news : List Value} {m : Nat} (h : m ≠ 0) : evAppend P e (.slice none 0 0) news m s = some (.slice (some ⟨s.nx, 0, none⟩) m m, s.add (.cells news.toArray e (1, 1))) := by
 unfold evAppend
 simp only
 rw [if_neg h]
theorem app_row {e : TypeId} {news : List Value} {m d n k sz : Nat} {cs : Array Value} {fz : Nat × Nat} (h : m ≠ 0) (hs : s.get d = some (.cells cs e fz)) (hz : sizeT P e = some sz) (hn : n * sz ≤ cs.size) (hm : n + m ≤ 1000000000) : evAppend P e (.slice (some ⟨d, 0, none⟩) n k) news m s = some (.slice (some ⟨s.nx, 0, none⟩) (n + m) (n + m), (s.set d none).add (.cells (cs.toList.take (n * sz) ++ news).toArray e (1, 1))) := by
 unfold evAppend
 simp only
 rw [if_neg h, hs, hz]
 simp only
 rw [if_pos ⟨trivial, hn, hm⟩]
theorem evBytes_c : ∀ (l : List UInt8), evBytes (l.map fun b => Value.int .u8 b.toNat) = some l
 | [] => rfl
 | b :: l => by
  rw [List.map_cons]
  unfold evBytes
  have h := b.toNat_lt
  rw [if_pos ⟨by omega, by omega⟩, evBytes_c l]
  simp
theorem op_uns {x y : Operand} {pt t' e : TypeId} {d : Nat} {l : List UInt8} {fz : Nat × Nat} (hop : o.op = .call { callee := .builtin .unsafeString, args := #[x, y], argTypes := #[pt, t'] }) (hx : a.at x = aptr d 0) (hy : a.at y = num l.length) (ht : P.underlying pt = some (.pointer e)) (hs : s.get d = some (.cells (strCells ⟨l.toArray⟩).toArray e fz)) (hc : P.cellsOf e = 1) (h0 : 0 < l.length) (h1 : l.length ≤ 1000000000) : evOp P kt c a o s = some (str l, s.set d none) := by
 have hq : evQuiet P a o = none := by
  unfold evQuiet
  rw [hop]
  simp only
  unfold evSc
  rw [hop]
  rw [if_neg]
  intro hh
  have : ((Op.call { callee := .builtin .unsafeString, args := #[x, y], argTypes := #[pt, t'] }).operands.toList.all fun x => isSc (a.at x)) = (isSc (a.at x) && (isSc (a.at y) && true)) := rfl
  rw [this, hx] at hh
  simp [isSc, aptr] at hh
 have hlen : (strCells ⟨l.toArray⟩).toArray.size = l.length := by simp [strCells]
 unfold evOp
 rw [if_neg (by rw [hop]; simp [isNew])]
 rw [hop]
 simp only
 rw [hq]
 simp only [List.map_cons, List.map_nil]
 rw [hx, hy]
 unfold evBuiltin
 simp only [aptr]
 rw [ht, hs]
 simp only
 rw [if_pos ⟨hc, trivial, by omega, by omega, by rw [hlen]; simp⟩]
 have : (List.take ((l.length : Int)).toNat (strCells ⟨l.toArray⟩).toArray.toList) = l.map fun b => Value.int .u8 b.toNat := by
  rw [Int.toNat_natCast]
  show List.take l.length (l.map fun b => Value.int .u8 b.toNat) = _
  rw [List.take_of_length_le (by simp)]
 rw [this, evBytes_c]
end
end Go.Proofs.YtgcaionclkbehaaGreatDoor
