import Derived.Test.YtgcaionclkbehaaGreatDoorN2
set_option linter.all false
namespace Go.Proofs.YtgcaionclkbehaaGreatDoor
open Tryz
open Go.Conc Go.RowKit Go.Lib
def letN (v : Nat) : Nat := if v < 55296 ∨ (57343 < v ∧ v < 1114112) then v else 65533
theorem letN_ok {v : Nat} (h : 128 ≤ v) : VLet (letN v) := by
 unfold letN VLet
 split <;> omega
section
variable {rn : Nat} {all : List Int} {s : AS}
theorem valid_e {v : Nat} (hv : v ≤ 1114112) : EF prog ktB (prRow rn all) 335 #[.int .i32 (v : Int)] s (.bool (decide (v < 55296 ∨ (57343 < v ∧ v < 1114112)))) s := by
 refine EF.of (by kernel_rfl) func335 rfl ?_
 refine EW.seq (EW.go 5 (by kernel_rfl) ?_)
 refine EW.seq (EW.block ?_)
 refine EW.seq (EW.region (by kernel_rfl) ?_)
 refine EO.go 1 5 (by kernel_rfl) ?_
 refine EO.op (by kernel_rfl) (zc5 (u := .int .i32 0) (w := .int .i32 (v : Int)) rfl (by kernel_rfl) (by kernel_rfl) (zj6 (b := true) (decide_eq_true (by omega)))) ?_
 refine EO.go 2 5 (by kernel_rfl) ?_
 by_cases h1 : v < 55296
 ·
  rw [decide_eq_true (Or.inl h1)]
  refine EO.op (by kernel_rfl) (zc5 (u := .int .i32 (v : Int)) (w := .int .i32 55296) rfl (by kernel_rfl) (by kernel_rfl) (zk9 (b := true) (decide_eq_true (by omega)))) ?_
  refine EO.fin 5 (by kernel_rfl) ?_
  refine EW.condT (by kernel_rfl) ?_
  refine EW.goE 5 .ret (by kernel_rfl) ?_
  exact ⟨.inr rfl,by kernel_rfl,by kernel_rfl⟩
 ·
  refine EO.op (by kernel_rfl) (zc5 (u := .int .i32 (v : Int)) (w := .int .i32 55296) rfl (by kernel_rfl) (by kernel_rfl) (zk9 (b := false) (decide_eq_false (by omega)))) ?_
  refine EO.fin 5 (by kernel_rfl) ?_
  refine EW.condF (by kernel_rfl) ?_
  refine EW.seq (EW.region (by kernel_rfl) ?_)
  refine EO.go 1 5 (by kernel_rfl) ?_
  by_cases h2 : 57343 < v
  ·
   refine EO.op (by kernel_rfl) (zc5 (u := .int .i32 57343) (w := .int .i32 (v : Int)) rfl (by kernel_rfl) (by kernel_rfl) (zk9 (b := true) (decide_eq_true (by omega)))) ?_
   refine EO.go 2 5 (by kernel_rfl) ?_
   by_cases h3 : v < 1114112
   ·
    rw [decide_eq_true (Or.inr ⟨h2,h3⟩)]
    refine EO.op (by kernel_rfl) (zc5 (u := .int .i32 (v : Int)) (w := .int .i32 1114111) rfl (by kernel_rfl) (by kernel_rfl) (zj6 (b := true) (decide_eq_true (by omega)))) ?_
    refine EO.fin 5 (by kernel_rfl) ?_
    refine EW.condT (by kernel_rfl) ?_
    refine EW.goE 5 .ret (by kernel_rfl) ?_
    exact ⟨.inr rfl,by kernel_rfl,by kernel_rfl⟩
   ·
    rw [decide_eq_false (by omega : ¬ (v < 55296 ∨ (57343 < v ∧ v < 1114112)))]
    refine EO.op (by kernel_rfl) (zc5 (u := .int .i32 (v : Int)) (w := .int .i32 1114111) rfl (by kernel_rfl) (by kernel_rfl) (zj6 (b := false) (decide_eq_false (by omega)))) ?_
    refine EO.fin 5 (by kernel_rfl) ?_
    refine EW.condF (by kernel_rfl) (EW.skip ?_)
    refine EW.goE 5 .ret (by kernel_rfl) ?_
    exact ⟨.inr rfl,by kernel_rfl,by kernel_rfl⟩
  ·
   rw [decide_eq_false (by omega : ¬ (v < 55296 ∨ (57343 < v ∧ v < 1114112)))]
   refine EO.op (by kernel_rfl) (zc5 (u := .int .i32 57343) (w := .int .i32 (v : Int)) rfl (by kernel_rfl) (by kernel_rfl) (zk9 (b := false) (decide_eq_false (by omega)))) ?_
   refine EO.fin 5 (by kernel_rfl) ?_
   refine EW.condF (by kernel_rfl) (EW.skip ?_)
   refine EW.goE 5 .ret (by kernel_rfl) ?_
   exact ⟨.inr rfl,by kernel_rfl,by kernel_rfl⟩
theorem letterOf_e {v : Nat} (h160 : 160 ≤ v) (hv : v ≤ 1114112) : EF prog ktB (prRow rn all) 371 #[num (v : Nat)] s (.int .i32 ((letN v : Nat) : Int)) s := by
 have hval := valid_e (rn := rn) (all := all) (s := s) hv
 refine EF.of (by kernel_rfl) func371 rfl ?_
 refine EW.seq (EW.go 5 (by kernel_rfl) ?_)
 refine EW.seq (EW.region (by kernel_rfl) ?_)
 refine EO.go 1 5 (by kernel_rfl) ?_
 refine EO.asS s (by kernel_rfl) ?_
 refine EO.op (v := .int .i32 (v : Int)) (s1 := s) (by kernel_rfl) ((show _ = some (Value.int .i32 (wrapF .i32 (v : Int)),s) by kernel_rfl).trans (by rw [show wrapF .i32 (v : Int) = (v : Int) from by unfold wrapF; simp only; rw [if_pos (by omega)]])) ?_
 refine EO.fin 5 (by kernel_rfl) ?_
 refine EW.asS s (by kernel_rfl) ?_
 refine EW.seq (EW.block ?_)
 refine EW.seq (EW.region (by kernel_rfl) ?_)
 refine EO.go 1 5 (by kernel_rfl) ?_
 refine EO.op (by kernel_rfl) (zc5 (u := num (v : Nat)) (w := num 0) rfl (by kernel_rfl) (by kernel_rfl) (bin_eql (b := false) (beq_eq_false_iff_ne.2 (by omega)))) ?_
 refine EO.go 2 5 (by kernel_rfl) ?_
 refine EO.asS s (by kernel_rfl) ?_
 refine EO.callF #[.int .i32 (v : Int)] (by kernel_rfl) rfl rfl (by kernel_rfl) (by kernel_rfl) hval ?_
 unfold letN
 by_cases hok : v < 55296 ∨ (57343 < v ∧ v < 1114112)
 ·
  rw [decide_eq_true hok,if_pos hok]
  refine EO.fin 5 (by kernel_rfl) ?_
  refine EW.condF (by kernel_rfl) ?_
  refine EW.seq (EW.region (by kernel_rfl) ?_)
  refine EO.go 1 5 (by kernel_rfl) ?_
  refine EO.op (by kernel_rfl) (zc5 (u := num 128) (w := num (v : Nat)) rfl (by kernel_rfl) (by kernel_rfl) (bin_leq (b := true) (decide_eq_true (by omega)))) ?_
  refine EO.go 2 5 (by kernel_rfl) ?_
  refine EO.op (by kernel_rfl) (zc5 (u := num (v : Nat)) (w := num 159) rfl (by kernel_rfl) (by kernel_rfl) (bin_leq (b := false) (decide_eq_false (by omega)))) ?_
  refine EO.fin 5 (by kernel_rfl) ?_
  refine EW.condF (by kernel_rfl) (EW.skip ?_)
  refine EW.goE 5 .ret (by kernel_rfl) ?_
  exact ⟨.inr rfl,by kernel_rfl,by kernel_rfl⟩
 ·
  rw [decide_eq_false hok,if_neg hok]
  refine EO.fin 5 (by kernel_rfl) ?_
  refine EW.condT (by kernel_rfl) ?_
  refine EW.goE 5 .ret (by kernel_rfl) ?_
  exact ⟨.inr rfl,by kernel_rfl,by kernel_rfl⟩
def endT (semi : Bool) : List UInt8 := if semi then [59,124] else [124]
def ze4 (hex cap : Bool) : List UInt8 := if hex then [if cap then 88 else 120] else []
def baseT (hex : Bool) : Nat := if hex then 16 else 10
def numT (hex cap semi : Bool) (ds : List Nat) : List UInt8 := ze4 hex cap ++ (ds.map (digC cap) ++ endT semi)
def sl332 (t : List UInt8) (base k : Nat) (x : Nat → Value) : TL := [str t,x 1,x 2,x 3,num (base : Nat),num (k : Nat),x 6,x 7,x 8,x 9,x 10,x 11,x 12,x 13,x 14,x 15,x 16,x 17,x 18,x 19,x 20,x 21,x 22,x 23,x 24,x 25,x 26,x 27,x 28,x 29,x 30,x 31,x 32,x 33,x 34]
theorem digC_x : ∀ cap : Bool, ∀ d,d < 10 → digC cap d ≠ 120 ∧ digC cap d ≠ 88 := by decide
theorem byNumber_e {hex cap semi : Bool} {ds : List Nat} (hds : ∀ d ∈ ds,d < baseT hex) (hne : ds ≠ []) (hlen : ds.length ≤ 8) (hv : 160 ≤ valD (baseT hex) ds) :
  ∃ s',EF prog ktB (prRow rn all) 332 #[str (numT hex cap semi ds)] s (.tuple #[.int .i32 ((letN (min (valD (baseT hex) ds) 1114112) : Nat) : Int),num (((ze4 hex cap).length + ds.length + semi.toNat : Nat) : Int)]) s' ∧ FrB s.nx s s' := by
 have hb : baseT hex = 10 ∨ baseT hex = 16 := by cases hex <;> simp [baseT]
 obtain ⟨r,rest,hr,hrest,hend⟩ : ∃ r rest,(r = 59 ∨ r = 124) ∧ rest.length ≤ 1 ∧ endT semi = r :: rest := by cases semi <;> simp [endT]
 have hfl : (ze4 hex cap).length ≤ 1 := by cases hex <;> simp [ze4]
 have hel : (endT semi).length ≤ 2 := by cases semi <;> simp [endT]
 obtain ⟨s2,hnum,hfr⟩ := numberOf_e (rn := rn) (all := all) (s := s) (cap := cap) hb hds hr (rest := rest) (by omega)
 rw [← hend] at hnum
 have htl : (numT hex cap semi ds).length = (ze4 hex cap).length + (ds.length + (endT semi).length) := by simp [numT]
 refine EF.ofE (by kernel_rfl) func332 rfl ?_
 iterate 2
  refine EW.seq (EW.go 5 (by kernel_rfl) ?_)
 refine EW.seq (EW.mono (Q := fun e a' s' => e = .normal ∧ s' = s ∧ ∃ x,a' = sl332 (numT hex cap semi ds) (baseT hex) (ze4 hex cap).length x) ?_ ?_)
 ·
  have hd0 : ∃ d ds',ds = d :: ds' := by
   cases ds with
   | nil => exact absurd rfl hne
   | cons d ds' => exact ⟨d,ds',rfl⟩
  obtain ⟨d,ds',rfl⟩ := hd0
  have key : ∀ c : UInt8, ∀ b : Bool,((ze4 hex cap ++ [digC cap d]).head? == some c) = b → EF prog ktB (prRow rn all) 89 #[str (numT hex cap semi (d :: ds')),str [c]] s (.bool b) s := by
   intro c b h
   refine hasPrefix_e (by kernel_rfl) (by kernel_rfl) ?_
   have h1 : 1 ≤ (numT hex cap semi (d :: ds')).length := by rw [htl]; simp; omega
   have h2 : (numT hex cap semi (d :: ds')).take 1 = [((ze4 hex cap ++ [digC cap d]).head?).getD 0] := by
    cases hex <;> simp [numT,ze4]
   simp only [List.length_cons,List.length_nil,Nat.zero_add,decide_eq_true h1,Bool.true_and,h2]
   cases hh : (ze4 hex cap ++ [digC cap d]).head? with
   | none => simp at hh
   | some y =>
    rw [hh] at h
    subst h
    simp only [Option.getD_some]
    by_cases hy : y = c
    ·
     subst hy; simp [(beqL_iff [y] [y]).2 rfl]
    ·
     rw [beqL_ne (by simpa using hy)]; simp [hy]
  refine EW.seq (EW.region (by kernel_rfl) ?_)
  refine EO.go 1 5 (by kernel_rfl) ?_
  refine EO.asS s (by kernel_rfl) ?_
  have hdb := hds d (by simp)
  cases hex with
  | false =>
   have hx := digC_x cap d hdb
   refine EO.callF #[str (numT false cap semi (d :: ds')),str [120]] (by kernel_rfl) rfl rfl (by kernel_rfl) (by kernel_rfl) (key 120 false (by simp [ze4,hx.1])) ?_
   refine EO.go 2 5 (by kernel_rfl) ?_
   refine EO.asS s (by kernel_rfl) ?_
   refine EO.callF #[str (numT false cap semi (d :: ds')),str [88]] (by kernel_rfl) rfl rfl (by kernel_rfl) (by kernel_rfl) (key 88 false (by simp [ze4,hx.2])) ?_
   refine EO.fin 5 (by kernel_rfl) ?_
   exact EW.condF (by kernel_rfl) (EW.skip ⟨rfl,by kernel_rfl,fillX (by kernel_rfl)⟩)
  | true =>
   cases cap with
   | false =>
    refine EO.callF #[str (numT true false semi (d :: ds')),str [120]] (by kernel_rfl) rfl rfl (by kernel_rfl) (by kernel_rfl) (key 120 true (by simp [ze4])) ?_
    refine EO.fin 5 (by kernel_rfl) ?_
    refine EW.condT (by kernel_rfl) ?_
    refine EW.go 5 (by kernel_rfl) ?_
    exact ⟨rfl,by kernel_rfl,fillX (by kernel_rfl)⟩
   | true =>
    refine EO.callF #[str (numT true true semi (d :: ds')),str [120]] (by kernel_rfl) rfl rfl (by kernel_rfl) (by kernel_rfl) (key 120 false (by simp [ze4])) ?_
    refine EO.go 2 5 (by kernel_rfl) ?_
    refine EO.asS s (by kernel_rfl) ?_
    refine EO.callF #[str (numT true true semi (d :: ds')),str [88]] (by kernel_rfl) rfl rfl (by kernel_rfl) (by kernel_rfl) (key 88 true (by simp [ze4])) ?_
    refine EO.fin 5 (by kernel_rfl) ?_
    refine EW.condT (by kernel_rfl) ?_
    refine EW.go 5 (by kernel_rfl) ?_
    exact ⟨rfl,by kernel_rfl,fillX (by kernel_rfl)⟩
 rintro e a' s' ⟨rfl,rfl,x,rfl⟩
 have hval : ((min (valD (baseT hex) ds) 1114112 : Nat) : Int) = _ := rfl
 have hlet := fun st => letterOf_e (rn := rn) (all := all) (s := st) (v := min (valD (baseT hex) ds) 1114112) (by omega) (by omega)
 generalize hV : min (valD (baseT hex) ds) 1114112 = V at hnum hlet
 clear hval
 have hdrop1 : ((numT hex cap semi ds).take (numT hex cap semi ds).length).drop (((ze4 hex cap).length : Nat) : Int).toNat = ds.map (digC cap) ++ endT semi := by
  rw [List.take_length,Int.toNat_natCast]; unfold numT; rw [List.drop_left]
 have hdrop2 : ((numT hex cap semi ds).take (numT hex cap semi ds).length).drop ((((ze4 hex cap).length + ds.length : Nat) : Int)).toNat = endT semi := by
  rw [List.take_length,Int.toNat_natCast]; unfold numT; rw [← List.append_assoc,List.drop_append_of_le_length (by simp),List.drop_of_length_le (by simp),List.nil_append]
 generalize hF : (ze4 hex cap).length = F at *
 generalize hT : numT hex cap semi ds = t at *
 generalize hB : baseT hex = B at *
 have hdl : 0 < ds.length := List.length_pos_iff.2 hne
 refine EW.seq (EW.region (by kernel_rfl) ?_)
 refine EO.go 2 5 (by kernel_rfl) ?_
 refine EO.op (by kernel_rfl) (op_sub (l := t) (i := ((F : Nat) : Int).toNat) (j := t.length) rfl underlying9 (by kernel_rfl) ((show _ = zc9 t.length t.length (some (num (F : Nat))) none by kernel_rfl).trans (bnd_lo (by omega) (by omega))) hdrop1) ?_
 refine EO.go 1 5 (by kernel_rfl) ?_
 refine EO.asS s' (by kernel_rfl) ?_
 refine EO.callF #[str (ds.map (digC cap) ++ endT semi),num (B : Nat)] (by kernel_rfl) rfl rfl (by kernel_rfl) (by kernel_rfl) hnum ?_
 generalize ds.map (digC cap) ++ endT semi = t2
 refine EO.fin 5 (by kernel_rfl) ?_
 refine EW.asS s2 (by kernel_rfl) ?_
 refine EW.seq (EW.seq (EW.region (by kernel_rfl) ?_))
 refine EO.go 1 5 (by kernel_rfl) ?_
 refine EO.op (by kernel_rfl) (zc5 (u := num (ds.length : Nat)) (w := num 0) rfl (by kernel_rfl) (by kernel_rfl) (bin_eql (b := false) (beq_eq_false_iff_ne.2 (by omega)))) ?_
 refine EO.nil ?_
 refine EW.condF (by kernel_rfl) (EW.skip ?_)
 refine EW.seq (EW.region (by kernel_rfl) ?_)
 refine EO.go 2 5 (by kernel_rfl) ?_
 refine EO.op (by kernel_rfl) (zf3 (i := (ds.length : Nat)) (j := (F : Nat)) (r := ((F + ds.length : Nat) : Int)) rfl (by kernel_rfl) (by kernel_rfl) (by omega) (by omega)) ?_
 refine EO.fin 5 (by kernel_rfl) ?_
 refine EW.asS s2 (by kernel_rfl) ?_
 refine EW.seq (EW.seq (EW.region (by kernel_rfl) ?_))
 refine EO.go 2 5 (by kernel_rfl) ?_
 refine EO.op (by kernel_rfl) (op_sub (l := t) (i := ((F + ds.length : Nat) : Int).toNat) (j := t.length) rfl underlying9 (by kernel_rfl) ((show _ = zc9 t.length t.length (some (num ((F + ds.length : Nat) : Int))) none by kernel_rfl).trans (bnd_lo (by omega) (by omega))) hdrop2) ?_
 refine EO.asS s2 (by kernel_rfl) ?_
 cases semi with
 | true =>
  refine EO.callF #[str (endT true),str [59]] (by kernel_rfl) rfl rfl (by kernel_rfl) (by kernel_rfl) (hasPrefix_e (b := true) (by kernel_rfl) (by kernel_rfl) (by kernel_rfl)) ?_
  refine EO.nil ?_
  refine EW.condT (by kernel_rfl) ?_
  refine EW.region (by kernel_rfl) ?_
  refine EO.go 1 5 (by kernel_rfl) ?_
  refine EO.op (by kernel_rfl) (zf3 (i := ((F + ds.length : Nat) : Int)) (j := 1) (r := ((F + ds.length + 1 : Nat) : Int)) rfl (by kernel_rfl) (by kernel_rfl) (by omega) (by omega)) ?_
  refine EO.fin 5 (by kernel_rfl) ?_
  refine EW.asS s2 (by kernel_rfl) ?_
  refine EW.seq (EW.region (by kernel_rfl) ?_)
  refine EO.go 1 5 (by kernel_rfl) ?_
  refine EO.asS s2 (by kernel_rfl) ?_
  refine EO.callF #[num (V : Nat)] (by kernel_rfl) rfl rfl (by kernel_rfl) (by kernel_rfl) (hlet s2) ?_
  generalize letN V = LV
  refine EO.fin 5 (by kernel_rfl) ?_
  exact EW.ret ⟨.inr rfl,by kernel_rfl,hfr⟩
 | false =>
  refine EO.callF #[str (endT false),str [59]] (by kernel_rfl) rfl rfl (by kernel_rfl) (by kernel_rfl) (hasPrefix_e (b := false) (by kernel_rfl) (by kernel_rfl) (by kernel_rfl)) ?_
  refine EO.nil ?_
  refine EW.condF (by kernel_rfl) (EW.skip ?_)
  refine EW.asS s2 (by kernel_rfl) ?_
  refine EW.seq (EW.region (by kernel_rfl) ?_)
  refine EO.go 1 5 (by kernel_rfl) ?_
  refine EO.asS s2 (by kernel_rfl) ?_
  refine EO.callF #[num (V : Nat)] (by kernel_rfl) rfl rfl (by kernel_rfl) (by kernel_rfl) (hlet s2) ?_
  generalize letN V = LV
  refine EO.fin 5 (by kernel_rfl) ?_
  exact EW.ret ⟨.inr rfl,by kernel_rfl,hfr⟩
theorem reference_e {hex cap semi : Bool} {ds : List Nat} (hds : ∀ d ∈ ds,d < baseT hex) (hne : ds ≠ []) (hlen : ds.length ≤ 8) (hv : 160 ≤ valD (baseT hex) ds) (w : Int) :
  ∃ s',EF prog ktB (prRow rn all) 263 #[str (35 :: numT hex cap semi ds),num w] s (.tuple #[.int .i32 ((letN (min (valD (baseT hex) ds) 1114112) : Nat) : Int),num ((1 + ((ze4 hex cap).length + ds.length + semi.toNat) : Nat) : Int)]) s' ∧ FrB s.nx s s' := by
 obtain ⟨s2,hby,hfr⟩ := byNumber_e (rn := rn) (all := all) (s := s) (cap := cap) (semi := semi) hds hne hlen hv
 have hdl : 0 < ds.length := List.length_pos_iff.2 hne
 have hfl : (ze4 hex cap).length ≤ 1 := by cases hex <;> simp [ze4]
 have hsm : semi.toNat ≤ 1 := by cases semi <;> simp
 generalize letN (min (valD (baseT hex) ds) 1114112) = LV at hby ⊢
 generalize hk : (ze4 hex cap).length + ds.length + semi.toNat = k at hby ⊢
 generalize numT hex cap semi ds = t at hby ⊢
 refine EF.ofE (by kernel_rfl) func263 rfl ?_
 refine EW.seq (EW.go 5 (by kernel_rfl) ?_)
 refine EW.seq (EW.seq (EW.region (by kernel_rfl) ?_))
 refine EO.go 1 5 (by kernel_rfl) ?_
 refine EO.asS s (by kernel_rfl) ?_
 refine EO.callF #[str (35 :: t),str [35]] (by kernel_rfl) rfl rfl (by kernel_rfl) (by kernel_rfl) (hasPrefix_e (b := true) (by kernel_rfl) (by kernel_rfl) (by simp [(beqL_iff [35] [35]).2 rfl])) ?_
 refine EO.nil ?_
 refine EW.condT (by kernel_rfl) ?_
 refine EW.seq (EW.region (by kernel_rfl) ?_)
 refine EO.go 1 5 (by kernel_rfl) ?_
 refine EO.op (by kernel_rfl) (op_sub (l := 35 :: t) (i := 1) (j := (35 :: t).length) (m := t) rfl underlying9 (by kernel_rfl) ((show _ = zc9 (35 :: t).length (35 :: t).length (some (num 1)) none by kernel_rfl).trans (bnd_lo (by omega) (by simp; omega))) (by simp)) ?_
 refine EO.asS s (by kernel_rfl) ?_
 refine EO.callF #[str t] (by kernel_rfl) rfl rfl (by kernel_rfl) (by kernel_rfl) hby ?_
 refine EO.fin 5 (by kernel_rfl) ?_
 refine EW.asS s2 (by kernel_rfl) ?_
 refine EW.seq (EW.seq (EW.region (by kernel_rfl) ?_))
 refine EO.go 1 5 (by kernel_rfl) ?_
 refine EO.op (by kernel_rfl) (zc5 (u := num (k : Nat)) (w := num 0) rfl (by kernel_rfl) (by kernel_rfl) (bin_gtr (b := true) (decide_eq_true (by omega)))) ?_
 refine EO.nil ?_
 refine EW.condT (by kernel_rfl) ?_
 refine EW.seq (EW.region (by kernel_rfl) ?_)
 refine EO.go 2 5 (by kernel_rfl) ?_
 refine EO.op (by kernel_rfl) (zf3 (i := 1) (j := (k : Nat)) (r := ((1 + k : Nat) : Int)) rfl (by kernel_rfl) (by kernel_rfl) (by omega) (by omega)) ?_
 refine EO.fin 5 (by kernel_rfl) ?_
 exact EW.ret ⟨.inr rfl,by kernel_rfl,hfr⟩
theorem BW.fr {s s' : AS} {N b : Nat} {l : List UInt8} (h : BW s N b l) (hf : FrB s.nx s s') : BW s' N b l := by
 obtain ⟨h1,h2,p,sl,h3,h4,h5⟩ := h
 obtain ⟨f1,f2⟩ := hf
 refine ⟨h1,by omega,p,sl,by rw [f2 b h2]; exact h3,h4,?_⟩
 rcases h5 with h5 | ⟨d,fz,q1,q2,q3,q4,q5⟩
 ·
  exact .inl h5
 ·
  exact .inr ⟨d,fz,q1,q2,by omega,q4,by rw [f2 d q3]; exact q5⟩
theorem FrB.low {N M : Nat} {s s' : AS} (h : FrB M s s') (hl : N ≤ M) : FrB N s s' := ⟨h.1,fun k hk => h.2 k (by omega)⟩
theorem numT_tail (hex cap semi : Bool) (ds : List Nat) : (35 :: numT hex cap semi ds).drop (1 + ((ze4 hex cap).length + ds.length + semi.toNat)) = [124] := by
 rw [Nat.add_comm 1,List.drop_succ_cons]
 unfold numT
 rw [← List.append_assoc,List.drop_append,List.drop_of_length_le (by simp)]
 simp only [List.nil_append,List.length_append,List.length_map]
 cases semi <;> simp [endT]
theorem withRef_e {hex cap semi : Bool} {ds : List Nat} (hds : ∀ d ∈ ds,d < baseT hex) (hne : ds ≠ []) (hlen : ds.length ≤ 8) (hv : 160 ≤ valD (baseT hex) ds) (w : Int) :
  ∃ s',EF prog ktB (prRow rn all) 157 #[str (38 :: 35 :: numT hex cap semi ds),num w] s (str (encL (letN (min (valD (baseT hex) ds) 1114112)) ++ [124])) s' ∧ FrB s.nx s s' := by
 have hlet : VLet (letN (min (valD (baseT hex) ds) 1114112)) := letN_ok (by omega)
 have href := fun st => reference_e (rn := rn) (all := all) (s := st) (cap := cap) (semi := semi) hds hne hlen hv w
 have htail := numT_tail hex cap semi ds
 have hsz : 1 + ((ze4 hex cap).length + ds.length + semi.toNat) ≤ (35 :: numT hex cap semi ds).length := by
  have := congrArg List.length htail
  simp only [List.length_drop,List.length_cons,List.length_nil] at this ⊢
  omega
 have hfl : (ze4 hex cap).length ≤ 1 := by cases hex <;> simp [ze4]
 have hsm : semi.toNat ≤ 1 := by cases semi <;> simp
 have hbl : (35 :: numT hex cap semi ds).length ≤ 100 := by
  have : (endT semi).length ≤ 2 := by cases semi <;> simp [endT]
  simp [numT]; omega
 generalize letN (min (valD (baseT hex) ds) 1114112) = LV at hlet href ⊢
 generalize 1 + ((ze4 hex cap).length + ds.length + semi.toNat) = k at href htail hsz
 generalize 35 :: numT hex cap semi ds = t at href htail hsz hbl ⊢
 have h38 : CutN 38 (38 :: t) [] t true := .inr ⟨rfl,by simp,rfl⟩
 have h124 : CutN 38 [124] [124] [] false := .inl ⟨rfl,by decide,rfl,rfl⟩
 refine EF.ofE (by kernel_rfl) func157 rfl ?_
 iterate 2
  refine EW.seq (EW.go 5 (by kernel_rfl) ?_)
 have hz : BW (s.add (.cells #[.pointer none, .slice none 0 0] 119)) s.nx s.nx [] := ⟨Nat.le_refl _,by simp, .pointer none, .slice none 0 0,by rw [AS.get_add,if_pos rfl], .inl rfl, .inl ⟨rfl,rfl⟩⟩
 have hz2 : FrB s.nx s (s.add (.cells #[.pointer none, .slice none 0 0] 119)) := FrB.add (Nat.le_refl _)
 refine EW.asS (s.add (.cells #[.pointer none, .slice none 0 0] 119)) (by kernel_rfl) ?_
 generalize s.add (.cells #[.pointer none, .slice none 0 0] 119) = s1 at hz hz2
 refine EW.block ?_
 refine EW.loop ?_
 refine EW.block ?_
 refine EW.seq (EW.region (by kernel_rfl) ?_)
 refine EO.go 1 5 (by kernel_rfl) ?_
 refine EO.asS s1 (by kernel_rfl) ?_
 refine EO.callF #[str (38 :: t),str [38]] (by kernel_rfl) rfl rfl (by kernel_rfl) (by kernel_rfl) (cutR_e h38 (by simp; omega)) ?_
 refine EO.fin 5 (by kernel_rfl) ?_
 refine EW.asS s1 (by kernel_rfl) ?_
 obtain ⟨s2,hw1,hb2,hf2⟩ := write_e (pr := prRow rn all) (m := []) (by kernel_rfl) (by kernel_rfl) hz (by simp)
 refine EW.seq (EW.region (by kernel_rfl) ?_)
 refine EO.go 1 5 (by kernel_rfl) ?_
 refine EO.asS s1 (by kernel_rfl) ?_
 refine EO.callF #[aptr s.nx 0,str []] (by kernel_rfl) rfl rfl (by kernel_rfl) (by kernel_rfl) hw1 ?_
 refine EO.nil ?_
 refine EW.seq (EW.seq (EW.go 5 (by kernel_rfl) ?_))
 refine EW.condF (by kernel_rfl) (EW.skip ?_)
 obtain ⟨s3,hr3,hf3⟩ := href s2
 have hb3 := hb2.fr hf3
 refine EW.asS s2 (by kernel_rfl) ?_
 refine EW.seq (EW.region (by kernel_rfl) ?_)
 refine EO.go 2 5 (by kernel_rfl) ?_
 refine EO.asS s2 (by kernel_rfl) ?_
 refine EO.callF #[str t,num w] (by kernel_rfl) rfl rfl (by kernel_rfl) (by kernel_rfl) hr3 ?_
 refine EO.fin 5 (by kernel_rfl) ?_
 refine EW.asS s3 (by kernel_rfl) ?_
 obtain ⟨s4,v4,hw4,hb4,hf4⟩ := writeRune_e (pr := prRow rn all) (by kernel_rfl) (by kernel_rfl) (by kernel_rfl) (by kernel_rfl) hb3 hlet (by simp)
 refine EW.seq (EW.region (by kernel_rfl) ?_)
 refine EO.go 1 5 (by kernel_rfl) ?_
 refine EO.asS s3 (by kernel_rfl) ?_
 refine EO.callF #[aptr s.nx 0, .int .i32 (LV : Int)] (by kernel_rfl) rfl rfl (by kernel_rfl) (by kernel_rfl) hw4 ?_
 refine EO.nil ?_
 refine EW.asS s4 (by kernel_rfl) ?_
 refine EW.region (by kernel_rfl) ?_
 refine EO.go 2 5 (by kernel_rfl) ?_
 refine EO.op (by kernel_rfl) (op_sub (l := t) (i := ((k : Nat) : Int).toNat) (j := t.length) (m := [124]) rfl underlying9 (by kernel_rfl) ((show _ = zc9 t.length t.length (some (num (k : Nat))) none by kernel_rfl).trans (bnd_lo (by omega) (by omega))) (by rw [List.take_length,Int.toNat_natCast]; exact htail)) ?_
 refine EO.fin 5 (by kernel_rfl) ?_
 refine EW.asS s4 (by kernel_rfl) ?_
 refine EW.loop ?_
 refine EW.block ?_
 refine EW.seq (EW.region (by kernel_rfl) ?_)
 refine EO.go 1 5 (by kernel_rfl) ?_
 refine EO.asS s4 (by kernel_rfl) ?_
 refine EO.callF #[str [124],str [38]] (by kernel_rfl) rfl rfl (by kernel_rfl) (by kernel_rfl) (cutR_e h124 (by simp)) ?_
 refine EO.fin 5 (by kernel_rfl) ?_
 refine EW.asS s4 (by kernel_rfl) ?_
 have hel : (encL LV).length ≤ 4 := by unfold encL; split <;> (try split) <;> simp
 obtain ⟨s5,hw5,hb5,hf5⟩ := write_e (pr := prRow rn all) (m := [124]) (by kernel_rfl) (by kernel_rfl) hb4 (by simp; omega)
 refine EW.seq (EW.region (by kernel_rfl) ?_)
 refine EO.go 1 5 (by kernel_rfl) ?_
 refine EO.asS s4 (by kernel_rfl) ?_
 refine EO.callF #[aptr s.nx 0,str [124]] (by kernel_rfl) rfl rfl (by kernel_rfl) (by kernel_rfl) hw5 ?_
 refine EO.nil ?_
 refine EW.seq (EW.seq (EW.go 5 (by kernel_rfl) ?_))
 refine EW.condT (by kernel_rfl) ?_
 obtain ⟨s6,hs6,hf6⟩ := string_e (pr := prRow rn all) (by kernel_rfl) hb5 (by simp) (by simp; omega)
 simp only [List.nil_append] at hs6
 refine EW.asS s5 (by kernel_rfl) ?_
 refine EW.seq (EW.region (by kernel_rfl) ?_)
 refine EO.asS s5 (by kernel_rfl) ?_
 refine EO.callF #[aptr s.nx 0] (by kernel_rfl) rfl rfl (by kernel_rfl) (by kernel_rfl) hs6 ?_
 refine EO.fin 5 (by kernel_rfl) ?_
 exact EW.ret ⟨.inr rfl,by kernel_rfl,((((hz2.trans hf2).trans (hf3.low (by have := hz2.1; have := hf2.1; omega))).trans hf4).trans hf5).trans hf6⟩
end
end Go.Proofs.YtgcaionclkbehaaGreatDoor
