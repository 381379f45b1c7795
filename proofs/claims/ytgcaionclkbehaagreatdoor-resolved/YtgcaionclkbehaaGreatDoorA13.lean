/-
 The evaluator's rules and the company's, joined: code of which the evaluator knows a part. It knows no program.
-/
import Derived.Test.YtgcaionclkbehaaGreatDoorE25
import Derived.Laws.BytesString
import Derived.Test.YtgcaionclkbehaaGreatDoorA12
set_option linter.all false
namespace Go.Proofs.YtgcaionclkbehaaGreatDoor
open Go.Conc Go.RowKit Go.Lib
section
variable {ι : Type} {P : Program} {KT : TypeId → Prop} {An : Who} {N0 : ι → Nat} {M : ι → World → Nat → Prop} {O : ι → Nat → Prop} {R : ι → World → World → Prop} {D : ι → World → World → Array Event → Prop} {X : ι → Goroutine → World → Prop} {Hd : ι → List (Nat × Obj) → World → Prop} {kt : TypeId → Bool} {pr : Prim}
def WI (P : Program) (KT : TypeId → Prop) (An : Who) (X : ι → Goroutine → World → Prop) (Hd : ι → List (Nat × Obj) → World → Prop) (c : Code) (aA : TL) (s : AS) (Q : Exit → TL → AS → Prop) : Prop :=
 ∀ (fn : FuncId) (S : Who) (l fr : List (Nat × Obj)) (i : ι) (w : World) (a : Act) (Q' : PostI ι), Sim P KT An S s l → Hd i (l ++ fr) w → AR (VR S) aA.toArray a.tmps → a.defers = [] → (∀ b, s.nx ≤ b → S b = none) →
  (∀ e aA' s' i' S' l' w' a', Q e aA' s' → Sim P KT An S' s' l' → Hd i' (l' ++ fr) w' → AR (VR S') aA'.toArray a'.tmps → a'.defers = [] → (∀ b, s'.nx ≤ b → S' b = none) → Q' i' e a' w') → wpI X fn c i Q' a w
def WO (P : Program) (KT : TypeId → Prop) (An : Who) (X : ι → Goroutine → World → Prop) (Hd : ι → List (Nat × Obj) → World → Prop) (ops : Array Oper) (k : Nat) (aA : TL) (s : AS) (Q : TL → AS → Prop) : Prop :=
 ∀ (fn : FuncId) (S : Who) (l fr : List (Nat × Obj)) (i : ι) (w : World) (a : Act) (Q' : PostI ι), Sim P KT An S s l → Hd i (l ++ fr) w → AR (VR S) aA.toArray a.tmps → a.defers = [] → (∀ b, s.nx ≤ b → S b = none) →
  (∀ aA' s' i' S' l' w' a', Q aA' s' → Sim P KT An S' s' l' → Hd i' (l' ++ fr) w' → AR (VR S') aA'.toArray a'.tmps → a'.defers = [] → (∀ b, s'.nx ≤ b → S' b = none) → Q' i' .normal a' w') → OpsI X fn ops (List.range' k (ops.size - k)) i Q' a w
variable {aA : TL} {s s1 : AS} {Q : Exit → TL → AS → Prop} {K : TL → AS → Prop} {c x y : Code} {ops : Array Oper} {o : Oper} {v : Value}
theorem WI.of (Y : Cy P KT N0 M O R D X Hd) (hm : P.follows .mixedOrders = true) (hkt : ∀ t, kt t = false → ¬ KT t) (hp : PrimOk P KT An R D X Hd pr) (hnm : ∀ (f : FuncId) (f₀ : Func), P.funcs[f]? = some f₀ → (f₀.name == "runtime.NumGoroutine") = false) (h : EW P kt pr c aA s Q) : WI P KT An X Hd c aA s Q := by
 obtain ⟨n, e, aA', s', h1, h2⟩ := h
 intro fn S l fr i w a Q' hS hF hA hd hfr k
 have hnx := (ev_nx (P := P) (kt := kt) hp.nx n).1 _ _ _ _ _ _ h1
 refine ((ev_sound Y hm hkt hp hnm n).1 c fn aA aA' s s' e S l fr i w a Q' h1 hS hF hA hd (fun b hb _ => hfr b hb) ?_).1
 intro i' S' l' w' a' q1 q2 q3 q4 q5 q6
 exact k e aA' s' i' S' l' w' a' h2 q3 q4 q5 q6 fun b hb => by rw [q2 b (.inr hb)]; exact hfr b (by omega)
theorem WI.mono {Q2 : Exit → TL → AS → Prop} (h : WI P KT An X Hd c aA s Q) (hq : ∀ e a s, Q e a s → Q2 e a s) : WI P KT An X Hd c aA s Q2 :=
 fun fn S l fr i w a Q' hS hF hA hd hfr k => h fn S l fr i w a Q' hS hF hA hd hfr fun e aA' s' i' S' l' w' a' q => k e aA' s' i' S' l' w' a' (hq _ _ _ q)
def thenW (P : Program) (KT : TypeId → Prop) (An : Who) (X : ι → Goroutine → World → Prop) (Hd : ι → List (Nat × Obj) → World → Prop) (y : Code) (Q : Exit → TL → AS → Prop) : Exit → TL → AS → Prop := fun e a s => match e with
 | .normal => WI P KT An X Hd y a s Q
 | e => Q e a s
theorem WI.seq (Y : Cy P KT N0 M O R D X Hd) (h : WI P KT An X Hd x aA s (thenW P KT An X Hd y Q)) : WI P KT An X Hd (.seq x y) aA s Q := by
 intro fn S l fr i w a Q' hS hF hA hd hfr k
 refine wpI_seq Y.C Y.T (h fn S l fr i w a _ hS hF hA hd hfr ?_)
 intro e aA' s' i' S' l' w' a' q q3 q4 q5 q6 q7
 cases e with
 | normal => exact q fn S' l' fr i' w' a' Q' q3 q4 q5 q6 q7 k
 | _ => exact k _ aA' s' i' S' l' w' a' q q3 q4 q5 q6 q7
theorem WI.block (Y : Cy P KT N0 M O R D X Hd) {id : Nat} (h : WI P KT An X Hd x aA s (blockQ id Q)) : WI P KT An X Hd (.block id x) aA s Q := by
 intro fn S l fr i w a Q' hS hF hA hd hfr k
 refine wpI_block Y.C Y.T (h fn S l fr i w a _ hS hF hA hd hfr ?_)
 intro e aA' s' i' S' l' w' a' q q3 q4 q5 q6 q7
 simp only [inBlockI]
 unfold blockQ at q
 cases e with
 | exit m =>
  simp only at q ⊢
  by_cases hm : m = id
  ·
   rw [if_pos hm] at q ⊢
   exact k _ aA' s' i' S' l' w' a' q q3 q4 q5 q6 q7
  ·
   rw [if_neg hm] at q ⊢
   exact k _ aA' s' i' S' l' w' a' q q3 q4 q5 q6 q7
 | _ => exact k _ aA' s' i' S' l' w' a' q q3 q4 q5 q6 q7
theorem WI.loopI (Y : Cy P KT N0 M O R D X Hd) (I : Nat → TL → AS → Prop) (h : ∀ m a s, I m a s → WI P KT An X Hd c a s (fun e a' s' => match e with | .normal => ∃ m', m' < m ∧ I m' a' s' | e => Q e a' s')) : ∀ m a s, I m a s → WI P KT An X Hd (.loop c) a s Q := by
 intro m aA s hI fn S l fr i w a Q' hS hF hA hd hfr k
 refine wpI_of_loopI Y.C Y.T ?_
 revert aA s S l i w a
 induction m using Nat.strongRecOn with
 | _ m ih =>
  intro aA s hI S l i w a hS hF hA hd hfr
  refine loopI_round Y.C Y.T (h m aA s hI fn S l fr i w a _ hS hF hA hd hfr ?_)
  intro e aA' s' i' S' l' w' a' q q3 q4 q5 q6 q7
  cases e with
  | normal =>
   obtain ⟨m', hm, hI'⟩ := q
   exact ih m' hm aA' s' hI' S' l' i' w' a' q3 q4 q5 q6 q7
  | _ => exact k _ aA' s' i' S' l' w' a' q q3 q4 q5 q6 q7
theorem WI.region (Y : Cy P KT N0 M O R D X Hd) {id : Nat} (h : WO P KT An X Hd ops 0 aA s (fun a' s' => Q .normal a' s')) : WI P KT An X Hd (.region id ops false) aA s Q := by
 intro fn S l fr i w a Q' hS hF hA hd hfr k
 refine wpI_region Y.C Y.T ?_
 rw [List.range_eq_range']
 exact h fn S l fr i w a Q' hS hF hA hd hfr fun aA' s' i' S' l' w' a' q => k .normal aA' s' i' S' l' w' a' q
theorem WO.of (Y : Cy P KT N0 M O R D X Hd) (hm : P.follows .mixedOrders = true) (hkt : ∀ t, kt t = false → ¬ KT t) (hp : PrimOk P KT An R D X Hd pr) (hnm : ∀ (f : FuncId) (f₀ : Func), P.funcs[f]? = some f₀ → (f₀.name == "runtime.NumGoroutine") = false) (hok : okOps ops = true) {k : Nat} (hk : k ≤ ops.size) (h : EO P kt pr ops (ops.toList.drop k) aA s K) : WO P KT An X Hd ops k aA s K := by
 obtain ⟨n, aA', s', h1, h2⟩ := h
 intro fn S l fr i w a Q' hS hF hA hd hfr kk
 have hc : ∀ f args s v s', evCall P kt pr n f args s = some (v, s') → s.nx ≤ s'.nx := fun f args s v s' => (ev_nx (P := P) (kt := kt) hp.nx n).2 f args s v s'
 have hnx := evOps_nx (P := P) (kt := kt) hc _ h1
 refine evOps_sound Y hkt (fun f args s v s' hh => (ev_sound Y hm hkt hp hnm n).2 f args s v s' hh) hc hok (ops.size - k) k rfl hk h1 hS hF hA hd (fun b hb _ => hfr b hb) ?_
 intro i' S' l' w' a' q1 q2 q3 q4 q5 q6
 exact kk aA' s' i' S' l' w' a' h2 q3 q4 q5 q6 fun b hb => by rw [q2 b (.inr hb)]; exact hfr b (by omega)
theorem opd_rel {S : Who} {a : Act} (hA : AR (VR S) aA.toArray a.tmps) (hok : okOps ops = true) {k : Nat} (ho : ops[k]? = some o) : OpdR S aA a o := fun x hx => at_rel hA (by
 unfold okOps at hok
 rw [List.all_eq_true] at hok
 have := hok o (by rw [Array.mem_toList_iff]; exact Array.mem_of_getElem? ho)
 rw [List.all_eq_true] at this
 exact this x (by simpa using hx))
theorem range_cons {k n : Nat} (h : k < n) : List.range' k (n - k) = k :: List.range' (k + 1) (n - (k + 1)) := by
 obtain ⟨m, hm⟩ : ∃ m, n - k = m + 1 := ⟨n - k - 1, by omega⟩
 rw [hm, List.range'_succ, show n - (k + 1) = m by omega]
theorem WO.op (Y : Cy P KT N0 M O R D X Hd) (hkt : ∀ t, kt t = false → ¬ KT t) (hok : okOps ops = true) {k : Nat} (ho : ops[k]? = some o) (hw : Region.wanted o (yieldedL ops aA) = true) (h : evOp P kt (fun _ _ _ => none) aA o s = some (v, s1)) (kk : WO P KT An X Hd ops (k + 1) (aA.put o.dst v) s1 K) : WO P KT An X Hd ops k aA s K := by
 intro fn S l fr i w a Q' hS hF hA hd hfr kx
 have hnx := evOp_nx (P := P) (kt := kt) (call := fun _ _ _ => none) (fun f args s v s' h => by cases h) h
 rw [range_cons (Array.getElem?_eq_some_iff.1 ho).1]
 refine op_sound Y hkt (call := fun _ _ _ => none) (fun f args s v s' h => by cases h) ho (by rw [wanted_rel hA]; exact hw) (opd_rel hA hok ho) hS hF h (fun b hb _ => hfr b hb) ?_
 intro i1 S1 l1 w1 v1 hS1 hb1 hSim1 hF1 hv1
 refine kk fn S1 l1 fr i1 w1 (a.put o.dst v1) Q' hSim1 hF1 (put_rel (hA.mono hS1) hv1 _) ?_ (fun b hb => by rw [hb1 b (.inr hb)]; exact hfr b (by omega)) kx
 cases hdst : o.dst <;> exact hd
theorem WO.q (Y : Cy P KT N0 M O R D X Hd) (hkt : ∀ t, kt t = false → ¬ KT t) (hok : okOps ops = true) {k : Nat} (ho : ops[k]? = some o) (hw : Region.wanted o (yieldedL ops aA) = true) (h : qOk (evOp P kt (fun _ _ _ => none) aA o s) = true) (kk : WO P KT An X Hd ops (k + 1) (aA.put o.dst (qV (evOp P kt (fun _ _ _ => none) aA o s))) (qS (evOp P kt (fun _ _ _ => none) aA o s)) K) : WO P KT An X Hd ops k aA s K := by
 generalize hq : evOp P kt (fun _ _ _ => none) aA o s = q at h kk
 obtain _ | ⟨v, s'⟩ := q
 ·
  cases h
 ·
  exact WO.op Y hkt hok ho hw hq kk
theorem WO.load (Y : Cy P KT N0 M O R D X Hd) {k : Nat} (ho : ops[k]? = some o) (hw : Region.wanted o (yieldedL ops aA) = true) {t : TypeId} {d : TypeDesc} {q : Tmp} {nm off g z e : Nat} (hop : o.op = .load t (.tmp q)) (hx : aA.at (.tmp q) = aptr nm off) (hAn : An nm = some (g, z, e)) (ht : P.underlying t = some d) (hd' : d.isRow = false) (hv : isSc v = true) (hcell : ∀ i l w, Hd i l w → M i w g ∧ w.cell? ⟨g, off, none⟩ = some v) (kk : WO P KT An X Hd ops (k + 1) (aA.put o.dst v) s K) : WO P KT An X Hd ops k aA s K := by
 intro fn S l fr i w a Q' hS hF hA hd hfr kx
 rw [range_cons (Array.getElem?_eq_some_iff.1 ho).1]
 have hx' : a.eval (.tmp q) = .pointer (some ⟨g, off, none⟩) := by
  have := at_rel (x := .tmp q) hA rfl
  rw [hx] at this
  obtain ⟨g', z', e', h1, h2⟩ := this.ptr
  rw [hS.an _ _ hAn] at h1
  cases h1
  exact h2
 refine opsI_cons Y.C ho (by rw [wanted_rel hA]; exact hw) fun w₁ hR Kx hK => ?_
 have hF₁ := (Y.Z hF).rely hF hR
 obtain ⟨hmine, hc⟩ := hcell i _ w₁ hF₁
 have hr : (execOp a.eval o).run P w₁ = .ok (.value v) w₁ := by simp [execOp, hop, hx', Instr.loadAt, Instr.sureAddr, loadVar, isAgg_run ht hd', load, Sem.run, hc]
 have he : (execOp a.eval o).events P w₁ #[] = #[⟨.cell ⟨g, off, none⟩, false, false⟩] := by
  simp [execOp, hop, hx', Instr.loadAt, Instr.sureAddr, loadVar, isAgg_run ht hd', isAgg_events ht, events_load, hc]
 rw [hr]
 refine hK _ _ ⟨?_, kk fn S l fr i w₁ (a.put o.dst v) Q' hS hF₁ (put_rel hA (VR.of_sc hv) _) ?_ hfr kx⟩
 ·
  refine (Y.Z hF₁).env.does ((Y.Z hF₁).size hF₁) (Own.refl _) fun ev hev => ?_
  have hev := mem_listed hev
  rw [he] at hev
  simp at hev
  subst hev
  exact .inl ⟨_, rfl, hmine⟩
 ·
  cases hdst : o.dst <;> exact hd
end
end Go.Proofs.YtgcaionclkbehaaGreatDoor
namespace Go.Proofs.YtgcaionclkbehaaGreatDoor
open Go.Conc Go.RowKit Go.Lib
theorem bstr_run {P : Program} {w : World} {src dst e : TypeId} {g c : Nat} {b : UInt8} (hs : P.underlying src = some (.slice e)) (he : P.underlying e = some (.int .u8)) (hd : P.underlying dst = some .string) (hc : w.cell? ⟨g, 0, none⟩ = some (.int .u8 b.toNat)) : (convert src dst (.slice (some ⟨g, 0, none⟩) 1 c)).run P w = .ok (str [b]) w ∧ (convert src dst (.slice (some ⟨g, 0, none⟩) 1 c)).events P w #[] = #[⟨.cell ⟨g, 0, none⟩, false, false⟩] := by
 have ha : Addr.add ⟨g, 0, none⟩ 0 = ⟨g, 0, none⟩ := by unfold Addr.add; simp
 have hl : (loadCells ⟨g, 0, none⟩ 1).run P w = .ok (#[.int .u8 (b.toNat : Int)] : Array Value) w := by
  simp [loadCells, loadCellsFrom, ha, load, Sem.run, hc]
 have hle : (loadCells ⟨g, 0, none⟩ 1).events P w #[] = #[⟨.cell ⟨g, 0, none⟩, false, false⟩] := by
  simp [loadCells, loadCellsFrom, ha, events_load, hc]
 constructor
 ·
  rw [run_convert_bytes_string w src dst e _ 1 c hs he hd, run_bytesToString w _ 1 c [(b.toNat : Int)] hl]
  simp
  rfl
 ·
  simp [convert, run_underlying hs, run_underlying hd, run_underlying he, Conv.bytesToString, hl, hle]
section
variable {ι : Type} {P : Program} {KT : TypeId → Prop} {An : Who} {N0 : ι → Nat} {M : ι → World → Nat → Prop} {O : ι → Nat → Prop} {R : ι → World → World → Prop} {D : ι → World → World → Array Event → Prop} {X : ι → Goroutine → World → Prop} {Hd : ι → List (Nat × Obj) → World → Prop}
variable {aA : TL} {s : AS} {K : TL → AS → Prop} {ops : Array Oper} {o : Oper}
theorem WO.bstr (Y : Cy P KT N0 M O R D X Hd) {k : Nat} (ho : ops[k]? = some o) (hw : Region.wanted o (yieldedL ops aA) = true) {t u e : TypeId} {q : Tmp} {nm c : Nat} {b : UInt8} {ty : TypeId} {fz : Nat × Nat} (hop : o.op = .convert t u (.tmp q)) (hx : aA.at (.tmp q) = .slice (some ⟨nm, 0, none⟩) 1 c) (hg : s.get nm = some (.cells #[.int .u8 b.toNat] ty fz)) (ht : P.underlying t = some (.slice e)) (he : P.underlying e = some (.int .u8)) (hu : P.underlying u = some .string) (kk : WO P KT An X Hd ops (k + 1) (aA.put o.dst (str [b])) s K) : WO P KT An X Hd ops k aA s K := by
 intro fn S l fr i w a Q' hS hF hA hd hfr kx
 rw [range_cons (Array.getElem?_eq_some_iff.1 ho).1]
 obtain ⟨g, z, e0, o', h1, h2, h3, h4⟩ := hS.live nm _ hg
 obtain ⟨cs', rfl, r1, ⟨r2, _⟩, r3⟩ := h3
 have hx' : ∃ c', a.eval (.tmp q) = .slice (some ⟨g, 0, none⟩) 1 c' := by
  have := at_rel (x := .tmp q) hA rfl
  rw [hx] at this
  obtain ⟨g', z', e', c', q1, q2, _⟩ := this.sl
  rw [h1] at q1
  cases q1
  exact ⟨c', q2⟩
 obtain ⟨c', hx'⟩ := hx'
 have hc0 : cs'[0]? = some (.int .u8 b.toNat) := by
  have hlt : 0 < cs'.size := by simp at r2; omega
  have := (r3 0 _ _ rfl (Array.getElem?_eq_getElem hlt)).sc rfl
  rw [Array.getElem?_eq_getElem hlt, this]
  rfl
 refine opsI_cons Y.C ho (by rw [wanted_rel hA]; exact hw) fun w₁ hR Kx hK => ?_
 have hF₁ := (Y.Z hF).rely hF hR
 obtain ⟨hmine, hblk⟩ := (Y.Z hF₁).own hF₁ (List.mem_append_left _ h2)
 have hc : w₁.cell? ⟨g, 0, none⟩ = some (.int .u8 b.toNat) := by simp [World.cell?, hblk, hc0]
 obtain ⟨hr1, he1⟩ := bstr_run (c := c') ht he hu hc
 have hr : (execOp a.eval o).run P w₁ = .ok (.value (str [b])) w₁ := by simp [execOp, hop, hx', hr1]
 have he2 : (execOp a.eval o).events P w₁ #[] = #[⟨.cell ⟨g, 0, none⟩, false, false⟩] := by simp [execOp, hop, hx', hr1, he1]
 rw [hr]
 refine hK _ _ ⟨?_, kk fn S l fr i w₁ (a.put o.dst (str [b])) Q' hS hF₁ (put_rel hA (VR.of_sc rfl) _) ?_ hfr kx⟩
 ·
  refine (Y.Z hF₁).env.does ((Y.Z hF₁).size hF₁) (Own.refl _) fun ev hev => ?_
  have hev := mem_listed hev
  rw [he2] at hev
  simp at hev
  subst hev
  exact .inl ⟨_, rfl, hmine⟩
 ·
  cases hdst : o.dst <;> exact hd
end
end Go.Proofs.YtgcaionclkbehaaGreatDoor
namespace Go.Proofs.YtgcaionclkbehaaGreatDoor
open Go.Conc Go.RowKit Go.Lib
section
variable {ι : Type} {P : Program} {KT : TypeId → Prop} {An : Who} {N0 : ι → Nat} {M : ι → World → Nat → Prop} {O : ι → Nat → Prop} {R : ι → World → World → Prop} {D : ι → World → World → Array Event → Prop} {X : ι → Goroutine → World → Prop} {Hd : ι → List (Nat × Obj) → World → Prop} {kt : TypeId → Bool} {pr : Prim}
variable {aA : TL} {s s1 : AS} {K : TL → AS → Prop} {ops : Array Oper} {o : Oper} {v : Value}
theorem WO.call (Y : Cy P KT N0 M O R D X Hd) (hm : P.follows .mixedOrders = true) (hkt : ∀ t, kt t = false → ¬ KT t) (hp : PrimOk P KT An R D X Hd pr) (hnm : ∀ (f : FuncId) (f₀ : Func), P.funcs[f]? = some f₀ → (f₀.name == "runtime.NumGoroutine") = false) (hok : okOps ops = true) {k : Nat} (ho : ops[k]? = some o) (hw : Region.wanted o (yieldedL ops aA) = true) {cl : Call} {g : FuncId} (args : Array Value) (hop : o.op = .call cl) (hcl : cl.callee = .value (.func g)) (hne : noEsc P (.func g) = false) (hargs : (#[] ++ cl.args.map aA.at ++ #[] : Array Value) = args) (h : EF P kt pr g args s v s1) (kk : WO P KT An X Hd ops (k + 1) (aA.put o.dst v) s1 K) : WO P KT An X Hd ops k aA s K := by
 obtain ⟨n, h⟩ := h
 intro fn S l fr i w a Q' hS hF hA hd hfr kx
 have hc : ∀ f args s v s', evCall P kt pr n f args s = some (v, s') → s.nx ≤ s'.nx := fun f args s v s' => (ev_nx (P := P) (kt := kt) hp.nx n).2 f args s v s'
 have h' : evOp P kt (evCall P kt pr n) aA o s = some (v, s1) := (call_op hop hcl hne rfl hargs).trans h
 have hnx := evOp_nx (P := P) (kt := kt) hc h'
 rw [range_cons (Array.getElem?_eq_some_iff.1 ho).1]
 refine op_sound Y hkt (fun f args s v s' hh => (ev_sound Y hm hkt hp hnm n).2 f args s v s' hh) ho (by rw [wanted_rel hA]; exact hw) (opd_rel hA hok ho) hS hF h' (fun b hb _ => hfr b hb) ?_
 intro i1 S1 l1 w1 v1 hS1 hb1 hSim1 hF1 hv1
 refine kk fn S1 l1 fr i1 w1 (a.put o.dst v1) Q' hSim1 hF1 (put_rel (hA.mono hS1) hv1 _) ?_ (fun b hb => by rw [hb1 b (.inr hb)]; exact hfr b (by omega)) kx
 cases hdst : o.dst <;> exact hd
theorem WO.asS (s' : AS) (h : s = s') {k : Nat} (kk : WO P KT An X Hd ops k aA s' K) : WO P KT An X Hd ops k aA s K := h ▸ kk
theorem WI.asS {c : Code} {Q : Exit → TL → AS → Prop} (s' : AS) (h : s = s') (kk : WI P KT An X Hd c aA s' Q) : WI P KT An X Hd c aA s Q := h ▸ kk
theorem WI.fill {c : Code} {Q : Exit → TL → AS → Prop} (f : (Nat → Value) → TL) (h : aA = f (fun i => aA.getD i undef)) (k : ∀ x, WI P KT An X Hd c (f x) s Q) : WI P KT An X Hd c aA s Q := h ▸ k _
end
def baseL (cs : List UInt8) : List UInt8 := [104, 116, 116, 112, 58, 47, 47, 104, 47] ++ cs.flatMap fun c => [c, 47]
def lowC (cs : List UInt8) : Prop := ∀ c ∈ cs, 97 ≤ c.toNat ∧ c.toNat ≤ 122
theorem baseL_snoc (cs : List UInt8) (c : UInt8) : baseL (cs ++ [c]) = baseL cs ++ [c] ++ [47] := by simp [baseL]
theorem baseL_len (cs : List UInt8) : (baseL cs).length = 9 + 2 * cs.length := by
 unfold baseL
 induction cs with
 | nil => rfl
 | cons c cs ih => simp only [List.flatMap_cons, List.length_append, List.length_cons, List.length_nil] at ih ⊢; omega
def sl13 (v0 : Value) (u : Int) (q cs : List UInt8) (x : Nat → Value) : TL := [v0, num u, str q, x 3, x 4, x 5, x 6, .bool true, str (baseL cs), num ((cs.length : Nat) : Int), num ((cs.length : Nat) : Int), x 11, x 12, x 13, x 14, x 15, x 16, x 17, x 18, x 19, x 20, x 21, x 22, x 23, x 24, x 25, x 26, x 27, x 28, x 29, x 30, x 31, x 32, x 33, x 34, x 35, x 36, x 37, x 38, x 39, x 40, x 41, x 42, x 43, x 44, x 45, x 46, x 47, x 48, x 49, x 50, x 51, x 52, x 53, x 54, x 55, x 56, x 57, x 58, x 59, x 60, x 61, x 62, x 63, x 64, x 65, x 66, x 67, x 68, x 69, x 70, x 71, x 72, x 73, x 74, x 75, x 76, x 77, x 78, x 79, x 80, x 81, x 82, x 83, x 84, x 85, x 86, x 87, x 88, x 89, x 90, x 91, x 92, x 93, x 94, x 95, x 96, x 97, x 98, x 99, x 100, x 101, x 102, x 103, x 104, x 105, x 106, x 107, x 108, x 109, x 110, x 111, x 112, x 113, x 114, x 115, x 116, x 117, x 118, x 119, x 120, x 121]
def sl13' (v0 : Value) (u : Int) (q base : List UInt8) (i : Nat) (x : Nat → Value) : TL := [v0, num u, str q, x 3, x 4, x 5, x 6, .bool true, str base, num ((i : Nat) : Int), num ((i : Nat) : Int), x 11, x 12, x 13, x 14, x 15, x 16, x 17, x 18, x 19, x 20, x 21, x 22, x 23, x 24, x 25, x 26, x 27, x 28, x 29, x 30, x 31, x 32, x 33, x 34, x 35, x 36, x 37, x 38, x 39, x 40, x 41, x 42, x 43, x 44, x 45, x 46, x 47, x 48, x 49, x 50, x 51, x 52, x 53, x 54, x 55, x 56, x 57, x 58, x 59, x 60, x 61, x 62, x 63, x 64, x 65, x 66, x 67, x 68, x 69, x 70, x 71, x 72, x 73, x 74, x 75, x 76, x 77, x 78, x 79, x 80, x 81, x 82, x 83, x 84, x 85, x 86, x 87, x 88, x 89, x 90, x 91, x 92, x 93, x 94, x 95, x 96, x 97, x 98, x 99, x 100, x 101, x 102, x 103, x 104, x 105, x 106, x 107, x 108, x 109, x 110, x 111, x 112, x 113, x 114, x 115, x 116, x 117, x 118, x 119, x 120, x 121]
theorem u8_of : ∀ k : Nat, k < 26 → IntKind.u8.wrap ((97 + k : Nat) : Int) = (((UInt8.ofNat (97 + k)).toNat : Nat) : Int) ∧ 97 ≤ (UInt8.ofNat (97 + k)).toNat ∧ (UInt8.ofNat (97 + k)).toNat ≤ 122 := by decide
section
variable {Post : Value → World → Prop} {Ex : Nat → Prop} {w₀ : World} {An : Who} {pr : Prim}
theorem round13_e (hok : PrimOk Tryz.prog KTs An (fun _ : Zx => AtRel) (fun j => DZ j.1) (fun j => ZI Tryz.prog Post 0 j.1) (HdZ Ex w₀) pr) (h19 : pr 19 = none) {Sb so z e len cap : Nat} (hAn : An 31 = some (Sb, z, e)) {u : Int} {q cs : List UInt8} {x : Nat → Value} {s : AS} {y : Int} (hy : -9223372036854775808 ≤ y ∧ y ≤ 9223372036854775807) (hlt : cs.length < len) (h10 : cs.length < 10) (hcell : ∀ i l w, HdZ Ex w₀ i l w → mineZ i.1 w Sb ∧ w.cell? ⟨Sb, so + cs.length, none⟩ = some (num y)) (hlow : lowC cs) {Q : Exit → TL → AS → Prop}
  (hq : ∀ c x' o, lowC (cs ++ [c]) → Q .normal (sl13 (.slice (some ⟨31, so, none⟩) len cap) u q (cs ++ [c]) x') (s.add o)) : ∀ c, (match Tryz.f13.body with | some (.seq _ (.seq _ (.seq _ (.seq _ (.seq (.seq _ (.block _ (.loop c))) _))))) => c | _ => .skip) = c → WI Tryz.prog KTs An (fun j : Zx => ZI Tryz.prog Post 0 j.1) (HdZ Ex w₀) c (sl13 (.slice (some ⟨31, so, none⟩) len cap) u q cs x) s Q := by
 rintro c rfl
 have hbl := baseL_len cs
 have hpk : pickN y 26 < 26 := pickN_lt y 26 (by omega)
 refine WI.seq cyZ (WI.of cyZ mixed_tryz ktB_ok hok nm_tryz (EW.seq (EW.region (by kernel_rfl) ?_)))
 refine EO.go 3 5 (by kernel_rfl) ?_
 refine EO.op (by kernel_rfl) (op_bin (u := num ((cs.length : Nat) : Int)) (w := num ((len : Nat) : Int)) rfl (by kernel_rfl) (by kernel_rfl) (bin_lss (b := true) (decide_eq_true (by omega)))) ?_
 refine EO.go 2 5 (by kernel_rfl) ?_
 refine EO.op (by kernel_rfl) (op_bin (u := num ((cs.length : Nat) : Int)) (w := num 10) rfl (by kernel_rfl) (by kernel_rfl) (bin_lss (b := true) (decide_eq_true (by omega)))) ?_
 refine EO.fin 5 (by kernel_rfl) ?_
 refine EW.condT (by kernel_rfl) (EW.skip ?_)
 refine WI.seq cyZ (WI.block cyZ (WI.seq cyZ (WI.region cyZ ?_)))
 iterate 3
  refine WO.q cyZ ktB_ok (by kernel_rfl) rfl (by kernel_rfl) (by kernel_rfl) ?_
 refine WO.op cyZ ktB_ok (by kernel_rfl) rfl (by kernel_rfl) (op_idxO (b := 31) (off := so) (n := len) (cp := cap) (sp := none) (kd := .i64) (j := ((cs.length : Nat) : Int)) (sz := 1) (k := so + cs.length) rfl Tryz.underlying25 (by kernel_rfl) (by kernel_rfl) (by kernel_rfl) (by omega) (by omega) (by simp)) ?_
 refine WO.load cyZ rfl (by kernel_rfl) (nm := 31) (off := so + cs.length) (v := num y) rfl (by kernel_rfl) hAn Tryz.underlying3 rfl rfl hcell ?_
 refine WO.call cyZ mixed_tryz ktB_ok hok nm_tryz (by kernel_rfl) rfl (by kernel_rfl) #[num y, num 26] rfl rfl (by kernel_rfl) (by kernel_rfl) (pick26_e h19 hy) ?_
 refine WO.op cyZ ktB_ok (by kernel_rfl) rfl (by kernel_rfl) (op_addI (i := 97) (j := ((pickN y 26 : Nat) : Int)) (r := ((97 + pickN y 26 : Nat) : Int)) rfl (by kernel_rfl) (by kernel_rfl) (by omega) (by omega)) ?_
 obtain ⟨hu1, hu2⟩ := u8_of (pickN y 26) hpk
 generalize UInt8.ofNat (97 + pickN y 26) = ch at hu1 hu2
 refine WO.asS s (by kernel_rfl) ?_
 refine WO.op cyZ ktB_ok (v := .int .u8 ch.toNat) (s1 := s) (by kernel_rfl) rfl (by kernel_rfl) ((show _ = some (Value.int .u8 (IntKind.u8.wrap ((97 + pickN y 26 : Nat) : Int)), s) by kernel_rfl).trans (by rw [hu1])) ?_
 refine WO.q cyZ ktB_ok (by kernel_rfl) rfl (by kernel_rfl) (by kernel_rfl) ?_
 refine WO.asS (s.add (.cells #[.int .u8 ch.toNat] 5)) (by kernel_rfl) ?_
 refine WO.bstr cyZ rfl (by kernel_rfl) (nm := s.nx) (c := 1) (b := ch) rfl (by kernel_rfl) (by rw [AS.get_add, if_pos rfl]) Tryz.underlying55 Tryz.underlying5 Tryz.underlying9 ?_
 refine WO.of cyZ mixed_tryz ktB_ok hok nm_tryz (by kernel_rfl) (by decide) ?_
 refine EO.op (by kernel_rfl) (op_addS (l := baseL cs) (m := [ch]) rfl (by kernel_rfl) (by kernel_rfl) (by simp; omega)) ?_
 refine EO.op (by kernel_rfl) (op_addS (l := baseL cs ++ [ch]) (m := [47]) rfl (by kernel_rfl) (by kernel_rfl) (by simp; omega)) ?_
 iterate 2
  refine EO.fin 5 (by kernel_rfl) ?_
  refine WI.of cyZ mixed_tryz ktB_ok hok nm_tryz (EW.region (by kernel_rfl) ?_)
  refine EO.go 1 5 (by kernel_rfl) ?_
  refine EO.op (by kernel_rfl) (op_addI (i := ((cs.length : Nat) : Int)) (j := 1) (r := ((cs.length + 1 : Nat) : Int)) rfl (by kernel_rfl) (by kernel_rfl) (by omega) (by omega)) ?_
 refine EO.fin 5 (by kernel_rfl) ?_
 have hlow' : lowC (cs ++ [ch]) := fun c hc => by
  rcases List.mem_append.1 hc with hc | hc
  ·
   exact hlow c hc
  ·
   rw [List.mem_singleton.1 hc]; exact hu2
 have hsl : ∀ x', sl13 (.slice (some ⟨31, so, none⟩) len cap) u q (cs ++ [ch]) x' = sl13' (.slice (some ⟨31, so, none⟩) len cap) u q (baseL cs ++ [ch] ++ [47]) (cs.length + 1) x' := fun x' => by
  unfold sl13 sl13'
  rw [baseL_snoc, List.length_append]
  rfl
 exact endQ (sl13' (.slice (some ⟨31, so, none⟩) len cap) u q (baseL cs ++ [ch] ++ [47]) (cs.length + 1)) (s.add (.cells #[.int .u8 ch.toNat] 5)) (by kernel_rfl) (by kernel_rfl) fun x' => by rw [← hsl]; exact hq ch x' _ hlow'
end
end Go.Proofs.YtgcaionclkbehaaGreatDoor
