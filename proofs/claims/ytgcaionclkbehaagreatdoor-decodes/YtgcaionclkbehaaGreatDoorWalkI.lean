/-
  As YtgcaionclkbehaaGreatDoorWalk, where what a goroutine does hangs on the index, too. A goroutine's walk through code WITHOUT A COUNT OF STEPS, over any family 'X' of places from which it is known to come where it should: 'X' is closed under its own steps in company. The rules are those of Derived/Conc/Company.lean, over such a family; the family is indexed (by the letters that are still to be handed over), and a send or a receive turns the index. It knows no program.
-/
import Derived.Conc.CompanyMem
import Derived.Test.YtgcaionclkbehaaGreatDoorTree
import Derived.Test.YtgcaionclkbehaaGreatDoorWalk
set_option linter.all false
namespace Go.Proofs.YtgcaionclkbehaaGreatDoor
open Go.Conc

/-- ClosedI under the goroutine's own steps, and under what it suffers. -/
structure ClosedI {ι : Type} (P : Program) (main : Bool) (R : ι → World → World → Prop) (D : ι → World → World → Array Event → Prop) (X : ι → Goroutine → World → Prop) : Prop where
  rely : ∀ {vs g w w₁}, X vs g w → R vs w w₁ → X vs g w₁
  step : ∀ {vs g w}, g.status = .running → (∀ w₁, R vs w w₁ → (stepG P main g w₁).goes fun g' w' es => D vs w₁ w' es ∧ X vs g' w') → X vs g w

def AfterI {ι : Type} (X : ι → Goroutine → World → Prop) (vs : ι) (b : Frame) (k : List Item) (cs : List Frame) : Exit → Act → World → Prop
  | .normal, a, w => X vs (G (b.at a k) cs) w
  | .exit id, a, w => ∃ k', exitTo id k = some k' ∧ X vs (G (b.at a k') cs) w
  | .ret, a, w => ∀ todo, X vs (G { b.at a todo with mode := .returning } cs) w
  | _, _, _ => False

abbrev PostI (ι : Type) := ι → Exit → Act → World → Prop

/-- Behind c: T, if it is left normally; else Q. -/
def thenI {ι : Type} (T : ι → Act → World → Prop) (Q : PostI ι) : PostI ι
  | vs, .normal, a, w => T vs a w
  | vs, e, a, w => Q vs e a w
def inBlockI {ι : Type} (id : Nat) (Q : PostI ι) : PostI ι
  | vs, .exit id', a, w => if id' = id then Q vs .normal a w else Q vs (.exit id') a w
  | vs, e, a, w => Q vs e a w

def wpI {ι : Type} (X : ι → Goroutine → World → Prop) (fn : FuncId) (c : Code) (vs : ι) (Q : PostI ι) (a : Act) (w : World) : Prop :=
  ∀ (b : Frame) (k : List Item) (cs : List Frame), b.fn = fn → b.kind ≠ .early → (∀ vs' e a' w', Q vs' e a' w' → AfterI X vs' b k cs e a' w') → X vs (G (b.at a (.code c :: k)) cs) w
def OpsI {ι : Type} (X : ι → Goroutine → World → Prop) (fn : FuncId) (ops : Array Oper) (todo : List Nat) (vs : ι) (Q : PostI ι) (a : Act) (w : World) : Prop :=
  ∀ (b : Frame) (k : List Item) (cs : List Frame), b.fn = fn → b.kind ≠ .early → (∀ vs' e a' w', Q vs' e a' w' → AfterI X vs' b k cs e a' w') → X vs (G (b.at a (.inRegion ops todo :: k)) cs) w

section
variable {ι : Type} {P : Program} {main : Bool} {R : ι → World → World → Prop} {D : ι → World → World → Array Event → Prop} {X : ι → Goroutine → World → Prop} {fn : FuncId} {Q Q' : PostI ι} {a : Act} {w : World} {vs : ι}

/-- The library's counted walk, to a place of the family. -/
theorem ClosedI.goes (C : ClosedI P main R D X) {n : Nat} {g : Goroutine} (refl : ∀ w, R vs w w) (h : Goes P main (R vs) (D vs) (X vs) n g w) : X vs g w := by
  induction n generalizing g w with
  | zero => exact h w (refl w)
  | succ n ih =>
    rcases h with h | ⟨hs, h⟩
    · exact h w (refl w)
    · refine C.step hs fun w₁ h₁ => ?_
      have hw := h w₁ h₁
      cases e : stepG P main g w₁ with
      | go g' w' es => rw [e, goes_go] at hw; rw [goes_go]; exact ⟨hw.1, ih hw.2⟩
      | _ => rw [e] at hw; exact hw.elim

theorem AfterI.push {x : Item} {b : Frame} {k : List Item} {cs : List Frame} {e : Exit} (hx : x.plain = true) (he : e ≠ .normal) (h : AfterI X vs b k cs e a w) : AfterI X vs b (x :: k) cs e a w := by
  cases e with
  | normal => exact absurd rfl he
  | exit id => obtain ⟨k', hk, hg⟩ := h; exact ⟨k', by cases x <;> simp_all [exitTo, Item.plain], hg⟩
  | ret => exact h
  | goto l => exact h
  | panic ch => exact h
  | outgrown => exact h

theorem wpI_mono {c : Code} (h : wpI X fn c vs Q a w) (hq : ∀ vs e a w, Q vs e a w → Q' vs e a w) : wpI X fn c vs Q' a w := fun b k cs hb hk hc => h b k cs hb hk fun vs' e a' w' q => hc vs' e a' w' (hq vs' e a' w' q)
theorem wpI_rely (C : ClosedI P main R D X) {c : Code} {w₁ : World} (h : wpI X fn c vs Q a w) (hr : R vs w w₁) : wpI X fn c vs Q a w₁ := fun b k cs hb hk hc => C.rely (h b k cs hb hk hc) hr


theorem wpI_skip (C : ClosedI P main R D X) (T : ∀ i, Terms (R i) (D i)) (h : Q vs .normal a w) : wpI X fn .skip vs Q a w := fun b k cs _ _ hc => C.step rfl fun w₁ h₁ => by
  rw [stepG_skip]; exact ⟨(T vs).idle _, C.rely (hc _ _ _ _ h) h₁⟩
theorem wpI_ret (C : ClosedI P main R D X) (T : ∀ i, Terms (R i) (D i)) (h : Q vs .ret a w) : wpI X fn .ret vs Q a w := fun b k cs _ _ hc => C.step rfl fun w₁ h₁ => by
  rw [stepG_ret']; exact ⟨(T vs).idle _, C.rely (hc _ _ _ _ h _) h₁⟩
theorem wpI_exit (C : ClosedI P main R D X) (T : ∀ i, Terms (R i) (D i)) {id : Nat} (h : Q vs (.exit id) a w) : wpI X fn (.exit id) vs Q a w := fun b k cs _ _ hc => by
  obtain ⟨k', hk', hg⟩ := hc _ _ _ _ h
  exact C.step rfl fun w₁ h₁ => by rw [stepG_exit hk']; exact ⟨(T vs).idle _, C.rely hg h₁⟩
theorem wpI_label (C : ClosedI P main R D X) (T : ∀ i, Terms (R i) (D i)) {l : Nat} (h : Q vs .normal a w) : wpI X fn (.label l) vs Q a w := fun b k cs _ _ hc => C.step rfl fun w₁ h₁ => by
  rw [stepG_label]; exact ⟨(T vs).idle _, C.rely (hc _ _ _ _ h) h₁⟩

theorem wpI_seq (C : ClosedI P main R D X) (T : ∀ i, Terms (R i) (D i)) {x y : Code} (h : wpI X fn x vs (thenI (fun vs' a' w' => wpI X fn y vs' Q a' w') Q) a w) : wpI X fn (.seq x y) vs Q a w := by
  intro b k cs hb hk hc
  have hx : X vs (G (b.at a (.code x :: .code y :: k)) cs) w := by
    refine h b (.code y :: k) cs hb hk fun vs' e a' w' q => ?_
    cases e with
    | normal => exact q b k cs hb hk hc
    | exit id => exact (hc _ _ _ _ q).push rfl (by simp)
    | ret => exact (hc _ _ _ _ q).push (x := .code y) rfl (by simp)
    | goto l => exact hc _ _ _ _ q
    | panic ch => exact hc _ _ _ _ q
    | outgrown => exact hc _ _ _ _ q
  exact C.step rfl fun w₁ h₁ => by rw [stepG_seq]; exact ⟨(T vs).idle _, C.rely hx h₁⟩

theorem wpI_cond (C : ClosedI P main R D X) (T : ∀ i, Terms (R i) (D i)) {c : Operand} {x y : Code} {t : Bool} (hc : a.eval c = .bool t) (h : wpI X fn (if t then x else y) vs Q a w) : wpI X fn (.cond c x y) vs Q a w :=
  fun b k cs hb hk hq => C.step rfl fun w₁ h₁ => by rw [stepG_cond hc]; exact ⟨(T vs).idle _, C.rely (h b k cs hb hk hq) h₁⟩

theorem wpI_block (C : ClosedI P main R D X) (T : ∀ i, Terms (R i) (D i)) {id : Nat} {c : Code} (h : wpI X fn c vs (inBlockI id Q) a w) : wpI X fn (.block id c) vs Q a w := by
  intro b k cs hb hk hc
  have hx : X vs (G (b.at a (.code c :: .inBlock id :: k)) cs) w := by
    refine h b (.inBlock id :: k) cs hb hk fun vs' e a' w' q => ?_
    cases e with
    | normal => exact C.step rfl fun w₁ h₁ => by rw [stepG_inBlock]; exact ⟨(T vs').idle _, C.rely (hc _ _ _ _ q) h₁⟩
    | exit id' =>
      by_cases hid : id' = id
      · simp only [inBlockI, hid, if_true] at q
        exact ⟨k, by simp [exitTo, hid], hc _ _ _ _ q⟩
      · simp only [inBlockI, hid, if_false] at q
        obtain ⟨k', hk', hg⟩ := hc _ _ _ _ q
        have : (id == id') = false := by simp; exact fun h => hid h.symm
        exact ⟨k', by simp [exitTo, this, hk'], hg⟩
    | ret => exact hc _ _ _ _ q
    | goto l => exact hc _ _ _ _ q
    | panic ch => exact hc _ _ _ _ q
    | outgrown => exact hc _ _ _ _ q
  exact C.step rfl fun w₁ h₁ => by rw [stepG_block]; exact ⟨(T vs).idle _, C.rely hx h₁⟩

/-- A LOOP: an invariant with a number that every round lowers. -/
theorem wpI_loop (C : ClosedI P main R D X) (T : ∀ i, Terms (R i) (D i)) {c : Code} (I : Nat → ι → Act → World → Prop) (n : Nat) (h₀ : I n vs a w)
    (round : ∀ n vs a w, I n vs a w → wpI X fn c vs (thenI (fun vs' a' w' => ∃ n', n' < n ∧ I n' vs' a' w') Q) a w) : wpI X fn (.loop c) vs Q a w := by
  intro b k cs hb hk hc
  have key : ∀ n vs a w, I n vs a w → X vs (G (b.at a (.code c :: .inLoop c :: k)) cs) w := by
    intro n
    induction n using Nat.strongRecOn with
    | _ n ih =>
      intro vs a w hI
      refine round n vs a w hI b (.inLoop c :: k) cs hb hk fun vs' e a' w' q => ?_
      cases e with
      | normal =>
        obtain ⟨n', hn, hI'⟩ := q
        exact C.step rfl fun w₁ h₁ => by rw [stepG_inLoop]; exact ⟨(T vs').idle _, C.rely (ih n' hn vs' a' w' hI') h₁⟩
      | exit id => exact (hc _ _ _ _ q).push rfl (by simp)
      | ret => exact (hc _ _ _ _ q).push (x := .inLoop c) rfl (by simp)
      | goto l => exact hc _ _ _ _ q
      | panic ch => exact hc _ _ _ _ q
      | outgrown => exact hc _ _ _ _ q
  exact C.step rfl fun w₁ h₁ => by rw [stepG_loop]; exact ⟨(T vs).idle _, C.rely (key n vs a w h₀) h₁⟩

theorem wpI_region (C : ClosedI P main R D X) (T : ∀ i, Terms (R i) (D i)) {id : Nat} {ops : Array Oper} (h : OpsI X fn ops (List.range ops.size) vs Q a w) : wpI X fn (.region id ops false) vs Q a w :=
  fun b k cs hb hk hc => C.step rfl fun w₁ h₁ => by rw [stepG_region]; exact ⟨(T vs).idle _, C.rely (h b k cs hb hk hc) h₁⟩
theorem opsI_nil (C : ClosedI P main R D X) (T : ∀ i, Terms (R i) (D i)) {ops : Array Oper} (h : Q vs .normal a w) : OpsI X fn ops [] vs Q a w := fun b k cs _ _ hc => C.step rfl fun w₁ h₁ => by
  rw [stepG_region_end]; exact ⟨(T vs).idle _, C.rely (hc _ _ _ _ h) h₁⟩
theorem opsI_unwanted (C : ClosedI P main R D X) (T : ∀ i, Terms (R i) (D i)) {ops : Array Oper} {i : Nat} {rest : List Nat} {o : Oper} (ho : ops[i]? = some o) (hw : Region.wanted o (yielded ops a.tmps) = false) (h : OpsI X fn ops rest vs Q (a.put o.dst undef) w) : OpsI X fn ops (i :: rest) vs Q a w :=
  fun b k cs hb hk hc => C.step rfl fun w₁ h₁ => by rw [stepG_unwanted ho hw]; exact ⟨(T vs).idle _, C.rely (h b k cs hb hk hc) h₁⟩
/-- ONE OPERATION, what follows behind a variable. -/
theorem opsI_cons (C : ClosedI P main R D X) {ops : Array Oper} {i : Nat} {rest : List Nat} {o : Oper} (ho : ops[i]? = some o) (hw : Region.wanted o (yielded ops a.tmps) = true)
    (h : ∀ w₁, R vs w w₁ → ∀ K : Act → World → Prop, (∀ a' w', D vs w₁ w' (listed P fn a o w₁) ∧ OpsI X fn ops rest vs Q a' w' → K a' w') → uponK o a K ((execOp a.eval o).run P w₁)) : OpsI X fn ops (i :: rest) vs Q a w := by
  intro b k cs hb hk hc
  refine C.step rfl fun w₁ h₁ => goes_oper ho hw hk ?_
  have := h w₁ h₁ _ fun _ _ x => x
  revert this
  cases (execOp a.eval o).run P w₁ with
  | ok x w' => cases x <;> first | exact fun ⟨d, g⟩ => ⟨hb ▸ d, g b k cs hb hk hc⟩ | exact id
  | halt _ _ => exact id

/-- A piece of code that is walked by the library's counted walk. -/
theorem wpI_of_wpC (C : ClosedI P main R D X) {c : Code} {n : Nat} (refl : ∀ w, R vs w w) (h : c.wpC P main (R vs) (D vs) fn n (fun e a' w' => Q vs e a' w') a w) : wpI X fn c vs Q a w := by
  intro b k cs hb hk hc
  refine C.goes refl (n := 0 + n) (h b k cs (X vs) 0 hb hk fun e a' w' q => ?_)
  have := hc vs e a' w' q
  cases e with
  | normal => exact fun w₁ h₁ => C.rely this h₁
  | exit id => obtain ⟨k', hk', hg⟩ := this; exact ⟨k', hk', fun w₁ h₁ => C.rely hg h₁⟩
  | ret => exact fun todo w₁ h₁ => C.rely (this todo) h₁
  | goto l => exact this
  | panic ch => exact this
  | outgrown => exact this
/-- .. ahead of what is walked here. -/
theorem wpI_seqC (C : ClosedI P main R D X) (T : ∀ i, Terms (R i) (D i)) {x y : Code} {n : Nat} (refl : ∀ w, R vs w w) (h : x.wpC P main (R vs) (D vs) fn n (Exit.then (fun a' w' => wpI X fn y vs Q a' w') (fun e a' w' => Q vs e a' w')) a w) : wpI X fn (.seq x y) vs Q a w := by
  refine wpI_seq C T (wpI_of_wpC C refl (n := n) ?_)
  refine wpC_mono h fun e a' w' q => ?_
  cases e <;> exact q

/-- THROUGH A CALL, BY THE CALLEE's COUNTED CONTRACT. -/
theorem opsI_callC (C : ClosedI P main R D X) (T : ∀ i, Terms (R i) (D i)) {ops : Array Oper} {i : Nat} {rest : List Nat} {o : Oper} {f : FuncId} {args : Array Operand} {ats : Array TypeId} {nf : Nat} {Post : Value → World → Prop} (refl : ∀ w, R vs w w)
    (ho : ops[i]? = some o) (hw : Region.wanted o (yielded ops a.tmps) = true) (hop : o.op = .call { callee := .value (.func f), args, argTypes := ats })
    (hcall : CallsC P main (R vs) (D vs) f (args.map a.eval) nf w Post) (hnext : ∀ v w', Post v w' → OpsI X fn ops rest vs Q (a.put o.dst v) w') : OpsI X fn ops (i :: rest) vs Q a w := by
  intro b k cs hb hk hc
  exact C.goes refl (Goes.call (Stop := X vs) (m := 0) (T vs) ho hw hk hop hcall fun v w' hp w₁ h₁ => C.rely (hnext v w' hp b k cs hb hk hc) h₁)
/-- THROUGH A CALL OF WHATEVER FUNCTION VALUE: its body is walked over the same family. -/
theorem opsI_call (C : ClosedI P main R D X) (T : ∀ i, Terms (R i) (D i)) {ops : Array Oper} {i : Nat} {rest : List Nat} {o : Oper} {x : Operand} {f : FuncId} {f₀ : Func} {c : Code} {first cap : Array Value} {args : Array Operand} {ats : Array TypeId}
    (ho : ops[i]? = some o) (hw : Region.wanted o (yielded ops a.tmps) = true) (hop : o.op = .call { callee := .value x, args, argTypes := ats }) (hx : a.eval x = .func (.func f) first cap)
    (hf : P.funcs[f]? = some f₀) (hname : (f₀.name == "runtime.NumGoroutine") = false) (hb : f₀.body = some c)
    (h : wpI X f c vs (fun vs' e a' w' => (e = .normal ∨ e = .ret) ∧ a'.defers = [] ∧ ∃ v, ResultsC P f₀ a'.tmps v ∧ OpsI X fn ops rest vs' Q (a.put o.dst v) w')
      { tmps := (first ++ args.map a.eval ++ cap) ++ Array.replicate (f₀.ntmps - (first ++ args.map a.eval ++ cap).size) undef, defers := [] } w) : OpsI X fn ops (i :: rest) vs Q a w := by
  intro b k cs hb' hk hc
  have hbn : f₀.body.isNone = false := by rw [hb]; rfl
  have hfin : ∀ v, (b.at a (.inRegion ops (i :: rest) :: k)).finish v = b.at (a.put o.dst v) (.inRegion ops rest :: k) := fun v => by rw [Frame.finish_at, ho]; rfl
  have hleave : ∀ (vs' : ι) (a' : Act) (w' : World) (todo : List Item), (a'.defers = [] ∧ ∃ v, ResultsC P f₀ a'.tmps v ∧ OpsI X fn ops rest vs' Q (a.put o.dst v) w') →
      X vs' (G { (base f).at a' todo with mode := .returning } (b.at a (.inRegion ops (i :: rest) :: k) :: cs)) w' := by
    rintro vs' a' w' todo ⟨hd, v, hr, hp⟩
    refine C.step rfl fun w₁ h₁ => ?_
    rw [stepG_leave (b := base f) rfl hd hf (hr w₁).1 (hr w₁).2, hfin]
    exact ⟨(T vs').idle _, C.rely (hp b k cs hb' hk hc) h₁⟩
  refine C.step rfl fun w₁ h₁ => ?_
  obtain ⟨hr, he⟩ := run_call_val (P := P) (w := w₁) hop hx hf hname hbn
  rw [stepG_enter ho hw hk hr, enter_at _ hf hb]
  have hl : listed P b.fn a o w₁ = #[] := listed_nil he
  rw [hl]
  refine ⟨(T vs).idle _, C.rely (h (base f) [] _ rfl (by simp [base]) fun vs' e a' w' q => ?_) h₁⟩
  obtain ⟨he', q⟩ := q
  rcases he' with rfl | rfl
  · exact C.step rfl fun w₂ h₂ => by rw [stepG_end]; exact ⟨(T vs').idle _, C.rely (hleave vs' a' w' [] q) h₂⟩
  · exact fun todo => hleave vs' a' w' todo q

/-- A CONTRACT OVER THE FAMILY: entered with these arguments at this index, the function comes back with an index, a value and a world that meet Post. -/
def CallsI (P : Program) (X : ι → Goroutine → World → Prop) (f : FuncId) (args : Array Value) (vs : ι) (w : World) (Post : ι → Value → World → Prop) : Prop :=
  ∃ f₀ c, P.funcs[f]? = some f₀ ∧ (f₀.name == "runtime.NumGoroutine") = false ∧ f₀.body = some c ∧
    wpI X f c vs (fun vs' e a' w' => (e = .normal ∨ e = .ret) ∧ a'.defers = [] ∧ ∃ v, ResultsC P f₀ a'.tmps v ∧ Post vs' v w') { tmps := args ++ Array.replicate (f₀.ntmps - args.size) undef, defers := [] } w

theorem callsI_of {f : FuncId} {f₀ : Func} {c : Code} {args : Array Value} {Post : ι → Value → World → Prop} (hf : P.funcs[f]? = some f₀) (hname : (f₀.name == "runtime.NumGoroutine") = false) (hb : f₀.body = some c)
    (h : wpI X f c vs (fun vs' e a' w' => (e = .normal ∨ e = .ret) ∧ a'.defers = [] ∧ ∃ v, ResultsC P f₀ a'.tmps v ∧ Post vs' v w') { tmps := args ++ Array.replicate (f₀.ntmps - args.size) undef, defers := [] } w) : CallsI P X f args vs w Post := ⟨f₀, c, hf, hname, hb, h⟩

theorem opsI_callX (C : ClosedI P main R D X) (T : ∀ i, Terms (R i) (D i)) {ops : Array Oper} {i : Nat} {rest : List Nat} {o : Oper} {x : Operand} {f : FuncId} {first cap args' : Array Value} {args : Array Operand} {ats : Array TypeId} {vs₀ : ι} {Post : ι → Value → World → Prop}
    (ho : ops[i]? = some o) (hw : Region.wanted o (yielded ops a.tmps) = true) (hop : o.op = .call { callee := .value x, args, argTypes := ats }) (hx : a.eval x = .func (.func f) first cap)
    (hargs : first ++ args.map a.eval ++ cap = args') (hvs : vs = vs₀)
    (hcall : CallsI P X f args' vs₀ w Post) (hnext : ∀ vs' v w', Post vs' v w' → OpsI X fn ops rest vs' Q (a.put o.dst v) w') : OpsI X fn ops (i :: rest) vs Q a w := by
  subst hargs hvs
  obtain ⟨f₀, c, hf, hn, hb, h⟩ := hcall
  refine opsI_call C T ho hw hop hx hf hn hb (wpI_mono h fun vs' e a' w' q => ?_)
  obtain ⟨h1, h2, v, h3, h4⟩ := q
  exact ⟨h1, h2, v, h3, hnext vs' v w' h4⟩

theorem opsI_of_opC (C : ClosedI P main R D X) (T : ∀ i, Terms (R i) (D i)) {ops : Array Oper} {i : Nat} {rest : List Nat} (h : OpC P (R vs) (D vs) fn ops i (fun a' w' => OpsI X fn ops rest vs Q a' w') a w) : OpsI X fn ops (i :: rest) vs Q a w := by
  unfold OpC at h
  split at h
  · exact h.elim
  · rename_i o ho
    split at h
    · rename_i hw
      exact opsI_cons C ho hw fun w₁ h₁ K hK => uponK_mono (fun a' w' x => hK a' w' x) (h w₁ h₁)
    · rename_i hw
      exact opsI_unwanted C T ho (by simpa using hw) h

/-- A REGION THAT DRAWS ITS ORDER, WHOSE LAST OPERATION, NUMBER n, COMES LAST IN EVERY ORDER: those ahead of it by the library's laws ('AnyCH'), the last by itself (it may be a call). -/
theorem wpI_region_last (C : ClosedI P main R D X) (T : ∀ i, Terms (R i) (D i)) {id n : Nat} {ops : Array Oper} {S : World → Prop} {K : Act → World → Prop} (hd : LetsDraw (D vs)) (hm : P.follows .mixedOrders = true) (hn : ops.size = n + 1)
    (dn : Array Bool → Bool) (hdn0 : dn (Array.replicate (n + 1) false) = true) (hdn : ∀ listed : Array Bool, listed.size = n + 1 → listed[n]? = some false → dn listed = true → ∀ i ∈ Region.ready .any ops (listed.setIfInBounds n true), dn (listed.setIfInBounds i true) = true)
    (hord : ∀ listed : Array Bool, listed.size = n + 1 → listed[n]? = some false → dn listed = true → Region.ready .any ops listed = if Region.ready .any ops (listed.setIfInBounds n true) = [] then [n] else Region.ready .any ops (listed.setIfInBounds n true))
    (h : ∀ w₁, R vs w w₁ → AnyCH P (R vs) (D vs) fn .any ops (fun e a' w' => e = .normal ∧ K a' w') S n ((Array.replicate (n + 1) false).setIfInBounds n true) a { w₁ with drawn := w₁.drawn + 1 })
    (hlast : ∀ a' w', K a' w' → OpsI X fn ops [n] vs Q a' w') : wpI X fn (.region id ops true) vs Q a w := by
  have key : ∀ (fuel t : Nat) (listed : Array Bool) (a : Act) (w : World), listed.size = n + 1 → listed[n]? = some false → dn listed = true → AnyCH P (R vs) (D vs) fn .any ops (fun e a' w' => e = .normal ∧ K a' w') S fuel (listed.setIfInBounds n true) a w →
      OpsI X fn ops (Region.linearise.go .any ops (fuel + 1) t listed []) vs Q a w := by
    intro fuel
    induction fuel with
    | zero =>
      intro t listed a w hs hl hdl hA
      have hr : Region.ready .any ops listed = [n] := by rw [hord listed hs hl hdl, if_pos hA.1]
      rw [go_cons (i := n) (by rw [hr]; simp [Nat.mod_one]), go_nil hA.1]
      exact hlast a w hA.2.2
    | succ fuel ih =>
      intro t listed a w hs hl hdl hA
      by_cases he : Region.ready .any ops (listed.setIfInBounds n true) = []
      · have hr : Region.ready .any ops listed = [n] := by rw [hord listed hs hl hdl, if_pos he]
        rw [go_cons (i := n) (by rw [hr]; simp [Nat.mod_one]), go_nil he]
        exact hlast a w (hA.1 he).2
      · have hr : Region.ready .any ops listed = Region.ready .any ops (listed.setIfInBounds n true) := by rw [hord listed hs hl hdl, if_neg he]
        have hpos : 0 < (Region.ready .any ops listed).length := by
          rw [hr]; exact List.length_pos_iff.2 he
        obtain ⟨i, hi⟩ : ∃ i, (Region.ready .any ops listed)[t % (Region.ready .any ops listed).length]? = some i := ⟨_, List.getElem?_eq_getElem (Nat.mod_lt _ hpos)⟩
        have hmem : i ∈ Region.ready .any ops (listed.setIfInBounds n true) := by rw [← hr]; exact List.mem_of_getElem? hi
        have hin : i ≠ n := by
          rintro rfl
          have h0 := (mem_ready.1 hmem).1
          rw [Array.getD_eq_getD_getElem?, Array.getElem?_setIfInBounds_self_of_lt (by omega)] at h0
          simp at h0
        rw [go_cons hi]
        refine opsI_of_opC C T (OpC_mono (fun a' w' x => ih _ _ a' w' (by simpa using hs) (by rw [Array.getElem?_setIfInBounds_ne hin]; exact hl) (hdn listed hs hl hdl i hmem) ?_) (hA.2 i hmem))
        rw [Array.setIfInBounds_comm _ _ hin]
        exact x.2
  intro b k cs hb hk hc
  refine C.step rfl fun w₁ h₁ => ?_
  rw [stepG_region_draw]
  refine ⟨hd _, ?_⟩
  simp only [Region.schedule, hm, Bool.true_or, if_true]
  have hk' := key n (w₁.tape w₁.drawn (.order b.fn id)) (Array.replicate (n + 1) false) a { w₁ with drawn := w₁.drawn + 1 } (by simp) (by simp) hdn0 (h w₁ h₁) b k cs hb hk hc
  have e : Region.linearise .any ops (w₁.tape w₁.drawn (.order b.fn id)) = Region.linearise.go .any ops (n + 1) (w₁.tape w₁.drawn (.order b.fn id)) (Array.replicate (n + 1) false) [] := by
    unfold Region.linearise
    rw [hn]
  rw [e]
  exact hk'
end
end Go.Proofs.YtgcaionclkbehaaGreatDoor
