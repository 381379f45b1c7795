import Derived.Conc.CompanyMem
import Derived.Test.YtgcaionclkbehaaGreatDoorPairEnd
import Derived.Conc.FxBegin
set_option linter.all false
namespace Go.Proofs.YtgcaionclkbehaaGreatDoor
section
open Go.Conc
structure Closed {ι : Type} (P : Program) (main : Bool) (R : ι → World → World → Prop) (D : World → World → Array Event → Prop) (X : ι → Goroutine → World → Prop) : Prop where
 rely : ∀ {vs g w w₁},X vs g w → R vs w w₁ → X vs g w₁
 step : ∀ {vs g w},g.status = .running → (∀ w₁,R vs w w₁ → (stepG P main g w₁).goes fun g' w' es => D w₁ w' es ∧ X vs g' w') → X vs g w
def AfterX {ι : Type} (X : ι → Goroutine → World → Prop) (vs : ι) (b : Frame) (k : List Item) (cs : List Frame) : Exit → Act → World → Prop
 | .normal,a,w => X vs (G (b.at a k) cs) w
 | .exit id,a,w => ∃ k',exitTo id k = some k' ∧ X vs (G (b.at a k') cs) w
 | .ret,a,w => ∀ todo,X vs (G { b.at a todo with mode := .returning } cs) w
 | _,_,_ => False
abbrev PostX (ι : Type) := ι → Exit → Act → World → Prop
def thenX {ι : Type} (T : ι → Act → World → Prop) (Q : PostX ι) : PostX ι
 | vs, .normal,a,w => T vs a w
 | vs,e,a,w => Q vs e a w
def inBlockX {ι : Type} (id : Nat) (Q : PostX ι) : PostX ι
 | vs, .exit id',a,w => if id' = id then Q vs .normal a w else Q vs (.exit id') a w
 | vs,e,a,w => Q vs e a w
def wpX {ι : Type} (X : ι → Goroutine → World → Prop) (fn : FuncId) (c : Code) (vs : ι) (Q : PostX ι) (a : Act) (w : World) : Prop :=
 ∀ (b : Frame) (k : List Item) (cs : List Frame),b.fn = fn → b.kind ≠ .early → (∀ vs' e a' w',Q vs' e a' w' → AfterX X vs' b k cs e a' w') → X vs (G (b.at a (.code c :: k)) cs) w
def OpsX {ι : Type} (X : ι → Goroutine → World → Prop) (fn : FuncId) (ops : Array Oper) (todo : List Nat) (vs : ι) (Q : PostX ι) (a : Act) (w : World) : Prop :=
 ∀ (b : Frame) (k : List Item) (cs : List Frame),b.fn = fn → b.kind ≠ .early → (∀ vs' e a' w',Q vs' e a' w' → AfterX X vs' b k cs e a' w') → X vs (G (b.at a (.inRegion ops todo :: k)) cs) w
section
variable {ι : Type} {P : Program} {main : Bool} {R : ι → World → World → Prop} {D : World → World → Array Event → Prop} {X : ι → Goroutine → World → Prop} {fn : FuncId} {Q Q' : PostX ι} {a : Act} {w : World} {vs : ι}
theorem Closed.goes (C : Closed P main R D X) {n : Nat} {g : Goroutine} (refl : ∀ w,R vs w w) (h : Goes P main (R vs) D (X vs) n g w) : X vs g w := by
 induction n generalizing g w with
 | zero => exact h w (refl w)
 | succ n ih =>
  rcases h with h | ⟨hs,h⟩
  ·
   exact h w (refl w)
  ·
   refine C.step hs fun w₁ h₁ => ?_
   have hw := h w₁ h₁
   cases e : stepG P main g w₁ with
   | go g' w' es => rw [e,goes_go] at hw; rw [goes_go]; exact ⟨hw.1,ih hw.2⟩
   | _ => rw [e] at hw; exact hw.elim
theorem AfterX.push {x : Item} {b : Frame} {k : List Item} {cs : List Frame} {e : Exit} (hx : x.plain = true) (he : e ≠ .normal) (h : AfterX X vs b k cs e a w) : AfterX X vs b (x :: k) cs e a w := by
 cases e with
 | normal => exact absurd rfl he
 | exit id => obtain ⟨k',hk,hg⟩ := h; exact ⟨k',by cases x <;> simp_all [exitTo,Item.plain],hg⟩
 | ret => exact h
 | goto l => exact h
 | panic ch => exact h
 | outgrown => exact h
theorem wpX_mono {c : Code} (h : wpX X fn c vs Q a w) (hq : ∀ vs e a w,Q vs e a w → Q' vs e a w) : wpX X fn c vs Q' a w := fun b k cs hb hk hc => h b k cs hb hk fun vs' e a' w' q => hc vs' e a' w' (hq vs' e a' w' q)
theorem zh1 (C : Closed P main R D X) {c : Code} {w₁ : World} (h : wpX X fn c vs Q a w) (hr : R vs w w₁) : wpX X fn c vs Q a w₁ := fun b k cs hb hk hc => C.rely (h b k cs hb hk hc) hr
theorem zg3 (C : Closed P main R D X) (T : ∀ i,Terms (R i) D) (h : Q vs .normal a w) : wpX X fn .skip vs Q a w := fun b k cs _ _ hc => C.step rfl fun w₁ h₁ => by
 rw [stepG_skip]; exact ⟨(T vs).idle _,C.rely (hc _ _ _ _ h) h₁⟩
theorem wpX_ret (C : Closed P main R D X) (T : ∀ i,Terms (R i) D) (h : Q vs .ret a w) : wpX X fn .ret vs Q a w := fun b k cs _ _ hc => C.step rfl fun w₁ h₁ => by
 rw [stepG_ret']; exact ⟨(T vs).idle _,C.rely (hc _ _ _ _ h _) h₁⟩
theorem wpX_exit (C : Closed P main R D X) (T : ∀ i,Terms (R i) D) {id : Nat} (h : Q vs (.exit id) a w) : wpX X fn (.exit id) vs Q a w := fun b k cs _ _ hc => by
 obtain ⟨k',hk',hg⟩ := hc _ _ _ _ h
 exact C.step rfl fun w₁ h₁ => by rw [stepG_exit hk']; exact ⟨(T vs).idle _,C.rely hg h₁⟩
theorem zf6 (C : Closed P main R D X) (T : ∀ i,Terms (R i) D) {x y : Code} (h : wpX X fn x vs (thenX (fun vs' a' w' => wpX X fn y vs' Q a' w') Q) a w) : wpX X fn (.seq x y) vs Q a w := by
 intro b k cs hb hk hc
 have hx : X vs (G (b.at a (.code x :: .code y :: k)) cs) w := by
  refine h b (.code y :: k) cs hb hk fun vs' e a' w' q => ?_
  cases e with
  | normal => exact q b k cs hb hk hc
  | exit id => exact (hc _ _ _ _ q).push rfl (by simp)
  | ret => exact (hc _ _ _ _ q).push (x := .code y) rfl (by simp)
  | goto l => exact hc _ _ _ _ q
  | panic ch => exact hc _ _ _ _ q
  | outgrown => exact hc _ _ _ _ q
 exact C.step rfl fun w₁ h₁ => by rw [stepG_seq]; exact ⟨(T vs).idle _,C.rely hx h₁⟩
theorem zb0 (C : Closed P main R D X) (T : ∀ i,Terms (R i) D) {c : Operand} {x y : Code} {t : Bool} (hc : a.eval c = .bool t) (h : wpX X fn (if t then x else y) vs Q a w) : wpX X fn (.cond c x y) vs Q a w :=
 fun b k cs hb hk hq => C.step rfl fun w₁ h₁ => by rw [stepG_cond hc]; exact ⟨(T vs).idle _,C.rely (h b k cs hb hk hq) h₁⟩
theorem zh9 (C : Closed P main R D X) (T : ∀ i,Terms (R i) D) {id : Nat} {c : Code} (h : wpX X fn c vs (inBlockX id Q) a w) : wpX X fn (.block id c) vs Q a w := by
 intro b k cs hb hk hc
 have hx : X vs (G (b.at a (.code c :: .inBlock id :: k)) cs) w := by
  refine h b (.inBlock id :: k) cs hb hk fun vs' e a' w' q => ?_
  cases e with
  | normal => exact C.step rfl fun w₁ h₁ => by rw [stepG_inBlock]; exact ⟨(T vs').idle _,C.rely (hc _ _ _ _ q) h₁⟩
  | exit id' =>
   by_cases hid : id' = id
   ·
    simp only [inBlockX,hid,if_true] at q
    exact ⟨k,by simp [exitTo,hid],hc _ _ _ _ q⟩
   ·
    simp only [inBlockX,hid,if_false] at q
    obtain ⟨k',hk',hg⟩ := hc _ _ _ _ q
    have : (id == id') = false := by simp; exact fun h => hid h.symm
    exact ⟨k',by simp [exitTo,this,hk'],hg⟩
  | ret => exact hc _ _ _ _ q
  | goto l => exact hc _ _ _ _ q
  | panic ch => exact hc _ _ _ _ q
  | outgrown => exact hc _ _ _ _ q
 exact C.step rfl fun w₁ h₁ => by rw [stepG_block]; exact ⟨(T vs).idle _,C.rely hx h₁⟩
theorem wpX_loop (C : Closed P main R D X) (T : ∀ i,Terms (R i) D) {c : Code} (I : Nat → ι → Act → World → Prop) (n : Nat) (h₀ : I n vs a w)
  (round : ∀ n vs a w,I n vs a w → wpX X fn c vs (thenX (fun vs' a' w' => ∃ n',n' < n ∧ I n' vs' a' w') Q) a w) : wpX X fn (.loop c) vs Q a w := by
 intro b k cs hb hk hc
 have key : ∀ n vs a w,I n vs a w → X vs (G (b.at a (.code c :: .inLoop c :: k)) cs) w := by
  intro n
  induction n using Nat.strongRecOn with
  | _ n ih =>
   intro vs a w hI
   refine round n vs a w hI b (.inLoop c :: k) cs hb hk fun vs' e a' w' q => ?_
   cases e with
   | normal =>
    obtain ⟨n',hn,hI'⟩ := q
    exact C.step rfl fun w₁ h₁ => by rw [stepG_inLoop]; exact ⟨(T vs').idle _,C.rely (ih n' hn vs' a' w' hI') h₁⟩
   | exit id => exact (hc _ _ _ _ q).push rfl (by simp)
   | ret => exact (hc _ _ _ _ q).push (x := .inLoop c) rfl (by simp)
   | goto l => exact hc _ _ _ _ q
   | panic ch => exact hc _ _ _ _ q
   | outgrown => exact hc _ _ _ _ q
 exact C.step rfl fun w₁ h₁ => by rw [stepG_loop]; exact ⟨(T vs).idle _,C.rely (key n vs a w h₀) h₁⟩
theorem zb2 (C : Closed P main R D X) (T : ∀ i,Terms (R i) D) {id : Nat} {ops : Array Oper} (h : OpsX X fn ops (List.range ops.size) vs Q a w) : wpX X fn (.region id ops false) vs Q a w :=
 fun b k cs hb hk hc => C.step rfl fun w₁ h₁ => by rw [stepG_region]; exact ⟨(T vs).idle _,C.rely (h b k cs hb hk hc) h₁⟩
theorem zb6 (C : Closed P main R D X) (T : ∀ i,Terms (R i) D) {ops : Array Oper} (h : Q vs .normal a w) : OpsX X fn ops [] vs Q a w := fun b k cs _ _ hc => C.step rfl fun w₁ h₁ => by
 rw [stepG_region_end]; exact ⟨(T vs).idle _,C.rely (hc _ _ _ _ h) h₁⟩
theorem opsX_unwanted (C : Closed P main R D X) (T : ∀ i,Terms (R i) D) {ops : Array Oper} {i : Nat} {rest : List Nat} {o : Oper} (ho : ops[i]? = some o) (hw : Region.wanted o (yielded ops a.tmps) = false) (h : OpsX X fn ops rest vs Q (a.put o.dst undef) w) : OpsX X fn ops (i :: rest) vs Q a w :=
 fun b k cs hb hk hc => C.step rfl fun w₁ h₁ => by rw [stepG_unwanted ho hw]; exact ⟨(T vs).idle _,C.rely (h b k cs hb hk hc) h₁⟩
theorem za4 (C : Closed P main R D X) {ops : Array Oper} {i : Nat} {rest : List Nat} {o : Oper} (ho : ops[i]? = some o) (hw : Region.wanted o (yielded ops a.tmps) = true)
  (h : ∀ w₁,R vs w w₁ → ∀ K : Act → World → Prop,(∀ a' w',D w₁ w' (listed P fn a o w₁) ∧ OpsX X fn ops rest vs Q a' w' → K a' w') → uponK o a K ((execOp a.eval o).run P w₁)) : OpsX X fn ops (i :: rest) vs Q a w := by
 intro b k cs hb hk hc
 refine C.step rfl fun w₁ h₁ => goes_oper ho hw hk ?_
 have := h w₁ h₁ _ fun _ _ x => x
 revert this
 cases (execOp a.eval o).run P w₁ with
 | ok x w' => cases x <;> first | exact fun ⟨d,g⟩ => ⟨hb ▸ d,g b k cs hb hk hc⟩ | exact id
 | halt _ _ => exact id
theorem wpX_of_wpC (C : Closed P main R D X) {c : Code} {n : Nat} (refl : ∀ w,R vs w w) (h : c.wpC P main (R vs) D fn n (fun e a' w' => Q vs e a' w') a w) : wpX X fn c vs Q a w := by
 intro b k cs hb hk hc
 refine C.goes refl (n := 0 + n) (h b k cs (X vs) 0 hb hk fun e a' w' q => ?_)
 have := hc vs e a' w' q
 cases e with
 | normal => exact fun w₁ h₁ => C.rely this h₁
 | exit id => obtain ⟨k',hk',hg⟩ := this; exact ⟨k',hk',fun w₁ h₁ => C.rely hg h₁⟩
 | ret => exact fun todo w₁ h₁ => C.rely (this todo) h₁
 | goto l => exact this
 | panic ch => exact this
 | outgrown => exact this
theorem zb1 (C : Closed P main R D X) (T : ∀ i,Terms (R i) D) {x y : Code} {n : Nat} (refl : ∀ w,R vs w w) (h : x.wpC P main (R vs) D fn n (Exit.then (fun a' w' => wpX X fn y vs Q a' w') (fun e a' w' => Q vs e a' w')) a w) : wpX X fn (.seq x y) vs Q a w := by
 refine zf6 C T (wpX_of_wpC C refl (n := n) ?_)
 refine wpC_mono h fun e a' w' q => ?_
 cases e <;> exact q
theorem zl4 {o : Oper} {x : Operand} {f : FuncId} {f₀ : Func} {first cap : Array Value} {args : Array Operand} {ats : Array TypeId} (hop : o.op = .call { callee := .value x,args,argTypes := ats }) (hx : a.eval x = .func (.func f) first cap)
  (hf : P.funcs[f]? = some f₀) (hname : (f₀.name == "runtime.NumGoroutine") = false) (hb : f₀.body.isNone = false) :
  (execOp a.eval o).run P w = .ok (.enter f (first ++ args.map a.eval ++ cap)) w ∧ (execOp a.eval o).events P w #[] = #[] := by
 have h1 : ¬ f₀.name = "runtime.NumGoroutine" := by simpa using hname
 have h2 : ¬ f₀.body = none := by cases hx : f₀.body <;> simp_all
 constructor
 iterate 2
  ·
   unfold execOp
   simp [hop,resolve,Deferred.ofValue,hx,invoke,callFunc,hf,h1,h2]
theorem opsX_call (C : Closed P main R D X) (T : ∀ i,Terms (R i) D) {ops : Array Oper} {i : Nat} {rest : List Nat} {o : Oper} {x : Operand} {f : FuncId} {f₀ : Func} {c : Code} {first cap : Array Value} {args : Array Operand} {ats : Array TypeId}
  (ho : ops[i]? = some o) (hw : Region.wanted o (yielded ops a.tmps) = true) (hop : o.op = .call { callee := .value x,args,argTypes := ats }) (hx : a.eval x = .func (.func f) first cap)
  (hf : P.funcs[f]? = some f₀) (hname : (f₀.name == "runtime.NumGoroutine") = false) (hb : f₀.body = some c)
  (h : wpX X f c vs (fun vs' e a' w' => (e = .normal ∨ e = .ret) ∧ a'.defers = [] ∧ ∃ v,ResultsC P f₀ a'.tmps v ∧ OpsX X fn ops rest vs' Q (a.put o.dst v) w')
   { tmps := (first ++ args.map a.eval ++ cap) ++ Array.replicate (f₀.ntmps - (first ++ args.map a.eval ++ cap).size) undef,defers := [] } w) : OpsX X fn ops (i :: rest) vs Q a w := by
 intro b k cs hb' hk hc
 have hbn : f₀.body.isNone = false := by rw [hb]; rfl
 have hfin : ∀ v,(b.at a (.inRegion ops (i :: rest) :: k)).finish v = b.at (a.put o.dst v) (.inRegion ops rest :: k) := fun v => by rw [Frame.finish_at,ho]; rfl
 have hleave : ∀ (vs' : ι) (a' : Act) (w' : World) (todo : List Item),(a'.defers = [] ∧ ∃ v,ResultsC P f₀ a'.tmps v ∧ OpsX X fn ops rest vs' Q (a.put o.dst v) w') →
   X vs' (G { (base f).at a' todo with mode := .returning } (b.at a (.inRegion ops (i :: rest) :: k) :: cs)) w' := by
  rintro vs' a' w' todo ⟨hd,v,hr,hp⟩
  refine C.step rfl fun w₁ h₁ => ?_
  rw [stepG_leave (b := base f) rfl hd hf (hr w₁).1 (hr w₁).2,hfin]
  exact ⟨(T vs').idle _,C.rely (hp b k cs hb' hk hc) h₁⟩
 refine C.step rfl fun w₁ h₁ => ?_
 obtain ⟨hr,he⟩ := zl4 (P := P) (w := w₁) hop hx hf hname hbn
 rw [stepG_enter ho hw hk hr,enter_at _ hf hb]
 have hl : listed P b.fn a o w₁ = #[] := listed_nil he
 rw [hl]
 refine ⟨(T vs).idle _,C.rely (h (base f) [] _ rfl (by simp [base]) fun vs' e a' w' q => ?_) h₁⟩
 obtain ⟨he',q⟩ := q
 rcases he' with rfl | rfl
 ·
  exact C.step rfl fun w₂ h₂ => by rw [stepG_end]; exact ⟨(T vs').idle _,C.rely (hleave vs' a' w' [] q) h₂⟩
 ·
  exact fun todo => hleave vs' a' w' todo q
def zj8 (P : Program) (X : ι → Goroutine → World → Prop) (f : FuncId) (args : Array Value) (vs : ι) (w : World) (Post : ι → Value → World → Prop) : Prop :=
 ∃ f₀ c, P.funcs[f]? = some f₀ ∧ (f₀.name == "runtime.NumGoroutine") = false ∧ f₀.body = some c ∧
  wpX X f c vs (fun vs' e a' w' => (e = .normal ∨ e = .ret) ∧ a'.defers = [] ∧ ∃ v,ResultsC P f₀ a'.tmps v ∧ Post vs' v w') { tmps := args ++ Array.replicate (f₀.ntmps - args.size) undef,defers := [] } w
theorem zf5 {f : FuncId} {f₀ : Func} {c : Code} {args : Array Value} {Post : ι → Value → World → Prop} (hf : P.funcs[f]? = some f₀) (hname : (f₀.name == "runtime.NumGoroutine") = false) (hb : f₀.body = some c)
  (h : wpX X f c vs (fun vs' e a' w' => (e = .normal ∨ e = .ret) ∧ a'.defers = [] ∧ ∃ v,ResultsC P f₀ a'.tmps v ∧ Post vs' v w') { tmps := args ++ Array.replicate (f₀.ntmps - args.size) undef,defers := [] } w) : zj8 P X f args vs w Post := ⟨f₀,c,hf,hname,hb,h⟩
theorem zb4 (C : Closed P main R D X) (T : ∀ i,Terms (R i) D) {ops : Array Oper} {i : Nat} {rest : List Nat} {o : Oper} {x : Operand} {f : FuncId} {first cap args' : Array Value} {args : Array Operand} {ats : Array TypeId} {vs₀ : ι} {Post : ι → Value → World → Prop}
  (ho : ops[i]? = some o) (hw : Region.wanted o (yielded ops a.tmps) = true) (hop : o.op = .call { callee := .value x,args,argTypes := ats }) (hx : a.eval x = .func (.func f) first cap)
  (hargs : first ++ args.map a.eval ++ cap = args') (hvs : vs = vs₀)
  (hcall : zj8 P X f args' vs₀ w Post) (hnext : ∀ vs' v w',Post vs' v w' → OpsX X fn ops rest vs' Q (a.put o.dst v) w') : OpsX X fn ops (i :: rest) vs Q a w := by
 subst hargs hvs
 obtain ⟨f₀,c,hf,hn,hb,h⟩ := hcall
 refine opsX_call C T ho hw hop hx hf hn hb (wpX_mono h fun vs' e a' w' q => ?_)
 obtain ⟨h1,h2,v,h3,h4⟩ := q
 exact ⟨h1,h2,v,h3,hnext vs' v w' h4⟩
theorem opsX_of_opC (C : Closed P main R D X) (T : ∀ i,Terms (R i) D) {ops : Array Oper} {i : Nat} {rest : List Nat} (h : OpC P (R vs) D fn ops i (fun a' w' => OpsX X fn ops rest vs Q a' w') a w) : OpsX X fn ops (i :: rest) vs Q a w := by
 unfold OpC at h
 split at h
 ·
  exact h.elim
 ·
  rename_i o ho
  split at h
  ·
   rename_i hw
   exact za4 C ho hw fun w₁ h₁ K hK => uponK_mono (fun a' w' x => hK a' w' x) (h w₁ h₁)
  ·
   rename_i hw
   exact opsX_unwanted C T ho (by simpa using hw) h
theorem go_nil {ops : Array Oper} {listed : Array Bool} (h : Region.ready .any ops listed = []) : ∀ fuel t,Region.linearise.go .any ops fuel t listed [] = []
 | 0,_ => rfl
 | fuel + 1,t => by
  simp only [Region.linearise.go]
  change (match (Region.ready .any ops listed)[t % (Region.ready .any ops listed).length]? with
   | some i => Region.linearise.go .any ops fuel (t / (Region.ready .any ops listed).length) (listed.setIfInBounds i true) [i]
   | none => [].reverse) = []
  rw [h]
  rfl
theorem go_cons {ops : Array Oper} {listed : Array Bool} {i : Nat} {fuel t : Nat} (h : (Region.ready .any ops listed)[t % (Region.ready .any ops listed).length]? = some i) :
  Region.linearise.go .any ops (fuel + 1) t listed [] = i :: Region.linearise.go .any ops fuel (t / (Region.ready .any ops listed).length) (listed.setIfInBounds i true) [] := by
 simp only [Region.linearise.go]
 change (match (Region.ready .any ops listed)[t % (Region.ready .any ops listed).length]? with
   | some i => Region.linearise.go .any ops fuel (t / (Region.ready .any ops listed).length) (listed.setIfInBounds i true) [i]
   | none => [].reverse) = _
 rw [h]
 simp only []
 rw [linearise_go_acc,List.reverse_singleton,List.singleton_append]
theorem wpX_region_last (C : Closed P main R D X) (T : ∀ i,Terms (R i) D) {id n : Nat} {ops : Array Oper} {S : World → Prop} {K : Act → World → Prop} (hd : LetsDraw D) (hm : P.follows .mixedOrders = true) (hn : ops.size = n + 1)
  (dn : Array Bool → Bool) (hdn0 : dn (Array.replicate (n + 1) false) = true) (hdn : ∀ listed : Array Bool,listed.size = n + 1 → listed[n]? = some false → dn listed = true → ∀ i ∈ Region.ready .any ops (listed.setIfInBounds n true),dn (listed.setIfInBounds i true) = true)
  (hord : ∀ listed : Array Bool,listed.size = n + 1 → listed[n]? = some false → dn listed = true → Region.ready .any ops listed = if Region.ready .any ops (listed.setIfInBounds n true) = [] then [n] else Region.ready .any ops (listed.setIfInBounds n true))
  (h : ∀ w₁,R vs w w₁ → AnyCH P (R vs) D fn .any ops (fun e a' w' => e = .normal ∧ K a' w') S n ((Array.replicate (n + 1) false).setIfInBounds n true) a { w₁ with drawn := w₁.drawn + 1 })
  (hlast : ∀ a' w',K a' w' → OpsX X fn ops [n] vs Q a' w') : wpX X fn (.region id ops true) vs Q a w := by
 have key : ∀ (fuel t : Nat) (listed : Array Bool) (a : Act) (w : World),listed.size = n + 1 → listed[n]? = some false → dn listed = true → AnyCH P (R vs) D fn .any ops (fun e a' w' => e = .normal ∧ K a' w') S fuel (listed.setIfInBounds n true) a w →
   OpsX X fn ops (Region.linearise.go .any ops (fuel + 1) t listed []) vs Q a w := by
  intro fuel
  induction fuel with
  | zero =>
   intro t listed a w hs hl hdl hA
   have hr : Region.ready .any ops listed = [n] := by rw [hord listed hs hl hdl,if_pos hA.1]
   rw [go_cons (i := n) (by rw [hr]; simp [Nat.mod_one]),go_nil hA.1]
   exact hlast a w hA.2.2
  | succ fuel ih =>
   intro t listed a w hs hl hdl hA
   by_cases he : Region.ready .any ops (listed.setIfInBounds n true) = []
   ·
    have hr : Region.ready .any ops listed = [n] := by rw [hord listed hs hl hdl,if_pos he]
    rw [go_cons (i := n) (by rw [hr]; simp [Nat.mod_one]),go_nil he]
    exact hlast a w (hA.1 he).2
   ·
    have hr : Region.ready .any ops listed = Region.ready .any ops (listed.setIfInBounds n true) := by rw [hord listed hs hl hdl,if_neg he]
    have hpos : 0 < (Region.ready .any ops listed).length := by
     rw [hr]; exact List.length_pos_iff.2 he
    obtain ⟨i,hi⟩ : ∃ i,(Region.ready .any ops listed)[t % (Region.ready .any ops listed).length]? = some i := ⟨_,List.getElem?_eq_getElem (Nat.mod_lt _ hpos)⟩
    have hmem : i ∈ Region.ready .any ops (listed.setIfInBounds n true) := by rw [← hr]; exact List.mem_of_getElem? hi
    have hin : i ≠ n := by
     rintro rfl
     have h0 := (mem_ready.1 hmem).1
     rw [Array.getD_eq_getD_getElem?,Array.getElem?_setIfInBounds_self_of_lt (by omega)] at h0
     simp at h0
    rw [go_cons hi]
    refine opsX_of_opC C T (OpC_mono (fun a' w' x => ih _ _ a' w' (by simpa using hs) (by rw [Array.getElem?_setIfInBounds_ne hin]; exact hl) (hdn listed hs hl hdl i hmem) ?_) (hA.2 i hmem))
    rw [Array.setIfInBounds_comm _ _ hin]
    exact x.2
 intro b k cs hb hk hc
 refine C.step rfl fun w₁ h₁ => ?_
 rw [stepG_region_draw]
 refine ⟨hd _,?_⟩
 simp only [Region.schedule,hm,Bool.true_or,if_true]
 have hk' := key n (w₁.tape w₁.drawn (.order b.fn id)) (Array.replicate (n + 1) false) a { w₁ with drawn := w₁.drawn + 1 } (by simp) (by simp) hdn0 (h w₁ h₁) b k cs hb hk hc
 have e : Region.linearise .any ops (w₁.tape w₁.drawn (.order b.fn id)) = Region.linearise.go .any ops (n + 1) (w₁.tape w₁.drawn (.order b.fn id)) (Array.replicate (n + 1) false) [] := by
  unfold Region.linearise
  rw [hn]
 rw [e]
 exact hk'
end
theorem szR : (∀ {α : Type} (l : List α),l.toArray.size = l.length) ∧ (∀ {α : Type} (a : α) (l : List α),(a :: l).length = l.length + 1) ∧ (∀ {α : Type},([] : List α).length = 0) ∧ (∀ n : Nat,0 + n = n) ∧ (∀ n,List.range n = List.range.loop n []) ∧ (∀ acc,List.range.loop 0 acc = acc) ∧ (∀ n acc,List.range.loop (n + 1) acc = List.range.loop n (n :: acc)) := ⟨fun _ => rfl,fun _ _ => rfl,rfl,Nat.zero_add,fun _ => rfl,fun _ => rfl,fun _ _ => rfl⟩
theorem bolL : (∀ {p : Prop} [Decidable p],(decide p = true) = p) ∧ (∀ {p : Prop} [Decidable p],decide p = false ↔ ¬ p) ∧ (∀ a b : Bool,((a && b) = true) = (a = true ∧ b = true)) ∧ (∀ a b : Bool,((a || b) = true) = (a = true ∨ b = true)) ∧ (∀ {a b : Bool},(a && b) = false ↔ a = false ∨ b = false) ∧ (∀ {a b : Bool},(a || b) = false ↔ a = false ∧ b = false) ∧ (∀ {b : Bool},(!b) = true ↔ b = false) ∧ (∀ {b : Bool},(!b) = false ↔ b = true) ∧ (∀ {a b : Int}, ¬ a ≤ b ↔ b < a) ∧ (∀ {a b : Int}, ¬ a < b ↔ b ≤ a) ∧ (∀ {α : Type} (a b : α),(a ≠ b) = ¬ (a = b)) := ⟨decide_eq_true_eq,decide_eq_false_iff_not,Bool.and_eq_true,Bool.or_eq_true,by simp,by simp,by simp,by simp,Int.not_le,Int.not_lt,fun _ _ => rfl⟩
end
section
open Go.Conc
open Go.ConcN (sumTo upd sumTo_upd upd_ne upd_same)
def Ends (P : Program) (Post : Value → World → Prop) (M : Machine) (t : Trace) : Prop :=
 ∃ N last o w' t',runNT P (N + 1) M t = (.ended o w',t') ∧ runN P N M = .next last ∧ step P last = .ended o w' ∧ Good P Post last o w' t'
theorem Ends.step {P : Program} {Post : Value → World → Prop} {M M' : Machine} {t : Trace} {ops : Array MemOp} (h : stepT P M = (.next M',ops)) (h' : Ends P Post M' (t ++ ops)) : Ends P Post M t := by
 obtain ⟨N,last,o,w',t',h1,h2,h3,h4⟩ := h'
 refine ⟨N + 1,last,o,w',t',?_,?_,h3,h4⟩
 ·
  rw [runNT]; simp only [h]; exact h1
 ·
  rw [runN]; simp only [Go.step,h]; exact h2
theorem Ends.runs {P : Program} {Post : Value → World → Prop} {M' : Machine} {t' : Trace} (h' : Ends P Post M' t') : ∀ (N : Nat) (M : Machine) (t : Trace),runNT P N M t = (.next M',t') → Ends P Post M t
 | 0,M,t,h => by
  simp only [runNT,Prod.mk.injEq,Stepped.next.injEq] at h
  obtain ⟨rfl,rfl⟩ := h
  exact h'
 | N + 1,M,t,h => by
  rw [runNT] at h
  cases e : stepT P M with
  | mk s ops =>
   rw [e] at h
   cases s with
   | next m => exact Ends.step e (Ends.runs h' N m (t ++ ops) h)
   | _ => simp at h
structure Fr (P : Program) (Shun : Loc → Prop) (d : Nat) (gs : Array Goroutine) (a : Goroutine) (t : Trace) (q : Nat → Nat) : Prop where
 h0 : gs[0]? = some a
 old : Leavers P t gs q
 clean : ∀ said, ¬ Race said t
 known : ∀ i x,touchAt t i = some x → x.loc.isMemory = true → Knows t 0 i ∨ (Shun x.loc ∧ x.kind = .atomic)
 over : t.HandedOver
 deaf : Deaf t 0 = d
theorem Fr.past {P : Program} {Shun : Loc → Prop} {gs : Array Goroutine} {a : Goroutine} {t : Trace} {q : Nat → Nat} (h : Fr P Shun 0 gs a t q) (B : Nat) : ∃ B',B ≤ B' ∧ Past Shun B' t := by
 obtain ⟨B',h1,h2⟩ := trace_low t B
 exact ⟨B',h1,h.clean,h.known,h.over,h.deaf,h2⟩
def Shunned (Ok : Nat → Prop) (N : Nat) (Shun : Loc → Prop) : Prop := ∀ l,Shun l → ∃ ad : Addr,l = .cell ad ∧ ad.block < N ∧ ¬ Ok ad.block
def Z (P : Program) (Post : Value → World → Prop) (Ok : Nat → Prop) (N d : Nat) (g : Goroutine) (w : World) : Prop :=
 ∀ (e : Nat) (Shun : Loc → Prop) (gs : Array Goroutine) (q : Nat → Nat) (t : Trace) (sl : Option (Nat × Nat)),Shunned Ok N Shun → Fr P Shun d gs g t q → Ends P Post (crowd gs (w.at e) sl) t
def EvLo (Ok : Nat → Prop) (N : Nat) (e : Event) : Prop := (∀ x,(MemAct.ofEvent e).touch? = some x → ∀ ad : Addr,x.loc = .cell ad → Ok ad.block ∨ N ≤ ad.block) ∧ e.loc ≠ .mark .disable ∧ e.loc ≠ .mark .enable
def DL (Ok : Nat → Prop) (N : Nat) (_ _ : World) (es : Array Event) : Prop := ∀ e ∈ es,EvLo Ok N e
section
variable {P : Program} {Post : Value → World → Prop} {Ok Ok' : Nat → Prop} {N N' d d' : Nat} {g g' : Goroutine} {w w' : World}
theorem Fr.awake {Shun : Loc → Prop} {gs : Array Goroutine} {t : Trace} {q : Nat → Nat} (h : Fr P Shun d gs g t q) (hs : g.status = .running) : ∀ x ∈ gs,Conc.awake x := by
 intro x hx
 obtain ⟨i,hi,rfl⟩ := Array.mem_iff_getElem.1 hx
 rcases Nat.eq_zero_or_pos i with rfl | hp
 ·
  have : gs[0] = g := by simpa [Array.getElem?_eq_getElem hi] using h.h0
  rw [this]; exact awake_of (.inl hs)
 ·
  exact awake_of ((h.old.old i _ hp (Array.getElem?_eq_getElem hi)).status.elim .inl fun z => .inr (.inr z))
theorem Fr.own {Shun : Loc → Prop} {gs : Array Goroutine} {t : Trace} {q : Nat → Nat} {es : Array Event} (h : Fr P Shun d gs g t q) (hes : ∀ e ∈ es, ∀ x,(MemAct.ofEvent e).touch? = some x → Shun x.loc → x.kind ≠ .plain) (hd : deafBehind d es = d') :
  Fr P Shun d' ((gs.map (Conc.woken P g g' w')).setIfInBounds 0 g') g' (t ++ MemOp.ofEvents 0 g.frame.fn g.frame.place es) q := by
 have hlt : 0 < gs.size := (Array.getElem?_eq_some_iff.1 h.h0).1
 have hg0 : ∀ op ∈ MemOp.ofEvents 0 g.frame.fn g.frame.place es,op.g = 0 := ops_g
 refine ⟨by simp [hlt],h.old.own hlt _ _ es,fun said => noRace_append (h.clean said) hg0 fun i x hx op hop b hb hc => ?_,fun i x hx hm => ?_,handedOver_app h.over fun op hop => .inl (hg0 op hop),?_⟩
 ·
  rcases h.known i x hx hc.2.1 with hk | ⟨hsh,hat⟩
  ·
   exact hk
  ·
   obtain ⟨e,he,rfl⟩ := Conc.mem_ofEvents hop
   have hnp := hes e he b hb (hc.1 ▸ hsh)
   rcases hc.2.2.2 with z | z | ⟨_,z,_⟩
   ·
    rw [hat] at z; cases z
   ·
    exact absurd z hnp
   ·
    rw [hat] at z; cases z
 ·
  obtain ⟨y,hy,hya⟩ := touch_of hx
  rcases getElem?_append_cases hy with ⟨_,hy'⟩ | ⟨_,hyu⟩
  ·
   exact (h.known i x (by rw [touchAt_of hy']; exact hya) hm).imp (·.app _) id
  ·
   have := knows_own hy
   rw [hg0 y hyu] at this
   exact .inl this
 ·
  rw [Deaf_own,h.deaf]; exact hd
theorem Fr.slip {Shun : Loc → Prop} {gs : Array Goroutine} {t : Trace} {q : Nat → Nat} {i : Nat} {x : Goroutine} {sl : Option (Nat × Nat)} (h : Fr P Shun d gs g t q) (hs : g.status = .running) (hi : gs[i]? = some x) (hi0 : i ≠ 0) (hx : x.status = .running) :
  ∃ gs' ops q',runT P (crowd gs w sl) i = (.next (crowd gs' w sl),ops) ∧ gs'.size = gs.size ∧ Fr P Shun d gs' g (t ++ ops) q' ∧ sumTo gs'.size q' < sumTo gs.size q := by
 have hlt : i < gs.size := (Array.getElem?_eq_some_iff.1 hi).1
 have hq := h.old.old i x (by omega) hi
 have hb : (i == 0) = false := by simp [hi0]
 cases hqi : q i with
 | zero => rw [hqi] at hq; rw [hq.1] at hx; cases hx
 | succ k =>
  rw [hqi] at hq
  rcases hq with ⟨hf,_⟩ | ⟨_,x',es,hm,hstp,hq'⟩
  ·
   rw [hf] at hx; cases hx
  have hgi : ∀ op ∈ MemOp.ofEvents i x.frame.fn x.frame.place es,op.g = i := ops_g
  have hmt : ∀ op ∈ MemOp.ofEvents i x.frame.fn x.frame.place es,op.act.touch? = none := fun op hop => by obtain ⟨e,he,rfl⟩ := Conc.mem_ofEvents hop; exact touch_mute (hm e he)
  refine ⟨_,_,upd q i k,runT_crowd_go (P := P) (sl := sl) (i := i) hi (by rw [hb]; exact hstp w),by simp,⟨?_,⟨fun j z hj hz => ?_,fun j hj => ?_⟩,fun said => noRace_append (h.clean said) hgi fun i' a _ op hop b hb' _ => (by rw [hmt op hop] at hb'; cases hb'),fun i' a ha hm' => ?_,handedOver_app h.over fun op hop => .inr (hmt op hop),?_⟩,?_⟩
  ·
   rw [Array.getElem?_setIfInBounds_ne hi0,Array.getElem?_map,h.h0]
   simp [woken_run hs]
  ·
   by_cases e : i = j
   ·
    subst e
    rw [Array.getElem?_setIfInBounds_self_of_lt (by simpa using hlt)] at hz
    obtain rfl := Option.some.inj hz
    rw [upd_same,Deaf_own]
    exact hq'
   ·
    rw [Array.getElem?_setIfInBounds_ne e,Array.getElem?_map] at hz
    obtain ⟨z',hz',rfl⟩ := Option.map_eq_some_iff.1 hz
    have hqj := h.old.old j z' hj hz'
    rw [woken_quitsD hqj,upd_ne q k (Ne.symm e),Deaf_other t e _ hgi]
    exact hqj
  ·
   have hj' : gs.size ≤ j := by simpa using hj
   rw [Deaf_other t (g' := i) (by omega) _ hgi]
   exact h.old.above j hj'
  ·
   obtain ⟨y,hy,hya⟩ := touch_of ha
   rcases getElem?_append_cases hy with ⟨_,hy'⟩ | ⟨_,hyu⟩
   ·
    exact (h.known i' a (by rw [touchAt_of hy']; exact hya) hm').imp (·.app _) id
   ·
    rw [hmt y hyu] at hya; cases hya
  ·
   rw [Deaf_other t hi0 _ hgi]; exact h.deaf
  ·
   have h2 : sumTo gs.size (upd q i k) + (k + 1) = sumTo gs.size q + k := by
    have := sumTo_upd q k id hlt
    simpa [hqi] using this
   have h3 : ((gs.map (Conc.woken P x x' w)).setIfInBounds i x').size = gs.size := by simp
   rw [h3]
   omega
theorem Z.pick (hs : g.status = .running)
  (h : ∀ (e : Nat) (Shun : Loc → Prop) (gs : Array Goroutine) (q : Nat → Nat) (t : Trace) (sl : Option (Nat × Nat)),Shunned Ok N Shun → Fr P Shun d gs g t q → ∃ M' ops,runT P (crowd gs (w.at e) sl) 0 = (.next M',ops) ∧ Ends P Post M' (t ++ ops)) : Z P Post Ok N d g w := by
 have key : ∀ (n : Nat) (e : Nat) (Shun : Loc → Prop) (gs : Array Goroutine) (q : Nat → Nat) (t : Trace) (sl : Option (Nat × Nat)),sumTo gs.size q = n → Shunned Ok N Shun → Fr P Shun d gs g t q → Ends P Post (crowd gs (w.at e) sl) t := by
  intro n
  induction n using Nat.strongRecOn with
  | _ n ih =>
   rintro e Shun gs q t sl rfl hS hF
   obtain ⟨i,x,e',sl',hi,hx,hst⟩ := crowd_pick (P := P) (w := w.at e) (sl := sl) (hF.awake hs) ⟨0,g,hF.h0,hs⟩
   have ee : (w.at e).at e' = w.at e' := rfl
   rw [ee] at hst
   by_cases hi0 : i = 0
   ·
    subst hi0
    obtain ⟨M',ops,h1,h2⟩ := h e' Shun gs q t sl' hS hF
    exact Ends.step (hst.trans h1) h2
   ·
    obtain ⟨gs',ops,q',h1,_,h3,h4⟩ := hF.slip (w := w.at e') (sl := sl') hs hi hi0 hx
    exact Ends.step (hst.trans h1) (ih _ h4 e' Shun gs' q' _ sl' rfl hS h3)
 exact fun e Shun gs q t sl hS hF => key _ e Shun gs q t sl rfl hS hF
theorem Z.closed : Closed P true (fun _ : Unit => AtRel) (DL Ok N) (fun _ => Z P Post Ok N d) where
 rely := by
  rintro _ g w _ h ⟨e,rfl⟩ e' Shun gs q t sl hS hF
  exact h e' Shun gs q t sl hS hF
 step := by
  intro _ g w hs h
  refine Z.pick hs fun e Shun gs q t sl hS hF => ?_
  have hw := h (w.at e) ⟨e,rfl⟩
  cases eq : stepG P true g (w.at e) with
  | go g' w' es =>
   rw [eq,goes_go] at hw
   obtain ⟨hd,hz⟩ := hw
   refine ⟨_,_,runT_crowd_go (P := P) (sl := sl) (i := 0) hF.h0 (show stepG P (0 == 0) g (w.at e) = _ from eq),?_⟩
   exact hz w'.drawn Shun _ q _ sl hS (hF.own (fun ev he x hx hsh => by
    obtain ⟨ad,e1,e2,e3⟩ := hS _ hsh
    rcases (hd ev he).1 x hx ad e1 with z | z
    ·
     exact absurd z e3
    ·
     omega) (deafBehind_still (fun ev he => ⟨(hd ev he).2.1,(hd ev he).2.2⟩) _))
  | _ => rw [eq] at hw; exact hw.elim
theorem Z.done {v : Value} (hs : g.status = .running) (hend : ∀ e,stepG P true g (w.at e) = .ended (.done v) (w.at e) #[]) (hp : ∀ e,Post v (w.at e)) : Z P Post Ok N 0 g w := by
 intro e Shun gs q t sl hS hF
 obtain ⟨B,_,hP⟩ := hF.past 0
 exact beside_ends (P := P) (Shun := Shun) (B := B) (D := fun _ _ es => es = #[]) (n := 0) (sl := sl) (fun _ _ es h ev he => by rw [h] at he; simp at he) hF.h0 hF.old hP (fun w₁ h₁ => by
  obtain ⟨e',rfl⟩ := h₁
  exact ⟨hs,v,#[],hend e',by simp,hp e'⟩)
structure Forked (P : Program) (Post : Value → World → Prop) (Shun : Loc → Prop) (g' child : Goroutine) (w : World) (K : Cfg) (I1 : Go.ConcX.Payload) (I2 : Go.ConcR.Payload) (I3 : Go.ConcX.Shy K.Wg K.C) (AnchW : Goroutine → World → Prop) (Post' : Value → World → Prop) (vs : List Value) (Ok' : Nat → Prop) (N' : Nat) : Prop where
 prog : K.P = P
 fit : K.Fit
 ety : I1.ety = I2.ety
 shy : ShyOk K
 ar : ∀ g w,AnchW g w → g.status = .running
 an : ∀ L,K.N0 ≤ L → ∀ g w,AnchW g w → ∃ m,Goes K.P true (RPak K) (DPik K L) (AtW1k K L AnchW Post') m g w
 sh1 : ∀ l,Shun l → K.Shun l
 sh2 : Shunned Ok' N' K.Shun
 kid : Way K.P false (RC K) (DK K) (sendOf K vs) child w
 main : Way K.P true (RM K) (DM K) (selOf K AnchW vs) g' w
 size : K.N0 ≤ w.heap.size
 wg : K.wgIs w KK 0
 chA : w.heap[K.A]? = some (.chan 0 #[] false 0 0 false)
 chE : w.heap[K.E]? = some (.chan 0 #[] false 0 0 false)
 pay : Go.ConcN.PayAt K.C 1 w
 stop : ∀ a w,I3.stop a w → Z P Post Ok' N' 0 a w
theorem Z.fork {child : Goroutine} (hs : g.status = .running) (hsp : ∀ e,stepG P true g (w.at e) = .spawn g' child (w.at e) #[])
  (h : ∀ (e : Nat) (Shun : Loc → Prop),Shunned Ok N Shun → ∃ K I1 I2 I3 AnchW Post' vs Ok' N',Forked P Post Shun g' child (w.at e) K I1 I2 I3 AnchW Post' vs Ok' N') : Z P Post Ok N 0 g w := by
 refine Z.pick hs fun e Shun gs q t sl hS hF => ?_
 obtain ⟨K,I1,I2,I3,AnchW,Post',vs,Ok',N',X⟩ := h e Shun hS
 obtain rfl := X.prog
 have hlt : 0 < gs.size := (Array.getElem?_eq_some_iff.1 hF.h0).1
 obtain ⟨B,_,hP⟩ := hF.past 0
 refine ⟨_,_,runT_crowd_spawn (P := K.P) (sl := sl) (i := 0) hF.h0 (show stepG K.P (0 == 0) g (w.at e) = _ from hsp e),?_⟩
 have hops : ((MemOp.ofEvents 0 g.frame.fn g.frame.place #[]).push { g := 0,fn := g.frame.fn,pos := g.frame.place,act := .go gs.size }).push { g := gs.size,fn := child.frame.fn,pos := g.frame.place,act := .start }
   = #[{ g := 0,fn := g.frame.fn,pos := g.frame.place,act := .go gs.size }, { g := gs.size,fn := child.frame.fn,pos := g.frame.place,act := .start }] := rfl
 rw [hops]
 have hquiet : ∀ j, ∀ op ∈ (#[{ g := 0,fn := g.frame.fn,pos := g.frame.place,act := .go gs.size }, { g := gs.size,fn := child.frame.fn,pos := g.frame.place,act := .start }] : Trace), ∀ d,deafStep j d op = d := by
  intro j op hop d
  simp only [List.mem_toArray,List.mem_cons,List.not_mem_nil,or_false] at hop
  rcases hop with rfl | rfl <;> rfl
 obtain ⟨τc,hτc⟩ := X.kid
 obtain ⟨τm,hτm⟩ := X.main
 have hJ : J K 0 AnchW Post' (K.Kid (w.at e)) gs.size (.fresh vs) (.front vs) τc τm ((gs.setIfInBounds 0 g').push child) g' child (w.at e) (t ++ #[{ g := 0,fn := g.frame.fn,pos := g.frame.place,act := .go gs.size }, { g := gs.size,fn := child.frame.fn,pos := g.frame.place,act := .start }]) q := by
  refine ⟨hlt,?_,?_,fun i z hi hic hz => ?_,fun j hj => ?_,hτc,hτm,⟨KK,0,⟨rfl,rfl,rfl⟩,X.wg⟩,⟨0,X.chA⟩,X.chE,X.pay,fun z => (by cases z),fun _ _ => Iff.rfl,fun _ hb => .inl hb,⟨_,fun _ hb => hb⟩,fun _ => X.size,(fun z => by cases z),fun _ i z hz => ?_,?_,?_,?_⟩
  ·
   rw [Array.getElem?_push_lt (by simpa using hlt)]; simp
  ·
   have e1 : gs.size = (gs.setIfInBounds 0 g').size := by simp
   conv => lhs; rw [e1]
   exact Array.getElem?_push_size
  ·
   rw [Deaf_quiet (hquiet i)]
   rw [Array.getElem?_push,if_neg (by simp; omega),Array.getElem?_setIfInBounds_ne (by omega)] at hz
   exact hF.old.old i z hi hz
  ·
   rw [Deaf_quiet (hquiet j)]
   exact hF.old.above j (by simp at hj; omega)
  ·
   have hPT := PT.fork (Kid := fun _ => True) (Still := fun _ => False) hP (hF.old.above _ (Nat.le_refl _)) X.sh1 g.frame.fn child.frame.fn g.frame.place
   cases hl : z.loc with
   | cell ad =>
    rcases hPT.known i z hz (by rw [hl]; rfl) with k | k
    ·
     exact .inr (.inr (by rw [← hl]; exact k))
    ·
     exact .inr (.inl (k.kid trivial))
   | obj ob =>
    rcases hPT.known i z hz (by rw [hl]; rfl) with k | k
    ·
     exact .inr (.inr (by rw [← hl]; exact k))
    ·
     exact .inr (.inl (k.kid trivial))
   | _ => exact .inl ⟨fun ad e => (by cases e),fun ad e => (by cases e)⟩
  ·
   exact PT.fork hP (hF.old.above _ (Nat.le_refl _)) X.sh1 _ _ _
  ·
   rw [Deaf_quiet (hquiet 0)]; exact hF.deaf
  ·
   rw [Deaf_quiet (hquiet gs.size)]; exact hF.old.above _ (Nat.le_refl _)
 obtain ⟨n,M,T,hr,gs2,a2,w2,sl2,q2,B2,m2,L2,rfl,_,h02,hL2,hP2,hB2,hG2⟩ := pair_runs X.fit X.ety X.ar X.shy X.an _ _ _ _ _ _ _ _ _ _ _ _ q sl rfl hJ
 refine Ends.runs ?_ n _ _ hr
 obtain ⟨n3,gs3,a3,w3,sl3,T3,q3,hr3,_,h03,hS3,hL3,hP3⟩ := walk_beside (P := K.P) (Shun := K.Shun) (B := B2) (fun _ _ es hD ev he => by
  obtain ⟨h1,h2,h3⟩ := hD.2 ev he
  obtain ⟨_, _, _, hk⟩ := h1 0 ""
  obtain ⟨k1,k2⟩ := X.shy.ok _ hk
  refine ⟨fun x hx hsh => ?_,h2,h3,MemAct.low_mono hB2 k2⟩
  rcases k1 x hx with ⟨ad,e1,e2⟩ | k
  ·
   rw [e1] at hsh
   exact absurd hsh (X.fit.k0h ad (by rw [e2]; exact X.fit.k0C))
  ·
   obtain ⟨_,_,_,k⟩ := k; exact k) _ m2 gs2 a2 w2 sl2 T q2 (Nat.le_refl _) h02 hL2 hP2 hG2
 refine Ends.runs ?_ n3 _ _ hr3
 exact X.stop a3 w3 hS3.2 w3.drawn K.Shun gs3 q3 T3 sl3 X.sh2 ⟨h03,hL3,hP3.clean,hP3.known,hP3.over,hP3.hears⟩
end
end
end Go.Proofs.YtgcaionclkbehaaGreatDoor
