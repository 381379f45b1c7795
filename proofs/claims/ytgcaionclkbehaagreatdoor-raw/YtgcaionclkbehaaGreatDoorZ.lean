import Derived.Test.YtgcaionclkbehaaGreatDoorLone
import Derived.Conc.TokenWalk
set_option linter.all false
namespace Go.Proofs.YtgcaionclkbehaaGreatDoor
section
open Go.Conc
structure ClosedI {ι : Type} (P : Program) (main : Bool) (R : ι → World → World → Prop) (D : ι → World → World → Array Event → Prop) (X : ι → Goroutine → World → Prop) : Prop where
 rely : ∀ {vs g w w₁},X vs g w → R vs w w₁ → X vs g w₁
 step : ∀ {vs g w},g.status = .running → (∀ w₁,R vs w w₁ → (stepG P main g w₁).goes fun g' w' es => D vs w₁ w' es ∧ X vs g' w') → X vs g w
def AfterI {ι : Type} (X : ι → Goroutine → World → Prop) (vs : ι) (b : Frame) (k : List Item) (cs : List Frame) : Exit → Act → World → Prop
 | .normal,a,w => X vs (G (b.at a k) cs) w
 | .exit id,a,w => ∃ k',exitTo id k = some k' ∧ X vs (G (b.at a k') cs) w
 | .ret,a,w => ∀ todo,X vs (G { b.at a todo with mode := .returning } cs) w
 | _,_,_ => False
abbrev PostI (ι : Type) := ι → Exit → Act → World → Prop
def thenI {ι : Type} (T : ι → Act → World → Prop) (Q : PostI ι) : PostI ι
 | vs, .normal,a,w => T vs a w
 | vs,e,a,w => Q vs e a w
def zi4 {ι : Type} (id : Nat) (Q : PostI ι) : PostI ι
 | vs, .exit id',a,w => if id' = id then Q vs .normal a w else Q vs (.exit id') a w
 | vs,e,a,w => Q vs e a w
def wpI {ι : Type} (X : ι → Goroutine → World → Prop) (fn : FuncId) (c : Code) (vs : ι) (Q : PostI ι) (a : Act) (w : World) : Prop :=
 ∀ (b : Frame) (k : List Item) (cs : List Frame),b.fn = fn → b.kind ≠ .early → (∀ vs' e a' w',Q vs' e a' w' → AfterI X vs' b k cs e a' w') → X vs (G (b.at a (.code c :: k)) cs) w
def OpsI {ι : Type} (X : ι → Goroutine → World → Prop) (fn : FuncId) (ops : Array Oper) (todo : List Nat) (vs : ι) (Q : PostI ι) (a : Act) (w : World) : Prop :=
 ∀ (b : Frame) (k : List Item) (cs : List Frame),b.fn = fn → b.kind ≠ .early → (∀ vs' e a' w',Q vs' e a' w' → AfterI X vs' b k cs e a' w') → X vs (G (b.at a (.inRegion ops todo :: k)) cs) w
section
variable {ι : Type} {P : Program} {main : Bool} {R : ι → World → World → Prop} {D : ι → World → World → Array Event → Prop} {X : ι → Goroutine → World → Prop} {fn : FuncId} {Q Q' : PostI ι} {a : Act} {w : World} {vs : ι}
theorem AfterI.push {x : Item} {b : Frame} {k : List Item} {cs : List Frame} {e : Exit} (hx : x.plain = true) (he : e ≠ .normal) (h : AfterI X vs b k cs e a w) : AfterI X vs b (x :: k) cs e a w := by
 cases e with
 | normal => exact absurd rfl he
 | exit id => obtain ⟨k',hk,hg⟩ := h; exact ⟨k',by cases x <;> simp_all [exitTo,Item.plain],hg⟩
 | ret => exact h
 | goto l => exact h
 | panic ch => exact h
 | outgrown => exact h
theorem wpI_mono {c : Code} (h : wpI X fn c vs Q a w) (hq : ∀ vs e a w,Q vs e a w → Q' vs e a w) : wpI X fn c vs Q' a w := fun b k cs hb hk hc => h b k cs hb hk fun vs' e a' w' q => hc vs' e a' w' (hq vs' e a' w' q)
theorem ze0 (C : ClosedI P main R D X) (T : ∀ i,Terms (R i) (D i)) (h : Q vs .normal a w) : wpI X fn .skip vs Q a w := fun b k cs _ _ hc => C.step rfl fun w₁ h₁ => by
 rw [stepG_skip]; exact ⟨(T vs).idle _,C.rely (hc _ _ _ _ h) h₁⟩
theorem zc3 (C : ClosedI P main R D X) (T : ∀ i,Terms (R i) (D i)) (h : Q vs .ret a w) : wpI X fn .ret vs Q a w := fun b k cs _ _ hc => C.step rfl fun w₁ h₁ => by
 rw [stepG_ret']; exact ⟨(T vs).idle _,C.rely (hc _ _ _ _ h _) h₁⟩
theorem zl6 (C : ClosedI P main R D X) (T : ∀ i,Terms (R i) (D i)) {id : Nat} (h : Q vs (.exit id) a w) : wpI X fn (.exit id) vs Q a w := fun b k cs _ _ hc => by
 obtain ⟨k',hk',hg⟩ := hc _ _ _ _ h
 exact C.step rfl fun w₁ h₁ => by rw [stepG_exit hk']; exact ⟨(T vs).idle _,C.rely hg h₁⟩
theorem wpI_label (C : ClosedI P main R D X) (T : ∀ i,Terms (R i) (D i)) {l : Nat} (h : Q vs .normal a w) : wpI X fn (.label l) vs Q a w := fun b k cs _ _ hc => C.step rfl fun w₁ h₁ => by
 rw [stepG_label]; exact ⟨(T vs).idle _,C.rely (hc _ _ _ _ h) h₁⟩
theorem za5 (C : ClosedI P main R D X) (T : ∀ i,Terms (R i) (D i)) {x y : Code} (h : wpI X fn x vs (thenI (fun vs' a' w' => wpI X fn y vs' Q a' w') Q) a w) : wpI X fn (.seq x y) vs Q a w := by
 intro b k cs hb hk hc
 have hx : X vs (G (b.at a (.code x :: .code y :: k)) cs) w := by
  refine h b (.code y :: k) cs hb hk fun vs' e a' w' q => ?_
  cases e with
  | normal => exact q b k cs hb hk hc
  | exit id => exact (hc _ _ _ _ q).push rfl (by simp)
  | ret => exact (hc _ _ _ _ q).push (x := .code y) rfl (by simp)
  | goto l => exact hc _ _ _ _ q
  | panic ch => exact hc _ _ _ _ q
  | outgrown => exact hc _ _ _ _ q
 exact C.step rfl fun w₁ h₁ => by rw [stepG_seq]; exact ⟨(T vs).idle _,C.rely hx h₁⟩
theorem zc0 (C : ClosedI P main R D X) (T : ∀ i,Terms (R i) (D i)) {c : Operand} {x y : Code} {t : Bool} (hc : a.eval c = .bool t) (h : wpI X fn (if t then x else y) vs Q a w) : wpI X fn (.cond c x y) vs Q a w :=
 fun b k cs hb hk hq => C.step rfl fun w₁ h₁ => by rw [stepG_cond hc]; exact ⟨(T vs).idle _,C.rely (h b k cs hb hk hq) h₁⟩
theorem ze3 (C : ClosedI P main R D X) (T : ∀ i,Terms (R i) (D i)) {id : Nat} {c : Code} (h : wpI X fn c vs (zi4 id Q) a w) : wpI X fn (.block id c) vs Q a w := by
 intro b k cs hb hk hc
 have hx : X vs (G (b.at a (.code c :: .inBlock id :: k)) cs) w := by
  refine h b (.inBlock id :: k) cs hb hk fun vs' e a' w' q => ?_
  cases e with
  | normal => exact C.step rfl fun w₁ h₁ => by rw [stepG_inBlock]; exact ⟨(T vs').idle _,C.rely (hc _ _ _ _ q) h₁⟩
  | exit id' =>
   by_cases hid : id' = id
   ·
    simp only [zi4,hid,if_true] at q
    exact ⟨k,by simp [exitTo,hid],hc _ _ _ _ q⟩
   ·
    simp only [zi4,hid,if_false] at q
    obtain ⟨k',hk',hg⟩ := hc _ _ _ _ q
    have : (id == id') = false := by simp; exact fun h => hid h.symm
    exact ⟨k',by simp [exitTo,this,hk'],hg⟩
  | ret => exact hc _ _ _ _ q
  | goto l => exact hc _ _ _ _ q
  | panic ch => exact hc _ _ _ _ q
  | outgrown => exact hc _ _ _ _ q
 exact C.step rfl fun w₁ h₁ => by rw [stepG_block]; exact ⟨(T vs).idle _,C.rely hx h₁⟩
theorem wpI_loop (C : ClosedI P main R D X) (T : ∀ i,Terms (R i) (D i)) {c : Code} (I : Nat → ι → Act → World → Prop) (n : Nat) (h₀ : I n vs a w)
  (round : ∀ n vs a w,I n vs a w → wpI X fn c vs (thenI (fun vs' a' w' => ∃ n',n' < n ∧ I n' vs' a' w') Q) a w) : wpI X fn (.loop c) vs Q a w := by
 intro b k cs hb hk hc
 have key : ∀ n vs a w,I n vs a w → X vs (G (b.at a (.code c :: .inLoop c :: k)) cs) w := by
  intro n
  induction n using Nat.strongRecOn with
  | _ n ih =>
   intro vs a w hI
   refine round n vs a w hI b (.inLoop c :: k) cs hb hk fun vs' e a' w' q => ?_
   cases e with
   | normal =>
    obtain ⟨n',hn,hI'⟩ := q
    exact C.step rfl fun w₁ h₁ => by rw [stepG_inLoop]; exact ⟨(T vs').idle _,C.rely (ih n' hn vs' a' w' hI') h₁⟩
   | exit id => exact (hc _ _ _ _ q).push rfl (by simp)
   | ret => exact (hc _ _ _ _ q).push (x := .inLoop c) rfl (by simp)
   | goto l => exact hc _ _ _ _ q
   | panic ch => exact hc _ _ _ _ q
   | outgrown => exact hc _ _ _ _ q
 exact C.step rfl fun w₁ h₁ => by rw [stepG_loop]; exact ⟨(T vs).idle _,C.rely (key n vs a w h₀) h₁⟩
theorem za2 (C : ClosedI P main R D X) (T : ∀ i,Terms (R i) (D i)) {id : Nat} {ops : Array Oper} (h : OpsI X fn ops (List.range ops.size) vs Q a w) : wpI X fn (.region id ops false) vs Q a w :=
 fun b k cs hb hk hc => C.step rfl fun w₁ h₁ => by rw [stepG_region]; exact ⟨(T vs).idle _,C.rely (h b k cs hb hk hc) h₁⟩
theorem za3 (C : ClosedI P main R D X) (T : ∀ i,Terms (R i) (D i)) {ops : Array Oper} (h : Q vs .normal a w) : OpsI X fn ops [] vs Q a w := fun b k cs _ _ hc => C.step rfl fun w₁ h₁ => by
 rw [stepG_region_end]; exact ⟨(T vs).idle _,C.rely (hc _ _ _ _ h) h₁⟩
theorem zb7 (C : ClosedI P main R D X) (T : ∀ i,Terms (R i) (D i)) {ops : Array Oper} {i : Nat} {rest : List Nat} {o : Oper} (ho : ops[i]? = some o) (hw : Region.wanted o (yielded ops a.tmps) = false) (h : OpsI X fn ops rest vs Q (a.put o.dst undef) w) : OpsI X fn ops (i :: rest) vs Q a w :=
 fun b k cs hb hk hc => C.step rfl fun w₁ h₁ => by rw [stepG_unwanted ho hw]; exact ⟨(T vs).idle _,C.rely (h b k cs hb hk hc) h₁⟩
theorem za0 (C : ClosedI P main R D X) {ops : Array Oper} {i : Nat} {rest : List Nat} {o : Oper} (ho : ops[i]? = some o) (hw : Region.wanted o (yielded ops a.tmps) = true)
  (h : ∀ w₁,R vs w w₁ → ∀ K : Act → World → Prop,(∀ a' w',D vs w₁ w' (listed P fn a o w₁) ∧ OpsI X fn ops rest vs Q a' w' → K a' w') → uponK o a K ((execOp a.eval o).run P w₁)) : OpsI X fn ops (i :: rest) vs Q a w := by
 intro b k cs hb hk hc
 refine C.step rfl fun w₁ h₁ => goes_oper ho hw hk ?_
 have := h w₁ h₁ _ fun _ _ x => x
 revert this
 cases (execOp a.eval o).run P w₁ with
 | ok x w' => cases x <;> first | exact fun ⟨d,g⟩ => ⟨hb ▸ d,g b k cs hb hk hc⟩ | exact id
 | halt _ _ => exact id
theorem opsI_call (C : ClosedI P main R D X) (T : ∀ i,Terms (R i) (D i)) {ops : Array Oper} {i : Nat} {rest : List Nat} {o : Oper} {x : Operand} {f : FuncId} {f₀ : Func} {c : Code} {first cap : Array Value} {args : Array Operand} {ats : Array TypeId}
  (ho : ops[i]? = some o) (hw : Region.wanted o (yielded ops a.tmps) = true) (hop : o.op = .call { callee := .value x,args,argTypes := ats }) (hx : a.eval x = .func (.func f) first cap)
  (hf : P.funcs[f]? = some f₀) (hname : (f₀.name == "runtime.NumGoroutine") = false) (hb : f₀.body = some c)
  (h : wpI X f c vs (fun vs' e a' w' => (e = .normal ∨ e = .ret) ∧ a'.defers = [] ∧ ∃ v,ResultsC P f₀ a'.tmps v ∧ OpsI X fn ops rest vs' Q (a.put o.dst v) w')
   { tmps := (first ++ args.map a.eval ++ cap) ++ Array.replicate (f₀.ntmps - (first ++ args.map a.eval ++ cap).size) undef,defers := [] } w) : OpsI X fn ops (i :: rest) vs Q a w := by
 intro b k cs hb' hk hc
 have hbn : f₀.body.isNone = false := by rw [hb]; rfl
 have hfin : ∀ v,(b.at a (.inRegion ops (i :: rest) :: k)).finish v = b.at (a.put o.dst v) (.inRegion ops rest :: k) := fun v => by rw [Frame.finish_at,ho]; rfl
 have hleave : ∀ (vs' : ι) (a' : Act) (w' : World) (todo : List Item),(a'.defers = [] ∧ ∃ v,ResultsC P f₀ a'.tmps v ∧ OpsI X fn ops rest vs' Q (a.put o.dst v) w') →
   X vs' (G { (base f).at a' todo with mode := .returning } (b.at a (.inRegion ops (i :: rest) :: k) :: cs)) w' := by
  rintro vs' a' w' todo ⟨hd,v,hr,hp⟩
  refine C.step rfl fun w₁ h₁ => ?_
  rw [stepG_leave (b := base f) rfl hd hf (hr w₁).1 (hr w₁).2,hfin]
  exact ⟨(T vs').idle _,C.rely (hp b k cs hb' hk hc) h₁⟩
 refine C.step rfl fun w₁ h₁ => ?_
 obtain ⟨hr,he⟩ := zl4 (P := P) (w := w₁) hop hx hf hname hbn
 rw [stepG_enter ho hw hk hr,enter_at _ hf hb]
 have hl : listed P b.fn a o w₁ = #[] := listed_nil he
 rw [hl]
 refine ⟨(T vs).idle _,C.rely (h (base f) [] _ rfl (by simp [base]) fun vs' e a' w' q => ?_) h₁⟩
 obtain ⟨he',q⟩ := q
 rcases he' with rfl | rfl
 ·
  exact C.step rfl fun w₂ h₂ => by rw [stepG_end]; exact ⟨(T vs').idle _,C.rely (hleave vs' a' w' [] q) h₂⟩
 ·
  exact fun todo => hleave vs' a' w' todo q
def CallsI (P : Program) (X : ι → Goroutine → World → Prop) (f : FuncId) (args : Array Value) (vs : ι) (w : World) (Post : ι → Value → World → Prop) : Prop :=
 ∃ f₀ c, P.funcs[f]? = some f₀ ∧ (f₀.name == "runtime.NumGoroutine") = false ∧ f₀.body = some c ∧
  wpI X f c vs (fun vs' e a' w' => (e = .normal ∨ e = .ret) ∧ a'.defers = [] ∧ ∃ v,ResultsC P f₀ a'.tmps v ∧ Post vs' v w') { tmps := args ++ Array.replicate (f₀.ntmps - args.size) undef,defers := [] } w
theorem zc2 {f : FuncId} {f₀ : Func} {c : Code} {args : Array Value} {Post : ι → Value → World → Prop} (hf : P.funcs[f]? = some f₀) (hname : (f₀.name == "runtime.NumGoroutine") = false) (hb : f₀.body = some c)
  (h : wpI X f c vs (fun vs' e a' w' => (e = .normal ∨ e = .ret) ∧ a'.defers = [] ∧ ∃ v,ResultsC P f₀ a'.tmps v ∧ Post vs' v w') { tmps := args ++ Array.replicate (f₀.ntmps - args.size) undef,defers := [] } w) : CallsI P X f args vs w Post := ⟨f₀,c,hf,hname,hb,h⟩
theorem zd6 (C : ClosedI P main R D X) (T : ∀ i,Terms (R i) (D i)) {ops : Array Oper} {i : Nat} {rest : List Nat} {o : Oper} {x : Operand} {f : FuncId} {first cap args' : Array Value} {args : Array Operand} {ats : Array TypeId} {vs₀ : ι} {Post : ι → Value → World → Prop}
  (ho : ops[i]? = some o) (hw : Region.wanted o (yielded ops a.tmps) = true) (hop : o.op = .call { callee := .value x,args,argTypes := ats }) (hx : a.eval x = .func (.func f) first cap)
  (hargs : first ++ args.map a.eval ++ cap = args') (hvs : vs = vs₀)
  (hcall : CallsI P X f args' vs₀ w Post) (hnext : ∀ vs' v w',Post vs' v w' → OpsI X fn ops rest vs' Q (a.put o.dst v) w') : OpsI X fn ops (i :: rest) vs Q a w := by
 subst hargs hvs
 obtain ⟨f₀,c,hf,hn,hb,h⟩ := hcall
 refine opsI_call C T ho hw hop hx hf hn hb (wpI_mono h fun vs' e a' w' q => ?_)
 obtain ⟨h1,h2,v,h3,h4⟩ := q
 exact ⟨h1,h2,v,h3,hnext vs' v w' h4⟩
theorem opsI_of_opC (C : ClosedI P main R D X) (T : ∀ i,Terms (R i) (D i)) {ops : Array Oper} {i : Nat} {rest : List Nat} (h : OpC P (R vs) (D vs) fn ops i (fun a' w' => OpsI X fn ops rest vs Q a' w') a w) : OpsI X fn ops (i :: rest) vs Q a w := by
 unfold OpC at h
 split at h
 ·
  exact h.elim
 ·
  rename_i o ho
  split at h
  ·
   rename_i hw
   exact za0 C ho hw fun w₁ h₁ K hK => uponK_mono (fun a' w' x => hK a' w' x) (h w₁ h₁)
  ·
   rename_i hw
   exact zb7 C T ho (by simpa using hw) h
end
end
section
open Go.Conc
abbrev Ph := Sum (List Value) (Sum (List Value) (Sum Unit Nat))
abbrev Ph.front (vs : List Value) : Ph := .inl vs
abbrev Ph.walk (vs : List Value) : Ph := .inr (.inl vs)
abbrev Ph.over : Ph := .inr (.inr (.inl ()))
abbrev Ph.join (L : Nat) : Ph := .inr (.inr (.inr L))
theorem Ph.casesT {motive : Ph → Prop} (front : ∀ (vs : List Value),motive (Ph.front vs)) (walk : ∀ (vs : List Value),motive (Ph.walk vs)) (over : motive Ph.over) (join : ∀ L : Nat,motive (Ph.join L)) (x : Ph) : motive x := by
 rcases x with vs | vs | _ | L
 ·
  exact front vs
 ·
  exact walk vs
 ·
  exact over
 ·
  exact join L
section
variable (K : Cfg) [Go.ConcX.Payload] [Go.ConcR.Payload] [Go.ConcX.Shy K.Wg K.C] (AnchW : Goroutine → World → Prop)
def RMd : Ph → World → World → Prop
 | .inr (.inr (.inr _)) => RPak K
 | _ => RM K
def DMd : Ph → World → World → Array Event → Prop
 | .inr (.inr (.inr L)) => DPik K L
 | _ => DM K
def XM : Ph → Goroutine → World → Prop
 | .inl vs => Way K.P true (RM K) (DM K) (selOf K AnchW vs)
 | .inr (.inl vs) => Way K.P true (RM K) (DM K) (selOf K AnchW vs)
 | .inr (.inr (.inl _)) => Way K.P true (RM K) (DM K) (AtJoin K AnchW)
 | .inr (.inr (.inr L)) => Way K.P true (RPak K) (DPik K L) (AtKdk K L AnchW)
end
section
variable {K : Cfg} [Go.ConcX.Payload] [Go.ConcR.Payload] [Go.ConcX.Shy K.Wg K.C] {AnchW : Goroutine → World → Prop} {i : Ph} {w w₁ w₂ : World}
theorem rpa_trans (h : RPak K w w₁) (h' : RPak K w₁ w₂) : RPak K w w₂ :=
 ⟨⟨h'.aside.tape.trans h.aside.tape,h'.aside.os.trans h.aside.os,h'.aside.output.trans h.aside.output,h'.aside.size.trans h.aside.size,fun b a c => (h'.aside.block b a c).trans (h.aside.block b a c)⟩,h'.ka ∘ h.ka,h'.kc ∘ h.kc⟩
theorem RMd.trans (h : RMd K i w w₁) (h' : RMd K i w₁ w₂) : RMd K i w w₂ := by
 cases i using Ph.casesT with
 | join => exact rpa_trans h h'
 | _ => exact RM.trans h h'
theorem termsM (i : Ph) : Terms (RMd K i) (DMd K i) := by
 refine ⟨fun _ _ _ => RMd.trans,fun w => ?_⟩
 cases i using Ph.casesT with
 | join => exact ⟨fun _ _ => rfl,by simp⟩
 | _ => exact ⟨fun _ _ => rfl,fun _ h => h,Nat.le_refl _,by simp⟩
theorem XM.closed : ClosedI K.P true (RMd K) (DMd K) (XM K AnchW) where
 rely := by
  intro i g w w₁ h hr
  cases i using Ph.casesT with
  | join => exact Way.rely (R := RPak K) (fun _ _ _ => rpa_trans) h hr
  | _ => exact Way.rely (R := RM K) (fun _ _ _ => RM.trans) h hr
 step := by
  intro i g w hs h
  cases i using Ph.casesT <;>
  ·
   refine Way.step hs fun w₁ h₁ => ?_
   have hw := h w₁ h₁
   cases e : stepG K.P true g w₁ with
   | go g' w' es => rw [e,goes_go] at hw; exact ⟨g',w',es,rfl,hw.1,hw.2⟩
   | _ => rw [e] at hw; exact hw.elim
theorem XM.joins {g : Goroutine} (hs : g.status = .running) (h : ∀ w₁,RM K w w₁ → KPak K w₁ → ∀ L,K.N0 ≤ L → XM K AnchW (.join L) g w₁) : XM K AnchW .over g w :=
 Way.stop fun w₁ h₁ => ⟨hs,fun hk L hL => h w₁ h₁ hk L hL⟩
variable {fn : FuncId} {ops : Array Oper} {j : Nat} {rest : List Nat} {o : Oper} {Q : PostI Ph} {a : Act}
theorem sel_at {k : Nat} {v : Value} {ok : Bool} {Next : Goroutine → World → Prop} (ho : ops[j]? = some o) (hw : Region.wanted o (yielded ops a.tmps) = true) {b : Frame} {kk : List Item} {cs : List Frame} (hke : b.kind ≠ .early)
  (hr : ∀ w,(execOp a.eval o).run K.P w = .ok (.comm K.cases true .select) w) (he : ∀ w,(execOp a.eval o).events K.P w #[] = #[])
  (h : ∀ w₁,RM K w w₁ → K.N0 ≤ w₁.heap.size → Next (G (b.at (a.put o.dst (commResult K.cases .select k v ok)) (.inRegion ops rest :: kk)) cs) w₁) : AtSel K k v ok Next (G (b.at a (.inRegion ops (j :: rest) :: kk)) cs) w := by
 refine ⟨rfl,G (b.at a (.inRegion ops (j :: rest) :: kk)) cs,rfl,rfl,rfl,fun w₁ _ => ?_,fun w₁ h₁ hs => ?_⟩
 ·
  rw [stepG_comm ho hw hke (hr w₁),listed_none (he w₁)]
 ·
  have e : ∀ u,Conc.served (G (b.at a (.inRegion ops (j :: rest) :: kk)) cs) u = G (b.at (a.put o.dst u) (.inRegion ops rest :: kk)) cs := fun u => by
   have : (b.at a (.inRegion ops (j :: rest) :: kk)).finish u = b.at (a.put o.dst u) (.inRegion ops rest :: kk) := by rw [Frame.finish_at,ho]; rfl
   simp only [Conc.served,G]
   rw [this]
  rw [e]
  exact h w₁ h₁ hs
theorem opsI_letter {v : Value} {vs : List Value} (hi : i = .front (v :: vs) ∨ i = .walk (v :: vs)) (ho : ops[j]? = some o) (hw : Region.wanted o (yielded ops a.tmps) = true)
  (hr : ∀ w,(execOp a.eval o).run K.P w = .ok (.comm K.cases true .select) w) (he : ∀ w,(execOp a.eval o).events K.P w #[] = #[])
  (h : ∀ w₁,RM K w w₁ → K.N0 ≤ w₁.heap.size → OpsI (XM K AnchW) fn ops rest (.walk vs) Q (a.put o.dst (commResult K.cases .select 0 v true)) w₁) : OpsI (XM K AnchW) fn ops (j :: rest) i Q a w := by
 intro b kk cs hb hke hc
 rcases hi with rfl | rfl <;>
 ·
  refine Way.stop fun w₁ h₁ => ?_
  refine sel_at (Next := MainS K AnchW vs) ho hw hke hr he fun w₂ h₂ hs => ?_
  rw [mainS_eq]
  exact h w₂ (RM.trans h₁ h₂) hs b kk cs hb hke hc
theorem opsI_end (hi : i = .front [] ∨ i = .walk []) (ho : ops[j]? = some o) (hw : Region.wanted o (yielded ops a.tmps) = true)
  (hr : ∀ w,(execOp a.eval o).run K.P w = .ok (.comm K.cases true .select) w) (he : ∀ w,(execOp a.eval o).events K.P w #[] = #[])
  (h : ∀ w₁,RM K w w₁ → K.N0 ≤ w₁.heap.size → OpsI (XM K AnchW) fn ops rest .over Q (a.put o.dst (commResult K.cases .select 1 K.zE false)) w₁) : OpsI (XM K AnchW) fn ops (j :: rest) i Q a w := by
 intro b kk cs hb hke hc
 rcases hi with rfl | rfl <;>
 ·
  refine Way.stop fun w₁ h₁ => ?_
  refine sel_at (Next := JoinM K AnchW) ho hw hke hr he fun w₂ h₂ hs => ?_
  exact h w₂ (RM.trans h₁ h₂) hs b kk cs hb hke hc
end
end
section
open Go.Conc
def ZI (P : Program) (Post : Value → World → Prop) (d : Nat) (S : Nat → Prop) (g : Goroutine) (w : World) : Prop := ∀ N,Z P Post (fun b => ¬ S b) N d g w
def EvS (S : Nat → Prop) (e : Event) : Prop := (∀ x,(MemAct.ofEvent e).touch? = some x → ∀ ad : Addr,x.loc = .cell ad → ¬ S ad.block) ∧ e.loc ≠ .mark .disable ∧ e.loc ≠ .mark .enable
def DZ (S : Nat → Prop) (_ _ : World) (es : Array Event) : Prop := ∀ e ∈ es,EvS S e
section
variable {P : Program} {Post : Value → World → Prop} {d d' : Nat} {S : Nat → Prop} {g g' : Goroutine} {w w' : World}
theorem ZI.closed : ClosedI P true (fun _ : Nat → Prop => AtRel) DZ (ZI P Post d) where
 rely := fun {S g w w₁} h hr N => (Z.closed (P := P) (Post := Post) (Ok := fun b => ¬ S b) (N := N) (d := d)).rely (vs := ()) (h N) hr
 step := by
  intro S g w hs h N
  refine (Z.closed (P := P) (Post := Post) (Ok := fun b => ¬ S b) (N := N) (d := d)).step (vs := ()) hs fun w₁ h₁ => ?_
  have hw := h w₁ h₁
  cases e : stepG P true g w₁ with
  | go g' w' es =>
   rw [e,goes_go] at hw
   rw [goes_go]
   exact ⟨fun ev he => ⟨fun x hx ad ha => .inl ((hw.1 ev he).1 x hx ad ha),(hw.1 ev he).2.1,(hw.1 ev he).2.2⟩,hw.2 N⟩
  | _ => rw [e] at hw; exact hw.elim
theorem termsS (S : Nat → Prop) : Terms AtRel (DZ S) := ⟨atRel_trans,fun _ e he => by simp at he⟩
theorem ZI.done {v : Value} (hs : g.status = .running) (hend : ∀ e,stepG P true g (w.at e) = .ended (.done v) (w.at e) #[]) (hp : ∀ e,Post v (w.at e)) : ZI P Post 0 S g w := fun _ => Z.done hs hend hp
theorem ZI.goes {ev : Event → Prop} {Stop : Goroutine → World → Prop} {n : Nat} (hev : ∀ e,ev e → EvS S e) (hst : ∀ g w,(∀ w₁,AtRel w w₁ → Stop g w₁) → ZI P Post d S g w) (h : Goes P true AtRel (fun _ _ es => ∀ e ∈ es,ev e) Stop n g w) : ZI P Post d S g w := by
 induction n generalizing g w with
 | zero => exact hst _ _ h
 | succ n ih =>
  rcases h with h | ⟨hs,h⟩
  ·
   exact hst _ _ h
  ·
   refine ZI.closed.step hs fun w₁ h₁ => ?_
   have hw := h w₁ h₁
   cases e : stepG P true g w₁ with
   | go g' w' es => rw [e,goes_go] at hw; rw [goes_go]; exact ⟨fun e he => hev e (hw.1 e he),ih hw.2⟩
   | _ => rw [e] at hw; exact hw.elim
theorem ZI.atMark {m : Mark} {Next : Goroutine → World → Prop} (hm : (MemAct.mark m).touch? = none) (hd : deafBehind d #[⟨.mark m,false,true⟩] = d') (hn : ∀ g w,Next g w → ZI P Post d' S g w) (h : ∀ w₁,AtRel w w₁ → g.status = .running ∧ ∃ a',stepG P true g w₁ = .go a' w₁ #[⟨.mark m,false,true⟩] ∧ Next a' w₁) : ZI P Post d S g w := by
 intro N
 refine Z.pick (h w (atRel_refl w)).1 fun e Shun gs q t sl hS hF => ?_
 obtain ⟨_,g',hgo,hN⟩ := h (w.at e) ⟨e,rfl⟩
 refine ⟨_,_,runT_crowd_go (P := P) (sl := sl) (i := 0) hF.h0 (show stepG P (0 == 0) g (w.at e) = _ from hgo),?_⟩
 refine hn _ _ hN N e Shun _ q _ sl hS (hF.own (fun ev he x hx _ => ?_) hd)
 rw [Array.mem_singleton] at he
 subst he
 rw [show MemAct.ofEvent ⟨.mark m,false,true⟩ = .mark m from rfl,hm] at hx
 cases hx
theorem ZI.fork {child : Goroutine} (hs : g.status = .running) (hsp : ∀ e,stepG P true g (w.at e) = .spawn g' child (w.at e) #[])
  (h : ∀ (e : Nat) (Shun : Loc → Prop),(∀ l,Shun l → ∃ ad : Addr,l = .cell ad ∧ S ad.block) → ∃ K I1 I2 I3 AnchW Post' vs Ok' N',Forked P Post Shun g' child (w.at e) K I1 I2 I3 AnchW Post' vs Ok' N') : ZI P Post 0 S g w := by
 intro N
 refine Z.fork hs hsp fun e Shun hS => h e Shun fun l hl => ?_
 obtain ⟨ad,rfl,_,h2⟩ := hS l hl
 exact ⟨ad,rfl,Classical.not_not.1 h2⟩
abbrev shyK (K : Cfg) (F : K.Fit) (stop : Goroutine → World → Prop) : Go.ConcX.Shy K.Wg K.C where
 ok := fun act => (∀ z,act.touch? = some z → (∃ ad : Addr,z.loc = .cell ad ∧ ad.block = K.C) ∨ (∃ ad : Addr,z.loc = .cell ad ∧ ad.block = K.Wg ∧ z.kind ≠ .plain)) ∧ act.low K.B
 atomicWg := fun a wr h => ⟨fun z hz => .inr (by
  simp only [MemAct.touch?,Option.some.injEq] at hz
  subst hz
  exact ⟨a,rfl,h,by simp⟩),by show a.block < K.B; rw [h]; exact F.WB⟩
 readWg := fun a h => ⟨fun z hz => .inr (by
  simp only [MemAct.touch?,Option.some.injEq] at hz
  subst hz
  exact ⟨a,rfl,h,by simp⟩),by show a.block < K.B; rw [h]; exact F.WB⟩
 writeWg := fun a h => ⟨fun z hz => .inr (by
  simp only [MemAct.touch?,Option.some.injEq] at hz
  subst hz
  exact ⟨a,rfl,h,by simp⟩),by show a.block < K.B; rw [h]; exact F.WB⟩
 theirs := fun a wr h => ⟨fun z hz => .inl (by
  simp only [MemAct.touch?,Option.some.injEq] at hz
  subst hz
  exact ⟨a,rfl,h⟩),by show a.block < K.B; rw [h]; exact F.CB⟩
 disable := ⟨fun x hx => (by cases hx),trivial⟩
 enable := ⟨fun x hx => (by cases hx),trivial⟩
 relMerge := ⟨fun x hx => (by cases hx),F.WB⟩
 acquire := ⟨fun x hx => (by cases hx),F.WB⟩
 go1 := ⟨fun x hx => (by cases hx),trivial⟩
 start := ⟨fun x hx => (by cases hx),trivial⟩
 stop := stop
theorem shyK_ok (K : Cfg) (F : K.Fit) (stop : Goroutine → World → Prop) : @ShyOk K (shyK K F stop) := @ShyOk.mk K (shyK K F stop) fun _ h => h
end
end
end Go.Proofs.YtgcaionclkbehaaGreatDoor
