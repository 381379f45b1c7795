import Derived.Test.YtgcaionclkbehaaGreatDoorE8
set_option linter.all false
namespace Go.Proofs.YtgcaionclkbehaaGreatDoor
section
open Go.Conc Go.RowKit Go.Lib
section
variable {P : Program} {main : Bool} {b : Frame} {a : Act} {cs : List Frame} {w : World}
theorem stepG_leaveE {fn : Func} {todo : List Item} {c : Frame} {v : Value} (hn : b.kind = .normal) (hd : a.defers = []) (hf : P.funcs[b.fn]? = some fn)
  (hr : (results fn a.tmps).run P w = .ok v w) :
  stepG P main (G { b.at a todo with mode := .returning } (c :: cs)) w = .go (G (c.finish v) cs) w (seen P b.fn ((results fn a.tmps).events P w #[])) := by
 simp [G,stepG,unwind,doReturn,Frame.at,hn,hd,hf,hr,GStep.after]
end
section
variable {ι : Type} {P : Program} {R : ι → World → World → Prop} {D : ι → World → World → Array Event → Prop} {X : ι → Goroutine → World → Prop} {fn : FuncId} {Q : PostI ι} {a : Act} {w : World} {vs : ι}
def Leaves (P : Program) (R : ι → World → World → Prop) (D : ι → World → World → Array Event → Prop) (f : FuncId) (f₀ : Func) (vs : ι) (tmps : Array Value) (w : World) (Post : ι → Value → World → Prop) : Prop :=
 ∀ w₁,R vs w w₁ → ∃ v,(results f₀ tmps).run P w₁ = .ok v w₁ ∧ D vs w₁ w₁ (seen P f ((results f₀ tmps).events P w₁ #[])) ∧ Post vs v w₁
def CallsE (P : Program) (R : ι → World → World → Prop) (D : ι → World → World → Array Event → Prop) (X : ι → Goroutine → World → Prop) (f : FuncId) (args : Array Value) (vs : ι) (w : World) (Post : ι → Value → World → Prop) : Prop :=
 ∃ f₀ c, P.funcs[f]? = some f₀ ∧ (f₀.name == "runtime.NumGoroutine") = false ∧ f₀.body = some c ∧
  wpI X f c vs (fun vs' e a' w' => (e = .normal ∨ e = .ret) ∧ a'.defers = [] ∧ Leaves P R D f f₀ vs' a'.tmps w' Post) { tmps := args ++ Array.replicate (f₀.ntmps - args.size) undef,defers := [] } w
theorem CallsI.toE (C : ClosedI P true R D X) (T : ∀ i,Terms (R i) (D i)) {f : FuncId} {args : Array Value} {Post Post' : ι → Value → World → Prop} (h : CallsI P X f args vs w Post) (hp : ∀ vs v w w₁,Post vs v w → R vs w w₁ → Post' vs v w₁) : CallsE P R D X f args vs w Post' := by
 obtain ⟨f₀,c,hf,hn,hb,h⟩ := h
 refine ⟨f₀,c,hf,hn,hb,wpI_mono h fun vs' e a' w' q => ?_⟩
 obtain ⟨h1,h2,v,h3,h4⟩ := q
 refine ⟨h1,h2,fun w₁ hr => ⟨v,(h3 w₁).1,?_,hp _ _ _ _ h4 hr⟩⟩
 rw [(h3 w₁).2]
 exact (T vs').idle _
theorem opsI_callE (C : ClosedI P true R D X) (T : ∀ i,Terms (R i) (D i)) {ops : Array Oper} {i : Nat} {rest : List Nat} {o : Oper} {x : Operand} {f : FuncId} {first cap : Array Value} {args : Array Operand} {ats : Array TypeId} {Post : ι → Value → World → Prop}
  (ho : ops[i]? = some o) (hw : Region.wanted o (yielded ops a.tmps) = true) (hop : o.op = .call { callee := .value x,args,argTypes := ats }) (hx : a.eval x = .func (.func f) first cap)
  (hcall : CallsE P R D X f (first ++ args.map a.eval ++ cap) vs w Post) (hnext : ∀ vs' v w',Post vs' v w' → OpsI X fn ops rest vs' Q (a.put o.dst v) w') : OpsI X fn ops (i :: rest) vs Q a w := by
 obtain ⟨f₀,c,hf,hname,hb,h⟩ := hcall
 intro b k cs hb' hk hc
 have hbn : f₀.body.isNone = false := by rw [hb]; rfl
 have hfin : ∀ v,(b.at a (.inRegion ops (i :: rest) :: k)).finish v = b.at (a.put o.dst v) (.inRegion ops rest :: k) := fun v => by rw [Frame.finish_at,ho]; rfl
 have hleave : ∀ (vs' : ι) (a' : Act) (w' : World) (todo : List Item),(a'.defers = [] ∧ Leaves P R D f f₀ vs' a'.tmps w' Post) →
   X vs' (G { (base f).at a' todo with mode := .returning } (b.at a (.inRegion ops (i :: rest) :: k) :: cs)) w' := by
  rintro vs' a' w' todo ⟨hd,hl⟩
  refine C.step rfl fun w₁ h₁ => ?_
  obtain ⟨v,h1,h2,h3⟩ := hl w₁ h₁
  rw [stepG_leaveE (b := base f) rfl hd hf h1,hfin]
  exact ⟨h2,hnext vs' v w₁ h3 b k cs hb' hk hc⟩
 refine C.step rfl fun w₁ h₁ => ?_
 obtain ⟨hr,he⟩ := zl4 (P := P) (w := w₁) hop hx hf hname hbn
 rw [stepG_enter ho hw hk hr,enter_at _ hf hb]
 have hl : listed P b.fn a o w₁ = #[] := listed_nil he
 rw [hl]
 refine ⟨(T vs).idle _,C.rely (h (base f) [] _ rfl (by simp [base]) fun vs' e a' w' q => ?_) h₁⟩
 obtain ⟨he',q⟩ := q
 rcases he' with rfl | rfl
 ·
  exact C.step rfl fun w₂ h₂ => by rw [stepG_end]; exact ⟨(T vs').idle _,C.rely (hleave vs' a' w' [] q) h₂⟩
 ·
  exact fun todo => hleave vs' a' w' todo q
end
section
variable {ι : Type} {P : Program} {KT : TypeId → Prop} {An : Who} {N0 : ι → Nat} {M : ι → World → Nat → Prop} {O : ι → Nat → Prop} {R : ι → World → World → Prop} {D : ι → World → World → Array Event → Prop} {X : ι → Goroutine → World → Prop} {Hd : ι → List (Nat × Obj) → World → Prop}
variable {fn : FuncId} {Q : PostI ι} {a : Act} {w : World} {i : ι} {S : Who} {s s' : AS} {l fr rl : List (Nat × Obj)} {aA : TL} {v : Value} {ops : Array Oper} {j : Nat} {rest : List Nat} {o : Oper} {kt : TypeId → Bool}
def Sound (P : Program) (KT : TypeId → Prop) (An : Who) (R : ι → World → World → Prop) (D : ι → World → World → Array Event → Prop) (X : ι → Goroutine → World → Prop) (Hd : ι → List (Nat × Obj) → World → Prop) (f : FuncId) (args : Array Value) (s : AS) (v : Value) (s' : AS) : Prop :=
 ∀ S l fr i w args',Sim P KT An S s l → Hd i (l ++ fr) w → AR (VR S) args args' → (∀ b,s.nx ≤ b → b < s'.nx → S b = none) →
  CallsE P R D X f args' i w fun i' v' w' => ∃ S' l',S.le S' ∧ (∀ b,b < s.nx ∨ s'.nx ≤ b → S' b = S b) ∧ Sim P KT An S' s' l' ∧ Hd i' (l' ++ fr) w' ∧ VR S' v v'
theorem two_args {xs : Array Operand} {f : Operand → Value} {u v : Value} (h : xs.toList.map f = [u,v]) : ∃ x y,xs = #[x,y] ∧ f x = u ∧ f y = v := by
 obtain ⟨l⟩ := xs
 cases l with
 | nil => simp at h
 | cons x l =>
  cases l with
  | nil => simp at h
  | cons y l =>
   cases l with
   | nil => simp at h; exact ⟨x,y,rfl,h.1,h.2⟩
   | cons z l => simp at h
theorem op_conv (Y : Cy P KT N0 M O R D X Hd) (ho : ops[j]? = some o) (hw : Region.wanted o (yielded ops a.tmps) = true) {t u : TypeId} {x : Operand} (hop : o.op = .convert t u x) (hA : OpdR S aA a o) (hS : Sim P KT An S s l) (hF : Hd i (l ++ fr) w) (h : zl9 P t u (aA.at x) s = some v)
  (k : Out P KT An Hd S s s fr v fun i' v' w' => OpsI X fn ops rest i' Q (a.put o.dst v') w') : OpsI X fn ops (j :: rest) i Q a w := by
 unfold OpdR at hA
 rw [hop] at hA
 have hx := hA x (by simp [Op.operands])
 have Z := Y.Z hF
 have fin : ∀ (ad : Addr),a.eval x = .pointer (some ad) → (∀ w₁,Hd i (l ++ fr) w₁ → (convert t u (.pointer (some ad))).run P w₁ = .ok (.pointer (some ad)) w₁ ∧ (convert t u (.pointer (some ad))).events P w₁ #[] = #[]) → VR S v (.pointer (some ad)) → OpsI X fn ops (j :: rest) i Q a w := by
  intro ad hx' hc hv
  refine za0 Y.C ho hw fun w₁ hR K hK => ?_
  have hF₁ := Z.rely hF hR
  obtain ⟨h1,h2⟩ := hc w₁ hF₁
  have hr : (execOp a.eval o).run P w₁ = .ok (.value (.pointer (some ad))) w₁ := by
   unfold execOp
   simp only [hop,hx',Sem.run_bind,h1,Result.andThen_ok,Sem.run_pure]
  have he : (execOp a.eval o).events P w₁ #[] = #[] := by
   unfold execOp
   simp only [hop,hx',Sem.events_bind,h1,h2,Result.evThen_ok,Sem.events_pure]
  rw [hr]
  refine hK _ _ ⟨?_,k i S l w₁ _ (Who.le_refl S) (fun _ _ => rfl) hS hF₁ hv⟩
  rw [listed_nil he]
  exact (Y.T i).idle _
 unfold zl9 at h
 split at h
 ·
  next e b off hu1 hu2 hxp =>
  rw [hxp] at hx
  obtain ⟨g,z,e',h1,h2⟩ := hx.ptr
  split at h
  ·
   next cs ct fz n hb hs =>
   split at h
   ·
    next hlt =>
    cases h
    obtain ⟨kk,o',hk,hlt',hk',hor,hty⟩ := hS.at (fr := fr) hb h1
    obtain ⟨cs',rfl,hz,⟨hle,_⟩,hcell⟩ := hor
    have hsz : (P.info? e).map (fun i => decide (i.size = 0)) = some false := by
     unfold sizeT at hs
     cases hi : P.info? e with
     | none => simp [hi] at hs
     | some it => simp [hi] at hs ⊢; omega
    refine fin ⟨g,off,none⟩ h2 (fun w₁ hF₁ => ?_) (by rw [hxp]; exact VR.of_ptr h1)
    obtain ⟨hm,hg⟩ := Z.own hF₁ (List.mem_of_getElem? hk')
    have hc : w₁.cell? ⟨g,off,none⟩ = some (cs'[off]'(by omega)) := by simp [World.cell?,hg,show off < cs'.size by omega]
    exact ⟨run_convert_to_unsafe (P := P) hu1 hu2 hsz hc,events_convert_to_unsafe (P := P) hu1 hu2 hsz hc #[]⟩
   ·
    cases h
  ·
   cases h
 ·
  next e b off hu1 hu2 hxp =>
  rw [hxp] at hx
  obtain ⟨g,z,e',h1,h2⟩ := hx.ptr
  split at h
  ·
   next cs bt n hb hs =>
   split at h
   ·
    next hl =>
    cases h
    obtain ⟨kk,o',hk,hlt',hk',hor,hty⟩ := hS.at (fr := fr) hb h1
    obtain ⟨cs',rfl,hz,⟨hle,hex⟩,hcell⟩ := hor
    have hsz := hex rfl
    obtain ⟨jt,hj,_⟩ : ∃ jt,P.info? e = some jt ∧ jt.size = n + 1 := by
     unfold sizeT at hs
     cases hi : P.info? e with
     | none => simp [hi] at hs
     | some it => simp [hi] at hs; exact ⟨it,rfl,hs⟩
    refine fin ⟨g,off,none⟩ h2 (fun w₁ hF₁ => ?_) (by rw [hxp]; exact VR.of_ptr h1)
    obtain ⟨hm,hg⟩ := Z.own hF₁ (List.mem_of_getElem? hk')
    have hsh : w₁.shape? g = some (bt,cs.size) := by simp [World.shape?,hg]; omega
    refine ⟨Lib.run_from_unsafe w₁ ⟨g,off,none⟩ hu1 hu2 hj hsh hl,?_⟩
    simp [convert,run_underlying hu1,run_underlying hu2,Conv.unsafePointer,Conv.seenAt,viewAt,hsh,variablesAt,hl,sizeOf,typeInfo,hj,underlying,hu1,hu2]
   ·
    cases h
  ·
   cases h
 ·
  cases h
theorem op_sound (Y : Cy P KT N0 M O R D X Hd) (hkt : ∀ t,kt t = false → ¬ KT t) {call : FuncId → Array Value → AS → Option (Value × AS)} (hcall : ∀ f args s v s',call f args s = some (v,s') → Sound P KT An R D X Hd f args s v s')
  (ho : ops[j]? = some o) (hw : Region.wanted o (yielded ops a.tmps) = true) (hA : OpdR S aA a o) (hS : Sim P KT An S s l) (hF : Hd i (l ++ fr) w) (h : evOp P kt call aA o s = some (v,s')) (hfr : ∀ b,s.nx ≤ b → b < s'.nx → S b = none)
  (k : Out P KT An Hd S s s' fr v fun i' v' w' => OpsI X fn ops rest i' Q (a.put o.dst v') w') : OpsI X fn ops (j :: rest) i Q a w := by
 unfold evOp at h
 split at h
 ·
  split at h
  ·
   next ob mk hn =>
   cases h
   refine op_new Y hkt ho hw hA hF hn fun g z e o' w' v' hF' hr ht => ?_
   have hnx : S s.nx = none := hfr _ (Nat.le_refl _) (by simp)
   obtain ⟨h1,h2⟩ := hr (S.put s.nx (g,z,e)) s.nx (Who.le_put hnx) Who.put_self
   refine k i _ _ w' v' (Who.le_put hnx) (fun b hb => ?_) (hS.grown hnx (Y.fresh hF') h1 ht) hF' h2
   unfold Who.put
   simp at hb
   rw [if_neg (by omega)]
  ·
   cases h
 ·
  split at h
  ·
   next t x hop =>
   split at h
   ·
    next v' hv => cases h; exact op_load Y ho hw hop hA hS hF hv k
   ·
    cases h
  ·
   next t x y hop =>
   split at h
   ·
    next s1 hv => cases h; exact op_store Y ho hw hop hA hS hF hv k
   ·
    cases h
  ·
   next t x lo hi mx hop =>
   split at h
   ·
    next v' hv => cases h; exact op_slice Y ho hw hop hA hS hF hv k
   ·
    cases h
  ·
   next x hop =>
   split at h
   ·
    next b hx =>
    split at h
    ·
     next str pos hb =>
     refine op_next Y ho hw hop hA hS hF hx hb (fun hp => ?_) (fun hp => ?_) (fun hp => ?_)
     ·
      rw [if_pos hp] at h
      split at h
      ·
       cases h
      next hq => exact hkt _ (by simpa using hq)
     ·
      rw [if_pos hp] at h
      split at h
      ·
       cases h
      cases h; exact k
     ·
      rw [if_neg hp] at h; cases h; exact k
    ·
     cases h
   ·
    cases h
  ·
   next c hop =>
   split at h
   ·
    next f hcal =>
    split at h
    ·
     next hne =>
     split at h
     ·
      next x hx =>
      cases h
      obtain ⟨cal,cargs,cts⟩ := c
      simp only at hcal hx
      subst hcal
      have hA' := hA
      unfold OpdR at hA'
      rw [hop] at hA'
      have hxx := hA' x (by simp only [Op.operands,Call.operands,Array.mem_append]; right; simpa using (show x ∈ cargs.toList by rw [hx]; simp))
      obtain ⟨g,rfl⟩ : ∃ g,f = .func g := by
       cases f with
       | func g => exact ⟨g,rfl⟩
       | _ => simp [noEsc] at hne
      have hne' := hne
      unfold noEsc at hne'
      simp only at hne'
      split at hne'
      ·
       next f₀ hf₀ =>
       obtain ⟨n1,n2,n3⟩ := Y.ne g f₀ hne hf₀
       have hca : cargs = #[x] := by apply Array.toList_inj.1; simp [hx]
       refine opsI_entry Y.C Y.T ho hw hop hf₀ n1 (by simp only [Bool.and_eq_true] at hne'; exact hne'.1) n2 n3 (x := a.eval x) (args' := #[a.eval x]) (by rw [hca]; simp) (fun w => Lib.run_noEscape w _) (fun w es => by show Sem.events P (pure (a.eval x) : Sem Value) w es = es; simp) ?_
       exact k i S l w _ (Who.le_refl S) (fun _ _ => rfl) hS hF hxx
      ·
       cases hne'
     ·
      cases h
    split at h
    ·
     next g first cap hf =>
     have hA' := hA
     unfold OpdR at hA'
     rw [hop] at hA'
     have hff := hA' f (by simp [Op.operands,Call.operands,hcal])
     rw [hf] at hff
     obtain ⟨p',q',h1,h2,h3⟩ := hff.fn
     have hargs : AR (VR S) (c.args.map aA.at) (c.args.map a.eval) := map_at fun x hx => hA' x (by simp [Op.operands,Call.operands,hx])
     have hcc := hcall _ _ _ _ _ h S l fr i w _ hS hF ((h2.append hargs).append h3) hfr
     obtain ⟨cal,cargs,cts⟩ := c
     simp only at hcal
     subst hcal
     refine opsI_callE Y.C Y.T ho hw hop h1 hcc ?_
     rintro i' v' w' ⟨S',l',q1,q2,q3,q4,q5⟩
     exact k i' S' l' w' v' q1 q2 q3 q4 q5
    ·
     cases h
   ·
    next b hcal =>
    split at h
    ·
     next v' hv => cases h; exact op_quiet Y ho hw hA hS hF hv k
    ·
     obtain ⟨cal,cargs,cts⟩ := c
     simp only at hcal h
     subst hcal
     unfold zj4 at h
     split at h
     ·
      next x1 yy m cy t t' hargs hts =>
      split at h
      ·
       next htt =>
       subst htt
       split at h
       ·
        next e ht =>
        split at h
        ·
         next z sz bytes hi =>
         split at h
         ·
          next news hcl =>
          split at h
          ·
           next hc =>
           obtain ⟨c1,c2,c3,c4,c5,c6,c7⟩ := hc
           obtain ⟨x,y,hca,e1,e2⟩ := two_args hargs
           subst hca
           have hts' : cts = #[t,t] := by apply Array.toList_inj.1; simp [hts]
           subst hts'
           rw [← e1] at h c6
           exact op_append Y hkt ho hw hop hA hS hF e2 ht hi hcl c1 c2 c3 c4 c5 c6 c7 h hfr k
          ·
           cases h
         ·
          cases h
        ·
         cases h
       ·
        cases h
      ·
       cases h
     ·
      next x1 str t t' hargs hts =>
      split at h
      ·
       next e ht hu =>
       split at h
       ·
        next hi =>
        split at h
        ·
         next hc =>
         obtain ⟨c1,c2,c3⟩ := hc
         obtain ⟨x,y,hca,e1,e2⟩ := two_args hargs
         subst hca
         have hts' : cts = #[t,t'] := by apply Array.toList_inj.1; simp [hts]
         subst hts'
         rw [← e1] at h c3
         exact op_appendS Y hkt ho hw hop hA hS hF e2 ht hu hi c1 c2 c3 h hfr k
        ·
         cases h
       ·
        cases h
      ·
       cases h
     ·
      next b off n cp str t u hargs hts =>
      split at h
      ·
       next e cs bt fz ht hb =>
       split at h
       ·
        next hc =>
        obtain ⟨c1,c2,c3⟩ := hc
        cases h
        obtain ⟨x,y,hca,e1,e2⟩ := two_args hargs
        subst hca
        have hts' : cts = #[t,u] := by apply Array.toList_inj.1; simp [hts]
        subst hts'
        exact op_copy Y ho hw hop hA hS hF e1 e2 ht hb c1 c2 c3 k
       ·
        cases h
      ·
       cases h
     ·
      next b n pt it hargs hts =>
      split at h
      ·
       next e cs t fz hp hb =>
       split at h
       ·
        next hc =>
        obtain ⟨c1,c2,c3,c4,c5⟩ := hc
        split at h
        ·
         next bs hbs =>
         cases h
         obtain ⟨x,y,hca,e1,e2⟩ := two_args hargs
         subst hca
         have hts' : cts = #[pt,it] := by apply Array.toList_inj.1; simp [hts]
         subst hts'
         exact op_ustr Y ho hw hop hA hS hF e1 e2 hp hb c1 c2 c3 c4 c5 hbs k
        ·
         cases h
       ·
        cases h
      ·
       cases h
     ·
      cases h
   ·
    cases h
  ·
   next t u x hop =>
   split at h
   ·
    next v' hv => cases h; exact op_quiet Y ho hw hA hS hF hv k
   ·
    split at h
    ·
     next v' hv => cases h; exact op_conv Y ho hw hop hA hS hF hv k
    ·
     cases h
  ·
   split at h
   ·
    next v' hv => cases h; exact op_quiet Y ho hw hA hS hF hv k
   ·
    cases h
end
end
section
open Go.Conc Go.RowKit Go.Lib
theorem lput_eq : ∀ (l : List Value) (n : Nat) (v : Value),lput l n v = l.set n v
 | [],_,_ => rfl
 | _ :: _,0,_ => rfl
 | x :: l,n + 1,v => by simp [lput,lput_eq l n v]
section
variable {S : Who} {aA : TL} {a : Act}
theorem getD_rel {x : Array Value} {y : Array Value} (h : AR (VR S) x y) (t : Nat) : VR S (x.toList.getD t undef) (y.getD t undef) := by
 by_cases ht : t < x.size
 ·
  have h1 : x[t]? = some x[t] := Array.getElem?_eq_getElem ht
  have h2 : y[t]? = some (y[t]'(by rw [← h.1]; exact ht)) := Array.getElem?_eq_getElem _
  have := h.2 t _ _ h1 h2
  rw [List.getD_eq_getElem?_getD,Array.getD_eq_getD_getElem?,h2,Array.getElem?_toList,h1]
  exact this
 ·
  rw [List.getD_eq_getElem?_getD,Array.getD_eq_getD_getElem?,Array.getElem?_toList,Array.getElem?_eq_none (by omega),Array.getElem?_eq_none (by rw [← h.1]; omega)]
  exact VR.undef
theorem at_rel (h : AR (VR S) aA.toArray a.tmps) {x : Operand} (hx : okOpd x = true) : VR S (aA.at x) (a.eval x) := by
 cases x with
 | tmp t => exact getD_rel h t
 | const v => exact VR.of_sc hx
 | global g => simp [okOpd] at hx
 | func f => exact VR.of_fn AR.nil AR.nil
theorem put_rel (h : AR (VR S) aA.toArray a.tmps) {v v' : Value} (hv : VR S v v') (d : Option Tmp) : AR (VR S) (aA.put d v).toArray (a.put d v').tmps := by
 cases d with
 | none => exact h
 | some t =>
  show AR (VR S) (lput aA t v).toArray (a.tmps.setIfInBounds t v')
  rw [lput_eq]
  have := h.set hv t
  rw [List.setIfInBounds_toArray] at this
  exact this
theorem VR.bool_inv {x : Value} {b : Bool} (h : VR S x (.bool b)) : x = .bool b := by
 cases x with
 | agg p => obtain ⟨p',h1,_⟩ := h.ag; cases h1
 | tuple p => obtain ⟨p',h1,_⟩ := h.tu; cases h1
 | map p => obtain ⟨k,m,_,h1,_⟩ := h.mp; cases h1
 | func f p q => obtain ⟨p',q',h1,_⟩ := h.fn; cases h1
 | pointer p =>
  cases p with
  | none => exact (h.sc rfl).symm
  | some p =>
   obtain ⟨b,off,sp⟩ := p
   have := h.ptr_none
   simp at this
   subst this
   obtain ⟨g,z,e,_,h1⟩ := h.ptr
   cases h1
 | slice p n c =>
  cases p with
  | none => exact (h.sc rfl).symm
  | some p => obtain ⟨g,z,e,o',c',_,h1,_⟩ := h.sl_any; cases h1
 | bool b => exact (h.sc rfl).symm
 | int k n => exact (h.sc rfl).symm
 | string s => exact (h.sc rfl).symm
 | nilFunc => exact (h.sc rfl).symm
 | nilIface => exact (h.sc rfl).symm
 | _ => obtain ⟨d,h⟩ := h; cases d with
  | zero => exact h.elim
  | succ d => exact absurd h.1 (by simp [isSc])
theorem yielded_slot {ops : Array Oper} {tmps : Array Value} {j : Nat} (h : ∀ d,(ops[j]?).bind (·.dst) = some d → ∀ b,(aA[d]? = some (.bool b) ↔ tmps[d]? = some (.bool b))) : yielded ops tmps j = zc7 ops aA j := by
 unfold yielded zc7
 rw [Array.getElem?_toList]
 cases ho : ops[j]? with
 | none => rfl
 | some o =>
  simp only [Option.bind_some]
  cases hd : o.dst with
  | none => rfl
  | some d =>
   simp only [Option.bind_some]
   have h := h d (by rw [ho]; simp [hd])
   cases ha : aA[d]? with
   | none =>
    cases ht : tmps[d]? with
    | none => rfl
    | some v => cases v with
     | bool b => rw [ha,ht] at h; exact absurd ((h b).2 rfl) (by simp)
     | _ => rfl
   | some x =>
    cases x with
    | bool b => rw [(h b).1 ha]
    | _ =>
     cases ht : tmps[d]? with
     | none => rfl
     | some v => cases v with
      | bool b => rw [ha,ht] at h; exact absurd ((h b).2 rfl) (by simp)
      | _ => rfl
theorem yielded_rel (h : AR (VR S) aA.toArray a.tmps) (ops : Array Oper) (j : Nat) : yielded ops a.tmps j = zc7 ops aA j := by
 refine yielded_slot fun d _ b => ⟨fun hb => ?_,fun hb => ?_⟩
 ·
  have hl : d < a.tmps.size := by rw [← h.1]; have := (List.getElem?_eq_some_iff.1 hb).1; simpa using this
  have := h.2 d _ _ (by simpa using hb) (Array.getElem?_eq_getElem hl)
  rw [Array.getElem?_eq_getElem hl,this.sc rfl]
 ·
  have hl : d < aA.toArray.size := by rw [h.1]; exact (Array.getElem?_eq_some_iff.1 hb).1
  have := (h.2 d _ _ (Array.getElem?_eq_getElem hl) hb).bool_inv
  have h2 : aA.toArray[d]? = some (.bool b) := by rw [Array.getElem?_eq_getElem hl,this]
  simpa using h2
theorem wanted_rel (h : AR (VR S) aA.toArray a.tmps) (ops : Array Oper) (o : Oper) : Region.wanted o (yielded ops a.tmps) = Region.wanted o (zc7 ops aA) := by
 unfold Region.wanted
 split
 ·
  rfl
 ·
  rw [yielded_rel h]
end
section
variable {P : Program} {kt : TypeId → Bool} {call : FuncId → Array Value → AS → Option (Value × AS)}
theorem evAppend_nx {e : TypeId} {x v : Value} {news : List Value} {m : Nat} {s s' : AS} (h : zd4 P e x news m s = some (v,s')) : s.nx ≤ s'.nx := by
 unfold zd4 at h
 split at h
 ·
  split at h <;> (cases h; simp)
 ·
  split at h
  ·
   cases h; simp
  ·
   split at h
   ·
    split at h
    ·
     cases h; simp
    ·
     cases h
   ·
    cases h
 ·
  split at h
  ·
   cases h
  ·
   cases h; simp
 ·
  cases h
theorem evBuiltin_nx {b : Builtin} {args : List Value} {ts : List TypeId} {v : Value} {s s' : AS} (h : zj4 P kt b args ts s = some (v,s')) : s.nx ≤ s'.nx := by
 unfold zj4 at h
 split at h
 ·
  split at h
  ·
   split at h
   ·
    split at h
    ·
     split at h
     ·
      split at h
      ·
       exact evAppend_nx h
      ·
       cases h
     ·
      cases h
    ·
     cases h
   ·
    cases h
  ·
   cases h
 ·
  split at h
  ·
   split at h
   ·
    split at h
    ·
     exact evAppend_nx h
    ·
     cases h
   ·
    cases h
  ·
   cases h
 ·
  split at h
  ·
   split at h
   ·
    cases h; simp
   ·
    cases h
  ·
   cases h
 ·
  split at h
  ·
   split at h
   ·
    split at h
    ·
     cases h; simp
    ·
     cases h
   ·
    cases h
  ·
   cases h
 ·
  cases h
theorem evStore_nx {t : TypeId} {x y : Value} {s s' : AS} (h : evStore P t x y s = some s') : s.nx = s'.nx := by
 unfold evStore at h
 split at h
 ·
  split at h
  ·
   split at h
   ·
    cases h; simp
   ·
    cases h
  ·
   cases h
 ·
  cases h
theorem evOp_nx (hc : ∀ f args s v s',call f args s = some (v,s') → s.nx ≤ s'.nx) {a : TL} {o : Oper} {v : Value} {s s' : AS} (h : evOp P kt call a o s = some (v,s')) : s.nx ≤ s'.nx := by
 unfold evOp at h
 split at h
 ·
  split at h
  ·
   cases h; simp
  ·
   cases h
 ·
  split at h
  ·
   split at h
   ·
    cases h; exact Nat.le_refl _
   ·
    cases h
  ·
   split at h
   ·
    next hv => cases h; exact Nat.le_of_eq (evStore_nx hv)
   ·
    cases h
  ·
   split at h
   ·
    cases h; exact Nat.le_refl _
   ·
    cases h
  ·
   split at h
   ·
    split at h
    ·
     split at h
     ·
      split at h
      ·
       cases h
      ·
       cases h; simp
     ·
      cases h; simp
    ·
     cases h
   ·
    cases h
  ·
   split at h
   ·
    split at h
    ·
     split at h
     ·
      cases h; exact Nat.le_refl _
     ·
      cases h
    ·
     split at h
     ·
      exact hc _ _ _ _ _ h
     ·
      cases h
   ·
    split at h
    ·
     cases h; exact Nat.le_refl _
    ·
     exact evBuiltin_nx h
   ·
    cases h
  ·
   split at h
   ·
    cases h; exact Nat.le_refl _
   ·
    split at h
    ·
     cases h; exact Nat.le_refl _
    ·
     cases h
  ·
   split at h
   ·
    cases h; exact Nat.le_refl _
   ·
    cases h
theorem evOps_nx (hc : ∀ f args s v s',call f args s = some (v,s') → s.nx ≤ s'.nx) {ops : Array Oper} : ∀ (todo : List Oper) {a a' : TL} {s s' : AS},evOps P kt call ops todo a s = some (a',s') → s.nx ≤ s'.nx
 | [],a,a',s,s',h => by simp [evOps] at h; rw [h.2]; exact Nat.le_refl _
 | o :: rest,a,a',s,s',h => by
  unfold evOps at h
  split at h
  ·
   split at h
   ·
    next v s1 hv => exact Nat.le_trans (evOp_nx hc hv) (evOps_nx hc rest h)
   ·
    cases h
  ·
   exact evOps_nx hc rest h
end
section
variable {ι : Type} {P : Program} {KT : TypeId → Prop} {An : Who} {N0 : ι → Nat} {M : ι → World → Nat → Prop} {O : ι → Nat → Prop} {R : ι → World → World → Prop} {D : ι → World → World → Array Event → Prop} {X : ι → Goroutine → World → Prop} {Hd : ι → List (Nat × Obj) → World → Prop}
variable {fn : FuncId} {Q : PostI ι} {a : Act} {w : World} {i : ι} {S : Who} {s s' : AS} {l fr rl : List (Nat × Obj)} {aA aA' : TL} {v : Value} {ops : Array Oper} {j : Nat} {rest : List Nat} {o : Oper} {kt : TypeId → Bool}
def OutC (P : Program) (KT : TypeId → Prop) (An : Who) (Hd : ι → List (Nat × Obj) → World → Prop) (S : Who) (s s' : AS) (fr : List (Nat × Obj)) (aA' : TL) (K : ι → Act → World → Prop) : Prop :=
 ∀ i' S' l' w' a',S.le S' → (∀ b,b < s.nx ∨ s'.nx ≤ b → S' b = S b) → Sim P KT An S' s' l' → Hd i' (l' ++ fr) w' → AR (VR S') aA'.toArray a'.tmps → a'.defers = [] → K i' a' w'
theorem evOps_sound (Y : Cy P KT N0 M O R D X Hd) (hkt : ∀ t,kt t = false → ¬ KT t) {call : FuncId → Array Value → AS → Option (Value × AS)} (hcall : ∀ f args s v s',call f args s = some (v,s') → Sound P KT An R D X Hd f args s v s') (hc : ∀ f args s v s',call f args s = some (v,s') → s.nx ≤ s'.nx) (hok : okOps ops = true) :
  ∀ (m k : Nat) {S : Who} {l : List (Nat × Obj)} {i : ι} {w : World} {a : Act} {aA : TL} {s : AS},m = ops.size - k → k ≤ ops.size → evOps P kt call ops (ops.toList.drop k) aA s = some (aA',s') → Sim P KT An S s l → Hd i (l ++ fr) w → AR (VR S) aA.toArray a.tmps → a.defers = [] → (∀ b,s.nx ≤ b → b < s'.nx → S b = none) →
   OutC P KT An Hd S s s' fr aA' (fun i' a' w' => Q i' .normal a' w') → OpsI X fn ops (List.range' k m) i Q a w
 | 0,k,S,l,i,w,a,aA,s,hm,hk,h,hS,hF,hA,hd,hfr,K => by
  have : k = ops.size := by omega
  subst this
  rw [List.drop_eq_nil_of_le (by simp)] at h
  simp only [evOps,Option.some.injEq,Prod.mk.injEq] at h
  obtain ⟨rfl,rfl⟩ := h
  exact za3 Y.C Y.T (K i S l w a (Who.le_refl S) (fun _ _ => rfl) hS hF hA hd)
 | m + 1,k,S,l,i,w,a,aA,s,hm,hk,h,hS,hF,hA,hd,hfr,K => by
  have hlt : k < ops.size := by omega
  have hlt' : k < ops.toList.length := by simpa using hlt
  rw [List.drop_eq_getElem_cons hlt'] at h
  have ho : ops[k]? = some (ops.toList[k]'hlt') := by rw [Array.getElem?_eq_getElem hlt]; simp
  have hA2 : OpdR S aA a (ops.toList[k]'hlt') := fun x hx => at_rel hA (by
   unfold okOps at hok
   rw [List.all_eq_true] at hok
   have := hok _ (List.getElem_mem hlt')
   rw [List.all_eq_true] at this
   exact this x (by simpa using hx))
  unfold evOps at h
  show OpsI X fn ops (k :: List.range' (k + 1) m) i Q a w
  split at h
  ·
   next hw =>
   split at h
   ·
    next v s1 hv =>
    have n1 := evOp_nx hc hv
    have n2 := evOps_nx hc _ h
    refine op_sound Y hkt hcall ho (by rw [wanted_rel hA]; exact hw) hA2 hS hF hv (fun b h1 h2 => hfr b h1 (by omega)) ?_
    intro i1 S1 l1 w1 v1 hS1 hb1 hSim1 hF1 hv1
    refine evOps_sound Y hkt hcall hc hok m (k + 1) (by omega) (by omega) h hSim1 hF1 (put_rel (hA.mono hS1) hv1 _) ?_ (fun b h1 h2 => ?_) ?_
    ·
     cases hdst : (ops.toList[k]'hlt').dst <;> exact hd
    ·
     rw [hb1 b (.inr h1)]; exact hfr b (by omega) h2
    ·
     intro i2 S2 l2 w2 a2 hS2 hb2 hSim2 hF2 hA3 hd2
     exact K i2 S2 l2 w2 a2 (Who.le_trans hS1 hS2) (fun b hb => by rw [hb2 b (by omega),hb1 b (by omega)]) hSim2 hF2 hA3 hd2
   ·
    cases h
  ·
   next hw =>
   have n2 := evOps_nx hc _ h
   refine zb7 Y.C Y.T ho (by rw [wanted_rel hA]; simpa using hw) ?_
   refine evOps_sound Y hkt hcall hc hok m (k + 1) (by omega) (by omega) h hS hF (put_rel hA VR.undef _) ?_ hfr K
   cases hdst : (ops.toList[k]'hlt').dst <;> exact hd
def Reads {α : Type} (P : Program) (t : Sem α) (w : World) (v : α) (B : Event → Prop) : Prop := t.run P w = .ok v w ∧ ∀ ev ∈ t.events P w #[],B ev
theorem Reads.bind {α β : Type} {t : Sem α} {k : α → Sem β} {v : α} {u : β} {B : Event → Prop} (h : Reads P t w v B) (h' : Reads P (k v) w u B) : Reads P (t >>= k) w u B := by
 refine ⟨by rw [Sem.run_bind,h.1]; exact h'.1,fun ev hev => ?_⟩
 rw [Sem.events_bind,h.1] at hev
 simp only [Result.evThen_ok] at hev
 rw [Sem.events_acc] at hev
 rcases Array.mem_append.1 hev with q | q
 ·
  exact h.2 ev q
 ·
  exact h'.2 ev q
theorem Reads.pure {α : Type} (v : α) (B : Event → Prop) : Reads P (Pure.pure v : Sem α) w v B := ⟨rfl,fun ev h => by simp at h⟩
theorem load_reads (Y : Cy P KT N0 M O R D X Hd) (hS : Sim P KT An S s l) (hF : Hd i (l ++ fr) w) {t : TypeId} {x x' : Value} (hx : VR S x x') (h : zc8 P t x s = some v) : ∃ v',VR S v v' ∧ Reads P (do loadVar t (← asAddr x')) w v' (EvO (M i w)) := by
 unfold zc8 at h
 split at h
 ·
  next b off =>
  obtain ⟨g,z,e,h1,rfl⟩ := hx.ptr
  split at h
  ·
   next cs ty fz hb =>
   obtain ⟨kk,o',hk,hlt,hk',hor,hty⟩ := hS.at (fr := fr) hb h1
   obtain ⟨cs',rfl,hz,⟨hle,hex⟩,hcell⟩ := hor
   obtain ⟨hm,hg⟩ := (Y.Z hF).own hF (List.mem_of_getElem? hk')
   have hto : ∀ {v'},Reads P (Instr.loadAt t (.pointer (some ⟨g,off,none⟩))) w v' (EvO (M i w)) → Reads P (do loadVar t (← asAddr (.pointer (some ⟨g,off,none⟩)))) w v' (EvO (M i w)) := fun h => h
   split at h
   ·
    next d hu =>
    split at h
    ·
     next hd =>
     split at h
     ·
      next n hn =>
      split at h
      ·
       next hsz =>
       cases h
       have hc : w.rangeAt g off ((cs'.toList.drop off).take n) := rangeAt_of hg (by
        intro m u hm
        rw [List.getElem?_take] at hm
        split at hm
        ·
         rw [List.getElem?_drop] at hm; simpa using hm
        ·
         cases hm)
       have hi : (P.info? t).map (·.size) = some ((cs'.toList.drop off).take n).length := by unfold sizeT at hn; rw [hn]; simp; omega
       refine ⟨_,VR.of_ag (p' := ((cs'.toList.drop off).take n).toArray) ?_,hto ⟨run_loadAt_mid (P := P) w g off t _ d hc hu hd hi,fun ev hev => ?_⟩⟩
       ·
        refine ⟨by simp; omega,fun m u u' hu hu' => ?_⟩
        simp only [List.getElem?_toArray,List.getElem?_take] at hu hu'
        split at hu
        ·
         next hm =>
         rw [if_pos hm] at hu'
         rw [List.getElem?_drop] at hu hu'
         exact hcell _ u u' (by simpa using hu) (by simpa using hu')
        ·
         cases hu
       ·
        obtain ⟨ad,q1,q2⟩ := zi7 w g off t _ d hc hu hd hi ev hev
        exact .inl ⟨ad,q1,by rw [q2]; exact hm⟩
      ·
       cases h
     ·
      cases h
    ·
     next hd =>
     have hlo : off < cs'.size := by have := (Array.getElem?_eq_some_iff.1 h).1; omega
     have hcl : w.cell? ⟨g,off,none⟩ = some cs'[off] := by simp [World.cell?,hg,hlo]
     have hd' : d.isRow = false := by simpa using hd
     refine ⟨cs'[off],hcell off v _ h (Array.getElem?_eq_getElem hlo),hto ⟨?_,fun ev hev => ?_⟩⟩
     ·
      simp [Instr.loadAt,Instr.sureAddr,loadVar,isAgg_run hu hd',load,Sem.run,hcl]
     ·
      have he : (Instr.loadAt t (.pointer (some ⟨g,off,none⟩))).events P w #[] = #[⟨.cell ⟨g,off,none⟩,false,false⟩] := by
       simp [Instr.loadAt,Instr.sureAddr,loadVar,isAgg_run hu hd',isAgg_events hu,events_load,hcl]
      rw [he] at hev
      simp at hev
      subst hev
      exact .inl ⟨_,rfl,hm⟩
   ·
    cases h
  ·
   cases h
 ·
  cases h
theorem mapM_get {α β : Type} {f : α → Option β} : ∀ {xs : List α} {vs : List β},xs.mapM f = some vs → xs.length = vs.length ∧ ∀ (i : Nat) (x : α) (v : β),xs[i]? = some x → vs[i]? = some v → f x = some v
 | [],vs,h => by simp at h; subst h; exact ⟨rfl,fun i x v hx => by simp at hx⟩
 | x :: xs,vs,h => by
  rw [List.mapM_cons] at h
  cases hx : f x with
  | none => rw [hx] at h; cases h
  | some v =>
   rw [hx] at h
   cases hm : xs.mapM f with
   | none => rw [hm] at h; cases h
   | some us =>
    rw [hm] at h
    cases h
    obtain ⟨h1,h2⟩ := mapM_get hm
    refine ⟨by simp [h1],fun i y u hy hu => ?_⟩
    cases i with
    | zero => simp at hy hu; subst hy hu; exact hx
    | succ i => exact h2 i y u (by simpa using hy) (by simpa using hu)
theorem res_sound (Y : Cy P KT N0 M O R D X Hd) (hS : Sim P KT An S s l) (hF : Hd i (l ++ fr) w) {f₀ : Func} {tmps : Array Value} (hA : AR (VR S) aA.toArray tmps) (h : evRes P f₀ aA s = some v) : ∃ v',VR S v v' ∧ Reads P (results f₀ tmps) w v' (EvO (M i w)) := by
 have one : ∀ r u,evRes1 P aA s r = some u → ∃ u',VR S u u' ∧ Reads P ((fun r => match r with | .tmp t => pure (tmps.getD t undef) | .cell a t => do loadVar t (← asAddr (tmps.getD a undef)) : ResultVar → Sem Value) r) w u' (EvO (M i w)) := by
  intro r u hu
  cases r with
  | tmp t => simp [evRes1] at hu; subst hu; exact ⟨_,getD_rel hA t,Reads.pure _ _⟩
  | cell t ty => exact load_reads Y hS hF (getD_rel hA t) hu
 have many : ∀ (rs : List ResultVar) (us : List Value),rs.mapM (evRes1 P aA s) = some us → ∃ us',us.length = us'.length ∧ (∀ (i : Nat) (x y : Value),us[i]? = some x → us'[i]? = some y → VR S x y) ∧ Reads P (rs.mapM (fun r => match r with | .tmp t => pure (tmps.getD t undef) | .cell a t => do loadVar t (← asAddr (tmps.getD a undef)) : ResultVar → Sem Value)) w us' (EvO (M i w)) := by
  intro rs
  induction rs with
  | nil => intro us hu; simp at hu; subst hu; exact ⟨[],rfl,fun i x y hx => by simp at hx,by rw [List.mapM_nil]; exact Reads.pure _ _⟩
  | cons r rs ih =>
   intro us hu
   rw [List.mapM_cons] at hu
   cases hr : evRes1 P aA s r with
   | none => rw [hr] at hu; cases hu
   | some u =>
    rw [hr] at hu
    cases hm : rs.mapM (evRes1 P aA s) with
    | none => rw [hm] at hu; cases hu
    | some us1 =>
     rw [hm] at hu
     cases hu
     obtain ⟨us',h1,h2,h3⟩ := ih us1 hm
     obtain ⟨u',h4,h5⟩ := one r u hr
     refine ⟨u' :: us',by simp [h1],fun i x y hx hy => ?_,?_⟩
     ·
      cases i with
      | zero => simp at hx hy; subst hx hy; exact h4
      | succ i => exact h2 i x y (by simpa using hx) (by simpa using hy)
     ·
      rw [List.mapM_cons]
      exact h5.bind (h3.bind (Reads.pure _ _))
 have whole : ∀ us',Reads P (f₀.results.toList.mapM (fun r => match r with | .tmp t => pure (tmps.getD t undef) | .cell a t => do loadVar t (← asAddr (tmps.getD a undef)) : ResultVar → Sem Value)) w us' (EvO (M i w)) → Reads P (results f₀ tmps) w (if h : us'.toArray.size = 1 then us'.toArray[0] else .tuple us'.toArray) (EvO (M i w)) := by
  intro us' hr
  unfold results
  rw [Array.mapM_eq_mapM_toList]
  refine Reads.bind (v := us'.toArray) ?_ (Reads.pure _ _)
  rw [map_eq_pure_bind]
  exact hr.bind (Reads.pure _ _)
 unfold evRes at h
 split at h
 ·
  next r hr =>
  obtain ⟨us',h1,h2,h3⟩ := many [r] [v] (by rw [List.mapM_cons,h]; rfl)
  cases us' with
  | nil => simp at h1
  | cons u us' =>
   have : us' = [] := by simpa using h1.symm
   subst this
   refine ⟨u,h2 0 v u rfl rfl,?_⟩
   have := whole [u] (by rw [hr]; exact h3)
   simpa using this
 ·
  next rs hne =>
  split at h
  ·
   next us hus =>
   cases h
   obtain ⟨us',h1,h2,h3⟩ := many _ us hus
   have hw := whole us' h3
   have hl : ¬ us'.toArray.size = 1 := by
    intro hq
    have : f₀.results.toList.length = 1 := by rw [(mapM_get hus).1,h1]; simpa using hq
    match hq2 : f₀.results.toList,this with
    | [r],_ => exact hne r hq2
   rw [dif_neg hl] at hw
   exact ⟨_,VR.of_tu ⟨by simpa using h1,fun i x y hx hy => h2 i x y (by simpa using hx) (by simpa using hy)⟩,hw⟩
  ·
   cases h
end
end
end Go.Proofs.YtgcaionclkbehaaGreatDoor
