import Derived.Test.YtgcaionclkbehaaGreatDoorE11
import Derived.Conc.WgGenN3
import Derived.Lib.Bytealg
import Derived.Laws.Slices
import Derived.Laws.Runes
set_option linter.all false
set_option maxHeartbeats 2000000
set_option maxRecDepth 100000
namespace Go.Proofs.YtgcaionclkbehaaGreatDoor
open Go.Conc Go.RowKit Go.Lib Tryz
variable {b:Frame}{k:List Item}{cs:List Frame}{c x:Code}{a:TL}{s s':AS}{ops:Array Oper}{id m n:Nat}{f t:Operand}{cl:Call}{g:FuncId}{args cap first:Aq}
section
variable {ι:Type}{P:Program}{main:Bool}{R:ι→Wq}{D:ι→World→World→Array Event→Prop}{X:ι→Gq}{fn:FuncId}{Q:dK ι}{a:Act}{w:World}{vs:ι}
theorem yV:stepG P main (G (b.at a (.code (.scope c)::k)) cs) w=.go (G (b.at a (.code c::.inScope c::k)) cs) w:=by simp[G,stepG,stepG.exec,Frame.at]
theorem tD:stepG P main (G (b.at a (.inScope c::k)) cs) w=.go (G (b.at a k) cs) w:=by simp[G,stepG,stepG.exec,Frame.at]
theorem El(C:aV P main R D X)(T:∀i,Terms (R i) (D i))(h:fx X fn c vs Q a w):fx X fn (.scope c) vs Q a w:=by
 intro b k cs hb hk U;have hx:X vs (G (b.at a (.code c::.inScope c::k)) cs) w:=by
  refine h b (.inScope c::k) cs hb hk fun a1 e a' w' q=>?_;cases e with
  | normal=>exact C.step rfl fun aB aF=>by rw[tD]; exact⟨(T a1).idle _,C.rely (U _ _ _ _ q) aF⟩
  | exit id =>obtain⟨k',a0,hg⟩:=U _ _ _ _ q;exact⟨k',by simp[exitTo,a0],hg⟩
  | ret=>exact U _ _ _ _ q
  | goto l=>exact U _ _ _ _ q
  | panic ch=>exact U _ _ _ _ q
  | outgrown=>exact U _ _ _ _ q
 exact C.step rfl fun aB aF=>by rw[yV]; exact⟨(T vs).idle _,C.rely hx aF⟩
end
section
variable {ι:Type}{P:Program}{KT:TypeId→Prop}{An:bC}{N0:ι→Nat}{M:ι→World→Nat→Prop}{O:ι→Nat→Prop}{R:ι→Wq}{D:ι→World→World→Array Event→Prop}{X:ι→Gq}{Hd:ι→Hq→World→Prop}
variable {fn:FuncId}{Q:dK ι}{a:Act}{w:World}{i:ι}{S:bC}{s s':AS}{l fr rl:Hq}{aA iF:TL}{v:Value}{ops:Array Oper}{j:Nat}{rest:List Nat}{o:Oper}{kt:TypeId→Bool}{pr:Prim}
structure ck(P:Program)(KT:TypeId→Prop)(An:bC)(R:ι→World→World→Prop)(D:ι→World→World→Array Event→Prop)(X:ι→Goroutine→World→Prop)(Hd:ι→List (Nat × Obj)→World→Prop)(pr:Prim):Prop where
 nx:∀f g args s v s',pr f=some g→g args s=some (v,s')→s.nx≤s'.nx
 sound:∀f g args s v s',pr f=some g→g args s=some (v,s')→Sound P KT An R D X Hd f args s v s'
theorem jb(n:Nat)(id:Nat)(ops:Array Oper)(U:Bool)(a:TL)(s:AS):eJ P kt pr (n+1) (.region id ops U) a s=if j8 ops=false then none else
  match (if U then jM P kt else vA P kt) (br P kt pr n) ops a s with
  | some (a',s')=>some (.normal,a',s')
  | none=>none:=rfl
theorem xQ(hp:∀f g args s v s',pr f=some g→g args s=some (v,s')→s.nx≤s'.nx):∀(n:Nat),(∀(c:Code) (a a':TL) (s s':AS) (e:Exit),eJ P kt pr n c a s=some (e,a',s')→s.nx≤s'.nx)∧∀f args s v s',br P kt pr n f args s=some (v,s')→s.nx≤s'.nx:=by
 intro n;have oa:∀n,(∀(c:Code) (a a':TL) (s s':AS) (e:Exit),eJ P kt pr n c a s=some (e,a',s')→s.nx≤s'.nx)→∀f args s v s',br P kt pr n f args s=some (v,s')→s.nx≤s'.nx:=by
  intro n hc f args s v s' h;unfold br at h;split at h
  ·next g hg=>exact hp f g args s v s' hg h
  ·split at h
   ·split at h
    ·split at h
     ·next e a1 s1 hb =>
      have:=hc _ _ _ _ _ _ hb;split at h;iterate 2
       ·simp at h; obtain⟨r,hr,rfl,rfl⟩:=h; exact this
      ·cases h
     ·cases h
    ·cases h
   ·cases h
 induction n with
 | zero =>
  have h0:∀(c:Code) (a a':TL) (s s':AS) (e:Exit),eJ P kt pr 0 c a s=some (e,a',s')→s.nx≤s'.nx:=fun c a a' s s' e h=>by simp[eJ] at h
  exact⟨h0,oa 0 h0⟩
 | succ n U =>
  obtain⟨U,a2⟩:=U;have h1:∀(c:Code) (a a':TL) (s s':AS) (e:Exit),eJ P kt pr (n+1) c a s=some (e,a',s')→s.nx≤s'.nx:=by
   intro c a a' s s' e h;cases c with
   | skip=>simp[eJ] at h; obtain⟨_,_,rfl⟩:=h; exact Nat.le_refl _
   | ret=>simp[eJ] at h; obtain⟨_,_,rfl⟩:=h; exact Nat.le_refl _
   | exit id=>simp[eJ] at h; obtain⟨_,_,rfl⟩:=h; exact Nat.le_refl _
   | label id=>simp[eJ] at h; obtain⟨_,_,rfl⟩:=h; exact Nat.le_refl _
   | seq x y =>
    simp only[eJ] at h;split at h
    ·next a1 s1 hx=>exact Nat.le_trans (U _ _ _ _ _ _ hx) (U _ _ _ _ _ _ h)
    ·exact U _ _ _ _ _ _ h
   | cond x y z =>
    simp only[eJ] at h;split at h;iterate 2
     ·exact U _ _ _ _ _ _ h
    ·cases h
   | block id x =>
    simp only[eJ] at h;split at h
    ·next k a1 s1 hx =>have:=U _ _ _ _ _ _ hx;split at h<;>(cases h; exact this)
    ·exact U _ _ _ _ _ _ h
   | loop x =>
    simp only[eJ] at h;split at h
    ·next a1 s1 hx=>exact Nat.le_trans (U _ _ _ _ _ _ hx) (U _ _ _ _ _ _ h)
    ·exact U _ _ _ _ _ _ h
   | scope x=>simp only[eJ] at h; exact U _ _ _ _ _ _ h
   | region id ops a0 =>
    rw[jb] at h;split at h
    ·cases h
    ·split at h
     ·next a1 s1 hx =>
      cases h;cases a0 with
      | true=>exact C5 a2 hx
      | false=>exact lE a2 _ hx
     ·cases h
   | _=>simp[eJ] at h
  exact⟨h1,oa _ h1⟩
def tH(X:ι→Goroutine→World→Prop)(fn:FuncId)(x:Code)(vs:ι)(Q:dK ι)(a:Act)(w:World):Prop :=
 ∀(b:Frame) (k:List Item) (cs:List Frame),b.fn=fn→b.kind≠.early→(∀eY e a' w',Q eY e a' w'→pj X eY b k cs e a' w')→X vs (G (b.at a (.code x::.inLoop x::k)) cs) w
theorem qv(C:aV P true R D X)(T:∀i,Terms (R i) (D i))(h:fx X fn x i (uO (fun i' a' w'=>tH X fn x i' Q a' w') Q) a w):tH X fn x i Q a w:=by
 intro b k cs hb hk U;refine h b (.inLoop x::k) cs hb hk fun eY e a' w' q=>?_;cases e with
 | normal=>exact C.step rfl fun aB aF=>by rw[stepG_inLoop]; exact⟨(T eY).idle _,C.rely (q b k cs hb hk U) aF⟩
 | exit id=>exact(U _ _ _ _ q).push rfl (by simp)
 | ret=>exact(U _ _ _ _ q).push (x:=.inLoop x) rfl (by simp)
 | goto l=>exact U _ _ _ _ q
 | panic ch=>exact U _ _ _ _ q
 | outgrown=>exact U _ _ _ _ q
theorem wC(C:aV P true R D X)(T:∀i,Terms (R i) (D i))(h:tH X fn x i Q a w):fx X fn (.loop x) i Q a w:=fun b k cs U hk hc =>C.step rfl fun aB aF=>by rw[stepG_loop]; exact⟨(T i).idle _,C.rely (h b k cs U hk hc) aF⟩
def uW(P:Program)(KT:TypeId→Prop)(An:bC)(kt:TypeId→Bool)(pr:Prim)(X:ι→Goroutine→World→Prop)(Hd:ι→List (Nat × Obj)→World→Prop)(n:Nat):Prop :=
 ∀(c:Code) (fn:FuncId) (aA iF:TL) (s s':AS) (e:Exit) (S:bC) (l fr:List (Nat × Obj)) (i:ι) (w:World) (a:Act) (Q:dK ι),eJ P kt pr n c aA s=some (e,iF,s')→eK P KT An S s l→Hd i (l++fr) w→AR (VR S) aA.toArray a.tmps→a.defers=[]→(∀b,s.nx≤b→b<s'.nx→S b=none) →
   Lx P KT An Hd S s s' fr iF (fun i' a' w'=>Q i' e a' w')→fx X fn c i Q a w∧∀x,c=.loop x→tH X fn x i Q a w
theorem only(h:fx X fn c i Q a w)(U:∀x,c≠.loop x):fx X fn c i Q a w∧∀x,c=.loop x→tH X fn x i Q a w:=⟨h,fun x e=>absurd e (U x)⟩
theorem gH (Y : Cy P KT N0 M O R D X Hd) (hm : P.follows .mixedOrders = true) (Ao : ∀ t, kt t = false → ¬ KT t) (hp : ck P KT An R D X Hd pr) (mU : ∀ (f : FuncId) (aJ : Func), P.funcs[f]? = some aJ → (aJ.name == "runtime.NumGoroutine") = false) : ∀ (n : Nat),
  uW P KT An kt pr X Hd n ∧
  ∀f args s v s',br P kt pr n f args s=some (v,s')→Sound P KT An R D X Hd f args s v s':=by
 intro n
 have oa:∀n,uW P KT An kt pr X Hd n→∀f args s v s',br P kt pr n f args s=some (v,s')→Sound P KT An R D X Hd f args s v s':=by
  intro n hC f args s v s' h
  unfold br at h
  split at h
  ·
   next g hg=>exact hp.sound f g args s v s' hg h
  ·
   split at h
   ·
    next aJ hf =>
    split at h
    ·
     next c hb =>
     split at h
     ·
      next e a1 s1 PQ =>
      have hex:(e=.normal∨e=.ret)∧(dA P aJ a1 s1).map (·,s1)=some (v,s'):=by
       split at h
       ·
        exact ⟨.inl rfl,h⟩
       ·
        exact ⟨.inr rfl,h⟩
       ·
        cases h
      obtain ⟨hex,h⟩:=hex
      simp only [Option.map_eq_some_iff,Prod.mk.injEq] at h
      obtain ⟨r,hr,rfl,rfl⟩:=h
      intro S l fr i w args' hS hF hA np
      refine ⟨aJ,c,hf,mU f aJ hf,hb,?_⟩
      refine (hC c f _ a1 s s1 e S l fr i w _ _ PQ hS hF ?_ rfl np ?_).1
      ·
       have:args.toList.length=args'.size:=by rw [← hA.1]; simp
       have h2:=hA.append (AR.replicate (S:=S) (x:=undef) (v:=undef) (aJ.ntmps-args'.size) VR.undef)
       have he:(args.toList++List.replicate (aJ.ntmps-args.toList.length) undef).toArray=args++Array.replicate (aJ.ntmps-args'.size) undef:=by
        apply Array.toList_inj.1
        rw [this]
        simp
       rw [he]
       exact h2
      ·
       intro i' S' l' w' a' h1 h2 h3 h4 h5 h6
       refine ⟨hex,h6,fun aB VN=>?_⟩
       have FZ:=(Y.Z h4).rely h4 VN
       obtain ⟨v',hv,pM⟩:=uG Y h3 FZ h5 hr
       refine ⟨v',pM.1,?_,S',l',h1,h2,h3,FZ,hv⟩
       exact (Y.Z FZ).env.jr ((Y.Z FZ).size FZ) (Own.refl _) fun ev ju=>pM.2 ev (mem_seen ju)
     ·
      cases h
    ·
     cases h
   ·
    cases h
 induction n with
 | zero =>
  have h0:uW P KT An kt pr X Hd 0:=fun c fn aA iF s s' e S l fr i w a Q h=>by simp [eJ] at h
  exact ⟨h0,oa 0 h0⟩
 | succ n ih =>
  obtain ⟨ih,YF⟩:=ih
  have nx:=xQ (P:=P) (kt:=kt) hp.nx n
  have h1:uW P KT An kt pr X Hd (n+1):=?_
  ·
   exact ⟨h1,oa _ h1⟩
  intro c fn aA iF s s' e S l fr i w a Q h hS hF hA hd np K
  cases c with
  | skip=>simp [eJ] at h; obtain ⟨rfl,rfl,rfl⟩:=h; exact only (mc Y.C Y.T (K i S l w a (bC.le_refl S) (fun _ _=>rfl) hS hF hA hd)) (by simp)
  | ret=>simp [eJ] at h; obtain ⟨rfl,rfl,rfl⟩:=h; exact only (oZ Y.C Y.T (K i S l w a (bC.le_refl S) (fun _ _=>rfl) hS hF hA hd)) (by simp)
  | exit id=>simp [eJ] at h; obtain ⟨rfl,rfl,rfl⟩:=h; exact only (oY Y.C Y.T (K i S l w a (bC.le_refl S) (fun _ _=>rfl) hS hF hA hd)) (by simp)
  | label id=>simp [eJ] at h; obtain ⟨rfl,rfl,rfl⟩:=h; exact only (Ej Y.C Y.T (K i S l w a (bC.le_refl S) (fun _ _=>rfl) hS hF hA hd)) (by simp)
  | seq x y =>
   refine only ?_ (by simp)
   simp only [eJ] at h
   split at h
   ·
    next a1 s1 hx =>
    have n1:=nx.1 _ _ _ _ _ _ hx
    have n2:=nx.1 _ _ _ _ _ _ h
    refine bS Y.C Y.T (ih x fn aA a1 s s1 .normal S l fr i w a _ hx hS hF hA hd (fun b h1 h2=>np b h1 (by omega)) ?_).1
    intro i1 S1 l1 w1 a2 q1 q2 q3 q4 q5 q6
    refine (ih y fn a1 iF s1 s' e S1 l1 fr i1 w1 a2 Q h q3 q4 q5 q6 (fun b h1 h2=>by rw [q2 b (.inr h1)]; exact np b (by omega) h2) ?_).1
    intro i2 S2 l2 w2 a3 r1 r2 r3 r4 r5 r6
    exact K i2 S2 l2 w2 a3 (bC.le_trans q1 r1) (fun b hb=>by rw [r2 b (by omega),q2 b (by omega)]) r3 r4 r5 r6
   ·
    next vG =>
    refine bS Y.C Y.T (ih x fn aA iF s s' e S l fr i w a _ h hS hF hA hd np ?_).1
    intro i1 S1 l1 w1 a2 q1 q2 q3 q4 q5 q6
    have:=K i1 S1 l1 w1 a2 q1 q2 q3 q4 q5 q6
    cases e with
    | normal=>exact absurd h (vG iF s')
    | _=>exact this
  | cond x y z =>
   refine only ?_ (by simp)
   have eI:∀t,aA.at x=.bool t→a.eval x=.bool t:=fun t ht=>by
    cases x with
    | tmp q=>have:=zJ (x:=.tmp q) hA rfl; rw [ht] at this; exact this.sc rfl
    | const q=>exact ht
    | global q=>exact ht
    | func q=>exact ht
   simp only [eJ] at h
   split at h
   ·
    next ht=>exact eG Y.C Y.T (eI true ht) (ih y fn aA iF s s' e S l fr i w a Q h hS hF hA hd np K).1
   ·
    next ht=>exact eG Y.C Y.T (eI false ht) (ih z fn aA iF s s' e S l fr i w a Q h hS hF hA hd np K).1
   ·
    cases h
  | block id x =>
   refine only ?_ (by simp)
   simp only [eJ] at h
   split at h
   ·
    next k a1 s1 hx =>
    have Tf:a1=iF∧s1=s':=by split at h<;>(cases h; exact ⟨rfl,rfl⟩)
    obtain ⟨rfl,rfl⟩:=Tf
    refine gv Y.C Y.T (ih x fn aA a1 s s1 (.exit k) S l fr i w a _ hx hS hF hA hd np ?_).1
    intro i1 S1 l1 w1 a2 q1 q2 q3 q4 q5 q6
    have:=K i1 S1 l1 w1 a2 q1 q2 q3 q4 q5 q6
    simp only [je]
    split at h
    ·
     next hk=>cases h; rw [if_pos hk]; exact this
    ·
     next hk=>cases h; rw [if_neg hk]; exact this
   ·
    next vG =>
    refine gv Y.C Y.T (ih x fn aA iF s s' e S l fr i w a _ h hS hF hA hd np ?_).1
    intro i1 S1 l1 w1 a2 q1 q2 q3 q4 q5 q6
    have:=K i1 S1 l1 w1 a2 q1 q2 q3 q4 q5 q6
    cases e with
    | exit k=>exact absurd h (vG k iF s')
    | _=>exact this
  | loop x =>
   have hl:tH X fn x i Q a w:=by
    simp only [eJ] at h
    split at h
    ·
     next a1 s1 hx =>
     have n1:=nx.1 _ _ _ _ _ _ hx
     have n2:=nx.1 _ _ _ _ _ _ h
     refine qv Y.C Y.T (ih x fn aA a1 s s1 .normal S l fr i w a _ hx hS hF hA hd (fun b h1 h2=>np b h1 (by omega)) ?_).1
     intro i1 S1 l1 w1 a2 q1 q2 q3 q4 q5 q6
     refine (ih (.loop x) fn a1 iF s1 s' e S1 l1 fr i1 w1 a2 Q h q3 q4 q5 q6 (fun b h1 h2=>by rw [q2 b (.inr h1)]; exact np b (by omega) h2) ?_).2 x rfl
     intro i2 S2 l2 w2 a3 r1 r2 r3 r4 r5 r6
     exact K i2 S2 l2 w2 a3 (bC.le_trans q1 r1) (fun b hb=>by rw [r2 b (by omega),q2 b (by omega)]) r3 r4 r5 r6
    ·
     next vG =>
     refine qv Y.C Y.T (ih x fn aA iF s s' e S l fr i w a _ h hS hF hA hd np ?_).1
     intro i1 S1 l1 w1 a2 q1 q2 q3 q4 q5 q6
     have:=K i1 S1 l1 w1 a2 q1 q2 q3 q4 q5 q6
     cases e with
     | normal=>exact absurd h (vG iF s')
     | _=>exact this
   exact ⟨wC Y.C Y.T hl,fun y hy=>by cases hy; exact hl⟩
  | scope x=>simp only [eJ] at h; exact only (El Y.C Y.T (ih x fn aA iF s s' e S l fr i w a Q h hS hF hA hd np K).1) (by simp)
  | region id ops draw =>
   refine only ?_ (by simp)
   rw [jb] at h
   split at h
   ·
    cases h
   ·
    next BP =>
    have BP:j8 ops=true:=by simpa using BP
    split at h
    ·
     next a1 s1 hx =>
     cases h
     cases draw with
     | true=>exact zS Y hm Ao YF nx.2 BP hx hS hF hA hd np K
     | false =>
      refine aP Y.C Y.T ?_
      have jB:cD P kt (br P kt pr n) ops (ops.toList.drop 0) aA s=some (iF,s'):=hx
      have:=lF (Q:=Q) (fn:=fn) Y Ao YF nx.2 BP ops.size 0 (by omega) (by omega) jB hS hF hA hd np K
      rw [List.range_eq_range']
      exact this
    ·
     cases h
  | _=>simp [eJ] at h
end
abbrev link:Go.Conc.Lib.WgLink:={ add:=199,done:=202,wait:=115,relMerge:=303,disable:=204,enable:=206,inBubble:=212,associate:=304,fatal:=305,uOr:=306,uAdd:=307,raceRead:=308,uLoad:=205,uStore:=309,disassociate:=210,semrelease:=310,acquire:=207,isAssociated:=208,uCas:=209,raceWrite:=211,semacquire:=213,orU64:=359,addU64:=360,loadU64:=311,storeU64:=361,casU64:=312,tWgP:=240,tUP:=244,tAssoc:=290,tWg:=169,tAU:=166,tU64:=164,tUint:=242,tU32:=167,tPU32:=248,tPAU:=295,tPU64:=297,tNoCopy:=161,tANoCopy:=162,tAlign64:=163 }
theorem sK:Go.Conc.Lib.WgLib prog link :=
 ⟨func199,func202,func115,func303,func204,func206,func212,func304,func305,func306,func307,func308,func205,func309,func210,func310,func207,func208,func209,func211,func213,func359,func360,func311,func361,func312,underlying240,Tryz.runUnderlying240,Tryz.sizeOf240,Tryz.isAgg240,Tryz.zeroValue240,underlying244,Tryz.runUnderlying244,Tryz.sizeOf244,Tryz.isAgg244,Tryz.zeroValue244,underlying290,Tryz.runUnderlying290,Tryz.sizeOf290,Tryz.isAgg290,Tryz.zeroValue290,underlying169,Tryz.runUnderlying169,Tryz.sizeOf169,Tryz.isAgg169,Tryz.zeroValue169,underlying166,Tryz.runUnderlying166,Tryz.sizeOf166,Tryz.isAgg166,Tryz.zeroValue166,underlying164,Tryz.runUnderlying164,Tryz.sizeOf164,Tryz.isAgg164,Tryz.zeroValue164,underlying242,Tryz.runUnderlying242,Tryz.sizeOf242,Tryz.isAgg242,Tryz.zeroValue242,underlying167,Tryz.runUnderlying167,Tryz.sizeOf167,Tryz.isAgg167,Tryz.zeroValue167,underlying248,Tryz.runUnderlying248,Tryz.sizeOf248,Tryz.isAgg248,Tryz.zeroValue248,underlying295,Tryz.runUnderlying295,Tryz.sizeOf295,Tryz.isAgg295,Tryz.zeroValue295,underlying297,Tryz.runUnderlying297,Tryz.sizeOf297,Tryz.isAgg297,Tryz.zeroValue297,underlying0,Tryz.runUnderlying0,Tryz.sizeOf0,Tryz.isAgg0,Tryz.zeroValue0,underlying3,Tryz.runUnderlying3,Tryz.sizeOf3,Tryz.isAgg3,Tryz.zeroValue3,underlying4,Tryz.runUnderlying4,Tryz.sizeOf4,Tryz.isAgg4,Tryz.zeroValue4,underlying9,Tryz.runUnderlying9,Tryz.sizeOf9,Tryz.isAgg9,Tryz.zeroValue9,underlying20,Tryz.runUnderlying20,Tryz.sizeOf20,Tryz.isAgg20,Tryz.zeroValue20,underlying21,Tryz.runUnderlying21,Tryz.sizeOf21,Tryz.isAgg21,Tryz.zeroValue21,(by kernel_rfl),(by kernel_rfl)⟩
theorem dE(s:ByteArray)(w:World)(es:Array Event):(Builtin.len_ #[9] 3 #[.string s]).events prog w es=es:=by simp[Builtin.len_,go_sem]
theorem dF(s:ByteArray)(k:IntKind)(h:Int)(w:World)(es:Array Event)(U:0≤h)(h1:h≤s.size):(Instr.sliceAt 9 (.string s) none (some (.int k h)) none).events prog w es=es:=by simp[Instr.sliceAt,Instr.slice,Instr.sliceBounds,Instr.sliceBound,underlying,underlying9,asIntOf,U,h1]
theorem dG(s:ByteArray)(k:IntKind)(h:Int)(w:World)(es:Array Event)(U:0≤h)(h1:h≤s.size):(Instr.sliceAt 9 (.string s) (some (.int k h)) none none).events prog w es=es:=by simp[Instr.sliceAt,Instr.slice,Instr.sliceBounds,Instr.sliceBound,underlying,underlying9,asIntOf,U,h1]
theorem cU(s:ByteArray)(k k':IntKind)(l h:Int)(w:World)(es:Array Event)(U:0≤l)(h1:l≤h)(h2:h≤s.size):(Instr.sliceAt 9 (.string s) (some (.int k l)) (some (.int k' h)) none).events prog w es=es:=by
 have h3:0≤h:=by omega
 simp[Instr.sliceAt,Instr.slice,Instr.sliceBounds,Instr.sliceBound,underlying,underlying9,asIntOf, *];intros;omega
theorem ft(s:ByteArray)(i:Int)(w:World)(es:Array Event)(U:0≤i)(h1:i<s.size):(Instr.index 9 (.string s) (.int .i64 i)).events prog w es=es:=by simp[Instr.index,underlying,underlying9,asIntOf, *]
theorem vB(s:ByteArray)(c:Int)(w:World)(es:Array Event):(Extern.BytealgIndexByte.indexByte #[.string s,.int .u8 c]).events prog w es=es:=by
 change Sem.events prog (do
  let b ← Extern.Bytes.bytesOf (.string s)
  let c' ← Extern.Bytes.asByte (.int .u8 c)
  match (List.range b.size).find? fun i=>b[i]! == c' with
  | some i=>pure (goInt i)
  | none=>pure (goInt (-1))) w es=_;simp only[Extern.Bytes.bytesOf,Extern.Bytes.asByte,Sem.events_bind,Sem.run_pure,Sem.events_pure,Result.evThen_ok];split<;>rfl
def Ju (s:ByteArray)(c:Int):Int:=Lib.indexByte s.data.toList c.toNat.toUInt8
theorem vJ(s:ByteArray)(c:Int):KW prog 373 #[.string s,.int .u8 c] (.int .i64 (Ju s c)):=by
 intro ι R D X C T i w;refine gn func373 (by rfl) rfl ?_;simp only[ntmps373,List.size_toArray,List.length_cons,List.length_nil,Nat.reduceAdd,Nat.reduceSub,Array.replicate_succ,Array.replicate_zero,List.push_toArray,List.append_toArray,List.nil_append,List.cons_append];refine bS C T ?_;refine aP C T ?_;simp only[ia,Nat.reduceAdd];refine bu C T rfl (by rfl) fun _ Kx U=>?_;go_simp;refine U _ ?_ (by first|(simp[go_sem]; done)|(simp[go_sem, *]; done)|(simp[go_sem,dE,dF,dG,cU,ft, *]; done));clear U Kx;try walk_nrm
 refine aS C T ?_;show fx _ _ _ _ _ _ _;refine bS C T ?_;refine aP C T ?_;simp only[ia,Nat.reduceAdd];iterate 2
  refine bu C T rfl (by rfl) fun _ Kx U=>?_
  go_simp
  refine U _ ?_ (by first|(simp[go_sem]; done)|(simp[go_sem, *]; done)|(simp[go_sem,dE,dF,dG,cU,ft, *]; done))
  clear U Kx
  try walk_nrm
 refine nB C T rfl (by rfl) rfl func386 (by rfl) (by rfl) (by kernel_rfl) (e:=Extern.BytealgIndexByte.indexByte) (by kernel_rfl) (x:=.int .i64 (Ju s c)) (args':=#[.string s,.int .u8 c]) (by simp[Act.eval]) (fun w=>Lib.run_indexByteString s c w) (fun w es=>vB s c w es) ?_;try walk_nrm
 refine bu C T rfl (by rfl) fun _ Kx U=>?_;go_simp;refine U _ ?_ (by first|(simp[go_sem]; done)|(simp[go_sem, *]; done)|(simp[go_sem,dE,dF,dG,cU,ft, *]; done));clear U Kx;try walk_nrm
 refine aS C T ?_;show fx _ _ _ _ _ _ _;refine oZ C T ?_;refine⟨.inr rfl,rfl,_,resultsC_tmp (by rfl) _,rfl,?_,rfl⟩;simp
abbrev fj:=FuncId→Array Value→AS→Option (Value × AS)
def nh(c c':fj):Prop:=∀f args s r,c f args s=some r→c' f args s=some r
section
variable {P:Program}{kt:TypeId→Bool}{pr:Prim}{c c':fj}
theorem mn(hc:nh c c'){o:Oper}{r:Value × AS}(h:bK P kt c a o s=some r):bK P kt c' a o s=some r:=by
 unfold bK at h ⊢;split
 ·next hn=>rw[if_pos hn] at h; exact h
 ·next hn =>
  rw[if_neg hn] at h;cases a0:o.op with
  | call cl =>
   rw[a0] at h;simp only at h ⊢;split
   ·next f hf =>
    rw[hf] at h;simp only at h;split
    ·next U=>rw[if_pos U] at h; exact h
    ·next U =>
     rw[if_neg U] at h;split at h
     ·next g first cap hg=>exact hc _ _ _ _ h
     ·cases h
   ·next b hb=>rw[hb] at h; exact h
   ·next h1 h2 =>
    split at h
    ·next f hf=>exact absurd hf (h1 f)
    ·next b hb=>exact absurd hb (h2 b)
    ·cases h
  | next it b=>rw[a0] at h; cases b<;>exact h
  | _=>rw[a0] at h; exact h
theorem gW(U:nh c c'):∀{rest:List Oper} {a:TL} {s:AS} {r:TL × AS},cD P kt c ops rest a s=some r→cD P kt c' ops rest a s=some r
 | [],a,s,r,h=>h
 | o::rest,a,s,r,h=>by
  unfold cD at h ⊢;split
  ·next hw =>
   rw[if_pos hw] at h;split at h
   ·next v s' ho=>rw[mn U ho]; exact gW U h
   ·cases h
  ·next hw=>rw[if_neg hw] at h; exact gW U h
theorem mq(U:nh c c'):∀{rest:List Oper} {a:TL} {s:AS} {r:List (TL × Value × AS)},og P kt c ops rest a s=some r→og P kt c' ops rest a s=some r
 | [],a,s,r,h=>h
 | o::rest,a,s,r,h=>by
  unfold og at h ⊢;split
  ·next hw =>
   rw[if_pos hw] at h;split at h
   ·next v s' ho =>
    rw[mn U ho];split at h
    ·next tr ht=>simp only; rw[mq U ht]; exact h
    ·cases h
   ·cases h
  ·next hw =>
   rw[if_neg hw] at h;split at h
   ·next tr ht=>rw[mq U ht]; exact h
   ·cases h
theorem xP(hc:nh c c'){r:TL × AS}(h:jM P kt c ops a s=some r):jM P kt c' ops a s=some r:=by
 unfold jM at h ⊢;simp only at h ⊢;split
 ·next U=>rw[if_pos U] at h; exact h
 ·next U =>
  rw[if_neg U] at h;split at h
  ·next tr ht=>rw[mq hc ht]; exact h
  ·cases h
theorem mR(h:∀c a s r,eJ P kt pr n c a s=some r→eJ P kt pr m c a s=some r):nh (br P kt pr n) (br P kt pr m):=by
 intro f args s r U;unfold br at U ⊢;split
 ·next g hg=>rw[hg] at U; exact U
 ·next hg =>
  rw[hg] at U;simp only at U;split at U
  ·next fn hf =>
   split at U
   ·next b hb =>
    split at U
    ·next e a' s' he=>rw[h _ _ _ _ he]; exact U
    ·cases U
   ·cases U
  ·cases U
theorem xO:∀(n:Nat) (c:Code) (a:TL) (s:AS) (r:Exit × TL × AS),eJ P kt pr n c a s=some r→eJ P kt pr (n+1) c a s=some r
 | 0,c,a,s,r,h=>by unfold eJ at h; cases h
 | n+1,c,a,s,r,h=>by
  have ih:=xO n;have Df:nh (br P kt pr n) (br P kt pr (n+1)):=mR ih;cases c with
  | seq x y =>
   unfold eJ at h ⊢;simp only at h ⊢;split at h
   ·next a' s' hx=>rw[ih _ _ _ _ hx]; exact ih _ _ _ _ h
   ·next hx =>
    cases U:eJ P kt pr n x a s with
    | none=>rw[U] at h; cases h
    | some q =>rw[U] at h;rw[ih _ _ _ _ U];obtain⟨e,a',s'⟩:=q;cases e<;>first|exact h|exact absurd U (hx a' s')
  | cond x y z =>
   unfold eJ at h ⊢;simp only at h ⊢;split at h;iterate 2
    ·next hb=>exact ih _ _ _ _ h
   ·cases h
  | block id x =>
   unfold eJ at h ⊢;simp only at h ⊢;cases U:eJ P kt pr n x a s with
   | none=>rw[U] at h; cases h
   | some q=>rw[U] at h; rw[ih _ _ _ _ U]; exact h
  | loop x =>
   unfold eJ at h ⊢;simp only at h ⊢;split at h
   ·next a' s' hx=>rw[ih _ _ _ _ hx]; exact ih _ _ _ _ h
   ·next hx =>
    cases U:eJ P kt pr n x a s with
    | none=>rw[U] at h; cases h
    | some q =>rw[U] at h;rw[ih _ _ _ _ U];obtain⟨e,a',s'⟩:=q;cases e<;>first|exact h|exact absurd U (hx a' s')
  | scope x=>unfold eJ at h ⊢; exact ih _ _ _ _ h
  | region id ops a0 =>
   rw[jb] at h ⊢;split
   ·next hb=>rw[if_pos hb] at h; exact h
   ·next hb =>
    rw[if_neg hb] at h;cases a0 with
    | true =>
     simp only[if_true] at h ⊢;split at h
     ·next a' s' hd=>rw[xP Df hd]; exact h
     ·cases h
    | false =>
     simp only[if_false,Bool.false_eq_true] at h ⊢;split at h
     ·next a' s' hd=>unfold vA at hd ⊢; rw[gW Df hd]; exact h
     ·cases h
  | skip=>exact h
  | ret=>exact h
  | exit id=>exact h
  | label id=>exact h
  | _=>unfold eJ at h; cases h
theorem lD(U:n≤m){c:Code}{r:Exit × TL × AS}(h:eJ P kt pr n c a s=some r):eJ P kt pr m c a s=some r:=by
 induction U with
 | refl=>exact h
 | step _ ih=>exact xO _ _ _ _ _ ih
theorem gq(U:n≤m):nh (br P kt pr n) (br P kt pr m):=mR fun _ _ _ _ h=>lD U h
end
def EF (P:Program)(kt:TypeId→Bool)(pr:Prim)(f:FuncId)(args:Array Value)(s:AS)(v:Value)(s':AS):Prop:=∃n,br P kt pr n f args s=some (v,s')
def EW (P:Program)(kt:TypeId→Bool)(pr:Prim)(c:Code)(a:TL)(s:AS)(Q:Exit→TL→AS→Prop):Prop:=∃n e a' s',eJ P kt pr n c a s=some (e,a',s')∧Q e a' s'
def EO (P:Program)(kt:TypeId→Bool)(pr:Prim)(ops:Array Oper)(rest:List Oper)(a:TL)(s:AS)(K:TL→AS→Prop):Prop:=∃n a' s',cD P kt (br P kt pr n) ops rest a s=some (a',s')∧K a' s'
def ET (P:Program)(kt:TypeId→Bool)(pr:Prim)(ops:Array Oper)(rest:List Oper)(a:TL)(s:AS)(K:List (TL × Value × AS)→Prop):Prop:=∃n tr,og P kt (br P kt pr n) ops rest a s=some tr∧K tr
section
variable {P:Program}{kt:TypeId→Bool}{pr:Prim}{a:TL}{s:AS}{Q:Exit→TL→AS→Prop}{K:TL→AS→Prop}{KT:List (TL × Value × AS)→Prop}{ops:Array Oper}{o:Oper}{rest:List Oper}{v:Value}{s1:AS}{x y:Code}
theorem EW.mono{U:Exit→TL→AS→Prop}(h:EW P kt pr c a s Q)(hq:∀e a s,Q e a s→U e a s):EW P kt pr c a s U:=by obtain⟨n,e,a',s',h1,h2⟩:=h;exact⟨n,e,a',s',h1,hq _ _ _ h2⟩
theorem EW.skip(h:Q .normal a s):EW P kt pr .skip a s Q:=⟨1,_,_,_,rfl,h⟩
theorem EW.ret(h:Q .ret a s):EW P kt pr .ret a s Q:=⟨1,_,_,_,rfl,h⟩
theorem EW.exit(h:Q (.exit id) a s):EW P kt pr (.exit id) a s Q:=⟨1,_,_,_,rfl,h⟩
def uP(P:Program)(kt:TypeId→Bool)(pr:Prim)(y:Code)(Q:Exit→TL→AS→Prop):Exit→TL→AS→Prop:=fun e a s=>match e with
 | .normal=>EW P kt pr y a s Q
 | e=>Q e a s
theorem EW.seq(h:EW P kt pr x a s (uP P kt pr y Q)):EW P kt pr (.seq x y) a s Q:=by
 obtain⟨n,e,U,s',h1,h2⟩:=h;cases e with
 | normal =>obtain⟨m,e2,a2,s2,h3,h4⟩:=h2;refine⟨max n m+1,e2,a2,s2,?_,h4⟩;unfold eJ;simp only;rw[lD (Nat.le_max_left n m) h1];exact lD (Nat.le_max_right n m) h3
 | _ =>refine⟨n+1,_,U,s',?_,h2⟩;unfold eJ;simp only;rw[h1]
theorem EW.qg(ht:a.at t=.bool true)(h:EW P kt pr x a s Q):EW P kt pr (.cond t x y) a s Q:=by obtain⟨n,e,U,s',h1,h2⟩:=h;exact⟨n+1,e,U,s',by unfold eJ; simp only; rw[ht]; exact h1,h2⟩
theorem EW.rK(ht:a.at t=.bool false)(h:EW P kt pr y a s Q):EW P kt pr (.cond t x y) a s Q:=by obtain⟨n,e,U,s',h1,h2⟩:=h;exact⟨n+1,e,U,s',by unfold eJ; simp only; rw[ht]; exact h1,h2⟩
theorem EW.cond{b:Bool}(U:a.at t=.bool b)(h1:b=true→EW P kt pr x a s Q)(h2:b=false→EW P kt pr y a s Q):EW P kt pr (.cond t x y) a s Q:=by
 cases b with
 | true=>exact EW.qg U (h1 rfl)
 | false=>exact EW.rK U (h2 rfl)
def Ff(id:Nat)(Q:Exit→TL→AS→Prop):Exit→TL→AS→Prop:=fun e a s=>match e with
 | .exit k=>if k=id then Q .normal a s else Q (.exit k) a s
 | e=>Q e a s
theorem EW.block(h:EW P kt pr x a s (Ff id Q)):EW P kt pr (.block id x) a s Q:=by
 obtain⟨n,e,a',s',h1,h2⟩:=h;unfold Ff at h2;cases e with
 | exit k =>
  simp only at h2;by_cases U:k=id
  ·rw[if_pos U] at h2;exact⟨n+1,.normal,a',s',by unfold eJ; simp only; rw[h1]; simp[U],h2⟩
  ·rw[if_neg U] at h2;exact⟨n+1,.exit k,a',s',by unfold eJ; simp only; rw[h1]; simp[U],h2⟩
 | _=>exact⟨n+1,_,a',s',by unfold eJ; simp only; rw[h1],h2⟩
theorem EW.scope(h:EW P kt pr x a s Q):EW P kt pr (.scope x) a s Q:=by obtain⟨n,e,U,s',h1,h2⟩:=h;exact⟨n+1,e,U,s',by unfold eJ; exact h1,h2⟩
theorem EW.loop(h:EW P kt pr x a s (uP P kt pr (.loop x) Q)):EW P kt pr (.loop x) a s Q:=by
 obtain⟨n,e,U,s',h1,h2⟩:=h;cases e with
 | normal =>obtain⟨m,e2,a2,s2,h3,h4⟩:=h2;refine⟨max n m+1,e2,a2,s2,?_,h4⟩;unfold eJ;simp only;rw[lD (Nat.le_max_left n m) h1];exact lD (Nat.le_max_right n m) h3
 | _ =>refine⟨n+1,_,U,s',?_,h2⟩;unfold eJ;simp only;rw[h1]
theorem EO.nil(h:K a s):EO P kt pr ops [] a s K:=⟨0,a,s,rfl,h⟩
theorem EO.op(U:Region.wanted o (bB ops a)=true)(h:bK P kt (fun _ _ _=>none) a o s=some (v,s1))(k:EO P kt pr ops rest (a.put o.dst v) s1 K):EO P kt pr ops (o::rest) a s K:=by obtain⟨n,a',s',h1,h2⟩:=k;refine⟨n,a',s',?_,h2⟩;unfold cD;rw[if_pos U,mn (fun f args s r hr=>by cases hr) h];exact h1
theorem BA{c:fj}(a0:o.op=.call cl)(a1:cl.callee=.value f)(a2:jh P f=false)(hf:a.at f=.func (.func g) first cap)(U:first++cl.args.map a.at++cap=args):bK P kt c a o s=c g args s:=by
 unfold bK;have hn:eV o.op=false:=by rw[a0]; rfl
 rw[if_neg (by rw[hn]; simp),a0];simp only;rw[a1];simp only;rw[if_neg (by rw[a2]; simp),hf];simp only;rw[U]
theorem EO.call(hw:Region.wanted o (bB ops a)=true)(a2:o.op=.call cl)(a0:cl.callee=.value f)(a1:jh P f=false)(hf:a.at f=.func (.func g) first cap)(U:first++cl.args.map a.at++cap=args)(h:EF P kt pr g args s v s1)(k:EO P kt pr ops rest (a.put o.dst v) s1 K):EO P kt pr ops (o::rest) a s K:=by obtain⟨n,a',s',h1,h2⟩:=k;obtain⟨m,h⟩:=h;refine⟨max n m,a',s',?_,h2⟩;unfold cD;rw[if_pos hw,BA a2 a0 a1 hf U,gq (Nat.le_max_right n m) _ _ _ _ h];exact gW (gq (Nat.le_max_left n m)) h1
theorem EW.region(a0:j8 ops=true)(h:EO P kt pr ops ops.toList a s (fun U s'=>Q .normal U s')):EW P kt pr (.region id ops false) a s Q:=by obtain⟨n,U,s',h1,h2⟩:=h;refine⟨n+1,.normal,U,s',?_,h2⟩;rw[jb,if_neg (by rw[a0]; simp)];simp only[if_false,Bool.false_eq_true];unfold vA;rw[h1]
theorem ET.nil(h:KT []):ET P kt pr ops [] a s KT:=⟨0,[],rfl,h⟩
theorem ET.op(U:Region.wanted o (bB ops a)=true)(h:bK P kt (fun _ _ _=>none) a o s=some (v,s1))(k:ET P kt pr ops rest (a.put o.dst v) s1 (fun tr=>KT ((a,v,s1)::tr))):ET P kt pr ops (o::rest) a s KT:=by obtain⟨n,tr,h1,h2⟩:=k;refine⟨n,_,?_,h2⟩;unfold og;rw[if_pos U,mn (fun f args s r hr=>by cases hr) h];simp only;rw[h1]
theorem ET.pass(U:Region.wanted o (bB ops a)=false)(k:ET P kt pr ops rest (a.put o.dst undef) s (fun tr=>KT ((a,undef,s)::tr))):ET P kt pr ops (o::rest) a s KT:=by obtain⟨n,tr,h1,h2⟩:=k;refine⟨n,_,?_,h2⟩;unfold og;rw[if_neg (by rw[U]; simp),h1]
theorem ET.call(hw:Region.wanted o (bB ops a)=true)(a2:o.op=.call cl)(a0:cl.callee=.value f)(a1:jh P f=false)(hf:a.at f=.func (.func g) first cap)(U:first++cl.args.map a.at++cap=args)(h:EF P kt pr g args s v s1)(k:ET P kt pr ops rest (a.put o.dst v) s1 (fun tr=>KT ((a,v,s1)::tr))):ET P kt pr ops (o::rest) a s KT:=by obtain⟨n,tr,h1,h2⟩:=k;obtain⟨m,h⟩:=h;refine⟨max n m,_,?_,h2⟩;unfold og;rw[if_pos hw,BA a2 a0 a1 hf U,gq (Nat.le_max_right n m) _ _ _ _ h];simp only;rw[mq (gq (Nat.le_max_left n m)) h1]
theorem EW.draw(a1:j8 ops=true)(hb:fO ops=true)(hd:AP P ops.toList (eO ops.toList []) (iq (eO ops.toList []) ops.toList.length)=true)
 (h:ET P kt pr ops ops.toList a s (fun tr=>oF P ops (eO ops.toList []) (iq (eO ops.toList []) ops.toList.length) tr s=true∧∃a' v s' a0 o U,tr.reverse=(a',v,s')::a0∧ops.toList.reverse=o::U∧Q .normal (a'.put o.dst v) s')):EW P kt pr (.region id ops true) a s Q:=by obtain⟨n,tr,h1,h2,a',v,s',a0,o,U,h3,h4,h5⟩:=h;refine⟨n+1,.normal,_,s',?_,h5⟩;rw[jb,if_neg (by rw[a1]; simp)];simp only[if_true];unfold jM;simp only;rw[if_neg (by rw[hb,hd]; simp),h1];simp only;rw[if_neg (by rw[h2]; simp),h3,h4]
theorem EF.of{f:FuncId}{fn:Func}{b:Code}(hp:pr f=none)(hf:P.funcs[f]?=some fn)(hb:fn.body=some b)(h:EW P kt pr b (args.toList++List.replicate (fn.ntmps-args.toList.length) undef) s (fun e U s1=>(e=.normal∨e=.ret)∧dA P fn U s1=some v∧s1=s')):EF P kt pr f args s v s':=by
 obtain⟨n,e,U,s1,h1,he,h2,rfl⟩:=h;refine⟨n,?_⟩;unfold br;rw[hp];simp only;rw[hf];simp only;rw[hb];simp only;rw[h1];rcases he with rfl|rfl
 ·simp[h2]
 ·simp[h2]
theorem EF.qN{f:FuncId}{g:Aq→AS→Option (Value × AS)}(U:pr f=some g)(h:g args s=some (v,s')):EF P kt pr f args s v s':=⟨0,by unfold br; rw[U]; exact h⟩
theorem EF.eval{f:FuncId}(n:Nat)(h:br P kt pr n f args s=some (v,s')):EF P kt pr f args s v s':=⟨n,h⟩
end
end Go.Proofs.YtgcaionclkbehaaGreatDoor
