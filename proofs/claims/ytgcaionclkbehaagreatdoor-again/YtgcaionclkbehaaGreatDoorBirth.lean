import Derived.Test.YtgcaionclkbehaaGreatDoorE11
import Derived.Conc.WgGenN3
import Derived.Lib.Bytealg
import Derived.Laws.Slices
import Derived.Laws.Runes
import Derived.Room.MakeNoZero
set_option linter.all false
set_option maxHeartbeats 2000000
set_option maxRecDepth 100000
namespace Go.Proofs.YtgcaionclkbehaaGreatDoor
section
open Go.Conc Go.RowKit Go.Lib Tryz
variable {b cp id k m n off sz:Nat}{args cap cs first:Aq}{c:Code}{x y:Operand}{s s' s0 s1 s2:AS}{i j r:Int}{a:TL}{o:Oper}{ops:Array Oper}{e pt t t' ty u:TypeId}{cl:Call}{f g:FuncId}{sl v w:Value}{α:Type}{hi lo:Option Operand}{l:Bq}{fz:Nat × Nat}{d:TypeDesc}{P:Program}{kt:TypeId→Bool}{pr:Prim}{news:Vq}
section
variable {ι:Type}{P:Program}{main:Bool}{R:ι→Wq}{D:ι→World→World→Array Event→Prop}{X:ι→Gq}{fn:FuncId}{Q:dV ι}{a:Act}{w:World}{vs:ι}
def zw{b:Frame}{k:List Item}{cs:List Frame}:stepG P main (G (b.at a (.code (.scope c)::k)) cs) w=.go (G (b.at a (.code c::.inScope c::k)) cs) w:=by simp[G,stepG,stepG.exec,Frame.at]
def ur{b:Frame}{k:List Item}{cs:List Frame}:stepG P main (G (b.at a (.inScope c::k)) cs) w=.go (G (b.at a k) cs) w:=by simp[G,stepG,stepG.exec,Frame.at]
def E6(C:bw P main R D X)(T:∀i,Terms (R i) (D i))(h:lm X fn c vs Q a w):lm X fn (.scope c) vs Q a w:=by
 intro b k g n p U;have r:X vs (G (b.at a (.code c::.inScope c::k)) g) w:=by
  refine h b (.inScope c::k) g n p fun m e t u q=>?_;cases e with
  | normal=>exact C.step rfl fun f d=>by rw[ur];exact⟨(T m).idle _,C.rely (U _ _ _ _ q) d⟩
  | exit id =>obtain⟨s,j,o⟩:=U _ _ _ _ q;exact⟨s,by simp[exitTo,j],o⟩
  | ret=>exact U _ _ _ _ q
  | goto l=>exact U _ _ _ _ q
  | panic ch=>exact U _ _ _ _ q
  | outgrown=>exact U _ _ _ _ q
 exact C.step rfl fun f d=>by rw[zw];exact⟨(T vs).idle _,C.rely r d⟩
end
section
variable {ι:Type}{P:Program}{KT:TypeId→Prop}{An:bJ}{N0:ι→Nat}{M:ι→World→Nat→Prop}{O:ι→Nat→Prop}{R:ι→Wq}{D:ι→World→World→Array Event→Prop}{X:ι→Gq}{Hd:ι→Hq→World→Prop}
variable {fn:FuncId}{Q:dV ι}{a:Act}{w:World}{i:ι}{S:bJ}{s s':AS}{l fr rl:Hq}{aA jy:TL}{v:Value}{ops:Array Oper}{j:Nat}{rest:List Nat}{o:Oper}{kt:TypeId→Bool}{pr:Prim}
structure cN(P:Program)(KT:TypeId→Prop)(An:bJ)(R:ι→Wq)(D:ι→World→World→Array Event→Prop)(X:ι→Gq)(Hd:ι→Hq→World→Prop)(pr:Prim):Prop where
 nx:∀f g args s v s',pr f=some g→g args s=some (v,s')→s.nx≤s'.nx
 sound:∀f g args s v s',pr f=some g→g args s=some (v,s')→Sound P KT An R D X Hd f args s v s'
def jl(n:Nat)(id:Nat)(ops:Array Oper)(U:Bool)(a:TL)(s:AS):eW P kt pr (n+1) (.region id ops U) a s=if kn ops=false then none else
  match (if U then jQ P kt else wA P kt) (bG P kt pr n) ops a s with
  | some (a',s')=>some (.normal,a',s')
  | none=>none:=rfl
def yx(w:∀f g b s v s',pr f=some g→g b s=some (v,s')→s.nx≤s'.nx):∀(n:Nat),(∀(c:Code) (a i:TL) (s s':AS) (e:Exit),eW P kt pr n c a s=some (e,i,s')→s.nx≤s'.nx)∧∀f b s v s',bG P kt pr n f b s=some (v,s')→s.nx≤s'.nx:=by
 intro n;have d:∀n,(∀(c:Code) (a i:TL) (s s':AS) (e:Exit),eW P kt pr n c a s=some (e,i,s')→s.nx≤s'.nx)→∀f b s v s',bG P kt pr n f b s=some (v,s')→s.nx≤s'.nx:=by
  intro n t f b s v s' h;unfold bG at h;split at h
  ·next g u=>exact w f g b s v s' u h
  ·split at h
   ·split at h
    ·split at h
     ·next e l m q =>
      have:=t _ _ _ _ _ _ q;split at h;iterate 2
       ·simp at h;obtain⟨r,A,rfl,rfl⟩:=h;exact this
      ·cases h
     ·cases h
    ·cases h
   ·cases h
 induction n with
 | zero =>
  have p:∀(c:Code) (a i:TL) (s s':AS) (e:Exit),eW P kt pr 0 c a s=some (e,i,s')→s.nx≤s'.nx:=fun c a i s s' e h=>by simp[eW] at h
  exact⟨p,d 0 p⟩
 | succ n U =>
  have⟨U,o⟩:=U;have h1:∀(c:Code) (a i:TL) (s s':AS) (e:Exit),eW P kt pr (n+1) c a s=some (e,i,s')→s.nx≤s'.nx:=by
   intro c a i s s' e h;cases c with
   | skip=>simp[eW] at h;obtain⟨_,_,rfl⟩:=h;exact Nat.le_refl _
   | ret=>simp[eW] at h;obtain⟨_,_,rfl⟩:=h;exact Nat.le_refl _
   | exit id=>simp[eW] at h;obtain⟨_,_,rfl⟩:=h;exact Nat.le_refl _
   | label id=>simp[eW] at h;obtain⟨_,_,rfl⟩:=h;exact Nat.le_refl _
   | seq x y =>
    simp only[eW] at h;split at h
    ·next l m j=>exact lT (U _ _ _ _ _ _ j) (U _ _ _ _ _ _ h)
    ·exact U _ _ _ _ _ _ h
   | cond x y z =>
    simp only[eW] at h;split at h;iterate 2
     ·exact U _ _ _ _ _ _ h
    ·cases h
   | block id x =>
    simp only[eW] at h;split at h
    ·next k l m j =>have:=U _ _ _ _ _ _ j;split at h<;>(cases h;exact this)
    ·exact U _ _ _ _ _ _ h
   | loop x =>
    simp only[eW] at h;split at h
    ·next l m j=>exact lT (U _ _ _ _ _ _ j) (U _ _ _ _ _ _ h)
    ·exact U _ _ _ _ _ _ h
   | scope x=>simp only[eW] at h;exact U _ _ _ _ _ _ h
   | region id ops a0 =>
    rw[jl] at h;split at h
    ·cases h
    ·split at h
     ·next l m j =>
      cases h;cases a0 with
      | true=>exact DR o j
      | false=>exact lV o _ j
     ·cases h
   | _=>simp[eW] at h
  exact⟨h1,d _ h1⟩
def uw(X:ι→Gq)(fn:FuncId)(x:Code)(vs:ι)(Q:dV ι)(a:Act)(w:World):Prop :=
 ∀(b:Frame) (k:List Item) (cs:List Frame),b.fn=fn→b.kind≠.early→(∀gI e a' w',Q gI e a' w'→pX X gI b k cs e a' w')→X vs (G (b.at a (.code x::.inLoop x::k)) cs) w
def re(C:bw P true R D X)(T:∀i,Terms (R i) (D i)){x:Code}(h:lm X fn x i (vz (fun p f n=>uw X fn x p Q f n) Q) a w):uw X fn x i Q a w:=by
 intro b k g j m U;refine h b (.inLoop x::k) g j m fun d e f n q=>?_;cases e with
 | normal=>exact C.step rfl fun o c=>by rw[stepG_inLoop];exact⟨(T d).idle _,C.rely (q b k g j m U) c⟩
 | exit id=>exact(U _ _ _ _ q).push rfl iq
 | ret=>exact(U _ _ _ _ q).push (x:=.inLoop x) rfl iq
 | goto l=>exact U _ _ _ _ q
 | panic ch=>exact U _ _ _ _ q
 | outgrown=>exact U _ _ _ _ q
def xl(C:bw P true R D X)(T:∀i,Terms (R i) (D i)){x:Code}(h:uw X fn x i Q a w):lm X fn (.loop x) i Q a w:=fun b k e U g f =>C.step rfl fun d c=>by rw[stepG_loop];exact⟨(T i).idle _,C.rely (h b k e U g f) c⟩
def vH(P:Program)(KT:TypeId→Prop)(An:bJ)(kt:TypeId→Bool)(pr:Prim)(X:ι→Gq)(Hd:ι→Hq→World→Prop)(n:Nat):Prop :=
 ∀(c:Code) (fn:FuncId) (aA jy:TL) (s s':AS) (e:Exit) (S:bJ) (l fr:Hq) (i:ι) (w:World) (a:Act) (Q:dV ι),eW P kt pr n c aA s=some (e,jy,s')→eK P KT An S s l→Hd i (l++fr) w→AR (VR S) aA.toArray a.tmps→a.defers=[]→(∀b,s.nx≤b→b<s'.nx→S b=none) →
   L8 P KT An Hd S s s' fr jy (fun i' a' w'=>Q i' e a' w')→lm X fn c i Q a w∧∀x,c=.loop x→uw X fn x i Q a w
def only(h:lm X fn c i Q a w)(U:∀x,c≠.loop x):lm X fn c i Q a w∧∀x,c=.loop x→uw X fn x i Q a w:=⟨h,fun x e=>absurd e (U x)⟩
def gR (Y : Cy P KT N0 M O R D X Hd) (hm : P.follows .mixedOrders = true) (AG : ∀ t, kt t = false → ¬ KT t) (hp : cN P KT An R D X Hd pr) (uU : ∀ (f : FuncId) (aM : Func), P.funcs[f]? = some aM → (aM.name == "runtime.NumGoroutine") = false) : ∀ (n : Nat),
  vH P KT An kt pr X Hd n ∧
  ∀f args s v s',bG P kt pr n f args s=some (v,s')→Sound P KT An R D X Hd f args s v s':=by
 intro n
 have BP:∀n,vH P KT An kt pr X Hd n→∀f args s v s',bG P kt pr n f args s=some (v,s')→Sound P KT An R D X Hd f args s v s':=by
  intro n hC f args s v s' h
  unfold bG at h
  split at h
  ·
   next g hg=>exact hp.sound f g args s v s' hg h
  ·
   split at h
   ·
    next aM hf =>
    split at h
    ·
     next c hb =>
     split at h
     ·
      next e a1 s1 O6 =>
      have hex:(e=.normal∨e=.ret)∧(du P aM a1 s1).map (·,s1)=some (v,s'):=by
       split at h
       ·
        exact ⟨.inl rfl,h⟩
       ·
        exact ⟨.inr rfl,h⟩
       ·
        cases h
      obtain ⟨hex,h⟩:=hex
      simp only [Option.map_eq_some_iff,Prod.mk.injEq] at h
      obtain ⟨r,hr,rfl,rfl⟩:=h
      intro S l fr i w args' hS hF hA ql
      refine ⟨aM,c,hf,uU f aM hf,hb,?_⟩
      refine (hC c f _ a1 s s1 e S l fr i w _ _ O6 hS hF ?_ rfl ql ?_).1
      ·
       have:args.toList.length=args'.size:=by rw [← hA.1]; simp
       have h2:=hA.append (AR.replicate (S:=S) (x:=undef) (v:=undef) (aM.ntmps-args'.size) VR.undef)
       have he:(args.toList++List.replicate (aM.ntmps-args.toList.length) undef).toArray=args++Array.replicate (aM.ntmps-args'.size) undef:=by
        apply Array.toList_inj.1
        rw [this]
        simp
       rw [he]
       exact h2
      ·
       intro i' S' l' w' a' h1 h2 h3 h4 h5 h6
       refine ⟨hex,h6,fun aE Td=>?_⟩
       have GC:=(Y.Z h4).rely h4 Td
       obtain ⟨v',hv,Pq⟩:=vn Y h3 GC h5 hr
       refine ⟨v',Pq.1,?_,S',l',h1,h2,h3,GC,hv⟩
       exact (Y.Z GC).env.jA ((Y.Z GC).size GC) (Own.refl _) fun ev Fh=>Pq.2 ev (mem_seen Fh)
     ·
      cases h
    ·
     cases h
   ·
    cases h
 induction n with
 | zero =>
  have h0:vH P KT An kt pr X Hd 0:=fun c fn aA jy s s' e S l fr i w a Q h=>by simp [eW] at h
  exact ⟨h0,BP 0 h0⟩
 | succ n ih =>
  obtain ⟨ih,Vp⟩:=ih
  have nx:=yx (P:=P) (kt:=kt) hp.nx n
  have h1:vH P KT An kt pr X Hd (n+1):=?_
  ·
   exact ⟨h1,BP _ h1⟩
  intro c fn aA jy s s' e S l fr i w a Q h hS hF hA hd ql K
  cases c with
  | skip=>simp [eW] at h; obtain ⟨rfl,rfl,rfl⟩:=h; exact only (mB Y.C Y.T (K i S l w a (bJ.le_refl S) (fun _ _=>rfl) hS hF hA hd)) iq
  | ret=>simp [eW] at h; obtain ⟨rfl,rfl,rfl⟩:=h; exact only (pO Y.C Y.T (K i S l w a (bJ.le_refl S) (fun _ _=>rfl) hS hF hA hd)) iq
  | exit id=>simp [eW] at h; obtain ⟨rfl,rfl,rfl⟩:=h; exact only (pM Y.C Y.T (K i S l w a (bJ.le_refl S) (fun _ _=>rfl) hS hF hA hd)) iq
  | label id=>simp [eW] at h; obtain ⟨rfl,rfl,rfl⟩:=h; exact only (E5 Y.C Y.T (K i S l w a (bJ.le_refl S) (fun _ _=>rfl) hS hF hA hd)) iq
  | seq x y =>
   refine only ?_ iq
   simp only [eW] at h
   split at h
   ·
    next a1 s1 hx =>
    have n1:=nx.1 _ _ _ _ _ _ hx
    have n2:=nx.1 _ _ _ _ _ _ h
    refine cj Y.C Y.T (ih x fn aA a1 s s1 .normal S l fr i w a _ hx hS hF hA hd (fun b h1 h2=>ql b h1 oq) ?_).1
    intro i1 S1 l1 w1 a2 q1 q2 q3 q4 q5 q6
    refine (ih y fn a1 jy s1 s' e S1 l1 fr i1 w1 a2 Q h q3 q4 q5 q6 (fun b h1 h2=>by rw [q2 b (.inr h1)]; exact ql b oq h2) ?_).1
    intro i2 S2 l2 w2 a3 r1 r2 r3 r4 r5 r6
    exact K i2 S2 l2 w2 a3 (bJ.le_trans q1 r1) (fun b hb=>by rw [r2 b oq,q2 b oq]) r3 r4 r5 r6
   ·
    next I5 =>
    refine cj Y.C Y.T (ih x fn aA jy s s' e S l fr i w a _ h hS hF hA hd ql ?_).1
    intro i1 S1 l1 w1 a2 q1 q2 q3 q4 q5 q6
    have:=K i1 S1 l1 w1 a2 q1 q2 q3 q4 q5 q6
    cases e with
    | normal=>exact absurd h (I5 jy s')
    | _=>exact this
  | cond x y z =>
   refine only ?_ iq
   have sI:∀t,aA.at x=.bool t→a.eval x=.bool t:=fun t ht=>by
    cases x with
    | tmp q=>have:=Ae (x:=.tmp q) hA rfl; rw [ht] at this; exact this.sc rfl
    | const q=>exact ht
    | global q=>exact ht
    | func q=>exact ht
   simp only [eW] at h
   split at h
   ·
    next ht=>exact eU Y.C Y.T (sI true ht) (ih y fn aA jy s s' e S l fr i w a Q h hS hF hA hd ql K).1
   ·
    next ht=>exact eU Y.C Y.T (sI false ht) (ih z fn aA jy s s' e S l fr i w a Q h hS hF hA hd ql K).1
   ·
    cases h
  | block id x =>
   refine only ?_ iq
   simp only [eW] at h
   split at h
   ·
    next k a1 s1 hx =>
    have Ps:a1=jy∧s1=s':=by split at h<;>(cases h; exact ⟨rfl,rfl⟩)
    obtain ⟨rfl,rfl⟩:=Ps
    refine gD Y.C Y.T (ih x fn aA a1 s s1 (.exit k) S l fr i w a _ hx hS hF hA hd ql ?_).1
    intro i1 S1 l1 w1 a2 q1 q2 q3 q4 q5 q6
    have:=K i1 S1 l1 w1 a2 q1 q2 q3 q4 q5 q6
    simp only [jp]
    split at h
    ·
     next hk=>cases h; rw [ip hk]; exact this
    ·
     next hk=>cases h; rw [iw hk]; exact this
   ·
    next I5 =>
    refine gD Y.C Y.T (ih x fn aA jy s s' e S l fr i w a _ h hS hF hA hd ql ?_).1
    intro i1 S1 l1 w1 a2 q1 q2 q3 q4 q5 q6
    have:=K i1 S1 l1 w1 a2 q1 q2 q3 q4 q5 q6
    cases e with
    | exit k=>exact absurd h (I5 k jy s')
    | _=>exact this
  | loop x =>
   have hl:uw X fn x i Q a w:=by
    simp only [eW] at h
    split at h
    ·
     next a1 s1 hx =>
     have n1:=nx.1 _ _ _ _ _ _ hx
     have n2:=nx.1 _ _ _ _ _ _ h
     refine re Y.C Y.T (ih x fn aA a1 s s1 .normal S l fr i w a _ hx hS hF hA hd (fun b h1 h2=>ql b h1 oq) ?_).1
     intro i1 S1 l1 w1 a2 q1 q2 q3 q4 q5 q6
     refine (ih (.loop x) fn a1 jy s1 s' e S1 l1 fr i1 w1 a2 Q h q3 q4 q5 q6 (fun b h1 h2=>by rw [q2 b (.inr h1)]; exact ql b oq h2) ?_).2 x rfl
     intro i2 S2 l2 w2 a3 r1 r2 r3 r4 r5 r6
     exact K i2 S2 l2 w2 a3 (bJ.le_trans q1 r1) (fun b hb=>by rw [r2 b oq,q2 b oq]) r3 r4 r5 r6
    ·
     next I5 =>
     refine re Y.C Y.T (ih x fn aA jy s s' e S l fr i w a _ h hS hF hA hd ql ?_).1
     intro i1 S1 l1 w1 a2 q1 q2 q3 q4 q5 q6
     have:=K i1 S1 l1 w1 a2 q1 q2 q3 q4 q5 q6
     cases e with
     | normal=>exact absurd h (I5 jy s')
     | _=>exact this
   exact ⟨xl Y.C Y.T hl,fun y hy=>by cases hy; exact hl⟩
  | scope x=>simp only [eW] at h; exact only (E6 Y.C Y.T (ih x fn aA jy s s' e S l fr i w a Q h hS hF hA hd ql K).1) iq
  | region id ops draw =>
   refine only ?_ iq
   rw [jl] at h
   split at h
   ·
    cases h
   ·
    next Fj =>
    have Fj:kn ops=true:=by simpa using Fj
    split at h
    ·
     next a1 s1 hx =>
     cases h
     cases draw with
     | true=>exact Ap Y hm AG Vp nx.2 Fj hx hS hF hA hd ql K
     | false =>
      refine aR Y.C Y.T ?_
      have yI:cW P kt (bG P kt pr n) ops (ops.toList.drop 0) aA s=some (jy,s'):=hx
      have:=lW (Q:=Q) (fn:=fn) Y AG Vp nx.2 Fj ops.size 0 oq oq yI hS hF hA hd ql K
      rw [List.range_eq_range']
      exact this
    ·
     cases h
  | _=>simp [eW] at h
end
abbrev link:Go.Conc.Lib.WgLink:={ add:=199,done:=202,wait:=115,relMerge:=303,disable:=204,enable:=206,inBubble:=212,associate:=304,fatal:=305,uOr:=306,uAdd:=307,raceRead:=308,uLoad:=205,uStore:=309,disassociate:=210,semrelease:=310,acquire:=207,isAssociated:=208,uCas:=209,raceWrite:=211,semacquire:=213,orU64:=359,addU64:=360,loadU64:=311,storeU64:=361,casU64:=312,tWgP:=240,tUP:=244,tAssoc:=290,tWg:=169,tAU:=166,tU64:=164,tUint:=242,tU32:=167,tPU32:=248,tPAU:=295,tPU64:=297,tNoCopy:=161,tANoCopy:=162,tAlign64:=163 }
def tO:Go.Conc.Lib.WgLib prog link :=
 ⟨func199,func202,func115,func303,func204,func206,func212,func304,func305,func306,func307,func308,func205,func309,func210,func310,func207,func208,func209,func211,func213,func359,func360,func311,func361,func312,underlying240,Tryz.runUnderlying240,Tryz.sizeOf240,Tryz.isAgg240,Tryz.zeroValue240,underlying244,Tryz.runUnderlying244,Tryz.sizeOf244,Tryz.isAgg244,Tryz.zeroValue244,underlying290,Tryz.runUnderlying290,Tryz.sizeOf290,Tryz.isAgg290,Tryz.zeroValue290,underlying169,Tryz.runUnderlying169,Tryz.sizeOf169,Tryz.isAgg169,Tryz.zeroValue169,underlying166,Tryz.runUnderlying166,Tryz.sizeOf166,Tryz.isAgg166,Tryz.zeroValue166,underlying164,Tryz.runUnderlying164,Tryz.sizeOf164,Tryz.isAgg164,Tryz.zeroValue164,underlying242,Tryz.runUnderlying242,Tryz.sizeOf242,Tryz.isAgg242,Tryz.zeroValue242,underlying167,Tryz.runUnderlying167,Tryz.sizeOf167,Tryz.isAgg167,Tryz.zeroValue167,underlying248,Tryz.runUnderlying248,Tryz.sizeOf248,Tryz.isAgg248,Tryz.zeroValue248,underlying295,Tryz.runUnderlying295,Tryz.sizeOf295,Tryz.isAgg295,Tryz.zeroValue295,underlying297,Tryz.runUnderlying297,Tryz.sizeOf297,Tryz.isAgg297,Tryz.zeroValue297,underlying0,Tryz.runUnderlying0,Tryz.sizeOf0,Tryz.isAgg0,Tryz.zeroValue0,underlying3,Tryz.runUnderlying3,Tryz.sizeOf3,Tryz.isAgg3,Tryz.zeroValue3,underlying4,Tryz.runUnderlying4,Tryz.sizeOf4,Tryz.isAgg4,Tryz.zeroValue4,underlying9,Tryz.runUnderlying9,Tryz.sizeOf9,Tryz.isAgg9,Tryz.zeroValue9,underlying20,Tryz.runUnderlying20,Tryz.sizeOf20,Tryz.isAgg20,Tryz.zeroValue20,underlying21,Tryz.runUnderlying21,Tryz.sizeOf21,Tryz.isAgg21,Tryz.zeroValue21,kq,kq⟩
def kM(s:ByteArray)(w:World)(es:Array Event):(Builtin.len_ #[9] 3 #[.string s]).events prog w es=es:=by simp[Builtin.len_,go_sem]
def nS(s:ByteArray)(k:IntKind)(h:Int)(w:World)(es:Array Event)(U:0≤h)(h1:h≤s.size):(Instr.sliceAt 9 (.string s) none (some (.int k h)) none).events prog w es=es:=by simp[Instr.sliceAt,Instr.slice,Instr.sliceBounds,Instr.sliceBound,underlying,underlying9,asIntOf,U,h1]
def nU(s:ByteArray)(k:IntKind)(h:Int)(w:World)(es:Array Event)(U:0≤h)(h1:h≤s.size):(Instr.sliceAt 9 (.string s) (some (.int k h)) none none).events prog w es=es:=by simp[Instr.sliceAt,Instr.slice,Instr.sliceBounds,Instr.sliceBound,underlying,underlying9,asIntOf,U,h1]
def kN(s:ByteArray)(k k':IntKind)(l h:Int)(w:World)(es:Array Event)(U:0≤l)(h1:l≤h)(h2:h≤s.size):(Instr.sliceAt 9 (.string s) (some (.int k l)) (some (.int k' h)) none).events prog w es=es:=by
 have h3:0≤h:=oq
 simp[Instr.sliceAt,Instr.slice,Instr.sliceBounds,Instr.sliceBound,underlying,underlying9,asIntOf, *];intros;omega
def qW(s:ByteArray)(i:Int)(w:World)(es:Array Event)(U:0≤i)(h1:i<s.size):(Instr.index 9 (.string s) (.int .i64 i)).events prog w es=es:=by simp[Instr.index,underlying,underlying9,asIntOf, *]
def Ao{s:ByteArray}{i:Nat}(h:i<s.size)(U:(s[i]'h).toNat<128):Utf8.decode s i=((s[i]'h).toNat,1):=by
 have e:(s.get! (i+0)).toNat=(s[i]'h).toNat:=by rw[Nat.add_zero];congr 1;cases s;exact getElem!_pos _ i h
 unfold Utf8.decode;simp only[e];rw[ip U]
def wC(s:ByteArray)(c:Int)(w:World)(es:Array Event):(Extern.BytealgIndexByte.indexByte #[.string s,.int .u8 c]).events prog w es=es:=by
 change Sem.events prog (do
  let b ← Extern.Bytes.bytesOf (.string s)
  let c' ← Extern.Bytes.asByte (.int .u8 c)
  match (List.range b.size).find? fun i=>b[i]! == c' with
  | some i=>pure (goInt i)
  | none=>pure (goInt (-1))) w es=_;simp only[Extern.Bytes.bytesOf,Extern.Bytes.asByte,Sem.events_bind,Sem.run_pure,Sem.events_pure,Result.evThen_ok];split<;>rfl
def JR (s:ByteArray)(c:Int):Int:=Lib.indexByte s.data.toList c.toNat.toUInt8
def wG(s:ByteArray)(c:Int):Ln prog 373 #[.string s,.int .u8 c] (.int .i64 (JR s c)):=by
 intro d R D X C T i w;refine gz func373 rq rfl ?_;simp only[ntmps373,bZ,Nat.reduceAdd,Nat.reduceSub];refine cj C T ?_;refine aR C T ?_;simp only[ga];refine dh C T rfl rq fun _ a U=>?_;go_simp;refine U _ ?_ (by first|(simp[go_sem];done)|(simp[go_sem, *];done)|(simp[go_sem,kM,nS,nU,kN,qW, *];done));try walk_nrm
 refine bq C T ?_;refine cj C T ?_;refine aR C T ?_;simp only[ga,Nat.reduceAdd];iterate 2
  refine dh C T rfl rq fun _ a U=>?_
  go_simp
  refine U _ ?_ (by first|(simp[go_sem];done)|(simp[go_sem, *];done)|(simp[go_sem,kM,nS,nU,kN,qW, *];done))
  try walk_nrm
 refine n5 C T rfl rq rfl func386 rq rq kq (e:=Extern.BytealgIndexByte.indexByte) kq (x:=.int .i64 (JR s c)) (args':=#[.string s,.int .u8 c]) (by simp[Act.eval]) (fun w=>Lib.run_indexByteString s c w) (fun w b=>wC s c w b) ?_;try walk_nrm
 refine dh C T rfl rq fun _ a U=>?_;go_simp;refine U _ ?_ (by first|(simp[go_sem];done)|(simp[go_sem, *];done)|(simp[go_sem,kM,nS,nU,kN,qW, *];done));try walk_nrm
 refine bq C T ?_;refine pO C T ?_;refine⟨.inr rfl,rfl,_,resultsC_tmp rq _,rfl,?_,rfl⟩;simp
abbrev ft:=FuncId→Aq→AS→Option (Value × AS)
def nF(c c':ft):Prop:=∀f args s r,c f args s=some r→c' f args s=some r
section
variable {P:Program}{kt:TypeId→Bool}{pr:Prim}{c c':ft}
def mM(k:nF c c'){r:Value × AS}(h:bM P kt c a o s=some r):bM P kt c' a o s=some r:=by
 unfold bM at h ⊢;split
 ·next i=>rw[ip i] at h;exact h
 ·next i =>
  rw[iw i] at h;cases a0:o.op with
  | call cl =>
   rw[a0] at h;simp only at h ⊢;split
   ·next f e =>
    rw[e] at h;simp only at h;split
    ·next U=>rw[ip U] at h;exact h
    ·next U =>
     rw[iw U] at h;split at h
     ·next g first j l=>exact k _ _ _ _ h
     ·cases h
   ·next b d=>rw[d] at h;exact h
   ·next h1 h2 =>
    split at h
    ·next f e=>exact absurd e (h1 f)
    ·next b d=>exact absurd d (h2 b)
    ·cases h
  | next m b=>rw[a0] at h;cases b<;>exact h
  | _=>rw[a0] at h;exact h
def ik(U:nF c c'):∀{rest:List Oper} {a:TL} {s:AS} {r:TL × AS},cW P kt c ops rest a s=some r→cW P kt c' ops rest a s=some r
 | [],a,s,r,h=>h
 | o::rest,a,s,r,h=>by
  unfold cW at h ⊢;split
  ·next hw =>
   rw[ip hw] at h;split at h
   ·next v s' ho=>rw[mM U ho];exact ik U h
   ·cases h
  ·next hw=>rw[iw hw] at h;exact ik U h
def mO(U:nF c c'):∀{rest:List Oper} {a:TL} {s:AS} {r:List (TL × Value × AS)},oM P kt c ops rest a s=some r→oM P kt c' ops rest a s=some r
 | [],a,s,r,h=>h
 | o::rest,a,s,r,h=>by
  unfold oM at h ⊢;split
  ·next hw =>
   rw[ip hw] at h;split at h
   ·next v s' ho =>
    rw[mM U ho];split at h
    ·next tr ht=>simp only;rw[mO U ht];exact h
    ·cases h
   ·cases h
  ·next hw =>
   rw[iw hw] at h;split at h
   ·next tr ht=>rw[mO U ht];exact h
   ·cases h
def yw(b:nF c c'){r:TL × AS}(h:jQ P kt c ops a s=some r):jQ P kt c' ops a s=some r:=by
 unfold jQ at h ⊢;simp only at h ⊢;split
 ·next U=>rw[ip U] at h;exact h
 ·next U =>
  rw[iw U] at h;split at h
  ·next e d=>rw[mO b d];exact h
  ·cases h
def nt(h:∀c a s r,eW P kt pr n c a s=some r→eW P kt pr m c a s=some r):nF (bG P kt pr n) (bG P kt pr m):=by
 intro f i s r U;unfold bG at U ⊢;split
 ·next g d=>rw[d] at U;exact U
 ·next d =>
  rw[d] at U;simp only at U;split at U
  ·next l p =>
   split at U
   ·next b o =>
    split at U
    ·next e k q j=>rw[h _ _ _ _ j];exact U
    ·cases U
   ·cases U
  ·cases U
def yv:∀(n:Nat) (c:Code) (a:TL) (s:AS) (r:Exit × TL × AS),eW P kt pr n c a s=some r→eW P kt pr (n+1) c a s=some r
 | 0,c,a,s,r,h=>by unfold eW at h;cases h
 | n+1,c,a,s,r,h=>by
  have ih:=yv n;have MM:nF (bG P kt pr n) (bG P kt pr (n+1)):=nt ih;cases c with
  | seq x y =>
   unfold eW at h ⊢;simp only at h ⊢;split at h
   ·next a' s' hx=>rw[ih _ _ _ _ hx];exact ih _ _ _ _ h
   ·next hx =>
    cases U:eW P kt pr n x a s with
    | none=>rw[U] at h;cases h
    | some q =>rw[U] at h;rw[ih _ _ _ _ U];have⟨e,a',s'⟩:=q;cases e<;>first|exact h|exact absurd U (hx a' s')
  | cond x y z =>
   unfold eW at h ⊢;simp only at h ⊢;split at h;iterate 2
    ·next hb=>exact ih _ _ _ _ h
   ·cases h
  | block id x =>
   unfold eW at h ⊢;simp only at h ⊢;cases U:eW P kt pr n x a s with
   | none=>rw[U] at h;cases h
   | some q=>rw[U] at h;rw[ih _ _ _ _ U];exact h
  | loop x =>
   unfold eW at h ⊢;simp only at h ⊢;split at h
   ·next a' s' hx=>rw[ih _ _ _ _ hx];exact ih _ _ _ _ h
   ·next hx =>
    cases U:eW P kt pr n x a s with
    | none=>rw[U] at h;cases h
    | some q =>rw[U] at h;rw[ih _ _ _ _ U];have⟨e,a',s'⟩:=q;cases e<;>first|exact h|exact absurd U (hx a' s')
  | scope x=>unfold eW at h ⊢;exact ih _ _ _ _ h
  | region id ops a0 =>
   rw[jl] at h ⊢;split
   ·next hb=>rw[ip hb] at h;exact h
   ·next hb =>
    rw[iw hb] at h;cases a0 with
    | true =>
     simp only[if_true] at h ⊢;split at h
     ·next a' s' hd=>rw[yw MM hd];exact h
     ·cases h
    | false =>
     simp only[if_false,Bool.false_eq_true] at h ⊢;split at h
     ·next a' s' hd=>unfold wA at hd ⊢;rw[ik MM hd];exact h
     ·cases h
  | skip=>exact h
  | ret=>exact h
  | exit id=>exact h
  | label id=>exact h
  | _=>unfold eW at h;cases h
def lU(U:n≤m){c:Code}{r:Exit × TL × AS}(h:eW P kt pr n c a s=some r):eW P kt pr m c a s=some r:=by
 induction U with
 | refl=>exact h
 | step _ b=>exact yv _ _ _ _ _ b
def gB(U:n≤m):nF (bG P kt pr n) (bG P kt pr m):=nt fun _ _ _ _ h=>lU U h
end
def EF (P:Program)(kt:TypeId→Bool)(pr:Prim)(f:FuncId)(args:Aq)(s:AS)(v:Value)(s':AS):Prop:=∃n,bG P kt pr n f args s=some (v,s')
def EW (P:Program)(kt:TypeId→Bool)(pr:Prim)(c:Code)(a:TL)(s:AS)(Q:Exit→TL→AS→Prop):Prop:=∃n e a' s',eW P kt pr n c a s=some (e,a',s')∧Q e a' s'
def EO (P:Program)(kt:TypeId→Bool)(pr:Prim)(ops:Array Oper)(rest:List Oper)(a:TL)(s:AS)(K:TL→AS→Prop):Prop:=∃n a' s',cW P kt (bG P kt pr n) ops rest a s=some (a',s')∧K a' s'
def ET (P:Program)(kt:TypeId→Bool)(pr:Prim)(ops:Array Oper)(rest:List Oper)(a:TL)(s:AS)(K:List (TL × Value × AS)→Prop):Prop:=∃n tr,oM P kt (bG P kt pr n) ops rest a s=some tr∧K tr
section
variable {P:Program}{kt:TypeId→Bool}{pr:Prim}{a:TL}{s:AS}{Q:Exit→TL→AS→Prop}{K:TL→AS→Prop}{KT:List (TL × Value × AS)→Prop}{ops:Array Oper}{o:Oper}{rest:List Oper}{v:Value}{s1:AS}{x y:Code}
def EW.mono{U:Exit→TL→AS→Prop}(h:EW P kt pr c a s Q)(d:∀e a s,Q e a s→U e a s):EW P kt pr c a s U:=by have⟨n,e,b,f,h1,h2⟩:=h;exact⟨n,e,b,f,h1,d _ _ _ h2⟩
def EW.skip(h:Q .normal a s):EW P kt pr .skip a s Q:=⟨1,_,_,_,rfl,h⟩
def EW.ret(h:Q .ret a s):EW P kt pr .ret a s Q:=⟨1,_,_,_,rfl,h⟩
def EW.exit(h:Q (.exit id) a s):EW P kt pr (.exit id) a s Q:=⟨1,_,_,_,rfl,h⟩
def vA(P:Program)(kt:TypeId→Bool)(pr:Prim)(y:Code)(Q:Exit→TL→AS→Prop):Exit→TL→AS→Prop:=fun e a s=>match e with
 | .normal=>EW P kt pr y a s Q
 | e=>Q e a s
def EW.seq(h:EW P kt pr x a s (vA P kt pr y Q)):EW P kt pr (.seq x y) a s Q:=by
 have⟨n,e,U,f,h1,h2⟩:=h;cases e with
 | normal =>obtain⟨m,c,b,g,h3,d⟩:=h2;refine⟨max n m+1,c,b,g,?_,d⟩;unfold eW;simp only;rw[lU (Nat.le_max_left n m) h1];exact lU (Nat.le_max_right n m) h3
 | _ =>refine⟨n+1,_,U,f,?_,h2⟩;unfold eW;simp only;rw[h1]
def EW.ew{t:Operand}(b:a.at t=.bool true)(h:EW P kt pr x a s Q):EW P kt pr (.cond t x y) a s Q:=by have⟨n,e,U,c,h1,h2⟩:=h;exact⟨n+1,e,U,c,by unfold eW;simp only;rw[b];exact h1,h2⟩
def EW.dL{t:Operand}(b:a.at t=.bool false)(h:EW P kt pr y a s Q):EW P kt pr (.cond t x y) a s Q:=by have⟨n,e,U,c,h1,h2⟩:=h;exact⟨n+1,e,U,c,by unfold eW;simp only;rw[b];exact h1,h2⟩
def EW.cond{t:Operand}{b:Bool}(U:a.at t=.bool b)(h1:b=true→EW P kt pr x a s Q)(h2:b=false→EW P kt pr y a s Q):EW P kt pr (.cond t x y) a s Q:=by
 cases b with
 | true=>exact EW.ew U (h1 rfl)
 | false=>exact EW.dL U (h2 rfl)
def F2(b:Nat)(Q:Exit→TL→AS→Prop):Exit→TL→AS→Prop:=fun e a s=>match e with
 | .exit k=>if k=b then Q .normal a s else Q (.exit k) a s
 | e=>Q e a s
def EW.block(h:EW P kt pr x a s (F2 id Q)):EW P kt pr (.block id x) a s Q:=by
 have⟨n,e,b,c,h1,h2⟩:=h;unfold F2 at h2;cases e with
 | exit k =>
  simp only at h2;by_cases U:k=id
  ·rw[ip U] at h2;exact⟨n+1,.normal,b,c,by unfold eW;simp only;rw[h1];simp[U],h2⟩
  ·rw[iw U] at h2;exact⟨n+1,.exit k,b,c,by unfold eW;simp only;rw[h1];simp[U],h2⟩
 | _=>exact⟨n+1,_,b,c,by unfold eW;simp only;rw[h1],h2⟩
def EW.scope(h:EW P kt pr x a s Q):EW P kt pr (.scope x) a s Q:=by have⟨n,e,U,b,h1,h2⟩:=h;exact⟨n+1,e,U,b,by unfold eW;exact h1,h2⟩
def EW.loop(h:EW P kt pr x a s (vA P kt pr (.loop x) Q)):EW P kt pr (.loop x) a s Q:=by
 have⟨n,e,U,f,h1,h2⟩:=h;cases e with
 | normal =>obtain⟨m,c,b,g,h3,d⟩:=h2;refine⟨max n m+1,c,b,g,?_,d⟩;unfold eW;simp only;rw[lU (Nat.le_max_left n m) h1];exact lU (Nat.le_max_right n m) h3
 | _ =>refine⟨n+1,_,U,f,?_,h2⟩;unfold eW;simp only;rw[h1]
def EO.nil(h:K a s):EO P kt pr ops [] a s K:=⟨0,a,s,rfl,h⟩
def EO.op(U:Region.wanted o (bK ops a)=true)(h:bM P kt (fun _ _ _=>none) a o s=some (v,s1))(k:EO P kt pr ops rest (a.put o.dst v) s1 K):EO P kt pr ops (o::rest) a s K:=by have⟨n,c,e,h1,h2⟩:=k;refine⟨n,c,e,?_,h2⟩;unfold cW;rw[ip U,mM (fun f b s r d=>by cases d) h];exact h1
def BQ{f:Operand}{c:ft}(b:o.op=.call cl)(d:cl.callee=.value f)(e:js P f=false)(h:a.at f=.func (.func g) first cap)(U:first++cl.args.map a.at++cap=args):bM P kt c a o s=c g args s:=by
 unfold bM;have i:eI o.op=false:=by rw[b];rfl
 rw[iw (by rw[i];simp),b];simp only;rw[d];simp only;rw[iw (by rw[e];simp),h];simp only;rw[U]
def EO.call{f:Operand}(j:Region.wanted o (bK ops a)=true)(e:o.op=.call cl)(c:cl.callee=.value f)(d:js P f=false)(i:a.at f=.func (.func g) first cap)(U:first++cl.args.map a.at++cap=args)(h:EF P kt pr g args s v s1)(k:EO P kt pr ops rest (a.put o.dst v) s1 K):EO P kt pr ops (o::rest) a s K:=by have⟨n,b,l,h1,h2⟩:=k;have⟨m,h⟩:=h;refine⟨max n m,b,l,?_,h2⟩;unfold cW;rw[ip j,BQ e c d i U,gB (Nat.le_max_right n m) _ _ _ _ h];exact ik (gB (Nat.le_max_left n m)) h1
def EW.region(c:kn ops=true)(h:EO P kt pr ops ops.toList a s (fun U b=>Q .normal U b)):EW P kt pr (.region id ops false) a s Q:=by have⟨n,U,b,h1,h2⟩:=h;refine⟨n+1,.normal,U,b,?_,h2⟩;rw[jl,iw (by rw[c];simp)];simp only[if_false,Bool.false_eq_true];unfold wA;rw[h1]
def ET.nil(h:KT []):ET P kt pr ops [] a s KT:=⟨0,[],rfl,h⟩
def ET.op(U:Region.wanted o (bK ops a)=true)(h:bM P kt (fun _ _ _=>none) a o s=some (v,s1))(k:ET P kt pr ops rest (a.put o.dst v) s1 (fun c=>KT ((a,v,s1)::c))):ET P kt pr ops (o::rest) a s KT:=by have⟨n,c,h1,h2⟩:=k;refine⟨n,_,?_,h2⟩;unfold oM;rw[ip U,mM (fun f b s r d=>by cases d) h];simp only;rw[h1]
def ET.pass(U:Region.wanted o (bK ops a)=false)(k:ET P kt pr ops rest (a.put o.dst undef) s (fun b=>KT ((a,undef,s)::b))):ET P kt pr ops (o::rest) a s KT:=by have⟨n,b,h1,h2⟩:=k;refine⟨n,_,?_,h2⟩;unfold oM;rw[iw (by rw[U];simp),h1]
def ET.call{f:Operand}(j:Region.wanted o (bK ops a)=true)(e:o.op=.call cl)(c:cl.callee=.value f)(d:js P f=false)(i:a.at f=.func (.func g) first cap)(U:first++cl.args.map a.at++cap=args)(h:EF P kt pr g args s v s1)(k:ET P kt pr ops rest (a.put o.dst v) s1 (fun b=>KT ((a,v,s1)::b))):ET P kt pr ops (o::rest) a s KT:=by have⟨n,b,h1,h2⟩:=k;have⟨m,h⟩:=h;refine⟨max n m,_,?_,h2⟩;unfold oM;rw[ip j,BQ e c d i U,gB (Nat.le_max_right n m) _ _ _ _ h];simp only;rw[mO (gB (Nat.le_max_left n m)) h1]
def EW.draw(f:kn ops=true)(j:fO ops=true)(k:A4 P ops.toList (e7 ops.toList []) (iC (e7 ops.toList []) ops.toList.length)=true)
 (h:ET P kt pr ops ops.toList a s (fun d=>pd P ops (e7 ops.toList []) (iC (e7 ops.toList []) ops.toList.length) d s=true∧∃c v b e o U,d.reverse=(c,v,b)::e∧ops.toList.reverse=o::U∧Q .normal (c.put o.dst v) b)):EW P kt pr (.region id ops true) a s Q:=by have⟨n,d,h1,h2,c,v,b,e,o,U,h3,g,i⟩:=h;refine⟨n+1,.normal,_,b,?_,i⟩;rw[jl,iw (by rw[f];simp)];simp only[if_true];unfold jQ;simp only;rw[iw (by rw[j,k];simp),h1];simp only;rw[iw (by rw[h2];simp),h3,g]
def EF.of{fn:Func}{b:Code}(i:pr f=none)(g:P.funcs[f]?=some fn)(c:fn.body=some b)(h:EW P kt pr b (args.toList++List.replicate (fn.ntmps-args.toList.length) undef) s (fun e U a=>(e=.normal∨e=.ret)∧du P fn U a=some v∧a=s')):EF P kt pr f args s v s':=by
 obtain⟨n,e,U,a,h1,d,h2,rfl⟩:=h;refine⟨n,?_⟩;unfold bG;rw[i];simp only;rw[g];simp only;rw[c];simp only;rw[h1];rcases d with rfl|rfl
 ·simp[h2]
 ·simp[h2]
def EF.rC{g:Aq→AS→Option (Value × AS)}(U:pr f=some g)(h:g args s=some (v,s')):EF P kt pr f args s v s':=⟨0,by unfold bG;rw[U];exact h⟩
def EF.eval(n:Nat)(h:bG P kt pr n f args s=some (v,s')):EF P kt pr f args s v s':=⟨n,h⟩
end
def fF:Nat→Value→Bool
 | 0,_=>false
 | n+1,v=>match v with
  | .agg x=>x.toList.all (fF n)
  | .tuple x=>x.toList.all (fF n)
  | v=>dW v
section
variable {S:bJ}
def AR.rU{a:Aq}(h:∀x∈a.toList,VR S x x):AR (VR S) a a:=⟨rfl,fun i x y U b=>by rw[U] at b;cases b;exact h x (by rw[Array.mem_toList_iff];exact Array.mem_of_getElem? U)⟩
def AR.B3{a b:Aq}(h:AR (VR S) a b)(U:∀x∈a.toList,∀y,VR S x y→y=x):b=a:=by
 apply Array.toList_inj.1;apply List.ext_getElem?;intro i;rw[Array.getElem?_toList,Array.getElem?_toList];by_cases c:i<a.size
 ·have h1:a[i]?=some a[i]:=gF c;have h2:b[i]?=some (b[i]'(by rw[← h.1];exact c)):=gF _;rw[h1,h2];rw[U _ iq _ (h.2 i _ _ h1 h2)]
 ·have h2:¬i<b.size:=by rw[← h.1];exact c
  rw[Array.getElem?_eq_none (Nat.le_of_not_lt h2),Array.getElem?_eq_none (Nat.le_of_not_lt c)]
def VR.flat:∀{n:Nat} {x v:Value},fF n x=true→VR S x v→v=x
 | 0,x,v,h,_=>by simp[fF] at h
 | n+1,x,v,h,hr=>by
  unfold fF at h;split at h
  ·rw[aT] at h;obtain⟨p',rfl,U⟩:=hr.ag;rw[U.B3 fun x hx y hy=>VR.flat (h x hx) hy]
  ·rw[aT] at h;obtain⟨p',rfl,U⟩:=hr.tu;rw[U.B3 fun x hx y hy=>VR.flat (h x hx) hy]
  ·exact hr.sc h
def VR.of_flat:∀{n:Nat} {x:Value},fF n x=true→VR S x x
 | 0,x,h=>by simp[fF] at h
 | n+1,x,h=>by
  unfold fF at h;split at h
  ·rw[aT] at h;exact VR.yS (AR.rU fun x U=>VR.of_flat (h x U))
  ·rw[aT] at h;exact VR.sY (AR.rU fun x U=>VR.of_flat (h x U))
  ·exact VR.dE h
end
section
variable {ι:Type}{P:Program}{KT:TypeId→Prop}{An:bJ}{N0:ι→Nat}{M:ι→World→Nat→Prop}{O:ι→Nat→Prop}{R:ι→Wq}{D:ι→World→World→Array Event→Prop}{X:ι→Gq}{Hd:ι→Hq→World→Prop}{f:FuncId}{args:Aq}{s:AS}{v:Value}
def jN.mono{i:ι}{w:World}{Post U:ι→Value→World→Prop}(h:jN P R D X f args i w Post)(g:∀i v w,Post i v w→U i v w):jN P R D X f args i w U:=by have⟨a,c,h1,h2,h3,d⟩:=h;refine⟨a,c,h1,h2,h3,mA d fun k e j l q=>⟨q.1,q.2.1,fun b r=>?_⟩⟩;have⟨v,q1,q2,q3⟩:=q.2.2 b r;exact⟨v,q1,q2,g _ _ _ q3⟩
def l8(Y:Cy P KT N0 M O R D X Hd){i:ι}{w:World}:∀{l fr:Hq},Hd i (l++fr) w→Hd i fr w
 | [],fr,h=>h
 | x::l,fr,h=>l8 Y (l:=l) ((Y.Z h).drop h)
def Sound.alone(Y:Cy P KT N0 M O R D X Hd)(n:∀b,k≤b→An b=none)(d:args.toList.all (fF m)=true)(j:fF m v=true)(h:Sound P KT An R D X Hd f args ⟨[],k⟩ v s1):Sound P KT An R D X Hd f args s v s:=by
 intro S l p i w a t r q C;rw[aT] at d;have e:=q.B3 fun x g y u=>VR.flat (d x g) u;subst e;have c:∀b o,(⟨[],k⟩:AS).get b=some o→False:=fun b o U=>by unfold AS.get at U;simp at U
 refine(h An [] (l++p) i w a ⟨fun b o U=>(c b o U).elim,fun b E o G x J U=>(c b o U).elim,fun b o U=>(c b o U).elim,bJ.le_refl An⟩ r (AR.rU fun x g=>VR.of_flat (d x g)) fun b U _=>n b U).mono ?_;rintro F H I ⟨B,z,q1,q2,q3,q4,A⟩;refine⟨S,l,bJ.le_refl S,fun _ _=>rfl,t,l8 Y (l:=z) q4,?_⟩;rw[VR.flat j A];exact VR.of_flat j
def p5(P:Program)(KT:TypeId→Prop)(An:bJ)(R:ι→Wq)(D:ι→World→World→Array Event→Prop)(X:ι→Gq)(Hd:ι→Hq→World→Prop)(f:FuncId)(args:Aq)(s:AS)(v:Value)(s':AS):Prop :=
 ∀S l fr i w args',eK P KT An S s l→Hd i (l++fr) w→AR (VR S) args args'→(∀b,s.nx≤b→S b=none) →
  jN P R D X f args' i w fun i' v' w'=>∃S' l',eK P KT An S' s' l'∧Hd i' (l'++fr) w'∧VR S' v v'
def Sound.IH(h:Sound P KT An R D X Hd f args s v s'):p5 P KT An R D X Hd f args s v s':=fun S l d i w a j g e U=>(h S l d i w a j g e fun b k _=>U b k).mono fun _ _ _ ⟨c,m,_,_,q⟩=>⟨c,m,q⟩
def Sound.FN(Y:Cy P KT N0 M O R D X Hd){c:Nat}{x1:Nat × Nat × Nat}(h1:An c=some x1)(a1:∀b,k≤b→An b=none)(a3:cs.toList.all dW=true)(a7:∀b,s0.get b=if b=c then some (.cells cs t) else none)(hk:s0.nx=k)(a8:s1.get c=some (.cells cs t))(hs:s.get c=some (.cells cs t))(V:args.toList.all (fF m)=true)(hv:fF m v=true)(h:p5 P KT An R D X Hd f args s0 v s1):Sound P KT An R D X Hd f args s v s:=by
 intro S l C i w d j hF hA a9;rw[aT] at V a3;have e:=hA.B3 fun x u y hy=>VR.flat (V x u) hy;subst e;have Xx:c<k:=by
  by_cases a5:c<k
  ·exact a5
  ·rw[a1 c oq] at h1;cases h1
 have⟨g,z,e,r,q1,q2,q3,q4⟩:=j.live c _ hs;have Yu:x1=(g,z,e):=by have:=j.an _ _ h1;rw[q1] at this;cases this;rfl
 subst Yu;have a2:∀{A B:bJ} {LF:Obj},OR A z (.cells cs t) LF→OR B z (.cells cs t) LF:=fun {A B LF} hq=>by have⟨N,r1,r2,J,K⟩:=hq;refine⟨N,r1,r2,J,fun i x y u hy=>?_⟩;have G:=a3 x (by rw[Array.mem_toList_iff];exact Array.mem_of_getElem? u);rw[(K i x y u hy).sc G];exact VR.dE G
 have⟨p,q,hl⟩:=List.append_of_mem q2;have F:(p++(g,r)::q).Perm ([(g,r)]++(p++q)):=List.perm_middle;have Q:Hd i ([(g,r)]++((p++q)++C)) w:=(Y.Z hF).perm hF (by
  rw[hl,← List.append_assoc];exact(F.append_right C).symm);have I:∀b o,s0.get b=some o→b=c∧o=.cells cs t:=fun b o U=>by
  rw[a7] at U;split at U
  ·next e=>cases U;exact⟨e,rfl⟩
  ·cases U
 refine(h An [(g,r)] ((p++q)++C) i w d ⟨fun b o U=>?_,fun b b' o r x x' U W _ _ _=>by rw[(I b o U).1,(I b' r W).1],fun b o U=>by rw[(I b o U).1,hk];exact Xx,bJ.le_refl An⟩ Q (AR.rU fun x u=>VR.of_flat (V x u)) fun b U=>a1 b (by rw[← hk];exact U)).mono ?_
 ·obtain⟨rfl,rfl⟩:=I b o U;exact⟨g,z,e,r,h1,iq,a2 q3,q4⟩
 ·rintro i' v' w' ⟨S',l',J,K,r5⟩;have⟨g2,z2,e2,H,p1,p2,p3,p4⟩:=J.live c _ a8;have he:(g2,z2,e2)=(g,z,e):=by have:=J.an _ _ h1;rw[p1] at this;cases this;rfl
  cases he;have⟨lc,ld,a4⟩:=List.append_of_mem p2;have n:(lc++(g,H)::ld).Perm ((lc++ld)++[(g,H)]):=List.perm_middle.trans (List.perm_append_singleton _ _).symm;have T:Hd i' ((lc++ld)++(([(g,H)]++(p++q))++C)) w':=(Y.Z K).perm K (by
   rw[a4]
   have:=(n.append_right ((p++q)++C)).symm;simpa[List.append_assoc] using this);refine⟨S,[(g,H)]++(p++q),bJ.le_refl S,fun _ _=>rfl,⟨fun b o U=>?_,j.inj,j.lt,j.an⟩,l8 Y T,?_⟩
  ·have⟨gb,zb,eb,ob,L,a,u3,u4⟩:=j.live b o U;by_cases E:b=c
   ·subst E;rw[hs] at U;cases U;rw[q1] at L;cases L;exact⟨g,z,e,H,q1,iq,a2 p3,u4⟩
   ·rw[hl] at a;have a6:gb≠g:=fun e'=>E (j.inj b c o _ _ _ U hs L q1 e');refine⟨gb,zb,eb,ob,L,?_,u3,u4⟩;rcases List.mem_append.1 a with a|a
    ·simp[a]
    ·rcases List.mem_cons.1 a with a|a
     ·cases a;exact absurd rfl a6
     ·simp[a]
  ·rw[VR.flat hv r5];exact VR.of_flat hv
end
def PZ:Option Obj→Option Obj→Bool
 | none,none=>true
 | some (.cells c t f),some (.cells c' t' f')=>t.beq t'&&f.1.beq f'.1&&f.2.beq f'.2&&c.toList.length.beq c'.toList.length&&(c.toList.zip c'.toList).all (fun p=>m9 20 p.1 p.2)
 | some (.stringIter x p),some (.stringIter y q)=>p.beq q&&aY x.data.toList y.data.toList
 | _,_=>false
def KL (s s':AS):Bool:=s.nx.beq s'.nx&&s.hp.length.beq s'.hp.length&&(s.hp.zip s'.hp).all fun p=>p.1.length.beq p.2.length&&(p.1.zip p.2).all fun q=>PZ q.1 q.2
def NX:Value→Value→Bool
 | .tuple x,.tuple y=>x.toList.length.beq y.toList.length&&(x.toList.zip y.toList).all (fun p=>m9 20 p.1 p.2)
 | x,y=>m9 20 x y
def UX (r:Option (Value × AS))(v:Value)(s:AS):Bool:=match r with
 | some (v',s')=>NX v' v&&KL s' s
 | none=>false
def mE{p:α × α→Bool}(c:∀q:α × α,p q=true→q.1=q.2):∀{a b:List α},a.length.beq b.length=true→(a.zip b).all p=true→a=b
 | [],[],_,_=>rfl
 | [],_::_,U,_=>by simp at U
 | _::_,[],U,_=>by simp at U
 | x::a,y::b,U,h=>by
  have a0:a.length.beq b.length=true:=by have:=Nat.eq_of_beq_eq_true U;simp only[lC,Nat.add_right_cancel_iff] at this;rw[this];exact Nat.beq_refl _
  simp only[List.zip_cons_cons,List.all_cons,Bool.and_eq_true] at h;rw[show x=y from c (x,y) h.1,mE c a0 h.2]
def qx{x y:Option Obj}(h:PZ x y=true):x=y:=by
 unfold PZ at h;split at h
 ·rfl
 ·next c t f a j U =>simp only[Bool.and_eq_true] at h;obtain⟨⟨⟨⟨h1,h2⟩,h3⟩,d⟩,g⟩:=h;have e:=mE (fun q i=>ir i) d g;have b:c=a:=Array.toList_inj.1 e;rw[Nat.eq_of_beq_eq_true h1,b,Prod.ext (Nat.eq_of_beq_eq_true h2) (Nat.eq_of_beq_eq_true h3)]
 ·simp only[Bool.and_eq_true] at h;rw[Nat.eq_of_beq_eq_true h.1,sa h.2]
 ·cases h
def oa(h:KL s s'=true):s=s':=by unfold KL at h;simp only[Bool.and_eq_true] at h;obtain⟨⟨h1,h2⟩,h3⟩:=h;have⟨a,b⟩:=s;have⟨c,d⟩:=s';have e1:b=d:=Nat.eq_of_beq_eq_true h1;have f:a=c:=mE (fun q e=>by simp only[Bool.and_eq_true] at e;exact mE (fun r g=>qx g) e.1 e.2) h2 h3;rw[e1,f]
def BC{x y:Value}(h:NX x y=true):x=y:=by
 unfold NX at h;split at h
 ·next a b =>simp only[Bool.and_eq_true] at h;have e:a=b:=Array.toList_inj.1 (mE (fun q c=>ir c) h.1 h.2);rw[e]
 ·exact ir h
def Mq{r:Option (Value × AS)}(h:UX r v s=true):r=some (v,s):=by
 unfold UX at h;split at h
 ·simp only[Bool.and_eq_true] at h;rw[BC h.1,oa h.2]
 ·cases h
def Rf:Option (TL × AS)→Bool
 | some _=>true
 | none=>false
def oA:Option (TL × AS)→TL
 | some (a,_)=>a
 | none=>[]
def oS:Option (TL × AS)→AS
 | some (_,s)=>s
 | none=>⟨[],0⟩
def R9:Option (Exit × TL × AS)→Bool
 | some (.normal,_,_)=>true
 | _=>false
def cA:Option (Exit × TL × AS)→TL
 | some (_,a,_)=>a
 | none=>[]
def cS:Option (Exit × TL × AS)→AS
 | some (_,_,s)=>s
 | none=>⟨[],0⟩
section
variable {P:Program}{kt:TypeId→Bool}{pr:Prim}{a:TL}{s:AS}{Q:Exit→TL→AS→Prop}{K:TL→AS→Prop}{KT:List (TL × Value × AS)→Prop}{ops:Array Oper}{o:Oper}{rest:List Oper}{v:Value}{s1:AS}{x y:Code}
def kL{c:ft}:∀{l m:List Oper} {a:TL} {s:AS},cW P kt c ops (l++m) a s=(match cW P kt c ops l a s with|some (a',s')=>cW P kt c ops m a' s'|none=>none)
 | [],m,a,s=>rfl
 | o::l,m,a,s=>by
  rw[List.cons_append];simp only[cW];by_cases U:Region.wanted o (bK ops a)=true
  ·simp only[ip U];cases bM P kt c a o s with
   | none=>rfl
   | some r=>exact kL
  ·simp only[iw U];exact kL
def EO.run(k n:Nat)(U:TL)(s':AS)(h:cW P kt (bG P kt pr n) ops (rest.take k) a s=some (U,s'))(c:EO P kt pr ops (rest.drop k) U s' K):EO P kt pr ops rest a s K:=by have⟨m,b,d,h1,h2⟩:=c;refine⟨max n m,b,d,?_,h2⟩;rw[← List.take_append_drop k rest,kL,ik (gB (Nat.le_max_left n m)) h];exact ik (gB (Nat.le_max_right n m)) h1
def EO.go(k n:Nat)(h:Rf (cW P kt (bG P kt pr n) ops (rest.take k) a s)=true)(U:EO P kt pr ops (rest.drop k) (oA (cW P kt (bG P kt pr n) ops (rest.take k) a s)) (oS (cW P kt (bG P kt pr n) ops (rest.take k) a s)) K):EO P kt pr ops rest a s K:=by
 generalize b:cW P kt (bG P kt pr n) ops (rest.take k) a s=q at h U;obtain _|⟨a',s'⟩:=q
 ·cases h
 ·exact EO.run k n a' s' b U
def EW.go(n:Nat)(h:R9 (eW P kt pr n c a s)=true)(k:Q .normal (cA (eW P kt pr n c a s)) (cS (eW P kt pr n c a s))):EW P kt pr c a s Q:=by
 generalize U:eW P kt pr n c a s=q at h k;unfold R9 at h;split at h
 ·exact⟨n,_,_,_,U,k⟩
 ·cases h
def cE:Option (Exit × TL × AS)→Option Exit
 | some (e,_,_)=>some e
 | none=>none
def EW.xt(n:Nat)(e:Exit)(h:cE (eW P kt pr n c a s)=some e)(k:Q e (cA (eW P kt pr n c a s)) (cS (eW P kt pr n c a s))):EW P kt pr c a s Q:=by
 generalize U:eW P kt pr n c a s=q at h k;obtain _|⟨e',a',s'⟩:=q
 ·cases h
 ·cases h;exact⟨n,_,_,_,U,k⟩
def EO.fA(args:Aq)(hw:Region.wanted o (bK ops a)=true)(a2:o.op=.call cl)(a0:cl.callee=.value (.func g))(a1:js P (.func g)=false)(U:(#[]++cl.args.map a.at++#[]:Aq)=args)(h:EF P kt pr g args s v s1)(k:EO P kt pr ops rest (a.put o.dst v) s1 K):EO P kt pr ops (o::rest) a s K :=
 EO.call hw a2 a0 a1 rfl U h k
def ET.fA(args:Aq)(hw:Region.wanted o (bK ops a)=true)(a2:o.op=.call cl)(a0:cl.callee=.value (.func g))(a1:js P (.func g)=false)(U:(#[]++cl.args.map a.at++#[]:Aq)=args)(h:EF P kt pr g args s v s1)(k:ET P kt pr ops rest (a.put o.dst v) s1 (fun tr=>KT ((a,v,s1)::tr))):ET P kt pr ops (o::rest) a s KT :=
 ET.call hw a2 a0 a1 rfl U h k
def EO.cV(s':AS)(h:s=s')(k:EO P kt pr ops rest a s' K):EO P kt pr ops rest a s K:=h▸k
def EW.cV(s':AS)(h:s=s')(k:EW P kt pr c a s' Q):EW P kt pr c a s Q:=h▸k
def EW.fill(f:(Nq)→TL)(h:a=f (fun i=>a.getD i undef))(k:∀x,EW P kt pr c (f x) s Q):EW P kt pr c a s Q:=h▸k _
def EW.dS(I:Nat→TL→AS→Prop)(h:∀m a s,I m a s→EW P kt pr c a s (fun e U s'=>match e with|.normal=>∃m',m'<m∧I m' U s'|e=>Q e U s')):∀m a s,I m a s→EW P kt pr (.loop c) a s Q:=by
 intro m;induction m using Nat.strongRecOn with
 | _ m ih =>
  intro a s hI;refine EW.loop (EW.mono (h m a s hI) fun e U s' q=>?_);unfold vA;cases e with
  | normal=>obtain⟨m',hm,a0⟩:=q;exact ih m' hm U s' a0
  | _=>exact q
end
section
variable {ι:Type}{P:Program}{KT:TypeId→Prop}{An:bJ}{N0:ι→Nat}{M:ι→World→Nat→Prop}{O:ι→Nat→Prop}{R:ι→Wq}{D:ι→World→World→Array Event→Prop}{X:ι→Gq}{Hd:ι→Hq→World→Prop}{pr:Prim}{kt:TypeId→Bool}
def ly(f:FuncId)(V:Aq→Option Value)(pr:Prim):Prim:=fun g=>if g.beq f then some fun a s=>match V a with
 | some v=>some (v,s)
 | none=>none
 else pr g
def cN.add(Y : Cy P KT N0 M O R D X Hd)(hm : P.follows .mixedOrders = true)(AG : ∀ t, kt t = false → ¬ KT t)(uU : ∀ (f : FuncId) (aM : Func), P.funcs[f]? = some aM → (aM.name == "runtime.NumGoroutine") = false)(JJ : ∀ b, k ≤ b → An b = none)(hp : cN P KT An R D X Hd pr){V : Array Value → Option Value}(hV : ∀ args v, V args = some v → args.toList.all (fF m) = true ∧ fF m v = true ∧ ∃ s1, EF P kt pr f args ⟨[], k⟩ v s1) : cN P KT An R D X Hd (ly f V pr) := by
 constructor
 ·intro g h args s v s' hf hh;unfold ly at hf;split at hf
  ·cases hf;simp only at hh;split at hh
   ·cases hh; exact Nat.le_refl _
   ·cases hh
  ·exact hp.nx g h args s v s' hf hh
 ·intro g h args s v s' hf hh;unfold ly at hf;split at hf
  ·next he =>
   have he:=Nat.eq_of_beq_eq_true he;subst he;cases hf;simp only at hh;split at hh
   ·next v' hv =>cases hh;have⟨h1,h2,s1,n,h3⟩:=hV _ _ hv;exact Sound.alone Y JJ h1 h2 ((gR Y hm AG hp uU n).2 _ _ _ _ _ h3)
   ·cases hh
  ·exact hp.sound g h args s v s' hf hh
end
abbrev str(l:Bq):Value:=.string ⟨l.toArray⟩
abbrev num(n:Int):Value:=.int .i64 n
def oW(l:List α):iK l 0=l.length:=by rw[iT,Nat.zero_add]
def zQ(h : -2000000000≤r∧r≤2000000000):iO .i64 r=r:=by unfold iO;simp only;rw[ip h]
def p9{c:Nat}{k:IntKind}(h:0≤j)(U:j≤c):bH n c none (some (.int k j))=some (0,j.toNat):=by unfold bH;simp only;rw[ip ⟨h,U⟩]
def lR{c:Nat}{k:IntKind}(h:0≤i)(U:i≤n):bH n c (some (.int k i)) none=some (i.toNat,n):=by unfold bH;simp only;rw[ip ⟨h,U⟩]
def sb{c:Nat}{k k':IntKind}(h:0≤i)(h1:i≤j)(U:j≤c):bH n c (some (.int k i)) (some (.int k' j))=some (i.toNat,j.toNat):=by unfold bH;simp only;rw[ip ⟨oq,U⟩,ip ⟨h,h1⟩]
section
variable {P:Program}{kt:TypeId→Bool}{pr:Prim}{c:ft}{a:TL}{s:AS}{Q:Exit→TL→AS→Prop}{K:TL→AS→Prop}{KT:List (TL × Value × AS)→Prop}{ops:Array Oper}{o:Oper}{rest:List Oper}{v:Value}{s1:AS}
def ec(hn:eI o.op=false)(hk:match o.op with|.load _ _|.store _ _ _|.slice _ _ _ _ _|.next _ _|.call _=>False|_=>True)(h:cb P a o=some v):bM P kt c a o s=some (v,s):=by
 unfold bM;rw[iw (by rw[hn];simp)];cases U:o.op with
 | load _ _=>rw[U] at hk;exact hk.elim
 | store _ _ _=>rw[U] at hk;exact hk.elim
 | slice _ _ _ _ _=>rw[U] at hk;exact hk.elim
 | next _ _=>rw[U] at hk;exact hk.elim
 | call _=>rw[U] at hk;exact hk.elim
 | _=>simp only[h]
def wX{i j:Nat}(U:o.op=.slice t x lo hi none)(d:P.underlying t=some .string)(f:a.at x=str l)(b:bH l.length l.length (lo.map a.at) (hi.map a.at)=some (i,j)):bM P kt c a o s=some (str ((l.take j).drop i),s):=by
 have e:fP P t (a.at x) (lo.map a.at) (hi.map a.at) ((none:Option Operand).map a.at) s=some (str ((l.take j).drop i)):=by
  unfold fP;rw[d,f];show(match bH (iK l 0) (iK l 0) (lo.map a.at) (hi.map a.at) with
   | some (l',h)=>some (Value.string ⟨((l.take h).drop l').toArray⟩)
   | none=>none)=_;rw[oW,b]
 unfold bM;rw[iw (by rw[U];simp[eI]),U];simp only;rw[e]
def gW{z}(U:o.op=.binOp .add t x y z)(e:a.at x=num i)(f:a.at y=num j)(b:i+j=r)(d : -2000000000≤r∧r≤2000000000):bM P kt c a o s=some (num r,s):=by refine ec (by rw[U];rfl) (by rw[U];trivial) ?_;unfold cb;rw[U];simp only;rw[e,f];unfold dj;simp only[ip];rw[b,zQ d]
def pg{z}{m:Bq}(U:o.op=.binOp .add t x y z)(d:a.at x=str l)(e:a.at y=str m)(b:l.length+m.length≤1000000000):bM P kt c a o s=some (str (l++m),s):=by refine ec (by rw[U];rfl) (by rw[U];trivial) ?_;unfold cb;rw[U];simp only;rw[d,e];unfold dj;simp only;rw[show iK l.toArray.toList 0=l.length from oW l,show iK m.toArray.toList 0=m.length from oW m,ip b]
def kU{i:Operand}{k:IntKind}{n:Int}{b:UInt8}(U:o.op=.index t x i)(g:P.underlying t=some .string)(h:a.at x=str l)(e:a.at i=.int k n)(f:0≤n)(d:l[n.toNat]?=some b):bM P kt c a o s=some (.int .u8 b.toNat,s):=by refine ec (by rw[U];rfl) (by rw[U];trivial) ?_;unfold cb;rw[U];simp only;rw[g,h,e];simp only;rw[ip f,show l.toArray.toList[n.toNat]?=some b from d]
def Cz{i:Operand}{sp:Option Nat}{k:IntKind}(U:o.op=.indexAddr t x i)(h:P.underlying t=some (.slice e))(d:bQ P e=some sz)(l:a.at x=.slice (some ⟨b,off,sp⟩) n cp)(g:a.at i=.int k j)(f:0≤j)(h1:j<n):bM P kt c a o s=some (am b (off+j.toNat*sz),s):=by refine ec (by rw[U];rfl) (by rw[U];trivial) ?_;unfold cb;rw[U];simp only;rw[h,l,g];simp only;rw[d];simp only;rw[ip ⟨f,h1⟩]
def bP(U:o.op=.load t x)(g:P.underlying t=some d)(e:d.isRow=false)(i:a.at x=am b off)(f:s.get b=some (.cells cs ty fz))(h:cs[off]?=some v):bM P kt c a o s=some (v,s):=by unfold bM;rw[iw (by rw[U];simp[eI]),U];simp only;unfold aC;rw[i];simp only[am,f,g,e,h,if_false,Bool.false_eq_true]
def gC(U:o.op=.store t x y)(i:a.at x=am b off)(j:a.at y=w)(e:w.cells=#[w])(g:w.oneCell'=true)(d:bQ P t=some 1)(h:s.get b=some (.cells cs ty fz))(f:off+1≤cs.size):bM P kt c a o s=some (undef,s.set b (some (.cells (putAt cs off [w]) ty fz))):=by unfold bM;rw[iw (by rw[U];simp[eI]),U];simp only;unfold iS;rw[i,j];simp only[am,h,e];rw[ip ⟨d,by simpa using f,by simp[g]⟩]
def EO.fin(n:Nat)(h:Rf (cW P kt (bG P kt pr n) ops rest a s)=true)(k:K (oA (cW P kt (bG P kt pr n) ops rest a s)) (oS (cW P kt (bG P kt pr n) ops rest a s))):EO P kt pr ops rest a s K:=by
 generalize b:cW P kt (bG P kt pr n) ops rest a s=q at h k;obtain _|⟨U,s'⟩:=q
 ·cases h
 ·exact⟨n,U,s',b,k⟩
end
def EF.one(h:EF P kt pr f args s v s1)(U:EF P kt pr f args s w s2):v=w∧s1=s2:=by have⟨n,h⟩:=h;have⟨m,U⟩:=U;have e1:=gB (P:=P) (kt:=kt) (pr:=pr) (Nat.le_max_left n m) _ _ _ _ h;have a:=gB (P:=P) (kt:=kt) (pr:=pr) (Nat.le_max_right n m) _ _ _ _ U;rw[e1] at a;cases a;exact⟨rfl,rfl⟩
def Lq (V:Aq→Option Value)(args:Aq)(s:AS):Option (Value × AS):=match V args with
 | some v=>some (v,s)
 | none=>none
def jW (f:FuncId)(V:Aq→Option Value)(pr:Prim):Prim:=fun g=>if g.beq f then some (Lq V) else pr g
def EF.al{V:Aq→Option Value}(a:pr f=some (Lq V))(U:V args=some v):EF P kt pr f args s v s:=EF.rC a (by unfold Lq;rw[U])
def UF:Option (Value × AS)→Bool
 | some _=>true
 | none=>false
def qV:Option (Value × AS)→Value
 | some (v,_)=>v
 | none=>undef
def qS:Option (Value × AS)→AS
 | some (_,s)=>s
 | none=>⟨[],0⟩
section
variable {P:Program}{kt:TypeId→Bool}{pr:Prim}{c:ft}{a:TL}{s:AS}{Q:Exit→TL→AS→Prop}{K:TL→AS→Prop}{KT:List (TL × Value × AS)→Prop}{ops:Array Oper}{o:Oper}{rest:List Oper}{v:Value}{s1:AS}
def ET.q(b:Region.wanted o (bK ops a)=true)(h:UF (bM P kt (fun _ _ _=>none) a o s)=true)(k:ET P kt pr ops rest (a.put o.dst (qV (bM P kt (fun _ _ _=>none) a o s))) (qS (bM P kt (fun _ _ _=>none) a o s)) (fun c=>KT ((a,qV (bM P kt (fun _ _ _=>none) a o s),qS (bM P kt (fun _ _ _=>none) a o s))::c))):ET P kt pr ops (o::rest) a s KT:=by
 generalize U:bM P kt (fun _ _ _=>none) a o s=q at h k;obtain _|⟨v,s'⟩:=q
 ·cases h
 ·exact ET.op b U k
def EO.q(b:Region.wanted o (bK ops a)=true)(h:UF (bM P kt (fun _ _ _=>none) a o s)=true)(k:EO P kt pr ops rest (a.put o.dst (qV (bM P kt (fun _ _ _=>none) a o s))) (qS (bM P kt (fun _ _ _=>none) a o s)) K):EO P kt pr ops (o::rest) a s K:=by
 generalize U:bM P kt (fun _ _ _=>none) a o s=q at h k;obtain _|⟨v,s'⟩:=q
 ·cases h
 ·exact EO.op b U k
def ET.cV(s':AS)(h:s=s')(k:ET P kt pr ops rest a s' KT):ET P kt pr ops rest a s KT:=h▸k
def aU{b:BinOp}{z}{u:Value}(U:o.op=.binOp b t x y z)(d:a.at x=u)(e:a.at y=w)(h:dj b u w=some v):bM P kt c a o s=some (v,s):=by refine ec (by rw[U];rfl) (by rw[U];trivial) ?_;unfold cb;rw[U];simp only;rw[d,e,h]
def da(U:o.op=.call { callee:=.builtin .len,args:=#[x],argTypes:=#[t] })(b:P.underlying t=some .string)(d:a.at x=str l):bM P kt c a o s=some (num l.length,s):=by
 have e:cb P a o=some (num l.length):=by unfold cb;rw[U];simp only;rw[b,d];show some (goInt (iK l 0))=_;rw[oW];rfl
 unfold bM;rw[iw (by rw[U];simp[eI]),U];simp only;rw[e]
def jU{m:Bq}{i j:Nat}(U:o.op=.slice t x lo hi none)(e:P.underlying t=some .string)(f:a.at x=str l)(b:bH l.length l.length (lo.map a.at) (hi.map a.at)=some (i,j))(d:(l.take j).drop i=m):bM P kt c a o s=some (str m,s):=by rw[wX U e f b,d]
def iQ{b:Bool}(h:decide (i≥j)=b):dj .geq (num i) (num j)=some (.bool b):=by unfold dj;simp only[ip];rw[h]
def e0{b:Bool}(h:decide (i>j)=b):dj .gtr (num i) (num j)=some (.bool b):=by unfold dj;simp only[ip];rw[h]
def aX{b:Bool}(h:decide (i<j)=b):dj .lss (num i) (num j)=some (.bool b):=by unfold dj;simp only[ip];rw[h]
def gP{b:Bool}(h:(i==j)=b):dj .eql (num i) (num j)=some (.bool b):=by unfold dj;simp only[ip];rw[h]
def gO{m:Bq}{b:Bool}(h:aY l m=b):dj .eql (str l) (str m)=some (.bool b):=by unfold dj;simp only;rw[h]
end
def eQ(l m:Bq):aY l m=true↔l=m:=by
 constructor
 ·intro h;induction l generalizing m with
  | nil=>cases m with
   | nil=>rfl
   | cons y m=>simp[aY] at h
  | cons x l U=>cases m with
   | nil=>simp[aY] at h
   | cons y m =>
    unfold aY at h;split at h
    ·next e=>rw[UInt8.toNat_inj.1 (Nat.eq_of_beq_eq_true e),U m h]
    ·cases h
 ·rintro rfl;induction l with
  | nil=>rfl
  | cons x l U=>unfold aY;simp[U]
def gL{m:Bq}(h:l≠m):aY l m=false:=by
 cases U:aY l m with
 | false=>rfl
 | true=>exact absurd ((eQ l m).1 U) h
def bu:Nat→Value→Bool
 | 0,_=>false
 | n+1,v=>match v with
  | .bool _|.int _ _|.string _|.pointer _|.slice _ _ _|.nilFunc|.nilIface=>true
  | .func _ x y=>x.toList.all (bu n)&&y.toList.all (bu n)
  | .agg x=>x.toList.all (bu n)
  | _=>false
def pU{p:α × α→Bool}:∀{l:List α},(∀x∈l,p (x,x)=true)→(l.zip l).all p=true
 | [],_=>rfl
 | x::l,h=>by rw[List.zip_cons_cons,List.all_cons,h x iq,pU fun y U=>h y (by simp[U])];rfl
def pK:∀{n:Nat} {v:Value},bu n v=true→m9 n v v=true
 | 0,v,h=>by simp[bu] at h
 | n+1,v,h=>by
  cases v with
  | bool b=>unfold m9;simp
  | int k i=>unfold m9;simp
  | string x=>unfold m9;exact(eQ _ _).2 rfl
  | pointer x=>unfold m9;simp
  | slice x l c=>unfold m9;simp
  | nilFunc=>unfold m9;rfl
  | nilIface=>unfold m9;rfl
  | func f x y =>unfold bu at h;simp only[Bool.and_eq_true,aT] at h;unfold m9;simp only[beq_self_eq_true,Bool.true_and,Nat.beq_refl];rw[pU fun z U=>pK (h.1 z U),pU fun z U=>pK (h.2 z U)];rfl
  | agg x =>unfold bu at h;simp only[aT] at h;unfold m9;simp only[Nat.beq_refl,Bool.true_and];exact pU fun z U=>pK (h z U)
  | _=>simp[bu] at h
def GV (P:Program)(ops:Array Oper)(q:Nat):List Nat:=(List.range q).filter fun i=>(match ops.toList[i]? with|some o=>kindOf P o|none=>0)==3
def M2(P:Program)(ops:Array Oper)(wo:List Nat)(q:Nat)(tr:List (TL × Value × AS))(s:AS):List (Option Value × Value) :=
 (List.range q).flatMap fun r=>match ops.toList[r]?,tr[r]? with
  | some o,some (a,v,_)=>match o.op with
   | .load t x=>if Region.wanted o (bK ops a) then ((0::(GV P ops q).map (·+1)).filter fun p=>!((GV P ops q).any fun e=>(e.blt p&&(wo.getD e 0).testBit r)||(!e.blt p&&(wo.getD r 0).testBit e))).map fun p=>(aC P t (a.at x) (gT tr s p),v) else []
   | _=>[]
  | _,_=>[(none,undef)]
def aK{U:List Nat}{q:Nat}{tr:List (TL × Value × AS)}(L:List (Option Value × Value))(g:M2 P ops U q tr s=L)(h:∀x∈L,x.1=some x.2∧bu 20 x.2=true):pd P ops U q tr s=true:=by
 subst g;unfold pd;simp only;rw[aT];intro r j;have b:∀x,x∈(match ops.toList[r]?,tr[r]? with
  | some o,some (a,v,_)=>match o.op with
   | .load t x=>if Region.wanted o (bK ops a) then ((0::(GV P ops q).map (·+1)).filter fun p=>!((GV P ops q).any fun e=>(e.blt p&&(U.getD e 0).testBit r)||(!e.blt p&&(U.getD r 0).testBit e))).map fun p=>(aC P t (a.at x) (gT tr s p),v) else []
   | _=>[]
  | _,_=>[(none,undef)]:List (Option Value × Value))→x.1=some x.2∧bu 20 x.2=true:=fun x k=>h x (List.mem_flatMap.2 ⟨r,j,k⟩);cases ho:ops.toList[r]? with
 | none=>rw[ho] at b;exact absurd (b (none,undef) iq).1 iq
 | some o =>
  cases ht:tr[r]? with
  | none=>rw[ho,ht] at b;exact absurd (b (none,undef) iq).1 iq
  | some z =>
   have⟨a,v,l⟩:=z;rw[ho,ht] at b;simp only at b ⊢;cases sI:o.op with
   | load t x =>
    rw[sI] at b;simp only at b ⊢;rw[aT];intro p i;by_cases d:Region.wanted o (bK ops a)=true
    ·rw[ip d] at b;by_cases f:((GV P ops q).any fun e=>(e.blt p&&(U.getD e 0).testBit r)||(!e.blt p&&(U.getD r 0).testBit e))=true
     ·rw[Bool.or_eq_true,Bool.or_eq_true];exact .inl (.inl f)
     ·have c:=b (aC P t (a.at x) (gT tr s p),v) (List.mem_map.2 ⟨p,List.mem_filter.2 ⟨i,by simpa using f⟩,rfl⟩);simp only at c;rw[c.1];simp only[pK c.2,Bool.or_true,Bool.true_or]
    ·simp only[Bool.not_eq_true] at d;rw[d];simp
   | _=>rfl
def gl{k:IntKind}{b:Bool}(h:(i==j)=b):dj .eql (.int k i) (.int k j)=some (.bool b):=by unfold dj;simp only[ip];rw[h]
def aN{f:(Nq)→TL}(h:a=f (fun j=>a.getD j undef)):∃x,a=f x:=⟨_,h⟩
section
variable {P:Program}{kt:TypeId→Bool}{pr:Prim}{c:ft}{a:TL}{s s':AS}{o:Oper}{v:Value}
def gX{r:Aq}(U:o.op=.load t x)(j:P.underlying t=some d)(f:d.isRow=true)(e:bQ P t=some n)(k:a.at x=am b off)(i:s.get b=some (.cells cs ty fz))(g:off+n≤cs.size)(h:(cs.toList.drop off |>.take n).toArray=r):bM P kt c a o s=some (.agg r,s):=by unfold bM;rw[iw (by rw[U];simp[eI]),U];simp only;unfold aC;rw[k];simp only[am,i,j,f,e,if_true];rw[ip g,h]
def qy(U:o.op=.convert t u x)(b:cb P a o=none)(h:fv P t u (a.at x) s=some v):bM P kt c a o s=some (v,s):=by unfold bM;rw[iw (by rw[U];simp[eI])];rw[U];simp only;rw[b];simp only;rw[h]
def OK{x:Value}(f:x=am b 0)(c:P.underlying t=some (.pointer e))(d:P.underlying u=some .unsafePointer)(a:s.get b=some (.cells cs ty fz))(g:bQ P e=some (k+1))(U:0<cs.size):fv P t u x s=some (am b 0):=by subst f;unfold fv;rw[c,d];simp only[am];rw[a,g];simp only;rw[ip U]
def OL{x:Value}(f:x=am b 0)(c:P.underlying t=some .unsafePointer)(d:P.underlying u=some (.pointer e))(a:s.get b=some (.cells cs ty (0,0)))(g:bQ P e=some (k+1))(U:liesAt P P.depth ty (cs.size / P.cellsOf ty) 0 e 1=true):fv P t u x s=some (am b 0):=by subst f;unfold fv;rw[c,d];simp only[am];rw[a,g];simp only;rw[ip U]
def Kn{z}(U:o.op=.binOp .neq t x y z)(f:a.at x=am b 0)(g:a.at y=am b 0)(d:P.underlying t=some (.pointer e))(h:bQ P e=some (k+1)):bM P kt c a o s=some (.bool false,s):=by
 refine ec (by rw[U];rfl) (by rw[U];trivial) ?_;unfold cb;rw[U];simp only;rw[f,g];have h1:dj .neq (am b 0) (am b 0)=none:=rfl;have h2:lS P .neq t (am b 0) (am b 0)=some (.bool false):=by unfold lS;simp only[am,d];rw[h];simp
 rw[h1,h2]
def rQ{m:Bq}(U:o.op=.call { callee:=.builtin .append,args:=#[x,y],argTypes:=#[t,t'] })(n:a.at x=sl)(p:a.at y=str m)(l:P.underlying t=some (.slice e))(d:P.underlying t'=some .string)(f:(P.info? e).map (fun i=>(i.zero,i.size,i.bytes))=some (some (Value.int .u8 0),1,1))(b:kt e=false)(g:m.length≤1000000000)(j:fI sl=true)(h:bn P e sl (strCells ⟨m.toArray⟩) m.length s=some (v,s')):bM P kt c a o s=some (v,s'):=by
 have k:cb P a o=none:=by unfold cb;rw[U]
 unfold bM;rw[iw (by rw[U];simp[eI])];rw[U];simp only;rw[k];simp only[List.map_cons,List.map_nil];rw[n,p];unfold eS;simp only;rw[l,d];simp only;rw[f];simp only;rw[ip ⟨by show m.toArray.size≤_;simpa using g,b,j⟩];show bn P e sl (strCells ⟨m.toArray⟩) m.toArray.size s=_;rw[List.size_toArray];exact h
def qM(h:sl=.slice none 0 0∨∃d n k,sl=.slice (sq d) n k):bn P e sl news 0 s=some (sl,s):=by
 rcases h with rfl|⟨d,n,k,rfl⟩
 ·rfl
 ·rfl
def gk(h:m≠0):bn P e (.slice none 0 0) news m s=some (.slice (sq s.nx) m m,s.add (.cells news.toArray e (1,1))):=by unfold bn;simp only;rw[iw h]
def fM{d:Nat}(h:m≠0)(b:s.get d=some (.cells cs e fz))(c:bQ P e=some sz)(a:n*sz≤cs.size)(U:n+m≤1000000000):bn P e (.slice (sq d) n k) news m s=some (.slice (sq s.nx) (n+m) (n+m),(s.set d none).add (.cells (cs.toList.take (n*sz)++news).toArray e (1,1))):=by unfold bn;simp only;rw[iw h,b,c];simp only;rw[ip ⟨trivial,a,U⟩]
def uO:∀(l:Bq),jF (l.map fun b=>Value.int .u8 b.toNat)=some l
 | []=>rfl
 | b::l=>by rw[List.map_cons];unfold jF;have h:=b.toNat_lt;rw[ip ⟨oq,oq⟩,uO l];simp
def wY{d:Nat}(U:o.op=.call { callee:=.builtin .unsafeString,args:=#[x,y],argTypes:=#[pt,t'] })(g:a.at x=am d 0)(n:a.at y=num l.length)(m:P.underlying pt=some (.pointer e))(k:s.get d=some (.cells (strCells ⟨l.toArray⟩).toArray e fz))(i:P.cellsOf e=1)(p:0<l.length)(h1:l.length≤1000000000):bM P kt c a o s=some (str l,s.set d none):=by
 have j:cb P a o=none:=by unfold cb;rw[U];simp only;unfold su;rw[U];rw[iw];intro f;have:((Op.call { callee:=.builtin .unsafeString,args:=#[x,y],argTypes:=#[pt,t'] }).operands.toList.all fun x=>sJ (a.at x))=(sJ (a.at x)&&(sJ (a.at y)&&true)):=rfl;rw[this,g] at f;simp[sJ,dW,am] at f
 have h:(strCells ⟨l.toArray⟩).toArray.size=l.length:=by simp[strCells]
 unfold bM;rw[iw (by rw[U];simp[eI])];rw[U];simp only;rw[j];simp only[List.map_cons,List.map_nil];rw[g,n];unfold eS;simp only[am];rw[m,k];simp only;rw[ip ⟨i,trivial,oq,oq,by rw[h];simp⟩];have:(List.take ((l.length:Int)).toNat (strCells ⟨l.toArray⟩).toArray.toList)=l.map fun b=>Value.int .u8 b.toNat:=by rw[Int.toNat_natCast];show List.take l.length (l.map fun b=>Value.int .u8 b.toNat)=_;rw[tL iq]
 rw[this,uO]
end
def tN (all:Iq)(a b:Nat):Bq:=aV ((all.drop a).take (b-a))
def OG (p u:Value):Obj:=.cells #[p,u] 119
section
variable {ι:Type}{R:ι→Wq}{D:ι→World→World→Array Event→Prop}{X:ι→Gq}{i:ι}{M:World→Nat→Prop}{O:Nat→Prop}{N0:Nat}{w:World}{Bb Rb at_:Nat}{p u v lv:Value}{n:Nat}{xs:Vq}{rl:Hq}
def B4(x:Option Addr)(n c:Nat)(w:World)(es:Array Event):(Builtin.len_ #[55] 3 #[.slice x n c]).events prog w es=es:=by simp[Builtin.len_,go_sem]
end
def wB(x:Option Addr)(n c:Nat)(w:World)(es:Array Event):(Builtin.cap_ #[55] 3 #[.slice x n c]).events prog w es=es:=by simp[Builtin.cap_,go_sem]
def Ax(x:Option Addr)(n c:Nat)(w:World)(es:Array Event):(Instr.sliceAt 55 (.slice x n c) none (some (.int .i64 0)) none).events prog w es=es:=by
 have a:(prog.info? 5).isSome=true:=kq
 have⟨U,a⟩:=Option.isSome_iff_exists.1 a;simp[Instr.sliceAt,Instr.slice,Instr.sliceBounds,Instr.sliceBound,underlying,underlying55,asIntOf,sizeOf,typeInfo,a]
def sv(x:Option Addr)(c:Nat)(w:World)(es:Array Event):(Builtin.copy_ #[55,55] 3 #[.slice x 0 c,.slice none 0 0]).events prog w es=es:=by
 have a:(prog.info? 5).isSome=true:=kq
 have⟨U,a⟩:=Option.isSome_iff_exists.1 a;cases x<;>simp[Builtin.copy_,underlying,underlying55,sizeOf,typeInfo,a,Builtin.lenOf,Builtin.firstCells,storeCells]
def Ay(w:World)(ps:Array TypeId)(t e:TypeId)(d:P.underlying t=some (.slice e))(n:Nat)(g:n≤281474976710656)(es:Array Event):∃b,(Extern.BytealgMakeNoZero.makeNoZero ps #[t] #[.int .i64 n]).events P w es=es++b∧∀f∈b,f=⟨.mark .noRoom,false,true⟩:=by
 have U:Extern.BytealgMakeNoZero.makeNoZero ps #[t] #[.int .i64 n] =
   (do
    let .slice elem ← underlying t|stuck _
    if (n:Int)<0||(n:Int)>2 ^ 48 then runtimePanic (.error _)
    let cap ← choose (.appendCap (n:Int).toNat 0 elem)
    askRoom cap
    let bytes ← choose (.extern _ 0)
    let a ← newRow elem (Extern.BytealgMakeNoZero.digits cap bytes #[])
    pure (.slice (some a) (n:Int).toNat cap)):=rfl;have h1:¬(n:Int)<0:=oq
 have h2:¬(281474976710656:Int)<(n:Int):=oq
 by_cases c:grownCap w n 0 e>roomBytes
 ·refine⟨#[⟨.mark .noRoom,false,true⟩],?_,iq⟩;rw[U];simp[h1,h2,Question.forced,newRow,askRoom,underlying,d];simpa[grownCap] using c
 ·refine⟨#[],?_,iq⟩;rw[U];simp[h1,h2,Question.forced,newRow,askRoom,underlying,d];simpa[grownCap] using c
section
variable {ι:Type}{R:ι→Wq}{D:ι→World→World→Array Event→Prop}{X:ι→Gq}{i:ι}{M:World→Nat→Prop}{O:Nat→Prop}{N0:Nat}{H:Hq→World→Prop}{w:World}{l rl:Hq}{Bb:Nat}{p v:Value}{n:Nat}{xs:Vq}
variable {fn:FuncId}{Q:dV ι}{a:Act}{vs:ι}
def Er(C:bw prog true R D X)(Z:Co eO N0 M O (R vs) (D vs) H){i:Nat}{rest:List Nat}{ats:Array TypeId}{z:Int}(n:Nat)(hn:n≤1000000000)(L:ops[i]?=some o)(N:Region.wanted o (yielded ops a.tmps)=true)(B:o.op=.call { callee:=.value (.func 378),args:=#[x],argTypes:=ats })(S:a.eval x=.int .i64 z)(V:z=(n:Int))(F:H l w)
 (h:∀b m v,n≤m.size→m.size≤maxLen→H ((b,.cells m 5)::l) v→ck X fn ops rest vs Q (a.put o.dst (.slice (sq b) n m.size)) v):ck X fn ops (i::rest) vs Q a w:=fun b k m A s I=>C.step rfl fun c r=>by
 subst V;have U:=Z.rely F r;have j:H l c.drew.drew:=Z.rely (Z.rely U (Z.env.uK _)) (Z.env.uK _);have⟨g,q,h1,h2,_⟩:=Lib.run_makeNoZero_cap (P:=prog) c #[3] 55 5 underlying55 n oq;have⟨evs,u,f⟩:=Ay (P:=prog) c #[3] 55 5 underlying55 n oq #[⟨.mark (.extern 378),false,true⟩];have d:(#[x]:Array Operand).map a.eval=#[.int .i64 (n:Int)]:=by simp[S]
 rw[stepG_entry L N s B func378 rq rq kq (e:=Extern.BytealgMakeNoZero.makeNoZero #[3] #[55]) kq (by rw[d];exact q) (evs:=evs) (by rw[d];exact u) (fun y T=>by rw[f y T];simp)];have p:Own eO M c.drew.drew (c.drew.drew.alloc (.cells g 5)):=Own.alloc (by simp[eO]);have t:Own eO M c (c.drew.drew.alloc (.cells g 5)):=⟨p.tape,p.os,p.output,p.grow,fun b G Y=>heap_alloc_old c.drew.drew _ b G,fun b W J s=>(p.kt b W J s)⟩;refine⟨Z.env.jA (Z.size U) t fun E K=>?_,h _ g _ h1 (h2 (by unfold maxLen;omega)) (Z.grown j p) b k m A s I⟩;rw[f E K];exact .inr (.inr ⟨by simp[MemAct.ofEvent,MemAct.touch?],iq,iq,by simp[MemAct.ofEvent]⟩)
end
section
variable {ι:Type}{R:ι→Wq}{D:ι→World→World→Array Event→Prop}{X:ι→Gq}{i:ι}{M:World→Nat→Prop}{O:Nat→Prop}{N0:Nat}{H:Hq→World→Prop}{w:World}{l rl:Hq}{Bb:Nat}{p v:Value}{n:Nat}{xs:Vq}
def MG(C:bw prog true R D X)(T:∀i,Terms (R i) (D i))(Z:Co eO N0 M O (R i) (D i) H)(n:Nat)(F:n≤1000000000)(c:H ((Bb,OG p (.slice none 0 0))::l) w) :
  eA prog X 344 #[.pointer (sq Bb),.int .i64 (n:Int)] i w (fun I x o=>I=i∧x=.tuple #[]∧∃g cs,n≤cs.size∧cs.size≤maxLen∧H ((g,.cells cs 5)::(Bb,OG p (.slice (sq g) 0 cs.size))::l) o):=by
 have N:=underlying9;have G:IntKind.i64.wrap (n:Int)=(n:Int):=by rw[IntKind.wrap_i64];omega
 have L:IntKind.i64.wrap 0=0:=dq
 refine gz func344 rq rfl ?_;simp only[ntmps344,bZ,Nat.reduceAdd,Nat.reduceSub];refine cj C T ?_;refine lB C Z.env.BS kq (n:=16) rfl kq (fun J r q o=>r=i∧∃(g:Nat) (cs:Aq),H ((Bb,OG p (.slice none 0 0))::(if J 8=true then (g,.cells cs 5)::l else l)) o∧(J 8=true→n≤cs.size∧cs.size≤maxLen)∧((J 14=true→J 8=true))∧((J 15=true→J 8=true))∧q=⟨#[.pointer (sq Bb),.int .i64 (n:Int),undef,undef,(if J 15=true then .slice (sq g) 0 cs.size else undef),(if J 0=true then .pointer (sq Bb) else undef),(if J 1=true then .pointer (sq Bb) else undef),(if J 2=true then .pointer (some ⟨Bb,1,none⟩) else undef),(if J 3=true then .slice none 0 0 else undef),(if J 4=true then .int .i64 0 else undef),(if J 5=true then .int .i64 0 else undef),(if J 6=true then .int .i64 (n:Int) else undef),(if J 7=true then .int .i64 (n:Int) else undef),(if J 8=true then .slice (sq g) n cs.size else undef),(if J 9=true then .pointer (sq Bb) else undef),(if J 10=true then .pointer (sq Bb) else undef),(if J 11=true then .pointer (some ⟨Bb,1,none⟩) else undef),(if J 12=true then .slice none 0 0 else undef),(if J 13=true then .int .i64 0 else undef),(if J 14=true then .slice (sq g) 0 cs.size else undef),undef,undef,undef,undef,undef,undef,undef,undef,undef,undef],[]⟩) (fun y B=>⟨rfl,0,#[],?_,iq,iq,iq,rfl⟩) ?_ ?_ ?_
 ·simpa using Z.rely (Z.rely c B) (Z.env.uK _)
 ·rintro J K r q o a ⟨rfl,g,cs,c,e,f,k,rfl⟩;simp only[a 8 dq,a 14 dq,a 15 dq] at c e f k;refine⟨rfl,g,cs,c,e,f,k,?_⟩;simp only[a 0 dq,a 1 dq,a 2 dq,a 3 dq,a 4 dq,a 5 dq,a 6 dq,a 7 dq,a 8 dq,a 9 dq,a 10 dq,a 11 dq,a 12 dq,a 13 dq,a 14 dq,a 15 dq]
 ·rintro J j r q o ⟨rfl,g,cs,c,e,f,k,rfl⟩ E a d u t;match j,E with
  | 0,_|1,_|2,_|4,_|5,_|6,_|7,_|9,_|10,_|11,_|13,_|14,_|15,_=>
   have d:=d _ rfl;simp[Region.binds] at d;try simp only[d,if_true]
   refine dh C T rfl rq fun _ s U=>?_;go_simp;refine U _ ?_ (by first|(simp[go_sem];done)|(simp[go_sem, *];done)|(simp[go_sem,wB,Ax, *];done));try walk_nrm
   refine t _ _ _ ⟨rfl,g,cs,by simpa using c,by first|(simpa using e;done)|(simp_all;done),by first|(simpa using f;done)|(simp_all;done),by first|(simpa using k;done)|(simp_all;done),?_⟩;simp[*]
  | 3,_|12,_=>
   have d:=d _ rfl;simp[Region.binds] at d;try simp only[d,if_true]
   refine kV C Z (v:=.slice none 0 0) (b:=Bb) (off:=1) 0 rfl rq rfl (by simp[Act.eval, *]) underlying55 rfl c rfl rq fun _ c=>?_;try walk_nrm
   refine t _ _ _ ⟨rfl,g,cs,by simpa using c,by first|(simpa using e;done)|(simp_all;done),by first|(simpa using f;done)|(simp_all;done),by first|(simpa using k;done)|(simp_all;done),?_⟩;simp[*]
  | 8,_=>
   have d:=d _ rfl;simp[Region.binds] at d;try simp only[d,if_true]
   have z:J 14=false:=by cases hq:J 14 with|false=>rfl|true=>rw[f hq] at a;cases a
   have A:J 15=false:=by cases hq:J 15 with|false=>rfl|true=>rw[k hq] at a;cases a
   simp only[a,Bool.false_eq_true,if_false] at c;refine Er C Z n F rfl rq rfl (by simp[Act.eval, *]) rfl c fun g cs P h1 h2 c=>?_;try walk_nrm
   refine t _ _ _ ⟨rfl,g,cs,by simpa using Z.perm c (List.Perm.swap _ _ _),fun _=>⟨h1,h2⟩,by simp[z],by simp[A],?_⟩;simp[*]
  | m+16,h=>exact absurd h oq
 ·rintro J r q o a ⟨rfl,g,cs,c,e,f,k,rfl⟩;simp only[a 0 dq,a 1 dq,a 2 dq,a 3 dq,a 4 dq,a 5 dq,a 6 dq,a 7 dq,a 8 dq,a 9 dq,a 10 dq,a 11 dq,a 12 dq,a 13 dq,a 14 dq,a 15 dq,if_true,forall_const] at c e f k ⊢;refine bq C T ?_;refine cj C T ?_;refine aR C T ?_;simp only[ga,Nat.reduceAdd];iterate 4
   refine dh C T rfl rq fun _ s U=>?_
   go_simp
   refine U _ ?_ (by first|(simp[go_sem];done)|(simp[go_sem, *];done)|(simp[go_sem,kM,nS,nU,kN,qW,B4,wB,Ax,sv, *];done))
   try walk_nrm
  refine kV C (Z) (v:=.slice none 0 0) 0 rfl rq rfl rq underlying55 rfl c rfl rq fun _ c=>?_;try walk_nrm
  refine dh C T rfl rq fun _ s U=>?_;go_simp;refine U _ ?_ (by first|(simp[go_sem];done)|(simp[go_sem, *];done)|(simp[go_sem,sv, *];done));try walk_nrm
  refine bq C T ?_;refine aR C T ?_;simp only[ga,Nat.reduceAdd];iterate 4
   refine dh C T rfl rq fun _ s U=>?_
   go_simp
   refine U _ ?_ (by first|(simp[go_sem];done)|(simp[go_sem, *];done)|(simp[go_sem,kM,nS,nU,kN,qW,B4,wB,Ax,sv, *];done))
   try walk_nrm
  refine rj C (Z) (cs:=[.slice (sq g) 0 cs.size]) (cur':=#[p,.slice (sq g) 0 cs.size]) 0 rfl rq rfl rq rq rq (by simp[Value.oneCell']) (by simp[eO]) c rfl (by first|decide|simp) (by first|rfl|(simp[putAt];done)) fun _ c=>?_;simp only[List.set] at c;try walk_nrm
  refine bq C T ?_;refine⟨.inl rfl,rfl,_,resultsC_none rq _,rfl,rfl,g,cs,e.1,e.2,?_⟩;exact Z.perm c (List.Perm.swap _ _ _)
end
end
section
open Go.Conc Go.RowKit Go.Lib Tryz
def DU(s:ByteArray)(c:Int)(w:World)(es:Array Event):(Extern.BytealgCount.count #[.string s,.int .u8 c]).events prog w es=es:=by
 change Sem.events prog (do
  let b ← Extern.Bytes.bytesOf (.string s)
  let c' ← Extern.Bytes.asByte (.int .u8 c)
  pure (goInt (b.foldl (fun n x=>if x==c' then n+1 else n) (0:Nat)))) w es=_;simp only[Extern.Bytes.bytesOf,Extern.Bytes.asByte,Sem.events_bind,Sem.run_pure,Sem.events_pure,Result.evThen_ok]
def Jr (s:ByteArray)(c:Int):Int:=(Lib.countByte s.data.toList c.toNat.toUInt8:Nat)
def Ju(s:ByteArray)(c:UInt8):Ln prog 343 #[.string s,.string ⟨#[c]⟩] (.int .i64 (Jr s c.toNat)):=by
 intro h R D X C T i w;have g:=underlying9;have h1:(⟨#[c]⟩:ByteArray).size=1:=rfl;refine gz func343 rq rfl ?_;simp only[ntmps343,bZ,Nat.reduceAdd,Nat.reduceSub];refine cj C T ?_;refine aR C T ?_;simp only[ga];refine dh C T rfl rq fun _ d a=>?_;go_simp;refine a _ ?_ (by first|(simp[go_sem];done)|(simp[go_sem, *];done)|(simp[go_sem,kM,nS,nU,kN,qW, *];done));try walk_nrm
 refine bq C T ?_;iterate 2 refine cj C T ?_
 refine aR C T ?_;simp only[ga,Nat.reduceAdd];iterate 3
  refine dh C T rfl rq fun _ d a=>?_
  go_simp
  refine a _ ?_ (by first|(simp[go_sem];done)|(simp[go_sem, *];done)|(simp[go_sem,kM, *];done))
  try walk_nrm
 refine bq C T ?_;refine vE C T rfl (fun b=>?_) (fun b=>?_)
 ·
  try simp only[OI,beq_iff_eq,bF,bne_iff_ne,bne_eq_false_iff_eq] at b
  cases b
 ·
  try simp only[b]
  try simp only at b
  refine mB C T ?_;iterate 2 refine cj C T ?_
  refine aR C T ?_;simp only[ga,Nat.reduceAdd];iterate 3
   refine dh C T rfl rq fun _ d a=>?_
   go_simp
   refine a _ ?_ (by first|(simp[go_sem];done)|(simp[go_sem, *];done)|(simp[go_sem,kM, *];done))
   try walk_nrm
  refine bq C T ?_;refine vE C T rfl (fun b=>?_) (fun b=>?_)
  ·
   try simp only[b]
   try simp only at b
   refine cj C T ?_;refine aR C T ?_;simp only[ga,Nat.reduceAdd];iterate 3
    refine dh C T rfl rq fun _ d a=>?_
    go_simp
    refine a _ ?_ (by first|(simp[go_sem];done)|(simp[go_sem, *];done)|(simp[go_sem,qW, *];done))
    try walk_nrm
   try simp only[show((⟨#[c]⟩:ByteArray)[0]).toNat=c.toNat from rfl]
   refine n5 C T rfl rq rfl func377 rq rq kq (e:=Extern.BytealgCount.count) kq (x:=.int .i64 (Jr s c.toNat)) (args':=#[.string s,.int .u8 c.toNat]) (by simp[Act.eval]) (fun w=>Lib.run_countString s c.toNat w) (fun w f=>DU s c.toNat w f) ?_;try walk_nrm
   refine dh C T rfl rq fun _ d a=>?_;go_simp;refine a _ ?_ (by first|(simp[go_sem];done)|(simp[go_sem, *];done)|(simp[go_sem,kM,nS,nU,kN,qW, *];done));try walk_nrm
   refine bq C T ?_;refine pO C T ?_;refine⟨.inr rfl,rfl,_,resultsC_tmp rq _,rfl,?_,rfl⟩;simp
  ·
   try simp only[OI,beq_iff_eq,bF,bne_iff_ne,bne_eq_false_iff_eq] at b
   simp at b
section
variable {ι:Type}{P:Program}{KT:TypeId→Prop}{An:bJ}{N0:ι→Nat}{M:ι→World→Nat→Prop}{O:ι→Nat→Prop}{R:ι→Wq}{D:ι→World→World→Array Event→Prop}{X:ι→Gq}{Hd:ι→Hq→World→Prop}{f:FuncId}{args:Aq}{s:AS}{v:Value}
def Sound.same(Y:Cy P KT N0 M O R D X Hd)(p:dW v=true)(h:∀S l c i w a,eK P KT An S s l→Hd i (l++c) w→AR (VR S) args a→eA P X f a i w (fun e x g=>x=v∧Hd e (l++c) g)):Sound P KT An R D X Hd f args s v s:=by intro S l c i w a d m k o;refine(h S l c i w a d m k).pF Y.C Y.T ?_;rintro e x g j ⟨rfl,b⟩ n;exact⟨S,l,bJ.le_refl S,fun _ _=>rfl,d,(Y.Z b).rely b n,VR.dE p⟩
def AR.sc{S:bJ}{a b:Aq}(h:AR (VR S) a b)(d:a.toList.all dW=true):b=a:=by
 apply Array.toList_inj.1;apply List.ext_getElem?;intro i;rw[Array.getElem?_toList,Array.getElem?_toList];by_cases c:i<a.size
 ·have h1:a[i]?=some a[i]:=gF c;have h2:b[i]?=some (b[i]'(by rw[← h.1];exact c)):=gF _;rw[h1,h2];rw[aT] at d;rw[(h.2 i _ _ h1 h2).sc (d _ iq)]
 ·have h2:¬i<b.size:=by rw[← h.1];exact c
  rw[Array.getElem?_eq_none (Nat.le_of_not_lt h2),Array.getElem?_eq_none (Nat.le_of_not_lt c)]
def nZ{X:ι→Gq}{i:ι}{w:World}{Post a:ι→Value→World→Prop}(h:eA P X f args i w Post)(g:∀i v w,Post i v w→a i v w):eA P X f args i w a:=by have⟨b,c,h1,h2,h3,d⟩:=h;exact⟨b,c,h1,h2,h3,mA d fun k e j l ⟨q1,q2,v,q3,q4⟩=>⟨q1,q2,v,q3,g _ _ _ q4⟩⟩
end
def jR (c:Nat):Bq→Nat→Int
 | [],_ => -1
 | b::l,k=>if b.toNat.beq c then (k:Int) else jR c l (k+1)
def v9 (c:Nat):Bq→Nat→Nat
 | [],k=>k
 | b::l,k=>if b.toNat.beq c then v9 c l (k+1) else v9 c l k
def lQ(b u:UInt8):b.toNat.beq u.toNat=(b==u):=by
 by_cases h:b=u
 ·subst h;simp
 ·have:b.toNat≠u.toNat:=fun e=>h (UInt8.toNat_inj.1 e);rw[show(b==u)=false by simp[h]];exact Bool.eq_false_iff.2 fun e=>this (Nat.eq_of_beq_eq_true e)
def Cb(u:UInt8):∀(l:Bq) (k:Nat),jR u.toNat l k=if indexByte l u = -1 then -1 else indexByte l u+k
 | [],k=>by simp[jR,indexByte]
 | b::l,k=>by
  unfold jR indexByte;rw[lQ];by_cases hb:(b==u)=true
  ·simp[hb]
  ·have Vb:=indexByte_ge l u;simp only[hb,if_false,Bool.false_eq_true];rw[Cb u l (k+1)];by_cases h:indexByte l u = -1
   ·simp[h]
   ·have h2:¬indexByte l u+1 = -1:=oq
    simp[h,h2];omega
def wa(u:UInt8):∀(l:Bq) (k:Nat),v9 u.toNat l k=countByte l u+k
 | [],k=>by simp[v9,countByte]
 | b::l,k=>by
  unfold v9;rw[lQ]
  have:=wa u l;unfold countByte at this ⊢;rw[List.count_cons];by_cases hb:(b==u)=true
  ·simp[hb,this];omega
  ·simp[hb,this]
def Cq:prog.funcs.size=416:=kq
def Ds{P:Program}{p:Func→Bool}{n:Nat}(h:(List.range n).all (fun g=>(P.funcs[g]?).all p)=true)(c:P.funcs.size=n){g:FuncId}{aM:Func}(a:P.funcs[g]?=some aM):p aM=true:=by
 have b:g<n:=by rw[← c];exact(Array.getElem?_eq_some_iff.1 a).1
 have h1:=aT.1 h g (List.mem_range.2 b);rw[a] at h1;exact h1
def G9(aM : Func) : Bool := !(aM.name == "runtime.NumGoroutine")
def Ke:(List.range 416).all (fun g=>(prog.funcs[g]?).all G9)=true:=kq
def dD : ∀ (f : FuncId) (aM : Func), prog.funcs[f]? = some aM → (aM.name == "runtime.NumGoroutine") = false := by intro g aM hf;have h:=Ds Ke Cq hf;unfold G9 at h;simpa using h
def NF(x:Bq)(v:Value)(n i:Nat)(r:Nq):TL:=[str x,v,r 2,r 3,.bool false,r 5,r 6,v,num n,num i,r 10,r 11,r 12,r 13,r 14,r 15,r 16]
def PE{kt:TypeId→Bool}{pr:Prim}{s:AS}{x:Bq}{xs:List (Bq)}{y:Option Addr}{n c:Nat}(H:pr 127=none)(d:eh s 1 y n=some (xs.map str))(K:n≤1000000):EF prog kt pr 127 #[str x,.slice y n c] s (.bool (xs.any fun z=>aY x z)) s:=by
 have A:xs.length=n∧∀k z,xs[k]?=some z→∃b o p,y=some ⟨b,o,p⟩∧∃e t g,s.get b=some (.cells e t g)∧e[o+k]?=some (str z):=by
  unfold eh at d;split at d
  ·split at d
   ·next h=>cases xs with
    | nil=>exact⟨h.symm,fun k z D=>by simp at D⟩
    | cons z xs=>cases d
   ·cases d
  ·next b o p =>
   split at d
   ·next e t g C =>
    split at d
    ·next G =>simp only[Option.some.injEq,Nat.mul_one] at d;have D:=congrArg List.length d;simp at D;refine⟨oq,fun k z q=>⟨b,o,p,rfl,e,t,g,C,?_⟩⟩;have h1:=congrArg (fun l=>l[k]?) d;have F:=(gS.1 q).1;simp only[List.getElem?_map,q,Option.map_some] at h1;rw[List.getElem?_take,ip oq,List.getElem?_drop,Array.getElem?_toList] at h1;exact h1
    ·cases d
   ·cases d
 have⟨G,A⟩:=A;refine EF.of H func127 rfl ?_;refine EW.seq (EW.go 5 kq ?_);refine EW.seq (EW.seq (EW.go 5 kq ?_));refine EW.block ?_;refine EW.dS (fun m a E=>E=s∧∃i,i+m=n∧((xs.drop i).any fun z=>aY x z)=(xs.any fun z=>aY x z)∧∃r,a=NF x (.slice y n c) n i r) ?_ n _ _ ⟨kq,0,oq,rfl,aN kq⟩;rintro m a E ⟨rfl,i,J,f,r,rfl⟩;refine EW.seq (EW.region kq ?_);cases m with
 | zero =>refine EO.op kq (aU (u:=num i) (w:=num n) rfl kq kq (aX (b:=false) (fD oq))) ?_;refine EO.nil (EW.seq (EW.xt 5 (.exit 0) kq ?_));refine EW.seq (EW.go 5 kq ?_);refine EW.ret ⟨.inr rfl,?_,kq⟩;rw[← f,List.drop_of_length_le oq];kernel_rfl
 | succ m =>
  have q:xs[i]?=some xs[i]:=gE oq;obtain⟨b,o,p,rfl,e,t,g,C,I⟩:=A i _ q;rw[List.drop_eq_getElem_cons oq,List.any_cons] at f;refine EO.op kq (aU (u:=num i) (w:=num n) rfl kq kq (aX (b:=true) (tD oq))) ?_;refine EO.nil (EW.seq (EW.go 5 kq ?_));refine EW.seq (EW.block ?_);refine EW.seq (EW.region kq ?_);refine EO.op kq (Cz (j:=i) (b:=b) (off:=o) (n:=n) (cp:=c) (sp:=p) (k:=.i64) (sz:=1) rfl underlying62 kq kq kq oq oq) ?_;refine EO.op kq (bP (b:=b) (off:=o+(i:Int).toNat*1) (v:=str xs[i]) rfl underlying9 rfl kq C (by rw[Int.toNat_natCast,Nat.mul_one];exact I)) ?_;refine EO.fin 5 kq ?_;refine EW.seq (EW.go 5 kq ?_);refine EW.cond (b:=aY x xs[i]) kq (fun B=>?_) (fun B=>?_)
  ·refine EW.xt 5 .ret kq ?_;refine⟨.inr rfl,?_,kq⟩;rw[← f,B];kernel_rfl
  ·rw[B,Bool.false_or] at f;refine EW.go 5 kq ?_;refine EW.region kq ?_;refine EO.op kq (gW (i:=i) (j:=1) (r:=((i+1:Nat):Int)) rfl kq kq oq oq) ?_;refine EO.fin 5 kq ?_;exact⟨m,oq,kq,i+1,oq,f,aN kq⟩
def bB:Prim
 | 127=>some fun args s=>match args.toList with
  | [.string x,.slice y n _]=>match eh s 1 y n with
   | some l=>if n≤1000000∧(l.all fun v=>match v with|.string _=>true|_=>false)=true then some (.bool (l.any fun v=>match v with|.string z=>aY x.data.toList z.data.toList|_=>false),s) else none
   | none=>none
  | _=>none
 | 373=>some fun args s=>match args.toList with
  | [.string x,.int .u8 c]=>some (.int .i64 (jR (c.toNat % 256) x.data.toList 0),s)
  | _=>none
 | 343=>some fun args s=>match args.toList with
  | [.string x,.string y]=>match y.data.toList with
   | [c]=>some (.int .i64 (v9 c.toNat x.data.toList 0),s)
   | _=>none
  | _=>none
 | 344=>some fun args s=>match args.toList with
  | [.pointer (some ⟨b,0,none⟩),.int .i64 n]=>match s.get b with
   | some (.cells cs 119 (0,0))=>match cs.toList with
    | [p,.slice none 0 0]=>if 0≤n∧n≤1000000000 then some (.tuple #[],(s.set b (some (.cells #[p,.slice (some ⟨s.nx,0,none⟩) 0 0] 119 (0,0)))).add (.cells #[] 5 (1,1))) else none
    | _=>none
   | _=>none
  | _=>none
 | _=>none
def po{f:FuncId}{g:Aq→AS→Option (Value × AS)}(h:bB f=some g):f=127∨f=373∨f=343∨f=344:=by
 unfold bB at h;split at h
 ·exact .inl rfl
 ·exact .inr (.inl rfl)
 ·exact .inr (.inr (.inl rfl))
 ·exact i3 rfl
 ·cases h
def vh:∀f g a s v c,bB f=some g→g a s=some (v,c)→s.nx≤c.nx:=by
 intro f g a s v c b h;rcases po b with rfl|rfl|rfl|rfl
 ·cases b;simp only at h;split at h
  ·split at h
   ·split at h
    ·cases h;exact Nat.le_refl _
    ·cases h
   ·cases h
  ·cases h
 ·cases b;simp only at h;split at h
  ·cases h;exact Nat.le_refl _
  ·cases h
 ·cases b;simp only at h;split at h
  ·split at h
   ·cases h;exact Nat.le_refl _
   ·cases h
  ·cases h
 ·cases b;simp only at h;split at h
  ·split at h
   ·split at h
    ·split at h
     ·cases h;simp
     ·cases h
    ·cases h
   ·cases h
  ·cases h
section
variable {ι:Type}{An:bJ}{N0:ι→Nat}{M:ι→World→Nat→Prop}{O:ι→Nat→Prop}{R:ι→Wq}{D:ι→World→World→Array Event→Prop}{X:ι→Gq}{Hd:ι→Hq→World→Prop}
def q9{args:Aq}{x y:Value}(h:args.toList=[x,y]):args=#[x,y]:=by apply Array.toList_inj.1;simp[h]
def GQ(Y:Cy prog eO N0 M O R D X Hd){x:ByteArray}{y:Option Addr}{n c:Nat}{s:AS}{l0:Vq}(hc:eh s 1 y n=some l0)(hn:n≤1000000)(MK:(l0.all fun v=>match v with|.string _=>true|_=>false)=true) :
  Sound prog eO An R D X Hd 127 #[.string x,.slice y n c] s (.bool (l0.any fun v=>match v with|.string z=>aY x.data.toList z.data.toList|_=>false)) s:=by
 obtain⟨xs,rfl⟩:∃xs:List (Bq),l0=xs.map str:=by
  clear hc;induction l0 with
  | nil=>exact⟨[],rfl⟩
  | cons v l0 ih =>
   simp only[List.all_cons,Bool.and_eq_true] at MK;obtain⟨xs,rfl⟩:=ih MK.2;cases v with
   | string z=>exact⟨z.data.toList::xs,rfl⟩
   | _=>simp at MK
 have⟨m,hm⟩:=PE (kt:=fun _=>true) (pr:=fun _=>none) (x:=x.data.toList) (c:=c) rfl hc hn;rw[List.any_map];exact(gR Y kq (fun _ h=>by cases h) ⟨fun _ _ _ _ _ _ h=>(by cases h),fun _ _ _ _ _ _ h=>(by cases h)⟩ dD m).2 _ _ _ _ _ hm
def eK.same{P:Program}{KT:TypeId→Prop}{S:bJ}{s s':AS}{l:Hq}(h:eK P KT An S s l)(a:∀b,s'.get b=s.get b)(c:s'.nx=s.nx):eK P KT An S s' l where
 live b o hb:=h.live b o (a b▸hb)
 inj b b' o o' x x' hb pV:=h.inj b b' o o' x x' (a b▸hb) (a b'▸pV)
 lt b o hb:=c▸h.lt b o (a b▸hb)
 an:=h.an
def AD(Y:Cy prog eO N0 M O R D X Hd){b:Nat}{n:Int}{s:AS}{p:Value}{cs:Aq}(hb:s.get b=some (.cells cs 119 (0,0)))(B8:cs.toList=[p,.slice none 0 0])(hn:0≤n∧n≤1000000000) :
  Sound prog eO An R D X Hd 344 #[.pointer (sq b),.int .i64 n] s (.tuple #[]) ((s.set b (some (.cells #[p,.slice (sq s.nx) 0 0] 119 (0,0)))).add (.cells #[] 5 (1,1))):=by
 intro S l fr i w c hS U Q ql;obtain rfl:cs=#[p,.slice none 0 0]:=by apply Array.toList_inj.1;simp[B8]
 obtain⟨N,P,rfl,h0,h1⟩:∃N P,c=#[N,P]∧VR S (.pointer (sq b)) N∧VR S (.int .i64 n) P:=by
  have JO:=Q.1;simp at JO;refine⟨c[0]'(by omega),c[1]'(by omega),?_,Q.2 0 _ _ rfl (gF (by omega)),Q.2 1 _ _ rfl (gF (by omega))⟩;apply Array.ext
  ·simp;omega
  ·intro k h1 h2;simp at h2;match k,h2 with
   | 0,_=>rfl
   | 1,_=>rfl
 have h1:=h1.sc rfl;subst h1;obtain⟨d,hd⟩:=h0;cases d with
 | zero=>exact hd.elim
 | succ d =>
  unfold VD at hd;obtain⟨g,z,e,hg,rfl⟩:=hd;obtain⟨k,o',hk,q8,Q8,J,Pv⟩:=hS.at (fr:=fr) hb hg;unfold OR at J;obtain⟨u,rfl,hz,⟨MT,Ty⟩,hv⟩:=J;have Rd:=Ty rfl;simp at Rd;obtain⟨p',u',rfl⟩:∃p' u',u=#[p',u']:=by
   refine⟨u[0]'(by omega),u[1]'(by omega),?_⟩;apply Array.ext
   ·simp;omega
   ·intro k h1 h2;simp at h2;match k,h2 with
    | 0,_=>rfl
    | 1,_=>rfl
  have hp:=hv 0 _ _ rfl rfl;have hu:=(hv 1 _ _ rfl rfl).sc rfl;subst hu;have Z:=Y.Z U;have V:=Z.front U k Q8;obtain⟨m,rfl⟩:∃m:Nat,n=(m:Int):=⟨n.toNat,by omega⟩;refine(MG Y.C Y.T Z m (by omega) V).pF Y.C Y.T ?_;rintro i' x w' aE ⟨rfl,rfl,g2,a,O8,O9,W⟩ hR;have A:=Z.rely W hR;have G:=Z.nodup U;have XY:(l.map Prod.fst).Nodup:=by rw[List.map_append] at G;exact(List.nodup_append.1 G).1
  have K:S s.nx=none:=ql _ lr (by simp);have XQ:k<(l++fr).length:=by simp;omega
  have B:(l++fr).eraseIdx k=l.eraseIdx k++fr:=List.eraseIdx_append_of_lt_length q8 fr;have F:∀o,(g2,o)∉l:=by
   intro o ho;have f:=Z.nodup A;rw[B] at f;simp only[List.map_cons,List.nodup_cons,List.map_append,List.mem_cons,List.mem_append,not_or] at f;by_cases E:g2=g
   ·exact f.1.1 E
   ·apply f.1.2.1;obtain⟨q,hq⟩:=List.mem_iff_getElem?.1 ho;have X5:q≠k:=by rintro rfl;rw[hk] at hq;cases hq;exact E rfl
    refine List.mem_map.2 ⟨(g2,o),?_,rfl⟩;rw[List.mem_eraseIdx_iff_getElem?];exact⟨q,X5,hq⟩
  have Sr:eK prog eO An (S.put s.nx (g2,a.size,1)) (s.add (.cells #[] 5 (1,1))) ((g2,.cells a 5)::l):=by
   refine hS.grown K F ?_ ?_
   ·unfold OR;exact⟨a,rfl,rfl,⟨by simp,fun h=>by cases h⟩,fun i x y r=>by simp at r⟩
   ·intro cs t fz h;cases h;exact⟨by kernel_rfl,by simp[eO]⟩
  have I:b≠s.nx:=by have:=hS.lt b _ hb;omega
  have wE:(s.add (.cells #[] 5 (1,1))).get b=some (.cells #[p,.slice none 0 0] 119 (0,0)):=by rw[AS.aG,iw I];exact hb
  have v:=bJ.jT (S:=S) (x:=(g2,a.size,1)) K;have H:(((g2,Obj.cells a 5)::l).map Prod.fst).Nodup:=by simp only[List.map_cons,List.nodup_cons];refine⟨fun h=>?_,XY⟩;obtain⟨⟨g3,o3⟩,h3,h4⟩:=List.mem_map.1 h;simp at h4;subst h4;exact F _ h3
  have Q4:=Sr.xg (k:=k+1) (LF:=OG p' (.slice (sq g2) 0 a.size)) (LG:=.cells #[p,.slice (sq s.nx) 0 0] 119 (0,0)) wE (v _ _ hg) (by simpa using hk) H (by
   unfold OR OG;refine⟨_,rfl,by simpa using hz,⟨by simp;omega,fun _=>by simp;omega⟩,?_⟩;intro j x y r L;match j with
   | 0=>simp at r L;subst r L;exact hp.mono v
   | 1 =>simp at r L;subst r L;exact⟨1,g2,a.size,1,a.size,bJ.iG,rfl,by omega,by omega,by omega,by omega⟩
   | j+2=>simp at r) (by
   intro cs t fz h;cases h;exact Pv _ _ _ rfl);have Ly:=Q4.same (s':=(s.set b (some (.cells #[p,.slice (sq s.nx) 0 0] 119 (0,0)))).add (.cells #[] 5 (1,1))) (fun b'=>by
   rw[AS.aG,AS.aH,AS.aH,AS.aG];by_cases h1:b'=s.nx
   ·subst h1;simp[Ne.symm I]
   ·simp[h1]) rfl;refine⟨_,_,v,?_,Ly,?_,?_⟩
  ·intro b' pV;unfold bJ.put;rw[iw];simp at pV;omega
  ·simp only[List.set_cons_succ,List.cons_append];refine Z.perm A ?_;rw[B];refine List.Perm.cons _ ?_;rw[← List.cons_append];exact List.Perm.append_right _ (tf hk)
  ·exact⟨1,#[],rfl,rfl,fun i x y r=>by simp at r⟩
def qF(Y:Cy prog eO N0 M O R D X Hd):cN prog eO An R D X Hd bB where
 nx:=vh
 sound f g args s v s' hf h:=by
  rcases po hf with rfl|rfl|rfl|rfl
  ·
   cases hf
   simp only at h
   split at h
   ·
    next x y n c d =>
    rw[q9 d]
    split at h
    ·
     next l u =>
     split at h
     ·
      next o=>cases h;exact GQ Y u o.1 o.2
     ·
      cases h
    ·
     cases h
   ·
    cases h
  ·
   cases hf
   simp only at h
   split at h
   ·
    next x c d =>
    rw[q9 d]
    cases h
    refine Sound.same Y rfl fun S l q i w a r k j=>?_
    rw[j.sc rfl]
    have e:jR (c.toNat % 256) x.data.toList 0=JR x c:=by
     have:=Cb c.toNat.toUInt8 x.data.toList 0
     rw[show c.toNat.toUInt8.toNat=c.toNat % 256 by simp] at this
     rw[this]
     unfold JR
     split
     ·
      next h=>rw[h]
     ·
      simp
    rw[e]
    exact nZ (wG x c _ _ _ _ Y.C Y.T i w) fun B v E ⟨q1,q2,q3⟩=>⟨q2,by subst q1;subst q3;exact k⟩
   ·
    cases h
  ·
   cases hf
   simp only at h
   split at h
   ·
    next x y d =>
    rw[q9 d]
    split at h
    ·
     next c A =>
     cases h
     refine Sound.same Y rfl fun S l q i w a r k j=>?_
     rw[j.sc rfl]
     obtain rfl:y=⟨#[c]⟩:=by
      have⟨y⟩:=y
      congr 1
      apply Array.toList_inj.1
      simpa using A
     have e:(v9 c.toNat x.data.toList 0:Int)=Jr x c.toNat:=by
      rw[wa]
      unfold Jr
      simp
     rw[e]
     exact nZ (Ju x c _ _ _ _ Y.C Y.T i w) fun B v E ⟨q1,q2,q3⟩=>⟨q2,by subst q1;subst q3;exact k⟩
    ·
     cases h
   ·
    cases h
  ·
   cases hf
   simp only at h
   split at h
   ·
    next b n d =>
    rw[q9 d]
    split at h
    ·
     next F t =>
     split at h
     ·
      next p m =>
      split at h
      ·
       next z=>cases h;exact AD Y t m z
      ·
       cases h
     ·
      cases h
    ·
     cases h
   ·
    cases h
end
def OS:List (ByteArray × Int × Bool):=[(⟨#[97,109,112]⟩,38,true),(⟨#[108,116]⟩,60,true),(⟨#[103,116]⟩,62,true),(⟨#[113,117,111,116]⟩,34,true),(⟨#[97,112,111,115]⟩,39,false),(⟨#[110,98,115,112]⟩,160,true),(⟨#[99,111,112,121]⟩,169,true),(⟨#[114,101,103]⟩,174,true),(⟨#[110,111,116]⟩,172,true),(⟨#[110,111,116,105,110]⟩,8713,false),(⟨#[101,97,99,117,116,101]⟩,233,true),(⟨#[101,117,109,108]⟩,235,true),(⟨#[101,117,114,111]⟩,8364,false),(⟨#[110,100,97,115,104]⟩,8211,false),(⟨#[109,100,97,115,104]⟩,8212,false),(⟨#[104,101,108,108,105,112]⟩,8230,false),(⟨#[108,97,114,114]⟩,8592,false),(⟨#[114,97,114,114]⟩,8594,false)]
def OT (x:ByteArray × Int × Bool):Vq:=[.string x.1,.int .i32 x.2.1,.bool x.2.2]
def db:Vq:=OS.flatMap OT
def PO:Bq→Option (Int × Int)
 | 97::109::112::59::_=>some (38,4)
 | 108::116::59::_=>some (60,3)
 | 103::116::59::_=>some (62,3)
 | 113::117::111::116::59::_=>some (34,5)
 | _=>none
def lF (t:TypeId):Bool:=t.beq 177||t.beq 179||Nat.ble 1016 t
abbrev Ef:=EF prog lF
abbrev Ew:=EW prog lF
def eo(t:TypeId)(h:lF t=false):¬eO t:=by
 rintro(rfl|rfl|h')
 ·cases h
 ·cases h
 ·have:Nat.ble 1016 t=true:=Nat.ble_eq_true_of_le h';simp[lF,this] at h
def Kb:(List.range 416).all (fun g=>!(js prog (.func g))||g.beq 330)=true:=kq
def Cr : ∀ g aM, js prog (.func g) = true → prog.funcs[g]? = some aM → (aM.name == "runtime.NumGoroutine") = false ∧ Extern.findNext aM = none ∧ Extern.find aM = some Extern.AbiNoEscape.same := by
 intro g aM h hf;have hg:g<416:=by rw[← Cq]; exact(Array.getElem?_eq_some_iff.1 hf).1
 have:=Kb;rw[aT] at this
 have:=this g (List.mem_range.2 hg);rw[h] at this;have e:g=330:=Nat.eq_of_beq_eq_true (by simpa using this);subst e;rw[func330] at hf;cases hf;exact⟨rq,kq,kq⟩
def yj(l:Vq):Bool:=(iK l 0).beq (iK db 0)&&(l.zip db).all fun p=>m9 3 p.1 p.2
def yk{l:Vq}(h:yj l=true):l=db:=by unfold yj at h;simp only[Bool.and_eq_true,iT,Nat.zero_add] at h;exact pT _ _ (Nat.eq_of_beq_eq_true h.1) h.2 fun p a=>ir a
def Ls{S:bJ}{x y:Value}{args':Aq}(h:AR (VR S) #[x,y] args'):∃b c,args'=#[b,c]∧VR S x b∧VR S y c:=by
 have a:=h.1;simp at a;refine⟨args'[0]'oq,args'[1]'oq,?_,h.2 0 _ _ rfl (gF oq),h.2 1 _ _ rfl (gF oq)⟩;apply Array.ext
 ·simp;omega
 ·intro k h1 h2;simp at h2;match k,h2 with
  | 0,_=>rfl
  | 1,_=>rfl
def OC{S:bJ}{x y z:Value}{args':Aq}(h:AR (VR S) #[x,y,z] args'):∃b c d,args'=#[b,c,d]∧VR S x b∧VR S y c∧VR S z d:=by
 have a:=h.1;simp at a;refine⟨args'[0]'oq,args'[1]'oq,args'[2]'oq,?_,h.2 0 _ _ rfl (gF oq),h.2 1 _ _ rfl (gF oq),h.2 2 _ _ rfl (gF oq)⟩;apply Array.ext
 ·simp;omega
 ·intro k h1 h2;simp at h2;match k,h2 with
  | 0,_=>rfl
  | 1,_=>rfl
  | 2,_=>rfl
def dl(rn:Nat)(L:Iq):Prim
 | 146=>some fun args s=>match args.toList with
  | [.pointer (some ⟨b,0,none⟩),.int .i64 k]=>if b=rn∧0≤k then some (.int .i32 (L[k.toNat]?.getD (-1)),s) else none
  | _=>none
 | 92=>some fun args s=>match args.toList with
  | [.pointer (some ⟨b,0,none⟩),.int .i64 i,.int .i64 j]=>if b=rn∧0≤i∧0≤j∧j≤1000000 then some (.string ⟨(aV ((L.drop i.toNat).take (j.toNat-i.toNat))).toArray⟩,s) else none
  | _=>none
 | 333=>some fun args s=>match args.toList with
  | [.string x,.int .i64 k]=>match s.get 1 with
   | some (.cells cs 335 (0,0))=>if yj cs.toList=true then match PO x.data.toList with
     | some (c,n)=>some (.tuple #[.int .i32 c,.int .i64 n],s)
     | none=>none
    else none
   | _=>none
  | _=>none
 | f=>bB f
def pw(rn:Nat)(all:Iq):∀f g a s v c,dl rn all f=some g→g a s=some (v,c)→s.nx≤c.nx:=by
 intro f g a s v c b h;unfold dl at b;split at b;iterate 2
  ·cases b;simp only at h;split at h
   ·split at h
    ·cases h;exact Nat.le_refl _
    ·cases h
   ·cases h
 ·cases b;simp only at h;split at h
  ·split at h
   ·split at h
    ·split at h
     ·cases h;exact Nat.le_refl _
     ·cases h
    ·cases h
   ·cases h
  ·cases h
 ·exact vh _ _ _ _ _ _ b h
def EF.gq{P:Program}{kt:TypeId→Bool}{pr:Prim}{f:FuncId}{fn:Func}{b:Code}{args:Aq}{s:AS}{v:Value}{G:AS→Prop}(k:pr f=none)(j:P.funcs[f]?=some fn)(g:fn.body=some b)(h:EW P kt pr b (args.toList++List.replicate (fn.ntmps-args.toList.length) undef) s (fun e c a=>(e=.normal∨e=.ret)∧du P fn c a=some v∧G a)):∃d,EF P kt pr f args s v d∧G d:=by have⟨n,e,c,a,h1,i,h2,h3⟩:=h;exact⟨a,EF.of k j g ⟨n,e,c,a,h1,i,h2,rfl⟩,h3⟩
section
variable {P:Program}{kt:TypeId→Bool}{pr:Prim}{a:TL}{s s1:AS}{K:TL→AS→Prop}{ops:Array Oper}{rest:List Oper}{v:Value}
def oT:Option (TL × AS)→Option AS
 | some (_,s)=>some s
 | none=>none
def EO.gs(k n:Nat)(s':AS)(h:oT (cW P kt (bG P kt pr n) ops (rest.take k) a s)=some s')(b:EO P kt pr ops (rest.drop k) (oA (cW P kt (bG P kt pr n) ops (rest.take k) a s)) s' K):EO P kt pr ops rest a s K:=by
 generalize c:cW P kt (bG P kt pr n) ops (rest.take k) a s=q at h b;obtain _|⟨a',s2⟩:=q
 ·cases h
 ·cases h;exact EO.run k n a' s' c b
def Sm (P:Program)(ops:Array Oper)(r:List Oper):Option (TL × AS)→Option (FuncId × Aq × AS)
 | some (a,s)=>match r with
  | o::_=>match o.op with
   | .call cl=>match cl.callee with
    | .value (.func g)=>if Region.wanted o (bK ops a)=true∧js P (.func g)=false then some (g,#[]++cl.args.map a.at++#[],s) else none
    | _=>none
   | _=>none
  | []=>none
 | none=>none
def Qk (r:List Oper)(a:TL)(v:Value):TL:=match r with
 | o::_=>a.put o.dst v
 | []=>a
def EO.gc(k n:Nat){g:FuncId}{args:Aq}{s':AS}(h:Sm P ops (rest.drop k) (cW P kt (bG P kt pr n) ops (rest.take k) a s)=some (g,args,s'))(f:EF P kt pr g args s' v s1)(b:EO P kt pr ops (rest.drop (k+1)) (Qk (rest.drop k) (oA (cW P kt (bG P kt pr n) ops (rest.take k) a s)) v) s1 K):EO P kt pr ops rest a s K:=by
 generalize i:cW P kt (bG P kt pr n) ops (rest.take k) a s=q at h b;obtain _|⟨a',s2⟩:=q
 ·cases h
 ·rw[← List.drop_drop] at b;refine EO.run k n a' s2 i ?_;generalize rest.drop k=r at h b;cases r with
  | nil=>cases h
  | cons o t =>
   simp only[Sm] at h;split at h
   ·next j d =>
    split at h
    ·next l c =>
     split at h
     ·next e =>cases h;exact EO.fA _ e.1 d c e.2 rfl f b
     ·cases h
    ·cases h
   ·cases h
end
def iy (x:Nq):Nat→Nat→TL
 | _,0=>[]
 | k,n+1=>x k::iy x (k+1) n
def oE{k:IntKind}{i j:Int}{b:Bool}(h:decide (i≥j)=b):dj .geq (.int k i) (.int k j)=some (.bool b):=by unfold dj;simp only[ip];rw[h]
def di{k:IntKind}{i j:Int}{b:Bool}(h:decide (i≤j)=b):dj .leq (.int k i) (.int k j)=some (.bool b):=by unfold dj;simp only[ip];rw[h]
abbrev lI(l:Bq):Aq:=(strCells ⟨l.toArray⟩).toArray
def BW (s:AS)(N b:Nat)(l:Bq):Prop:=N≤b∧b<s.nx∧∃p sl,s.get b=some (.cells #[p,sl] 119)∧(p=.pointer none∨p=am b 0)∧((sl=.slice none 0 0∧l=[])∨∃d fz,sl=.slice (some ⟨d,0,none⟩) l.length l.length∧N≤d∧d<s.nx∧d≠b∧s.get d=some (.cells (lI l) 5 fz))
def kD (N:Nat)(s s':AS):Prop:=s.nx≤s'.nx∧∀k,k<N→s'.get k=s.get k
def kD.trans{N:Nat}{s s1 c:AS}(h:kD N s s1)(a:kD N s1 c):kD N s c:=⟨lT h.1 a.1,fun k b=>(a.2 k b).trans (h.2 k b)⟩
def kD.add{N:Nat}{s:AS}{o:Obj}(h:N≤s.nx):kD N s (s.add o):=⟨iq,fun k a=>by rw[AS.aG,iw oq]⟩
section
variable {pr:Prim}{s:AS}
def wj{b:Nat}{p sl:Value}(d:pr 261=none)(a:s.get b=some (.cells #[p,sl] 119))(f:p=.pointer none∨p=am b 0):∃c,Ef pr 261 #[am b 0] s (.tuple #[]) c∧c.nx=s.nx∧c.get b=some (.cells #[am b 0,sl] 119)∧∀k,k≠b→c.get k=s.get k:=by
 refine EF.gq d func261 rfl ?_;refine EW.seq (EW.region kq (EO.go 3 5 kq (EO.cV s kq (EO.op kq (bP (b:=b) (off:=0) (v:=p) rfl underlying117 rfl kq a rfl) ?_))));rcases f with rfl|rfl
 ·refine EO.fin 5 kq (EW.ew kq (EW.region kq (EO.go 2 5 kq (EO.cV s kq (EO.op kq (qy rfl kq (OK (b:=b) (k:=1) kq underlying117 underlying244 a kq iq)) (EO.q kq kq (EO.cV s kq (EO.op kq (qy rfl kq (OL (b:=b) (k:=1) kq underlying244 underlying117 a kq kq)) (EO.go 2 5 kq (EO.cV s kq (EO.op kq (gC (b:=b) (off:=0) (w:=am b 0) rfl kq kq rfl rfl kq a iq) (EO.nil ⟨.inl rfl,kq,?_⟩))))))))))));refine⟨rfl,?_,fun k e=>?_⟩
  ·rw[AS.aH,ip rfl];rfl
  ·rw[AS.aH,iw e]
 ·refine EO.fin 5 kq (EW.dL kq (EW.seq (EW.region kq (EO.go 3 5 kq (EO.cV s kq (EO.op kq (bP (b:=b) (off:=0) (v:=am b 0) rfl underlying117 rfl kq a rfl) (EO.go 1 5 kq (EO.cV s kq (EO.op kq (Kn (b:=b) (k:=1) rfl kq kq underlying117 kq) (EO.nil (EW.dL kq (EW.skip ?_))))))))))));exact⟨.inl rfl,kq,rfl,a,fun k e=>rfl⟩
def iY(l m:Bq):strCells ⟨l.toArray⟩++strCells ⟨m.toArray⟩=strCells ⟨(l++m).toArray⟩:=by show(l.map fun b=>Value.int .u8 b.toNat)++(m.map fun b=>Value.int .u8 b.toNat)=(l++m).map fun b=>Value.int .u8 b.toNat;rw[List.map_append]
def pP{N b:Nat}{l m:Bq}(n:pr 261=none)(j:pr 156=none)(h:BW s N b l)(T:l.length+m.length≤1000000):∃z,Ef pr 156 #[am b 0,str m] s (.tuple #[num m.length,.nilIface]) z∧BW z N b (l++m)∧kD N s z:=by
 have⟨G,S,p,sl,J,I,r⟩:=h;have⟨a,H,R,i,t⟩:=wj n J I;refine EF.gq j func156 rfl ?_;refine EW.seq (EW.go 5 kq (EW.seq (EW.region kq (EO.go 1 5 kq (EO.cV s kq (EO.fA #[am b 0] kq rfl rfl kq kq H (EO.nil (EW.seq (EW.region kq (EO.go 4 5 kq (EO.cV a kq (EO.op kq (bP (b:=b) (off:=1) (v:=sl) rfl underlying55 rfl kq i rfl) (EO.go 1 5 kq (EO.cV a kq ?_))))))))))))));have e:∀(v:Value) (f:AS),v.cells=#[v]→v.oneCell'=true→bn prog 5 sl (strCells ⟨m.toArray⟩) m.length a=some (v,f)→f.get b=some (.cells #[am b 0,sl] 119)→a.nx≤f.nx→(∀k,k<N→f.get k=a.get k)→((v=.slice none 0 0∧l++m=[])∨∃d g,v=.slice (sq d) (l++m).length (l++m).length∧N≤d∧d<f.nx∧d≠b∧f.get d=some (.cells (lI (l++m)) 5 g))→fI sl=true→∃w c,bn prog 5 sl (strCells ⟨m.toArray⟩) m.length a=some (w,c)∧w.cells=#[w]∧w.oneCell'=true∧fI sl=true∧c.get b=some (.cells #[am b 0,sl] 119)∧BW (c.set b (some (.cells #[am b 0,w] 119))) N b (l++m)∧kD N s (c.set b (some (.cells #[am b 0,w] 119))):=by
  intro v f K L M O U P y Q;refine⟨v,f,M,K,L,Q,O,⟨G,by simp;omega,am b 0,v,by rw[AS.aH,ip rfl],.inr rfl,?_⟩,by simp;omega,fun k o=>?_⟩
  ·rcases y with y|⟨d,g,q1,q2,q3,q4,q5⟩
   ·exact .inl y
   ·exact .inr ⟨d,g,q1,q2,by simpa using q3,q4,by rw[AS.aH,iw q4];exact q5⟩
  ·rw[AS.aH,iw oq,P k o,t k oq]
 have u:∃w c,bn prog 5 sl (strCells ⟨m.toArray⟩) m.length a=some (w,c)∧w.cells=#[w]∧w.oneCell'=true∧fI sl=true∧c.get b=some (.cells #[am b 0,sl] 119)∧BW (c.set b (some (.cells #[am b 0,w] 119))) N b (l++m)∧kD N s (c.set b (some (.cells #[am b 0,w] 119))):=by
  cases m with
  | nil =>
   rcases r with ⟨rfl,rfl⟩|⟨d,g,rfl,q2,q3,q4,q5⟩
   ·exact e _ a rfl rfl (qM (.inl rfl)) i lr (fun k o=>rfl) (.inl ⟨rfl,rfl⟩) rfl
   ·refine e _ a rfl rfl (qM (.inr ⟨d,_,_,rfl⟩)) i lr (fun k o=>rfl) (.inr ⟨d,g,by rw[List.append_nil],q2,oq,q4,by rw[t d q4,List.append_nil];exact q5⟩) rfl
  | cons x m =>
   rcases r with ⟨rfl,rfl⟩|⟨d,g,rfl,q2,q3,q4,q5⟩
   ·refine e _ _ rfl rfl (gk iq) (by rw[AS.aG,iw oq];exact i) iq (fun k o=>by rw[AS.aG,iw oq]) (.inr ⟨a.nx,(1,1),rfl,oq,iq,oq,by rw[AS.aG,ip rfl];rfl⟩) rfl
   ·have q:(lI l).size=l.length:=by simp[strCells]
    refine e _ _ rfl rfl (fM (sz:=1) iq (by rw[t d q4];exact q5) kq (by rw[q];omega) oq) (by rw[AS.aG,iw (by simp;omega),AS.aH,iw (Ne.symm q4)];exact i) iq (fun k o=>by rw[AS.aG,iw (by simp;omega),AS.aH,iw oq]) (.inr ⟨a.nx,(1,1),by rw[lA],oq,iq,oq,?_⟩) rfl;rw[AS.aG,ip iq];have:List.take (l.length*1) (lI l).toList=strCells ⟨l.toArray⟩:=by rw[Nat.mul_one];exact tL (by simp[strCells])
    rw[this,iY]
 have⟨w,c,e1,A,B,C,D,E,F⟩:=u;refine EO.op kq (rQ (sl:=sl) (m:=m) rfl kq kq underlying55 underlying9 kq kq oq C e1) (EO.go 2 5 kq (EO.cV c kq (EO.op kq (gC (b:=b) (off:=1) (w:=w) rfl kq kq A B kq D iq) (EO.nil (EW.seq (EW.region kq (EO.go 1 5 kq (EO.op kq (da (l:=m) rfl underlying9 kq) (EO.fin 5 kq (EW.ret ⟨.inr rfl,kq,?_⟩))))))))));exact⟨E,F⟩
def tJ{N b:Nat}{l:Bq}(f:pr 84=none)(h:BW s N b l)(i:l≠[])(u:l.length≤1000000):∃m,Ef pr 84 #[am b 0] s (str l) m∧kD N s m:=by
 have⟨o,r,p,x,j,w,a⟩:=h;rcases a with ⟨_,a⟩|⟨d,fz,rfl,q2,q3,q4,q5⟩
 ·exact absurd a i
 obtain⟨c,l,rfl⟩:∃c n,l=c::n:=by
  cases l with
  | nil=>exact absurd rfl i
  | cons c l=>exact⟨c,l,rfl⟩
 refine EF.gq f func84 rfl ?_;refine EW.seq (EW.go 5 kq (EW.seq (EW.draw kq kq kq ?_)));iterate 2
  refine ET.q kq kq ?_
  refine ET.q kq kq ?_
  refine ET.q kq kq ?_
  refine ET.cV s kq ?_
  refine ET.op kq (bP (b:=b) (off:=1) (v:=.slice (sq d) (c::l).length (c::l).length) rfl underlying55 rfl kq j rfl) ?_
  refine ET.q kq kq ?_
 refine ET.cV s kq (ET.op kq (wY (d:=d) (l:=c::l) (e:=5) (fz:=fz) rfl kq kq kq q5 kq iq oq) (ET.q kq kq ?_));have g:aC prog 55 (am b 1) s=some (.slice (sq d) (c::l).length (c::l).length):=by unfold aC;simp only[am,j,underlying55];rfl
 refine ET.nil ⟨aK [(aC prog 55 (am b 1) s,.slice (sq d) (c::l).length (c::l).length),(aC prog 55 (am b 1) s,.slice (sq d) (c::l).length (c::l).length)] kq (by simp[bu,g]),_,_,_,_,_,_,rfl,rfl,?_⟩;refine EW.ret ⟨.inr rfl,kq,?_⟩;refine⟨lr,fun k t=>?_⟩;show(s.set d none).get k=_;rw[AS.aH,iw oq]
end
section
variable {P:Program}{kt:TypeId→Bool}{pr:Prim}{a:TL}{s s1:AS}{Q:Exit→TL→AS→Prop}{ops:Array Oper}{id:Nat}{y c:Code}{K:TL→AS→Prop}{rest:List Oper}{t:Operand}{o:Oper}{v:Value}{KT:List (TL × Value × AS)→Prop}
def zr(k:EO P kt pr ops ops.toList a s fun b c=>vA P kt pr y Q .normal b c)(h:kn ops=true:=by kernel_rfl):EW P kt pr (.seq (.region id ops false) y) a s Q:=EW.seq (EW.region h k)
def zx(k:EO P kt pr ops ops.toList a s fun b c=>Q .normal b c)(h:kn ops=true:=by kernel_rfl):EW P kt pr (.region id ops false) a s Q:=EW.region h k
def zf(k:K (oA (cW P kt (bG P kt pr 9) ops rest a s)) (oS (cW P kt (bG P kt pr 9) ops rest a s)))(h:Rf (cW P kt (bG P kt pr 9) ops rest a s)=true:=by kernel_rfl):EO P kt pr ops rest a s K:=EO.fin 9 h k
def zs(k:vA P kt pr y Q .normal (cA (eW P kt pr 9 c a s)) (cS (eW P kt pr 9 c a s)))(h:R9 (eW P kt pr 9 c a s)=true:=by kernel_rfl):EW P kt pr (.seq c y) a s Q:=EW.seq (EW.go 9 h k)
def zg(k:Nat)(s':AS)(b:EO P kt pr ops (rest.drop k) (oA (cW P kt (bG P kt pr 9) ops (rest.take k) a s)) s' K)(h:oT (cW P kt (bG P kt pr 9) ops (rest.take k) a s)=some s':=by kernel_rfl):EO P kt pr ops rest a s K:=EO.gs k 9 s' h b
def zk(k:Nat)(b:EO P kt pr ops (rest.drop k) (oA (cW P kt (bG P kt pr 9) ops (rest.take k) a s)) (oS (cW P kt (bG P kt pr 9) ops (rest.take k) a s)) K)(h:Rf (cW P kt (bG P kt pr 9) ops (rest.take k) a s)=true:=by kernel_rfl):EO P kt pr ops rest a s K:=EO.go k 9 h b
def zc(k:Nat){g:FuncId}{args:Aq}{s':AS}(b:EF P kt pr g args s' v s1)(c:EO P kt pr ops (rest.drop (k+1)) (Qk (rest.drop k) (oA (cW P kt (bG P kt pr 9) ops (rest.take k) a s)) v) s1 K)(h:Sm P ops (rest.drop k) (cW P kt (bG P kt pr 9) ops (rest.take k) a s)=some (g,args,s'):=by kernel_rfl):EO P kt pr ops rest a s K:=EO.gc k 9 h b c
def za(s':AS)(k:EW P kt pr c a s' Q)(h:s=s':=by kernel_rfl):EW P kt pr c a s Q:=EW.cV s' h k
def zo(s':AS)(k:EO P kt pr ops rest a s' K)(h:s=s':=by kernel_rfl):EO P kt pr ops rest a s K:=EO.cV s' h k
def zt(s':AS)(k:ET P kt pr ops rest a s' KT)(h:s=s':=by kernel_rfl):ET P kt pr ops rest a s KT:=ET.cV s' h k
def zF(k:Q .normal a s)(h:a.at t=.bool false:=by kernel_rfl):EW P kt pr (.cond t y .skip) a s Q:=EW.dL h (EW.skip k)
def zT(k:Q .normal a s)(h:a.at t=.bool true:=by kernel_rfl):EW P kt pr (.cond t .skip y) a s Q:=EW.ew h (EW.skip k)
def zG(k:EW P kt pr y a s Q)(h:a.at t=.bool false:=by kernel_rfl):EW P kt pr (.cond t c y) a s Q:=EW.dL h k
def zH(k:EW P kt pr c a s Q)(h:a.at t=.bool true:=by kernel_rfl):EW P kt pr (.cond t c y) a s Q:=EW.ew h k
def zq(k:ET P kt pr ops rest (a.put o.dst (qV (bM P kt (fun _ _ _=>none) a o s))) (qS (bM P kt (fun _ _ _=>none) a o s)) fun c=>KT ((a,qV (bM P kt (fun _ _ _=>none) a o s),qS (bM P kt (fun _ _ _=>none) a o s))::c))(h:Region.wanted o (bK ops a)=true:=by kernel_rfl)(b:UF (bM P kt (fun _ _ _=>none) a o s)=true:=by kernel_rfl):ET P kt pr ops (o::rest) a s KT:=ET.q h b k
def zp(e:bM P kt (fun _ _ _=>none) a o s=some (v,s1))(k:EO P kt pr ops rest (a.put o.dst v) s1 K)(h:Region.wanted o (bK ops a)=true:=by kernel_rfl):EO P kt pr ops (o::rest) a s K:=EO.op h e k
def zu(e:bM P kt (fun _ _ _=>none) a o s=some (v,s1))(k:ET P kt pr ops rest (a.put o.dst v) s1 fun b=>KT ((a,v,s1)::b))(h:Region.wanted o (bK ops a)=true:=by kernel_rfl):ET P kt pr ops (o::rest) a s KT:=ET.op h e k
end
def rz (c:Nat):Bq:=if c<2048 then [UInt8.ofNat (192+c / 64),UInt8.ofNat (128+c % 64)] else if c<65536 then [UInt8.ofNat (224+c / 4096),UInt8.ofNat (128+c / 64 % 64),UInt8.ofNat (128+c % 64)] else [UInt8.ofNat (240+c / 262144),UInt8.ofNat (128+c / 4096 % 64),UInt8.ofNat (128+c / 64 % 64),UInt8.ofNat (128+c % 64)]
def On{n:Nat}(h:n<256):((UInt8.ofNat n).toNat:Int)=(n:Nat):=by rw[UInt8.toNat_ofNat'];show((n % 256:Nat):Int)=_;rw[Nat.mod_eq_of_lt h]
def j8(c k:Nat):Int.fdiv (c:Int) (2 ^ k)=((c / 2 ^ k:Nat):Int):=by rw[Int.fdiv_eq_ediv_of_nonneg _ (by exact Int.pow_nonneg dq)];simp
def Mc (c:Nat):Prop:=128≤c∧(c<55296∨(57343<c∧c≤1114111))
def uc (s:AS)(sl:Value)(l:Bq):Prop:=(sl=.slice none 0 0∧l=[])∨∃d fz,sl=.slice (some ⟨d,0,none⟩) l.length l.length∧d<s.nx∧s.get d=some (.cells (lI l) 5 fz)
def uc.add{s:AS}{sl:Value}{l:Bq}(h:uc s sl l)(o:Obj):uc (s.add o) sl l:=by
 rcases h with h|⟨d,fz,q1,q2,q3⟩
 ·exact .inl h
 ·exact .inr ⟨d,fz,q1,by simp;omega,by rw[AS.aG,iw oq];exact q3⟩
def vF (s:AS)(sl:Value)(l m:Bq)(s3:AS)(w:Value):Prop:=∃g,w=.slice (some ⟨g,0,none⟩) (l++m).length (l++m).length∧s.nx≤g∧g<s3.nx∧s3.get g=some (.cells (lI (l++m)) 5 (1,1))∧∀k,k<s.nx→(∀n c,sl≠.slice (some ⟨k,0,none⟩) n c)→s3.get k=s.get k
def Jf{s:AS}{sl:Value}{l m:Bq}(h:uc s sl l)(i:m≠[])(j:l.length+m.length≤1000000):∃w f,bn prog 5 sl (strCells ⟨m.toArray⟩) m.length s=some (w,f)∧vF s sl l m f w:=by
 have b:m.length≠0:=by simpa using i
 rcases h with ⟨rfl,rfl⟩|⟨d,fz,rfl,q2,q3⟩
 ·exact⟨_,_,gk b,s.nx,iq,lr,iq,by rw[AS.aG,ip rfl];rfl,fun k g _=>by rw[AS.aG,iw oq]⟩
 ·have a:(lI l).size=l.length:=by simp[strCells]
  refine⟨_,_,fM (sz:=1) b q3 kq (by rw[a];omega) oq,s.nx,by rw[lA],lr,iq,?_,fun k g c=>?_⟩
  ·rw[AS.aG,ip iq];have:List.take (l.length*1) (lI l).toList=strCells ⟨l.toArray⟩:=by rw[Nat.mul_one];exact tL (by simp[strCells])
   rw[this,iY]
  ·rw[AS.aG,iw (by simp;omega),AS.aH,iw (fun e=>c _ _ (by rw[e]))]
def rP{kt:TypeId→Bool}{c:ft}{a:TL}{s s':AS}{o:Oper}{v:Value}{x y:Operand}{sl:Value}{m:Bq}{d k:Nat}{fz:Nat × Nat}(b:o.op=.call { callee:=.builtin .append,args:=#[x,y],argTypes:=#[55,55] })(q:a.at x=sl)(r:a.at y=.slice (sq d) m.length k)(g:kt 5=false)(l:s.get d=some (.cells (lI m) 5 fz))(f:dz sl (sq d)=true)(t:m.length≤1000000)(h:bn prog 5 sl (strCells ⟨m.toArray⟩) m.length s=some (v,s')):bM prog kt c a o s=some (v,s'):=by
 have p:cb prog a o=none:=by unfold cb;rw[b]
 have e:(lI m).size=m.length:=by simp[strCells]
 have j:eh s 1 (sq d) m.length=some (strCells ⟨m.toArray⟩):=by unfold eh;simp only;rw[l];simp only[e];rw[ip oq,Nat.mul_one,List.drop_zero,tL (by simp[strCells])]
 have n:(prog.info? 5).map (fun i=>(i.zero,i.size,i.bytes))=some (some (Value.int .u8 0),1,1):=kq
 unfold bM;rw[iw (by rw[b];simp[eI])];rw[b];simp only;rw[p];simp only[List.map_cons,List.map_nil];rw[q,r];unfold eS;simp only[if_true];rw[underlying55];simp only;rw[n];simp only;rw[j];simp only;rw[ip ⟨rq,oq,oq,oq,g,f,by simp[strCells,Value.oneCell']⟩];exact h
section
variable {rn:Nat}{all:Iq}{s:AS}{pr:Prim}
def mF{s:AS}{sl:Value}{l:Bq}{k:Nat}(h:uc s sl l)(a:s.nx≤k):dz sl (sq k)=true:=by
 rcases h with ⟨rfl,_⟩|⟨d,fz,rfl,q,_⟩
 ·rfl
 ·show(!d.beq k)=true;cases hb:d.beq k
  ·rfl
  ·exact absurd (Nat.eq_of_beq_eq_true hb) oq
def xm{c:Nat}(h:c≤1114111):IntKind.u32.wrap (c:Int)=(c:Int):=by rw[IntKind.wrap_u32];omega
def Om{x:Int}{n:Nat}(a:n<64)(h:x % 64=(n:Int)):bits .or .u8 128 (bits .and .u8 (IntKind.u8.wrap x) 63)=((UInt8.ofNat (128+n)).toNat:Int):=by rw[Qy,On oq,h];omega
def Pd{n:Nat}(a:n<32):bits .or .u8 192 (IntKind.u8.wrap (n:Int))=((UInt8.ofNat (192+n)).toNat:Int):=by rw[IntKind.wrap_u8,show(n:Int) % 256=n by omega,P6 _ oq oq,On oq];omega
def Pe{n:Nat}(a:n<16):bits .or .u8 224 (IntKind.u8.wrap (n:Int))=((UInt8.ofNat (224+n)).toNat:Int):=by rw[IntKind.wrap_u8,show(n:Int) % 256=n by omega,P7 _ oq oq,On oq];omega
def Pf{n:Nat}(a:n<8):bits .or .u8 240 (IntKind.u8.wrap (n:Int))=((UInt8.ofNat (240+n)).toNat:Int):=by rw[IntKind.wrap_u8,show(n:Int) % 256=n by omega,P8 _ oq oq,On oq];omega
def oF{k:IntKind}{i j:Int}{b:Bool}(h:decide (i<j)=b):dj .lss (.int k i) (.int k j)=some (.bool b):=by unfold dj;simp only[ip];rw[h]
def ca{k:IntKind}{i j:Int}{b:Bool}(h:(i != j)=b):dj .neq (.int k i) (.int k j)=some (.bool b):=by unfold dj;simp only[ip];rw[h]
def F1{k:IntKind}{i j:Int}{b:Bool}(h:decide (i>j)=b):dj .gtr (.int k i) (.int k j)=some (.bool b):=by unfold dj;simp only[ip];rw[h]
def vF.wS{s:AS}{sl:Value}{l m:Bq}{o:Obj}{b:AS}{w:Value}(h:vF (s.add o) sl l m b w):vF s sl l m b w:=by have⟨g,h1,h2,h3,c,d⟩:=h;exact⟨g,h1,by simp at h2;omega,h3,c,fun k e a=>(d k (by simp;omega) a).trans (by rw[AS.aG,iw oq])⟩
def Qs(sl:Value)(c:Nat)(tb:Bool)(x:Nq):TL:=[sl,.int .i32 (c:Int),x 2,x 3,x 4,.int .u32 (c:Int),x 6,x 7,x 8,x 9,x 10,x 11,x 12,x 13,x 14,x 15,x 16,x 17,x 18,x 19,x 20,x 21,x 22,x 23,x 24,.bool tb,x 26,x 27,x 28,x 29,x 30,x 31,x 32,x 33,x 34,x 35,x 36,x 37,x 38,x 39,x 40,x 41,x 42,x 43,x 44,x 45,x 46,x 47,x 48,x 49,x 50,x 51,x 52,x 53,x 54,x 55,x 56,x 57,x 58,x 59,x 60,x 61,x 62,x 63,x 64,x 65,x 66,x 67,x 68,x 69,x 70,x 71,x 72,x 73,x 74,x 75,x 76,x 77]
def Du{c:Nat}(z:Mc c){sl:Value}{l:Bq}(h:uc s sl l)(B:l.length≤999996)(q:pr 346=none):∃a,∃w,Ef pr 346 #[sl,.int .i32 (c:Int)] s w a∧vF s sl l (rz c) a w:=by
 suffices hh:Ew pr (match Tryz.f346.body with|some c=>c|none=>.skip) ((#[sl,.int .i32 (c:Int)]:Aq).toList++List.replicate (Tryz.f346.ntmps-(#[sl,.int .i32 (c:Int)]:Aq).toList.length) undef) s (fun e p s1=>(e=.normal∨e=.ret)∧∃w,vF s sl l (rz c) s1 w∧du prog Tryz.f346 p s1=some w) by have⟨m,e,p,s1,h1,o,w,h3,y⟩:=hh;exact⟨s1,w,EF.of q func346 rfl ⟨m,e,p,s1,h1,o,y,rfl⟩,h3⟩
 have⟨A,j⟩:=z;refine zs (zr (zg 1 s (EO.op (v:=.int .u32 (c:Int)) (s1:=s) kq ((show _=some (Value.int .u32 (IntKind.u32.wrap (c:Int)),s) by kernel_rfl).trans (by rw[xm oq])) (zf (za s (EW.block (zr (zk 1 ?_))))))));by_cases h1:c<2048
 ·have o:rz c=[UInt8.ofNat (192+c / 64),UInt8.ofNat (128+c % 64)]:=by unfold rz;rw[ip h1]
  rw[o];refine zp (aU (u:=.int .u32 (c:Int)) (w:=.int .u32 2047) rfl kq kq (di (b:=true) (tD oq))) (zf (zH (zr (zg 4 s (EO.op (v:=.int .u8 ((UInt8.ofNat (192+c / 64)).toNat:Int)) (s1:=s) kq ((show _=some (Value.int .u8 (bits .or .u8 192 (IntKind.u8.wrap (Int.fdiv (c:Int) (2 ^ 6)))),s) by kernel_rfl).trans (by rw[j8,Pd oq])) (zg 3 s (EO.op (v:=.int .u8 ((UInt8.ofNat (128+c % 64)).toNat:Int)) (s1:=s) kq ((show _=some (Value.int .u8 (bits .or .u8 128 (bits .and .u8 (IntKind.u8.wrap (c:Int)) 63)),s) by kernel_rfl).trans (by rw[Om (n:=c % 64) oq oq])) ?_)))))));generalize UInt8.ofNat (192+c / 64)=f;generalize UInt8.ofNat (128+c % 64)=g;refine zg 1 (s.add (.cells (lI [f,g]) 5)) ?_;have⟨w,t,q1,q2⟩:=Jf (m:=[f,g]) (h.add (.cells (lI [f,g]) 5)) iq (by simp;omega);refine zp (rP (m:=[f,g]) (d:=s.nx) (k:=2) (sl:=sl) rfl kq kq kq (by rw[AS.aG,ip rfl]) (mF h lr) iq q1) (zf ?_);exact EW.ret ⟨.inr rfl,w,q2.wS,kq⟩
 ·refine zp (aU (u:=.int .u32 (c:Int)) (w:=.int .u32 2047) rfl kq kq (di (b:=false) (fD oq))) (zf (zG (EW.seq (EW.mono (Q:=fun e p a=>e=.normal∧a=s∧∃x,p=Qs sl c (decide (c<65536)) x) ?_ ?_))))
  ·refine zr (zk 1 ?_);rcases j with j|⟨j,Pa⟩
   ·rw[tD (show c<65536 by omega)];refine zp (aU (u:=.int .u32 (c:Int)) (w:=.int .u32 55296) rfl kq kq (oF (b:=true) (tD oq))) (zf ?_);exact zH (EW.skip ⟨rfl,kq,aN kq⟩)
   ·refine zp (aU (u:=.int .u32 (c:Int)) (w:=.int .u32 55296) rfl kq kq (oF (b:=false) (fD oq))) (zf (zG (zx (zk 1 (zp (aU (u:=.int .u32 57343) (w:=.int .u32 (c:Int)) rfl kq kq (oF (b:=true) (tD oq))) (zk 2 (zp (aU (u:=.int .u32 (c:Int)) (w:=.int .u32 65535) rfl kq kq (di (b:=decide (c<65536)) (by by_cases h:c<65536<;>simp[h]<;>omega))) ?_)))))));generalize decide (c<65536)=C;refine zf ?_;exact⟨rfl,kq,aN kq⟩
  rintro e p a ⟨rfl,rfl,x,rfl⟩;by_cases h2:c<65536
  ·have o:rz c=[UInt8.ofNat (224+c / 4096),UInt8.ofNat (128+c / 64 % 64),UInt8.ofNat (128+c % 64)]:=by unfold rz;rw[iw h1,ip h2]
   rw[o,tD h2];refine zH (zr (zg 4 a (EO.op (v:=.int .u8 ((UInt8.ofNat (224+c / 4096)).toNat:Int)) (s1:=a) kq ((show _=some (Value.int .u8 (bits .or .u8 224 (IntKind.u8.wrap (Int.fdiv (c:Int) (2 ^ 12)))),a) by kernel_rfl).trans (by rw[j8,Pe oq])) (zg 4 a (EO.op (v:=.int .u8 ((UInt8.ofNat (128+c / 64 % 64)).toNat:Int)) (s1:=a) kq ((show _=some (Value.int .u8 (bits .or .u8 128 (bits .and .u8 (IntKind.u8.wrap (Int.fdiv (c:Int) (2 ^ 6))) 63)),a) by kernel_rfl).trans (by rw[j8,Om (n:=c / 64 % 64) oq oq])) (zg 3 a (EO.op (v:=.int .u8 ((UInt8.ofNat (128+c % 64)).toNat:Int)) (s1:=a) kq ((show _=some (Value.int .u8 (bits .or .u8 128 (bits .and .u8 (IntKind.u8.wrap (c:Int)) 63)),a) by kernel_rfl).trans (by rw[Om (n:=c % 64) oq oq])) ?_)))))));generalize UInt8.ofNat (224+c / 4096)=f;generalize UInt8.ofNat (128+c / 64 % 64)=g;generalize UInt8.ofNat (128+c % 64)=i;refine zg 1 (a.add (.cells (lI [f,g,i]) 5)) ?_;have⟨w,t,q1,q2⟩:=Jf (m:=[f,g,i]) (h.add (.cells (lI [f,g,i]) 5)) iq (by simp;omega);refine zp (rP (m:=[f,g,i]) (d:=a.nx) (k:=3) (sl:=sl) rfl kq kq kq (by rw[AS.aG,ip rfl]) (mF h lr) iq q1) (zf ?_);exact EW.ret ⟨.inr rfl,w,q2.wS,kq⟩
  ·have o:rz c=[UInt8.ofNat (240+c / 262144),UInt8.ofNat (128+c / 4096 % 64),UInt8.ofNat (128+c / 64 % 64),UInt8.ofNat (128+c % 64)]:=by unfold rz;rw[iw h1,iw h2]
   rw[o,fD h2];refine zG (zr (zk 1 (zp (aU (u:=.int .u32 (c:Int)) (w:=.int .u32 65535) rfl kq kq (F1 (b:=true) (tD oq))) (zk 2 (zp (aU (u:=.int .u32 (c:Int)) (w:=.int .u32 1114111) rfl kq kq (di (b:=true) (tD oq))) (zf (zH (zr (zg 4 a (EO.op (v:=.int .u8 ((UInt8.ofNat (240+c / 262144)).toNat:Int)) (s1:=a) kq ((show _=some (Value.int .u8 (bits .or .u8 240 (IntKind.u8.wrap (Int.fdiv (c:Int) (2 ^ 18)))),a) by kernel_rfl).trans (by rw[j8,Pf oq])) (zg 4 a (EO.op (v:=.int .u8 ((UInt8.ofNat (128+c / 4096 % 64)).toNat:Int)) (s1:=a) kq ((show _=some (Value.int .u8 (bits .or .u8 128 (bits .and .u8 (IntKind.u8.wrap (Int.fdiv (c:Int) (2 ^ 12))) 63)),a) by kernel_rfl).trans (by rw[j8,Om (n:=c / 4096 % 64) oq oq])) (zg 4 a (EO.op (v:=.int .u8 ((UInt8.ofNat (128+c / 64 % 64)).toNat:Int)) (s1:=a) kq ((show _=some (Value.int .u8 (bits .or .u8 128 (bits .and .u8 (IntKind.u8.wrap (Int.fdiv (c:Int) (2 ^ 6))) 63)),a) by kernel_rfl).trans (by rw[j8,Om (n:=c / 64 % 64) oq oq])) (zg 3 a (EO.op (v:=.int .u8 ((UInt8.ofNat (128+c % 64)).toNat:Int)) (s1:=a) kq ((show _=some (Value.int .u8 (bits .or .u8 128 (bits .and .u8 (IntKind.u8.wrap (c:Int)) 63)),a) by kernel_rfl).trans (by rw[Om (n:=c % 64) oq oq])) ?_))))))))))))))));generalize UInt8.ofNat (240+c / 262144)=f;generalize UInt8.ofNat (128+c / 4096 % 64)=g;generalize UInt8.ofNat (128+c / 64 % 64)=i;generalize UInt8.ofNat (128+c % 64)=r;refine zg 1 (a.add (.cells (lI [f,g,i,r]) 5)) ?_;have⟨w,t,q1,q2⟩:=Jf (m:=[f,g,i,r]) (h.add (.cells (lI [f,g,i,r]) 5)) iq (by simp;omega);refine zp (rP (m:=[f,g,i,r]) (d:=a.nx) (k:=4) (sl:=sl) rfl kq kq kq (by rw[AS.aG,ip rfl]) (mF h lr) iq q1) (zf ?_);exact EW.ret ⟨.inr rfl,w,q2.wS,kq⟩
def FQ{c:Nat}(f:Mc c){sl:Value}{l:Bq}(h:uc s sl l)(j:l.length≤999996)(d:pr 346=none)(a:pr 275=none):∃e,∃w,Ef pr 275 #[sl,.int .i32 (c:Int)] s w e∧vF s sl l (rz c) e w:=by have⟨e,w,h1,h2⟩:=Du f h j d;refine⟨e,w,?_,h2⟩;have⟨g,i⟩:=f;refine EF.of a func275 rfl ?_;refine zs (EW.seq (zr (zg 1 s (EO.op (v:=.int .u32 (c:Int)) (s1:=s) kq ((show _=some (Value.int .u32 (IntKind.u32.wrap (c:Int)),s) by kernel_rfl).trans (by rw[xm oq])) (zp (aU (u:=.int .u32 (c:Int)) (w:=.int .u32 127) rfl kq kq (di (b:=false) (fD oq))) (EO.nil (zF (zr (zc 2 h1 (zf ?_))))))))));exact EW.ret ⟨.inr rfl,kq,kq⟩
def tR{N b:Nat}{l en:Bq}{c:Int}(u:pr 261=none)(t:pr 180=none)(h:BW s N b l)(x:∀(s:AS) (sl:Value),uc s sl l→∃o,∃w,Ef pr 275 #[sl,.int .i32 c] s w o∧vF s sl l en o w):∃o v,Ef pr 180 #[am b 0,.int .i32 c] s v o∧BW o N b (l++en)∧kD N s o:=by
 have⟨P,V,p,sl,S,R,f⟩:=h;have⟨j,F,U,D,H⟩:=wj u S R;have A:uc j sl l:=by
  rcases f with h|⟨d,fz,q1,q2,q3,q4,q5⟩
  ·exact .inl h
  ·exact .inr ⟨d,fz,q1,oq,(H d q4).trans q5⟩
 have G:∀n k,sl≠.slice (sq b) n k:=by
  rintro n k rfl;rcases f with ⟨h,_⟩|⟨d,fz,q1,q2,q3,q4,q5⟩
  ·cases h
  ·cases q1;exact q4 rfl
 have z:∀k,k<N→∀n I,sl≠.slice (sq k) n I:=by
  rintro k K n I rfl;rcases f with ⟨h,_⟩|⟨d,fz,q1,q2,q3,q4,q5⟩
  ·cases h
  ·cases q1;omega
 have y:∃n B,sl=.slice (match sl with|.slice a _ _=>a|_=>none) n B∧n=l.length:=by
  rcases f with ⟨rfl,rfl⟩|⟨d,fz,rfl,_⟩
  ·exact⟨0,0,rfl,rfl⟩
  ·exact⟨_,_,rfl,rfl⟩
 obtain⟨r,w,E,g,rfl,g1,g2,g3,g4⟩:=x j sl A;have O:r.get b=some (.cells #[am b 0,sl] 119):=(g4 b oq G).trans D;suffices hh:Ew pr (match Tryz.f180.body with|some c=>c|none=>.skip) ((#[am b 0,.int .i32 c]:Aq).toList++List.replicate (Tryz.f180.ntmps-(#[am b 0,.int .i32 c]:Aq).toList.length) undef) s (fun e C j=>(e=.normal∨e=.ret)∧j=r.set b (some (.cells #[am b 0,.slice (sq g) (l++en).length (l++en).length] 119))∧∃w,du prog Tryz.f180 C j=some w) by
  have⟨m,e,C,M,h1,Q,h2,w,h3⟩:=hh;refine⟨M,w,EF.of t func180 rfl ⟨m,e,C,M,h1,Q,h3,rfl⟩,?_,?_⟩
  ·rw[h2];refine⟨P,by simp;omega,_,_,by rw[AS.aH,ip rfl],.inr rfl,.inr ⟨g,(1,1),rfl,oq,by simpa using g2,oq,by rw[AS.aH,iw oq];exact g3⟩⟩
  ·rw[h2];exact⟨by simp;omega,fun k K=>by rw[AS.aH,iw oq,g4 k oq (z k K),H k oq]⟩
 refine zs (zr (zc 1 F (EO.nil ?_)));obtain⟨n,B,i,rfl⟩:=y;generalize W:(match sl with|.slice a _ _=>a|_=>none)=q at i;subst i;refine zr (zg 3 j (zp (bP (b:=b) (off:=1) (v:=.slice q l.length B) rfl underlying55 rfl kq D rfl) (zf (za j (zr (zg 4 j (zp (bP (b:=b) (off:=1) (v:=.slice q l.length B) rfl underlying55 rfl kq D rfl) (zc 1 E (zg 2 r ?_)))))))));generalize (l++en).length=L;refine zp (gC (b:=b) (off:=1) (w:=.slice (sq g) L L) rfl kq kq rfl rfl kq O iq) (EO.nil (za (r.set b (some (.cells #[am b 0,.slice (sq g) L L] 119))) ?_));have J:(r.set b (some (.cells #[am b 0,.slice (sq g) L L] 119))).get b=some (.cells #[am b 0,.slice (sq g) L L] 119):=by rw[AS.aH,ip rfl]
 generalize r.set b (some (.cells #[am b 0,.slice (sq g) L L] 119))=T at J;refine zr (zg 3 T (zp (bP (b:=b) (off:=1) (v:=.slice (sq g) L L) rfl underlying55 rfl kq J rfl) (zf ?_)));exact EW.ret ⟨.inr rfl,kq,.tuple #[.int .i64 (iO .i64 ((L:Int)-(l.length:Int))),.nilIface],kq⟩
end
section
variable {ι:Type}{P:Program}{KT:TypeId→Prop}{An:bJ}{N0:ι→Nat}{M:ι→World→Nat→Prop}{O:ι→Nat→Prop}{R:ι→Wq}{D:ι→World→World→Array Event→Prop}{X:ι→Gq}{Hd:ι→Hq→World→Prop}{kt:TypeId→Bool}{pr:Prim}
def WI (P:Program)(KT:TypeId→Prop)(An:bJ)(X:ι→Gq)(Hd:ι→Hq→World→Prop)(c:Code)(aA:TL)(s:AS)(Q:Exit→TL→AS→Prop):Prop :=
 ∀(fn:FuncId) (S:bJ) (l fr:Hq) (i:ι) (w:World) (a:Act) (Q':dV ι),eK P KT An S s l→Hd i (l++fr) w→AR (VR S) aA.toArray a.tmps→a.defers=[]→(∀b,s.nx≤b→S b=none) →
  (∀e jy s' i' S' l' w' a',Q e jy s'→eK P KT An S' s' l'→Hd i' (l'++fr) w'→AR (VR S') jy.toArray a'.tmps→a'.defers=[]→(∀b,s'.nx≤b→S' b=none)→Q' i' e a' w')→lm X fn c i Q' a w
def WO (P:Program)(KT:TypeId→Prop)(An:bJ)(X:ι→Gq)(Hd:ι→Hq→World→Prop)(ops:Array Oper)(k:Nat)(aA:TL)(s:AS)(Q:TL→AS→Prop):Prop :=
 ∀(fn:FuncId) (S:bJ) (l fr:Hq) (i:ι) (w:World) (a:Act) (Q':dV ι),eK P KT An S s l→Hd i (l++fr) w→AR (VR S) aA.toArray a.tmps→a.defers=[]→(∀b,s.nx≤b→S b=none) →
  (∀jy s' i' S' l' w' a',Q jy s'→eK P KT An S' s' l'→Hd i' (l'++fr) w'→AR (VR S') jy.toArray a'.tmps→a'.defers=[]→(∀b,s'.nx≤b→S' b=none)→Q' i' .normal a' w')→ck X fn ops (List.range' k (ops.size-k)) i Q' a w
variable {aA:TL}{s s1:AS}{Q:Exit→TL→AS→Prop}{K:TL→AS→Prop}{c x y:Code}{ops:Array Oper}{o:Oper}{v:Value}
def WI.of(Y : Cy P KT N0 M O R D X Hd)(hm : P.follows .mixedOrders = true)(AG : ∀ t, kt t = false → ¬ KT t)(hp : cN P KT An R D X Hd pr)(uU : ∀ (f : FuncId) (aM : Func), P.funcs[f]? = some aM → (aM.name == "runtime.NumGoroutine") = false)(h : EW P kt pr c aA s Q) : WI P KT An X Hd c aA s Q := by have⟨n, e, jy, s', h1, h2⟩:=h;intro fn S l fr i w a Q' hS hF hA hd ql k;have Po:=(yx (P:=P) (kt:=kt) hp.nx n).1 _ _ _ _ _ _ h1;refine((gR Y hm AG hp uU n).1 c fn aA jy s s' e S l fr i w a Q' h1 hS hF hA hd (fun b hb _=>ql b hb) ?_).1;intro i' S' l' w' a' q1 q2 q3 q4 q5 q6;exact k e jy s' i' S' l' w' a' h2 q3 q4 q5 q6 fun b hb=>by rw[q2 b (.inr hb)]; exact ql b oq
def Qz(P:Program)(KT:TypeId→Prop)(An:bJ)(X:ι→Gq)(b:ι→Hq→World→Prop)(y:Code)(Q:Exit→TL→AS→Prop):Exit→TL→AS→Prop:=fun e a s=>match e with
 | .normal=>WI P KT An X b y a s Q
 | e=>Q e a s
def WI.seq(Y:Cy P KT N0 M O R D X Hd)(h:WI P KT An X Hd x aA s (Qz P KT An X Hd y Q)):WI P KT An X Hd (.seq x y) aA s Q:=by
 intro g S l j i w a u A z v B c k;refine cj Y.C Y.T (h g S l j i w a _ A z v B c ?_);intro e b E m d n t f q q3 q4 o p r;cases e with
 | normal=>exact q g d n j m t f u q3 q4 o p r k
 | _=>exact k _ b E m d n t f q q3 q4 o p r
def WI.region(Y:Cy P KT N0 M O R D X Hd){u:Nat}(h:WO P KT An X Hd ops 0 aA s (fun b e=>Q .normal b e)):WI P KT An X Hd (.region u ops false) aA s Q:=by intro j S l m i w a f p o n r d k;refine aR Y.C Y.T ?_;rw[List.range_eq_range'];exact h j S l m i w a f p o n r d fun c e t g v x b q=>k .normal c e t g v x b q
def Bf{k n:Nat}(h:k<n):List.range' k (n-k)=k::List.range' (k+1) (n-(k+1)):=by obtain⟨m,a⟩:∃m,n-k=m+1:=⟨n-k-1,oq⟩;rw[a,List.range'_succ,show n-(k+1)=m by omega]
def WO.VB(Y:Cy P KT N0 M O R D X Hd)(q:∀t,kt t=false→¬KT t){k:Nat}(x:ops[k]?=some o)(E:∀(S:bJ) (a:Act),An.le S→AR (VR S) aA.toArray a.tmps→eB S aA a o)(H:Region.wanted o (bK ops aA)=true)(h:bM P kt (fun _ _ _=>none) aA o s=some (v,s1))(J:WO P KT An X Hd ops (k+1) (aA.put o.dst v) s1 K):WO P KT An X Hd ops k aA s K:=by intro A S l B i w a y u C g F e L;have G:=rI (P:=P) (kt:=kt) (call:=fun _ _ _=>none) (fun f d s v Q h=>by cases h) h;rw[Bf (Array.getElem?_eq_some_iff.1 x).1];refine mm Y q (call:=fun _ _ _=>none) (fun f d s v Q h=>by cases h) x (by rw[ll g];exact H) (E S a u.an g) u C h (fun b n _=>e b n) ?_;intro I z N U T m p c j r;refine J A z N B I U (a.put o.dst T) y c j (rR (g.mono m) r _) ?_ (fun b n=>by rw[p b (.inr n)];exact e b oq) L;cases Pg:o.dst<;>exact F
def WO.nil(Y:Cy P KT N0 M O R D X Hd){k:Nat}(g:ops.size=k)(h:K aA s):WO P KT An X Hd ops k aA s K:=by intro n S l o i w a m e d c f b j;rw[g,Nat.sub_self,List.range'_zero];exact bq Y.C Y.T (j aA s i S l w a h e d c f b)
def p5.of(Y : Cy P KT N0 M O R D X Hd)(uU : ∀ (f : FuncId) (aM : Func), P.funcs[f]? = some aM → (aM.name == "runtime.NumGoroutine") = false){f : FuncId}{aM : Func}{args : Array Value}{s' : AS}(hf : P.funcs[f]? = some aM)(hb : aM.body = some c)(h : WI P KT An X Hd c (args.toList ++ List.replicate (aM.ntmps - args.toList.length) undef) s (fun e a' s1 => (e = .normal ∨ e = .ret) ∧ du P aM a' s1 = some v ∧ s1 = s')) : p5 P KT An R D X Hd f args s v s' := by
 intro S l fr i w args' hS hF hA ql;refine⟨aM,c,hf,uU f aM hf,hb,?_⟩;refine h f S l fr i w _ _ hS hF ?_ rfl ql ?_
 ·have:args.toList.length=args'.size:=by rw[← hA.1]; simp
  have h2:=hA.append (AR.replicate (S:=S) (x:=undef) (v:=undef) (aM.ntmps-args'.size) VR.undef);have he:(args.toList++List.replicate (aM.ntmps-args.toList.length) undef).toArray=args++Array.replicate (aM.ntmps-args'.size) undef:=by apply Array.toList_inj.1;rw[this];simp
  rw[he];exact h2
 ·rintro e a1 s1 i' S' l' w' a' ⟨hex,hr,rfl⟩ h3 h4 h5 h6 _;refine⟨hex,h6,fun aE Td=>?_⟩;have GC:=(Y.Z h4).rely h4 Td;have⟨v',hv,Pq⟩:=vn Y h3 GC h5 hr;refine⟨v',Pq.1,?_,S',l',h3,GC,hv⟩;exact(Y.Z GC).env.jA ((Y.Z GC).size GC) (Own.refl _) fun ev Fh=>Pq.2 ev (mem_seen Fh)
end
section
variable {n:Nat}{s:AS}{pr:Prim}
def oR{l p:Bq}{b:Bool}(c:pr 178=none)(h:(decide (p.length≤l.length)&&aY (l.take p.length) p)=b):Ef pr 178 #[str l,str p] s (.bool b) s:=by
 refine EF.of c func178 rfl ?_;refine EW.seq (EW.go 5 kq (EW.seq (EW.region kq (EO.go 1 5 kq (EO.op kq (da (l:=l) rfl underlying9 kq) (EO.go 1 5 kq (EO.op kq (da (l:=p) rfl underlying9 kq) ?_)))))));by_cases a:p.length≤l.length
 ·refine EO.op kq (aU (u:=num l.length) (w:=num p.length) rfl kq kq (iQ (b:=true) (tD oq))) (EO.go 3 5 kq (EO.op kq (da (l:=p) rfl underlying9 kq) (EO.op kq (jU (l:=l) (i:=0) (j:=p.length) rfl underlying9 kq ((show _=bH l.length l.length none (some (num p.length)) by kernel_rfl).trans (p9 oq oq)) rfl) (EO.fin 5 kq (EW.ret ⟨.inr rfl,?_,kq⟩)))));rw[tD a,Bool.true_and] at h;rw[← h];kernel_rfl
 ·refine EO.op kq (aU (u:=num l.length) (w:=num p.length) rfl kq kq (iQ (b:=false) (fD oq))) (EO.fin 5 kq (EW.ret ⟨.inr rfl,?_,kq⟩));rw[fD a,Bool.false_and] at h;rw[← h];kernel_rfl
def yG{l p:Bq}{b:Bool}(c:pr 178=none)(a:pr 89=none)(h:(decide (p.length≤l.length)&&aY (l.take p.length) p)=b):Ef pr 89 #[str l,str p] s (.bool b) s:=by refine EF.of a func89 rfl ?_;refine EW.seq (EW.go 5 kq (EW.seq (EW.region kq (EO.go 2 5 kq (EO.fA #[str l,str p] kq rfl rfl kq kq (oR c h) (EO.fin 5 kq ?_))))));exact EW.ret ⟨.inr rfl,kq,kq⟩
def DI(a:pr 178=none)(c:pr 340=none){l p x:Bq}{b:Bool}(h:(b=false∧(decide (p.length≤l.length)&&aY (l.take p.length) p)=false∧x=l)∨(b=true∧l=p++x)):Ef pr 340 #[str l,str p] s (.tuple #[str x,.bool b]) s:=by
 refine EF.of c func340 rfl ?_;refine EW.seq (EW.go 5 kq (EW.seq (EW.seq (EW.region kq (EO.go 2 5 kq ?_)))));rcases h with ⟨rfl,h,rfl⟩|⟨rfl,rfl⟩
 ·refine EO.fA #[str x,str p] kq rfl rfl kq kq (oR a h) (EO.fin 5 kq (EW.xt 5 .ret kq ?_));exact⟨.inr rfl,kq,kq⟩
 ·refine EO.fA #[str (p++x),str p] kq rfl rfl kq kq (oR (b:=true) a (by simp[(eQ p p).2 rfl])) (EO.fin 5 kq (EW.go 5 kq (EW.seq (EW.region kq (EO.go 2 5 kq (EO.op kq (da (l:=p) rfl underlying9 kq) (EO.op kq (jU (l:=p++x) (i:=p.length) (j:=(p++x).length) rfl underlying9 kq ((show _=bH (p++x).length (p++x).length (some (num p.length)) none by kernel_rfl).trans (lR oq (by simp;omega))) (by rw[List.take_length,List.drop_left])) (EO.fin 5 kq ?_))))))));exact EW.ret ⟨.inr rfl,kq,kq⟩
def ya(a:pr 178=none)(d:pr 340=none)(c:pr 269=none){l p x:Bq}{b:Bool}(h:(b=false∧(decide (p.length≤l.length)&&aY (l.take p.length) p)=false∧x=l)∨(b=true∧l=p++x)):Ef pr 269 #[str l,str p] s (.tuple #[str x,.bool b]) s:=by refine EF.of c func269 rfl ?_;refine EW.seq (EW.go 5 kq (EW.seq (EW.region kq (EO.go 2 5 kq (EO.fA #[str l,str p] kq rfl rfl kq kq (DI a d h) (EO.fin 5 kq ?_))))));exact EW.ret ⟨.inr rfl,kq,kq⟩
end
def uf:Bq→Bq→Option (Bq)
 | [],l=>some l
 | _::_,[]=>none
 | a::p,b::l=>if b.toNat.beq a.toNat then uf p l else none
def qg:∀{p l r:Bq},uf p l=some r→l=p++r
 | [],l,r,h=>by cases h;rfl
 | _::_,[],r,h=>by cases h
 | a::p,b::l,r,h=>by
  unfold uf at h;split at h
  ·next e=>rw[qg h,UInt8.toNat_inj.1 (Nat.eq_of_beq_eq_true e)];rfl
  ·cases h
def qf:∀{p l:Bq},uf p l=none→(decide (p.length≤l.length)&&aY (l.take p.length) p)=false
 | [],l,h=>by cases h
 | _::_,[],h=>by simp
 | a::p,b::l,h=>by
  unfold uf at h;have e1:decide ((a::p).length≤(b::l).length)=decide (p.length≤l.length):=iq
  have e2:(b::l).take (a::p).length=b::l.take p.length:=rfl;rw[e1,e2];unfold aY;split at h
  ·next e=>rw[ip e];exact qf h
  ·next e=>rw[iw e,Bool.and_false]
def QC (args:Aq):Option Value:=match args.toList with
 | [.string x,.string p]=>some (match uf p.data.toList x.data.toList with
  | some r=>.tuple #[str r,.bool true]
  | none=>.tuple #[.string x,.bool false])
 | _=>none
def QD (args:Aq):Option Value:=match args.toList with
 | [.string x,.string p]=>some (.bool (uf p.data.toList x.data.toList).isSome)
 | _=>none
def Qg:Prim:=ly 178 QD (ly 269 QC bB)
def ML{p l:Bq}:(decide (p.length≤l.length)&&aY (l.take p.length) p)=(uf p l).isSome:=by
 cases h:uf p l with
 | none=>exact qf h
 | some r=>rw[qg h];simp[(eQ p p).2 rfl]
section
variable {ι:Type}{An:bJ}{N0:ι→Nat}{M:ι→World→Nat→Prop}{O:ι→Nat→Prop}{R:ι→Wq}{D:ι→World→World→Array Event→Prop}{X:ι→Gq}{Hd:ι→Hq→World→Prop}
def Hv(Y:Cy prog eO N0 M O R D X Hd)(c:∀b,2≤b→An b=none):cN prog eO An R D X Hd Qg:=by
 refine cN.add Y kq eo dD (m:=2) c (cN.add Y kq eo dD (m:=2) c (qF Y) fun a v h=>?_) fun a v h=>?_
 ·unfold QC at h;split at h
  ·next x p d =>
   rw[q9 d];cases hc:uf p.data.toList x.data.toList with
   | none=>simp only[hc] at h;cases h;exact⟨rfl,rfl,_,ya (l:=x.data.toList) (p:=p.data.toList) rfl rfl rfl (.inl ⟨rfl,qf hc,rfl⟩)⟩
   | some r=>simp only[hc] at h;cases h;exact⟨rfl,rfl,_,ya (l:=x.data.toList) (p:=p.data.toList) rfl rfl rfl (.inr ⟨rfl,qg hc⟩)⟩
  ·cases h
 ·unfold QD at h;split at h
  ·next x p d =>cases h;rw[q9 d];exact⟨rfl,rfl,_,oR rfl ML⟩
  ·cases h
def s9:AS:=⟨[[none,some (.cells db.toArray 335)]],2⟩
def sN (n:Nat):AS:=(OS.take n).foldl (fun s e=>s.add (.cells (OT e).toArray 334)) s9
def Vz:Int→Nat
 | 38=>1
 | 60=>2
 | 62=>3
 | _=>4
def Mp(Y:Cy prog eO N0 M O R D X Hd)(g:∀b,2≤b→An b=none){z e:Nat}(h1:An 1=some (1,z,e)){t:Bq}{c m:Int}(f:PO t=some (c,m))(k:Int):(sN (Vz c)).get 1=some (.cells db.toArray 335)∧p5 prog eO An R D X Hd 333 #[str t,num k] s9 (.tuple #[.int .i32 c,num m]) (sN (Vz c)):=by
 have i:=Hv (An:=An) Y g;unfold PO at f;split at f;iterate 4
  ·cases f;refine⟨kq,?_⟩
   ·refine p5.of Y dD func333 rfl ?_;iterate 2 refine WI.seq Y (WI.of Y kq eo i dD (EW.go 5 kq ?_))
    refine WI.seq Y (WI.seq Y (WI.region Y ?_));refine WO.VB Y eo (v:=.agg db.toArray) (s1:=s9) rfl (fun S a h j x d=>?_) kq kq ?_
    ·simp[Op.operands] at d;subst d;exact VR.gw (h _ _ h1)
    refine WO.VB Y eo (v:=num 0) (s1:=s9) rfl (fun S a h j x d=>?_) kq kq ?_
    ·simp[Op.operands] at d;subst d;exact VR.dE rfl
    refine WO.nil Y rfl ?_;refine WI.of Y kq eo i dD (EW.xt 60 .ret kq ?_);exact⟨.inr rfl,kq,kq⟩
 ·cases f
def Sound.BJ{P:Program}{KT:TypeId→Prop}{f:FuncId}{args:Aq}{s:AS}{v:Value}{b:bJ}{s':AS}(e:b.le An)(h:Sound P KT b R D X Hd f args s v s'):Sound P KT An R D X Hd f args s v s':=by intro S l j i w a c m k d;refine(h S l j i w a ⟨c.live,c.inj,c.lt,bJ.le_trans e c.an⟩ m k d).mono ?_;rintro p q r ⟨g,n,q1,q2,q3,q4,o⟩;exact⟨g,n,q1,q2,⟨q3.live,q3.inj,q3.lt,bJ.le_trans c.an q1⟩,q4,o⟩
def Nz(b:Nat):s9.get b=if b=1 then some (.cells db.toArray 335) else none:=by
 match b with
 | 0=>rfl
 | 1=>rfl
 | b+2 =>
  rw[iw oq];unfold AS.get s9;match h:(b+2) / 16 with
  | 0 =>
   have e:(b+2) % 16=b % 16+2:=oq
   rw[e];rfl
  | m+1=>rfl
def Ah(Y:Cy prog eO N0 M O R D X Hd){z e:Nat}(h1:An 1=some (1,z,e)){x:ByteArray}{c m:Int}(j:PO x.data.toList=some (c,m))(k:Int){s:AS}(i:s.get 1=some (.cells db.toArray 335)):Sound prog eO An R D X Hd 333 #[.string x,.int .i64 k] s (.tuple #[.int .i32 c,.int .i64 m]) s:=by
 obtain⟨A,g,a,f⟩:∃A:bJ,(∀b,2≤b→A b=none)∧A 1=some (1,z,e)∧A.le An:=⟨fun b=>if b=1 then An b else none,fun b d=>iw oq,by simpa using h1,fun b y h=>by
  by_cases d:b=1
  ·simpa[d] using h
  ·simp[d] at h⟩;have⟨g1,g2⟩:=Mp Y g a j k;exact Sound.BJ f (Sound.FN (k:=2) (m:=2) Y a g kq Nz rfl g1 i rfl rfl g2)
end
end
section
open Go.Conc Go.RowKit Go.Lib Tryz
variable {b e2 g k rn z1 z2:Nat}{i:Ix}{es:Array Event}{R8 cap cells cs old:Aq}{t ty:TypeId}{P:Program}{o:Oper}{a:Act}{d:Deferred}
def th (rn:Nat)(L:Iq):Prim:=fun f=>if f.beq 92 then none else dl rn L f
def Kw(rn:Nat)(all:Iq):∀f g a s v b,th rn all f=some g→g a s=some (v,b)→s.nx≤b.nx:=by
 intro f g a s v b U h;unfold th at U;split at U
 ·cases U
 ·exact pw rn all f g a s v b U h
section
variable {ι:Type}{P:Program}{KT:TypeId→Prop}{An:bJ}{N0:ι→Nat}{M:ι→World→Nat→Prop}{O:ι→Nat→Prop}{R:ι→Wq}{D:ι→World→World→Array Event→Prop}{X:ι→Gq}{Hd:ι→Hq→World→Prop}{f:FuncId}{args:Aq}{s:AS}{v:Value}
def Sound.Mi(Y:Cy P KT N0 M O R D X Hd){m:Nat}{s1:AS}(g:∀b,k≤b→An b=none)(q:∀(S:bJ) a,An.le S→AR (VR S) args a→AR (VR An) args a)(e:fF m v=true)(h:Sound P KT An R D X Hd f args ⟨[],k⟩ v s1):Sound P KT An R D X Hd f args s v s:=by
 intro S l j i w a d p n y;have c:∀b o,(⟨[],k⟩:AS).get b=some o→False:=fun b o U=>by unfold AS.get at U;simp at U
 refine(h An [] (l++j) i w a ⟨fun b o U=>(c b o U).elim,fun b z o B x F U=>(c b o U).elim,fun b o U=>(c b o U).elim,bJ.le_refl An⟩ p (q S a d.an n) fun b U _=>g b U).mono ?_;rintro A C E ⟨u,r,q1,q2,q3,q4,t⟩;refine⟨S,l,bJ.le_refl S,fun _ _=>rfl,d,l8 Y (l:=r) q4,?_⟩;rw[VR.flat e t];exact VR.of_flat e
end
def Ar (c:Nat):Bq:=if c<128 then [UInt8.ofNat c] else rz c
def Gt(c:Nat):1≤(Ar c).length∧(Ar c).length≤4:=by
 unfold Ar rz;split
 ·simp
 ·split
  ·simp
  ·split<;>simp
def yF{r:Int}(h:Good r):∃c:Nat,r=(c:Int)∧(c<128∨Mc c)∧Lib.encodeRune r=Ar c:=by
 have U:0≤r:=by rcases h with h|h<;>omega
 obtain⟨c,rfl⟩:=Int.eq_ofNat_of_zero_le U;have a:c<55296∨(57343<c∧c≤1114111):=by rcases h with h|h<;>omega
 refine⟨c,rfl,?_,?_⟩
 ·by_cases h1:c<128
  ·exact .inl h1
  ·exact .inr ⟨oq,a⟩
 ·have b:∀n:Nat,((n:Int)).toNat=n:=fun n=>Int.toNat_natCast n;unfold Ar rz Lib.encodeRune;split
  ·next h1=>rw[Lib.encodeRuneZ_one oq oq];simp
  ·next h1 =>
   split
   ·next h2 =>rw[Lib.encodeRuneZ_two oq oq];simp only[List.map_cons,List.map_nil];rw[show(192+(c:Int) / 64).toNat=192+c / 64 by omega,show(128+(c:Int) % 64).toNat=128+c % 64 by omega]
   ·next h2 =>
    split
    ·next h3 =>rw[Lib.encodeRuneZ_three oq];simp only[List.map_cons,List.map_nil];rw[show(224+(c:Int) / 4096).toNat=224+c / 4096 by omega,show(128+(c:Int) / 64 % 64).toNat=128+c / 64 % 64 by omega,show(128+(c:Int) % 64).toNat=128+c % 64 by omega]
    ·next h3 =>rw[Lib.encodeRuneZ_four oq oq];simp only[List.map_cons,List.map_nil];rw[show(240+(c:Int) / 262144).toNat=240+c / 262144 by omega,show(128+(c:Int) / 4096 % 64).toNat=128+c / 4096 % 64 by omega,show(128+(c:Int) / 64 % 64).toNat=128+c / 64 % 64 by omega,show(128+(c:Int) % 64).toNat=128+c % 64 by omega]
section
variable {pr:Prim}{s:AS}
def uz{c:Nat}(g:c<128){sl:Value}{l:Bq}(h:uc s sl l)(i:l.length≤999996)(U:pr 275=none):∃e,∃w,Ef pr 275 #[sl,.int .i32 (c:Int)] s w e∧vF s sl l [UInt8.ofNat c] e w:=by
 have a:IntKind.u8.wrap (c:Int)=((UInt8.ofNat c).toNat:Int):=by rw[IntKind.wrap_u8,On oq];omega
 generalize UInt8.ofNat c=b at a;have⟨w,f,q1,q2⟩:=Jf (m:=[b]) (h.add (.cells (lI [b]) 5)) iq (by simp;omega);refine⟨f,w,?_,q2.wS⟩;refine EF.of U func275 rfl ?_;refine EW.seq (EW.go 5 kq (EW.seq (EW.seq (EW.region kq (EO.go 1 5 kq (EO.cV s kq (EO.op (v:=.int .u32 (c:Int)) (s1:=s) kq ((show _=some (Value.int .u32 (IntKind.u32.wrap (c:Int)),s) by kernel_rfl).trans (by rw[xm oq])) (EO.op kq (aU (u:=.int .u32 (c:Int)) (w:=.int .u32 127) rfl kq kq (di (b:=true) (tD oq))) (EO.nil (EW.ew kq (EW.seq (EW.region kq (EO.go 2 5 kq (EO.cV s kq (EO.op (v:=.int .u8 (b.toNat:Int)) (s1:=s) kq ((show _=some (Value.int .u8 (IntKind.u8.wrap (c:Int)),s) by kernel_rfl).trans (by rw[a])) (EO.go 1 5 kq (EO.cV (s.add (.cells (lI [b]) 5)) kq (EO.op kq (rP (m:=[b]) (d:=s.nx) (k:=1) (sl:=sl) rfl kq kq kq (by rw[AS.aG,ip rfl]) (mF h lr) iq q1) (EO.fin 5 kq ?_)))))))))))))))))));exact EW.ret ⟨.inr rfl,kq,kq⟩
def vx{p:Value}(U:pr 84=none)(a:s.get b=some (.cells #[p,.slice none 0 0] 119)):Ef pr 84 #[am b 0] s (str []) s:=by
 refine EF.of U func84 rfl ?_;refine EW.seq (EW.go 5 kq (EW.seq (EW.draw kq kq kq ?_)));iterate 3 refine ET.q kq kq ?_
 refine ET.cV s kq (ET.op kq (bP (b:=b) (off:=1) (v:=.slice none 0 0) rfl underlying55 rfl kq a rfl) ?_);iterate 4 refine ET.q kq kq ?_
 refine ET.cV s kq (ET.op kq (bP (b:=b) (off:=1) (v:=.slice none 0 0) rfl underlying55 rfl kq a rfl) ?_);iterate 3 refine ET.q kq kq ?_
 have c:aC prog 55 (am b 1) s=some (.slice none 0 0):=by unfold aC;simp only[am,a,underlying55];rfl
 refine ET.nil ⟨aK [(aC prog 55 (am b 1) s,.slice none 0 0),(aC prog 55 (am b 1) s,.slice none 0 0)] kq (by simp[bu,c]),_,_,_,_,_,_,rfl,rfl,?_⟩;exact EW.ret ⟨.inr rfl,kq,kq⟩
end
section
variable {rn:Nat}{all:Iq}{s:AS}
def NL (rn i j b p:Nat)(x:Nq):TL:=[am rn 0,num (i:Nat),num (j:Nat),x 3,x 4,x 5,str [],am b 0,num (p:Nat)]++iy x 9 17
def Me:(k<all.length∧∃r,all[k]?=some r∧all[k]?.getD (-1)=r)∨(all.length≤k∧all[k]?.getD (-1) = -1):=by
 by_cases h:k<all.length
 ·exact .inl ⟨h,all[k],gE h,by rw[gE h];rfl⟩
 ·exact .inr ⟨oq,by rw[List.getElem?_eq_none oq];rfl⟩
def Mk (k:Nat):EF prog lF (th rn all) 146 #[am rn 0,num (k:Nat)] s (.int .i32 (all[k]?.getD (-1))) s:=by
 refine EF.rC (g:=fun a s=>match a.toList with
  | [.pointer (some ⟨b,0,none⟩),.int .i64 k]=>if b=rn∧0≤k then some (.int .i32 (all[k.toNat]?.getD (-1)),s) else none
  | _=>none) rfl ?_
 simp only [am]
 rw [ip ⟨trivial,oq⟩]
 simp
def vC(l:Iq)(r:Int):aV (l++[r])=aV l++Lib.encodeRune r:=by simp[aV]
def zD(l:Iq):(aV l).length≤4*l.length:=by
 induction l with
 | nil=>simp[aV]
 | cons r l U =>
  have h:(Lib.encodeRune r).length≤4:=by unfold Lib.encodeRune;rw[List.length_map];exact(Lib.encodeRuneZ_length r).2
  simp only[aV,List.flatMap_cons,lA,lC] at U ⊢;omega
def EI(E:∀r∈all,Good r)(V:4*all.length≤1000000)(i j:Nat)(S:j≤1000000):∃t,Ef (th rn all) 92 #[am rn 0,num (i:Nat),num (j:Nat)] s (str (aV ((all.drop i).take (j-i)))) t:=by
 suffices hh:∃t,Ef (th rn all) 92 #[am rn 0,num (i:Nat),num (j:Nat)] s (str (aV ((all.drop i).take (j-i)))) t∧True by have⟨t,h,_⟩:=hh;exact⟨t,h⟩
 have M:BW (s.add (.cells #[.pointer none,.slice none 0 0] 119)) s.nx s.nx []:=⟨lr,iq,.pointer none,.slice none 0 0,by rw[AS.aG,ip rfl],.inl rfl,.inl ⟨rfl,rfl⟩⟩;refine EF.gq kq func92 rfl ?_;iterate 2 refine EW.seq (EW.go 5 kq ?_)
 refine EW.seq (EW.seq (EW.go 5 kq (EW.cV (s.add (.cells #[.pointer none,.slice none 0 0] 119)) kq ?_)));refine EW.fill (NL rn i j s.nx i) kq ?_;intro O;refine EW.block ?_;refine EW.mono (EW.dS (Q:=fun e o a=>e=.exit 0∧∃d,((d=0∧a=s.add (.cells #[.pointer none,.slice none 0 0] 119))∨(d≠0∧BW a s.nx s.nx (aV ((all.drop i).take d))))∧(d=0∨i+d≤all.length)∧(all.drop i).take d=(all.drop i).take (j-i)∧∃x,o=NL rn i j s.nx (i+d) x) (fun m o a=>∃d,m+d=j-i∧((d=0∧a=s.add (.cells #[.pointer none,.slice none 0 0] 119))∨(d≠0∧BW a s.nx s.nx (aV ((all.drop i).take d))))∧(d=0∨i+d≤all.length)∧∃x,o=NL rn i j s.nx (i+d) x) ?_ (j-i) _ _ ⟨0,oq,.inl ⟨rfl,rfl⟩,.inl rfl,O,rfl⟩) ?_
 ·rintro m o a ⟨d,T,U,z,x,rfl⟩;have g:=Mk (rn:=rn) (all:=all) (s:=a) (i+d);refine EW.seq (EW.seq (EW.region kq (EO.go 2 5 kq ?_)));by_cases K:i+d<j
  ·refine EO.op kq (aU (u:=num ((i+d:Nat):Int)) (w:=num (j:Nat)) rfl kq kq (aX (b:=true) (tD oq))) (EO.go 3 5 kq (EO.cV a kq (EO.fA #[am rn 0,num ((i+d:Nat):Int)] kq rfl rfl kq kq g ?_)));rcases Me (all:=all) (k:=i+d) with ⟨v,r,hr,Tf⟩|⟨v,Tf⟩
   ·rw[Tf] at g ⊢;have H:=E r (mG hr);obtain⟨c,rfl,l,y⟩:=yF H;have B:BW a s.nx s.nx (aV ((all.drop i).take d)):=by
     rcases U with ⟨rfl,rfl⟩|⟨_,h⟩
     ·exact M
     ·exact h
    have F:=zD ((all.drop i).take d);have n:((all.drop i).take d).length+1≤all.length:=by rw[List.length_take,List.length_drop];omega
    have⟨N,Z,L,C,P⟩:=tR (pr:=th rn all) (en:=Ar c) (c:=(c:Int)) kq kq B (fun s X f=>by
     unfold Ar;rcases l with l|l
     ·rw[ip l];exact uz l f oq kq
     ·rw[iw (by have:=l.1;omega)];exact FQ l f oq kq kq);have q:(all.drop i).take (d+1)=(all.drop i).take d++[(c:Int)]:=by rw[List.take_add_one,List.getElem?_drop,hr];rfl
    rw[← y,← vC,← q] at C;refine EO.op kq (aU (u:=.int .i32 (c:Int)) (w:=.int .i32 (-1)) rfl kq kq (ca (b:=true) (bne_iff_ne.2 oq))) (EO.fin 5 kq (EW.ew kq (EW.skip (EW.cV a kq (EW.seq (EW.block (EW.region kq (EO.gc 2 5 kq g (EO.cV a kq (EO.fA #[am s.nx 0,.int .i32 (c:Int)] kq rfl rfl kq kq L (EO.nil (EW.cV N kq (EW.region kq (EO.go 1 5 kq (EO.op kq (gW (i:=((i+d:Nat):Int)) (j:=1) (r:=((i+(d+1):Nat):Int)) rfl kq kq oq oq) (EO.fin 5 kq ?_))))))))))))))));exact⟨m-1,oq,d+1,oq,.inr ⟨oq,C⟩,.inr oq,aN kq⟩
   ·rw[Tf];refine EO.fin 5 kq (EW.cV a kq (EW.dL kq (EW.exit ?_)));exact⟨rfl,d,U,z,by rw[tL (by rw[List.length_drop];omega),tL (by rw[List.length_drop];omega)],aN kq⟩
  ·refine EO.op kq (aU (u:=num ((i+d:Nat):Int)) (w:=num (j:Nat)) rfl kq kq (aX (b:=false) (fD oq))) (EO.fin 5 kq (EW.cV a kq (EW.dL kq (EW.exit ?_))));exact⟨rfl,d,U,z,by rw[show d=j-i by omega],aN kq⟩
 ·rintro e o a ⟨rfl,d,U,z,q,x,rfl⟩;rw[q] at U;rcases U with ⟨rfl,rfl⟩|⟨hd,hb⟩
  ·rw[← q,List.take_zero];have G:=vx (pr:=th rn all) (s:=s.add (.cells #[.pointer none,.slice none 0 0] 119)) (b:=s.nx) (p:=.pointer none) kq (by rw[AS.aG,ip rfl]);refine EW.seq (EW.region kq (EO.gc 0 5 kq G (EO.fin 5 kq ?_)));exact EW.ret ⟨.inr rfl,kq,trivial⟩
  ·have I:aV ((all.drop i).take (j-i))≠[]:=by
    rw[← q];intro e;obtain⟨A,rfl⟩:∃A,d=A+1:=⟨d-1,oq⟩;have v:i+A<all.length:=oq
    rw[List.take_add_one,List.getElem?_drop,gE v] at e;simp only[Option.toList_some] at e;rw[vC] at e;have⟨c,_,_,y⟩:=yF (E _ (List.getElem_mem v));rw[y] at e
    have:=Gt c;have J:=(List.append_eq_nil_iff.1 e).2;rw[J] at this;simp at this
   have F:=zD ((all.drop i).take (j-i));have n:((all.drop i).take (j-i)).length≤all.length:=by rw[List.length_take,List.length_drop];omega
   have⟨W,D,R⟩:=tJ (pr:=th rn all) kq hb I oq;generalize aV ((all.drop i).take (j-i))=Y at D ⊢;refine EW.seq (EW.region kq (EO.gc 0 5 kq D (EO.fin 5 kq ?_)));exact EW.ret ⟨.inr rfl,kq,trivial⟩
end
section
variable {N Pb:Nat}{Shun:Loc→Prop}{val:Value}{B:Nat}{Mine:Loc→Prop}{Ex:Nat→Prop}{w₀ w aE w':World}{AnchW:Gq}{all:Iq}{Rb:Nat}{i:Ph}{l:Hq}{An:bJ}
variable [Go.ConcR.Payload][Go.ConcX.Payload]
variable [Go.ConcX.Shy (Cfg.Wg (aB prog N Pb Shun val B Mine)) (Cfg.C (aB prog N Pb Shun val B Mine))]
def Sa(F:Cfg.Fit (aB prog N Pb Shun val B Mine)):Cy prog eO (fun _=>N+9) (fun _=>c9 (aB prog N Pb Shun val B Mine)) (fun _=>gG (aB prog N Pb Shun val B Mine)) (nh (aB prog N Pb Shun val B Mine)) (rZ (aB prog N Pb Shun val B Mine)) (XM (aB prog N Pb Shun val B Mine) AnchW) (fun i l w=>HX (aB prog N Pb Shun val B Mine) Ex w₀ all Rb i l w) where
 C:=XM.closed (K:=aB prog N Pb Shun val B Mine)
 T:=qH (K:=aB prog N Pb Shun val B Mine)
 ne:=Cr
 Z h:=HX.co F h
def CH(F:Cfg.Fit (aB prog N Pb Shun val B Mine))(K:∀r∈all,Good r)(M:4*all.length≤1000000){e1:Nat}(h1:An rn=some (Rb,z1,e1))(h2:An 1=some (1,z2,e2)) :
  cN prog eO An (nh (aB prog N Pb Shun val B Mine)) (rZ (aB prog N Pb Shun val B Mine)) (XM (aB prog N Pb Shun val B Mine) AnchW) (fun i l w=>HX (aB prog N Pb Shun val B Mine) Ex w₀ all Rb i l w) (th rn all):=by
 have Y:=Sa (AnchW:=AnchW) (Ex:=Ex) (w₀:=w₀) (all:=all) (Rb:=Rb) F;have E:=qF (An:=An) Y;constructor
 ·exact Kw rn all
 ·intro f g o s v P U h;unfold th at U;split at U
  ·cases U
  next p =>
  unfold dl at U;split at U
  ·cases U;simp only at h;split at h
   ·next b k d =>
    split at h
    ·next j =>
     obtain⟨rfl,L⟩:=j;cases h;rw[q9 d];refine Sound.same Y rfl fun S l J i w a D C A=>?_;obtain⟨R,T,rfl,H,I⟩:=Ls A;obtain⟨g,z,e,q1,rfl⟩:=H.ptr;rw[D.an _ _ h1] at q1;cases q1;rw[I.sc rfl];have m:k=((k.toNat:Nat):Int):=oq
     have:=HX.at (AnchW:=AnchW) F oq C k.toNat;rw[← m] at this;exact nZ this fun O v Q G=>G
    ·cases h
   ·cases h
  ·cases p rfl
  ·cases U;simp only at h;split at h
   ·next x k d =>
    split at h
    ·next y q =>
     split at h
     ·next j =>
      split at h
      ·next c n u =>
       cases h;rw[q9 d];have t:y=db.toArray:=by apply Array.toList_inj.1;simp[yk j]
       subst t;exact Ah Y h2 u k q
      ·cases h
     ·cases h
    ·cases h
   ·cases h
  ·exact E.sound _ _ _ _ _ _ U h
def Hx(F:Cfg.Fit (aB prog N Pb Shun val B Mine))(C:∀r∈all,Good r)(D:4*all.length≤1000000){e1:Nat}(h1:An rn=some (Rb,z1,e1))(h2:An 1=some (1,z2,e2))(Z:1<rn) :
  cN prog eO An (nh (aB prog N Pb Shun val B Mine)) (rZ (aB prog N Pb Shun val B Mine)) (XM (aB prog N Pb Shun val B Mine) AnchW) (fun i l w=>HX (aB prog N Pb Shun val B Mine) Ex w₀ all Rb i l w) (dl rn all):=by
 have Y:=Sa (AnchW:=AnchW) (Ex:=Ex) (w₀:=w₀) (all:=all) (Rb:=Rb) F;have A:=CH (AnchW:=AnchW) (Ex:=Ex) (w₀:=w₀) F C D h1 h2;refine⟨pw rn all,fun f g d s v W E h=>?_⟩;by_cases o:f=92
 ·subst o;cases E;simp only at h;split at h
  ·next b T V M =>
   split at h
   ·next p =>
    obtain⟨rfl,O,P,X⟩:=p;cases h;have:d=#[.pointer (sq b),.int .i64 T,.int .i64 V]:=by apply Array.toList_inj.1;simp[M]
    rw[this];obtain⟨i,rfl⟩:=Int.eq_ofNat_of_zero_le O;obtain⟨j,rfl⟩:=Int.eq_ofNat_of_zero_le P;have⟨s1,n,Q⟩:=EI (rn:=b) (s:=⟨[],b+1⟩) C D i j oq;obtain⟨U,H,t,I,J⟩:∃U:bJ,U.le An∧U b=some (Rb,z1,e1)∧U 1=some (1,z2,e2)∧∀c,b+1≤c→U c=none:=by
     refine⟨fun c=>if c=1∨c=b then An c else none,fun c x a=>?_,?_,?_,fun c p=>?_⟩
     ·by_cases p:c=1∨c=b
      ·simpa[p] using a
      ·simp[p] at a
     ·simpa using h1
     ·simpa using h2
     ·show(if c=1∨c=b then An c else none)=none;rw[iw oq]
    have G:=CH (AnchW:=AnchW) (Ex:=Ex) (w₀:=w₀) F C D t I;refine Sound.BJ H (Sound.Mi Y J (fun S u L K=>?_) (m:=1) rfl ((gR Y kq eo G dD n).2 _ _ _ _ _ Q));obtain⟨x',y',z',rfl,a,q,R⟩:=OC K;obtain⟨g,z,e,q1,rfl⟩:=a.ptr;rw[L _ _ t] at q1;cases q1;rw[q.sc rfl,R.sc rfl];refine⟨rfl,fun k x y a q=>?_⟩;match k with
    | 0=>cases a;cases q;exact VR.gw t
    | 1=>cases a;cases q;exact VR.dE rfl
    | 2=>cases a;cases q;exact VR.dE rfl
    | k+3=>simp at a
   ·cases h
  ·cases h
 ·exact A.sound f g d s v W (by unfold th;rw[iw (by intro e;exact o (Nat.eq_of_beq_eq_true e))];exact E) h
end
def zh (c:CS)(d:DS):Iq→CS × DS × Iq
 | []=>(c,d,[])
 | b::l=>((zh (aJ c (dm d b).2).1 (dm d b).1 l).1,(zh (aJ c (dm d b).2).1 (dm d b).1 l).2.1,(aJ c (dm d b).2).2++(zh (aJ c (dm d b).2).1 (dm d b).1 l).2.2)
def bytesOf(s:ByteArray):Iq:=s.data.toList.map fun b=>(b.toNat:Int)
def bE(c:CS)(d:DS)(l:Iq):Iq:=(zh c d l).2.2++(aJ (zh c d l).1 (gu (zh c d l).2.1).2).2
def cm(s:ByteArray):Iq:=bE ⟨false,false⟩ ⟨0,0,0,0⟩ (bytesOf s)
def gp(c:CS)(d:DS):bE c d []=(aJ c (gu d).2).2:=by simp[bE,zh]
def dX(c:CS)(d:DS)(b:Int)(l:Iq):bE c d (b::l)=(aJ c (dm d b).2).2++bE (aJ c (dm d b).2).1 (dm d b).1 l:=by simp[bE,zh]
structure HP(N Pb cp:Nat)(s:ByteArray)(k c1 c2:Nat)(x1 x2:Aq)(w:World):Prop where
 lv:w.heap[N+3]?=some (.cells #[.chan (some (N+2))] 158)
 ps:w.cell? ⟨Pb,0,none⟩=some (.string s)
 lo:Pb<N
 bf:∃o,w.heap[N+8]?=some o
 cl:1≤k→w.heap[c1]?=some (.cells x1 177)
 h1:1≤k→N+9≤c1
 de:2≤k→w.heap[c2]?=some (.cells x2 179)
 h2:2≤k→N+9≤c2∧c1≠c2
 pc:w.heap[N]?=some (.cells #[.slice (some ⟨Pb,0,none⟩) 1 cp] 62)
 wb:w.heap[N+7]?=some (.cells #[.pointer (some ⟨N+6,0,none⟩)] 240)
section
variable {N Pb cp c1 c2:Nat}{Shun:Loc→Prop}{val:Value}{B:Nat}{Mine:Loc→Prop}{c:CS}{d:DS}{w aE:World}
variable [Go.ConcR.Payload][Go.ConcX.Payload]
variable {s:ByteArray}{k:Nat}{x1 x2:Aq}
def HP.size(h:HP N Pb cp s k c1 c2 x1 x2 w):N+9≤w.heap.size:=by
 have⟨o,U⟩:=h.bf
 have:=(Array.getElem?_eq_some_iff.1 U).1;omega
def HP.rc(h:HP N Pb cp s k c1 c2 x1 x2 w)(r:RC (aB prog N Pb Shun val B Mine) w aE):HP N Pb cp s k c1 c2 x1 x2 aE:=by
 refine⟨(r _ (.inr (.inr (.inl rfl)))).trans h.lv,?_,h.lo,h.bf.imp fun _ U=>(r _ (i3 (.inr (.inr (.inl rfl))))).trans U,fun a=>(r _ (.inl (.inr ⟨h.h1 a,_,h.cl a,.inl rfl⟩))).trans (h.cl a),h.h1,fun a=>(r _ (.inl (.inr ⟨(h.h2 a).1,_,h.de a,.inr (.inl rfl)⟩))).trans (h.de a),h.h2,(r _ (.inl (.inl rfl))).trans h.pc,(r _ (i3 (.inr (.inl rfl)))).trans h.wb⟩
 have:=r Pb (i3 (i3 rfl));rw[← h.ps];unfold World.cell?;rw[this]
def HP.rely(h:HP N Pb cp s k c1 c2 x1 x2 w)(r:eZ (aB prog N Pb Shun val B Mine) i w aE):HP N Pb cp s k c1 c2 x1 x2 aE:=h.rc r.rc
def cQ(w:World)(o:Obj)(h:b<w.heap.size):(w.alloc o).heap[b]?=w.heap[b]?:=Below.heap_alloc _ _ _ h
def HP.Mg(h:HP N Pb cp s 0 c1 c2 x1 x2 w)(c:Aq):∃c1,c1=w.heap.size∧HP N Pb cp s 1 c1 c2 c x2 (w.alloc (.cells c 177)):=by have U:=h.size;refine⟨_,rfl,(cQ _ _ oq).trans h.lv,(World.cell?_alloc_lt _ _ _ (by show Pb<_;have:=h.lo;omega)).trans h.ps,h.lo,h.bf.imp fun _ ho=>(cQ _ _ oq).trans ho,fun _=>heap_alloc_new w (.cells c 177),fun _=>U,fun h2=>by omega,fun h2=>by omega,(cQ _ _ oq).trans h.pc,(cQ _ _ oq).trans h.wb⟩
def HP.Mh(h:HP N Pb cp s 1 c1 c2 x1 x2 w)(c:Aq):∃c2,c2=w.heap.size∧HP N Pb cp s 2 c1 c2 x1 c (w.alloc (.cells c 179)):=by have U:=h.size;have q8:=(Array.getElem?_eq_some_iff.1 (h.cl oq)).1;refine⟨_,rfl,(cQ _ _ oq).trans h.lv,(World.cell?_alloc_lt _ _ _ (by show Pb<_;have:=h.lo;omega)).trans h.ps,h.lo,h.bf.imp fun _ ho=>(cQ _ _ oq).trans ho,fun _=>(cQ _ _ q8).trans (h.cl oq),fun _=>h.h1 oq,fun _=>heap_alloc_new w (.cells c 179),fun _=>⟨U,oq⟩,(cQ _ _ oq).trans h.pc,(cQ _ _ oq).trans h.wb⟩
def dI(w:World)(cs:Aq)(h:b≠g):(w.setRow g cs).heap[b]?=w.heap[b]?:=by simp[World.setRow,Array.getElem?_modify,Ne.symm h]
def HP.ND(h:HP N Pb cp s k c1 c2 x1 x2 w)(U:1≤k)(c:Aq):HP N Pb cp s k c1 c2 c x2 (w.setRow c1 c):=by have d:=h.size;have a:=h.lo;have h1:=h.h1 U;refine⟨(dI _ _ oq).trans h.lv,?_,h.lo,h.bf.imp fun _ b=>(dI _ _ oq).trans b,fun _=>setRow_heap w _ _ _ _ _ (h.cl U),h.h1,fun z=>(dI _ _ (Ne.symm (h.h2 z).2)).trans (h.de z),h.h2,(dI _ _ oq).trans h.pc,(dI _ _ oq).trans h.wb⟩;rw[← h.ps];unfold World.cell?;rw[dI _ _ (by show Pb≠_;omega)]
def HP.NE(h:HP N Pb cp s k c1 c2 x1 x2 w)(U:2≤k)(c:Aq):HP N Pb cp s k c1 c2 x1 c (w.setRow c2 c):=by have d:=h.size;have a:=h.lo;have h2:=h.h2 U;refine⟨(dI _ _ oq).trans h.lv,?_,h.lo,h.bf.imp fun _ b=>(dI _ _ oq).trans b,fun z=>(dI _ _ h2.2).trans (h.cl z),h.h1,fun _=>setRow_heap w _ _ _ _ _ (h.de U),h.h2,(dI _ _ oq).trans h.pc,(dI _ _ oq).trans h.wb⟩;rw[← h.ps];unfold World.cell?;rw[dI _ _ (by show Pb≠_;omega)]
def HP.hc(h:HP N Pb cp s 2 c1 c2 #[fy N,.bool false,.bool false] #[lf c1,.int .i32 0,.int .i64 0,.int .u8 0,.int .u8 0] w):HC N Pb cp c1 c2 ⟨false,false⟩ ⟨0,0,0,0⟩ w:=⟨h.lv,h.cl oq,h.de oq,h.pc,h.wb,h.h1 oq,(h.h2 oq).1,(h.h2 oq).2⟩
def DN{U:Obj}(c:N+9≤w.heap.size)(d:BB U=177∨BB U=179∨1016≤BB U)(h:∀e∈es,Jb (aB prog N Pb Shun val B Mine) (w.alloc U) e):DK (aB prog N Pb Shun val B Mine) w (w.alloc U) es:=by
 refine⟨rfl,rfl,rfl,fun b a _=>cQ _ _ a,fun b a=>?_,fun b h1 h2=>?_,cQ _ _ (by show N<_;omega),by simp[World.size_alloc],h⟩
 ·rcases a with z|⟨z,o',z1,z2⟩
  ·exact .inl z
  ·exact .inr ⟨z,o',(cQ _ _ (Array.getElem?_eq_some_iff.1 z1).1).trans z1,z2⟩
 ·have:b=w.heap.size:=by simp[World.size_alloc] at h2;omega
  subst this;exact .inr ⟨c,_,heap_alloc_new w U,d⟩
def ye(U:N+9≤w.heap.size)(ht:t=177∨t=179∨1016≤t)(h:∀e∈es,Jb (aB prog N Pb Shun val B Mine) (w.alloc (.cells cs t)) e):DK (aB prog N Pb Shun val B Mine) w (w.alloc (.cells cs t)) es:=DN U ht h
def Gm(a:w.heap[g]?=some (.cells old t))(U:N+9≤g)(c:t=177∨t=179∨1016≤t)(h:∀e∈es,Jb (aB prog N Pb Shun val B Mine) (w.setRow g cs) e):DK (aB prog N Pb Shun val B Mine) w (w.setRow g cs) es:=by
 have i:(w.setRow g cs).heap.size=w.heap.size:=iq
 refine⟨rfl,rfl,rfl,fun k _ f=>dI _ _ ?_,fun b d=>?_,fun b h1 h2=>absurd h1 oq,dI _ _ (by show N≠g;omega),oq,h⟩
 ·rintro rfl;exact f (.inr ⟨U,_,a,c⟩)
 ·by_cases e:b=g
  ·subst e;exact .inr ⟨U,_,setRow_heap w _ _ _ _ _ a,c⟩
  ·exact d.of_same (dI _ _ e)
def vw{x y:Operand}(c:o.op=.store ty x y)(h:a.eval x=.pointer (sq g))(i:a.eval y=.agg cells)
 (d:w.heap[g]?=some (.cells old t (0,0)))(e:(P.info? ty).map (·.size)=some cells.size)(f:old.size=cells.size)(h1:cells.all (·.oneCell')=true) :
  (execOp a.eval o).run P w=.ok .skip (w.setRow g cells)∧∀b∈(execOp a.eval o).events P w #[],∃o,b=⟨.cell ⟨g,o,none⟩,true,false⟩:=by
 constructor
 ·unfold execOp;simp[c,h,i,Instr.storeAt,Instr.sureAddr,run_storeVar_row w g t ty old cells d e f h1]
 ·intro b U;unfold execOp at U;simp only[c,h,i] at U;refine xe w g t ty old cells d e f h1 b ?_;simpa[Instr.storeAt,Instr.sureAddr] using U
def Nw(U:HP N Pb cp s 0 0 0 #[] #[] w)(hz:s.size≤9223372036854775806)(vs:Vq) :
  gJ prog (XK (aB prog N Pb Shun val B Mine)) 63 #[.slice (sq Pb) 1 cp,fy N] (true,V (cm s)++vs) w (fun i' _ w'=>i'=((cm s).isEmpty,vs)∧∃c1 c2 c d,HC N Pb cp c1 c2 c d w'):=by
 have C:=cK N Pb Shun val B Mine;have T:=tK N Pb Shun val B Mine;have Tq:=T (true,[]);have WC:∀(w:World) (es:Array Event) (a:Addr) (m:Mode) (x:Bool),(store a (.bool x) m).events prog w es=storedEv prog w es a (.bool x) m:=fun w es a m x=>events_store prog w es a _ m rfl;have ZS:∀w:World,eZ (aB prog N Pb Shun val B Mine) (true,[]) w { w with drawn:=w.drawn+1 }:=ta;have Zu:=fun w=>run_build (P:=prog) w 177 #[(0,fy N)] #[fy N,.bool false,.bool false] kq;have Zw:=fun w es=>iR (P:=prog) w 177 #[(0,fy N)] #[fy N,.bool false,.bool false] kq es;have Zv:=fun c1 w=>run_build (P:=prog) w 179 #[(0,lf c1)] #[lf c1,.int .i32 0,.int .i64 0,.int .u8 0,.int .u8 0] kq;have Zy:=fun c1 w es=>iR (P:=prog) w 179 #[(0,lf c1)] #[lf c1,.int .i32 0,.int .i64 0,.int .u8 0,.int .u8 0] kq es;have Zs:=fun w=>p6 (w:=w) Tryz.zeroValue177;have Zq:=fun w es=>kJ (w:=w) Tryz.zeroValue177 es;have Zt:=fun w=>p6 (w:=w) Tryz.zeroValue179;have Zr:=fun w es=>kJ (w:=w) Tryz.zeroValue179 es;have ln:∀w es,(Builtin.len_ #[9] 3 #[.string s]).events prog w es=es:=fun w es=>by simp[Builtin.len_,go_sem]
 have mk:∀c1 w es,(Instr.makeFunc (Fn.func 116) #[Value.pointer (sq c1)] #[]).events prog w es=es:=fun c1 w es=>by simp[Instr.makeFunc]
 refine fh func63 rq rfl ?_;simp only[ntmps63,bZ,Nat.reduceAdd,Nat.reduceSub];co_apply aO C T (eZ.refl _);co_reg (T _);co_op HP.rely U (co_quiet Tq);co_opw HP.rely U (skip) (co_still Tq);co_opw HP.rely U (skip) (exact ye U.size (.inl rfl) (by co_evs (skip)));have⟨c1,a2,U⟩:=U.Mg #[.nilFunc,.bool false,.bool false];simp only[← a2];clear a2;co_apply opsC_cons_k rfl rq;intro _ hR K hK;replace U:=HP.rely U hR;clear hR;have Fl:=fun {o:Oper} {a:Act} {x y:Operand} sI hx hy=>vw (P:=prog) (ty:=177) (o:=o) (a:=a) (x:=x) (y:=y) (g:=c1) (cells:=#[fy N,.bool false,.bool false]) sI hx hy (U.cl oq) kq rfl (by simp[Value.oneCell',fy]);rw[(Fl rfl rfl rfl).1];refine hK _ _ ⟨?_,?_⟩
 ·refine Gm (U.cl oq) (U.h1 oq) (.inl rfl) fun e he=>?_;obtain⟨o,rfl⟩:=(Fl rfl rfl rfl).2 e (mem_listed he);exact .inl ⟨_,_,rfl,.inl (.inr ⟨U.h1 oq,_,setRow_heap _ _ _ _ _ _ (U.cl oq),.inl rfl⟩)⟩
 clear hK K Fl;try walk_nrm
 replace U:=U.ND oq #[fy N,.bool false,.bool false];co_apply opsC_nil (T _);co_then;co_apply aO C T (eZ.refl _);co_reg (T _);co_opw HP.rely U (skip) (co_still Tq);simp only[show Value.func (Fn.func 116) #[Value.pointer (sq c1)] #[]=lf c1 from rfl];co_opw HP.rely U (skip) (co_still Tq);co_opw HP.rely U (skip) (exact ye U.size (.inr (.inl rfl)) (by co_evs (skip)));have⟨c2,a3,U⟩:=U.Mh #[.nilFunc,.int .i32 0,.int .i64 0,.int .u8 0,.int .u8 0];simp only[← a3];clear a3;co_apply opsC_cons_k rfl rq;intro _ hR K hK;replace U:=HP.rely U hR;clear hR;have Fl:=fun {o:Oper} {a:Act} {x y:Operand} sI hx hy=>vw (P:=prog) (ty:=179) (o:=o) (a:=a) (x:=x) (y:=y) (g:=c2) (cells:=#[lf c1,.int .i32 0,.int .i64 0,.int .u8 0,.int .u8 0]) sI hx hy (U.de oq) kq rfl (by simp[Value.oneCell',lf]);rw[(Fl rfl rfl rfl).1];refine hK _ _ ⟨?_,?_⟩
 ·refine Gm (U.de oq) (U.h2 oq).1 (.inr (.inl rfl)) fun e he=>?_;obtain⟨o,rfl⟩:=(Fl rfl rfl rfl).2 e (mem_listed he);exact .inl ⟨_,_,rfl,.inl (.inr ⟨(U.h2 oq).1,_,setRow_heap _ _ _ _ _ _ (U.de oq),.inr (.inl rfl)⟩)⟩
 clear hK K Fl;try walk_nrm
 replace U:=U.NE oq #[lf c1,.int .i32 0,.int .i64 0,.int .u8 0,.int .u8 0];co_apply opsC_nil (T _);co_then;refine fR C T ?_;co_apply aO C T (eZ.refl _);co_reg (T _);co_op HP.rely U (co_quiet Tq);co_opw HP.rely U (skip) (co_still Tq);co_op HP.rely U (co_quiet Tq);co_apply opsC_nil (T _);co_then;refine iu C T ?_;refine zM C T (fun n i a w=>(n=1∧i=(true,V (cm s)++vs)∧HP N Pb cp s 2 c1 c2 #[fy N,.bool false,.bool false] #[lf c1,.int .i32 0,.int .i64 0,.int .u8 0,.int .u8 0] w∧a=⟨#[.slice (sq Pb) 1 cp,fy N,undef,undef,.pointer (sq c1),.pointer (sq c2),undef,undef,undef,fy N,.agg #[fy N,.bool false,.bool false],lf c1,.agg #[lf c1,.int .i32 0,.int .i64 0,.int .u8 0,.int .u8 0],.slice (sq Pb) 1 cp,.int .i64 1,.int .i64 0,undef,undef,undef,undef,undef,undef,undef,undef,undef,undef,undef,undef,undef,undef,undef],[]⟩)∨(n=0∧∃c d fr,i=(fr,V (bE c d [])++vs)∧(fr&&(bE c d []).isEmpty)=(cm s).isEmpty∧HC N Pb cp c1 c2 c d w∧∃x7 x8 QI QJ QK QL QM VX QN QO QP QQ QR QS QT VY,a=⟨#[.slice (sq Pb) 1 cp,fy N,undef,undef,.pointer (sq c1),.pointer (sq c2),undef,x7,x8,fy N,.agg #[fy N,.bool false,.bool false],lf c1,.agg #[lf c1,.int .i32 0,.int .i64 0,.int .u8 0,.int .u8 0],.slice (sq Pb) 1 cp,.int .i64 1,.int .i64 1,QI,QJ,QK,QL,QM,VX,QN,QO,QP,QQ,QR,QS,QT,VY,undef],[]⟩)) 1 (.inl ⟨rfl,rfl,U,rfl⟩) ?_;clear U;rintro n i a w (⟨rfl,rfl,U,rfl⟩|⟨rfl,c,d,fr,rfl,he,U,x7,x8,QI,QJ,QK,QL,QM,VX,QN,QO,QP,QQ,QR,QS,QT,VY,rfl⟩)
 ·co_apply aO C T (eZ.refl _);co_reg (T _);co_op HP.rely U (co_quiet Tq);co_apply opsC_nil (T _);co_then;refine fR C T ?_;refine aW C T (t:=true) rfl ?_;simp only[if_true];refine fg C T ?_;show pW _ _ _ _ _ _ _;refine fR C T ?_;refine iu C T ?_;co_apply aO C T (eZ.refl _);co_reg (T _);co_opw HP.rely U (skip) (co_still Tq);co_opw HP.rely U (have hc:=U.ps) (refine dT U.hc ?_;co_evs (exact qi (.inr (.inr (.inr (.inr (.inr rfl)))))));clear hc;co_op HP.rely U (co_quiet Tq);co_apply opsC_nil (T _);co_then;co_apply aO C T (eZ.refl _);co_reg (T _);co_op HP.rely U (co_quiet Tq);co_opw HP.rely U (skip) (co_still Tq);co_op HP.rely U (co_quiet Tq);co_apply opsC_nil (T _);co_then;refine iu C T ?_;have U:=U.hc;refine zM C T (fun m i a w=>∃c d fr j,m+j=s.size∧i=(fr,V (bE c d ((bytesOf s).drop j))++vs)∧(fr&&(bE c d ((bytesOf s).drop j)).isEmpty)=(cm s).isEmpty∧HC N Pb cp c1 c2 c d w∧∃x8 QN QO QP QQ QR QS QT,a=⟨#[.slice (sq Pb) 1 cp,fy N,undef,undef,.pointer (sq c1),.pointer (sq c2),undef,.string s,x8,fy N,.agg #[fy N,.bool false,.bool false],lf c1,.agg #[lf c1,.int .i32 0,.int .i64 0,.int .u8 0,.int .u8 0],.slice (sq Pb) 1 cp,.int .i64 1,.int .i64 0,.bool true,.pointer (sq Pb),.string s,.string s,.int .i64 (s.size:Int),.int .i64 (j:Int),QN,QO,QP,QQ,QR,QS,QT,undef,undef],[]⟩) s.size ⟨⟨false,false⟩,⟨0,0,0,0⟩,true,0,oq,rfl,by simp[cm],U,_,_,_,_,_,_,_,_,rfl⟩ ?_;clear U;rintro m i a w ⟨c,d,fr,j,hm,rfl,he,U,x8,QN,QO,QP,QQ,QR,QS,QT,rfl⟩;by_cases hj:j<s.size
  ·have a1:decide ((j:Int)<(s.size:Int))=true:=tD oq;co_apply aO C T (eZ.refl _);co_reg (T _);co_op HC.rely U (co_quiet Tq);co_apply opsC_nil (T _);co_then;try simp only[a1]
   refine fR C T ?_;refine aW C T (t:=true) rfl ?_;simp only[if_true];refine fg C T ?_;show pW _ _ _ _ _ _ _;refine fR C T ?_;refine iu C T ?_;co_apply aO C T (eZ.refl _);co_reg (T _);iterate 2 co_op HC.rely U (co_quiet Tq)
   co_apply opsC_nil (T _);co_then;have a5:(bytesOf s).drop j=((s[j]'hj).toNat:Int)::(bytesOf s).drop (j+1):=by rw[List.drop_eq_getElem_cons (by simpa[bytesOf] using hj)];simp[bytesOf];rfl
   have a7:∀w es,(Instr.index 9 (.string s) (.int .i64 (j:Int))).events prog w es=es:=fun w es=>by simp[Instr.index,go_sem,hj]
   rw[a5,dX] at he ⊢;simp only[ox,List.append_assoc];refine bS C T ?_;simp only[ga,Nat.reduceAdd];iterate 2
    refine aL C rfl rq fun _ hR Kx a0=>?_
    replace U:=HC.rely U hR
    clear hR
    go_simp
    try (unfold stored;go_simp)
    refine a0 _ _ ⟨?_,?_⟩
    ·co_quiet Tq
    clear a0 Kx;try walk_nrm
   refine aL C rfl rq fun _ hR Kx a0=>?_;replace U:=HC.rely U hR;clear hR;go_simp;try (unfold stored;go_simp)
   refine a0 _ _ ⟨?_,?_⟩
   ·co_still Tq
   clear a0 Kx;try walk_nrm
   refine bW C T rfl rq rfl rfl (by simp[Act.eval]) rfl (NP U fr _ _) ?_;rintro _ _ _ ⟨rfl,U⟩;refine cJ C T ?_;show pW _ _ _ _ _ _ _;co_apply og C (eZ.refl _);co_reg (T _);iterate 2 co_op HC.rely U (co_quiet Tq)
   co_apply opsC_nil (T _);have a6:IntKind.i64.wrap ((j:Int)+1)=((j+1:Nat):Int):=by rw[IntKind.wrap_i64];omega
   simp only[a6];rw[me,← Bool.and_assoc] at he;exact⟨m-1,oq,_,_,_,j+1,oq,rfl,he,U,_,_,_,_,_,_,_,_,rfl⟩
  ·have a1:decide ((j:Int)<(s.size:Int))=false:=fD oq;co_apply aO C T (eZ.refl _);co_reg (T _);co_op HC.rely U (co_quiet Tq);co_apply opsC_nil (T _);co_then;try simp only[a1]
   refine fR C T ?_;refine aW C T (t:=false) rfl ?_;simp only[if_false,Bool.false_eq_true];refine zL C T ?_;simp only[mc,CV,if_true];have a4:(bytesOf s).drop j=[]:=List.drop_eq_nil_of_le (by simp[bytesOf];have:s.size=s.data.size:=rfl;omega);rw[a4] at he ⊢;co_apply og C (eZ.refl _);co_reg (T _);iterate 2 co_op HC.rely U (co_quiet Tq)
   co_apply opsC_nil (T _);exact⟨0,oq,.inr ⟨rfl,c,d,fr,rfl,he,U,_,_,_,_,_,_,_,_,_,_,_,_,_,_,_,_,rfl⟩⟩
 ·co_apply aO C T (eZ.refl _);co_reg (T _);co_op HC.rely U (co_quiet Tq);co_apply opsC_nil (T _);co_then;refine fR C T ?_;refine aW C T (t:=false) rfl ?_;simp only[if_false,Bool.false_eq_true];refine zL C T ?_;simp only[mc,CV,if_true];rw[gp] at he ⊢;refine bS C T ?_;simp only[ga];refine bW C T rfl rq rfl rfl (by simp[Act.eval]) rfl (Gv U fr vs) ?_;rintro _ _ _ ⟨rfl,U⟩;refine cJ C T ?_;exact⟨.inl rfl,rfl,_,resultsC_none rq _,by rw[he],_,_,_,_,U⟩
end
section
variable {P:Program}{main:Bool}{b:Frame}{a:Act}{k:List Item}{cs:List Frame}{w:World}{ops:Array Oper}{i:Nat}{rest:List Nat}{o:Oper}
def pC(c:ops[i]?=some o)(j:Region.wanted o (yielded ops a.tmps)=true)(g:b.kind≠.early)(h:(execOp a.eval o).run P w=.ok (.defer d) w)(f:(execOp a.eval o).events P w #[]=#[]) :
  stepG P main (G (b.at a (.inRegion ops (i::rest)::k)) cs) w=.go (G (b.at (Act.put ⟨a.tmps,d::a.defers⟩ o.dst undef) (.inRegion ops rest::k)) cs) w #[]:=by
 have U:(b.at ⟨a.tmps,d::a.defers⟩ (.inRegion ops (i::rest)::k)).finish undef=b.at (Act.put ⟨a.tmps,d::a.defers⟩ o.dst undef) (.inRegion ops rest::k):=by rw[Frame.finish_at,c];rfl
 have e:(b.kind==CallKind.early)=false:=by simpa using g
 rw[stepG_oper c j,← U];simp[stepG.apply,h,f,G,Frame.at,e,GStep.after,seen_none]
def ut{c:Frame}(d:ops[i]?=some o)(j:Region.wanted o (yielded ops a.tmps)=true)(g:b.kind=.deferred)(l:b.roundOf=none)(e:c.mode=.returning)(h:(execOp a.eval o).run P w=.ok .recover w)(f:(execOp a.eval o).events P w #[]=#[]) :
  stepG P main (G (b.at a (.inRegion ops (i::rest)::k)) (c::cs)) w=.go (G (b.at (a.put o.dst .nilIface) (.inRegion ops rest::k)) (c::cs)) w #[]:=by
 have U:(b.at a (.inRegion ops (i::rest)::k)).finish .nilIface=b.at (a.put o.dst .nilIface) (.inRegion ops rest::k):=by rw[Frame.finish_at,d];rfl
 rw[stepG_oper d j,← U];simp[stepG.apply,h,f,G,Frame.at,g,tryRecover,e,GStep.after,seen_none]
variable {todo:List Item}{ds:List Deferred}{f:FuncId}{fn:Func}{args cap:Aq}
def my{c : Code}(hd : a.defers = { target := .fn (.func f) cap, args := args } :: ds)(hf : P.funcs[f]? = some fn)(jo : (fn.name == "runtime.NumGoroutine") = false)(hb : fn.body = some c) :
  stepG P main (G { b.at a todo with mode:=.returning } cs) w =
   .go (G ((baseD f).at { tmps:=(args++cap)++Array.replicate (fn.ntmps-(args++cap).size) undef,defers:=[] } [.code c]) ({ b.at ⟨a.tmps,ds⟩ todo with mode:=.returning }::cs)) w #[]:=by
 have h1 : ¬ fn.name = "runtime.NumGoroutine" := by simpa using jo
 rw[← enter_atD (args++cap) hf hb];simp[G,stepG,unwind,callDeferred,Frame.at,hd,invoke,callFunc,hf,h1,hb,GStep.after,seen_none]
def oe{ats:Array TypeId}{c:Array Bool}{r cap s d:Nat}{tm:Bool}(g:a.defers={ target:=.builtin .close ats ty c,args:=#[.chan (some r)] }::ds)
 (h:w.heap[r]?=some (.chan cap R8 false s d tm))(i:(P.funcs[b.fn]?).any (·.norace)=false) :
  stepG P main (G { b.at a todo with mode:=.returning } cs) w=.go (G { b.at ⟨a.tmps,ds⟩ todo with mode:=.returning } cs) (w.setChan r cap R8 true s d tm) (closeEvents r):=by
 have j:(builtin .close ats ty c #[.chan (some r)]).run P w=.ok (.value (.tuple #[])) (w.setChan r cap R8 true s d tm):=by simp[go_sem,run_close_open _ _ h,World.setChan]
 have U:(builtin .close ats ty c #[.chan (some r)]).events P w #[]=closeEvents r:=by simp[go_sem,events_close_open _ _ h,closeEvents]
 have k:seen P b.fn (closeEvents r)=closeEvents r:=seen_eq i (by intro e U f;simp only[closeEvents,List.mem_toArray,List.mem_cons,List.not_mem_nil,or_false] at U;rcases U with rfl|rfl<;>simp);simp[G,stepG,unwind,callDeferred,Frame.at,g,invoke,j,U,k,GStep.after]
end
structure HB(N:Nat)(nv:Value)(w:World):Prop where
 nx:w.heap[N+1]?=some (.cells #[nv] 110)
 lv:w.heap[N+3]?=some (.cells #[.chan (some (N+2))] 158)
 ev:w.heap[N+5]?=some (.cells #[.chan (some (N+4))] 159)
 wb:w.heap[N+7]?=some (.cells #[.pointer (some ⟨N+6,0,none⟩)] 240)
 fb:w.heap[N+8]?=some (.cells #[.func (.func 112) #[] #[.pointer (some ⟨N+5,0,none⟩),.pointer (some ⟨N+1,0,none⟩),.pointer (some ⟨N+3,0,none⟩)]] 1)
structure HE(N:Nat)(val:Value)(w:World):Prop where
 pc:∃t,w.heap[N]?=some (.cells #[val] t)
 wb:w.heap[N+7]?=some (.cells #[.pointer (some ⟨N+6,0,none⟩)] 240)
 bf:∃o,w.heap[N+8]?=some o
structure HQ(N Pb cp:Nat)(s:ByteArray)(w:World):Prop where
 pc:w.heap[N]?=some (.cells #[.slice (some ⟨Pb,0,none⟩) 1 cp] 62)
 ps:w.cell? ⟨Pb,0,none⟩=some (.string s)
 lo:Pb<N
def qe(N:Nat):Deferred:={ target:=.builtin .close #[159] 0 #[false],args:=#[.chan (some (N+4))] }
section
variable {N Pb cp:Nat}{Shun:Loc→Prop}{val nv:Value}{B:Nat}{Mine:Loc→Prop}{w aE:World}
def cell1{v:Value}(h:w.heap[b]?=some (.cells #[v] t)):w.cell? ⟨b,0,none⟩=some v:=by simp[World.cell?,h]
variable [Go.ConcR.Payload][Go.ConcX.Payload]
variable {s:ByteArray}
def HB.rc(h:HB N nv w)(r:RC (aB prog N Pb Shun val B Mine) w aE):HB N nv aE :=
 ⟨(r _ (.inr (.inl rfl))).trans h.nx,(r _ (.inr (.inr (.inl rfl)))).trans h.lv,(r _ (i3 (.inl rfl))).trans h.ev,(r _ (i3 (.inr (.inl rfl)))).trans h.wb,(r _ (i3 (.inr (.inr (.inl rfl))))).trans h.fb⟩
def HB.rely(h:HB N nv w)(r:eZ (aB prog N Pb Shun val B Mine) i w aE):HB N nv aE:=h.rc r.rc
def HE.size(h:HE N val w):N+9≤w.heap.size:=by
 have⟨o,U⟩:=h.bf
 have:=(Array.getElem?_eq_some_iff.1 U).1;omega
def HQ.rc(h:HQ N Pb cp s w)(r:RC (aB prog N Pb Shun val B Mine) w aE):HQ N Pb cp s aE:=by
 refine⟨(r _ (.inl (.inl rfl))).trans h.pc,?_,h.lo⟩
 have:=r Pb (i3 (i3 rfl));rw[← h.ps];unfold World.cell?;rw[this]
def HQ.rely(h:HQ N Pb cp s w)(r:eZ (aB prog N Pb Shun val B Mine) i w aE):HQ N Pb cp s aE:=h.rc r.rc
def HB.hp(h:HB N nv w)(q:HQ N Pb cp s w):HP N Pb cp s 0 0 0 #[] #[] w:=⟨h.lv,q.ps,q.lo,⟨_,h.fb⟩,fun h=>absurd h oq,fun h=>absurd h oq,fun h=>absurd h oq,fun h=>absurd h oq,q.pc,h.wb⟩
def mI{K:Cfg}(h:∀e∈es,Jb K w e):DK K w w es :=
 ⟨rfl,rfl,rfl,fun _ _ _=>rfl,fun _ h=>h,fun _ h1 h2=>absurd h1 oq,rfl,lr,h⟩
def qj{o:Nat}(U:b=N+1∨b=N+3∨b=N+5∨b=N+7∨b=N+8∨b=Pb):Jb (aB prog N Pb Shun val B Mine) w ⟨.cell ⟨b,o,none⟩,false,false⟩:=.inl ⟨_,_,rfl,.inr ⟨U,rfl⟩⟩
def JC{o:Nat}{wr:Bool}:Jb (aB prog N Pb Shun val B Mine) w ⟨.cell ⟨N,o,none⟩,wr,false⟩:=.inl ⟨_,_,rfl,.inl (.inl rfl)⟩
def A9{f:Type}{main:Bool}{R:f→Wq}{D:World→World→Array Event→Prop}{X:f→Gq}{fn:FuncId}{Q:om f}{vs:f}(C:Closed P main R D X)(T:∀i,Terms (R i) D)
 {ops:Array Oper}{i:Nat}{rest:List Nat}(n:ops[i]?=some o)(q:Region.wanted o (yielded ops a.tmps)=true)(p:∀w,(execOp a.eval o).run P w=.ok (.defer d) w)(m:∀w,(execOp a.eval o).events P w #[]=#[])
 (h:kG X fn ops rest vs Q (Act.put ⟨a.tmps,d::a.defers⟩ o.dst undef) w):kG X fn ops (i::rest) vs Q a w:=fun b k g j U l=>C.step rfl fun c e=>by rw[pC n q U (p c) (m c)];exact⟨(T vs).idle _,C.rely (h b k g j U l) e⟩
def Ai(N:Nat):Value:=.func (.func 62) #[] #[.pointer (some ⟨N,0,none⟩)]
def A2(a:HB N nv w)(b:HQ N Pb cp s w)(h:s.size≤9223372036854775806) :
  gJ prog (XK (aB prog N Pb Shun (.slice (sq Pb) 1 cp) B Mine)) 62 #[fy N,.pointer (sq N)] (true,V (cm s)) w (fun j _ k=>j.2=[]∧HE N (.slice (sq Pb) 1 cp) k):=by
 have C:Closed prog false (eZ (aB prog N Pb Shun (.slice (sq Pb) 1 cp) B Mine)) (DK (aB prog N Pb Shun (.slice (sq Pb) 1 cp) B Mine)) (XK (aB prog N Pb Shun (.slice (sq Pb) 1 cp) B Mine)):=XK.closed (K:=(aB prog N Pb Shun (.slice (sq Pb) 1 cp) B Mine));have T:=IG (K:=(aB prog N Pb Shun (.slice (sq Pb) 1 cp) B Mine));have g:=T (true,[]);refine fh func62 rq rfl ?_;simp only[ntmps62,bZ,Nat.reduceAdd,Nat.reduceSub];refine bS C T ?_;simp only[ga,Nat.reduceAdd];refine aL C rfl rq fun _ e f U=>?_;replace a:=HB.rely a e;replace b:=HQ.rely b e;have n:=cell1 b.pc;go_simp;try (unfold stored;go_simp)
 refine U _ _ ⟨?_,?_⟩
 ·refine mI ?_;co_evs (exact JC)
 try walk_nrm
 refine aL C rfl rq fun _ e f U=>?_;replace a:=HB.rely a e;replace b:=HQ.rely b e;go_simp;try (unfold stored;go_simp)
 refine U _ _ ⟨?_,?_⟩
 ·co_quiet g
 try walk_nrm
 refine bW C T rfl rq rfl rfl (by simp[Act.eval]) (by rw[List.append_nil]) (Nw (a.hp b) h []) ?_;rintro _ _ _ ⟨rfl,l,m,c,d,a⟩;refine cJ C T ?_;exact⟨.inl rfl,rfl,_,resultsC_none rq _,rfl,⟨_,a.pc⟩,a.wb,⟨_,gF (i:=N+8) (by have:=a.size;omega)⟩⟩
def Ny{f:FuncId}{n:Vq}(g:HB N (.func (.func f) #[] cap) w)
 (j:∀a,RC (aB prog N Pb Shun val B Mine) w a→gJ prog (XK (aB prog N Pb Shun val B Mine)) f (#[fy N]++cap) (true,n) a (fun s _ l=>s.2=[]∧HE N val l)) :
  ∃c,Tryz.f112.body=some c∧pW (XK (aB prog N Pb Shun val B Mine)) 112 c (true,n) (fun i e p l=>e=.normal∧i.2=[]∧p.defers=[qe N]∧HE N val l) ⟨#[.pointer (sq (N+5)),.pointer (sq (N+1)),.pointer (sq (N+3)),undef,undef,undef,undef],[]⟩ w:=by
 have C:=cK N Pb Shun val B Mine;have T:=tK N Pb Shun val B Mine;have o:=T (true,[]);have t:∀w k,(Instr.makeFunc (Fn.func 113) #[] #[Value.pointer (sq (N+3))]).events prog w k=k:=fun w k=>by simp[Instr.makeFunc]
 refine⟨_,rfl,?_⟩;refine fR C T ?_;refine bS C T ?_;simp only[ga,Nat.reduceAdd];refine aL C rfl rq fun _ h m U=>?_;replace g:=HB.rely g h;replace j:=fun a b=>j a (RC.trans h.rc b);have q:=cell1 g.ev;go_simp;try (unfold stored;go_simp)
 refine U _ _ ⟨?_,?_⟩
 ·refine mI ?_;co_evs (exact qj (.inr (.inr (.inl rfl))))
 try walk_nrm
 refine A9 C T (d:=qe N) rfl rq (fun w=>by simp[execOp,go_sem,resolve,qe,Act.eval]) (fun w=>by simp[execOp,go_sem,resolve,Act.eval]) ?_;try walk_nrm
 refine cJ C T ?_;refine bS C T ?_;simp only[ga,Nat.reduceAdd];refine aL C rfl rq fun _ h m U=>?_;replace g:=HB.rely g h;replace j:=fun a b=>j a (RC.trans h.rc b);have q:=cell1 g.nx;go_simp;try (unfold stored;go_simp)
 refine U _ _ ⟨?_,?_⟩
 ·refine mI ?_;co_evs (exact qj (.inl rfl))
 try walk_nrm
 refine aL C rfl rq fun _ h m U=>?_;replace g:=HB.rely g h;replace j:=fun a b=>j a (RC.trans h.rc b);go_simp;try (unfold stored;go_simp)
 refine U _ _ ⟨?_,?_⟩
 ·co_still o
 try walk_nrm
 refine bW C T rfl rq rfl rfl (by simp[Act.eval];rfl) rfl (j _ (RC.refl _)) ?_;rintro i _ _ ⟨r,g⟩;refine cJ C T ?_;exact⟨rfl,r,rfl,g⟩
end
end
end Go.Proofs.YtgcaionclkbehaaGreatDoor
