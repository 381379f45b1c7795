import Derived.Test.YtgcaionclkbehaaGreatDoorE17
set_option linter.all false
set_option maxHeartbeats 2000000
set_option maxRecDepth 100000
namespace Go.Proofs.YtgcaionclkbehaaGreatDoor
open Go.Conc Go.RowKit Go.Lib Tryz
variable {b bp c0 k n r0 z1:Nat}{v x:Value}{cs:Aq}{t:TypeId}{fz:Nat × Nat}{c:Code}{a0 aA:TL}{pr oI:Prim}
def vU (n:Nat):Value→Bool
 | .pointer (some ⟨b,_,none⟩)=>Nat.blt b n
 | .slice (some ⟨b,_,none⟩) _ _=>Nat.blt b n
 | v=>dT v
def Tk (n:Nat):Value→Bool
 | .func _ x y=>x.toList.all (vU n)&&y.toList.all (vU n)
 | v=>vU n v
theorem pu{a:Nat}(h:Nat.blt a b=true):a<b:=by simpa[Nat.blt_eq] using h
theorem VR.mQ{S S':bC}(U:vU n x=true)(h:∀b,b<n→S b=S' b)(hr:VR S x v):VR S' x v:=by
 unfold vU at U;split at U
 ·obtain⟨g,z,e,h1,rfl⟩:=hr.ptr;exact VR.gl ((h _ (pu U)).symm.trans h1)
 ·obtain⟨d,hr⟩:=hr;cases d with
  | zero=>exact hr.elim
  | succ d =>obtain⟨g,z,e,c',h1,h2⟩:=hr;exact⟨1,g,z,e,c',(h _ (pu U)).symm.trans h1,h2⟩
 ·rw[hr.sc U];exact VR.dr U
theorem OR.mQ{S S':bC}{z:Nat}{o':Obj}(hn:cs.toList.all (vU n)=true)(h:∀b,b<n→S b=S' b)(hr:OR S z (.cells cs t fz) o'):OR S' z (.cells cs t fz) o':=by rw[List.all_eq_true] at hn;obtain⟨U,r1,r2,r3,r4⟩:=hr;exact⟨U,r1,r2,r3,fun i x y hx hy=>(r4 i x y hx hy).mQ (hn x (by rw[Array.mem_toList_iff]; exact Array.mem_of_getElem? hx)) h⟩
theorem VD.mQ{S S':bC}{d:Nat}(U:vU n x=true)(h:∀b,b<n→S b=S' b)(hr:VD S d x v):VD S' d x v:=by
 cases d with
 | zero=>exact hr.elim
 | succ d =>
  unfold vU at U;split at U
  ·obtain⟨g,z,e,h1,h2⟩:=hr;exact⟨g,z,e,(h _ (pu U)).symm.trans h1,h2⟩
  ·obtain⟨g,z,e,c',h1,h2⟩:=hr;exact⟨g,z,e,c',(h _ (pu U)).symm.trans h1,h2⟩
  ·have:=VR.dr (S:=S') U;have e:=VR.sc U ⟨d+1,hr⟩;subst e;obtain⟨d',Om⟩:=this;unfold VD;split<;>first|exact⟨U,rfl⟩|(simp[dT] at U)
theorem VR.LF{S S':bC}(U:Tk n x=true)(h:∀b,b<n→S b=S' b)(hr:VR S x v):VR S' x v:=by
 unfold Tk at U;split at U
 ·obtain⟨d,hr⟩:=hr;cases d with
  | zero=>exact hr.elim
  | succ d =>
   obtain⟨x',y',h1,h2,h3⟩:=hr;rw[Bool.and_eq_true,List.all_eq_true,List.all_eq_true] at U;refine⟨d+1,x',y',h1,⟨h2.1,fun i a b ha hb=>(h2.2 i a b ha hb).mQ (U.1 a ?_) h⟩,⟨h3.1,fun i a b ha hb=>(h3.2 i a b ha hb).mQ (U.2 a ?_) h⟩⟩;iterate 2
    ·rw[Array.mem_toList_iff]; exact Array.mem_of_getElem? ha
 ·exact hr.mQ U h
def AS.Kv(s:AS):Bool:=(List.range s.nx).all fun b=>match s.get b with
 | some (.cells cs _ _)=>cs.toList.all (vU s.nx)
 | _=>true
section
variable {ι:Type}{P:Program}{KT:TypeId→Prop}{An:bC}{N0:ι→Nat}{M:ι→World→Nat→Prop}{O:ι→Nat→Prop}{R:ι→Wq}{D:ι→World→World→Array Event→Prop}{X:ι→Gq}{Hd:ι→Hq→World→Prop}{pr:Prim}{kt:TypeId→Bool}{f:FuncId}{args:Aq}{s:AS}{v:Value}
theorem Sound.LL(Y:Cy P KT N0 M O R D X Hd){c:Nat}{s0 s1:AS}(a4:∀b,k≤b→An b=none)(hk:k≤s.nx)(a2:cs.toList.all (vU s.nx)=true)(a8:∀b,s0.get b=if b=c then some (.cells cs t fz) else none)(a6:s0.nx=s.nx)(a9:s1.get c=some (.cells cs t fz))(hs:s.get c=some (.cells cs t fz))(ha:args.toList.all (vU s.nx)=true)(hv:dT v=true)(h:Sound P KT An R D X Hd f args s0 v s1):Sound P KT An R D X Hd f args s v s:=by
 intro S l fr i w args' hS hF hA aa;rw[List.all_eq_true] at ha;obtain⟨g,z,e,o',q1,q2,q3,q4⟩:=hS.live c _ hs;have vD:=hS.lt c _ hs;let T:bC:=fun b=>if b<s.nx then S b else none;have hT:∀b,b<s.nx→S b=T b:=fun b U=>by show S b=if b<s.nx then S b else none; rw[if_pos U]
 obtain⟨la,lb,hl⟩:=List.append_of_mem q2;have MH:(la++(g,o')::lb).Perm ([(g,o')]++(la++lb)):=List.perm_middle;have mw:Hd i ([(g,o')]++((la++lb)++fr)) w:=(Y.Z hF).perm hF (by
  rw[hl,← List.append_assoc];exact(MH.append_right fr).symm);have a1:∀b o,s0.get b=some o→b=c∧o=.cells cs t fz:=fun b o U=>by
  rw[a8] at U;split at U
  ·next e=>cases U; exact⟨e,rfl⟩
  ·cases U
 have a3:eK P KT An T s0 [(g,o')]:=by
  refine⟨fun b o U=>?_,fun b b' o o' x x' U jA _ _ _=>by rw[(a1 b o U).1,(a1 b' o' jA).1],fun b o U=>by rw[(a1 b o U).1,a6]; exact vD,fun b x hx=>?_⟩
  ·obtain⟨rfl,rfl⟩:=a1 b o U;exact⟨g,z,e,o',(hT _ vD).symm.trans q1,by simp,q3.mQ a2 hT,q4⟩
  ·by_cases U:b<s.nx
   ·rw[← hT b U]; exact hS.an b x hx
   ·rw[a4 b (by omega)] at hx; cases hx
 refine(h T [(g,o')] ((la++lb)++fr) i w args' a3 mw ⟨hA.1,fun j x y hx hy=>(hA.2 j x y hx hy).mQ (ha x (by rw[Array.mem_toList_iff]; exact Array.mem_of_getElem? hx)) hT⟩ fun b U _=>?_).mono ?_
 ·show(if b<s.nx then S b else none)=none;rw[if_neg (by omega)]
 ·rintro i' v' w' ⟨S',l',r1,r2,r3,r4,r5⟩;obtain⟨g2,z2,e2,o2,p1,p2,p3,p4⟩:=r3.live c _ a9;have he:(g2,z2,e2)=(g,z,e):=by have:=r1 _ _ ((hT _ vD).symm.trans q1); rw[p1] at this; cases this; rfl
  cases he;obtain⟨lc,ld,a5⟩:=List.append_of_mem p2;have Gc:(lc++(g,o2)::ld).Perm ((lc++ld)++[(g,o2)]):=List.perm_middle.trans (List.perm_append_singleton _ _).symm;have Mi:Hd i' ((lc++ld)++(([(g,o2)]++(la++lb))++fr)) w':=(Y.Z r4).perm r4 (by
   rw[a5]
   have:=(Gc.append_right ((la++lb)++fr)).symm;simpa[List.append_assoc] using this);refine⟨S,[(g,o2)]++(la++lb),bC.le_refl S,fun _ _=>rfl,⟨fun b o U=>?_,hS.inj,hS.lt,hS.an⟩,lK Y Mi,?_⟩
  ·obtain⟨gb,zb,eb,ob,u1,u2,u3,u4⟩:=hS.live b o U;by_cases H2:b=c
   ·subst H2;rw[hs] at U;cases U;rw[q1] at u1;cases u1;exact⟨g,z,e,o2,q1,by simp,p3.mQ a2 fun b U=>by rw[hT b U]; exact r2 b (.inl (by omega)),u4⟩
   ·rw[hl] at u2;have a7:gb≠g:=fun e'=>H2 (hS.inj b c o _ _ _ U hs u1 q1 e');refine⟨gb,zb,eb,ob,u1,?_,u3,u4⟩;rcases List.mem_append.1 u2 with u2|u2
    ·simp[u2]
    ·rcases List.mem_cons.1 u2 with u2|u2
     ·cases u2; exact absurd rfl a7
     ·simp[u2]
  ·rw[r5.sc hv];exact VR.dr hv
theorem Sound.cut{s':AS}(a7:∀b,s.nx≤b→An b=none)(ht:s.Kv=true)(ha:args.toList.all (Tk s.nx)=true)(a9:s.nx≤s'.nx)
 (h:∀S l fr i w args',(∀b,s.nx≤b→S b=none)→eK P KT An S s l→Hd i (l++fr) w→AR (VR S) args args' →
   jI P R D X f args' i w fun i' v' w'=>∃S' l',S.le S'∧(∀b,b<s.nx∨s'.nx≤b→S' b=S b)∧eK P KT An S' s' l'∧Hd i' (l'++fr) w'∧VR S' v v'):Sound P KT An R D X Hd f args s v s':=by
 intro S l fr i w args' hS hF hA a8;rw[List.all_eq_true] at ha;let T:bC:=fun b=>if b<s.nx then S b else none;have hT:∀b,b<s.nx→S b=T b:=fun b hb=>by show S b=if b<s.nx then S b else none; rw[if_pos hb]
 have a4:∀b,s.nx≤b→T b=none:=fun b hb=>by show(if b<s.nx then S b else none)=none; rw[if_neg (by omega)]
 unfold AS.Kv at ht;have a6:eK P KT An T s l:=by
  refine⟨fun b o hb=>?_,fun b b' o o' x x' hb a1 hx jB=>?_,hS.lt,fun b x hx=>?_⟩
  ·obtain⟨g,z,e,o',q1,q2,q3,q4⟩:=hS.live b o hb;refine⟨g,z,e,o',(hT _ (hS.lt b o hb)).symm.trans q1,q2,?_,q4⟩
   have:=dW ht (i:=b) (hS.lt b o hb);rw[hb] at this;cases o with
   | cells cs t fz=>exact q3.mQ this hT
   | _=>exact q3
  ·exact hS.inj b b' o o' x x' hb a1 ((hT _ (hS.lt b o hb)).trans hx) ((hT _ (hS.lt b' o' a1)).trans jB)
  ·by_cases hb:b<s.nx
   ·rw[← hT b hb]; exact hS.an b x hx
   ·rw[a7 b (by omega)] at hx; cases hx
 refine(h T l fr i w args' a4 a6 hF ⟨hA.1,fun j x y hx hy=>(hA.2 j x y hx hy).LF (ha x (by rw[Array.mem_toList_iff]; exact Array.mem_of_getElem? hx)) hT⟩).mono ?_;rintro i' v' w' ⟨S',l',r1,r2,r3,r4,r5⟩;let U:bC:=fun b=>if b<s'.nx then S' b else S b;have SW:∀b,b<s'.nx→U b=S' b:=fun b hb=>by show(if b<s'.nx then S' b else S b)=S' b; rw[if_pos hb]
 have a5:∀b,¬b<s'.nx→U b=S b:=fun b hb=>by show(if b<s'.nx then S' b else S b)=S b; rw[if_neg hb]
 have a2:S'.le U:=fun b x hx=>by
  by_cases hb:b<s'.nx
  ·rw[SW b hb]; exact hx
  ·rw[r2 b (.inr (by omega)),a4 b (by omega)] at hx; cases hx
 have a3:∀b,b<s.nx∨s'.nx≤b→U b=S b:=fun b hb=>by
  by_cases a1:b<s'.nx
  ·rw[SW b a1,r2 b (.inl (by omega)),← hT b (by omega)]
  ·exact a5 b a1
 refine⟨U,l',fun b x hx=>?_,a3,⟨fun b o hb=>?_,fun b b' o o' x x' hb a1 hx jB=>?_,r3.lt,bC.le_trans r3.an a2⟩,r4,r5.mono a2⟩
 ·by_cases h1:b<s.nx
  ·rw[a3 b (.inl h1)]; exact hx
  ·by_cases h2:b<s'.nx
   ·rw[a8 b (by omega) h2] at hx; cases hx
   ·rw[a5 b h2]; exact hx
 ·obtain⟨g,z,e,o',q1,q2,q3,q4⟩:=r3.live b o hb;exact⟨g,z,e,o',a2 _ _ q1,q2,q3.mono a2,q4⟩
 ·exact r3.inj b b' o o' x x' hb a1 ((SW _ (r3.lt b o hb)).symm.trans hx) ((SW _ (r3.lt b' o' a1)).symm.trans jB)
def j9(f:FuncId)(ok:Array Value→AS→Option Value)(ev:Array Value→AS→Option (Value × AS))(pr:Prim):Prim:=fun g=>if g.beq f then some fun args s=>match ok args s with
 | some v=>some (v,s)
 | none=>ev args s
 else pr g
theorem ck.forget(Y : Cy P KT N0 M O R D X Hd)(hm : P.follows .mixedOrders = true)(Ao : ∀ t, kt t = false → ¬ KT t)(mU : ∀ (f : FuncId) (aJ : Func), P.funcs[f]? = some aJ → (aJ.name == "runtime.NumGoroutine") = false){m : Nat}(Ak : ∀ b, k ≤ b → An b = none)(hp : ck P KT An R D X Hd pr){ok : Array Value → AS → Option Value}
 (BP:∀args s v,ok args s=some v→dT v=true∧k≤s.nx∧args.toList.all (vU s.nx)=true∧∃c cs t fz,s.get c=some (.cells cs t fz)∧cs.toList.all (vU s.nx)=true∧∀s0:AS,s0.nx=s.nx→s0.get c=some (.cells cs t fz)→∃s1,EF P kt pr f args s0 v s1∧s1.get c=some (.cells cs t fz)):ck P KT An R D X Hd (j9 f ok (br P kt pr m f) pr):=by
 constructor
 ·intro g h args s v s' hf hh;unfold j9 at hf;split at hf
  ·cases hf;simp only at hh;split at hh
   ·cases hh; exact Nat.le_refl _
   ·exact(xQ (P:=P) (kt:=kt) hp.nx m).2 _ _ _ _ _ hh
  ·exact hp.nx g h args s v s' hf hh
 ·intro g h args s v s' hf hh;unfold j9 at hf;split at hf
  ·next he =>
   have he:=Nat.eq_of_beq_eq_true he;subst he;cases hf;simp only at hh;split at hh
   ·next v' hv =>
    cases hh;obtain⟨h1,h2,h3,c,cs,t,fz,h4,h5,h6⟩:=BP _ _ _ hv;have hg:∀b,((⟨[],s.nx⟩:AS).set c (some (.cells cs t fz))).get b=if b=c then some (.cells cs t fz) else none:=fun b=>by
     rw[AS.aK];split
     ·rfl
     ·unfold AS.get; simp
    obtain⟨s1,⟨n,h7⟩,h8⟩:=h6 ((⟨[],s.nx⟩:AS).set c (some (.cells cs t fz))) rfl (by rw[hg,if_pos rfl]);exact Sound.LL Y Ak h2 h5 hg rfl h8 h4 h3 h1 ((gH Y hm Ao hp mU n).2 _ _ _ _ _ h7)
   ·exact(gH Y hm Ao hp mU m).2 _ _ _ _ _ hh
  ·exact hp.sound g h args s v s' hf hh
end
section
variable {Post:Value→World→Prop}{Ex:Nat→Prop}{w₀:World}{An:bC}
def zy (rn:Nat)(oI:Prim)(all:List Int):Prop:=(∀f g args s v s',oI f=some g→g args s=some (v,s')→s.nx≤s'.nx)∧∀{ι:Type} {N0:ι→Nat} {M:ι→World→Nat→Prop} {O:ι→Nat→Prop} {R:ι→World→World→Prop} {D:ι→World→World→Array Event→Prop} {X:ι→Goroutine→World→Prop} {Hd:ι→List (Nat × Obj)→World→Prop} (_:Cy prog eS N0 M O R D X Hd) (A:bC),(∀b,rn+1≤b→A b=none)→ck prog eS A R D X Hd (cR rn all)→ck prog eS A R D X Hd oI
end
def RD (r:Nat→Nat)(n:Nat):Nat→Value→Value→Prop
 | 0,_,_=>False
 | d+1,x,y=>match x with
  | .pointer (some ⟨b,off,none⟩)=>b<n∧y=.pointer (some ⟨r b,off,none⟩)
  | .slice (some ⟨b,off,sp⟩) m c=>b<n∧y=.slice (some ⟨r b,off,sp⟩) m c
  | .func f p q=>∃p' q',y=.func f p' q'∧AR (RD r n d) p p'∧AR (RD r n d) q q'
  | .agg p=>∃p',y=.agg p'∧AR (RD r n d) p p'
  | .tuple p=>∃p',y=.tuple p'∧AR (RD r n d) p p'
  | .map k=>y=.map k
  | x=>dT x=true∧y=x
def bC.wL(S:bC)(r:Nat→Nat)(n:Nat):bC:=fun b=>if b<n then S (r b) else none
section
variable {S:bC}{r:Nat→Nat}{n:Nat}
theorem bC.nE(h:b<n):S.wL r n b=S (r b):=if_pos h
theorem AR.comp{U R2 R3:Value→Value→Prop}{a b c:Aq}(h:AR U a b)(h':AR R2 b c)(hh:∀x y z,U x y→R2 y z→R3 x z):AR R3 a c:=⟨h.1.trans h'.1,fun i x z hx hz=>by
 have hi:i<b.size:=by rw[← h.1]; exact(Array.getElem?_eq_some_iff.1 hx).1
 exact hh x _ z (h.2 i x _ hx (Array.getElem?_eq_getElem hi)) (h'.2 i _ z (Array.getElem?_eq_getElem hi) hz)⟩
theorem VD.wL:∀{d:Nat} {x y v:Value} {k:Nat},RD r n d x y→VD S k y v→VD (S.wL r n) k x v
 | 0,x,y,v,k,h,_=>h.elim
 | d+1,x,y,v,0,_,h=>h.elim
 | d+1,x,y,v,k+1,h,U=>by
  unfold RD at h;split at h
  ·next b off =>obtain⟨hb,rfl⟩:=h;obtain⟨g,z,e,h1,h2⟩:=U;exact⟨g,z,e,by rw[bC.nE hb]; exact h1,h2⟩
  ·next b off sp m c =>
   obtain⟨hb,rfl⟩:=h;cases sp with
   | none =>obtain⟨g,z,e,c',h1,h2⟩:=U;exact⟨g,z,e,c',by rw[bC.nE hb]; exact h1,h2⟩
   | some q =>obtain⟨g,z,e,o',c',h1,h2⟩:=U;exact⟨g,z,e,o',c',by rw[bC.nE hb]; exact h1,h2⟩
  ·obtain⟨p',q',rfl,h1,h2⟩:=h;obtain⟨p2,q2,h3,h4,h5⟩:=U;exact⟨p2,q2,h3,h1.comp h4 fun _ _ _ a b=>VD.wL a b,h2.comp h5 fun _ _ _ a b=>VD.wL a b⟩
  ·obtain⟨p',rfl,h1⟩:=h;obtain⟨p2,h3,h4⟩:=U;exact⟨p2,h3,h1.comp h4 fun _ _ _ a b=>VD.wL a b⟩
  ·obtain⟨p',rfl,h1⟩:=h;obtain⟨p2,h3,h4⟩:=U;exact⟨p2,h3,h1.comp h4 fun _ _ _ a b=>VD.wL a b⟩
  ·next m =>
   subst h;cases m with
   | none=>exact U
   | some m=>exact U
  ·obtain⟨h1,rfl⟩:=h;have e:=VR.sc h1 ⟨k+1,U⟩;subst e;unfold VD;split<;>first|exact⟨h1,rfl⟩|(simp[dT] at h1)
def RV (r:Nat→Nat)(n:Nat)(x y:Value):Prop:=∃d,RD r n d x y
theorem VR.wL{y:Value}(h:RV r n x y)(U:VR S y v):VR (S.wL r n) x v:=by obtain⟨d,h⟩:=h;obtain⟨k,U⟩:=U;exact⟨k,VD.wL h U⟩
def Ig (n:Nat):Nat→Value→Bool
 | 0,_=>false
 | d+1,x=>match x with
  | .pointer (some ⟨b,_,none⟩)=>Nat.blt b n
  | .slice (some ⟨b,_,_⟩) _ _=>Nat.blt b n
  | .func _ p q=>p.toList.all (Ig n d)&&q.toList.all (Ig n d)
  | .agg p=>p.toList.all (Ig n d)
  | .tuple p=>p.toList.all (Ig n d)
  | .map _=>true
  | x=>dT x
theorem AR.same{R:Value→Value→Prop}{p:Aq}(h:∀x∈p.toList,R x x):AR R p p:=⟨rfl,fun i x y U hy=>by rw[U] at hy;cases hy;exact h x (by rw[Array.mem_toList_iff]; exact Array.mem_of_getElem? U)⟩
theorem RD.id(hr:∀b,b<n→r b=b):∀{d:Nat} {x:Value},Ig n d x=true→RD r n d x x
 | 0,x,h=>by simp[Ig] at h
 | d+1,x,h=>by
  unfold Ig at h;split at h;iterate 2
   ·exact⟨pu h,by rw[hr _ (pu h)]⟩
  ·rw[Bool.and_eq_true,List.all_eq_true,List.all_eq_true] at h;exact⟨_,_,rfl,AR.same fun x U=>RD.id hr (h.1 x U),AR.same fun x U=>RD.id hr (h.2 x U)⟩
  iterate 2
   ·rw[List.all_eq_true] at h;exact⟨_,rfl,AR.same fun x U=>RD.id hr (h x U)⟩
  ·rfl
  ·exact(by unfold RD; split<;>first|exact⟨h,rfl⟩|(simp[dT] at h))
structure XQ(r:Nat→Nat)(s0 s:AS):Prop where
 live:∀b o,s0.get b=some o→b<s0.nx∧∃cs gU t fz,o=.cells cs t fz∧s.get (r b)=some (.cells gU t fz)∧AR (RV r s0.nx) cs gU
 inj:∀b b' o o',s0.get b=some o→s0.get b'=some o'→r b=r b'→b=b'
variable {P:Program}{KT:TypeId→Prop}{An:bC}{s s0:AS}{l:Hq}
theorem eK.wL(h:eK P KT An S s l)(hr:XQ r s0 s)(a3:∀b x,An b=some x→b<s0.nx∧r b=b):eK P KT An (S.wL r s0.nx) s0 l where
 live b o hb:=by
  obtain⟨hl,cs,a1,t,fz,rfl,h1,h2⟩:=hr.live b o hb
  obtain⟨g,z,e,o',q1,q2,q3,q4⟩:=h.live _ _ h1
  obtain⟨cw,r1,r2,r3,r4⟩:=q3
  refine⟨g,z,e,o',by rw[bC.nE hl]; exact q1,q2,⟨cw,r1,r2,by rw[h2.1]; exact r3,fun i x y U hy=>?_⟩,fun c2 t2 f2 e2=>?_⟩
  ·
   have hi:i<a1.size:=by rw[← h2.1]; exact(Array.getElem?_eq_some_iff.1 U).1
   exact VR.wL (h2.2 i x _ U (Array.getElem?_eq_getElem hi)) (r4 i _ y (Array.getElem?_eq_getElem hi) hy)
  ·
   cases e2
   exact q4 _ _ _ rfl
 inj b b' o o' x x' hb jA U jB QR:=by
  obtain⟨hl,cs,a1,t,fz,_,h1,_⟩:=hr.live b o hb
  obtain⟨a4,_,_,_,_,_,a2,_⟩:=hr.live b' o' jA
  rw[bC.nE hl] at U
  rw[bC.nE a4] at jB
  exact hr.inj b b' o o' hb jA (h.inj _ _ _ _ x x' h1 a2 U jB QR)
 lt b o hb:=(hr.live b o hb).1
 an b x U:=by
  obtain⟨h1,h2⟩:=a3 b x U
  rw[bC.nE h1,h2]
  exact h.an b x U
end
section
variable {ι:Type}{P:Program}{KT:TypeId→Prop}{An:bC}{N0:ι→Nat}{M:ι→World→Nat→Prop}{O:ι→Nat→Prop}{R:ι→Wq}{D:ι→World→World→Array Event→Prop}{X:ι→Gq}{Hd:ι→Hq→World→Prop}{pr:Prim}{kt:TypeId→Bool}{r:Nat→Nat}
theorem WI.wL{s s0:AS}{Q:Exit→TL→AS→Prop}(hr:XQ r s0 s)(ha:AR (RV r s0.nx) a0.toArray aA.toArray)(U:∀b x,An b=some x→b<s0.nx∧r b=b)(h:WI P KT An X Hd c a0 s0 Q):WI P KT An X Hd c aA s Q:=by intro fn S l fr i w a Q' hS hF hA hd a1 k;exact h fn (S.wL r s0.nx) l fr i w a Q' (hS.wL hr U) hF (ha.comp hA fun _ _ _=>VR.wL) hd (fun b hb=>if_neg (by omega)) k
theorem WI.back{s s0:AS}{Q:Exit→TL→AS→Prop}(hg:∀b o,s0.get b=some o→b<s0.nx∧s.get b=some o∧∃cs t fz,o=.cells cs t fz∧cs.toList.all (Ig s0.nx 5)=true)(ha:aA.all (Ig s0.nx 5)=true)(a1:∀b x,An b=some x→b<s0.nx)(h:WI P KT An X Hd c aA s0 Q):WI P KT An X Hd c aA s Q:=by have U:∀b,b<s0.nx→(fun b:Nat=>b) b=b:=fun _ _=>rfl;refine WI.wL (r:=fun b=>b) ⟨fun b o hb=>?_,fun b b' o o' _ _ e=>e⟩ (AR.same fun x hx=>⟨5,RD.id U (List.all_eq_true.1 ha x (by simpa using hx))⟩) (fun b x hx=>⟨a1 b x hx,rfl⟩) h;obtain⟨h1,h2,cs,t,fz,rfl,h3⟩:=hg b o hb;exact⟨h1,cs,cs,t,fz,rfl,h2,AR.same fun x hx=>⟨5,RD.id U (List.all_eq_true.1 h3 x hx)⟩⟩
end
def mN (P:Program)(n r0:Nat)(str:ByteArray)(sS:AS→AS)(oI:Prim)(pr:Prim):Prim:=fun g=>if g.beq 37 then some fun args s=>match args.toList with
 | [.slice (some ⟨bp,0,none⟩) 1 _,.func (.func f) x y]=>match s.get bp,P.funcs[f]? with
  | some (.cells cs 9 _),some aJ=>match cs.toList,aJ.body with
   | .string st::_,some c =>
    if st=str∧x.toList.isEmpty=true∧s.nx=r0∧aJ.results.toList.isEmpty=true∧s.Kv=true∧y.toList.all (vU s.nx)=true∧bp<s.nx then
     match eJ P mB oI n c ((am s.nx 0::y.toList)++List.replicate (aJ.ntmps-(y.size+1)) undef) ⟨(s.set bp none).hp,s.nx+1⟩ with
     | some (e,_,s')=>if AS.keeps (s.set bp none) s'=true then match e with
       | .normal|.ret=>some (.tuple #[],sS s')
       | _=>none
      else none
     | none=>none
    else none
   | _,_=>none
  | _,_=>none
 | _=>none
 else pr g
section
variable {Post:Value→World→Prop}{Ex:Nat→Prop}{w₀:World}{An:bC}
theorem Cr{e1:Nat}(h1:An 1=some (1,z1,e1))(a7:∀b,32≤b→An b=none){str:ByteArray}(aj:32≤r0){sS:AS→AS}(a1:wV sS)(hx:zy r0 oI (bV str))(af:iB str.data.toList 0≤20000)(hp:ck prog eS An (fun _:Zx=>AtRel) (fun j=>DZ j.1) (fun j=>ZI prog Post 0 j.1) (Bl Ex w₀) pr) :
  ck prog eS An (fun _:Zx=>AtRel) (fun j=>DZ j.1) (fun j=>ZI prog Post 0 j.1) (Bl Ex w₀) (mN prog n r0 str sS oI pr):=by
 have key:∀g h args s v s',g=37→mN prog n r0 str sS oI pr g=some h→h args s=some (v,s')→s.nx≤s'.nx∧Sound prog eS An (fun _:Zx=>AtRel) (fun j=>DZ j.1) (fun j=>ZI prog Post 0 j.1) (Bl Ex w₀) 37 args s v s':=by
  rintro g h args s v s' rfl hf U;unfold mN at hf;rw[if_pos (show Nat.beq 37 37=true from rfl)] at hf;cases hf;simp only at U;split at U
  ·next bp c0 f x y ha =>
   split at U
   ·next cs fz aJ hb hf =>
    split at U
    ·next st rest c aa a2 =>
     split at U
     ·next hc =>
      obtain⟨rfl,ah,rfl,a6,ag,hy,a9⟩:=hc;split at U
      ·next e ai s2 a4 =>
       split at U
       ·next a3 =>
        have a5:(e=.normal∨e=.ret)∧v=.tuple #[]∧s'=sS s2:=by
         split at U
         ·cases U; exact⟨.inl rfl,rfl,rfl⟩
         ·cases U; exact⟨.inr rfl,rfl,rfl⟩
         ·cases U
        obtain⟨he,rfl,rfl⟩:=a5;have jB:x=#[]:=by apply Array.toList_inj.1; simpa using ah
        subst jB;have a8:args=#[.slice (sq bp) 1 c0,.func (.func f) #[] y]:=by apply Array.toList_inj.1; simp[ha]
        subst a8;have ae:s.nx+1≤s2.nx:=(xQ (P:=prog) (kt:=mB) hx.1 n).1 _ _ _ _ _ _ a4;have Jm:s.nx≤(sS s2).nx:=by rw[(a1 s2).1]; omega
        refine⟨Jm,Sound.cut (fun b hb=>a7 b (by omega)) ag ?_ Jm fun S l fr j w args' PI hS hF hA=>?_⟩
        ·simp only[List.all_cons,List.all_nil,Tk,vU,hy,Bool.and_true,Nat.blt_eq,decide_eq_true_eq,a9]
        ·exact Ro h1 (by omega) hb hf aa a2 a6 af (fun Y A hA hp=>hx.2 Y A (fun b hb=>(hA b hb).trans (PI b (by omega))) hp) a1 a4 ae a3 he hS hF hA (fun b b1 _=>PI b b1)
       ·cases U
      ·cases U
     ·cases U
    ·cases U
   ·cases U
  ·cases U
 constructor
 ·intro g h args s v s' hf U;by_cases he:g=37
  ·exact(key g h args s v s' he hf U).1
  ·unfold mN at hf;rw[if_neg (fun z=>he (Nat.eq_of_beq_eq_true z))] at hf;exact hp.nx g h args s v s' hf U
 ·intro g h args s v s' hf U;by_cases he:g=37
  ·subst he; exact(key _ h args s v s' rfl hf U).2
  ·unfold mN at hf;rw[if_neg (fun z=>he (Nat.eq_of_beq_eq_true z))] at hf;exact hp.sound g h args s v s' hf U
theorem GN{str:ByteArray}{sS:AS→AS}{s s1:AS}{f:FuncId}{aJ:Func}{y:Aq}{rest:Vq}(hb:s.get bp=some (.cells cs 9 fz))(a3:cs.toList=.string str::rest)(hf:prog.funcs[f]?=some aJ)(U:aJ.body=some c)(a1:aJ.results.toList.isEmpty=true)(hs:s.nx=r0)(a4:s.Kv=true)(hy:y.toList.all (vU s.nx)=true)(a2:bp<s.nx)
 (hw:Ew oI c ((am s.nx 0::y.toList)++List.replicate (aJ.ntmps-(y.size+1)) undef) ⟨(s.set bp none).hp,s.nx+1⟩ fun e _ s'=>(e=.normal∨e=.ret)∧AS.keeps (s.set bp none) s'=true∧sS s'=s1) :
  ∃n,∀pr,Ef (mN prog n r0 str sS oI pr) 37 #[.slice (sq bp) 1 c0,.func (.func f) #[] y] s (.tuple #[]) s1:=by obtain⟨n,e,a',s',h1,h2,h3,rfl⟩:=hw;refine⟨n,fun pr=>⟨1,?_⟩⟩;unfold br mN;rw[if_pos (show Nat.beq 37 37=true from rfl)];simp only[hb,hf,a3,U,h1,h3,if_true];rw[if_pos ⟨trivial,rfl,hs,a1,a4,hy,a2⟩];rcases h2 with rfl|rfl<;>rfl
end
end Go.Proofs.YtgcaionclkbehaaGreatDoor
