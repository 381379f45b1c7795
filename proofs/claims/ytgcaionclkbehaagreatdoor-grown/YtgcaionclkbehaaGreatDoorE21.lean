
import Derived.Test.YtgcaionclkbehaaGreatDoorE10
import Derived.Lib.Bytealg
import Derived.Laws.Slices
import Derived.Laws.Runes
set_option linter.all false
set_option maxHeartbeats 2000000
set_option maxRecDepth 100000
namespace Go.Proofs.YtgcaionclkbehaaGreatDoor
open Go.Conc Go.RowKit Go.Lib Tryz
variable {a:TL}{b cp e i id j m m0 n off sz z:Nat}{f g:FuncId}{ops:Array Oper}{o:Oper}{t ty:TypeId}{x y:Operand}{v v':Value}{s s' s0 s1 s1':AS}{α:Type}{o' ob:Obj}{mk:Nq}{k:IntKind}{args cap cs first:Aq}{c:Code}{r:Int}{cl:Call}{w:World}{l:Bq}{fz:Nat × Nat}
def tw{a b:ByteArray}(h:cw a.data.toList b.data.toList=true):a=b:=by rw[w0] at h;exact oH (eq_of_beq h)
theorem qE{f:Value × Value->Bool}:∀(l m:Vq),l.length=m.length->(l.zip m).all f=true->(∀p,f p=true->p.1=p.2)->l=m
 | [],[],_,_,_=>rfl
 | x::l,y::m,U,h,hf=>by simp only[List.zip_cons_cons,List.all_cons,lV] at h;rw[show x=y from hf _ h.1,qE l m gq h.2 hf]
 | [],_::_,U,_,_=>by simp at U
 | _::_,[],U,_,_=>by simp at U
theorem iL:∀{n:Nat} {x y:Value},og n x y=true->x=y
 | 0,_,_,h=>by simp[og] at h
 | n+1,x,y,h=>by
  have U:∀p:Value × Value,og n p.1 p.2=true->p.1=p.2:=λp c=>iL c;unfold og at h;split at h
  .rw[eq_of_beq h]
  .grind
  .rw[tw h]
  .rw[eq_of_beq h]
  .simp only[lV] at h;rw[eq_of_beq h.1.1,gh h.1.2,gh h.2]
  .simp only[lV] at h;obtain⟨⟨⟨⟨h1,h2⟩,h3⟩,a⟩,b⟩:=h;rw[eq_of_beq h1,uX.1 (qE _ _ (gh h2) a U),uX.1 (qE _ _ (gh h3) b U)]
  .simp only[lV] at h;rw[uX.1 (qE _ _ (gh h.1) h.2 U)]
  .rfl
  .rfl
  .cases h
theorem zL{acc:List Nat}:∀(l:List Edge) (m:Nat),(l.foldl (λm e=>if Region.binds .any e then m ||| (1 <<< e.on ||| acc.getD e.on 0) else m) m).testBit j=true ->
  m.testBit j=true\/∃e∈l,Region.binds .any e=true/\(j=e.on\/(acc.getD e.on 0).testBit j=true)
 | [],m,h=>.inl h
 | e::l,m,h=>by
  simp only[List.foldl_cons] at h;rcases zL l _ h with q|⟨e',U,q⟩
  .split at q
   .next hb =>
    simp only[Nat.testBit_or,BM] at q;rcases q with q|q|q
    .exact .inl q
    .rw[Nat.one_shiftLeft,Nat.testBit_two_pow] at q;exact .inr ⟨e,by simp,hb,.inl gq⟩
    .exact .inr ⟨e,by simp,hb,.inr q⟩
   .exact .inl q
  .exact .inr ⟨e',by simp[U],q⟩
theorem rX:∀(U:List Oper) (acc:List Nat),(fw U acc).take acc.length=acc/\(fw U acc).length=acc.length+U.length/\∀(m:Nat) (o:Oper),U[m]?=some o->(fw U acc)[acc.length+m]?=some (y6 ((fw U acc).take (acc.length+m)) o)
 | [],acc=>⟨by simp[fw],by simp[fw],λm o h=>by simp at h⟩
 | o::rest,acc=>by
  have⟨h1,h2,h3⟩:=rX rest (acc++[y6 acc o]);have e:fw (o::rest) acc=fw rest (acc++[y6 acc o]):=rfl;rw[e];have a:(fw rest (acc++[y6 acc o])).take acc.length=acc:=by have:=congrArg (List.take acc.length) h1;grind
  refine⟨a,by rw[h2];simp;omega,λm c b=>?_⟩;cases m with
  | zero =>
   simp at b;subst b;rw[Nat.add_zero,a]
   have:=congrArg (λl=>l[acc.length]?) h1;grind
  | succ m =>grind
def kD(ops:Array Oper)(i j:Nat):Prop:=((fw ops.toList []).getD i 0).testBit j=true
theorem tW(c:fW ops=true)(d:ops[i]?=some o)(h:kD ops i j):∃e∈o.after,Region.binds .any e=true/\(j=e.on\/kD ops e.on j):=by
 have⟨_,_,h3⟩:=rX ops.toList [];have b:=h3 i o gq;simp only[List.length_nil,Nat.zero_add] at b;unfold kD at h;rw[tS,b,Option.getD_some] at h;rcases zL _ _ h with q|⟨e,he,q1,q2⟩
 .simp at q
 .have U:e∈o.after:=by simpa using he
  refine⟨e,U,q1,q2.imp id λq=>?_⟩;have a:=lY c d U q1;unfold kD;rw[tS,Bu,ip a] at q;rw[tS];exact q
theorem tV(U:fW ops=true):∀(i:Nat) {j:Nat},i<ops.size->kD ops i j->j<i:=by
 intro i;induction i using Nat.strongRecOn with
 | _ i ih =>intro j c h;have a:ops[i]?=some ops[i]:=gF c;have⟨e,b,h1,h2⟩:=tW U a h;have d:=lY U a b h1;grind
def ku(ops:Array Oper)(J:Nat->Bool):Prop:=∀i j,i<ops.size->J i=true->kD ops i j->J j=true
def eW(c:fW ops=true){J:Nat->Bool}(f:ku ops J)(hi:i<ops.size)(g:lR ops J i)(h:kD ops i j):J j=true:=by
 have a:ops[i]?=some ops[i]:=gF hi;have⟨e,d,h1,h2⟩:=tW c a h;have b:=g _ a e d h1;rcases h2 with rfl|h2
 .exact b
 .exact f e.on j (by have:=lY c a d h1;omega) b h2
section
variable {P:Program}{kt:TypeId->Bool}{call:FuncId->Aq->AS->Option (Value × AS)}{ops:Array Oper}
def Be (tr:List (TL × Value × AS))(m:Nat):Value:=match tr[m]? with
 | some (_,v,_)=>v
 | none=>undef
def sL (todo:List Oper)(tr:List (TL × Value × AS))(a:TL):Nat->TL
 | 0=>a
 | m+1=>(sL todo tr a m).put ((todo[m]?).bind (·.dst)) (Be tr m)
def wE(o:Oper)(rest:List Oper)(tr:List (TL × Value × AS))(a a0:TL)(v:Value)(s1:AS):∀m,sL (o::rest) ((a0,v,s1)::tr) a (m+1)=sL rest tr (a.put o.dst v) m
 | 0=>rfl
 | m+1=>by have:=wE o rest tr a a0 v s1 m;rw[sL,this,sL];rfl
def se(x:TL × Value × AS)(tr:List (TL × Value × AS))(s:AS):∀m,m<=tr.length->ir (x::tr) s (m+1)=ir tr x.2.2 m
 | 0,_=>rfl
 | m+1,h=>by have:tr[m]?=some tr[m]:=gE oq;simp[ir,this]
def BH(P:Program)(kt:TypeId->Bool)(call:FuncId->Aq->AS->Option (Value × AS))(ops:Array Oper)(o:Oper)(a:TL)(s:AS)(v:Value)(s':AS):Prop :=
 (Region.wanted o (bL ops a)=true/\bN P kt call a o s=some (v,s'))\/(Region.wanted o (bL ops a)=false/\v=undef/\s'=s)
theorem vQ:∀(c:List Oper) {a:TL} {s:AS} {tr:List (TL × Value × AS)},pI P kt call ops c a s=some tr->tr.length=c.length/\∀(m:Nat) (o:Oper),c[m]?=some o ->
  tr[m]?=some (sL c tr a m,Be tr m,ir tr s (m+1))/\BH P kt call ops o (sL c tr a m) (ir tr s m) (Be tr m) (ir tr s (m+1))
 | [],a,s,tr,h=>by simp[pI] at h;subst h;exact⟨rfl,λm o h=>by simp at h⟩
 | o::rest,a,s,tr,h=>by
  have key:∀v b U,(Region.wanted o (bL ops a)=true/\bN P kt call a o s=some (v,b))\/(Region.wanted o (bL ops a)=false/\v=undef/\b=s)->pI P kt call ops rest (a.put o.dst v) b=some U->tr=(a,v,b)::U ->
    tr.length=(o::rest).length/\∀(m:Nat) (o':Oper),(o::rest)[m]?=some o'->tr[m]?=some (sL (o::rest) tr a m,Be tr m,ir tr s (m+1))/\BH P kt call ops o' (sL (o::rest) tr a m) (ir tr s m) (Be tr m) (ir tr s (m+1)):=by
   rintro v b U f g rfl;have⟨h1,h2⟩:=vQ rest g;refine⟨by simp[h1],λm o' d=>?_⟩;cases m with
   | zero =>simp at d;subst d;exact⟨rfl,f⟩
   | succ m =>
    have e:rest[m]?=some o':=gq
    have l:m<U.length:=gq
    have⟨n,p⟩:=h2 m o' e;have e1:=wE o rest U a a v b m;have i:=se (a,v,b) U s m oq;have j:=se (a,v,b) U s (m+1) oq;have k:Be ((a,v,b)::U) (m+1)=Be U m:=rfl;grind
  unfold pI at h;grind
end
structure iQ(P:Program)(kt:TypeId->Bool)(call:FuncId->Aq->AS->Option (Value × AS))(ops:Array Oper)(q:Nat)(aA:TL)(s:AS)(sl:Nat->TL)(vl:Nq)(hp:Nat->AS):Prop where
 back:fW ops=true
 le:q<=ops.size
 s0:sl 0=aA
 h0:hp 0=s
 ZV:∀m o,ops[m]?=some o->sl (m+1)=(sl m).put o.dst (vl m)
 step:∀m o,ops[m]?=some o->BH P kt call ops o (sl m) (hp m) (vl m) (hp (m+1))
 last:∀i j,q<=i->i<ops.size->j<i->kD ops i j
 data:∀i o t j o',i<q->ops[i]?=some o->.tmp t∈o.op.operands->j<q->ops[j]?=some o'->o'.dst=some t->kD ops i j
 guard:∀i o j b,i<q->ops[i]?=some o->o.guard=some (j,b)->kD ops i j/\j<q
 once:∀i j o o' t,i<q->j<q->ops[i]?=some o->ops[j]?=some o'->o.dst=some t->o'.dst=some t->i=j
 chain:∀i j o o',i<q->ops[i]?=some o->kindOf P o=3->j<i->ops[j]?=some o'->2<=kindOf P o'->kD ops i j
 Uh:∀r o t x,r<q->ops[r]?=some o->o.op=.load t x->Region.wanted o (bL ops (sl r))=true->∀p,(p=0\/∃e o',p=e+1/\e<q/\ops[e]?=some o'/\kindOf P o'=3) ->
  (∀e o',e<q->ops[e]?=some o'->kindOf P o'=3->(e<p->¬kD ops e r)/\(p<=e->¬kD ops r e))->aB P t ((sl r).at x) (hp p)=some (vl r)
variable {aA lO:TL}{sl:Nat->TL}{vl:Nq}{hp:Nat->AS}
section
variable {P:Program}{kt:TypeId->Bool}{call:FuncId->Aq->AS->Option (Value × AS)}{ops:Array Oper}{q:Nat}{s s':AS}
def sf(fT:List Nat):∀n,iS fT n<=n
 | 0=>jl _
 | n+1=>by
  unfold iS;split
  .exact lT (sf fT n) oq
  .exact jl _
theorem eD{f:Nat->Bool}(h:(List.range n).all f=true)(hi:i<n):f i=true:=gq
theorem ze(h:kL P kt call ops aA s=some (lO,s')):∃q Q vl y,iQ P kt call ops q aA s Q vl y/\Q ops.size=lO/\y ops.size=s':=by
 unfold kL at h;simp only at h;split at h
 .cases h
 .next H =>
  simp only[not_or,Bool.not_eq_false] at H;have⟨S,B⟩:=H;split at h
  .next A W =>
   split at h
   .cases h
   .next w =>
    simp only[Bool.not_eq_false] at w;have⟨t1,L⟩:=vQ _ W;have J:ops.toList.length=ops.size:=iq
    refine⟨iS (fw ops.toList []) ops.toList.length,sL ops.toList A aA,Be A,ir A s,?_,?_⟩
    .unfold CK at B;simp only[lV] at B;obtain⟨⟨k1,K⟩,k3⟩:=B;have a:∀{i:Nat} {o:Oper},ops[i]?=some o->ops.toList[i]?=some o:=λc=>by simpa using c
     refine⟨S,by rw[<-J];exact sf _ _,rfl,rfl,λm o c=>?_,λm o c=>(L m o (a c)).2,λi j f H k=>?_,λi o t j d f c ht k U C=>?_,λi o j b f c G=>?_,λi j o d t f k c U C D=>?_,λi j o d f c v k U Qg=>?_,λr o t x hr c I hw p y hE=>?_⟩
     .have G:ops.toList[m]?=some o:=a c;simp only[sL,G,Bs]
     .have:=eD k1 oq;simp only[BM,decide_eq_true_eq] at this;rcases this with z|z
      .omega
      .exact eD z k
     .have:=eD K f;rw[a c] at this;simp only[lV] at this;have h1:=this.1.1;rw[aT] at h1;have h2:=h1 t (by simp only[tmpsOf,List.mem_filterMap];exact⟨.tmp t,by simpa using ht,rfl⟩);have h3:=eD h2 k;rw[a U] at h3;simp only[Bs,C,bne_self_eq_false,Bool.false_or] at h3;exact h3
     .have:=eD K f;rw[a c] at this;simp only[lV] at this;have h1:=this.1.2;rw[G] at h1;simp only[lV,decide_eq_true_eq] at h1;exact h1
     .have:=eD K f;rw[a c] at this;simp only[lV] at this;have h1:=eD this.2 k;rw[a U] at h1;simp only[Bs,C,D,bne_self_eq_false,Bool.or_false,BM,beq_iff_eq,reduceCtorEq,or_false] at h1;exact h1
     .have:=eD k3 f;have e1:(ops.toList.map (kindOf P)).getD i 0=3:=gq
      simp only[e1,bne_self_eq_false,Bool.false_or] at this;have h1:=eD this k;have Y:(ops.toList.map (kindOf P)).getD j 0=kindOf P d:=gq
      rw[Y] at h1;have Z:(kindOf P d).blt 2=false:=by
       rw[Bool.eq_false_iff];intro hb
       have:=Eq.mp Nat.blt_eq hb;omega
      rw[Z,Bool.false_or] at h1;exact h1
     .unfold qc at w;simp only at w;have h1:=eD w hr;rw[a c,(L r o (a c)).1] at h1;simp only[I] at h1;rw[aT] at h1;have n:p∈0::(((List.range (iS (fw ops.toList []) ops.toList.length)).filter λi=>(match ops.toList[i]? with|some o=>kindOf P o|none=>0)==3).map (·+1)):=by
       rcases y with rfl|⟨e,d,rfl,E,U,v⟩
       .simp
       .refine Jo _ (List.mem_map.2 ⟨e,List.mem_filter.2 ⟨List.mem_range.2 E,?_⟩,rfl⟩);rw[a U];simp[v]
      have h2:=h1 p n;simp only[BM,hw,Bool.not_true,kj,or_false] at h2;rcases h2 with z|z
      .rw[List.any_eq_true] at z;have⟨e,E,z⟩:=z;have⟨g,F⟩:=List.mem_filter.1 E;have g:=List.mem_range.1 g;obtain⟨d,U⟩:∃d,ops[e]?=some d:=⟨_,gF gq⟩;rw[a U] at F;have v:kindOf P d=3:=gq
       have⟨z1,z2⟩:=hE e d g U v;simp only[BM,lV,Bool.not_eq_true'] at z;rcases z with ⟨za,zb⟩|⟨za,zb⟩
       .exact absurd zb (z1 (Eq.mp Nat.blt_eq za))
       .refine absurd zb (z2 ?_);apply Classical.byContradiction;intro a9;rw[Eq.mpr Nat.blt_eq oq] at za;cases za
      .split at z
       .next v' X=>rw[X,iL z]
       .cases z
    .split at h
     .next R v1 s1 ab O oo T N =>
      cases h;have aa:0<ops.size:=by have:=congrArg List.length N;simp at this;omega
      obtain⟨m,hm⟩:∃m,ops.size=m+1:=⟨ops.size-1,by omega⟩;have u:ops.toList[m]?=some O:=by have:=congrArg (λl=>l[0]?) N;simp only[K5] at this;rw[List.getElem?_reverse (by simp;omega)] at this;rw[<-this];congr 1;simp;omega
      have V:A[m]?=some (R,v1,s'):=by have:=congrArg (λl=>l[0]?) T;simp only[K5] at this;rw[List.getElem?_reverse gq] at this;rw[<-this];congr 1;rw[t1];simp;omega
      have⟨M,u2⟩:=L m O u;rw[V] at M;simp only[sK,Prod.mk.injEq] at M;have⟨u3,u4,u5⟩:=M;rw[hm];refine⟨?_,u5.symm⟩;simp only[sL,u,Bs,<-u3,<-u4]
     .cases h
  .cases h
end
variable {J':Nat->Bool}{S:cb}
section
variable {P:Program}{kt:TypeId->Bool}{call:FuncId->Aq->AS->Option (Value × AS)}{ops:Array Oper}{q:Nat}{s s':AS}{J:Nat->Bool}{a:Act}
def yF(ops:Array Oper)(q:Nat)(aA:TL)(vl:Nq)(J:Nat->Bool)(t:Nat)(x:Value):Prop :=
 (∃m o,m<q/\ops[m]?=some o/\o.dst=some t/\J m=true/\x=vl m)\/((∀m o,m<q->ops[m]?=some o->o.dst=some t->J m=false)/\x=aA.getD t undef)
def pB{t:Nat}{x:Value}(h:yF ops q aA vl J t x)(d:∀m o,m<q->ops[m]?=some o->o.dst=some t->J m=J' m):yF ops q aA vl J' t x:=by
 rcases h with ⟨m,o,h1,h2,h3,h4,h5⟩|⟨h1,h2⟩
 .exact .inl ⟨m,o,h1,h2,h3,by rw[<-d m o h1 h2 h3];exact h4,h5⟩
 .exact .inr ⟨λm o a b c=>by rw[<-d m o a b c];exact h1 m o a b c,h2⟩
def uI(d:iQ P kt call ops q aA s sl vl hp):∀m,m<=ops.size->(sl m).length=aA.length
 | 0,_=>by rw[d.s0]
 | m+1,h=>by
  have ho:ops[m]?=some (ops[m]'oq):=gF oq;rw[d.ZV m _ ho]
  have:=uI d m oq;cases hd:(ops[m]'oq).dst with
  | none=>exact this
  | some t=>show(z5 (sl m) t (vl m)).length=_;rw[p6,List.length_set];exact this
theorem Ib(d:iQ P kt call ops q aA s sl vl hp){t:Nat}(c:t<aA.length):∀m,m<=q->yF ops q aA vl (λk=>decide (k<m)) t ((sl m).getD t undef)
 | 0,_=>.inr ⟨λm o _ _ _=>by simp,by rw[d.s0]⟩
 | m+1,h=>by
  have hm:m<ops.size:=by have:=d.le;omega
  have U:ops[m]?=some ops[m]:=gF hm;have f:=Ib d c m oq;have a:=uI d m oq;rw[d.ZV m _ U];by_cases b:(ops[m]).dst=some t
  .refine .inl ⟨m,_,by omega,U,b,by simp,?_⟩;rw[b];show(z5 (sl m) t (vl m)).getD t undef=_;rw[p6,tS,List.getElem?_set];simp[a,c]
  .have e:((sl m).put (ops[m]).dst (vl m)).getD t undef=(sl m).getD t undef:=by
    cases a0:(ops[m]).dst with
    | none=>rfl
    | some u =>show(z5 (sl m) u (vl m)).getD t undef=_;rw[p6,tS,List.getElem?_set,iw gq,<-tS]
   rw[e];refine pB f λk o j i g=>?_;grind
def vz(ops:Array Oper)(q:Nat)(aA:TL)(vl:Nq)(J:Nat->Bool)(S:cb)(a:Act):Prop :=
 a.tmps.size=aA.length/\a.defers=[]/\∀t x,t<aA.length->yF ops q aA vl J t x->VR S x (a.tmps.getD t undef)
theorem uJ(d:iQ P kt call ops q aA s sl vl hp)(U:vz ops q aA vl J S a){t:Nat}(c:m<=q)(e:∀j o,j<q->ops[j]?=some o->o.dst=some t->(J j=true↔j<m)):VR S ((sl m).getD t undef) (a.tmps.getD t undef):=by
 by_cases b:t<aA.length
 .refine U.2.2 t _ b (pB (Ib d b m c) λj o h1 h2 h3=>?_);grind
 .have h1:(sl m)[t]?=none:=List.getElem?_eq_none (by rw[uI d m (by have:=d.le;omega)];omega);have h2:a.tmps[t]?=none:=Array.getElem?_eq_none (by rw[U.1];omega);rw[tS,h1,D4,h2];exact VR.undef
theorem Il(d:iQ P kt call ops q aA s sl vl hp)(h:lB ops=true)(i:vz ops q aA vl J S a)(k:ku ops J)(p:m<q)(r:ops[m]?=some o)(u:lR ops J m):eI S (sl m) a o:=by
 intro x w;have b:m<ops.size:=gq
 have U:Ag x=true:=by unfold lB at h;grind
 cases x with
 | tmp t =>refine uJ d i oq λj y n e l=>?_;have c:=d.data m o t j y p r w n e l;exact⟨λ_=>tV d.back m b c,λ_=>eW d.back k b u c⟩
 | const v=>exact VR.dx U
 | global g=>simp[Ag] at U
 | func f=>exact VR.Ae AR.nil AR.nil
theorem HR{x:Vq}{y:Aq}{t:Nat}(a:x.length=y.size)(h:VR S (x.getD t undef) (y.getD t undef))(b:Bool):x[t]?=some (.bool b)↔y[t]?=some (.bool b):=by
 by_cases U:t<y.size
 .have h1:x[t]?=some (x[t]'oq):=gE _;have h2:y[t]?=some y[t]:=gF U;rw[tS,h1,D4,h2,Option.getD_some,Option.getD_some] at h;rw[h1,h2];constructor
  .intro e;simp only[sK] at e |-;rw[e] at h;exact h.sc rfl
  .intro e;simp only[sK] at e |-;rw[e] at h;exact h.yV
 .grind
theorem zd(d:iQ P kt call ops q aA s sl vl hp)(g:vz ops q aA vl J S a)(p:ku ops J)(v:m<q)(w:ops[m]?=some o)(x:lR ops J m):Region.wanted o (yielded ops a.tmps)=Region.wanted o (bL ops (sl m)):=by
 have U:m<ops.size:=gq
 unfold Region.wanted;split
 .rfl
 .next j i u =>
  have⟨h,l⟩:=d.guard m o j i v w u;rw[qD λt y b=>?_];have c:(sl m).length=a.tmps.size:=by rw[uI d m oq,g.1]
  refine HR c (uJ d g oq λz A k n r=>?_) b;obtain⟨f,e⟩:∃f,ops[j]?=some f:=⟨_,gF gq⟩;rw[e] at y
  have:=d.once z j A f t k l n e r gq;subst this;exact⟨λ_=>tV d.back m U h,λ_=>eW d.back p U x h⟩
theorem rH(d:iQ P kt call ops q aA s sl vl hp)(U:vz ops q aA vl J S a){S':cb}(i:S.le S')(j:m<q)(l:ops[m]?=some o)(p:J m=false)(n:VR S' (vl m) v'):vz ops q aA vl (λk=>if k=m then true else J k) S' (a.put o.dst v'):=by
 refine⟨?_,?_,λt x c e=>?_⟩
 .cases b:o.dst<;>simp[Act.put,U.1]
 .cases b:o.dst<;>exact U.2.1
 .by_cases b:o.dst=some t
  .have h:x=vl m:=by
    rcases e with ⟨k,f,h1,h2,h3,h4,h5⟩|⟨h1,h2⟩
    .have:=d.once k m f o t h1 j h2 l h3 b;subst this;exact h5
    .grind
   subst h;rw[b];show VR S' (vl m) ((a.tmps.setIfInBounds t v').getD t undef);rw[D4,Array.getElem?_setIfInBounds];simp only[if_true];rw[ip (by rw[U.1];exact c)];exact n
  .have g:yF ops q aA vl J t x:=pB e λk f h1 h2 h3=>by grind
   have:=(U.2.2 t x c g).mono i;cases hd2:o.dst with
   | none=>exact this
   | some u =>show VR S' x ((a.tmps.setIfInBounds u v').getD t undef);rw[D4,Array.getElem?_setIfInBounds,iw gq,<-D4];exact this
theorem rZ{a:TL}(U:kindOf P o=0)(h:bN P kt call a o s1=some (v,s1')):s1'=s1/\∀d,bN P kt call a o d=some (v,d):=by
 unfold kindOf at U;split at U
 .cases U
 .next g =>
  unfold bN at h |-;rw[iw g] at h;cases a0:o.op<;>simp only[a0] at U h |-<;>first
   | (cases U;done)
   | skip
  case slice t x lo hi mx =>
   split at U
   .next i =>
    have e:∀d,fX P t (a.at x) (lo.map a.at) (hi.map a.at) (mx.map a.at) d=fX P t (a.at x) (lo.map a.at) (hi.map a.at) (mx.map a.at) s1:=λd=>by unfold fX;grind
    split at h
    .grind
    .cases h
   .cases U
  case call c =>
   rw[a0] at g;cases hc:c.callee with
   | value f=>rw[hc] at U;simp at U
   | invoke r n=>rw[hc] at U;simp at U
   | builtin b =>
    rw[hc] at h U;simp only at h U;split at h
    .grind
    .next j =>exfalso;unfold eN at h;grind
  case convert t u x =>
   rw[a0] at g;have e:∀d,fB P t u (a.at x) d=none:=λd=>by unfold fB;grind
   split at h
   .grind
   .rw[e] at h;cases h
  all_goals
   rw[a0] at g
   split at h
   .grind
   .cases h
end
theorem vj{a:Type}{f:α->a}{l:List α}(h:(l.map f).Nodup){x y:α}(U:x∈l)(b:y∈l)(e:f x=f y):x=y:=by
 induction l with
 | nil=>simp at U
 | cons z l c =>grind
variable {An:cb}
section
variable {P:Program}{KT:TypeId->Prop}{s:AS}{l l':Hq}
def eT.more(h:eT P KT An S s l)(c:∀x∈l,x∈l'):eT P KT An S s l':=⟨λb o a=>by have⟨g,z,e,d,h1,h2,h3⟩:=h.live b o a;exact⟨g,z,e,d,h1,c _ h2,h3⟩,h.inj,h.lt,h.an⟩
theorem eT.SD(h:eT P KT An S s l){g:Nat}(i:S s.nx=some (g,z,e))(f:(g,o')∈l)(j:OR S z ob o')(k:∀a t c,ob=.cells a t c->bP P t=some e/\¬KT t)(d:∀b o x,s.get b=some o->S b=some x->x.1≠g):eT P KT An S (s.add ob) l where
 live b ZA hb:=by
  rw[AS.bv] at hb
  split at hb
  .
   grind
  .
   exact h.live b ZA hb
 inj b b' o1 o2 x x' hb pP hx vV he:=by
  rw[AS.bv] at hb pP
  split at hb<;>split at pP
  .
   omega
  .
   grind
  .
   grind
  .
   exact h.inj b b' o1 o2 x x' hb pP hx vV he
 lt b ZA hb:=by
  rw[AS.bv] at hb
  split at hb
  .
   next U=>simp[U]
  .
   have:=h.lt b ZA hb;simp;omega
 an:=h.an
end
variable {ι:Type}{S0 S1:cb}{a1:Act}{fr l1:Hq}{w1:World}{p:Nat}{B:Nat->Nat × Obj}{As:List Nat}
variable {P:Program}{KT:TypeId->Prop}{N0:ι->Nat}{M:ι->World->Nat->Prop}{O:ι->Nat->Prop}{R:ι->Wq}{D:ι->World->World->Array Event->Prop}{X:ι->Gq}{Hd:ι->Hq->World->Prop}
section
variable {kt:TypeId->Bool}{call:FuncId->Aq->AS->Option (Value × AS)}{ops:Array Oper}{q:Nat}{s s':AS}{J:Nat->Bool}{a:Act}{l:Hq}{i i1:ι}{w:World}{m:Nat}{o:Oper}
def mI(P:Program)(kt:TypeId->Bool)(ops:Array Oper)(sl:Nat->TL)(vl:Nq)(hp:Nat->AS)(m:Nat)(ob:Obj)(mk:Nq):Prop :=
 ∃o,ops[m]?=some o/\kindOf P o=2/\Region.wanted o (bL ops (sl m))=true/\tO P kt (sl m) o=some (ob,mk)/\hp (m+1)=(hp m).add ob/\vl m=mk (hp m).nx
structure ym(P:Program)(KT:TypeId->Prop)(An:cb)(Hd:ι->Hq->World->Prop)(kt:TypeId->Bool)(ops:Array Oper)(q:Nat)(aA:TL)(s:AS)(sl:Nat->TL)(vl:Nq)(hp:Nat->AS)(S0:cb)(fr:Hq)(J:Nat->Bool)(i:ι)(a:Act)(w:World)(p:Nat)(S:cb)(l:Hq)(B:Nat->Nat × Obj)(As:List Nat):Prop where
 pq:p<=q
 G3:∀m o,m<q->ops[m]?=some o->kindOf P o=3->(J m=true↔m<p)
 Sf:p=0\/∃e o',p=e+1/\e<q/\ops[e]?=some o'/\kindOf P o'=3
 low:∀m ob mk,m<p->mI P kt ops sl vl hp m ob mk->J m=true
 nd:As.Nodup
 mem:∀m,m∈As↔(m<q/\p<=m/\J m=true/\∃ob mk,mI P kt ops sl vl hp m ob mk)
 vr:eT P KT An S (hp p) l
 hd:Hd i (l++(As.map B++fr)) w
 AB:∀m∈As,∃ob mk z e,mI P kt ops sl vl hp m ob mk/\S (hp m).nx=some ((B m).1,z,e)/\OR S z ob (B m).2/\∀cs t fz,ob=.cells cs t fz->bP P t=some e/\¬KT t
 fresh:∀b,(hp p).nx<=b->b<(hp ops.size).nx->S b≠none->∃m∈As,b=(hp m).nx
 le:S0.le S
 out:∀b,b<s.nx\/(hp ops.size).nx<=b->S b=S0 b
 lG:vz ops q aA vl J S a
def D8(c:∀f a s v b,call f a s=some (v,b)->s.nx<=b.nx)(d:iQ P kt call ops q aA s sl vl hp)(e:m<ops.size):(hp m).nx<=(hp (m+1)).nx:=by
 have g:ops[m]?=some ops[m]:=gF e;rcases d.step m _ g with ⟨_,h⟩|⟨_,_,h⟩
 .exact sY c h
 .rw[h];exact jl _
def dK(hc:∀f args s v s',call f args s=some (v,s')->s.nx<=s'.nx)(d:iQ P kt call ops q aA s sl vl hp):∀{m'},m<=m'->m'<=ops.size->(hp m).nx<=(hp m').nx
 | 0,h,_=>by rw[Nat.le_zero.1 h];exact jl _
 | m'+1,h,h'=>by
  by_cases e:m=m'+1
  .rw[e];exact jl _
  .exact lT (dK hc d (m':=m') oq oq) (D8 hc d oq)
def mI.nx(h:mI P kt ops sl vl hp m ob mk):(hp (m+1)).nx=(hp m).nx+1:=by have⟨o,_,_,_,_,h,_⟩:=h;rw[h];rfl
theorem vX(d:iQ P kt call ops q aA s sl vl hp)(e:ops[m]?=some o)(j:kindOf P o≠3):(∃b a,mI P kt ops sl vl hp m b a)\/((¬∃b a,mI P kt ops sl vl hp m b a)/\hp (m+1)=hp m):=by
 rcases d.step m o e with ⟨hw,h⟩|⟨hw,hv,h⟩
 .by_cases h2:eF o.op=true
  .have i:kindOf P o=2:=by unfold kindOf;rw[ip h2]
   have U:=h;unfold bN at U;rw[ip h2] at U;split at U
   .next b a c =>simp only[sK,Prod.mk.injEq] at U;exact .inl ⟨b,a,o,e,i,hw,c,U.2.symm,U.1.symm⟩
   .cases U
  .right;refine⟨?_,?_⟩
   .rintro⟨b,a,o',a0,_,_,c,_⟩;rw[e] at a0;cases a0;unfold tO at c;cases f:o.op<;>simp only[f] at c h2<;>first|(cases c;done)|(simp[eF] at h2)
   .by_cases k:∃t x,o.op=.load t x
    .have⟨t,x,f⟩:=k;unfold bN at h;grind
    .have g:kindOf P o=0:=by unfold kindOf at j |-;grind
     exact(rZ g h).1
 .grind
theorem ym.merge(Y:Cy P KT N0 M O R D X Hd)(d:iQ P kt call ops q aA s sl vl hp)(h:ym P KT An Hd kt ops q aA s sl vl hp S0 fr J i a w p S l B As)(h0:m0<=q)(H:∀m o,p<=m->m<m0->ops[m]?=some o->kindOf P o≠3)(G:∀m,p<=m->m<m0->(∃F E,mI P kt ops sl vl hp m F E)->m∈As) :
  ∀m,p<=m->m<=m0->eT P KT An S (hp m) (l++(As.filter (·<m0)).map B)/\∀b o,(hp m).get b=some o->(∃u,(hp p).get b=some u)\/∃n∈As,n<m/\b=(hp n).nx:=by
 have y:=(Y.Z h.hd).nodup h.hd;rw[Bz,Bz,List.nodup_append,List.nodup_append] at y;obtain⟨I,⟨j,_,_⟩,t⟩:=y;rw[List.map_map] at j;intro m;induction m with
 | zero =>
  intro h1 _;have:p=0:=oq
  subst this;exact⟨h.vr.more λx c=>G8 _ c,λb o f=>.inl ⟨o,f⟩⟩
 | succ m L =>
  intro h1 h2;by_cases e:p=m+1
  .subst e;exact⟨h.vr.more λx c=>G8 _ c,λb o f=>.inl ⟨o,f⟩⟩
  .obtain⟨K,i2⟩:=L oq oq;have r:m<ops.size:=by have:=d.le; omega
   have C:ops[m]?=some ops[m]:=Array.getElem?_eq_getElem r;rcases vX d C (H m _ oq oq C) with hA|⟨_,hA⟩
   .have U:=G m oq oq hA;obtain⟨F,E,z,e',N,Q,T,V⟩:=h.AB m U;obtain⟨o1,_,_,_,_,W,_⟩:=N;rw[W];refine⟨K.SD Q (Jp _ (List.mem_map.2 ⟨m,List.mem_filter.2 ⟨U,by simp; omega⟩,rfl⟩)) T V λb k x f c=>?_,λb k f=>?_⟩
    .intro A;rcases i2 b k f with ⟨u,pP⟩|⟨n,D6,kF,rfl⟩
     .obtain⟨g,zz,ee,oo,r1,v,_⟩:=h.vr.live b u pP;rw[r1] at c;cases c;exact t g (List.mem_map.2 ⟨_,v,rfl⟩) (B m).1 (G8 _ (List.mem_map.2 ⟨B m,List.mem_map.2 ⟨m,U,rfl⟩,rfl⟩)) A
     .obtain⟨_,_,z',e2,_,v,_⟩:=h.AB n D6;rw[v] at c;cases c
      have:=vj j D6 U A;omega
    .rw[AS.bv] at f;grind
   .grind
end
variable {fn:FuncId}
section
variable {kt:TypeId->Bool}{call:FuncId->Aq->AS->Option (Value × AS)}{ops:Array Oper}{q:Nat}{s s':AS}{J:Nat->Bool}{a:Act}{l:Hq}{i i1:ι}{w:World}{m:Nat}{o:Oper}{Q:ei ι}{rest:List Nat}
theorem Gd(h2:¬eF o.op=true)(a:¬∃t x,o.op=.load t x)(U:kindOf P o≠3):kindOf P o=0:=by unfold kindOf at U |-;grind
abbrev ic(J:Nat->Bool)(m:Nat):Nat->Bool:=λk=>if k=m then true else J k
def ym.Uj(h:ym P KT An Hd kt ops q aA s sl vl hp S0 fr J i a w p S l B As)(e:J m=false)(b:∃d c,mI P kt ops sl vl hp m d c):p<=m:=by apply Classical.byContradiction;intro f;obtain⟨d,c,b⟩:=b;rw[h.low m d c oq b] at e;cases e
theorem ym.same(d:iQ P kt call ops q aA s sl vl hp)(h:ym P KT An Hd kt ops q aA s sl vl hp S0 fr J i a w p S l B As)(r:m<q)(t:ops[m]?=some o)(n:J m=false)(D:kindOf P o≠3)(C:¬∃f c,mI P kt ops sl vl hp m f c)(U:S.le S1)(g:∀b,S1 b=S b)(u:VR S1 (vl m) v')(j:eT P KT An S1 (hp p) l1)(k:Hd i1 (l1++(As.map B++fr)) w1) :
  ym P KT An Hd kt ops q aA s sl vl hp S0 fr (ic J m) i1 (a.put o.dst v') w1 p S1 l1 B As where
 pq:=h.pq
 G3 m' o' h1 h2 h3:=by
  by_cases e:m'=m
  .
   grind
  .
   simp only[ic,if_neg e]; exact h.G3 m' o' h1 h2 h3
 Sf:=h.Sf
 low m' f c h1 h2:=by
  by_cases e:m'=m
  .
   simp[ic,e]
  .
   simp only[ic,if_neg e]; exact h.low m' f c h1 h2
 nd:=h.nd
 mem m':=by
  rw[h.mem]
  grind
 vr:=j
 hd:=k
 AB m' D6:=by
  obtain⟨f,c,z,e,v,x,y,A⟩:=h.AB m' D6
  exact⟨f,c,z,e,v,U _ _ x,y.mono U,A⟩
 fresh b h1 h2 h3:=h.fresh b h1 h2 gq
 le:=cb.le_trans h.le U
 out b hb:=by rw[g]; exact h.out b hb
 lG:=rH d h.lG U r t n u
theorem ym.new(F:∀f A s v s',call f A s=some (v,s')->s.nx<=s'.nx)(Y:Cy P KT N0 M O R D X Hd)(d:iQ P kt call ops q aA s sl vl hp)(h:ym P KT An Hd kt ops q aA s sl vl hp S0 fr J i a w p S l B As)(hm:m<q)(ho:ops[m]?=some o)(I:J m=false)(u:mI P kt ops sl vl hp m ob mk)(aa:∀b,s.nx<=b->b<(hp ops.size).nx->S0 b=none)
 {g:Nat}(hF:Hd i1 ((g,o')::(l++(As.map B++fr))) w1)(hr:∀H nm,S.le H->H nm=some (g,z,e)->OR H z ob o'/\VR H (mk nm) v')(ht:∀cs t fz,ob=.cells cs t fz->bP P t=some e/\¬KT t) :
  S (hp m).nx=none/\ym P KT An Hd kt ops q aA s sl vl hp S0 fr (ic J m) i1 (a.put o.dst v') w1 p (S.put (hp m).nx (g,z,e)) l (λk=>if k=m then (g,o') else B k) (m::As):=by
 have a8:=h.Uj I ⟨ob,mk,u⟩;have TH:m<ops.size:=gq
 have T:m∉As:=λz=>by rw[((h.mem m).1 z).2.2.1] at I;cases I
 have a9:s.nx<=(hp m).nx:=by rw[<-d.h0];exact dK F d (Nat.zero_le _) oq
 have a6:(hp m).nx<(hp ops.size).nx:=by have h1:=u.nx;have h2:=dK F d (m:=m+1) (m':=ops.size) oq lr;omega
 have a3:S (hp m).nx=none:=by
  apply Classical.byContradiction;intro hn;have⟨m',c,e'⟩:=h.fresh _ (dK F d a8 oq) a6 hn;have⟨W,q2,q3,OI,mk',V⟩:=(h.mem m').1 c;have a5:m'≠m:=λz=>T (z▸c);have n1:=u.nx;have n2:=V.nx;by_cases kF:m'<m
  .have:=dK F d (m:=m'+1) (m':=m) oq oq;omega
  .have:=dK F d (m:=m+1) (m':=m') oq (by have:=d.le;omega);omega
 have U:S.le (S.put (hp m).nx (g,z,e)):=cb.kO a3;have C:As.map (λk=>if k=m then (g,o') else B k)=As.map B:=by refine List.map_congr_left λk hk=>?_;grind
 have⟨a7,ae⟩:=hr _ (hp m).nx U cb.iX;have hk2:kindOf P o=2:=by have⟨n,W,q2,_⟩:=u;grind
 have ab:vl m=mk (hp m).nx:=by have⟨_,_,_,_,_,_,q⟩:=u;exact q
 refine⟨a3,h.pq,λm' n h1 h2 h3=>?_,h.Sf,λm' r j h1 h2=>?_,List.nodup_cons.2 ⟨T,h.nd⟩,λm'=>?_,⟨λb n y=>?_,λb b' n K x x' y E hx G he=>?_,h.vr.lt,cb.le_trans h.vr.an U⟩,?_,λm' c=>?_,λb h1 h2 h3=>?_,cb.le_trans h.le U,λb y=>?_,rH d h.lG U hm ho I gq⟩
 .by_cases e1:m'=m
  .grind
  .simp only[ic,iw e1];exact h.G3 m' n h1 h2 h3
 .by_cases e1:m'=m
  .simp[ic,e1]
  .simp only[ic,iw e1];exact h.low m' r j h1 h2
 .by_cases e1:m'=m
  .grind
  .simp only[ic,nk,e1,false_or];exact h.mem m'
 .have⟨g1,Q,e1,K,L,N,r3,r4⟩:=h.vr.live b n y;exact⟨g1,Q,e1,K,U _ _ L,N,r3.mono U,r4⟩
 .have⟨g1,Q,e1,o3,L,_⟩:=h.vr.live b n y;have⟨g2,z2,e2,o4,N,_⟩:=h.vr.live b' K E;rw[U _ _ L] at hx;rw[U _ _ N] at G;cases hx;cases G;exact h.vr.inj b b' n K _ _ y E L N he
 .rw[rp,C];simp only[if_true];refine(Y.Z hF).perm hF ?_;exact List.perm_middle
 .rcases nk.1 c with rfl|c
  .refine⟨ob,mk,z,e,u,?_,?_,ht⟩
   .rw[ip rfl];exact cb.iX
   .rw[ip rfl];exact a7
  .have a5:m'≠m:=λz=>T (z▸c);have⟨r,j,Q,e1,W,q2,q3,q4⟩:=h.AB m' c;rw[iw a5];exact⟨r,j,Q,e1,W,U _ _ q2,q3.mono U,q4⟩
 .by_cases e1:b=(hp m).nx
  .grind
  .have:S b≠none:=by intro hn;apply h3;unfold cb.put;grind
   have⟨m',c,e2⟩:=h.fresh b h1 h2 this;grind
 .unfold cb.put;rw[iw oq];exact h.out b y
theorem ym.Pl(Y:Cy P KT N0 M O R D X Hd)(d:iQ P kt call ops q aA s sl vl hp)(h:ym P KT An Hd kt ops q aA s sl vl hp S0 fr J i a w p S l B As)(u:ku ops J)(r:m<q)(t:ops[m]?=some o)(j:J m=false)(n:kindOf P o=3)(x:lR ops J m) :
  p<=m/\eT P KT An S (hp m) (l++(As.filter (·<m)).map B)/\Hd i ((l++(As.filter (·<m)).map B)++((As.filter (λk=>!decide (k<m))).map B++fr)) w:=by
 have v:m<ops.size:=gq
 have f:p<=m:=by apply Classical.byContradiction;intro E;rw[(h.G3 m o r t n).2 oq] at j;cases j
 have U:∀b c,b<m->ops[b]?=some c->2<=kindOf P c->J b=true:=λb c h1 h2 h3=>eW d.back u v x (d.chain m b o c r t n h1 h2 h3);refine⟨f,(h.merge Y d oq (λb c h1 h2 h3 y=>?_) (λb h1 h2 h3=>?_) m f (jl _)).1,(Y.Z h.hd).perm h.hd ?_⟩
 .have:=(h.G3 b c oq h3 y).1 (U b c h2 h3 oq);omega
 .obtain⟨A,z,g⟩:=h3;have e:=g;obtain⟨c,C,F,_⟩:=e;exact(h.mem b).2 ⟨oq,h1,U b c h2 C oq,A,z,g⟩
 .rw[u6,<-u6 ((As.filter (·<m)).map B)];refine List.Perm.append_left _ (List.Perm.append_right _ ?_);rw[<-Bz];exact(List.filter_append_perm _ _).map B
theorem ym.SR(r:∀f c s v H,call f c s=some (v,H)->s.nx<=H.nx)(d:iQ P kt call ops q aA s sl vl hp)(h:ym P KT An Hd kt ops q aA s sl vl hp S0 fr J i a w p S l B As)(E:ku ops J)(t:m<q)(u:ops[m]?=some o)(O:J m=false)(y:kindOf P o=3)(F:lR ops J m)(W:p<=m)
 (j:S.le S1)(x:∀b,b<(hp m).nx\/(hp (m+1)).nx<=b->S1 b=S b)(Q:VR S1 (vl m) v')(I:eT P KT An S1 (hp (m+1)) l1)(N:Hd i1 (l1++((As.filter (λk=>!decide (k<m))).map B++fr)) w1) :
  ym P KT An Hd kt ops q aA s sl vl hp S0 fr (ic J m) i1 (a.put o.dst v') w1 (m+1) S1 l1 B (As.filter (λk=>!decide (k<m))) where
 pq:=oq
 G3 m' g h1 h2 h3:=by
  have U:m<ops.size:=gq
  by_cases e:m'=m
  .
   subst e; simp[ic]
  .
   simp only[ic,if_neg e]
   rw[h.G3 m' g h1 h2 h3]
   constructor
   .
    intro; omega
   .
    intro L
    exact(h.G3 m' g h1 h2 h3).1 (eW d.back E U F (d.chain m m' o g t u y oq h2 oq))
 Sf:=.inr ⟨m,o,rfl,t,u,y⟩
 low m' C A h1 h2:=by
  have U:m<ops.size:=gq
  by_cases e:m'=m
  .
   simp[ic,e]
  .
   simp only[ic,if_neg e]
   obtain⟨g,D,G,_⟩:=h2
   exact eW d.back E U F (d.chain m m' o g t u y oq D oq)
 nd:=h.nd.filter _
 mem m':=by
  rw[List.mem_filter,h.mem]
  grind
 vr:=I
 hd:=N
 AB m' n:=by
  obtain⟨C,A,z,e,D,G,R,T⟩:=h.AB m' (List.mem_filter.1 n).1
  exact⟨C,A,z,e,D,j _ _ G,R.mono j,T⟩
 fresh b h1 h2 h3:=by
  have U:m<ops.size:=gq
  have K:S b≠none:=gq
  have V:=dK r d (m:=p) (m':=m+1) oq oq
  obtain⟨m',n,e⟩:=h.fresh b oq h2 K
  refine⟨m',List.mem_filter.2 ⟨n,?_⟩,e⟩
  simp only[Bool.not_eq_true',decide_eq_false_iff_not]
  intro L
  obtain⟨_,_,_,C,A,M⟩:=(h.mem m').1 n
  have X:=M.nx
  have:=dK r d (m:=m'+1) (m':=m+1) oq oq
  omega
 le:=cb.le_trans h.le j
 out b hb:=by
  have U:m<ops.size:=gq
  rw[x b,h.out b hb]
  rcases hb with hb|hb
  .
   left
   have:=dK r d (m:=0) (m':=m) (Nat.zero_le _) oq
   rw[d.h0] at this
   omega
  .
   right
   have:=dK r d (m:=m+1) (m':=ops.size) oq (jl _)
   omega
 lG:=rH d h.lG j t u O Q
section
variable (hc:∀f args s v s',call f args s=some (v,s')->s.nx<=s'.nx)
def FD(h:kL P kt call ops aA s=some (lO,s')):s.nx<=s'.nx:=by
 obtain⟨q,b,c,a,d,_,rfl⟩:=ze h
 have:=dK hc d (Nat.zero_le _) lr;rw[d.h0] at this;exact this
def Can (P:Program)(KT:TypeId->Prop)(An:cb)(Hd:ι->Hq->World->Prop)(s:AS)(sl:Nat->TL)(hp:Nat->AS)(S0:cb)(fr:Hq)(m:Nat)(i:ι)(a:Act)(w:World):Prop :=
 ∃S l,S0.le S/\(∀b,b<s.nx\/(hp m).nx<=b->S b=S0 b)/\eT P KT An S (hp m) l/\Hd i (l++fr) w/\AR (VR S) (sl m).toArray a.tmps/\a.defers=[]
def ym.all(Y:Cy P KT N0 M O R D X Hd)(d:iQ P kt call ops q aA s sl vl hp)(h:ym P KT An Hd kt ops q aA s sl vl hp S0 fr J i a w p S l B As)(k:∀m,m<q->J m=true)(n:∀b,s.nx<=b->b<(hp ops.size).nx->S0 b=none):Can P KT An Hd s sl hp S0 fr q i a w:=by
 have r:∀m∈As,m<q:=λm c=>((h.mem m).1 c).1;have f:As.filter (·<q)=As:=List.filter_eq_self.2 λm c=>by simp[r m c]
 have c:=(h.merge Y d (m0:=q) (jl _) (λm o h1 h2 h3 E=>?_) (λm h1 h2 h3=>(h.mem m).2 ⟨h2,h1,k m h2,h3⟩) q h.pq (jl _)).1
 .rw[f] at c;refine⟨S,l++As.map B,h.le,λb g=>?_,c,by rw[u6]; exact h.hd,⟨?_,λt x y I K=>?_⟩,h.lG.2.1⟩
  .rcases g with g|g
   .exact h.out b (.inl g)
   .by_cases H:(hp ops.size).nx<=b
    .exact h.out b (.inr H)
    .have z:S0 b=none:=by
      refine n b ?_ oq
      have:=dK hc d (m:=0) (m':=q) (Nat.zero_le _) d.le;rw[d.h0] at this;omega
     rw[z];apply Classical.byContradiction;intro v;have G:=dK hc d (m:=p) (m':=q) h.pq d.le;obtain⟨m',u,e⟩:=h.fresh b oq oq v;obtain⟨T,_,_,Q,L,F⟩:=(h.mem m').1 u;have N:=F.nx
     have:=dK hc d (m:=m'+1) (m':=q) oq d.le;omega
  .rw[List.size_toArray,uI d q d.le,h.lG.1]
  .have A:(sl q)[t]?=some x:=by simpa using I
   have:=uJ d h.lG (m:=q) (t:=t) (jl _) λj o C _ _=>⟨λ_=>C,λ_=>k j C⟩;rw[tS,A,D4,K] at this;exact this
 .have:=(h.G3 m o oq h3 E).1 (k m oq);omega
end
def y3(d:iQ P kt call ops q aA s sl vl hp)(b:ku ops J)(h:m<ops.size)(c:lR ops J m):ku ops (ic J m):=by
 intro x y i a g;by_cases f:y=m
 .simp[ic,f]
 .simp only[ic,iw f];by_cases e:x=m
  .subst e;exact eW d.back b h c g
  .simp only[ic,iw e] at a;exact b x y i a g
theorem B4(Y:Cy P KT N0 M O R D X Hd)(b3:P.follows .mixedOrders=true)(af:∀t,kt t=false->¬KT t)(a6:∀f G s v s',call f G s=some (v,s')->Sound P KT An R D X Hd f G s v s')(I:∀f G s v s',call f G s=some (v,s')->s.nx<=s'.nx)(ag:lB ops=true)
 (h:kL P kt call ops aA s=some (lO,s'))(hS:eT P KT An S0 s l)(hF:Hd i (l++fr) w)(hA:AR (VR S0) aA.toArray a.tmps)(hd:a.defers=[])(ab:∀b,s.nx<=b->b<s'.nx->S0 b=none)
 (K:O0 P KT An Hd S0 s s' fr lO (λH F N=>Q H .normal F N)):fA X fn (.region id ops true) i Q a w:=by
 obtain⟨q,sl,vl,W,d,rfl,rfl⟩:=ze h;refine jk Y.C (Y.Z hF).env.y9 b3 rfl d.back (λJ H F N=>ku ops J/\((∃m,q<=m/\m<=ops.size/\(∀k,k<ops.size->(J k=true↔k<m))/\Can P KT An Hd s sl W S0 fr m H F N)\/((∀k,q<=k->k<ops.size->J k=false)/\∃p S l B As,ym P KT An Hd kt ops q aA s sl vl W S0 fr J H F N p S l B As))) (λaE hR=>?_) ?_ ?_ ?_
 .refine⟨λx y _ hx=>(by cases hx),.inr ⟨λk _ _=>rfl,0,S0,l,λ_=>(0,.pending #[] 0),[],Nat.zero_le _,λm o _ _ _=>by simp,.inl rfl,λm ob mk u=>by omega,by simp,λm=>by simp,by rw[d.h0];exact hS,?_,λm u=>by simp at u,λb h1 h2 h3=>?_,cb.le_refl S0,λb hb=>rfl,by rw[<-hA.1];simp,hd,λt x ht hx=>?_⟩⟩
  .have ah:=(Y.Z hF).rely hF hR;exact(Y.Z hF).rely ah ((Y.Z hF).env.tM _)
  .rw[d.h0] at h1;exact absurd (ab b h1 h2) h3
  .rcases hx with ⟨m,o,_,_,_,j,_⟩|⟨_,rfl⟩
   .cases j
   .exact m8 hA t
 .rintro J J' H F N j ⟨U,hI⟩;refine⟨λx y hx hJx hh=>?_,?_⟩
  .have b5:=tV d.back x hx hh;rw[<-j y oq];exact U x y hx gq hh
  .rcases hI with ⟨m,h1,h2,h3,h4⟩|⟨h1,p,S,l,B,As,h2⟩
   .grind
   .have hq:∀k,k<q->J k=J' k:=λk L=>j k (by have:=d.le;omega);refine .inr ⟨λk L n=>by rw[<-j k n];exact h1 k L n,p,S,l,B,As,h2.pq,λm o u c L=>by rw[<-hq m u];exact h2.G3 m o u c L,h2.Sf,λm ob mk u hA=>?_,h2.nd,λm=>?_,h2.vr,h2.hd,h2.AB,h2.fresh,h2.le,h2.out,h2.lG.1,h2.lG.2.1,λt x ht hx=>h2.lG.2.2 t x ht (pB hx λm o u _ _=>(hq m u).symm)⟩
    .rw[<-hq m (by have:=h2.pq;omega)];exact h2.low m ob mk u hA
    .rw[h2.mem];grind
 .rintro J m H F N ⟨U,hI⟩ u j a5 rest hK;have c:ops[m]?=some ops[m]:=gF u;have r:=y3 d U u a5;by_cases A:m<q
  .
   rcases hI with ⟨m',h1,h2,h3,h4⟩|⟨h1,p,S,l,B,As,h2⟩
   .grind
   have a0:∀k,q<=k->k<ops.size->ic J m k=false:=λk L n=>by grind
   have a4:=Il d ag h2.lG U A c a5;have ax:=zd d h2.lG U A c a5;have hpn:p<=ops.size:=by have:=d.le;have:=h2.pq;omega
   by_cases a9:kindOf P ops[m]=3
   .have⟨ak,av,al⟩:=h2.Pl Y d U A c j a9 a5;rcases d.step m _ c with ⟨hw,Cj⟩|⟨hw,hv,hh⟩
    .refine nq Y af a6 c gq a4 av al Cj (λb b1 b2=>?_) ?_
     .apply Classical.byContradiction;intro hn;have m1:=dK I d (m:=p) (m':=m) ak oq;have m2:=dK I d (m:=m+1) (m':=ops.size) oq lr;have⟨m',D6,e⟩:=h2.fresh b oq oq hn;have⟨q1,q2,q3,ob,mk,ae⟩:=(h2.mem m').1 D6;have n1:=ae.nx;by_cases kF:m'<m
      .have:=dK I d (m:=m'+1) (m':=m) oq oq;omega
      .have ar:m'≠m:=λz=>by rw[z] at q3;rw[j] at q3;cases q3
       have:=dK I d (m:=m+1) (m':=m') oq (by have:=d.le;omega);omega
     .intro i1 E l1 V v1 r1 r2 r3 r4 r5;exact hK i1 _ V ⟨r,.inr ⟨a0,m+1,E,l1,B,_,h2.SR I d U A c j a9 a5 ak r1 r2 r5 r3 r4⟩⟩
    .refine gB Y.C Y.T c gq ?_;refine hK H _ N ⟨r,.inr ⟨a0,m+1,S,_,B,_,h2.SR I d U A c j a9 a5 ak (cb.le_refl S) (λ_ _=>rfl) (by rw[hv];exact VR.undef) gq al⟩⟩
   .rcases vX d c a9 with ⟨ob,mk,ae⟩|⟨aq,hh⟩
    .have ay:=ae;have⟨o1,q1,q2,q3,q4,q5,q6⟩:=ay;rw[c] at q1;cases q1;exact JJ Y af c gq a4 h2.hd q4 λg z e o' V v1 ah hr ht=>(hK H _ V ⟨r,.inr ⟨a0,p,_,l,_,_,(h2.new I Y d A c j ae ab ah hr ht).2⟩⟩)
    .have a7:∀i1 E l1 V v1,S.le E->(∀b,b<(W p).nx\/(W p).nx<=b->E b=S b)->eT P KT An E (W p) l1->Hd i1 (l1++(As.map B++fr)) V->VR E (vl m) v1->ce X fn ops rest i1 Q (F.put (ops[m]).dst v1) V:=λi1 E l1 V v1 r1 r2 r3 r4 r5 =>hK i1 _ V ⟨r,.inr ⟨a0,p,E,l1,B,As,h2.same d A c j a9 aq r1 (λb=>r2 b oq) r5 r3 r4⟩⟩;rcases d.step m _ c with ⟨hw,Cj⟩|⟨hw,hv,_⟩
     .have aw:Region.wanted ops[m] (yielded ops F.tmps)=true:=by rw[ax];exact hw
      by_cases hl:∃t x,(ops[m]).op=.load t x
      .have⟨t,x,au⟩:=hl;have TD:=d.Uh m _ t x A c au hw p h2.Sf λe o' he La n=>⟨λkF Yd=>?_,λhge Yd=>?_⟩
       .exact EB Y c aw au a4 h2.vr h2.hd TD a7
       .
        have ai:=(h2.G3 e o' he La n).2 kF
        have:=U e m gq ai Yd;rw[j] at this;cases this
       .have ai:=eW d.back U u a5 Yd
        have:=(h2.G3 e o' he La n).1 ai;omega
      .have az:kindOf P ops[m]=0:=by
        have hn:¬eF (ops[m]).op=true:=by
         intro hn;apply aq;have a3:=Cj;unfold bN at a3;rw[ip hn] at a3;split at a3
         .next ob mk hq =>simp only[sK,Prod.mk.injEq] at a3;exact⟨ob,mk,_,c,by unfold kindOf;rw[ip hn],hw,hq,a3.2.symm,a3.1.symm⟩
         .cases a3
        exact Gd hn hl a9
       have ao:=(rZ az Cj).2 (W p);exact nq Y af a6 c aw a4 h2.vr h2.hd ao (λb b1 b2=>by omega) a7
     .refine gB Y.C Y.T c gq ?_;exact a7 H S l N undef (cb.le_refl S) (λ_ _=>rfl) h2.vr h2.hd (by rw[hv];exact VR.undef)
  .
   have a8:∀k,k<m->J k=true:=λk L=>eW d.back U u a5 (d.last m k oq u L);have Qa:∀k,m<k->k<ops.size->J k=false:=λk L n=>by
    cases hb:J k with
    | false=>rfl
    | true =>have:=U k m n hb (d.last k m oq n L);rw[j] at this;cases this
   have aa:Can P KT An Hd s sl W S0 fr m H F N:=by
    rcases hI with ⟨m',h1,h2,h3,h4⟩|⟨h1,p,S,l,B,As,h2⟩
    .have:m'=m:=by
      have h5:¬m<m':=λz=>by rw[(h3 m u).2 z] at j;cases j
      have h6:¬m'<m:=λz=>by have:=(h3 m' oq).1 (a8 m' z);omega
      omega
     rw[<-this];exact h4
    .have:m=q:=by
      have h5:¬q<m:=λz=>by have:=h1 q lr oq;rw[a8 q z] at this;cases this
      omega
     rw[this];exact h2.all I Y d (λk L=>a8 k oq) ab
   have⟨S,l,c1,c2,c3,c4,c5,c6⟩:=aa;have a4:eI S (sl m) F ops[m]:=λx hx=>iZ c5 (by
    unfold lB at ag;rw[aT] at ag
    have:=ag ops[m] gq;rw[aT] at this;exact this x gq);have zU:∀i1 E l1 V v1,S.le E->(∀b,b<(W m).nx\/(W (m+1)).nx<=b->E b=S b)->eT P KT An E (W (m+1)) l1->Hd i1 (l1++fr) V->VR E (vl m) v1->ce X fn ops rest i1 Q (F.put (ops[m]).dst v1) V:=by
    intro i1 E l1 V v1 r1 r2 r3 r4 r5;refine hK i1 _ V ⟨r,.inl ⟨m+1,by omega,by omega,λk L=>?_,E,l1,cb.le_trans c1 r1,λb hb=>?_,r3,r4,?_,?_⟩⟩
    .by_cases e:k=m
     .simp[e]
     .simp only[iw e];constructor
      .intro aj;apply Classical.byContradiction;intro hn;rw[Qa k oq L] at aj;cases aj
      .intro aj;exact a8 k oq
    .have b4:=D8 I d u;have Yn:=dK I d (m:=0) (m':=m) (Nat.zero_le _) oq;rw[d.h0] at Yn;rw[r2 b oq,c2 b oq]
    .rw[d.ZV m _ c];exact nZ (c5.mono r1) r5 _
    .cases (ops[m]).dst<;>exact c6
   have ax:=iM c5 ops ops[m];rcases d.step m _ c with ⟨hw,Cj⟩|⟨hw,hv,hh⟩
   .refine nq Y af a6 c gq a4 c3 c4 Cj (λb b1 b2=>?_) zU;rw[c2 b (.inr b1)];have Yn:=dK I d (m:=0) (m':=m) (Nat.zero_le _) oq;have hm1:=dK I d (m:=m+1) (m':=ops.size) oq lr;rw[d.h0] at Yn;exact ab b oq oq
   .refine gB Y.C Y.T c gq ?_;exact zU H S l N undef (cb.le_refl S) (λ_ _=>rfl) gq c4 (by rw[hv];exact VR.undef)
 .rintro J H F N j ⟨U,hI⟩;have aa:Can P KT An Hd s sl W S0 fr ops.size H F N:=by
   rcases hI with ⟨m',h1,h2,h3,h4⟩|⟨h1,p,S,l,B,As,h2⟩
   .have:m'=ops.size:=by
     apply Classical.byContradiction;intro ar
     have:=(h3 m' oq).1 (j m' oq);omega
    rw[<-this];exact h4
   .have:q=ops.size:=by
     apply Classical.byContradiction;intro ar
     have:=d.le
     have:=h1 q lr oq;rw[j q oq] at this;cases this
    have hh:=h2.all I Y d (λk L=>j k oq) ab;rw[this] at hh;exact hh
  have⟨S,l,c1,c2,c3,c4,c5,c6⟩:=aa;exact aW Y.C Y.T (K H S l N F c1 c2 c3 c4 c5 c6)
end
section
variable {P:Program}{main:Bool}{R:ι->Wq}{D:ι->World->World->Array Event->Prop}{X:ι->Gq}{Q:ei ι}{a:Act}{w:World}{vs:ι}
def A5{b:Frame}{k:List Item}{cs:List Frame}:stepG P main (G (b.at a (.code (.scope c)::k)) cs) w=.go (G (b.at a (.code c::.inScope c::k)) cs) w:=by simp[G,stepG,stepG.exec,Frame.at]
def vt{b:Frame}{k:List Item}{cs:List Frame}:stepG P main (G (b.at a (.inScope c::k)) cs) w=.go (G (b.at a k) cs) w:=by simp[G,stepG,stepG.exec,Frame.at]
def GZ(C:bW P main R D X)(T:∀i,Terms (R i) (D i))(h:fA X fn c vs Q a w):fA X fn (.scope c) vs Q a w:=by
 intro b k n o r f;have s:X vs (G (b.at a (.code c::.inScope c::k)) n) w:=by
  refine h b (.inScope c::k) n o r λm e u v q=>?_;cases e with
  | normal=>exact C.step rfl λg d=>by rw[vt];exact⟨(T m).idle _,C.rely (f _ _ _ _ q) d⟩
  | exit id =>obtain⟨t,j,p⟩:=f _ _ _ _ q;exact⟨t,by simp[exitTo,j],p⟩
  | ret=>exact f _ _ _ _ q
  | goto l=>exact f _ _ _ _ q
  | panic ch=>exact f _ _ _ _ q
  | outgrown=>exact f _ _ _ _ q
 exact C.step rfl λg d=>by rw[A5];exact⟨(T vs).idle _,C.rely s d⟩
end
section
variable {Q:ei ι}{a:Act}{w:World}{i:ι}{s s':AS}{l rl:Hq}{v:Value}{ops:Array Oper}{j:Nat}{rest:List Nat}{o:Oper}{kt:TypeId->Bool}{pr:Prim}
structure ck(P:Program)(KT:TypeId->Prop)(An:cb)(R:ι->Wq)(D:ι->World->World->Array Event->Prop)(X:ι->Gq)(Hd:ι->Hq->World->Prop)(pr:Prim):Prop where
 nx:∀f g args s v s',pr f=some g->g args s=some (v,s')->s.nx<=s'.nx
 sound:∀f g args s v s',pr f=some g->g args s=some (v,s')->Sound P KT An R D X Hd f args s v s'
def jN(n:Nat)(id:Nat)(ops:Array Oper)(draw:Bool)(a:TL)(s:AS):fe P kt pr (n+1) (.region id ops draw) a s=if lB ops=false then none else
  match (if draw then kL P kt else xf P kt) (bH P kt pr n) ops a s with
  | some (a',s')=>some (.normal,a',s')
  | none=>none:=rfl
theorem zA(t:∀f g b s v s',pr f=some g->g b s=some (v,s')->s.nx<=s'.nx):∀(n:Nat),(∀(c:Code) (a U:TL) (s s':AS) (e:Exit),fe P kt pr n c a s=some (e,U,s')->s.nx<=s'.nx)/\∀f b s v s',bH P kt pr n f b s=some (v,s')->s.nx<=s'.nx:=by
 intro n;have d:∀n,(∀(c:Code) (a U:TL) (s s':AS) (e:Exit),fe P kt pr n c a s=some (e,U,s')->s.nx<=s'.nx)->∀f b s v s',bH P kt pr n f b s=some (v,s')->s.nx<=s'.nx:=by
  intro n p f b s v s' h;unfold bH at h;split at h
  .next g q=>exact t f g b s v s' q h
  .split at h
   .split at h
    .split at h
     .next e m u o =>
      have:=p _ _ _ _ _ _ o;split at h;iterate 2
       .simp at h;obtain⟨r,w,rfl,rfl⟩:=h;exact this
      .cases h
     .cases h
    .cases h
   .cases h
 induction n with
 | zero =>
  have k:∀(c:Code) (a U:TL) (s s':AS) (e:Exit),fe P kt pr 0 c a s=some (e,U,s')->s.nx<=s'.nx:=λc a U s s' e h=>by simp[fe] at h
  exact⟨k,d 0 k⟩
 | succ n i =>
  have⟨i,j⟩:=i;have h1:∀(c:Code) (a U:TL) (s s':AS) (e:Exit),fe P kt pr (n+1) c a s=some (e,U,s')->s.nx<=s'.nx:=by
   intro c a U s s' e h;cases c with
   | skip=>simp[fe] at h;obtain⟨_,_,rfl⟩:=h;exact jl _
   | ret=>simp[fe] at h;obtain⟨_,_,rfl⟩:=h;exact jl _
   | exit id=>simp[fe] at h;obtain⟨_,_,rfl⟩:=h;exact jl _
   | label id=>simp[fe] at h;obtain⟨_,_,rfl⟩:=h;exact jl _
   | seq x y =>simp only[fe] at h;grind
   | cond x y z =>simp only[fe] at h;grind
   | block id x =>simp only[fe] at h;grind
   | loop x =>simp only[fe] at h;grind
   | scope x=>simp only[fe] at h;exact i _ _ _ _ _ _ h
   | region id ops a0 =>
    rw[jN] at h;split at h
    .cases h
    .split at h
     .next m u l =>
      cases h;cases a0 with
      | true=>exact FD j l
      | false=>exact mY j _ l
     .cases h
   | _=>simp[fe] at h
  exact⟨h1,d _ h1⟩
def vx(X:ι->Gq)(fn:FuncId)(x:Code)(vs:ι)(Q:ei ι)(a:Act)(w:World):Prop :=
 ∀(b:Frame) (k:List Item) (cs:List Frame),b.fn=fn->b.kind≠.early->(∀fE e a' w',Q fE e a' w'->qK X fE b k cs e a' w')->X vs (G (b.at a (.code x::.inLoop x::k)) cs) w
section
variable (C:bW P true R D X)
section
variable (T:∀i,Terms (R i) (D i))
def si{x:Code}(h:fA X fn x i (wK (λr g o=>vx X fn x r Q g o) Q) a w):vx X fn x i Q a w:=by
 intro b k j m n c;refine h b (.inLoop x::k) j m n λf e g o q=>?_;cases e with
 | normal=>exact C.step rfl λp d=>by rw[stepG_inLoop];exact⟨(T f).idle _,C.rely (q b k j m n c) d⟩
 | exit id=>exact(c _ _ _ _ q).push rfl iq
 | ret=>exact(c _ _ _ _ q).push rfl iq
 | goto l=>exact c _ _ _ _ q
 | panic ch=>exact c _ _ _ _ q
 | outgrown=>exact c _ _ _ _ q
def yh{x:Code}(h:vx X fn x i Q a w):fA X fn (.loop x) i Q a w:=λb k e f j g =>C.step rfl λd c=>by rw[stepG_loop];exact⟨(T i).idle _,C.rely (h b k e f j g) c⟩
end
end
def wU(P:Program)(KT:TypeId->Prop)(An:cb)(kt:TypeId->Bool)(pr:Prim)(X:ι->Gq)(Hd:ι->Hq->World->Prop)(n:Nat):Prop :=
 ∀(c:Code) (fn:FuncId) (aA lO:TL) (s s':AS) (e:Exit) (S:cb) (l fr:Hq) (i:ι) (w:World) (a:Act) (Q:ei ι),fe P kt pr n c aA s=some (e,lO,s')->eT P KT An S s l->Hd i (l++fr) w->AR (VR S) aA.toArray a.tmps->a.defers=[]->(∀b,s.nx<=b->b<s'.nx->S b=none) ->
   O0 P KT An Hd S s s' fr lO (λi' a' w'=>Q i' e a' w')->fA X fn c i Q a w/\∀x,c=.loop x->vx X fn x i Q a w
def only(h:fA X fn c i Q a w)(b:∀x,c≠.loop x):fA X fn c i Q a w/\∀x,c=.loop x->vx X fn x i Q a w:=⟨h,λx e=>absurd e (b x)⟩
theorem ij (Y : Cy P KT N0 M O R D X Hd) (hm : P.follows .mixedOrders = true) (Ck : ∀ t, kt t = false -> ¬ KT t) (hp : ck P KT An R D X Hd pr) (F9 : ∀ (f : FuncId) (aS : Func), P.funcs[f]? = some aS -> (aS.name == "runtime.NumGoroutine") = false) : ∀ (n : Nat),
  wU P KT An kt pr X Hd n /\
  ∀f args s v s',bH P kt pr n f args s=some (v,s')->Sound P KT An R D X Hd f args s v s':=by
 intro n
 have Du:∀n,wU P KT An kt pr X Hd n->∀f args s v s',bH P kt pr n f args s=some (v,s')->Sound P KT An R D X Hd f args s v s':=by
  intro n hC f args s v s' h
  unfold bH at h
  split at h
  .
   next g hg=>exact hp.sound f g args s v s' hg h
  .
   split at h
   .
    next aS hf =>
    split at h
    .
     next c hb =>
     split at h
     .
      next e a1 s1 Tl =>
      have hex:(e=.normal\/e=.ret)/\(c8 P aS a1 s1).map (·,s1)=some (v,s'):=by
       grind
      obtain ⟨hex,h⟩:=hex
      simp only [p7,Prod.mk.injEq] at h
      obtain ⟨r,hr,rfl,rfl⟩:=h
      intro S l fr i w args' hS hF hA qI
      refine ⟨aS,c,hf,F9 f aS hf,hb,?_⟩
      refine (hC c f _ a1 s s1 e S l fr i w _ _ Tl hS hF ?_ rfl qI ?_).1
      .
       have:args.toList.length=args'.size:=by rw [<-hA.1]; simp
       have h2:=hA.append (AR.replicate (S:=S) (x:=undef) (v:=undef) (aS.ntmps-args'.size) VR.undef)
       have he:(args.toList++List.replicate (aS.ntmps-args.toList.length) undef).toArray=args++Array.replicate (aS.ntmps-args'.size) undef:=by
        grind
       grind
      .
       intro i' S' l' w' a' h1 h2 h3 h4 h5 h6
       refine ⟨hex,h6,λaE Yz=>?_⟩
       have IY:=(Y.Z h4).rely h4 Yz
       obtain ⟨v',hv,Ox⟩:=wy Y h3 IY h5 hr
       refine ⟨v',Ox.1,?_,S',l',h1,h2,h3,IY,hv⟩
       exact (Y.Z IY).env.jb ((Y.Z IY).size IY) (Own.refl _) λev Cj=>Ox.2 ev (mem_seen Cj)
     .
      cases h
    .
     cases h
   .
    cases h
 induction n with
 | zero =>
  have h0:wU P KT An kt pr X Hd 0:=λc fn aA lO s s' e S l fr i w a Q h=>by simp [fe] at h
  exact ⟨h0,Du 0 h0⟩
 | succ n ih =>
  obtain ⟨ih,ihc⟩:=ih
  have nx:=zA (P:=P) (kt:=kt) hp.nx n
  have h1:wU P KT An kt pr X Hd (n+1):=?_
  .
   exact ⟨h1,Du _ h1⟩
  intro c fn aA lO s s' e S l fr i w a Q h hS hF hA hd qI K
  cases c with
  | skip=>simp [fe] at h; obtain ⟨rfl,rfl,rfl⟩:=h; exact only (lN Y.C Y.T (K i S l w a (cb.le_refl S) (λ_ _=>rfl) hS hF hA hd)) iq
  | ret=>simp [fe] at h; obtain ⟨rfl,rfl,rfl⟩:=h; exact only (n6 Y.C Y.T (K i S l w a (cb.le_refl S) (λ_ _=>rfl) hS hF hA hd)) iq
  | exit id=>simp [fe] at h; obtain ⟨rfl,rfl,rfl⟩:=h; exact only (qC Y.C Y.T (K i S l w a (cb.le_refl S) (λ_ _=>rfl) hS hF hA hd)) iq
  | label id=>simp [fe] at h; obtain ⟨rfl,rfl,rfl⟩:=h; exact only (GY Y.C Y.T (K i S l w a (cb.le_refl S) (λ_ _=>rfl) hS hF hA hd)) iq
  | seq x y =>
   refine only ?_ iq
   simp only [fe] at h
   split at h
   .
    next a1 s1 hx =>
    have n1:=nx.1 _ _ _ _ _ _ hx
    have n2:=nx.1 _ _ _ _ _ _ h
    refine bQ Y.C Y.T (ih x fn aA a1 s s1 .normal S l fr i w a _ hx hS hF hA hd (λb h1 h2=>qI b h1 oq) ?_).1
    intro i1 S1 l1 w1 a2 q1 q2 q3 q4 q5 q6
    refine (ih y fn a1 lO s1 s' e S1 l1 fr i1 w1 a2 Q h q3 q4 q5 q6 (λb h1 h2=>by rw [q2 b (.inr h1)]; exact qI b oq h2) ?_).1
    intro i2 S2 l2 w2 a3 r1 r2 r3 r4 r5 r6
    exact K i2 S2 l2 w2 a3 (cb.le_trans q1 r1) (λb hb=>by rw [r2 b oq,q2 b oq]) r3 r4 r5 r6
   .
    next Cl =>
    refine bQ Y.C Y.T (ih x fn aA lO s s' e S l fr i w a _ h hS hF hA hd qI ?_).1
    intro i1 S1 l1 w1 a2 q1 q2 q3 q4 q5 q6
    have:=K i1 S1 l1 w1 a2 q1 q2 q3 q4 q5 q6
    cases e with
    | normal=>exact absurd h (Cl lO s')
    | _=>exact this
  | cond x y z =>
   refine only ?_ iq
   have ko:∀t,aA.at x=.bool t->a.eval x=.bool t:=λt ht=>by
    cases x with
    | tmp q=>have:=iZ (x:=.tmp q) hA rfl; rw [ht] at this; exact this.sc rfl
    | const q=>exact ht
    | global q=>exact ht
    | func q=>exact ht
   simp only [fe] at h
   split at h
   .
    next ht=>exact eG Y.C Y.T (ko true ht) (ih y fn aA lO s s' e S l fr i w a Q h hS hF hA hd qI K).1
   .
    next ht=>exact eG Y.C Y.T (ko false ht) (ih z fn aA lO s s' e S l fr i w a Q h hS hF hA hd qI K).1
   .
    cases h
  | block id x =>
   refine only ?_ iq
   simp only [fe] at h
   split at h
   .
    next k a1 s1 hx =>
    have hs1:a1=lO/\s1=s':=gq
    obtain ⟨rfl,rfl⟩:=hs1
    refine gZ Y.C Y.T (ih x fn aA a1 s s1 (.exit k) S l fr i w a _ hx hS hF hA hd qI ?_).1
    intro i1 S1 l1 w1 a2 q1 q2 q3 q4 q5 q6
    have:=K i1 S1 l1 w1 a2 q1 q2 q3 q4 q5 q6
    simp only [jP]
    grind
   .
    next Cl =>
    refine gZ Y.C Y.T (ih x fn aA lO s s' e S l fr i w a _ h hS hF hA hd qI ?_).1
    intro i1 S1 l1 w1 a2 q1 q2 q3 q4 q5 q6
    have:=K i1 S1 l1 w1 a2 q1 q2 q3 q4 q5 q6
    cases e with
    | exit k=>exact absurd h (Cl k lO s')
    | _=>exact this
  | loop x =>
   have hl:vx X fn x i Q a w:=by
    simp only [fe] at h
    split at h
    .
     next a1 s1 hx =>
     have n1:=nx.1 _ _ _ _ _ _ hx
     have n2:=nx.1 _ _ _ _ _ _ h
     refine si Y.C Y.T (ih x fn aA a1 s s1 .normal S l fr i w a _ hx hS hF hA hd (λb h1 h2=>qI b h1 oq) ?_).1
     intro i1 S1 l1 w1 a2 q1 q2 q3 q4 q5 q6
     refine (ih (.loop x) fn a1 lO s1 s' e S1 l1 fr i1 w1 a2 Q h q3 q4 q5 q6 (λb h1 h2=>by rw [q2 b (.inr h1)]; exact qI b oq h2) ?_).2 x rfl
     intro i2 S2 l2 w2 a3 r1 r2 r3 r4 r5 r6
     exact K i2 S2 l2 w2 a3 (cb.le_trans q1 r1) (λb hb=>by rw [r2 b oq,q2 b oq]) r3 r4 r5 r6
    .
     next Cl =>
     refine si Y.C Y.T (ih x fn aA lO s s' e S l fr i w a _ h hS hF hA hd qI ?_).1
     intro i1 S1 l1 w1 a2 q1 q2 q3 q4 q5 q6
     have:=K i1 S1 l1 w1 a2 q1 q2 q3 q4 q5 q6
     cases e with
     | normal=>exact absurd h (Cl lO s')
     | _=>exact this
   exact ⟨yh Y.C Y.T hl,λy hy=>by cases hy; exact hl⟩
  | scope x=>simp only [fe] at h; exact only (GZ Y.C Y.T (ih x fn aA lO s s' e S l fr i w a Q h hS hF hA hd qI K).1) iq
  | region id ops draw =>
   refine only ?_ iq
   rw [jN] at h
   split at h
   .
    cases h
   .
    next Cm =>
    have Cm:lB ops=true:=gq
    split at h
    .
     next a1 s1 hx =>
     cases h
     cases draw with
     | true=>exact B4 Y hm Ck ihc nx.2 Cm hx hS hF hA hd qI K
     | false =>
      refine aN Y.C Y.T ?_
      have vV:cT P kt (bH P kt pr n) ops (ops.toList.drop 0) aA s=some (lO,s'):=hx
      have:=mZ (Q:=Q) (fn:=fn) Y Ck ihc nx.2 Cm ops.size 0 oq oq vV hS hF hA hd qI K
      rw [List.range_eq_range']
      exact this
    .
     cases h
  | _=>simp [fe] at h
end
section
variable (s:ByteArray)
def jc(w:World)(es:Array Event):(Builtin.len_ #[9] 3 #[.string s]).events prog w es=es:=by simp[Builtin.len_,go_sem]
def jd(k:IntKind)(h:Int)(w:World)(es:Array Event)(a:0<=h)(h1:h<=s.size):(Instr.sliceAt 9 (.string s) none (some (.int k h)) none).events prog w es=es:=by simp[Instr.sliceAt,Instr.slice,Instr.sliceBounds,Instr.sliceBound,underlying,underlying9,asIntOf,a,h1]
def je(k:IntKind)(h:Int)(w:World)(es:Array Event)(a:0<=h)(h1:h<=s.size):(Instr.sliceAt 9 (.string s) (some (.int k h)) none none).events prog w es=es:=by simp[Instr.sliceAt,Instr.slice,Instr.sliceBounds,Instr.sliceBound,underlying,underlying9,asIntOf,a,h1]
def gI(k k':IntKind)(l h:Int)(w:World)(es:Array Event)(a:0<=l)(h1:l<=h)(h2:h<=s.size):(Instr.sliceAt 9 (.string s) (some (.int k l)) (some (.int k' h)) none).events prog w es=es:=by
 have h3:0<=h:=oq
 simp[Instr.sliceAt,Instr.slice,Instr.sliceBounds,Instr.sliceBound,underlying,underlying9,asIntOf, *];intros;omega
def mE(i:Int)(w:World)(es:Array Event)(a:0<=i)(h1:i<s.size):(Instr.index 9 (.string s) (.int .i64 i)).events prog w es=es:=by simp[Instr.index,underlying,underlying9,asIntOf, *]
end
theorem BV{s:ByteArray}(h:i<s.size)(U:(s[i]'h).toNat<128):Utf8.decode s i=((s[i]'h).toNat,1):=by
 have e:(s.get! (i+0)).toNat=(s[i]'h).toNat:=by rw[Nat.add_zero];congr 1;cases s;exact getElem!_pos _ i h
 unfold Utf8.decode;grind
section
variable (s:ByteArray)
def xg(c:Int)(w:World)(es:Array Event):(Extern.BytealgIndexByte.indexByte #[.string s,.int .u8 c]).events prog w es=es:=by
 change Sem.events prog (do
  let b <-Extern.Bytes.bytesOf (.string s)
  let c' <-Extern.Bytes.asByte (.int .u8 c)
  match (List.range b.size).find? λi=>b[i]! == c' with
  | some i=>pure (goInt i)
  | none=>pure (goInt (-1))) w es=_;simp only[Extern.Bytes.bytesOf,Extern.Bytes.asByte,Sem.events_bind,Sem.run_pure,Sem.events_pure,Result.evThen_ok];split<;>rfl
def Mg(c:Int):Int:=Lib.indexByte s.data.toList c.toNat.toUInt8
def xo(c:Int):N5 prog 373 #[.string s,.int .u8 c] (.int .i64 (Mg s c)):=by
 intro f R D X C T i w;refine gU func373 rq rfl ?_;simp only[ntmps373,bZ,Nat.reduceAdd,Nat.reduceSub];refine bQ C T ?_;refine aN C T ?_;simp only[fH];refine cV C T rfl rq λ_ b a=>?_;go_simp;refine a _ ?_ (by first|(simp[go_sem];done)|(simp[go_sem, *];done)|(simp[go_sem,jc,jd,je,gI,mE, *];done));clear a b;try walk_nrm
 refine aW C T ?_;show fA _ _ _ _ _ _ _;refine bQ C T ?_;refine aN C T ?_;simp only[fH,Nat.reduceAdd];iterate 2
  refine cV C T rfl rq λ_ b a=>?_
  go_simp
  refine a _ ?_ (by first|(simp[go_sem];done)|(simp[go_sem, *];done)|(simp[go_sem,jc,jd,je,gI,mE, *];done))
  clear a b
  try walk_nrm
 refine oQ C T rfl rq rfl func386 rq rq kq (e:=Extern.BytealgIndexByte.indexByte) kq (x:=.int .i64 (Mg s c)) (args':=#[.string s,.int .u8 c]) (by simp[Act.eval]) (λw=>Lib.run_indexByteString s c w) (λw d=>xg s c w d) ?_;try walk_nrm
 refine cV C T rfl rq λ_ b a=>?_;go_simp;refine a _ ?_ (by first|(simp[go_sem];done)|(simp[go_sem, *];done)|(simp[go_sem,jc,jd,je,gI,mE, *];done));clear a b;try walk_nrm
 refine aW C T ?_;show fA _ _ _ _ _ _ _;refine n6 C T ⟨.inr rfl,rfl,_,resultsC_tmp rq _,rfl,?_,rfl⟩;simp
end
abbrev fI:=FuncId->Aq->AS->Option (Value × AS)
def oz(c c':fI):Prop:=∀f args s r,c f args s=some r->c' f args s=some r
section
variable {P:Program}{kt:TypeId->Bool}{pr:Prim}{c c':fI}
theorem nO(i:oz c c'){r:Value × AS}(h:bN P kt c a o s=some r):bN P kt c' a o s=some r:=by
 unfold bN at h |-;split
 .grind
 .next k =>
  rw[iw k] at h;cases U:o.op with
  | call cl =>
   rw[U] at h;simp only at h |-;split
   .next f j =>
    rw[j] at h;simp only at h;split
    .grind
    .next d =>
     rw[iw d] at h;split at h
     .next g first e l=>exact i _ _ _ _ h
     .cases h
   .grind
   .grind
  | next m b=>rw[U] at h;cases b<;>exact h
  | _=>rw[U] at h;exact h
def iC(hc:oz c c'):∀{rest:List Oper} {a:TL} {s:AS} {r:TL × AS},cT P kt c ops rest a s=some r->cT P kt c' ops rest a s=some r
 | [],a,s,r,h=>h
 | o::rest,a,s,r,h=>by
  unfold cT at h |-;split
  .next hw =>
   rw[ip hw] at h;split at h
   .next v s' ho=>rw[nO hc ho];exact iC hc h
   .cases h
  .next hw=>rw[iw hw] at h;exact iC hc h
def nQ(hc:oz c c'):∀{rest:List Oper} {a:TL} {s:AS} {r:List (TL × Value × AS)},pI P kt c ops rest a s=some r->pI P kt c' ops rest a s=some r
 | [],a,s,r,h=>h
 | o::rest,a,s,r,h=>by
  unfold pI at h |-;split
  .next hw =>
   rw[ip hw] at h;split at h
   .next v s' ho =>
    rw[nO hc ho];split at h
    .next tr ht=>simp only;rw[nQ hc ht];exact h
    .cases h
   .cases h
  .next hw =>
   rw[iw hw] at h;split at h
   .next tr ht=>rw[nQ hc ht];exact h
   .cases h
theorem zy(b:oz c c'){r:TL × AS}(h:kL P kt c ops a s=some r):kL P kt c' ops a s=some r:=by
 unfold kL at h |-;simp only at h |-;split
 .grind
 .next U =>
  rw[iw U] at h;split at h
  .next e d=>rw[nQ b d];exact h
  .cases h
theorem om(h:∀c a s r,fe P kt pr n c a s=some r->fe P kt pr m c a s=some r):oz (bH P kt pr n) (bH P kt pr m):=by
 intro f b s r U;unfold bH at U |-;split
 .grind
 .grind
theorem zw:∀(n:Nat) (c:Code) (a:TL) (s:AS) (r:Exit × TL × AS),fe P kt pr n c a s=some r->fe P kt pr (n+1) c a s=some r
 | 0,c,a,s,r,h=>by unfold fe at h;cases h
 | n+1,c,a,s,r,h=>by
  have ih:=zw n;have b:oz (bH P kt pr n) (bH P kt pr (n+1)):=om ih;cases c with
  | seq x y =>unfold fe at h |-;grind
  | cond x y z =>unfold fe at h |-;grind
  | block id x =>unfold fe at h |-;grind
  | loop x =>unfold fe at h |-;grind
  | scope x=>unfold fe at h |-;exact ih _ _ _ _ h
  | region id ops U =>
   rw[jN] at h |-;split
   .grind
   .next f =>
    rw[iw f] at h;cases U with
    | true =>
     simp only[if_true] at h |-;split at h
     .next e g d=>rw[zy b d];exact h
     .cases h
    | false =>
     simp only[if_false,kj] at h |-;split at h
     .next e g d=>unfold xf at d |-;rw[iC b d];exact h
     .cases h
  | skip=>exact h
  | ret=>exact h
  | exit id=>exact h
  | label id=>exact h
  | _=>unfold fe at h;cases h
def mW(b:n<=m){c:Code}{r:Exit × TL × AS}(h:fe P kt pr n c a s=some r):fe P kt pr m c a s=some r:=by
 induction b with
 | refl=>exact h
 | step _ d=>exact zw _ _ _ _ _ d
def gW(hm:n<=m):oz (bH P kt pr n) (bH P kt pr m):=om λ_ _ _ _ h=>mW hm h
end
section
variable (P:Program)
section
variable (kt:TypeId->Bool)
section
variable (pr:Prim)
def EF(f:FuncId)(args:Aq)(s:AS)(v:Value)(s':AS):Prop:=∃n,bH P kt pr n f args s=some (v,s')
def EW(c:Code)(a:TL)(s:AS)(Q:Exit->TL->AS->Prop):Prop:=∃n e a' s',fe P kt pr n c a s=some (e,a',s')/\Q e a' s'
def EO(ops:Array Oper)(rest:List Oper)(a:TL)(s:AS)(K:TL->AS->Prop):Prop:=∃n a' s',cT P kt (bH P kt pr n) ops rest a s=some (a',s')/\K a' s'
def ET(ops:Array Oper)(rest:List Oper)(a:TL)(s:AS)(K:List (TL × Value × AS)->Prop):Prop:=∃n tr,pI P kt (bH P kt pr n) ops rest a s=some tr/\K tr
end
end
end
section
variable {P:Program}{kt:TypeId->Bool}{pr:Prim}{a:TL}{s:AS}{Q:Exit->TL->AS->Prop}{K:TL->AS->Prop}{KT:List (TL × Value × AS)->Prop}{ops:Array Oper}{o:Oper}{rest:List Oper}{v:Value}{s1:AS}{x y:Code}
def EW.mono{b:Exit->TL->AS->Prop}(h:EW P kt pr c a s Q)(f:∀e a s,Q e a s->b e a s):EW P kt pr c a s b:=by have⟨n,e,d,g,h1,h2⟩:=h;exact⟨n,e,d,g,h1,f _ _ _ h2⟩
def EW.skip(h:Q .normal a s):EW P kt pr .skip a s Q:=⟨1,_,_,_,rfl,h⟩
def EW.ret(h:Q .ret a s):EW P kt pr .ret a s Q:=⟨1,_,_,_,rfl,h⟩
def EW.exit(h:Q (.exit id) a s):EW P kt pr (.exit id) a s Q:=⟨1,_,_,_,rfl,h⟩
def wL(P:Program)(kt:TypeId->Bool)(pr:Prim)(y:Code)(Q:Exit->TL->AS->Prop):Exit->TL->AS->Prop:=λe a s=>match e with
 | .normal=>EW P kt pr y a s Q
 | e=>Q e a s
def EW.seq(h:EW P kt pr x a s (wL P kt pr y Q)):EW P kt pr (.seq x y) a s Q:=by
 have⟨n,e,b,g,h1,h2⟩:=h;cases e with
 | normal =>obtain⟨m,d,c,i,h3,f⟩:=h2;refine⟨max n m+1,d,c,i,?_,f⟩;unfold fe;simp only;rw[mW (Nat.le_max_left n m) h1];exact mW (Nat.le_max_right n m) h3
 | _ =>refine⟨n+1,_,b,g,?_,h2⟩;unfold fe;simp only;rw[h1]
def EW.Dy{t:Operand}(c:a.at t=.bool true)(h:EW P kt pr x a s Q):EW P kt pr (.cond t x y) a s Q:=by have⟨n,e,b,d,h1,h2⟩:=h;exact⟨n+1,e,b,d,by unfold fe;simp only;rw[c];exact h1,h2⟩
def EW.y5{t:Operand}(c:a.at t=.bool false)(h:EW P kt pr y a s Q):EW P kt pr (.cond t x y) a s Q:=by have⟨n,e,b,d,h1,h2⟩:=h;exact⟨n+1,e,b,d,by unfold fe;simp only;rw[c];exact h1,h2⟩
def EW.cond{t:Operand}{b:Bool}(c:a.at t=.bool b)(h1:b=true->EW P kt pr x a s Q)(h2:b=false->EW P kt pr y a s Q):EW P kt pr (.cond t x y) a s Q:=by
 cases b with
 | true=>exact EW.Dy c (h1 rfl)
 | false=>exact EW.y5 c (h2 rfl)
def HO(b:Nat)(Q:Exit->TL->AS->Prop):Exit->TL->AS->Prop:=λe a s=>match e with
 | .exit k=>if k=b then Q .normal a s else Q (.exit k) a s
 | e=>Q e a s
def EW.block(h:EW P kt pr x a s (HO id Q)):EW P kt pr (.block id x) a s Q:=by
 have⟨n,e,c,d,h1,h2⟩:=h;unfold HO at h2;cases e with
 | exit k =>
  simp only at h2;by_cases b:k=id
  .rw[ip b] at h2;exact⟨n+1,.normal,c,d,by unfold fe;simp only;rw[h1];simp[b],h2⟩
  .rw[iw b] at h2;exact⟨n+1,.exit k,c,d,by unfold fe;simp only;rw[h1];simp[b],h2⟩
 | _=>exact⟨n+1,_,c,d,by unfold fe;simp only;rw[h1],h2⟩
def EW.scope(h:EW P kt pr x a s Q):EW P kt pr (.scope x) a s Q:=by have⟨n,e,b,c,h1,h2⟩:=h;exact⟨n+1,e,b,c,by unfold fe;exact h1,h2⟩
def EW.loop(h:EW P kt pr x a s (wL P kt pr (.loop x) Q)):EW P kt pr (.loop x) a s Q:=by
 have⟨n,e,b,g,h1,h2⟩:=h;cases e with
 | normal =>obtain⟨m,d,c,i,h3,f⟩:=h2;refine⟨max n m+1,d,c,i,?_,f⟩;unfold fe;simp only;rw[mW (Nat.le_max_left n m) h1];exact mW (Nat.le_max_right n m) h3
 | _ =>refine⟨n+1,_,b,g,?_,h2⟩;unfold fe;simp only;rw[h1]
def EO.nil(h:K a s):EO P kt pr ops [] a s K:=⟨0,a,s,rfl,h⟩
def EO.op(e:Region.wanted o (bL ops a)=true)(h:bN P kt (λ_ _ _=>none) a o s=some (v,s1))(k:EO P kt pr ops rest (a.put o.dst v) s1 K):EO P kt pr ops (o::rest) a s K:=by have⟨n,c,g,h1,h2⟩:=k;refine⟨n,c,g,?_,h2⟩;unfold cT;rw[ip e,nO (λf b s r d=>by cases d) h];exact h1
theorem Dv{f:Operand}{c:fI}(b:o.op=.call cl)(d:cl.callee=.value f)(e:jV P f=false)(h:a.at f=.func (.func g) first cap)(U:first++cl.args.map a.at++cap=args):bN P kt c a o s=c g args s:=by
 unfold bN;have i:eF o.op=false:=by rw[b];rfl
 grind
def EO.call{f:Operand}(l:Region.wanted o (bL ops a)=true)(e:o.op=.call cl)(c:cl.callee=.value f)(d:jV P f=false)(j:a.at f=.func (.func g) first cap)(b:first++cl.args.map a.at++cap=args)(h:EF P kt pr g args s v s1)(k:EO P kt pr ops rest (a.put o.dst v) s1 K):EO P kt pr ops (o::rest) a s K:=by have⟨n,i,p,h1,h2⟩:=k;have⟨m,h⟩:=h;refine⟨max n m,i,p,?_,h2⟩;unfold cT;rw[ip l,Dv e c d j b,gW (Nat.le_max_right n m) _ _ _ _ h];exact iC (gW (Nat.le_max_left n m)) h1
theorem EW.region(c:lB ops=true)(h:EO P kt pr ops ops.toList a s (λU b=>Q .normal U b)):EW P kt pr (.region id ops false) a s Q:=by have⟨n,U,b,h1,h2⟩:=h;refine⟨n+1,.normal,U,b,?_,h2⟩;rw[jN,iw gq];simp only[if_false,kj];unfold xf;rw[h1]
def ET.nil(h:KT []):ET P kt pr ops [] a s KT:=⟨0,[],rfl,h⟩
def ET.op(e:Region.wanted o (bL ops a)=true)(h:bN P kt (λ_ _ _=>none) a o s=some (v,s1))(k:ET P kt pr ops rest (a.put o.dst v) s1 (λc=>KT ((a,v,s1)::c))):ET P kt pr ops (o::rest) a s KT:=by have⟨n,c,h1,h2⟩:=k;refine⟨n,_,?_,h2⟩;unfold pI;rw[ip e,nO (λf b s r d=>by cases d) h];simp only;rw[h1]
theorem ET.pass(U:Region.wanted o (bL ops a)=false)(k:ET P kt pr ops rest (a.put o.dst undef) s (λb=>KT ((a,undef,s)::b))):ET P kt pr ops (o::rest) a s KT:=by have⟨n,b,h1,h2⟩:=k;refine⟨n,_,?_,h2⟩;unfold pI;grind
def ET.call{f:Operand}(l:Region.wanted o (bL ops a)=true)(e:o.op=.call cl)(c:cl.callee=.value f)(d:jV P f=false)(j:a.at f=.func (.func g) first cap)(b:first++cl.args.map a.at++cap=args)(h:EF P kt pr g args s v s1)(k:ET P kt pr ops rest (a.put o.dst v) s1 (λi=>KT ((a,v,s1)::i))):ET P kt pr ops (o::rest) a s KT:=by have⟨n,i,h1,h2⟩:=k;have⟨m,h⟩:=h;refine⟨max n m,_,?_,h2⟩;unfold pI;rw[ip l,Dv e c d j b,gW (Nat.le_max_right n m) _ _ _ _ h];simp only;rw[nQ (gW (Nat.le_max_left n m)) h1]
theorem EW.draw(i:lB ops=true)(j:fW ops=true)(k:CK P ops.toList (fw ops.toList []) (iS (fw ops.toList []) ops.toList.length)=true)
 (h:ET P kt pr ops ops.toList a s (λd=>qc P ops (fw ops.toList []) (iS (fw ops.toList []) ops.toList.length) d s=true/\∃c v b e o U,d.reverse=(c,v,b)::e/\ops.toList.reverse=o::U/\Q .normal (c.put o.dst v) b)):EW P kt pr (.region id ops true) a s Q:=by have⟨n,d,h1,h2,c,v,b,e,o,U,h3,f,g⟩:=h;refine⟨n+1,.normal,_,b,?_,g⟩;rw[jN,iw gq];simp only[if_true];unfold kL;simp only;rw[iw gq,h1];simp only;rw[iw (by rw[h2];simp),h3,f]
theorem EF.of{fn:Func}{b:Code}(i:pr f=none)(g:P.funcs[f]?=some fn)(c:fn.body=some b)(h:EW P kt pr b (args.toList++List.replicate (fn.ntmps-args.toList.length) undef) s (λe U a=>(e=.normal\/e=.ret)/\c8 P fn U a=some v/\a=s')):EF P kt pr f args s v s':=by obtain⟨n,e,U,a,h1,d,h2,rfl⟩:=h;refine⟨n,?_⟩;unfold bH;grind
def EF.vp{g:Aq->AS->Option (Value × AS)}(a:pr f=some g)(h:g args s=some (v,s')):EF P kt pr f args s v s':=⟨0,by unfold bH;rw[a];exact h⟩
def EF.eval(n:Nat)(h:bH P kt pr n f args s=some (v,s')):EF P kt pr f args s v s':=⟨n,h⟩
end
def eU:Nat->Value->Bool
 | 0,_=>false
 | n+1,v=>match v with
  | .agg x=>x.toList.all (eU n)
  | .tuple x=>x.toList.all (eU n)
  | v=>dX v
section
theorem AR.qn{a:Aq}(h:∀x∈a.toList,VR S x x):AR (VR S) a a:=⟨rfl,λi x y b U=>by rw[b] at U;cases U;exact h x gq⟩
theorem AR.zn{a b:Aq}(h:AR (VR S) a b)(U:∀x∈a.toList,∀y,VR S x y->y=x):b=a:=by
 apply uX.1;apply List.ext_getElem?;intro i;rw[Array.getElem?_toList,Array.getElem?_toList];by_cases c:i<a.size
 .have h1:a[i]?=some a[i]:=gF c;have h2:b[i]?=some (b[i]'(by rw[<-h.1];exact c)):=gF _;rw[h1,h2];rw[U _ iq _ (h.2 i _ _ h1 h2)]
 .have h2:¬i<b.size:=by rw[<-h.1];exact c
  grind
def VR.flat:∀{n:Nat} {x v:Value},eU n x=true->VR S x v->v=x
 | 0,x,v,h,_=>by simp[eU] at h
 | n+1,x,v,h,hr=>by
  unfold eU at h;split at h
  .rw[aT] at h;obtain⟨p',rfl,hp⟩:=hr.ag;rw[hp.zn λx hx y hy=>VR.flat (h x hx) hy]
  .rw[aT] at h;obtain⟨p',rfl,hp⟩:=hr.tu;rw[hp.zn λx hx y hy=>VR.flat (h x hx) hy]
  .exact hr.sc h
def VR.of_flat:∀{n:Nat} {x:Value},eU n x=true->VR S x x
 | 0,x,h=>by simp[eU] at h
 | n+1,x,h=>by
  unfold eU at h;split at h
  .rw[aT] at h;exact VR.Ad (AR.qn λx hx=>VR.of_flat (h x hx))
  .rw[aT] at h;exact VR.uu (AR.qn λx hx=>VR.of_flat (h x hx))
  .exact VR.dx h
end
section
variable {P:Program}{KT:TypeId->Prop}{N0:ι->Nat}{M:ι->World->Nat->Prop}{O:ι->Nat->Prop}{R:ι->Wq}{D:ι->World->World->Array Event->Prop}{X:ι->Gq}{Hd:ι->Hq->World->Prop}{f:FuncId}{args:Aq}{s:AS}{v:Value}
theorem jH.mono{i:ι}{Post U:ι->Value->World->Prop}(h:jH P R D X f args i w Post)(j:∀i v w,Post i v w->U i v w):jH P R D X f args i w U:=by have⟨a,c,h1,h2,h3,d⟩:=h;refine⟨a,c,h1,h2,h3,lM d λk e g o q=>⟨q.1,q.2.1,λb r=>?_⟩⟩;have⟨v,l,m,n⟩:=q.2.2 b r;grind
def ll(Y:Cy P KT N0 M O R D X Hd){i:ι}:∀{l fr:Hq},Hd i (l++fr) w->Hd i fr w
 | [],fr,h=>h
 | x::l,fr,h=>ll Y (l:=l) ((Y.Z h).drop h)
def Sound.alone(Y:Cy P KT N0 M O R D X Hd){k:Nat}(g:∀b,k<=b->An b=none)(j:args.toList.all (eU m)=true)(p:eU m v=true)(h:Sound P KT An R D X Hd f args ⟨[],k⟩ v s1):Sound P KT An R D X Hd f args s v s:=by
 intro S l q i w c u t r z;rw[aT] at j;have e:=r.zn λx n y A=>VR.flat (j x n) A;subst e;have d:∀b o,(⟨[],k⟩:AS).get b=some o->False:=λb o a=>by unfold AS.get at a;simp at a
 refine(h An [] (l++q) i w c ⟨λb o a=>(d b o a).elim,λb F o I x T a=>(d b o a).elim,λb o a=>(d b o a).elim,cb.le_refl An⟩ t (AR.qn λx n=>VR.of_flat (j x n)) λb a _=>g b a).mono ?_;rintro G N Q ⟨E,H,J,K,L,B,C⟩;refine⟨S,l,cb.le_refl S,λ_ _=>rfl,u,ll Y B,?_⟩;rw[VR.flat p C];exact VR.of_flat p
def jI(P:Program)(KT:TypeId->Prop)(An:cb)(R:ι->Wq)(D:ι->World->World->Array Event->Prop)(X:ι->Gq)(Hd:ι->Hq->World->Prop)(f:FuncId)(args:Aq)(s:AS)(v:Value)(s':AS):Prop :=
 ∀S l fr i w args',eT P KT An S s l->Hd i (l++fr) w->AR (VR S) args args'->(∀b,s.nx<=b->S b=none) ->
  jH P R D X f args' i w λi' v' w'=>∃S' l',eT P KT An S' s' l'/\Hd i' (l'++fr) w'/\VR S' v v'
def Sound.toW(h:Sound P KT An R D X Hd f args s v s'):jI P KT An R D X Hd f args s v s':=λS l e i w a k j g c=>(h S l e i w a k j g λb m _=>c b m).mono λ_ _ _ ⟨d,n,_,_,q⟩=>⟨d,n,q⟩
theorem Sound.BI(Y:Cy P KT N0 M O R D X Hd){k c:Nat}{x1:Nat × Nat × Nat}(h1:An c=some x1)(a3:∀b,k<=b->An b=none)(a5:cs.toList.all dX=true)(a9:∀b,s0.get b=if b=c then some (.cells cs t) else none)(hk:s0.nx=k)(aa:s1.get c=some (.cells cs t))(hs:s.get c=some (.cells cs t))(W:args.toList.all (eU m)=true)(hv:eU m v=true)(h:jI P KT An R D X Hd f args s0 v s1):Sound P KT An R D X Hd f args s v s:=by
 intro S l u i w d j hF hA ab;rw[aT] at W a5;have e:=hA.zn λx G y hy=>VR.flat (W x G) hy;subst e;have XZ:c<k:=by
  by_cases a7:c<k
  .exact a7
  .rw[a3 c oq] at h1;cases h1
 have⟨g,z,e,r,J,q2,q3,q4⟩:=j.live c _ hs;have hx1:x1=(g,z,e):=by have:=j.an _ _ h1;rw[J] at this;cases this;rfl
 subst hx1;have a4:∀{A B:cb} {OH:Obj},OR A z (.cells cs t) OH->OR B z (.cells cs t) OH:=λ{A B OH} hq=>by have⟨Q,r1,r2,K,L⟩:=hq;refine⟨Q,r1,r2,K,λi x y G hy=>?_⟩;have F:=a5 x gq;rw[(L i x y G hy).sc F];exact VR.dx F
 have⟨p,q,hl⟩:=List.append_of_mem q2;have E:(p++(g,r)::q).Perm ([(g,r)]++(p++q)):=List.perm_middle;have T:Hd i ([(g,r)]++((p++q)++u)) w:=(Y.Z hF).perm hF (by
  rw[hl,<-u6];exact(E.append_right u).symm);have I:∀b o,s0.get b=some o->b=c/\o=.cells cs t:=λb o U=>by
  rw[a9] at U;split at U
  .next e=>cases U;exact⟨e,rfl⟩
  .cases U
 refine(h An [(g,r)] ((p++q)++u) i w d ⟨λb o U=>?_,λb b' o r x x' U pP _ _ _=>by rw[(I b o U).1,(I b' r pP).1],λb o U=>by rw[(I b o U).1,hk];exact XZ,cb.le_refl An⟩ T (AR.qn λx G=>VR.of_flat (W x G)) λb U=>a3 b gq).mono ?_
 .obtain⟨rfl,rfl⟩:=I b o U;exact⟨g,z,e,r,h1,by simp,a4 q3,q4⟩
 .rintro i' v' w' ⟨S',l',K,L,r5⟩;have⟨g2,z2,e2,H,p1,p2,p3,p4⟩:=K.live c _ aa;have he:(g2,z2,e2)=(g,z,e):=by have:=K.an _ _ h1;rw[p1] at this;cases this;rfl
  cases he;have⟨lc,ld,a6⟩:=List.append_of_mem p2;have n:(lc++(g,H)::ld).Perm ((lc++ld)++[(g,H)]):=List.perm_middle.trans (List.perm_append_singleton _ _).symm;have V:Hd i' ((lc++ld)++(([(g,H)]++(p++q))++u)) w':=(Y.Z L).perm L (by
   rw[a6]
   have:=(n.append_right ((p++q)++u)).symm;simpa[u6] using this);refine⟨S,[(g,H)]++(p++q),cb.le_refl S,λ_ _=>rfl,⟨λb o U=>?_,j.inj,j.lt,j.an⟩,ll Y V,?_⟩
  .have⟨gb,zb,eb,ob,N,a,u3,u4⟩:=j.live b o U;by_cases C:b=c
   .subst C;rw[hs] at U;cases U;rw[J] at N;cases N;exact⟨g,z,e,H,J,by simp,a4 p3,u4⟩
   .rw[hl] at a;have a8:gb≠g:=λe'=>C (j.inj b c o _ _ _ U hs N J e');refine⟨gb,zb,eb,ob,N,?_,u3,u4⟩;rcases List.mem_append.1 a with a|a
    .simp[a]
    .rcases nk.1 a with a|a
     .cases a;exact absurd rfl a8
     .simp[a]
  .rw[VR.flat hv r5];exact VR.of_flat hv
end
def UB:Option Obj->Option Obj->Bool
 | none,none=>true
 | some (.cells c t f),some (.cells c' t' f')=>t.beq t'&&f.1.beq f'.1&&f.2.beq f'.2&&c.toList.length.beq c'.toList.length&&(c.toList.zip c'.toList).all (λp=>og 20 p.1 p.2)
 | some (.stringIter x p),some (.stringIter y q)=>p.beq q&&cw x.data.toList y.data.toList
 | _,_=>false
def Nh (s s':AS):Bool:=s.nx.beq s'.nx&&s.hp.length.beq s'.hp.length&&(s.hp.zip s'.hp).all λp=>p.1.length.beq p.2.length&&(p.1.zip p.2).all λq=>UB q.1 q.2
def RI:Value->Value->Bool
 | .tuple x,.tuple y=>x.toList.length.beq y.toList.length&&(x.toList.zip y.toList).all (λp=>og 20 p.1 p.2)
 | x,y=>og 20 x y
def chk (r:Option (Value × AS))(v:Value)(s:AS):Bool:=match r with
 | some (v',s')=>RI v' v&&Nh s' s
 | none=>false
def nK{p:α × α->Bool}(c:∀q:α × α,p q=true->q.1=q.2):∀{a b:List α},a.length.beq b.length=true->(a.zip b).all p=true->a=b
 | [],[],_,_=>rfl
 | [],_::_,hl,_=>by simp at hl
 | _::_,[],hl,_=>by simp at hl
 | x::a,y::b,hl,h=>by
  have hl':a.length.beq b.length=true:=by have:=gh hl;simp only[lC,Nat.add_right_cancel_iff] at this;rw[this];exact Nat.beq_refl _
  simp only[List.zip_cons_cons,List.all_cons,lV] at h;rw[show x=y from c (x,y) h.1,nK c hl' h.2]
def rA{x y:Option Obj}(h:UB x y=true):x=y:=by
 unfold UB at h;split at h
 .rfl
 .next c t f a k j =>simp only[lV] at h;obtain⟨⟨⟨⟨h1,h2⟩,h3⟩,d⟩,g⟩:=h;have e:=nK (λq i=>iL i) d g;have b:c=a:=uX.1 e;rw[gh h1,b,Prod.ext (gh h2) (gh h3)]
 .simp only[lV] at h;rw[gh h.1,tw h.2]
 .cases h
def oV(h:Nh s s'=true):s=s':=by unfold Nh at h;simp only[lV] at h;obtain⟨⟨h1,h2⟩,h3⟩:=h;have⟨a,b⟩:=s;have⟨c,d⟩:=s';have e1:b=d:=gh h1;have f:a=c:=nK (λq e=>by simp only[lV] at e;exact nK (λr g=>rA g) e.1 e.2) h2 h3;rw[e1,f]
def De{x y:Value}(h:RI x y=true):x=y:=by
 unfold RI at h;split at h
 .next a b =>simp only[lV] at h;have e:a=b:=uX.1 (nK (λq c=>iL c) h.1 h.2);rw[e]
 .exact iL h
def Pt{r:Option (Value × AS)}(h:chk r v s=true):r=some (v,s):=by
 unfold chk at h;split at h
 .simp only[lV] at h;rw[De h.1,oV h.2]
 .cases h
def V4:Option (TL × AS)->Bool
 | some _=>true
 | none=>false
def oA:Option (TL × AS)->TL
 | some (a,_)=>a
 | none=>[]
def oS:Option (TL × AS)->AS
 | some (_,s)=>s
 | none=>⟨[],0⟩
def Xk:Option (Exit × TL × AS)->Bool
 | some (.normal,_,_)=>true
 | _=>false
def cA:Option (Exit × TL × AS)->TL
 | some (_,a,_)=>a
 | none=>[]
def cS:Option (Exit × TL × AS)->AS
 | some (_,_,s)=>s
 | none=>⟨[],0⟩
section
variable {P:Program}{kt:TypeId->Bool}{pr:Prim}{a:TL}{s:AS}{Q:Exit->TL->AS->Prop}{K:TL->AS->Prop}{KT:List (TL × Value × AS)->Prop}{ops:Array Oper}{o:Oper}{rest:List Oper}{v:Value}{s1:AS}{x y:Code}
def lZ{c:fI}:∀{l m:List Oper} {a:TL} {s:AS},cT P kt c ops (l++m) a s=(match cT P kt c ops l a s with|some (a',s')=>cT P kt c ops m a' s'|none=>none)
 | [],m,a,s=>rfl
 | o::l,m,a,s=>by
  rw[List.cons_append];simp only[cT];by_cases hw:Region.wanted o (bL ops a)=true
  .simp only[ip hw];cases bN P kt c a o s with
   | none=>rfl
   | some r=>exact lZ
  .simp only[iw hw];exact lZ
def EO.run(k n:Nat)(b:TL)(s':AS)(h:cT P kt (bH P kt pr n) ops (rest.take k) a s=some (b,s'))(d:EO P kt pr ops (rest.drop k) b s' K):EO P kt pr ops rest a s K:=by have⟨m,c,e,h1,h2⟩:=d;refine⟨max n m,c,e,?_,h2⟩;rw[<-List.take_append_drop k rest,lZ,iC (gW (Nat.le_max_left n m)) h];exact iC (gW (Nat.le_max_right n m)) h1
def EO.go(k n:Nat)(h:V4 (cT P kt (bH P kt pr n) ops (rest.take k) a s)=true)(b:EO P kt pr ops (rest.drop k) (oA (cT P kt (bH P kt pr n) ops (rest.take k) a s)) (oS (cT P kt (bH P kt pr n) ops (rest.take k) a s)) K):EO P kt pr ops rest a s K:=by
 generalize c:cT P kt (bH P kt pr n) ops (rest.take k) a s=q at h b;obtain _|⟨a',s'⟩:=q
 .cases h
 .exact EO.run k n a' s' c b
def EW.go(n:Nat)(h:Xk (fe P kt pr n c a s)=true)(k:Q .normal (cA (fe P kt pr n c a s)) (cS (fe P kt pr n c a s))):EW P kt pr c a s Q:=by
 generalize b:fe P kt pr n c a s=q at h k;unfold Xk at h;split at h
 .exact⟨n,_,_,_,b,k⟩
 .cases h
def cE:Option (Exit × TL × AS)->Option Exit
 | some (e,_,_)=>some e
 | none=>none
def EW.Oj(n:Nat)(e:Exit)(h:cE (fe P kt pr n c a s)=some e)(k:Q e (cA (fe P kt pr n c a s)) (cS (fe P kt pr n c a s))):EW P kt pr c a s Q:=by
 generalize b:fe P kt pr n c a s=q at h k;obtain _|⟨e',a',s'⟩:=q
 .cases h
 .cases h;exact⟨n,_,_,_,b,k⟩
def EO.gd(args:Aq)(hw:Region.wanted o (bL ops a)=true)(ko:o.op=.call cl)(R5:cl.callee=.value (.func g))(Cl:jV P (.func g)=false)(tZ:(#[]++cl.args.map a.at++#[]:Aq)=args)(h:EF P kt pr g args s v s1)(k:EO P kt pr ops rest (a.put o.dst v) s1 K):EO P kt pr ops (o::rest) a s K :=
 EO.call hw ko R5 Cl rfl tZ h k
def ET.gd(args:Aq)(hw:Region.wanted o (bL ops a)=true)(ko:o.op=.call cl)(R5:cl.callee=.value (.func g))(Cl:jV P (.func g)=false)(tZ:(#[]++cl.args.map a.at++#[]:Aq)=args)(h:EF P kt pr g args s v s1)(k:ET P kt pr ops rest (a.put o.dst v) s1 (λtr=>KT ((a,v,s1)::tr))):ET P kt pr ops (o::rest) a s KT :=
 ET.call hw ko R5 Cl rfl tZ h k
def EO.kZ(s':AS)(h:s=s')(k:EO P kt pr ops rest a s' K):EO P kt pr ops rest a s K:=h▸k
def EW.kZ(s':AS)(h:s=s')(k:EW P kt pr c a s' Q):EW P kt pr c a s Q:=h▸k
def EW.fill(f:(Nq)->TL)(h:a=f (λi=>a.getD i undef))(k:∀x,EW P kt pr c (f x) s Q):EW P kt pr c a s Q:=h▸k _
def EW.dG(I:Nat->TL->AS->Prop)(h:∀m a s,I m a s->EW P kt pr c a s (λe a' s'=>match e with|.normal=>∃m',m'<m/\I m' a' s'|e=>Q e a' s')):∀m a s,I m a s->EW P kt pr (.loop c) a s Q:=by
 intro m;induction m using Nat.strongRecOn with
 | _ m ih =>
  intro a s hI;refine EW.loop (EW.mono (h m a s hI) λe a' s' q=>?_);unfold wL;cases e with
  | normal=>obtain⟨m',hm,Te⟩:=q;exact ih m' hm a' s' Te
  | _=>exact q
end
section
variable {P:Program}{KT:TypeId->Prop}{N0:ι->Nat}{M:ι->World->Nat->Prop}{O:ι->Nat->Prop}{R:ι->Wq}{D:ι->World->World->Array Event->Prop}{X:ι->Gq}{Hd:ι->Hq->World->Prop}{pr:Prim}{kt:TypeId->Bool}
def iV(f:FuncId)(V:Aq->Option Value)(pr:Prim):Prim:=λg=>if g.beq f then some λa s=>match V a with
 | some v=>some (v,s)
 | none=>none
 else pr g
theorem ck.add(Y : Cy P KT N0 M O R D X Hd)(hm : P.follows .mixedOrders = true)(Ck : ∀ t, kt t = false -> ¬ KT t)(F9 : ∀ (f : FuncId) (aS : Func), P.funcs[f]? = some aS -> (aS.name == "runtime.NumGoroutine") = false){k : Nat}(L3 : ∀ b, k <= b -> An b = none)(hp : ck P KT An R D X Hd pr){V : Array Value -> Option Value}(hV : ∀ args v, V args = some v -> args.toList.all (eU m) = true /\ eU m v = true /\ ∃ s1, EF P kt pr f args ⟨[], k⟩ v s1) : ck P KT An R D X Hd (iV f V pr) := by
 constructor
 .intro g h args s v s' hf hh;unfold iV at hf;split at hf
  .grind
  .exact hp.nx g h args s v s' hf hh
 .intro g h args s v s' hf hh;unfold iV at hf;split at hf
  .next he =>
   have he:=gh he;subst he;cases hf;simp only at hh;split at hh
   .next v' hv =>cases hh;have⟨h1,h2,s1,n,h3⟩:=hV _ _ hv;exact Sound.alone Y L3 h1 h2 ((ij Y hm Ck hp F9 n).2 _ _ _ _ _ h3)
   .cases hh
  .exact hp.sound g h args s v s' hf hh
end
abbrev str(l:Bq):Value:=.string ⟨l.toArray⟩
abbrev num(n:Int):Value:=.int .i64 n
def pW(l:List α):jg l 0=l.length:=by rw[iO,Nat.zero_add]
def ss(h : -2000000000<=r/\r<=2000000000):eQ .i64 r=r:=by unfold eQ;simp only;rw[ip h]
def oG{c:Nat}{j:Int}(h:0<=j)(a:j<=c):bD n c none (some (.int k j))=some (0,j.toNat):=by unfold bD;simp only;rw[ip ⟨h,a⟩]
def gL{c:Nat}{i:Int}(h:0<=i)(a:i<=n):bD n c (some (.int k i)) none=some (i.toNat,n):=by unfold bD;simp only;rw[ip ⟨h,a⟩]
section
variable {P:Program}{kt:TypeId->Bool}{pr:Prim}{c:fI}{a:TL}{s:AS}{Q:Exit->TL->AS->Prop}{K:TL->AS->Prop}{KT:List (TL × Value × AS)->Prop}{ops:Array Oper}{o:Oper}{rest:List Oper}{v:Value}{s1:AS}
theorem ej(b:eF o.op=false)(U:match o.op with|.load _ _|.store _ _ _|.slice _ _ _ _ _|.next _ _|.call _=>False|_=>True)(h:cj P a o=some v):bN P kt c a o s=some (v,s):=by unfold bN;grind
def xK{lo hi:Option Operand}(b:o.op=.slice t x lo hi none)(f:P.underlying t=some .string)(g:a.at x=str l)(d:bD l.length l.length (lo.map a.at) (hi.map a.at)=some (i,j)):bN P kt c a o s=some (str ((l.take j).drop i),s):=by
 have e:fX P t (a.at x) (lo.map a.at) (hi.map a.at) ((none:Option Operand).map a.at) s=some (str ((l.take j).drop i)):=by
  unfold fX;rw[f,g];show(match bD (jg l 0) (jg l 0) (lo.map a.at) (hi.map a.at) with
   | some (l',h)=>some (Value.string ⟨((l.take h).drop l').toArray⟩)
   | none=>none)=_;rw[pW,d]
 unfold bN;rw[iw (by rw[b];simp[eF]),b];simp only;rw[e]
theorem iP{z}{i j:Int}(U:o.op=.binOp .add t x y z)(e:a.at x=num i)(f:a.at y=num j)(b:i+j=r)(d : -2000000000<=r/\r<=2000000000):bN P kt c a o s=some (num r,s):=by refine ej (by rw[U];rfl) gq ?_;unfold cj;rw[U];simp only;rw[e,f];unfold dw;simp only[ip];rw[b,ss d]
theorem EC{z}{i j:Int}(U:o.op=.binOp .sub t x y z)(e:a.at x=num i)(f:a.at y=num j)(b:i-j=r)(d : -2000000000<=r/\r<=2000000000):bN P kt c a o s=some (num r,s):=by refine ej (by rw[U];rfl) gq ?_;unfold cj;rw[U];simp only;rw[e,f];unfold dw;simp only[ip];rw[b,ss d]
theorem EA{z}{m:Bq}(U:o.op=.binOp .add t x y z)(d:a.at x=str l)(e:a.at y=str m)(b:l.length+m.length<=1000000000):bN P kt c a o s=some (str (l++m),s):=by refine ej (by rw[U];rfl) gq ?_;unfold cj;rw[U];simp only;rw[d,e];unfold dw;simp only;rw[show jg l.toArray.toList 0=l.length from pW l,show jg m.toArray.toList 0=m.length from pW m,ip b]
theorem jW{i:Operand}{n:Int}{b:UInt8}(U:o.op=.index t x i)(f:P.underlying t=some .string)(g:a.at x=str l)(hi:a.at i=.int k n)(e:0<=n)(d:l[n.toNat]?=some b):bN P kt c a o s=some (.int .u8 b.toNat,s):=by refine ej (by rw[U];rfl) gq ?_;unfold cj;grind
theorem qf{e:TypeId}{i:Operand}{sp:Option Nat}{j:Int}(U:o.op=.indexAddr t x i)(g:P.underlying t=some (.slice e))(d:bP P e=some sz)(h:a.at x=.slice (some ⟨b,off,sp⟩) n cp)(hi:a.at i=.int k j)(f:0<=j)(h1:j<n):bN P kt c a o s=some (am b (off+j.toNat*sz),s):=by refine ej (by rw[U];rfl) gq ?_;unfold cj;grind
def bw{d:TypeDesc}(e:o.op=.load t x)(h:P.underlying t=some d)(f:d.isRow=false)(j:a.at x=am b off)(g:s.get b=some (.cells cs ty fz))(i:cs[off]?=some v):bN P kt c a o s=some (v,s):=by unfold bN;rw[iw (by rw[e];simp[eF]),e];simp only;unfold aB;rw[j];simp only[am,g,h,f,i,if_false,kj]
theorem gA{w:Value}(U:o.op=.store t x y)(f:a.at x=am b off)(g:a.at y=w)(d:w.cells=#[w])(j:w.oneCell'=true)(h:bP P t=some 1)(e:s.get b=some (.cells cs ty fz))(i:off+1<=cs.size):bN P kt c a o s=some (undef,s.set b (some (.cells (putAt cs off [w]) ty fz))):=by unfold bN;rw[iw (by rw[U];simp[eF]),U];simp only;unfold jr;rw[f,g];simp only[am,e,d];grind
def EO.fin(n:Nat)(h:V4 (cT P kt (bH P kt pr n) ops rest a s)=true)(k:K (oA (cT P kt (bH P kt pr n) ops rest a s)) (oS (cT P kt (bH P kt pr n) ops rest a s))):EO P kt pr ops rest a s K:=by
 generalize b:cT P kt (bH P kt pr n) ops rest a s=q at h k;obtain _|⟨a',s'⟩:=q
 .cases h
 .exact⟨n,a',s',b,k⟩
end
end Go.Proofs.YtgcaionclkbehaaGreatDoor
