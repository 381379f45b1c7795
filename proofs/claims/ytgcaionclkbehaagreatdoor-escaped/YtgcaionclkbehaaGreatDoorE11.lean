import Derived.Test.YtgcaionclkbehaaGreatDoorE10
set_option linter.all false
set_option maxHeartbeats 2000000
set_option maxRecDepth 100000
namespace Go.Proofs.YtgcaionclkbehaaGreatDoor
open Go.Conc Go.RowKit Go.Lib
variable {e g i id j m m0 t z:Nat}{ops:Array Oper}{o:Oper}{v':Value}{o' ob:Obj}{mk:Nq}
theorem rC{a b:ByteArray}(h:cJ a.data.toList b.data.toList=true):a=b:=by rw[vf] at h;exact nj (eq_of_beq h)
theorem pe{f:Value × Value→Bool}:∀(l m:Vq),l.length=m.length→(l.zip m).all f=true→(∀p,f p=true→p.1=p.2)→l=m
 | [],[],_,_,_=>rfl
 | x::l,y::m,U,h,hf=>by simp only[List.zip_cons_cons,List.all_cons,Bool.and_eq_true] at h;rw[show x=y from hf _ h.1,pe l m (by simpa using U) h.2 hf]
 | [],_::_,U,_,_=>by simp at U
 | _::_,[],U,_,_=>by simp at U
theorem ic:∀{n:Nat} {x y:Value},na n x y=true→x=y
 | 0,_,_,h=>by simp[na] at h
 | n+1,x,y,h=>by
  have U:∀p:Value × Value,na n p.1 p.2=true→p.1=p.2:=fun p hp=>ic hp;unfold na at h;split at h
  ·rw[eq_of_beq h]
  ·simp only[Bool.and_eq_true] at h; rw[eq_of_beq h.1,eq_of_beq h.2]
  ·rw[rC h]
  ·rw[eq_of_beq h]
  ·simp only[Bool.and_eq_true] at h; rw[eq_of_beq h.1.1,Nat.eq_of_beq_eq_true h.1.2,Nat.eq_of_beq_eq_true h.2]
  ·simp only[Bool.and_eq_true] at h;obtain⟨⟨⟨⟨h1,h2⟩,h3⟩,h4⟩,h5⟩:=h;rw[eq_of_beq h1,Array.toList_inj.1 (pe _ _ (Nat.eq_of_beq_eq_true h2) h4 U),Array.toList_inj.1 (pe _ _ (Nat.eq_of_beq_eq_true h3) h5 U)]
  ·simp only[Bool.and_eq_true] at h;rw[Array.toList_inj.1 (pe _ _ (Nat.eq_of_beq_eq_true h.1) h.2 U)]
  ·rfl
  ·rfl
  ·cases h
theorem xU{U:List Nat}:∀(l:List Edge) (m:Nat),(l.foldl (fun m e=>if Region.binds .any e then m ||| (1 <<< e.on ||| U.getD e.on 0) else m) m).testBit j=true →
  m.testBit j=true∨∃e∈l,Region.binds .any e=true∧(j=e.on∨(U.getD e.on 0).testBit j=true)
 | [],m,h=>.inl h
 | e::l,m,h=>by
  simp only[List.foldl_cons] at h;rcases xU l _ h with q|⟨e',a0,q⟩
  ·split at q
   ·next hb =>
    simp only[Nat.testBit_or,Bool.or_eq_true] at q;rcases q with q|q|q
    ·exact .inl q
    ·rw[Nat.one_shiftLeft,Nat.testBit_two_pow] at q;exact .inr ⟨e,by simp,hb,.inl (by simpa using(of_decide_eq_true q).symm)⟩
    ·exact .inr ⟨e,by simp,hb,.inr q⟩
   ·exact .inl q
  ·exact .inr ⟨e',by simp[a0],q⟩
theorem qi:∀(a0:List Oper) (U:List Nat),(eO a0 U).take U.length=U∧(eO a0 U).length=U.length+a0.length∧∀(m:Nat) (o:Oper),a0[m]?=some o→(eO a0 U)[U.length+m]?=some (xf ((eO a0 U).take (U.length+m)) o)
 | [],U=>⟨by simp[eO],by simp[eO],fun m o h=>by simp at h⟩
 | o::rest,U=>by
  obtain⟨h1,h2,h3⟩:=qi rest (U++[xf U o]);have e:eO (o::rest) U=eO rest (U++[xf U o]):=rfl;rw[e];have PM:(eO rest (U++[xf U o])).take U.length=U:=by have:=congrArg (List.take U.length) h1;rw[List.take_take] at this;simpa using this
  refine⟨PM,by rw[h2]; simp; omega,fun m o' hm=>?_⟩;cases m with
  | zero =>
   simp at hm;subst hm;rw[Nat.add_zero,PM]
   have:=congrArg (fun l=>l[U.length]?) h1;simp only[List.getElem?_take,List.length_append,List.length_singleton,Nat.lt_succ_self,if_true] at this;rw[this];simp
  | succ m =>have:=h3 m o' (by simpa using hm);simp only[List.length_append,List.length_singleton] at this;rw[show U.length+(m+1)=U.length+1+m by omega];exact this
def j1(ops:Array Oper)(i j:Nat):Prop:=((eO ops.toList []).getD i 0).testBit j=true
theorem rR(hb:fO ops=true)(ho:ops[i]?=some o)(h:j1 ops i j):∃e∈o.after,Region.binds .any e=true∧(j=e.on∨j1 ops e.on j):=by
 obtain⟨_,_,h3⟩:=qi ops.toList [];have hi:=h3 i o (by simpa using ho);simp only[List.length_nil,Nat.zero_add] at hi;unfold j1 at h;rw[List.getD_eq_getElem?_getD,hi,Option.getD_some] at h;rcases xU _ _ h with q|⟨e,he,q1,q2⟩
 ·simp at q
 ·have U:e∈o.after:=by simpa using he
  refine⟨e,U,q1,q2.imp id fun q=>?_⟩;have eH:=kz hb ho U q1;unfold j1;rw[List.getD_eq_getElem?_getD,List.getElem?_take,if_pos eH] at q;rw[List.getD_eq_getElem?_getD];exact q
theorem ol(U:fO ops=true):∀(i:Nat) {j:Nat},i<ops.size→j1 ops i j→j<i:=by
 intro i;induction i using Nat.strongRecOn with
 | _ i ih =>
  intro j hi h;have ho:ops[i]?=some ops[i]:=Array.getElem?_eq_getElem hi;obtain⟨e,he,h1,h2⟩:=rR U ho h;have eH:=kz U ho he h1;rcases h2 with rfl|h2
  ·exact eH
  ·have:=ih e.on eH (by omega) h2;omega
def jw(ops:Array Oper)(J:Nat→Bool):Prop:=∀i j,i<ops.size→J i=true→j1 ops i j→J j=true
theorem eM(hb:fO ops=true){J:Nat→Bool}(hc:jw ops J)(hi:i<ops.size)(hr:kr ops J i)(h:j1 ops i j):J j=true:=by
 have U:ops[i]?=some ops[i]:=Array.getElem?_eq_getElem hi;obtain⟨e,he,h1,h2⟩:=rR hb U h;have hJ:=hr _ U e he h1;rcases h2 with rfl|h2
 ·exact hJ
 ·exact hc e.on j (by have:=kz hb U he h1; omega) hJ h2
section
variable {P:Program}{kt:TypeId→Bool}{call:FuncId→Aq→AS→Option (Value × AS)}{ops:Array Oper}
def yY (tr:List (TL × Value × AS))(m:Nat):Value:=match tr[m]? with
 | some (_,v,_)=>v
 | none=>undef
def qQ (todo:List Oper)(tr:List (TL × Value × AS))(a:TL):Nat→TL
 | 0=>a
 | m+1=>(qQ todo tr a m).put ((todo[m]?).bind (·.dst)) (yY tr m)
theorem uK(o:Oper)(rest:List Oper)(tr:List (TL × Value × AS))(a U:TL)(v:Value)(s1:AS):∀m,qQ (o::rest) ((U,v,s1)::tr) a (m+1)=qQ rest tr (a.put o.dst v) m
 | 0=>rfl
 | m+1=>by have:=uK o rest tr a U v s1 m;rw[qQ,this,qQ];rfl
theorem qo(x:TL × Value × AS)(tr:List (TL × Value × AS))(s:AS):∀m,m≤tr.length→gI (x::tr) s (m+1)=gI tr x.2.2 m
 | 0,_=>rfl
 | m+1,h=>by have:tr[m]?=some tr[m]:=List.getElem?_eq_getElem (by omega);simp[gI,this]
def zC(P:Program)(kt:TypeId→Bool)(call:FuncId→Array Value→AS→Option (Value × AS))(ops:Array Oper)(o:Oper)(a:TL)(s:AS)(v:Value)(s':AS):Prop :=
 (Region.wanted o (bB ops a)=true∧bK P kt call a o s=some (v,s'))∨(Region.wanted o (bB ops a)=false∧v=undef∧s'=s)
theorem ud:∀(a0:List Oper) {a:TL} {s:AS} {tr:List (TL × Value × AS)},og P kt call ops a0 a s=some tr→tr.length=a0.length∧∀(m:Nat) (o:Oper),a0[m]?=some o →
  tr[m]?=some (qQ a0 tr a m,yY tr m,gI tr s (m+1))∧zC P kt call ops o (qQ a0 tr a m) (gI tr s m) (yY tr m) (gI tr s (m+1))
 | [],a,s,tr,h=>by simp[og] at h; subst h; exact⟨rfl,fun m o h=>by simp at h⟩
 | o::rest,a,s,tr,h=>by
  have key:∀v s1 U,(Region.wanted o (bB ops a)=true∧bK P kt call a o s=some (v,s1))∨(Region.wanted o (bB ops a)=false∧v=undef∧s1=s)→og P kt call ops rest (a.put o.dst v) s1=some U→tr=(a,v,s1)::U →
    tr.length=(o::rest).length∧∀(m:Nat) (o':Oper),(o::rest)[m]?=some o'→tr[m]?=some (qQ (o::rest) tr a m,yY tr m,gI tr s (m+1))∧zC P kt call ops o' (qQ (o::rest) tr a m) (gI tr s m) (yY tr m) (gI tr s (m+1)):=by
   rintro v s1 U a4 a2 rfl;obtain⟨h1,h2⟩:=ud rest a2;refine⟨by simp[h1],fun m o' EA=>?_⟩;cases m with
   | zero =>simp at EA;subst EA;exact⟨rfl,a4⟩
   | succ m =>
    have a3:rest[m]?=some o':=by simpa using EA
    have hm:m<U.length:=by rw[h1]; exact(List.getElem?_eq_some_iff.1 a3).1
    obtain⟨q1,q2⟩:=h2 m o' a3;have e1:=uK o rest U a a v s1 m;have e2:=qo (a,v,s1) U s m (by omega);have e3:=qo (a,v,s1) U s (m+1) (by omega);have e4:yY ((a,v,s1)::U) (m+1)=yY U m:=rfl;rw[e1,e2,e3,e4];exact⟨by simpa using q1,q2⟩
  unfold og at h;split at h
  ·next hw =>
   split at h
   ·next v s1 hv =>
    split at h
    ·next U a2=>cases h; exact key v s1 U (.inl ⟨hw,hv⟩) a2 rfl
    ·cases h
   ·cases h
  ·next hw =>
   split at h
   ·next U a2=>cases h; exact key undef s U (.inr ⟨by simpa using hw,rfl,rfl⟩) a2 rfl
   ·cases h
end
structure il(P:Program)(kt:TypeId→Bool)(call:FuncId→Array Value→AS→Option (Value × AS))(ops:Array Oper)(q:Nat)(aA:TL)(s:AS)(sl:Nat→TL)(vl:Nat→Value)(hp:Nat→AS):Prop where
 back:fO ops=true
 le:q≤ops.size
 s0:sl 0=aA
 h0:hp 0=s
 XE:∀m o,ops[m]?=some o→sl (m+1)=(sl m).put o.dst (vl m)
 step:∀m o,ops[m]?=some o→zC P kt call ops o (sl m) (hp m) (vl m) (hp (m+1))
 last:∀i j,q≤i→i<ops.size→j<i→j1 ops i j
 data:∀i o t j o',i<q→ops[i]?=some o→.tmp t∈o.op.operands→j<q→ops[j]?=some o'→o'.dst=some t→j1 ops i j
 guard:∀i o j b,i<q→ops[i]?=some o→o.guard=some (j,b)→j1 ops i j∧j<q
 once:∀i j o o' t,i<q→j<q→ops[i]?=some o→ops[j]?=some o'→o.dst=some t→o'.dst=some t→i=j
 chain:∀i j o o',i<q→ops[i]?=some o→kindOf P o=3→j<i→ops[j]?=some o'→2≤kindOf P o'→j1 ops i j
 Q6:∀r o t x,r<q→ops[r]?=some o→o.op=.load t x→Region.wanted o (bB ops (sl r))=true→∀p,(p=0∨∃e o',p=e+1∧e<q∧ops[e]?=some o'∧kindOf P o'=3) →
  (∀e o',e<q→ops[e]?=some o'→kindOf P o'=3→(e<p→¬j1 ops e r)∧(p≤e→¬j1 ops r e))→aE P t ((sl r).at x) (hp p)=some (vl r)
section
variable {P:Program}{kt:TypeId→Bool}{call:FuncId→Aq→AS→Option (Value × AS)}{ops:Array Oper}{q:Nat}{aA iF:TL}{s s':AS}{sl:Nat→TL}{vl:Nq}{hp:Nat→AS}
theorem lR(U:List Nat):∀n,iq U n≤n
 | 0=>Nat.le_refl _
 | n+1=>by
  unfold iq;split
  ·exact Nat.le_trans (lR U n) (by omega)
  ·exact Nat.le_refl _
theorem dW{n:Nat}{f:Nat→Bool}(h:(List.range n).all f=true)(U:i<n):f i=true:=by rw[List.all_eq_true] at h;exact h i (List.mem_range.2 U)
theorem xi(h:jM P kt call ops aA s=some (iF,s')):∃q sl vl hp,il P kt call ops q aA s sl vl hp∧sl ops.size=iF∧hp ops.size=s':=by
 unfold jM at h;simp only at h;split at h
 ·cases h
 ·next hn =>
  simp only[not_or,Bool.not_eq_false] at hn;obtain⟨a2,a3⟩:=hn;split at h
  ·next tr a6 =>
   split at h
   ·cases h
   ·next hl =>
    simp only[Bool.not_eq_false] at hl;obtain⟨t1,t2⟩:=ud _ a6;have kH:ops.toList.length=ops.size:=by simp
    refine⟨iq (eO ops.toList []) ops.toList.length,qQ ops.toList tr aA,yY tr,gI tr s,?_,?_⟩
    ·unfold AP at a3;simp only[Bool.and_eq_true] at a3;obtain⟨⟨k1,k2⟩,k3⟩:=a3;have hgo:∀{i:Nat} {o:Oper},ops[i]?=some o→ops.toList[i]?=some o:=fun ho=>by simpa using ho
     refine⟨a2,by rw[← kH]; exact lR _ _,rfl,rfl,fun m o ho=>?_,fun m o ho=>(t2 m o (hgo ho)).2,fun i j hi hn hj=>?_,fun i o t j o' hi ho ht hj U hd=>?_,fun i o j b hi ho hg=>?_,fun i j o o' t hi hj ho U hd Om=>?_,fun i j o o' hi ho hk hj U kG=>?_,fun r o t x hr ho eI hw p hp hE=>?_⟩
     ·have hg:ops.toList[m]?=some o:=hgo ho;simp only[qQ,hg,Option.bind_some]
     ·have:=dW k1 (i:=i) (by omega);simp only[Bool.or_eq_true,decide_eq_true_eq] at this;rcases this with z|z
      ·omega
      ·exact dW z hj
     ·have:=dW k2 hi;rw[hgo ho] at this;simp only[Bool.and_eq_true] at this;have h1:=this.1.1;rw[List.all_eq_true] at h1;have h2:=h1 t (by simp only[tmpsOf,List.mem_filterMap]; exact⟨.tmp t,by simpa using ht,rfl⟩);have h3:=dW h2 hj;rw[hgo U] at h3;simp only[Option.bind_some,hd,bne_self_eq_false,Bool.false_or] at h3;exact h3
     ·have:=dW k2 hi;rw[hgo ho] at this;simp only[Bool.and_eq_true] at this;have h1:=this.1.2;rw[hg] at h1;simp only[Bool.and_eq_true,decide_eq_true_eq] at h1;exact h1
     ·have:=dW k2 hi;rw[hgo ho] at this;simp only[Bool.and_eq_true] at this;have h1:=dW this.2 hj;rw[hgo U] at h1;simp only[Option.bind_some,hd,Om,bne_self_eq_false,Bool.or_false,Bool.or_eq_true,beq_iff_eq,reduceCtorEq,or_false] at h1;exact h1
     ·have:=dW k3 hi;have e1:(ops.toList.map (kindOf P)).getD i 0=3:=by rw[List.getD_eq_getElem?_getD,List.getElem?_map,hgo ho]; exact hk
      simp only[e1,bne_self_eq_false,Bool.false_or] at this;have h1:=dW this hj;have e2:(ops.toList.map (kindOf P)).getD j 0=kindOf P o':=by rw[List.getD_eq_getElem?_getD,List.getElem?_map,hgo U]; rfl
      rw[e2] at h1;have e3:(kindOf P o').blt 2=false:=by
       rw[Bool.eq_false_iff];intro hb
       have:=Eq.mp Nat.blt_eq hb;omega
      rw[e3,Bool.false_or] at h1;exact h1
     ·unfold oF at hl;simp only at hl;have h1:=dW hl hr;rw[hgo ho,(t2 r o (hgo ho)).1] at h1;simp only[eI] at h1;rw[List.all_eq_true] at h1;have pL:p∈0::(((List.range (iq (eO ops.toList []) ops.toList.length)).filter fun i=>(match ops.toList[i]? with|some o=>kindOf P o|none=>0)==3).map (·+1)):=by
       rcases hp with rfl|⟨e,o',rfl,he,U,hk⟩
       ·simp
       ·refine List.mem_cons_of_mem _ (List.mem_map.2 ⟨e,List.mem_filter.2 ⟨List.mem_range.2 he,?_⟩,rfl⟩);rw[hgo U];simp[hk]
      have h2:=h1 p pL;simp only[Bool.or_eq_true,hw,Bool.not_true,Bool.false_eq_true,or_false] at h2;rcases h2 with z|z
      ·rw[List.any_eq_true] at z;obtain⟨e,he,z⟩:=z;obtain⟨U8,P6⟩:=List.mem_filter.1 he;have U8:=List.mem_range.1 U8;obtain⟨o',U⟩:∃o',ops[e]?=some o':=⟨_,Array.getElem?_eq_getElem (by have:=lR (eO ops.toList []) ops.toList.length; omega)⟩;rw[hgo U] at P6;have hk:kindOf P o'=3:=by simpa using P6
       obtain⟨z1,z2⟩:=hE e o' U8 U hk;simp only[Bool.or_eq_true,Bool.and_eq_true,Bool.not_eq_true'] at z;rcases z with ⟨za,zb⟩|⟨za,zb⟩
       ·exact absurd zb (z1 (Eq.mp Nat.blt_eq za))
       ·refine absurd zb (z2 ?_);apply Classical.byContradiction;intro a8;rw[Eq.mpr Nat.blt_eq (by omega)] at za;cases za
      ·split at z
       ·next v' a7=>rw[a7,ic z]
       ·cases z
    ·split at h
     ·next a1 v1 s1 aa o1 oo a4 a0 =>
      cases h;have a9:0<ops.size:=by have:=congrArg List.length a0;simp at this;omega
      obtain⟨m,hm⟩:∃m,ops.size=m+1:=⟨ops.size-1,by omega⟩;have Yp:ops.toList[m]?=some o1:=by have:=congrArg (fun l=>l[0]?) a0;simp only[List.getElem?_cons_zero] at this;rw[List.getElem?_reverse (by simp; omega)] at this;rw[← this];congr 1;simp;omega
      have a5:tr[m]?=some (a1,v1,s'):=by have:=congrArg (fun l=>l[0]?) a4;simp only[List.getElem?_cons_zero] at this;rw[List.getElem?_reverse (by rw[t1]; simp; omega)] at this;rw[← this];congr 1;rw[t1];simp;omega
      obtain⟨u1,u2⟩:=t2 m o1 Yp;rw[a5] at u1;simp only[Option.some.injEq,Prod.mk.injEq] at u1;obtain⟨u3,u4,u5⟩:=u1;rw[hm];refine⟨?_,u5.symm⟩;simp only[qQ,Yp,Option.bind_some,← u3,← u4]
     ·cases h
  ·cases h
end
section
variable {P:Program}{kt:TypeId→Bool}{call:FuncId→Aq→AS→Option (Value × AS)}{ops:Array Oper}{q:Nat}{aA iF:TL}{s s':AS}{sl:Nat→TL}{vl:Nq}{hp:Nat→AS}{J J':Nat→Bool}{S:bC}{a:Act}
def wR(ops:Array Oper)(q:Nat)(aA:TL)(vl:Nat→Value)(J:Nat→Bool)(t:Nat)(x:Value):Prop :=
 (∃m o,m<q∧ops[m]?=some o∧o.dst=some t∧J m=true∧x=vl m)∨((∀m o,m<q→ops[m]?=some o→o.dst=some t→J m=false)∧x=aA.getD t undef)
theorem oc{x:Value}(h:wR ops q aA vl J t x)(hJ:∀m o,m<q→ops[m]?=some o→o.dst=some t→J m=J' m):wR ops q aA vl J' t x:=by
 rcases h with ⟨m,o,h1,h2,h3,h4,h5⟩|⟨h1,h2⟩
 ·exact .inl ⟨m,o,h1,h2,h3,by rw[← hJ m o h1 h2 h3]; exact h4,h5⟩
 ·exact .inr ⟨fun m o a1 U a3=>by rw[← hJ m o a1 U a3]; exact h1 m o a1 U a3,h2⟩
theorem sv(d:il P kt call ops q aA s sl vl hp):∀m,m≤ops.size→(sl m).length=aA.length
 | 0,_=>by rw[d.s0]
 | m+1,h=>by
  have U:ops[m]?=some (ops[m]'(by omega)):=Array.getElem?_eq_getElem (by omega);rw[d.XE m _ U]
  have:=sv d m (by omega);cases hd:(ops[m]'(by omega)).dst with
  | none=>exact this
  | some t=>show(yo (sl m) t (vl m)).length=_; rw[oB,List.length_set]; exact this
theorem FB(d:il P kt call ops q aA s sl vl hp)(ht:t<aA.length):∀m,m≤q→wR ops q aA vl (fun k=>decide (k<m)) t ((sl m).getD t undef)
 | 0,_=>.inr ⟨fun m o _ _ _=>by simp,by rw[d.s0]⟩
 | m+1,h=>by
  have hm:m<ops.size:=by have:=d.le; omega
  have ho:ops[m]?=some ops[m]:=Array.getElem?_eq_getElem hm;have ih:=FB d ht m (by omega);have jc:=sv d m (by omega);rw[d.XE m _ ho];by_cases hd:(ops[m]).dst=some t
  ·refine .inl ⟨m,_,by omega,ho,hd,by simp,?_⟩;rw[hd];show(yo (sl m) t (vl m)).getD t undef=_;rw[oB,List.getD_eq_getElem?_getD,List.getElem?_set];simp[jc,ht]
  ·have e:((sl m).put (ops[m]).dst (vl m)).getD t undef=(sl m).getD t undef:=by
    cases a0:(ops[m]).dst with
    | none=>rfl
    | some u =>show(yo (sl m) u (vl m)).getD t undef=_;rw[oB,List.getD_eq_getElem?_getD,List.getElem?_set,if_neg (by rintro rfl; exact hd a0),← List.getD_eq_getElem?_getD]
   rw[e];refine oc ih fun k o hk U a2=>?_;by_cases e2:k=m
   ·subst e2; rw[ho] at U; cases U; exact absurd a2 hd
   ·rw[Bool.eq_iff_iff]; simp; omega
def tI(ops:Array Oper)(q:Nat)(aA:TL)(vl:Nat→Value)(J:Nat→Bool)(S:bC)(a:Act):Prop :=
 a.tmps.size=aA.length∧a.defers=[]∧∀t x,t<aA.length→wR ops q aA vl J t x→VR S x (a.tmps.getD t undef)
theorem sx(d:il P kt call ops q aA s sl vl hp)(U:tI ops q aA vl J S a)(hm:m≤q)(hJ:∀j o,j<q→ops[j]?=some o→o.dst=some t→(J j=true↔j<m)):VR S ((sl m).getD t undef) (a.tmps.getD t undef):=by
 by_cases ht:t<aA.length
 ·refine U.2.2 t _ ht (oc (FB d ht m hm) fun j o h1 h2 h3=>?_);rw[Bool.eq_iff_iff];simp[hJ j o h1 h2 h3]
 ·have h1:(sl m)[t]?=none:=List.getElem?_eq_none (by rw[sv d m (by have:=d.le; omega)]; omega);have h2:a.tmps[t]?=none:=Array.getElem?_eq_none (by rw[U.1]; omega);rw[List.getD_eq_getElem?_getD,h1,Array.getD_eq_getD_getElem?,h2];exact VR.undef
theorem FD(d:il P kt call ops q aA s sl vl hp)(U:j8 ops=true)(hA:tI ops q aA vl J S a)(hc:jw ops J)(hm:m<q)(ho:ops[m]?=some o)(hr:kr ops J m):eg S (sl m) a o:=by
 intro x hx;have Ou:m<ops.size:=by have:=d.le; omega
 have a0:yx x=true:=by
  unfold j8 at U;rw[List.all_eq_true] at U
  have:=U o (by have:=Array.mem_of_getElem? ho; simpa using this);rw[List.all_eq_true] at this;exact this x (by simpa using hx)
 cases x with
 | tmp t =>refine sx d hA (by omega) fun j o' hj a2 hd=>?_;have hh:=d.data m o t j o' hm ho hx hj a2 hd;exact⟨fun _=>ol d.back m Ou hh,fun _=>eM d.back hc Ou hr hh⟩
 | const v=>exact VR.dr a0
 | global g=>simp[yx] at a0
 | func f=>exact VR.yw AR.nil AR.nil
theorem Fg{x:Vq}{y:Aq}(hl:x.length=y.size)(h:VR S (x.getD t undef) (y.getD t undef))(b:Bool):x[t]?=some (.bool b)↔y[t]?=some (.bool b):=by
 by_cases U:t<y.size
 ·have h1:x[t]?=some (x[t]'(by omega)):=List.getElem?_eq_getElem _;have h2:y[t]?=some y[t]:=Array.getElem?_eq_getElem U;rw[List.getD_eq_getElem?_getD,h1,Array.getD_eq_getD_getElem?,h2,Option.getD_some,Option.getD_some] at h;rw[h1,h2];constructor
  ·intro e;simp only[Option.some.injEq] at e ⊢;rw[e] at h;exact h.sc rfl
  ·intro e;simp only[Option.some.injEq] at e ⊢;rw[e] at h;exact h.w9
 ·rw[List.getElem?_eq_none (by omega),Array.getElem?_eq_none (by omega)]
theorem xh(d:il P kt call ops q aA s sl vl hp)(hA:tI ops q aA vl J S a)(hc:jw ops J)(hm:m<q)(ho:ops[m]?=some o)(hr:kr ops J m):Region.wanted o (yielded ops a.tmps)=Region.wanted o (bB ops (sl m)):=by
 have U:m<ops.size:=by have:=d.le; omega
 unfold Region.wanted;split
 ·rfl
 ·next j a0 hg =>
  obtain⟨hh,a3⟩:=d.guard m o j a0 hm ho hg;rw[o9 (aA:=sl m) fun t ht b=>?_];have jc:(sl m).length=a.tmps.size:=by rw[sv d m (by omega),hA.1]
  refine Fg (S:=S) jc (sx d hA (by omega) fun j' o' a2 a4 hd=>?_) b;obtain⟨oj,Yr⟩:∃oj,ops[j]?=some oj:=⟨_,Array.getElem?_eq_getElem (by have:=ol d.back m U hh; omega)⟩;rw[Yr] at ht
  have:=d.once j' j o' oj t a2 a3 a4 Yr hd (by simpa using ht);subst this;exact⟨fun _=>ol d.back m U hh,fun _=>eM d.back hc U hr hh⟩
theorem p5(d:il P kt call ops q aA s sl vl hp)(U:tI ops q aA vl J S a){S':bC}(hS:S.le S')(hm:m<q)(ho:ops[m]?=some o)(hJ:J m=false)(hv:VR S' (vl m) v'):tI ops q aA vl (fun k=>if k=m then true else J k) S' (a.put o.dst v'):=by
 refine⟨?_,?_,fun t x ht hx=>?_⟩
 ·cases hd:o.dst<;>simp[Act.put,U.1]
 ·cases hd:o.dst<;>exact U.2.1
 ·by_cases hd:o.dst=some t
  ·have a2:x=vl m:=by
    rcases hx with ⟨k,ok,h1,h2,h3,h4,h5⟩|⟨h1,h2⟩
    ·have:=d.once k m ok o t h1 hm h2 ho h3 hd;subst this;exact h5
    ·have:=h1 m o hm ho hd;simp at this
   subst a2;rw[hd];show VR S' (vl m) ((a.tmps.setIfInBounds t v').getD t undef);rw[Array.getD_eq_getD_getElem?,Array.getElem?_setIfInBounds];simp only[if_true];rw[if_pos (by rw[U.1]; exact ht)];exact hv
  ·have a0:wR ops q aA vl J t x:=oc hx fun k ok h1 h2 h3=>by
    by_cases e:k=m
    ·subst e; rw[ho] at h2; cases h2; exact absurd h3 hd
    ·simp[e]
   have:=(U.2.2 t x ht a0).mono hS;cases U6:o.dst with
   | none=>exact this
   | some u =>show VR S' x ((a.tmps.setIfInBounds u v').getD t undef);rw[Array.getD_eq_getD_getElem?,Array.getElem?_setIfInBounds,if_neg (by rintro rfl; exact hd U6),← Array.getD_eq_getD_getElem?];exact this
theorem qk{a:TL}{s1 a2:AS}{v:Value}(U:kindOf P o=0)(h:bK P kt call a o s1=some (v,a2)):a2=s1∧∀s2,bK P kt call a o s2=some (v,s2):=by
 unfold kindOf at U;split at U
 ·cases U
 ·next hn =>
  unfold bK at h ⊢;rw[if_neg hn] at h;cases a0:o.op<;>simp only[a0] at U h ⊢<;>first
   | (cases U; done)
   | skip
  case slice t x lo hi mx =>
   split at U
   ·next hu =>
    have e:∀s2,fP P t (a.at x) (lo.map a.at) (hi.map a.at) (mx.map a.at) s2=fP P t (a.at x) (lo.map a.at) (hi.map a.at) (mx.map a.at) s1:=fun s2=>by unfold fP;simp only[hu];cases a.at x<;>cases Option.map a.at mx<;>rfl
    split at h
    ·next v' hv =>cases h;refine⟨rfl,fun s2=>?_⟩;rw[a0] at hn;rw[if_neg hn,e s2,hv]
    ·cases h
   ·cases U
  case call c =>
   rw[a0] at hn;cases hc:c.callee with
   | value f=>rw[hc] at U; simp at U
   | invoke r n=>rw[hc] at U; simp at U
   | builtin b =>
    rw[hc] at h U;simp only at h U;split at h
    ·next v' hv=>cases h; exact⟨rfl,fun s2=>by first|(rw[if_neg hn]; done)|(rw[if_neg hn]; simp only[hv])⟩
    ·next hv =>
     exfalso;unfold eB at h;split at h;iterate 4
      ·simp at U
     ·cases h
  case convert t u x =>
   rw[a0] at hn;have e:∀s2,fq P t u (a.at x) s2=none:=fun s2=>by
    unfold fq;split;iterate 2
     ·next a3 a4 _=>simp[a3,a4] at U
    ·rfl
   split at h
   ·next v' hv=>cases h; exact⟨rfl,fun s2=>by first|(rw[if_neg hn]; done)|(rw[if_neg hn]; simp only[hv])⟩
   ·rw[e] at h; cases h
  all_goals
   rw[a0] at hn
   split at h
   ·next v' hv=>cases h; exact⟨rfl,fun s2=>by first|(rw[if_neg hn]; done)|(rw[if_neg hn]; simp only[hv])⟩
   ·cases h
end
theorem tv{α β:Type}{f:α→β}{l:List α}(h:(l.map f).Nodup){x y:α}(U:x∈l)(hy:y∈l)(e:f x=f y):x=y:=by
 induction l with
 | nil=>simp at U
 | cons z l ih =>
  rw[List.map_cons,List.nodup_cons] at h;rcases List.mem_cons.1 U with h1|h1<;>rcases List.mem_cons.1 hy with h2|h2
  ·rw[h1,h2]
  ·exact absurd (List.mem_map.2 ⟨y,h2,by rw[← e,h1]⟩) h.1
  ·exact absurd (List.mem_map.2 ⟨x,h1,by rw[e,h2]⟩) h.1
  ·exact ih h.2 h1 h2
section
variable {P:Program}{KT:TypeId→Prop}{An:bC}{S:bC}{s:AS}{l l':Hq}
theorem eK.more(h:eK P KT An S s l)(hl:∀x∈l,x∈l'):eK P KT An S s l':=⟨fun b o U=>by obtain⟨g,z,e,o',h1,h2,h3⟩:=h.live b o U;exact⟨g,z,e,o',h1,hl _ h2,h3⟩,h.inj,h.lt,h.an⟩
theorem eK.Pc(h:eK P KT An S s l)(hn:S s.nx=some (g,z,e))(hg:(g,o')∈l)(ho:OR S z ob o')(ht:∀cs t fz,ob=.cells cs t fz→bI P t=some e∧¬KT t)(hd:∀b o x,s.get b=some o→S b=some x→x.1≠g):eK P KT An S (s.add ob) l where
 live b Nc hb:=by
  rw[AS.aH] at hb
  split at hb
  ·
   next U=>subst U; cases hb; exact⟨g,z,e,o',hn,hg,ho,ht⟩
  ·
   exact h.live b Nc hb
 inj b b' o1 o2 x x' hb jA hx jB he:=by
  rw[AS.aH] at hb jA
  split at hb<;>split at jA
  ·
   omega
  ·
   next e1 e2=>subst e1; rw[hn] at hx; cases hx; exact absurd he.symm (hd b' o2 x' jA jB)
  ·
   next e1 e2=>subst e2; rw[hn] at jB; cases jB; exact absurd he (hd b o1 x hb hx)
  ·
   exact h.inj b b' o1 o2 x x' hb jA hx jB he
 lt b Nc hb:=by
  rw[AS.aH] at hb
  split at hb
  ·
   next U=>simp[U]
  ·
   have:=h.lt b Nc hb; simp; omega
 an:=h.an
end
section
variable {ι:Type}{P:Program}{KT:TypeId→Prop}{An:bC}{N0:ι→Nat}{M:ι→World→Nat→Prop}{O:ι→Nat→Prop}{R:ι→Wq}{D:ι→World→World→Array Event→Prop}{X:ι→Gq}{Hd:ι→Hq→World→Prop}
variable {kt:TypeId→Bool}{call:FuncId→Aq→AS→Option (Value × AS)}{ops:Array Oper}{q:Nat}{aA iF:TL}{s s':AS}{sl:Nat→TL}{vl:Nq}{hp:Nat→AS}{J J':Nat→Bool}{S0 S S1:bC}{a a1:Act}{fr l l1:Hq}{i i1:ι}{w w1:World}{p m:Nat}{B:Nat→Nat × Obj}{As:List Nat}{o:Oper}
def lq(P:Program)(kt:TypeId→Bool)(ops:Array Oper)(sl:Nat→TL)(vl:Nat→Value)(hp:Nat→AS)(m:Nat)(ob:Obj)(mk:Nat→Value):Prop :=
 ∃o,ops[m]?=some o∧kindOf P o=2∧Region.wanted o (bB ops (sl m))=true∧ub P kt (sl m) o=some (ob,mk)∧hp (m+1)=(hp m).add ob∧vl m=mk (hp m).nx
structure wF(P:Program)(KT:TypeId→Prop)(An:bC)(Hd:ι→List (Nat × Obj)→World→Prop)(kt:TypeId→Bool)(ops:Array Oper)(q:Nat)(aA:TL)(s:AS)(sl:Nat→TL)(vl:Nat→Value)(hp:Nat→AS)(S0:bC)(fr:List (Nat × Obj))(J:Nat→Bool)(i:ι)(a:Act)(w:World)(p:Nat)(S:bC)(l:List (Nat × Obj))(B:Nat→Nat × Obj)(As:List Nat):Prop where
 pq:p≤q
 Er:∀m o,m<q→ops[m]?=some o→kindOf P o=3→(J m=true↔m<p)
 OA:p=0∨∃e o',p=e+1∧e<q∧ops[e]?=some o'∧kindOf P o'=3
 low:∀m ob mk,m<p→lq P kt ops sl vl hp m ob mk→J m=true
 nd:As.Nodup
 mem:∀m,m∈As↔(m<q∧p≤m∧J m=true∧∃ob mk,lq P kt ops sl vl hp m ob mk)
 tB:eK P KT An S (hp p) l
 hd:Hd i (l++(As.map B++fr)) w
 yJ:∀m∈As,∃ob mk z e,lq P kt ops sl vl hp m ob mk∧S (hp m).nx=some ((B m).1,z,e)∧OR S z ob (B m).2∧∀cs t fz,ob=.cells cs t fz→bI P t=some e∧¬KT t
 fresh:∀b,(hp p).nx≤b→b<(hp ops.size).nx→S b≠none→∃m∈As,b=(hp m).nx
 le:S0.le S
 out:∀b,b<s.nx∨(hp ops.size).nx≤b→S b=S0 b
 kj:tI ops q aA vl J S a
theorem BR(U:∀f args s v s',call f args s=some (v,s')→s.nx≤s'.nx)(d:il P kt call ops q aA s sl vl hp)(hm:m<ops.size):(hp m).nx≤(hp (m+1)).nx:=by
 have ho:ops[m]?=some ops[m]:=Array.getElem?_eq_getElem hm;rcases d.step m _ ho with ⟨_,h⟩|⟨_,_,h⟩
 ·exact qW U h
 ·rw[h]; exact Nat.le_refl _
theorem dk(U:∀f args s v s',call f args s=some (v,s')→s.nx≤s'.nx)(d:il P kt call ops q aA s sl vl hp):∀{m'},m≤m'→m'≤ops.size→(hp m).nx≤(hp m').nx
 | 0,h,_=>by rw[Nat.le_zero.1 h]; exact Nat.le_refl _
 | m'+1,h,h'=>by
  by_cases e:m=m'+1
  ·rw[e]; exact Nat.le_refl _
  ·exact Nat.le_trans (dk U d (m':=m') (by omega) (by omega)) (BR U d (by omega))
theorem lq.nx(h:lq P kt ops sl vl hp m ob mk):(hp (m+1)).nx=(hp m).nx+1:=by obtain⟨o,_,_,_,_,h,_⟩:=h;rw[h];rfl
theorem uq(d:il P kt call ops q aA s sl vl hp)(ho:ops[m]?=some o)(hk:kindOf P o≠3):(∃ob mk,lq P kt ops sl vl hp m ob mk)∨((¬∃ob mk,lq P kt ops sl vl hp m ob mk)∧hp (m+1)=hp m):=by
 rcases d.step m o ho with ⟨hw,h⟩|⟨hw,hv,h⟩
 ·by_cases h2:eV o.op=true
  ·have a4:kindOf P o=2:=by unfold kindOf; rw[if_pos h2]
   have h':=h;unfold bK at h';rw[if_pos h2] at h';split at h'
   ·next ob mk hn =>simp only[Option.some.injEq,Prod.mk.injEq] at h';exact .inl ⟨ob,mk,o,ho,a4,hw,hn,h'.2.symm,h'.1.symm⟩
   ·cases h'
  ·right;refine⟨?_,?_⟩
   ·rintro⟨ob,mk,o',a0,_,_,hn,_⟩;rw[ho] at a0;cases a0;unfold ub at hn;cases U:o.op<;>simp only[U] at hn h2<;>first|(cases hn; done)|(simp[eV] at h2)
   ·by_cases hl:∃t x,o.op=.load t x
    ·obtain⟨t,x,U⟩:=hl;unfold bK at h;rw[if_neg h2,U] at h;simp only at h;split at h
     ·simp only[Option.some.injEq,Prod.mk.injEq] at h; exact h.2.symm
     ·cases h
    ·have a3:kindOf P o=0:=by
      unfold kindOf at hk ⊢;rw[if_neg h2] at hk ⊢;cases U:o.op<;>simp only[U] at hk ⊢<;>first|rfl|(exact absurd rfl hk)|skip
      case load t x=>exact absurd ⟨t,x,U⟩ hl
      case slice t x lo hi mx=>split at hk<;>first|rfl|exact absurd rfl hk
      case call c=>split at hk<;>first|rfl|exact absurd rfl hk
      case convert t u x=>split at hk<;>first|rfl|exact absurd rfl hk
     exact(qk a3 h).1
 ·right;refine⟨?_,h⟩;rintro⟨ob,mk,o',a0,_,a2,_⟩;rw[ho] at a0;cases a0;rw[hw] at a2;cases a2
theorem wF.merge(Y:Cy P KT N0 M O R D X Hd)(d:il P kt call ops q aA s sl vl hp)(h:wF P KT An Hd kt ops q aA s sl vl hp S0 fr J i a w p S l B As)(h0:m0≤q)(hE:∀m o,p≤m→m<m0→ops[m]?=some o→kindOf P o≠3)(a6:∀m,p≤m→m<m0→(∃ob mk,lq P kt ops sl vl hp m ob mk)→m∈As) :
  ∀m,p≤m→m≤m0→eK P KT An S (hp m) (l++(As.filter (·<m0)).map B)∧∀b o,(hp m).get b=some o→(∃o',(hp p).get b=some o')∨∃m'∈As,m'<m∧b=(hp m').nx:=by
 have a4:=(Y.Z h.hd).nodup h.hd;rw[List.map_append,List.map_append,List.nodup_append,List.nodup_append] at a4;obtain⟨Vy,⟨H8,_,_⟩,hn3⟩:=a4;rw[List.map_map] at H8;intro m;induction m with
 | zero =>
  intro h1 _;have:p=0:=by omega
  subst this;exact⟨h.tB.more fun x hx=>List.mem_append_left _ hx,fun b o hb=>.inl ⟨o,hb⟩⟩
 | succ m ih =>
  intro h1 h2;by_cases e:p=m+1
  ·subst e;exact⟨h.tB.more fun x hx=>List.mem_append_left _ hx,fun b o hb=>.inl ⟨o,hb⟩⟩
  ·obtain⟨i1,i2⟩:=ih (by omega) (by omega);have Ou:m<ops.size:=by have:=d.le; omega
   have ho:ops[m]?=some ops[m]:=Array.getElem?_eq_getElem Ou;rcases uq d ho (hE m _ (by omega) (by omega) ho) with hA|⟨_,hA⟩
   ·have a0:=a6 m (by omega) (by omega) hA;obtain⟨ob,mk,z,e',q1,q2,q3,q4⟩:=h.yJ m a0;obtain⟨o1,_,_,_,_,q5,_⟩:=q1;rw[q5];refine⟨i1.Pc q2 (List.mem_append_right _ (List.mem_map.2 ⟨m,List.mem_filter.2 ⟨a0,by simp; omega⟩,rfl⟩)) q3 q4 fun b a2 x hb hx=>?_,fun b a2 hb=>?_⟩
    ·intro a5;rcases i2 b a2 hb with ⟨o',jA⟩|⟨m',U,a3,rfl⟩
     ·obtain⟨g,zz,ee,oo,r1,r2,_⟩:=h.tB.live b o' jA;rw[r1] at hx;cases hx;exact hn3 g (List.mem_map.2 ⟨_,r2,rfl⟩) (B m).1 (List.mem_append_left _ (List.mem_map.2 ⟨B m,List.mem_map.2 ⟨m,a0,rfl⟩,rfl⟩)) a5
     ·obtain⟨_,_,z',e2,_,r2,_⟩:=h.yJ m' U;rw[r2] at hx;cases hx
      have:=tv H8 U a0 a5;omega
    ·rw[AS.aH] at hb;split at hb
     ·next e3=>exact .inr ⟨m,a0,by omega,e3⟩
     ·rcases i2 b a2 hb with z1|⟨m',U,a3,e4⟩
      ·exact .inl z1
      ·exact .inr ⟨m',U,by omega,e4⟩
   ·rw[hA];refine⟨i1,fun b a2 hb=>?_⟩;rcases i2 b a2 hb with z1|⟨m',U,a3,e4⟩
    ·exact .inl z1
    ·exact .inr ⟨m',U,by omega,e4⟩
end
section
variable {ι:Type}{P:Program}{KT:TypeId→Prop}{An:bC}{N0:ι→Nat}{M:ι→World→Nat→Prop}{O:ι→Nat→Prop}{R:ι→Wq}{D:ι→World→World→Array Event→Prop}{X:ι→Gq}{Hd:ι→Hq→World→Prop}
variable {kt:TypeId→Bool}{call:FuncId→Aq→AS→Option (Value × AS)}{ops:Array Oper}{q:Nat}{aA iF:TL}{s s':AS}{sl:Nat→TL}{vl:Nq}{hp:Nat→AS}{J J':Nat→Bool}{S0 S S1:bC}{a a1:Act}{fr l l1:Hq}{i i1:ι}{w w1:World}{p m:Nat}{B:Nat→Nat × Obj}{As:List Nat}{o:Oper}{fn:FuncId}{Q:dK ι}{rest:List Nat}
theorem Dx(h2:¬eV o.op=true)(hl:¬∃t x,o.op=.load t x)(U:kindOf P o≠3):kindOf P o=0:=by
 unfold kindOf at U ⊢;rw[if_neg h2] at U ⊢;cases a0:o.op<;>simp only[a0] at U ⊢<;>first|rfl|(exact absurd rfl U)|skip
 case load t x=>exact absurd ⟨t,x,a0⟩ hl
 case slice t x lo hi mx=>split at U<;>first|rfl|exact absurd rfl U
 case call c=>split at U<;>first|rfl|exact absurd rfl U
 case convert t u x=>split at U<;>first|rfl|exact absurd rfl U
abbrev eU(J:Nat→Bool)(m:Nat):Nat→Bool:=fun k=>if k=m then true else J k
theorem wF.Q7(h:wF P KT An Hd kt ops q aA s sl vl hp S0 fr J i a w p S l B As)(hJ:J m=false)(U:∃ob mk,lq P kt ops sl vl hp m ob mk):p≤m:=by apply Classical.byContradiction;intro hn;obtain⟨ob,mk,U⟩:=U;rw[h.low m ob mk (by omega) U] at hJ;cases hJ
theorem wF.same(d:il P kt call ops q aA s sl vl hp)(h:wF P KT An Hd kt ops q aA s sl vl hp S0 fr J i a w p S l B As)(hm:m<q)(ho:ops[m]?=some o)(hJ:J m=false)(hk:kindOf P o≠3)(hA:¬∃ob mk,lq P kt ops sl vl hp m ob mk)(U:S.le S1)(P7:∀b,S1 b=S b)(hv:VR S1 (vl m) v')(a0:eK P KT An S1 (hp p) l1)(hF:Hd i1 (l1++(As.map B++fr)) w1) :
  wF P KT An Hd kt ops q aA s sl vl hp S0 fr (eU J m) i1 (a.put o.dst v') w1 p S1 l1 B As where
 pq:=h.pq
 Er m' o' h1 h2 h3:=by
  by_cases e:m'=m
  ·
   subst e; rw[ho] at h2; cases h2; exact absurd h3 hk
  ·
   simp only[eU,if_neg e]; exact h.Er m' o' h1 h2 h3
 OA:=h.OA
 low m' ob mk h1 h2:=by
  by_cases e:m'=m
  ·
   simp[eU,e]
  ·
   simp only[eU,if_neg e]; exact h.low m' ob mk h1 h2
 nd:=h.nd
 mem m':=by
  rw[h.mem]
  by_cases e:m'=m
  ·
   subst e; exact⟨fun z=>absurd z.2.2.2 hA,fun z=>absurd z.2.2.2 hA⟩
  ·
   simp only[eU,if_neg e]
 tB:=a0
 hd:=hF
 yJ m' Jk:=by
  obtain⟨ob,mk,z,e,q1,q2,q3,q4⟩:=h.yJ m' Jk
  exact⟨ob,mk,z,e,q1,U _ _ q2,q3.mono U,q4⟩
 fresh b h1 h2 h3:=h.fresh b h1 h2 (by rw[← P7]; exact h3)
 le:=bC.le_trans h.le U
 out b hb:=by rw[P7]; exact h.out b hb
 kj:=p5 d h.kj U hm ho hJ hv
theorem wF.new(hc:∀f args s v s',call f args s=some (v,s')→s.nx≤s'.nx)(Y:Cy P KT N0 M O R D X Hd)(d:il P kt call ops q aA s sl vl hp)(h:wF P KT An Hd kt ops q aA s sl vl hp S0 fr J i a w p S l B As)(hm:m<q)(ho:ops[m]?=some o)(hJ:J m=false)(hA:lq P kt ops sl vl hp m ob mk)(ae:∀b,s.nx≤b→b<(hp ops.size).nx→S0 b=none)
 (hF:Hd i1 ((g,o')::(l++(As.map B++fr))) w1)(hr:∀S' nm,S.le S'→S' nm=some (g,z,e)→OR S' z ob o'∧VR S' (mk nm) v')(ht:∀cs t fz,ob=.cells cs t fz→bI P t=some e∧¬KT t) :
  S (hp m).nx=none∧wF P KT An Hd kt ops q aA s sl vl hp S0 fr (eU J m) i1 (a.put o.dst v') w1 p (S.put (hp m).nx (g,z,e)) l (fun k=>if k=m then (g,o') else B k) (m::As):=by
 have a5:=h.Q7 hJ ⟨ob,mk,hA⟩;have BN:m<ops.size:=by have:=d.le; omega
 have a3:m∉As:=fun z=>by rw[((h.mem m).1 z).2.2.1] at hJ; cases hJ
 have aa:s.nx≤(hp m).nx:=by rw[← d.h0]; exact dk hc d (Nat.zero_le _) (by omega)
 have a6:(hp m).nx<(hp ops.size).nx:=by have h1:=hA.nx;have h2:=dk hc d (m:=m+1) (m':=ops.size) (by omega) (Nat.le_refl _);omega
 have a2:S (hp m).nx=none:=by
  apply Classical.byContradiction;intro hn;obtain⟨m',a0,e'⟩:=h.fresh _ (dk hc d a5 (by omega)) a6 hn;obtain⟨q1,q2,q3,zm,mk',Et⟩:=(h.mem m').1 a0;have a4:m'≠m:=fun z=>a3 (z▸a0);have n1:=hA.nx;have n2:=Et.nx;by_cases eH:m'<m
  ·have:=dk hc d (m:=m'+1) (m':=m) (by omega) (by omega); omega
  ·have:=dk hc d (m:=m+1) (m':=m') (by omega) (by have:=d.le; omega); omega
 have U:S.le (S.put (hp m).nx (g,z,e)):=bC.jP a2;have UA:As.map (fun k=>if k=m then (g,o') else B k)=As.map B:=by refine List.map_congr_left fun k hk=>?_;rw[if_neg (fun e2=>a3 (by rw[← e2]; exact hk))]
 obtain⟨a7,a9⟩:=hr _ (hp m).nx U bC.iv;have Dh:kindOf P o=2:=by obtain⟨o1,q1,q2,_⟩:=hA;rw[ho] at q1;cases q1;exact q2
 have a8:vl m=mk (hp m).nx:=by obtain⟨_,_,_,_,_,_,q⟩:=hA; exact q
 refine⟨a2,h.pq,fun m' o1 h1 h2 h3=>?_,h.OA,fun m' Nc Xc h1 h2=>?_,List.nodup_cons.2 ⟨a3,h.nd⟩,fun m'=>?_,⟨fun b o1 hb=>?_,fun b b' o1 o2 x x' hb jA hx jB he=>?_,h.tB.lt,bC.le_trans h.tB.an U⟩,?_,fun m' a0=>?_,fun b h1 h2 h3=>?_,bC.le_trans h.le U,fun b hb=>?_,p5 d h.kj U hm ho hJ (by rw[a8]; exact a9)⟩
 ·by_cases e1:m'=m
  ·subst e1; rw[ho] at h2; cases h2; omega
  ·simp only[eU,if_neg e1]; exact h.Er m' o1 h1 h2 h3
 ·by_cases e1:m'=m
  ·simp[eU,e1]
  ·simp only[eU,if_neg e1]; exact h.low m' Nc Xc h1 h2
 ·by_cases e1:m'=m
  ·subst e1;exact⟨fun _=>⟨hm,a5,by simp[eU],ob,mk,hA⟩,fun _=>List.mem_cons_self ..⟩
  ·simp only[eU,if_neg e1,List.mem_cons,e1,false_or]; exact h.mem m'
 ·obtain⟨g1,z1,e1,o2,r1,r2,r3,r4⟩:=h.tB.live b o1 hb;exact⟨g1,z1,e1,o2,U _ _ r1,r2,r3.mono U,r4⟩
 ·obtain⟨g1,z1,e1,o3,r1,_⟩:=h.tB.live b o1 hb;obtain⟨g2,z2,e2,o4,r2,_⟩:=h.tB.live b' o2 jA;rw[U _ _ r1] at hx;rw[U _ _ r2] at jB;cases hx;cases jB;exact h.tB.inj b b' o1 o2 _ _ hb jA r1 r2 he
 ·rw[List.map_cons,UA];simp only[if_true];refine(Y.Z hF).perm hF ?_;exact List.perm_middle
 ·rcases List.mem_cons.1 a0 with rfl|a0
  ·refine⟨ob,mk,z,e,hA,?_,?_,ht⟩
   ·rw[if_pos rfl]; exact bC.iv
   ·rw[if_pos rfl]; exact a7
  ·have a4:m'≠m:=fun z=>a3 (z▸a0);obtain⟨Nc,Xc,z1,e1,q1,q2,q3,q4⟩:=h.yJ m' a0;rw[if_neg a4];exact⟨Nc,Xc,z1,e1,q1,U _ _ q2,q3.mono U,q4⟩
 ·by_cases e1:b=(hp m).nx
  ·exact⟨m,List.mem_cons_self ..,e1⟩
  ·have:S b≠none:=by intro hn;apply h3;unfold bC.put;rw[if_neg e1];exact hn
   obtain⟨m',a0,e2⟩:=h.fresh b h1 h2 this;exact⟨m',List.mem_cons_of_mem _ a0,e2⟩
 ·unfold bC.put;rw[if_neg (by omega)];exact h.out b hb
theorem wF.LN(Y:Cy P KT N0 M O R D X Hd)(d:il P kt call ops q aA s sl vl hp)(h:wF P KT An Hd kt ops q aA s sl vl hp S0 fr J i a w p S l B As)(a2:jw ops J)(hm:m<q)(ho:ops[m]?=some o)(hJ:J m=false)(hk:kindOf P o=3)(a4:kr ops J m) :
  p≤m∧eK P KT An S (hp m) (l++(As.filter (·<m)).map B)∧Hd i ((l++(As.filter (·<m)).map B)++((As.filter (fun k=>!decide (k<m))).map B++fr)) w:=by
 have a3:m<ops.size:=by have:=d.le; omega
 have a0:p≤m:=by apply Classical.byContradiction;intro hn;rw[(h.Er m o hm ho hk).2 (by omega)] at hJ;cases hJ
 have U:∀m' o',m'<m→ops[m']?=some o'→2≤kindOf P o'→J m'=true:=fun m' o' h1 h2 h3=>eM d.back a2 a3 a4 (d.chain m m' o o' hm ho hk h1 h2 h3);refine⟨a0,(h.merge Y d (m0:=m) (by omega) (fun m' o' h1 h2 h3 h4=>?_) (fun m' h1 h2 h3=>?_) m a0 (Nat.le_refl _)).1,(Y.Z h.hd).perm h.hd ?_⟩
 ·have:=(h.Er m' o' (by omega) h3 h4).1 (U m' o' h2 h3 (by omega));omega
 ·obtain⟨ob,mk,hA⟩:=h3;have Et:=hA;obtain⟨o',q1,q2,_⟩:=Et;exact(h.mem m').2 ⟨by omega,h1,U m' o' h2 q1 (by omega),ob,mk,hA⟩
 ·rw[List.append_assoc,← List.append_assoc ((As.filter (·<m)).map B)];refine List.Perm.append_left _ (List.Perm.append_right _ ?_);rw[← List.map_append];exact(List.filter_append_perm _ _).map B
theorem wF.Pq(hc:∀f args s v s',call f args s=some (v,s')→s.nx≤s'.nx)(d:il P kt call ops q aA s sl vl hp)(h:wF P KT An Hd kt ops q aA s sl vl hp S0 fr J i a w p S l B As)(a3:jw ops J)(hm:m<q)(ho:ops[m]?=some o)(hJ:J m=false)(hk:kindOf P o=3)(a4:kr ops J m)(a9:p≤m)
 (a0:S.le S1)(P7:∀b,b<(hp m).nx∨(hp (m+1)).nx≤b→S1 b=S b)(hv:VR S1 (vl m) v')(a5:eK P KT An S1 (hp (m+1)) l1)(hF:Hd i1 (l1++((As.filter (fun k=>!decide (k<m))).map B++fr)) w1) :
  wF P KT An Hd kt ops q aA s sl vl hp S0 fr (eU J m) i1 (a.put o.dst v') w1 (m+1) S1 l1 B (As.filter (fun k=>!decide (k<m))) where
 pq:=by omega
 Er m' o' h1 h2 h3:=by
  have U:m<ops.size:=by have:=d.le; omega
  by_cases e:m'=m
  ·
   subst e; simp[eU]
  ·
   simp only[eU,if_neg e]
   rw[h.Er m' o' h1 h2 h3]
   constructor
   ·
    intro; omega
   ·
    intro a7
    exact(h.Er m' o' h1 h2 h3).1 (eM d.back a3 U a4 (d.chain m m' o o' hm ho hk (by omega) h2 (by omega)))
 OA:=.inr ⟨m,o,rfl,hm,ho,hk⟩
 low m' ob mk h1 h2:=by
  have U:m<ops.size:=by have:=d.le; omega
  by_cases e:m'=m
  ·
   simp[eU,e]
  ·
   simp only[eU,if_neg e]
   obtain⟨o',q1,q2,_⟩:=h2
   exact eM d.back a3 U a4 (d.chain m m' o o' hm ho hk (by omega) q1 (by omega))
 nd:=h.nd.filter _
 mem m':=by
  rw[List.mem_filter,h.mem]
  by_cases e:m'=m
  ·
   subst e
   refine⟨fun z=>?_,fun z=>by omega⟩
   obtain⟨⟨_,_,z,_⟩,_⟩:=z
   rw[hJ] at z
   cases z
  ·
   simp only[eU,if_neg e,Bool.not_eq_true',decide_eq_false_iff_not]
   constructor
   ·
    rintro⟨⟨z1,z2,z3,z4⟩,z5⟩; exact⟨z1,by omega,z3,z4⟩
   ·
    rintro⟨z1,z2,z3,z4⟩; exact⟨⟨z1,by omega,z3,z4⟩,by omega⟩
 tB:=a5
 hd:=hF
 yJ m' a2:=by
  obtain⟨ob,mk,z,e,q1,q2,q3,q4⟩:=h.yJ m' (List.mem_filter.1 a2).1
  exact⟨ob,mk,z,e,q1,a0 _ _ q2,q3.mono a0,q4⟩
 fresh b h1 h2 h3:=by
  have U:m<ops.size:=by have:=d.le; omega
  have a6:S b≠none:=by rw[← P7 b (.inr h1)]; exact h3
  have a8:=dk hc d (m:=p) (m':=m+1) (by omega) (by omega)
  obtain⟨m',a2,e⟩:=h.fresh b (by omega) h2 a6
  refine⟨m',List.mem_filter.2 ⟨a2,?_⟩,e⟩
  simp only[Bool.not_eq_true',decide_eq_false_iff_not]
  intro a7
  obtain⟨_,_,_,ob,mk,hA⟩:=(h.mem m').1 a2
  have n1:=hA.nx
  have:=dk hc d (m:=m'+1) (m':=m+1) (by omega) (by omega)
  omega
 le:=bC.le_trans h.le a0
 out b hb:=by
  have U:m<ops.size:=by have:=d.le; omega
  rw[P7 b,h.out b hb]
  rcases hb with hb|hb
  ·
   left
   have:=dk hc d (m:=0) (m':=m) (Nat.zero_le _) (by omega)
   rw[d.h0] at this
   omega
  ·
   right
   have:=dk hc d (m:=m+1) (m':=ops.size) (by omega) (Nat.le_refl _)
   omega
 kj:=p5 d h.kj a0 hm ho hJ hv
theorem C5(U:∀f args s v s',call f args s=some (v,s')→s.nx≤s'.nx)(h:jM P kt call ops aA s=some (iF,s')):s.nx≤s'.nx:=by
 obtain⟨q,sl,vl,hp,d,_,rfl⟩:=xi h
 have:=dk U d (m:=0) (m':=ops.size) (Nat.zero_le _) (Nat.le_refl _);rw[d.h0] at this;exact this
def Can (P:Program)(KT:TypeId→Prop)(An:bC)(Hd:ι→List (Nat × Obj)→World→Prop)(s:AS)(sl:Nat→TL)(hp:Nat→AS)(S0:bC)(fr:List (Nat × Obj))(m:Nat)(i:ι)(a:Act)(w:World):Prop :=
 ∃S l,S0.le S∧(∀b,b<s.nx∨(hp m).nx≤b→S b=S0 b)∧eK P KT An S (hp m) l∧Hd i (l++fr) w∧AR (VR S) (sl m).toArray a.tmps∧a.defers=[]
theorem wF.all(hc:∀f args s v s',call f args s=some (v,s')→s.nx≤s'.nx)(Y:Cy P KT N0 M O R D X Hd)(d:il P kt call ops q aA s sl vl hp)(h:wF P KT An Hd kt ops q aA s sl vl hp S0 fr J i a w p S l B As)(hJ:∀m,m<q→J m=true)(a0:∀b,s.nx≤b→b<(hp ops.size).nx→S0 b=none):Can P KT An Hd s sl hp S0 fr q i a w:=by
 have a2:∀m∈As,m<q:=fun m U=>((h.mem m).1 U).1;have Ve:As.filter (·<q)=As:=List.filter_eq_self.2 fun m U=>by simp[a2 m U]
 have U:=(h.merge Y d (m0:=q) (Nat.le_refl _) (fun m o h1 h2 h3 h4=>?_) (fun m h1 h2 h3=>(h.mem m).2 ⟨h2,h1,hJ m h2,h3⟩) q h.pq (Nat.le_refl _)).1
 ·rw[Ve] at U;refine⟨S,l++As.map B,h.le,fun b hb=>?_,U,by rw[List.append_assoc]; exact h.hd,⟨?_,fun t x y hx hy=>?_⟩,h.kj.2.1⟩
  ·rcases hb with hb|hb
   ·exact h.out b (.inl hb)
   ·by_cases hn:(hp ops.size).nx≤b
    ·exact h.out b (.inr hn)
    ·have a4:S0 b=none:=by
      refine a0 b ?_ (by omega)
      have:=dk hc d (m:=0) (m':=q) (Nat.zero_le _) d.le;rw[d.h0] at this;omega
     rw[a4];apply Classical.byContradiction;intro a3;have hmo:=dk hc d (m:=p) (m':=q) h.pq d.le;obtain⟨m',Jk,e⟩:=h.fresh b (by omega) (by omega) a3;obtain⟨q1,_,_,ob,mk,hA⟩:=(h.mem m').1 Jk;have n1:=hA.nx
     have:=dk hc d (m:=m'+1) (m':=q) (by omega) d.le;omega
  ·rw[List.size_toArray,sv d q d.le,h.kj.1]
  ·have a5:(sl q)[t]?=some x:=by simpa using hx
   have:=sx d h.kj (m:=q) (t:=t) (Nat.le_refl _) fun j o hj _ _=>⟨fun _=>hj,fun _=>hJ j hj⟩;rw[List.getD_eq_getElem?_getD,a5,Array.getD_eq_getD_getElem?,hy] at this;exact this
 ·have:=(h.Er m o (by omega) h3 h4).1 (hJ m (by omega));omega
theorem xd(d:il P kt call ops q aA s sl vl hp)(a0:jw ops J)(hm:m<ops.size)(a2:kr ops J m):jw ops (eU J m):=by
 intro x y hx U hh;by_cases ey:y=m
 ·simp[eU,ey]
 ·simp only[eU,if_neg ey];by_cases ex:x=m
  ·subst ex; exact eM d.back a0 hm a2 hh
  ·simp only[eU,if_neg ex] at U; exact a0 x y hx U hh
theorem zS(Y:Cy P KT N0 M O R D X Hd)(b3:P.follows .mixedOrders=true)(ag:∀t,kt t=false→¬KT t)(a6:∀f args s v s',call f args s=some (v,s')→Sound P KT An R D X Hd f args s v s')(hc:∀f args s v s',call f args s=some (v,s')→s.nx≤s'.nx)(ah:j8 ops=true)
 (h:jM P kt call ops aA s=some (iF,s'))(hS:eK P KT An S0 s l)(hF:Hd i (l++fr) w)(hA:AR (VR S0) aA.toArray a.tmps)(hd:a.defers=[])(ae:∀b,s.nx≤b→b<s'.nx→S0 b=none)
 (K:Lx P KT An Hd S0 s s' fr iF (fun i' a' w'=>Q i' .normal a' w')):fx X fn (.region id ops true) i Q a w:=by
 obtain⟨q,sl,vl,hp,d,rfl,rfl⟩:=xi h;refine lg Y.C (Y.Z hF).env.BD b3 rfl d.back (fun J i' a' w'=>jw ops J∧((∃m,q≤m∧m≤ops.size∧(∀k,k<ops.size→(J k=true↔k<m))∧Can P KT An Hd s sl hp S0 fr m i' a' w')∨((∀k,q≤k→k<ops.size→J k=false)∧∃p S l B As,wF P KT An Hd kt ops q aA s sl vl hp S0 fr J i' a' w' p S l B As))) (fun aB hR=>?_) ?_ ?_ ?_
 ·refine⟨fun x y _ hx=>(by cases hx),.inr ⟨fun k _ _=>rfl,0,S0,l,fun _=>(0,.pending #[] 0),[],Nat.zero_le _,fun m o _ _ _=>by simp,.inl rfl,fun m ob mk hm=>by omega,by simp,fun m=>by simp,by rw[d.h0]; exact hS,?_,fun m hm=>by simp at hm,fun b h1 h2 h3=>?_,bC.le_refl S0,fun b hb=>rfl,by rw[← hA.1]; simp,hd,fun t x ht hx=>?_⟩⟩
  ·have aj:=(Y.Z hF).rely hF hR;exact(Y.Z hF).rely aj ((Y.Z hF).env.tR _)
  ·rw[d.h0] at h1;exact absurd (ae b h1 h2) h3
  ·rcases hx with ⟨m,o,_,_,_,hJ,_⟩|⟨_,rfl⟩
   ·cases hJ
   ·exact lJ hA t
 ·rintro J J' i' a' w' hJ ⟨U,hI⟩;refine⟨fun x y hx hJx hh=>?_,?_⟩
  ·have b5:=ol d.back x hx hh;rw[← hJ y (by omega)];exact U x y hx (by rw[hJ x hx]; exact hJx) hh
  ·rcases hI with ⟨m,h1,h2,h3,h4⟩|⟨h1,p,S,l,B,As,h2⟩
   ·exact .inl ⟨m,h1,h2,fun k hk=>by rw[← hJ k hk]; exact h3 k hk,h4⟩
   ·have hq:∀k,k<q→J k=J' k:=fun k hk=>hJ k (by have:=d.le; omega);refine .inr ⟨fun k hk kG=>by rw[← hJ k kG]; exact h1 k hk kG,p,S,l,B,As,h2.pq,fun m o hm ho hk=>by rw[← hq m hm]; exact h2.Er m o hm ho hk,h2.OA,fun m ob mk hm hA=>?_,h2.nd,fun m=>?_,h2.tB,h2.hd,h2.yJ,h2.fresh,h2.le,h2.out,h2.kj.1,h2.kj.2.1,fun t x ht hx=>h2.kj.2.2 t x ht (oc hx fun m o hm _ _=>(hq m hm).symm)⟩
    ·rw[← hq m (by have:=h2.pq; omega)]; exact h2.low m ob mk hm hA
    ·rw[h2.mem];constructor
     ·rintro⟨z1,z2⟩; exact⟨z1,by rw[← hq m z1]; exact z2⟩
     ·rintro⟨z1,z2⟩; exact⟨z1,by rw[hq m z1]; exact z2⟩
 ·rintro J m i' a' w' ⟨U,hI⟩ hm hJ a4 rest hK;have ho:ops[m]?=some ops[m]:=Array.getElem?_eq_getElem hm;have F5:=xd d U hm a4;by_cases La:m<q
  ·
   rcases hI with ⟨m',h1,h2,h3,h4⟩|⟨h1,p,S,l,B,As,h2⟩
   ·rw[(h3 m hm).2 (by omega)] at hJ; cases hJ
   have a0:∀k,q≤k→k<ops.size→eU J m k=false:=fun k hk kG=>by simp only[eU,if_neg (show k≠m by omega)]; exact h1 k hk kG
   have a3:=FD d ah h2.kj U La ho a4;have a5:=xh d h2.kj U La ho a4;have hpn:p≤ops.size:=by have:=d.le; have:=h2.pq; omega
   by_cases a9:kindOf P ops[m]=3
   ·obtain⟨ao,ai,aq⟩:=h2.LN Y d U La ho hJ a9 a4;rcases d.step m _ ho with ⟨hw,ju⟩|⟨hw,hv,hh⟩
    ·refine lV Y ag a6 ho (by rw[a5]; exact hw) a3 ai aq ju (fun b b1 b2=>?_) ?_
     ·apply Classical.byContradiction;intro hn;have m1:=dk hc d (m:=p) (m':=m) ao (by omega);have m2:=dk hc d (m:=m+1) (m':=ops.size) (by omega) (Nat.le_refl _);obtain⟨m',Jk,e⟩:=h2.fresh b (by omega) (by omega) hn;obtain⟨q1,q2,q3,ob,mk,af⟩:=(h2.mem m').1 Jk;have n1:=af.nx;by_cases eH:m'<m
      ·have:=dk hc d (m:=m'+1) (m':=m) (by omega) (by omega); omega
      ·have av:m'≠m:=fun z=>by rw[z] at q3; rw[hJ] at q3; cases q3
       have:=dk hc d (m:=m+1) (m':=m') (by omega) (by have:=d.le; omega); omega
     ·intro i1 S1 l1 w1 v1 r1 r2 r3 r4 r5;exact hK i1 _ w1 ⟨F5,.inr ⟨a0,m+1,S1,l1,B,_,h2.Pq hc d U La ho hJ a9 a4 ao r1 r2 r5 r3 r4⟩⟩
    ·refine gg Y.C Y.T ho (by rw[a5]; exact hw) ?_;refine hK i' _ w' ⟨F5,.inr ⟨a0,m+1,S,_,B,_,h2.Pq hc d U La ho hJ a9 a4 ao (bC.le_refl S) (fun _ _=>rfl) (by rw[hv]; exact VR.undef) (by rw[hh]; exact ai) aq⟩⟩
   ·rcases uq d ho a9 with ⟨ob,mk,af⟩|⟨au,hh⟩
    ·have ay:=af;obtain⟨o1,q1,q2,q3,q4,q5,q6⟩:=ay;rw[ho] at q1;cases q1;refine GD Y ag ho (by rw[a5]; exact q3) a3 h2.hd q4 fun g z e o' w1 v1 aj hr ht=>?_;exact hK i' _ w1 ⟨F5,.inr ⟨a0,p,_,l,_,_,(h2.new hc Y d La ho hJ af ae aj hr ht).2⟩⟩
    ·have a7:∀i1 S1 l1 w1 v1,S.le S1→(∀b,b<(hp p).nx∨(hp p).nx≤b→S1 b=S b)→eK P KT An S1 (hp p) l1→Hd i1 (l1++(As.map B++fr)) w1→VR S1 (vl m) v1→bU X fn ops rest i1 Q (a'.put (ops[m]).dst v1) w1:=fun i1 S1 l1 w1 v1 r1 r2 r3 r4 r5 =>hK i1 _ w1 ⟨F5,.inr ⟨a0,p,S1,l1,B,As,h2.same d La ho hJ a9 au r1 (fun b=>r2 b (by omega)) r5 r3 r4⟩⟩;rcases d.step m _ ho with ⟨hw,ju⟩|⟨hw,hv,_⟩
     ·have ax:Region.wanted ops[m] (yielded ops a'.tmps)=true:=by rw[a5]; exact hw
      by_cases hl:∃t x,(ops[m]).op=.load t x
      ·obtain⟨t,x,aw⟩:=hl;have Qm:=d.Q6 m _ t x La ho aw hw p h2.OA fun e o' he EA kG=>⟨fun eH Vl=>?_,fun hge Vl=>?_⟩
       ·exact Cp Y ho ax aw a3 h2.tB h2.hd Qm a7
       ·
        have ak:=(h2.Er e o' he EA kG).2 eH
        have:=U e m (by have:=d.le; omega) ak Vl;rw[hJ] at this;cases this
       ·have ak:=eM d.back U hm a4 Vl
        have:=(h2.Er e o' he EA kG).1 ak;omega
      ·have az:kindOf P ops[m]=0:=by
        have hn:¬eV (ops[m]).op=true:=by
         intro hn;apply au;have a2:=ju;unfold bK at a2;rw[if_pos hn] at a2;split at a2
         ·next ob mk hq =>simp only[Option.some.injEq,Prod.mk.injEq] at a2;exact⟨ob,mk,_,ho,by unfold kindOf; rw[if_pos hn],hw,hq,a2.2.symm,a2.1.symm⟩
         ·cases a2
        exact Dx hn hl a9
       have ar:=(qk az ju).2 (hp p);exact lV Y ag a6 ho ax a3 h2.tB h2.hd ar (fun b b1 b2=>by omega) a7
     ·refine gg Y.C Y.T ho (by rw[a5]; exact hw) ?_;exact a7 i' S l w' undef (bC.le_refl S) (fun _ _=>rfl) h2.tB h2.hd (by rw[hv]; exact VR.undef)
  ·
   have a8:∀k,k<m→J k=true:=fun k hk=>eM d.back U hm a4 (d.last m k (by omega) hm hk);have Mj:∀k,m<k→k<ops.size→J k=false:=fun k hk kG=>by
    cases hb:J k with
    | false=>rfl
    | true =>have:=U k m kG hb (d.last k m (by omega) kG hk);rw[hJ] at this;cases this
   have aa:Can P KT An Hd s sl hp S0 fr m i' a' w':=by
    rcases hI with ⟨m',h1,h2,h3,h4⟩|⟨h1,p,S,l,B,As,h2⟩
    ·have:m'=m:=by
      have h5:¬m<m':=fun z=>by rw[(h3 m hm).2 z] at hJ; cases hJ
      have h6:¬m'<m:=fun z=>by have:=(h3 m' (by omega)).1 (a8 m' z); omega
      omega
     rw[← this];exact h4
    ·have:m=q:=by
      have h5:¬q<m:=fun z=>by have:=h1 q (Nat.le_refl _) (by omega); rw[a8 q z] at this; cases this
      omega
     rw[this];exact h2.all hc Y d (fun k hk=>a8 k (by omega)) ae
   obtain⟨S,l,c1,c2,c3,c4,c5,c6⟩:=aa;have a3:eg S (sl m) a' ops[m]:=fun x hx=>zJ c5 (by
    unfold j8 at ah;rw[List.all_eq_true] at ah
    have:=ah ops[m] (by have:=Array.mem_of_getElem? ho; simpa using this);rw[List.all_eq_true] at this;exact this x (by simpa using hx));have Dg:∀i1 S1 l1 w1 v1,S.le S1→(∀b,b<(hp m).nx∨(hp (m+1)).nx≤b→S1 b=S b)→eK P KT An S1 (hp (m+1)) l1→Hd i1 (l1++fr) w1→VR S1 (vl m) v1→bU X fn ops rest i1 Q (a'.put (ops[m]).dst v1) w1:=by
    intro i1 S1 l1 w1 v1 r1 r2 r3 r4 r5;refine hK i1 _ w1 ⟨F5,.inl ⟨m+1,by omega,by omega,fun k hk=>?_,S1,l1,bC.le_trans c1 r1,fun b hb=>?_,r3,r4,?_,?_⟩⟩
    ·by_cases e:k=m
     ·simp[eU,e]
     ·simp only[eU,if_neg e];constructor
      ·intro al;apply Classical.byContradiction;intro hn;rw[Mj k (by omega) hk] at al;cases al
      ·intro al; exact a8 k (by omega)
    ·have b4:=BR hc d hm;have Ez:=dk hc d (m:=0) (m':=m) (Nat.zero_le _) (by omega);rw[d.h0] at Ez;rw[r2 b (by omega),c2 b (by omega)]
    ·rw[d.XE m _ ho];exact rk (c5.mono r1) r5 _
    ·cases (ops[m]).dst<;>exact c6
   have a5:=kV c5 ops ops[m];rcases d.step m _ ho with ⟨hw,ju⟩|⟨hw,hv,hh⟩
   ·refine lV Y ag a6 ho (by rw[a5]; exact hw) a3 c3 c4 ju (fun b b1 b2=>?_) Dg;rw[c2 b (.inr b1)];have Ez:=dk hc d (m:=0) (m':=m) (Nat.zero_le _) (by omega);have MD:=dk hc d (m:=m+1) (m':=ops.size) (by omega) (Nat.le_refl _);rw[d.h0] at Ez;exact ae b (by omega) (by omega)
   ·refine gg Y.C Y.T ho (by rw[a5]; exact hw) ?_;exact Dg i' S l w' undef (bC.le_refl S) (fun _ _=>rfl) (by rw[hh]; exact c3) c4 (by rw[hv]; exact VR.undef)
 ·rintro J i' a' w' hJ ⟨U,hI⟩;have aa:Can P KT An Hd s sl hp S0 fr ops.size i' a' w':=by
   rcases hI with ⟨m',h1,h2,h3,h4⟩|⟨h1,p,S,l,B,As,h2⟩
   ·have:m'=ops.size:=by
     apply Classical.byContradiction;intro av
     have:=(h3 m' (by omega)).1 (hJ m' (by omega));omega
    rw[← this];exact h4
   ·have:q=ops.size:=by
     apply Classical.byContradiction;intro av
     have:=d.le
     have:=h1 q (Nat.le_refl _) (by omega);rw[hJ q (by omega)] at this;cases this
    have hh:=h2.all hc Y d (fun k hk=>hJ k (by omega)) ae;rw[this] at hh;exact hh
  obtain⟨S,l,c1,c2,c3,c4,c5,c6⟩:=aa;exact aS Y.C Y.T (K i' S l w' a' c1 c2 c3 c4 c5 c6)
end
end Go.Proofs.YtgcaionclkbehaaGreatDoor
