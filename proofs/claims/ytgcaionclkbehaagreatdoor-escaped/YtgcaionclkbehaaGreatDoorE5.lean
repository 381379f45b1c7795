import Derived.Test.YtgcaionclkbehaaGreatDoorE2
set_option linter.all false
set_option maxHeartbeats 2000000
set_option maxRecDepth 100000
namespace Go.Proofs.YtgcaionclkbehaaGreatDoor
open Go.Conc Go.RowKit Go.Lib
variable {b c' d e g len n n' off pos z:Nat}{op:BinOp}{x x' y y':Value}{t:TypeId}{p:Addr}{c cs gU:Aq}{place:Nat→Option (Nat × Nat)}{ps Ij:List (Nat × Value)}{o' ED ob zm:Obj}
section
variable {α β:Type}{P:Program}
@[simp] theorem lH (x:α):fT P (Pure.pure x:Sem α)=some x:=rfl
@[simp] theorem Oc (x:α):fT P (.pure x:Sem α)=some x:=rfl
theorem uc(t:Sem α)(k:α→Sem β):fT P (t.bind k)=(fT P t).bind fun a=>fT P (k a):=by
 induction t with
 | pure a=>rfl
 | program f U=>simp only[Sem.bind,fT]; exact U P
 | _=>rfl
@[simp] theorem cP (t:Sem α) (k:α→Sem β):fT P (t >>= k)=(fT P t).bind fun a=>fT P (k a):=uc t k
@[simp] theorem SQ (f:α→β) (t:Sem α):fT P (Functor.map f t)=(fT P t).map f:=by show fT P (t.bind (Sem.pure ∘ f))=_;rw[uc];cases fT P t<;>rfl
theorem mo{t:Sem α}{x:α}(h:fT P t=some x)(w:World)(es:Array Event):t.run P w=.ok x w∧t.events P w es=es:=by
 induction t with
 | pure a=>simp[fT] at h; subst h; exact⟨rfl,rfl⟩
 | program f ih=>exact ih P h
 | _=>simp[fT] at h
@[simp] theorem dp (t:TypeId):fT P (underlying t)=P.underlying t:=by unfold underlying program;simp only[cP,fT];simp;cases P.underlying t<;>rfl
@[simp] theorem oe (t:TypeId):fT P (typeInfo t)=P.info? t:=by unfold typeInfo program;simp only[cP,fT];simp;cases P.info? t<;>rfl
@[simp] theorem nn (t:TypeId):fT P (sizeOf t)=bI P t:=by unfold sizeOf bI;simp only[cP,oe];cases P.info? t<;>rfl
@[simp] theorem Od (U:String):fT P (stuck U:Sem α)=none:=rfl
@[simp] theorem Es (u:Unsupported):fT P (unsupported u:Sem α)=none:=rfl
end
theorem y7(k:IntKind)(r:Int):jG k r=k.wrap r:=by
 unfold jG;split;iterate 2
  ·split
   ·next h=>simp only[IntKind.wrap,IntKind.bits,IntKind.signed]; simp; omega
   ·rfl
 ·rfl
theorem vf:∀l m:Bq,cJ l m=(l==m)
 | [],[]=>rfl
 | [],_::_=>rfl
 | _::_,[]=>rfl
 | x::l,y::m=>by
  have h:x.toNat.beq y.toNat=(x==y):=by rw[Bool.eq_iff_iff];simp only[Nat.beq_eq,beq_iff_eq];exact⟨fun h=>UInt8.toNat_inj.1 h,fun h=>by rw[h]⟩
  simp only[cJ,h,vf l m];show _=(x==y&&l==m);cases x==y<;>rfl
theorem iO{α:Type}:∀(l:List α) (n:Nat),iB l n=n+l.length
 | [],n=>rfl
 | _::l,n=>by simp only[iB,iO l,List.length_cons]; omega
theorem vi(x:ByteArray):x.toList=x.data.toList:=by exact ByteArray.toList_eq x
theorem nj{a b:ByteArray}(h:a.data.toList=b.data.toList):a=b:=by obtain⟨⟨l⟩⟩:=a;obtain⟨⟨m⟩⟩:=b;simp at h;subst h;rfl
section
variable {P:Program}{S:bC}{aA:TL}{a:Act}{o:Oper}{v:Value}
theorem xN(t:TypeId)(h:cX op x y=some v):dT v=true∧dT x=true∧dT y=true∧fT P (binOp op t x y)=some v∧∀X Y,fT P (eqGuard op t X Y x y)=some ():=by
 unfold cX at h;split at h
 ·split at h
  ·next e =>
   subst e;refine⟨?_,rfl,rfl,?_,fun X Y=>by cases op<;>rfl⟩
   ·split at h<;>first|(cases h; rfl)|cases h
   ·split at h<;>first|(cases h; simp[binOp,Op.intArith,Op.intCmp,y7])|cases h
  ·cases h
 ·refine⟨?_,rfl,rfl,?_,fun X Y=>by cases op<;>rfl⟩
  ·split at h;iterate 2
    ·cases h; rfl
   ·split at h
    ·cases h; rfl
    ·cases h
   ·cases h
  ·split at h;iterate 2
    ·cases h; simp[binOp,Op.stringOp,vf,vi]
   ·split at h
    ·next a b _ U =>
     cases h;simp only[iO,Nat.zero_add] at U;have h1:a.size=a.data.toList.length:=by rw[Array.length_toList]; rfl
     have h2:b.size=b.data.toList.length:=by rw[Array.length_toList]; rfl
     have hs:¬(((a.size+b.size:Nat):Int)>IntKind.i64.max):=by rw[h1,h2];simp[IntKind.max,IntKind.bits,IntKind.signed];omega
     have e:(⟨(a.data.toList++b.data.toList).toArray⟩:ByteArray)=a++b:=by apply nj;simp
     rw[e];simp only[binOp,Op.stringOp];rw[if_neg hs];rfl
    ·cases h
   ·cases h
 ·cases h
def eg (S:bC)(aA:TL)(a:Act)(o:Oper):Prop:=∀x∈o.op.operands,VR S (aA.at x) (a.eval x)
theorem VR.Rn(U:rX x=true):VR S x x:=by
 unfold rX at U;split at U
 ·exact VR.yv ⟨rfl,fun i u v hu hv=>by rw[hu] at hv;cases hv;rw[List.all_eq_true] at U;exact VR.dr (U u (by rw[Array.mem_toList_iff]; exact Array.mem_of_getElem? hu))⟩
 ·exact VR.dr U
theorem eR(hA:eg S aA a o)(hc:(∀x∈o.op.operands,a.eval x=aA.at x)→execOp a.eval o=execOp aA.at o)(h:rP P aA o=some v):VR S v v∧fT P (execOp a.eval o)=some (.value v):=by
 unfold rP at h;split at h
 ·next hs =>
  split at h
  ·next v' U =>
   split at h
   ·next a0 =>
    cases h;refine⟨VR.Rn a0,?_⟩;have he:∀x∈o.op.operands,a.eval x=aA.at x:=fun x hx=>(hA x hx).fl (by rw[List.all_eq_true] at hs;exact hs x (by simpa using hx));rw[hc he];unfold So at U;split at U
    ·next e=>cases U; exact e
    ·cases U
   ·cases h
  ·cases h
 ·cases h
theorem AH{xs:Array Operand}(h:∀x∈xs,VR S (aA.at x) (a.eval x)):AR (VR S) (xs.map aA.at) (xs.map a.eval):=by refine⟨by simp,fun i x y U hy=>?_⟩;simp only[Array.getElem?_map,Option.map_eq_some_iff] at U hy;obtain⟨u,hu,rfl⟩:=U;obtain⟨u',Ib,rfl⟩:=hy;rw[hu] at Ib;cases Ib;exact h u (Array.mem_of_getElem? hu)
theorem I0{t:Nat}{q:Addr}(hu:P.underlying t=some (.pointer e))(hs:bI P e=some (n+1))(U:p.block=q.block):fT P (Op.equalIn (d+1) t (.pointer (some p)) (.pointer (some q)))=some (p==q):=by simp only[Op.equalIn,cP,dp,hu,Option.bind_some,nn,hs,ne_eq,Nat.add_eq_zero_iff,Nat.succ_ne_self,and_false,not_false_eq_true,if_true,sameAddr,U,beq_self_eq_true];simp
theorem BI{t:Nat}(U:P.underlying t=some (.pointer e)):fT P (Op.equalIn (d+1) t (.pointer (some p)) (.pointer none))=some false∧fT P (Op.equalIn (d+1) t (.pointer none) (.pointer (some p)))=some false:=by constructor<;>simp only[Op.equalIn,cP,dp,U,Option.bind_some]<;>rfl
theorem BJ{t:Nat}{c:Nat}(U:P.underlying t=some (.slice e)):fT P (Op.equalIn (d+1) t (.slice (some p) n c) (.slice none n' c'))=some false∧fT P (Op.equalIn (d+1) t (.slice none n' c') (.slice (some p) n c))=some false:=by constructor<;>simp only[Op.equalIn,cP,dp,U,Option.bind_some]<;>rfl
theorem BH{t:Nat}{x y:Array TypeId}{b:Bool}{f:Fn}{p q:Aq}(U:P.underlying t=some (.func x y b)):fT P (Op.equalIn (d+1) t (.func f p q) .nilFunc)=some false∧fT P (Op.equalIn (d+1) t .nilFunc (.func f p q))=some false:=by constructor<;>simp only[Op.equalIn,cP,dp,U,Option.bind_some]<;>rfl
theorem kF(op:BinOp)(t:TypeId)(X Y:Operand)(hx:∀c,x≠.agg c)(U:x≠.nilIface):fT P (eqGuard op t X Y x y)=some ():=by unfold eqGuard;cases op<;>first|rfl|(cases x<;>first|rfl|exact absurd rfl (hx _)|exact absurd rfl U)
theorem w6{b:Bool}(h1:∀k n,x≠.int k n)(h2:∀s,x≠.string s)(h3:∀k n,x≠.float k n)(U:∀k n m,x≠.complex k n m)(h:fT P (Op.equalIn (9999+1) t x y)=some b):fT P (binOp .eql t x y)=some (.bool b)∧fT P (binOp .neq t x y)=some (.bool !b):=by
 have h:fT P (Op.equal t x y)=some b:=h;cases x with
 | int k n=>exact absurd rfl (h1 k n)
 | string s=>exact absurd rfl (h2 s)
 | float k n=>exact absurd rfl (h3 k n)
 | complex k n m=>exact absurd rfl (U k n m)
 | _=>exact⟨by simp only[binOp,cP,h]; rfl,by simp only[binOp,cP,h]; rfl⟩
theorem km(h:(match op with|.eql=>some (Value.bool false)|.neq=>some (.bool true)|_=>none)=some v)(h1:∀k n,x≠.int k n)(h2:∀s,x≠.string s)(h3:∀k n,x≠.float k n)(h4:∀k n m,x≠.complex k n m)(U:∀c,x≠.agg c)(h6:x≠.nilIface)
 (he:fT P (Op.equalIn (9999+1) t x y)=some false):dT v=true∧fT P (binOp op t x y)=some v∧∀X Y,fT P (eqGuard op t X Y x y)=some ():=by
 have:=w6 h1 h2 h3 h4 he;cases op<;>simp at h
 ·subst h; exact⟨rfl,this.1,fun X Y=>kF _ _ _ _ U h6⟩
 ·subst h; exact⟨rfl,this.2,fun X Y=>kF _ _ _ _ U h6⟩
theorem vy(hx:VR S x x')(hy:VR S y y')(h:lC P op t x y=some v):dT v=true∧fT P (binOp op t x' y')=some v∧∀X Y,fT P (eqGuard op t X Y x' y')=some ():=by
 unfold lC at h;split at h
 ·next p q e U =>
  split at h
  ·next n hs =>
   split at h
   ·next hb =>
    obtain⟨b,off,sp⟩:=p;obtain⟨b',gd,sp'⟩:=q;have h1:=hx.iu;have h2:=hy.iu;simp at h1 h2 hb;subst h1 h2 hb;obtain⟨g,z,e1,h3,rfl⟩:=hx.ptr;obtain⟨g',z',e2,h4,rfl⟩:=hy.ptr;rw[h3] at h4;cases h4;have he:=w6 (P:=P) (t:=t) (by simp) (by simp) (by simp) (by simp) (I0 (d:=9999) (p:=⟨g,off,none⟩) (q:=⟨g,gd,none⟩) U hs rfl);have hq:((⟨g,off,none⟩:Addr)==⟨g,gd,none⟩)=((⟨b,off,none⟩:Addr)==⟨b,gd,none⟩):=by rw[Bool.eq_iff_iff]; simp
    rw[hq] at he;split at h
    ·cases h;exact⟨rfl,he.1,fun X Y=>kF _ _ _ _ (by simp) (by simp)⟩
    ·cases h;exact⟨rfl,he.2,fun X Y=>kF _ _ _ _ (by simp) (by simp)⟩
    ·cases h
   ·cases h
  ·cases h
 ·next p e U =>obtain⟨b,off,sp⟩:=p;have h1:=hx.iu;simp at h1;subst h1;obtain⟨g,z,e1,h3,rfl⟩:=hx.ptr;rw[hy.sc rfl];exact km h (by simp) (by simp) (by simp) (by simp) (by simp) (by simp) (BI U).1
 ·next p e U =>obtain⟨b,off,sp⟩:=p;have h1:=hy.iu;simp at h1;subst h1;obtain⟨g,z,e1,h3,rfl⟩:=hy.ptr;rw[hx.sc rfl];exact km h (by simp) (by simp) (by simp) (by simp) (by simp) (by simp) (BI U).2
 ·next U =>obtain⟨g,z,e1,o',c',h3,rfl,_⟩:=hx.jR;rw[hy.sc rfl];exact km h (by simp) (by simp) (by simp) (by simp) (by simp) (by simp) (BJ U).1
 ·next U =>obtain⟨g,z,e1,o',c',h3,rfl,_⟩:=hy.jR;rw[hx.sc rfl];exact km h (by simp) (by simp) (by simp) (by simp) (by simp) (by simp) (BJ U).2
 ·next U =>obtain⟨p',q',rfl,_⟩:=hx.fn;rw[hy.sc rfl];exact km h (by simp) (by simp) (by simp) (by simp) (by simp) (by simp) (BH U).1
 ·next U =>obtain⟨p',q',rfl,_⟩:=hy.fn;rw[hx.sc rfl];exact km h (by simp) (by simp) (by simp) (by simp) (by simp) (by simp) (BH U).2
 ·next k _ =>
  obtain⟨k',m,hk,rfl,hm⟩:=hx.mp;cases hk;rw[hy.sc rfl];have vG:¬m=0:=by omega
  cases op<;>simp at h;iterate 2
   ·subst h; exact⟨rfl,by simp[binOp,goInt,Op.intArith,Op.intCmp,vG],fun X Y=>rfl⟩
 ·cases h
theorem wc(hA:eg S aA a o)(hb:∀t parts,o.op≠.build t parts)(h:bQ P aA o=some v):∃v',VR S v v'∧fT P (execOp a.eval o)=some (.value v'):=by
 unfold bQ at h;unfold eg at hA;split at h;iterate 2
  ·next x U =>cases h;rw[U] at hA;exact⟨_,hA x (by simp[Op.operands]),by simp[execOp,U]⟩
 ·next c x y U =>
  rw[U] at hA;have hc:=hA c (by simp[Op.operands]);split at h
  ·next b hb =>
   cases h;rw[hb] at hc;have hc:=hc.sc rfl;refine⟨if b then a.eval x else a.eval y,?_,?_⟩
   ·cases b
    ·exact hA y (by simp[Op.operands])
    ·exact hA x (by simp[Op.operands])
   ·simp[execOp,U,hc,asBool]
  ·cases h
 ·next t parts U =>exact absurd U (hb t parts)
 ·next x U =>
  rw[U] at hA;have hx:=hA x (by simp[Op.operands]);split at h
  ·next p hp =>
   cases h;rw[hp] at hx;obtain⟨b,off,sp⟩:=p
   have:=hx.iu;simp at this;subst this;obtain⟨g,z,e,h1,h2⟩:=hx.ptr;exact⟨_,h2▸VR.gl h1,by simp[execOp,U,h2]⟩
  ·next f p q hp =>cases h;rw[hp] at hx;obtain⟨p',q',h1,h2,h3⟩:=hx.fn;exact⟨_,VR.yw h2 h3,by simp[execOp,U,h1]⟩
  ·cases h
 ·next f first cap U =>cases h;rw[U] at hA;refine⟨_,VR.yw (AH fun x hx=>hA x (by simp[Op.operands,hx])) (AH fun x hx=>hA x (by simp[Op.operands,hx])),by simp[execOp,U,Instr.makeFunc]⟩
 ·next t ix U =>
  rw[U] at hA;have hx:=hA t (by simp[Op.operands]);split at h
  ·next vs hv =>
   rw[hv] at hx;obtain⟨a3,h1,h2,h3⟩:=hx.tu;have hl:ix<a3.size:=by rw[← h2]; exact(Array.getElem?_eq_some_iff.1 h).1
   exact⟨a3[ix],h3 ix _ _ h (Array.getElem?_eq_getElem hl),by simp[execOp,U,h1,Instr.extract,Array.getElem?_eq_getElem hl]⟩
  ·cases h
 ·next t x f U =>
  rw[U] at hA;have hx:=hA x (by simp[Op.operands]);split at h
  ·next a4 b off hu hp =>
   rw[hp] at hx;obtain⟨g,z,e,h1,h2⟩:=hx.ptr;split at h
   ·next fd hf =>
    split at h
    ·next n hs =>cases h;exact⟨_,VR.gl h1,by simp[execOp,U,h2,Instr.fieldAt,hu,hf,Instr.sureAddr,fieldPlace,hs,Addr.add]⟩
    ·cases h
   ·cases h
  ·cases h
 ·next t x ix U =>
  rw[U] at hA;have hx:=hA x (by simp[Op.operands]);have hi:=hA ix (by simp[Op.operands]);split at h
  ·next e b off sp n c k i hu hp hq =>
   rw[hp] at hx;rw[hq] at hi;have hi:=hi.sc rfl;obtain⟨g,z,e',o',c',h1,h2,h3,h4,h5⟩:=hx.jR;split at h
   ·next sz hs =>
    split at h
    ·next hr =>
     cases h;have:o'=off:=by
      rcases h5 with h5|h5
      ·subst h5; omega
      ·exact h5
     subst this;exact⟨_,VR.gl h1,by simp[execOp,U,h2,hi,Instr.indexAt,asIntOf,hu,hs,hr,Addr.add]⟩
    ·cases h
   ·cases h
  ·next n e b off k i hu hp hq =>
   rw[hp] at hx;rw[hq] at hi;have hi:=hi.sc rfl;obtain⟨g,z,e',h1,h2⟩:=hx.ptr;split at h
   ·next sz hs =>
    split at h
    ·next hr =>cases h;exact⟨_,VR.gl h1,by simp[execOp,U,h2,hi,Instr.indexAt,asIntOf,hu,hs,hr,Addr.add,Instr.sureAddr]⟩
    ·cases h
   ·cases h
  ·cases h
 ·next op t x y ty U =>
  rw[U] at hA;have hx:=hA x (by simp[Op.operands]);have hy:=hA y (by simp[Op.operands]);split at h
  ·next v' hv =>cases h;obtain⟨h1,h2,h3,h4,h5⟩:=xN (P:=P) t hv;refine⟨v,VR.dr h1,?_⟩;simp only[execOp,U,hx.sc h2,hy.sc h3,cP,h5,h4];rfl
  ·split at h
   ·next v' hv =>cases h;obtain⟨h1,h2,h3⟩:=vy hx hy hv;refine⟨v,VR.dr h1,?_⟩;simp only[execOp,U,cP,h3,h2];rfl
   ·obtain⟨h1,h2⟩:=eR (S:=S) (by unfold eg; rw[U]; exact hA) (fun he=>by rw[U] at he; simp only[execOp,U,he x (by simp[Op.operands]),he y (by simp[Op.operands])]) h;exact⟨v,h1,h2⟩
 ·next t u x U =>
  rw[U] at hA;have hx:=hA x (by simp[Op.operands]);split at h
  ·next d k k' n h1 h2 h3 =>cases h;rw[h3] at hx;refine⟨_,VR.dr rfl,?_⟩;simp[execOp,U,hx.sc rfl,convert,h1,h2,Conv.intToInt,y7]
  ·obtain⟨h1,h2⟩:=eR (S:=S) (by unfold eg; rw[U]; exact hA) (fun he=>by rw[U] at he; simp only[execOp,U,he x (by simp[Op.operands])]) h;exact⟨v,h1,h2⟩
 ·next t x i U =>
  rw[U] at hA;have hx:=hA x (by simp[Op.operands]);have hi:=hA i (by simp[Op.operands]);split at h
  ·next str k n h1 h2 h3 =>
   rw[h2] at hx;rw[h3] at hi;split at h
   ·next hn =>
    split at h
    ·next b hb =>
     cases h;refine⟨_,VR.dr rfl,?_⟩;have a5:str[n.toNat]?=some b:=by
      have hl:n.toNat<str.size:=by have:=(List.getElem?_eq_some_iff.1 hb).1;rw[Array.length_toList] at this;exact this
      rw[getElem?_pos str n.toNat hl]
      have:=(List.getElem?_eq_some_iff.1 hb).2;simp at this;rw[← this];rfl
     simp[execOp,U,hx.sc rfl,hi.sc rfl,Instr.index,asIntOf,h1,hn,a5]
    ·cases h
   ·cases h
  ·obtain⟨h1,h2⟩:=eR (S:=S) (by unfold eg; rw[U]; exact hA) (fun he=>by rw[U] at he; simp only[execOp,U,he x (by simp[Op.operands]),he i (by simp[Op.operands])]) h;exact⟨v,h1,h2⟩
 ·next c U =>
  rw[U] at hA;have a0:∀x∈c.args,VR S (aA.at x) (a.eval x):=fun x hx=>hA x (by simp[Op.operands,Call.operands,hx]);have PV:(∀x∈o.op.operands,a.eval x=aA.at x)→∀b,c.callee=.builtin b→execOp a.eval o=execOp aA.at o:=fun he b hb=>by rw[U] at he;have:c.args.map a.eval=c.args.map aA.at:=Array.map_congr_left fun x hx=>he x (by simp[Op.operands,Call.operands,hx]);simp only[execOp,U,resolve,hb,this]
  split at h
  ·next x t h1 h2 h3 =>
   have hx:=a0 x (by simpa using(show x∈c.args.toList by rw[h2]; simp));have hm:c.args.map a.eval=#[a.eval x]:=by apply Array.toList_inj.1; simp[h2]
   have a1:c.argTypes=#[t]:=by apply Array.toList_inj.1; simp[h3]
   split at h
   ·next ad n cp e hv hu =>
    cases h;rw[hv] at hx;refine⟨_,VR.dr rfl,?_⟩;have:∃a2 c',a.eval x=.slice a2 n c':=by
     cases ad with
     | none=>rw[hx.sc rfl]; exact⟨_,_,rfl⟩
     | some ad=>obtain⟨g,z,e,o',c',_,h2,_⟩:=hx.jR; exact⟨_,_,h2⟩
    obtain⟨a2,c',hx⟩:=this;simp[execOp,U,resolve,h1,invoke,builtin,hm,a1,hx,Builtin.len_,hu]
   ·next str hv hu =>cases h;rw[hv] at hx;refine⟨_,VR.dr rfl,?_⟩;simp[execOp,U,resolve,h1,invoke,builtin,hm,a1,hx.sc rfl,Builtin.len_,hu,iO]
   ·cases h
  ·rename_i x h1 h2
   have hx:=a0 x (by simpa using(show x∈c.args.toList by rw[h2]; simp));have hm:c.args.map a.eval=#[a.eval x]:=by apply Array.toList_inj.1; simp[h2]
   split at h
   ·next b off n cp hv =>
    cases h;rw[hv] at hx;obtain⟨g,z,e,c',h3,h4,h5,h6,_⟩:=hx.sl;refine⟨_,VR.gl h3,?_⟩;have:c'≠0:=by omega
    have hd:Builtin.unsafeSliceData_ c.argTypes o.type #[.slice (some ⟨g,off,none⟩) n c']=if c'≠0 then pure (.pointer (some ⟨g,off,none⟩)) else (do if (← viewAt g).isSome then pure (.pointer (some ⟨g,off,none⟩)) else pure (.pointer (some ⟨← newObj (.view ⟨g,off,none⟩ (← elemOf o.type)),0,none⟩))):=rfl;rw[if_pos this] at hd;simp[execOp,U,resolve,h1,invoke,builtin,hm,h4,hd]
   ·obtain⟨h3,h4⟩:=eR (S:=S) (by unfold eg; rw[U]; exact hA) (fun he=>PV he _ h1) h;exact⟨v,h3,h4⟩
  ·next x t h1 h2 h3 =>
   have hx:=a0 x (by simpa using(show x∈c.args.toList by rw[h2]; simp));have hm:c.args.map a.eval=#[a.eval x]:=by apply Array.toList_inj.1; simp[h2]
   have a1:c.argTypes=#[t]:=by apply Array.toList_inj.1; simp[h3]
   split at h
   ·next b off n cp e hv hu =>cases h;rw[hv] at hx;obtain⟨g,z,e',c',h4,h5,h6,h7,_⟩:=hx.sl;exact⟨goInt c',⟨1,c',rfl,h7⟩,by simp[execOp,U,resolve,h1,invoke,builtin,hm,a1,h5,Builtin.cap_,hu]⟩
   ·obtain⟨h3,h4⟩:=eR (S:=S) (by unfold eg; rw[U]; exact hA) (fun he=>PV he _ h1) h;exact⟨v,h3,h4⟩
  ·next h1 =>obtain⟨h3,h4⟩:=eR (S:=S) (by unfold eg; rw[U]; exact hA) (fun he=>PV he _ h1) h;exact⟨v,h3,h4⟩
  ·next h1 =>obtain⟨h3,h4⟩:=eR (S:=S) (by unfold eg; rw[U]; exact hA) (fun he=>PV he _ h1) h;exact⟨v,h3,h4⟩
  ·next h1 =>obtain⟨h3,h4⟩:=eR (S:=S) (by unfold eg; rw[U]; exact hA) (fun he=>PV he _ h1) h;exact⟨v,h3,h4⟩
  ·cases h
 ·next op t x U =>rw[U] at hA;obtain⟨h1,h2⟩:=eR (S:=S) (by unfold eg; rw[U]; exact hA) (fun he=>by rw[U] at he; simp only[execOp,U,he x (by simp[Op.operands])]) h;exact⟨v,h1,h2⟩
 ·cases h
theorem AR.set(h:AR (VR S) cs gU)(hx:VR S x y)(i:Nat):AR (VR S) (cs.setIfInBounds i x) (gU.setIfInBounds i y):=by
 refine⟨by simp[h.1],fun k u u' hu U=>?_⟩;rw[Array.getElem?_setIfInBounds] at hu U;rw[← h.1] at U;by_cases e:i=k
 ·subst e;rw[if_pos rfl] at hu U;split at hu
  ·rw[if_pos (by assumption)] at U;cases hu;cases U;exact hx
  ·cases hu
 ·rw[if_neg e] at hu U;exact h.2 k u u' hu U
def PR (S:bC):List (Nat × Value)→List (Nat × Value)→Prop
 | [],[]=>True
 | (i,x)::l,(j,y)::m=>i=j∧VR S x y∧PR S l m
 | _,_=>False
theorem xV(off:Nat):∀(l l':Vq) (k:Nat) (cs gU:Aq),l.length=l'.length→(∀(i:Nat) (x y:Value),l[i]?=some x→l'[i]?=some y→VR S x y)→AR (VR S) cs gU →
  AR (VR S) ((l.zipIdx k).foldl (fun cs (x:Value × Nat)=>cs.setIfInBounds (off+x.2) x.1) cs) ((l'.zipIdx k).foldl (fun cs (x:Value × Nat)=>cs.setIfInBounds (off+x.2) x.1) gU)
 | [],[],k,cs,gU,_,_,h=>by simpa using h
 | x::l,y::l',k,cs,gU,U,hr,h=>by simp only[List.zipIdx_cons,List.foldl_cons];exact xV off l l' (k+1) _ _ (by simpa using U) (fun i x y hx hy=>hr (i+1) x y (by simpa using hx) (by simpa using hy)) (h.set (hr 0 x y rfl rfl) _)
 | [],_::_,_,_,_,U,_,_=>by simp at U
 | _::_,[],_,_,_,U,_,_=>by simp at U
theorem oi:∀(ps Ij:List (Nat × Value)) (cs gU c:Aq),AR (VR S) cs gU→PR S ps Ij→Instr.fill place cs ps=some c→∃c',Instr.fill place gU Ij=some c'∧AR (VR S) c c'
 | [],[],cs,gU,c,h,_,U=>by simp[Instr.fill] at U ⊢; subst U; exact h
 | (i,x)::ps,(j,y)::Ij,cs,gU,c,h,⟨e,hx,hp⟩,U=>by
  subst e;unfold Instr.fill at U ⊢;split at U
  ·cases U
  ·next off size a0 =>
   have hc:=hx.cells;rw[← hc.1,← h.1];split at U
   ·cases U
   ·next hn =>
    rw[if_neg hn];refine oi ps Ij _ _ c ?_ hp U
    have:=xV (S:=S) off x.cells.toList y.cells.toList 0 cs gU (by simp[hc.1]) (fun i u u' hu Ib=>hc.2 i u u' (by simpa using hu) (by simpa using Ib)) h;rw[← Array.foldl_toList,← Array.foldl_toList,Array.toList_zipIdx,Array.toList_zipIdx];exact this
 | [],_::_,_,_,_,_,h,_=>h.elim
 | _::_,[],_,_,_,_,h,_=>h.elim
theorem pY:∀(ps:List (Nat × Operand)),(∀x∈ps.map (·.2),VR S (aA.at x) (a.eval x))→PR S (ps.map fun (i,x)=>(i,aA.at x)) (ps.map fun (i,x)=>(i,a.eval x))
 | [],_=>trivial
 | (i,x)::ps,h=>⟨rfl,h x (by simp),pY ps fun y U=>h y (by simp at U ⊢; exact .inr U)⟩
theorem AR.kQ(h:c.toList.all dT=true):AR (VR S) c c:=by refine⟨rfl,fun i x y U hy=>?_⟩;rw[U] at hy;cases hy;rw[List.all_eq_true] at h;exact VR.dr (h x (by simpa using Array.mem_of_getElem? U))
theorem CX(U:lh P t=true)(hp:PR S ps Ij)(h:P.built t ps=some c):∃c',P.built t Ij=some c'∧AR (VR S) c c':=by
 unfold Program.built at h ⊢;unfold lh at U;split at h
 ·next it n e hi hu =>
  rw[hi] at U;try simp only[hi,hu]
  split at h
  ·next z ie h1 h2 =>
   simp only[h1] at U;try simp only[h1,h2]
   exact oi _ _ _ _ c (AR.kQ U) hp h
  ·cases h
 ·next it a0 hi hu =>
  rw[hi] at U;try simp only[hi,hu]
  split at h
  ·next z pl h1 h2 =>
   simp only[h1] at U;try simp only[h1,h2]
   exact oi _ _ _ _ c (AR.kQ U) hp h
  ·cases h
 ·cases h
theorem yI(hA:eg S aA a o)(h:bQ P aA o=some v):∃v',VR S v v'∧∀w,(execOp a.eval o).run P w=.ok (.value v') w∧(execOp a.eval o).events P w #[]=#[]:=by
 by_cases hb:∃t parts,o.op=.build t parts
 ·obtain⟨t,parts,U⟩:=hb;unfold bQ at h;rw[U] at h;simp only at h;split at h
  ·cases h
  ·next hz =>
   have hz:lh P t=true:=by simpa using hz
   split at h
   ·next c hc =>
    cases h;unfold eg at hA;rw[U] at hA;obtain⟨c',h1,h2⟩:=CX hz (by simpa using pY (S:=S) (aA:=aA) (a:=a) parts.toList fun x hx=>hA x (by simpa[Op.operands] using hx)) hc;have h1:P.built t (parts.map fun (i,x)=>(i,a.eval x)).toList=some c':=by simpa using h1
    refine⟨_,VR.yv h2,fun w=>⟨?_,?_⟩⟩
    ·simp[execOp,U,run_build (P:=P) w t _ c' h1]
    ·simp[execOp,U,run_build (P:=P) w t _ c' h1,iK (P:=P) w t _ c' h1]
   ·cases h
 ·obtain⟨v',h1,h2⟩:=wc hA (fun t parts e=>hb ⟨t,parts,e⟩) h;exact⟨v',h1,fun w=>mo h2 w #[]⟩
end
structure Cy{ι:Type}(P:Program)(KT:TypeId→Prop)(N0:ι→Nat)(M:ι→World→Nat→Prop)(O:ι→Nat→Prop)(R:ι→World→World→Prop)(D:ι→World→World→Array Event→Prop)(X:ι→Goroutine→World→Prop)(Hd:ι→List (Nat × Obj)→World→Prop):Prop where
 C:aV P true R D X
 T:∀i,Terms (R i) (D i)
 ne : ∀ g aJ, jh P (.func g) = true → P.funcs[g]? = some aJ → (aJ.name == "runtime.NumGoroutine") = false ∧ Extern.findNext aJ = none ∧ Extern.find aJ = some Extern.AbiNoEscape.same
 Z:∀{i l w},Hd i l w→Co KT (N0 i) (M i) (O i) (R i) (D i) (Hd i)
section
variable {ι:Type}{P:Program}{KT:TypeId→Prop}{An:bC}{N0:ι→Nat}{M:ι→World→Nat→Prop}{O:ι→Nat→Prop}{R:ι→Wq}{D:ι→World→World→Array Event→Prop}{X:ι→Gq}{Hd:ι→Hq→World→Prop}
variable {fn:FuncId}{Q:dK ι}{a:Act}{w:World}{i:ι}{S:bC}{s s':AS}{l fr:Hq}{aA:TL}{v:Value}{ops:Array Oper}{j:Nat}{rest:List Nat}{o:Oper}
def Out (P:Program)(KT:TypeId→Prop)(An:bC)(Hd:ι→List (Nat × Obj)→World→Prop)(S:bC)(s s':AS)(fr:List (Nat × Obj))(v:Value)(K:ι→Value→World→Prop):Prop :=
 ∀i' S' l' w' v',S.le S'→(∀b,b<s.nx∨s'.nx≤b→S' b=S b)→eK P KT An S' s' l'→Hd i' (l'++fr) w'→VR S' v v'→K i' v' w'
theorem sb(Y:Cy P KT N0 M O R D X Hd)(ho:ops[j]?=some o)(hw:Region.wanted o (yielded ops a.tmps)=true)(hA:eg S aA a o)(hS:eK P KT An S s l)(hF:Hd i (l++fr) w)(h:bQ P aA o=some v)
 (k:Out P KT An Hd S s s fr v fun i' U w'=>bU X fn ops rest i' Q (a.put o.dst U) w'):bU X fn ops (j::rest) i Q a w:=by obtain⟨U,h1,h2⟩:=yI hA h;refine bu Y.C Y.T ho hw fun aB K hK=>?_;rw[(h2 aB).1];exact hK _ (k i S l w U (bC.le_refl S) (fun _ _=>rfl) hS hF h1) (h2 aB).2
theorem eK.at(hS:eK P KT An S s l)(hb:s.get b=some ob)(hg:S b=some (g,z,e)):∃k o',l[k]?=some (g,o')∧k<l.length∧(l++fr)[k]?=some (g,o')∧OR S z ob o'∧∀cs t fz,ob=.cells cs t fz→bI P t=some e∧¬KT t:=by obtain⟨g',z',e',o',h1,h2,h3,U⟩:=hS.live b ob hb;rw[hg] at h1;cases h1;obtain⟨k,hk⟩:=List.mem_iff_getElem?.1 h2;have eH:=(List.getElem?_eq_some_iff.1 hk).1;exact⟨k,o',hk,eH,by rw[List.getElem?_append_left eH]; exact hk,h3,U⟩
theorem Cp(Y:Cy P KT N0 M O R D X Hd)(ho:ops[j]?=some o)(hw:Region.wanted o (yielded ops a.tmps)=true){x:Operand}(a1:o.op=.load t x)(hA:eg S aA a o)(hS:eK P KT An S s l)(hF:Hd i (l++fr) w)(h:aE P t (aA.at x) s=some v)
 (k:Out P KT An Hd S s s fr v fun i' v' w'=>bU X fn ops rest i' Q (a.put o.dst v') w'):bU X fn ops (j::rest) i Q a w:=by
 unfold eg at hA;rw[a1] at hA;have hx:=hA x (by simp[Op.operands]);unfold aE at h;split at h
 ·next b off hp =>
  rw[hp] at hx;obtain⟨g,z,e,h1,h2⟩:=hx.ptr;split at h
  ·next cs ty fz hb =>
   obtain⟨kk,o',hk,a5,a2,a4,a7⟩:=hS.at (fr:=fr) hb h1;obtain⟨gU,rfl,hz,⟨wJ,hex⟩,gr⟩:=a4;split at h
   ·next d hu =>
    split at h
    ·next hd =>
     split at h
     ·next n hn =>
      split at h
      ·next a6 =>
       cases h;refine tw Y.C (Y.Z hF) kk (cs:=(gU.toList.drop off).take n) ho hw a1 h2 hu hd (by unfold bI at hn; rw[hn]; simp; omega) hF a2 ?_ fun w' a0=>k i S l w' _ (bC.le_refl S) (fun _ _=>rfl) hS a0 (VR.yv ?_)
       ·intro m u hm;rw[List.getElem?_take] at hm;split at hm
        ·rw[List.getElem?_drop] at hm; simpa using hm
        ·cases hm
       ·refine⟨by simp; omega,fun m u u' hu U=>?_⟩;simp only[List.getElem?_toArray,List.getElem?_take] at hu U;split at hu
        ·next hm =>rw[if_pos hm] at U;rw[List.getElem?_drop] at hu U;exact gr _ u u' (by simpa using hu) (by simpa using U)
        ·cases hu
      ·cases h
     ·cases h
    ·next hd =>
     have a3:off<gU.size:=by have:=(Array.getElem?_eq_some_iff.1 h).1; omega
     refine kL Y.C (Y.Z hF) kk ho hw a1 h2 hu (by simpa using hd) hF a2 (Array.getElem?_eq_getElem a3) fun w' a0=>k i S l w' _ (bC.le_refl S) (fun _ _=>rfl) hS a0 (gr off v _ h (Array.getElem?_eq_getElem a3))
   ·cases h
  ·cases h
 ·cases h
theorem eK.wy(hS:eK P KT An S s l){k:Nat}(hb:s.get b=some ob)(hg:S b=some (g,z,e))(hk:l[k]?=some (g,o'))(a5:(l.map Prod.fst).Nodup)(a3:OR S z zm ED)(a4:∀cs t fz,zm=.cells cs t fz→bI P t=some e∧¬KT t):eK P KT An S (s.set b (some zm)) (l.set k (g,ED)) where
 live b' o1 h1:=by
  rw[AS.aK] at h1
  have a1:=(List.getElem?_eq_some_iff.1 hk).1
  split at h1
  ·
   next U =>
   subst U
   cases h1
   exact⟨g,z,e,ED,hg,List.mem_iff_getElem?.2 ⟨k,by simp[a1]⟩,a3,a4⟩
  ·
   next a2 =>
   obtain⟨g',z',U,o3,h2,h3,h4,h5⟩:=hS.live b' o1 h1
   refine⟨g',z',U,o3,h2,?_,h4,h5⟩
   obtain⟨m,hm⟩:=List.mem_iff_getElem?.1 h3
   refine List.mem_iff_getElem?.2 ⟨m,?_⟩
   rw[List.getElem?_set]
   split
   ·
    next a0 =>
    subst a0
    rw[hk] at hm
    cases hm
    exact absurd (hS.inj b' b o1 ob _ _ h1 hb h2 hg rfl) a2
   ·
    exact hm
 inj k k' o1 o2 x x' h1 h2 hx jB he:=by
  rw[AS.aK] at h1 h2
  have f:∀{m:Nat} {o3:Obj},(if m=b then some zm else s.get m)=some o3→∃o4,s.get m=some o4:=fun {m o3} h=>by
   split at h
   ·
    next U=>exact⟨ob,by rw[U]; exact hb⟩
   ·
    exact⟨_,h⟩
  obtain⟨o4,h4⟩:=f h1
  obtain⟨o5,h5⟩:=f h2
  exact hS.inj k k' o4 o5 x x' h4 h5 hx jB he
 lt k o1 h1:=by
  rw[AS.aK] at h1
  split at h1
  ·
   next U=>subst U; exact hS.lt _ _ hb
  ·
   exact hS.lt k o1 h1
 an:=hS.an
theorem Cy.AL(Y:Cy P KT N0 M O R D X Hd)(U:Hd i (l++fr) w):(l.map Prod.fst).Nodup:=by have:=(Y.Z U).nodup U;rw[List.map_append] at this;exact(List.nodup_append.1 this).1
theorem uC{xs ys:Vq}(hz:gU.size=z)(a2:cs.size≤z)(a0:∀(i:Nat) (x y:Value),cs[i]?=some x→gU[i]?=some y→VR S x y)(a1:xs.length=ys.length)(hr:∀(i:Nat) (x y:Value),xs[i]?=some x→ys[i]?=some y→VR S x y)(a3:off+xs.length≤cs.size) :
  (putAt gU off ys).size=z∧(putAt cs off xs).size≤z∧∀(i:Nat) (x y:Value),(putAt cs off xs)[i]?=some x→(putAt gU off ys)[i]?=some y→VR S x y:=by
 refine⟨by simp[putAt]; omega,by simp[putAt]; omega,fun m x y hx U=>?_⟩;simp only[putAt,List.getElem?_toArray,List.append_assoc] at hx U;rw[List.getElem?_append] at hx U;have e1:(cs.toList.take off).length=off:=by simp; omega
 have e2:(gU.toList.take off).length=off:=by simp; omega
 rw[e1] at hx;rw[e2] at U;split at hx
 ·next hm =>rw[if_pos hm] at U;rw[List.getElem?_take,if_pos hm] at hx U;exact a0 m x y (by simpa using hx) (by simpa using U)
 ·next hm =>
  rw[if_neg hm] at U;rw[List.getElem?_append] at hx U;rw[← a1] at U;split at hx
  ·next h2 =>rw[if_pos h2] at U;exact hr _ x y hx U
  ·next h2 =>rw[if_neg h2] at U;rw[List.getElem?_drop] at hx U;exact a0 _ x y (by simpa using hx) (by simpa using U)
theorem GG(Y:Cy P KT N0 M O R D X Hd)(ho:ops[j]?=some o)(hw:Region.wanted o (yielded ops a.tmps)=true){x y:Operand}(a2:o.op=.store t x y)(hA:eg S aA a o)(hS:eK P KT An S s l)(hF:Hd i (l++fr) w)(h:iM P t (aA.at x) (aA.at y) s=some s')
 (k:Out P KT An Hd S s s' fr undef fun i' v' w'=>bU X fn ops rest i' Q (a.put o.dst v') w'):bU X fn ops (j::rest) i Q a w:=by
 unfold eg at hA;rw[a2] at hA;have hx:=hA x (by simp[Op.operands]);have hy:=hA y (by simp[Op.operands]);unfold iM at h;split at h
 ·next b off hp =>
  rw[hp] at hx;obtain⟨g,z,e,h1,h2⟩:=hx.ptr;split at h
  ·next cs ty fz hb =>
   obtain⟨kk,o',hk,a6,a5,a7,a3⟩:=hS.at (fr:=fr) hb h1;obtain⟨gU,rfl,hz,⟨wJ,hex⟩,gr⟩:=a7;split at h
   ·next hc =>
    obtain⟨a0,a4,a1⟩:=hc;cases h;have Df:=hy.cells;have At:∀u∈(a.eval y).cells.toList,u.oneCell'=true:=by
     intro u hu;obtain⟨m,hm⟩:=List.mem_iff_getElem?.1 hu;have hlm:m<(aA.at y).cells.size:=by rw[Df.1]; have:=(List.getElem?_eq_some_iff.1 hm).1; simpa using this
     have:=Df.2 m _ u (Array.getElem?_eq_getElem hlm) (by simpa using hm);rw[this.Ci];rw[List.all_eq_true] at a1;exact a1 _ (by simp)
    have U:=uC (S:=S) (xs:=(aA.at y).cells.toList) (ys:=(a.eval y).cells.toList) (off:=off) hz wJ gr (by simp[Df.1]) (fun m u u' hu Ib=>Df.2 m u u' (by simpa using hu) (by simpa using Ib)) (by simpa using a4);refine qw Y.C (Y.Z hF) (cs:=(a.eval y).cells.toList) (cur':=putAt gU off (a.eval y).cells.toList) kk ho hw a2 h2 (by simp) ?_ At (a3 cs ty fz rfl).2 hF a5 ?_ rfl fun w' mw=>?_
    ·unfold bI at a0; rw[a0]; simp[Df.1]
    ·simp; rw[← Df.1]; omega
    rw[List.set_append_left _ _ a6] at mw;refine k i S _ w' undef (bC.le_refl S) (fun _ _=>rfl) (hS.wy hb h1 hk (Y.AL hF) ⟨_,rfl,U.1,⟨U.2.1,fun wI=>by have:=hex wI; simp[putAt]; omega⟩,U.2.2⟩ fun ZP t1 ZY he=>?_) mw VR.undef;cases he;exact a3 cs ty fz rfl
   ·cases h
  ·cases h
 ·cases h
end
section
variable {P:Program}{S:bC}
theorem ug(off:Nat):∀(l:List (Value × Nat)) (cs:Aq),(l.foldl (fun cs (x:Value × Nat)=>cs.setIfInBounds (off+x.2) x.1) cs).size=cs.size
 | [],cs=>rfl
 | x::l,cs=>by simp only[List.foldl_cons]; rw[ug off l]; simp
theorem uf:∀(ps:List (Nat × Value)) (cs c:Aq),Instr.fill place cs ps=some c→c.size=cs.size
 | [],cs,c,h=>by simp[Instr.fill] at h; rw[h]
 | (i,x)::ps,cs,c,h=>by
  unfold Instr.fill at h;split at h
  ·cases h
  ·split at h
   ·cases h
   ·rw[uf ps _ c h,← Array.foldl_toList];exact ug _ _ _
theorem A8{e:TypeId}(U:lh P e=true)(hp:PR S ps Ij)(h:sliced P e len ps=some c):∃c' sz,sliced P e len Ij=some c'∧AR (VR S) c c'∧bI P e=some sz∧c.size=len*sz:=by
 unfold sliced at h ⊢;unfold lh at U;split at h
 ·next ie hi =>
  simp only[hi] at U;split at h
  ·next z a0 =>
   simp only[a0] at U;split at h
   ·cases h
   ·next hn =>
    have a1:((Array.range (len*ie.size)).map (z.cells[· % z.cells.size]!)).toList.all dT=true:=by
     rw[List.all_eq_true];intro x hx;simp only[Array.toList_map,List.mem_map] at hx;obtain⟨m,_,rfl⟩:=hx;rw[List.all_eq_true] at U;by_cases hm:m % z.cells.size<z.cells.size
     ·rw[getElem!_pos z.cells _ hm];exact U _ (by simp)
     ·rw[getElem!_neg z.cells _ hm];rfl
    obtain⟨c',h1,h2⟩:=oi ps Ij _ _ c (AR.kQ (S:=S) a1) hp h;refine⟨c',ie.size,?_,h2,by simp[bI,hi],?_⟩
    ·(try simp only[hi,a0]); rw[if_neg hn]; exact h1
    ·rw[uf _ _ _ h]; simp
  ·cases h
 ·cases h
end
section
variable {ι:Type}{P:Program}{KT:TypeId→Prop}{An:bC}{N0:ι→Nat}{M:ι→World→Nat→Prop}{O:ι→Nat→Prop}{R:ι→Wq}{D:ι→World→World→Array Event→Prop}{X:ι→Gq}{Hd:ι→Hq→World→Prop}
variable {fn:FuncId}{Q:dK ι}{a:Act}{w:World}{i:ι}{S:bC}{s s':AS}{l fr:Hq}{aA:TL}{v:Value}{ops:Array Oper}{j:Nat}{rest:List Nat}{o:Oper}{kt:TypeId→Bool}
theorem yF(C:aV P true R D X)(Z:Co KT (N0 i) (M i) (O i) (R i) (D i) (Hd i)){x:Operand}{str:ByteArray}(ho:ops[j]?=some o)(hw:Region.wanted o (yielded ops a.tmps)=true)(a0:o.op=.range t x)(ht:P.underlying t=some .string)(hx:a.eval x=.string str)(hq:¬KT (1000+str.size))
 (hF:Hd i l w)(h:∀b w',Hd i ((b,.stringIter str 0)::l) w'→bU X fn ops rest i Q (a.put o.dst (.pointer (sq b))) w'):bU X fn ops (j::rest) i Q a w:=by
 refine aD C ho hw fun U hR K hK=>?_;have ce:=Z.rely hF hR;have hO:Own KT (M i) U (U.alloc (.stringIter str 0)):=Own.EX hq;have hr:(execOp a.eval o).run P U=.ok (.value (.pointer (sq U.heap.size))) (U.alloc (.stringIter str 0)):=by simp[execOp,a0,hx,uI ht]
 have he:(execOp a.eval o).events P U #[]=#[]:=by simp[execOp,a0,hx,uI ht,vC ht]
 rw[hr];refine hK _ _ ⟨?_,h _ _ (Z.grown ce hO)⟩;rw[listed_nil he];exact Z.env.jr (Z.size ce) hO (fun e he=>by simp at he)
theorem nP{fz:Nat × Nat}(h:AR (VR S) cs gU):OR S gU.size (.cells cs t fz) (.cells gU t):=⟨gU,rfl,rfl,⟨by rw[h.1]; exact Nat.le_refl _,fun _=>h.1⟩,h.2⟩
theorem AX(C:aV P true R D X)(Z:Co KT (N0 i) (M i) (O i) (R i) (D i) (Hd i)){e:TypeId}{x y:Operand}{U:TypeInfo}{z:Value}(ho:ops[j]?=some o)(hw:Region.wanted o (yielded ops a.tmps)=true)(a2:o.op=.makeSlice t x y)(ht:P.underlying t=some (.slice e))(hi:P.info? e=some U)(hz:U.zero=some z)(hx:a.eval x=.int .i64 (n:Int))(hy:a.eval y=.int .i64 (n:Int))(a5:0<n)(hn:n≤1000000)(hb:U.bytes≤1000)(he:¬KT e)
 (hF:Hd i l w)(h:∀b w',Hd i ((b,.cells (madeCells z.cells (n*U.size)) e)::l) w'→bU X fn ops rest i Q (a.put o.dst (.slice (sq b) n n)) w'):bU X fn ops (j::rest) i Q a w:=by
 refine aD C ho hw fun aB hR K hK=>?_;have ce:=Z.rely hF hR;have hO:Own KT (M i) aB (aB.alloc (.cells (madeCells z.cells (n*U.size)) e)):=Own.alloc he;have Ml:U.bytes*n≤1000*1000000:=Nat.mul_le_mul hb hn;have hbi:(U.bytes:Int)*(n:Int)≤281474976710656:=by
  have h:((U.bytes*n:Nat):Int)≤281474976710656:=by omega
  rwa [Int.natCast_mul] at h
 have wl:IntKind.i64.wrap (n:Int)=n:=by rw[IntKind.wrap_i64]; omega
 have n1:¬(n:Int)<0:=by omega
 have n2:¬(281474976710656<(U.bytes:Int)*(n:Int)):=by omega
 have n5:¬(n*U.bytes>140737488355328):=by rw[Nat.mul_comm]; omega
 have a1:(Instr.makeSlice t (.int .i64 (n:Int)) (.int .i64 (n:Int))).run P aB=.ok (.slice (sq aB.heap.size) n n) (aB.alloc (.cells (madeCells z.cells (n*U.size)) e)):=by
  by_cases a0:n*U.size=0
  ·simp[Instr.makeSlice,run_underlying ht,asInt,asIntOf,typeInfo,hi,sizeOf,wl,n1,n2,a0,newRow,madeCells,Array.range_zero']
  ·simp[Instr.makeSlice,run_underlying ht,asInt,asIntOf,typeInfo,hi,sizeOf,zeroValue,hz,wl,n1,n2,a0,newRow,madeCells]
 have a4:(Instr.makeSlice t (.int .i64 (n:Int)) (.int .i64 (n:Int))).events P aB #[]=#[]:=by
  by_cases a0:n*U.size=0
  ·simp[Instr.makeSlice,run_underlying ht,underlying,ht,asInt,asIntOf,typeInfo,hi,sizeOf,wl,n1,n2,a0,newRow,askRoom,roomBytes,n5]
  ·simp[Instr.makeSlice,run_underlying ht,underlying,ht,asInt,asIntOf,typeInfo,hi,sizeOf,zeroValue,hz,wl,n1,n2,a0,newRow,askRoom,roomBytes,n5]
 have hr:(execOp a.eval o).run P aB=.ok (.value (.slice (sq aB.heap.size) n n)) (aB.alloc (.cells (madeCells z.cells (n*U.size)) e)):=by unfold execOp;simp only[a2,hx,hy,Sem.run_bind,a1,Result.andThen_ok,Sem.run_pure]
 have a3:(execOp a.eval o).events P aB #[]=#[]:=by unfold execOp;simp only[a2,hx,hy,Sem.events_bind,a1,a4,Result.evThen_ok,Sem.events_pure]
 rw[hr];refine hK _ _ ⟨?_,h _ _ (Z.grown ce hO)⟩;rw[listed_nil a3];exact Z.env.jr (Z.size ce) hO (fun e he=>by simp at he)
theorem JC{z:Aq}(h:z.toList.all dT=true)(n:Nat):(madeCells z n).toList.all dT=true:=by
 rw[List.all_eq_true];intro x U;simp only[madeCells,Array.toList_map,List.mem_map] at U;obtain⟨m,_,rfl⟩:=U;rw[List.all_eq_true] at h;by_cases hm:m % z.size<z.size
 ·rw[getElem!_pos z _ hm];exact h _ (by simp)
 ·rw[getElem!_neg z _ hm];rfl
theorem GD(Y:Cy P KT N0 M O R D X Hd)(a1:∀t,kt t=false→¬KT t)(ho:ops[j]?=some o)(hw:Region.wanted o (yielded ops a.tmps)=true)(hA:eg S aA a o)(hF:Hd i l w){mk:Nq}(h:ub P kt aA o=some (ob,mk))
 (k:∀g z e o' w' v',Hd i ((g,o')::l) w'→(∀S' nm,S.le S'→S' nm=some (g,z,e)→OR S' z ob o'∧VR S' (mk nm) v')→(∀cs t fz,ob=.cells cs t fz→bI P t=some e∧¬KT t)→bU X fn ops rest i Q (a.put o.dst v') w'):bU X fn ops (j::rest) i Q a w:=by
 unfold eg at hA;unfold ub at h;split at h
 ·next t U =>
  split at h
  ·cases h
  ·next hn =>
   simp only[not_or,Bool.not_eq_false,Bool.not_eq_true] at hn;obtain⟨hz,hk,hs⟩:=hn;split at h
   ·next z hi =>
    cases h;obtain⟨e,he⟩:=Option.ne_none_iff_exists'.1 hs;have Jp:z.cells.toList.all dT=true:=by
     unfold lh at hz;cases a2:P.info? t with
     | none=>simp[a2] at hi
     | some it =>
      have:it.zero=some z:=by simpa[a2] using hi
      simpa[a2,this] using hz
    have a6:∀w,(zeroValue t).run P w=.ok z w:=by
     intro w;have:fT P (zeroValue t)=some z:=by
      unfold zeroValue;simp only[cP,oe];cases a2:P.info? t with
      | none=>simp[a2] at hi
      | some it =>
       have:it.zero=some z:=by simpa[a2] using hi
       simp[this]
     exact(mo this w #[]).1
    refine yD Y.C (Y.Z hF) ho hw U a6 rfl (a1 t hk) hF fun g w' a0=>k g z.cells.size e _ w' _ a0 (fun S' nm hS hg=>⟨nP (AR.kQ Jp),VR.gl hg⟩) fun cs t' fz hc=>?_;cases hc;exact⟨he,a1 _ hk⟩
   ·cases h
 ·next t x U =>
  split at h
  ·cases h
  ·next hn =>simp only[not_or,Bool.not_eq_false,Bool.not_eq_true] at hn;obtain⟨hk,hs⟩:=hn;cases h;obtain⟨e,he⟩:=Option.ne_none_iff_exists'.1 hs;rw[U] at hA;have hx:=(hA x (by simp[Op.operands])).cells;refine DU Y.C (Y.Z hF) ho hw U rfl (a1 t hk) hF fun g w' a0=>k g (a.eval x).cells.size e _ w' _ a0 (fun S' nm hS hg=>⟨nP (hx.mono hS),VR.gl hg⟩) fun cs t' fz hc=>?_;cases hc;exact⟨he,a1 _ hk⟩
 ·next t len parts U =>
  split at h
  ·next e hu =>
   split at h
   ·cases h
   ·next hn =>
    simp only[not_or,Bool.not_eq_false,Bool.not_eq_true,Nat.not_lt] at hn;obtain⟨hz,hk,hl⟩:=hn;split at h
    ·next c hc =>
     cases h;rw[U] at hA;obtain⟨c',sz,h1,h2,h3,h4⟩:=A8 hz (by simpa using pY (S:=S) (aA:=aA) (a:=a) parts.toList fun x hx=>hA x (by simpa[Op.operands] using hx)) hc;have h1:sliced P e len (parts.map fun (i,x)=>(i,a.eval x)).toList=some c':=by simpa using h1
     refine pX Y.C (Y.Z hF) ho hw U hu (a1 e hk) h1 hF fun g w' a0=>k g c'.size sz _ w' _ a0 (fun S' nm hS hg=>⟨nP (h2.mono hS),VR.Cg hg (Nat.le_refl _) (Nat.le_refl _) (by simp[maxLen]; omega) (by rw[← h2.1,h4]; omega)⟩) fun cs t' fz hc=>?_;cases hc;exact⟨h3,a1 _ hk⟩
    ·cases h
  ·cases h
 ·next t x U =>
  rw[U] at hA;have hx:=hA x (by simp[Op.operands]);split at h
  ·next str hu hs =>
   split at h
   ·cases h
   next hq =>cases h;rw[hs] at hx;exact yF Y.C (Y.Z hF) ho hw U hu (hx.sc rfl) (a1 _ (by simpa using hq)) hF fun g w' a0=>k g 0 0 _ w' _ a0 (fun S' nm hS hg=>⟨rfl,VR.gl hg⟩) fun cs t' fz hc=>by cases hc
  ·cases h
 ·next t x y U =>
  rw[U] at hA;have hx:=hA x (by simp[Op.operands]);have hy:=hA y (by simp[Op.operands]);split at h
  ·next e n m hu h1 h2 =>
   rw[h1] at hx;rw[h2] at hy;split at h
   ·next z sz bytes hi =>
    split at h
    ·next hc =>
     obtain⟨rfl,c2,c3,c4,c5,c6⟩:=hc;cases h;obtain⟨it,a3,q1,q2,q3⟩:=info_parts hi;have Jp:z.cells.toList.all dT=true:=by unfold lh at c4;simpa[a3,q1] using c4
     have a5:n=((n.toNat:Nat):Int):=by omega
     have a4:=hx.sc rfl;have qK:=hy.sc rfl;rw[a5] at a4 qK;refine AX Y.C (Y.Z hF) ho hw U hu a3 q1 a4 qK (by omega) (by omega) (by omega) (a1 e c5) hF fun g w' a0=>k g (n.toNat*sz) sz _ w' _ a0 (fun S' nm hS hg=>⟨?_,VR.Cg hg (Nat.le_refl _) (Nat.le_refl _) (by simp[maxLen]; omega) (by omega)⟩) fun cs t' fz hc=>?_
     ·rw[q2]
      have:=nP (S:=S') (t:=e) (fz:=(0,0)) (AR.kQ (S:=S') (JC Jp (n.toNat*sz)));rw[size_madeCells] at this;exact this
     ·cases hc;exact⟨by simp[bI,a3,q2],a1 _ c5⟩
    ·cases h
   ·cases h
  ·cases h
 ·cases h
theorem Cy.fresh(Y:Cy P KT N0 M O R D X Hd)(U:Hd i ((g,o')::l++fr) w):∀o,(g,o)∉l:=by
 intro ob hm
 have:=(Y.Z U).nodup U;simp only[List.cons_append,List.map_cons,List.nodup_cons] at this;exact this.1 (List.mem_map.2 ⟨(g,ob),List.mem_append_left _ hm,rfl⟩)
theorem JW(Y:Cy P KT N0 M O R D X Hd)(ho:ops[j]?=some o)(hw:Region.wanted o (yielded ops a.tmps)=true){x:Operand}(eI:o.op=.next x true)(hA:eg S aA a o)(hS:eK P KT An S s l)(hF:Hd i (l++fr) w){str:ByteArray}(hx:aA.at x=.pointer (sq b))(hb:s.get b=some (.stringIter str pos))(hq:pos<str.size→¬KT (1000+str.size))
 (k1:pos<str.size→Out P KT An Hd S s (s.set b (some (.stringIter str (pos+(Utf8.decode str pos).2)))) fr (.tuple #[.bool true,goInt pos,.int .i32 (Utf8.decode str pos).1]) fun i' v' w'=>bU X fn ops rest i' Q (a.put o.dst v') w')
 (k0:¬pos<str.size→Out P KT An Hd S s s fr (.tuple #[.bool false]) fun i' v' w'=>bU X fn ops rest i' Q (a.put o.dst v') w'):bU X fn ops (j::rest) i Q a w:=by
 unfold eg at hA;rw[eI] at hA;have jB:=hA x (by simp[Op.operands]);rw[hx] at jB;obtain⟨g,z,e,h1,h2⟩:=jB.ptr;obtain⟨kk,o',hk,eH,kG,BQ,MP⟩:=hS.at (fr:=fr) hb h1;cases BQ;have Z:=Y.Z hF;refine aD Y.C ho hw fun aB hR K hK=>?_;have ce:=Z.rely hF hR;obtain⟨hm,hg⟩:=Z.own ce (List.mem_of_getElem? kG);by_cases hp:pos<str.size
 ·have hO:Own KT (M i) aB { aB with heap:=aB.heap.setIfInBounds g (.stringIter str (pos+(Utf8.decode str pos).2)) }:=Own.setObj (hq hp) hm;have hr:(execOp a.eval o).run P aB=.ok (.value (.tuple #[.bool true,.int .i64 pos,.int .i32 (Utf8.decode str pos).1])) { aB with heap:=aB.heap.setIfInBounds g (.stringIter str (pos+(Utf8.decode str pos).2)) }:=by simp[execOp,eI,h2,yN hg hp]
  have he:(execOp a.eval o).events P aB #[]=#[⟨.obj g,false,false⟩,⟨.obj g,true,false⟩]:=by simp[execOp,eI,h2,yN hg hp,xR hg hp]
  rw[hr];have Di:=Z.env.lt hm;have ui:=Z.Bf ce kk kG hO (o':=.stringIter str (pos+(Utf8.decode str pos).2)) (by simp[Array.getElem?_setIfInBounds,Di]) (fun q hq=>by simp[Array.getElem?_setIfInBounds,Ne.symm hq]);rw[List.set_append_left _ _ eH] at ui;refine hK _ _ ⟨?_,k1 hp i S _ _ _ (bC.le_refl S) (fun _ _=>rfl) (hS.wy hb h1 hk (Y.AL hF) rfl fun cs t fz hc=>by cases hc) ui (VR.sa (AR.kQ rfl))⟩;refine Z.env.jr (Z.size ce) hO fun ev hl=>?_;have hl:=mem_listed hl;rw[he] at hl;simp at hl;rcases hl with rfl|rfl
  iterate 2
   ·exact .inr (.inl ⟨g,_,rfl,Z.env.mine hO hm⟩)
 ·have hr:(execOp a.eval o).run P aB=.ok (.value (.tuple #[.bool false])) aB:=by simp[execOp,eI,h2,oM hg hp]
  have he:(execOp a.eval o).events P aB #[]=#[⟨.obj g,false,false⟩]:=by simp[execOp,eI,h2,oM hg hp,qJ hg hp]
  rw[hr];refine hK _ _ ⟨?_,k0 hp i S l aB _ (bC.le_refl S) (fun _ _=>rfl) hS ce (VR.sa (AR.kQ rfl))⟩;refine Z.env.jr (Z.size ce) (Own.refl _) fun ev hl=>?_;have hl:=mem_listed hl;rw[he] at hl;simp at hl;subst hl;exact .inr (.inl ⟨g,_,rfl,hm⟩)
end
end Go.Proofs.YtgcaionclkbehaaGreatDoor
