import Derived.Test.YtgcaionclkbehaaGreatDoorX26
import Derived.Test.YtgcaionclkbehaaGreatDoorX14
set_option linter.all false
set_option maxHeartbeats 4000000
set_option maxRecDepth 100000
namespace Go.Proofs.YtgcaionclkbehaaGreatDoor
open Go.Conc Go.RowKit Go.Lib Tryz
variable [Inhabited KC]
def qk:Nat->Iq->jE->Bool->Option (jE × Bool × Iq)
 | 0,_,_,_=>none
 | n+1,l,dE,sl=>if l=[] then none else if ei l=62 then some (dE,sl,l.tail) else if da (ei l) bL then qk n l.tail dE (ei l==47) else qk n (qp l).2 (jH dE (qp l).1) false
def M6(b:UInt8):da (b.toNat:Int) bL=(AN b.toNat||((b.toNat:Int)==47)):=by
 have k:∀n:_root_.Fin 256,da (n.val:Int) bL=(AN n.val||((n.val:Int)==47)):=dq
 exact k ⟨b.toNat,b.toNat_lt⟩
abbrev lI(kd:Nat)(nm:Bq)(av:Value)(cl:Bool):Aq:=#[num kd,str [],str nm,av,.bool cl]
def xJ (c b0 b1 kd:Nat)(nm:Bq)(t:Bq)(dE:jE)(s S:AS):Prop:=s.nx<=b0/\s.nx<=b1/\b0≠b1/\Has S b0 (.cells (lI 0 [] aX false) 60)/\eQ s.nx s S/\(∃k r d x,Has S c<|jK t k r d x)/\dE.length<=20/\∃av,Has S b1 (.cells (lI kd nm av false) 60)/\fw S av dE/\∀b,blk av b->s.nx<=b
def hY(c kd f b0:Nat)(t:Bq)(at_ b1:Nat)(sl:Bool)(x:Nq):TL:=[aF c 0,num kd,num f,x 3,x 4,x 5,aF b0 0,.bool false,str t,num at_,aF b1 0,.bool sl]++fW x 12 106
def mB(c kd f b0:Nat)(t:Bq)(at_ b1 b2 nx:Nat)(th:Bool)(i:Nat)(x:Nq):TL:=[aF c 0,num kd,num f,x 3,x 4,x 5,aF b0 0,.bool false,str t,num at_,aF b1 0,.bool false,aF b2 0,num nx,.bool th,num i]++fW x 16 102
def J4{b:Type}{f:b->Bool}{l:List b}{i:Nat}{a:b}(h:l[i]?=some a):(l.take<|i+1).any f=((l.take i).any f||f a):=by obtain⟨c,rfl⟩:=gS.1 h;rw[List.take_succ_eq_append_getElem c,List.any_append];simp
def DY{l:jE}{i:Nat}{p:Bq × Bq}(h:l[i]?=some p):(jP l)[2*i]?=some (str p.1)/\2*i+2<=(jP l).size:=by
 refine⟨?_,by rw[np];have:=(gS.1 h).1;omega⟩;induction l generalizing i with
 | nil=>cases h
 | cons q l a =>
  cases i with
  | zero=>cases h;rfl
  | succ i =>have:=a (by simpa using h);rw[show 2*(i+1)=2*i+2 by omega];simp only[jP,K8] at this |-;rw[List.flatMap_cons,Vw iq];simpa using this
section
variable {N c k:Nat}{s:AS}{t d x:Bq}{us:List Tok}{pr:Prim}
def Ql(L:qm pr){S:AS}{kd f b0 b1 g nx d:Nat}{nm:Bq}{b:jE}{A:Bq × Bq}{v:Option Addr}{cp:Nat}(r:Has S b1 (.cells (lI kd nm (.slice v b.length cp) false) 60))(B:Has S g (.cells #[str A.1,str A.2] 47))(D:fw S (.slice v b.length cp) b)(K:b.length<=20)(y:Nq):Ew pr (match f347.body with|some (.seq _<|.seq _<|.seq _<|.seq _<|.seq _<|.seq (.block _<|.loop<|.seq _<|.block _<|.seq _<|.seq _<|.seq _<|.seq _<|.seq (.seq _<|.block _ z) _) _)=>z|_=>.skip) (mB c kd f b0 t d b1 g nx false 0 y) S λe k m=>e=.exit 2/\m=S/\∃i s,k=mB c kd f b0 t d b1 g nx (b.any λp=>ce p.1 A.1) i s:=by
 refine aZ (λu k m=>m=S/\∃i,u+i=b.length/\∃x,k=mB c kd f b0 t d b1 g nx ((b.take i).any λp=>ce p.1 A.1) i x) ?_ b.length _ _ ⟨O,0,O,y,O⟩;rintro u k S ⟨rfl,i,J,x,rfl⟩;refine am <| zr <| zg 2 S <| zp (yl b1 3 _ r.2) <| zk 1 ?_;by_cases l:i<b.length
 .refine zp (nT i b.length l) <| zf <| za S <| zT ?_;have o:b[i]?=some b[i]:=gE l;have n:=J4 (f:=λp=>ce p.1 A.1) o;generalize b[i]=q at o n;rcases D with ⟨e,rfl⟩|⟨ab,cp',fz,e,q1,q2⟩
  .cases o
  cases e;have⟨w,I⟩:=DY o;have F:=e9 (P:=prog) underlying42 O r.2 (off:=3) O;have G:=e9 (P:=prog) underlying9 O q2 (off:=2*i) w;have H:=e9 (P:=prog) underlying9 O B.2 (off:=0) O;have h:∀(a:TL),a=mB c kd f b0 t d b1 g nx ((b.take<|i+1).any λp=>ce p.1 A.1) i (λj=>a.getD j undef)->Ew pr (match f347.body with|some (.seq _<|.seq _<|.seq _<|.seq _<|.seq _<|.seq (.block _<|.loop<|.seq _<|.block _<|.seq _<|.seq _<|.seq _<|.seq _<|.seq (.seq _<|.block _<|.loop<|.seq (.seq _ _)<|.seq _ z) _) _)=>z|_=>.skip) a S (λe k m=>match e with|.normal=>∃C,C<u/\m=S/\∃i,C+i=b.length/\∃x,k=mB c kd f b0 t d b1 g nx ((b.take i).any λp=>ce p.1 A.1) i x|e=>e=.exit 2/\m=S/\∃i s,k=mB c kd f b0 t d b1 g nx (b.any λp=>ce p.1 A.1) i s):=λa E=>by exact EW.fill (mB c kd f b0 t d b1 g nx ((b.take<|i+1).any λp=>ce p.1 A.1) i) E λy=>zx <| zk 1 <| zp (na i 1 oq) <| zf ⟨u-1,oq,kq,i+1,oq,aP kq⟩
  refine am <| aD ?_;cases WT:(b.take i).any λp=>ce p.1 A.1 with
  | true =>
   rw[WT,Bool.true_or] at n;rw[n] at h;refine bO kq kq kq ?_;iterate 2 refine zq ?_
   iterate 9 refine zi kq ?_
   exact zq<|zq<|cg ⟨dh [] kq iq,_,_,_,_,_,_,O,O,za S<|h _ kq⟩
  | false =>
   rw[WT,Bool.false_or] at n;rw[n] at h;exact bO kq kq kq<|zq<|zq<|zq<|zt S <| zu (yl b1 3 _ r.2) <| zq<|zu (yi ab 0 b.length cp (2*i) none .i64 (i:Int) 2 oq oq oq) <| zq<|zt S <| zu (yl ab (2*i) (str q.1) q2 (i:=w)) <| zq<|zt S <| zu (yl g 0 (str A.1) B.2)<|zu (nE q.1 A.1 (ce q.1 A.1) O)<|zq<|zq<|cg ⟨dh [(bA prog 42 (aF b1 3) S,.slice (sq ab) b.length cp),(bA prog 9 (aF ab<|2*i) S,str q.1),(bA prog 9 (aF g 0) S,str A.1)] kq<|W3 F G H,_,_,_,_,_,_,O,O,za S<|h _ kq⟩
 .refine zp (nF i b.length l) <| zf <| za S <| aJ kq (EW.exit ?_);have:i=b.length:=oq
  subst this;rw[List.take_length];exact⟨O,O,b.length,aP kq⟩
end
section
variable {N c k:Nat}{s:AS}{t d x:Bq}{us:List Tok}{pr:Prim}
variable {b0 b1 b2 kd f nx at_:Nat}{nm:Bq}{dE:jE}{A:Bq × Bq}{S:AS}
def Q0{K:Nat->Prop}{n:Nat}{s s':AS}(c:s.nx=n)(h:eQ n s s'):fp K s s':=⟨h.1,λb a _=>h.2 b oq⟩
def SN(hp:qm pr)(R:xJ c b0 b1 kd nm t dE s S)(h2:Has S b2 (.cells #[str A.1,str A.2] 47))(xq:s.nx<=b2)(i:Nat)(y:Nq):Ew pr (match f347.body with|some (.seq _<|.seq _<|.seq _<|.seq _<|.seq _<|.seq (.block _<|.loop<|.seq _<|.block _<|.seq _<|.seq _<|.seq _<|.seq _<|.seq _ z)  _)=>z|_=>.skip) (mB c kd f b0 t at_ b1 b2 nx (dE.any λp=>ce p.1 A.1) i y) S λe E l=>e=.normal/\xJ c b0 b1 kd nm t (jH dE A) s l/\∃L,E=hY c kd f b0 t nx b1 false L:=by
 have v:=R;obtain⟨Y,Z,O,P,Q,⟨k,r,d,x,G⟩,g7,av,o,D,F⟩:=R;have g:∀(l:AS) (T:Bool) (y:Nq),xJ c b0 b1 kd nm t (jH dE A) s l->Ew pr (match f347.body with|some (.seq _<|.seq _<|.seq _<|.seq _<|.seq _<|.seq (.block _<|.loop<|.seq _<|.block _<|.seq _<|.seq _<|.seq _<|.seq _<|.seq _<|.seq _ z) _)=>z|_=>.skip) (mB c kd f b0 t at_ b1 b2 nx T i y) l λe E l=>e=.normal/\xJ c b0 b1 kd nm t (jH dE A) s l/\∃L,E=hY c kd f b0 t nx b1 false L:=λl T y h=>by exact zx <| zf ⟨rfl,by first|exact h|(show xJ c b0 b1 kd nm t (jH dE A) s l;exact h),aP kq⟩
 refine am ?_;have a:jH dE A=if decide (dE.length<20)&&!(dE.any λp=>ce p.1 A.1) then dE++[A] else dE:=rfl;cases WT:dE.any λp=>ce p.1 A.1 with
 | true =>rw[WT,Bool.not_true,Bool.and_false,iw dq] at a;rw[a] at g;refine zr <| zf <| za S <| zF ?_;rw[a];exact EW.fill _ kq λy=>g S true y v
 | false =>
  rw[WT,Bool.not_false,Bool.and_true] at a;obtain⟨B,C,rfl⟩:=D.len;refine zr <| zg 4 S <| zp (yl b1 3 _ o.2) <| zk 1 ?_;by_cases j:dE.length<20
  .rw[tD j,ip rfl] at a;rw[a] at g |-;refine zp (nT dE.length 20 j) <| zf <| za S <| zH ?_;have c3:fw (S.add<|.cells #[str A.1,str A.2] 47) (.slice B dE.length C) dE:=D.fk ((fp.refl (K:=λ_=>False) S).add _) λ_ _=>id;have⟨w,q,U,V,W,X,u,N⟩:=Rr c3 A oq;have J:=D.lt;have n:∀{b:Nat} {cs:Aq} {ty:TypeId} {fz:Nat × Nat},Has S b (.cells cs ty fz)->ty≠47->¬blk (.slice B dE.length C) b:=λ{b cs ty fz} hb Is z=>by
    rcases D with ⟨e,_⟩|⟨ab,cp',Gj,e,q1,q2⟩
    .injection e with e0
     subst e0;have⟨_,_,_,_,z⟩:=z;cases z
    .injection e with e0
     subst e0
     have:=dz z;subst this;rw[hb.2] at q2;cases q2;exact Is rfl
   have M:=(o.add _).fr u<|n o dq;have I:=fJ J;have H:xJ c b0 b1 kd nm t (dE++[A]) s (q.set b1<|some<|.cells (lI kd nm w false) 60):=by
    have m1:=Q.1;have m2:=u.1;refine⟨Y,Z,O,(((P.add _).fr u<|n P dq).set O _),⟨?_,λk hk=>?_⟩,⟨k,r,d,x,((G.add _).fr u<|n G dq).set (λe=>?_) _⟩,by simp;omega,w,M.put _,?_,λb z=>?_⟩
    .simp at m2 |-;omega
    .rw[AS.aU,iw oq,u.2 k (by simp;omega) λz=>by have:=F k z;omega,AS.bu,iw oq];exact Q.2 k hk
    .subst e
     have:=G.2.symm.trans o.2;cases this
    .exact X.fk (fp.set (K:=λb=>b=b1) (fp.refl q) (λ_=>rfl) _) λb z zz=>by
      have:=N b z
      have:=o.1;simp at *;omega
    .have:=N b z;simp at this;omega
   exact zx <| zg 1 S <| zp (yl b1 3 _ o.2) <| zp (yA b2 0 2 #[str A.1,str A.2] h2.2 iq) <| zg 1 _ <| zp (qP (d:=S.nx) (m:=1) (k:=1) (sz:=2) (z:=.agg #[str [],str []]) (bytes:=32) rfl kq kq underlying42 kq rfl dq dq kq (Has.new S _).2 I dq iq iq rfl U) <| zg 1 q <| zp (kB (b:=b1) (off:=3) (w:=w) rfl kq kq V W kq M.2 iq) <| aB (za _<|EW.fill _ kq λy=>g _ false y H)
  .rw[fD j,iw dq] at a;rw[a] at g |-;exact zp (nF dE.length 20 j) <| zf <| za S <| zF (EW.fill _ kq λy=>g S false y v)
def xJ.fr{S':AS}(q:xJ c b0 b1 kd nm t dE s S)(a:eQ S.nx S S'):xJ c b0 b1 kd nm t dE s S':=by obtain⟨g,h,i,j,e,⟨k,r,d,x,l⟩,n,f,o,p,b⟩:=q;have m:=e.1;refine⟨g,h,i,j.oj a,⟨by have:=a.1;omega,λk u=>?_⟩,⟨k,r,d,x,l.oj a⟩,n,f,o.oj a,p.fk (Q0 O a) λ_ _=>id,b⟩;rw[a.2 k oq];exact e.2 k u
theorem Uv (hp:qm pr) (ht:t.length<=1000000) {R:Option (jE × Bool × List Int)} {sl:Bool} (hK:xJ c b0 b1 kd nm t dE s S) (ox:at_<=t.length) (hR:qk (t.length-at_+1) (aO<|t.drop at_) dE sl=R) (y:Nat->Value):EW prog kJ pr (match f347.body with|some (.seq _<|.seq _<|.seq _<|.seq _<|.seq _<|.seq (.block _ z) _)=>z|_=>.skip) (hY c kd f b0 t at_ b1 sl y) S λe a' S'=>e=.exit 0/\∃at' uY qU,xJ c b0 b1 kd nm t uY s S'/\at'<=t.length/\((¬at'<t.length/\R=none)\/(at'<t.length/\R=some (uY,qU,aO<|t.drop<|at'+1)))/\∃y',a'=hY c kd f b0 t at' b1 qU y':=by
 refine aZ (λu a' S'=>∃at' uY qU,t.length-at'<=u/\at'<=t.length/\qk (u+1) (aO<|t.drop at') uY qU=R/\xJ c b0 b1 kd nm t uY s S'/\∃y',a'=hY c kd f b0 t at' b1 qU y') ?_ (t.length-at_) _ _ ⟨at_,dE,sl,lr,ox,hR,hK,y,rfl⟩
 clear hK ox hR
 rintro u a' S0 ⟨at_,dE,sl,hu,ox,hR,hK,y,rfl⟩
 refine am <| zr <| zk 2 <| zp (nl t) ?_
 by_cases iX:at_<t.length
 .
  have hb:t[at_]?=some t[at_]:=gE iX
  generalize t[at_]=b at hb
  obtain ⟨e1,e2,e3⟩:=rS hb
  unfold qk at hR
  rw [iw e2,e1] at hR
  refine zp (nT at_ t.length iX) <| zk 3 <| zp (nx t at_ b hb) ?_
  by_cases YH:(b.toNat:Int)=62
  .
   refine zp (Yz b 62 false<|by rw [YH];rfl) <| zf <| za S0 <| aJ kq (EW.exit ?_)
   rw [ip YH,e3] at hR
   exact ⟨rfl,at_,dE,sl,hK,ox,.inr ⟨iX,hR.symm⟩,aP kq⟩
  .
   refine zp (Yz b 62 true<|by simp [YH]) <| zf <| za S0 <| zT ?_
   rw [iw YH,M6] at hR
   obtain ⟨u,rfl⟩:∃v,u=v+1:=⟨u-1,oq⟩
   refine aD ?_
   have skip:((AN b.toNat||((b.toNat:Int)==47))=true)->∀y,EW prog kJ pr (match f347.body with|some (.seq _<|.seq _<|.seq _<|.seq _<|.seq _<|.seq (.block _<|.loop<|.seq _<|.block _<|.seq (.seq _<|.cond _ z _) _) _)=>z|_=>.skip) (hY c kd f b0 t at_ b1 sl y) S0 λe a' S'=>e=.exit 1/\∃at' uY qU,t.length-at'<=u/\at'<=t.length/\qk (u+1) (aO<|t.drop at') uY qU=R/\xJ c b0 b1 kd nm t uY s S'/\∃y',a'=hY c kd f b0 t at' b1 qU y':=λhm y=>by
    rw [hm,ip rfl,e3] at hR
    refine zr <| zk 2 <| zp (nx t at_ b hb) <| zp (nb b 47 ((b.toNat:Int)==47) rfl) <| zf <| za S0 <| zr <| zk 1 <| zp (na at_ 1 oq) <| zf <| za S0 <| EW.exit ?_
    exact ⟨rfl,at_+1,dE,((b.toNat:Int)==47),oq,oq,hR,hK,aP kq⟩
   have VN:((AN b.toNat||((b.toNat:Int)==47))=true)->∀y,EW prog kJ pr _ (hY c kd f b0 t at_ b1 sl y) S0 (pw prog kJ pr (match f347.body with|some (.seq _<|.seq _<|.seq _<|.seq _<|.seq _<|.seq (.block _<|.loop<|.seq _<|.block _<|.seq _ z) _)=>z|_=>.skip)<|jq 1<|λe a' s'=>match e with|.normal=>∃m',m'<u+1/\∃at' uY qU,t.length-at'<=m'/\at'<=t.length/\qk (m'+1) (aO<|t.drop at') uY qU=R/\xJ c b0 b1 kd nm t uY s s'/\∃y',a'=hY c kd f b0 t at' b1 qU y'|e=>e=.exit 0/\∃at' uY qU,xJ c b0 b1 kd nm t uY s s'/\at'<=t.length/\((¬at'<t.length/\R=none)\/(at'<t.length/\R=some (uY,qU,aO<|t.drop<|at'+1)))/\∃y',a'=hY c kd f b0 t at' b1 qU y'):=λhm y=>by
    refine aN (skip hm y) ?_
    rintro e a' S' ⟨rfl,h⟩
    exact ⟨u,oq,h⟩
   have rest:((AN b.toNat||((b.toNat:Int)==47))=false)->∀y,EW prog kJ pr (match f347.body with|some (.seq _<|.seq _<|.seq _<|.seq _<|.seq _<|.seq (.block _<|.loop<|.seq _<|.block _<|.seq _ z) _)=>z|_=>.skip) (hY c kd f b0 t at_ b1 sl y) S0 λe a' S'=>e=.normal/\∃at' uY qU,t.length-at'<=u/\at'<=t.length/\qk (u+1) (aO<|t.drop at') uY qU=R/\xJ c b0 b1 kd nm t uY s S'/\∃y',a'=hY c kd f b0 t at' b1 qU y':=λhm y=>by
    rw [hm,iw dq] at hR
    obtain ⟨A,r,hA⟩:∃A r,qp (aO<|t.drop at_)=(A,r):=⟨_,_,rfl⟩
    rw [hA] at hR
    have hK1:=hK
    obtain ⟨_,_,_,_,g5,⟨k,r0,d,x,g6⟩,_⟩:=hK1
    obtain ⟨k',S1,f1,f2,f3,f4,f5⟩:=R4 hp g6 ht iX hA
    have hn0:=g5.1
    have ZZ:=f2.1
    have hf:eQ S0.nx S0 ((S1.add<|.cells #[str [],str []] 47).set S1.nx<|some<|.cells #[str A.1,str A.2] 47):=⟨by simp;omega,λk hk=>by rw [AS.aU,iw oq,AS.bu,iw oq];exact f2.2 k hk⟩
    have Yo:Has ((S1.add<|.cells #[str [],str []] 47).set S1.nx<|some<|.cells #[str A.1,str A.2] 47) S1.nx (.cells #[str A.1,str A.2] 47):=(Has.new S1 _).put _
    refine zs <| za S0 <| zr <| zc 2 f1 <| zg 4 (S1.add<|.cells #[str [],str []] 47) <| zp (eA (b:=S1.nx) (off:=0) (w:=.agg #[str A.1,str A.2]) (ws:=[str A.1,str A.2]) rfl kq kq rfl rfl kq (Has.new S1 _).2 iq) <| zf ?_
    refine za ((S1.add<|.cells #[str [],str []] 47).set S1.nx<|some<|.cells #[str A.1,str A.2] 47) ?_
    generalize (S1.add<|.cells #[str [],str []] 47).set S1.nx (some<|.cells #[str A.1,str A.2] 47)=S2 at hf Yo |-
    have hK2:=hK.fr hf
    generalize S1.nx=b2 at ZZ Yo |-
    refine zs <| za S2 <| am <| zs <| za S2 ?_
    refine EW.fill (mB c kd f b0 t at_ b1 b2 k' false 0) kq λy=>?_
    have hK3:=hK2
    obtain ⟨_,_,_,_,_,_,w1,av,w2,w3,_⟩:=hK3
    obtain ⟨ad,cp,rfl⟩:=w3.len
    refine aD <| aN (Ql hp w2 Yo w3 w1 y) ?_
    rintro e a' S3 ⟨rfl,rfl,i,y,rfl⟩
    refine aN (SN hp hK2 Yo oq i y) ?_
    rintro e a' S4 ⟨rfl,z1,y',rfl⟩
    exact ⟨rfl,k',jH dE A,false,oq,f4,by rw [f5];exact hR,z1,y',rfl⟩
   refine am <| zr <| zk 2 <| zp (nx t at_ b hb) <| zc 0 (sD (s:=S0) (hp.no 284 dq) b) ?_
   have VO:((AN b.toNat||((b.toNat:Int)==47))=false)->∀y,EW prog kJ pr _ (hY c kd f b0 t at_ b1 sl y) S0 (jq 1<|λe a' s'=>match e with|.normal=>∃m',m'<u+1/\∃at' uY qU,t.length-at'<=m'/\at'<=t.length/\qk (m'+1) (aO<|t.drop at') uY qU=R/\xJ c b0 b1 kd nm t uY s s'/\∃y',a'=hY c kd f b0 t at' b1 qU y'|e=>e=.exit 0/\∃at' uY qU,xJ c b0 b1 kd nm t uY s s'/\at'<=t.length/\((¬at'<t.length/\R=none)\/(at'<t.length/\R=some (uY,qU,aO<|t.drop<|at'+1)))/\∃y',a'=hY c kd f b0 t at' b1 qU y'):=λhm y=>by
    refine aN (rest hm y) ?_
    rintro e a' S' ⟨rfl,h⟩
    exact ⟨u,oq,h⟩
   clear rest skip
   cases hs:AN b.toNat with
   | true =>
    refine zf <| za S0 <| zH ?_
    exact EW.fill (hY c kd f b0 t at_ b1 sl) kq<|VN<|by rw [hs];rfl
   | false =>
    refine zk 3 <| zp (nx t at_ b hb) <| zp (nb b 47 ((b.toNat:Int)==47) rfl) ?_
    cases ow:(b.toNat:Int)==47 with
    | true =>
     refine zf <| za S0 <| zH ?_
     exact EW.fill (hY c kd f b0 t at_ b1 sl) kq<|VN<|by rw [ow,Bool.or_true]
    | false =>
     refine zf <| za S0 <| zF ?_
     exact EW.fill (hY c kd f b0 t at_ b1 sl) kq<|VO<|by rw [hs,ow];rfl
 .
  refine zp (nF at_ t.length iX) <| zf <| za S0 <| aJ kq (EW.exit ?_)
  unfold qk at hR
  rw [ip (v7 iX)] at hR
  exact ⟨rfl,at_,dE,sl,hK,ox,.inl ⟨iX,hR.symm⟩,aP kq⟩
end
section
variable {N c k:Nat}{s:AS}{t d x:Bq}{us:List Tok}{pr:Prim}
variable {b0 b1 kd f:Nat}{nm:Bq}{dE:jE}{S:AS}
def SR.upd{r:Value}{ts:List fA}{S':AS}{k':Nat}{d' x':Bq}(l:N<=c)(p:∀b,blk r b->N<=b)(a:Has s c (jK t k r d x))(f:jl s r ts)(j:eR s ts us)(o:s.nx<=S'.nx)(h:∀b,b<s.nx->b≠c->S'.get b=s.get b)(n:S'.get c=some (jK t k' r d' x')):SR N c S' t k' d' x' us/\iV N s S':=by
 have g:iV N s S':=⟨o,λb m i=>h b m (by
  rintro rfl;rcases i with i|⟨cs,ty,fz,e1,e2,_⟩
  .omega
  .rw[a.2] at e1;cases e1;exact e2 O)⟩;refine⟨⟨r,ts,l,p,⟨by have:=a.1;omega,n⟩,?_,g.Qn j⟩,g⟩;rcases f with f|⟨e,fz,e1,e2⟩
 .exact .inl f
 .exact .inr ⟨e,fz,e1,⟨by have:=e2.1;omega,(h e e2.1<|e2.ne a dq).trans e2.2⟩⟩
def DW{v:Value}{l:jE}{b:Nat}{cs:Aq}{ty:TypeId}{fz:Nat × Nat}(i:fw s v l)(j:Has s b (.cells cs ty fz))(h:ty≠47)(o:Option Obj):fw (s.set b o) v l:=i.imp id λ⟨c,d,a,e,f,g⟩=>by
 have:Has s c _:=⟨f,g⟩
 have:=this.set (this.ne j<|Ne.symm h) o;exact⟨c,d,a,e,this.1,this.2⟩
def Vg (l:Iq):Option (jE × Bool × Iq):=qk ((dm bE l).2.length+1) (dm bE l).2 [] false
def Nm(m:qm pr){G:Value->AS->Prop}{r0:Value}(H:Has s c (jK t k r0 d x))(u:t.length<=1000000)(I:f<=t.length){R:Option (jE × Bool × Iq)}(n:Vg (aO<|t.drop f)=R)(q:∀(b0 b1 a:Nat) (h:jE) (i:Bool) (S:AS) (y:Nq),xJ c b0 b1 kd (cU<|dl (dm bE<|aO<|t.drop f).1) t h s S->a<=t.length->((¬a<t.length/\R=none)\/(a<t.length/\R=some (h,i,aO<|t.drop<|a+1)))->Ew pr (match f347.body with|some (.seq _<|.seq _<|.seq _<|.seq _<|.seq _<|.seq _ z)=>z|_=>.skip) (hY c kd f b0 t a b1 i y) S λe p B=>(e=.normal\/e=.ret)/\∃v,cN prog f347 p B=some v/\G v B):∃v A,Ef pr 347 #[aF c 0,num kd,num f] s v A/\G v A:=by
 have⟨Q,c2⟩:=ua (t:=t) (w:=bE) I;have E:aO _=(dm bE<|aO<|t.drop f).2:=ub;have F:(t.take<|uE t bE f).drop f=dl (dm bE<|aO<|t.drop f).1:=Dj;have K:=λS=>pZ (s:=S) (w:=bE) (m.no 186 dq) u (show f<=1000000 by omega) dq;unfold Vg at n;rw[<-E,eT,List.length_drop] at n;rw[<-F] at q;generalize uE t bE f=g at *;have J:((t.take g).drop f).length<=1000000:=by rw[List.length_drop,List.length_take];omega
 have l:=λS=>m.low ((t.take g).drop f) S J;generalize cU ((t.take g).drop f)=j at *;refine lN (m.no 347 dq) func347 Y<|zs <| za (s.add<|.cells (lI 0 [] aX false) 60) ?_;have L:=Has.new s<|.cells (lI 0 [] aX false) 60;have M:eQ s.nx s (s.add<|.cells (lI 0 [] aX false) 60):=⟨iq,λk r=>by rw[AS.bu,iw oq]⟩;have i2:=H.add<|.cells (lI 0 [] aX false) 60;have i3:(s.add<|.cells (lI 0 [] aX false) 60).nx=s.nx+1:=Y;generalize s.add _=S at *;refine zr <| zg 3 S <| zp (yl c 0 (str t) i2.2) <| zf <| za S (zr <| zc 2 (K S) <| zf <| za S (zr <| zk 4 <| zp (ns t _ f g oq c2 Y) <| zo S <| zc 0 (l S) ?_));have o:xJ c s.nx S.nx kd j t [] s ((S.add<|.cells (lI 0 [] aX false) 60).set S.nx<|some<|.cells (lI kd j aX false) 60):=by have T:=i2.1;refine⟨lr,oq,oq,(L.add _).set oq _,⟨by simp;omega,λk r=>?_⟩,⟨k,r0,d,x,(i2.add _).set oq _⟩,iq,aX,(Has.new S _).put _,.inl ⟨Y,Y⟩,λb z=>by have⟨_,_,_,_,z⟩:=z;cases z⟩;rw[AS.aU,iw oq,AS.bu,iw oq];exact M.2 k r
 refine zg 2 (S.add<|.cells (lI 0 [] aX false) 60) <| zp (eA (b:=S.nx) (off:=0) (w:=.agg<|lI kd j aX false) Y kq kq Y Y kq (Has.new S _).2 iq) <| aB (za ((S.add<|.cells (lI 0 [] aX false) 60).set S.nx<|some<|.cells (lI kd j aX false) 60) ?_);generalize (S.add<|.cells _ 60).set S.nx _=C at *;refine zs <| za C (EW.fill (hY c kd f s.nx t g S.nx false) kq λy=>(am <| aD <| aN (Uv m u o c2 n y) ?_));rintro e p D ⟨rfl,a,h,i,N,O,P,y,rfl⟩;exact q _ _ a h i D y N O P
def FK{v:Value}{l:jE}(h:fw s v l)(kd:Nat)(nm:Bq)(a:Bool):(lI kd nm v a).toList.all Value.oneCell'=true:=by show((num kd).oneCell'&&((str []).oneCell'&&((str nm).oneCell'&&(v.oneCell'&&((Value.bool a).oneCell'&&true)))))=true;rw[h.one];rfl
def Nj(U:qm pr)(h:SR N c s t k d x us)(W:t.length<=1000000)(T:f<=t.length)(O:Vg (aO<|t.drop f)=none):∃j a,Ef pr 347 #[aF c 0,num kd,num f] s (.tuple #[.agg (cR j).toArray,.bool false]) a/\j.at_.oneCell'=true/\SR N c a t t.length d x us/\iV N s a:=by
 have⟨r,ts,M,V,l,J,K⟩:=h;obtain⟨v,a,q1,j,rfl,q2⟩:=Nm (kd:=kd) U (G:=λv a=>∃j:fA,v=.tuple #[.agg (cR j).toArray,.bool false]/\j.at_.oneCell'=true/\SR N c a t t.length d x us/\iV N s a) l W T O (by
  intro o D m C qU S y L P u;rcases u with ⟨iX,_⟩|⟨_,u⟩
  .have⟨g1,g2,g3,F,p,_,g7,g,H,z,E⟩:=L;have R:=l.1;have I:=l.oj p;refine am <| zr <| zk 2 <| zp (nl t) <| zp (nG m t.length oq) <| zf <| za S <| zH (zr <| zg 2 S <| zp (nl t) <| zg 2 S <| zp (ys c 1 (num t.length) I.2 iq) <| aB (za (S.set c<|some<|jK t t.length r d x) ?_));have A:=F.set (λe=>by omega) (some<|jK t t.length r d x) (c:=c);have Z:=H.set (λe=>by omega) (some<|jK t t.length r d x) (c:=c);have X:=SR.upd (S':=(S.set c<|some<|jK t t.length r d x).set o<|some<|.cells (lI kd (cU<|dl (dm bE<|aO<|t.drop f).1) g false) 60) (d':=d) (x':=x) M V l J K p.1 (λb Q q=>by rw[AS.aU,iw oq,AS.aU,iw q];exact p.2 b Q) (by rw[AS.aU,iw oq,AS.aU,ip rfl]);generalize S.set c _=B at *;generalize cU _=i at *;refine zr <| zp (yA D 0 5 (lI kd i g false) Z.2 iq) <| zp (eA (b:=o) (off:=0) (w:=.agg<|lI kd i g false) rfl kq kq rfl ?_ kq A.2 iq) <| zf <| za (B.set o<|some<|.cells (lI kd i g false) 60) ?_
   .exact FK z kd i false
   exact aE ⟨.inr rfl,_,kX rfl kq (iK (off:=0) (n:=5) underlying60 rfl kq (A.put<|.cells _ 60).2 iq) kq,⟨kd,[],i,g,false⟩,rfl,z.one,X⟩
  .cases u);exact⟨j,a,q1,q2⟩
theorem Nk(hp:qm pr)(h:SR N c s t k d x us)(ht:t.length<=1000000)(hf:f<=t.length)(O:kd=2\/kd=3){a:jE}{m:Bool}{r:Iq}(hR:Vg (aO (t.drop f))=some (a,m,r)):∃(A:fA) (s':AS) (k':Nat),Ef pr 347 #[aF c 0,num (kd:Nat),num (f:Nat)] s (.tuple #[.agg (cR A).toArray,.bool true]) s'/\zA s' A ⟨(kd:Nat),[],cU (dl (dm bE (aO (t.drop f))).1),if kd=3 then [] else a,if kd=3 then false else m⟩/\SR N c s' t k' d x us/\aO (t.drop k')=r/\k'<=t.length/\iV N s s':=by
 have⟨u,ts,hN,hr,J,h4,h5⟩:=h;obtain⟨v,s',q1,A,rfl,k',q2⟩:=Nm (kd:=kd) hp (G:=λv s'=>∃A:fA,v=.tuple #[.agg (cR A).toArray,.bool true]/\∃k',zA s' A ⟨(kd:Nat),[],cU (dl (dm bE (aO (t.drop f))).1),if kd=3 then [] else a,if kd=3 then false else m⟩/\SR N c s' t k' d x us/\aO (t.drop k')=r/\k'<=t.length/\iV N s s') J ht hf hR (by
  intro D o g uY qU S y hK ox H;rcases H with ⟨_,H⟩|⟨iX,H⟩
  .cases H
  cases H;have⟨g1,g2,L,g4,M,_,g7,B,g8,g9,g10⟩:=hK;have Es:=J.1;have U:Has S c (jK t k u d x):=J.oj M;generalize cU _=i at *;refine am <| zr <| zk 2 <| zp (nl t) <| zp (nH g t.length oq) <| zf <| za S <| zF ?_;refine zr <| zk 2 <| zp (na g 1 oq) <| zg 2 S <| zp (ys c 1 (num ((g+1:Nat):Int)) U.2 iq) <| aB ?_;have n1:S.nx<=(S.set c (some (jK t (g+1) u d x))).nx:=l8 _;have m0:∀b,b<s.nx->b≠c->(S.set c (some (jK t (g+1) u d x))).get b=s.get b:=λb C q=>by rw[AS.aU,iw q];exact M.2 b C
  have mc:(S.set c (some (jK t (g+1) u d x))).get c=some (jK t (g+1) u d x):=by rw[AS.aU,ip rfl]
  have m4:=g4.set (λe=>by omega) (some (jK t (g+1) u d x)) (c:=c);have Q:=g8.set (λe=>by omega) (some (jK t (g+1) u d x)) (c:=c);have m9:=DW g9 U dq (some (jK t (g+1) u d x));refine za (S.set c (some (jK t (g+1) u d x))) ?_;generalize S.set c (some (jK t (g+1) u d x))=E at *;have hn:=M.1;have F:∀(p:AS) (l:Value) (j:Bool) (P:jE) (y:Nq),s.nx<=p.nx->(∀b,b<s.nx->b≠c->p.get b=s.get b)->p.get c=some (jK t (g+1) u d x)->Has p D (.cells (lI 0 [] aX false) 60)->Has p o (.cells (lI kd i l j) 60)->fw p l P->Ew pr (match f347.body with|some (.seq _ (.seq _ (.seq _ (.seq _ (.seq _ (.seq _ (.seq _ (.seq _ (.seq _ (.seq _ z))))))))))=>z|_=>.skip) (hY c kd f D t g o m y) p λe a' K=>(e=.normal\/e=.ret)/\∃v,cN prog f347 a' K=some v/\∃A:fA,v=.tuple #[.agg (cR A).toArray,.bool true]/\∃k',zA K A ⟨(kd:Nat),[],i,P,j⟩/\SR N c K t k' d x us/\aO (t.drop k')=aO (t.drop (g+1))/\k'<=t.length/\iV N s K:=by
   intro p l j P y p1 p2 p3 R p5 W;have hz:=R.put (.cells (lI kd i l j) 60);have ha:=DW W R dq (some (.cells (lI kd i l j) 60));have V:=SR.upd (S':=p.set D (some (.cells (lI kd i l j) 60))) (k':=g+1) (d':=d) (x':=x) hN hr J h4 h5 p1 (λb C q=>by rw[AS.aU,iw oq];exact p2 b C q) (by rw[AS.aU,iw oq];exact p3);refine zr <| zp (yA o 0 5 (lI kd i l j) p5.2 iq) <| zp (eA (b:=D) (off:=0) (w:=.agg (lI kd i l j)) (ws:=((lI kd i l j)).toList) rfl kq kq rfl ?_ kq R.2 iq) <| zf <| za (p.set D (some (.cells (lI kd i l j) 60))) ?_
   .exact FK W kd i j
   exact aE ⟨.inr rfl,_,kX rfl kq (iK (off:=0) (n:=5) underlying60 rfl kq hz.2 iq) kq,⟨kd,[],i,l,j⟩,rfl,g+1,⟨rfl,rfl,rfl,rfl,ha⟩,V.1,rfl,iX,V.2⟩
  refine zr <| zg 2 E <| zp (ys o 4 (.bool m) Q.2 iq) <| aB ?_;have Y:∀b,b<s.nx->b≠c->(E.set o (some (.cells (lI kd i B m) 60))).get b=s.get b:=λb C q=>by rw[AS.aU,iw oq];exact m0 b C q
  have wc:(E.set o (some (.cells (lI kd i B m) 60))).get c=some (jK t (g+1) u d x):=by rw[AS.aU,iw oq];exact mc
  have Z:=m4.set L (some (.cells (lI kd i B m) 60));have T:=Q.put (.cells (lI kd i B m) 60);have w9:=DW m9 Q dq (some (.cells (lI kd i B m) 60));have wn:s.nx<=(E.set o (some (.cells (lI kd i B m) 60))).nx:=lT hn n1;refine za (E.set o (some (.cells (lI kd i B m) 60))) ?_;generalize E.set o (some (.cells (lI kd i B m) 60))=p at *;rcases O with rfl|rfl
  .rw[iw dq,iw dq];refine am <| zr <| zf <| za p <| zF ?_;exact EW.fill (hY c 2 f D t g o m) kq λy=>F p B m a y wn Y wc Z T w9
  .rw[ip rfl,ip rfl];refine am <| zr <| zf <| za p <| zH ?_;refine zr <| zg 1 p <| zp (ys o 3 aX T.2 iq) <| aB ?_;have u0:∀b,b<s.nx->b≠c->(p.set o (some (.cells (lI 3 i aX m) 60))).get b=s.get b:=λb C q=>by rw[AS.aU,iw oq];exact Y b C q
   have uc:(p.set o (some (.cells (lI 3 i aX m) 60))).get c=some (jK t (g+1) u d x):=by rw[AS.aU,iw oq];exact wc
   have u4:=Z.set L (some (.cells (lI 3 i aX m) 60));have X:=T.put (.cells (lI 3 i aX m) 60);have un:s.nx<=(p.set o (some (.cells (lI 3 i aX m) 60))).nx:=wn;refine za (p.set o (some (.cells (lI 3 i aX m) 60))) ?_;generalize p.set o (some (.cells (lI 3 i aX m) 60))=I at *;refine zx <| zg 1 I <| zp (ys o 4 (.bool false) X.2 iq) <| aB ?_;have v0:∀b,b<s.nx->b≠c->(I.set o (some (.cells (lI 3 i aX false) 60))).get b=s.get b:=λb C q=>by rw[AS.aU,iw oq];exact u0 b C q
   have vc:(I.set o (some (.cells (lI 3 i aX false) 60))).get c=some (jK t (g+1) u d x):=by rw[AS.aU,iw oq];exact uc
   refine za (I.set o (some (.cells (lI 3 i aX false) 60))) ?_;exact EW.fill (hY c 3 f D t g o m) kq λy=>F _ aX false [] y un v0 vc (u4.set L _) (X.put _) (.inl ⟨rfl,rfl⟩));exact⟨A,s',k',q1,q2⟩
end
def Kj{g:Iq->Bool}:∀(n:Nat) (l:Iq),n<(dF g l).1.length->g (l.drop n)=false
 | _,[],h=>by simp[dF] at h
 | 0,y::l,h=>by
  unfold dF at h;split at h
  .simp at h
  .next hf=>simpa using hf
 | n+1,y::l,h=>by
  unfold dF at h;split at h
  .simp at h
  .simp only[lC,Nat.add_lt_add_iff_right] at h;exact Kj n l h
def I5(b:UInt8):da (b.toNat:Int) bE=(AN b.toNat||(((b.toNat:Int)==47)||((b.toNat:Int)==62))):=by
 have k:∀n:_root_.Fin 256,da (n.val:Int) bE=(AN n.val||(((n.val:Int)==47)||((n.val:Int)==62))):=dq
 exact k ⟨b.toNat,b.toNat_lt⟩
def mi(c:Nat)(nm t:Bq)(en i:Nat)(x:Nq):TL:=[aF c 0,str nm,x 2,x 3,str t,num en,num i]++fW x 7 76
section
variable {N c k:Nat}{s:AS}{t d x:Bq}{us:List Tok}{pr:Prim}
variable {nm:Bq}
def OO{i:Nat}(a:i<=t.length):fS nm (aO<|t.drop i)=(Vf t (60::47::nm) i&&match t[i+2+nm.length]? with|none=>false|some b=>AN b.toNat||(((b.toNat:Int)==47)||((b.toNat:Int)==62))):=by
 unfold fS;rw[M8 a,bD,List.drop_drop];congr 1;rw[show i+(nm.length+2)=i+2+nm.length by omega];cases h:t[i+2+nm.length]? with
 | none=>rw[List.drop_eq_nil_of_le (List.getElem?_eq_none_iff.1 h)];rfl
 | some b=>rw[(rS h).1];exact I5 b
def T6(J:qm pr)(U:t.length<=1000000)(Y:nm.length<=100)(X:k<=t.length){p:Iq × Iq}(n:dF (fS nm) (aO<|t.drop k)=p)(y:Nq):Ew pr (match f348.body with|some (.seq _<|.seq _<|.seq (.seq _<|.block _ z) _)=>z|_=>.skip) (mi c nm t t.length k y) s λe d f=>e=.exit 0/\f=s/\∃i o,d=mi c nm t (k+p.1.length) i o:=by
 have P:=congrArg List.length<|eg (fS nm)<|aO<|t.drop k;have G:∀j,j<p.1.length->fS nm (aO<|t.drop<|k+j)=false:=λj C=>by have:=Kj (g:=fS nm) j (aO<|t.drop k) (by rw[n];exact C);rwa [bD,List.drop_drop] at this
 have v:p.2=[]\/fS nm (aO<|t.drop<|k+p.1.length)=true:=by
  have:=lW (fS nm)<|aO<|t.drop k;have e:aO (t.drop<|k+p.1.length)=p.2:=by rw[<-n,<-bD,<-bD];exact(gL _).2
  rw[n] at this;rw[e];exact this
 rw[n,lA,eT,List.length_drop] at P;generalize T:p.1.length=m at *;have v:k+m=t.length\/fS nm (aO<|t.drop<|k+m)=true:=v.imp (λe=>by rw[e,List.length_nil] at P;omega) id;refine aZ (λu d f=>f=s/\∃j,u+j=m/\∃x,d=mi c nm t t.length (k+j) x) ?_ m _ _ ⟨rfl,0,rfl,y,rfl⟩;rintro u d S ⟨rfl,j,R,x,rfl⟩;refine am <| zr <| zk 2 <| zp (nl t) ?_;by_cases Q:k+j<t.length
 .have H:fS nm (aO<|t.drop<|k+j)=true->j=m:=λe=>by
   by_cases C:j<m
   .rw[G j C] at e;cases e
   .omega
  have I:fS nm (aO<|t.drop<|k+j)=false->j<m:=λe=>by
   by_cases C:j<m
   .exact C
   .have:j=m:=oq
    subst this;rcases v with h|h
    .omega
    .rw[h] at e;cases e
  have a:=OO (nm:=nm) (t:=t) (i:=k+j) oq;refine zp (nT (k+j) t.length Q) <| zf <| za S <| zT ?_;have M:fS nm (aO<|t.drop<|k+j)=false->∀y,Ew pr (match f348.body with|some (.seq _<|.seq _<|.seq (.seq _<|.block _<|.loop<|.seq _<|.seq (.block _ _) z) _)=>z|_=>.skip) (mi c nm t t.length (k+j) y) S (λe d f=>match e with|.normal=>∃q,q<u/\f=S/\∃j,q+j=m/\∃x,d=mi c nm t t.length (k+j) x|e=>e=.exit 0/\f=S/\∃i o,d=mi c nm t (k+m) i o):=λe y=>by have:=I e;exact zx <| zk 1 <| zp (na (k+j) 1 oq) <| zf ⟨u-1,oq,kq,j+1,oq,aP kq⟩
  have F:fS nm (aO<|t.drop<|k+j)=true->∀(O:Nat) (y:Nq),Ew pr (match f348.body with|some (.seq _<|.seq _<|.seq (.seq _<|.block _<|.loop<|.seq _<|.seq (.block _<|.seq _<|.seq _<|.seq _<|.cond _ z _) _) _)=>z|_=>.skip) (mi c nm t O (k+j) y) S (λe d f=>e=.exit 0/\f=S/\∃i o,d=mi c nm t (k+m) i o):=λe O y=>by obtain rfl:=H e;exact zs <| za S <| EW.exit ⟨rfl,rfl,k+j,aP kq⟩
  generalize fS nm (aO<|t.drop<|k+j)=E at *;refine am <| aD (zr <| zk 1 <| zp (na (k+j) 2 oq) <| zk 1 <| zp (nl nm) <| zp (na (k+j+2) nm.length oq) <| zf <| za S ?_);have K:=C1 (pr:=pr) (s:=S) (t:=t) (w:=60::47::nm) (k:=k+j) (J.no 350 dq) (λu R=>J.low u S R) U oq (by simp;omega);refine zr <| zk 3 <| zp (nS [60,47] nm<|by simp;omega) <| zo S <| zc 0 K <| zf <| za S ?_;generalize Vf t (60::47::nm) (k+j)=V at *;have L:E=false->∀(A:Operand) (l:TL) (SS:AS) (N:Code),SS=S->l.at A=.bool false->(l=mi c nm t t.length (k+j) (λi=>l.getD i undef))->Ew pr (.cond A N .skip) l SS (jq 1<|pw prog kJ pr (match f348.body with|some (.seq _<|.seq _<|.seq (.seq _<|.block _<|.loop<|.seq _<|.seq (.block _ _) z) _)=>z|_=>.skip)<|λe d f=>match e with|.normal=>∃q,q<u/\f=S/\∃j,q+j=m/\∃x,d=mi c nm t t.length (k+j) x|e=>e=.exit 0/\f=S/\∃i o,d=mi c nm t (k+m) i o):=by rintro e A l SS N rfl D r;refine aJ D<|EW.skip ?_;show Ew pr _ l _ _;exact EW.fill _ r<|M e
  have B:E=true->∀(A:Operand) (l:TL) (SS:AS),SS=S->l.at A=.bool true->(l=mi c nm t t.length (k+j) (λi=>l.getD i undef))->Ew pr (.cond A (match f348.body with|some (.seq _<|.seq _<|.seq (.seq _<|.block _<|.loop<|.seq _<|.seq (.block _<|.seq _<|.seq _<|.seq _<|.cond _ z _) _) _)=>z|_=>.skip) .skip) l SS (jq 1<|pw prog kJ pr (match f348.body with|some (.seq _<|.seq _<|.seq (.seq _<|.block _<|.loop<|.seq _<|.seq (.block _ _) z) _)=>z|_=>.skip)<|λe d f=>match e with|.normal=>∃q,q<u/\f=S/\∃j,q+j=m/\∃x,d=mi c nm t t.length (k+j) x|e=>e=.exit 0/\f=S/\∃i o,d=mi c nm t (k+m) i o):=by rintro e A l SS rfl D r;refine bU D<|EW.fill _ r λy=>aN (F e _ y) ?_;rintro e d W ⟨rfl,h⟩;exact⟨rfl,h⟩
  cases V with
  | false =>rw[Bool.false_and] at a;exact zr <| zf <| L a _ _ _ _ kq kq kq
  | true =>
   rw[Bool.true_and] at a;refine zr <| zk 4 <| zp (nl t) ?_;by_cases r:k+j+2+nm.length<t.length
   .have n:=gE r;generalize t[k+j+2+nm.length]=b at n;rw[n] at a;simp only at a;refine zp (nT (k+j+2+nm.length) t.length r) <| zk 4 <| zp (nx t _ b n) <| zo S <| zc 0 (sD (s:=S) (J.no 284 dq) b) ?_;cases hs:AN b.toNat with
    | true =>rw[hs] at a;exact zf <| B a _ _ _ kq kq kq
    | false =>
     rw[hs,Bool.false_or] at a;refine zk 3 <| zp (nx t _ b n) <| zp (nb b 47 ((b.toNat:Int)==47) rfl) ?_;cases ow:(b.toNat:Int)==47 with
     | true =>rw[ow] at a;exact zf <| B a _ _ _ kq kq kq
     | false =>
      rw[ow,Bool.false_or] at a;refine zk 4 <| zp (nx t _ b n) <| zp (nb b 62 ((b.toNat:Int)==62) rfl) ?_;cases Q1:(b.toNat:Int)==62 with
      | true =>rw[Q1] at a;exact zf <| B a _ _ _ kq kq kq
      | false =>rw[Q1] at a;exact zf <| L a _ _ _ _ kq kq kq
   .rw[List.getElem?_eq_none oq] at a;exact zp (nF (k+j+2+nm.length) t.length r)<|zf <| L a _ _ _ _ kq kq kq
 .refine zp (nF (k+j) t.length Q) <| zf <| za S <| aJ kq (EW.exit ?_);have e:k+m=t.length:=oq
  rw[e];exact⟨rfl,rfl,k+j,aP kq⟩
def Xu(D:qm pr)(h:SR N c s t k [] x us)(W:t.length<=1000000)(R:nm.length<=100)(P:k<=t.length)(Q:us.length<=900000)(U:N<=s.nx){p:Iq × Iq}(B:dF (fS nm) (aO<|t.drop k)=p):∃d,Ef pr 348 #[aF c 0,str nm] s (.tuple #[]) d/\SR N c d t (k+p.1.length) [] [] (cZ (m6 (ff nm dW)<|dl p.1) us)/\iV N s d:=by
 have⟨r,Z,A,V,l,L,M⟩:=h;have n:=congrArg List.length<|eg (fS nm)<|aO<|t.drop k;rw[B,lA,eT,List.length_drop] at n;have O:=λy=>T6 (c:=c) (s:=s) D W R P B y;have b:=zN (t:=t) (k:=k) (g:=fS nm) rfl;rw[B] at b;generalize hm:k+p.1.length=m at *;have C:(dl p.1).length<=1000000:=by rw[<-b,List.length_drop,List.length_take];omega
 generalize dl p.1=w at *;have⟨H,I,J,K⟩:=eU A l L M k [] w;refine cm (D.no 348 dq) func348 rfl<|zr <| zg 3 s <| zp (yl c 0 (str t) l.2) <| zf <| za s (zr <| zk 1 <| zp (nl t) <| zf <| za s (am <| zr <| zg 3 s <| zp (yl c 1 (num k) l.2) <| zf <| za s (EW.fill _ kq λy=>(aD <| aN (O y) ?_))));rintro e a' S ⟨rfl,rfl,i,y,rfl⟩;refine zr <| zg 5 S <| zp (yl c 1 (num k) l.2) <| zk 1 <| zp (ns t w k m oq oq b) <| zg 2 S <| zp (ys c 4 (str w) l.2 iq) <| aB (za (S.set c<|some<|jK t k r [] w) ?_);generalize S.set c _=u at *;have⟨i3,X,Y,E⟩:=eU A H I J m [] w;refine zr <| zg 4 u <| zp (ys c 1 (num m) H.2 iq) <| aB (za (u.set c<|some<|jK t m r [] w) ?_);generalize u.set c _=v at *;have G:=K.trans E;have T:=G.1;have j:∀F,ff nm dW=F->∃d,Ef pr 277 #[aF c 0,.bool F] v (.tuple #[]) d/\SR N c d t m [] [] (cZ (m6 (ff nm dW) w) us)/\iV N S d:=by rintro F rfl;have⟨z,o,f,q⟩:=nJ D (ff nm dW) ⟨r,Z,A,V,i3,X,Y⟩ C iq Q oq;rw[List.nil_append] at f;exact⟨z,o,f,G.trans q⟩
 have a:ff nm dW=(ce nm [116,105,116,108,101]||(ce nm [116,101,120,116,97,114,101,97]||false)):=rfl;refine zx <| zk 2 <| zp (nE nm [116,105,116,108,101] _ rfl) ?_;cases h1:ce nm [116,105,116,108,101] with
 | true =>obtain⟨z,o,f,q⟩:=j true (by rw[a,h1];rfl);exact zk 4 <| zo v <| zc 0 o <| aB ⟨.inl rfl,kq,f,q⟩
 | false =>refine zk 2 <| zp (nE nm [116,101,120,116,97,114,101,97] _ rfl) ?_;have⟨z,o,f,q⟩:=j (ce nm [116,101,120,116,97,114,101,97]) (by rw[a,h1,Bool.false_or,Bool.or_false]);exact zk 1 <| zo v <| zc 0 o <| aB ⟨.inl rfl,kq,f,q⟩
end
section
variable {l:Iq}{dE:jE}
def MH{st:Bq}(h:da (ei l) st=false):fM st l=([],l):=by
 cases l with
 | nil=>rfl
 | cons y l =>unfold fM dF;rw[ip (by rw[h];rfl)]
def Fb{st:Bq}{y:Int}(h:da y st=true):fM st (y::l)=(y::(fM st l).1,(fM st l).2):=by
 conv=>lhs;unfold fM dF
 rw[iw (by show ¬(!da y st)=true;rw[h];decide)];rfl
def UG{st:Bq}(h:l=[]\/da (ei l) st=true):dm st l=([],l):=by
 cases l with
 | nil=>rfl
 | cons y l =>
  rcases h with h|h
  .cases h
  .unfold dm dF;rw[ip h]
def yx{y:Int}{l:Iq}(h:l≠[]):(y::l).getLast?=l.getLast?:=by
 cases l with
 | nil=>exact absurd O h
 | cons a l=>rfl
def aah{y:Int}(h:da y aK=true):da y bL=true/\y≠47:=by
 unfold da at h |-;rw[List.any_eq_true] at h;have⟨b,a,e⟩:=h;have e:=eq_of_beq e;refine⟨?_,?_⟩
 .rw[List.any_eq_true];exact⟨b,yC _ a,by rw[e];simp⟩
 .rw[e];simp only[aK,pS,IA,or_false] at a;rcases a with rfl|rfl|rfl|rfl|rfl<;>decide
def Uw{m:Nat}{y:Int}(h:da y aK=true):iT dl cU e8 (m+1) (y::l) dE=iT dl cU e8 (m+1) l dE:=by
 have⟨a,b⟩:=aah h;unfold iT;rw[Fb a];simp only;by_cases e:(fM bL l).1=[]
 .rw[e];have:((some y:Option Int)==some 47)=false:=by simp[b]
  simp only[List.getLast?_singleton,List.getLast?_nil,this];rfl
 .rw[yx e]
def Nt{m:Nat}:∀l:Iq,iT dl cU e8 (m+1) (fM aK l).2 dE=iT dl cU e8 (m+1) l dE
 | []=>rfl
 | y::l=>by
  cases h:da y aK with
  | false=>rw[MH (l:=y::l) h]
  | true=>rw[Fb h,Uw h];exact Nt l
def R2(h:l≠[]):(qp l).1=(jG dl cU e8 l).1/\((qp l).2=(jG dl cU e8 l).2\/(fM aK (qp l).2).2=(jG dl cU e8 l).2)/\(qp l).2.length<l.length:=by
 have f:=EA.2 h;have m:(dm cz l.tail).2.length<=l.tail.length:=ml;have j:l.tail.length=l.length-1:=RH;unfold qp jG;by_cases a:ei (fM aK (dm cz l.tail).2).2=61
 .rw[ip a,ip a];have n:(fM aK (dm cz l.tail).2).2.length<=(dm cz l.tail).2.length:=sy;have o:(fM aK (fM aK (dm cz l.tail).2).2.tail).2.length<=(fM aK (dm cz l.tail).2).2.tail.length:=sy;have p:(fM aK (dm cz l.tail).2).2.tail.length=(fM aK (dm cz l.tail).2).2.length-1:=RH;generalize (fM aK (fM aK (dm cz l.tail).2).2.tail).2=r at *;have q:r.length<l.length:=oq
  generalize cU _=g;have k:NP g r=((g,e8 (nY dl r).1 1),(nY dl r).2):=by
   unfold NP nY;by_cases d:r=[]\/ei r=62
   .have b:ei r≠34:=by rcases d with rfl|e<;>first|decide|(rw[e];decide)
    have c:ei r≠39:=by rcases d with rfl|e<;>first|decide|(rw[e];decide)
    rw[ip d,iw b,iw c,UG<|d.imp id λe=>by rw[e];decide];rfl
   .rw[iw d];by_cases b:ei r=34
    .rw[ip b,ip b]
    .rw[iw b,iw b];by_cases c:ei r=39
     .rw[ip c,ip c]
     .rw[iw c,iw c]
  rw[k];have i:(nY dl r).2.length<=r.length:=NS;exact⟨O,.inl O,by show(nY dl r).2.length<_;omega⟩
 .rw[iw a,iw a];exact⟨O,.inr O,by show(dm cz l.tail).2.length<_;omega⟩
def Nn:∀(n m:Nat) (l:Iq) (a:jE) (sl:Bool),l.length<n->l.length<m->qk n l a sl=if (fM bL l).1=[]/\ei l=62 then some (a,sl,l.tail) else iT dl cU e8 m l a
 | 0,_,_,_,_,h,_=>by omega
 | _+1,0,_,_,_,_,h=>by omega
 | n+1,m+1,[],a,sl,_,_=>by unfold qk iT;rw[ip O,iw dq];rfl
 | n+1,m+1,y::l,a,sl,h,h2=>by
  have fal:∀(l:Iq) (a:jE),l.length<n->l.length<m->qk n l a false=iT dl cU e8 m l a:=λl a r s=>by
   rw[Nn n m l a false r s];split
   .next e =>
    obtain⟨m,rfl⟩:∃k,m=k+1:=⟨m-1,oq⟩;have f:fM bL l=([],l):=by have:=eg (λl=>!da (ei l) bL) l;have d:(dF (λl=>!da (ei l) bL) l).1=[]:=e.1;rw[d,List.nil_append] at this;exact Prod.ext d this
    unfold iT;rw[f];simp only;rw[iw (λc=>by rw[c] at e;exact absurd e.2 dq),ip e.2];rfl
   .rfl
  unfold qk;rw[iw iq];show(if y=62 then _ else _)=_;simp only[lC] at h h2;by_cases b:y=62
  .rw[ip b,ip ⟨by rw[MH (l:=y::l) (by show da y bL=false;rw[b];decide)],b⟩]
  .rw[iw b,show(if (fM bL (y::l)).1=[]/\ei (y::l)=62 then some _ else iT dl cU e8 (m+1) (y::l) a)=iT dl cU e8 (m+1) (y::l) a from iw (λe=>b e.2)];show(if da y bL=true then qk n l a (y==47) else _)=_;cases hs:da y bL with
   | true =>
    rw[ip O,Nn n (m+1) l a (y==47) oq oq];conv=>rhs;unfold iT
    rw[Fb hs];simp only;by_cases e:(fM bL l).1=[]
    .have f:fM bL l=([],l):=by have:=eg (λl=>!da (ei l) bL) l;have d:(dF (λl=>!da (ei l) bL) l).1=[]:=e;rw[d,List.nil_append] at this;exact Prod.ext d this
     rw[f];simp only[List.getLast?_singleton];by_cases c:ei l=62
     .rw[ip ⟨trivial,c⟩,iw<|λp=>by rw[p] at c;exact absurd c dq,ip c];rfl
     .rw[iw (λq=>c q.2)];conv=>lhs;unfold iT
      rw[f];simp only;rw[iw c,iw c]
    .rw[iw (λq=>e q.1),yx e];conv=>lhs;unfold iT
   | false =>
    rw[iw dq];have⟨g,i,j⟩:=R2 (l:=y::l) iq;have o:(jG dl cU e8 (y::l)).2.length<(y::l).length:=uZ iq;simp only[lC] at j o;rw[fal _ _ oq oq,g];conv=>rhs;unfold iT
    rw[MH (l:=y::l) hs];simp only;rw[iw iq,iw<|show ¬ei (y::l)=62 from b];obtain⟨m,rfl⟩:∃k,m=k+1:=⟨m-1,oq⟩;rcases i with e|e
    .rw[e]
    .rw[<-e,Nt]
def Qk:Vg l=vr dl cU e8 l:=by
 unfold Vg vr;have:(dm bE l).2.length<=l.length:=ml;rw[Nn _ (l.length+1) _ _ _ (Nat.lt_succ_self _) oq];split
 .next e =>
  have b:fM bL (dm bE l).2=([],(dm bE l).2):=by have:=eg (λl=>!da (ei l) bL) (dm bE l).2;have a:(dF (λl=>!da _ bL) (dm bE l).2).1=[]:=e.1;rw[a,List.nil_append] at this;exact Prod.ext a this
  unfold iT;rw[b];simp only;rw[iw (λc=>by rw[c] at e;exact absurd e.2 dq),ip e.2];rfl
 .rfl
end
def Bd (k:Nat)(d x:Bq)(us:List Tok):Prop:=us.length<=3*k/\d.length+4*x.length<=4*k
def Dt (T:List Tok)(N c:Nat)(s:AS)(t:Bq)(k:Nat)(s':AS):Prop:=∃k' d' x' us',SR N c s' t k' d' x' us'/\eG cU e8 T (aO<|t.drop k') us' d' x'/\k<k'/\k'<=t.length/\Bd k' d' x' us'/\iV N s s'
def eI(c:Nat)(t:Bq)(k:Nat)(b:UInt8)(al en:Bool)(x:Nq):TL:=[aF c 0,x 1,.bool false,str t,num k,.int .u8 (b.toNat:Int),.bool al,.bool en]++fW x 8 214
def pM(a:Bq)(us:List Tok):(cZ a us).length<=us.length+1:=by
 unfold cZ;split
 .omega
 .simp
def JN:e8 [] 0=[]:=O
def u1{t:Bq}{k':Nat}{r:Iq}(a:k'<=t.length)(h:aO (t.drop k')=r):r.length=t.length-k':=by rw[<-h,eT,List.length_drop]
section
variable {N c k:Nat}{s:AS}{t d x:Bq}{us:List Tok}{pr:Prim}
variable {T:List Tok}{b:UInt8}{al en:Bool}
def aaj(hp:qm pr)(h:SR N c s t k d x us)(WS:t.length<=200000)(vT:N<=s.nx)(hB:Bd k d x us)(hI:eG cU e8 T (aO<|t.drop k) us d x)(qJ:dx (aO<|t.drop k)=3)(Rd:k+3<=t.length)(y:Nq):Ew pr (match f276.body with|some (.seq _<|.seq _<|.seq _<|.seq _<|.seq _<|.seq _<|.seq _<|.seq (.block _<|.seq _<|.cond _ _<|.seq _<|.cond _ _<|.seq _<|.cond _ _<|.seq _<|.cond _ z _) _)=>z|_=>.skip) (eI c t k b al en y) s (λe a' s1=>e=.normal/\Dt T N c s t k s1/\∃al en y,a'=eI c t k b al en y):=by
 have⟨U4,Gl⟩:=hB;have⟨S1,e1,h1,f1⟩:=Ny hp true h oq oq;have hi:=Lq JN qJ hI;have⟨r,ts,hN,hr,h3,h4,h5⟩:=h1;have⟨g3,g4,g5,gf⟩:=eU hN h3 h4 h5 (k+3) (d++m6 true x) [];refine zr <| zc 1 e1 <| aB <| zx <| zk 2 <| zp (na k 3 oq) <| zg 2 S1 <| zp (ys c 1 _ h3.2 iq) <| aB ⟨O,⟨k+3,d++m6 true x,[],us,⟨r,ts,hN,hr,g3,g4,g5⟩,?_,oq,Rd,⟨oq,?_⟩,f1.trans gf⟩,al,en,aP kq⟩
 .rw[bD,List.drop_drop] at hi;exact hi
 .have:=C7 true x;simp;omega
def TJ(hp:qm pr)(h:SR N c s t k d x us)(WS:t.length<=200000)(vT:N<=s.nx)(hB:Bd k d x us)(hI:eG cU e8 T (aO<|t.drop k) us d x){w:Nat}(hw:w=if (b.toNat:Int)==63 then 1 else 2)(qJ:eG cU e8 T (dm [62]<|(aO<|t.drop k).drop w).2.tail (cZ (d++e8 x 0) us++[⟨4,dl (dm [62]<|(aO<|t.drop k).drop w).1,[],[],false⟩]) [] [])(Rd:k+2<=t.length)(y:Nq):Ew pr (match f276.body with|some (.seq _<|.seq _<|.seq _<|.seq _<|.seq _<|.seq _<|.seq _<|.seq (.block _<|.seq _<|.cond _ _<|.seq _<|.cond _ _<|.seq _<|.cond _ _<|.seq _<|.cond _ _<|.seq _<|.cond _ _<|.seq _<|.cond _ _<|.seq _<|.cond _ z _) _)=>z|_=>.skip) (eI c t k b al en y) s (λe a' s1=>e=.normal/\Dt T N c s t k s1/\∃al en y,a'=eI c t k b al en y):=by
 have ht:t.length<=1000000:=oq
 have⟨U4,Gl⟩:=hB;have hU:=pM (d++e8 x 0) us;have⟨S1,e1,h1,f1⟩:=nJ hp true h oq oq oq vT;have hwle:1<=w/\w<=2:=by rw[hw];split<;>omega
 rw[bD,List.drop_drop] at qJ;have htx:(t.take<|k+w+(dm [62]<|aO<|t.drop<|k+w).1.length).drop (k+w)=dl (dm [62]<|aO<|t.drop<|k+w).1:=zN O;have Q8:aO (t.drop<|k+w+(dm [62]<|aO<|t.drop<|k+w).1.length)=(dm [62]<|aO<|t.drop<|k+w).2:=by rw[<-bD,<-bD];exact(gL _).2
 have Et:=congrArg List.length<|eg (λl=>da (ei l) [62])<|aO<|t.drop<|k+w;rw[lA,eT,List.length_drop] at Et;have hfd:=SH (t:=t) (k:=k+w) (c:=62) oq;have Ra:=λS=>El (s:=S) (k:=k+w) (w:=[62]) (hp.no 294 dq) ht oq dq;rw[hfd] at Ra;change (dm [62]<|aO<|t.drop<|k+w).1.length+(dm [62]<|aO<|t.drop<|k+w).2.length=t.length-(k+w) at Et;generalize dm [62] (aO<|t.drop<|k+w)=p at *;have key:∃(k':Nat) (S2:AS),Ef pr 353 #[aF c 0,num ((k+w:Nat):Int),num<|if p.2=[] then -1 else ((k+w+p.1.length:Nat):Int),num 1] S1 (str<|dl p.1) S2/\SR N c S2 t k' [] [] (cZ (d++m6 true x) us)/\iV N S1 S2/\aO (t.drop k')=p.2.tail/\k<k'/\k'<=t.length:=by
  by_cases h0:p.2=[]
  .rw[ip h0];have⟨S2,q1,q2,q3⟩:=Hr hp h1 (fr:=k+w) (n:=1) oq;have hz:t.drop (k+w)=dl p.1:=by rw[h0,List.length_nil] at Et;rw[<-htx,tL oq]
   rw[hz] at q1;exact⟨t.length,S2,q1,q2,q3,by rw[List.drop_length,h0];rfl,oq,lr⟩
  .rw[iw h0];have hpos:=EA.2 h0;have⟨S2,q1,q2,q3⟩:=Hs hp h1 (fr:=k+w) (m:=k+w+p.1.length) (n:=1) oq oq ht oq;rw[htx] at q1;exact⟨_,S2,q1,q2,q3,by rw[<-Q8,<-bD,<-bD,List.tail_drop],oq,oq⟩
 have⟨k',S2,q1,q2,q3,q4,q5,q6⟩:=key;generalize (if p.2=[] then -1 else ((k+w+p.1.length:Nat):Int))=E at *;have f2:=f1.trans q3;have Tl:=f2.1;have⟨r,ts,hN,hr,h3,h4,h5⟩:=q2;have⟨W,S3,a1,a2,a3,a5,a6,_⟩:=yK hN hr h3 h4 h5 (by show(cZ (d++e8 x 0) us).length<=_;omega) oq ⟨4,dl p.1,[],aX,false⟩ ⟨4,dl p.1,[],[],false⟩ ⟨O,O,O,O,.inl ⟨O,O⟩⟩;have⟨b1,b2⟩:=a6 [] [];have fin:∀y,Ew pr (match f276.body with|some (.seq _<|.seq _<|.seq _<|.seq _<|.seq _<|.seq _<|.seq _<|.seq (.block _<|.seq _<|.cond _ _<|.seq _<|.cond _ _<|.seq _<|.cond _ _<|.seq _<|.cond _ _<|.seq _<|.cond _ _<|.seq _<|.cond _ _<|.seq _<|.cond _ (.seq _<|.seq _<|.seq _ z) _) _)=>z|_=>.skip) ([aF c 0,y 1,.bool false,str t,num k,.int .u8 (b.toNat:Int),.bool al,.bool en,y 8,y 9,y 10,y 11,y 12,y 13,num ((k+w:Nat):Int)]++fW y 15 207) S1 (λe a' s1=>e=.normal/\Dt T N c s t k s1/\∃al en y,a'=eI c t k b al en y):=λy=>by
  refine zr <| zc 2 (Ra S1) <| zf <| za S1 <| zr <| zc 3 q1 <| zf <| za S2 (zx <| zg 4 S2 <| zp (yl c 2 r h3.2) <| zg 3 _ <| zp (Va ⟨4,dl p.1,[],aX,false⟩ O (fJ<|jl.lt h4) a1) <| zg 2 S3 <| zp (kB (b:=c) (off:=2) (w:=W) O kq kq a2 a3 kq a5.2 iq) <| aB (⟨O,⟨k',[],[],_,b1,?_,q5,q6,⟨?_,iq⟩,f2.trans b2⟩,al,en,aP kq⟩))
  .rw[q4];exact qJ
  .show(cZ (d++e8 x 0) us++[_]).length<=_;rw[lA];simp;omega
 refine zr <| zc 1 e1 <| aB <| zr <| zk 1 <| zp (na k 2 oq) <| zf <| za S1 <| am <| zr <| zk 1 <| zp (nb b 63 ((b.toNat:Int)==63) O) ?_;cases Zq:(b.toNat:Int)==63 with
 | true =>rw[Zq,ip O] at hw;subst hw;exact zf <| za S1 <| zH <| zx <| zk 1 <| zp (na k 1 oq) <| zf <| za S1<|EW.fill (λy=>[aF c 0,y 1,.bool false,str t,num k,.int .u8 (b.toNat:Int),.bool al,.bool en,y 8,y 9,y 10,y 11,y 12,y 13,num ((k+1:Nat):Int)]++fW y 15 207) kq fin
 | false =>rw[Zq,iw dq] at hw;subst hw;exact zf <| za S1 <| zF<|EW.fill (λy=>[aF c 0,y 1,.bool false,str t,num k,.int .u8 (b.toNat:Int),.bool al,.bool en,y 8,y 9,y 10,y 11,y 12,y 13,num ((k+2:Nat):Int)]++fW y 15 207) kq fin
def aak(hp:qm pr)(h:SR N c s t k d x us)(WS:t.length<=200000)(vT:N<=s.nx)(hB:Bd k d x us)(hI:eG cU e8 T (aO<|t.drop k) us d x)(qJ:dx (aO<|t.drop k)=5)(Rd:k+4<=t.length)(y:Nq):Ew pr (match f276.body with|some (.seq _<|.seq _<|.seq _<|.seq _<|.seq _<|.seq _<|.seq _<|.seq (.block _<|.seq _<|.cond _ _<|.seq _<|.cond _ _<|.seq _<|.cond _ _<|.seq _<|.cond _ _<|.seq _<|.cond _ z _) _)=>z|_=>.skip) (eI c t k b al en y) s (λe a' s1=>e=.normal/\Dt T N c s t k s1/\∃al en y,a'=eI c t k b al en y):=by
 have ht:t.length<=1000000:=oq
 have⟨U4,Gl⟩:=hB;have hU:=pM (d++e8 x 0) us;have⟨S1,e1,h1,f1⟩:=nJ hp true h oq oq oq vT;have hi:=Pj JN qJ hI O;rw[bD,List.drop_drop] at hi;have⟨S2,k',q1,q2,q4,q6,q3⟩:=H0 hp h1 ht Rd O;have ZP:k<k':=by have l1:=u1 q6 q4;have l2:=td Kv<|aO<|t.drop<|k+2;rw[List.length_drop,] at l1;rw[eT,List.length_drop] at l2;omega
 have f2:=f1.trans q3;have Tl:=f2.1;have⟨r,ts,hN,hr,h3,h4,h5⟩:=q2;have⟨W,S3,a1,a2,a3,a5,a6,_⟩:=yK hN hr h3 h4 h5 (by show(cZ (d++e8 x 0) us).length<=_;omega) oq ⟨4,dl<|(dF Kv<|aO<|t.drop<|k+2).1.drop 2,[],aX,false⟩ ⟨4,dl<|(dF Kv<|aO<|t.drop<|k+2).1.drop 2,[],[],false⟩ ⟨O,O,O,O,.inl ⟨O,O⟩⟩;have⟨b1,b2⟩:=a6 [] [];refine zr <| zc 1 e1 <| aB <| zr <| zc 1 q1 <| zf <| za S2 (zx <| zg 4 S2 <| zp (yl c 2 r h3.2) <| zg 3 _ <| zp (Va ⟨4,dl<|(dF Kv<|aO<|t.drop<|k+2).1.drop 2,[],aX,false⟩ O (fJ<|jl.lt h4) a1) <| zg 2 S3 <| zp (kB (b:=c) (off:=2) (w:=W) O kq kq a2 a3 kq a5.2 iq) <| aB (⟨O,⟨k',[],[],_,b1,?_,ZP,q6,⟨?_,iq⟩,f2.trans b2⟩,al,en,aP kq⟩))
 .rw[q4];exact hi
 .show(cZ (d++e8 x 0) us++[_]).length<=_;rw[lA];simp;omega
def aal(hp:qm pr)(h:SR N c s t k d x us)(WS:t.length<=200000)(vT:N<=s.nx)(hB:Bd k d x us)(hI:eG cU e8 T (aO<|t.drop k) us d x)(qJ:dx (aO<|t.drop k)=6)(Rd:k+9<=t.length)(y:Nq):Ew pr (match f276.body with|some (.seq _<|.seq _<|.seq _<|.seq _<|.seq _<|.seq _<|.seq _<|.seq (.block _<|.seq _<|.cond _ _<|.seq _<|.cond _ _<|.seq _<|.cond _ _<|.seq _<|.cond _ _<|.seq _<|.cond _ _<|.seq _<|.cond _ z _) _)=>z|_=>.skip) (eI c t k b al en y) s (λe a' s1=>e=.normal/\Dt T N c s t k s1/\∃al en y,a'=eI c t k b al en y):=by
 have ht:t.length<=1000000:=oq
 have⟨U4,Gl⟩:=hB;have hU:=pM (d++e8 x 0) us;have⟨S1,e1,h1,f1⟩:=nJ hp true h oq oq oq vT;have hi:=Pk JN qJ hI O;rw[bD,List.drop_drop] at hi;have⟨S2,k',q1,q2,q4,q6,q3⟩:=H9 hp h1 ht Rd O;have ZP:k<k':=by have l1:=u1 q6 q4;have l2:(fM aK<|aO<|t.drop<|k+9).2.length<=(aO<|t.drop<|k+9).length:=sy;have l3:(dm (aK++[62]) (fM aK<|aO<|t.drop<|k+9).2).2.length<=(fM aK<|aO<|t.drop<|k+9).2.length:=ml;have l4:(dm [62] (dm (aK++[62]) (fM aK<|aO<|t.drop<|k+9).2).2).2.length<=(dm (aK++[62]) (fM aK<|aO<|t.drop<|k+9).2).2.length:=ml;rw[List.length_tail] at l1;rw[eT,List.length_drop] at l2;omega
 have f2:=f1.trans q3;have Tl:=f2.1;have⟨r,ts,hN,hr,h3,h4,h5⟩:=q2;have⟨W,S3,a1,a2,a3,a5,a6,_⟩:=yK hN hr h3 h4 h5 (by show(cZ (d++e8 x 0) us).length<=_;omega) oq ⟨5,[],cU<|dl (dm (aK++[62]) (fM aK<|aO<|t.drop<|k+9).2).1,aX,false⟩ ⟨5,[],cU<|dl (dm (aK++[62]) (fM aK<|aO<|t.drop<|k+9).2).1,[],false⟩ ⟨O,O,O,O,.inl ⟨O,O⟩⟩;have⟨b1,b2⟩:=a6 [] [];refine zr <| zc 1 e1 <| aB <| zr <| zc 1 q1 <| zf <| za S2 (zx <| zg 4 S2 <| zp (yl c 2 r h3.2) <| zg 3 _ <| zp (Va ⟨5,[],cU<|dl (dm (aK++[62]) (fM aK<|aO<|t.drop<|k+9).2).1,aX,false⟩ O (fJ<|jl.lt h4) a1) <| zg 2 S3 <| zp (kB (b:=c) (off:=2) (w:=W) O kq kq a2 a3 kq a5.2 iq) <| aB (⟨O,⟨k',[],[],_,b1,?_,ZP,q6,⟨?_,iq⟩,f2.trans b2⟩,al,en,aP kq⟩))
 .rw[q4];exact hi
 .show(cZ (d++e8 x 0) us++[_]).length<=_;rw[lA];simp;omega
def aai(hp:qm pr)(h:SR N c s t k d x us)(WS:t.length<=200000)(vT:N<=s.nx)(hB:Bd k d x us)(hI:eG cU e8 T (aO<|t.drop k) us d x)(qJ:dx (aO<|t.drop k)=2)(Rd:k+2<t.length)(y:Nq):Ew pr (match f276.body with|some (.seq _<|.seq _<|.seq _<|.seq _<|.seq _<|.seq _<|.seq _<|.seq (.block _<|.seq _<|.cond _ _<|.seq _<|.cond _ z _) _)=>z|_=>.skip) (eI c t k b al en y) s (λe a' s1=>e=.normal/\Dt T N c s t k s1/\∃al en y,a'=eI c t k b al en y):=by
 have ht:t.length<=1000000:=oq
 have⟨U4,Gl⟩:=hB;have hU:=pM (d++e8 x 0) us;have⟨S1,e1,h1,f1⟩:=nJ hp true h oq oq oq vT;have N7:(aO<|t.drop k).tail.tail=aO (t.drop<|k+2):=by rw[<-List.drop_one,<-List.drop_one,List.drop_drop,bD,List.drop_drop]
 have ZZ:=f1.1;refine zr <| zc 1 e1 <| aB ?_;cases hR:vr dl cU e8 (aO<|t.drop<|k+2) with
 | none =>
  have hi:=Ln JN qJ hI (by rw[N7];exact hR);have⟨tk,S2,q1,q2,q3,q4⟩:=Nj (kd:=3) hp h1 ht (f:=k+2) oq<|Qk.trans hR;have hf:eQ S2.nx S2 ((S2.add<|.cells (cR ⟨0,[],[],aX,false⟩).toArray 60).set S2.nx<|some<|.cells (cR tk).toArray 60):=⟨iq,λk hk=>by rw[AS.aU,iw oq,AS.bu,iw oq]⟩;refine zr <| zk 2 <| zp (na k 2 oq) <| zo S1 <| zc 0 q1 <| zg 4 (S2.add<|.cells (cR ⟨0,[],[],aX,false⟩).toArray 60) <| zp (eA (b:=S2.nx) (off:=0) (w:=.agg (cR tk).toArray) (ws:=cR tk) O kq kq O (nW _ q2) kq (Has.new S2 _).2 iq) <| zf (za ((S2.add<|.cells (cR ⟨0,[],[],aX,false⟩).toArray 60).set S2.nx<|some<|.cells (cR tk).toArray 60) ?_);generalize (S2.add<|.cells (cR ⟨0,[],[],aX,false⟩).toArray 60).set S2.nx _=S3 at *;refine zr <| zf <| za S3 <| zF ⟨O,⟨t.length,[],[],_,q3.fr hf,?_,oq,lr,⟨?_,iq⟩,(f1.trans q4).trans<|iV.of hf⟩,al,en,aP kq⟩
  .rw[List.drop_length];exact hi
  .show(cZ (d++e8 x 0) us).length<=_;omega
 | some P =>
  have⟨a,cl,r⟩:=P;have iX:=Hl hR;have⟨tk,S2,k',q1,q2,q3,q4,q5,q6⟩:=Nk (kd:=3) hp h1 ht (f:=k+2) oq dq<|Qk.trans hR;have Re:=u1 q5 q4;simp only at iX;rw[Re,eT,List.length_drop] at iX;have ox:tk.at_.oneCell'=true:=q2.2.2.2.2.one;have hf:eQ S2.nx S2 ((S2.add<|.cells (cR ⟨0,[],[],aX,false⟩).toArray 60).set S2.nx<|some<|.cells (cR tk).toArray 60):=⟨iq,λk hk=>by rw[AS.aU,iw oq,AS.bu,iw oq]⟩;have h8:Has ((S2.add<|.cells (cR ⟨0,[],[],aX,false⟩).toArray 60).set S2.nx<|some<|.cells (cR tk).toArray 60) S2.nx (.cells (cR tk).toArray 60):=(Has.new S2 _).put _;refine zr <| zk 2 <| zp (na k 2 oq) <| zo S1 <| zc 0 q1 <| zg 4 (S2.add<|.cells (cR ⟨0,[],[],aX,false⟩).toArray 60) <| zp (eA (b:=S2.nx) (off:=0) (w:=.agg (cR tk).toArray) (ws:=cR tk) O kq kq O (nW _ ox) kq (Has.new S2 _).2 iq) <| zf (za ((S2.add<|.cells (cR ⟨0,[],[],aX,false⟩).toArray 60).set S2.nx<|some<|.cells (cR tk).toArray 60) ?_);have q3':=q3.fr hf;have f2:=(f1.trans q6).trans<|iV.of hf;have q2':zA _ tk _:=⟨q2.1,q2.2.1,q2.2.2.1,q2.2.2.2.1,(iV.of (N:=N) hf).Y7 q2.2.2.2.2⟩;have Bj:=q2.2.2.1;have hq3:=q3;have⟨r0,ts0,_,_,_,p4,_⟩:=hq3;generalize (S2.add<|.cells (cR ⟨0,[],[],aX,false⟩).toArray 60).set S2.nx _=S3 at *;have hn3:=f2.1;have⟨r1,ts,hN,hr,h3,h4,h5⟩:=q3';have ZD:=fJ<|jl.lt h4;have hvq:bN 20 (.agg (cR tk).toArray)=true:=by have:=q2.2.2.2.2.qz.2.1;show((bN 19<|num tk.kind)&&((bN 19<|str tk.text)&&((bN 19<|str tk.name)&&((bN 19 tk.at_)&&((bN 19<|Value.bool tk.closed)&&true)))))=true;rw[this];rfl
  have⟨W,S4,a1,a2,a3,a5,a6,a7,a8⟩:=yK hN hr h3 h4 h5 (by show(cZ (d++e8 x 0) us).length<=_;omega) oq tk _ q2';have⟨b1,b2⟩:=a6 [] [];have ZR:=e9 (P:=prog) underlying56 O h3.2 (off:=2) O;have Tk:=iK (off:=0) (n:=5) underlying60 O kq h8.2 iq;generalize hb8:S2.nx=b8 at *;refine zr <| zf <| za S3 <| zH<|bO kq kq kq<|zq<|zq<|zq<|zq<|zt S3 <| zu (yl c 2 r1 h3.2) <| zu (yA b8 0 5 (cR tk).toArray h8.2 iq) <| zq<|zt _ <| zu (Va tk ox ZD a1)<|zq<|zq<|zt S4 <| zu (kB (b:=c) (off:=2) (w:=W) O kq kq a2 a3 kq a5.2 iq) (cg ⟨dh [(bA prog 56 (aF c 2) S3,r1),(bA prog 60 (aF b8 0) S3,.agg (cR tk).toArray)] kq<|o9 ZR Tk (jl.qz h4) hvq,_,_,_,_,_,_,O,O,?_⟩);have hi:=Lo JN qJ hI (by rw[N7];exact hR);rw[N7] at hi;refine⟨O,⟨k',[],[],_,b1,?_,oq,q5,⟨?_,iq⟩,f2.trans b2⟩,al,en,aP kq⟩
  .rw[q4];exact hi
  .show(cZ (d++e8 x 0) us++[_]).length<=_;rw[lA];simp;omega
def mkA(hp:qm pr)(h:SR N c s t k d x us)(WS:t.length<=200000)(vT:N<=s.nx)(hB:Bd k d x us)(hI:eG cU e8 T (aO<|t.drop k) us d x)(qJ:dx (aO<|t.drop k)=1)(Rd:k+1<t.length)(y:Nq):Ew pr (match f276.body with|some (.seq _<|.seq _<|.seq _<|.seq _<|.seq _<|.seq _<|.seq _<|.seq (.block _<|.seq _<|.cond _ z _) _)=>z|_=>.skip) (eI c t k b al en y) s (λe a' s1=>e=.normal/\Dt T N c s t k s1/\∃al en y,a'=eI c t k b al en y):=by
 have ht:t.length<=1000000:=oq
 have⟨U4,Gl⟩:=hB;have hU:=pM (d++e8 x 0) us;have⟨S1,e1,h1,f1⟩:=nJ hp true h oq oq oq vT;have N7:(aO<|t.drop k).tail=aO (t.drop<|k+1):=by rw[<-List.drop_one,bD,List.drop_drop]
 have ZZ:=f1.1;refine zr <| zc 1 e1 <| aB ?_;cases hR:vr dl cU e8 (aO<|t.drop<|k+1) with
 | none =>
  have hi:=Ev JN qJ hI (by rw[N7];exact hR);have⟨tk,S2,q1,q2,q3,q4⟩:=Nj (kd:=2) hp h1 ht (f:=k+1) oq<|Qk.trans hR;have hf:eQ S2.nx S2 ((S2.add<|.cells (cR ⟨0,[],[],aX,false⟩).toArray 60).set S2.nx<|some<|.cells (cR tk).toArray 60):=⟨iq,λk hk=>by rw[AS.aU,iw oq,AS.bu,iw oq]⟩;refine zr <| zk 2 <| zp (na k 1 oq) <| zo S1 <| zc 0 q1 <| zg 4 (S2.add<|.cells (cR ⟨0,[],[],aX,false⟩).toArray 60) <| zp (eA (b:=S2.nx) (off:=0) (w:=.agg (cR tk).toArray) (ws:=cR tk) O kq kq O (nW _ q2) kq (Has.new S2 _).2 iq) <| zf (za ((S2.add<|.cells (cR ⟨0,[],[],aX,false⟩).toArray 60).set S2.nx<|some<|.cells (cR tk).toArray 60) ?_);generalize (S2.add<|.cells (cR ⟨0,[],[],aX,false⟩).toArray 60).set S2.nx (some<|.cells (cR tk).toArray 60)=S3 at *;refine zr <| zf <| za S3 <| zF ⟨O,⟨t.length,[],[],_,q3.fr hf,?_,oq,lr,⟨?_,iq⟩,(f1.trans q4).trans<|iV.of hf⟩,al,en,aP kq⟩
  .rw[List.drop_length];exact hi
  .show(cZ (d++e8 x 0) us).length<=_;omega
 | some P =>
  have⟨a,cl,r⟩:=P;have iX:=Hl hR;have⟨tk,S2,k',q1,q2,q3,q4,q5,q6⟩:=Nk (kd:=2) hp h1 ht (f:=k+1) oq dq<|Qk.trans hR;have Re:=u1 q5 q4;simp only at iX;rw[Re,eT,List.length_drop] at iX;have ox:tk.at_.oneCell'=true:=q2.2.2.2.2.one;have hf:eQ S2.nx S2 ((S2.add<|.cells (cR ⟨0,[],[],aX,false⟩).toArray 60).set S2.nx<|some<|.cells (cR tk).toArray 60):=⟨iq,λk hk=>by rw[AS.aU,iw oq,AS.bu,iw oq]⟩;have h8:Has ((S2.add<|.cells (cR ⟨0,[],[],aX,false⟩).toArray 60).set S2.nx<|some<|.cells (cR tk).toArray 60) S2.nx (.cells (cR tk).toArray 60):=(Has.new S2 _).put _;refine zr <| zk 2 <| zp (na k 1 oq) <| zo S1 <| zc 0 q1 <| zg 4 (S2.add<|.cells (cR ⟨0,[],[],aX,false⟩).toArray 60) <| zp (eA (b:=S2.nx) (off:=0) (w:=.agg (cR tk).toArray) (ws:=cR tk) O kq kq O (nW _ ox) kq (Has.new S2 _).2 iq) <| zf (za ((S2.add<|.cells (cR ⟨0,[],[],aX,false⟩).toArray 60).set S2.nx<|some<|.cells (cR tk).toArray 60) ?_);have q3':=q3.fr hf;have f2:iV N s ((S2.add<|.cells (cR ⟨0,[],[],aX,false⟩).toArray 60).set S2.nx<|some<|.cells (cR tk).toArray 60):=(f1.trans q6).trans<|iV.of hf;have q2':zA ((S2.add<|.cells (cR ⟨0,[],[],aX,false⟩).toArray 60).set S2.nx<|some<|.cells (cR tk).toArray 60) tk _:=⟨q2.1,q2.2.1,q2.2.2.1,q2.2.2.2.1,(iV.of (N:=N) hf).Y7 q2.2.2.2.2⟩;have Bj:tk.name=cU (dl (dm bE<|aO<|t.drop<|k+1).1):=q2.2.2.1;have hq3:=q3;have⟨r0,ts0,_,_,_,p4,_⟩:=hq3;generalize (S2.add<|.cells (cR ⟨0,[],[],aX,false⟩).toArray 60).set S2.nx (some<|.cells (cR tk).toArray 60)=S3 at *;have hn3:=f2.1;have⟨r1,ts,hN,hr,h3,h4,h5⟩:=q3';have ZD:=fJ<|jl.lt h4;have hvq:bN 20 (.agg (cR tk).toArray)=true:=by have:=q2.2.2.2.2.qz.2.1;show((bN 19<|num tk.kind)&&((bN 19<|str tk.text)&&((bN 19<|str tk.name)&&((bN 19 tk.at_)&&((bN 19<|Value.bool tk.closed)&&true)))))=true;rw[this];rfl
  have⟨W,S4,a1,a2,a3,a5,a6,a7,a8⟩:=yK hN hr h3 h4 h5 (by show(cZ (d++e8 x 0) us).length<=_;omega) oq tk _ q2';have⟨b1,b2⟩:=a6 [] [];have ZR:bA prog 56 (aF c 2) S3=some r1:=e9 (P:=prog) underlying56 O h3.2 (off:=2) O;have Tk:bA prog 60 (aF S2.nx 0) S3=some (.agg (cR tk).toArray):=iK (off:=0) (n:=5) underlying60 O kq h8.2 iq;have p8:∀z,blk r1 z->z<S2.nx:=λz hz=>by
   have⟨r2,ts2,_,_,w3,w4,_⟩:=q3;have e:r2=r1:=by have:=(hf.2 c w3.1).symm.trans h3.2;rw[w3.2] at this;cases this;rfl
   subst e;exact jl.lt w4 z hz
  generalize hb8:S2.nx=b8 at *;refine zr <| zf <| za S3 <| zH<|am <| bO kq kq kq<|zq<|zq<|zq<|zq<|zt S3 <| zu (yl c 2 r1 h3.2) <| zu (yA b8 0 5 (cR tk).toArray h8.2 iq) <| zq<|zt (S3.add<|.cells (cR tk).toArray 60) <| zu (Va tk ox ZD a1)<|zq<|zq<|zt S4 <| zu (kB (b:=c) (off:=2) (w:=W) O kq kq a2 a3 kq a5.2 iq) (cg ⟨dh [(bA prog 56 (aF c 2) S3,r1),(bA prog 60 (aF b8 0) S3,.agg (cR tk).toArray)] kq<|o9 ZR Tk (jl.qz h4) hvq,_,_,_,_,_,_,O,O,za (S4.set c<|some<|jK t k' W [] []) ?_⟩);have f4:=f2.trans b2;have V7:Has (S4.set c<|some<|jK t k' W [] []) b8 (.cells (cR tk).toArray 60):=by
   have ZT:=h8.1;have nb:¬blk r1 b8:=λz=>by
    have:=h4.blk z
    have:=p8 b8 z;omega
   have nc:b8≠c:=h8.ne h3 dq;exact⟨by show b8<S4.nx;omega,by rw[AS.aU,iw nc,a8 b8 ZT nb];exact h8.2⟩
  generalize S4.set c (some<|jK t k' W [] [])=S5 at *;have hn5:=f4.1;have Il:om tk.name=(ce tk.name [115,99,114,105,112,116]||(ce tk.name [115,116,121,108,101]||false)||(ce tk.name [116,105,116,108,101]||(ce tk.name [116,101,120,116,97,114,101,97]||false))):=rfl;have O5:=Ey JN qJ hI (by rw[N7];exact hR);have O6:=λe=>Ez JN qJ hI (by rw[N7];exact hR) e O;rw[N7] at O5 O6;change om (cU<|dl (dm bE<|aO<|t.drop<|k+1).1)=false->eG cU e8 T r (cZ (d++e8 x 0) us++[⟨2,[],cU<|dl (dm bE<|aO<|t.drop<|k+1).1,a,cl⟩]) [] [] at O5;change om (cU<|dl (dm bE<|aO<|t.drop<|k+1).1)=true->eG cU e8 T (dF (fS<|cU<|dl (dm bE<|aO<|t.drop<|k+1).1) r).2 (cZ (m6 (ff (cU<|dl (dm bE<|aO<|t.drop<|k+1).1) dW)<|dl (dF (fS<|cU<|dl (dm bE<|aO<|t.drop<|k+1).1) r).1)<|cZ (d++e8 x 0) us++[⟨2,[],cU<|dl (dm bE<|aO<|t.drop<|k+1).1,a,cl⟩]) [] [] at O6;change SR N c S5 t k' [] [] (cZ (d++e8 x 0) us++[⟨2,[],cU<|dl (dm bE<|aO<|t.drop<|k+1).1,a,cl⟩]) at b1;rw[<-Bj] at O5 O6 b1;have no:om tk.name=false->∀y:Nq,Ew pr .skip (eI c t k b al en y) S5 (λe a' s1=>e=.normal/\Dt T N c s t k s1/\∃al en y,a'=eI c t k b al en y):=λe y=>by
   refine EW.skip ⟨O,⟨k',[],[],_,b1,?_,oq,q5,⟨?_,iq⟩,f4⟩,al,en,y,O⟩
   .rw[q4];exact O5 e
   .rw[lA];simp;omega
  have YM:om tk.name=true->∀y:Nq,Ew pr (match f276.body with|some (.seq _<|.seq _<|.seq _<|.seq _<|.seq _<|.seq _<|.seq _<|.seq (.block _<|.seq _<|.cond _ (.seq _<|.seq _<|.seq _<|.cond _ (.seq _<|.seq _<|.cond _ z _) _) _) _)=>z|_=>.skip) (eI c t k b al en<|λj=>if j=8 then aF b8 0 else y j) S5 (λe a' s1=>e=.normal/\Dt T N c s t k s1/\∃al en y,a'=eI c t k b al en y):=λe y=>by
   have WC:tk.name.length<=100:=by rw[Il] at e;simp only[Bool.or_false,FM] at e;rcases e with (e|e)|(e|e)<;>rw[(eS _ _).1 e]<;>decide
   have⟨S6,z1,z2,z3⟩:=Xu hp b1 ht WC q5 (by rw[lA];simp;omega) oq O;refine zx <| zg 2 S5 <| zp (yl b8 2 (str tk.name) V7.2) <| zc 0 z1 <| aB ?_;have hl6:=congrArg List.length<|eg (fS tk.name)<|aO<|t.drop k';rw[lA,eT,List.length_drop] at hl6;have hE:=pM (m6 (ff tk.name dW)<|dl (dF (fS tk.name)<|aO<|t.drop k').1)<|cZ (d++e8 x 0) us++[⟨2,[],tk.name,a,cl⟩];rw[lA] at hE;simp at hE;refine⟨O,⟨k'+(dF (fS tk.name)<|aO<|t.drop k').1.length,[],[],_,z2,?_,oq,oq,⟨oq,iq⟩,f4.trans z3⟩,al,en,aP kq⟩
   have:=O6 e;rw[<-q4] at this;have e2:aO (t.drop<|k'+(dF (fS tk.name)<|aO<|t.drop k').1.length)=(dF (fS tk.name)<|aO<|t.drop k').2:=by rw[<-bD,<-bD];exact(gL _).2
   rw[e2];exact this
  refine zr <| zg 1 S5 <| zp (yl b8 2 (str tk.name) V7.2) <| zp (nE tk.name [115,99,114,105,112,116] _ O) ?_;cases n1:ce tk.name [115,99,114,105,112,116] with
  | true =>exact zf <| za S5 <| zH<|EW.fill (λy=>eI c t k b al en<|λj=>if j=8 then aF b8 0 else y j) kq<|YM<|by rw[Il,n1];rfl
  | false =>
   refine zg 2 S5 <| zp (yl b8 2 (str tk.name) V7.2) <| zp (nE tk.name [115,116,121,108,101] _ O) ?_;cases n2:ce tk.name [115,116,121,108,101] with
   | true =>exact zf <| za S5 <| zH<|EW.fill (λy=>eI c t k b al en<|λj=>if j=8 then aF b8 0 else y j) kq<|YM<|by rw[Il,n1,n2];rfl
   | false =>
    refine zg 3 S5 <| zp (yl b8 2 (str tk.name) V7.2) <| zp (nE tk.name [116,105,116,108,101] _ O) ?_;cases n3:ce tk.name [116,105,116,108,101] with
    | true =>exact zf <| za S5 <| zH<|EW.fill (λy=>eI c t k b al en<|λj=>if j=8 then aF b8 0 else y j) kq<|YM<|by rw[Il,n1,n2,n3];rfl
    | false =>
     refine zg 3 S5 <| zp (yl b8 2 (str tk.name) V7.2) <| zp (nE tk.name [116,101,120,116,97,114,101,97] _ O) ?_;cases n4:ce tk.name [116,101,120,116,97,114,101,97] with
     | true =>exact zf <| za S5 <| zH<|EW.fill (λy=>eI c t k b al en<|λj=>if j=8 then aF b8 0 else y j) kq<|YM<|by rw[Il,n1,n2,n3,n4];rfl
     | false =>exact zf <| za S5 <| aJ kq<|EW.fill (eI c t k b al en) kq<|no<|by rw[Il,n1,n2,n3,n4];rfl
end
def FH(b:UInt8):eW (b.toNat:Int)=DU b.toNat:=by
 have k:∀n:_root_.Fin 256,eW (n.val:Int)=DU n.val:=dq
 exact k ⟨b.toNat,b.toNat_lt⟩
def KL (t:Bq)(k:Nat)(b:UInt8):Bool:=((b.toNat:Int)==47)&&match t[k+2]? with|none=>false|some b2=>DU b2.toNat
section
variable {N c k:Nat}{s:AS}{t d x:Bq}{us:List Tok}{pr:Prim}
variable {T:List Tok}{b:UInt8}
def LO(i:qm pr){r:Value}(j:Has s c (jK t k r d x))(q:t.length<=1000000)(l:t[k+1]?=some b){V:Value}{G:AS->Prop}(a:∀y,Ew pr (match f276.body with|some (.seq _<|.seq _<|.seq _<|.seq _<|.seq _<|.seq _<|.seq _ z)=>z|_=>.skip) (eI c t k b (DU b.toNat) (KL t k b) y) s<|λe o n=>(e=.normal\/e=.ret)/\cN prog f276 o n=some V/\G n):∃m,Ef pr 276 #[aF c 0] s V m/\G m:=by
 have p:=(gS.1 l).1;refine cm (i.no 276 dq) func276 O<|zs <| za s <| zr <| zg 3 s <| zp (yl c 0 (str t) j.2) <| zf <| za s <| zr <| zg 3 s <| zp (yl c 1 (num k) j.2) <| zf <| za s<|am <| zr <| zk 1 <| zp (na k 1 oq) <| zk 1 <| zp (nl t) <| zp (nH (k+1) t.length oq) <| zf <| za s <| zF<|zr <| zk 2 <| zp (na k 1 oq) <| zp (nx t (k+1) b l) <| zf <| za s <| zr <| zc 1 (zC (s:=s) (i.no 278 dq) b) <| zf <| za s<|zr <| zk 1 <| zp (nb b 47 _ O) ?_;unfold KL at a;cases ow:(b.toNat:Int)==47 with
 | false =>rw[ow] at a;exact zf <| za s<|EW.fill _ kq a
 | true =>
  rw[ow,Bool.true_and] at a;refine zk 2 <| zp (na k 2 oq) <| zk 1 <| zp (nl t) ?_;by_cases h:k+2<t.length
  .have f:=gE h;generalize t[k+2]=g at f;rw[f] at a;exact zp (nT (k+2) t.length h) <| zk 4 <| zp (na k 2 oq) <| zp (nx t (k+2) g f) <| zo s <| zc 0 (zC (s:=s) (i.no 278 dq) g) <| zf <| za s (EW.fill _ kq a)
  .rw[List.getElem?_eq_none oq] at a;exact zp (nF (k+2) t.length h) <| zf <| za s (EW.fill _ kq a)
def Cb{w:Bq}{j:Nat}(a:j<=t.length)(h:dg (aO<|t.drop j) w=true):j+w.length<=t.length:=by have:=rR h;rw[List.length_drop] at this;omega
def LN(q:qm pr)(h:SR N c s t k d x us)(o:t.length<=200000)(n:N<=s.nx)(K:Bd k d x us)(A:eG cU e8 T (aO<|t.drop k) us d x)(P:t[k]?=some 60):(dx (aO<|t.drop k)=0->Ef pr 276 #[aF c 0] s (.bool false) s)/\(dx (aO<|t.drop k)≠0->∃O,Ef pr 276 #[aF c 0] s (.bool true) O/\Dt T N c s t k O):=by
 have Y:t.length<=1000000:=oq
 have⟨l1,l2,l3⟩:=rS P;have Yp:k<t.length:=(gS.1 P).1;have Q:=h;have⟨r,ts,hN,hr,U,h4,h5⟩:=Q;have a:dx (aO<|t.drop k)=bif eW (ei<|aO<|t.drop<|k+1) then 1 else bif ei (aO<|t.drop<|k+1)==47 then M3 (aO<|t.drop<|k+1).tail else bif dg (aO<|t.drop<|k+1) [33,45,45] then 5 else bif dg (aO<|t.drop<|k+1) JG then 6 else bif ei (aO<|t.drop<|k+1)==33 then 7 else bif ei (aO<|t.drop<|k+1)==63 then 8 else 0:=by unfold dx;rw[l1,l3];rfl
 by_cases L:k+1<t.length
 .have V:t[k+1]?=some t[k+1]:=gE L;generalize t[k+1]=b at V;have⟨Z,m2,m3⟩:=rS V;rw[Z,m3,FH] at a;have S:=λ(w:Bq) (hw:w.length<=100)=>C1 (pr:=pr) (s:=s) (t:=t) (w:=w) (k:=k+1) (q.no 350 dq) (λu hu=>q.low u s hu) Y oq oq;have f:=S [33,45,45] dq;have g:=S JG dq;rw[M8 oq] at f g;have H:=Cb (t:=t) (w:=[33,45,45]) (j:=k+1) oq;have I:=Cb (t:=t) (w:=JG) (j:=k+1) oq;have i:(∀y,Ew pr (match f276.body with|some (.seq _<|.seq _<|.seq _<|.seq _<|.seq _<|.seq _<|.seq _ z)=>z|_=>.skip) (eI c t k b (DU b.toNat) (KL t k b) y) s<|λe F p=>(e=.normal\/e=.ret)/\cN prog f276 F p=some (.bool true)/\Dt T N c s t k p)->∃O,Ef pr 276 #[aF c 0] s (.bool true) O/\Dt T N c s t k O:=λQ=>LO q U Y V Q;have v:(∀y,Ew pr (match f276.body with|some (.seq _<|.seq _<|.seq _<|.seq _<|.seq _<|.seq _<|.seq _ z)=>z|_=>.skip) (eI c t k b (DU b.toNat) (KL t k b) y) s<|λe F p=>(e=.normal\/e=.ret)/\cN prog f276 F p=some (.bool false)/\p=s)->Ef pr 276 #[aF c 0] s (.bool false) s:=λQ=>by obtain⟨O,q1,rfl⟩:=LO q U Y V Q;exact q1
  have J:∀e F p,(e=.normal/\Dt T N c s t k p/\∃al en y,F=eI c t k b al en y)->jq 0 (pw prog kJ pr (match f276.body with|some (.seq _<|.seq _<|.seq _<|.seq _<|.seq _<|.seq _<|.seq _<|.seq _ z)=>z|_=>.skip)<|λe F p=>(e=.normal\/e=.ret)/\cN prog f276 F p=some (.bool true)/\Dt T N c s t k p) e F p:=by rintro e F p ⟨rfl,h,al,en,y,rfl⟩;show Ew pr _ _ p _;exact zs <| za p <| aE ⟨.inr rfl,kq,h⟩
  cases Yk:DU b.toNat with
  | true =>rw[Yk] at a i;simp only[cond_true] at a;exact⟨λe=>(by rw[a] at e;cases e),λ_=>i λy=>am <| aD <| zr <| zf <| za s <| zH (EW.fill (eI c t k b true<|KL t k b) kq λy=>aN (mkA q h o n K A a L y) J)⟩
  | false =>
   rw[Yk] at a i v;simp only[cond_false] at a;cases ow:(b.toNat:Int)==47 with
   | true =>
    rw[ow] at a;simp only[cond_true] at a;by_cases W:k+2<t.length
    .have B:t[k+2]?=some t[k+2]:=gE W;generalize t[k+2]=G at B;have⟨n1,n2,n3⟩:=rS B;have C:KL t k b=DU G.toNat:=by unfold KL;rw[ow,B];rfl
     rw[C] at i v;have X:M3 (aO<|t.drop<|k+2)=bif DU G.toNat then 2 else bif (G.toNat:Int)==62 then 3 else 4:=by
      unfold M3;rw[n1,FH];cases hq:aO (t.drop<|k+2) with
      | nil=>exact absurd hq n2
      | cons=>rfl
     rw[X] at a;cases ha2:DU G.toNat with
     | true =>rw[ha2] at a i;simp only[cond_true] at a;exact⟨λe=>(by rw[a] at e;cases e),λ_=>i λy=>am <| aD <| zr <| zf <| za s <| zG <| zr <| zf <| za s <| zH (EW.fill (eI c t k b false true) kq λy=>aN (aai q h o n K A a W y) J)⟩
     | false =>
      rw[ha2] at a i;simp only[cond_false] at a;cases Q1:(G.toNat:Int)==62 with
      | true =>rw[Q1] at a;simp only[cond_true] at a;exact⟨λe=>(by rw[a] at e;cases e),λ_=>i λy=>am <| aD <| zr <| zf <| za s <| zG <| zr <| zf <| za s <| zG (zr <| zk 1 <| zp (nb b 47 true ow) <| zk 2 <| zp (na k 2 oq) <| zk 1 <| zp (nl t) <| zp (nH (k+2) t.length oq) <| zf <| za s <| zG (zr <| zk 1 <| zp (nb b 47 true ow) <| zk 3 <| zp (na k 2 oq) <| zp (nx t (k+2) G B) <| zp (nb G 62 true Q1) <| zf <| za s <| zH (EW.fill (eI c t k b false false) kq λy=>aN (aaj q h o n K A a oq y) J)))⟩
      | false =>
       rw[Q1] at a;simp only[cond_false] at a;have l:((b.toNat:Int)==63)=false:=by rw[eq_of_beq ow];rfl
       have m:((b.toNat:Int)==33)=false:=by rw[eq_of_beq ow];rfl
       have R:=Gy JN (.inl a) A;have D:dg (aO<|t.drop<|k+1) [33,45,45]=false:=by unfold dg;rw[Z,eq_of_beq ow];rfl
       have E:dg (aO<|t.drop<|k+1) JG=false:=by unfold dg;rw[Z,eq_of_beq ow];rfl
       rw[D] at f;rw[E] at g;exact⟨λe=>(by rw[a] at e;cases e),λ_=>i λy=>am <| aD <| zr <| zf <| za s <| zG <| zr <| zf <| za s <| zG (zr <| zk 1 <| zp (nb b 47 true ow) <| zk 2 <| zp (na k 2 oq) <| zk 1 <| zp (nl t) <| zp (nH (k+2) t.length oq) <| zf <| za s <| zG (zr <| zk 1 <| zp (nb b 47 true ow) <| zk 3 <| zp (na k 2 oq) <| zp (nx t (k+2) G B) <| zp (nb G 62 false Q1) <| zf <| za s <| zG (zr <| zk 2 <| zp (na k 1 oq) <| zo s <| zc 0 f <| zf <| za s <| zG (zr <| zk 2 <| zp (na k 1 oq) <| zo s <| zc 0 g <| zf <| za s <| zG (zr <| zk 1 <| zp (nb b 33 false m) <| zk 2 <| zp (nb b 63 false l) <| zk 3 <| zp (nb b 47 true ow) <| zf <| za s <| zH (EW.fill (eI c t k b false false) kq λy=>aN (TJ q h o n K A (w:=2) (by rw[l];rfl) R oq y) J))))))⟩
    .have C:KL t k b=false:=by unfold KL;rw[ow,List.getElem?_eq_none oq];rfl
     rw[C] at v;rw[show aO (t.drop<|k+2)=[] from v7 W] at a;exact⟨λ_=>v λy=>am <| aD <| zr <| zf <| za s <| zG <| zr <| zf <| za s <| zG (zr <| zk 1 <| zp (nb b 47 true ow) <| zk 2 <| zp (na k 2 oq) <| zk 1 <| zp (nl t) <| zp (nG (k+2) t.length oq) <| zf <| za s <| zH (zs <| za s <| aE ⟨.inr rfl,kq,rfl⟩)),λe=>absurd a e⟩
   | false =>
    rw[ow] at a;have C:KL t k b=false:=by unfold KL;rw[ow];rfl
    rw[C] at i v;simp only[cond_false] at a;cases D:dg (aO<|t.drop<|k+1) [33,45,45] with
    | true =>rw[D] at a f;simp only[cond_true] at a;have M:=H D;exact⟨λe=>(by rw[a] at e;cases e),λ_=>i λy=>am <| aD <| zr <| zf <| za s <| zG <| zr <| zf <| za s <| zG (zr <| zk 1 <| zp (nb b 47 false ow) <| zf <| za s <| zG (zr <| zk 1 <| zp (nb b 47 false ow) <| zf <| za s <| zG (zr <| zk 2 <| zp (na k 1 oq) <| zo s <| zc 0 f <| zf <| za s <| zH (EW.fill (eI c t k b false false) kq λy=>aN (aak q h o n K A a (by simp at M;omega) y) J))))⟩
    | false =>
     rw[D] at a f;simp only[cond_false] at a;cases E:dg (aO<|t.drop<|k+1) JG with
     | true =>rw[E] at a g;simp only[cond_true] at a;have M:=I E;exact⟨λe=>(by rw[a] at e;cases e),λ_=>i λy=>am <| aD <| zr <| zf <| za s <| zG <| zr <| zf <| za s <| zG (zr <| zk 1 <| zp (nb b 47 false ow) <| zf <| za s <| zG (zr <| zk 1 <| zp (nb b 47 false ow) <| zf <| za s <| zG (zr <| zk 2 <| zp (na k 1 oq) <| zo s <| zc 0 f <| zf <| za s <| zG (zr <| zk 2 <| zp (na k 1 oq) <| zo s <| zc 0 g <| zf <| za s <| zH (EW.fill (eI c t k b false false) kq λy=>aN (aal q h o n K A a (by simp at M;omega) y) J)))))⟩
     | false =>
      rw[E] at a g;simp only[cond_false] at a;cases m:(b.toNat:Int)==33 with
      | true =>
       rw[m] at a;simp only[cond_true] at a;have l:((b.toNat:Int)==63)=false:=by rw[eq_of_beq m];rfl
       have R:=Gy JN (.inr a) A;exact⟨λe=>(by rw[a] at e;cases e),λ_=>i λy=>am <| aD <| zr <| zf <| za s <| zG <| zr <| zf <| za s <| zG (zr <| zk 1 <| zp (nb b 47 false ow) <| zf <| za s <| zG (zr <| zk 1 <| zp (nb b 47 false ow) <| zf <| za s <| zG (zr <| zk 2 <| zp (na k 1 oq) <| zo s <| zc 0 f <| zf <| za s <| zG (zr <| zk 2 <| zp (na k 1 oq) <| zo s <| zc 0 g <| zf <| za s <| zG (zr <| zk 1 <| zp (nb b 33 true m) <| zf <| za s <| zH (EW.fill (eI c t k b false false) kq λy=>aN (TJ q h o n K A (w:=2) (by rw[l];rfl) R oq y) J))))))⟩
      | false =>
       rw[m] at a;simp only[cond_false] at a;cases l:(b.toNat:Int)==63 with
       | true =>rw[l] at a;simp only[cond_true] at a;exact⟨λe=>(by rw[a] at e;cases e),λ_=>i λy=>am <| aD <| zr <| zf <| za s <| zG <| zr <| zf <| za s <| zG (zr <| zk 1 <| zp (nb b 47 false ow) <| zf <| za s <| zG (zr <| zk 1 <| zp (nb b 47 false ow) <| zf <| za s <| zG (zr <| zk 2 <| zp (na k 1 oq) <| zo s <| zc 0 f <| zf <| za s <| zG (zr <| zk 2 <| zp (na k 1 oq) <| zo s <| zc 0 g <| zf <| za s <| zG (zr <| zk 1 <| zp (nb b 33 false m) <| zk 2 <| zp (nb b 63 true l) <| zf <| za s <| zH (EW.fill (eI c t k b false false) kq λy=>aN (TJ q h o n K A (w:=1) (by rw[l];rfl) (Lp JN a A) oq y) J))))))⟩
       | false =>rw[l] at a;simp only[cond_false] at a;exact⟨λ_=>v λy=>am <| aD <| zr <| zf <| za s <| zG <| zr <| zf <| za s <| zG (zr <| zk 1 <| zp (nb b 47 false ow) <| zf <| za s <| zG (zr <| zk 1 <| zp (nb b 47 false ow) <| zf <| za s <| zG (zr <| zk 2 <| zp (na k 1 oq) <| zo s <| zc 0 f <| zf <| za s <| zG (zr <| zk 2 <| zp (na k 1 oq) <| zo s <| zc 0 g <| zf <| za s <| zG (zr <| zk 1 <| zp (nb b 33 false m) <| zk 2 <| zp (nb b 63 false l) <| zk 3 <| zp (nb b 47 false ow) <| zf <| za s <| zG (zs <| za s <| aE ⟨.inr rfl,kq,rfl⟩)))))),λe=>absurd a e⟩
 .have e1:aO (t.drop<|k+1)=[]:=v7 L;rw[e1] at a;exact⟨λ_=>aQ (q.no 276 dq) func276 rfl<|zs <| za s <| zr <| zg 3 s <| zp (yl c 0 (str t) U.2) <| zf <| za s <| zr <| zg 3 s <| zp (yl c 1 (num k) U.2) <| zf <| za s (am <| zr <| zk 1 <| zp (na k 1 oq) <| zk 1 <| zp (nl t) <| zp (nG (k+1) t.length oq) <| zf <| za s <| zH (zs <| za s <| aE ⟨.inr rfl,kq,rfl⟩)),λe=>absurd a e⟩
end
def mh(c:Nat)(t:Bq)(v:Value)(x:Nq):TL:=[str t,x 1,aX,aF c 0,v]++fW x 5 53
section
variable {N c k:Nat}{s:AS}{t d x:Bq}{us:List Tok}{pr:Prim}
variable {T:List Tok}{b:UInt8}
def UR(J:t.length<=200000)(h:SR N c s t k d x us)(G:t[k]?=some b)(D:Bd k d x us)(o:eG cU e8 T (aO<|t.drop k) us d x)(a:dx (aO<|t.drop k)=0)(v:Value)(y:Nq):Ew pr (match f182.body with|some (.seq _<|.seq _<|.seq (.block _<|.loop<|.seq _<|.block _<|.seq _<|.seq _<|.seq _<|.cond _ z _) _)=>z|_=>.skip) (mh c t v y) s λe q O=>e=.normal/\Dt T N c s t k O/\∃y,q=mh c t v y:=by
 have⟨E,F⟩:=D;have⟨i,g⟩:=gS.1 G;have⟨r,Q,l,I,f,B,C⟩:=h;have⟨j,u,w,A⟩:=eU l f B C k d<|x++[b];have⟨i3,K,L,n⟩:=eU l j u w (k+1) d<|x++[b];have M:=e9 (P:=prog) underlying9 Y f.2 (off:=4) Y;have p:=e9 (P:=prog) underlying3 Y f.2 (off:=1) Y;have m:(t.take<|k+1).drop k=[b]:=by rw[List.drop_take,show k+1-k=1 by omega,List.drop_eq_getElem_cons i,g];rfl
 have H:eG cU e8 T (aO<|t.drop<|k+1) us d (x++[b]):=by
  have e:aO (t.drop k)=(b.toNat:Int)::aO (t.drop<|k+1):=by rw[List.drop_eq_getElem_cons i,g];rfl
  rw[e] at o a
  have:=Lr a o;rwa [show UInt8.ofNat (b.toNat:Int).toNat=b by simp] at this
 refine am <| bO kq kq kq<|zq<|zq<|zq<|zq<|zt s <| zu (yl c 4 (str x) f.2)<|zq<|zq<|zq<|zq<|zt s <| zu (yl c 1 (num k) f.2)<|zq<|zq<|zq<|zt s <| zu (yl c 1 (num k) f.2) <| zu (na k 1 oq) <| zu (ns t [b] k (k+1) oq oq m) <| zu (nS x [b]<|by simp;omega)<|zq<|zq<|zt s <| zu (ys c 4 (str<|x++[b]) f.2 iq) (cg ⟨dh [(bA prog 9 (aF c 4) s,str x),(bA prog 3 (aF c 1) s,num k),(bA prog 3 (aF c 1) s,num k)] kq<|W3 M p p,_,_,_,_,_,_,Y,Y,za (s.set c<|some<|jK t k r d<|x++[b]) ?_⟩);generalize s.set c _=S at *;exact zx <| zg 3 S <| zp (yl c 1 (num k) j.2) <| zp (na k 1 oq) <| zg 2 S <| zp (ys c 1 _ j.2 iq) <| aB ⟨Y,⟨k+1,d,x++[b],us,⟨r,Q,l,I,i3,K,L⟩,H,oq,oq,⟨oq,by simp;omega⟩,A.trans n⟩,aP kq⟩
def NK(R:qm pr)(F:t.length<=200000):∃f v o,Ef pr 182 #[str t] s v f/\jl f v o/\eR f o (uS dl cU e8<|aO t)/\eQ s.nx s f:=by
 have O:eG cU e8 (uS dl cU e8<|aO t) (aO t) [] [] []:=aaf JN;generalize uS dl cU e8 (aO t)=T at *;suffices hh:Ew pr (match f182.body with|some c=>c|none=>.skip) ((#[str t]:Aq).toList++List.replicate (f182.ntmps-(#[str t]:Aq).toList.length) undef) s (λe g w=>(e=.normal\/e=.ret)/\∃v,cN prog f182 g w=some v/\∃o,jl w v o/\eR w o T/\eQ s.nx s w) by have⟨n,e,g,w,H,I,v,W,o,q4⟩:=hh;exact⟨w,v,o,aQ (R.no 182 dq) func182 rfl ⟨n,e,g,w,H,I,W,rfl⟩,q4⟩
 refine zs <| za s <| zs <| za (s.add<|jK t 0 aX [] []) ?_;have h0:SR s.nx s.nx (s.add<|jK t 0 aX [] []) t 0 [] [] []:=⟨aX,[],lr,λb z=>(by have⟨_,_,_,_,z⟩:=z;cases z),Has.new s _,.inl ⟨rfl,rfl⟩,⟨rfl,λi t u h=>by simp at h⟩⟩;have h1:eQ s.nx s (s.add<|jK t 0 aX [] []):=⟨iq,λk K=>by rw[AS.bu,iw oq]⟩;have h2:(s.add<|jK t 0 aX [] []).nx=s.nx+1:=rfl;generalize s.add (jK t 0 aX [] [])=B at *;generalize hc:s.nx=c at *;refine EW.fill (mh c t undef) kq λy=>am <| aD <| aN (aZ (Q:=λe g f=>e=.exit 0/\∃d x a,SR c c f t t.length d x a/\eG cU e8 T [] a d x/\Bd t.length d x a/\iV c B f/\∃j y,g=mh c t j y) (λu g f=>∃k d x a,t.length-k<=u/\k<=t.length/\SR c c f t k d x a/\eG cU e8 T (aO<|t.drop k) a d x/\Bd k d x a/\iV c B f/\∃j y,g=mh c t j y) ?_ t.length _ _ ⟨0,[],[],[],oq,oq,h0,O,⟨iq,iq⟩,iV.refl _,undef,y,rfl⟩) ?_
 .rintro u g S ⟨k,d,x,a,hu,K,D,C,M,p,j,y,rfl⟩;have N:=D;have⟨r,o,hN,hr,J,h4,h5⟩:=N;have hn:=p.1;refine am <| zr <| zg 3 S <| zp (yl c 1 (num k) J.2) <| zk 1 <| zp (nl t) ?_;by_cases q:k<t.length
  .refine zp (nT k t.length q) <| zf <| za S <| zT <| aD ?_;have E:t[k]?=some t[k]:=gE q;generalize t[k]=b at E;have⟨e1,e2,e3⟩:=rS E;have V:∀(l:AS) (v:Value) (y:Nq),Dt T c c S t k l->jq 1 (λe g f=>match e with|.normal=>∃G,G<u/\∃k d x a,t.length-k<=G/\k<=t.length/\SR c c f t k d x a/\eG cU e8 T (aO<|t.drop k) a d x/\Bd k d x a/\iV c B f/\∃j y,g=mh c t j y|e=>e=.exit 0/\∃d x a,SR c c f t t.length d x a/\eG cU e8 T [] a d x/\Bd t.length d x a/\iV c B f/\∃j y,g=mh c t j y) .normal (mh c t v y) l:=by rintro l v y ⟨U,L,X,A,Y,Z,z3,z4,z5,z6⟩;exact⟨u-1,oq,U,L,X,A,oq,z4,Y,Z,z5,p.trans z6,v,y,rfl⟩
   have wd:dx (aO<|t.drop k)=0->∀y,Ew pr (match f182.body with|some (.seq _<|.seq _<|.seq (.block _<|.loop<|.seq _<|.block _<|.seq _<|.seq _ z) _)=>z|_=>.skip) (mh c t (.bool false) y) S (jq 1<|λe g f=>match e with|.normal=>∃G,G<u/\∃k d x a,t.length-k<=G/\k<=t.length/\SR c c f t k d x a/\eG cU e8 T (aO<|t.drop k) a d x/\Bd k d x a/\iV c B f/\∃j y,g=mh c t j y|e=>e=.exit 0/\∃d x a,SR c c f t t.length d x a/\eG cU e8 T [] a d x/\Bd t.length d x a/\iV c B f/\∃j y,g=mh c t j y):=λe y=>by refine zr <| zf <| za S <| zH<|EW.fill (mh c t<|.bool false) kq λy=>aN (UR F D E M C e (.bool false) y) ?_;rintro e g l ⟨rfl,z,y,rfl⟩;exact V l _ y z
   refine zs <| za S <| am <| zr <| zg 4 S <| zp (yl c 1 (num k) J.2) <| zp (nx t k b E) <| zp (nb b 60 ((b.toNat:Int)==60) rfl) ?_;cases ol:(b.toNat:Int)==60 with
   | false =>exact zf <| za S <| zF<|EW.fill (mh c t<|.bool false) kq<|wd<|by unfold dx;rw[e1,ol];rfl
   | true =>
    have P:b=60:=UInt8.toNat_inj.1 (by have:=eq_of_beq ol;show b.toNat=60;omega);subst P;have⟨m1,m2⟩:=LN R D F oq M C E;refine zf <| za S <| zH ?_;by_cases m:dx (aO<|t.drop k)=0
    .exact zx <| zc 1 (m1 m) <| zf <| za S (EW.fill (mh c t<|.bool false) kq<|wd m)
    .have⟨l,H,I⟩:=m2 m;refine zx <| zc 1 H <| zf <| za l (zr <| zf <| za l <| zF ?_);have⟨U,L,X,A,Y,Z,z3,z4,z5,z6⟩:=I;exact⟨u-1,oq,U,L,X,A,oq,z4,Y,Z,z5,p.trans z6,.bool true,aP kq⟩
  .refine zp (nF k t.length q) <| zf <| za S <| aJ kq (EW.exit ?_);have:k=t.length:=oq
   subst this;rw[List.drop_length] at C;exact⟨rfl,d,x,a,D,C,M,p,j,aP kq⟩
 .rintro e g S ⟨rfl,d,x,a,D,C,⟨U4,Gl⟩,p,j,y,rfl⟩;have hn:=p.1;have⟨l,H,I,W⟩:=nJ R true D oq oq oq oq;have O:=Pl C;have⟨r,o,hN,hr,J,h4,h5⟩:=I;have f3:=p.trans W;refine zr <| zc 1 H <| aB <| zr <| zg 3 l <| zp (yl c 2 r J.2) <| zf <| za l<|aE ⟨.inr rfl,r,kq,o,h4,by rw[O];exact h5,⟨by have:=f3.1;omega,λk K=>?_⟩⟩;rw[f3.2 k oq (.inl K)];exact h1.2 k K
def Jv(c:qm pr)(m:t.length<=20000):∃a v e,Ef pr 94 #[str t] s (.tuple #[v,num 0]) a/\jl a v e/\eR a e (uS dl cU e8<|aO<|Bn t.length t)/\eQ s.nx s a:=by
 have i:=P8 (s:=s) (t:=t) (c.no 183 dq) (c.no 93 dq) (c.no 181 dq) oq;have d:∀(n:Nat) (l:Bq),l.length<=n->(Bn n l).length<=3*l.length:=by
  intro n;induction n with
  | zero=>intro l d;simp[Bn]
  | succ n f =>
   intro l d;cases l with
   | nil=>simp[Bn]
   | cons b l =>
    have⟨j,k⟩:=Ak b l;unfold Bn;simp only[lC] at d |-;cases (qu b l).2 with
    | true =>have:=f ((b::l).drop (qu b l).1) (by simp;omega);simp only[cond_true,lA,List.length_take,List.length_drop,lC] at this |-;omega
    | false =>have:=f l oq;simp only[cond_false,lA,lC,List.length_nil] at this |-;omega
 have:=d t.length t lr;generalize Bn t.length t=q at *;have⟨a,v,e,g,h⟩:=NK (s:=s) (t:=q) c oq;exact⟨a,v,e,aQ (c.no 94 dq) func94 O<|zs <| za s <| am <| zr <| zk 1 <| zp (nl t) <| zp (yb (num t.length) (num 20000)<|db<|fD oq) <| zf <| za s <| zF (zr <| zc 1 i <| zc 0 g <| zf <| za a (zs <| za a (aE ⟨.inr O,kq,O⟩))),h⟩
def Jw(a:qm pr)(d:20000<t.length)(c:t.length<=1000000000):Ef pr 94 #[str t] s (.tuple #[aX,num 1]) s:=by exact aQ (a.no 94 dq) func94 O<|zs <| za s <| am <| zr <| zk 1 <| zp (nl t) <| zp (yb (num t.length) (num 20000)<|db<|tD oq) <| zf <| za s <| zH (zs <| za s <| aE ⟨.inr O,kq,O⟩)
end
def wV:Vq:=(List.range 18).flatMap λk=>[str (jC k),num (fT k).2.1,.bool (fT k).2.2]
def Ni:∀k,k<18->wV.toArray[3*k]?=some (str<|jC k)/\wV.toArray[3*k+1]?=some (num (fT k).2.1)/\wV.toArray[3*k+2]?=some (.bool (fT k).2.2):=by
 intro k a;obtain rfl|rfl|rfl|rfl|rfl|rfl|rfl|rfl|rfl|rfl|rfl|rfl|rfl|rfl|rfl|rfl|rfl|rfl:k=0\/k=1\/k=2\/k=3\/k=4\/k=5\/k=6\/k=7\/k=8\/k=9\/k=10\/k=11\/k=12\/k=13\/k=14\/k=15\/k=16\/k=17:=oq
 all_goals exact⟨kq,kq,kq⟩
def F0:∀q u:Bq,jr q u=if (decide (q.length<=u.length)&&ce (u.take q.length) q)=true then some (u.drop q.length) else none
 | [],u=>by cases u<;>rfl
 | c::q,[]=>rfl
 | c::q,b::u=>by
  unfold jr;simp only[lC,List.take_succ_cons,List.drop_succ_cons,Nat.add_le_add_iff_right];unfold ce;split
  .rw[F0 q u]
  .simp
def rf (p sz:Nat):Nat:=if sz=0 then 0 else p+1+sz
def kG(t:Bq)(p:Nat)(w:Bool)(tb:Nat)(n:Nat)(L:Int)(i:Nat)(x:Nq):TL:=[str t,num p,.bool w,x 3,x 4,x 5,num 0,num 0,.slice (some ⟨tb,0,none⟩) 18 18,num n,num L,num i]++fW x 12 108
def Un(t:Bq)(p:Nat)(w:Bool)(tb:Nat)(n:Nat)(L:Int)(i q:Nat)(v:Value)(x:Nq):TL:=[str t,num p,.bool w,x 3,x 4,x 5,num 0,num 0,.slice (some ⟨tb,0,none⟩) 18 18,num n,num L,num i,num q]++(fW x 13 38++(v::fW x 52 68))
section
variable {N c k:Nat}{s:AS}{t d x:Bq}{us:List Tok}{pr:Prim}
variable {p tb:Nat}{w:Bool}{u:Bq}
def Pv(h:pr 393=none):Ef pr 393 #[] s (.slice (sq s.nx) 18 18) (s.add<|.cells wV.toArray 350):=by exact aQ h func393 O<|zs <| za s <| zr <| zf <| za _ (aE ⟨.inr O,kq,O⟩)
def Pu(ht:t.length<=1000000)(V:p<t.length)(N:t.drop (p+1)=u)(h:Has s tb (.cells wV.toArray 350))(y:Nq):Ew pr (match f389.body with|some (.seq _<|.seq _<|.seq _<|.seq _<|.seq (.seq _<|.block _ z) _)=>z|_=>.skip) (kG t p w tb 0 0 0 y) s (λe g l=>l=s/\((e=.exit 0/\∃L a,iJ u 18 0 (0,0)=.inr (L,a)/\(a=0->L=0)/\a<=u.length/\∃i y,g=kG t p w tb (rf p a) L i y)\/(e=.ret/\∃L a,iJ u 18 0 (0,0)=.inl (L,a)/\cN prog f389 g l=some (.tuple #[num L,num ((p+1+a:Nat):Int)])))):=by
 have Y:u.length=t.length-(p+1):=by rw[<-N,List.length_drop]
 refine aZ (λm g l=>l=s/\∃k L a,m+k=18/\iJ u m k (L,a)=iJ u 18 0 (0,0)/\(a=0->L=0)/\a<=u.length/\∃y,g=kG t p w tb (rf p a) L k y) ?_ 18 _ _ ⟨rfl,0,0,0,rfl,rfl,λ_=>rfl,Nat.zero_le _,y,rfl⟩;rintro m g S ⟨rfl,k,L,a,hm,d,G,o,y,rfl⟩;refine am <| zr <| zk 3 ?_;by_cases H:k<18
 .refine zp (nT k 18 H) <| zf <| za S <| zT ?_;obtain⟨m,rfl⟩:∃n,m=n+1:=⟨m-1,oq⟩;have⟨O,R,t3⟩:=Ni k H;have U:=GM k H;have W:=Ao k H;have f:=F0 (jC k) u;have T:(t.take<|p+1+(jC k).length).drop (p+1)=u.take (jC k).length:=by rw[List.drop_take,Nat.add_sub_cancel_left,N]
  have q:∀(F:Int) (j:Nat),iJ u m (k+1) (F,j)=iJ u 18 0 (0,0)->(j=0->F=0)->j<=u.length->∀y,Ew pr (match f389.body with|some (.seq _<|.seq _<|.seq _<|.seq _<|.seq (.seq _<|.block _<|.loop<|.seq _<|.seq _ z) _)=>z|_=>.skip) (kG t p w tb (rf p j) F k y) S (λe g l=>match e with|.normal=>∃E,E<m+1/\l=S/\∃k L a,E+k=18/\iJ u E k (L,a)=iJ u 18 0 (0,0)/\(a=0->L=0)/\a<=u.length/\∃y,g=kG t p w tb (rf p a) L k y|e=>l=S/\((e=.exit 0/\∃L a,iJ u 18 0 (0,0)=.inr (L,a)/\(a=0->L=0)/\a<=u.length/\∃i y,g=kG t p w tb (rf p a) L i y)\/(e=.ret/\∃L a,iJ u 18 0 (0,0)=.inl (L,a)/\cN prog f389 g l=some (.tuple #[num L,num ((p+1+a:Nat):Int)])))):=λF j q1 q2 q3 y=>by exact zx <| zk 1 <| zp (na k 1 oq) <| zf ⟨m,oq,kq,k+1,F,j,oq,q1,q2,q3,aP kq⟩
  unfold iJ at d;generalize jC k=c at *;generalize fT k=B at *;refine am <| aD (zr <| zk 2 <| zp (yi tb 0 18 18 (3*k) none .i64 (k:Int) 3 oq oq oq) <| zk 1 <| zo S <| zp (yl tb (3*k) (str c) h.2 (i:=O)) <| zp (nl c) <| zf <| za S (am <| am <| bO kq kq kq (zq <| zu (na p 1 oq) <| zq <| zu (na (p+1) c.length oq) <| zq <| zu (nl t) ?_)));by_cases X:p+1+c.length<=t.length
  .refine zu (yb (num ((p+1+c.length:Nat):Int)) (num t.length)<|db (b:=false)<|fD oq)<|zq<|zq<|zq<|zu (na p 1 oq) <| zq <| zu (na p 1 oq) <| zq <| zu (na (p+1) c.length oq) <| zu (ns t (u.take c.length) (p+1) (p+1+c.length) oq X T) ?_;iterate 2 refine zq ?_
   have Z:bA prog 9 (aF tb<|3*k) S=some (str c):=e9 (P:=prog) underlying9 rfl h.2 (off:=3*k) O;refine zu (yi tb 0 18 18 (3*k) none .i64 (k:Int) 3 oq oq oq) <| zq <| zt S <| zu (yl tb (3*k) (str c) h.2 (i:=O))<|zu (aI (u:=str<|u.take c.length) (w:=str c) (v:=.bool<|!ce (u.take c.length) c) rfl kq kq<|by unfold dj;rfl) <| zq<|cg ⟨dh [(bA prog 9 (aF tb<|3*k) S,str c)] kq<|by intro x Q;simp at Q;rw[Q];exact⟨Z,rfl⟩,_,_,_,_,_,_,rfl,rfl,za S ?_⟩;rw[tD oq,Bool.true_and] at f;refine EW.fill (Un t p w tb (rf p a) L k c.length<|.bool<|!ce (u.take c.length) c) kq λy=>?_;cases hb:ce (u.take c.length) c with
   | false =>rw[hb,iw dq] at f;rw[f] at d;exact bU kq<|EW.exit<|EW.fill (kG t p w tb (rf p a) L k) kq<|q L a d G o
   | true =>
    rw[hb,ip rfl] at f;rw[f] at d;simp only at d;refine zF<|zr <| zk 1 <| zp (na p 1 oq) <| zk 1 <| zp (na (p+1) c.length oq) <| zf <| za S ?_;have D:u.drop c.length=t.drop (p+1+c.length):=by rw[<-N,List.drop_drop]
    rw[D,oX] at d;have A:(∀x:(Int × Nat) ⊕ (Int × Nat),(bif B.2.2&&decide (a<c.length) then iJ u m (k+1) (B.2.1,c.length) else iJ u m (k+1) (L,a))=iJ u 18 0 (0,0))->∀y:Nq,Ew pr (match f389.body with|some (.seq _<|.seq _<|.seq _<|.seq _<|.seq (.seq _<|.block _<|.loop<|.seq _<|.seq (.block _<|.seq _<|.seq _<|.seq _<|.seq _ z) _) _)=>z|_=>.skip) ([str t,num p,.bool w,y 3,y 4,y 5,num 0,num 0,.slice (sq tb) 18 18,num (rf p a:Nat),num L,num k,y 12,num ((p+1+c.length:Nat):Int)]++fW y 14 106) S (jq 1<|pw prog kJ pr _<|λe g l=>match e with|.normal=>∃E,E<m+1/\l=S/\∃k L a,E+k=18/\iJ u E k (L,a)=iJ u 18 0 (0,0)/\(a=0->L=0)/\a<=u.length/\∃y,g=kG t p w tb (rf p a) L k y|e=>l=S/\((e=.exit 0/\∃L a,iJ u 18 0 (0,0)=.inr (L,a)/\(a=0->L=0)/\a<=u.length/\∃i y,g=kG t p w tb (rf p a) L i y)\/(e=.ret/\∃L a,iJ u 18 0 (0,0)=.inl (L,a)/\cN prog f389 g l=some (.tuple #[num L,num ((p+1+a:Nat):Int)])))):=λd y=>by
     have d:=d<|.inr (0,0);refine zr <| zk 2 <| zp (yi tb 0 18 18 (3*k) none .i64 (k:Int) 3 oq oq oq) <| zk 1 <| zo S <| zp (yl tb (3*k+2) (.bool B.2.2) h.2 (i:=t3)) ?_;cases ha:B.2.2 with
     | false =>rw[ha,Bool.false_and] at d;exact zf <| za S <| zF<|EW.fill (kG t p w tb (rf p a) L k) kq<|q L a d G o
     | true =>
      rw[ha,Bool.true_and] at d;refine zk 3 ?_;by_cases I:a<c.length
      .rw[tD I] at d;refine zp (yb (num ((p+1+c.length:Nat):Int)) (num (rf p a:Nat)) (db (b:=true) (tD (by unfold rf;split<;>omega)))) <| zf <| za S <| zH<|zs <| za S <| zx <| zk 2 <| zp (yi tb 0 18 18 (3*k) none .i64 (k:Int) 3 oq oq oq) <| zk 1 <| zo S <| zp (yl tb (3*k+1) (num B.2.1) h.2 (i:=R)) <| zf <| za S ?_;have M:rf p c.length=p+1+c.length:=by unfold rf;rw[iw oq]
       have:=q B.2.1 c.length d (λe=>absurd e oq) oq;rw[M] at this;exact EW.fill (kG t p w tb (p+1+c.length) B.2.1 k) kq this
      .rw[fD I] at d;exact zp (yb (num ((p+1+c.length:Nat):Int)) (num (rf p a:Nat)) (db (b:=false) (fD (by unfold rf;split<;>omega)))) <| zf <| za S <| zF<|EW.fill (kG t p w tb (rf p a) L k) kq<|q L a d G o
    refine am <| zr <| zk 2 <| zp (nl t) ?_;by_cases K:p+1+c.length<t.length
    .have C:t[p+1+c.length]?=some t[p+1+c.length]:=gE K;generalize t[p+1+c.length]=r at C;rw[C] at d;simp only at d;have J:r.toNat.beq (59:UInt8).toNat=((r.toNat:Int)==59):=by
      cases J:r.toNat.beq (59:UInt8).toNat with
      | true=>have:=ja J;rw[this];rfl
      | false=>exact(bF.2<|λe=>Nat.ne_of_beq_eq_false J<|by show r.toNat=59;omega).symm
     rw[J] at d;refine zp (nT _ t.length K) <| zk 3 <| zp (nx t _ r C) <| zp (nb r 59 ((r.toNat:Int)==59) rfl) ?_;cases U3:(r.toNat:Int)==59 with
     | true =>rw[U3,cond_true] at d;exact zf <| za S <| zH<|zr <| zk 2 <| zp (yi tb 0 18 18 (3*k) none .i64 (k:Int) 3 oq oq oq) <| zk 1 <| zo S <| zp (yl tb (3*k+1) (num B.2.1) h.2 (i:=R)) <| zk 1 <| zp (na (p+1+c.length) 1 oq) <| zf <| za S<|aE ⟨rfl,.inr ⟨rfl,_,_,d.symm,kq⟩⟩
     | false =>rw[U3,cond_false] at d;exact zf <| za S <| zF<|EW.fill (λy=>[str t,num p,.bool w,y 3,y 4,y 5,num 0,num 0,.slice (sq tb) 18 18,num (rf p a:Nat),num L,num k,y 12,num ((p+1+c.length:Nat):Int)]++fW y 14 106) kq<|A λ_=>d
    .rw[List.getElem?_eq_none oq] at d;exact zp (nF _ t.length K) <| zf <| za S <| zF (EW.fill (λy=>[str t,num p,.bool w,y 3,y 4,y 5,num 0,num 0,.slice (sq tb) 18 18,num (rf p a:Nat),num L,num k,y 12,num ((p+1+c.length:Nat):Int)]++fW y 14 106) kq<|A λ_=>d)
  .refine zu (yb (num ((p+1+c.length:Nat):Int)) (num t.length)<|db (b:=true)<|tD oq) <| zq ?_;iterate 14 refine zi kq ?_
   refine zq<|cg ⟨dh [] kq iq,_,_,_,_,_,_,rfl,rfl,za S ?_⟩;rw[fD oq,Bool.false_and,iw dq] at f;rw[f] at d;exact bU kq<|EW.exit<|EW.fill (kG t p w tb (rf p a) L k) kq<|q L a d G o
 .refine zp (nF k 18 H) <| zf <| za S <| aJ kq (EW.exit ?_);have:m=0:=oq
  subst this;exact⟨rfl,.inl ⟨rfl,L,a,d.symm,G,o,k,aP kq⟩⟩
end
def rI:∀{u:Bq} (n k:Nat) (a:Int × Nat),n+k=18->(a.2=0\/Good a.1)->match iJ u n k a with|.inl b=>Good b.1|.inr b=>b.2=0\/Good b.1
 | u,0,k,a,_,h=>h
 | u,n+1,k,a,hn,h=>by
  have hg:Good (fT k).2.1:=by
   have:∀k,k<18->(0<=(fT k).2.1/\(fT k).2.1<55296):=dq
   exact .inl<|this k oq
  unfold iJ;cases jr _ u with
  | none=>exact rI n (k+1) a oq h
  | some r =>
   simp only;cases lg 59 r with
   | true=>exact hg
   | false =>
    simp only[cond_false];cases (fT k).2.2&&decide (a.2<(jC k).length) with
    | true=>exact rI n (k+1) _ oq<|.inr hg
    | false=>exact rI n (k+1) a oq h
def IB{u:Bq}{w:Int}:(l9 u w).2=0\/Good (l9 u w).1:=by
 have h:=rI (u:=u) 18 0 (0,0) O<|.inl O;unfold l9;cases e:iJ u 18 0 _ with
 | inl b=>rw[e] at h;exact .inr h
 | inr b =>
  rw[e] at h;simp only at h |-;split
  .exact .inl O
  .cases jo _ w with
   | true=>exact h
   | false=>exact .inl O
def LF(v:Nat):Good (vX v):=by
 unfold vX;split<;>first|exact .inl ⟨dq,dq⟩|skip
 split
 .exact .inr ⟨dq,dq⟩
 .next h =>
  by_cases a:v<55296
  .exact .inl ⟨oq,oq⟩
  .exact .inr ⟨oq,oq⟩
def Cu(a:Nat):∀(l:Bq) (v:Nat),(kO a l v).2<=l.length
 | [],v=>l8 _
 | b::l,v=>by
  unfold kO;split
  .have:=Cu a l<|min (v*a+lu (b.toNat:Int)) 2000000;simp;omega
  .simp
def wI (w:Bool):Int:=bif w then 1 else 0
def Ol{r:Bq}{w:Bool}:jo r (wI w)=!(w&&match r with|[]=>false|y::_=>DU y.toNat||VQ y.toNat||((y.toNat:Int)==61)):=by
 cases w with
 | false=>rfl
 | true =>
  cases r with
  | nil=>rfl
  | cons y r =>
   have k:∀n:_root_.Fin 256,(!eW (n.val:Int)&&!decide (48<=(n.val:Int)/\(n.val:Int)<=57)&&(n.val:Int) != 61)=!(DU n.val||VQ n.val||((n.val:Int)==61)):=dq
   exact k ⟨y.toNat,y.toNat_lt⟩
section
variable {N c k:Nat}{s:AS}{t d x:Bq}{us:List Tok}{pr:Prim}
variable {p tb:Nat}{w:Bool}{u:Bq}
def Kl(x:pr 393=none)(v:pr 389=none)(o:pr 278=none)(q:pr 279=none)(O:t.length<=1000000)(G:p<t.length)(H:t.drop (p+1)=u):Ef pr 389 #[str t,num p,.bool w] s (.tuple #[num (l9 u<|wI w).1,num (rf p (l9 u<|wI w).2:Nat)]) (s.add<|.cells wV.toArray 350):=by
 have P:u.length=t.length-(p+1):=by rw[<-H,List.length_drop]
 refine aQ v func389 Y<|zs <| za s <| zr <| zc 0 (Pv (s:=s) x) <| zf (za (s.add<|.cells wV.toArray 350) ?_);have M:=Has.new s<|.cells wV.toArray 350;generalize s.add (.cells wV.toArray 350)=S at *;generalize s.nx=d at *;refine zs <| za S <| zs <| za S <| am <| zs <| za S (EW.fill (kG t p w d 0 0 0) kq λy=>(aD <| aN (Pu O G H M y) ?_));unfold l9;rintro e m c ⟨rfl,N⟩;rcases N with ⟨rfl,L,sz,hE,hL,uN,i,y,rfl⟩|⟨rfl,L,sz,hE,Eu⟩
 .rw[hE];simp only;rw[Ol];show Ew pr _ _ c _;have f:∀(n:Nat) (y:Nq),Ew pr (match f389.body with|some (.seq _<|.seq _<|.seq _<|.seq _<|.seq _<|.seq _ z)=>z|_=>.skip) (kG t p w d n L i y) c λe m l=>(e=.normal\/e=.ret)/\cN prog f389 m l=some (.tuple #[num L,num n])/\l=c:=λn y=>by exact zs <| za c<|aE ⟨.inr Y,kq,Y⟩
  by_cases D:sz=0
  .subst D;obtain rfl:=hL Y;rw[ip Y];exact am <| zr <| zf <| za c <| zF (EW.fill (kG t p w d 0 0 i) kq<|f 0)
  .have j:rf p sz=p+1+sz:=by unfold rf;rw[iw D]
   rw[iw D,j];have E:u.drop sz=t.drop (p+1+sz):=by rw[<-H,List.drop_drop]
   refine am <| zr <| zk 1 <| zp (yb (num ((p+1+sz:Nat):Int)) (num 0)<|db (b:=true)<|tD oq) ?_;cases w with
   | false =>simp only[Bool.false_and,Bool.not_false,cond_true];rw[j];exact zf <| za c <| zF<|EW.fill _ kq<|f _
   | true =>
    rw[Bool.true_and,E];refine zk 6 <| zp (nl t) ?_;by_cases g:p+1+sz<t.length
    .have C:t[p+1+sz]?=some t[p+1+sz]:=gE g;rw[List.drop_eq_getElem_cons g];generalize t[p+1+sz]=b at C |-;simp only;refine zp (nT _ t.length g) <| zf <| za c <| zH (zr <| zk 2 <| zp (nx t _ b C) <| zo c <| zc 0 (zC (s:=c) o b) <| zf <| za c (zr <| zk 2 <| zp (nx t _ b C) <| zo c <| zc 0 (OJ (s:=c) q b) <| zf <| za c ?_));have K:∀y,Ew pr (match f389.body with|some (.seq _<|.seq _<|.seq _<|.seq _<|.seq _<|.seq (.seq _<|.cond _ (.seq _<|.seq _<|.seq _<|.cond _ z _) _) _)=>z|_=>.skip) (kG t p true d (p+1+sz) L i y) c λe m l=>e=.ret/\cN prog f389 m l=some (.tuple #[num 0,num ((rf p 0:Nat):Int)])/\l=c:=λy=>by exact zs <| za c<|aE ⟨Y,kq,Y⟩
     cases ha:DU b.toNat with
     | true =>refine zr <| zf <| za c <| zH ?_;simp only[Bool.true_or,Bool.not_true,cond_false];refine EW.fill _ kq λy=>aN (K y) ?_;rintro e m l ⟨rfl,A,B⟩;exact⟨.inr Y,A,B⟩
     | false =>
      cases hd:VQ b.toNat with
      | true =>refine zr <| zf <| za c <| zH ?_;simp only[Bool.false_or,Bool.true_or,Bool.not_true,cond_false];refine EW.fill _ kq λy=>aN (K y) ?_;rintro e m l ⟨rfl,A,B⟩;exact⟨.inr Y,A,B⟩
      | false =>
       refine zr <| zk 7 <| zp (nx t _ b C) <| zp (nb b 61 ((b.toNat:Int)==61) Y) ?_;cases h61:(b.toNat:Int)==61 with
       | true =>refine zf <| za c <| zH ?_;simp only[Bool.false_or,Bool.not_true,cond_false];refine EW.fill _ kq λy=>aN (K y) ?_;rintro e m l ⟨rfl,A,B⟩;exact⟨.inr Y,A,B⟩
       | false =>refine zf <| za c <| zF ?_;simp only[Bool.false_or,Bool.not_false,cond_true];rw[j];exact EW.fill _ kq<|f _
    .rw[List.drop_eq_nil_of_le oq];simp only[Bool.not_false,cond_true];rw[j];exact zp (nF _ t.length g) <| zf <| za c <| zF (EW.fill _ kq<|f _)
 .rw[hE];simp only;have F:rf p sz=p+1+sz:=by
   unfold rf;split
   .next e =>
    exfalso;subst e;have J:∀(n k:Nat) (a:Int × Nat) (b:Int × Nat),iJ u n k a=.inl b->0<b.2:=by
     intro n;induction n with
     | zero=>intro k a b h;cases h
     | succ n I =>
      intro k a b h;unfold iJ at h;split at h
      .exact I _ _ _ h
      .next r _ =>
       cases hx:lg 59 r with
       | true=>rw[hx,cond_true] at h;cases h;simp
       | false =>
        rw[hx,cond_false] at h;cases hc:(fT k).2.2&&decide (a.2<(jC k).length) with
        | true=>rw[hc] at h;exact I _ _ _ h
        | false=>rw[hc] at h;exact I _ _ _ h
    have:=J 18 0 (0,0) _ hE;simp at this
   .rfl
  rw[F];exact⟨.inr Y,Eu,Y⟩
end
def wM(t:Bq)(w:Bool)(o:Bq)(i:Nat)(x:Nq):TL:=[str t,.bool w,x 2,x 3,str [],str o,num i]++fW x 7 52
def qW(t:Bq)(w:Bool)(o:Bq)(i:Nat)(L:Int)(n:Nat)(x:Nq):TL:=[str t,.bool w,x 2,x 3,str [],str o,num i,num L,num n]++fW x 9 50
def X9 (t:Bq)(w:Bool)(i:Nat)(L:Int)(n:Nat):Prop:=(n=0/\∃b,t[i]?=some b/\e8 (t.drop i) (wI w)=b::e8 (t.drop<|i+1) (wI w))\/(i<n/\n<=2*t.length+10/\Good L/\e8 (t.drop i) (wI w)=encodeRune L++e8 (t.drop n) (wI w))
section
variable {N c k:Nat}{s:AS}{t d x:Bq}{us:List Tok}{pr:Prim}
variable {w:Bool}{i:Nat}{b:UInt8}
def Xw(a:t[i]?=some b)(h:b≠38):X9 t w i 0 0:=by have⟨c,e⟩:=gS.1 a;refine .inl ⟨O,b,a,?_⟩;rw[List.drop_eq_getElem_cons c,e,NU h]
def Ub(n:t[i]?=some 38)(g:t[i+1]?=some 35):X9 t w i (QT t i).1 (QT t i).2:=by
 have⟨u,e⟩:=gS.1 n;have⟨k,p⟩:=gS.1 g;have o:t.drop i=38::t.drop (i+1):=by rw[List.drop_eq_getElem_cons u,e]
 have j:t.drop (i+1)=35::t.drop (i+2):=by rw[List.drop_eq_getElem_cons k,p]
 have f:gY (t.drop<|i+1) (wI w)=if (fR<|t.drop<|i+2).2=0 then (38,0) else ((fR<|t.drop<|i+2).1,(fR<|t.drop<|i+2).2+1):=by unfold gY;rw[j];rfl
 have d:=Ow<|t.drop<|i+2;unfold QT;simp only;have r:=Cu (nu<|t.drop<|i+2) ((t.drop<|i+2).drop<|jD<|t.drop<|i+2) 0;have s:jD (t.drop<|i+2)<=1:=by unfold jD;cases lg 120 _||lg 88 _<;>decide
 rw[List.length_drop,List.length_drop] at r;by_cases m:(kO (nu<|t.drop<|i+2) ((t.drop<|i+2).drop<|jD<|t.drop<|i+2) 0).2=0
 .rw[ip m] at d |-;rw[d,ip O] at f;refine .inl ⟨O,38,n,?_⟩;rw[o,Dn f]
 .rw[iw m] at d |-;have c:=LF (kO (nu<|t.drop<|i+2) ((t.drop<|i+2).drop<|jD<|t.drop<|i+2) 0).1;have h:∀q:Bool,(bif q then 1 else 0:Nat)<=1:=dq
  have l:∀a b:Nat,(t.drop<|i+2).drop (a+b)=(t.drop<|i+2).drop (b+a):=λa b=>by rw[Nat.add_comm]
  rw[l] at d;generalize kO _ _ 0=D at *;have v:=h<|lg 59<|(t.drop<|i+2).drop<|jD (t.drop<|i+2)+D.2;generalize (bif lg 59 _ then 1 else 0:Nat)=q at *;rw[d,iw<|by simp only;omega] at f;refine .inr ⟨by simp only;omega,by simp only;omega,c,?_⟩;rw[o,A6,f];simp only;rw[List.drop_drop,show i+1+(D.2+jD _+q+1)=i+2+jD (t.drop<|i+2)+D.2+q by omega]
def PY(l:t[i]?=some 38)(d:t[i+1]?≠some 35):X9 t w i (l9 (t.drop<|i+1)<|wI w).1 (rf i (l9 (t.drop<|i+1)<|wI w).2):=by
 have⟨v,e⟩:=gS.1 l;have m:t.drop i=38::t.drop (i+1):=by rw[List.drop_eq_getElem_cons v,e]
 have o:gY (t.drop<|i+1) (wI w)=qh (t.drop<|i+1) (wI w):=by
  unfold gY;have:lg 35 (t.drop<|i+1)=false:=by
   rw[oX];cases hq:t[i+1]? with
   | none=>rfl
   | some y =>
    cases hy:y.toNat.beq (35:UInt8).toNat with
    | false=>exact hy
    | true =>exfalso;apply d;rw[hq,UInt8.toNat_inj.1<|ja hy]
  rw[this];rfl
 have⟨p,A,B⟩:=TO (t:=t.drop<|i+1) (w:=wI w);unfold rf;by_cases c:(l9 (t.drop<|i+1)<|wI w).2=0
 .rw[ip c];refine .inl ⟨O,38,l,?_⟩;rw[m,Dn<|o.trans<|A<|p.trans c]
 .rw[iw c];have q:=B (by rw[p];exact c);have z:(l9 (t.drop<|i+1)<|wI w).2<=t.length+8:=by
   have j:∀(u:Bq) (n k:Nat) (a:Int × Nat),a.2<=u.length->match iJ u n k a with|.inl b=>b.2<=u.length+1|.inr b=>b.2<=u.length:=by
    intro u n;induction n with
    | zero=>intro k a h;exact h
    | succ n g =>
     intro k a h;unfold iJ;cases hc:jr (jC k) u with
     | none=>exact g _ _ h
     | some r =>
      have f:=congrArg List.length<|iv hc;rw[lA] at f;simp only;cases lg 59 r with
      | true=>show(jC k).length+1<=u.length+1;omega
      | false =>
       simp only[cond_false];cases (fT k).2.2&&decide (a.2<(jC k).length) with
       | true=>exact g _ _<|by show(jC k).length<=_;omega
       | false=>exact g _ _ h
   have:=j (t.drop<|i+1) 18 0 (0,0)<|Nat.zero_le _;have x:(t.drop<|i+1).length<=t.length:=by rw[List.length_drop];omega
   unfold l9;cases hE:iJ (t.drop<|i+1) 18 0 (0,0) with
   | inl b=>rw[hE] at this;simp only at this |-;omega
   | inr b =>
    rw[hE] at this;simp only at this |-;split
    .simp
    .cases jo _ (wI w) with
     | true=>simp only[cond_true];omega
     | false=>simp
  refine .inr ⟨oq,oq,(IB (w:=wI w)).resolve_left c,?_⟩;rw[m,A6,o,q,List.drop_drop]
def DR(B:pr 381=none)(C:pr 388=none)(E:pr 391=none)(j:pr 279=none)(F:pr 392=none)(G:pr 393=none)(D:pr 389=none)(A:pr 278=none)(M:∀(r:Int) (s:AS),Good r->Ef pr 390 #[num r] s (str<|encodeRune r) s)(V:t.length<=1000000):∃X,Ef pr 381 #[str t,.bool w] s (str<|e8 t<|wI w) X/\eQ s.nx s X:=by
 refine cm B func381 rfl<|zs <| za s <| zs <| za s <| am <| zs <| za s (EW.fill (wM t w [] 0) kq λy=>?_);generalize Y:e8 t (wI w)=R;refine aD <| aN (aZ (Q:=λe a S=>e=.exit 0/\eQ s.nx s S/\∃i y,a=wM t w R i y) (λm a S=>∃i o,t.length-i<=m/\i<=3000000/\o.length<=4*i/\o++e8 (t.drop i) (wI w)=R/\eQ s.nx s S/\∃y,a=wM t w o i y) ?_ t.length _ _ ⟨0,[],oq,oq,iq,by simpa using Y,⟨lr,λ_ _=>rfl⟩,y,rfl⟩) ?_
 .rintro m a S ⟨i,o,hm,hi,ho,P,l,y,rfl⟩;refine am <| zr <| zk 2 <| zp (nl t) ?_;by_cases c:i<t.length
  .have x:t[i]?=some t[i]:=gE c;have q:(t.take<|i+1).drop i=[t[i]]:=by rw[List.drop_take,show i+1-i=1 by omega,List.drop_eq_getElem_cons c];rfl
   generalize t[i]=b at x q;refine zp (nT i t.length c) <| zf <| za S <| zT <| aD ?_;have d:∀(L:Int) (n:Nat) (g:AS),X9 t w i L n->eQ s.nx s g->∀y,Ew pr (match f381.body with|some (.seq _<|.seq _<|.seq (.seq _<|.block _<|.loop<|.seq _<|.block _<|.seq _<|.seq _<|.seq _ z) _)=>z|_=>.skip) (qW t w o i L n y) g (jq 1<|λe a S=>match e with|.normal=>∃N,N<m/\∃i o,t.length-i<=N/\i<=3000000/\o.length<=4*i/\o++e8 (t.drop i) (wI w)=R/\eQ s.nx s S/\∃y,a=wM t w o i y|e=>e=.exit 0/\eQ s.nx s S/\∃i y,a=wM t w R i y):=by
    intro L n g K H y;rcases K with ⟨rfl,b',tv,hw⟩|⟨h1,O,h3,hw⟩
    .rw[x] at tv;cases tv;refine zr <| zf <| za g <| zG<|zr <| zk 4 <| zp (na i 1 oq) <| zp (ns t [b] i (i+1) oq oq q) <| zp (nS o [b]<|by simp;omega) <| zf <| za g (zx <| zk 1 <| zp (na i 1 oq) <| zf (⟨m-1,oq,i+1,o++[b],oq,oq,by simp;omega,by rw[uW,<-P,hw];rfl,H,aP kq⟩))
    .have Z:(encodeRune L).length<=4:=by unfold encodeRune;rw[List.length_map];exact(encodeRuneZ_length L).2
     refine zr <| zk 1 <| zp (yb (num n) (num 0)<|db (b:=true)<|tD oq) <| zf <| za g <| zH (zr <| zc 2 (M L g h3) <| zp (nS o (encodeRune L) oq) <| zf <| za g (zx <| zf (⟨m-1,oq,n,o++encodeRune L,oq,oq,by simp;omega,by rw[uW,<-P,hw],H,aP kq⟩)))
   refine zs <| za S <| zs <| za S <| am <| zr <| zk 2 <| zp (nx t i b x) <| zp (nb b 38 ((b.toNat:Int)==38) rfl) ?_;cases Zm:(b.toNat:Int)==38 with
   | false =>exact zf <| za S <| zF<|EW.fill (qW t w o i 0 0) kq<|d 0 0 S (Xw x<|λe=>by rw[e] at Zm;revert Zm;decide) l
   | true =>
    have J:b=38:=UInt8.toNat_inj.1 (by have:=eq_of_beq Zm;show b.toNat=38;omega);subst J;refine zf <| za S <| zH ?_;have W:t[i+1]?≠some 35->∀y,Ew pr (match f381.body with|some (.seq _<|.seq _<|.seq (.seq _<|.block _<|.loop<|.seq _<|.block _<|.seq _<|.seq _<|.seq (.seq _<|.cond _ (.seq _<|.cond _ _ z) _) _) _)=>z|_=>.skip) (qW t w o i 0 0 y) S (pw prog kJ pr _<|jq 1<|λe a S=>match e with|.normal=>∃N,N<m/\∃i o,t.length-i<=N/\i<=3000000/\o.length<=4*i/\o++e8 (t.drop i) (wI w)=R/\eQ s.nx s S/\∃y,a=wM t w o i y|e=>e=.exit 0/\eQ s.nx s S/\∃i y,a=wM t w R i y):=λh y=>by have u:=Kl (s:=S) (w:=w) G D A j V c rfl;have T:eQ s.nx s (S.add<|.cells wV.toArray 350):=⟨by have:=l.1;simp;omega,λk hk=>by rw[AS.bu,iw<|by have:=l.1;omega];exact l.2 k hk⟩;have K:=PY (w:=w) x h;generalize S.add (.cells wV.toArray 350)=U at *;generalize (l9 (t.drop<|i+1)<|wI w).1=L at *;generalize rf i (l9 (t.drop<|i+1)<|wI w).2=n at *;exact zx <| zc 3 u <| zf <| za U (EW.fill (qW t w o i L n) kq<|d L n U K T)
    refine zr <| zk 1 <| zp (na i 1 oq) <| zk 1 <| zp (nl t) ?_;by_cases O:i+1<t.length
    .have f:t[i+1]?=some t[i+1]:=gE O;generalize t[i+1]=v at f;refine zp (nT (i+1) t.length O) <| zk 3 <| zp (na i 1 oq) <| zp (nx t (i+1) v f) <| zp (nb v 35 ((v.toNat:Int)==35) rfl) ?_;cases h35:(v.toNat:Int)==35 with
     | true =>have I:v=35:=UInt8.toNat_inj.1 (by have:=eq_of_beq h35;show v.toNat=35;omega);subst I;refine zf <| za S <| zH ?_;have u:=D5 (s:=S) (t:=t) (p:=i) C E j F V oq;have K:=Ub (w:=w) x f;generalize (QT t i).1=L at *;generalize (QT t i).2=n at *;exact zx <| zc 2 u <| zf <| za S<|EW.fill (qW t w o i L n) kq<|d L n S K l
     | false =>exact zf <| za S <| aJ kq<|EW.fill (qW t w o i 0 0) kq<|W<|λe=>by rw[f] at e;cases e;revert h35;decide
    .exact zp (nF (i+1) t.length O) <| zf <| za S <| aJ kq<|EW.fill (qW t w o i 0 0) kq<|W<|λe=>by rw[List.getElem?_eq_none oq] at e;cases e
  .refine zp (nF i t.length c) <| zf <| za S <| aJ kq (EW.exit ?_);rw[List.drop_eq_nil_of_le oq,Qz,List.append_nil] at P;subst P;exact⟨rfl,l,i,aP kq⟩
 .rintro e a S ⟨rfl,l,i,y,rfl⟩;exact zs <| za S (aE ⟨.inr rfl,kq,l⟩)
end
