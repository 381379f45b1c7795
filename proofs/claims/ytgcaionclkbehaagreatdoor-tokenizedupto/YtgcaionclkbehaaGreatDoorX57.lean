import Derived.Test.YtgcaionclkbehaaGreatDoorX38
import Derived.Test.YtgcaionclkbehaaGreatDoorG3
import Derived.Lib.DecodeN
import Derived.Test.YtgcaionclkbehaaGreatDoorX26
set_option linter.all false
set_option maxHeartbeats 4000000
set_option maxRecDepth 100000
namespace Go.Proofs.YtgcaionclkbehaaGreatDoor
open Go.Conc Go.RowKit Go.Lib Tryz
variable [Inhabited KC]
section
variable {kt:TypeId->Bool}{c:FuncId->Aq->AS->Option (Value × AS)}{a:TL}{o:Oper}{s:AS}{t:TypeId}{x y:Operand}
def uu:∀l:Bq,ju (l.map λb=>Value.int .u8 b.toNat)=some l
 | []=>rfl
 | b::l=>by have hb:=b.toNat_lt;unfold ju;simp only[yB,uu l];rw[ip oq];simp
def Xb{b cp:Nat}{ty:TypeId}{fz:Nat × Nat}(l:Bq)(h:s.get b=some (.cells (oJ l) ty fz))(e:o.op=.convert 55 9 x:=by rfl)(g:cW prog a o=none:=by kernel_rfl)(f:a.at x=.slice (sq b) l.length cp:=by kernel_rfl):bS prog kt c a o s=some (str l,s):=by
 refine wj e g ?_;have d:(oJ l).size=l.length:=by simp[oJ,strCells]
 have i:(oJ l).toList.take l.length=l.map λb=>Value.int .u8 b.toNat:=by rw[tL (by simp[oJ,strCells])];simp[oJ,strCells]
 unfold gm;rw[f,underlying55,underlying9];simp only[h,underlying5];rw[ip (by rw[d];exact lr),i,uu]
theorem LQ(n:Nat)(h:n<256)(e:o.op=.convert 3 5 x:=by rfl)(f:a.at x=num (n:Int):=by kernel_rfl):bS prog kt c a o s=some (.int .u8 ((UInt8.ofNat n).toNat:Int),s):=by refine fe (by rw[e];rfl) gq ?_;unfold cW;rw[e];simp only;rw[f,underlying3,underlying5];simp only[fv];rw[IntKind.wrap_u8,Vj h];congr 2;omega
end
section
variable {pr:Prim}{s:AS}
def TR{kt:TypeId->Bool}{c:FuncId->Aq->AS->Option (Value × AS)}{a:TL}{o:Oper}(n d:Nat)(f:n<=9000000000000000000)(h:bS prog kt c a o s=some (num<|IntKind.i64.wrap<|Int.tdiv (n:Int) (d:Int),s):=by kernel_rfl):bS prog kt c a o s=some (num ((n / d:Nat):Int),s):=by
 rw[h];have b:Int.tdiv (n:Int) (d:Int)=((n / d:Nat):Int):=iq
 have e:=Nat.div_le_self n d;rw[b];generalize n / d=q at e |-;rw[NV oq]
def TT{kt:TypeId->Bool}{c:FuncId->Aq->AS->Option (Value × AS)}{a:TL}{o:Oper}(n d:Nat)(e:n<=9000000000000000000)(h:bS prog kt c a o s=some (num<|Int.tmod (n:Int) (d:Int),s):=by kernel_rfl):bS prog kt c a o s=some (num ((n % d:Nat):Int),s):=by
 rw[h];have b:Int.tmod (n:Int) (d:Int)=((n % d:Nat):Int):=by simp[Int.tmod_eq_emod]
 rw[b]
def XR(h:pr 390=none){r:Int}(e:Good r):∃a,Ef pr 390 #[num r] s (str<|encodeRune r) a:=by
 obtain⟨n,rfl,i,g⟩:=oU e;rw[g];have f:n<=1114111:=by unfold Good at e;omega
 suffices hh:∃a,Ef pr 390 #[num (n:Int)] s (str<|rH n) a/\True by have⟨a,q,_⟩:=hh;exact⟨a,q⟩
 refine cm h func390 O<|zs <| za s <| am <| aD <| zr <| zk 1 ?_;unfold rH;by_cases b:n<128
 .rw[ip b];refine zp (nT n 128 b) <| zf <| za s <| zH<|zr <| zk 1 <| zp (LQ n oq) <| zg 1 (s.add<|.cells _ 5) <| zp (Xb (cp:=1) [UInt8.ofNat n] (Has.new s _).2) <| zf <| aE ⟨.inr O,kq,trivial⟩
 .rw[iw b];unfold qg;refine zp (nF n 128 b) <| zf <| za s <| zG <| zr <| zk 1 ?_;by_cases c:n<2048
  .rw[ip c];refine zp (nT n 2048 c) <| zf <| za s <| zH<|zr <| zk 1 <| zo s <| zp (TR n 64 oq) <| zp (na 192 (n / 64) oq) <| zp (LQ (192+n / 64) oq) <| zk 1 <| zo s <| zp (TT n 64 oq) <| zp (na 128 (n % 64) oq) <| zp (LQ (128+n % 64) oq) <| zg 1 (s.add<|.cells (oJ [UInt8.ofNat (192+n / 64),UInt8.ofNat<|128+n % 64]) 5) <| zp (Xb (cp:=2) _ (Has.new s _).2) <| zf <| aE ⟨.inr O,kq,trivial⟩
  .rw[iw c];refine zp (nF n 2048 c) <| zf <| za s <| zG <| zr <| zk 1 ?_;by_cases d:n<65536
   .rw[ip d];refine zp (nT n 65536 d) <| zf <| za s <| zH<|zr <| zk 1 <| zo s <| zp (TR n 4096 oq) <| zp (na 224 (n / 4096) oq) <| zp (LQ (224+n / 4096) oq) <| zk 1 <| zo s <| zp (TR n 64 oq) <| zo s <| zp (TT (n / 64) 64 oq) <| zp (na 128 (n / 64 % 64) oq) <| zp (LQ (128+n / 64 % 64) oq) <| zk 1 <| zo s <| zp (TT n 64 oq) <| zp (na 128 (n % 64) oq) <| zp (LQ (128+n % 64) oq) <| zg 1 (s.add<|.cells (oJ [UInt8.ofNat (224+n / 4096),UInt8.ofNat<|128+n / 64 % 64,UInt8.ofNat<|128+n % 64]) 5) <| zp (Xb (cp:=3) _ (Has.new s _).2) <| zf <| aE ⟨.inr O,kq,trivial⟩
   .rw[iw d];refine zp (nF n 65536 d) <| zf <| za s <| zF<|zr <| zk 1 <| zo s <| zp (TR n 262144 oq) <| zp (na 240 (n / 262144) oq) <| zp (LQ (240+n / 262144) oq) <| zk 1 <| zo s <| zp (TR n 4096 oq) <| zo s <| zp (TT (n / 4096) 64 oq) <| zp (na 128 (n / 4096 % 64) oq) <| zp (LQ (128+n / 4096 % 64) oq) <| zk 1 <| zo s <| zp (TR n 64 oq) <| zo s <| zp (TT (n / 64) 64 oq) <| zp (na 128 (n / 64 % 64) oq) <| zp (LQ (128+n / 64 % 64) oq) <| zk 1 <| zo s <| zp (TT n 64 oq) <| zp (na 128 (n % 64) oq) <| zp (LQ (128+n % 64) oq) <| zg 1 (s.add<|.cells (oJ [UInt8.ofNat (240+n / 262144),UInt8.ofNat<|128+n / 4096 % 64,UInt8.ofNat<|128+n / 64 % 64,UInt8.ofNat<|128+n % 64]) 5) <| zp (Xb (cp:=4) _ (Has.new s _).2) <| zf <| aE ⟨.inr O,kq,trivial⟩
end
def W9:Nat->Nat->Bq
 | 0,_=>[]
 | k+1,n=>UInt8.ofNat (97+n % 16)::W9 k (n / 16)
def U9 (n:Nat):Bq:=35::W9 7 n
abbrev lS(v:Nq)(n:Nat):Obj:=.cells #[v 0,v 1,v 2,v 3,v 4,v 5,v 6,v 7,v 8,v 9,num n] 74
def MN(b:Nat)(o:Bq)(m k:Nat)(x:Nq):TL:=[aF b 0,x 1,str [],str o,num m,num k]++fW x 6 27
section
variable {pr:Prim}{s:AS}{b n:Nat}{v:Nq}
def LM(h:pr 184=none)(l:Has s b (lS v n))(D:n<=1000000000):∃p,Ef pr 184 #[aF b 0] s (str<|U9<|n+1) p/\Has p b (lS v<|n+1)/\fp (λk=>k=b) s p:=by
 refine cm h func184 O<|zs <| za s <| zr <| zg 4 s <| zp (yl b 10 (num n) l.2) <| zp (na n 1 oq) <| zg 2 s <| zp (ys b 10 (num ((n+1:Nat):Int)) l.2 iq) <| aB (za (s.set b<|some<|lS v<|n+1) ?_);have r:=l.put<|lS v<|n+1;have x:fp (λk=>k=b) s (s.set b<|some<|lS v<|n+1):=fp.set (K:=λk=>k=b) (c:=b) (fp.refl s) (λ_=>O) _;generalize s.set b _=S at *;refine zs <| za S <| zr <| zg 3 S <| zp (yl b 10 _ r.2) <| zf <| za S (am <| zs <| za S (EW.fill (MN b [35] (n+1) 0) kq λy=>?_));generalize A:U9 (n+1)=R;refine aD <| aN (aZ (Q:=λe f a=>e=.exit 0/\eQ S.nx S a/\∃m k y,f=MN b R m k y) (λu f a=>eQ S.nx S a/\∃k o m,u+k=7/\m<=1000000001/\o.length<=1+k/\o++W9 u m=R/\∃y,f=MN b o m k y) ?_ 7 _ _ ⟨⟨lr,λ_ _=>O⟩,0,[35],n+1,O,oq,iq,A,y,O⟩) ?_
 .rintro u f a ⟨d,k,o,m,t,C,E,i,y,rfl⟩;refine am <| zr <| zk 1 ?_;by_cases g:k<7
  .obtain⟨u,rfl⟩:∃w,u=w+1:=⟨u-1,oq⟩;refine zp (nT k 7 g) <| zf <| za a <| zT <| am <| aD<|zr <| zk 2 <| zo a <| zp (TT m 16 oq) <| zp (na 97 (m % 16) oq) <| zp (LQ (97+m % 16) oq) <| zg 1 (a.add<|.cells _ 5) <| zp (Xb (cp:=1) [UInt8.ofNat (97+m % 16)] (Has.new a _).2) <| zp (nS o [UInt8.ofNat (97+m % 16)]<|by simp;omega) <| zf (za (a.add<|.cells (oJ [UInt8.ofNat (97+m % 16)]) 5) ?_);have j:eQ S.nx S (a.add<|.cells (oJ [UInt8.ofNat (97+m % 16)]) 5):=⟨by have:=d.1;simp;omega,λk t=>by rw[AS.bu,iw<|by have:=d.1;omega];exact d.2 k t⟩;generalize a.add _=q at *;unfold W9 at i;generalize UInt8.ofNat (97+m % 16)=c at *;exact zx <| zk 1 <| zo q <| zp (TR m 16 oq) <| zf <| za q (zx <| zk 1 <| zp (na k 1 oq) <| zf (⟨u,oq,j,k+1,o++[c],m / 16,oq,oq,by simp;omega,by rw[uW];exact i,aP kq⟩))
  .refine zp (nF k 7 g) <| zf <| za a <| aJ kq (EW.exit ?_);have:u=0:=oq
   subst this;rw[show W9 0 m=[] from O,List.append_nil] at i;subst i;exact⟨O,d,m,k,aP kq⟩
 .rintro e f a ⟨rfl,d,m,k,y,rfl⟩;exact zs <| za a (aE ⟨.inr O,kq,r.oj d,x.trans (Q0 (K:=λ_=>False) O d) λ_ _ z=>z.elim⟩)
end
def nh(s:ByteArray):Nat->Iq->Prop
 | k,[]=>¬k<s.size
 | k,r::rs=>k<s.size/\r=((Utf8.decode s k).1:Int)/\nh s (k+(Utf8.decode s k).2) rs
structure DI(N:Nat)(s:ByteArray)(w:World):Prop where
 lv:w.heap[N+3]?=some (.cells #[.chan (some<|N+2)] 158)
 pc:w.heap[N]?=some (.cells #[.string s] 9)
 wb:w.heap[N+7]?=some (.cells #[.pointer (some ⟨N+6,0,none⟩)] 240)
 bf:∃o,w.heap[N+8]?=some o
structure zy(N:Nat)(s:ByteArray)(g k:Nat)(w:World):Prop where
 ht:DI N s w
 it:w.heap[g]?=some (.stringIter s k)
 lo:N+9<=g
 hz:FA s=kc
section
variable {N Pb g k:Nat}{Shun:Loc->Prop}{val:Value}{B:Nat}{Mz:Loc->Prop}{w aL:World}{s:ByteArray}
variable [ConcR.Payload][ConcX.Payload]
def KX{o:Nat}{wr:Bool}:NX (aH Tryz.prog N Pb Shun val B Mz) w ⟨.cell ⟨N,o,none⟩,wr,false⟩:=.inl ⟨_,_,O,.inl<|.inl O⟩
def V0{f:(Nq)->Act}{a:Act}(h:f (λi=>a.tmps.getD i undef)=a):∃x:Nq,a=f x:=⟨_,h.symm⟩
def H6{es:Array Event}{a:Obj}(f:N+9<=w.heap.size)(g:dt (NM a))(h:∀e∈es,NX (aH Tryz.prog N Pb Shun val B Mz) (w.alloc a) e):DK (aH Tryz.prog N Pb Shun val B Mz) w (w.alloc a) es:=by
 refine⟨O,O,O,λb c _=>bQ _ _ c,λb c=>?_,λb i d=>?_,bQ _ _<|by show N<_;omega,by simp[World.size_alloc],h⟩
 .rcases c with z|⟨z,o',z1,z2⟩
  .exact .inl z
  .exact .inr ⟨z,o',(bQ _ _ (oa.1 z1).1).trans z1,z2⟩
 .have:b=w.heap.size:=by simp[World.size_alloc] at d;omega
  subst this;exact .inr ⟨f,_,heap_alloc_new w a,g⟩
def DI.rc(h:DI N s w)(r:RC (aH Tryz.prog N Pb Shun val B Mz) w aL):DI N s aL :=
 ⟨(r _<|.inr<|.inr<|.inl O).trans h.lv,(r _<|.inl<|.inl O).trans h.pc,(r _<|i3<|.inr<|.inl O).trans h.wb,h.bf.imp λ_ a=>(r _<|i3<|.inr<|.inr<|.inl O).trans a⟩
def DI.rely{i:Ix}(h:DI N s w)(r:sY (aH Tryz.prog N Pb Shun val B Mz) i w aL):DI N s aL:=h.rc r.rc
def DI.size(h:DI N s w):N+9<=w.heap.size:=by
 have⟨o,a⟩:=h.bf
 have:=(oa.1 a).1;omega
def zy.mT(h:zy N s g k w):(aH Tryz.prog N Pb Shun val B Mz).eV w g:=.inr ⟨h.lo,_,h.it,.inr<|.inr<|by have:=h.hz;show 1000+FA s=kc+1000;omega⟩
def zy.rc(h:zy N s g k w)(r:RC (aH Tryz.prog N Pb Shun val B Mz) w aL):zy N s g k aL:=⟨h.ht.rc r,(r _<|.inl h.mT).trans h.it,h.lo,h.hz⟩
def zy.rely{i:Ix}(h:zy N s g k w)(r:sY (aH Tryz.prog N Pb Shun val B Mz) i w aL):zy N s g k aL:=h.rc r.rc
theorem DI.alloc(h:DI N s w)(c:FA s=kc):∃g,g=w.heap.size/\zy N s g 0 (w.alloc<|.stringIter s 0):=by have b:=h.size;refine⟨_,rfl,⟨(bQ _ _ oq).trans h.lv,(bQ _ _ oq).trans h.pc,(bQ _ _ oq).trans h.wb,h.bf.imp λ_ a=>(bQ _ _ oq).trans a⟩,heap_alloc_new w _,b,c⟩
theorem zy.step(h:zy N s g k w)(k':Nat):zy N s g k' { w with heap:=w.heap.setIfInBounds g (.stringIter s k') }:=by
 have c:=h.lo;have a:∀b,b≠g->(w.heap.setIfInBounds g<|.stringIter s k')[b]?=w.heap[b]?:=λb e=>by simp[Array.getElem?_setIfInBounds,Ne.symm e]
 have d:=(oa.1 h.it).1;exact⟨⟨(a _ oq).trans h.ht.lv,(a _ oq).trans h.ht.pc,(a _ oq).trans h.ht.wb,h.ht.bf.imp λ_ f=>(a _ oq).trans f⟩,by simp[Array.getElem?_setIfInBounds,d],c,h.hz⟩
def OK(h:zy N s g k w)(k':Nat){es:Array Event}(f:∀e∈es,NX (aH Tryz.prog N Pb Shun val B Mz) { w with heap:=w.heap.setIfInBounds g (.stringIter s k') } e):DK (aH Tryz.prog N Pb Shun val B Mz) w { w with heap:=w.heap.setIfInBounds g (.stringIter s k') } es:=by
 have i:=h.lo;have a:∀b,b≠g->(w.heap.setIfInBounds g<|.stringIter s k')[b]?=w.heap[b]?:=λb c=>by simp[Array.getElem?_setIfInBounds,Ne.symm c]
 refine⟨O,O,O,λb _ c=>a b ?_,λb c=>?_,λb j d=>?_,a _<|by show N≠g;omega,iq,f⟩
 .rintro rfl;exact c h.mT
 .by_cases e:b=g
  .subst e;exact(h.step k').mT
  .exact c.of_same<|a b e
 .simp at d;omega
def P3{H:World->Prop}(e:∀w c,RC (aH Tryz.prog N Pb Shun val B Mz) w c->H w->H c)(i:∀w,H w->w.heap[N+3]?=some (.cells #[.chan (some<|N+2)] 158))(j:∀w,H w->N+9<=w.heap.size)(d:H w)(fr:Bool)(r:Int)(vs:Vq) :
  iH Tryz.prog (XK<|aH Tryz.prog N Pb Shun val B Mz) 113 #[.int .i32 r,.pointer<|sq<|N+3] (fr,.int .i32 r::vs) w (λm _ n=>m=(false,vs)/\H n):=by
 have C:Closed Tryz.prog false _ _ _:=XK.closed (K:=(aH Tryz.prog N Pb Shun val B Mz));have T:=AZ (K:=(aH Tryz.prog N Pb Shun val B Mz));refine fG Tryz.func113 rq O ?_;simp only[Tryz.ntmps113,List.size_toArray,lC,List.length_nil,Nat.reduceAdd,Nat.reduceSub,Array.replicate_succ,Array.replicate_zero,List.push_toArray,List.append_toArray,List.nil_append,List.cons_append];refine bT C T ?_;simp only[List.size_toArray,lC,List.length_nil,Nat.reduceAdd,Nat.zero_add,List.range,List.range.loop];refine aV C O rq λc f h a=>?_;replace d:=e _ _ f.rc d;have l:=cell1<|i _ d;go_simp;refine a _ _ ⟨?_,?_⟩
 .refine kR ?_;co_evs (exact pQ<|.inr<|.inl O)
 try walk_nrm
 refine aV C O rq λk f h a=>?_;replace d:=e _ _ f.rc d;go_simp;refine a _ _ ⟨?_,?_⟩
 .co_quiet (T (true,[]))
 try walk_nrm
 refine yJ O O rq O O O (λg b=>j _<|e _ _ b d) λg b=>?_;replace d:=e _ _ b d;exact cO C T ⟨.inl O,O,_,resultsC_none rq _,O,d⟩
def RD(N:Nat):Value:=.func (.func 85) #[] #[.pointer (some ⟨N,0,none⟩)]
theorem IC(c:DI N s w)(E:FA s=kc)(f:Iq)(l:nh s 0 f) :
  iH Tryz.prog (XK<|aH Tryz.prog N Pb Shun (.string s) B Mz) 85 #[iG N,.pointer<|sq N] (true,V f) w (λF _ G=>F.2=[]/\HE N (.string s) G):=by
 have C:Closed Tryz.prog false _ _ _:=XK.closed (K:=(aH Tryz.prog N Pb Shun (.string s) B Mz));have T:=AZ (K:=(aH Tryz.prog N Pb Shun (.string s) B Mz));have o:=T (true,[]);have J:=λw=>yU (P:=Tryz.prog) (t:=9) (s:=s) Tryz.underlying9 w;have I:=λw z=>rO (P:=Tryz.prog) (t:=9) (s:=s) Tryz.underlying9 w z;refine fG Tryz.func85 rq rfl ?_;simp only[Tryz.ntmps85,List.size_toArray,lC,List.length_nil,Nat.reduceAdd,Nat.reduceSub,Array.replicate_succ,Array.replicate_zero,List.push_toArray,List.append_toArray,List.nil_append,List.cons_append];refine fj C T<|bT C T ?_;simp only[List.size_toArray,lC,List.length_nil,Nat.reduceAdd,Nat.zero_add,List.range,List.range.loop];refine aV C rfl rq λ_ d j b=>?_;replace c:=DI.rely c d;clear d;have A:=cell1 c.pc;go_simp;try (unfold stored;go_simp)
 refine b _ _ ⟨?_,?_⟩
 .refine kR ?_;co_evs (exact KX)
 clear b j;try walk_nrm
 clear A;refine aV C rfl rq λ_ d j b=>?_;replace c:=DI.rely c d;clear d;simp only[execOp,Act.eval,Gk,K8,List.getElem?_cons_succ,N4,Option.getD_some];go_simp;refine b _ _ ⟨?_,?_⟩
 .exact H6 c.size (.inr<|.inr<|by show 1000+FA s=kc+1000;omega)<|by co_evs (skip)
 clear b j;try walk_nrm
 have⟨g,v,c⟩:=c.alloc E;simp only[<-v];clear v;refine cO C T ?_;show ov _ _ _ _ _ _ _;refine iC C T<|w7 C T (λn i a w=>∃k f q,n=f.length/\nh s k f/\i=(q,V f)/\zy N s g k w/\∃x:Nq,a=⟨#[iG N,.pointer<|sq N,undef,undef,x 4,.string s,.pointer<|sq g,x 7,x 8,x 9,x 10,x 11,x 12],[]⟩) f.length ⟨0,f,true,rfl,l,rfl,c,λ_=>undef,rfl⟩ ?_;clear c l f;rintro n i a w ⟨k,f,q,rfl,l,rfl,c,x,rfl⟩;refine fj C T<|bT C T ?_;simp only[List.size_toArray,lC,List.length_nil,Nat.reduceAdd,Nat.zero_add,List.range,List.range.loop];refine aV C rfl rq λ_ d j b=>?_;replace c:=zy.rely c d;clear d;cases f with
 | nil =>
  have m:¬k<s.size:=l;have u:=λt=>sw (P:=Tryz.prog) (t:=t) c.it m;have p:=λt=>n9 (P:=Tryz.prog) (t:=t) c.it m;go_simp;refine b _ _ ⟨?_,?_⟩
  .refine kR ?_;co_evs (exact .inr ⟨_,_,rfl,c.mT⟩)
  clear b j u p;try walk_nrm
  refine aV C rfl rq λ_ d j b=>?_;replace c:=zy.rely c d;clear d;go_simp;refine b _ _ ⟨?_,?_⟩
  .co_quiet o
  clear b j;try walk_nrm
  refine cO C T ?_;show ov _ _ _ _ _ _ _;refine fj C T<|bB C T (t:=false) rfl ?_;simp only[if_true,if_false,reduceIte,j6];refine w6 C T ?_;simp only[mS,C8,if_true];exact⟨.inl trivial,trivial,_,resultsC_none rq _,rfl,⟨_,c.ht.pc⟩,c.ht.wb,c.ht.bf⟩
 | cons r f =>
  obtain⟨m,rfl,l⟩:=l;have u:=λt=>CQ (P:=Tryz.prog) (t:=t) c.it m;have p:=λt=>ux (P:=Tryz.prog) (t:=t) c.it m;go_simp;refine b _ _ ⟨?_,?_⟩
  .refine OK c _ ?_;intro e D;have y:=mem_listed D;simp[go_sem, *] at y;rcases y with rfl|rfl
   .exact .inr ⟨_,_,rfl,(c.step _).mT⟩
   .exact .inr ⟨_,_,rfl,(c.step _).mT⟩
  clear b j u p;try walk_nrm
  replace c:=c.step<|k+(Utf8.decode s k).2;refine aV C rfl rq λ_ d j b=>?_;replace c:=zy.rely c d;clear d;go_simp;refine b _ _ ⟨?_,?_⟩
  .co_quiet o
  clear b j;try walk_nrm
  refine cO C T ?_;show ov _ _ _ _ _ _ _;refine fj C T<|bB C T (t:=true) rfl ?_;simp only[if_true,if_false,reduceIte,j6];refine fY C T ?_;show ov _ _ _ _ _ _ _;refine iC C T<|fj C T<|bT C T ?_;simp only[List.size_toArray,lC,List.length_nil,Nat.reduceAdd,Nat.zero_add,List.range,List.range.loop];iterate 2
   refine aV C rfl rq λ_ d j b=>?_
   replace c:=zy.rely c d
   clear d
   go_simp
   refine b _ _ ⟨?_,?_⟩
   .co_quiet o
   clear b j;try walk_nrm
  refine cO C T ?_;show ov _ _ _ _ _ _ _;refine bT C T ?_;simp only[List.size_toArray,lC,List.length_nil,Nat.reduceAdd,Nat.zero_add,List.range,List.range.loop];iterate 2
   refine aV C rfl rq λ_ d j b=>?_
   replace c:=zy.rely c d
   clear d
   go_simp
   refine b _ _ ⟨?_,?_⟩
   .co_quiet o
   clear b j;try walk_nrm
  refine cI C T rfl rq rfl rfl (by simp[Act.eval]) (by simp[V]) (P3 (λ_ _ r h=>h.rc r) (λ_ h=>h.ht.lv) (λ_ h=>h.ht.size) c q ((Utf8.decode s k).1:Int)<|V f) ?_;rintro _ _ _ ⟨rfl,c⟩;exact cO C T ⟨f.length,iq,_,f,false,rfl,l,rfl,c,V0 rfl⟩
end
section
variable {w₀ w aL:World}{Post:Value->World->Prop}{S:Nat->Prop}{N Pb cp:Nat}{s:ByteArray}
def Pp(H:vw w₀ N (N+1) S)(g:FA s=kc){b:Iq}(e:nh s 0 b)(Shun:Loc->Prop)(w:World)[ConcR.Payload][ConcX.Payload](a:He w₀ (pg N (.string s) 9<|RD N) w):XK (aH Tryz.prog N (N+1) (fV N Shun) (.string s) (N+9)<|λ_=>False) (true,V b) (born Tryz.prog<|ll N) w:=by
 obtain rfl:=H.size;have d:HB w₀.heap.size _ w:=⟨a.blocks 1 _ O,a.blocks 3 _ O,a.blocks 5 _ O,a.blocks 7 _ O,a.blocks 8 _ O⟩;have f:DI w₀.heap.size s w:=⟨a.blocks 3 _ O,a.blocks 0 _ O,a.blocks 7 _ O,⟨_,a.blocks 8 _ O⟩⟩;refine Rm d λc r=>?_
 have:=IC (Pb:=w₀.heap.size+1) (Shun:=fV w₀.heap.size Shun) (B:=w₀.heap.size+9) (Mz:=λ_=>False) (f.rc r) g b e;simpa using this
def ID{A Fw:World->Prop}{I:Nat->World->Prop}{f:FuncId}{cap:Aq}(H:vw w₀ N (N+1) S)(G:FA s=kc){n:Iq}(D:nh s 0 n)(r:n.length<=1000000)
 (q:∀b:Loc->Prop,(∀l,b l->∃t:Addr,l=.cell t/\S t.block)->Client (aH Tryz.prog N (N+1) (fV N b) (.string s) (N+9)<|λ_=>False) N n f cap A Fw I)(o:∀w,He w₀ (pg N (.string s) 9<|RD N) w->A w)(p:∀w g,ConcX.Aside2 N (N+6) w g->Fw w->Fw g) :
  fx Tryz.prog (ZI Tryz.prog Post 0) 47 #[.string s,.func (.func f) #[] cap] S w₀ (λy x u=>x=.tuple #[]/\y=SE N S/\Fw u/\u.heap[N+6]?=some (.cells #[.int .u64 0,.int .u32 0] 169)):=by
 have C:cC Tryz.prog true (λ_:Nat->Prop=>AtRel) DZ (ZI Tryz.prog Post 0):=ZI.closed;have T:=tV;have L:∀w k,(Instr.makeFunc (Fn.func 85) #[] #[Value.pointer (sq N)]).events Tryz.prog w k=k:=λw k=>by simp[Instr.makeFunc]
 obtain rfl:=H.size;have c:=He.start w₀;refine iu Tryz.func47 rq O ?_;simp only[Tryz.ntmps47,List.size_toArray,lC,List.length_nil,Nat.reduceAdd,Nat.reduceSub,Array.replicate_succ,Array.replicate_zero,List.push_toArray,List.append_toArray,List.nil_append,List.cons_append];refine bY C T<|aW C T ?_;simp only[List.size_toArray,lC,List.length_nil,Nat.reduceAdd,Nat.zero_add,List.range,List.range.loop];refine aM C O rq λ_ d j a=>?_;replace c:=He.rely c d;go_simp;try (unfold stored;go_simp)
 refine a _ _ ⟨?_,?_⟩
 .intro e E;have F:=mem_listed E;simp[go_sem, *] at F
 try walk_nrm
 have i:=c.size;simp only[lC,List.length_nil,Nat.reduceAdd,Nat.add_zero,Nat.zero_add] at i;simp only[i];replace c:=c.alloc<|.cells #[.string s] 9;simp only[List.cons_append,List.nil_append] at c;refine bv C T ?_;show il _ _ _ _ _ _ _;refine aW C T ?_;simp only[List.size_toArray,lC,List.length_nil,Nat.reduceAdd,Nat.zero_add,List.range,List.range.loop];refine aM C O rq λ_ d j a=>?_;replace c:=He.rely c d;go_simp;try (unfold stored;go_simp)
 refine a _ _ ⟨?_,?_⟩
 .co_still (T _)
 try walk_nrm
 refine aM C O rq λ_ d j a=>?_;replace c:=He.rely c d;go_simp;try (unfold stored;go_simp)
 refine a _ _ ⟨?_,?_⟩
 .co_quiet (T _)
 try walk_nrm
 refine jS C T O rq O O (by simp[Act.eval]) O (Ru (Post:=Post) (f:=f) (fr:=85) (cap:=cap) (l:=n) H c r (λb w _ _ h=>Pp H G D b w h) q o p) ?_;rintro _ _ _ ⟨rfl,z,B⟩;exact bv C T ⟨.inl O,O,_,resultsC_none rq _,O,O,z,B⟩
end
section
variable {Post:Value->World->Prop}{Ex:Nat->Prop}{w₀:World}{An:dQ}
open Classical in
def Qo{z1 e1:Nat}(h1:An 1=some (1,z1,e1)){n:Nat}{s p:AS}(hs1:1<s.nx){f:FuncId}{y:Aq}{str:ByteArray}{aY:Func}(hf:Tryz.prog.funcs[f]?=some aY){c:Code}(V:aY.body=some c)(Eu:aY.results.toList.isEmpty=true)(O1:∀b,s.nx<=b->An b=none)(htm:s.AY=true)(hy:y.toList.all (nf s.nx)=true)(uN:FA str=kc){all:Iq}(hL:nh str 0 all)(hg:∀r∈all,Good r)(hn4:4*all.length<=1000000)
 {pr:Prim}(Z8:∀f g args s v s',pr f=some g->g args s=some (v,s')->s.nx<=s'.nx)(hpr:∀S:dQ,(∀b,s.nx<=b->S b=none)->An.le S->∀{ι:Type} {N0:ι->Nat} {M:ι->World->Nat->Prop} {O:ι->Nat->Prop} {R:ι->Wq} {D:ι->World->World->Array Event->Prop} {X:ι->Gq} {Hd:ι->Hq->World->Prop} (_:Cy Tryz.prog dt N0 M O R D X Hd) (A:dQ),(JE Ex w₀->Tb M Hd)->(∀b,b≠s.nx->A b=S b)->cb Tryz.prog dt A R D X Hd (gz s.nx all)->cb Tryz.prog dt A R D X Hd pr)
 {od:AS->AS}(m:xH od){e:Exit}{mD:TL}(rT:gx Tryz.prog kJ pr n c ((aF s.nx 0::y.toList)++List.replicate (aY.ntmps-(y.size+1)) undef) ⟨s.hp,s.nx+1⟩=some (e,mD,p))(C:AS.keeps s p=true)(he:e=.normal\/e=.ret) :
  s.nx<=(od p).nx/\Sound Tryz.prog dt An (λ_:Zx=>AtRel) (λj=>DZ j.1) (λj=>ZI Tryz.prog Post 0 j.1) (uI Ex w₀) 47 #[.string str,.func (.func f) #[] y] s (.tuple #[]) (od p):=by
 have vT:s.nx+1<=p.nx:=by exact(yk (P:=Tryz.prog) (kt:=kJ) Z8 n).1 _ _ _ _ _ _ rT
 refine⟨by rw[(m p).1];omega,uG O1 htm (by simp only[List.all_cons,List.all_nil,Ro,nf,fs,hy,Bool.and_true]) (by rw[(m p).1];omega) ?_⟩;have WM:aY.results=#[]:=by apply vp.1;simpa using Eu
 intro S l fr j w args' Q4 Q hF hA;obtain⟨a0,a1,rfl,v0,v1⟩:=J9 hA;obtain rfl:=v0.sc rfl;obtain⟨p',cap,rfl,yu,Td⟩:=v1.fn;have WJ:p'=#[]:=by apply vp.1;have:=yu.1;simp at this;exact List.eq_nil_of_length_eq_zero<|by simpa using this.symm
 subst WJ;obtain⟨⟨hj,W⟩,a⟩:=hF;let live:Nat × Obj->Prop:=λq=>∃L ob z e,s.get L=some ob/\S L=some (q.1,z,e);have hH:vw w w.heap.size (w.heap.size+1) j.1:=⟨rfl,.inr rfl,λb H=>⟨lL (hj b H) a.size,by have:=lL (hj b H) a.size;omega⟩⟩;have Zw:YR w w.heap.size (w.heap.size+1) j.1 s S An (l.filter λq=>decide (live q)):=by
  refine⟨rfl,⟨λb o t=>?_,λb b' o o' q q' t S9=>Q.inj b b' o o' q q' t S9,λb o t=>Q.lt b o t,Q.an⟩,λb o d=>?_,?_,λb o d=>?_⟩
  .have⟨g,z,e,o',G,q2,q3,q4⟩:=Q.live b o t;exact⟨g,z,e,o',G,List.mem_filter.2 ⟨q2,tD ⟨b,o,z,e,t,G⟩⟩,q3,q4⟩
  .have⟨m1,m2⟩:=List.mem_filter.1 d;have⟨L,ob,z,e,G,q2⟩:=of_decide_eq_true m2;have⟨K,m4,_⟩:=a.own b o<|yC _ m1;exact⟨K.1,by have:=K.1;omega,K.2,m4⟩
  .have E:=a.nodup;rw[Dy] at E;exact(List.filter_sublist.map Prod.fst).nodup (List.nodup_append.1 E).1
  .have⟨m1,m2⟩:=List.mem_filter.1 d;exact of_decide_eq_true m2
 have I:∀L ob,s.get L=some ob->∃L0,p.get L=some L0:=λL ob hq=>by
  unfold AS.keeps at C
  have:=fa C (i:=L)<|Q.lt L ob hq;rw[hq] at this;simp only[Option.isNone_some,Bool.false_or] at this;exact Option.isSome_iff_exists.1 this
 have htw:JE Ex w₀->Yc w w.heap.size (w.heap.size+1) j.1 (l.filter λq=>decide (live q)):=by
  intro hT;have⟨_,_,We⟩:=XN hT j _ w ⟨⟨hj,W⟩,a⟩;have⟨x2,x3,Zz⟩:=hT;have iX:=Zz.1;have hlw:=We.1;have ex:∀b,b=2\/b=3->¬(Ex b\/w₀.heap.size<=b):=λb hb=>by
   rintro(z|z)
   .rcases hb with rfl|rfl
    .exact x2 z
    .exact x3 z
   .omega
  refine⟨We,λb hb=>⟨oq,oq,λz=>by have:=W b z;omega,?_⟩⟩;rintro⟨o,d⟩;exact ex b hb (a.own _ _<|yC _ (List.mem_filter.1 d).1).2.2
 have O3:=λ(Shun:Loc->Prop) (hSh:∀l,Shun l->∃ad:Addr,l=.cell ad/\j.1 ad.block) =>vH (pr:=pr) (sR:=s) (all:=all) (λY A hT hA hp=>hpr S Q4 Q.an Y A (λz=>hT<|htw z) hA hp) (val:=.string str) (s':=p) (s1:=(od p)) hH Zw (λb b1 U=>Q4 b b1) (by show s.nx<p.nx;omega) (Q.an _ _ h1) hs1 hg hn4 hf V WM Td rT he I (m p).2 (Nat.le_of_eq (m p).1.symm) hSh;refine qq (n:=j.2) (ID (Post:=Post) (A:=mE w w.heap.size<|λ_=>False) hH uN hL oq O3 (λw1 F=>⟨F.tape,F.os,F.output,by rw[F.size];simp[pg],λb H _=>F.old b H⟩)<|λw1 w2 r hq=>by have⟨S',l',G,q2,q3,q4,N⟩:=hq;refine⟨S',l',G,q2,q3,λb o d=>?_,N.aside r⟩;have⟨m1,m2,K,m4,m5⟩:=q4 b o d;exact⟨by rw[r.size];exact m1,m2,K,m4,(r.block b m2 K).trans m5⟩) ?_;rintro S' v w' ⟨rfl,rfl,⟨S2,l',G,q2,q3,q4,N⟩,q6⟩;have E:=a.nodup;rw[Dy,List.nodup_append] at E;have⟨Z1,Le,T⟩:=E;have J:∀b,kP (l.filter λq=>decide (live q)) b->∃o,(b,o)∈l:=λb ⟨o,d⟩=>⟨o,(List.mem_filter.1 d).1⟩;have k:w.heap.size<=w'.heap.size:=by have:=N.size;omega
 have Zu:HL (oc<|SE w.heap.size j.1) (λ_=>False) (w.heap.size+7) Ex w₀ (l'++fr) w':=by
  refine⟨⟨N.tape.trans a.kept.tape,N.os.trans a.kept.os,N.output.trans a.kept.output,lT a.kept.grow k,λb h xq=>?_,λb h=>⟨lL h.1<|lT a.kept.grow k,h.2⟩,λb z=>z.elim⟩,by have:=N.size;omega,λb o d=>?_,?_⟩
  .have B:b<w.heap.size:=lL h.1 a.kept.grow;have Z:¬kP (l.filter λq=>decide (live q)) b:=λz=>by
    have⟨o,d⟩:=J b z;rcases(a.own b o<|yC _ d).2.2 with z|z
    .exact xq z
    .have:=h.1;omega
   exact(N.old b B Z).trans (a.kept.block b ⟨h.1,λz=>h.2<|.inl z⟩ xq)
  .rcases List.mem_append.1 d with d|d
   .have⟨m1,m2,K,m4,m5⟩:=q4 b o d;by_cases B:b<w.heap.size
    .have⟨o2,u⟩:=J b<|m4 B;have⟨r1,r2,r3⟩:=a.own b o2<|yC _ u;exact⟨⟨m1,λz=>z.elim r1.2 K⟩,m5,r3⟩
    .refine⟨⟨m1,λz=>z.elim (λz=>?_) K⟩,m5,.inr<|by have:=a.kept.grow;omega⟩
     have:=hj b z
     have:=a.size;omega
   .have⟨r1,r2,r3⟩:=a.own b o<|GF _ d;have Z:¬kP (l.filter λq=>decide (live q)) b:=λz=>by have⟨o2,u⟩:=J b z;exact T b (List.mem_map.2 ⟨_,u,rfl⟩) b (List.mem_map.2 ⟨_,d,rfl⟩) rfl
    refine⟨⟨lL r1.1 k,λz=>z.elim r1.2<|λz=>?_⟩,(N.old b r1.1 Z).trans r2,r3⟩
    have:=r1.1;omega
  .rw[Dy,List.nodup_append];refine⟨q3,Le,λx hx y hy hxy=>?_⟩;subst hxy;obtain⟨⟨b,o⟩,d,rfl⟩:=List.mem_map.1 hx;obtain⟨⟨U,o2⟩,u,e2⟩:=List.mem_map.1 hy;have e2:U=b:=e2;subst e2;have B:=(a.own U o2<|GF _ u).1.1;have⟨o3,ZV⟩:=J U<|(q4 U o d).2.2.2.1 B;exact T U (List.mem_map.2 ⟨_,ZV,rfl⟩) U (List.mem_map.2 ⟨_,u,rfl⟩) rfl
 refine⟨w.heap.size+7,λaL r=>⟨S2,l',G.an,q2,⟨G.live,G.inj,G.lt,dQ.le_trans Q.an G.an⟩,⟨⟨λb z=>?_,λb z=>?_⟩,Zu.rely (Sz (KT:=dt)<|λb z=>?_) r⟩,?_⟩⟩
 .rcases z with z|z
  .have:=hj b z;have:=a.size;omega
  .omega
 .rcases z with z|z
  .exact W b z
  .have:=a.kept.grow;omega
 .rcases z with z|z
  .have:=hj b z;have:=a.size;omega
  .omega
 .exact ij AR.nil

def wB (P:Program)(n r0:Nat)(str:ByteArray)(od:AS->AS)(sj:Prim)(pr:Prim):Prim:=λg=>if g.beq 47 then some λb s=>match b.toList with
 | [.string st,.func (.func f) x y]=>match P.funcs[f]? with
  | some a=>match a.body with
   | some c =>
    if st=str/\x.toList.isEmpty=true/\s.nx=r0/\a.results.toList.isEmpty=true/\s.AY=true/\y.toList.all (nf s.nx)=true then
     match gx P kJ sj n c ((aF s.nx 0::y.toList)++List.replicate (a.ntmps-(y.size+1)) undef) ⟨s.hp,s.nx+1⟩ with
     | some (e,_,s')=>if AS.keeps s s'=true then match e with
       | .normal|.ret=>some (.tuple #[],od s')
       | _=>none
      else none
     | none=>none
    else none
   | none=>none
  | none=>none
 | _=>none
 else pr g
def PW{Z N:Nat}(O:An 1=some (1,Z,N))(C:∀b,32<=b->An b=none){n:Nat}{str:ByteArray}{all:Iq}{r0:Nat}(U:32<=r0){od:AS->AS}(t:xH od){sj:Prim}(B:Of An (JE Ex w₀) r0 sj all)(G:FA str=kc)(P:nh str 0 all)(T:∀r∈all,Good r)(F:4*all.length<=1000000){pr:Prim}(w:cb Tryz.prog dt An (λ_:Zx=>AtRel) (λj=>DZ j.1) (λj=>ZI Tryz.prog Post 0 j.1) (uI Ex w₀) pr) :
  cb Tryz.prog dt An (λ_:Zx=>AtRel) (λj=>DZ j.1) (λj=>ZI Tryz.prog Post 0 j.1) (uI Ex w₀) (wB Tryz.prog n r0 str od sj pr):=by
 have u:∀g h a s v k,g=47->wB Tryz.prog n r0 str od sj pr g=some h->h a s=some (v,k)->s.nx<=k.nx/\Sound Tryz.prog dt An (λ_:Zx=>AtRel) (λj=>DZ j.1) (λj=>ZI Tryz.prog Post 0 j.1) (uI Ex w₀) 47 a s v k:=by
  rintro g h a s v k rfl i d;unfold wB at i;rw[ip (show Nat.beq 47 47=true from rfl)] at i;cases i;simp only at d;split at d
  .next X f x y Q =>
   split at d
   .next K i =>
    split at d
    .next c l =>
     split at d
     .next R =>
      obtain⟨rfl,J,rfl,q,H,V⟩:=R;split at d
      .next e M W E =>
       split at d
       .next o =>
        have p:(e=.normal\/e=.ret)/\v=.tuple #[]/\k=od W:=by
         split at d
         .cases d;exact⟨.inl rfl,rfl,rfl⟩
         .cases d;exact⟨.inr rfl,rfl,rfl⟩
         .cases d
        obtain⟨m,rfl,rfl⟩:=p;have I:x=#[]:=by apply vp.1;simpa using J
        subst I;have D:a=#[.string X,.func (.func f) #[] y]:=by apply vp.1;simp[Q]
        subst D;exact Qo O oq i l q (λb L=>C b oq) H V G P T F B.1 (λS Q4 hSA {_ _ _ _ _ _ _ _} Y A hT hA w=>B.2 Y A (λb x L B=>(hA b oq).trans<|hSA b x B) hT (λb L=>(hA b oq).trans<|Q4 b oq) w) t E o m
       .cases d
      .cases d
     .cases d
    .cases d
   .cases d
  .cases d
 constructor
 .intro g h a s v k i d;by_cases m:g=47
  .exact(u g h a s v k m i d).1
  .unfold wB at i;rw[iw (λz=>m<|ja z)] at i;exact w.nx g h a s v k i d
 .intro g h a s v k i d;by_cases m:g=47
  .subst m;exact(u _ h a s v k rfl i d).2
  .unfold wB at i;rw[iw (λz=>m<|ja z)] at i;exact w.sound g h a s v k i d
def T4{str:ByteArray}{r0:Nat}{od:AS->AS}{sj:Prim}{s s1:AS}{f:FuncId}{aY:Func}{c:Code}{y:Aq}(l:Tryz.prog.funcs[f]?=some aY)(a:aY.body=some c)(b:aY.results.toList.isEmpty=true)(m:s.nx=r0)(d:s.AY=true)(p:y.toList.all (nf s.nx)=true)
 (o:Ew sj c ((aF s.nx 0::y.toList)++List.replicate (aY.ntmps-(y.size+1)) undef) ⟨s.hp,s.nx+1⟩ λe _ g=>(e=.normal\/e=.ret)/\AS.keeps s g=true/\od g=s1) :
  ∃n,∀h,Ef (wB Tryz.prog n r0 str od sj h) 47 #[.string str,.func (.func f) #[] y] s (.tuple #[]) s1:=by obtain⟨n,e,q,g,i,j,k,rfl⟩:=o;refine⟨n,λh=>⟨1,?_⟩⟩;unfold bW wB;rw[ip (show Nat.beq 47 47=true from O)];simp only[l,a,i,k,if_true];rw[ip ⟨trivial,O,m,b,d,p⟩];rcases j with rfl|rfl<;>rfl
end
section
variable {j k:Nat}{e t:TypeId}{v:Value}{s:AS}{pr:Prim}{o:Oper}{ι:Type}{wr:Bq->Int->Bq}{r:Int}
def v8{l:List FuncId}(h:(l.all λf=>(pr f).isNone)=true):∀f,f∈l->pr f=none:=λf a=>Option.isNone_iff_eq_none.1<|aT.1 h f a
def LI (b:UInt8):UInt8:=if 65<=b.toNat/\b.toNat<=90 then UInt8.ofNat (b.toNat+32) else b
def qO (l:Bq):Bq:=l.map LI
theorem Ss(h:128<=r)(d:Good r):∀b∈encodeRune r,128<=b.toNat:=by
 intro b U;obtain⟨x,a,rfl⟩:=List.mem_map.1 U;have c:128<=x/\x<=255:=by unfold encodeRuneZ at a;grind
 rw[UInt8.toNat_ofNat'];omega
theorem KN(a:Good r):encodeRune (dC r)=(encodeRune r).map LI:=by
 by_cases h:128<=r
 .have e:dC r=r:=by unfold dC;rw[iw oq]
  rw[e];refine((List.map_congr_left λb U=>?_).trans<|List.map_id _).symm
  have:=Ss h a b U;unfold LI;grind
 .have c:0<=r:=by unfold Good at a;omega
  obtain⟨n,rfl⟩:=Int.eq_ofNat_of_zero_le c;have U:(UInt8.ofNat n).toNat=n:=by rw[UInt8.toNat_ofNat'];omega
  have e:encodeRune n=[UInt8.ofNat n]:=by have:=Sr (b:=UInt8.ofNat n) oq;grind
  rw[e];unfold dC;show _=[LI _];unfold LI;rw[U];by_cases f:65<=n/\n<=90
  .have d:(UInt8.ofNat<|n+32).toNat=n+32:=by rw[UInt8.toNat_ofNat'];omega
   have:=Sr (b:=UInt8.ofNat<|n+32) oq;grind
  .grind
def Cp:∀{c:Iq},(∀l∈c,Good l)->aG (c.map dC)=qO (aG c)
 | [],_=>rfl
 | l::c,h=>by
  have ih:=Cp λx b=>h x<|Oa _ b;have d:aG (l::c)=encodeRune l++aG c:=by simp[aG]
  have a:aG ((l::c).map dC)=encodeRune (dC l)++aG (c.map dC):=by simp[aG]
  rw[d,a,ih,KN<|h l<|List.mem_cons_self ..];unfold qO;rw[Dy]
def TxL (x:Bq):Prop:=∃ls:Iq,(∀l∈ls,Good l)/\ls.length<=100000/\x=aG ls
def YJ (rn:Nat)(args:Aq)(s:AS):Option Value:=match args.toList with
 | [.string x,.int .i64 k]=>match s.get 1 with
  | some (.cells cs 335 (0,0))=>if yd cs.toList=true/\rn+1<=s.nx/\1<=rn/\(x.data.toList.length<=100000/\gi x.data.toList<=kc) then some (str<|e8 x.data.toList k) else none
  | _=>none
 | _=>none
def UI (args:Aq):Option Value:=match args.toList with
 | [.int .i32 l,.string st]=>if (-1<=l/\l<=1114111)/\(∀b∈st.data.toList,b.toNat<128)/\gi st.data.toList<kc then some (.bool<|da l st.data.toList) else none
 | _=>none
def XP (all:Iq)(x:Bq):Bool:=(List.range<|all.length+1).any λi=>(List.range<|all.length+1).any λj=>ce x<|cV all i j
theorem UD(all:Iq)(i j:Nat):XP all (cV all i j)=true:=by
 have e:cV all i j=cV all (min i all.length) (min j all.length):=by
  unfold cV;congr 1;by_cases a:all.length<=i
  .rw[Sm a,Nat.min_eq_right a,Sm lr];simp
  .rw[Nat.min_eq_left (show i<=all.length by omega)];by_cases U:all.length<=j
   .rw[Nat.min_eq_right U,tL gq,tL gq]
   .grind
 refine List.any_eq_true.2 ⟨min i all.length,List.mem_range.2 oq,List.any_eq_true.2 ⟨min j all.length,List.mem_range.2 oq,(eS _ _).2 e⟩⟩
def XQ{all:Iq}(a:∀l∈all,Good l)(c:all.length<=100000){x:Bq}(h:XP all x=true):TxL x:=by have⟨i,_,h⟩:=List.any_eq_true.1 h;have⟨j,_,h⟩:=List.any_eq_true.1 h;refine⟨(all.drop i).take<|j-i,λl b=>a l<|List.mem_of_mem_drop<|List.mem_of_mem_take b,?_,(eS _ _).1 h⟩;simp;omega
def UH (all:Iq)(args:Aq):Option Value:=match args.toList with
 | [.string x]=>if XP all x.data.toList=true/\gi x.data.toList<kc then some (str<|qO x.data.toList) else none
 | _=>none

def ic(a b:Iq):aG (a++b)=aG a++aG b:=by simp[aG]
def RL(all:Iq)(i j:Nat):gi (cV all i j)<=gi (aG all):=by
 have a:all=all.take i++((all.drop i).take (j-i)++(all.drop i).drop (j-i)):=by rw[List.take_append_drop,List.take_append_drop]
 have b:gi (aG all)=gi (aG<|all.take i)+(gi (aG<|(all.drop i).take<|j-i)+gi (aG<|(all.drop i).drop<|j-i)):=by rw[<-eJ,<-ic,<-eJ,<-ic,<-a]
 unfold cV;omega
def tE{all:Iq}{k:Nat}{r:Int}(h:dG all k=r)(c:0<=r):∃q,all=all.take k++r::q:=by
 have a:k<all.length:=jw oq;refine⟨all.drop<|k+1,?_⟩;have b:all[k]=r:=by simpa[dG,a] using h
 rw[<-b,<-List.drop_eq_getElem_cons a,List.take_append_drop]
def XY{all:Iq}{k:Nat}(h:dG all k=60):2<=gi (aG all):=by
 have⟨q,e⟩:=tE h oq;rw[e,ic,eJ];have:gi (aG ((60:Int)::q))=2+gi (aG q):=by rw[show(60:Int)::q=[60]++q from O,ic,eJ];rfl
 omega
def XZ{all:Iq}{j k:Nat}(h:dG all j=60)(g:dG all k=62):3<=gi (aG all):=by
 have⟨q,e⟩:=tE h oq;have i:j≠k:=λz=>by subst z;omega
 have c:(62:Int)∈all.take j++q:=by
  have d:k<all.length:=jw oq;have l:all[k]=62:=by simpa[dG,d] using g
  have c:=l▸OY d;rw[e] at c;simp at c |-;exact c
 have⟨a,b,f⟩:=List.append_of_mem c;have m:gi (aG all)=2+gi (aG<|all.take j++q):=by
  rw[ic,eJ];conv=>lhs;rw[e,ic,eJ]
  rw[show(60:Int)::q=[60]++q from O,ic,eJ];have:gi (aG [60])=2:=O;omega
 have n:1<=gi (aG<|all.take j++q):=by rw[f,ic,eJ,show(62:Int)::b=[62]++b from O,ic,eJ];have:gi (aG [62])=1:=O;omega
 omega
def X1{all:Iq}{k i j:Nat}(h:dG all k=60)(d:k<i):gi (cV all i j)<gi (aG all):=by
 have⟨q,e⟩:=tE h (by omega);have a:=RL (all.drop<|k+1) (i-(k+1))<|j-(k+1);have b:cV (all.drop<|k+1) (i-(k+1)) (j-(k+1))=cV all i j:=by unfold cV;rw[List.drop_drop,show k+1+(i-(k+1))=i by omega,show j-(k+1)-(i-(k+1))=j-i by omega]
 rw[b] at a;have c:all.drop (k+1)=q:=by
  have d:k<all.length:=jw (by omega);have f:(all.take k).length=k:=by simp;omega
  conv=>lhs;rw[e]
  rw[List.drop_append,f,List.drop_of_length_le<|by omega,show k+1-k=1 by omega];rfl
 rw[c] at a;have g:gi (aG all)=gi (aG<|all.take k)+(2+gi (aG q)):=by
  conv=>lhs;rw[e,ic,eJ,show(60:Int)::q=[60]++q from O,ic,eJ]
  rfl
 omega
def PS (rn:Nat)(all:Iq):Prim:=lF 382 UJ<|Mr<|gz rn all
section
variable (P:Program)
section
variable (rn:Nat)(all:Iq)
def TY:Prim:=mW 157 (YJ rn) (bW P kJ (PS rn all) 0 157)<|PS rn all
def T0:Prim:=lF 328 UI<|TY P rn all
def Mn:Prim:=lF 258 (UH all)<|T0 P rn all
end
end
variable {all:Iq}{rn:Nat}
theorem RU{f:FuncId}{V:Aq->Option Value}(h:∀f g a s v b,pr f=some g->g a s=some (v,b)->s.nx<=b.nx):∀g k a s v b,lF f V pr g=some k->k a s=some (v,b)->s.nx<=b.nx:=by
 intro g k a s v b U c;unfold lF at U;split at U
 .grind
 .exact h g k a s v b U c
def CI:xm rn (PS rn all) all:=⟨RU<|GV<|si rn all,λY A a c d b=>by have⟨z,e,f⟩:=a.1;exact xD (PU Y f b)<|KE Y a c⟩
def TX:QL (PS rn all):=⟨v8 kq,kq,λs t w h=>lM rq<|by simp only[h];rw[ip kq]⟩
theorem Ml:xm rn (TY prog rn all) all:=by
 refine⟨Ig CI.1,λY A b q e o=>cb.forget Y nM cx cL e (CI.2 Y A b q e o) ?_⟩;intro a s v h;unfold YJ at h;split at h
 .next x k b =>
  split at h
  .next l p =>
   split at h
   .next n =>
    obtain⟨f,g,Z,i⟩:=n;cases h;have c:a=#[str x.data.toList,.int .i64 k]:=by apply vp.1; simp[b]
    subst c;have j:l=eZ.toArray:=by apply vp.1; simp[vJ f]
    subst j;have U:(eZ.toArray).toList.all (nf s.nx)=true:=by rw[List.all_eq_true];intro y u;have C:eZ.all fs=true:=kq;have z:=List.all_eq_true.1 C y gq;unfold nf;split<;>first|exact z|cases z
    refine⟨I,g,by simp[nf,fs],1,eZ.toArray,335,(0,0),p,U,λw t d=>?_⟩;obtain⟨r,B,m⟩:=UQ TX x.data.toList i.1 k ⟨oq,d⟩ i.2;exact⟨r,B,(m.2 1 oq).trans d⟩
   .cases h
  .cases h
 .cases h
def TZ:X8 rn all (TY prog rn all):=⟨kq,kq,kq,v8 kq⟩
def Mm:xm rn (T0 prog rn all) all:=Ml.add (m:=1) (by
 intro b v a;unfold UI at a;split at a
 .next l i e =>
  have c:b=#[.int .i32 l,str i.data.toList]:=by apply vp.1; simp[e]
  subst c;split at a
  .next d =>cases a;obtain⟨g,h⟩:=Xi TZ kq d.1 d.2.1<|my d.2.2;exact⟨I,I,g,h⟩
  .cases a
 .cases a)
def T1:YW (T0 prog rn all):=⟨v8 kq,kq,λs q=>by
 have e:encodeRune 65533=[239,191,189]:=kq;exact KD kq (λq=>lM I I) q⟩
def LH(f:YW pr)(a:pr 258=none){g:Iq}(c:∀l∈g,Good l)(e:g.length<=100000)(h:gi (aG g)<kc):∃b,Ef pr 258 #[str (aG g)] s (str<|qO<|aG g) b:=by have⟨b,d⟩:=W8 (s:=s) f c e h;rw[Cp c] at d;exact⟨b,aQ a func258 I<|zs<|zr<|zc 1 d<|zf yR⟩
section
variable (hg:∀l∈all,Good l)
section
variable (hl:all.length<=100000)
def Mp:xm rn (Mn prog rn all) all:=Mm.add (m:=1) (by
 intro b v a;unfold UH at a;split at a
 .next x d =>
  have c:b=#[str x.data.toList]:=by apply vp.1; simp[d]
  subst c;split at a
  .next e =>cases a;obtain⟨i,j,k,l⟩:=XQ hg hl e.1;have f:=e.2;rw[l] at f |-;obtain⟨g,h⟩:=LH T1 kq j k f;exact⟨I,I,g,h⟩
  .cases a
 .cases a)
end
end
def Mo(Z:1<=rn)(d:gi (aG all)<=kc)(e:∀l∈all,Good l)(o:all.length<=20000):Vt rn all qO e8 (λt=>XP all t=true/\gi t<kc) (λt _=>t.length<=100000/\gi t<=kc) (Mn prog rn all) where
 j:={
  h:={
   g:={
    xw:=kq
    p92:=kq
    one:=λs l c h p v=>by
     refine lM I ?_
     have m : -1<=l/\l<=1114111:=by
      rcases h with rfl|h
      .
       omega
      .
       have:=e l h;unfold Good at this;omega
     have:UI #[.int .i32 l,str c]=some _:=ip<|show(-1<=l/\l<=1114111)/\(∀b∈c,b.toNat<128)/\gi c<kc from⟨m,p,v⟩
     simp only[this]
    no:=v8 kq
    pos:=λl h=>by have:=e l h;unfold Good at this;omega
    len:=by omega }
   low:=λs t f=>by
    refine lM I ?_
    have:UH all #[str t]=some _:=ip<|show XP all t=true/\gi t<kc from f
    simp only[this]
   YK:=λs t k f r m=>by
    refine lM I ?_
    have:YJ rn #[str t,num k] s=some (str<|e8 t k):=by
     unfold YJ
     simp only[r]
     exact ip<|show yd eZ=true/\rn+1<=s.nx/\1<=rn/\(t.length<=100000/\gi t<=kc) from⟨kq,oq,Z,f⟩
    simp only[this] }
  PN:=kq
  TM:=kq
  LP:=kq
  Xa:=kq
  TN:=kq
  lv:=λl h=>by have:=e l h;unfold Good at this;omega
  Oe:=λk h=>Nat.le_trans (XY h) d
  w62:=λj k h q=>Nat.le_trans (XZ h q) d }
 t:=⟨kq,kq,kq,kq⟩
 no:=v8 kq
 a:={
  t:=λk i j h u=>⟨UD all i j,Nat.lt_of_lt_of_le (X1 h u) d⟩
  w:=λi j n=>by
   have:=iU<|(all.drop i).take<|j-i
   have q:((all.drop i).take<|j-i).length<=all.length:=by simp;omega
   exact⟨show(aG<|(all.drop i).take<|j-i).length<=100000 by omega,Nat.le_trans (RL all i j) d⟩
  l:=λi j n=>A5 _ _ _ }
 len:=o
end
def V3{b lo a:Nat}(h:dO b=(1,lo,a)):194<=b/\b<=223/\lo=128/\a=191:=by
 unfold dO at h;repeat' split at h
 all_goals (simp only[Prod.mk.injEq] at h;omega)
def Zf{b lo a:Nat}(h:dO b=(2,lo,a)):224<=b/\b<=239/\128<=lo/\a<=191/\(b=224->160<=lo)/\(b=237->a<=159):=by
 unfold dO at h;repeat' split at h
 all_goals (simp only[Prod.mk.injEq] at h;omega)
def Zg{b lo a:Nat}(h:dO b=(3,lo,a)):240<=b/\b<=244/\128<=lo/\a<=191/\(b=240->144<=lo)/\(b=244->a<=143):=by
 unfold dO at h;repeat' split at h
 all_goals (simp only[Prod.mk.injEq] at h;omega)
def Ee{n:Nat}(h:Good (n:Int)):encodeRune (n:Int)=rH n:=by
 have⟨c,e,_,q⟩:=oU h;have:n=c:=oq
 rw[q,this]
def Qp{b:UInt8}{n:Nat}(h:n=b.toNat):UInt8.ofNat n=b:=by subst h;exact UInt8.ofNat_toNat
def dA1{b c:UInt8}{n x y lo d:Nat}(e:dO b.toNat=(1,lo,d))(k:1<n)(j:lo<=c.toNat/\c.toNat<=d):∃r,decodeN n b.toNat c.toNat x y=(r,2)/\Good (r:Int)/\encodeRune (r:Int)=[b,c]:=by
 obtain⟨h,i,rfl,rfl⟩:=V3 e;obtain⟨p,f⟩:∃p,b.toNat=192+p:=⟨b.toNat-192,oq⟩;obtain⟨q,g⟩:∃q,c.toNat=128+q:=⟨c.toNat-128,oq⟩;have a:Good ((p*64+q:Nat):Int):=by unfold Good;omega
 refine⟨_,?_,a,?_⟩
 .rw[f,g];unfold decodeN;rw[show(192+p) % 32=p by omega,show(128+q) % 64=q by omega,iw oq,ip oq,ip oq]
 .rw[Ee a];unfold rH qg;rw[iw oq,ip oq,Qp (b:=b) oq,Qp (b:=c) oq]
def dA2{b c d:UInt8}{n y lo f:Nat}(w:dO b.toNat=(2,lo,f))(B:2<n)(u:lo<=c.toNat/\c.toNat<=f)(v:128<=d.toNat/\d.toNat<=191):∃r,decodeN n b.toNat c.toNat d.toNat y=(r,3)/\Good (r:Int)/\encodeRune (r:Int)=[b,c,d]:=by
 have⟨j,k,l,m,o,s⟩:=Zf w;obtain⟨p,g⟩:∃p,b.toNat=224+p:=⟨b.toNat-224,oq⟩;obtain⟨q,h⟩:∃q,c.toNat=128+q:=⟨c.toNat-128,oq⟩;obtain⟨t,i⟩:∃t,d.toNat=128+t:=⟨d.toNat-128,oq⟩
 have z:p=0->32<=q:=oq
 have A:p=13->q<32:=oq
 have a:2048<=p*4096+q*64+t/\p*4096+q*64+t<65536:=oq
 have e:Good ((p*4096+q*64+t:Nat):Int):=by unfold Good;omega
 refine⟨_,?_,e,?_⟩
 .rw[g,h,i];unfold decodeN;rw[show(224+p) % 16=p by omega,show(128+q) % 64=q by omega,show(128+t) % 64=t by omega,iw oq,iw oq,ip ⟨oq,⟨oq,oq⟩,oq,oq⟩,ip ⟨a.1,oq⟩]
 .rw[Ee e];unfold rH qg;rw[iw oq,iw oq,ip oq,Qp<|by rw[g];omega,Qp<|by rw[h];omega,Qp<|by rw[i];omega]
def dA3{b c d e:UInt8}{n lo g:Nat}(A:dO b.toNat=(3,lo,g))(D:3<n)(x:lo<=c.toNat/\c.toNat<=g)(y:128<=d.toNat/\d.toNat<=191)(z:128<=e.toNat/\e.toNat<=191):∃r,decodeN n b.toNat c.toNat d.toNat e.toNat=(r,4)/\Good (r:Int)/\encodeRune (r:Int)=[b,c,d,e]:=by
 have⟨l,m,o,s,v,w⟩:=Zg A;obtain⟨p,h⟩:∃p,b.toNat=240+p:=⟨b.toNat-240,oq⟩;obtain⟨q,i⟩:∃q,c.toNat=128+q:=⟨c.toNat-128,oq⟩;obtain⟨t,j⟩:∃t,d.toNat=128+t:=⟨d.toNat-128,oq⟩;obtain⟨u,k⟩:∃u,e.toNat=128+u:=⟨e.toNat-128,oq⟩
 have B:p=0->16<=q:=oq
 have C:p=4->q<16:=oq
 have a:65536<=p*262144+q*4096+t*64+u/\p*262144+q*4096+t*64+u<=1114111:=oq
 have f:Good ((p*262144+q*4096+t*64+u:Nat):Int):=by unfold Good;omega
 refine⟨_,?_,f,?_⟩
 .rw[h,i,j,k];unfold decodeN;rw[show(240+p) % 8=p by omega,show(128+q) % 64=q by omega,show(128+t) % 64=t by omega,show(128+u) % 64=u by omega,iw oq,iw oq,iw oq,ip ⟨oq,⟨oq,oq⟩,⟨oq,oq⟩,oq,oq⟩,ip ⟨a.1,.inr ⟨oq,oq⟩⟩]
 .rw[Ee f];unfold rH qg;rw[iw oq,iw oq,iw oq,Qp<|by rw[h];omega,Qp<|by rw[i];omega,Qp<|by rw[j];omega,Qp<|by rw[k];omega]
def Ze{b lo a:Nat}(h:dO b=(0,lo,a)):b<194\/244<b:=by
 unfold dO at h;repeat' split at h
 all_goals (simp only[Prod.mk.injEq] at h;omega)
def V4{b lo a:Nat}(h:dO b=(2,lo,a)):(b=224/\lo=160/\a=191)\/(b=237/\lo=128/\a=159)\/(225<=b/\b<=239/\b≠237/\lo=128/\a=191):=by
 unfold dO at h;repeat' split at h
 all_goals (simp only[Prod.mk.injEq] at h;omega)
def V5{b lo a:Nat}(h:dO b=(3,lo,a)):(b=240/\lo=144/\a=191)\/(b=244/\lo=128/\a=143)\/(241<=b/\b<=243/\lo=128/\a=191):=by
 unfold dO at h;repeat' split at h
 all_goals (simp only[Prod.mk.injEq] at h;omega)
def dB0{n b0 b1 b c lo d:Nat}(e:128<=b0)(f:b0<256)(g:b1<256)(a:dO b0=(0,lo,d)):decodeN n b0 b1 b c=(65533,1):=by
 have h:=Ze a;unfold decodeN;rw[iw oq];split
 .next q=>rw[iw oq]
 .rw[iw (λq=>by have:=q.1;omega)];split
  .next q =>
   rw[iw (λz=>?_)]
   have:=q.1
   have:=z.2;omega
  .rfl
def dB1{n b0 b1 c d lo b:Nat}(g:b1<256)(a:dO b0=(1,lo,b))(h:¬(1<n/\lo<=b1/\b1<=b)):decodeN n b0 b1 c d=(65533,1):=by obtain⟨e,f,rfl,rfl⟩:=V3 a;unfold decodeN;rw[iw oq,iw<|λq=>by have:=q.2;omega,iw<|λq=>by have:=q.1;omega,iw<|λq=>by have:=q.1;omega]
def Yf{n b0 b1 a d lo b:Nat}(j:b1<256)(k2:a<256)(c:dO b0=(2,lo,b))(h:¬(1<n/\lo<=b1/\b1<=b)\/¬(2<n/\128<=a/\a<=191)):decodeN n b0 b1 a d=(65533,1):=by
 have f:=V4 c;unfold decodeN;rw[iw oq,iw<|λq=>by have:=q.1;omega];split
 .next q =>
  obtain⟨k,⟨l,m⟩,e,g⟩:=q;rw[iw];have i:128<=a/\a<=191:=oq
  have h:¬(lo<=b1/\b1<=b):=oq
  have:128<=b1/\b1<=191:=oq
  rcases f with ⟨rfl,rfl,rfl⟩|⟨rfl,rfl,rfl⟩|⟨_,_,_,rfl,rfl⟩<;>omega
 .rw[iw (λq=>by have:=q.1;omega)]
def UZ{n b0 b1 a b lo c:Nat}(m:b1<256)(k2:a<256)(o:b<256)(d:dO b0=(3,lo,c))(h:¬(1<n/\lo<=b1/\b1<=c)\/¬(2<n/\128<=a/\a<=191)\/¬(3<n/\128<=b/\b<=191)):decodeN n b0 b1 a b=(65533,1):=by
 have f:=V5 d;unfold decodeN;rw[iw oq,iw<|λq=>by have:=q.1;omega,iw<|λq=>by have:=q.1;omega];split
 .next q =>
  obtain⟨p,⟨r,s⟩,⟨e,g⟩,i,j⟩:=q;rw[iw];have k:128<=a/\a<=191:=oq
  have l:128<=b/\b<=191:=oq
  have h:¬(lo<=b1/\b1<=c):=oq
  have:128<=b1/\b1<=191:=oq
  rcases f with ⟨rfl,rfl,rfl⟩|⟨rfl,rfl,rfl⟩|⟨_,_,rfl,rfl⟩<;>omega
 .rfl
def MG (l:Bq)(k:Nat):Nat:=(l[k]?.getD 0).toNat
def dX(l:Bq)(k:Nat):MG l k<256:=UInt8.toNat_lt _
def KA (l:Bq):Nat × Nat:=decodeN l.length (MG l 0) (MG l 1) (MG l 2)<|MG l 3
theorem KB(b:UInt8)(l:Bq):(∃r,(qu b l).2=true/\KA (b::l)=(r,(qu b l).1)/\Good (r:Int)/\encodeRune (r:Int)=(b::l).take (qu b l).1/\1<=(qu b l).1/\(qu b l).1<=l.length+1)\/((qu b l).2=false/\KA (b::l)=(65533,1)/\128<=b.toNat):=by
 by_cases q:b.toNat<128
 .left;refine⟨b.toNat,?_⟩;have e:qu b l=(1,true):=by unfold qu;rw[ip q]
  rw[e];refine⟨rfl,?_,by unfold Good;omega,?_,lr,oq⟩
  .unfold KA decodeN;rw[ip (show MG (b::l) 0<128 from q)];rfl
  .have:=Sr q;exact this
 .obtain⟨m,g,f,a⟩:∃m g f,dO b.toNat=(m,g,f):=⟨_,_,_,rfl⟩;have t:=(Gg b.toNat).1;rw[a] at t;have e:qu b l=(1+iQ m g f l,decide (0<m)&&(iQ m g f l==m)):=by unfold qu;rw[iw q,a]
  rw[e];have u:=b.toNat_lt;match m,t with
  | 0,_=>exact .inr ⟨rfl,dB0 (by show 128<=b.toNat;omega) u (dX _ _) a,oq⟩
  | 1,_ =>
   match l with
   | []=>exact .inr ⟨rfl,dB1 (dX _ _) a iq,oq⟩
   | c::l =>
    by_cases h:c.toNat<g\/f<c.toNat
    .refine .inr ⟨by simp only[iQ,ip h];rfl,dB1 (dX _ _) a ?_,oq⟩;show ¬(_/\g<=c.toNat/\c.toNat<=f);omega
    .have⟨r,k,o,p⟩:=dA1 (n:=(b::c::l).length) (x:=MG (b::c::l) 2) (y:=MG (b::c::l) 3) (c:=c) a iq oq;have j:iQ 1 g f (c::l)=1:=by simp only[iQ,iw h]
     rw[j];exact .inl ⟨r,rfl,k,o,p,oq,iq⟩
  | 2,_ =>
   match l with
   | []=>exact .inr ⟨rfl,Yf (dX _ _) (dX _ _) a<|.inl iq,oq⟩
   | [c] =>refine .inr ⟨?_,Yf (dX _ _) (dX _ _) a<|.inr iq,oq⟩;simp only[iQ];split<;>rfl
   | c::d::l =>
    by_cases h:c.toNat<g\/f<c.toNat
    .refine .inr ⟨by simp only[iQ,ip h];rfl,Yf (dX _ _) (dX _ _) a<|.inl ?_,oq⟩;show ¬(_/\g<=c.toNat/\c.toNat<=f);omega
    .by_cases i:d.toNat<128\/191<d.toNat
     .refine .inr ⟨by simp only[iQ,iw h,ip i];rfl,Yf (dX _ _) (dX _ _) a<|.inr ?_,oq⟩;show ¬(_/\128<=d.toNat/\d.toNat<=191);omega
     .have⟨r,k,o,p⟩:=dA2 (n:=(b::c::d::l).length) (y:=MG (b::c::d::l) 3) a iq (c:=c) (d:=d) oq oq;have j:iQ 2 g f (c::d::l)=2:=by simp only[iQ,iw h,iw i]
      rw[j];exact .inl ⟨r,rfl,k,o,p,oq,iq⟩
  | 3,_ =>
   match l with
   | []=>exact .inr ⟨rfl,UZ (dX _ _) (dX _ _) (dX _ _) a<|.inl iq,oq⟩
   | [c] =>refine .inr ⟨?_,UZ (dX _ _) (dX _ _) (dX _ _) a<|.inr<|.inl iq,oq⟩;simp only[iQ];split<;>rfl
   | [c,d] =>
    refine .inr ⟨?_,UZ (dX _ _) (dX _ _) (dX _ _) a<|.inr<|.inr iq,oq⟩;simp only[iQ];repeat' split
    all_goals rfl
   | c::d::e::l =>
    by_cases h:c.toNat<g\/f<c.toNat
    .refine .inr ⟨by simp only[iQ,ip h];rfl,UZ (dX _ _) (dX _ _) (dX _ _) a<|.inl ?_,oq⟩;show ¬(_/\g<=c.toNat/\c.toNat<=f);omega
    .by_cases i:d.toNat<128\/191<d.toNat
     .refine .inr ⟨by simp only[iQ,iw h,ip i];rfl,UZ (dX _ _) (dX _ _) (dX _ _) a<|.inr<|.inl ?_,oq⟩;show ¬(_/\128<=d.toNat/\d.toNat<=191);omega
     .by_cases s:e.toNat<128\/191<e.toNat
      .refine .inr ⟨by simp only[iQ,iw h,iw i,ip s];rfl,UZ (dX _ _) (dX _ _) (dX _ _) a<|.inr<|.inr ?_,oq⟩;show ¬(_/\128<=e.toNat/\e.toNat<=191);omega
      .have⟨r,k,o,p⟩:=dA3 (n:=(b::c::d::e::l).length) a iq (c:=c) (d:=d) (e:=e) oq oq oq;have j:iQ 3 g f (c::d::e::l)=3:=by simp only[iQ,iw h,iw i,iw s]
       rw[j];exact .inl ⟨r,rfl,k,o,p,oq,iq⟩
def DC:Nat->Bq->Iq
 | 0,_=>[]
 | _+1,[]=>[]
 | n+1,b::l=>((KA (b::l)).1:Int)::DC n ((b::l).drop (KA (b::l)).2)
def VP(b:UInt8)(l:Bq):1<=(KA (b::l)).2/\(KA (b::l)).2<=l.length+1/\Good ((KA (b::l)).1:Int):=by
 rcases KB b l with ⟨r,_,e,q,_,h1,h2⟩|⟨_,e,_⟩<;>rw[e]
 .exact⟨h1,h2,q⟩
 .exact⟨lr,iq,by unfold Good;simp⟩
def mX:∀{n:Nat} {l:Bq},∀r∈DC n l,Good r
 | 0,_,r,h=>by cases h
 | _+1,[],r,h=>by cases h
 | n+1,b::l,r,h=>by
  rcases pS.1 h with rfl|h
  .exact(VP b l).2.2
  .exact mX r h
def AJ:∀{n:Nat} {l:Bq},(DC n l).length<=n
 | 0,_=>l8 _
 | _+1,[]=>Nat.zero_le _
 | n+1,b::l=>by
  show(DC n _).length+1<=n+1
  have:=AJ (n:=n) (l:=(b::l).drop (KA (b::l)).2);omega
def wQ:∀(n:Nat) (l:Bq),l.length<=n->Bn n l=aG (DC n l)
 | 0,l,h=>rfl
 | _+1,[],_=>rfl
 | n+1,b::l,h=>by
  have e1:∀(r:Int) (q:Iq),aG (r::q)=encodeRune r++aG q:=λr q=>by simp[aG]
  unfold Bn DC;rw[e1];have a:l.length+1<=n+1:=h;rcases KB b l with ⟨r,h0,e,q,he,h1,h2⟩|⟨h0,e,hb⟩
  .rw[h0,e,cond_true,<-he,wQ n _<|by rw[List.length_drop];show l.length+1-_<=n;omega]
  .rw[h0,e,cond_false,wQ n l oq];rfl
def X0{b:UInt8}(h:128<=b.toNat):Vk b=0:=by unfold Vk;rw[Vb (show b.toNat≠60 by omega),Vb<|show b.toNat≠62 by omega,Vb<|show b.toNat≠38 by omega];rfl
def Hv:∀(n:Nat) (l:Bq),l.length<=n->gi (Bn n l)=gi l
 | 0,[],h=>rfl
 | _+1,[],_=>rfl
 | n+1,b::l,h=>by
  have hl:l.length+1<=n+1:=h;unfold Bn;rcases KB b l with ⟨r,h0,e,q,he,h1,h2⟩|⟨h0,e,hb⟩
  .rw[h0,cond_true,eJ,Hv n _<|by rw[List.length_drop];show l.length+1-_<=n;omega,<-eJ,List.take_append_drop]
  .rw[h0,cond_false,eJ,Hv n l oq];show 0+gi l=Vk b+gi l;rw[X0 hb]
def Sn(s:ByteArray)(k:Nat):Utf8.decode s k=KA (s.data.toList.drop k):=by
 rw[decode_at];have e:∀j,(s.get!<|k+j).toNat=MG _ j:=λj=>by unfold MG;rw[OG,Array.getElem?_toList];show(s.data[k+j]!).toNat=_;rw[getElem!_def];cases s.data[k+j]?<;>rfl
 unfold KA;rw[<-e 0,<-e 1,<-e 2,<-e 3,List.length_drop,Hh];rfl
def CO(s:ByteArray):∀(n k:Nat),s.size-k<=n->nh s k (DC n<|s.data.toList.drop k)
 | 0,k,h=>by show ¬k<s.size;omega
 | n+1,k,h=>by
  by_cases hk:k<s.size
  .have O7:k<s.data.toList.length:=by rw[Hh];exact hk
   have e:=List.drop_eq_getElem_cons O7;have a:=Sn s k;rw[e] at a |-;unfold DC;have⟨b,w2,_⟩:=VP (s.data.toList[k])<|s.data.toList.drop<|k+1;refine⟨hk,by rw[a],?_⟩;rw[a,<-e,List.drop_drop];rw[e] at *;exact CO s n _ oq
  .rw[Sm (by rw[Hh];show s.size<=k;omega)];exact hk
section
variable {s s1:AS}
def wi{b:Nat}{o:Obj}:∀{l:List Nat},b∈l->s.get b=some o->ot o=true->(s.only l).get b=some o
 | [],h,_,_=>by simp at h
 | c::l,h,hs,ho=>by
  unfold AS.only;by_cases hc:c=b
  .subst hc;rw[hs];simp only;rw[ip ho,AS.aU,ip Y]
  .have ih:=wi ((pS.1 h).resolve_left λe=>hc e.symm) hs ho;split
   .split
    .rw[AS.aU,iw<|λe=>hc e.symm];exact ih
    .exact ih
   .exact ih
def AS.all(s:AS):AS:=s.only<|List.range s.nx
def AS.DV(s:AS):s.all.nx=s.nx:=(nN _ s).1
def Has.all{b:Nat}{o:Obj}(h:Has s b o)(a:ot o=true):Has s.all b o:=⟨by rw[AS.DV];exact h.1,wi (List.mem_range.2 h.1) h.2 a⟩
def TP{n m:Nat}(h:n<=m){x:Value}(a:nf n x=true):nf m x=true:=by
 have c:∀b,Nat.blt b n=true->Nat.blt b m=true:=λb d=>by rw[Nat.blt_eq] at d |-;omega
 unfold nf at a |-;split at a;iterate 2
  .exact c _ a
 .rfl
 .exact a
def Tm (s:AS):Prop:=∀b cs ty fz,s.get b=some (.cells cs ty fz)->cs.toList.all (nf s.nx)=true
def Tm.add(h:Tm s){f:Aq}{j:TypeId}{fz:Nat × Nat}(g:f.toList.all (nf<|s.nx+1)=true):Tm (s.add<|.cells f j fz):=by
 intro b c e d a;rw[AS.bu] at a;split at a
 .cases a;exact g
 .exact aT.2 λz i=>TP (Nat.le_succ _)<|aT.1 (h b c e d a) z i

def FI:xH AS.all:=λs=>nN _ s
def fw.all{v:Value}{l:List (Bq × Bq)}(h:fw s v l):fw s.all v l:=by
 rcases h with h|⟨ab,c,fz,e,h1,h2⟩
 .exact .inl h
 .have:=Has.all ⟨h1,h2⟩ O;exact .inr ⟨ab,c,fz,e,this.1,this.2⟩
def jl.all{v:Value}{ts:List fA}(h:jl s v ts):jl s.all v ts:=h.imp id λ⟨d,a,e,h⟩=>⟨d,a,e,h.all O⟩
def eR.all{ts:List fA}{us:List Tok}(h:eR s ts us):eR s.all ts us:=⟨h.1,λi t u a b=>by have⟨c,d,e,f,g⟩:=h.2 i t u a b;exact⟨c,d,e,f,g.all⟩⟩
abbrev vB(v:Value):Obj:=.cells #[v] 56
end
section
variable {s:AS}{sj:Prim}{rn b:Nat}{all:Iq}{lo:Bq->Bq}{wr:Bq->Int->Bq}{T:Bq->Prop}{W:Bq->Int->Prop}
def T7(C:Vt rn all lo wr T W sj)(A:Has s 1 (.cells eZ.toArray 335))(D:rn<s.nx)(B:Has s b (vB aX)) :
  ∃S v f,Ew sj (match f48.body with|some c=>c|none=>.skip) ([aF rn 0,aF b 0]++List.replicate 3 undef) s (λe _ J=>(e=.normal\/e=.ret)/\J=S)/\Has S b (vB v)/\jl S v f/\eR S f (wW all lo wr)/\fp (λk=>k=b) s S/\(∀k,blk v k->s.nx<k)/\QO s.nx f:=by
 obtain⟨S,v,f,w,j,⟨l,y⟩,m,x⟩:=Py C A D;have a:=B.fr m id;have o:v.cells=#[v]/\v.oneCell'=true:=by rcases j with ⟨rfl,_⟩|⟨d,fz,rfl,_⟩<;>exact⟨rfl,rfl⟩
 have n:fp (λk=>k=b) S (S.set b<|some<|vB v):=fp.set (K:=λk=>k=b) (c:=b) (fp.refl S) (λ_=>O) _;refine⟨S.set b<|some<|vB v,v,f,?_,a.put _,j.set a dq _,?_,(m.trans (fp.refl S)<|λ_ _ z=>z).mono (λ_ _ z=>z.elim) |>.trans n λ_ _ z=>z,x,y⟩
 .exact zx <| zc 1 w (zp (ys b 0 v a.2 iq O kq kq o.1 o.2) <| aB ⟨.inl O,kq⟩)
 .exact⟨l.1,λi t u I h=>by
   have⟨E,F,G,H,r⟩:=l.2 i t u I h;refine⟨E,F,G,H,r.fk n λk g=>?_⟩;rintro rfl;rcases r with ⟨p,_⟩|⟨ab,c,fz,p,p6,p7⟩
   .rw[p] at g;exact dT g
   .rw[p] at g
    have:=dz g;subst this
    have:=p7.symm.trans a.2;injection this with q
    injection q with _ h _
    exact absurd h dq⟩
end
section
variable {s:AS}
structure Y4(pr:Prim)(t:Bq)(s:AS)(us:List Tok):Prop where
 ex:∃s' v ts,EF prog kJ pr 30 #[str t] s (.tuple #[v,num 0]) s'/\jl s' v ts/\eR s' ts us/\(∀k o,k<s.nx->s.get k=some o->ot o=true->Has s' k o)/\(∀k,k<s.nx->s.get k=none->s'.get k=none)/\s.nx<=s'.nx/\(∀k,blk v k->s.nx<k)/\QO s.nx ts
def Hm(h:Tm s):s.AY=true:=by
 unfold AS.AY;rw[aT];intro b _;cases ho:s.get b with
 | none=>rfl
 | some o=>cases o<;>first|rfl|exact h b _ _ _ ho
def Fu{t:Bq}(P:t.length<=20000)(M:Has s 1 (.cells eZ.toArray 335))(X:Tm s)(i:gi t=kc) :
  ∃m,∀r:Prim,r 30=none->Y4 (wB prog m (s.nx+1) ⟨t.toArray⟩ AS.all (Mn prog (s.nx+1)<|DC t.length t) r) t s (wW (DC t.length t) qO e8):=by
 have O:=AJ (n:=t.length) (l:=t);have hw:gi (aG<|DC t.length t)<=kc:=by rw[<-wQ _ _ lr,Hv _ _ lr,i];exact l8 _
 have Z:=Mo (rn:=s.nx+1) oq hw mX oq;generalize DC t.length t=all at *;have J:=Has.new s<|vB aX;have Q:=M.add<|vB aX;have x:Tm (s.add<|vB aX):=X.add rfl;have d:(s.add<|vB aX).nx=s.nx+1:=rfl;have g:∀k,k<s.nx->(s.add<|vB aX).get k=s.get k:=λk i=>by rw[AS.bu,iw oq]
 generalize E:s.add (vB aX)=q at J Q x d g;obtain⟨R,D⟩:∃R:AS,R=⟨q.hp,s.nx+1+1⟩:=⟨_,rfl⟩;have c:∀b,R.get b=q.get b:=λb=>by rw[D];rfl
 have rnx:R.nx=s.nx+1+1:=by rw[D]
 have⟨j,v,ts,z,K,U,V,A,W,L⟩:=T7 (s:=R) (b:=s.nx) Z ⟨by have:=M.1;omega,(c 1).trans Q.2⟩ oq ⟨oq,(c _).trans J.2⟩;have p:AS.keeps q j=true:=by
  unfold AS.keeps;rw[aT];intro b N;have N:b<s.nx+1:=by have:=List.mem_range.1 N;rw[d] at this;exact this
  rw[<-c b];by_cases w:b=s.nx
  .rw[w,K.2];simp
  .rw[A.2 b oq w];cases R.get b<;>rfl
 have⟨m,Y⟩:=T4 (str:=⟨t.toArray⟩) (r0:=s.nx+1) (od:=AS.all) (sj:=Mn prog (s.nx+1) all) (s:=q) (s1:=j.all) (f:=48) (aY:=f48) (y:=#[aF s.nx 0]) func48 rfl rfl d (Hm x) (by show(Nat.blt s.nx q.nx&&true)=true;rw[d];simp[Nat.blt_eq]) (by have z:=z;rw[D] at z;rw[d];exact aN z λe a s' h=>⟨h.1,by rw[h.2];exact p,by rw[h.2]⟩);refine⟨m,λr B=>⟨j.all,v,ts,?_,U.all,V.all,λk o i G H=>?_,λk i G=>?_,?_,λk i=>?_,λt P k i=>?_,L.2⟩⟩
 .have C:=Y r;have u:wB prog m (s.nx+1) ⟨t.toArray⟩ AS.all (Mn prog (s.nx+1) all) r 30=none:=by unfold wB;rw[iw dq];exact B
  have F:=K.all rfl;generalize wB prog m (s.nx+1) ⟨t.toArray⟩ AS.all _ r=P2 at *;generalize j.all=T at *;exact aQ u func30 rfl<|zs <| za s <| am <| zr <| zk 1 <| zp (nl t) <| zp (yb (num t.length) (num 20000)<|db (b:=false)<|fD oq) <| zf <| za s <| zF<|zr <| zf <| za q (zr <| zc 2 C <| zf <| za T (zr <| zp (yl s.nx 0 v F.2) <| zf (aE ⟨.inr rfl,kq,kq⟩))) ((show _=s.add (vB aX) from kq).trans E)
 .have I:Has R k o:=⟨oq,(c k).trans<|(g k i).trans G⟩;exact(I.fr A oq).all H
 .have I:R.get k=none:=(c k).trans<|(g k i).trans G;have S:j.get k=none:=(A.2 k oq oq).trans I;cases h:j.all.get k with
  | none=>rfl
  | some o=>rw[((nN (List.range j.nx) j).2 k o h).1] at S;cases S
 .rw[AS.DV]
  have:=A.1;omega
 .have:=W k i;omega
 .have:=L.1 t P k i;omega
end
def Pr:qO=cU:=by funext l;rfl
def UB(t:Bq):wW (DC t.length t) qO e8=uS dl cU e8 (aO<|Bn t.length t):=by rw[Jt (λr a=>by have:=mX r a;unfold Good at this;omega),wQ _ _ lr,Pr];rfl
section
variable {s:AS}
def OT(p q:ByteArray):ik prog (Op.equal 47 (.agg #[.string p,.string q])<|.agg #[.string p,.string q])=some true:=by
 have a:∀(d:Nat) (x:ByteArray),ik prog (Op.equalIn (d+1) 9 (.string x)<|.string x)=some true:=by
  intro d x;rw[Op.equalIn];have b:(x==x)=true:=by have⟨x⟩:=x;show(x==x)=true;exact beq_self_eq_true x
  simp[underlying9,b]
 have c:∀x y:ByteArray,ik prog (part 9 #[.string x,.string y] 0)=some (.string x):=λx y=>kq
 have e:∀x y:ByteArray,ik prog (part 9 #[.string x,.string y] 1)=some (.string y):=λx y=>kq
 show ik prog (Op.equalIn (9999+1) 47 _ _)=_;rw[Op.equalIn];simp only[dA,dU,underlying47,Du];rw[show ik prog program=some prog from O];simp only[Du];rw[iw (by rw[show prog.stoodInHeld 47=false from kq];decide)];rw[<-Array.forIn_toList];simp only[List.forIn_cons,List.forIn_nil,dA,c,e,a 9998,Du,ne_eq,String.reduceEq,not_false_eq_true,if_true,Bool.not_true,j6,if_false,mL]
def PG{kt:TypeId->Bool}{c:km}{a:TL}{o:Oper}{x y:Operand}{t:TypeId}{p q:Bq}(b:o.op=.binOp .neq 47 x y t)(e:a.at x=.agg #[str p,str q])(f:a.at y=.agg #[str p,str q]):bS prog kt c a o s=some (.bool false,s):=by
 refine fe (by rw[b];rfl) (by rw[b];trivial) ?_;have g:dj .neq (.agg #[str p,str q]) (.agg #[str p,str q])=none:=O;have j:oK prog .neq 47 (.agg #[str p,str q]) (.agg #[str p,str q])=none:=O;unfold cW;rw[b];simp only;rw[e,f,g];simp only;rw[j];simp only;unfold uM;have d:o.op.operands.toList=[x,y]:=by rw[b];rfl
 rw[d];have h:([x,y].all λz=>qL<|a.at z)=true:=by simp only[List.all_cons,List.all_nil,e,f];rfl
 rw[ip h];have k:ik prog (execOp a.at o)=some (.value<|.bool false):=by
  unfold execOp;rw[b];simp only[e,f,dA];have i:ik prog (eqGuard .neq 47 x y (.agg #[str p,str q])<|.agg #[str p,str q])=some ():=kq
  rw[i];simp only[Du,binOp,dA,OT,mL,Bool.not_true]
 rw[k];rfl
end
def XF (va vb:Value)(i:Nat)(x:Nq):TL:=[va,vb,x 2,x 3,.bool false,num i]++fW x 6 20
section
variable {pr:Prim}{s:AS}{va vb:Value}{l:List (Bq × Bq)}
def CV(h:pr 95=none)(B:fw s va l)(C:fw s vb l)(L:l.length<=1000000000):Ef pr 95 #[va,vb] s (.bool true) s:=by
 obtain⟨d,g,rfl⟩:=B.len;obtain⟨f,j,rfl⟩:=C.len;generalize o:l.length=N at *;refine aQ h func95 O<|zs <| za s <| am <| zr <| zk 4 <| zp (yb (num N) (num N)<|dI (b:=false)<|bne_self_eq_false _) <| zf <| za s <| zF (am <| zs <| za s (EW.fill _ kq λy=>aD <| aN (aZ (Q:=λe m S=>e=.exit 0/\S=s/\∃y,m=XF (.slice d N g) (.slice f N j) N y) (λu m S=>S=s/\∃i,i+u=N/\∃y,m=XF (.slice d N g) (.slice f N j) i y) ?_ N _ _ ⟨O,0,oq,y,O⟩) ?_))
 .rintro u m S ⟨rfl,i,M,y,rfl⟩;by_cases E:i<N
  .have D:l[i]?=some (l[i]'oq):=gE _;generalize (l[i]'oq)=p at D;have⟨v,w⟩:=FL D;obtain⟨x,J,rfl,H⟩:∃a k,d=some ⟨a,0,none⟩/\S.get a=some (.cells (jP l) 47 k):=by
    rcases B with ⟨_,z⟩|⟨a,c,k,z,_,y⟩
    .rw[z] at o;simp at o;omega
    .cases z;exact⟨a,k,O,y⟩
   obtain⟨A,K,rfl,I⟩:∃a k,f=some ⟨a,0,none⟩/\S.get a=some (.cells (jP l) 47 k):=by
    rcases C with ⟨_,z⟩|⟨a,c,k,z,_,y⟩
    .rw[z] at o;simp at o;omega
    .cases z;exact⟨a,k,O,y⟩
   have F:=iK (P:=prog) (t:=47) (n:=2) underlying47 O kq H (off:=i*2) v;have G:=iK (P:=prog) (t:=47) (n:=2) underlying47 O kq I (off:=i*2) v;rw[w] at F G;exact am <| zr <| zk 3 <| zp (nT i N E) <| zf <| za S <| zT <| am <| aD (am <| bO kq kq kq (zq <| zq <| zu (yi x 0 N g (i*2) none .i64 (i:Nat) 2 oq oq oq) (zt S <| zu (wm (b:=x) (off:=i*2) (n:=2) O underlying47 O kq kq H v w) (zq <| zq <| zu (yi A 0 N j (i*2) none .i64 (i:Nat) 2 oq oq oq) (zt S <| zu (wm (b:=A) (off:=i*2) (n:=2) O underlying47 O kq kq I v w) (zu (PG (p:=p.1) (q:=p.2) O kq kq)<|cg ⟨Dz<|o9 F G,_,_,_,_,_,_,O,O,za S <| zF <| zx <| zk 1 <| zp (na i 1 oq) <| zf ⟨u-1,oq,O,i+1,oq,aP kq⟩⟩))))))
  .obtain rfl:i=N:=oq
   exact am <| zr <| zk 3 <| zp (nF i i E) <| zf <| za S <| aJ kq (EW.exit ⟨O,O,aP kq⟩)
 .rintro e m S ⟨rfl,rfl,y,rfl⟩;exact zs <| za S (aE ⟨.inr O,kq,kq⟩)
end
def Bm{a:Option Value}{u:Value}{l:List (Option Value × Value)}(g:a=some u)(c:∀x∈l,x.1=some x.2/\bN 20 x.2=true)(p:bN 20 u=true:=by rfl):∀x∈(a,u)::l,x.1=some x.2/\bN 20 x.2=true:=λx b=>by
 rcases pS.1 b with rfl|b
 .exact⟨g,p⟩
 .exact c x b
def ldz:∀x∈([]:List (Option Value × Value)),x.1=some x.2/\bN 20 x.2=true:=λx a=>by simp at a
def vL(l:Bq):dj .eql (str l) (str l)=some (.bool true):=by unfold dj;simp only;rw[(eS l l).2 O]
def vK(k:Int):dj .eql (num k) (num k)=some (.bool true):=by unfold dj;simp[num]
def lJ{ts:List fA}{i:Nat}{t:fA}(h:ts[i]?=some t)(k:Nat)(c:k<5):(gO ts)[i*5+k]?=(cR t)[k]?:=by
 unfold gO;rw[K8];induction ts generalizing i with
 | nil=>simp at h
 | cons x ts b =>
  rw[List.flatMap_cons];have a:(cR x).length=5:=O;cases i with
  | zero =>simp only[N4,wJ] at h;subst h;rw[UY oq,Nat.zero_mul,Nat.zero_add]
  | succ i =>rw[Vw oq,a,show(i+1)*5+k-5=i*5+k by omega];exact b<|by simpa using h
def MX (wb:Nat)(t:Bq)(va vb:Value)(i:Nat)(x:Nq):TL:=[aF wb 0,str t,x 2,x 3,.bool false,va,x 6,vb,x 8,.bool true,num i]++fW x 11 98
section
variable {pr:Prim}{s:AS}{va vb:Value}{xs ys:List fA}{us:List Tok}{wb:Nat}{t:Bq}
def VK(j:pr 95=none)(hA:jl s va xs)(hB:jl s vb ys)(B:eR s xs us)(G:eR s ys us)(hu:∀u∈us,u.lV.length<=1000000000)(hn:us.length<=1000000000)(x0:Nq) :
  Ew pr (match f52.body with|some (.seq _<|.seq _<|.seq _<|.seq _<|.seq (.seq _ c) _)=>c|_=>.skip) (MX wb t va vb 0 x0) s λe o S=>e=.normal/\S=s/\∃i x,o=MX wb t va vb i x:=by
 obtain⟨D,E,k,l,rfl,rfl⟩:∃D E k l,va=.slice D us.length k/\vb=.slice E us.length l:=by
  rw[<-B.1];conv=>enter [1,_,1,_,1,_,1,_,2];rw[B.1,<-G.1]
  rcases hA with ⟨rfl,rfl⟩|⟨d,n,rfl,_⟩<;>rcases hB with ⟨rfl,rfl⟩|⟨d',Gj,rfl,_⟩<;>exact⟨_,_,_,_,rfl,rfl⟩
 generalize hN:us.length=N at *;refine aD <| aN (aZ (Q:=λe o S=>e=.exit 0/\S=s/\∃i x,o=MX wb t (.slice D N k) (.slice E N l) i x) (λm o S=>S=s/\∃i,i+m=N/\∃x,o=MX wb t (.slice D N k) (.slice E N l) i x) ?_ N _ _ ⟨rfl,0,oq,x0,rfl⟩) ?_
 .rintro m o S ⟨rfl,i,him,x,rfl⟩;by_cases hi:i<N
  .have K:us[i]?=some (us[i]'oq):=gE _;have F:=hu (us[i]'oq)<|OY _;generalize (us[i]'oq)=u at K F;have y:xs[i]?=some (xs[i]'(by rw[B.1];omega)):=gE _;generalize (xs[i]'(by rw[B.1];omega))=X at y;have A:ys[i]?=some (ys[i]'(by rw[G.1];omega)):=gE _;generalize (ys[i]'(by rw[G.1];omega))=Y at A;have H:=B.2 i X u y K;have I:=G.2 i Y u A K;obtain⟨a,f1,rfl,f⟩:∃d n,D=some ⟨d,0,none⟩/\Has S d (.cells (gO xs) 60 n):=by
    rcases hA with ⟨_,z⟩|⟨d,n,z,g⟩
    .have:=B.1;rw[z] at this;simp at this;omega
    .cases z;exact⟨d,n,rfl,g⟩
   obtain⟨b,f2,rfl,h⟩:∃d n,E=some ⟨d,0,none⟩/\Has S d (.cells (gO ys) 60 n):=by
    rcases hB with ⟨_,z⟩|⟨d,n,z,g⟩
    .have:=G.1;rw[z] at this;simp at this;omega
    .cases z;exact⟨d,n,rfl,g⟩
   have tX:=H.2.2.2.2;have tY:=I.2.2.2.2;have j:=CV (s:=S) j tX tY F;have⟨p,r,q1⟩:=tX.len;have⟨q,v,q2⟩:=tY.len;rw[q1,q2] at j;generalize hnA:u.lV.length=C at *;have L:(gO xs)[i*5+0]?=some (num u.kind):=by rw[lJ y 0 dq,<-H.1];rfl
   have U:(gO ys)[i*5+0]?=some (num u.kind):=by rw[lJ A 0 dq,<-I.1];rfl
   have M:(gO xs)[i*5+1]?=some (str u.text):=by rw[lJ y 1 dq,<-H.2.1];rfl
   have V:(gO ys)[i*5+1]?=some (str u.text):=by rw[lJ A 1 dq,<-I.2.1];rfl
   have O:(gO xs)[i*5+2]?=some (str u.name):=by rw[lJ y 2 dq,<-H.2.2.1];rfl
   have W:(gO ys)[i*5+2]?=some (str u.name):=by rw[lJ A 2 dq,<-I.2.2.1];rfl
   have R:(gO xs)[i*5+3]?=some (.slice p C r):=by rw[lJ y 3 dq,<-q1];rfl
   have Z:(gO ys)[i*5+3]?=some (.slice q C v):=by rw[lJ A 3 dq,<-q2];rfl
   have T:(gO xs)[i*5+4]?=some (.bool u.closed):=by rw[lJ y 4 dq,<-H.2.2.2.1];rfl
   have b4:(gO ys)[i*5+4]?=some (.bool u.closed):=by rw[lJ A 4 dq,<-I.2.2.2.1];rfl
   have m0:=e9 (P:=prog) (t:=3) underlying3 rfl f.2 L;have n0:=e9 (P:=prog) (t:=3) underlying3 rfl h.2 U;have m1:=e9 (P:=prog) (t:=9) underlying9 rfl f.2 M;have n1:=e9 (P:=prog) (t:=9) underlying9 rfl h.2 V;have m2:=e9 (P:=prog) (t:=9) underlying9 rfl f.2 O;have n2:=e9 (P:=prog) (t:=9) underlying9 rfl h.2 W;have m3:=e9 (P:=prog) (t:=42) underlying42 rfl f.2 R;have n3:=e9 (P:=prog) (t:=42) underlying42 rfl h.2 Z;have m4:=e9 (P:=prog) (t:=4) underlying4 rfl f.2 T;have n4:=e9 (P:=prog) (t:=4) underlying4 rfl h.2 b4;generalize u.closed=J at *;refine am <| zr <| zk 5 <| zp (nT i N hi) <| zf <| za S <| zT <| am <| aD<|am <| bO kq kq kq<|zq <| zq <| zu (yi a 0 N k (i*5) none .i64 (i:Nat) 5 oq oq oq)<|zq <| zt S <| zu (yl a (i*5+3) (.slice p C r) f.2 (i:=R))<|zq <| zq <| zu (yi b 0 N l (i*5) none .i64 (i:Nat) 5 oq oq oq)<|zq <| zt S <| zu (yl b (i*5+3) (.slice q C v) h.2 (i:=Z))<|ET.xS (g:=95) #[.slice p C r,.slice q C v] kq rfl rfl kq kq j<|zq <| cg ⟨Dz<|o9 m3 n3,_,_,_,_,_,_,rfl,rfl,za S <| bO kq kq kq (zq <| zq <| zq <| zq <| zu (yi a 0 N k (i*5) none .i64 (i:Nat) 5 oq oq oq) (zq <| zt S <| zu (yl a (i*5+0) (num u.kind) f.2 (i:=L)) (zq <| zq <| zu (yi b 0 N l (i*5) none .i64 (i:Nat) 5 oq oq oq) (zq <| zt S <| zu (yl b (i*5+0) (num u.kind) h.2 (i:=U)) (zu (aI (u:=num u.kind) (w:=num u.kind) rfl kq kq<|vK _)<|zq <| zq <| zq <| zq <| zu (yi a 0 N k (i*5) none .i64 (i:Nat) 5 oq oq oq) (zq <| zt S <| zu (yl a (i*5+1) (str u.text) f.2 (i:=M)) (zq <| zq <| zu (yi b 0 N l (i*5) none .i64 (i:Nat) 5 oq oq oq) (zq <| zt S <| zu (yl b (i*5+1) (str u.text) h.2 (i:=V)) (zu (aI (u:=str u.text) (w:=str u.text) rfl kq kq<|vL _)<|zq <| zq <| zq <| zq <| zu (yi a 0 N k (i*5) none .i64 (i:Nat) 5 oq oq oq) (zq <| zt S <| zu (yl a (i*5+2) (str u.name) f.2 (i:=O)) (zq <| zq <| zu (yi b 0 N l (i*5) none .i64 (i:Nat) 5 oq oq oq) (zq <| zt S <| zu (yl b (i*5+2) (str u.name) h.2 (i:=W)) (zu (aI (u:=str u.name) (w:=str u.name) rfl kq kq<|vL _)<|zq <| zq <| zq <| zq <| zu (yi a 0 N k (i*5) none .i64 (i:Nat) 5 oq oq oq) (zq <| zt S <| zu (yl a (i*5+4) (.bool J) f.2 (i:=T)) (zq <| zq <| zu (yi b 0 N l (i*5) none .i64 (i:Nat) 5 oq oq oq) (zq <| zt S <| zu (yl b (i*5+4) (.bool J) h.2 (i:=b4)) ?_))))))))))))))))⟩;cases J<;>(exact zq <| zq <| zq <| cg ⟨Dz<|Bm m0 <| Bm n0 <| Bm m1 <| Bm n1 <| Bm m2 <| Bm n2 <| Bm m4 <| Bm n4 ldz,_,_,_,_,_,_,rfl,rfl,za S <| zx <| zk 1 <| zp (na i 1 oq) <| zf (⟨m-1,oq,rfl,i+1,oq,aP kq⟩)⟩)
  .obtain rfl:i=N:=oq
   exact am <| zr <| zk 5 <| zp (nF i i hi) <| zf <| za S <| aJ kq (EW.exit ⟨rfl,rfl,i,aP kq⟩)
 .rintro e o S ⟨rfl,rfl,i,x,rfl⟩;exact⟨rfl,rfl,i,x,rfl⟩
end
