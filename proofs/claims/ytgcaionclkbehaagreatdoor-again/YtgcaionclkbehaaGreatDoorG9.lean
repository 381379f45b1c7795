import Derived.Test.YtgcaionclkbehaaGreatDoorR6
import Derived.Laws.BytesString
set_option linter.all false
set_option maxHeartbeats 2000000
set_option maxRecDepth 100000
namespace Go.Proofs.YtgcaionclkbehaaGreatDoor
section
open Go.Conc Go.RowKit Go.Lib Tryz
variable {b d i j k m n nb off pi:Nat}{b0 c:UInt8}{l out stops:Bq}{α:Type}{cs lE:Aq}{e t t' ty u:TypeId}{fz OX:Nat × Nat}{K K':Nat→Prop}{nd sl x:Value}
def q1 (nm bs:Bq)(k:Nat):AS:=(qA nm (Rh.add (Oi k (am 66 2) (.slice (some ⟨78,0,none⟩) bs.length bs.length) Qu))).add (.cells (lI bs) 5 (1,1))
abbrev Rk(nm:Bq):Vq:=[num 3,str [],str nm,aD,.bool false]
abbrev Rj(d m:Nat):Value:=.slice (some ⟨d,0,none⟩) m m
def VH (nm bs:Bq)(k:Nat):AS:=((q1 nm bs k).add OJ).add OJ
def p0 (nm bs:Bq)(k:Nat):AS:=(VH nm bs k).add (K5 [] aD)
def p1 (nm bs:Bq)(k:Nat):AS:=(VH nm bs k).add (K5 nm aD)
def p2 (nm bs:Bq)(k:Nat):AS:=(p1 nm bs k).add (K5 nm aD)
def p3 (nm bs:Bq)(k:Nat):AS:=(p2 nm bs k).add (.cells (Rk nm).toArray 60)
def p4 (nm bs:Bq)(k:Nat):AS:=(((((p3 nm bs k).set 78 none).add (.cells (xf bs).toArray 60)).set 77 none).add (.cells (Ol nm++xf bs).toArray 60 (1,1))).set 66 (some (Oi k (.pointer none) aD (Rj 85 2)))
def q2 (nm bs:Bq)(k:Nat):AS:=((((p4 nm bs k).add (.cells (Rk nm).toArray 60)).set 85 none).add (.cells (Ol nm++xf bs++Rk nm).toArray 60 (1,1))).set 66 (some (Oi k (.pointer none) aD (Rj 87 3)))
def q3 (nm bs bz:Bq)(k:Nat):AS:=((q2 nm bs k).add (.cells (lI bz) 5 (1,1))).set 66 (some (Oi k (am 66 2) (.slice (some ⟨88,0,none⟩) bz.length bz.length) (Rj 87 3)))
def q4 (nm bs bz:Bq)(k:Nat):AS:=(((((q3 nm bs bz k).set 88 none).add (.cells (xf bz).toArray 60)).set 87 none).add (.cells (Ol nm++xf bs++Rk nm++xf bz).toArray 60 (1,1))).set 66 (some (Oi k (.pointer none) aD (Rj 90 4)))
def Le (l:Bq):Prop:=∀b∈l,b.toNat<128
def Sl{b:UInt8}(h:b.toNat<128):Lib.encodeRune ((b.toNat:Nat):Int)=[b]:=by unfold Lib.encodeRune;rw[Lib.encodeRuneZ_one oq oq];simp
def AS.only(s:AS):List Nat→AS
 | []=>⟨[],s.nx⟩
 | b::l=>match s.get b with
  | some o=>if ni o=true then (s.only l).set b (some o) else s.only l
  | none=>s.only l
def wU(l:List Nat):xJ fun s=>s.only l:=by
 intro s;induction l with
 | nil=>exact⟨rfl,fun b o h=>by simp only[AS.only] at h;unfold AS.get at h;simp at h⟩
 | cons b l U =>
  simp only[AS.only];split
  ·next o d =>
   split
   ·next a =>
    refine⟨U.1,fun c f h=>?_⟩;rw[AS.aH] at h;split at h
    ·next e=>cases h;rw[e];exact⟨d,a⟩
    ·exact U.2 c f h
   ·exact U
  ·exact U
def vN (b c a:Bq)(args:Aq):Option Value:=match args.toList with
 | [.string x,.int .i64 w]=>if x=⟨b.toArray⟩∧w=0 then some (str a) else if x=⟨c.toArray⟩∧w=1 then some (str a) else none
 | _=>none
def It (c:Nat):Prop:=c<128∨c=233
def yJ (c:Nat):Bq:=if c=233 then [195,169] else [UInt8.ofNat c]
def cF (cl:List Nat):Bq:=cl.flatMap yJ
def ek (cl:List Nat):Iq:=cl.map fun c=>((c:Nat):Int)
def JV(c:Nat):1≤(yJ c).length∧(yJ c).length≤2:=by unfold yJ;split<;>simp
def cH(a b:List Nat):cF (a++b)=cF a++cF b:=by simp[cF]
def JW(cl:List Nat):cl.length≤(cF cl).length∧(cF cl).length≤2*cl.length:=by
 induction cl with
 | nil=>simp[cF]
 | cons c cl U =>have:=JV c;simp only[cF,List.flatMap_cons,lA,lC] at U ⊢;omega
def pJ:∀{cl:List Nat},(∀c∈cl,It c)→aV (ek cl)=cF cl
 | [],_=>rfl
 | c::cl,h=>by
  show Lib.encodeRune ((c:Nat):Int)++aV (ek cl)=yJ c++cF cl;rw[pJ fun x d=>h x (by simp[d])];congr 1;by_cases MI:c=233
  ·subst MI;decide +kernel
  ·have U:c<128:=(h c iq).resolve_right MI;have a:(UInt8.ofNat c).toNat=c:=by have:=On (n:=c) oq;omega
   have:=Sl (b:=UInt8.ofNat c) oq;rw[a] at this;rw[this];unfold yJ;rw[iw MI]
section
variable {i:Nat}{cap:Bool}{cl:List Nat}
def mQ(a b:List Nat):ek (a++b)=ek a++ek b:=by simp[ek]
def rL(a:List Nat):(ek a).length=a.length:=by simp[ek]
end
section
variable {ι:Type}{P:Program}{KT:TypeId→Prop}{An:bJ}{N0:ι→Nat}{M:ι→World→Nat→Prop}{O:ι→Nat→Prop}{R:ι→Wq}{D:ι→World→World→Array Event→Prop}{X:ι→Gq}{Hd:ι→Hq→World→Prop}{kt:TypeId→Bool}{pr:Prim}
variable {aA:TL}{s s1:AS}{K:TL→AS→Prop}{ops:Array Oper}{o:Oper}{v:Value}
def WI.cV{c:Code}{Q:Exit→TL→AS→Prop}(s':AS)(h:s=s')(U:WI P KT An X Hd c aA s' Q):WI P KT An X Hd c aA s Q:=h▸U
def WI.fill{c:Code}{Q:Exit→TL→AS→Prop}(f:(Nq)→TL)(h:aA=f (fun i=>aA.getD i undef))(k:∀x,WI P KT An X Hd c (f x) s Q):WI P KT An X Hd c aA s Q:=h▸k _
end
section
variable {pr:Prim}{s:AS}
def dO(ls:List Nat):Prop:=(cF ls).length≤61∧∀c∈ls,It c∧c≠0∧c≠13
def EN (q out:Bq)(i:Nat)(x:Nq):TL:=[str q,x 1,str [],str out,num ((i:Nat):Int)]++iy x 5 37
def AM (c:UInt8):List Nat:=if 128≤c.toNat then [233] else if c.toNat=0∨c.toNat=13 then [] else [c.toNat]
def iU:Bq→List Nat→List Nat
 | [],acc=>acc
 | c::r,acc=>if (cF acc).length<60 then iU r (acc++AM c) else acc
def Eg{r:Bq}{U:List Nat}(h:¬(cF U).length<60):iU r U=U:=by
 cases r with
 | nil=>rfl
 | cons c r=>rw[iU,iw h]
def qo{q:Bq}(N:pr 29=none)(S:q.length≤9223372036854775807):dO (iU q [])∧Ef pr 29 #[str q] s (str (cF (iU q []))) s:=by
 suffices hx:∃U,(iU q []=U∧dO U)∧Ef pr 29 #[str q] s (str (cF U)) s by obtain⟨U,⟨rfl,h1⟩,h2⟩:=hx;exact⟨h1,h2⟩
 suffices h:Ew pr (match Tryz.f29.body with|some c=>c|none=>.skip) ((#[str q]:Aq).toList++List.replicate (Tryz.f29.ntmps-(#[str q]:Aq).toList.length) undef) s (fun e a o=>(e=.normal∨e=.ret)∧o=s∧∃U,(iU q []=U∧dO U)∧du prog Tryz.f29 a o=some (str (cF U))) by have⟨m,e,a,o,h1,L,h2,U,h3,K⟩:=h;exact⟨U,h3,EF.of N func29 rfl ⟨m,e,a,o,h1,L,K,h2⟩⟩
 iterate 2 refine zs ?_
 refine EW.seq (zs (za s ?_));refine EW.fill (EN q (cF []) 0) kq ?_;intro O;refine EW.block ?_;refine EW.mono (EW.dS (Q:=fun e a g=>e=.exit 0∧g=s∧∃U i,(iU q []=U∧dO U)∧∃x,a=EN q (cF U) i x) (fun m a g=>g=s∧∃U i,i+m=q.length+1∧i≤q.length∧(iU q []=iU (q.drop i) U∧dO U)∧∃x,a=EN q (cF U) i x) ?_ (q.length+1) _ _ ⟨rfl,[],0,oq,oq,⟨rfl,by simp[cF],iq⟩,O,rfl⟩) ?_
 ·rintro m a g ⟨rfl,U,i,P,R,⟨C,f⟩,x,rfl⟩;obtain⟨k,rfl⟩:∃k,m=k+1:=⟨m-1,oq⟩;refine EW.seq (zr (zk 2 (zp (da (l:=q) rfl underlying9 kq) ?_)));by_cases u:i<q.length
  ·refine zp (yb (num ((i:Nat):Int)) (num q.length) (aX (b:=true) (tD oq))) (zk 2 (zp (da (l:=cF U) rfl underlying9 kq) ?_));by_cases I:(cF U).length<60
   ·refine zp (yb (num (cF U).length) (num 60) (aX (b:=true) (tD oq))) (zf (zT (EW.seq (EW.block (EW.block ?_)))));have D:q[i]?=some q[i]:=gE u;have G:iU q []=iU (q.drop (i+1)) (U++AM q[i]):=by rw[C,List.drop_eq_getElem_cons u,iU,ip I]
    generalize q[i]=c at D G;have B:q[((i:Nat):Int).toNat]?=some c:=by rw[Int.toNat_natCast];exact D
    have z:∀(p:List Nat) (A:TL) (o:AS),(U++AM c=p∧dO p)→o=g→(∃x,A=EN q (cF p) i x)→Ew pr (match Tryz.f29.body with|some (.seq _ (.seq _ (.seq (.seq _ (.block _ (.loop (.seq _ (.seq _ c))))) _)))=>c|_=>.skip) A o (fun e a v=>match e with|.normal=>∃J,J<k+1∧v=g∧∃U i,i+J=q.length+1∧i≤q.length∧(iU q []=iU (q.drop i) U∧dO U)∧∃x,a=EN q (cF U) i x|e=>e=.exit 0∧v=g∧∃U i,(iU q []=U∧dO U)∧∃x,a=EN q (cF U) i x):=by rintro p A o ⟨E,M⟩ rfl ⟨T,rfl⟩;refine zx (zk 1 (zp (pf (i:=((i:Nat):Int)) (j:=1) (r:=((i+1:Nat):Int)) rfl kq kq oq oq) (zf ?_)));exact⟨k,Nat.lt_succ_self k,kq,p,i+1,oq,oq,⟨by rw[G,E],M⟩,aN kq⟩
    refine zr (zk 2 (zp (kU (l:=q) (k:=.i64) (n:=((i:Nat):Int)) (b:=c) rfl underlying9 kq kq oq B) ?_));by_cases w:128≤c.toNat
    ·refine zp (yb (.int .u8 c.toNat) (.int .u8 128) (oE (b:=true) (tD oq))) (zf (zH (zx (zk 1 (zp (pg (l:=cF U) (m:=[195,169]) rfl kq kq (by simp;omega)) ?_)))));have t:cF U++[195,169]=cF (U++[233]):=by rw[cH];rfl
     rw[t];refine zf ?_;refine z (U++[233]) _ _ ⟨by unfold AM;rw[ip w],by rw[← t];simp;omega,fun y d=>?_⟩ kq (aN kq);rcases List.mem_append.1 d with d|d
     ·exact f.2 y d
     ·rw[List.mem_singleton.1 d];exact⟨.inr rfl,dq,dq⟩
    ·refine zp (yb (.int .u8 c.toNat) (.int .u8 128) (oE (b:=false) (fD oq))) (zf (zG (zr (zk 2 (zp (kU (l:=q) (k:=.i64) (n:=((i:Nat):Int)) (b:=c) rfl underlying9 kq kq oq B) ?_)))));by_cases H:c.toNat=0
     ·refine zp (yb (.int .u8 c.toNat) (.int .u8 0) (ca (b:=false) (by rw[H];rfl))) (zf (zF ?_));exact z U _ _ ⟨by unfold AM;rw[iw w,ip oq,List.append_nil],f⟩ kq (aN kq)
     ·refine zp (yb (.int .u8 c.toNat) (.int .u8 0) (ca (b:=true) (bne_iff_ne.2 oq))) (zk 3 (zp (kU (l:=q) (k:=.i64) (n:=((i:Nat):Int)) (b:=c) rfl underlying9 kq kq oq B) ?_));by_cases F:c.toNat=13
      ·refine zp (yb (.int .u8 c.toNat) (.int .u8 13) (ca (b:=false) (by rw[F];rfl))) (zf (zF ?_));exact z U _ _ ⟨by unfold AM;rw[iw w,ip oq,List.append_nil],f⟩ kq (aN kq)
      ·refine zp (yb (.int .u8 c.toNat) (.int .u8 13) (ca (b:=true) (bne_iff_ne.2 oq))) (zf (zH (zx (zk 4 (zp (pf (i:=((i:Nat):Int)) (j:=1) (r:=((i+1:Nat):Int)) rfl kq kq oq oq) (zp (jU (l:=q) (m:=[c]) (i:=i) (j:=i+1) rfl underlying9 kq ((show _=bH q.length q.length (some (num ((i:Nat):Int))) (some (num ((i+1:Nat):Int))) by kernel_rfl).trans ((sb oq oq oq).trans (by rw[Int.toNat_natCast,Int.toNat_natCast]))) (by rw[List.take_add_one,D,List.drop_append_of_le_length (by simp;omega),List.drop_eq_nil_of_le (by simp;omega)];rfl)) (zp (pg (l:=cF U) (m:=[c]) rfl kq kq (by simp;omega)) ?_)))))));have t:cF U++[c]=cF (U++[c.toNat]):=by rw[cH];congr 1;show[c]=yJ c.toNat++[];unfold yJ;rw[iw oq];simp
       rw[t];refine zf ?_;refine z (U++[c.toNat]) _ _ ⟨by unfold AM;rw[iw w,iw oq],by rw[← t];simp;omega,fun y d=>?_⟩ kq (aN kq);rcases List.mem_append.1 d with d|d
       ·exact f.2 y d
       ·rw[List.mem_singleton.1 d];exact⟨.inl oq,H,F⟩
   ·refine zp (yb (num (cF U).length) (num 60) (aX (b:=false) (fD oq))) (zf (zG (EW.exit ?_)));exact⟨rfl,kq,U,i,⟨C.trans (Eg I),f⟩,aN kq⟩
  ·refine zp (yb (num ((i:Nat):Int)) (num q.length) (aX (b:=false) (fD oq))) (zf (zG (EW.exit ?_)));exact⟨rfl,kq,U,i,⟨by rw[C,List.drop_of_length_le oq];rfl,f⟩,aN kq⟩
 ·rintro e a g ⟨rfl,rfl,U,i,f,x,rfl⟩;refine EW.xt 5 .ret kq ?_;exact⟨.inr rfl,kq,U,f,kq⟩
end
def Qt (l:Bq)(i:Nat)(x:Nq):TL:=[str l,x 1,.bool false,num (i:Nat)]++iy x 4 24
section
variable {pr:Prim}{s:AS}
def Ks{y:Int}(a:pr 19=none)(c : -9223372036854775808≤y∧y≤9223372036854775807):Ef pr 19 #[num y,num 9] s (num ((mq y 9:Nat):Int)) s:=by
 refine EF.of a func19 rfl ?_;refine EW.seq (EW.go 5 kq (EW.seq (EW.seq (EW.region kq (EO.go 1 5 kq ?_)))));by_cases h:y<0
 ·have U:((-(y+1)).tmod 9:Int)=((mq y 9:Nat):Int):=by unfold mq;rw[ip h,Int.tmod_eq_emod_of_nonneg oq];omega
  refine EO.op kq (aU (u:=num y) (w:=num 0) rfl kq kq (aX (b:=true) (tD h))) (EO.nil (EW.ew kq (EW.region kq (EO.go 1 5 kq (EO.op kq (pf (i:=y) (j:=1) (r:=y+1) rfl kq kq rfl oq) (EO.cV s kq (EO.op (v:=num (-(y+1))) (s1:=s) kq ((show _=some (num (IntKind.i64.wrap (0-(y+1))),s) by kernel_rfl).trans (by rw[L4 oq,Int.zero_sub])) (EO.fin 5 kq (EW.seq (EW.region kq (EO.gs 2 5 s kq (EO.op (v:=num ((mq y 9:Nat):Int)) (s1:=s) kq ((show _=some (num ((-(y+1)).tmod 9),s) by kernel_rfl).trans (by rw[U])) (EO.fin 5 kq ?_)))))))))))));exact EW.ret ⟨.inr rfl,kq,kq⟩
 ·have U:(y.tmod 9:Int)=((mq y 9:Nat):Int):=by unfold mq;rw[iw h,Int.tmod_eq_emod_of_nonneg oq];omega
  refine EO.op kq (aU (u:=num y) (w:=num 0) rfl kq kq (aX (b:=false) (fD h))) (EO.nil (EW.dL kq (EW.skip (EW.seq (EW.region kq (EO.gs 2 5 s kq (EO.op (v:=num ((mq y 9:Nat):Int)) (s1:=s) kq ((show _=some (num (y.tmod 9),s) by kernel_rfl).trans (by rw[U])) (EO.fin 5 kq ?_))))))));exact EW.ret ⟨.inr rfl,kq,kq⟩
def Iu(v:pr 45=none)(A:l.length≤1000000):∃b,Ef pr 45 #[str l] s (.bool b) s∧(l=[]→b=true):=by
 suffices h:Ew pr (match Tryz.f45.body with|some c=>c|none=>.skip) ((#[str l]:Aq).toList++List.replicate (Tryz.f45.ntmps-(#[str l]:Aq).toList.length) undef) s (fun e a f=>(e=.normal∨e=.ret)∧f=s∧∃b,du prog Tryz.f45 a f=some (.bool b)∧(l=[]→b=true)) by obtain⟨m,e,a,f,q1,q2,rfl,b,q3,q4⟩:=h;exact⟨b,EF.of v func45 rfl ⟨m,e,a,_,q1,q2,q3,rfl⟩,q4⟩
 refine EW.seq (EW.go 5 kq (EW.seq (EW.seq (EW.go 5 kq ?_))));refine EW.fill (Qt l 0) kq ?_;intro z;refine EW.block ?_;refine EW.dS (fun m a y=>y=s∧∃i,i+m=l.length∧∃x,a=Qt l i x) ?_ l.length _ _ ⟨kq,0,oq,z,rfl⟩;rintro m a _ ⟨rfl,i,g,x,rfl⟩;refine EW.seq (EW.seq (EW.region kq (EO.go 2 9 kq (EO.op kq (da (l:=l) rfl underlying9 kq) ?_))));cases m with
 | zero =>refine EO.op kq (aU (u:=num (i:Nat)) (w:=num (l.length:Nat)) rfl kq kq (aX (b:=false) (fD oq))) ?_;refine EO.nil (EW.dL kq (EW.exit (EW.seq (EW.go 5 kq ?_))));exact EW.ret ⟨.inr rfl,kq,true,kq,fun _=>rfl⟩
 | succ m =>
  have t:l[i]?=some l[i]:=gE oq;have d:l≠[]:=fun e=>by rw[e] at g;simp at g
  refine EO.op kq (aU (u:=num (i:Nat)) (w:=num (l.length:Nat)) rfl kq kq (aX (b:=true) (tD oq))) (EO.nil (EW.ew kq (EW.skip (EW.seq (EW.block (EW.seq (EW.region kq (EO.go 2 9 kq (EO.op kq (kU (l:=l) (k:=.i64) (n:=(i:Nat)) (b:=l[i]) rfl underlying9 kq kq oq (by rw[Int.toNat_natCast];exact t)) ?_)))))))));generalize ((l[i].toNat:Nat):Int)=c;refine EO.fin 9 kq (EW.seq (EW.region kq (EO.go 1 9 kq (EO.op kq (aU (u:=.int .u8 c) (w:=.int .u8 9) rfl kq kq (ca (b:=c != 9) rfl)) ?_))));generalize (c != 9)=q;cases q
  ·refine EO.fin 9 kq (EW.dL kq (EW.skip (EW.region kq (EO.go 1 9 kq (EO.op kq (gW (i:=((i:Nat):Int)) (j:=1) (r:=((i+1:Nat):Int)) rfl kq kq oq oq) (EO.fin 9 kq ?_))))));exact⟨m,oq,kq,i+1,oq,aN kq⟩
  refine EO.go 2 9 kq (EO.op kq (aU (u:=.int .u8 c) (w:=.int .u8 10) rfl kq kq (ca (b:=c != 10) rfl)) ?_);generalize (c != 10)=U;cases U
  ·refine EO.fin 9 kq (EW.dL kq (EW.skip (EW.region kq (EO.go 1 9 kq (EO.op kq (gW (i:=((i:Nat):Int)) (j:=1) (r:=((i+1:Nat):Int)) rfl kq kq oq oq) (EO.fin 9 kq ?_))))));exact⟨m,oq,kq,i+1,oq,aN kq⟩
  refine EO.go 3 9 kq (EO.op kq (aU (u:=.int .u8 c) (w:=.int .u8 12) rfl kq kq (ca (b:=c != 12) rfl)) ?_);generalize (c != 12)=o;cases o
  ·refine EO.fin 9 kq (EW.dL kq (EW.skip (EW.region kq (EO.go 1 9 kq (EO.op kq (gW (i:=((i:Nat):Int)) (j:=1) (r:=((i+1:Nat):Int)) rfl kq kq oq oq) (EO.fin 9 kq ?_))))));exact⟨m,oq,kq,i+1,oq,aN kq⟩
  refine EO.go 3 9 kq (EO.op kq (aU (u:=.int .u8 c) (w:=.int .u8 32) rfl kq kq (ca (b:=c != 32) rfl)) ?_);generalize (c != 32)=p;cases p
  ·refine EO.fin 9 kq (EW.dL kq (EW.skip (EW.region kq (EO.go 1 9 kq (EO.op kq (gW (i:=((i:Nat):Int)) (j:=1) (r:=((i+1:Nat):Int)) rfl kq kq oq oq) (EO.fin 9 kq ?_))))));exact⟨m,oq,kq,i+1,oq,aN kq⟩
  refine EO.fin 9 kq (EW.ew kq (EW.seq (EW.go 5 kq ?_)));exact EW.ret ⟨.inr rfl,kq,false,kq,fun e=>absurd e d⟩
end
def qp(d:α):∀(n:Nat) (l:List α) (x y:α),mi d n (mi d n l x) y=mi d n l y
 | 0,l,x,y=>by simp[mi]
 | n+1,l,x,y=>by have:=qp d n l.tail x y;simp[mi,this]
def qq(d:α):∀(n:Nat) (l:List α),n<l.length→mi d n l (l.getD n d)=l
 | 0,x::l,h=>by simp[mi]
 | n+1,x::l,h=>by have:=qq d n l (by simpa using h);simp only[mi,List.headD_cons,List.tail_cons,List.getD_cons_succ];rw[this]
 | _,[],h=>by simp at h
def AS.set_set(s:AS)(b:Nat)(x y:Option Obj):(s.set b x).set b y=s.set b y:=by unfold AS.set;simp only[mP,if_true];rw[qp,qp]
def AS.zm{s:AS}{o:Obj}(h:s.get b=some o):s.set b (some o)=s:=by
 unfold AS.get at h;have h1:b % 16<(s.hp.getD (b / 16) []).length:=by
  by_cases U:b % 16<(s.hp.getD (b / 16) []).length
  ·exact U
  ·rw[List.getD_eq_getElem?_getD,List.getElem?_eq_none oq] at h;cases h
 have h2:b / 16<s.hp.length:=by
  by_cases U:b / 16<s.hp.length
  ·exact U
  ·rw[List.getD_eq_getElem?_getD,List.getElem?_eq_none oq] at h1;simp at h1
 unfold AS.set;have e:mi none (b % 16) (s.hp.getD (b / 16) []) (some o)=s.hp.getD (b / 16) []:=by have:=qq none (b % 16) (s.hp.getD (b / 16) []) h1;rw[h] at this;exact this
 rw[e,qq [] (b / 16) s.hp h2]
def Has (s:AS)(b:Nat)(o:Obj):Prop:=b<s.nx∧s.get b=some o
section
variable {s s' s1 s2:AS}{b c:Nat}{o o':Obj}
def Has.add(h:Has s b o)(x:Obj):Has (s.add x) b o:=⟨by have:=h.1;simp;omega,by rw[AS.aG,iw (by have:=h.1;omega)];exact h.2⟩
def Has.new(s:AS)(o:Obj):Has (s.add o) s.nx o:=⟨iq,by rw[AS.aG,ip rfl]⟩
def Has.set(h:Has s b o)(U:b≠c)(x:Option Obj):Has (s.set c x) b o:=⟨h.1,by rw[AS.aH,iw U];exact h.2⟩
def Has.put(h:Has s b o)(o':Obj):Has (s.set b (some o')) b o':=⟨h.1,by rw[AS.aH,ip rfl]⟩
def Has.ne(h:Has s b (.cells cs t fz))(U:Has s c (.cells lE t' OX))(a:t≠t'):b≠c:=fun e=>by
 have h1:=h.2;rw[e,U.2] at h1;injection h1 with q
 injection q with _ q2
 exact a q2.symm
def aP (K:Nat→Prop)(s s':AS):Prop:=s.nx≤s'.nx∧∀b,b<s.nx→¬K b→s'.get b=s.get b
def aP.refl(s:AS):aP K s s:=⟨lr,fun _ _ _=>rfl⟩
def aP.add(h:aP K s s')(x:Obj):aP K s (s'.add x):=⟨by have:=h.1;simp;omega,fun b a c=>by rw[AS.aG,iw (by have:=h.1;omega)];exact h.2 b a c⟩
def aP.set(h:aP K s s')(d:c<s.nx→K c)(x:Option Obj):aP K s (s'.set c x):=⟨h.1,fun b U a=>by rw[AS.aH,iw (fun e=>a (by subst e;exact d U))];exact h.2 b U a⟩
def aP.trans(h:aP K s s1)(U:aP K' s1 s2)(d:∀b,b<s.nx→K' b→K b):aP K s s2:=⟨lT h.1 U.1,fun b a c=>by have:=h.1;rw[U.2 b oq fun z=>c (d b a z),h.2 b a c]⟩
def Has.fr(h:Has s b o)(U:aP K s s')(a:¬K b):Has s' b o:=⟨by have:=h.1;have:=U.1;omega,(U.2 b h.1 a).trans h.2⟩
end
abbrev fK(rn k:Nat)(p q r:Value):Obj:=.cells #[am rn 0,num (k:Nat),p,q,r] 121
def sp (s:AS)(c rn:Nat)(p q r:Value)(k:Nat):AS:=s.set c (some (fK rn k p q r))
section
variable {s:AS}{c rn k k':Nat}{p q r:Value}
def er:(sp s c rn p q r k).get c=some (fK rn k p q r):=by unfold sp;rw[AS.aH,ip rfl]
def od:(sp s c rn p q r k).set c (some (fK rn k' p q r))=sp s c rn p q r k':=by unfold sp;rw[AS.set_set]
def mX(h:s.get c=some (fK rn k p q r)):sp s c rn p q r k=s:=AS.zm h
end
def ef (l:Int)(stops:Bq):Bool:=stops.any fun b=>l==((b.toNat:Nat):Int)
def u7:List FuncId:=[40,70,71,72,73,84,148,149,156,158,159,248,249,252,253,257,259,260,261,322,324,325,326,364,365,366]
structure xo(rn:Nat)(all:Iq)(pr:Prim):Prop where
 y5:pr 146=dl rn all 146
 Uq:pr 92=dl rn all 92
 one:∀(s:AS) (l:Int) (stops:Bq),(l = -1∨l∈all)→Le stops→EF prog lF pr 328 #[.int .i32 l,str stops] s (.bool (ef l stops)) s
 no:∀f,f∈u7→pr f=none
 pos:∀l∈all,0≤l
 len:all.length≤100000
def g9 (all:Iq)(stops:Bq)(k:Nat):Nat:=k+((all.drop k).takeWhile fun l=>!ef l stops).length
def nj (all:Iq)(some_:Bq)(k:Nat):Nat:=k+((all.drop k).takeWhile fun l=>ef l some_).length
def CY{f:α→Bool}:∀{l:List α} {j:Nat},j<(l.takeWhile f).length→∃x,l[j]?=some x∧f x=true
 | [],j,h=>by simp at h
 | x::l,j,h=>by
  rw[List.takeWhile_cons] at h;split at h
  ·next U =>
   cases j with
   | zero=>exact⟨x,rfl,U⟩
   | succ j=>exact CY (l:=l) (by simpa using h)
  ·simp at h
def xh(f:α→Bool):∀l:List α,l[(l.takeWhile f).length]?=none∨∃x,l[(l.takeWhile f).length]?=some x∧f x=false
 | []=>.inl rfl
 | x::l=>by
  rw[List.takeWhile_cons];split
  ·simpa using xh f l
  ·next U=>exact .inr ⟨x,rfl,by simpa using U⟩
def kj(all:Iq)(k j:Nat):dx all (k+j)=((all.drop k)[j]?).getD (-1):=by unfold dx;rw[List.getElem?_drop]
def kl{all:Iq}{x:Int}(h:(all.drop k)[j]?=some x):dx all (k+j)=x∧x∈all:=⟨by rw[kj,h];rfl,List.mem_of_mem_drop (mG h)⟩
def qJ(f:α→Bool)(l:List α):(l.takeWhile f).length≤l.length:=(List.takeWhile_sublist f).length_le
def dQ (all:Iq)(k j:Nat):Bq:=aV ((all.drop k).take (j-k))
section
variable {rn:Nat}{all:Iq}{pr:Prim}{s:AS}{c:Nat}{p q r:Value}
def xo.at(U:xo rn all pr)(k:Nat):dx all k = -1∨dx all k∈all:=by
 unfold dx;cases h:all[k]? with
 | none=>exact .inl rfl
 | some x=>exact .inr (mG h)
def Jd(U:xo rn all pr)(i:Nat)(hk:k+i≤1000000):Ef pr 70 #[am c 0,num (i:Nat)] (sp s c rn p q r k) (.int .i32 (dx all (k+i))) (sp s c rn p q r k):=iP (U.no 70 dq) U.y5 er rfl rfl hk
def gK(hp:xo rn all pr)(U:k≤1000000):Ef pr 70 #[am c 0,num 0] (sp s c rn p q r k) (.int .i32 (dx all k)) (sp s c rn p q r k):=Jd hp 0 U
def rS(U:xo rn all pr)(a:j≤1000000):Ef pr 92 #[am rn 0,num (k:Nat),num (j:Nat)] s (str (dQ all k j)) s:=by refine EF.rC (U.Uq.trans rfl) ?_;simp only[am];rw[ip ⟨trivial,oq,oq,oq⟩];simp[dQ]
def CQ(k:Nat):aC prog 84 (am c 0) (sp s c rn p q r k)=some (am rn 0):=by unfold aC;simp only[am,er,underlying84];rfl
def Iv(k:Nat):aC prog 3 (am c 1) (sp s c rn p q r k)=some (num (k:Nat)):=by unfold aC;simp only[am,er,underlying3];rfl
def K8(g:xo rn all pr)(C:Le stops)(G:k≤200000):Ef pr 259 #[am c 0,str stops] (sp s c rn p q r k) (str (dQ all k (g9 all stops k))) (sp s c rn p q r (g9 all stops k)):=by
 have B:=fun (j:Nat)=>CY (f:=fun l=>!ef l stops) (l:=all.drop k) (j:=j);have A:=xh (fun l=>!ef l stops) (all.drop k);have n:=qJ (fun l=>!ef l stops) (all.drop k);have z:(all.drop k).length≤all.length:=iq
 have F:=g.len;unfold g9;generalize ((all.drop k).takeWhile fun l=>!ef l stops).length=m at B A n ⊢;refine EF.of (g.no 259 dq) func259 rfl ?_;refine zs (za (sp s c rn p q r k) (zr (zg 3 (sp s c rn p q r k) (zp (yl c 1 (num (k:Nat)) er) (zf (za (sp s c rn p q r k) ?_))))));refine EW.fill (Ic c stops k) kq ?_;intro E;refine EW.seq (EW.block ?_);refine EW.mono (EW.dS (Q:=fun e h t=>e=.exit 0∧t=sp s c rn p q r (k+m)∧∃x,h=Ic c stops k x) (fun u h t=>∃j,u+j=m∧t=sp s c rn p q r (k+j)∧∃x,h=Ic c stops k x) ?_ m _ _ ⟨0,oq,rfl,E,rfl⟩) ?_
 ·rintro u h t ⟨j,H,rfl,x,rfl⟩;have d:=gK (s:=s) (c:=c) (p:=p) (q:=q) (r:=r) g (k:=k+j) oq;by_cases D:j<m
  ·have⟨l,U,v⟩:=B j D;have⟨w,i⟩:=kl U;have y:=g.pos l i;rw[w] at d;have a:=g.one (sp s c rn p q r (k+j)) l stops (.inr i) C;rw[show ef l stops=false by simpa using v] at a;refine EW.seq (zr (zc 1 d (zp (yb (.int .i32 l) (.int .i32 (-1)) (ca (b:=true) (bne_iff_ne.2 oq))) (zc 2 d (zc 1 a (zf (za (sp s c rn p q r (k+j)) (zT (EW.block (zx (zg 3 (sp s c rn p q r (k+j)) (zp (yl c 1 (num ((k+j:Nat):Int)) er) (zp (yp ((k+j:Nat):Int) 1 ((k+(j+1):Nat):Int) oq oq) (zg 2 (sp s c rn p q r (k+j)) (zp (ys c 1 (num ((k+(j+1):Nat):Int)) er iq) (EO.nil ?_))))))))))))))));exact⟨u-1,oq,j+1,oq,od,aN kq⟩
  ·obtain rfl:j=m:=oq
   rcases A with U|⟨l,U,v⟩
   ·have e:dx all (k+j) = -1:=by rw[kj,U];rfl
    rw[e] at d;refine EW.seq (zr (zc 1 d (zf (za (sp s c rn p q r (k+j)) (zG (EW.exit ?_))))));exact⟨rfl,rfl,aN kq⟩
   ·have⟨w,i⟩:=kl U;have y:=g.pos l i;rw[w] at d;have a:=g.one (sp s c rn p q r (k+j)) l stops (.inr i) C;rw[show ef l stops=true by simpa using v] at a;refine EW.seq (zr (zc 1 d (zp (yb (.int .i32 l) (.int .i32 (-1)) (ca (b:=true) (bne_iff_ne.2 oq))) (zc 2 d (zc 1 a (zf (za (sp s c rn p q r (k+j)) (zG (EW.exit ?_)))))))));exact⟨rfl,rfl,aN kq⟩
 rintro e h t ⟨rfl,rfl,x,rfl⟩;have o:=rS g (s:=sp s c rn p q r (k+m)) (k:=k) (j:=k+m) oq;generalize dQ all k (k+m)=I at o ⊢;refine EW.seq (EW.draw kq kq kq ?_);iterate 3 refine zq ?_
 refine zt (sp s c rn p q r (k+m)) (zu (yl c 0 (am rn 0) er) ?_);iterate 4 refine zq ?_
 refine zt (sp s c rn p q r (k+m)) (zu (yl c 1 (num ((k+m:Nat):Int)) er) (yt o (zq (ET.nil ⟨aK [(aC prog 84 (am c 0) (sp s c rn p q r (k+m)),am rn 0),(aC prog 3 (am c 1) (sp s c rn p q r (k+m)),num ((k+m:Nat):Int))] kq (mh ⟨CQ _,rfl⟩ ⟨Iv _,rfl⟩),_,_,_,_,_,_,rfl,rfl,?_⟩))));exact yR
def NV(U:xo rn all pr)(stops:Bq)(k:Nat):k≤g9 all stops k∧g9 all stops k≤k+100000:=by
 have h1:=qJ (fun l=>!ef l stops) (all.drop k);have h2:(all.drop k).length≤all.length:=iq
 have h3:=U.len;unfold g9;omega
def L1(d:xo rn all pr)(e:b0.toNat<128)(f:k≤200000):Ef pr 260 #[am c 0,str [b0]] (sp s c rn p q r k) (str (dQ all k (g9 all [b0] k))) (sp s c rn p q r (g9 all [b0] k+1)):=by have U:=K8 (s:=s) (c:=c) (p:=p) (q:=q) (r:=r) d (stops:=[b0]) (by intro b h;simp at h;subst h;exact e) (k:=k) f;have g:=NV d [b0] k;generalize dQ all k (g9 all [b0] k)=i at U ⊢;generalize g9 all [b0] k=a at *;refine EF.of (d.no 260 dq) func260 rfl ?_;refine zs (zr (zc 2 U (zf (za (sp s c rn p q r a) (zr (zg 3 (sp s c rn p q r a) (zp (yl c 1 (num (a:Nat)) er) (zk 2 (zp (yp (a:Nat) 1 ((a+1:Nat):Int) oq oq) (zg 2 (sp s c rn p q r a) (zp (ys c 1 (num ((a+1:Nat):Int)) er iq) (EO.nil (EW.cV (sp s c rn p q r (a+1)) od (zs ?_))))))))))))));exact yR
def tE:Le ce:=by intro b h;simp at h;rcases h with rfl|rfl|rfl|rfl|rfl<;>decide
def Ib(c:Nat)(x:Nq):TL:=[am c 0]++iy x 1 11
def H7(a:xo rn all pr)(C:k≤200000):Ef pr 257 #[am c 0] (sp s c rn p q r k) (.tuple #[]) (sp s c rn p q r (nj all ce k)):=by
 have y:=fun (j:Nat)=>CY (f:=fun l=>ef l ce) (l:=all.drop k) (j:=j);have w:=xh (fun l=>ef l ce) (all.drop k);have g:=qJ (fun l=>ef l ce) (all.drop k);have v:(all.drop k).length≤all.length:=iq
 have B:=a.len;unfold nj;generalize ((all.drop k).takeWhile fun l=>ef l ce).length=m at y w g ⊢;refine EF.of (a.no 257 dq) func257 rfl ?_;refine za (sp s c rn p q r k) ?_;refine EW.fill (Ib c) kq ?_;intro A;refine EW.block ?_;refine EW.mono (EW.dS (Q:=fun e b h=>e=.exit 0∧h=sp s c rn p q r (k+m)∧∃x,b=Ib c x) (fun u b h=>∃j,u+j=m∧h=sp s c rn p q r (k+j)∧∃x,b=Ib c x) ?_ m _ _ ⟨0,oq,rfl,A,rfl⟩) ?_
 ·rintro u b h ⟨j,D,rfl,x,rfl⟩;have i:=gK (s:=s) (c:=c) (p:=p) (q:=q) (r:=r) a (k:=k+j) oq;by_cases z:j<m
  ·have⟨l,d,n⟩:=y j z;have⟨o,t⟩:=kl d;rw[o] at i;have U:=a.one (sp s c rn p q r (k+j)) l ce (.inr t) tE;rw[show ef l ce=true by simpa using n] at U;refine EW.seq (zr (zc 1 i (zc 0 U (EO.nil (zT (EW.block (zx (zg 3 (sp s c rn p q r (k+j)) (zp (yl c 1 (num ((k+j:Nat):Int)) er) (zp (yp ((k+j:Nat):Int) 1 ((k+(j+1):Nat):Int) oq oq) (zg 2 (sp s c rn p q r (k+j)) (zp (ys c 1 (num ((k+(j+1):Nat):Int)) er iq) (EO.nil ?_)))))))))))));exact⟨u-1,oq,j+1,oq,od,aN kq⟩
  ·obtain rfl:j=m:=oq
   have U:Ef pr 328 #[.int .i32 (dx all (k+j)),str ce] (sp s c rn p q r (k+j)) (.bool false) (sp s c rn p q r (k+j)):=by
    rcases w with d|⟨l,d,n⟩
    ·have e:dx all (k+j) = -1:=by rw[kj,d];rfl
     rw[e];exact a.one _ _ ce (.inl rfl) tE
    ·have⟨o,t⟩:=kl d;rw[o]
     have:=a.one (sp s c rn p q r (k+j)) l ce (.inr t) tE;rw[show ef l ce=false by simpa using n] at this;exact this
   generalize dx all (k+j)=l at i U;refine EW.seq (zr (zc 1 i (zc 0 U (EO.nil (zG (EW.exit ?_))))));exact⟨rfl,rfl,aN kq⟩
 rintro e b h ⟨rfl,rfl,x,rfl⟩;exact⟨.inl rfl,kq,kq⟩
def tA(all:Iq)(k:Nat):Bool:=decide (k<nj all (ce++[47]) k)&&(dx all (nj all (ce++[47]) k-1)==47)
def Ir:Le (ce++[47]):=by intro b h;simp at h;rcases h with rfl|rfl|rfl|rfl|rfl|rfl<;>decide
def xb(c:Nat)(b:Bool)(x:Nq):TL:=[am c 0,x 1,.bool b]++iy x 3 14
def KO(a:xo rn all pr)(H:k≤200000):Ef pr 324 #[am c 0] (sp s c rn p q r k) (.bool (tA all k)) (sp s c rn p q r (nj all (ce++[47]) k)):=by
 have A:=fun (j:Nat)=>CY (f:=fun l=>ef l (ce++[47])) (l:=all.drop k) (j:=j);have z:=xh (fun l=>ef l (ce++[47])) (all.drop k);have n:=qJ (fun l=>ef l (ce++[47])) (all.drop k);have y:(all.drop k).length≤all.length:=iq
 have F:=a.len;unfold tA nj;generalize ((all.drop k).takeWhile fun l=>ef l (ce++[47])).length=m at A z n ⊢;refine EF.of (a.no 324 dq) func324 rfl ?_;refine zs (za (sp s c rn p q r k) ?_);refine EW.fill (xb c false) kq ?_;intro E;refine EW.seq (EW.block ?_);refine EW.mono (EW.dS (Q:=fun e d o=>e=.exit 0∧o=sp s c rn p q r (k+m)∧∃x,d=xb c (decide (k<k+m)&&(dx all (k+m-1)==47)) x) (fun u d o=>∃j,u+j=m∧o=sp s c rn p q r (k+j)∧∃x,d=xb c (decide (k<k+j)&&(dx all (k+j-1)==47)) x) ?_ m _ _ ⟨0,oq,rfl,E,by simp[xb]⟩) ?_
 ·rintro u d o ⟨j,I,rfl,x,rfl⟩;have g:=gK (s:=s) (c:=c) (p:=p) (q:=q) (r:=r) a (k:=k+j) oq;by_cases D:j<m
  ·have⟨l,h,v⟩:=A j D;have⟨t,w⟩:=kl h;have i:(decide (k<k+(j+1))&&(dx all (k+(j+1)-1)==47))=(l==47):=by rw[show k+(j+1)-1=k+j by omega,t];simp
   rw[t] at g;have U:=a.one (sp s c rn p q r (k+j)) l (ce++[47]) (.inr w) Ir;rw[show ef l (ce++[47])=true by simpa using v] at U;generalize (decide (k<k+j)&&(dx all (k+j-1)==47))=B;refine EW.seq (zr (zc 1 g (zc 0 U (EO.nil (zT (EW.block (zr (zc 1 g (zp (yb (.int .i32 l) (.int .i32 47) (gl (b:=l==47) rfl)) ?_)))))))));generalize C:(l==(47:Int))=G at i;refine zf (za (sp s c rn p q r (k+j)) (zx (zg 3 (sp s c rn p q r (k+j)) (zp (yl c 1 (num ((k+j:Nat):Int)) er) (zp (yp ((k+j:Nat):Int) 1 ((k+(j+1):Nat):Int) oq oq) (zg 2 (sp s c rn p q r (k+j)) (zp (ys c 1 (num ((k+(j+1):Nat):Int)) er iq) (EO.nil ?_))))))));exact⟨u-1,oq,j+1,oq,od,by rw[i];exact aN kq⟩
  ·obtain rfl:j=m:=oq
   have U:Ef pr 328 #[.int .i32 (dx all (k+j)),str (ce++[47])] (sp s c rn p q r (k+j)) (.bool false) (sp s c rn p q r (k+j)):=by
    rcases z with h|⟨l,h,v⟩
    ·have e:dx all (k+j) = -1:=by rw[kj,h];rfl
     rw[e];exact a.one _ _ (ce++[47]) (.inl rfl) Ir
    ·have⟨t,w⟩:=kl h;rw[t]
     have:=a.one (sp s c rn p q r (k+j)) l (ce++[47]) (.inr w) Ir;rw[show ef l (ce++[47])=false by simpa using v] at this;exact this
   generalize (decide (k<k+j)&&(dx all (k+j-1)==47))=B;generalize dx all (k+j)=l at g U;refine EW.seq (zr (zc 1 g (zc 0 U (EO.nil (zG (EW.exit ?_))))));exact⟨rfl,rfl,aN kq⟩
 rintro e d o ⟨rfl,rfl,x,rfl⟩;generalize (decide (k<k+m)&&(dx all (k+m-1)==47))=B;refine zs ?_;exact yR
def gH (all:Iq)(k:Nat):Bq × Nat:=if dx all k=34 then (dQ all (k+1) (g9 all [34] (k+1)),g9 all [34] (k+1)+1) else if dx all k=39 then (dQ all (k+1) (g9 all [39] (k+1)),g9 all [39] (k+1)+1) else (dQ all k (g9 all (ce++[62]) k),g9 all (ce++[62]) k)
def K9(b:xo rn all pr)(e:k≤150000)(U:dx all k=34):Ef pr 366 #[am c 0] (sp s c rn p q r k) (str (gH all k).1) (sp s c rn p q r (gH all k).2):=by have d:=gK (s:=s) (c:=c) (p:=p) (q:=q) (r:=r) b (k:=k) oq;unfold gH;rw[ip U];rw[U] at d;have a:=L1 (s:=s) (c:=c) (p:=p) (q:=q) (r:=r) b (b0:=34) dq (k:=k+1) oq;generalize dQ all (k+1) (g9 all [34] (k+1))=g at a ⊢;generalize g9 all [34] (k+1)+1=f at a ⊢;refine EF.of (b.no 366 dq) func366 rfl ?_;refine zs (EW.seq (zr (zc 1 d (zf (za (sp s c rn p q r k) (zs (EW.block (zs (za (sp s c rn p q r k) (zH (zr (zg 3 (sp s c rn p q r k) (zp (yl c 1 (num (k:Nat)) er) (zp (yp (k:Nat) 1 ((k+1:Nat):Int) oq oq) (zg 2 (sp s c rn p q r k) (zp (ys c 1 (num ((k+1:Nat):Int)) er iq) (EO.nil (EW.cV (sp s c rn p q r (k+1)) od (zr (zc 3 a (zf ?_)))))))))))))))))))));exact EW.ret ⟨.inr rfl,kq,kq⟩
end
def dY (c:UInt8)(new l:Bq):Bq:=l.flatMap fun b=>if b=c then new else [b]
def tp(c:UInt8)(new a b:Bq):dY c new (a++b)=dY c new a++dY c new b:=by simp[dY]
def w7{new:Bq}(h:c∉l):dY c new l=l:=by
 induction l with
 | nil=>rfl
 | cons b l d =>
  have U:b≠c:=fun e=>h (by simp[e])
  have:=d fun a=>h (by simp[a]);simp only[dY,List.flatMap_cons,iw U] at this ⊢;rw[this];rfl
def HI(c:UInt8)(new:Bq):dY c new [c]=new:=by simp[dY]
def pz(c:UInt8){new:Bq}(d:1≤new.length)(l:Bq):(dY c new l).length=l.length+l.count c*(new.length-1):=by
 induction l with
 | nil=>simp[dY]
 | cons b l U =>
  have e:dY c new (b::l)=(if b=c then new else [b])++dY c new l:=rfl;rw[e,lA,U,List.count_cons];by_cases a:b=c
  ·subst a;simp only[if_true,beq_self_eq_true,lC,Nat.add_mul,Nat.one_mul];omega
  ·simp only[iw a,lC,List.length_nil,beq_iff_eq,Nat.add_zero];omega
def MD{N:Nat}{s s':AS}(h:s'=s):kD N s s':=h▸⟨lr,fun _ _=>rfl⟩
section
variable {n:Nat}{s:AS}
def Gk(l:Bq)(c:UInt8):Ef (iE prog n) 343 #[str l,str [c]] s (num (l.count c:Nat)) s:=by
 have U:v9 c.toNat l 0=l.count c:=by rw[wa];unfold countByte;rfl
 exact EF.eval 5 ((show bG prog lF (iE prog n) 5 343 #[str l,str [c]] s=some (num (v9 c.toNat l 0:Nat),s) by kernel_rfl).trans (by rw[U]))
def GN{a b:Bq}(h:c∉a):Ef (iE prog n) 270 #[str (a++c::b),str [c]] s (num (a.length:Nat)) s:=by have U:=D9 (n:=n) (s:=s) (b:=b) h;generalize a++c::b=x at U ⊢;refine EF.of kq func270 rfl ?_;refine zs (zr (zc 2 U (zf ?_)));exact yR
def LX(l:Bq)(c:UInt8)(new:Bq)(m b st i:Nat)(x:Nq):TL:=[str l,str [c],str new,num (m:Nat),x 4,x 5,x 6,x 7,str [],x 9,am b 0,num (st:Nat)]++iy x 12 40++[num (m:Nat),num (i:Nat)]++iy x 54 50
def Il(l:Bq)(c:UInt8)(new:Bq)(m b st:Nat)(x:Nq):TL:=[str l,str [c],str new,num (m:Nat),x 4,x 5,x 6,x 7,str [],x 9,am b 0,num (st:Nat)]++iy x 12 92
def EG{new:Bq}(hl:l.length≤10000)(L:1≤new.length)(hn:new.length≤10)(a9:aY [c] new=false):∃g,Ef (iE prog n) 374 #[str l,str [c],str new,num (-1)] s (str (dY c new l)) g∧kD s.nx s g:=by
 have H:=Gk (n:=n) (s:=s) l c;have MM:l.count c≤l.length:=List.count_le_length;have C:=pz c L l;have Y:l.count c*(new.length-1)≤10000*9:=Nat.mul_le_mul oq oq;refine EF.gq kq func374 rfl ?_;refine zs (EW.seq (zr (zk 2 (zp (yb (str [c]) (str new) (gO a9)) (zf (zF (za s ?_)))))));by_cases A:l.count c=0
 ·rw[A] at H;have af:c∉l:=List.count_eq_zero.1 A;rw[w7 af];refine EW.seq (zr (zc 2 H (zf (zs (zH (EW.xt 5 .ret kq ?_))))));exact⟨.inr rfl,kq,MD kq⟩
 ·have a6:c∈l:=List.count_pos_iff.1 oq;generalize hM:l.count c=m at *;refine EW.seq (zr (zc 2 H (zf (zr (zk 1 (zp (yb (num (m:Nat)) (num 0) (gP (b:=false) (bF.2 oq))) (EO.nil (zG (zs (zH (EW.go 9 kq (zs ?_))))))))))));have D:kD s.nx s (s.add (.cells #[.pointer none,.slice none 0 0] 119)):=kD.add lr;have⟨s2,q,O,y⟩:=MF (n:=n) (N:=s.nx) (b:=s.nx) (K:=l.length+m*(new.length-1)-1) (p:=.pointer none) (s:=s.add (.cells #[.pointer none,.slice none 0 0] 119)) lr iq (by rw[AS.aG,ip rfl]) (.inl rfl) oq;have Z:0<l.length:=List.length_pos_of_mem a6;rw[show l.length+m*(new.length-1)-1+1=l.length+m*(new.length-1) by omega] at q;refine za (s.add (.cells #[.pointer none,.slice none 0 0] 119)) ?_;generalize s.add (.cells #[.pointer none,.slice none 0 0] 119)=s1 at q D y;refine zr (zk 1 (zp (da (l:=l) rfl underlying9 kq) (zk 2 (zp (da (l:=new) rfl underlying9 kq) (zk 2 (zp (fQ (i:=(new.length:Nat)) (j:=1) (r:=((new.length-1:Nat):Int)) rfl kq kq oq oq) (zo s1 (EO.op (v:=num ((m*(new.length-1):Nat):Int)) (s1:=s1) kq ((show _=some (num (IntKind.i64.wrap (((m:Nat):Int)*((new.length-1:Nat):Int))),s1) by kernel_rfl).trans (by rw[← Int.natCast_mul,L4 oq])) (zp (yp (l.length:Nat) ((m*(new.length-1):Nat):Int) ((l.length+m*(new.length-1):Nat):Int) oq oq) (zc 0 q (EO.nil (za s2 (zs (EW.seq (EW.mono (Q:=fun e h g=>e=.normal∧∃d f,l=d++f∧c∉f∧BW g s.nx s.nx (dY c new d)∧kD s.nx s g∧∃x,h=Il l c new m s.nx d.length x) ?_ ?_)))))))))))))))
  ·refine zs (zH (zs (za s2 ?_)));refine EW.fill (LX l c new m s.nx 0 0) kq ?_;intro x0;refine EW.block ?_;refine EW.mono (EW.dS (Q:=fun e h g=>e=.exit 0∧∃d f,l=d++f∧c∉f∧BW g s.nx s.nx (dY c new d)∧kD s.nx s g∧∃x,h=Il l c new m s.nx d.length x) (fun k h g=>∃d f i,l=d++f∧i+k=m∧f.count c=k∧BW g s.nx s.nx (dY c new d)∧kD s.nx s g∧∃x,h=LX l c new m s.nx d.length i x) ?_ m _ _ ⟨[],l,0,rfl,oq,hM,O,D.trans y,x0,rfl⟩) ?_
   ·rintro k h g ⟨d,f,i,U,ai,a8,F,G,x,rfl⟩;by_cases hk:0<k
    ·have ab:c∈f:=List.count_pos_iff.1 oq;obtain⟨a,r,rfl,t⟩:=List.eq_append_cons_of_mem ab;have R:=GN (n:=n) (s:=g) (b:=r) t;have z:l.length=d.length+(a.length+(r.length+1)):=by rw[U];simp
     have ah:=pz c L d;have P:d.count c≤d.length:=List.count_le_length;have S:d.count c*(new.length-1)≤10000*9:=Nat.mul_le_mul oq oq;have o:((l.take l.length).drop ((d.length:Nat):Int).toNat)=a++c::r:=by rw[List.take_length,Int.toNat_natCast,U,List.drop_left]
     have aa:((l.take ((d.length+a.length:Nat):Int).toNat).drop ((d.length:Nat):Int).toNat)=a:=by rw[Int.toNat_natCast,Int.toNat_natCast,U,← List.append_assoc,show d.length+a.length=(d++a).length by simp,List.take_left,List.drop_left]
     have⟨V,M,E,I⟩:=pP (pr:=iE prog n) (m:=a) kq kq F oq;have⟨W,T,w,J⟩:=pP (pr:=iE prog n) (m:=new) kq kq E (by rw[lA];omega);have B:dY c new d++a++new=dY c new (d++a++[c]):=by rw[tp,tp,w7 t,HI]
     rw[B] at w;refine zr (zp (yb (num (i:Nat)) (num (m:Nat)) (aX (b:=true) (tD oq))) (EO.nil (EW.seq (zT (EW.seq (EW.block (za g (zr (zk 3 (zp (jU (l:=l) (i:=((d.length:Nat):Int).toNat) (j:=l.length) rfl underlying9 kq ((show _=bH l.length l.length (some (num (d.length:Nat))) none by kernel_rfl).trans (lR oq oq)) o) (zc 1 R (zp (yp (d.length:Nat) (a.length:Nat) ((d.length+a.length:Nat):Int) oq oq) (zf (za g (zr (zk 3 (zp (jU (l:=l) (i:=((d.length:Nat):Int).toNat) (j:=((d.length+a.length:Nat):Int).toNat) rfl underlying9 kq ((show _=bH l.length l.length (some (num (d.length:Nat))) (some (num ((d.length+a.length:Nat):Int))) by kernel_rfl).trans (sb oq oq oq)) aa) (zc 0 M (EO.nil (za V (zr (zc 1 T (EO.nil (za W (zx (zk 3 (zp (yp ((d.length+a.length:Nat):Int) 1 (((d++a++[c]).length:Nat):Int) (by simp;omega) (by simp;omega)) (zf (za W (zx (zp (yp (i:Nat) 1 ((i+1:Nat):Int) oq oq) (zf ?_))))))))))))))))))))))))))))))));refine⟨k-1,oq,d++a++[c],r,i+1,by rw[U];simp,oq,?_,w,(G.trans I).trans J,aN kq⟩;rw[List.count_append,List.count_cons_self,List.count_eq_zero.2 t] at a8;omega
    ·refine zr (zp (yb (num (i:Nat)) (num (m:Nat)) (aX (b:=false) (fD oq))) (EO.nil (EW.seq (zG (EW.exit ?_)))));exact⟨rfl,d,f,U,List.count_eq_zero.1 oq,F,G,aN kq⟩
   ·rintro e h g ⟨rfl,d,f,h1,h2,h3,h4,x,rfl⟩;exact⟨rfl,d,f,h1,h2,h3,h4,x,rfl⟩
  rintro e h g ⟨rfl,d,f,U,ag,F,G,x,rfl⟩;have z:l.length=d.length+f.length:=by rw[U];simp
  have ah:=pz c L d;have P:d.count c≤d.length:=List.count_le_length;have S:d.count c*(new.length-1)≤10000*9:=Nat.mul_le_mul oq oq;have o:((l.take l.length).drop ((d.length:Nat):Int).toNat)=f:=by rw[List.take_length,Int.toNat_natCast,U,List.drop_left]
  have⟨V,M,E,I⟩:=pP (pr:=iE prog n) (m:=f) kq kq F oq;have u:dY c new d++f=dY c new l:=by rw[U,tp,w7 ag]
  rw[u] at E;have ae:dY c new l≠[]:=fun e=>by rw[e] at C;simp at C;omega
  have⟨W,X,J⟩:=tJ (pr:=iE prog n) kq E ae oq;generalize dY c new l=out at X ⊢;refine zr (zk 2 (zp (jU (l:=l) (i:=((d.length:Nat):Int).toNat) (j:=l.length) rfl underlying9 kq ((show _=bH l.length l.length (some (num (d.length:Nat))) none by kernel_rfl).trans (lR oq oq)) o) (zc 0 M (EO.nil (za V (zr (zc 0 X (zf ?_))))))));exact EW.ret ⟨.inr rfl,kq,(G.trans I).trans J⟩
end
abbrev lP:Bq:=[38,97,109,112,59]
abbrev M8:Bq:=[38,108,116,59]
abbrev Q2:Bq:=[38,103,116,59]
abbrev CJ:Bq:=[38,113,117,111,116,59]
def fE (v:Bq):Bq:=dY 34 CJ (dY 38 lP v)
def gQ (w:Bq):Bq:=dY 62 Q2 (dY 60 M8 (dY 38 lP w))
def jJ(c:UInt8){new:Bq}(h1:1≤new.length)(h2:new.length≤k)(l:Bq):(dY c new l).length≤l.length*k:=by have h:=pz c h1 l;have b:l.count c≤l.length:=List.count_le_length;have h3:l.count c*(new.length-1)≤l.length*(k-1):=Nat.mul_le_mul b oq;obtain⟨a,rfl⟩:∃a,k=a+1:=⟨k-1,oq⟩;rw[h,Nat.mul_succ];simp only[Nat.add_sub_cancel] at h3;omega
section
variable {n:Nat}{s:AS}
def kr{new:Bq}(e:l.length≤10000)(b:1≤new.length)(f:new.length≤10)(U:aY [c] new=false):∃a,Ef (iE prog n) 338 #[str l,str [c],str new] s (str (dY c new l)) a∧kD s.nx s a:=by have⟨h,h1,d⟩:=EG (n:=n) (s:=s) e b f U;generalize dY c new l=g at h1 ⊢;refine EF.gq kq func338 rfl ?_;refine zs (zr (zc 3 h1 (zf ?_)));exact EW.ret ⟨.inr rfl,kq,d⟩
def D6{v:Bq}(U:v.length≤100):∃b,Ef (iE prog n) 266 #[str v] s (str (fE v)) b∧kD s.nx s b:=by have f:=jJ 38 (new:=lP) (k:=5) dq dq v;have⟨d,h1,a⟩:=kr (n:=n) (s:=s) (l:=v) (c:=38) (new:=lP) oq dq dq rfl;have⟨g,h2,e⟩:=kr (n:=n) (s:=d) (l:=dY 38 lP v) (c:=34) (new:=CJ) oq dq dq rfl;unfold fE;generalize dY 38 lP v=x at h1 h2 ⊢;generalize dY 34 CJ x=y at h2 ⊢;refine EF.gq kq func266 rfl ?_;refine zs (zr (zc 1 h1 (zf (za d (zr (zc 1 h2 (zf ?_)))))));exact EW.ret ⟨.inr rfl,kq,a.trans (e.low a.1)⟩
def D7{w:Bq}(U:w.length≤100):∃d,Ef (iE prog n) 267 #[str w] s (str (gQ w)) d∧kD s.nx s d:=by have h:=jJ 38 (new:=lP) (k:=5) dq dq w;have i:=jJ 60 (new:=M8) (k:=4) dq dq (dY 38 lP w);have⟨e,h1,a⟩:=kr (n:=n) (s:=s) (l:=w) (c:=38) (new:=lP) oq dq dq rfl;have⟨f,h2,b⟩:=kr (n:=n) (s:=e) (l:=dY 38 lP w) (c:=60) (new:=M8) oq dq dq rfl;have⟨j,h3,g⟩:=kr (n:=n) (s:=f) (l:=dY 60 M8 (dY 38 lP w)) (c:=62) (new:=Q2) oq dq dq rfl;unfold gQ;generalize dY 38 lP w=x at h1 h2 h3 ⊢;generalize dY 60 M8 x=y at h2 h3 ⊢;generalize dY 62 Q2 y=z at h3 ⊢;refine EF.gq kq func267 rfl ?_;refine zs (zr (zc 1 h1 (zf (za e (zr (zc 1 h2 (zf (za f (zr (zc 1 h3 (zf ?_)))))))))));exact EW.ret ⟨.inr rfl,kq,(a.trans (b.low a.1)).trans (g.low (lT a.1 b.1))⟩
end
section
variable {P:Program}{kt:TypeId→Bool}{pr:Prim}{c:ft}{a:TL}{s s':AS}{o:Oper}{v:Value}
def Gi(f:x=am b off)(c:P.underlying t=some (.pointer e))(d:P.underlying u=some .unsafePointer)(a:s.get b=some (.cells cs ty fz))(g:bQ P e=some (k+1))(U:off<cs.size):fv P t u x s=some (am b off):=by subst f;unfold fv;rw[c,d];simp only[am];rw[a,g];simp only;rw[ip U]
def Gj(f:x=am b off)(c:P.underlying t=some .unsafePointer)(d:P.underlying u=some (.pointer e))(a:s.get b=some (.cells cs ty (0,0)))(g:bQ P e=some (k+1))(U:liesAt P P.depth ty (cs.size / P.cellsOf ty) off e 1=true):fv P t u x s=some (am b off):=by subst f;unfold fv;rw[c,d];simp only[am];rw[a,g];simp only;rw[ip U]
def yX{x y:Operand}{z}(U:o.op=.binOp .neq t x y z)(f:a.at x=am b off)(g:a.at y=am b off)(d:P.underlying t=some (.pointer e))(h:bQ P e=some (k+1)):bM P kt c a o s=some (.bool false,s):=by
 refine ec (by rw[U];rfl) (by rw[U];trivial) ?_;unfold cb;rw[U];simp only;rw[f,g];have h1:dj .neq (am b off) (am b off)=none:=rfl;have h2:lS P .neq t (am b off) (am b off)=some (.bool false):=by unfold lS;simp only[am,d];rw[h];simp
 rw[h1,h2]
end
def Ej (o:Option Obj):Prop:=∀cs fz,o≠some (.cells cs 5 fz)
def hY (b:Nat)(s s':AS):Prop:=s.nx≤s'.nx∧∀k,k<s.nx→k≠b→Ej (s.get k)→s'.get k=s.get k
def hY.refl(b:Nat)(s:AS):hY b s s:=⟨lr,fun _ _ _ _=>rfl⟩
def hY.trans{s s1 d:AS}(h:hY b s s1)(U:hY b s1 d):hY b s d:=⟨lT h.1 U.1,fun k f c a=>by have e:=h.2 k f c a;rw[U.2 k (by have:=h.1;omega) c (by rw[e];exact a),e]⟩
def BE (s:AS)(b:Nat)(nd:Value)(l:Bq):Prop:=b<s.nx∧∃p sl,s.get b=some (.cells #[nd,p,sl] 135)∧(p=.pointer none∨p=am b 1)∧((sl=.slice none 0 0∧l=[])∨∃d fz,sl=.slice (some ⟨d,0,none⟩) l.length l.length∧d<s.nx∧s.get d=some (.cells (lI l) 5 fz))
section
variable {pr:Prim}{s:AS}
def Jt{p:Value}(d:pr 261=none)(U:s.get b=some (.cells #[nd,p,sl] 135))(e:p=.pointer none∨p=am b 1):∃a,Ef pr 261 #[am b 1] s (.tuple #[]) a∧a.nx=s.nx∧a.get b=some (.cells #[nd,am b 1,sl] 135)∧∀k,k≠b→a.get k=s.get k:=by
 refine EF.gq d func261 rfl ?_;refine zr (zk 3 (zo s (zp (yl b 1 p U) ?_)));rcases e with rfl|rfl
 ·refine zf (zH (zx (zk 2 (zo s (zp (qy rfl kq (Gi (off:=1) (b:=b) (k:=1) kq underlying117 underlying244 U kq iq)) (EO.q kq kq (zo s (zp (qy rfl kq (Gj (off:=1) (b:=b) (k:=1) kq underlying244 underlying117 U kq kq)) (zk 2 (zo s (zp (ys b 1 (am b 1) U iq) (EO.nil ⟨.inl rfl,kq,?_⟩))))))))))));refine⟨rfl,?_,fun k c=>?_⟩
  ·rw[AS.aH,ip rfl];rfl
  ·rw[AS.aH,iw c]
 ·refine zf (zG (zr (zk 3 (zo s (zp (yl b 1 (am b 1) U) (zk 1 (zo s (zp (yX (off:=1) (b:=b) (k:=1) rfl kq kq underlying117 kq) (EO.nil (zF ?_))))))))));exact⟨.inl rfl,kq,rfl,U,fun k c=>rfl⟩
def IV{m:Bq}(C:pr 261=none)(B:pr 156=none)(h:BE s b nd l)(W:l.length+m.length≤1000000):∃y,Ef pr 156 #[am b 1,str m] s (.tuple #[num m.length,.nilIface]) y∧BE y b nd (l++m)∧hY b s y:=by
 have⟨V,p,sl,A,M,z⟩:=h;have⟨c,L,T,j,t⟩:=Jt C A M;refine EF.gq B func156 rfl ?_;refine zs (zr (zc 1 L (EO.nil (zr (zg 4 c (zp (yl b 2 sl j) (zg 1 c ?_)))))));have f:∀(v:Value) (g:AS),v.cells=#[v]→v.oneCell'=true→bn prog 5 sl (strCells ⟨m.toArray⟩) m.length c=some (v,g)→g.get b=some (.cells #[nd,am b 1,sl] 135)→c.nx≤g.nx→(∀k,k<s.nx→k≠b→Ej (s.get k)→g.get k=c.get k)→((v=.slice none 0 0∧l++m=[])∨∃d a,v=.slice (sq d) (l++m).length (l++m).length∧d<g.nx∧d≠b∧g.get d=some (.cells (lI (l++m)) 5 a))→fI sl=true→∃w U,bn prog 5 sl (strCells ⟨m.toArray⟩) m.length c=some (w,U)∧w.cells=#[w]∧w.oneCell'=true∧fI sl=true∧U.get b=some (.cells #[nd,am b 1,sl] 135)∧BE (U.set b (some (.cells #[nd,am b 1,w] 135))) b nd (l++m)∧hY b s (U.set b (some (.cells #[nd,am b 1,w] 135))):=by
  intro v g N O P Q X R u S;refine⟨v,g,P,N,O,S,Q,⟨by simp;omega,am b 1,v,by rw[AS.aH,ip rfl],.inr rfl,?_⟩,by simp;omega,fun k n i o=>?_⟩
  ·rcases u with u|⟨d,a,q1,q3,q4,q5⟩
   ·exact .inl u
   ·exact .inr ⟨d,a,q1,by simpa using q3,by rw[AS.aH,iw q4];exact q5⟩
  ·rw[AS.aH,iw i,R k n i o,t k i]
 have E:∃w U,bn prog 5 sl (strCells ⟨m.toArray⟩) m.length c=some (w,U)∧w.cells=#[w]∧w.oneCell'=true∧fI sl=true∧U.get b=some (.cells #[nd,am b 1,sl] 135)∧BE (U.set b (some (.cells #[nd,am b 1,w] 135))) b nd (l++m)∧hY b s (U.set b (some (.cells #[nd,am b 1,w] 135))):=by
  have r:∀d a,s.get d=some (.cells (lI l) 5 a)→d≠b:=fun d a q e=>by
   rw[e,A] at q;injection q with q
   injection q with _ q2
   exact absurd q2 dq
  cases m with
  | nil =>
   rcases z with ⟨rfl,rfl⟩|⟨d,a,rfl,q3,q5⟩
   ·exact f _ c rfl rfl (qM (.inl rfl)) j lr (fun k n _ _=>rfl) (.inl ⟨rfl,rfl⟩) rfl
   ·exact f _ c rfl rfl (qM (.inr ⟨d,_,_,rfl⟩)) j lr (fun k n _ _=>rfl) (.inr ⟨d,a,by rw[List.append_nil],oq,r d a q5,by rw[t d (r d a q5),List.append_nil];exact q5⟩) rfl
  | cons x m =>
   rcases z with ⟨rfl,rfl⟩|⟨d,a,rfl,q3,q5⟩
   ·exact f _ _ rfl rfl (gk iq) (by rw[AS.aG,iw oq];exact j) iq (fun k n _ _=>by rw[AS.aG,iw oq]) (.inr ⟨c.nx,(1,1),rfl,iq,oq,by rw[AS.aG,ip rfl];rfl⟩) rfl
   ·have D:(lI l).size=l.length:=by simp[strCells]
    have q4:=r d a q5;refine f _ _ rfl rfl (fM (sz:=1) iq (by rw[t d q4];exact q5) kq (by rw[D];omega) oq) (by rw[AS.aG,iw (by simp;omega),AS.aH,iw (Ne.symm q4)];exact j) iq (fun k n _ o=>by rw[AS.aG,iw (by simp;omega),AS.aH,iw (fun e=>by rw[e] at o;exact o _ _ q5)]) (.inr ⟨c.nx,(1,1),by rw[lA],iq,oq,?_⟩) rfl;rw[AS.aG,ip iq];have:List.take (l.length*1) (lI l).toList=strCells ⟨l.toArray⟩:=by rw[Nat.mul_one];exact tL (by simp[strCells])
    rw[this,iY]
 have⟨w,U,e1,F,G,H,I,J,K⟩:=E;refine zp (rQ (sl:=sl) (m:=m) rfl kq kq underlying55 underlying9 kq kq oq H e1) (zg 2 U (zp (gC (b:=b) (off:=2) (w:=w) rfl kq kq F G kq I iq) (EO.nil (zr (zk 1 (zp (da (l:=m) rfl underlying9 kq) (zf ?_)))))));exact EW.ret ⟨.inr rfl,kq,J,K⟩
def LV(b t k c i:Nat)(x:Nq):TL:=[am b 0,.slice (some ⟨t,0,none⟩) k c,x 2,x 3,x 4,x 5,.slice (some ⟨t,0,none⟩) k c,num (k:Nat),num (i:Nat)]++iy x 9 9
def mC{t c:Nat}{lJ:List (Bq)}(a4:pr 261=none)(a2:pr 156=none)(a3:pr 170=none)(h:BE s b nd l)(ht:s.get t=some (.cells (lJ.map str).toArray 9 fz))(a8:t<s.nx)(hk:lJ.length≤100000)(hl:l.length+(lJ.flatten).length≤1000000):∃s',Ef pr 170 #[am b 0,.slice (sq t) lJ.length c] s (.tuple #[]) s'∧BE s' b nd (l++lJ.flatten)∧hY b s s':=by
 have a5:t≠b:=fun e=>by
  have⟨_,p,sl,hs,_⟩:=h;rw[e,hs] at ht;injection ht with q
  injection q with _ q2
  exact absurd q2 dq
 have h5:Ej (s.get t):=fun cs fz e=>by
  rw[ht] at e;injection e with q
  injection q with _ q2
  exact absurd q2 dq
 refine EF.gq a3 func170 rfl ?_;refine zs (za s ?_);generalize hK:lJ.length=K;refine EW.fill (LV b t K c 0) kq ?_;intro x0;refine EW.block ?_;refine EW.mono (EW.dS (Q:=fun e a' s'=>e=.exit 0∧BE s' b nd (l++lJ.flatten)∧hY b s s') (fun m a' s'=>∃i,i+m=K∧BE s' b nd (l++(lJ.take i).flatten)∧hY b s s'∧∃x,a'=LV b t K c i x) ?_ K _ _ ⟨0,oq,by simpa using h,hY.refl b s,x0,rfl⟩) ?_
 ·rintro m a' s' ⟨i,a9,hb,hf,x,rfl⟩;by_cases hm:0<m
  ·have a6:i<lJ.length:=oq
   have a1:lJ[i]?=some lJ[i]:=gE a6;have a0:(lJ.take (i+1)).flatten=(lJ.take i).flatten++lJ[i]:=by rw[List.take_add_one,a1,Option.toList_some,List.flatten_append];simp only[List.flatten_cons,List.flatten_nil,List.append_nil]
   have U:((lJ.take (i+1)).flatten).length≤(lJ.flatten).length:=by have:=congrArg (fun z=>(List.flatten z).length) (List.take_append_drop (i+1) lJ);simp only[List.flatten_append,lA] at this;omega
   rw[a0,lA] at U;generalize lJ[i]=tx at a1 a0 U;have a7:=(hf.2 t a8 a5 h5).trans ht;have⟨s2,hw,wE,zW⟩:=IV (pr:=pr) (m:=tx) a4 a2 hb (by rw[lA];omega);rw[List.append_assoc,← a0] at wE;refine zr (zp (yb (num (i:Nat)) (num (K:Nat)) (aX (b:=true) (tD oq))) (EO.nil (EW.seq (zT (EW.seq (EW.block (za s' (zr (zp (yi t 0 K c i none .i64 (i:Nat) 1 oq oq oq) (zo s' (zp (bP (b:=t) (off:=i) (v:=str tx) rfl underlying9 rfl kq a7 (by simp[a1])) (zf (za s' (zx (zc 4 hw (EO.nil (za s2 (zx (zp (yp (i:Nat) 1 ((i+1:Nat):Int) oq oq) (zf ?_))))))))))))))))))));exact⟨m-1,oq,i+1,oq,wE,hf.trans zW,aN kq⟩
  ·refine zr (zp (yb (num (i:Nat)) (num (K:Nat)) (aX (b:=false) (fD oq))) (EO.nil (EW.seq (zG (EW.exit ?_)))));rw[tL oq] at hb;exact⟨rfl,hb,hf⟩
 ·rintro e a' s' ⟨rfl,hb,hf⟩;exact⟨.inl rfl,kq,hb,hf⟩
end
structure eV where
 kind:Int
 text:Bq
 name:Bq
 at_:Value
 closed:Bool
abbrev ff(t:eV):Vq:=[num t.kind,str t.text,str t.name,t.at_,.bool t.closed]
def nC(ts:List eV):Aq:=(ts.flatMap ff).toArray
def qI(ts:List eV):(nC ts).size=ts.length*5:=by
 unfold nC;induction ts with
 | nil=>rfl
 | cons t ts U=>simp at U ⊢;omega
def EV(ts:List eV)(t:eV):((nC ts).toList.take (ts.length*5)++ff t).toArray=nC (ts++[t]):=by rw[tL (by rw[Array.length_toList,qI];exact lr)];unfold nC;simp
def BG (s:AS)(q:Value)(tx:Bq):Prop:=(q=aD∧tx=[])∨∃d fz,q=.slice (some ⟨d,0,none⟩) tx.length tx.length∧Has s d (.cells (lI tx) 5 fz)
def qL (s:AS)(r:Value)(ts:List eV):Prop:=(r=aD∧ts=[])∨∃d fz,r=.slice (some ⟨d,0,none⟩) ts.length ts.length∧Has s d (.cells (nC ts) 60 fz)
def SC (rn c:Nat)(s:AS)(k:Nat)(tx:Bq)(ts:List eV):Prop:=∃p q r,Has s c (fK rn k p q r)∧(p=.pointer none∨p=am c 2)∧BG s q tx∧qL s r ts
def blk (v:Value)(b:Nat):Prop:=∃off sp n m,v=.slice (some ⟨b,off,sp⟩) n m
def KS (c:Nat)(s:AS)(b:Nat):Prop:=b=c∨∃rn k p q r,s.get c=some (fK rn k p q r)∧(blk q b∨blk r b)
def gn (c:Nat)(s s':AS):Prop:=aP (KS c s) s s'∧∀b,b<s.nx→KS c s' b→KS c s b
section
variable {rn c k k':Nat}{s s' s1 s2:AS}{p q r p' q' r':Value}{tx:Bq}{ts:List eV}
def gn.refl(s:AS):gn c s s:=⟨aP.refl s,fun _ _ h=>h⟩
def gn.trans(h:gn c s s1)(U:gn c s1 s2):gn c s s2:=by have d:=h.1.1;exact⟨h.1.trans U.1 fun b a z=>h.2 b a z,fun b a z=>h.2 b a (U.2 b oq z)⟩
def KS.at(h:s.get c=some (fK rn k p q r)):KS c s b↔b=c∨blk q b∨blk r b:=by
 constructor
 ·rintro(z|⟨_,_,_,_,_,z,w⟩)
  ·exact .inl z
  ·rw[h] at z;cases z;exact .inr w
 ·rintro(z|z)
  ·exact .inl z
  ·exact .inr ⟨_,_,_,_,_,h,z⟩
def gn.mk'(h1:Has s c (fK rn k p q r))(h2:Has s' c (fK rn k' p' q' r'))(d:aP (KS c s) s s')(U:q'=q∨∀b,blk q' b→s.nx≤b)(a:r'=r∨∀b,blk r' b→s.nx≤b):gn c s s':=by
 refine⟨d,fun b e z=>(KS.at h1.2).2 ?_⟩;rcases(KS.at h2.2).1 z with z|z|z
 ·exact .inl z
 ·rcases U with rfl|U
  ·exact .inr (.inl z)
  ·have:=U b z;omega
 ·rcases a with rfl|a
  ·exact .inr (.inr z)
  ·have:=a b z;omega
def cz(h:blk aD b):False:=by have⟨_,_,_,_,h⟩:=h;cases h
def cY(h:blk (.slice (sq d) n m) b):b=d:=by have⟨_,_,_,_,h⟩:=h;cases h;rfl
def eR(d n m:Nat):blk (.slice (sq d) n m) d:=⟨0,none,n,m,rfl⟩
def BG.blk(h:BG s q tx)(U:YtgcaionclkbehaaGreatDoor.blk q b):∃c a,Has s b (.cells c 5 a):=by
 rcases h with ⟨rfl,_⟩|⟨d,a,rfl,h⟩
 ·exact(cz U).elim
 ·rw[cY U];exact⟨_,_,h⟩
def qL.blk(h:qL s r ts)(U:YtgcaionclkbehaaGreatDoor.blk r b):∃c a,Has s b (.cells c 60 a):=by
 rcases h with ⟨rfl,_⟩|⟨d,a,rfl,h⟩
 ·exact(cz U).elim
 ·rw[cY U];exact⟨_,_,h⟩
def SC.no(h:SC rn c s k tx ts)(U:Has s b (.cells cs t fz))(h1:t≠121)(a:t≠5)(d:t≠60):¬KS c s b:=by
 have⟨p,q,r,q1,q2,q3,q4⟩:=h;intro z;rcases(KS.at q1.2).1 z with z|z|z
 ·exact U.ne q1 h1 z
 ·have⟨_,_,z⟩:=q3.blk z;exact U.ne z a rfl
 ·have⟨_,_,z⟩:=q4.blk z;exact U.ne z d rfl
def BG.add(h:BG s q tx)(x:Obj):BG (s.add x) q tx:=h.imp id fun ⟨d,a,h1,h3⟩=>⟨d,a,h1,h3.add x⟩
def qL.add(h:qL s r ts)(x:Obj):qL (s.add x) r ts:=h.imp id fun ⟨d,a,h1,h3⟩=>⟨d,a,h1,h3.add x⟩
def SC.add(h:SC rn c s k tx ts)(x:Obj):SC rn c (s.add x) k tx ts:=by have⟨p,q,r,h1,h2,h3,U⟩:=h;exact⟨p,q,r,h1.add x,h2,h3.add x,U.add x⟩
def gn.add(h:SC rn c s k tx ts)(x:Obj):gn c s (s.add x):=by have⟨p,q,r,h1,_⟩:=h;exact gn.mk' h1 (h1.add x) ((aP.refl s).add x) (.inl rfl) (.inl rfl)
def BG.set(h:BG s q tx)(U:Has s b (.cells cs t fz))(a:t≠5)(x:Option Obj):BG (s.set b x) q tx:=h.imp id fun ⟨d,f,h1,h3⟩=>⟨d,f,h1,h3.set (h3.ne U (Ne.symm a)) x⟩
def qL.set(h:qL s r ts)(U:Has s b (.cells cs t fz))(a:t≠60)(x:Option Obj):qL (s.set b x) r ts:=h.imp id fun ⟨d,f,h1,h3⟩=>⟨d,f,h1,h3.set (h3.ne U (Ne.symm a)) x⟩
def SC.sp(h1:Has s c (fK rn k p q r))(h2:p=.pointer none∨p=am c 2)(h3:BG s q tx)(U:qL s r ts):SC rn c (sp s c rn p q r k') k' tx ts :=
 ⟨p,q,r,h1.put _,h2,h3.set h1 dq _,U.set h1 dq _⟩
def gn.sp(h1:Has s c (fK rn k p q r)):gn c s (sp s c rn p q r k'):=gn.mk' h1 (h1.put _) (aP.set (aP.refl s) (fun _=>.inl rfl) _) (.inl rfl) (.inl rfl)
variable {pr:Prim}{x0 x1 x4:Value}
def Js(a:pr 261=none)(U:s.get c=some (.cells #[x0,x1,p,q,x4] 121))(d:p=.pointer none∨p=am c 2):Ef pr 261 #[am c 2] s (.tuple #[]) (s.set c (some (.cells #[x0,x1,am c 2,q,x4] 121))):=by
 refine EF.of a func261 rfl ?_;refine zr (zg 3 s (zp (yl c 2 p U) ?_));rcases d with rfl|rfl
 ·refine zf (zH (zx (zg 2 s (zp (qy rfl kq (Gi (off:=2) (b:=c) (k:=1) kq underlying117 underlying244 U kq iq)) (EO.q kq kq (zo s (zp (qy rfl kq (Gj (off:=2) (b:=c) (k:=1) kq underlying244 underlying117 U kq kq)) (zg 2 s (zp (ys c 2 (am c 2) U iq) ?_)))))))));exact EO.nil ⟨.inl rfl,kq,kq⟩
 ·refine zf (zG (zr (zg 3 s (zp (yl c 2 (am c 2) U) (zg 1 s (zp (yX (off:=2) (b:=c) (k:=1) rfl kq kq underlying117 kq) (EO.nil (zF ?_))))))));exact⟨.inl rfl,kq,(AS.zm U).symm⟩
def zR{m:Bq}(u:pr 261=none)(t:pr 156=none)(h:SC rn c s k tx ts)(K:tx.length+m.length≤1000000):∃v f,Ef pr 156 #[am c 2,str m] s v f∧SC rn c f k (tx++m) ts∧gn c s f:=by
 have⟨p,q,r,h1,h2,h3,I⟩:=h;have J:=Js u h1.2 h2;have e:Has (s.set c (some (fK rn k (am c 2) q r))) c (fK rn k (am c 2) q r):=h1.put _;have o:BG (s.set c (some (fK rn k (am c 2) q r))) q tx:=h3.set h1 dq _;have i:qL (s.set c (some (fK rn k (am c 2) q r))) r ts:=I.set h1 dq _;have A:gn c s (s.set c (some (fK rn k (am c 2) q r))):=gn.mk' h1 e (aP.set (aP.refl s) (fun _=>.inl rfl) _) (.inl rfl) (.inl rfl);generalize s.set c (some (fK rn k (am c 2) q r))=a at *;have n:∃w U,bn prog 5 q (strCells ⟨m.toArray⟩) m.length a=some (w,U)∧w.cells=#[w]∧w.oneCell'=true∧fI q=true∧Has U c (fK rn k (am c 2) q r)∧BG U w (tx++m)∧qL U r ts∧aP (KS c a) a U∧(w=q∨∀b,blk w b→a.nx≤b):=by
  cases m with
  | nil =>
   rcases o with ⟨rfl,rfl⟩|⟨d,fz,rfl,q3⟩
   ·exact⟨_,a,qM (.inl rfl),rfl,rfl,rfl,e,.inl ⟨rfl,rfl⟩,i,aP.refl a,.inl rfl⟩
   ·exact⟨_,a,qM (.inr ⟨d,_,_,rfl⟩),rfl,rfl,rfl,e,.inr ⟨d,fz,by rw[List.append_nil],by rw[List.append_nil];exact q3⟩,i,aP.refl a,.inl rfl⟩
  | cons x m =>
   rcases o with ⟨rfl,rfl⟩|⟨d,fz,rfl,q3⟩
   ·exact⟨_,_,gk iq,rfl,rfl,rfl,e.add _,.inr ⟨a.nx,(1,1),rfl,Has.new a _⟩,i.add _,(aP.refl a).add _,.inr fun b z=>Nat.le_of_eq (cY z).symm⟩
   ·have y:(lI tx).size=tx.length:=by simp[strCells]
    refine⟨_,_,fM (sz:=1) iq q3.2 kq (by rw[y];omega) oq,rfl,rfl,rfl,(e.set (e.ne q3 dq) none).add _,.inr ⟨a.nx,(1,1),by rw[lA],?_⟩,(i.set q3 dq none).add _,(aP.set (aP.refl a) (fun _=>(KS.at e.2).2 (.inr (.inl (eR _ _ _)))) none).add _,.inr fun b z=>Nat.le_of_eq (cY z).symm⟩;have:List.take (tx.length*1) (lI tx).toList=strCells ⟨tx.toArray⟩:=by rw[Nat.mul_one];exact tL (by simp[strCells])
    rw[this,iY];exact Has.new (a.set d none) _
 have⟨w,U,e1,B,C,D,g,E,F,G,H⟩:=n;have j:gn c a (U.set c (some (fK rn k (am c 2) w r))):=gn.mk' e (g.put _) (aP.set G (fun _=>.inl rfl) _) H (.inl rfl);suffices h:∃f,Ef pr 156 #[am c 2,str m] s (.tuple #[num m.length,.nilIface]) f∧SC rn c f k (tx++m) ts∧gn c s f by have⟨f,h⟩:=h;exact⟨_,f,h⟩
 refine EF.gq t func156 rfl ?_;refine zs (zr (zc 1 J (EO.nil (zr (zg 4 a (zp (yl c 3 q e.2) (zg 1 a (zp (rQ (sl:=q) (m:=m) rfl kq kq underlying55 underlying9 kq kq oq D e1) (zg 2 U (zp (gC (b:=c) (off:=3) (w:=w) rfl kq kq B C kq g.2 iq) (EO.nil (zr (zk 1 (zp (da (l:=m) rfl underlying9 kq) (zf ?_)))))))))))))));exact EW.ret ⟨.inr rfl,kq,⟨am c 2,w,r,g.put _,.inr rfl,E.set g dq _,F.set g dq _⟩,A.trans j⟩
def ER(b:pr 84=none)(a:s.get c=some (.cells #[x0,x1,p,.slice (sq d) l.length l.length,x4] 121))(g:s.get d=some (.cells (lI l) 5 fz))(f:l≠[])(i:l.length≤1000000):Ef pr 84 #[am c 2] s (str l) (s.set d none):=by
 obtain⟨y,l,rfl⟩:∃y h,l=y::h:=by
  cases l with
  | nil=>exact absurd rfl f
  | cons y l=>exact⟨y,l,rfl⟩
 refine EF.of b func84 rfl ?_;refine zs (EW.seq (EW.draw kq kq kq ?_));iterate 3 refine zq ?_
 refine zt s (zu (yl c 3 (.slice (sq d) (y::l).length (y::l).length) a) ?_);iterate 4 refine zq ?_
 refine zt s (zu (yl c 3 (.slice (sq d) (y::l).length (y::l).length) a) (zq (zt s (zu (wY (d:=d) (l:=y::l) (e:=5) (fz:=fz) rfl kq kq kq g kq iq oq) (zq ?_)))));have U:aC prog 55 (am c 3) s=some (.slice (sq d) (y::l).length (y::l).length):=by unfold aC;simp only[am,a,underlying55];rfl
 refine ET.nil ⟨aK [(aC prog 55 (am c 3) s,.slice (sq d) (y::l).length (y::l).length),(aC prog 55 (am c 3) s,.slice (sq d) (y::l).length (y::l).length)] kq (mh ⟨U,rfl⟩ ⟨U,rfl⟩),_,_,_,_,_,_,rfl,rfl,?_⟩;exact yR
def M4(U:pr 158=none){ad:Option Addr}(a:s.get c=some (.cells #[x0,x1,p,.slice ad n m,x4] 121)):Ef pr 158 #[am c 2] s (num (n:Nat)) s:=by refine EF.of U func158 rfl ?_;refine zs (zr (zg 3 s (zp (yl c 3 (.slice ad n m) a) (zf ?_))));exact yR
end
structure bv where
 kind:Int
 parent:Int
 name:Bq
 text:Bq
 bU:Value
def bv.cells(x:bv):Vq:=[num x.kind,num x.parent,str x.name,str x.text,x.bU]
abbrev bC(l:List bv):Aq:=(l.flatMap bv.cells).toArray
abbrev fc(nb k c:Nat):Value:=.slice (some ⟨nb,0,none⟩) k c
def ei{l:List bv}{x:bv}(h:l[i]?=some x)(j:Nat)(a:j<5):(bC l)[i*5+j]?=x.cells[j]?:=by
 rw[List.getElem?_toArray];induction l generalizing i with
 | nil=>simp at h
 | cons y l U =>
  cases i with
  | zero =>simp only[List.getElem?_cons_zero,Option.some.injEq] at h;subst h;rw[List.flatMap_cons,List.getElem?_append_left (by simp[bv.cells];omega),Nat.zero_mul,Nat.zero_add]
  | succ i =>rw[List.getElem?_cons_succ] at h;rw[List.flatMap_cons,List.getElem?_append_right (by simp[bv.cells];omega),show(i+1)*5+j-(bv.cells y).length=i*5+j by simp[bv.cells];omega];exact U h
section
variable {pr:Prim}{s:AS}
def hY.add(b:Nat)(s:AS)(o:Obj):hY b s (s.add o):=⟨iq,fun k U _ _=>by rw[AS.aG,iw oq]⟩
def BE.add(h:BE s b nd l)(o:Obj):BE (s.add o) b nd l:=by
 have⟨f,p,e,c,a,U⟩:=h;refine⟨by simp;omega,p,e,by rw[AS.aG,iw oq];exact c,a,?_⟩;rcases U with h|⟨d,fz,q1,q2,q3⟩
 ·exact .inl h
 ·exact .inr ⟨d,fz,q1,by simp;omega,by rw[AS.aG,iw oq];exact q3⟩
structure Mb(pr:Prim):Prop where
 Ey:pr 261=none
 Eu:pr 156=none
 Ev:pr 170=none
 Up:pr 82=none
 VF:pr 83=none
 Qc:pr 168=none
 Qd:pr 169=none
def Ms(U:Mb pr){c:Nat}{ns:List bv}{x:bv}(h:BE s b (fc nb ns.length c) l)(hn:s.get nb=some (.cells (bC ns) 44 fz))(hx:ns[i]?=some x)(hl:l.length+x.name.length≤900000)(a0:ns.length≤100000):∃s',Ef pr 83 #[am b 0,num (i:Nat)] s (.tuple #[]) s'∧BE s' b (fc nb ns.length c) (l++([60,47]++x.name++[62]))∧hY b s s':=by
 have hi:i<ns.length:=(gS.1 hx).1;have uU:(bC ns)[i*5+2]?=some (str x.name):=ei hx 2 dq;have Xo:=h;have⟨hb,p,sl,hs,X4,To⟩:=h;have Ss:=Xo.add (.cells #[str [60,47],str x.name,str [62]] 9);have⟨s2,hw,wE,zW⟩:=mC (pr:=pr) (c:=3) (lJ:=[[60,47],x.name,[62]]) (fz:=(0,0)) U.Ey U.Eu U.Ev Ss (t:=s.nx) (by rw[AS.aG,ip rfl];rfl) iq iq (by simp;omega);have e:l++([60,47]++x.name++[62])=l++([[60,47],x.name,[62]]:List (Bq)).flatten:=iq
 rw[e];refine EF.gq U.VF func83 rfl ?_;refine zx (zg 4 s (zp (yl b 0 (fc nb ns.length c) hs) ?_));generalize hK:ns.length=K at *;refine zg 1 s (zp (yi nb 0 K c (i*5) none .i64 (i:Nat) 5 oq oq oq) (zg 1 s (zp (bP (b:=nb) (off:=i*5+2) (v:=str x.name) rfl underlying9 rfl kq hn uU) ?_)));generalize x.name=nm at *;refine zg 1 (s.add (.cells #[str [60,47],str nm,str [62]] 9)) (zc 0 hw (EO.nil ?_));exact⟨.inl rfl,kq,wE,(hY.add b s _).trans zW⟩
end
def uh{a b c:Option Value × Value}(d:a.1=some a.2∧bu 20 a.2=true)(e:b.1=some b.2∧bu 20 b.2=true)(f:c.1=some c.2∧bu 20 c.2=true):∀x∈[a,b,c],x.1=some x.2∧bu 20 x.2=true:=by
 intro x U;simp only[List.mem_cons,List.not_mem_nil,or_false] at U;rcases U with rfl|rfl|rfl
 ·exact d
 ·exact e
 ·exact f
def bL{P:Program}{d:TypeDesc}{s:AS}{v:Value}(c:P.underlying t=some d)(a:d.isRow=false)(U:s.get b=some (.cells cs ty fz))(e:cs[off]?=some v):aC P t (am b off) s=some v:=by unfold aC;simp only[am,U,c,a];exact e
section
variable {pr:Prim}{s:AS}
def dC{o:Option Obj}(h:o=some (.cells cs t fz))(U:t≠5):Ej o:=fun a b e=>by
 rw[h] at e;injection e with q
 injection q with _ q2
 exact U q2
def Lc(hp:Mb pr){c:Nat}{ns:List bv}{x px:bv}(h:BE s b (fc nb ns.length c) l)(hn:s.get nb=some (.cells (bC ns) 44 fz))(a8:nb<s.nx)(a0:x.parent=(pi:Nat))(a1:ns[pi]?=some px)(hl:l.length+out.length≤900000)(a9:ns.length≤100000)
 (a2:∀(s:AS) (d:Nat),s.get d=some (.cells #[str [115,99,114,105,112,116],str [115,116,121,108,101]] 9)→Ef pr 127 #[str px.name,.slice (sq d) 2 2] s (.bool false) s)(U:∀s,Ef pr 267 #[str x.text] s (str out) s) :
  ∃s',Ef pr 169 #[am b 0,.agg x.cells.toArray] s (.tuple #[]) s'∧BE s' b (fc nb ns.length c) (l++out)∧hY b s s':=by
 have hi:pi<ns.length:=(gS.1 a1).1;have uU:(bC ns)[pi*5+2]?=some (str px.name):=ei a1 2 dq;have N9:b<s.nx:=h.1;have⟨kd,par,nm,tx,at_⟩:=x;simp only at a0 U;subst a0;have SA:(s.add (.cells #[num kd,num ((pi:Nat):Int),str nm,str tx,at_] 44)).get s.nx=some (.cells #[num kd,num ((pi:Nat):Int),str nm,str tx,at_] 44):=by rw[AS.aG,ip rfl]
 have h1:=h.add (.cells #[num kd,num ((pi:Nat):Int),str nm,str tx,at_] 44);have SY:(s.add (.cells #[num kd,num ((pi:Nat):Int),str nm,str tx,at_] 44)).get nb=some (.cells (bC ns) 44 fz):=by rw[AS.aG,iw oq];exact hn
 have a3:=hY.add b s (.cells #[num kd,num ((pi:Nat):Int),str nm,str tx,at_] 44);have MO:(s.add (.cells #[num kd,num ((pi:Nat):Int),str nm,str tx,at_] 44)).nx=s.nx+1:=rfl;refine EF.gq hp.Qd func169 rfl ?_;refine zs (za (s.add (.cells #[num kd,num ((pi:Nat):Int),str nm,str tx,at_] 44)) ?_);generalize s.add (.cells #[num kd,num ((pi:Nat):Int),str nm,str tx,at_] 44)=s1 at *;generalize hB:s.nx=B at *;have WR:=h1;have⟨N8,p,sl,Ps,X4,To⟩:=WR;have Th:(s1.add (.cells #[str [115,99,114,105,112,116],str [115,116,121,108,101]] 9)).get s1.nx=some (.cells #[str [115,99,114,105,112,116],str [115,116,121,108,101]] 9):=by rw[AS.aG,ip rfl]
 have hI:=a2 _ _ Th;have h2:=h1.add (.cells #[str [115,99,114,105,112,116],str [115,116,121,108,101]] 9);have zW:=a3.trans (hY.add b s1 (.cells #[str [115,99,114,105,112,116],str [115,116,121,108,101]] 9));have JM:(s1.add (.cells #[str [115,99,114,105,112,116],str [115,116,121,108,101]] 9)).get B=some (.cells #[num kd,num ((pi:Nat):Int),str nm,str tx,at_] 44):=by rw[AS.aG,MO,iw oq];exact SA
 have a7:(s1.add (.cells #[str [115,99,114,105,112,116],str [115,116,121,108,101]] 9)).nx=B+2:=by show s1.nx+1=_;omega
 have a4:=bL (P:=prog) (t:=38) underlying38 rfl Ps (off:=0) rfl;have a5:=bL (P:=prog) (t:=3) underlying3 rfl SA (off:=1) rfl;have a6:=bL (P:=prog) (t:=9) underlying9 rfl SY uU;generalize hK:ns.length=K at *;generalize px.name=pn at *;refine EW.seq (EW.seq (EW.draw kq kq kq ?_));iterate 3 refine zq ?_
 refine zt s1 (zu (yl b 0 (fc nb K c) Ps) (zq (zt s1 (zu (yl B 1 (num ((pi:Nat):Int)) SA) (zu (yi nb 0 K c (pi*5) none .i64 (pi:Nat) 5 oq oq oq) (zq (zt s1 (zu (bP (b:=nb) (off:=pi*5+2) (v:=str pn) rfl underlying9 rfl kq SY uU) (zq (zt (s1.add (.cells #[str [115,99,114,105,112,116],str [115,116,121,108,101]] 9)) ?_))))))))));generalize aa:s1.add (.cells #[str [115,99,114,105,112,116],str [115,116,121,108,101]] 9)=s2 at *;refine yt hI (ET.nil ⟨aK [(aC prog 38 (am b 0) s1,fc nb K c),(aC prog 3 (am B 1) s1,num ((pi:Nat):Int)),(aC prog 9 (am nb (pi*5+2)) s1,str pn)] kq (uh ⟨a4,rfl⟩ ⟨a5,rfl⟩ ⟨a6,rfl⟩),_,_,_,_,_,_,rfl,rfl,?_⟩);refine zF (za s2 ?_);have h3:=h2.add (.cells #[str out] 9);have⟨s4,hw,O5,Lz⟩:=mC (pr:=pr) (c:=1) (lJ:=[out]) (fz:=(0,0)) hp.Ey hp.Eu hp.Ev h3 (t:=s2.nx) (by rw[AS.aG,ip rfl];rfl) iq iq (by simp;omega);rw[show([out]:List (Bq)).flatten=out by simp] at O5;refine zx (zg 2 s2 (zp (yl B 3 (str tx) JM) (zc 0 (U s2) (zg 1 (s2.add (.cells #[str out] 9)) (zc 0 hw (EO.nil ?_))))));exact⟨.inl rfl,kq,O5,(zW.trans (hY.add b s2 _)).trans Lz⟩
end
end
section
open Go.Conc Go.RowKit Go.Lib Tryz
variable {P:Program}{kt:TypeId→Bool}{B b c i k k' n nb off pi sz tb wk:Nat}{a:TL}{s s' s1 s2:AS}{o:Option Obj}{t t' ty:TypeId}{px x:bv}{y:Operand}{cs lE cw:Aq}{fw fz OX:Nat × Nat}{l n1 nm out stops tn v1 vl:Bq}{p:Int}{av nd sl v0:Value}{aI:List (Bq × Bq)}{cl wh:Bool}{ns:List bv}{eH eL:List Nat}
def ep{c:ft}{o:Oper}{x:Operand}{w:Value}{ws:Vq}(U:o.op=.store t x y)(i:a.at x=am b off)(j:a.at y=w)(e:w.cells=ws.toArray)(g:ws.all Value.oneCell'=true)(d:bQ P t=some ws.length)(h:s.get b=some (.cells cs ty fz))(f:off+ws.length≤cs.size):bM P kt c a o s=some (undef,s.set b (some (.cells (putAt cs off ws) ty fz))):=by unfold bM;rw[iw (by rw[U];simp[eI]),U];simp only;unfold iS;rw[i,j];simp only[am,h,e];rw[ip ⟨by simpa using d,by simpa using f,by simpa using g⟩]
abbrev fT(l:List (Bq × Bq)):Aq:=(l.flatMap fun p=>[str p.1,str p.2]).toArray
def bY (s:AS)(v:Value)(l:List (Bq × Bq)):Prop:=(v=.slice none 0 0∧l=[])∨∃ab c fz,v=.slice (some ⟨ab,0,none⟩) l.length c∧ab<s.nx∧s.get ab=some (.cells (fT l) 47 fz)
def vP{l:List (Bq × Bq)}{p:Bq × Bq}(h:l[i]?=some p):i*2+2≤(fT l).size∧(((fT l).toList.drop (i*2)).take 2).toArray=#[str p.1,str p.2]:=by
 induction l generalizing i with
 | nil=>simp at h
 | cons q l U =>
  cases i with
  | zero =>simp only[List.getElem?_cons_zero,Option.some.injEq] at h;subst h;simp
  | succ i =>rw[List.getElem?_cons_succ] at h;have⟨h1,h2⟩:=U h;simp only[List.size_toArray,List.flatMap_cons,lA,lC,List.length_nil] at h1 ⊢;refine⟨oq,?_⟩;rw[show(i+1)*2=2+i*2 by omega,← List.drop_drop];simpa using h2
def np(p:Bq × Bq):Bq:=[32]++p.1++[61,34]++fE p.2++[34]
def dt(l:List (Bq × Bq)):Bq:=l.flatMap np
section
variable {pr:Prim}{s:AS}
def hY.set(h:hY b s s1)(U:s.nx≤k):hY b s (s1.set k o):=⟨by have:=h.1;simpa using this,fun j d c a=>by rw[AS.aH,iw oq];exact h.2 j d c a⟩
def BE.set(h:BE s b nd l)(f:k≠b)(a:Ej (s.get k)):BE (s.set k o) b nd l:=by
 have⟨c,p,j,i,g,U⟩:=h;refine⟨by simpa using c,p,j,by rw[AS.aH,iw (Ne.symm f)];exact i,g,?_⟩;rcases U with h|⟨d,fz,q1,q2,q3⟩
 ·exact .inl h
 ·exact .inr ⟨d,fz,q1,by simpa using q2,by rw[AS.aH,iw (fun e=>by rw[e] at q3;exact a _ _ q3)];exact q3⟩
def CP(b B:Nat)(at_:Value)(nv:Value)(k i:Nat)(x:Nq):TL:=[am b 0,nv,x 2,am B 0,x 4,x 5,x 6,x 7,x 8,x 9,x 10,x 11,at_,num (k:Nat),num (i:Nat)]++iy x 15 15
def Mr(D:Mb pr)(h:BE s b nd l)(a5:bY s x.bU aI)(hl:l.length+x.name.length+(dt aI).length≤900000)(hk:aI.length≤1000)
 (a6:∀p∈aI,∀s,Ef pr 266 #[str p.2] s (str (fE p.2)) s) :
  ∃a,Ef pr 168 #[am b 0,.agg x.cells.toArray] s (.tuple #[]) a∧BE a b nd (l++([60]++x.name++dt aI++[62]))∧hY b s a:=by
 have ao:b<s.nx:=h.1;have⟨o,U,d,u,f⟩:=x;simp only at a5 hl;have I:(s.add (.cells #[num o,num U,str d,str u,f] 44)).get s.nx=some (.cells #[num o,num U,str d,str u,f] 44):=by rw[AS.aG,ip rfl]
 have h1:=h.add (.cells #[num o,num U,str d,str u,f] 44);have Q6:=hY.add b s (.cells #[num o,num U,str d,str u,f] 44);have MO:(s.add (.cells #[num o,num U,str d,str u,f] 44)).nx=s.nx+1:=rfl;refine EF.gq D.Qc func168 rfl ?_;refine zs (za (s.add (.cells #[num o,num U,str d,str u,f] 44)) ?_);generalize s.add (.cells #[num o,num U,str d,str u,f] 44)=s1 at *;generalize hB:s.nx=B at *;have h2:=h1.add (.cells #[str [60],str d] 9);have⟨s2,Yn,R,zW⟩:=mC (pr:=pr) (c:=2) (lJ:=[[60],d]) (fz:=(0,0)) D.Ey D.Eu D.Ev h2 (t:=s1.nx) (by rw[AS.aG,ip rfl];rfl) iq iq (by simp;omega);rw[show([[60],d]:List (Bq)).flatten=[60]++d by simp] at R;have G:=(hY.add b s1 (.cells #[str [60],str d] 9)).trans zW;have T:s2.get B=some (.cells #[num o,num U,str d,str u,f] 44):=(G.2 B oq oq (dC I dq)).trans I;have H:=Q6.trans G;refine zr (zg 2 s1 (zp (yl B 2 (str d) I) (zg 1 (s1.add (.cells #[str [60],str d] 9)) (zc 0 Yn (EO.nil ?_)))));have Y:∃C A,f=.slice A aI.length C:=by
  rcases a5 with ⟨e1,e2⟩|⟨v,c,fz,e1,_⟩
  ·exact⟨0,none,by rw[e1,e2];rfl⟩
  ·exact⟨c,_,e1⟩
 have⟨C,A,a8⟩:=Y;refine EW.seq (EW.mono (Q:=fun e F a=>e=.normal∧BE a b nd (l++([60]++d++dt aI))∧hY b s a∧∃x,F=CP b B f (.agg #[num o,num U,str d,str u,f]) aI.length aI.length x) ?_ ?_)
 ·subst a8;refine zr (zg 1 s2 (zp (yl B 4 (.slice A aI.length C) T) (zf (za s2 ?_))));generalize hK:aI.length=K at *;refine EW.fill (CP b B (.slice A K C) (.agg #[num o,num U,str d,str u,.slice A K C]) K 0) kq ?_;intro x0;refine EW.block ?_;refine EW.mono (EW.dS (Q:=fun e F a=>e=.exit 0∧BE a b nd (l++([60]++d++dt aI))∧hY b s a∧∃x,F=CP b B (.slice A K C) (.agg #[num o,num U,str d,str u,.slice A K C]) K K x) (fun m F a=>∃i,i+m=K∧BE a b nd (l++([60]++d++dt (aI.take i)))∧hY b s a∧s.nx≤a.nx∧∃x,F=CP b B (.slice A K C) (.agg #[num o,num U,str d,str u,.slice A K C]) K i x) ?_ K _ _ ⟨0,oq,by simpa[dt] using R,H,H.1,x0,rfl⟩) ?_
  ·rintro m F a ⟨i,aq,L,V,ar,x,rfl⟩;by_cases hm:0<m
   ·have a2:i<aI.length:=oq
    have ae:aI[i]?=some aI[i]:=gE a2;have Z:aI[i]∈aI:=List.getElem_mem a2;have J:dt (aI.take (i+1))=dt (aI.take i)++np aI[i]:=by unfold dt;rw[List.take_add_one,ae,Option.toList_some,List.flatMap_append];simp
    have aa:(dt (aI.take (i+1))).length≤(dt aI).length:=by have:=congrArg (fun z=>(dt z).length) (List.take_append_drop (i+1) aI);unfold dt at this ⊢;simp only[List.flatMap_append,lA] at this;omega
    rw[J,lA] at aa;obtain⟨v,fz,rfl,al,a1⟩:∃v fz,A=some ⟨v,0,none⟩∧v<s.nx∧s.get v=some (.cells (fT aI) 47 fz):=by
     rcases a5 with ⟨_,e2⟩|⟨v,c,fz,e1,e2,e3⟩
     ·rw[e2] at a2;simp at a2
     ·injection e1 with e1 _ _
      exact⟨v,fz,e1,e2,e3⟩
    have⟨ai,a4⟩:=vP ae;have k:=a6 _ Z;generalize aI[i]=av at J aa a4 k;have⟨g,j⟩:=av;simp only at a4 k;have N:v≠b:=fun e=>by
     have⟨_,p,sl,hs,_⟩:=h;rw[e,hs] at a1;injection a1 with q
     injection q with _ q2
     exact absurd q2 dq
    have a7:=(V.2 v oq N (dC a1 dq)).trans a1;have Xq:b<a.nx:=L.1;have MT:(a.add (.cells #[str [],str []] 47)).get a.nx=some (.cells #[str [],str []] 47):=by rw[AS.aG,ip rfl]
    have a3:((a.add (.cells #[str [],str []] 47)).set a.nx (some (.cells #[str g,str j] 47))).get a.nx=some (.cells #[str g,str j] 47):=by rw[AS.aH,ip rfl]
    have ag:BE ((a.add (.cells #[str [],str []] 47)).set a.nx (some (.cells #[str g,str j] 47))) b nd (l++([60]++d++dt (aI.take i))):=(L.add _).set oq (dC MT dq);have Oa:hY b a ((a.add (.cells #[str [],str []] 47)).set a.nx (some (.cells #[str g,str j] 47))):=(hY.add b a _).set lr;have X0:a.nx<((a.add (.cells #[str [],str []] 47)).set a.nx (some (.cells #[str g,str j] 47))).nx:=iq
    refine zr (zp (yb (num (i:Nat)) (num (K:Nat)) (aX (b:=true) (tD oq))) (EO.nil (EW.seq (zT (EW.seq (EW.block (za a (zr (zp (yi v 0 K C (i*2) none .i64 (i:Nat) 2 oq oq oq) (zo a (zp (gX (b:=v) (off:=i*2) (n:=2) (r:=#[str g,str j]) rfl underlying47 rfl kq kq a7 ai a4) (zg 1 (a.add (.cells #[str [],str []] 47)) (zp (ep (b:=a.nx) (off:=0) (w:=.agg #[str g,str j]) (ws:=[str g,str j]) rfl kq kq rfl rfl kq MT iq) (EO.nil (za ((a.add (.cells #[str [],str []] 47)).set a.nx (some (.cells #[str g,str j] 47))) ?_)))))))))))))));generalize (a.add (.cells #[str [],str []] 47)).set a.nx (some (.cells #[str g,str j] 47))=E at *;generalize ak:a.nx=M at *;have h4:=ag.add (.cells #[str [32],str g,str [61,34],str (fE j),str [34]] 9);have O:np (g,j)=([[32],g,[61,34],fE j,[34]]:List (Bq)).flatten:=by simp[np]
    have aj:(np (g,j)).length=([[32],g,[61,34],fE j,[34]]:List (Bq)).flatten.length:=by rw[O]
    have⟨s5,af,a9,ah⟩:=mC (pr:=pr) (c:=5) (lJ:=[[32],g,[61,34],fE j,[34]]) (fz:=(0,0)) D.Ey D.Eu D.Ev h4 (t:=E.nx) (by rw[AS.aG,ip rfl];rfl) iq iq (by rw[← aj];simp only[lA,lC,List.length_nil];omega);rw[← O,show l++([60]++d++dt (aI.take i))++np (g,j)=l++([60]++d++dt (aI.take (i+1))) by rw[J];simp only[List.append_assoc]] at a9;have W:=(V.trans Oa).trans ((hY.add b E (.cells #[str [32],str g,str [61,34],str (fE j),str [34]] 9)).trans ah);have X:=bL (P:=prog) (t:=9) underlying9 rfl a3 (off:=0) rfl;have Od:=bL (P:=prog) (t:=9) underlying9 rfl a3 (off:=1) rfl;have y:=k E;generalize fE j=ev at y af;refine EW.draw kq kq kq ?_;iterate 2 refine zq ?_
    refine zt E (zu (yl M 0 (str g) a3) (zq (zt E (zu (yl M 1 (str j) a3) (yt y (zq (zt (E.add (.cells #[str [32],str g,str [61,34],str ev,str [34]] 9)) (yt af (ET.nil ⟨aK [(aC prog 9 (am M 0) E,str g),(aC prog 9 (am M 0) E,str g),(aC prog 9 (am M 1) E,str j)] kq (uh ⟨X,rfl⟩ ⟨X,rfl⟩ ⟨Od,rfl⟩),_,_,_,_,_,_,rfl,rfl,?_⟩)))))))));refine za s5 (zx (zp (yp (i:Nat) 1 ((i+1:Nat):Int) oq oq) (zf ?_)));exact⟨m-1,oq,i+1,oq,a9,W,W.1,aN kq⟩
   ·obtain rfl:i=K:=oq
    rw[tL oq] at L;refine zr (zp (yb (num (i:Nat)) (num (i:Nat)) (aX (b:=false) (fD oq))) (EO.nil (EW.seq (zG (EW.exit ?_)))));exact⟨rfl,L,V,aN kq⟩
  ·rintro e F a ⟨rfl,q1,q2,q3⟩;exact⟨rfl,q1,q2,q3⟩
 rintro e F a ⟨rfl,L,V,x,rfl⟩;have h6:=L.add (.cells #[str [62]] 9);have⟨s7,Yo,S,XG⟩:=mC (pr:=pr) (c:=1) (lJ:=[[62]]) (fz:=(0,0)) D.Ey D.Eu D.Ev h6 (t:=a.nx) (by rw[AS.aG,ip rfl];rfl) iq iq (by simp only[lA,lC,List.length_nil,List.flatten_cons,List.flatten_nil,List.append_nil];omega);rw[show l++([60]++d++dt aI)++([[62]]:List (Bq)).flatten=l++([60]++d++dt aI++[62]) by simp] at S;refine zx (zg 2 (a.add (.cells #[str [62]] 9)) (zc 0 Yo (EO.nil ?_)));exact⟨.inl rfl,kq,S,(V.trans (hY.add b a _)).trans XG⟩
end
def eF{c:ft}{o:Oper}{v:Value}{x:Operand}{e:TypeId}{z:Value}{news:Vq}{d m bytes:Nat}(U:o.op=.call { callee:=.builtin .append,args:=#[x,y],argTypes:=#[t,t] })(B:a.at x=sl)(C:a.at y=.slice (sq d) m k)(A:P.underlying t=some (.slice e))(p:(P.info? e).map (fun i=>(i.zero,i.size,i.bytes))=some (some z,sz,bytes))(D:z.cells.size=sz)(g:0<sz)(j:bytes≤1000)(f:kt e=false)(n:s.get d=some (.cells cs e fz))(b:dz sl (sq d)=true)(q:m≤1000000000)(E:m*sz≤cs.size)(r:cs.toList.take (m*sz)=news)(u:news.all Value.oneCell'=true)(h:bn P e sl news m s=some (v,s')):bM P kt c a o s=some (v,s'):=by
 have w:cb P a o=none:=by unfold cb;rw[U]
 have l:eh s sz (sq d) m=some news:=by unfold eh;simp only;rw[n];simp only;rw[ip oq,List.drop_zero,r]
 unfold bM;rw[iw (by rw[U];simp[eI])];rw[U];simp only;rw[w];simp only[List.map_cons,List.map_nil];rw[B,C];unfold eS;simp only[if_true];rw[A];simp only;rw[p];simp only;rw[l];simp only;rw[ip ⟨D,g,j,q,f,b,u⟩];exact h
abbrev QU:Value:=.agg #[num 0,str [],str [],aD,.bool false]
def CX(t:eV)(h:t.at_.oneCell'=true):(ff t).all Value.oneCell'=true:=by show((num t.kind).oneCell'&&((str t.text).oneCell'&&((str t.name).oneCell'&&(t.at_.oneCell'&&((Value.bool t.closed).oneCell'&&true)))))=true;rw[h];rfl
def gi{v:Value}(h:∀b,blk v b→b<n):dz v (sq n)=true:=by
 unfold dz;split
 ·next b a d m c f U e =>
  cases e
  have:=h b ⟨a,none,_,_,rfl⟩;cases hq:Nat.beq b n with
  | false=>rfl
  | true=>exact absurd (Nat.eq_of_beq_eq_true hq) oq
 ·rfl
section
variable {rn c k:Nat}{s:AS}{tx:Bq}{ts:List eV}{pr:Prim}{r:Value}
def qL.lt(h:qL s r ts):∀b,YtgcaionclkbehaaGreatDoor.blk r b→b<s.nx:=fun b U=>by have⟨_,_,z⟩:=qL.blk h U;exact z.1
def qL.m9(h:qL s r ts):bu 20 r=true:=by rcases h with ⟨rfl,_⟩|⟨d',OX,rfl,_⟩<;>rfl
def LP{x:Obj}(h:qL s r ts)(h1:Has s c x)(U:¬blk r c)(g:ts.length≤1000000)(t:eV):∃w a,bn prog 60 r (ff t) 1 s=some (w,a)∧w.cells=#[w]∧w.oneCell'=true∧qL a w (ts++[t])∧Has a c x∧aP (fun b=>blk r b) s a∧∀b,blk w b→s.nx≤b:=by
 rcases h with ⟨rfl,rfl⟩|⟨d,fz,rfl,q3⟩
 ·exact⟨_,_,gk dq,rfl,rfl,.inr ⟨s.nx,(1,1),rfl,Has.new s _⟩,h1.add _,(aP.refl s).add _,fun b z=>Nat.le_of_eq (cY z).symm⟩
 ·have f:=qI ts;refine⟨_,_,fM (sz:=5) dq q3.2 kq oq oq,rfl,rfl,?_,(h1.set (fun e=>U (e▸eR _ _ _)) none).add _,(aP.set (aP.refl s) (fun _=>eR _ _ _) none).add _,fun b z=>Nat.le_of_eq (cY z).symm⟩;rw[EV];exact .inr ⟨s.nx,(1,1),by rw[lA];rfl,Has.new (s.set d none) _⟩
def qh (tx:Bq)(ts:List eV):List eV:=if tx=[] then ts else ts++[⟨1,tx,[],aD,false⟩]
def SC.rc{p q:Value}(h1:Has s c (fK rn k p q r))(U:qL s r ts):¬blk r c:=fun z=>by have⟨_,_,w⟩:=U.blk z;exact h1.ne w dq rfl
def uL(x:∀f,f∈u7→pr f=none)(h:SC rn c s k tx ts)(hx:tx.length≤1000000)(hl:ts.length≤1000000):∃D,Ef pr 73 #[am c 0] s (.tuple #[]) D∧SC rn c D k [] (qh tx ts)∧gn c s D:=by
 have Z:=h;have⟨p,q,r,h1,h2,h3,B⟩:=h;obtain⟨L,M,hq⟩:∃L M,q=.slice L tx.length M:=by
  rcases h3 with ⟨rfl,rfl⟩|⟨d,fz,rfl,_⟩
  ·exact⟨none,0,rfl⟩
  ·exact⟨_,_,rfl⟩
 have Y:Ef pr 158 #[am c 2] s (num (tx.length:Nat)) s:=by have l:=h1;rw[hq] at l;exact M4 (x 158 dq) l.2
 refine EF.gq (x 73 dq) func73 rfl ?_;refine zr (zc 3 Y ?_);by_cases u:tx=[]
 ·subst u;refine zp (yb (num (([]:Bq).length:Nat)) (num 0) (e0 (b:=false) dq)) (EO.nil (za s (zF ?_)));exact⟨.inl rfl,kq,Z,gn.refl s⟩
 ·have ae:0<tx.length:=List.length_pos_iff.2 u;rcases h3 with ⟨_,z⟩|⟨d,fz,Tc,q3⟩
  ·exact absurd z u
  rw[Tc] at h1;have K:=ER (pr:=pr) (x 84 dq) h1.2 q3.2 u hx;have C:aC prog 56 (am c 4) s=some r:=bL (P:=prog) (t:=56) underlying56 rfl h1.2 (off:=4) rfl;have e1:Has (s.set d none) c (fK rn k p (.slice (sq d) tx.length tx.length) r):=h1.set (h1.ne q3 dq) none;have G:aC prog 56 (am c 4) (s.set d none)=some r:=bL (P:=prog) (t:=56) underlying56 rfl e1.2 (off:=4) rfl;have o:=B.m9;have R:aP (KS c s) s (s.set d none):=aP.set (aP.refl s) (fun _=>(KS.at h1.2).2 (.inr (.inl (eR _ _ _)))) none;have y:qL (s.set d none) r ts:=B.set q3 dq none;have U:=gi y.lt;have N:=y.add (.cells (ff ⟨1,tx,[],aD,false⟩).toArray 60);have O:=Has.new (s.set d none) (.cells (ff ⟨1,tx,[],aD,false⟩).toArray 60);have Q:=e1.add (.cells (ff ⟨1,tx,[],aD,false⟩).toArray 60);have S:=R.add (.cells (ff ⟨1,tx,[],aD,false⟩).toArray 60);have⟨w,v,F,V,W,X,A,H,I⟩:=LP N Q (SC.rc h1 B) hl ⟨1,tx,[],aD,false⟩;have f3:aP (KS c s) s v:=S.trans H fun b _ z=>(KS.at h1.2).2 (.inr (.inr z));have hw:∀b,blk w b→s.nx≤b:=fun b z=>by have:=I b z;simp at this;omega
  generalize s.set d none=E at e1 G y U N O Q F H I K R S;refine zp (yb (num (tx.length:Nat)) (num 0) (e0 (b:=true) (tD oq))) (EO.nil (zH (za s (EW.seq (EW.draw kq kq kq ?_)))));iterate 4 refine zq ?_
  refine zt s (zu (yl c 4 r h1.2) ?_);iterate 3 refine zq ?_
  refine zt s (yt K ?_);iterate 2 refine zq ?_
  refine zt (E.add (.cells (ff ⟨1,tx,[],aD,false⟩).toArray 60)) (zu (eF (sl:=r) (news:=ff ⟨1,tx,[],aD,false⟩) (d:=E.nx) (m:=1) (k:=1) (sz:=5) (z:=QU) (bytes:=72) rfl kq kq underlying56 kq rfl dq dq kq O.2 U dq iq iq (CX _ rfl) F) ?_);iterate 2 refine zq ?_
  refine zt v (zu (gC (b:=c) (off:=4) (w:=w) rfl kq kq V W kq A.2 iq) (ET.nil ⟨aK [(aC prog 56 (am c 4) s,r),(aC prog 56 (am c 4) E,r)] kq (mh ⟨C,o⟩ ⟨G,o⟩),_,_,_,_,_,_,rfl,rfl,?_⟩));have j:=A.put (fK rn k p (.slice (sq d) tx.length tx.length) w);have e:=X.set A dq (some (fK rn k p (.slice (sq d) tx.length tx.length) w));have T:aP (KS c s) s (v.set c (some (fK rn k p (.slice (sq d) tx.length tx.length) w))):=aP.set f3 (fun _=>.inl rfl) _;refine za (v.set c (some (fK rn k p (.slice (sq d) tx.length tx.length) w))) ?_;generalize v.set c (some (fK rn k p (.slice (sq d) tx.length tx.length) w))=a at j e T ⊢;have n:Ef pr 159 #[am c 2] a (.tuple #[]) (a.set c (some (fK rn k (.pointer none) aD w))):=by refine EF.of (x 159 dq) func159 rfl ?_;refine zr (zg 3 a (zp (ys c 2 (.pointer none) j.2 iq) (EO.nil ?_)));have g:=j.put (fK rn k (.pointer none) (.slice (sq d) tx.length tx.length) w);have i:=AS.set_set a c (some (fK rn k (.pointer none) (.slice (sq d) tx.length tx.length) w)) (some (fK rn k (.pointer none) aD w));refine za (a.set c (some (fK rn k (.pointer none) (.slice (sq d) tx.length tx.length) w))) ?_;generalize a.set c (some (fK rn k (.pointer none) (.slice (sq d) tx.length tx.length) w))=s5 at g i ⊢;refine zx (zg 3 s5 (zp (ys c 3 aD g.2 iq) ?_));exact EO.nil ⟨.inl rfl,kq,by rw[← i];kernel_rfl⟩
  have J:Has (a.set c (some (fK rn k (.pointer none) aD w))) c (fK rn k (.pointer none) aD w):=j.put _;refine zx (zc 3 n (EO.nil ?_));refine⟨.inl rfl,kq,⟨.pointer none,aD,w,J,.inl rfl,.inl ⟨rfl,rfl⟩,?_⟩,gn.mk' h1 J (aP.set T (fun _=>.inl rfl) _) (.inr fun b z=>(cz z).elim) (.inr hw)⟩;unfold qh;rw[iw u];exact e.set j dq _
def Gu(tx:Bq)(ts:List eV):(qh tx ts).length≤ts.length+1:=by unfold qh;split<;>simp
def Lp(x:∀f,f∈u7→pr f=none)(h:SC rn c s k tx ts)(W:tx.length≤1000000)(Y:ts.length≤900000)(t:eV)(H:t.at_.oneCell'=true)(I:bu 19 t.at_=true):∃v,Ef pr 249 #[am c 0,.agg (ff t).toArray] s (.tuple #[]) v∧SC rn c v k [] (qh tx ts++[t])∧gn c s v:=by
 have F:=gn.add h (.cells (ff t).toArray 60);have⟨a,S,u,g⟩:=uL x (h.add (.cells (ff t).toArray 60)) W oq;have T:=Gu tx ts;have e:Has a s.nx (.cells (ff t).toArray 60):=by
  refine(Has.new s _).fr g.1 fun z=>?_;have⟨p,q,r,q1,q2,q3,q4⟩:=h;have X:=q1.1;rcases(KS.at (q1.add (.cells (ff t).toArray 60)).2).1 z with z|z|z
  ·omega
  ·have⟨_,_,z⟩:=q3.blk z;have:=z.1;omega
  ·have⟨_,_,z⟩:=q4.blk z;have:=z.1;omega
 have⟨p,q,r,h1,h2,h3,U⟩:=u;have o:aC prog 56 (am c 4) a=some r:=bL (P:=prog) (t:=56) underlying56 rfl h1.2 (off:=4) rfl;have i:aC prog 60 (am s.nx 0) a=some (.agg (ff t).toArray):=by unfold aC;simp only[am,e.2,underlying60];kernel_rfl
 have J:bu 20 (.agg (ff t).toArray)=true:=by show((bu 19 (num t.kind))&&((bu 19 (str t.text))&&((bu 19 (str t.name))&&(bu 19 t.at_&&(bu 19 (.bool t.closed)&&true)))))=true;rw[I];rfl
 have L:=U.add (.cells (ff t).toArray 60);have M:=Has.new a (.cells (ff t).toArray 60);have N:=h1.add (.cells (ff t).toArray 60);have O:=(aP.refl (K:=KS c a) a).add (.cells (ff t).toArray 60);have⟨w,j,B,C,D,E,l,y,G⟩:=LP L N (SC.rc h1 U) oq t;have Q:aP (KS c a) a j:=O.trans y fun b _ z=>(KS.at h1.2).2 (.inr (.inr z));have V:∀b,blk w b→a.nx≤b:=fun b z=>by have:=G b z;simp at this;omega
 have A:Has (j.set c (some (fK rn k p q w))) c (fK rn k p q w):=l.put _;have R:gn c a (j.set c (some (fK rn k p q w))):=gn.mk' h1 A (aP.set Q (fun _=>.inl rfl) _) (.inl rfl) (.inr V);have n:BG j q []:=by
  rcases h3 with z|⟨d,fz,z1,z2⟩
  ·exact .inl z
  ·refine .inr ⟨d,fz,z1,(z2.add _).fr y fun z=>?_⟩;have⟨_,_,z⟩:=U.blk z;exact z2.ne z dq rfl
 refine EF.gq (x 249 dq) func249 rfl ?_;refine zs (za (s.add (.cells (ff t).toArray 60)) (zr (zc 1 S (EO.nil (za a ?_)))));refine EW.draw kq kq kq ?_;iterate 4 refine zq ?_
 refine zt a (zu (yl c 4 r h1.2) (zu (yA s.nx 0 5 ((ff t).toArray) e.2 iq) (zq (zt (a.add (.cells (ff t).toArray 60)) (zu (eF (sl:=r) (news:=ff t) (d:=a.nx) (m:=1) (k:=1) (sz:=5) (z:=QU) (bytes:=72) rfl kq kq underlying56 kq rfl dq dq kq M.2 (gi U.lt) dq iq iq (CX _ H) B) ?_)))));iterate 2 refine zq ?_
 refine zt j (zu (gC (b:=c) (off:=4) (w:=w) rfl kq kq C D kq l.2 iq) (ET.nil ⟨aK [(aC prog 56 (am c 4) a,r),(aC prog 60 (am s.nx 0) a,.agg (ff t).toArray)] kq (mh ⟨o,U.m9⟩ ⟨i,J⟩),_,_,_,_,_,_,rfl,rfl,?_⟩));exact⟨.inl rfl,kq,⟨p,q,w,A,h2,n.set l dq _,E.set l dq _⟩,(F.trans g).trans R⟩
end
section
variable {rn:Nat}{all:Iq}{pr:Prim}{s:AS}{c:Nat}{p q r:Value}
def La(b:xo rn all pr)(e:k≤150000)(U:dx all k=39):Ef pr 366 #[am c 0] (sp s c rn p q r k) (str (gH all k).1) (sp s c rn p q r (gH all k).2):=by have d:=gK (s:=s) (c:=c) (p:=p) (q:=q) (r:=r) b (k:=k) oq;unfold gH;rw[iw (by rw[U];decide),ip U];rw[U] at d;have a:=L1 (s:=s) (c:=c) (p:=p) (q:=q) (r:=r) b (b0:=39) dq (k:=k+1) oq;generalize dQ all (k+1) (g9 all [39] (k+1))=g at a ⊢;generalize g9 all [39] (k+1)+1=f at a ⊢;refine EF.of (b.no 366 dq) func366 rfl ?_;refine zs (EW.seq (zr (zc 1 d (zf (za (sp s c rn p q r k) (zs (EW.block (zs (za (sp s c rn p q r k) (zH (zr (zg 3 (sp s c rn p q r k) (zp (yl c 1 (num (k:Nat)) er) (zp (yp (k:Nat) 1 ((k+1:Nat):Int) oq oq) (zg 2 (sp s c rn p q r k) (zp (ys c 1 (num ((k+1:Nat):Int)) er iq) (EO.nil (EW.cV (sp s c rn p q r (k+1)) od (zr (zc 3 a (zf ?_)))))))))))))))))))));exact EW.ret ⟨.inr rfl,kq,kq⟩
def NW(e:xo rn all pr)(g:k≤150000)(U:dx all k≠34)(d:dx all k≠39):Ef pr 366 #[am c 0] (sp s c rn p q r k) (str (gH all k).1) (sp s c rn p q r (gH all k).2):=by have f:=gK (s:=s) (c:=c) (p:=p) (q:=q) (r:=r) e (k:=k) oq;unfold gH;rw[iw U,iw d];have a:=K8 (s:=s) (c:=c) (p:=p) (q:=q) (r:=r) e (stops:=ce++[62]) (by intro b h;simp at h;rcases h with rfl|rfl|rfl|rfl|rfl|rfl<;>decide) (k:=k) oq;generalize dQ all k (g9 all (ce++[62]) k)=j at a ⊢;generalize g9 all (ce++[62]) k=i at a ⊢;generalize dx all k=l at f U d;refine EF.of (e.no 366 dq) func366 rfl ?_;refine zs (EW.seq (zr (zc 1 f (zf (za (sp s c rn p q r k) (zs (EW.block (EW.seq (zr (zp (yb (.int .i32 l) (.int .i32 34) (gl (b:=false) (bF.2 U))) (zf (zG (zx (zp (yb (.int .i32 l) (.int .i32 39) (gl (b:=false) (bF.2 d))) (zf (za (sp s c rn p q r k) (zF (zr (zc 1 a (zf ?_))))))))))))))))))));exact yR
def QF(b:xo rn all pr)(a:k≤150000):Ef pr 366 #[am c 0] (sp s c rn p q r k) (str (gH all k).1) (sp s c rn p q r (gH all k).2):=by
 by_cases U:dx all k=34
 ·exact K9 b a U
 ·by_cases d:dx all k=39
  ·exact La b a d
  ·exact NW b a U d
def pI(U:k≤all.length):k≤g9 all stops k∧g9 all stops k≤all.length:=by
 have h1:=qJ (fun l=>!ef l stops) (all.drop k);have h2:(all.drop k).length=all.length-k:=iq
 unfold g9;omega
def xa(U:k≤all.length):k≤nj all stops k∧nj all stops k≤all.length:=by
 have h1:=qJ (fun l=>ef l stops) (all.drop k);have h2:(all.drop k).length=all.length-k:=iq
 unfold nj;omega
def wH(h:dx all k ≠ -1):k<all.length:=by
 unfold dx at h;by_cases U:k<all.length
 ·exact U
 ·rw[List.getElem?_eq_none oq] at h;exact absurd rfl h
def IK(U:k≤all.length):k≤(gH all k).2∧(gH all k).2≤all.length+1:=by
 unfold gH;split
 ·next h =>
  have h1:k<all.length:=wH (by rw[h];decide)
  have:=pI (all:=all) (stops:=[34]) (k:=k+1) oq;show k≤g9 all [34] (k+1)+1∧g9 all [34] (k+1)+1≤_;omega
 ·split
  ·next h =>
   have h1:k<all.length:=wH (by rw[h];decide)
   have:=pI (all:=all) (stops:=[39]) (k:=k+1) oq;show k≤g9 all [39] (k+1)+1∧g9 all [39] (k+1)+1≤_;omega
  ·have:=pI (all:=all) (stops:=ce++[62]) U;show k≤g9 all (ce++[62]) k∧g9 all (ce++[62]) k≤_;omega
abbrev tI:Bq:=[9,10,12,13,32,47,62,61]
abbrev dJ:Bq:=[9,10,12,13,32,47,62]
def OD:Le tI∧Le dJ:=by
 constructor<;>(intro b h;simp at h)
 ·rcases h with rfl|rfl|rfl|rfl|rfl|rfl|rfl|rfl<;>decide
 ·rcases h with rfl|rfl|rfl|rfl|rfl|rfl|rfl<;>decide
def lH (all:Iq)(k:Nat):Nat:=g9 all tI (k+1)
def ud (all:Iq)(k:Nat):Nat:=nj all ce (lH all k)
def tU (all:Iq)(k:Nat):Nat:=nj all ce (ud all k+1)
def j0(all:Iq)(lo:Bq→Bq)(wr:Bq→Int→Bq)(k:Nat):(Bq × Bq) × Nat :=
 if dx all (ud all k)=61 then ((lo (dQ all k (lH all k)),wr (gH all (tU all k)).1 1),(gH all (tU all k)).2) else ((lo (dQ all k (lH all k)),[]),ud all k)
def FO(U:k<all.length):k+1≤lH all k∧lH all k≤ud all k∧ud all k≤all.length:=by unfold ud lH;have h1:=pI (all:=all) (stops:=tI) (k:=k+1) oq;have h2:=xa (all:=all) (stops:=ce) h1.2;omega
def BI(U:k<all.length)(h:dx all (ud all k)=61):ud all k+1≤tU all k∧tU all k≤all.length:=by have h1:ud all k<all.length:=wH (by rw[h];decide);exact xa (all:=all) (stops:=ce) (k:=ud all k+1) oq
def Dx{lo:Bq→Bq}{wr:Bq→Int→Bq}(U:k<all.length):k<(j0 all lo wr k).2∧(j0 all lo wr k).2≤all.length+1:=by
 have h1:=FO U;unfold j0;split
 ·next h =>have h2:=BI U h;have h3:=IK h2.2;show k<(gH all (tU all k)).2∧(gH all (tU all k)).2≤_;omega
 ·show k<ud all k∧ud all k≤_;omega
structure Rp(rn:Nat)(all:Iq)(lo:Bq→Bq)(wr:Bq→Int→Bq)(T:Bq→Prop)(W:Bq→Int→Prop)(pr:Prim):Prop where
 g:xo rn all pr
 low:∀(s:AS) (t:Bq),T t→EF prog lF pr 258 #[str t] s (str (lo t)) s
 Rm:∀(s:AS) (t:Bq) (k:Int),W t k→s.get 1=some (.cells db.toArray 335)→rn<s.nx→EF prog lF pr 157 #[str t,num k] s (str (wr t k)) s
def Fu(all:Iq)(T:Bq→Prop)(W:Bq→Int→Prop)(k:Nat):Prop:=T (dQ all k (lH all k))∧(dx all (ud all k)=61→W (gH all (tU all k)).1 1)
abbrev fu(a b:Bq):Obj:=.cells #[str a,str b] 47
variable {lo:Bq→Bq}{wr:Bq→Int→Bq}{T:Bq→Prop}{W:Bq→Int→Prop}
def iJ{d:TypeDesc}(e:P.underlying t=some d)(a:d.isRow=true)(f:bQ P t=some n)(c:s.get b=some (.cells cs ty fz))(U:off+n≤cs.size):aC P t (am b off) s=some (.agg (cs.toList.drop off |>.take n).toArray):=by unfold aC;simp only[am,c,e,a,f,if_true];rw[ip U]
def Mm(x:Rp rn all lo wr T W pr)(hk:k<all.length)(ho:Fu all T W k)(h1:Has s c (fK rn k p q r))(a5:c≠1)(a9:Has s 1 (.cells db.toArray 335))(hr:rn<s.nx):∃s',Ef pr 326 #[am c 0] s (.agg #[str (j0 all lo wr k).1.1,str (j0 all lo wr k).1.2]) s'∧Has s' c (fK rn (j0 all lo wr k).2 p q r)∧aP (fun b=>b=c) s s':=by
 have aa:=x.g.len;have Od:=FO hk;have a6:=BI (all:=all) hk;have C:=h1.add (fu [] []);have a2:=Has.new s (fu [] []);have a3:=a9.add (fu [] []);have a4:=(aP.refl (K:=fun b=>b=c) s).add (fu [] []);have o:c≠s.nx:=by have:=h1.1;omega
 have a7:(s.add (fu [] [])).nx=s.nx+1:=rfl;have Sr:s.add (fu [] [])=s.add (fu [] []):=rfl;refine EF.gq (x.g.no 326 dq) func326 rfl ?_;refine zs (za (s.add (fu [] [])) ?_);generalize s.add (fu [] [])=S at C a2 a3 a4 a7 Sr ⊢;have Vj:=mX C.2;have E:c≠S.nx:=by have:=C.1;omega
 have a8:s.nx≠S.nx:=oq
 have b1:∀e,Has (sp S c rn p q r e) c (fK rn e p q r):=fun e=>C.put _;have b2:∀e,Has (sp S c rn p q r e) s.nx (fu [] []):=fun e=>a2.set (Ne.symm o) _;have b3:∀e,Has (sp S c rn p q r e) 1 (.cells db.toArray 335):=fun e=>a3.set (Ne.symm a5) _;have b4:∀e,aP (fun b=>b=c) s (sp S c rn p q r e):=fun e=>aP.set a4 (fun _=>rfl) _;have N:=K8 (s:=S) (c:=c) (p:=p) (q:=q) (r:=r) x.g OD.1 (k:=k+1) oq;rw[show g9 all tI (k+1)=lH all k from rfl] at N;have M:=rS x.g (s:=sp S c rn p q r (lH all k)) (k:=k) (j:=lH all k) oq;have t:=x.low (sp S c rn p q r (lH all k)) _ ho.1;have D:∀v e,(if dx all (ud all k)=61 then (((lo (dQ all k (lH all k)),wr (gH all (tU all k)).1 1),(gH all (tU all k)).2):(Bq × Bq) × Nat) else ((lo (dQ all k (lH all k)),[]),ud all k))=((lo (dQ all k (lH all k)),v),e)→j0 all lo wr k=((lo (dQ all k (lH all k)),v),e):=fun v e h=>h;generalize lo (dQ all k (lH all k))=a at t D;have R:=(b1 (lH all k)).add (fu a []);have Y:=(b2 (lH all k)).add (fu a []);have d3:=(b3 (lH all k)).add (fu a []);have Z:=(b4 (lH all k)).add (fu a []);have d5:Has ((sp S c rn p q r (lH all k)).add (fu a [])) S.nx (fu a []):=Has.new (sp S c rn p q r (lH all k)) (fu a []);have d6:((sp S c rn p q r (lH all k)).add (fu a [])).nx=S.nx+1:=rfl;have hZ:Has ((sp S c rn p q r (lH all k)).add (fu [] [])) S.nx (fu [] []):=Has.new (sp S c rn p q r (lH all k)) (fu [] []);have H:((sp S c rn p q r (lH all k)).add (fu [] [])).set S.nx (some (fu a []))=(sp S c rn p q r (lH all k)).add (fu a []):=AS.set_set (⟨(sp S c rn p q r (lH all k)).hp,S.nx+1⟩:AS) S.nx (some (fu [] [])) (some (fu a []));generalize hU:(sp S c rn p q r (lH all k)).add (fu a [])=U at R Y d3 Z d5 d6 H;have y:=mX R.2;have L:=H7 (s:=U) (c:=c) (p:=p) (q:=q) (r:=r) x.g (k:=lH all k) oq;rw[y,show nj all ce (lH all k)=ud all k from rfl] at L;have I:=gK (s:=U) (c:=c) (p:=p) (q:=q) (r:=r) x.g (k:=ud all k) oq;generalize dQ all k (lH all k)=tx at M t;generalize Oc:lH all k=A at *;generalize J:ud all k=d at *;refine zr (zg 3 S (zp (yl c 1 (num (k:Nat)) C.2) (zf (za S (zr (zg 3 S (zp (yl c 1 (num (k:Nat)) C.2) (zp (yp (k:Nat) 1 ((k+1:Nat):Int) oq oq) (zg 2 S (zp (ys c 1 (num ((k+1:Nat):Int)) C.2 iq) (EO.nil (za (sp S c rn p q r (k+1)) (zr (zc 1 N (EO.nil (za (sp S c rn p q r A) (EW.seq (EW.draw kq kq kq ?_))))))))))))))))));iterate 3 refine zq ?_
 refine zt (sp S c rn p q r A) (zu (yl c 0 (am rn 0) er) ?_);iterate 4 refine zq ?_
 refine zt (sp S c rn p q r A) (zu (yl c 1 (num (A:Nat)) er) (yt M (yt t ?_)));iterate 2 refine zq ?_
 refine zt ((sp S c rn p q r A).add (fu [] [])) (zu (ep (b:=S.nx) (off:=0) (w:=.agg #[str a,str []]) (ws:=[str a,str []]) rfl kq kq rfl rfl kq hZ.2 iq) (ET.nil ⟨aK [(aC prog 84 (am c 0) (sp S c rn p q r A),am rn 0),(aC prog 3 (am c 1) (sp S c rn p q r A),num (A:Nat))] kq (mh ⟨CQ _,rfl⟩ ⟨Iv _,rfl⟩),_,_,_,_,_,_,rfl,rfl,?_⟩));refine za (((sp S c rn p q r A).add (fu [] [])).set S.nx (some (fu a []))) ?_;rw[H];refine zr (zc 1 L (EO.nil (za (sp U c rn p q r d) (EW.seq (zr (zc 1 I ?_))))));by_cases B:dx all d=61
 ·have a6:=a6 B;have u:=H7 (s:=U) (c:=c) (p:=p) (q:=q) (r:=r) x.g (k:=d+1) oq;rw[show nj all ce (d+1)=tU all k by unfold tU;rw[J]] at u;have i:=QF (s:=U) (c:=c) (p:=p) (q:=q) (r:=r) x.g (k:=tU all k) oq;have X:=x.Rm (sp U c rn p q r (gH all (tU all k)).2) (gH all (tU all k)).1 1 (by have:=ho.2;rw[J] at this;exact this B) (d3.set (Ne.symm a5) _).2 (by show rn<U.nx;omega);have G:=D (wr (gH all (tU all k)).1 1) (gH all (tU all k)).2 (by rw[ip B]);rw[G];generalize (gH all (tU all k)).1=t1 at i X G;generalize (gH all (tU all k)).2=m at i X G;generalize tU all k=k3 at u i;generalize wr t1 1=f at X G;have w1:Has (sp U c rn p q r m) c (fK rn m p q r):=R.put _;have w2:Has (sp U c rn p q r m) s.nx (fu [] []):=Y.set (Ne.symm o) _;have w3:Has (sp U c rn p q r m) S.nx (fu a []):=d5.set (Ne.symm E) _;have w4:aP (fun b=>b=c) s (sp U c rn p q r m):=aP.set Z (fun _=>rfl) _;have O:Has ((sp U c rn p q r m).set S.nx (some (fu a f))) c (fK rn m p q r):=w1.set E _;have F:Has ((sp U c rn p q r m).set S.nx (some (fu a f))) s.nx (fu [] []):=w2.set a8 _;have P:Has ((sp U c rn p q r m).set S.nx (some (fu a f))) S.nx (fu a f):=w3.put _;have Q:aP (fun b=>b=c) s ((sp U c rn p q r m).set S.nx (some (fu a f))):=aP.set w4 (fun z=>absurd z oq) _;refine zp (yb (.int .i32 (dx all d)) (.int .i32 61) (gl (b:=true) (beq_iff_eq.2 B))) (EO.nil (za (sp U c rn p q r d) (zH (zr (zg 3 (sp U c rn p q r d) (zp (yl c 1 (num (d:Nat)) er) (zp (yp (d:Nat) 1 ((d+1:Nat):Int) oq oq) (zg 2 (sp U c rn p q r d) (zp (ys c 1 (num ((d+1:Nat):Int)) er iq) (EO.nil (EW.cV (sp U c rn p q r (d+1)) od (zr (zc 1 u (EO.nil (za (sp U c rn p q r k3) (zx (zc 1 i (zc 0 X (zg 1 (sp U c rn p q r m) (zp (ys S.nx 1 (str f) w3.2 iq) (EO.nil (za ((sp U c rn p q r m).set S.nx (some (fu a f))) ?_))))))))))))))))))))));generalize (sp U c rn p q r m).set S.nx (some (fu a f))=V at O F P Q ⊢;have z1:=F.put (fu a f);have z2:Has (V.set s.nx (some (fu a f))) c (fK rn m p q r):=O.set o _;have z3:aP (fun b=>b=c) s (V.set s.nx (some (fu a f))):=aP.set Q (fun z=>absurd z (Nat.lt_irrefl _)) _;refine zr (zp (yA S.nx 0 2 #[str a,str f] P.2 iq) (zo V (zp (ep (b:=s.nx) (off:=0) (w:=.agg #[str a,str f]) (ws:=[str a,str f]) rfl kq kq rfl rfl kq F.2 iq) (EO.nil (za (V.set s.nx (some (fu a f))) ?_)))));exact EW.ret ⟨.inr rfl,(show _=aC prog 47 (am s.nx 0) (V.set s.nx (some (fu a f))) by kernel_rfl).trans (iJ (n:=2) underlying47 rfl kq z1.2 iq),z2,z3⟩
 ·have G:=D [] d (by rw[iw B]);rw[G];have O:Has (sp U c rn p q r d) c (fK rn d p q r):=R.put _;have F:Has (sp U c rn p q r d) s.nx (fu [] []):=Y.set (Ne.symm o) _;have P:Has (sp U c rn p q r d) S.nx (fu a []):=d5.set (Ne.symm E) _;have Q:aP (fun b=>b=c) s (sp U c rn p q r d):=aP.set Z (fun _=>rfl) _;generalize dx all d=l at I B;refine zp (yb (.int .i32 l) (.int .i32 61) (gl (b:=false) (bF.2 B))) (EO.nil (za (sp U c rn p q r d) (zF ?_)));generalize sp U c rn p q r d=V at O F P Q ⊢;have z1:=F.put (fu a []);have z2:Has (V.set s.nx (some (fu a []))) c (fK rn d p q r):=O.set o _;have z3:aP (fun b=>b=c) s (V.set s.nx (some (fu a []))):=aP.set Q (fun z=>absurd z (Nat.lt_irrefl _)) _;refine zr (zp (yA S.nx 0 2 #[str a,str []] P.2 iq) (zo V (zp (ep (b:=s.nx) (off:=0) (w:=.agg #[str a,str []]) (ws:=[str a,str []]) rfl kq kq rfl rfl kq F.2 iq) (EO.nil (za (V.set s.nx (some (fu a []))) ?_)))));exact EW.ret ⟨.inr rfl,(show _=aC prog 47 (am s.nx 0) (V.set s.nx (some (fu a []))) by kernel_rfl).trans (iJ (n:=2) underlying47 rfl kq z1.2 iq),z2,z3⟩
end
section
variable {pr:Prim}{s:AS}
abbrev jd:=List (Bq × Bq)
def NA(U:pr 365=none)(a:Has s B (fu nm vl)):Ef pr 365 #[.agg #[str n1,str v1],am B 0] s (.bool (aY n1 nm)) (s.add (fu n1 v1)):=by have h1:=Has.new s (fu n1 v1);have h2:=a.add (fu n1 v1);refine EF.of U func365 rfl ?_;refine zs (za (s.add (fu n1 v1)) ?_);generalize c:s.add (fu n1 v1)=S at h1 h2 ⊢;refine zr (zg 1 S (zp (yl s.nx 0 (str n1) h1.2) (zg 1 S (zp (yl B 0 (str nm) h2.2) (zp (yb (str n1) (str nm) (gO rfl)) ?_)))));generalize aY n1 nm=b;refine zf ?_;exact yR
abbrev yC(B:Nat):Value:=.func (.func 365) #[] #[am B 0]
def Ik(av:Value)(B n i:Nat)(x:Nq):TL:=[av,yC B,x 2,x 3,num 0,x 5,av,num (n:Nat),num (i:Nat)]++iy x 9 10
def bY.fk{K:Nat→Prop}{v:Value}{l:jd}(h:bY s v l)(a:aP K s s')(d:∀b,blk v b→¬K b):bY s' v l:=by
 rcases h with h|⟨U,c,fz,rfl,h1,h2⟩
 ·exact .inl h
 ·have:=Has.fr ⟨h1,h2⟩ a (d U (eR _ _ _));exact .inr ⟨U,c,fz,rfl,this.1,this.2⟩
def bY.lt{v:Value}{l:jd}(h:bY s v l):∀b,YtgcaionclkbehaaGreatDoor.blk v b→b<s.nx:=fun b U=>by
 rcases h with ⟨rfl,_⟩|⟨ab,c,fz,rfl,h1,h2⟩
 ·exact(cz U).elim
 ·rw[cY U];exact h1
def bY.m9{v:Value}{l:jd}(h:bY s v l):bu 20 v=true∧bu 19 v=true∧v.oneCell'=true∧v.cells=#[v]:=by rcases h with ⟨rfl,_⟩|⟨U,c,fz,rfl,h1,h2⟩<;>exact⟨rfl,rfl,rfl,rfl⟩
def bY.len{v:Value}{l:jd}(h:bY s v l):∃a b,v=.slice a l.length b:=by
 rcases h with ⟨rfl,rfl⟩|⟨U,c,fz,rfl,h1,h2⟩
 ·exact⟨none,0,rfl⟩
 ·exact⟨_,_,rfl⟩
def MW(H:∀f,f∈u7→pr f=none){aI:jd}(N:Has s B (fu nm vl))(I:bY s av aI)(V:aI.length≤100000):∃a j,Ef pr 364 #[av,yC B] s (num j) a∧aP (fun _=>False) s a∧decide (j≥0)=aI.any fun p=>aY p.1 nm:=by
 have⟨y,A,K⟩:=I.len;suffices h:Ew pr (match Tryz.f364.body with|some c=>c|none=>.skip) ((#[av,yC B]:Aq).toList++List.replicate (Tryz.f364.ntmps-(#[av,yC B]:Aq).toList.length) undef) s (fun e g k=>(e=.normal∨e=.ret)∧aP (fun _=>False) s k∧∃j,du prog Tryz.f364 g k=some (num j)∧decide (j≥0)=aI.any fun p=>aY p.1 nm) by have⟨m,e,g,k,h1,O,h2,j,h3,M⟩:=h;exact⟨k,j,EF.of (H 364 dq) func364 rfl ⟨m,e,g,k,h1,O,h3,rfl⟩,h2,M⟩
 subst K;refine zs (za s (EW.seq (zs (za s ?_))));refine EW.fill (Ik (.slice y aI.length A) B aI.length 0) kq ?_;intro S;generalize X:aI.length=n at *;refine EW.block ?_;refine EW.mono (EW.dS (Q:=fun e g k=>(e=.exit 0∧aP (fun _=>False) s k∧((aI.any fun p=>aY p.1 nm)=false)∧∃x,g=Ik (.slice y n A) B n n x)∨(e=.ret∧aP (fun _=>False) s k∧∃j,du prog Tryz.f364 g k=some (num j)∧decide (j≥0)=aI.any fun p=>aY p.1 nm)) (fun m g a=>∃i,i+m=n∧aP (fun _=>False) s a∧((aI.take i).any fun p=>aY p.1 nm)=false∧∃x,g=Ik (.slice y n A) B n i x) ?_ n _ _ ⟨0,oq,aP.refl s,rfl,S,rfl⟩) ?_
 ·rintro m g a ⟨i,T,o,U,x,rfl⟩;by_cases W:0<m
  ·have w:i<aI.length:=oq
   have E:aI[i]?=some aI[i]:=gE w;have⟨D,q⟩:=vP E;have v:aI.take (i+1)=aI.take i++[aI[i]]:=by rw[List.take_add_one,E];rfl
   have F:aI[i]∈aI:=List.getElem_mem w;generalize aI[i]=R at E q v F;have⟨n1,v1⟩:=R;obtain⟨l,C,rfl,Y,P⟩:∃l C,y=some ⟨l,0,none⟩∧l<a.nx∧a.get l=some (.cells (fT aI) 47 C):=by
    have:=I.fk o (fun _ _=>id);rcases this with ⟨_,z⟩|⟨l,cq,C,z1,z2,z3⟩
    ·rw[z] at w;simp at w
    ·cases z1;exact⟨l,C,rfl,z2,z3⟩
   have J:=N.fr o id;have d:=NA (pr:=pr) (H 365 dq) (n1:=n1) (v1:=v1) J;have u:aP (fun _=>False) s (a.add (fu n1 v1)):=o.add _;have t:(aI.take (i+1)).any (fun p=>aY p.1 nm)=aY n1 nm:=by rw[v,List.any_append,U];simp
   have G:aY n1 nm=true→(aI.any fun p=>aY p.1 nm)=true:=fun h=>List.any_eq_true.2 ⟨_,F,h⟩;generalize aY n1 nm=L at d t G;refine zr (zp (yb (num (i:Nat)) (num (n:Nat)) (aX (b:=true) (tD oq))) (EO.nil (EW.seq (zT (EW.seq (EW.block (zs (za a (zr (zg 3 a (zp (yi l 0 n A (i*2) none .i64 (i:Nat) 2 oq oq oq) (zo a (zp (gX (b:=l) (off:=i*2) (n:=2) (r:=#[str n1,str v1]) rfl underlying47 rfl kq kq P D q) (yc #[] #[am B 0] d (EO.nil (za (a.add (fu n1 v1)) ?_))))))))))))))));cases L with
   | true =>refine zH ?_;refine zs ?_;exact EW.ret (.inr ⟨rfl,u,(i:Nat),kq,by rw[G rfl];exact tD oq⟩)
   | false =>refine zF ?_;refine zx (zp (yp (i:Nat) 1 ((i+1:Nat):Int) oq oq) (zf ?_));exact⟨m-1,oq,i+1,oq,u,t,aN kq⟩
  ·obtain rfl:i=n:=oq
   rw[tL oq] at U;refine zr (zp (yb (num (i:Nat)) (num (i:Nat)) (aX (b:=false) (fD oq))) (EO.nil (EW.seq (zG (EW.exit ?_)))));exact .inl ⟨rfl,o,U,aN kq⟩
 ·rintro e g a (⟨rfl,o,h1,x,rfl⟩|⟨rfl,h⟩)
  ·refine zs ?_;exact EW.ret ⟨.inr rfl,o,-1,kq,by rw[h1];rfl⟩
  ·exact⟨.inr rfl,h⟩
def O4(U:∀f,f∈u7→pr f=none){aI:jd}(c:Has s B (fu nm vl))(d:bY s av aI)(e:aI.length≤100000):∃a,Ef pr 322 #[av,yC B] s (.bool (aI.any fun p=>aY p.1 nm)) a∧aP (fun _=>False) s a:=by have⟨a,j,h1,h2,h3⟩:=MW U c d e;refine⟨a,?_,h2⟩;refine EF.of (U 322 dq) func322 rfl ?_;refine zs (zr (zc 2 h1 (zp (yb (num j) (num 0) (iQ (b:=aI.any fun p=>aY p.1 nm) h3)) ?_)));generalize (aI.any fun p=>aY p.1 nm)=g;refine zf ?_;exact yR
def l7(aI:jd)(x:Bq × Bq):jd:=if decide (aI.length<20)&&!(aI.any fun p=>aY p.1 x.1) then aI++[x] else aI
def nJ(l:jd):(fT l).size=l.length*2:=by
 induction l with
 | nil=>rfl
 | cons t a U=>simp at U ⊢;omega
def Af(l:jd)(x:Bq × Bq):((fT l).toList.take (l.length*2)++[str x.1,str x.2]).toArray=fT (l++[x]):=by rw[tL (by rw[Array.length_toList,nJ];exact lr)];simp
def HD{aI:jd}(h:bY s av aI)(x:Bq × Bq)(e:aI.length≤100000):∃w a,bn prog 47 av [str x.1,str x.2] 1 s=some (w,a)∧w.cells=#[w]∧w.oneCell'=true∧bY a w (aI++[x])∧aP (fun b=>blk av b) s a∧∀b,blk w b→s.nx≤b:=by
 rcases h with ⟨rfl,rfl⟩|⟨d,cp,fz,rfl,q1,q2⟩
 ·refine⟨_,_,gk dq,rfl,rfl,.inr ⟨s.nx,1,(1,1),rfl,(Has.new s _).1,(Has.new s _).2⟩,(aP.refl s).add _,fun b z=>Nat.le_of_eq (cY z).symm⟩
 ·have U:=nJ aI;refine⟨_,_,fM (sz:=2) dq q2 kq oq oq,rfl,rfl,?_,(aP.set (aP.refl s) (fun _=>eR _ _ _) none).add _,fun b z=>Nat.le_of_eq (cY z).symm⟩;rw[Af];have c:=Has.new (s.set d none) (.cells (fT (aI++[x])) 47 (1,1));exact .inr ⟨s.nx,_,(1,1),by rw[lA];rfl,c.1,c.2⟩
abbrev gr(nm:Bq)(av:Value)(cl:Bool):Obj:=.cells #[str nm,av,.bool cl] 262
def ME(U:∀f,f∈u7→pr f=none){aI:jd}(H:Has s tb (gr tn av cl))(E:bY s av aI)(R:aI.length≤100000)(nm g:Bq):∃B a,Ef pr 325 #[am tb 0,.agg #[str nm,str g]] s (.tuple #[]) B∧Has B tb (gr tn a cl)∧bY B a (l7 aI (nm,g))∧aP (fun b=>b=tb∨blk av b) s B∧(a=av∨∀b,blk a b→s.nx≤b):=by
 have⟨l,o,V⟩:=E.len;have r:=H.add (fu nm g);have C:=Has.new s (fu nm g);have x:bY (s.add (fu nm g)) av aI:=E.fk ((aP.refl (K:=fun _=>False) s).add _) fun _ _=>id;have D:=(aP.refl (K:=fun b=>b=tb∨blk av b) s).add (fu nm g);have G:¬blk av tb:=fun z=>by
  rcases E with ⟨rfl,_⟩|⟨d,c,fz,rfl,q1,q2⟩
  ·exact cz z
  ·rw[cY z] at H;exact H.ne (⟨q1,q2⟩:Has s d _) dq rfl
 suffices h:Ew pr (match Tryz.f325.body with|some c=>c|none=>.skip) ((#[am tb 0,.agg #[str nm,str g]]:Aq).toList++List.replicate (Tryz.f325.ntmps-(#[am tb 0,.agg #[str nm,str g]]:Aq).toList.length) undef) s (fun e I q=>(e=.normal∨e=.ret)∧∃a,Has q tb (gr tn a cl)∧bY q a (l7 aI (nm,g))∧aP (fun b=>b=tb∨blk av b) s q∧(a=av∨∀b,blk a b→s.nx≤b)) by have⟨m,e,I,q,h1,he,a,h2⟩:=h;exact⟨q,a,EF.of (U 325 dq) func325 rfl ⟨m,e,I,q,h1,he,rfl,rfl⟩,h2⟩
 refine zs (za (s.add (fu nm g)) ?_);have T:(s.add (fu nm g)).nx=s.nx+1:=rfl;generalize s.add (fu nm g)=S at r C x D T ⊢;refine zs (za S ?_);have⟨i,hH,j⟩:=O4 U C x R;have y:=r.fr j id;have J:=C.fr j id;have A:=x.fk j fun _ _=>id;have L:=D.trans j fun _ _ z=>z.elim;refine zr (zg 3 S (zp (yl tb 1 av r.2) ?_));subst V;refine zk 1 ?_;by_cases u:aI.length<20
 ·refine zp (yb (num (aI.length:Nat)) (num 20) (aX (b:=true) (tD oq))) (zg 4 S (zp (yl tb 1 (.slice l aI.length o) r.2) (zc 1 hH ?_)));unfold l7;rw[tD u,Bool.true_and];show EO _ _ _ _ _ _ _ _;generalize a6:(aI.any fun p=>aY p.1 nm)=W at *;cases W with
  | true =>refine zf ?_;refine za i (zF ?_);exact⟨.inl rfl,_,y,by simpa using A,L,.inl rfl⟩
  | false =>
   have M:=y.add (fu nm g);have X:bY (i.add (fu nm g)) (.slice l aI.length o) aI:=A.fk ((aP.refl (K:=fun _=>False) i).add _) fun _ _=>id;have Y:=L.add (fu nm g);have Z:=Has.new i (fu nm g);have⟨w,v,e1,e2,e3,e4,O,Q⟩:=HD X (nm,g) R;have N:Has v tb (gr tn (.slice l aI.length o) cl):=M.fr O G;have c7:aP (fun b=>b=tb∨blk (.slice l aI.length o) b) s v:=Y.trans O fun b _ z=>.inr z;have F:=gi A.lt;have Ly:S.nx≤i.nx:=j.1;have l1:aC prog 42 (am tb 1) i=some (.slice l aI.length o):=bL (P:=prog) (t:=42) underlying42 rfl y.2 (off:=1) rfl;have l2:aC prog 47 (am s.nx 0) i=some (.agg #[str nm,str g]):=iJ (n:=2) underlying47 rfl kq J.2 iq;refine zf (za i (zH ?_));refine EW.draw kq kq kq ?_;iterate 4 refine zq ?_
   refine zt i (zu (yl tb 1 (.slice l aI.length o) y.2) (zu (yA s.nx 0 2 #[str nm,str g] J.2 iq) (zq (zt (i.add (fu nm g)) (zu (eF (sl:=.slice l aI.length o) (news:=[str nm,str g]) (d:=i.nx) (m:=1) (k:=1) (sz:=2) (z:=.agg #[str [],str []]) (bytes:=32) rfl kq kq underlying42 kq rfl dq dq kq Z.2 F dq iq iq rfl e1) ?_)))));iterate 2 refine zq ?_
   refine zt v (zu (gC (b:=tb) (off:=1) (w:=w) rfl kq kq e2 e3 kq N.2 iq) (ET.nil ⟨aK [(aC prog 42 (am tb 1) i,.slice l aI.length o),(aC prog 47 (am s.nx 0) i,.agg #[str nm,str g])] kq (mh ⟨l1,A.m9.1⟩ ⟨l2,rfl⟩),_,_,_,_,_,_,rfl,rfl,?_⟩));refine⟨.inl rfl,w,N.put _,?_,aP.set c7 (fun _=>.inl rfl) _,.inr fun b z=>?_⟩
   ·have:=e4.fk (aP.set (K:=fun b=>b=tb) (aP.refl v) (fun _=>rfl) (some (gr tn w cl))) fun b z zz=>?_
    ·exact this
    ·have:=Q b z
     have:=M.1;simp at *;omega
   ·have:=Q b z;simp at this;omega
 ·refine zp (yb (num (aI.length:Nat)) (num 20) (aX (b:=false) (fD oq))) (zf (za S (zF ?_)));refine⟨.inl rfl,_,r,?_,D,.inl rfl⟩;unfold l7;rw[fD u];exact x
end
def CK{fn:Func}{b c:Tmp}{p0 v1:Value}(e:fn.results.toList=[.cell b ty,.tmp c])(d:a.getD b undef=p0)(U:aC P ty p0 s=some v0)(h1:a.getD c undef=v1):du P fn a s=some (.tuple #[v0,v1]):=by unfold du;rw[e];simp only[List.mapM_cons,List.mapM_nil,lX,d,U,h1];rfl
abbrev g8:Bq:=ce++[47]
def uu (all:Iq)(lo:Bq→Bq)(wr:Bq→Int→Bq):Nat→Nat→jd→Option (jd × Bool × Bool × Nat)
 | 0,_,_=>none
 | n+1,k,aI=>if dx all (nj all g8 k) = -1 then some ([],false,false,nj all g8 k) else if dx all (nj all g8 k)=62 then some (aI,tA all k,true,nj all g8 k+1) else uu all lo wr n (j0 all lo wr (nj all g8 k)).2 (l7 aI (j0 all lo wr (nj all g8 k)).1)
def nk(all:Iq)(lo:Bq→Bq)(wr:Bq→Int→Bq)(T:Bq→Prop)(W:Bq→Int→Prop):Nat→Nat→Prop
 | 0,_=>True
 | n+1,k=>dx all (nj all g8 k) ≠ -1→dx all (nj all g8 k)≠62→Fu all T W (nj all g8 k)∧nk all lo wr T W n (j0 all lo wr (nj all g8 k)).2
def D1(aI:jd)(x:Bq × Bq):(l7 aI x).length≤max aI.length 20:=by
 unfold l7;split
 ·next h =>
  rw[Bool.and_eq_true] at h
  have:=of_decide_eq_true h.1;simp;omega
 ·omega
def LW(c tb:Nat)(x:Nq):TL:=[am c 0,x 1,am tb 0,.bool false]++iy x 4 25
section
variable {rn:Nat}{all:Iq}{pr:Prim}{s:AS}{c:Nat}{p q r:Value}{lo:Bq→Bq}{wr:Bq→Int→Bq}{T:Bq→Prop}{W:Bq→Int→Prop}
def KN(U:k≤all.length+1):nj all stops k≤all.length+1∧k≤nj all stops k:=by
 by_cases h:k≤all.length
 ·have:=xa (all:=all) (stops:=stops) h;omega
 ·unfold nj;rw[List.drop_of_length_le oq];simp;omega
def Qx(E:Rp rn all lo wr T W pr){aI:jd}(hk:k≤all.length)(hT:T (dQ all k (g9 all dJ k)))(U:uu all lo wr n (g9 all dJ k) []=some (aI,cl,wh,k'))(F:nk all lo wr T W n (g9 all dJ k))(h1:Has s c (fK rn k p q r))(R:c≠1)(ag:Has s 1 (.cells db.toArray 335))(hr:rn<s.nx) :
  ∃A a,Ef pr 248 #[am c 0] s (.tuple #[.agg #[str (if wh then lo (dQ all k (g9 all dJ k)) else []),a,.bool cl],.bool wh]) A∧Has A c (fK rn k' p q r)∧bY A a aI∧aP (fun b=>b=c) s A∧(∀b,blk a b→s.nx≤b)∧k'≤all.length+2:=by
 have al:=E.g.len;have M:=E.g.no;have X:=h1.add (gr [] aD false);have a2:=Has.new s (gr [] aD false);have a3:=ag.add (gr [] aD false);have a4:=(aP.refl (K:=fun b=>b=c) s).add (gr [] aD false);have l:c≠s.nx:=by have:=h1.1;omega
 have ak:s.nx<(s.add (gr [] aD false)).nx:=iq
 suffices h:Ew pr (match Tryz.f248.body with|some c=>c|none=>.skip) ((#[am c 0]:Aq).toList++List.replicate (Tryz.f248.ntmps-(#[am c 0]:Aq).toList.length) undef) s (fun e B y=>(e=.normal∨e=.ret)∧∃a,du prog Tryz.f248 B y=some (.tuple #[.agg #[str (if wh then lo (dQ all k (g9 all dJ k)) else []),a,.bool cl],.bool wh])∧Has y c (fK rn k' p q r)∧bY y a aI∧aP (fun b=>b=c) s y∧(∀b,blk a b→s.nx≤b)∧k'≤all.length+2) by have⟨m,e,B,y,h1,he,a,h2,h3⟩:=h;exact⟨y,a,EF.of (M 248 dq) func248 rfl ⟨m,e,B,y,h1,he,h2,rfl⟩,h3⟩
 refine zs (za (s.add (gr [] aD false)) ?_);generalize s.add (gr [] aD false)=S at X a2 a3 a4 ak ⊢;have P:=K8 (s:=S) (c:=c) (p:=p) (q:=q) (r:=r) E.g OD.2 (k:=k) oq;rw[mX X.2] at P;have Od:=pI (all:=all) (stops:=dJ) hk;have u:=E.low (sp S c rn p q r (g9 all dJ k)) _ hT;generalize lo (dQ all k (g9 all dJ k))=i at u ⊢;generalize dQ all k (g9 all dJ k)=tx at P u;generalize g9 all dJ k=t at P u Od U F;have b1:Has (sp S c rn p q r t) c (fK rn t p q r):=X.put _;have b2:Has (sp S c rn p q r t) s.nx (gr [] aD false):=a2.set (Ne.symm l) _;have b3:Has (sp S c rn p q r t) 1 (.cells db.toArray 335):=a3.set (Ne.symm R) _;have b4:aP (fun b=>b=c) s (sp S c rn p q r t):=aP.set a4 (fun _=>rfl) _;have d1:Has ((sp S c rn p q r t).set s.nx (some (gr i aD false))) c (fK rn t p q r):=b1.set l _;have d2:Has ((sp S c rn p q r t).set s.nx (some (gr i aD false))) s.nx (gr i aD false):=b2.put _;have D:(1:Nat)≠s.nx:=by have:=ag.1;omega
 have d3:Has ((sp S c rn p q r t).set s.nx (some (gr i aD false))) 1 (.cells db.toArray 335):=b3.set D _;have d4:aP (fun b=>b=c) s ((sp S c rn p q r t).set s.nx (some (gr i aD false))):=aP.set b4 (fun z=>absurd z (Nat.lt_irrefl _)) _;refine zr (zc 1 P (zc 0 u (zg 1 (sp S c rn p q r t) (zp (ys s.nx 0 (str i) b2.2 iq) (EO.nil (za ((sp S c rn p q r t).set s.nx (some (gr i aD false))) ?_))))));generalize (sp S c rn p q r t).set s.nx (some (gr i aD false))=V at d1 d2 d3 d4 ⊢;refine EW.fill (LW c s.nx) kq ?_;intro x0;refine EW.block ?_;have Oc:t≤all.length+1:=oq
 refine EW.mono (EW.dS (Q:=fun e B y=>e=.ret∧∃a,du prog Tryz.f248 B y=some (.tuple #[.agg #[str (if wh then i else []),a,.bool cl],.bool wh])∧Has y c (fK rn k' p q r)∧bY y a aI∧aP (fun b=>b=c) s y∧(∀b,blk a b→s.nx≤b)∧k'≤all.length+2) (fun m B A=>∃k j a Y,k≤all.length+1∧j.length≤20∧uu all lo wr m k j=some (aI,cl,wh,k')∧nk all lo wr T W m k∧Has A c (fK rn k p q r)∧Has A s.nx (gr i a Y)∧Has A 1 (.cells db.toArray 335)∧aP (fun b=>b=c) s A∧bY A a j∧(∀b,blk a b→s.nx≤b)∧∃x,B=LW c s.nx x) ?_ n _ _ ⟨t,[],aD,false,Oc,iq,U,F,d1,d2,d3,d4,.inl ⟨rfl,rfl⟩,fun b z=>(cz z).elim,x0,rfl⟩) ?_
 ·rintro m B S ⟨k,j,a,Y,hk,ao,U,F,e1,e2,e3,e4,e5,H,x,rfl⟩;cases m with
  | zero=>cases U
  | succ m =>
   have O:=KO (s:=S) (c:=c) (p:=p) (q:=q) (r:=r) E.g (k:=k) oq;rw[mX e1.2] at O;have N:=KN (all:=all) (stops:=g8) hk;unfold uu at U;unfold nk at F;generalize nj all (ce++[47]) k=f at O N U F;generalize tA all k=o at O U;have f1:Has (sp S c rn p q r f) c (fK rn f p q r):=e1.put _;have f2:Has (sp S c rn p q r f) s.nx (gr i a Y):=e2.set (Ne.symm l) _;have f3:Has (sp S c rn p q r f) 1 (.cells db.toArray 335):=e3.set (Ne.symm R) _;have f4:aP (fun b=>b=c) s (sp S c rn p q r f):=aP.set e4 (fun _=>rfl) _;have C:∀b,blk a b→b≠c:=fun b z=>by have:=H b z;have:=h1.1;omega
   have ah:∀b,blk a b→b≠s.nx:=fun b z=>by
    rcases e5 with ⟨rfl,_⟩|⟨d,cp,fz,rfl,q1,q2⟩
    ·exact(cz z).elim
    ·rw[cY z];exact(show Has S d _ from⟨q1,q2⟩).ne e2 dq
   have f5:bY (sp S c rn p q r f) a j:=e5.fk (aP.set (K:=fun b=>b=c) (aP.refl S) (fun _=>rfl) _) C;have g1:Has ((sp S c rn p q r f).set s.nx (some (gr i a o))) c (fK rn f p q r):=f1.set l _;have g2:Has ((sp S c rn p q r f).set s.nx (some (gr i a o))) s.nx (gr i a o):=f2.put _;have g3:Has ((sp S c rn p q r f).set s.nx (some (gr i a o))) 1 (.cells db.toArray 335):=f3.set D _;have g4:aP (fun b=>b=c) s ((sp S c rn p q r f).set s.nx (some (gr i a o))):=aP.set f4 (fun z=>absurd z (Nat.lt_irrefl _)) _;have g5:bY ((sp S c rn p q r f).set s.nx (some (gr i a o))) a j:=f5.fk (aP.set (K:=fun b=>b=s.nx) (aP.refl _) (fun _=>rfl) _) ah;refine EW.block (zr (zc 1 O (zg 1 (sp S c rn p q r f) (zp (ys s.nx 2 (.bool o) f2.2 iq) (EO.nil (za ((sp S c rn p q r f).set s.nx (some (gr i a o))) ?_))))));generalize (sp S c rn p q r f).set s.nx (some (gr i a o))=V at g1 g2 g3 g4 g5 ⊢;have I:=gK (s:=V) (c:=c) (p:=p) (q:=q) (r:=r) E.g (k:=f) oq;rw[mX g1.2] at I;refine EW.seq (zr (zc 1 I (EO.nil (za V (EW.block (zr ?_))))));by_cases v:dx all f = -1
   ·rw[ip v] at U;simp only[Option.some.injEq,Prod.mk.injEq] at U;have⟨Z,ab,ae,af⟩:=U;subst Z ab ae af;refine zp (yb (.int .i32 (dx all f)) (.int .i32 (-1)) (gl (b:=true) (beq_iff_eq.2 v))) (zf (za V (zH (zr (zg 1 V (zp (ep (b:=s.nx) (off:=0) (w:=.agg #[str [],aD,.bool false]) (ws:=[str [],aD,.bool false]) rfl kq kq rfl rfl kq g2.2 iq) (zf ?_)))))));have z1:=g2.put (gr [] aD false);refine za (V.set s.nx (some (gr [] aD false))) ?_;exact EW.ret ⟨rfl,aD,CK rfl kq (iJ (off:=0) (n:=3) underlying262 rfl kq z1.2 iq) kq,g1.set l _,.inl ⟨rfl,rfl⟩,aP.set g4 (fun z=>absurd z (Nat.lt_irrefl _)) _,fun b z=>(cz z).elim,oq⟩
   ·rw[iw v] at U;refine zp (yb (.int .i32 (dx all f)) (.int .i32 (-1)) (gl (b:=false) (bF.2 v))) (zf (za V (zG (zr ?_))));by_cases G:dx all f=62
    ·rw[ip G] at U;simp only[Option.some.injEq,Prod.mk.injEq] at U;have⟨Z,ab,ae,af⟩:=U;subst Z ab ae af;have z0:Has (sp V c rn p q r (f+1)) s.nx (gr i a o):=g2.set (Ne.symm l) _;have z1:=z0.put (gr i a o);have z2:Has (sp V c rn p q r (f+1)) c (fK rn (f+1) p q r):=g1.put _;have z3:bY (sp V c rn p q r (f+1)) a j:=g5.fk (aP.set (K:=fun b=>b=c) (aP.refl V) (fun _=>rfl) _) C;refine zp (yb (.int .i32 (dx all f)) (.int .i32 62) (gl (b:=true) (beq_iff_eq.2 G))) (zf (za V (zH (zr (zg 3 V (zp (yl c 1 (num (f:Nat)) g1.2) (zp (yp (f:Nat) 1 ((f+1:Nat):Int) oq oq) (zg 2 V (zp (ys c 1 (num ((f+1:Nat):Int)) g1.2 iq) (EO.nil (za (sp V c rn p q r (f+1)) (zr (zp (yA s.nx 0 3 #[str i,a,.bool o] z0.2 iq) (zo (sp V c rn p q r (f+1)) (zp (ep (b:=s.nx) (off:=0) (w:=.agg #[str i,a,.bool o]) (ws:=[str i,a,.bool o]) rfl kq kq rfl (by show((str i).oneCell'&&(a.oneCell'&&((Value.bool o).oneCell'&&true)))=true;rw[g5.m9.2.2.1];rfl) kq z0.2 iq) (zf (za ((sp V c rn p q r (f+1)).set s.nx (some (gr i a o))) ?_)))))))))))))))));exact EW.ret ⟨rfl,a,CK rfl kq (iJ (off:=0) (n:=3) underlying262 rfl kq z1.2 iq) kq,z2.set l _,z3.fk (aP.set (K:=fun b=>b=s.nx) (aP.refl _) (fun _=>rfl) _) ah,aP.set (aP.set g4 (fun _=>rfl) _) (fun z=>absurd z (Nat.lt_irrefl _)) _,H,oq⟩
    ·rw[iw G] at U;have⟨aj,ai⟩:=F v G;have L:=wH v;have X8:rn<V.nx:=by have:=g4.1;omega
     have⟨S3,hA,i1,i2⟩:=Mm E L aj g1 R g3 X8;have J:=Dx (lo:=lo) (wr:=wr) L;generalize j0 all lo wr f=ap at *;obtain⟨⟨an,vl⟩,k3⟩:=ap;have j2:=g2.fr i2 (Ne.symm l);have j3:=g3.fr i2 (Ne.symm R);have j4:=g4.trans i2 fun b _ z=>z;have j5:=g5.fk i2 C;have⟨S4,Ws,hG,l1,l2,l3,l4⟩:=ME M j2 j5 oq an vl;have ZU:=D1 j (an,vl);have ZJ:s.nx<S3.nx:=j2.1;refine zp (yb (.int .i32 (dx all f)) (.int .i32 62) (gl (b:=false) (bF.2 G))) (zf (za V (zF (zx (zc 1 hA (zc 0 hG (EO.nil ?_)))))));refine⟨m,Nat.lt_succ_self m,k3,l7 j (an,vl),Ws,o,J.2,oq,U,ai,i1.fr l3 ?_,l1,j3.fr l3 ?_,j4.trans l3 ?_,l2,?_,aN kq⟩
     ·rintro(z|z)
      ·exact l z
      ·exact C c z rfl
     ·rintro(z|z)
      ·exact D z
      ·have:=H 1 z;have:=ag.1;omega
     ·rintro b hb (z|z)
      ·omega
      ·have:=H b z;omega
     ·rcases l4 with rfl|l4
      ·exact H
      ·intro b z
       have:=l4 b z;omega
 ·rintro e B A ⟨rfl,h⟩;exact⟨.inr rfl,h⟩
end
abbrev cL:Obj:=.cells #[num 0,num 0,str [],str [],.slice none 0 0] 44
def ju{l:List bv}(h:l[i]?=some x):i*5+5≤(bC l).size∧(((bC l).toList.drop (i*5)).take 5).toArray=x.cells.toArray:=by
 induction l generalizing i with
 | nil=>simp at h
 | cons y l U =>
  cases i with
  | zero =>simp only[List.getElem?_cons_zero,Option.some.injEq] at h;subst h;simp[bv.cells]
  | succ i =>rw[List.getElem?_cons_succ] at h;have⟨h1,h2⟩:=U h;simp only[List.size_toArray,List.flatMap_cons,lA,bv.cells,lC,List.length_nil] at h1 ⊢;refine⟨oq,?_⟩;rw[show(i+1)*5=5+i*5 by omega,← List.drop_drop];simpa[bv.cells] using h2
section
variable {pr:Prim}{s:AS}
def bY.fr{v:Value}(h:bY s v aI)(d:BE s b nd l)(a:hY b s s'):bY s' v aI:=by
 rcases h with h|⟨ab,c,fz,e1,e2,U⟩
 ·exact .inl h
 ·refine .inr ⟨ab,c,fz,e1,by have:=a.1;omega,(a.2 ab e2 ?_ (dC U dq)).trans U⟩;rintro rfl;have⟨_,p,f,e,_⟩:=d;rw[e] at U;injection U with q
  injection q with _ q2
  exact absurd q2 dq
def bY.one{v:Value}(h:bY s v aI):Value.oneCell' v=true:=by rcases h with ⟨rfl,_⟩|⟨U,c,fz,rfl,_⟩<;>rfl
def FX(q:Mb pr)(h:BE s b (fc nb ns.length c) l)(F:s.get nb=some (.cells (bC ns) 44 fz))(t:ns[i]?=some x)(C:x.kind=1)(k:bY s x.bU aI)(E:l.length+x.name.length+(dt aI).length≤900000)(D:aI.length≤1000)(M:ns.length≤100000)
 (U:∀p∈aI,∀s,Ef pr 266 #[str p.2] s (str (fE p.2)) s) :
  ∃j,Ef pr 82 #[am b 0,num (i:Nat)] s (.tuple #[]) j∧BE j b (fc nb ns.length c) (l++([60]++x.name++dt aI++[62]))∧hY b s j:=by
 have m:=h;have⟨P,p,S,I,H,J⟩:=h;have Q:i<ns.length:=(gS.1 t).1;have⟨g,f⟩:=ju t;have d:(s.add cL).get s.nx=some cL:=by rw[AS.aG,ip rfl]
 have o:((s.add cL).set s.nx (some (.cells x.cells.toArray 44))).get s.nx=some (.cells x.cells.toArray 44):=by rw[AS.aH,ip rfl]
 have z:BE ((s.add cL).set s.nx (some (.cells x.cells.toArray 44))) b (fc nb ns.length c) l:=(m.add _).set oq (dC d dq);have a:hY b s ((s.add cL).set s.nx (some (.cells x.cells.toArray 44))):=(hY.add b s _).set lr;have G:s.nx<((s.add cL).set s.nx (some (.cells x.cells.toArray 44))).nx:=iq
 have u:x.cells.all Value.oneCell'=true:=by simp only[bv.cells,List.all_cons,List.all_nil,k.one];rfl
 have⟨R,L,y,A⟩:=Mr (pr:=pr) q (x:=x) (aI:=aI) z (k.fr m a) E D U;refine EF.gq q.Up func82 rfl ?_;refine zr (zg 3 s (zp (yl b 0 (fc nb ns.length c) I) ?_));generalize O:ns.length=K at *;refine zg 1 s (zp (yi nb 0 K c (i*5) none .i64 (i:Nat) 5 oq oq oq) (zo s (zp (gX (b:=nb) (off:=i*5) (n:=5) (r:=x.cells.toArray) rfl underlying44 rfl kq kq F g f) (zg 1 (s.add cL) (zp (ep (b:=s.nx) (off:=0) (w:=.agg x.cells.toArray) (ws:=x.cells) rfl kq kq rfl u kq d (by simp[bv.cells])) (EO.nil (za ((s.add cL).set s.nx (some (.cells x.cells.toArray 44))) ?_)))))));generalize (s.add cL).set s.nx (some (.cells x.cells.toArray 44))=e at *;generalize N:s.nx=B at *;refine zr (zg 1 e (zp (bP (b:=B) (off:=0) (v:=num 1) rfl underlying3 rfl kq o (by show some (num x.kind)=_;rw[C])) (EO.nil (EW.block (za e (zs (zH (za e (zx (zg 1 e (zp (gX (b:=B) (off:=0) (n:=5) (r:=x.cells.toArray) rfl underlying44 rfl kq kq o (by simp[bv.cells]) (by simp[bv.cells])) (zc 0 L (EO.nil ?_)))))))))))));exact⟨.inl rfl,kq,y,a.trans A⟩
def FY(t:Mb pr)(h:BE s b (fc nb ns.length c) l)(e:s.get nb=some (.cells (bC ns) 44 fz))(J:nb<s.nx)(y:ns[i]?=some x)(I:x.kind=2)(D:bY s x.bU [])(M:x.parent=(pi:Nat))(N:ns[pi]?=some px)(O:l.length+out.length≤900000)(L:ns.length≤100000)
 (C:∀(s:AS) (d:Nat),s.get d=some (.cells #[str [115,99,114,105,112,116],str [115,116,121,108,101]] 9)→Ef pr 127 #[str px.name,.slice (sq d) 2 2] s (.bool false) s)(U:∀s,Ef pr 267 #[str x.text] s (str out) s) :
  ∃m,Ef pr 82 #[am b 0,num (i:Nat)] s (.tuple #[]) m∧BE m b (fc nb ns.length c) (l++out)∧hY b s m:=by
 have F:=h;have⟨W,p,Z,u,Q,R⟩:=h;have X:i<ns.length:=(gS.1 y).1;have⟨k,j⟩:=ju y;have f:(s.add cL).get s.nx=some cL:=by rw[AS.aG,ip rfl]
 have o:((s.add cL).set s.nx (some (.cells x.cells.toArray 44))).get s.nx=some (.cells x.cells.toArray 44):=by rw[AS.aH,ip rfl]
 have G:BE ((s.add cL).set s.nx (some (.cells x.cells.toArray 44))) b (fc nb ns.length c) l:=(F.add _).set oq (dC f dq);have a:hY b s ((s.add cL).set s.nx (some (.cells x.cells.toArray 44))):=(hY.add b s _).set lr;have P:s.nx<((s.add cL).set s.nx (some (.cells x.cells.toArray 44))).nx:=iq
 have A:x.cells.all Value.oneCell'=true:=by simp only[bv.cells,List.all_cons,List.all_nil,D.one];rfl
 have z:nb≠b:=by
  rintro rfl;rw[u] at e;injection e with q
  injection q with _ q2
  exact absurd q2 dq
 have⟨Y,S,E,H⟩:=Lc (pr:=pr) t (x:=x) (pi:=pi) (px:=px) (out:=out) G ((a.2 nb J z (dC e dq)).trans e) oq M N O L C U;refine EF.gq t.Up func82 rfl ?_;refine zr (zg 3 s (zp (yl b 0 (fc nb ns.length c) u) ?_));generalize V:ns.length=K at *;refine zg 1 s (zp (yi nb 0 K c (i*5) none .i64 (i:Nat) 5 oq oq oq) (zo s (zp (gX (b:=nb) (off:=i*5) (n:=5) (r:=x.cells.toArray) rfl underlying44 rfl kq kq e k j) (zg 1 (s.add cL) (zp (ep (b:=s.nx) (off:=0) (w:=.agg x.cells.toArray) (ws:=x.cells) rfl kq kq rfl A kq f (by simp[bv.cells])) (EO.nil (za ((s.add cL).set s.nx (some (.cells x.cells.toArray 44))) ?_)))))));generalize (s.add cL).set s.nx (some (.cells x.cells.toArray 44))=g at *;generalize T:s.nx=B at *;refine zr (zg 1 g (zp (bP (b:=B) (off:=0) (v:=num 2) rfl underlying3 rfl kq o (by show some (num x.kind)=_;rw[I])) (EO.nil (EW.block (za g (zs (zG (zs (zH (za g (zx (zg 1 g (zp (gX (b:=B) (off:=0) (n:=5) (r:=x.cells.toArray) rfl underlying44 rfl kq kq o (by simp[bv.cells]) (by simp[bv.cells])) (zc 0 S (EO.nil ?_)))))))))))))));exact⟨.inl rfl,kq,E,a.trans H⟩
end
def cR(s:AS)(v:Value)(eL:List Nat):Prop:=(v=.slice none 0 0∧eL=[])∨∃ob cp cs fz,v=.slice (some ⟨ob,0,none⟩) eL.length cp∧eL.length≤cp∧ob<s.nx∧s.get ob=some (.cells cs 3 fz)∧∀i k:Nat,eL[i]?=some k→cs[i]?=some (num (k:Nat))
abbrev nE(nd v:Value)(b:Nat):Obj:=.cells #[nd,v,.func (.func 83) #[am b 0] #[]] 209
def vI (b wk:Nat)(s s':AS):Prop:=s.nx≤s'.nx∧∀k,k<s.nx→k≠b→k≠wk→Ej (s.get k)→s'.get k=s.get k
def vI.refl(b wk:Nat)(s:AS):vI b wk s s:=⟨lr,fun _ _ _ _ _=>rfl⟩
def vI.trans(h:vI b wk s s1)(U:vI b wk s1 s2):vI b wk s s2:=⟨lT h.1 U.1,fun k f c d a=>by have e:=h.2 k f c d a;rw[U.2 k (by have:=h.1;omega) c d (by rw[e];exact a),e]⟩
def hY.u(h:hY b s s1):vI b wk s s1:=⟨h.1,fun k c a _ U=>h.2 k c a U⟩
def vI.H3:vI b wk s (s.set wk o):=⟨iq,fun k d c U a=>by rw[AS.aH,iw U]⟩
def jL{a:Nat}(h:s.get a=some (.cells cs t fz))(U:s.get b=some (.cells lE t' OX))(c:t≠t'):a≠b:=fun e=>by
 rw[e,U] at h;injection h with q
 injection q with _ q2
 exact c q2.symm
def G4 (ns:List bv)(k:Nat):Bq:=match ns[k]? with
 | some x=>x.name
 | none=>[]
def nN(ns:List bv)(k:Nat):Bq:=[60,47]++G4 ns k++[62]
def bT(ns:List bv)(eH:List Nat):Bq:=eH.reverse.flatMap (nN ns)
def vX(ns:List bv)(l:List Nat)(k:Nat):bT ns (k::l)=bT ns l++nN ns k:=by simp[bT]
def vY(ns:List bv)(l:List Nat)(m:Nat):(bT ns (l.drop m)).length≤(bT ns l).length:=by have:=congrArg (fun z=>(bT ns z).length) (List.take_append_drop m l);simp only[bT,List.reverse_append,List.flatMap_append,lA] at this ⊢;omega
def LU(wk:Nat)(p z:Int)(x:Nq):TL:=[am wk 0,num p,x 2,x 3,num z]++iy x 5 42
section
variable {pr:Prim}{s:AS}
def uM(hp:Mb pr)(ae:pr 163=none){v:Value}{base:List Nat}(h:BE s b (fc nb ns.length c) l)(Z:s.get nb=some (.cells (bC ns) 44 fz))(az:nb<s.nx)(ab:s.get wk=some (nE (fc nb ns.length c) v b))(b7:wk<s.nx)(hv:cR s v (base++eH))
 (aq:∀k∈eH,((k:Nat):Int)≠p∧k<ns.length)(a8:base=[]∨∃y E,base=y++[E]∧((E:Nat):Int)=p)(hl:l.length+(bT ns eH).length≤900000)(b1:ns.length≤100000)(b6:base.length+eH.length≤100000) :
  ∃d,Ef pr 163 #[am wk 0,num p] s (.tuple #[]) d∧BE d b (fc nb ns.length c) (l++bT ns eH)∧vI b wk s d∧∃w,d.get wk=some (nE (fc nb ns.length c) w b)∧cR d w base:=by
 have a9:∃a0 cp,v=.slice a0 (base.length+eH.length) cp:=by
  rcases hv with ⟨e1,e2⟩|⟨a,cp,q,o,e1,_⟩
  ·have hz:base.length+eH.length=0:=by have:=congrArg List.length e2;simpa using this
   exact⟨none,0,by rw[e1,hz]⟩
  ·exact⟨_,cp,by rw[e1,lA]⟩
 have⟨a0,b4,ar⟩:=a9;refine EF.gq ae func163 rfl ?_;refine zr (zg 3 s (zp (yl wk 1 v ab) ?_));rw[ar];refine zk 1 (zp (fQ (i:=((base.length+eH.length:Nat):Int)) (j:=1) (r:=((base.length+eH.length:Nat):Int)-1) rfl kq kq rfl oq) (zf (za s ?_)));refine EW.fill (LU wk p (((base.length+eH.length:Nat):Int)-1)) kq ?_;intro x0;refine EW.block ?_;refine EW.mono (EW.dS (Q:=fun e X d=>e=.exit 0∧BE d b (fc nb ns.length c) (l++bT ns eH)∧vI b wk s d∧∃w,d.get wk=some (nE (fc nb ns.length c) w b)∧cR d w base) (fun m X d=>m≤eH.length∧BE d b (fc nb ns.length c) (l++bT ns (eH.drop m))∧vI b wk s d∧(∃w,d.get wk=some (nE (fc nb ns.length c) w b)∧cR d w (base++eH.take m))∧∃x,X=LU wk p (((base.length+m:Nat):Int)-1) x) ?_ eH.length _ _ ⟨lr,by simpa[bT] using h,vI.refl b wk s,⟨v,ab,by simpa using hv⟩,x0,rfl⟩) ?_
 ·rintro m X d ⟨b5,I,J,⟨w,U,H⟩,x,rfl⟩;have Xm:=I;by_cases hm:0<m
  ·obtain⟨m,rfl⟩:∃m',m=m'+1:=⟨m-1,oq⟩;have K:m<eH.length:=oq
   have ao:eH[m]?=some eH[m]:=gE K;have⟨ah,ag⟩:=aq _ (List.getElem_mem K);have af:eH.drop m=eH[m]::eH.drop (m+1):=List.drop_eq_getElem_cons K;have aa:eH.take (m+1)=eH.take m++[eH[m]]:=by rw[List.take_add_one,ao];rfl
   generalize eH[m]=k at ao ah ag af aa;obtain⟨nx,ai⟩:∃x,ns[k]?=some x:=⟨ns[k],gE ag⟩;have S:G4 ns k=nx.name:=by unfold G4;rw[ai]
   have a5:bT ns (eH.drop m)=bT ns (eH.drop (m+1))++nN ns k:=by rw[af,vX]
   have ax:=vY ns eH m;rw[a5,lA] at ax;have MM:(nN ns k).length=nx.name.length+3:=by simp[nN,S]
   have⟨b3,pb,b8,a6,_⟩:=I;have⟨Xs,YW,UK,Ya,_⟩:=h;have N:BE d b (fc nb ns.length c) (l++bT ns (eH.drop (m+1))):=Xm;have SX:=(J.2 nb az (jL Z Ya dq) (jL Z ab dq) (dC Z dq)).trans Z;have W:wk<d.nx:=by have:=J.1;omega
   obtain⟨a,cp,q,o,rfl,aw,aj,C,Y⟩:∃a cp q o,w=.slice (sq a) (base.length+(m+1)) cp∧base.length+(m+1)≤cp∧a<d.nx∧d.get a=some (.cells q 3 o)∧∀i k:Nat,(base++eH.take (m+1))[i]?=some k→q[i]?=some (num (k:Nat)):=by
    have G:(base++eH.take (m+1)).length=base.length+(m+1):=by rw[lA,List.length_take];omega
    rcases H with ⟨_,e2⟩|⟨a,cp,q,o,e1,e2,e3,e4,e5⟩
    ·rw[e2] at G;simp at G
    ·exact⟨a,cp,q,o,by rw[e1,G],oq,e3,e4,e5⟩
   have L:q[base.length+m]?=some (num (k:Nat)):=Y _ _ (by rw[aa,← List.append_assoc,List.getElem?_append_right (by rw[lA,List.length_take];omega),lA,List.length_take,show base.length+m-(base.length+min m eH.length)=0 by omega];rfl);have⟨A,O,M,D⟩:=Ms (pr:=pr) hp N SX ai (by rw[lA];omega) b1;rw[show l++bT ns (eH.drop (m+1))++([60,47]++nx.name++[62])=l++bT ns (eH.drop m) by rw[a5];unfold nN;rw[S];simp only[List.append_assoc]] at M;have z:=(D.2 wk W (jL U a6 dq) (dC U dq)).trans U;have F:=(D.2 a aj (jL C a6 dq) (dC C dq)).trans C;have XN:=bL (P:=prog) (t:=133) underlying133 rfl U (off:=2) rfl;have Od:=bL (P:=prog) (t:=25) underlying25 rfl U (off:=1) rfl;have SR:=bL (P:=prog) (t:=3) underlying3 rfl C L;rw[show((base.length+(m+1):Nat):Int)-1=((base.length+m:Nat):Int) by omega];generalize hT:base.length+m=T at *;rw[show base.length+(m+1)=T+1 by omega] at *;generalize U4:fc nb ns.length c=B at *;refine EW.seq (zr (zk 1 (zp (yb (num (T:Nat)) (num 0) (iQ (b:=true) (tD oq))) (zg 4 d (zp (yl wk 1 (.slice (sq a) (T+1) cp) U) (zk 1 (zp (yi a 0 (T+1) cp T none .i64 (T:Nat) 1 oq oq oq) (zo d (zp (bP (b:=a) (off:=T) (v:=num (k:Nat)) rfl underlying3 rfl kq C L) (zk 1 (zp (yb (num (k:Nat)) (num p) (ca (b:=true) (bne_iff_ne.2 ah))) (zf (za d (zT (EW.seq (EW.block (EW.seq (EW.draw kq kq kq ?_))))))))))))))))));iterate 3 refine zq ?_
   refine zt d (zu (yl wk 2 (.func (.func 83) #[am b 0] #[]) U) ?_);iterate 3 refine zq ?_
   refine zt d (zu (yl wk 1 (.slice (sq a) (T+1) cp) U) (zq (zu (yi a 0 (T+1) cp T none .i64 (T:Nat) 1 oq oq oq) (zt d (zu (bP (b:=a) (off:=T) (v:=num (k:Nat)) rfl underlying3 rfl kq C L) (zt d (ET.call (f:=.tmp 29) (g:=83) (first:=#[am b 0]) (cap:=#[]) (args:=#[am b 0,num (k:Nat)]) kq rfl rfl kq kq kq O (ET.nil ⟨aK [(aC prog 133 (am wk 2) d,.func (.func 83) #[am b 0] #[]),(aC prog 25 (am wk 1) d,.slice (sq a) (T+1) cp),(aC prog 3 (am a T) d,num (k:Nat))] kq (uh ⟨XN,rfl⟩ ⟨Od,rfl⟩ ⟨SR,rfl⟩),_,_,_,_,_,_,rfl,rfl,?_⟩))))))));refine za A (zx (zg 4 A (zp (yl wk 1 (.slice (sq a) (T+1) cp) z) (zg 1 A (zp (qz (b:=a) (off:=0) (n:=T+1) (cp:=cp) (i:=0) (j:=T) (sz:=1) rfl underlying25 kq F kq ((show _=bH (T+1) cp none (some (num (T:Nat))) by kernel_rfl).trans ((p9 oq oq).trans (by rw[Int.toNat_natCast]))) oq) (zg 2 A (zp (ys wk 1 (.slice (sq a) T cp) z iq) (EO.nil (za (A.set wk (some (nE B (.slice (sq a) T cp) b))) ?_)))))))));have au:BE (A.set wk (some (nE B (.slice (sq a) T cp) b))) b B (l++bT ns (eH.drop m)):=M.set (jL U a6 dq) (dC z dq);have XF:vI b wk s (A.set wk (some (nE B (.slice (sq a) T cp) b))):=(J.trans D.u).trans vI.H3;have V:(A.set wk (some (nE B (.slice (sq a) T cp) b))).get wk=some (nE B (.slice (sq a) T cp) b):=by rw[AS.aH,ip rfl]
   have ak:(A.set wk (some (nE B (.slice (sq a) T cp) b))).get a=some (.cells q 3 o):=by rw[AS.aH,iw (jL C U dq)];exact F
   have al:a<(A.set wk (some (nE B (.slice (sq a) T cp) b))).nx:=by have:=D.1;simp;omega
   generalize A.set wk (some (nE B (.slice (sq a) T cp) b))=s3 at *;refine zx (zk 1 (zp (fQ (i:=(T:Nat)) (j:=1) (r:=((T:Nat):Int)-1) rfl kq kq rfl oq) (zf ?_)));refine⟨m,Nat.lt_succ_self m,oq,au,XF,⟨_,V,.inr ⟨a,cp,q,o,by rw[lA,List.length_take,show base.length+min m eH.length=T by omega],by rw[lA,List.length_take];omega,al,ak,fun i k' R=>Y i k' ?_⟩⟩,aN kq⟩;rw[aa,← List.append_assoc];have Ob:i<(base++eH.take m).length:=(gS.1 R).1;rw[List.getElem?_append_left Ob];exact R
  ·obtain rfl:m=0:=oq
   rw[List.take_zero,List.append_nil] at H;rw[List.drop_zero] at I;rcases a8 with rfl|⟨y,E,rfl,ay⟩
   ·refine EW.seq (zr (zf (za d (zG (EW.exit ?_)))));exact⟨rfl,I,J,w,U,H⟩
   ·have b2:=H;obtain⟨a,cp,q,o,rfl,aw,aj,C,Y⟩:∃a cp q o,w=.slice (sq a) (y.length+1) cp∧y.length+1≤cp∧a<d.nx∧d.get a=some (.cells q 3 o)∧∀i k:Nat,(y++[E])[i]?=some k→q[i]?=some (num (k:Nat)):=by
     have G:(y++[E]).length=y.length+1:=iq
     rcases H with ⟨_,e2⟩|⟨a,cp,q,o,e1,e2,e3,e4,e5⟩
     ·rw[e2] at G;simp at G
     ·exact⟨a,cp,q,o,by rw[e1,G],oq,e3,e4,e5⟩
    have L:q[y.length]?=some (num (E:Nat)):=Y _ _ (by rw[List.getElem?_append_right lr,Nat.sub_self];rfl);rw[show(((y++[E]).length+0:Nat):Int)-1=((y.length:Nat):Int) by simp];generalize hT:y.length=T at *;generalize U4:fc nb ns.length c=B at *;refine EW.seq (zr (zk 1 (zp (yb (num (T:Nat)) (num 0) (iQ (b:=true) (tD oq))) (zg 4 d (zp (yl wk 1 (.slice (sq a) (T+1) cp) U) (zk 1 (zp (yi a 0 (T+1) cp T none .i64 (T:Nat) 1 oq oq oq) (zo d (zp (bP (b:=a) (off:=T) (v:=num (E:Nat)) rfl underlying3 rfl kq C L) (zk 1 (zp (yb (num (E:Nat)) (num p) (ca (b:=false) (by rw[ay];simp))) (zf (za d (zG (EW.exit ?_)))))))))))))));exact⟨rfl,I,J,_,U,b2⟩
 ·rintro e X d ⟨rfl,I,J,H⟩;exact⟨.inl rfl,kq,I,J,H⟩
end
section
variable {pr:Prim}{s:AS}
def JF(z:pr 164=none){v:Value}(H:s.get nb=some (.cells (bC ns) 44 fz))(u:s.get wk=some (nE (fc nb ns.length c) v b))(P:wk<s.nx)(y:ns[i]?=some x)(C:x.cells.all Value.oneCell'=true)(O:ns.length≤100000)(A:pr 265=none)(N:0<i)(E:x.kind=1∨x.kind=2)(I:cR s v eL)(t:eL≠[])(M:eL.length≤100000):∃p,Ef pr 164 #[am wk 0,num (i:Nat)] s (.bool true) p∧(∀U d,BE s b U d→BE p b U d)∧hY b s p:=by
 have L:0<eL.length:=List.length_pos_iff.2 t;obtain⟨q,j,o⟩:∃q j,v=.slice q eL.length j:=by
  rcases I with ⟨_,e2⟩|⟨ob,j,cs,OX,e1,_⟩
  ·exact absurd e2 t
  ·exact⟨_,j,e1⟩
 have S:i<ns.length:=(gS.1 y).1;have⟨m,k⟩:=ju y;have g:(s.add cL).get s.nx=some cL:=by rw[AS.aG,ip rfl]
 have G:((s.add cL).set s.nx (some (.cells x.cells.toArray 44))).get s.nx=some (.cells x.cells.toArray 44):=by rw[AS.aH,ip rfl]
 have D:hY b s ((s.add cL).set s.nx (some (.cells x.cells.toArray 44))):=(hY.add b s _).set lr;have l:∀U d,BE s b U d→BE ((s.add cL).set s.nx (some (.cells x.cells.toArray 44))) b U d:=fun U d h=>(h.add _).set (by have:=h.1;omega) (dC g dq);have f:((s.add cL).set s.nx (some (.cells x.cells.toArray 44))).get wk=some (nE (fc nb ns.length c) v b):=by rw[AS.aH,iw oq,AS.aG,iw oq];exact u
 refine EF.gq z func164 rfl ?_;refine zs (zr (zg 3 s (zp (yl wk 0 (fc nb ns.length c) u) ?_)));generalize R:ns.length=K at *;refine zg 1 s (zp (yi nb 0 K c (i*5) none .i64 (i:Nat) 5 oq oq oq) (zo s (zp (gX (b:=nb) (off:=i*5) (n:=5) (r:=x.cells.toArray) rfl underlying44 rfl kq kq H m k) (zg 1 (s.add cL) (zp (ep (b:=s.nx) (off:=0) (w:=.agg x.cells.toArray) (ws:=x.cells) rfl kq kq rfl C kq g (by simp[bv.cells])) (EO.nil (za ((s.add cL).set s.nx (some (.cells x.cells.toArray 44))) ?_)))))));generalize (s.add cL).set s.nx (some (.cells x.cells.toArray 44))=e at *;generalize Q:s.nx=B at *;have a:Ef pr 265 #[num x.kind] e (.bool true) e:=by rcases E with hk|hk<;>rw[hk]<;>exact EF.of A func265 rfl (EW.xt 20 .ret kq ⟨.inr rfl,kq,kq⟩)
 generalize F:x.kind=J at *;refine EW.seq (zr (zk 1 (zp (yb (num (i:Nat)) (num 0) (gP (b:=false) (bF.2 oq))) (EO.nil (zF (za e (zr (zg 3 e (zp (yl wk 1 v f) ?_)))))))));rw[o];refine zk 1 (zp (yb (num (eL.length:Nat)) (num 0) (e0 (b:=true) (tD oq))) (zg 2 e (zp (bP (b:=B) (off:=0) (v:=num J) rfl underlying3 rfl kq G (by show some (num x.kind)=_;rw[F])) (zc 0 a (zf (za e ?_))))));exact EW.ret ⟨.inr rfl,kq,l,D⟩
def JE(q:pr 164=none){v:Value}(D:s.get nb=some (.cells (bC ns) 44 fz))(m:s.get wk=some (nE (fc nb ns.length c) v b))(G:wk<s.nx)(p:ns[i]?=some x)(u:x.cells.all Value.oneCell'=true)(F:ns.length≤100000)(E:i=0)(z:x.kind=1)(A:x.name=[104,116,109,108])(C:x.parent = -1):∃l,Ef pr 164 #[am wk 0,num (i:Nat)] s (.bool true) l∧(∀U a,BE s b U a→BE l b U a)∧hY b s l:=by
 have t:((i:Nat):Int)=0:=oq
 have J:i<ns.length:=(gS.1 p).1;have⟨k,g⟩:=ju p;have d:(s.add cL).get s.nx=some cL:=by rw[AS.aG,ip rfl]
 have f:((s.add cL).set s.nx (some (.cells x.cells.toArray 44))).get s.nx=some (.cells x.cells.toArray 44):=by rw[AS.aH,ip rfl]
 have y:hY b s ((s.add cL).set s.nx (some (.cells x.cells.toArray 44))):=(hY.add b s _).set lr;have j:∀U a,BE s b U a→BE ((s.add cL).set s.nx (some (.cells x.cells.toArray 44))) b U a:=fun U a h=>(h.add _).set (by have:=h.1;omega) (dC d dq);have o:((s.add cL).set s.nx (some (.cells x.cells.toArray 44))).get wk=some (nE (fc nb ns.length c) v b):=by rw[AS.aH,iw oq,AS.aG,iw oq];exact m
 refine EF.gq q func164 rfl ?_;refine zs (zr (zg 3 s (zp (yl wk 0 (fc nb ns.length c) m) ?_)));generalize I:ns.length=K at *;refine zg 1 s (zp (yi nb 0 K c (i*5) none .i64 (i:Nat) 5 oq oq oq) (zo s (zp (gX (b:=nb) (off:=i*5) (n:=5) (r:=x.cells.toArray) rfl underlying44 rfl kq kq D k g) (zg 1 (s.add cL) (zp (ep (b:=s.nx) (off:=0) (w:=.agg x.cells.toArray) (ws:=x.cells) rfl kq kq rfl u kq d (by simp[bv.cells])) (EO.nil (za ((s.add cL).set s.nx (some (.cells x.cells.toArray 44))) ?_)))))));generalize (s.add cL).set s.nx (some (.cells x.cells.toArray 44))=e at *;generalize H:s.nx=B at *;refine EW.seq (zr (zk 1 (zp (yb (num (i:Nat)) (num 0) (gP (b:=true) (by rw[t];rfl))) (EO.nil (zH (za e (zr (zg 1 e (zp (bP (b:=B) (off:=0) (v:=num 1) rfl underlying3 rfl kq f (by show some (num x.kind)=_;rw[z])) (zg 3 e (zp (bP (b:=B) (off:=2) (v:=str [104,116,109,108]) rfl underlying9 rfl kq f (by show some (str x.name)=_;rw[A])) (zg 4 e (zp (bP (b:=B) (off:=1) (v:=num (-1)) rfl underlying3 rfl kq f (by show some (num x.parent)=_;rw[C])) (zf (za e ?_)))))))))))))));exact EW.ret ⟨.inr rfl,kq,j,y⟩
end
def G7 (o:Option Obj):Prop:=∀cs fz,o≠some (.cells cs 3 fz)
def kS(h:o=some (.cells cs t fz))(U:t≠3):G7 o:=fun a b e=>by
 rw[h] at e;injection e with q
 injection q with _ q2
 exact U q2
def tZ (b wk:Nat)(s s':AS):Prop:=s.nx≤s'.nx∧∀k,k<s.nx→k≠b→k≠wk→Ej (s.get k)→G7 (s.get k)→s'.get k=s.get k
def tZ.trans(h:tZ b wk s s1)(U:tZ b wk s1 s2):tZ b wk s s2:=⟨lT h.1 U.1,fun k f c d a h3=>by have e:=h.2 k f c d a h3;rw[U.2 k (by have:=h.1;omega) c d (by rw[e];exact a) (by rw[e];exact h3),e]⟩
def vI.v(h:vI b wk s s1):tZ b wk s s1:=⟨h.1,fun k c a d U _=>h.2 k c a d U⟩
def cR.fr{v:Value}(h:cR s v eL)(c:BE s b nd l)(e:s.get wk=some (.cells cw 209 fw))(a:vI b wk s s'):cR s' v eL:=by
 rcases h with h|⟨ob,cp,cs,fz,e1,e2,e3,U,e5⟩
 ·exact .inl h
 ·have⟨_,p,f,d,_⟩:=c;exact .inr ⟨ob,cp,cs,fz,e1,e2,by have:=a.1;omega,(a.2 ob e3 (jL U d dq) (jL U e dq) (dC U dq)).trans U,e5⟩
def HF{v:Value}(h:cR s v eL)(i:Nat)(n:eL.length≤100000):∃a b,bn prog 3 v [num (i:Nat)] 1 s=some (a,b)∧s.nx≤b.nx∧cR b a (eL++[i])∧(∀k,k<s.nx→G7 (s.get k)→b.get k=s.get k)∧a.cells=#[a]∧a.oneCell'=true:=by
 rcases h with ⟨rfl,rfl⟩|⟨ob,cp,cs,fz,rfl,a4,a5,a1,a0⟩
 ·refine⟨_,_,gk dq,iq,.inr ⟨s.nx,1,_,_,rfl,iq,iq,by rw[AS.aG,ip rfl],fun j k U=>?_⟩,fun k U _=>by rw[AS.aG,iw oq],rfl,rfl⟩;rw[List.nil_append] at U;match j with
  | 0=>simp only[List.getElem?_cons_zero,Option.some.injEq] at U;subst U;rfl
  | j+1=>simp at U
 ·have l:eL.length≤cs.size:=by
   by_cases m:eL.length=0
   ·omega
   ·have f:eL.length-1<eL.length:=oq
    have:=a0 _ _ (gE f)
    have:=(Array.getElem?_eq_some_iff.1 this).1;omega
  refine⟨_,_,fM (sz:=1) dq a1 kq oq oq,iq,.inr ⟨s.nx,_,_,_,by rw[lA];rfl,by rw[lA];exact lr,iq,by rw[AS.aG,ip iq],fun j k U=>?_⟩,fun k U h3=>?_,rfl,rfl⟩
  ·rw[Nat.mul_one,List.getElem?_toArray];have g:(cs.toList.take eL.length).length=eL.length:=by have c:cs.toList.length=cs.size:=Array.length_toList;rw[List.length_take];omega
   by_cases d:j<eL.length
   ·rw[List.getElem?_append_left d] at U;rw[List.getElem?_append_left oq,List.getElem?_take_of_lt d]
    have:=a0 j k U;simpa using this
   ·rw[List.getElem?_append_right oq] at U ⊢;rw[g];match c:j-eL.length with
    | 0 =>rw[c] at U;simp only[List.getElem?_cons_zero,Option.some.injEq] at U;subst U;rfl
    | q+1=>rw[c] at U;simp at U
  ·rw[AS.aG,iw (by simp;omega),AS.aH,iw (fun e=>by rw[e] at h3;exact h3 _ _ a1)]
def ea(p:Int)(eL:List Nat):List Nat:=(eL.reverse.dropWhile fun k=>decide (((k:Nat):Int)≠p)).reverse
def cU(p:Int)(eL:List Nat):List Nat:=(eL.reverse.takeWhile fun k=>decide (((k:Nat):Int)≠p)).reverse
def gx(p:Int)(a:List Nat):ea p a++cU p a=a:=by unfold ea cU;rw[← List.reverse_append,List.takeWhile_append_dropWhile,List.reverse_reverse]
def II{α:Type}{p:α→Bool}{x:α}:∀{l:List α},x∈l.takeWhile p→p x=true
 | [],h=>by simp at h
 | a::l,h=>by
  rw[List.takeWhile_cons] at h;split at h
  ·next U =>
   rcases List.mem_cons.1 h with rfl|h
   ·exact U
   ·exact II h
  ·simp at h
def Kv(h:k∈cU p eL):((k:Nat):Int)≠p:=by
 unfold cU at h;rw[List.mem_reverse] at h
 have:=II h;simpa using this
def Dz(p:Int)(a:List Nat):ea p a=[]∨∃b U,ea p a=b++[U]∧((U:Nat):Int)=p:=by
 unfold ea;cases hd:a.reverse.dropWhile fun k=>decide (((k:Nat):Int)≠p) with
 | nil=>exact .inl rfl
 | cons k r =>
  refine .inr ⟨r.reverse,k,by rw[List.reverse_cons],?_⟩
  have:=List.head?_dropWhile_not (fun k=>decide (((k:Nat):Int)≠p)) a.reverse;rw[hd] at this;simpa using this
structure RX where
 eL:List Nat
 tN:Bq
def stepW(ns:List bv)(out:Nat→Bq)(vd:Nat→Bool)(i:Nat)(w:RX):RX:=match ns[i]? with
 | some x=>⟨ea x.parent w.eL++(if x.kind=1∧vd i=false then [i] else []),w.tN++bT ns (cU x.parent w.eL)++out i⟩
 | none=>w
def dN (ns:List bv)(out:Nat→Bq)(vd:Nat→Bool):Nat→RX
 | 0=>⟨[],[]⟩
 | i+1=>stepW ns out vd i (dN ns out vd i)
def r9(h:k∈ea p eL):k∈eL:=by rw[← gx p eL];exact List.mem_append_left _ h
def tg(h:k∈cU p eL):k∈eL:=by rw[← gx p eL];exact List.mem_append_right _ h
def IW(ns:List bv)(out:Nat→Bq)(vd:Nat→Bool):∀i,(∀k∈(dN ns out vd i).eL,k<i)∧(dN ns out vd i).eL.length≤i
 | 0=>⟨by intro k U;simp[dN] at U,by simp[dN]⟩
 | i+1=>by
  have⟨h1,h2⟩:=IW ns out vd i;simp only[dN,stepW];split
  ·next x b =>
   have a:(ea x.parent (dN ns out vd i).eL).length≤(dN ns out vd i).eL.length:=by have:=congrArg List.length (gx x.parent (dN ns out vd i).eL);rw[lA] at this;omega
   refine⟨fun k U=>?_,?_⟩
   ·rcases List.mem_append.1 U with U|U
    ·have:=h1 k (r9 U);omega
    ·split at U
     ·rw[List.mem_singleton.1 U];omega
     ·simp at U
   ·rw[lA];split<;>simp<;>omega
  ·exact⟨fun k U=>by have:=h1 k U;omega,oq⟩
abbrev nD:Aq:=#[str [97,114,101,97],str [98,97,115,101],str [98,114],str [99,111,108],str [101,109,98,101,100],str [104,114],str [105,109,103],str [105,110,112,117,116],str [108,105,110,107],str [109,101,116,97],str [115,111,117,114,99,101],str [116,114,97,99,107],str [119,98,114]]
def NY{pr:Prim}(U:pr 138=none):Ef pr 138 #[] s (.slice (sq s.nx) 13 13) (s.add (.cells nD 9)):=EF.of U func138 rfl (EW.xt 9 .ret kq ⟨.inr rfl,kq,kq⟩)
end
section
open Go.Conc Go.RowKit Go.Lib Tryz
variable {s s' s0 s1:AS}{eL:List Nat}{b c k k2 n nb wk:Nat}{nd:Value}{l nm LZ:Bq}{ns:List bv}{fz:Nat × Nat}{out:Nat→Bq}{vd:Nat→Bool}{aI:jd}{bb cl wh:Bool}
abbrev OW(b:Nat):Value:=.func (.func 82) #[am b 0] #[]
abbrev JG(b:Nat):Value:=.func (.func 83) #[am b 0] #[]
def tw(nd:Value)(b wk K i:Nat)(x:Nq):TL:=[nd,OW b,JG b,x 3,x 4,x 5,.bool false,am wk 0,x 8,x 9,x 10,x 11,x 12,nd,num (K:Nat),num (i:Nat)]++iy x 16 34
structure I0(pr:Prim):Prop where
 w:Mb pr
 Nr:pr 163=none
 Ns:pr 164=none
 Qe:pr 265=none
 Qb:pr 138=none
 VE:pr 79=none
def En{v:Value}(h:cR s v eL)(a:s.nx≤k):dz v (sq k)=true:=by
 rcases h with ⟨rfl,_⟩|⟨d,cp,cs,fz,rfl,_,q,_⟩
 ·rfl
 ·show(!d.beq k)=true;cases U:d.beq k
  ·rfl
  ·exact absurd (Nat.eq_of_beq_eq_true U) oq
def cR.add{v:Value}(h:cR s v eL)(o:Obj):cR (s.add o) v eL:=by
 rcases h with h|⟨ob,cp,cs,fz,e1,U,e3,e4,e5⟩
 ·exact .inl h
 ·exact .inr ⟨ob,cp,cs,fz,e1,U,by simp;omega,by rw[AS.aG,iw oq];exact e4,e5⟩
def cR.set{v:Value}{o:Option Obj}(h:cR s v eL)(h3:G7 (s.get k)):cR (s.set k o) v eL:=by
 rcases h with h|⟨ob,cp,cs,fz,e1,e2,e3,U,e5⟩
 ·exact .inl h
 ·exact .inr ⟨ob,cp,cs,fz,e1,e2,by simpa using e3,by rw[AS.aH,iw (fun e=>by rw[e] at U;exact h3 _ _ U)];exact U,e5⟩
def BE.WG(h:BE s b nd l)(i:s.nx≤s'.nx)(a:∀k,k<s.nx→G7 (s.get k)→s'.get k=s.get k):BE s' b nd l:=by
 have⟨e,p,g,c,f,U⟩:=h;refine⟨oq,p,g,(a b e (kS c dq)).trans c,f,?_⟩;rcases U with h|⟨d,fz,q1,q2,q3⟩
 ·exact .inl h
 ·exact .inr ⟨d,fz,q1,oq,(a d q2 (kS q3 dq)).trans q3⟩
def hY.v(h:hY b s s1):tZ b wk s s1:=h.u.v
section
variable {pr:Prim}{s:AS}
structure vJ(pr:Prim)(s:AS)(ns:List bv)(out:Nat→Bq)(vd:Nat→Bool)(b nb c wk i:Nat)(x:bv):Prop where
 kind:x.kind=1∨x.kind=2
 root:i=0→x.kind=1∧x.name=[104,116,109,108]∧x.parent = -1
 Yy:0<i→ea x.parent (dN ns out vd i).eL≠[]
 one:x.cells.all Value.oneCell'=true
 len:(dN ns out vd i).tN.length+(bT ns (cU x.parent (dN ns out vd i).eL)).length+(out i).length≤700000
 Wt:∀s' l',tZ b wk s s'→BE s' b (fc nb ns.length c) l'→l'.length+(out i).length≤800000→∃KH,EF prog lF pr 82 #[am b 0,num (i:Nat)] s' (.tuple #[]) KH∧BE KH b (fc nb ns.length c) (l'++out i)∧hY b s' KH
 UM:x.kind=1→∀(s':AS) (d:Nat),s'.get d=some (.cells nD 9)→EF prog lF pr 127 #[str x.name,.slice (some ⟨d,0,none⟩) 13 13] s' (.bool (vd i)) s'
def EH(hp:I0 pr){i:Nat}{x:bv}{v:Value}{y:Nq}{Q:Exit→TL→AS→Prop}(ag:tZ b wk s0 s)(hx:ns[i]?=some x)(a0:vJ pr s0 ns out vd b nb c wk i x)(h:BE s b (fc nb ns.length c) (dN ns out vd i).tN)(a4:s0.get nb=some (.cells (bC ns) 44 fz))(ba:nb<s0.nx)(b4:∃l0,BE s0 b (fc nb ns.length c) l0)(ab:nb≠wk)(au:s.get wk=some (nE (fc nb ns.length c) v b))(bm:wk<s.nx)(hv:cR s v (dN ns out vd i).eL)(ai:ns.length≤100000)
 (hq:∀s' v' y',tZ b wk s0 s'→BE s' b (fc nb ns.length c) (dN ns out vd (i+1)).tN→s'.get wk=some (nE (fc nb ns.length c) v' b)→wk<s'.nx→cR s' v' (dN ns out vd (i+1)).eL→Q .normal (tw (fc nb ns.length c) b wk ns.length (i+1) y') s'):∀cd,(match Tryz.f79.body with|some (.seq _ (.seq _ (.seq (.seq _ (.block _ (.loop cd))) _)))=>cd|_=>.skip)=cd→Ew pr cd (tw (fc nb ns.length c) b wk ns.length i y) s Q:=by
 rintro cd rfl;have hi:i<ns.length:=(gS.1 hx).1;obtain⟨JO,Xi⟩:=ju hx;have Yr:=IW ns out vd i;have Pt:dN ns out vd (i+1)=⟨ea x.parent (dN ns out vd i).eL++(if x.kind=1∧vd i=false then [i] else []),(dN ns out vd i).tN++bT ns (cU x.parent (dN ns out vd i).eL)++out i⟩:=by show stepW ns out vd i (dN ns out vd i)=_;unfold stepW;rw[hx]
 rw[Pt] at hq;simp only at hq;have bg:=a0.len;have SO:=a0.Yy;generalize hW:dN ns out vd i=W at *;obtain⟨l0,Su⟩:=b4;obtain⟨_,YW,UK,Tj,_⟩:=Su;have hn:s.get nb=some (.cells (bC ns) 44 fz):=(ag.2 nb ba (jL a4 Tj (by decide)) ab (dC a4 (by decide)) (kS a4 (by decide))).trans a4;have XV:nb<s.nx:=by have:=ag.1;omega
 have bi:=h.1;have MT:(s.add cL).get s.nx=some cL:=by rw[AS.aG,ip rfl]
 have ak:((s.add cL).set s.nx (some (.cells x.cells.toArray 44))).get s.nx=some (.cells x.cells.toArray 44):=by rw[AS.aH,ip rfl]
 have aq:BE ((s.add cL).set s.nx (some (.cells x.cells.toArray 44))) b (fc nb ns.length c) W.tN:=(h.add _).set (by omega) (dC MT (by decide));have Oa:hY b s ((s.add cL).set s.nx (some (.cells x.cells.toArray 44))):=(hY.add b s _).set lr;have X0:s.nx<((s.add cL).set s.nx (some (.cells x.cells.toArray 44))).nx:=by simp
 have aw:((s.add cL).set s.nx (some (.cells x.cells.toArray 44))).get wk=some (nE (fc nb ns.length c) v b):=by rw[AS.aH,iw (by omega),AS.aG,iw (by omega)];exact au
 have a5:((s.add cL).set s.nx (some (.cells x.cells.toArray 44))).get nb=some (.cells (bC ns) 44 fz):=by rw[AS.aH,iw (by omega),AS.aG,iw (by omega)];exact hn
 have bd:cR ((s.add cL).set s.nx (some (.cells x.cells.toArray 44))) v W.eL:=hv.fr (wk:=wk) h au Oa.u;have MP:=a0.one;refine zr (zp (yb (num (i:Nat)) (num (ns.length:Nat)) (aX (b:=true) (tD (by omega)))) (EO.nil (EW.seq (zT (EW.seq (EW.block (za s (zr (zg 1 s (zp (yi nb 0 ns.length c (i*5) none .i64 (i:Nat) 5 (by omega) (by omega) (by omega)) (zo s (zp (gX (b:=nb) (off:=i*5) (n:=5) (r:=x.cells.toArray) rfl underlying44 rfl (by kernel_rfl) (by kernel_rfl) hn JO Xi) (zg 2 (s.add cL) (zp (ep (b:=s.nx) (off:=0) (w:=.agg x.cells.toArray) (ws:=x.cells) rfl (by kernel_rfl) (by kernel_rfl) rfl MP (by kernel_rfl) MT (by simp[bv.cells])) (EO.nil (za ((s.add cL).set s.nx (some (.cells x.cells.toArray 44))) ?_))))))))))))))));generalize (s.add cL).set s.nx (some (.cells x.cells.toArray 44))=s1 at *;generalize hB:s.nx=B at *;have Sq:B≠b:=by omega
 have b2:B≠wk:=by omega
 have ax:wk<s1.nx:=by omega
 have aa:nb<s1.nx:=by omega
 have ao:=gx x.parent W.eL;have Sz:=congrArg List.length ao;rw[lA] at Sz;obtain⟨s2,hE,wE,zW,v2,D5,Vl⟩:=uM (pr:=pr) hp.w hp.Nr (p:=x.parent) (base:=ea x.parent W.eL) (eH:=cU x.parent W.eL) aq a5 aa aw ax (by rw[ao];exact bd) (fun k hk=>⟨Kv hk,by have:=Yr.1 k (tg hk);omega⟩) (Dz _ _) (by omega) ai (by omega);have JM:=(zW.2 B (by omega) Sq b2 (dC ak (by decide))).trans ak;have Vf:=(zW.2 nb aa (fun e=>by obtain⟨_,p,sl,hs,_⟩:=aq;exact jL a5 hs (by decide) e) ab (dC a5 (by decide))).trans a5;have MQ:wk<s2.nx:=by have:=zW.1;omega
 have b5:(ea x.parent W.eL).length≤100000:=by omega
 obtain⟨s3,hF,al,a1⟩:∃s',Ef pr 164 #[am wk 0,num (i:Nat)] s2 (.bool true) s'∧(∀az l',BE s2 b az l'→BE s' b az l')∧hY b s2 s':=by
  by_cases ar:i=0
  ·obtain⟨r1,r2,r3⟩:=a0.root ar;exact JE (pr:=pr) hp.Ns Vf D5 MQ hx MP ai ar r1 r2 r3
  ·exact JF (pr:=pr) hp.Ns Vf D5 MQ hx MP ai hp.Qe (by omega) a0.kind Vl (SO (by omega)) b5
 have ae:=al _ _ wE;have Sv:=wE;obtain⟨_,pb2,Y6,Tk,_⟩:=wE;have JP:=(a1.2 wk MQ (jL D5 Tk (by decide)) (dC D5 (by decide))).trans D5;have O7:=(a1.2 B (by have:=zW.1;omega) Sq (dC JM (by decide))).trans JM;have Tt:wk<s3.nx:=by have:=a1.1;omega
 have be:cR s3 v2 (ea x.parent W.eL):=Vl.fr (wk:=wk) Sv D5 a1.u;have U9:tZ b wk s0 s3:=((ag.trans Oa.v).trans zW.v).trans a1.v;obtain⟨U,hG,O5,Lz⟩:=a0.Wt s3 _ U9 ae (by rw[lA];omega);have Sw:=ae;obtain⟨Xt,pb3,Y7,Tl,_⟩:=ae;have Px:=(Lz.2 wk Tt (jL JP Tl (by decide)) (dC JP (by decide))).trans JP;have yH:=(Lz.2 B (by have:=zW.1;have:=a1.1;omega) Sq (dC O7 (by decide))).trans O7;have Tu:wk<U.nx:=by have:=Lz.1;omega
 have bh:B<U.nx:=by have:=zW.1;have:=a1.1;have:=Lz.1;omega
 have a6:tZ b wk s0 U:=U9.trans Lz.v;have Pw:=a0.UM;have Pk:=a0.kind;have Vm:cR U v2 (ea x.parent W.eL):=be.fr (wk:=wk) Sw JP Lz.u;have Yh:W.tN++bT ns (cU x.parent W.eL)++out i=W.tN++bT ns (cU x.parent W.eL)++out i:=rfl;generalize U4:fc nb ns.length c=nd at *;generalize hK:ns.length=K at *;generalize Xs:ea x.parent W.eL=bs at *;generalize Z7:W.tN++bT ns (cU x.parent W.eL)++out i=tx at *;have D2:∀(a8:TL) (s8:AS) (v8:Value),(∃y',a8=tw nd b wk K i y')→tZ b wk s0 s8→BE s8 b nd tx→s8.get wk=some (nE nd v8 b)→wk<s8.nx→cR s8 v8 (bs++(if x.kind=1∧vd i=false then [i] else []))→Ew pr (match Tryz.f79.body with|some (.seq _ (.seq _ (.seq (.seq _ (.block _ (.loop (.seq _ (.seq _ (.seq _ cd)))))) _)))=>cd|_=>.skip) a8 s8 Q:=by
  rintro a8 s8 v8 ⟨y',rfl⟩ q1 q2 q3 q4 q5;refine EW.mono (Q:=fun e a' b1=>e=.normal∧b1=s8∧∃y',a'=tw nd b wk K (i+1) y') ?_ ?_
  ·refine zx (zp (yp (i:Nat) 1 ((i+1:Nat):Int) (by omega) (by omega)) (zf ?_));exact⟨rfl,by kernel_rfl,aN (by kernel_rfl)⟩
  ·rintro e a' b1 ⟨rfl,rfl,y2,rfl⟩;exact hq _ v8 y2 q1 q2 q3 q4 q5
 refine zr (zg 1 s1 (zp (yl B 1 (num x.parent) ak) (zc 0 hE (EO.nil (za s2 (EW.seq (zr (zc 1 hF (zf (za s3 (zF (zr (zg 2 s3 (yc #[am b 0] #[] hG (EO.nil (za U ?_))))))))))))))));have bj:=bL (P:=prog) (t:=3) underlying3 rfl yH (off:=0) rfl;have SR:=bL (P:=prog) (t:=9) underlying9 rfl yH (off:=2) rfl;rcases Pk with Oc|SP
 ·have a7:x.cells.toArray[0]?=some (num 1):=by show some (num x.kind)=_;rw[Oc]
  have a2:=bL (P:=prog) (t:=3) underlying3 rfl yH a7;have Yk:=Pw Oc (U.add (.cells nD 9)) U.nx (by rw[AS.aG,ip rfl]);have Yl:=NY (pr:=pr) (s:=U) hp.Qb;have SD:(U.add (.cells nD 9)).get B=some (.cells x.cells.toArray 44):=by rw[AS.aG,iw (by omega)];exact yH
  have b9:=bL (P:=prog) (t:=9) underlying9 rfl SD (off:=2) (v:=str x.name) rfl;have JQ:(U.add (.cells nD 9)).get wk=some (nE nd v2 b):=by rw[AS.aG,iw (by omega)];exact Px
  have af:=O5.add (.cells nD 9);have Rc:=Vm.add (.cells nD 9);have U8:tZ b wk s0 (U.add (.cells nD 9)):=a6.trans (hY.add b U _).v;have Tv:wk<(U.add (.cells nD 9)).nx:=by simp;omega
  generalize bk:U.add (.cells nD 9)=s5 at *;generalize bl:vd i=vv at *;refine EW.seq (EW.draw (by kernel_rfl) (by kernel_rfl) (by kernel_rfl) ?_);refine zq (zt U (zu (bP (b:=B) (off:=0) (v:=num 1) rfl underlying3 rfl (by kernel_rfl) yH a7) ?_));iterate 3 refine zq ?_
  refine zt U (zu (yl B 2 (str x.name) yH) (zt U (yt Yl (yt Yk ?_))));iterate 2 refine zq ?_
  refine ET.nil ⟨aK [(aC prog 3 (am B 0) U,num 1),(aC prog 9 (am B 2) U,str x.name),(aC prog 9 (am B 2) s5,str x.name)] (by kernel_rfl) (uh ⟨a2,rfl⟩ ⟨SR,rfl⟩ ⟨b9,rfl⟩),_,_,_,_,_,_,rfl,rfl,?_⟩;refine za s5 ?_;cases vv with
  | true =>refine zF ?_;exact D2 _ _ v2 (aN (by kernel_rfl)) U8 af JQ Tv (by rw[iw (by simp),List.append_nil];exact Rc)
  | false =>
   have b7:(s5.add (.cells #[num (i:Nat)] 3)).get s5.nx=some (.cells #[num (i:Nat)] 3):=by rw[AS.aG,ip rfl]
   obtain⟨v7,s7,b3,aj,bf,ah,b6,bc⟩:=HF (Rc.add (.cells #[num (i:Nat)] 3)) i (by omega);have Py:(s5.add (.cells #[num (i:Nat)] 3)).get wk=some (nE nd v2 b):=by rw[AS.aG,iw (by omega)];exact JQ
   have ay:wk<(s5.add (.cells #[num (i:Nat)] 3)).nx:=by simp;omega
   have a3:=(ah wk ay (kS Py (by decide))).trans Py;have Xn:=(af.add (.cells #[num (i:Nat)] 3)).WG aj ah;have Xk:=En Rc (k:=s5.nx) lr;have Sx:=af;obtain⟨_,pb5,Y8,Tm,_⟩:=Sx;have Yp:wk≠b:=jL JQ Tm (by decide);have Tx:s5.nx≤s7.nx:=lT (by simp) aj;have SI:tZ b wk s5 s7:=by
    refine⟨Tx,fun k hk _ _ _ h3=>?_⟩;have e:(s5.add (.cells #[num (i:Nat)] 3)).get k=s5.get k:=by rw[AS.aG,iw (by omega)]
    rw[ah k (by simp;omega) (by rw[e];exact h3),e]
   have b8:tZ b wk s0 s7:=U8.trans SI;refine zH (zx (zg 1 s5 (zp (yl wk 1 v2 JQ) (zg 2 (s5.add (.cells #[num (i:Nat)] 3)) (zp (Cx (sl:=v2) (z:=num 0) (w:=num (i:Nat)) (d:=s5.nx) (k:=1) (bytes:=8) rfl (by kernel_rfl) (by kernel_rfl) underlying25 (by kernel_rfl) rfl (by decide) (by kernel_rfl) b7 Xk rfl b3) (zg 1 s7 (zp (gC (b:=wk) (off:=1) (w:=v7) rfl (by kernel_rfl) (by kernel_rfl) b6 bc (by kernel_rfl) a3 (by simp)) (EO.nil ?_))))))));refine D2 _ (s7.set wk (some (nE nd v7 b))) v7 (aN (by kernel_rfl)) (b8.trans vI.H3.v) (Xn.set Yp (dC a3 (by decide))) (by rw[AS.aH,ip rfl]) (by have:=aj;simp;omega) ?_;rw[ip ⟨Oc,rfl⟩];exact bf.set (kS a3 (by decide))
 ·have a9:x.cells.toArray[0]?=some (num 2):=by show some (num x.kind)=_;rw[SP]
  have a2:=bL (P:=prog) (t:=3) underlying3 rfl yH a9;refine EW.seq (EW.draw (by kernel_rfl) (by kernel_rfl) (by kernel_rfl) ?_);refine zq (zt U (zu (bP (b:=B) (off:=0) (v:=num 2) rfl underlying3 rfl (by kernel_rfl) yH a9) ?_));iterate 2 refine zq ?_
  iterate 5 refine ET.pass (by kernel_rfl) ?_
  refine zq (ET.nil ⟨aK [(aC prog 3 (am B 0) U,num 2)] (by kernel_rfl) (fun z hz=>by rw[List.mem_singleton.1 hz];exact⟨a2,rfl⟩),_,_,_,_,_,_,rfl,rfl,?_⟩);refine za U (zF ?_);exact D2 _ _ v2 (aN (by kernel_rfl)) a6 O5 Px Tu (by rw[iw (by rw[SP];simp),List.append_nil];exact Vm)
end
abbrev pR:Obj:=.cells #[.slice none 0 0,.slice none 0 0,.nilFunc] 209
section
variable {pr:Prim}{s:AS}
def NS(n:I0 pr)(h:BE s b (fc nb ns.length c) [])(g:s.get nb=some (.cells (bC ns) 44 fz))(F:nb<s.nx)(G:ns.length≤100000)(a7:0<ns.length)(L:∀i x,ns[i]?=some x→vJ pr s ns out vd b nb c s.nx i x)(a6:(dN ns out vd ns.length).tN.length+(bT ns (dN ns out vd ns.length).eL).length≤800000) :
  ∃a,Ef pr 79 #[fc nb ns.length c,OW b,JG b] s (.bool true) a∧BE a b (fc nb ns.length c) ((dN ns out vd ns.length).tN++bT ns (dN ns out vd ns.length).eL)∧tZ b s.nx s a:=by
 have a9:=h.1;have j:(s.add pR).get s.nx=some pR:=by rw[AS.aG,ip rfl]
 have M:((s.add pR).set s.nx (some (nE (fc nb ns.length c) (.slice none 0 0) b))).get s.nx=some (nE (fc nb ns.length c) (.slice none 0 0) b):=by rw[AS.aH,ip rfl]
 have J:BE ((s.add pR).set s.nx (some (nE (fc nb ns.length c) (.slice none 0 0) b))) b (fc nb ns.length c) []:=(h.add _).set oq (dC j dq);have u:tZ b s.nx s ((s.add pR).set s.nx (some (nE (fc nb ns.length c) (.slice none 0 0) b))):=((hY.add b s _).set lr).v;have D:s.nx<((s.add pR).set s.nx (some (nE (fc nb ns.length c) (.slice none 0 0) b))).nx:=iq
 refine EF.gq n.VE func79 rfl ?_;refine zs (zr (zg 4 (s.add pR) (zp (ep (b:=s.nx) (off:=0) (w:=.agg #[fc nb ns.length c,.slice none 0 0,JG b]) (ws:=[fc nb ns.length c,.slice none 0 0,JG b]) rfl kq kq rfl rfl kq j iq) (EO.nil (za ((s.add pR).set s.nx (some (nE (fc nb ns.length c) (.slice none 0 0) b))) ?_)))));generalize (s.add pR).set s.nx (some (nE (fc nb ns.length c) (.slice none 0 0) b))=W at *;refine EW.seq (zs (za W ?_));refine EW.fill (tw (fc nb ns.length c) b s.nx ns.length 0) kq ?_;intro Y;refine EW.block ?_;refine EW.mono (EW.dS (Q:=fun e f a=>e=.exit 0∧tZ b s.nx s a∧BE a b (fc nb ns.length c) (dN ns out vd ns.length).tN∧(∃U,a.get s.nx=some (nE (fc nb ns.length c) U b)∧cR a U (dN ns out vd ns.length).eL)∧s.nx<a.nx∧∃y,f=tw (fc nb ns.length c) b s.nx ns.length ns.length y) (fun m f a=>∃i,i+m=ns.length∧tZ b s.nx s a∧BE a b (fc nb ns.length c) (dN ns out vd i).tN∧(∃U,a.get s.nx=some (nE (fc nb ns.length c) U b)∧cR a U (dN ns out vd i).eL)∧s.nx<a.nx∧∃y,f=tw (fc nb ns.length c) b s.nx ns.length i y) ?_ ns.length _ _ ⟨0,oq,u,J,⟨_,M,.inl ⟨rfl,rfl⟩⟩,D,Y,rfl⟩) ?_
 ·rintro m f a ⟨i,aa,d,l,⟨U,q,o⟩,r,y,rfl⟩;by_cases hm:0<m
  ·have P:i<ns.length:=oq
   have H:ns[i]?=some ns[i]:=gE P;refine EH n d H (L i _ H) l g F ⟨[],h⟩ oq q r o G (fun E I Z q1 q2 q3 q4 V=>?_) _ rfl;exact⟨m-1,oq,i+1,oq,q1,q2,⟨I,q3,V⟩,q4,Z,rfl⟩
  ·obtain rfl:i=ns.length:=oq
   generalize O:ns.length=K at *;generalize a8:fc nb K c=nd at *;refine zr (zp (yb (num (K:Nat)) (num (K:Nat)) (aX (b:=false) (fD oq))) (EO.nil (za a (EW.seq (zG (EW.exit ?_))))));exact⟨rfl,d,l,⟨U,q,o⟩,r,aN kq⟩
 ·rintro e f a ⟨rfl,d,l,⟨U,q,o⟩,r,y,rfl⟩;have C:=IW ns out vd ns.length;have⟨_,pb,X,B,_⟩:=h;have A:=(d.2 nb F (jL g B dq) oq (dC g dq) (kS g dq)).trans g;have⟨E,N,t,z,I,T,S⟩:=uM (pr:=pr) n.w n.Nr (p := -1) (base:=[]) (eH:=(dN ns out vd ns.length).eL) l A (by have:=d.1;omega) q r (by simpa using o) (fun k R=>⟨oq,C.1 k R⟩) (.inl rfl) oq G (by simp;omega);generalize (dN ns out vd ns.length).tN++bT ns (dN ns out vd ns.length).eL=tx at *;generalize O:ns.length=K at *;refine zr (zc 0 N (EO.nil (za E (zr (zk 2 (zp (yb (num (K:Nat)) (num 0) (e0 (b:=true) (tD oq))) (zf (za E ?_))))))));exact EW.ret ⟨.inr rfl,kq,t,d.trans z.v⟩
end
abbrev ja:Obj:=.cells #[.slice none 0 0,.pointer none,.slice none 0 0] 135
section
variable {pr:Prim}{s:AS}
def ES(j:pr 84=none)(h:BE s b nd l)(f:l≠[])(u:l.length≤1000000):∃i,Ef pr 84 #[am b 1] s (str l) i∧hY b s i:=by
 have⟨q,p,w,a,v,U⟩:=h;rcases U with ⟨_,U⟩|⟨d,fz,rfl,q3,q5⟩
 ·exact absurd U f
 obtain⟨c,l,rfl⟩:∃c o,l=c::o:=by
  cases l with
  | nil=>exact absurd rfl f
  | cons c l=>exact⟨c,l,rfl⟩
 refine EF.gq j func84 rfl ?_;refine zs (EW.seq (EW.draw kq kq kq ?_));iterate 3 refine zq ?_
 refine zt s (zu (yl b 2 (.slice (sq d) (c::l).length (c::l).length) a) ?_);iterate 4 refine zq ?_
 refine zt s (zu (yl b 2 (.slice (sq d) (c::l).length (c::l).length) a) (zq (zt s (zu (wY (d:=d) (l:=c::l) (e:=5) (fz:=fz) rfl kq kq kq q5 kq iq oq) (zq ?_)))));have m:=bL (P:=prog) (t:=55) underlying55 rfl a (off:=2) rfl;refine ET.nil ⟨aK [(aC prog 55 (am b 2) s,.slice (sq d) (c::l).length (c::l).length),(aC prog 55 (am b 2) s,.slice (sq d) (c::l).length (c::l).length)] kq (by simp[bu,m]),_,_,_,_,_,_,rfl,rfl,?_⟩;refine EW.ret ⟨.inr rfl,kq,?_⟩;refine⟨lr,fun k r n g=>?_⟩;show(s.set d none).get k=_;rw[AS.aH,iw (fun e=>by rw[e] at g;exact g _ _ q5)]
def E7(K:I0 pr)(t:pr 84=none)(r:pr 46=none)(q:pr 28=none)(J:s.get nb=some (.cells (bC ns) 44 fz))(z:nb<s.nx)(B:ns.length≤100000)(p:0<ns.length)
 (C:∀e:AS,s.nx<e.nx→(∀k,k<s.nx→e.get k=s.get k)→∀i x,ns[i]?=some x→vJ pr e ns out vd s.nx nb c e.nx i x)(o:(dN ns out vd ns.length).tN.length+(bT ns (dN ns out vd ns.length).eL).length≤800000)(A:(dN ns out vd ns.length).tN++bT ns (dN ns out vd ns.length).eL≠[]) :
  ∃d,Ef pr 28 #[fc nb ns.length c] s (.tuple #[str ((dN ns out vd ns.length).tN++bT ns (dN ns out vd ns.length).eL),num 0]) d∧s.nx≤d.nx∧∀k,k<s.nx→Ej (s.get k)→G7 (s.get k)→d.get k=s.get k:=by
 have F:(s.add ja).get s.nx=some ja:=by rw[AS.aG,ip rfl]
 have G:((s.add ja).set s.nx (some (.cells #[fc nb ns.length c,.pointer none,.slice none 0 0] 135))).get s.nx=some (.cells #[fc nb ns.length c,.pointer none,.slice none 0 0] 135):=by rw[AS.aH,ip rfl]
 have D:((s.add ja).set s.nx (some (.cells #[fc nb ns.length c,.pointer none,.slice none 0 0] 135))).nx=s.nx+1:=rfl;have a:∀k,k<s.nx→((s.add ja).set s.nx (some (.cells #[fc nb ns.length c,.pointer none,.slice none 0 0] 135))).get k=s.get k:=fun k n=>by rw[AS.aH,iw oq,AS.aG,iw oq]
 have u:BE ((s.add ja).set s.nx (some (.cells #[fc nb ns.length c,.pointer none,.slice none 0 0] 135))) s.nx (fc nb ns.length c) []:=⟨by rw[D];omega,_,_,G,.inl rfl,.inl ⟨rfl,rfl⟩⟩;have f:∃d,Ef pr 46 #[fc nb ns.length c] s (.tuple #[str ((dN ns out vd ns.length).tN++bT ns (dN ns out vd ns.length).eL),.bool true]) d∧s.nx≤d.nx∧∀k,k<s.nx→Ej (s.get k)→G7 (s.get k)→d.get k=s.get k:=by
  refine EF.gq r func46 rfl ?_;refine zs (zr (zg 3 (s.add ja) (zp (ep (b:=s.nx) (off:=0) (w:=.agg #[fc nb ns.length c,.pointer none,.slice none 0 0]) (ws:=[fc nb ns.length c,.pointer none,.slice none 0 0]) rfl kq kq rfl rfl kq F iq) (EO.nil (za ((s.add ja).set s.nx (some (.cells #[fc nb ns.length c,.pointer none,.slice none 0 0] 135))) ?_)))));generalize (s.add ja).set s.nx (some (.cells #[fc nb ns.length c,.pointer none,.slice none 0 0] 135))=e at *;have⟨g,I,v,U⟩:=NS (pr:=pr) K u ((a nb z).trans J) oq B p (C e oq a) o;have h:((dN ns out vd ns.length).tN++bT ns (dN ns out vd ns.length).eL).length≤1000000:=by rw[lA];omega
  generalize N:s.nx=b at *;generalize (dN ns out vd ns.length).tN++bT ns (dN ns out vd ns.length).eL=M at *;have⟨L,H,j⟩:=ES (pr:=pr) t v A h;refine EW.seq (zr (zc 3 I (zf (za g (zF (zr (zc 1 H (zf (za L (EW.ret ⟨.inr rfl,kq,by have:=U.1;have:=j.1;omega,fun k n m h3=>?_⟩))))))))));have e1:=a k n;have l:=U.2 k oq oq oq (by rw[e1];exact m) (by rw[e1];exact h3);rw[j.2 k (by have:=U.1;omega) oq (by rw[l,e1];exact m),l,e1]
 have⟨g,h2,E,y⟩:=f;generalize (dN ns out vd ns.length).tN++bT ns (dN ns out vd ns.length).eL=M at *;refine EF.gq q func28 rfl ?_;refine zs (zr (zc 1 h2 (zf (za g ?_))));iterate 2 refine zs ?_
 refine za g ?_;exact EW.ret ⟨.inr rfl,kq,E,y⟩
end
section
variable {pr:Prim}{s:AS}
def nW(U:pr 127=bB 127){lJ:List (Bq)}{d:Nat}(e:s.get d=some (.cells (lJ.map str).toArray 9 fz))(f:lJ.length≤1000)(a:(lJ.any fun t=>aY nm t)=bb):Ef pr 127 #[str nm,.slice (sq d) lJ.length c] s (.bool bb) s:=by
 have b:eh s 1 (sq d) lJ.length=some (lJ.map str):=by unfold eh;simp only;rw[e];simp;exact tL iq
 refine EF.rC (U.trans rfl) ?_;simp only[b];rw[ip ⟨oq,by rw[List.all_map,aT];intro x _;rfl⟩,List.any_map,← a];rfl
end
structure Tok where
 kind:Int
 text:Bq
 name:Bq
 bU:jd
 closed:Bool
def Oz (s:AS)(t:eV)(u:Tok):Prop:=t.kind=u.kind∧t.text=u.text∧t.name=u.name∧t.closed=u.closed∧bY s t.at_ u.bU
def gh(s:AS)(ts:List eV)(us:List Tok):Prop:=ts.length=us.length∧∀(i:Nat) (t:eV) (u:Tok),ts[i]?=some t→us[i]?=some u→Oz s t u
def C4 (rn c:Nat)(s:AS)(k:Nat)(tx:Bq)(us:List Tok):Prop:=∃ts,SC rn c s k tx ts∧gh s ts us
def pY (rn c:Nat)(s:AS):Prop:=Has s 1 (.cells db.toArray 335)∧rn<s.nx∧c≠1
section
variable {rn c k:Nat}{s s':AS}{tx:Bq}{ts:List eV}{us:List Tok}
def gh.fr(h:gh s ts us)(j:SC rn c s k tx ts)(g:gn c s s'):gh s' ts us:=⟨h.1,fun i t u l m=>by
 have⟨h1,h2,h3,f,U⟩:=h.2 i t u l m;refine⟨h1,h2,h3,f,U.fk g.1 fun b a=>?_⟩;rcases U with ⟨e,_⟩|⟨d,cp,fz,e,q1,q2⟩
 ·rw[e] at a;exact(cz a).elim
 ·rw[e] at a;rw[cY a];exact j.no (⟨q1,q2⟩:Has s d _) dq dq dq⟩
def gh.snoc{t:eV}{u:Tok}(h:gh s ts us)(a:Oz s t u):gh s (ts++[t]) (us++[u]):=⟨by simp[h.1],fun i b c h1 h2=>by
 by_cases U:i<ts.length
 ·rw[List.getElem?_append_left U] at h1;rw[List.getElem?_append_left (by rw[← h.1];exact U)] at h2;exact h.2 i b c h1 h2
 ·rw[List.getElem?_append_right oq] at h1;rw[List.getElem?_append_right (by rw[← h.1];omega),← h.1] at h2;match hq:i-ts.length with
  | 0=>rw[hq] at h1 h2;cases h1;cases h2;exact a
  | q+1=>rw[hq] at h1;simp at h1⟩
def pY.fr(h:pY rn c s)(a:SC rn c s k tx ts)(U:gn c s s'):pY rn c s':=⟨h.1.fr U.1 (a.no h.1 dq dq dq),by have:=h.2.1;have:=U.1.1;omega,h.2.2⟩
def iB (tx:Bq)(us:List Tok):List Tok:=if tx=[] then us else us++[⟨1,tx,[],[],false⟩]
def gh.qh(h:gh s ts us):gh s (qh tx ts) (iB tx us):=by
 unfold YtgcaionclkbehaaGreatDoor.qh iB;split
 ·exact h
 ·exact h.snoc ⟨rfl,rfl,rfl,rfl,.inl ⟨rfl,rfl⟩⟩
variable {pr:Prim}
def bX(nm:Bq)(l:List (Bq)):Bool:=l.any fun t=>aY nm t
abbrev n7:List (Bq):=[[115,99,114,105,112,116],[115,116,121,108,101]]
abbrev eG:List (Bq):=[[116,105,116,108,101],[116,101,120,116,97,114,101,97]]
def Ql(U:pr 127=bB 127)(b:pr 250=none)(nm:Bq):Ef pr 250 #[str nm] s (.bool (bX nm n7)) (s.add (.cells (n7.map str).toArray 9)):=by have a:=nW (pr:=pr) (s:=s.add (.cells (n7.map str).toArray 9)) U (nm:=nm) (lJ:=n7) (d:=s.nx) (c:=2) (Has.new s _).2 dq (bb:=bX nm n7) rfl;generalize bX nm n7=bb at a ⊢;refine EF.of b func250 rfl ?_;refine zs (zr (zc 2 a (zf ?_)));exact yR
def CG(U:pr 127=bB 127)(b:pr 251=none)(nm:Bq):Ef pr 251 #[str nm] s (.bool (bX nm eG)) (s.add (.cells (eG.map str).toArray 9)):=by have a:=nW (pr:=pr) (s:=s.add (.cells (eG.map str).toArray 9)) U (nm:=nm) (lJ:=eG) (d:=s.nx) (c:=2) (Has.new s _).2 dq (bb:=bX nm eG) rfl;generalize bX nm eG=bb at a ⊢;refine EF.of b func251 rfl ?_;refine zs (zr (zc 2 a (zf ?_)));exact yR
def M7(U:pr 247=none){r:Int}(a : -1≤r∧r≤1114111):Ef pr 247 #[.int .i32 r] s (.int .i32 (lG r)) s:=by
 unfold lG;refine EF.of (U) func247 rfl ?_;refine zs (EW.seq (zr (zk 1 ?_)));by_cases h1:65≤r
 ·refine zp (yb (.int .i32 65) (.int .i32 r) (di (b:=true) (tD h1))) (zk 2 ?_);by_cases h2:r≤90
  ·rw[ip ⟨h1,h2⟩];refine zp (yb (.int .i32 r) (.int .i32 90) (di (b:=true) (tD h2))) (zf (zH (zr (zg 1 s (EO.op (v:=.int .i32 (r-65)) (s1:=s) kq ((show _=some (Value.int .i32 (iO .i32 (r-65)),s) by kernel_rfl).trans (by rw[rW oq])) (zo s (EO.op (v:=.int .i32 (r+32)) (s1:=s) kq ((show _=some (Value.int .i32 (iO .i32 (r-65+97)),s) by kernel_rfl).trans (by rw[rW oq,show r-65+97=r+32 by omega])) (zf ?_))))))));exact EW.ret ⟨.inr rfl,kq,kq⟩
  ·rw[iw oq];refine zp (yb (.int .i32 r) (.int .i32 90) (di (b:=false) (fD h2))) (zf (zF (zs ?_)));exact EW.ret ⟨.inr rfl,kq,kq⟩
 ·rw[iw oq];refine zp (yb (.int .i32 65) (.int .i32 r) (di (b:=false) (fD h1))) (zf (zF (zs ?_)));exact EW.ret ⟨.inr rfl,kq,kq⟩
def iH(l:Int):Bool:=decide (97≤lG l)&&decide (lG l≤122)
def nX(a:pr 147=none)(c:pr 247=none){l:Int}(d : -1≤l∧l≤1114111):Ef pr 147 #[.int .i32 l] s (.bool (iH l)) s:=by
 have U:=M7 (pr:=pr) (s:=s) c d;unfold iH;generalize lG l=r at U ⊢;refine EF.of a func147 rfl ?_;refine zs (zr (zc 1 U (zf (za s (zr (zk 1 ?_))))));by_cases h1:97≤r
 ·rw[tD h1,Bool.true_and];refine zp (yb (.int .i32 97) (.int .i32 r) (di (b:=true) (tD h1))) (zk 2 (zp (yb (.int .i32 r) (.int .i32 122) (di (b:=decide (r≤122)) rfl)) ?_));generalize decide (r≤122)=e;refine zf ?_;exact yR
 ·rw[fD h1,Bool.false_and];refine zp (yb (.int .i32 97) (.int .i32 r) (di (b:=false) (fD h1))) (zf ?_);exact yR
abbrev qc(c:Nat):Obj:=.cells #[am c 0] 196
variable {all:Iq}{p q r:Value}
def Mo(m:pr 71=none)(f:pr 70=none)(U:pr 146=dl rn all 146)(h:pr 147=none)(i:pr 247=none)(h1:Has s c (fK rn k p q r))(t:k≤900000)(j:dx all k=60)(o : -1≤dx all (k+1)∧dx all (k+1)≤1114111)(n:iH (dx all (k+1))=true):Ef pr 71 #[am c 0] s (.func (.func 148) #[am c 0] #[]) (s.add (qc c)):=by have g:=h1.add (qc c);have b:=Has.new s (qc c);have d:=iP (rn:=rn) (all:=all) (pr:=pr) (s:=s.add (qc c)) f U (p:=0) g.2 rfl rfl oq;have e:=iP (rn:=rn) (all:=all) (pr:=pr) (s:=s.add (qc c)) f U (p:=1) g.2 rfl rfl oq;have a:=nX (pr:=pr) (s:=s.add (qc c)) h i o;rw[n] at a;rw[Nat.add_zero,j] at d;generalize dx all (k+1)=l at e a;refine EF.of m func71 rfl ?_;refine zs (za (s.add (qc c)) ?_);generalize s.add (qc c)=S at *;refine EW.seq (zr (zp (yl s.nx 0 (am c 0) b.2) (zc 0 d (zf (za S (zF (EW.seq (zr (zp (yl s.nx 0 (am c 0) b.2) (zc 0 e (zf (za S (EW.block (zr (zc 1 a (zf (za S (zH (zr (zp (yl s.nx 0 (am c 0) b.2) (zf ?_)))))))))))))))))))));exact EW.ret ⟨.inr rfl,kq,kq⟩
def Mn(x:pr 71=none)(u:pr 149=none)(f:pr 70=none)(e:pr 146=dl rn all 146)(j:pr 147=none)(m:pr 247=none)(h1:Has s c (fK rn k p q r))(B:k≤900000)(w:dx all k=60)(v:dx all (k+1)=47)(A : -1≤dx all (k+2)∧dx all (k+2)≤1114111)(z:iH (dx all (k+2))=true):Ef pr 71 #[am c 0] s (.func (.func 253) #[am c 0] #[]) ((s.add (qc c)).add (qc c)):=by
 have g:=h1.add (qc c);have h:=Has.new s (qc c);have n:=iP (rn:=rn) (all:=all) (pr:=pr) (s:=s.add (qc c)) f e (p:=0) g.2 rfl rfl oq;have o:=iP (rn:=rn) (all:=all) (pr:=pr) (s:=s.add (qc c)) f e (p:=1) g.2 rfl rfl oq;have y:=nX (pr:=pr) (s:=s.add (qc c)) j m (l:=47) dq;rw[Nat.add_zero,w] at n;rw[v] at o;have t:Ef pr 149 #[am c 0] (s.add (qc c)) (.func (.func 253) #[am c 0] #[]) ((s.add (qc c)).add (qc c)):=by generalize s.add (qc c)=S at *;have i:=g.add (qc c);have d:=Has.new S (qc c);have b:=iP (rn:=rn) (all:=all) (pr:=pr) (s:=S.add (qc c)) f e (p:=2) i.2 rfl rfl oq;have a:=nX (pr:=pr) (s:=S.add (qc c)) j m A;rw[z] at a;generalize dx all (k+2)=l at b a;refine EF.of u func149 rfl ?_;refine zs (za (S.add (qc c)) ?_);generalize S.add (qc c)=U at *;refine EW.seq (zr (zp (yl S.nx 0 (am c 0) d.2) (zc 0 b (zf (za U (EW.block (zr (zc 1 a (zf (za U (zH (zr (zp (yl S.nx 0 (am c 0) d.2) (zf ?_))))))))))))));exact EW.ret ⟨.inr rfl,kq,kq⟩
 refine EF.of x func71 rfl ?_;refine zs (za (s.add (qc c)) ?_);generalize s.add (qc c)=S at *;refine EW.seq (zr (zp (yl s.nx 0 (am c 0) h.2) (zc 0 n (zf (za S (zF (EW.seq (zr (zp (yl s.nx 0 (am c 0) h.2) (zc 0 o (zf (za S (EW.block (zr (zc 1 y (zf (za S (zG (zs (za S (zH (zr (zp (yl s.nx 0 (am c 0) h.2) (zc 0 t (zf ?_)))))))))))))))))))))))));exact EW.ret ⟨.inr rfl,kq,kq⟩
end
structure tT(rn:Nat)(all:Iq)(lo:Bq→Bq)(wr:Bq→Int→Bq)(T:Bq→Prop)(W:Bq→Int→Prop)(pr:Prim):Prop where
 h:Rp rn all lo wr T W pr
 Kr:pr 127=bB 127
 Nb:pr 147=none
 Nc:pr 247=none
 PN:pr 250=none
 Nf:pr 251=none
 lv:∀l∈all,l≤1114111
section
variable {rn c k k':Nat}{s s':AS}{tx:Bq}{ts:List eV}{us:List Tok}{p q r:Value}
def SC.mv(h1:Has s c (fK rn k p q r))(h2:p=.pointer none∨p=am c 2)(h3:BG s q tx)(h:qL s r ts)(f:aP (fun b=>b=c) s s')(U:Has s' c (fK rn k' p q r)):SC rn c s' k' tx ts∧gn c s s':=by refine⟨⟨p,q,r,U,h2,h3.imp id fun ⟨d,g,e1,a⟩=>⟨d,g,e1,a.fr f (a.ne h1 dq)⟩,h.imp id fun ⟨d,g,e1,a⟩=>⟨d,g,e1,a.fr f (a.ne h1 dq)⟩⟩,gn.mk' h1 U ⟨f.1,fun b i j=>f.2 b i fun e=>j (.inl e)⟩ (.inl rfl) (.inl rfl)⟩
variable {all:Iq}{pr:Prim}{lo:Bq→Bq}{wr:Bq→Int→Bq}{T:Bq→Prop}{W:Bq→Int→Prop}
def tT.at(U:tT rn all lo wr T W pr)(k:Nat) : -1≤dx all k∧dx all k≤1114111:=by
 rcases U.h.g.at k with e|e
 ·rw[e];decide
 ·exact⟨by have:=U.h.g.pos _ e;omega,U.lv _ e⟩
def IC(hp:tT rn all lo wr T W pr){w:Nat}(hk:k+w≤all.length)(hT:T (dQ all (k+w) (g9 all dJ (k+w))))(a0:uu all lo wr n (g9 all dJ (k+w)) []=some (aI,cl,wh,k'))(a3:nk all lo wr T W n (g9 all dJ (k+w)))(h:C4 rn c s k tx us)(he:pY rn c s) :
  ∃U av,Ef pr 248 #[am c 0] (s.set c (match s.get c with|some (.cells cs t fz)=>some (.cells (cs.set! 1 (num ((k+w:Nat):Int))) t fz)|o=>o)) (.tuple #[.agg #[str (if wh then lo (dQ all (k+w) (g9 all dJ (k+w))) else []),av,.bool cl],.bool wh]) U∧C4 rn c U k' tx us∧pY rn c U∧bY U av aI∧gn c s U:=by
 obtain⟨ts,⟨p,q,r,h1,h2,h3,h4⟩,hm⟩:=h;have Vi:SC rn c s k tx ts:=⟨p,q,r,h1,h2,h3,h4⟩;have e:s.set c (match s.get c with|some (.cells cs t fz)=>some (.cells (cs.set! 1 (num ((k+w:Nat):Int))) t fz)|o=>o)=sp s c rn p q r (k+w):=by rw[h1.2];rfl
 rw[e];have a1:Has (sp s c rn p q r (k+w)) c (fK rn (k+w) p q r):=h1.put _;have a2:Has (sp s c rn p q r (k+w)) 1 (.cells db.toArray 335):=he.1.set (Ne.symm he.2.2) _;have⟨U,av,g1,g2,g3,g4,g5,g6⟩:=Qx hp.h hk hT a0 a3 a1 he.2.2 a2 he.2.1;have hf:aP (fun b=>b=c) s U:=(aP.set (K:=fun b=>b=c) (aP.refl s) (fun _=>rfl) _).trans g4 fun b _ z=>z;have⟨m1,m2⟩:=SC.mv h1 h2 h3 h4 hf g2;exact⟨U,av,g1,⟨ts,m1,hm.fr Vi m2⟩,he.fr Vi m2,g3,m2⟩
def Iy(U:tT rn all lo wr T W pr)(hk:k+1≤all.length)(hT:T (dQ all (k+1) (g9 all dJ (k+1))))(a4:lo (dQ all (k+1) (g9 all dJ (k+1)))=nm)(a3:uu all lo wr n (g9 all dJ (k+1)) []=some (aI,cl,true,k'))(a5:nk all lo wr T W n (g9 all dJ (k+1)))(h:C4 rn c s k tx us)(he:pY rn c s)(hx:tx.length≤500000)(hu:us.length≤500000)(a2:bX nm n7=false)(F:(bX nm eG=false∧k2=k'∧LZ=[])∨(bX nm eG=true∧∀S Z,C4 rn c S k' [] Z→pY rn c S→∃D,Ef pr 252 #[am c 0,str nm] S (.tuple #[]) D∧C4 rn c D k2 LZ Z∧gn c S D)) :
  ∃O,Ef pr 148 #[am c 0] s (.tuple #[]) O∧C4 rn c O k2 LZ (iB tx us++[⟨2,[],nm,aI,cl⟩])∧gn c s O:=by
 have a6:=U.h.g.len;have⟨a,av,M,m1,m2,N,X⟩:=IC U hk hT a3 a5 h he;obtain⟨ts0,⟨p0,q0,r0,h1,_⟩,_⟩:=h;rw[h1.2] at M;have⟨Y,KI,P⟩:=m1;rw[ip rfl,a4] at M;obtain⟨i,f,rfl⟩:=N.len;have m:=KI.add (gr nm (.slice i aI.length f) cl);have o:=Has.new a (gr nm (.slice i aI.length f) cl);have r:=gn.add KI (gr nm (.slice i aI.length f) cl);have H:gh (a.add (gr nm (.slice i aI.length f) cl)) Y us:=P.fr KI r;have I:bY (a.add (gr nm (.slice i aI.length f) cl)) (.slice i aI.length f) aI:=N.fk ((aP.refl (K:=fun _=>False) a).add _) fun _ _=>id;have hZ:=Has.new a (gr [] aD false);have x:(a.add (gr [] aD false)).set a.nx (some (gr nm (.slice i aI.length f) cl))=a.add (gr nm (.slice i aI.length f) cl):=AS.set_set (⟨a.hp,a.nx+1⟩:AS) a.nx (some (gr [] aD false)) (some (gr nm (.slice i aI.length f) cl));generalize a.add (gr nm (.slice i aI.length f) cl)=q at m o r H I x;have l:=N.m9;have⟨A,y,C,p⟩:=Lp U.h.g.no m oq (by have:=H.1;omega) ⟨2,[],nm,(.slice i aI.length f),cl⟩ l.2.2.1 l.2.1;have Q:=o.fr p.1 (m.no o dq dq dq);have c4:gh A (qh tx Y++[⟨2,[],nm,(.slice i aI.length f),cl⟩]) (iB tx us++[⟨2,[],nm,aI,cl⟩]):=by
  refine gh.snoc ((H.fr m p).qh) ⟨rfl,rfl,rfl,rfl,I.fk p.1 fun b z=>?_⟩;rcases I with ⟨e,_⟩|⟨d,f,fz,e,q1,q2⟩
  ·rw[e] at z;exact(cz z).elim
  ·rw[e] at z;rw[cY z];exact m.no (⟨q1,q2⟩:Has q d _) dq dq dq
 have G:=Ql (pr:=pr) (s:=A) U.Kr U.PN nm;rw[a2] at G;have t:=C.add (.cells (n7.map str).toArray 9);have u:=gn.add C (.cells (n7.map str).toArray 9);have R:=c4.fr C u;have J:=Q.add (.cells (n7.map str).toArray 9);generalize A.add (.cells (n7.map str).toArray 9)=E at G t u R J;have j:=CG (pr:=pr) (s:=E) U.Kr U.Nf nm;have e1:=t.add (.cells (eG.map str).toArray 9);have v:=gn.add t (.cells (eG.map str).toArray 9);have L:=R.fr t v;have V:=J.add (.cells (eG.map str).toArray 9);generalize E.add (.cells (eG.map str).toArray 9)=B at j e1 v L V;refine EF.gq (U.h.g.no 148 dq) func148 rfl ?_;refine zr (zg 3 s (zp (yl c 1 (num (k:Nat)) h1.2) (zp (yp (k:Nat) 1 ((k+1:Nat):Int) oq oq) (zg 2 s (zp (ys c 1 (num ((k+1:Nat):Int)) h1.2 iq) (EO.nil (zr (zc 1 M (zg 4 (a.add (gr [] aD false)) (zp (ep (b:=a.nx) (off:=0) (w:=.agg #[str nm,(.slice i aI.length f),.bool cl]) (ws:=[str nm,(.slice i aI.length f),.bool cl]) rfl kq kq rfl (by show((str nm).oneCell'&&((Value.slice i aI.length f).oneCell'&&((Value.bool cl).oneCell'&&true)))=true;rw[l.2.2.1];rfl) kq hZ.2 iq) (zf (za ((a.add (gr [] aD false)).set a.nx (some (gr nm (.slice i aI.length f) cl))) ?_))))))))))));rw[x];refine EW.seq (zs (za q (zF (zr (zg 2 q (zp (yl a.nx 0 (str nm) o.2) (zg 1 q (zp (yl a.nx 1 (.slice i aI.length f) o.2) (zg 1 q (zp (yl a.nx 2 (.bool cl) o.2) (zc 1 y (EO.nil (zr (zg 1 A (zp (yl a.nx 0 (str nm) Q.2) (zc 0 G (zg 2 E (zp (yl a.nx 0 (str nm) J.2) ?_))))))))))))))))));rcases F with ⟨Of,rfl,rfl⟩|⟨Of,F⟩
 ·rw[Of] at j;refine zc 0 j (zf (za B (zF ?_)));exact⟨.inl rfl,kq,⟨_,e1,L⟩,(((X.trans r).trans p).trans u).trans v⟩
 ·rw[Of] at j;have⟨S6,w1,w2,w3⟩:=F B _ ⟨_,e1,L⟩ ((((m2.fr KI r).fr m p).fr C u).fr t v);refine zc 0 j (zf (za B (zH (zx (zg 2 B (zp (yl a.nx 0 (str nm) V.2) (zc 0 w1 (EO.nil ?_))))))));exact⟨.inl rfl,kq,w2,((((X.trans r).trans p).trans u).trans v).trans w3⟩
def OQ(i:tT rn all lo wr T W pr)(G:k+2≤all.length)(D:T (dQ all (k+2) (g9 all dJ (k+2))))(z:lo (dQ all (k+2) (g9 all dJ (k+2)))=nm)(U:uu all lo wr n (g9 all dJ (k+2)) []=some (aI,cl,true,k'))(A:nk all lo wr T W n (g9 all dJ (k+2)))(h:C4 rn c s k tx us)(F:pY rn c s)(N:tx.length≤500000)(M:us.length≤500000) :
  ∃q,Ef pr 253 #[am c 0] s (.tuple #[]) q∧C4 rn c q k' [] (iB tx us++[⟨3,[],nm,[],false⟩])∧gn c s q:=by have L:=i.h.g.len;have⟨a,d,o,H,O,I,J⟩:=IC i G D U A h F;obtain⟨K,⟨p0,q0,P,h1,_⟩,_⟩:=h;rw[h1.2] at o;have⟨x,KI,r⟩:=H;rw[ip rfl,z] at o;have j:=KI.add (gr nm d cl);have u:=Has.new a (gr nm d cl);have l:=gn.add KI (gr nm d cl);have m:gh (a.add (gr nm d cl)) x us:=r.fr KI l;have E:=Has.new a (gr [] aD false);have e:(a.add (gr [] aD false)).set a.nx (some (gr nm d cl))=a.add (gr nm d cl):=AS.set_set (⟨a.hp,a.nx+1⟩:AS) a.nx (some (gr [] aD false)) (some (gr nm d cl));generalize a.add (gr nm d cl)=t at j u l m e;have p:=I.m9;have⟨y,f,B,v⟩:=Lp i.h.g.no j oq (by have:=m.1;omega) ⟨3,[],nm,aD,false⟩ rfl rfl;have C:gh y (qh tx x++[⟨3,[],nm,aD,false⟩]) (iB tx us++[⟨3,[],nm,[],false⟩]):=gh.snoc ((m.fr j v).qh) ⟨rfl,rfl,rfl,rfl,.inl ⟨rfl,rfl⟩⟩;refine EF.gq (i.h.g.no 253 dq) func253 rfl ?_;refine zr (zg 3 s (zp (yl c 1 (num (k:Nat)) h1.2) (zp (yp (k:Nat) 2 ((k+2:Nat):Int) oq oq) (zg 2 s (zp (ys c 1 (num ((k+2:Nat):Int)) h1.2 iq) (EO.nil (zr (zc 1 o (zg 4 (a.add (gr [] aD false)) (zp (ep (b:=a.nx) (off:=0) (w:=.agg #[str nm,d,.bool cl]) (ws:=[str nm,d,.bool cl]) rfl kq kq rfl (by show((str nm).oneCell'&&(d.oneCell'&&((Value.bool cl).oneCell'&&true)))=true;rw[p.2.2.1];rfl) kq E.2 iq) (zf (za ((a.add (gr [] aD false)).set a.nx (some (gr nm d cl))) ?_))))))))))));rw[e];refine zs (za t (zH (zx (zg 2 t (zp (yl a.nx 0 (str nm) u.2) (zc 1 f (EO.nil ?_)))))));exact⟨.inl rfl,kq,⟨_,B,C⟩,(J.trans l).trans v⟩
end
def Ip(c k:Nat)(x:Nq):TL:=[am c 0,x 1,num (k:Nat)]++iy x 3 34
section
variable {rn c k k':Nat}{s s':AS}{tx:Bq}{ts:List eV}{us:List Tok}{p q r:Value}
variable {all:Iq}{pr:Prim}{lo:Bq→Bq}{wr:Bq→Int→Bq}{T:Bq→Prop}{W:Bq→Int→Prop}
def Ou (pr:Prim)(rn c:Nat)(tx:Bq)(ts:List eV)(k:Nat):Prop:=∀s1,SC rn c s1 k tx ts→∃s2,EF prog lF pr 71 #[am c 0] s1 .nilFunc s2∧SC rn c s2 k tx ts∧gn c s1 s2
def I9 (pr:Prim)(rn c:Nat)(tx:Bq)(ts:List eV)(k:Nat)(f:FuncId):Prop:=∀s1,SC rn c s1 k tx ts→∃s2,EF prog lF pr 71 #[am c 0] s1 (.func (.func f) #[am c 0] #[]) s2∧SC rn c s2 k tx ts∧gn c s1 s2
def FW(U:tT rn all lo wr T W pr)(d:k≤900000)(h:dx all k≠60):Ou pr rn c tx ts k:=by intro e a;have b:=a;have⟨p,q,r,h1,_⟩:=b;exact⟨_,FZ (U.h.g.no 70 dq) (U.h.g.no 71 dq) U.h.g.y5 h1.1 h1.2 rfl rfl oq h,a.add _,gn.add a _⟩
def BM(U:tT rn all lo wr T W pr)(e:k≤900000)(h:dx all k=60)(d:iH (dx all (k+1))=true):I9 pr rn c tx ts k 148:=by intro f a;have b:=a;have⟨p,q,r,h1,_⟩:=b;exact⟨_,Mo (U.h.g.no 71 dq) (U.h.g.no 70 dq) U.h.g.y5 U.Nb U.Nc h1 e h (U.at _) d,a.add _,gn.add a _⟩
def BN(U:tT rn all lo wr T W pr)(f:k≤900000)(h:dx all k=60)(d:dx all (k+1)=47)(e:iH (dx all (k+2))=true):I9 pr rn c tx ts k 253:=by intro i a;have b:=a;have⟨p,q,r,h1,_⟩:=b;exact⟨_,Mn (U.h.g.no 71 dq) (U.h.g.no 149 dq) (U.h.g.no 70 dq) U.h.g.y5 U.Nb U.Nc h1 f h d (U.at _) e,(a.add _).add _,(gn.add a _).trans (gn.add (a.add _) _)⟩
def SC.ahead(U:xo rn all pr)(h:SC rn c s k tx ts)(a:k≤900000):Ef pr 70 #[am c 0,num 0] s (.int .i32 (dx all k)) s:=by
 have⟨p,q,r,h1,_⟩:=h
 have:=gK (s:=s) (c:=c) (p:=p) (q:=q) (r:=r) U (k:=k) oq;rw[mX h1.2] at this;exact this
def Ld(y:tT rn all lo wr T W pr){m:Nat}(Y:k+m≤150000)(J:∀j,j<m→dx all (k+j) ≠ -1∧Ou pr rn c tx ts (k+j))(I:dx all (k+m) = -1∨(dx all (k+m) ≠ -1∧∃f,I9 pr rn c tx ts (k+m) f))(L:W (dQ all k (k+m)) 0)(h:SC rn c s k tx ts)(M:pY rn c s)(O:tx.length+(wr (dQ all k (k+m)) 0).length≤1000000) :
  ∃d,Ef pr 72 #[am c 0] s (.tuple #[]) d∧SC rn c d (k+m) (tx++wr (dQ all k (k+m)) 0) ts∧gn c s d:=by
 have K:=h;have⟨p,q,r,h1,_⟩:=K;refine EF.gq (y.h.g.no 72 dq) func72 rfl ?_;refine zr (zg 3 s (zp (yl c 1 (num (k:Nat)) h1.2) (zf (za s ?_))));refine EW.fill (Ip c k) kq ?_;intro X;refine EW.seq (EW.block ?_);refine EW.mono (EW.dS (Q:=fun e z d=>e=.exit 0∧SC rn c d (k+m) tx ts∧gn c s d∧∃x,z=Ip c k x) (fun u z d=>∃j,u+j=m∧SC rn c d (k+j) tx ts∧gn c s d∧∃x,z=Ip c k x) ?_ m _ _ ⟨0,oq,h,gn.refl s,X,rfl⟩) ?_
 ·rintro u z S ⟨j,Z,i,o,x,rfl⟩;have a:=i.ahead y.h.g oq;by_cases N:j<m
  ·have⟨B,G⟩:=J j N;have⟨n,F,U,A⟩:=G S i;have⟨p,q,r,q1,q2,q3,q4⟩:=U;generalize dx all (k+j)=l at a B;refine EW.seq (zr (zc 1 a (zp (yb (.int .i32 l) (.int .i32 (-1)) (ca (b:=true) (bne_iff_ne.2 B))) (zc 2 F (zf (za n (zT (EW.block (zx (zg 3 n (zp (yl c 1 (num ((k+j:Nat):Int)) q1.2) (zp (yp ((k+j:Nat):Int) 1 ((k+(j+1):Nat):Int) oq oq) (zg 2 n (zp (ys c 1 (num ((k+(j+1):Nat):Int)) q1.2 iq) (EO.nil ?_)))))))))))))));exact⟨u-1,oq,j+1,oq,SC.sp (k':=k+(j+1)) q1 q2 q3 q4,(o.trans A).trans (gn.sp q1),aN kq⟩
  ·obtain rfl:j=m:=oq
   rcases I with e|⟨B,f,G⟩
   ·rw[e] at a;refine EW.seq (zr (zc 1 a (zf (za S (zG (EW.exit ?_))))));exact⟨rfl,i,o,aN kq⟩
   ·have⟨n,F,U,A⟩:=G S i;generalize dx all (k+j)=l at a B;refine EW.seq (zr (zc 1 a (zp (yb (.int .i32 l) (.int .i32 (-1)) (ca (b:=true) (bne_iff_ne.2 B))) (zc 2 F (zf (za n (zG (EW.exit ?_))))))));exact⟨rfl,U,o.trans A,aN kq⟩
 rintro e z S ⟨rfl,i,o,x,rfl⟩;have D:=rS y.h.g (s:=S) (k:=k) (j:=k+m) oq;have C:=M.fr h o;have H:=y.h.Rm S _ 0 L C.1.2 C.2.1;have⟨v,n,E,U,A⟩:=zR (pr:=pr) (m:=wr (dQ all k (k+m)) 0) (y.h.g.no 261 dq) (y.h.g.no 156 dq) i O;generalize wr (dQ all k (k+m)) 0=w at H E U;generalize dQ all k (k+m)=t at D H;have⟨p,q,r,q1,_⟩:=i;have R:aC prog 84 (am c 0) S=some (am rn 0):=bL (P:=prog) (t:=84) underlying84 rfl q1.2 (off:=0) rfl;have V:aC prog 3 (am c 1) S=some (num ((k+m:Nat):Int)):=bL (P:=prog) (t:=3) underlying3 rfl q1.2 (off:=1) rfl;refine EW.draw kq kq kq ?_;iterate 6 refine zq ?_
 refine zt S (zu (yl c 0 (am rn 0) q1.2) ?_);iterate 4 refine zq ?_
 refine zt S (zu (yl c 1 (num ((k+m:Nat):Int)) q1.2) (yt D (yt H (yt E (ET.nil ⟨aK [(aC prog 84 (am c 0) S,am rn 0),(aC prog 3 (am c 1) S,num ((k+m:Nat):Int))] kq (mh ⟨R,rfl⟩ ⟨V,rfl⟩),_,_,_,_,_,_,rfl,rfl,?_⟩)))));exact⟨.inl rfl,kq,U,o.trans A⟩
structure St where
 k:Nat
 tx:Bq
 us:List Tok
abbrev Oy(rn c:Nat)(s:AS)(x:St):Prop:=C4 rn c s x.k x.tx x.us
def gg(pr:Prim)(rn c:Nat)(all:Iq)(x y:St):Prop:=dx all x.k ≠ -1∧∀s,Oy rn c s x→pY rn c s →
 (∃f b a,EF prog lF pr 71 #[am c 0] s (.func (.func f) #[am c 0] #[]) b∧EF prog lF pr f #[am c 0] b (.tuple #[]) a∧Oy rn c a y∧gn c s a) ∨
 (∃b a,EF prog lF pr 71 #[am c 0] s .nilFunc b∧EF prog lF pr 72 #[am c 0] b (.tuple #[]) a∧Oy rn c a y∧gn c s a)
def NI (rn c:Nat)(x:Nq):TL:=[am rn 0,x 1,aD,am c 0]++iy x 4 14
def Uo(V:xo rn all pr){st:Nat→St}(h0:st 0=⟨0,[],[]⟩)(a9:∀i,i<n→gg pr rn s.nx all (st i) (st (i+1)))(a6:dx all (st n).k = -1)(C:∀i,i≤n→(st i).k≤150000∧(st i).tx.length≤500000∧(st i).us.length≤500000)(h1:Has s 1 (.cells db.toArray 335))(hr:rn<s.nx) :
  ∃o v g,Ef pr 40 #[am rn 0] s v o∧qL o v g∧gh o g (iB (st n).tx (st n).us)∧aP (fun _=>False) s o∧(∀b,blk v b→s.nx<b):=by
 suffices h:Ew pr (match Tryz.f40.body with|some c=>c|none=>.skip) ((#[am rn 0]:Aq).toList++List.replicate (Tryz.f40.ntmps-(#[am rn 0]:Aq).toList.length) undef) s (fun e U a=>(e=.normal∨e=.ret)∧∃v g,du prog Tryz.f40 U a=some v∧qL a v g∧gh a g (iB (st n).tx (st n).us)∧aP (fun _=>False) s a∧(∀b,blk v b→s.nx<b)) by have⟨m,e,U,a,h1,R,v,g,h2,h3⟩:=h;exact⟨a,v,g,EF.of (V.no 40 dq) func40 rfl ⟨m,e,U,a,h1,R,h2,rfl⟩,h3⟩
 have J:=Has.new s (fK rn 0 (.pointer none) aD aD);have M:SC rn s.nx (s.add (fK rn 0 (.pointer none) aD aD)) 0 [] []:=⟨_,_,_,J,.inl rfl,.inl ⟨rfl,rfl⟩,.inl ⟨rfl,rfl⟩⟩;have W:pY rn s.nx (s.add (fK rn 0 (.pointer none) aD aD)):=⟨h1.add _,by simp;omega,by have:=h1.1;omega⟩;have X:=(aP.refl (K:=fun _=>False) s).add (fK rn 0 (.pointer none) aD aD);have hZ:=Has.new s (.cells #[.pointer none,num 0,.pointer none,aD,aD] 121);have P:(s.add (.cells #[.pointer none,num 0,.pointer none,aD,aD] 121)).set s.nx (some (fK rn 0 (.pointer none) aD aD))=s.add (fK rn 0 (.pointer none) aD aD):=AS.set_set (⟨s.hp,s.nx+1⟩:AS) s.nx (some (.cells #[.pointer none,num 0,.pointer none,aD,aD] 121)) (some (fK rn 0 (.pointer none) aD aD));have a8:(s.add (fK rn 0 (.pointer none) aD aD)).nx=s.nx+1:=rfl;have I:∀b,b<s.nx→¬KS s.nx (s.add (fK rn 0 (.pointer none) aD aD)) b:=fun b C z=>by
  rcases(KS.at J.2).1 z with z|z|z
  ·omega
  iterate 2
   ·exact cz z
 refine zs (zr (zg 3 (s.add (.cells #[.pointer none,num 0,.pointer none,aD,aD] 121)) (zp (ep (b:=s.nx) (off:=0) (w:=.agg #[am rn 0,num 0,.pointer none,aD,aD]) (ws:=[am rn 0,num 0,.pointer none,aD,aD]) rfl kq kq rfl rfl kq hZ.2 iq) (EO.nil (za ((s.add (.cells #[.pointer none,num 0,.pointer none,aD,aD] 121)).set s.nx (some (fK rn 0 (.pointer none) aD aD))) ?_)))));rw[P];generalize s.add (fK rn 0 (.pointer none) aD aD)=H at M W X a8 I J ⊢;refine EW.fill (NI rn s.nx) kq ?_;intro x0;refine EW.seq (EW.block ?_);refine EW.mono (EW.dS (Q:=fun e U o=>e=.exit 0∧Oy rn s.nx o (st n)∧gn s.nx H o∧∃x,U=NI rn s.nx x) (fun u U o=>∃j,u+j=n∧Oy rn s.nx o (st j)∧gn s.nx H o∧∃x,U=NI rn s.nx x) ?_ n _ _ ⟨0,oq,by rw[h0];exact⟨[],M,rfl,fun i t u h=>by simp at h⟩,gn.refl H,x0,rfl⟩) ?_
 ·rintro u U S ⟨j,hu,⟨g,y,B⟩,A,x,rfl⟩;have ZO:=C j oq;have d:=y.ahead V oq;by_cases hj:j<n
  ·have⟨L,a4⟩:=a9 j hj;have R:=W.fr M A;have G:=a4 S ⟨g,y,B⟩ R;generalize dx all (st j).k=l at d L;rcases G with ⟨f,a,s2,g1,g2,g3,g4⟩|⟨a,s2,g1,g2,g3,g4⟩
   ·refine EW.seq (zr (zc 0 d (zp (yb (.int .i32 l) (.int .i32 (-1)) (ca (b:=true) (bne_iff_ne.2 L))) (EO.nil (za S (zT (EW.block (zr (zc 0 g1 (zf (za a (zs (za a (zH (zx (zg 1 a (yc #[am s.nx 0] #[] g2 (EO.nil ?_))))))))))))))))));exact⟨u-1,oq,j+1,oq,g3,A.trans g4,aN kq⟩
   ·refine EW.seq (zr (zc 0 d (zp (yb (.int .i32 l) (.int .i32 (-1)) (ca (b:=true) (bne_iff_ne.2 L))) (EO.nil (za S (zT (EW.block (zr (zc 0 g1 (zf (za a (zs (za a (zG (zx (zc 0 g2 (EO.nil ?_)))))))))))))))));exact⟨u-1,oq,j+1,oq,g3,A.trans g4,aN kq⟩
  ·obtain rfl:j=n:=oq
   rw[a6] at d;refine EW.seq (zr (zc 0 d (zf (za S (zG (EW.exit ?_))))));exact⟨rfl,⟨g,y,B⟩,A,aN kq⟩
 rintro e U S ⟨rfl,⟨g,y,B⟩,A,x,rfl⟩;have N9:=C n (Nat.le_refl n);have⟨Z,hE,O,D⟩:=uL V.no y oq (by have:=B.1;omega);have N:=(B.fr y D).qh (tx:=(st n).tx);have E:=A.trans D;have⟨p,q,r,q1,q2,q3,q4⟩:=O;refine zr (zc 0 hE (EO.nil (zr (zg 1 Z (zp (yl s.nx 4 r q1.2) (zf (EW.ret ⟨.inr rfl,r,_,kq,q4,N,X.trans E.1 fun b C z=>I b C z,fun b z=>?_⟩)))))));by_cases T:b<H.nx
 ·have:=E.2 b T ((KS.at q1.2).2 (.inr (.inr z)));by_cases F:b<s.nx
  ·exact absurd this (I b F)
  ·have⟨_,_,w⟩:=q4.blk z;have Y:b≠s.nx:=w.ne q1 dq;omega
 ·omega
end
end
end Go.Proofs.YtgcaionclkbehaaGreatDoor
