
import Derived.Test.YtgcaionclkbehaaGreatDoorG3
set_option linter.all false
set_option maxHeartbeats 2000000
set_option maxRecDepth 100000
namespace Go.Proofs.YtgcaionclkbehaaGreatDoor
open Go.Conc Go.RowKit Go.Lib Tryz
variable {B b c i k k' n off tb:Nat}{n1 nm sm stops tn tx v1 vl:Bq}{P:Program}{t ty:TypeId}{args cs:Aq}{fz:Nat × Nat}{K K':Nat->Prop}{at_ av p0 v v0:Value}{bb cl wh:Bool}{fn:Func}{s s':AS}{l Hb:List Nat}{x:bY}{kd pa r:Int}{xs:List bY}
variable {rn:Nat}{all:Iq}{p q:Value}{lo:Bq->Bq}{T:Bq->Prop}{W:Bq->Int->Prop}
section
variable {pr:Prim}{s:AS}{c:Nat}{r:Value}
theorem NR(d:Dj rn all pr)(f:k<=150000)(U:dL all k=39):Ef pr 366 #[am c 0] (sp s c rn p q r k) (str (iK all k).1) (sp s c rn p q r (iK all k).2):=by have e:=h9 (s:=s) (c:=c) (p:=p) (q:=q) (r:=r) d (k:=k) oq;unfold iK;rw[iw gq,ip U];rw[U] at e;have a:=E6 (s:=s) (c:=c) (p:=p) (q:=q) (r:=r) d (b0:=39) dq (k:=k+1) oq;generalize cP all (k+1) (eL all [39] (k+1))=h at a |-;generalize eL all [39] (k+1)+1=g at a |-;exact EF.of (d.no 366 dq) func366 rfl (zs (EW.seq (zr (zc 1 e (zf (za (sp s c rn p q r k) (zs (EW.block (zs (za (sp s c rn p q r k) (zH (zr (zg 3 (sp s c rn p q r k) (zp (bw (b:=c) (off:=1) (v:=num (k:Nat)) rfl underlying3 rfl kq ew rfl) (zp (iP (i:=(k:Nat)) (j:=1) (r:=((k+1:Nat):Int)) rfl kq kq oq oq) (zg 2 (sp s c rn p q r k) (zp (gA (b:=c) (off:=1) (w:=num ((k+1:Nat):Int)) rfl kq kq rfl rfl kq ew iq) (EO.nil (EW.kZ (sp s c rn p q r (k+1)) oX (zr (zc 3 a (zf (EW.ret ⟨.inr rfl,kq,kq⟩)))))))))))))))))))))))
def RF(g:Dj rn all pr)(i:k<=150000)(a:dL all k≠34)(d:dL all k≠39):Ef pr 366 #[am c 0] (sp s c rn p q r k) (str (iK all k).1) (sp s c rn p q r (iK all k).2):=by have f:=h9 (s:=s) (c:=c) (p:=p) (q:=q) (r:=r) g (k:=k) oq;unfold iK;rw[iw a,iw d];have e:=KP (s:=s) (c:=c) (p:=p) (q:=q) (r:=r) g (stops:=cz++[62]) (by intro b h;simp at h;rcases h with rfl|rfl|rfl|rfl|rfl|rfl<;>decide) (k:=k) oq;generalize cP all k (eL all (cz++[62]) k)=m at e |-;generalize eL all (cz++[62]) k=j at e |-;generalize dL all k=l at f a d;refine EF.of (g.no 366 dq) func366 rfl ?_;refine zs (EW.seq (zr (zc 1 f (zf (za (sp s c rn p q r k) (zs (EW.block (EW.seq (zr (zp (yb (.int .i32 l) (.int .i32 34) (cL (b:=false) (bF.2 a))) (zf (zG (zx (zp (yb (.int .i32 l) (.int .i32 39) (cL (b:=false) (bF.2 d))) (zf (za (sp s c rn p q r k) (zF (zr (zc 1 e (zf ?_))))))))))))))))))));exact yR
def Vo(e:Dj rn all pr)(d:k<=150000):Ef pr 366 #[am c 0] (sp s c rn p q r k) (str (iK all k).1) (sp s c rn p q r (iK all k).2):=by
 by_cases a:dL all k=34
 .exact NQ e d a
 .by_cases b:dL all k=39
  .exact NR e d b
  .exact RF e d a b
def mz(a:k<=all.length):k<=eL all stops k/\eL all stops k<=all.length:=by
 have h1:=rL (λl=>!gz l stops) (all.drop k);have h2:(all.drop k).length=all.length-k:=iq
 unfold eL;omega
def tg(a:k<=all.length):k<=nG all stops k/\nG all stops k<=all.length:=by
 have h1:=rL (λl=>gz l stops) (all.drop k);have h2:(all.drop k).length=all.length-k:=iq
 unfold nG;omega
theorem jQ(h:dL all k ≠ -1):k<all.length:=by unfold dL at h;grind
theorem KR(U:k<=all.length):k<=(iK all k).2/\(iK all k).2<=all.length+1:=by
 unfold iK;split
 .next h =>
  have h1:k<all.length:=jQ gq
  have:=mz (all:=all) (stops:=[34]) (k:=k+1) oq;grind
 .split
  .next h =>
   have h1:k<all.length:=jQ gq
   have:=mz (all:=all) (stops:=[39]) (k:=k+1) oq;grind
  .have:=mz (all:=all) (stops:=cz++[62]) U;grind
abbrev xY:Bq:=[9,10,12,13,32,47,62,61]
abbrev dE:Bq:=[9,10,12,13,32,47,62]
def SH:Hf xY/\Hf dE:=by
 constructor<;>(intro b h;simp at h)
 .rcases h with rfl|rfl|rfl|rfl|rfl|rfl|rfl|rfl<;>decide
 .rcases h with rfl|rfl|rfl|rfl|rfl|rfl|rfl<;>decide
section
variable (all:Iq)
def oc(k:Nat):Nat:=eL all xY (k+1)
def BJ(k:Nat):Nat:=nG all cz (oc all k)
def yo(k:Nat):Nat:=nG all cz (BJ all k+1)
def lb(lo:Bq->Bq)(wr:Bq->Int->Bq)(k:Nat):(Bq × Bq) × Nat :=
 if dL all (BJ all k)=61 then ((lo (cP all k (oc all k)),wr (iK all (yo all k)).1 1),(iK all (yo all k)).2) else ((lo (cP all k (oc all k)),[]),BJ all k)
end
def Hy(a:k<all.length):k+1<=oc all k/\oc all k<=BJ all k/\BJ all k<=all.length:=by unfold BJ oc;have h1:=mz (all:=all) (stops:=xY) (k:=k+1) oq;have h2:=tg (all:=all) (stops:=cz) h1.2;omega
theorem Dn(U:k<all.length)(h:dL all (BJ all k)=61):BJ all k+1<=yo all k/\yo all k<=all.length:=by have h1:BJ all k<all.length:=jQ gq;exact tg oq
theorem vD{lo:Bq->Bq}{wr:Bq->Int->Bq}(U:k<all.length):k<(lb all lo wr k).2/\(lb all lo wr k).2<=all.length+1:=by
 have h1:=Hy U;unfold lb;split
 .next h =>have h2:=Dn U h;have h3:=KR h2.2;grind
 .grind
structure Wo(rn:Nat)(all:Iq)(lo:Bq->Bq)(wr:Bq->Int->Bq)(T:Bq->Prop)(W:Bq->Int->Prop)(pr:Prim):Prop where
 g:Dj rn all pr
 low:∀(s:AS) (t:Bq),T t->EF prog kg pr 258 #[str t] s (str (lo t)) s
 Wd:∀(s:AS) (t:Bq) (k:Int),W t k->s.get 1=some (.cells cR.toArray 335)->rn<s.nx->EF prog kg pr 157 #[str t,num k] s (str (wr t k)) s
def Hl(all:Iq)(T:Bq->Prop)(W:Bq->Int->Prop)(k:Nat):Prop:=T (cP all k (oc all k))/\(dL all (BJ all k)=61->W (iK all (yo all k)).1 1)
abbrev eh(a b:Bq):Obj:=.cells #[str a,str b] 47
variable {wr:Bq->Int->Bq}
def gN{d:TypeDesc}(f:P.underlying t=some d)(a:d.isRow=true)(g:bP P t=some n)(e:s.get b=some (.cells cs ty fz))(c:off+n<=cs.size):aB P t (am b off) s=some (.agg (cs.toList.drop off |>.take n).toArray):=by unfold aB;simp only[am,e,f,a,g,if_true];rw[ip c]
theorem Pm(x:Wo rn all lo wr T W pr)(hk:k<all.length)(ho:Hl all T W k)(h1:Has s c (fG rn k p q r))(a5:c≠1)(a9:Has s 1 (.cells cR.toArray 335))(hr:rn<s.nx):∃s',Ef pr 326 #[am c 0] s (.agg #[str (lb all lo wr k).1.1,str (lb all lo wr k).1.2]) s'/\Has s' c (fG rn (lb all lo wr k).2 p q r)/\aO (λb=>b=c) s s':=by
 have aa:=x.g.len;have hl1:=Hy hk;have a6:=Dn (all:=all) hk;have B:=h1.add (eh [] []);have a2:=Has.new s (eh [] []);have a3:=a9.add (eh [] []);have a4:=(aO.refl (K:=λb=>b=c) s).add (eh [] []);have o:c≠s.nx:=by have:=h1.1;omega
 have a7:(s.add (eh [] [])).nx=s.nx+1:=rfl;have XS:s.add (eh [] [])=s.add (eh [] []):=rfl;refine EF.iy (x.g.no 326 dq) func326 rfl (zs (za (s.add (eh [] [])) ?_));generalize s.add (eh [] [])=S at B a2 a3 a4 a7 XS |-;have hself:=mq B.2;have D:c≠S.nx:=by have:=B.1;omega
 have a8:s.nx≠S.nx:=oq
 have b1:∀e,Has (sp S c rn p q r e) c (fG rn e p q r):=λe=>B.put _;have b2:∀e,Has (sp S c rn p q r e) s.nx (eh [] []):=λe=>a2.set (Ne.symm o) _;have b3:∀e,Has (sp S c rn p q r e) 1 (.cells cR.toArray 335):=λe=>a3.set (Ne.symm a5) _;have b4:∀e,aO (λb=>b=c) s (sp S c rn p q r e):=λe=>aO.set a4 (λ_=>rfl) _;have N:=KP (s:=S) (c:=c) (p:=p) (q:=q) (r:=r) x.g SH.1 (k:=k+1) oq;rw[show eL all xY (k+1)=oc all k from rfl] at N;have M:=qm x.g (s:=sp S c rn p q r (oc all k)) (k:=k) (j:=oc all k) oq;have t:=x.low (sp S c rn p q r (oc all k)) _ ho.1;have C:∀v e,(if dL all (BJ all k)=61 then (((lo (cP all k (oc all k)),wr (iK all (yo all k)).1 1),(iK all (yo all k)).2):(Bq × Bq) × Nat) else ((lo (cP all k (oc all k)),[]),BJ all k))=((lo (cP all k (oc all k)),v),e)->lb all lo wr k=((lo (cP all k (oc all k)),v),e):=λv e h=>h;generalize lo (cP all k (oc all k))=a at t C;have R:=(b1 (oc all k)).add (eh a []);have Y:=(b2 (oc all k)).add (eh a []);have d3:=(b3 (oc all k)).add (eh a []);have Z:=(b4 (oc all k)).add (eh a []);have d5:Has ((sp S c rn p q r (oc all k)).add (eh a [])) S.nx (eh a []):=Has.new (sp S c rn p q r (oc all k)) (eh a []);have d6:((sp S c rn p q r (oc all k)).add (eh a [])).nx=S.nx+1:=rfl;have hZ:Has ((sp S c rn p q r (oc all k)).add (eh [] [])) S.nx (eh [] []):=Has.new (sp S c rn p q r (oc all k)) (eh [] []);have H:((sp S c rn p q r (oc all k)).add (eh [] [])).set S.nx (some (eh a []))=(sp S c rn p q r (oc all k)).add (eh a []):=AS.set_set (⟨(sp S c rn p q r (oc all k)).hp,S.nx+1⟩:AS) S.nx (some (eh [] [])) (some (eh a []));generalize hU:(sp S c rn p q r (oc all k)).add (eh a [])=U at R Y d3 Z d5 d6 H;have y:=mq R.2;have L:=C0 (s:=U) (c:=c) (p:=p) (q:=q) (r:=r) x.g (k:=oc all k) oq;rw[y,show nG all cz (oc all k)=BJ all k from rfl] at L;have I:=h9 (s:=U) (c:=c) (p:=p) (q:=q) (r:=r) x.g (k:=BJ all k) oq;generalize cP all k (oc all k)=tx at M t;generalize Ot:oc all k=A at *;generalize J:BJ all k=d at *;refine zr (zg 3 S (zp (yl c 1 (num (k:Nat)) B.2) (zf (za S (zr (zg 3 S (zp (yl c 1 (num (k:Nat)) B.2) (zp (yp (k:Nat) 1 ((k+1:Nat):Int) oq oq) (zg 2 S (zp (ys c 1 (num ((k+1:Nat):Int)) B.2 iq) (EO.nil (za (sp S c rn p q r (k+1)) (zr (zc 1 N (EO.nil (za (sp S c rn p q r A) (EW.seq (EW.draw kq kq kq ?_))))))))))))))))));iterate 3 refine zq ?_
 refine zt (sp S c rn p q r A) (zu (yl c 0 (am rn 0) ew) ?_);iterate 4 refine zq ?_
 refine zt (sp S c rn p q r A) (zu (yl c 1 (num (A:Nat)) ew) (yt M (yt t ?_)));iterate 2 refine zq ?_
 refine zt ((sp S c rn p q r A).add (eh [] [])) (zu (fx (b:=S.nx) (off:=0) (w:=.agg #[str a,str []]) (ws:=[str a,str []]) rfl kq kq rfl rfl kq hZ.2 iq) (ET.nil ⟨aI [(aB prog 84 (am c 0) (sp S c rn p q r A),am rn 0),(aB prog 3 (am c 1) (sp S c rn p q r A),num (A:Nat))] kq (iD ⟨EX _,rfl⟩ ⟨Kw _,rfl⟩),_,_,_,_,_,_,rfl,rfl,?_⟩));refine za (((sp S c rn p q r A).add (eh [] [])).set S.nx (some (eh a []))) ?_;rw[H];refine zr (zc 1 L (EO.nil (za (sp U c rn p q r d) (EW.seq (zr (zc 1 I ?_))))));by_cases G:dL all d=61
 .have a6:=a6 G;have u:=C0 (s:=U) (c:=c) (p:=p) (q:=q) (r:=r) x.g (k:=d+1) oq;rw[show nG all cz (d+1)=yo all k by unfold yo;rw[J]] at u;have i:=Vo (s:=U) (c:=c) (p:=p) (q:=q) (r:=r) x.g (k:=yo all k) oq;have X:=x.Wd (sp U c rn p q r (iK all (yo all k)).2) (iK all (yo all k)).1 1 (by have:=ho.2;rw[J] at this;exact this G) (d3.set (Ne.symm a5) _).2 (by show rn<U.nx;omega);have F:=C (wr (iK all (yo all k)).1 1) (iK all (yo all k)).2 gq;rw[F];generalize (iK all (yo all k)).1=t1 at i X F;generalize (iK all (yo all k)).2=m at i X F;generalize yo all k=k3 at u i;generalize wr t1 1=f at X F;have w1:Has (sp U c rn p q r m) c (fG rn m p q r):=R.put _;have w2:Has (sp U c rn p q r m) s.nx (eh [] []):=Y.set (Ne.symm o) _;have w3:Has (sp U c rn p q r m) S.nx (eh a []):=d5.set (Ne.symm D) _;have w4:aO (λb=>b=c) s (sp U c rn p q r m):=aO.set Z (λ_=>rfl) _;have O:Has ((sp U c rn p q r m).set S.nx (some (eh a f))) c (fG rn m p q r):=w1.set D _;have E:Has ((sp U c rn p q r m).set S.nx (some (eh a f))) s.nx (eh [] []):=w2.set a8 _;have P:Has ((sp U c rn p q r m).set S.nx (some (eh a f))) S.nx (eh a f):=w3.put _;have Q:aO (λb=>b=c) s ((sp U c rn p q r m).set S.nx (some (eh a f))):=aO.set w4 (λz=>absurd z oq) _;refine zp (yb (.int .i32 (dL all d)) (.int .i32 61) (cL (b:=true) (beq_iff_eq.2 G))) (EO.nil (za (sp U c rn p q r d) (zH (zr (zg 3 (sp U c rn p q r d) (zp (yl c 1 (num (d:Nat)) ew) (zp (yp (d:Nat) 1 ((d+1:Nat):Int) oq oq) (zg 2 (sp U c rn p q r d) (zp (ys c 1 (num ((d+1:Nat):Int)) ew iq) (EO.nil (EW.kZ (sp U c rn p q r (d+1)) oX (zr (zc 1 u (EO.nil (za (sp U c rn p q r k3) (zx (zc 1 i (zc 0 X (zg 1 (sp U c rn p q r m) (zp (ys S.nx 1 (str f) w3.2 iq) (EO.nil (za ((sp U c rn p q r m).set S.nx (some (eh a f))) ?_))))))))))))))))))))));generalize (sp U c rn p q r m).set S.nx (some (eh a f))=V at O E P Q |-;have z1:=E.put (eh a f);have z2:Has (V.set s.nx (some (eh a f))) c (fG rn m p q r):=O.set o _;have z3:aO (λb=>b=c) s (V.set s.nx (some (eh a f))):=aO.set Q (λz=>absurd z (Nat.lt_irrefl _)) _;refine zr (zp (yA S.nx 0 2 #[str a,str f] P.2 iq) (zo V (zp (fx (b:=s.nx) (off:=0) (w:=.agg #[str a,str f]) (ws:=[str a,str f]) rfl kq kq rfl rfl kq E.2 iq) (EO.nil (za (V.set s.nx (some (eh a f))) ?_)))));exact EW.ret ⟨.inr rfl,(show _=aB prog 47 (am s.nx 0) (V.set s.nx (some (eh a f))) by kernel_rfl).trans (gN (n:=2) underlying47 rfl kq z1.2 iq),z2,z3⟩
 .have F:=C [] d gq;rw[F];have O:Has (sp U c rn p q r d) c (fG rn d p q r):=R.put _;have E:Has (sp U c rn p q r d) s.nx (eh [] []):=Y.set (Ne.symm o) _;have P:Has (sp U c rn p q r d) S.nx (eh a []):=d5.set (Ne.symm D) _;have Q:aO (λb=>b=c) s (sp U c rn p q r d):=aO.set Z (λ_=>rfl) _;generalize dL all d=l at I G;refine zp (yb (.int .i32 l) (.int .i32 61) (cL (b:=false) (bF.2 G))) (EO.nil (za (sp U c rn p q r d) (zF ?_)));generalize sp U c rn p q r d=V at O E P Q |-;have z1:=E.put (eh a []);have z2:Has (V.set s.nx (some (eh a []))) c (fG rn d p q r):=O.set o _;have z3:aO (λb=>b=c) s (V.set s.nx (some (eh a []))):=aO.set Q (λz=>absurd z (Nat.lt_irrefl _)) _;refine zr (zp (yA S.nx 0 2 #[str a,str []] P.2 iq) (zo V (zp (fx (b:=s.nx) (off:=0) (w:=.agg #[str a,str []]) (ws:=[str a,str []]) rfl kq kq rfl rfl kq E.2 iq) (EO.nil (za (V.set s.nx (some (eh a []))) ?_)))));exact EW.ret ⟨.inr rfl,(show _=aB prog 47 (am s.nx 0) (V.set s.nx (some (eh a []))) by kernel_rfl).trans (gN (n:=2) underlying47 rfl kq z1.2 iq),z2,z3⟩
end
section
variable {pr:Prim}{s:AS}
abbrev fF:=List (Bq × Bq)
def Rf(a:pr 365=none)(b:Has s B (eh nm vl)):Ef pr 365 #[.agg #[str n1,str v1],am B 0] s (.bool (cw n1 nm)) (s.add (eh n1 v1)):=by have h1:=Has.new s (eh n1 v1);have h2:=b.add (eh n1 v1);refine EF.of a func365 rfl (zs (za (s.add (eh n1 v1)) ?_));generalize d:s.add (eh n1 v1)=S at h1 h2 |-;refine zr (zg 1 S (zp (yl s.nx 0 (str n1) h1.2) (zg 1 S (zp (yl B 0 (str nm) h2.2) (zp (yb (str n1) (str nm) (dP rfl)) ?_)))));generalize cw n1 nm=c;exact zf yR
abbrev zJ(B:Nat):Value:=.func (.func 365) #[] #[am B 0]
def Kq(av:Value)(B n i:Nat)(x:Nq):TL:=[av,zJ B,x 2,x 3,num 0,x 5,av,num (n:Nat),num (i:Nat)]++gD x 9 10
def bS.fk{l:fF}(h:bS s v l)(a:aO K s s')(d:∀b,blk v b->¬K b):bS s' v l:=by
 rcases h with h|⟨ab,c,fz,rfl,h1,h2⟩
 .exact .inl h
 .have:=Has.fr ⟨h1,h2⟩ a (d ab (dj _ _ _));exact .inr ⟨ab,c,fz,rfl,this.1,this.2⟩
def bS.lt{l:fF}(h:bS s v l):∀b,YtgcaionclkbehaaGreatDoor.blk v b->b<s.nx:=λb a=>by
 rcases h with ⟨rfl,_⟩|⟨ab,c,fz,rfl,h1,h2⟩
 .exact(bR a).elim
 .rw[cH a];exact h1
def bS.og{l:fF}(h:bS s v l):bB 20 v=true/\bB 19 v=true/\v.oneCell'=true/\v.cells=#[v]:=by rcases h with ⟨rfl,_⟩|⟨ab,c,fz,rfl,h1,h2⟩<;>exact⟨rfl,rfl,rfl,rfl⟩
def bS.len{l:fF}(h:bS s v l):∃a b,v=.slice a l.length b:=by
 rcases h with ⟨rfl,rfl⟩|⟨ab,c,fz,rfl,h1,h2⟩
 .exact⟨none,0,rfl⟩
 .exact⟨_,_,rfl⟩
theorem Qs(F:∀f,f∈v5->pr f=none){aF:fF}(M:Has s B (eh nm vl))(G:bS s av aF)(T:aF.length<=100000):∃a j,Ef pr 364 #[av,zJ B] s (num j) a/\aO (λ_=>False) s a/\decide (j>=0)=aF.any λp=>cw p.1 nm:=by
 have⟨u,v,J⟩:=G.len;suffices h:Ew pr (match Tryz.f364.body with|some c=>c|none=>.skip) ((#[av,zJ B]:Aq).toList++List.replicate (Tryz.f364.ntmps-(#[av,zJ B]:Aq).toList.length) undef) s (λe U d=>(e=.normal\/e=.ret)/\aO (λ_=>False) s d/\∃j,c8 prog Tryz.f364 U d=some (num j)/\decide (j>=0)=aF.any λp=>cw p.1 nm) by have⟨m,e,U,d,h1,N,h2,j,h3,L⟩:=h;exact⟨d,j,EF.of (F 364 dq) func364 rfl ⟨m,e,U,d,h1,N,h3,rfl⟩,h2,L⟩
 subst J;refine zs (za s (EW.seq (zs (za s (EW.fill (Kq (.slice u aF.length v) B aF.length 0) kq ?_)))));intro R;generalize W:aF.length=n at *;refine EW.block ?_;refine EW.mono (EW.dG (Q:=λe U d=>(e=.exit 0/\aO (λ_=>False) s d/\((aF.any λp=>cw p.1 nm)=false)/\∃x,U=Kq (.slice u n v) B n n x)\/(e=.ret/\aO (λ_=>False) s d/\∃j,c8 prog Tryz.f364 U d=some (num j)/\decide (j>=0)=aF.any λp=>cw p.1 nm)) (λm U a=>∃i,i+m=n/\aO (λ_=>False) s a/\((aF.take i).any λp=>cw p.1 nm)=false/\∃x,U=Kq (.slice u n v) B n i x) ?_ n _ _ ⟨0,by omega,aO.refl s,rfl,R,rfl⟩) ?_
 .rintro m U a ⟨i,S,k,D,x,rfl⟩;by_cases V:0<m
  .have t:i<aF.length:=oq
   have H:aF[i]?=some aF[i]:=gE t;have⟨w,l⟩:=sT H;have A:aF.take (i+1)=aF.take i++[aF[i]]:=by simp_all
   have C:aF[i]∈aF:=D3 t;generalize aF[i]=P at H l A C;have⟨n1,v1⟩:=P;obtain⟨g,y,rfl,X,O⟩:∃g y,u=some ⟨g,0,none⟩/\g<a.nx/\a.get g=some (.cells (ft aF) 47 y):=by
    have:=G.fk k (λ_ _=>id);rcases this with ⟨_,z⟩|⟨g,cq,y,z1,z2,z3⟩
    .rw[z] at t;simp at t
    .grind
   have I:=M.fr k id;have b:=Rf (F 365 dq) (n1:=n1) (v1:=v1) I;have q:aO (λ_=>False) s (a.add (eh n1 v1)):=k.add _;have o:(aF.take (i+1)).any (λp=>cw p.1 nm)=cw n1 nm:=gq
   have E:cw n1 nm=true->(aF.any λp=>cw p.1 nm)=true:=λh=>List.any_eq_true.2 ⟨_,C,h⟩;generalize cw n1 nm=K at b o E;refine zr (zp (yb (num (i:Nat)) (num (n:Nat)) (aX (tD oq))) (EO.nil (EW.seq (zT (EW.seq (EW.block (zs (za a (zr (zg 3 a (zp (yi g 0 n v (i*2) none .i64 (i:Nat) 2 oq oq oq) (zo a (zp (rB (off:=i*2) (r:=#[str n1,str v1]) rfl underlying47 rfl kq kq O w l) (yc #[] #[am B 0] b (EO.nil (za (a.add (eh n1 v1)) ?_))))))))))))))));cases K with
   | true =>refine zH ?_;refine zs ?_;exact EW.ret (.inr ⟨rfl,q,(i:Nat),kq,by rw[E rfl];exact tD oq⟩)
   | false =>refine zF ?_;refine zx (zp (yp (i:Nat) 1 ((i+1:Nat):Int) oq oq) (zf ?_));exact⟨m-1,by omega,i+1,by omega,q,o,aR kq⟩
  .obtain rfl:i=n:=oq
   rw[tL oq] at D;exact zr (zp (yb (num (i:Nat)) (num (i:Nat)) (aX (fD oq))) (EO.nil (EW.seq (zG (EW.exit (.inl ⟨rfl,k,D,aR kq⟩))))))
 .rintro e U a (⟨rfl,k,h1,x,rfl⟩|⟨rfl,h⟩)
  .refine zs ?_;exact EW.ret ⟨.inr rfl,k,-1,kq,by rw[h1];rfl⟩
  .exact⟨.inr rfl,h⟩
def Tk(a:∀f,f∈v5->pr f=none){aF:fF}(c:Has s B (eh nm vl))(d:bS s av aF)(e:aF.length<=100000):∃b,Ef pr 322 #[av,zJ B] s (.bool (aF.any λp=>cw p.1 nm)) b/\aO (λ_=>False) s b:=by have⟨b,j,h1,h2,h3⟩:=Qs a c d e;refine⟨b,?_,h2⟩;refine EF.of (a 322 dq) func322 rfl (zs (zr (zc 2 h1 (zp (yb (num j) (num 0) (eZ h3)) ?_))));generalize (aF.any λp=>cw p.1 nm)=g;exact zf yR
def dW(aF:fF)(x:Bq × Bq):fF:=if decide (aF.length<20)&&!(aF.any λp=>cw p.1 x.1) then aF++[x] else aF
def oD(l:fF):(ft l).size=l.length*2:=by
 induction l with
 | nil=>rfl
 | cons t b a=>simp at a |-;omega
def BL(l:fF)(x:Bq × Bq):((ft l).toList.take (l.length*2)++[str x.1,str x.2]).toArray=ft (l++[x]):=by rw[tL (by rw[KF,oD];exact lr)];simp
def OL{aF:fF}(h:bS s av aF)(x:Bq × Bq)(f:aF.length<=100000):∃w a,bK prog 47 av [str x.1,str x.2] 1 s=some (w,a)/\w.cells=#[w]/\w.oneCell'=true/\bS a w (aF++[x])/\aO (λb=>blk av b) s a/\∀b,blk w b->s.nx<=b:=by
 rcases h with ⟨rfl,rfl⟩|⟨d,cp,fz,rfl,q1,q2⟩
 .refine⟨_,_,ia dq,rfl,rfl,.inr ⟨s.nx,1,(1,1),rfl,(Has.new s _).1,(Has.new s _).2⟩,(aO.refl s).add _,λb z=>Nat.le_of_eq (cH z).symm⟩
 .have e:=oD aF;refine⟨_,_,gH (sz:=2) dq q2 kq oq oq,rfl,rfl,?_,(aO.set (aO.refl s) (λ_=>dj _ _ _) none).add _,λb z=>Nat.le_of_eq (cH z).symm⟩;rw[BL];have c:=Has.new (s.set d none) (.cells (ft (aF++[x])) 47 (1,1));exact .inr ⟨s.nx,_,(1,1),by rw[lA];rfl,c.1,c.2⟩
abbrev gK(nm:Bq)(av:Value)(cl:Bool):Obj:=.cells #[str nm,av,.bool cl] 262
theorem PZ(U:∀f,f∈v5->pr f=none){aF:fF}(H:Has s tb (gK tn av cl))(E:bS s av aF)(Q:aF.length<=100000)(nm g:Bq):∃v a,Ef pr 325 #[am tb 0,.agg #[str nm,str g]] s (.tuple #[]) v/\Has v tb (gK tn a cl)/\bS v a (dW aF (nm,g))/\aO (λb=>b=tb\/blk av b) s v/\(a=av\/∀b,blk a b->s.nx<=b):=by
 have⟨l,o,T⟩:=E.len;have r:=H.add (eh nm g);have x:=Has.new s (eh nm g);have y:bS (s.add (eh nm g)) av aF:=E.fk ((aO.refl (K:=λ_=>False) s).add _) λ_ _=>id;have A:=(aO.refl (K:=λb=>b=tb\/blk av b) s).add (eh nm g);have G:¬blk av tb:=λz=>by
  rcases E with ⟨rfl,_⟩|⟨d,c,fz,rfl,q1,q2⟩
  .exact bR z
  .rw[cH z] at H;exact H.ne (⟨q1,q2⟩:Has s d _) dq rfl
 suffices h:Ew pr (match Tryz.f325.body with|some c=>c|none=>.skip) ((#[am tb 0,.agg #[str nm,str g]]:Aq).toList++List.replicate (Tryz.f325.ntmps-(#[am tb 0,.agg #[str nm,str g]]:Aq).toList.length) undef) s (λe I q=>(e=.normal\/e=.ret)/\∃a,Has q tb (gK tn a cl)/\bS q a (dW aF (nm,g))/\aO (λb=>b=tb\/blk av b) s q/\(a=av\/∀b,blk a b->s.nx<=b)) by have⟨m,e,I,q,h1,he,a,h2⟩:=h;exact⟨q,a,EF.of (U 325 dq) func325 rfl ⟨m,e,I,q,h1,he,rfl,rfl⟩,h2⟩
 refine zs (za (s.add (eh nm g)) ?_);have R:(s.add (eh nm g)).nx=s.nx+1:=rfl;generalize s.add (eh nm g)=S at r x y A R |-;refine zs (za S ?_);have⟨i,hH,j⟩:=Tk U x y Q;have B:=r.fr j id;have J:=x.fr j id;have C:=y.fk j λ_ _=>id;have V:=A.trans j λ_ _ z=>z.elim;refine zr (zg 3 S (zp (yl tb 1 av r.2) ?_));subst T;refine zk 1 ?_;by_cases D:aF.length<20
 .refine zp (yb (num (aF.length:Nat)) (num 20) (aX (b:=true) (tD oq))) (zg 4 S (zp (yl tb 1 (.slice l aF.length o) r.2) (zc 1 hH ?_)));unfold dW;rw[tD D,Bool.true_and];show EO _ _ _ _ _ _ _ _;generalize a6:(aF.any λp=>cw p.1 nm)=W at *;cases W with
  | true =>refine zf ?_;refine za i (zF ?_);grind
  | false =>
   have L:=B.add (eh nm g);have X:bS (i.add (eh nm g)) (.slice l aF.length o) aF:=C.fk ((aO.refl (K:=λ_=>False) i).add _) λ_ _=>id;have Y:=V.add (eh nm g);have Z:=Has.new i (eh nm g);have⟨w,u,e1,e2,e3,e4,N,O⟩:=OL X (nm,g) Q;have M:Has u tb (gK tn (.slice l aF.length o) cl):=L.fr N G;have c7:aO (λb=>b=tb\/blk (.slice l aF.length o) b) s u:=Y.trans N λb _ z=>.inr z;have F:=gv C.lt;have Oo:S.nx<=i.nx:=j.1;have l1:aB prog 42 (am tb 1) i=some (.slice l aF.length o):=bE (P:=prog) (t:=42) underlying42 rfl B.2 (off:=1) rfl;have l2:aB prog 47 (am s.nx 0) i=some (.agg #[str nm,str g]):=gN (n:=2) underlying47 rfl kq J.2 iq;refine zf (za i (zH ?_));refine EW.draw kq kq kq ?_;iterate 4 refine zq ?_
   refine zt i (zu (yl tb 1 (.slice l aF.length o) B.2) (zu (yA s.nx 0 2 #[str nm,str g] J.2 iq) (zq (zt (i.add (eh nm g)) (zu (gl (sl:=.slice l aF.length o) (news:=[str nm,str g]) (d:=i.nx) (m:=1) (k:=1) (sz:=2) (z:=.agg #[str [],str []]) (bytes:=32) rfl kq kq underlying42 kq rfl dq dq kq Z.2 F dq iq iq rfl e1) ?_)))));iterate 2 refine zq ?_
   refine zt u (zu (gA (b:=tb) (off:=1) (w:=w) rfl kq kq e2 e3 kq M.2 iq) (ET.nil ⟨aI [(aB prog 42 (am tb 1) i,.slice l aF.length o),(aB prog 47 (am s.nx 0) i,.agg #[str nm,str g])] kq (iD ⟨l1,C.og.1⟩ ⟨l2,rfl⟩),_,_,_,_,_,_,rfl,rfl,?_⟩));refine⟨.inl rfl,w,M.put _,?_,aO.set c7 (λ_=>.inl rfl) _,.inr λb z=>?_⟩
   .have:=e4.fk (aO.set (K:=λb=>b=tb) (aO.refl u) (λ_=>rfl) (some (gK tn w cl))) λb z zz=>?_
    .exact this
    .have:=O b z
     have:=L.1;simp at *;omega
   .have:=O b z;simp at this;omega
 .refine zp (yb (num (aF.length:Nat)) (num 20) (aX (b:=false) (fD oq))) (zf (za S (zF ⟨.inl rfl,_,r,?_,A,.inl rfl⟩)));unfold dW;grind
end
def EM{a:TL}{b c:Tmp}{v1:Value}(f:fn.results.toList=[.cell b ty,.tmp c])(e:a.getD b undef=p0)(d:aB P ty p0 s=some v0)(h1:a.getD c undef=v1):c8 P fn a s=some (.tuple #[v0,v1]):=by unfold c8;rw[f];simp only[List.mapM_cons,List.mapM_nil,m6,e,d,h1];rfl
abbrev gR:Bq:=cz++[47]
def qy (all:Iq)(lo:Bq->Bq)(wr:Bq->Int->Bq):Nat->Nat->fF->Option (fF × Bool × Bool × Nat)
 | 0,_,_=>none
 | n+1,k,aF=>if dL all (nG all gR k) = -1 then some ([],false,false,nG all gR k) else if dL all (nG all gR k)=62 then some (aF,xV all k,true,nG all gR k+1) else qy all lo wr n (lb all lo wr (nG all gR k)).2 (dW aF (lb all lo wr (nG all gR k)).1)
def rR(all:Iq)(lo:Bq->Bq)(wr:Bq->Int->Bq)(T:Bq->Prop)(W:Bq->Int->Prop):Nat->Nat->Prop
 | 0,_=>True
 | n+1,k=>dL all (nG all gR k) ≠ -1->dL all (nG all gR k)≠62->Hl all T W (nG all gR k)/\rR all lo wr T W n (lb all lo wr (nG all gR k)).2
theorem FJ(aF:fF)(x:Bq × Bq):(dW aF x).length<=max aF.length 20:=by unfold dW;grind
def OT(c tb:Nat)(x:Nq):TL:=[am c 0,x 1,am tb 0,.bool false]++gD x 4 25
section
variable {pr:Prim}{s:AS}{c:Nat}{r:Value}{wr:Bq->Int->Bq}
def ES(a:k<=all.length+1):nG all stops k<=all.length+1/\k<=nG all stops k:=by
 by_cases h:k<=all.length
 .have:=tg (stops:=stops) h;omega
 .unfold nG;rw[K3 oq];simp;omega
theorem Ve(D:Wo rn all lo wr T W pr){aF:fF}(hk:k<=all.length)(hT:T (cP all k (eL all dE k)))(U:qy all lo wr n (eL all dE k) []=some (aF,cl,wh,k'))(E:rR all lo wr T W n (eL all dE k))(h1:Has s c (fG rn k p q r))(X:c≠1)(aj:Has s 1 (.cells cR.toArray 335))(hr:rn<s.nx) :
  ∃y a,Ef pr 248 #[am c 0] s (.tuple #[.agg #[str (if wh then lo (cP all k (eL all dE k)) else []),a,.bool cl],.bool wh]) y/\Has y c (fG rn k' p q r)/\bS y a aF/\aO (λb=>b=c) s y/\(∀b,blk a b->s.nx<=b)/\k'<=all.length+2:=by
 have ao:=D.g.len;have O:=D.g.no;have R:=h1.add (gK [] aD false);have Y:=Has.new s (gK [] aD false);have Z:=aj.add (gK [] aD false);have a4:=(aO.refl (K:=λb=>b=c) s).add (gK [] aD false);have j:c≠s.nx:=by have:=h1.1;omega
 have al:s.nx<(s.add (gK [] aD false)).nx:=iq
 suffices h:Ew pr (match Tryz.f248.body with|some c=>c|none=>.skip) ((#[am c 0]:Aq).toList++List.replicate (Tryz.f248.ntmps-(#[am c 0]:Aq).toList.length) undef) s (λe A v=>(e=.normal\/e=.ret)/\∃a,c8 prog Tryz.f248 A v=some (.tuple #[.agg #[str (if wh then lo (cP all k (eL all dE k)) else []),a,.bool cl],.bool wh])/\Has v c (fG rn k' p q r)/\bS v a aF/\aO (λb=>b=c) s v/\(∀b,blk a b->s.nx<=b)/\k'<=all.length+2) by have⟨m,e,A,v,h1,he,a,h2,h3⟩:=h;exact⟨v,a,EF.of (O 248 dq) func248 rfl ⟨m,e,A,v,h1,he,h2,rfl⟩,h3⟩
 refine zs (za (s.add (gK [] aD false)) ?_);generalize s.add (gK [] aD false)=S at R Y Z a4 al |-;have H:=KP (s:=S) (c:=c) (p:=p) (q:=q) (r:=r) D.g SH.2 (k:=k) oq;rw[mq R.2] at H;have N:=mz (all:=all) (stops:=dE) hk;have l:=D.low (sp S c rn p q r (eL all dE k)) _ hT;generalize lo (cP all k (eL all dE k))=i at l |-;generalize cP all k (eL all dE k)=tx at H l;generalize eL all dE k=t at H l N U E;have b1:Has (sp S c rn p q r t) c (fG rn t p q r):=R.put _;have b2:Has (sp S c rn p q r t) s.nx (gK [] aD false):=Y.set (Ne.symm j) _;have b3:Has (sp S c rn p q r t) 1 (.cells cR.toArray 335):=Z.set (Ne.symm X) _;have b4:aO (λb=>b=c) s (sp S c rn p q r t):=aO.set a4 (λ_=>rfl) _;have d1:Has ((sp S c rn p q r t).set s.nx (some (gK i aD false))) c (fG rn t p q r):=b1.set j _;have d2:Has ((sp S c rn p q r t).set s.nx (some (gK i aD false))) s.nx (gK i aD false):=b2.put _;have I:(1:Nat)≠s.nx:=by have:=aj.1;omega
 have d3:Has ((sp S c rn p q r t).set s.nx (some (gK i aD false))) 1 (.cells cR.toArray 335):=b3.set I _;have d4:aO (λb=>b=c) s ((sp S c rn p q r t).set s.nx (some (gK i aD false))):=aO.set b4 (λz=>absurd z (Nat.lt_irrefl _)) _;refine zr (zc 1 H (zc 0 l (zg 1 (sp S c rn p q r t) (zp (ys s.nx 0 (str i) b2.2 iq) (EO.nil (za ((sp S c rn p q r t).set s.nx (some (gK i aD false))) ?_))))));generalize (sp S c rn p q r t).set s.nx (some (gK i aD false))=V at d1 d2 d3 d4 |-;refine EW.fill (OT c s.nx) kq ?_;intro x0;refine EW.block ?_;have Ot:t<=all.length+1:=oq
 clear H l b1 b2 b3 b4 R Y Z a4 N hT;refine EW.mono (EW.dG (Q:=λe A v=>e=.ret/\∃a,c8 prog Tryz.f248 A v=some (.tuple #[.agg #[str (if wh then i else []),a,.bool cl],.bool wh])/\Has v c (fG rn k' p q r)/\bS v a aF/\aO (λb=>b=c) s v/\(∀b,blk a b->s.nx<=b)/\k'<=all.length+2) (λm A y=>∃k B a aa,k<=all.length+1/\B.length<=20/\qy all lo wr m k B=some (aF,cl,wh,k')/\rR all lo wr T W m k/\Has y c (fG rn k p q r)/\Has y s.nx (gK i a aa)/\Has y 1 (.cells cR.toArray 335)/\aO (λb=>b=c) s y/\bS y a B/\(∀b,blk a b->s.nx<=b)/\∃x,A=OT c s.nx x) ?_ n _ _ ⟨t,[],aD,false,Ot,by simp,U,E,d1,d2,d3,d4,.inl ⟨rfl,rfl⟩,λb z=>(bR z).elim,x0,rfl⟩) ?_
 .rintro m A S ⟨k,B,a,aa,hk,aq,U,E,e1,e2,e3,e4,e5,e6,x,rfl⟩;cases m with
  | zero=>cases U
  | succ m =>
   have G:=Nk (s:=S) (c:=c) (p:=p) (q:=q) (r:=r) D.g (k:=k) oq;rw[mq e1.2] at G;have P:=ES (all:=all) (stops:=gR) hk;unfold qy at U;unfold rR at E;generalize nG all (cz++[47]) k=f at G P U E;generalize xV all k=o at G U;have f1:Has (sp S c rn p q r f) c (fG rn f p q r):=e1.put _;have f2:Has (sp S c rn p q r f) s.nx (gK i a aa):=e2.set (Ne.symm j) _;have f3:Has (sp S c rn p q r f) 1 (.cells cR.toArray 335):=e3.set (Ne.symm X) _;have f4:aO (λb=>b=c) s (sp S c rn p q r f):=aO.set e4 (λ_=>rfl) _;have C:∀b,blk a b->b≠c:=λb z=>by have:=e6 b z;have:=h1.1;omega
   have ah:∀b,blk a b->b≠s.nx:=λb z=>by
    rcases e5 with ⟨rfl,_⟩|⟨d,cp,fz,rfl,q1,q2⟩
    .exact(bR z).elim
    .rw[cH z];exact(show Has S d _ from⟨q1,q2⟩).ne e2 dq
   have f5:bS (sp S c rn p q r f) a B:=e5.fk (aO.set (K:=λb=>b=c) (aO.refl S) (λ_=>rfl) _) C;have g1:Has ((sp S c rn p q r f).set s.nx (some (gK i a o))) c (fG rn f p q r):=f1.set j _;have g2:Has ((sp S c rn p q r f).set s.nx (some (gK i a o))) s.nx (gK i a o):=f2.put _;have g3:Has ((sp S c rn p q r f).set s.nx (some (gK i a o))) 1 (.cells cR.toArray 335):=f3.set I _;have g4:aO (λb=>b=c) s ((sp S c rn p q r f).set s.nx (some (gK i a o))):=aO.set f4 (λz=>absurd z (Nat.lt_irrefl _)) _;have g5:bS ((sp S c rn p q r f).set s.nx (some (gK i a o))) a B:=f5.fk (aO.set (K:=λb=>b=s.nx) (aO.refl _) (λ_=>rfl) _) ah;refine EW.block (zr (zc 1 G (zg 1 (sp S c rn p q r f) (zp (ys s.nx 2 (.bool o) f2.2 iq) (EO.nil (za ((sp S c rn p q r f).set s.nx (some (gK i a o))) ?_))))));generalize (sp S c rn p q r f).set s.nx (some (gK i a o))=V at g1 g2 g3 g4 g5 |-;clear G f1 f2 f3 f4 f5 e1 e2 e3 e4 e5;have J:=h9 (s:=V) (c:=c) (p:=p) (q:=q) (r:=r) D.g (k:=f) oq;rw[mq g1.2] at J;refine EW.seq (zr (zc 1 J (EO.nil (za V (EW.block (zr ?_))))));by_cases u:dL all f = -1
   .rw[ip u] at U;simp only[sK,Prod.mk.injEq] at U;have⟨ab,ae,af,ag⟩:=U;subst ab ae af ag;refine zp (yb (.int .i32 (dL all f)) (.int .i32 (-1)) (cL (b:=true) (beq_iff_eq.2 u))) (zf (za V (zH (zr (zg 1 V (zp (fx (b:=s.nx) (off:=0) (w:=.agg #[str [],aD,.bool false]) (ws:=[str [],aD,.bool false]) rfl kq kq rfl rfl kq g2.2 iq) (zf ?_)))))));have z1:=g2.put (gK [] aD false);refine za (V.set s.nx (some (gK [] aD false))) ?_;exact EW.ret ⟨rfl,aD,EM rfl kq (gN (off:=0) (n:=3) underlying262 rfl kq z1.2 iq) kq,g1.set j _,.inl ⟨rfl,rfl⟩,aO.set g4 (λz=>absurd z (Nat.lt_irrefl _)) _,λb z=>(bR z).elim,by omega⟩
   .rw[iw u] at U;refine zp (yb (.int .i32 (dL all f)) (.int .i32 (-1)) (cL (b:=false) (bF.2 u))) (zf (za V (zG (zr ?_))));by_cases F:dL all f=62
    .rw[ip F] at U;simp only[sK,Prod.mk.injEq] at U;have⟨ab,ae,af,ag⟩:=U;subst ab ae af ag;have z0:Has (sp V c rn p q r (f+1)) s.nx (gK i a o):=g2.set (Ne.symm j) _;have z1:=z0.put (gK i a o);have z2:Has (sp V c rn p q r (f+1)) c (fG rn (f+1) p q r):=g1.put _;have z3:bS (sp V c rn p q r (f+1)) a B:=g5.fk (aO.set (K:=λb=>b=c) (aO.refl V) (λ_=>rfl) _) C;refine zp (yb (.int .i32 (dL all f)) (.int .i32 62) (cL (b:=true) (beq_iff_eq.2 F))) (zf (za V (zH (zr (zg 3 V (zp (yl c 1 (num (f:Nat)) g1.2) (zp (yp (f:Nat) 1 ((f+1:Nat):Int) oq oq) (zg 2 V (zp (ys c 1 (num ((f+1:Nat):Int)) g1.2 iq) (EO.nil (za (sp V c rn p q r (f+1)) (zr (zp (yA s.nx 0 3 #[str i,a,.bool o] z0.2 iq) (zo (sp V c rn p q r (f+1)) (zp (fx (b:=s.nx) (off:=0) (w:=.agg #[str i,a,.bool o]) (ws:=[str i,a,.bool o]) rfl kq kq rfl (by show((str i).oneCell'&&(a.oneCell'&&((Value.bool o).oneCell'&&true)))=true;rw[g5.og.2.2.1];rfl) kq z0.2 iq) (zf (za ((sp V c rn p q r (f+1)).set s.nx (some (gK i a o))) ?_)))))))))))))))));exact EW.ret ⟨rfl,a,EM rfl kq (gN (off:=0) (n:=3) underlying262 rfl kq z1.2 iq) kq,z2.set j _,z3.fk (aO.set (K:=λb=>b=s.nx) (aO.refl _) (λ_=>rfl) _) ah,aO.set (aO.set g4 (λ_=>rfl) _) (λz=>absurd z (Nat.lt_irrefl _)) _,e6,by omega⟩
    .rw[iw F] at U;have⟨ak,ai⟩:=E u F;have M:=jQ u;have hrV:rn<V.nx:=by have:=g4.1;omega
     have⟨S3,hA,i1,i2⟩:=Pm D M ak g1 X g3 hrV;have L:=vD (lo:=lo) (wr:=wr) M;generalize lb all lo wr f=ap at *;obtain⟨⟨an,vl⟩,k3⟩:=ap;have j2:=g2.fr i2 (Ne.symm j);have j3:=g3.fr i2 (Ne.symm X);have j4:=g4.trans i2 λb _ z=>z;have j5:=g5.fk i2 C;have⟨S4,Xj,hG,l1,l2,l3,l4⟩:=PZ O j2 j5 oq an vl;have hgl:=FJ B (an,vl);have hVn:s.nx<S3.nx:=j2.1;refine zp (yb (.int .i32 (dL all f)) (.int .i32 62) (cL (b:=false) (bF.2 F))) (zf (za V (zF (zx (zc 1 hA (zc 0 hG (EO.nil ?_)))))));refine⟨m,Nat.lt_succ_self m,k3,dW B (an,vl),Xj,o,L.2,by omega,U,ai,i1.fr l3 ?_,l1,j3.fr l3 ?_,j4.trans l3 ?_,l2,?_,aR kq⟩;iterate 4
      .grind
 .rintro e A y ⟨rfl,h⟩;exact⟨.inr rfl,h⟩
end
abbrev wR:Obj:=.cells #[num 0,num 0,str [],str [],.slice none 0 0] 44
def CC{l:List bY}(h:l[i]?=some x):i*5+5<=(aY l).size/\(((aY l).toList.drop (i*5)).take 5).toArray=x.cells.toArray:=by
 induction l generalizing i with
 | nil=>simp at h
 | cons y l a =>
  cases i with
  | zero =>simp only[K5,sK] at h;subst h;simp[bY.cells]
  | succ i =>rw[List.getElem?_cons_succ] at h;have⟨h1,h2⟩:=a h;simp only[List.size_toArray,List.flatMap_cons,lA,bY.cells,lC,List.length_nil] at h1 |-;refine⟨oq,?_⟩;rw[show(i+1)*5=5+i*5 by omega,<-List.drop_drop];simpa[bY.cells] using h2
section
variable {pr:Prim}{s:AS}
def bS.one{aF:List (Bq × Bq)}(h:bS s v aF):Value.oneCell' v=true:=by rcases h with ⟨rfl,_⟩|⟨ab,c,fz,rfl,_⟩<;>rfl
end
def eS(s:AS)(v:Value)(Hb:List Nat):Prop:=(v=.slice none 0 0/\Hb=[])\/∃ob cp cs fz,v=.slice (some ⟨ob,0,none⟩) Hb.length cp/\Hb.length<=cp/\ob<s.nx/\s.get ob=some (.cells cs 3 fz)/\∀i k:Nat,Hb[i]?=some k->cs[i]?=some (num (k:Nat))
def no3 (o:Option Obj):Prop:=∀cs fz,o≠some (.cells cs 3 fz)
theorem Q9(h:eS s v Hb)(i:Nat)(l:Hb.length<=100000):∃a b,bK prog 3 v [num (i:Nat)] 1 s=some (a,b)/\s.nx<=b.nx/\eS b a (Hb++[i])/\(∀k,k<s.nx->no3 (s.get k)->b.get k=s.get k)/\a.cells=#[a]/\a.oneCell'=true:=by
 rcases h with ⟨rfl,rfl⟩|⟨ob,cp,cs,fz,rfl,a3,a4,U,a0⟩
 .refine⟨_,_,ia dq,by simp,.inr ⟨s.nx,1,_,_,rfl,by simp,by simp,by rw[AS.bv,ip rfl],λj k c=>?_⟩,λk c _=>by rw[AS.bv,iw oq],rfl,rfl⟩;grind
 .have f:Hb.length<=cs.size:=by
   by_cases g:Hb.length=0
   .omega
   .have d:Hb.length-1<Hb.length:=oq
    have:=a0 _ _ (gE d);grind
  refine⟨_,_,gH (sz:=1) dq U kq oq oq,by simp,.inr ⟨s.nx,_,_,_,by rw[lA];rfl,by rw[lA];exact lr,by simp,by rw[AS.bv,ip iq],λj k c=>?_⟩,λk c h3=>?_,rfl,rfl⟩
  .grind
  .rw[AS.bv,iw (by simp;omega),AS.bn,iw (λe=>by rw[e] at h3;exact h3 _ _ U)]
section
variable {pr:Prim}{s:AS}
theorem oL(a:pr 127=bu 127){Hc:List (Bq)}{d:Nat}(e:s.get d=some (.cells (Hc.map str).toArray 9 fz))(f:Hc.length<=1000)(U:(Hc.any λt=>cw nm t)=bb):Ef pr 127 #[str nm,.slice (sq d) Hc.length c] s (.bool bb) s:=by
 have b:ep s 1 (sq d) Hc.length=some (Hc.map str):=by unfold ep;grind
 refine EF.vp (a.trans rfl) ?_;simp only[b];rw[ip ⟨oq,by rw[List.all_map,aT];intro x _;rfl⟩,List.any_map,<-U];rfl
end
def dO (r:Int):Int:=if 65<=r/\r<=90 then r+32 else r
def kn (all:Iq):Nat->Bq->Bool
 | _,[]=>true
 | q,b::l=>(dO (dL all q)==((b.toNat:Nat):Int))&&kn all (q+1) l
def kH(h : -2000000000<=r/\r<=2000000000):eQ .i32 r=r:=by unfold eQ;simp only;rw[ip h]
section
variable {n:Nat}{V:Aq->Option Value}{s:AS}{pr:Prim}
def Ui(a:pr 247=none)(c : -1<=r/\r<=1114111):Ef pr 247 #[.int .i32 r] s (.int .i32 (dO r)) s:=by
 unfold dO;refine EF.of a func247 rfl (zs (EW.seq (zr (zk 1 ?_))));by_cases h1:65<=r
 .refine zp (aQ (u:=.int .i32 65) rfl kq kq (bU (b:=true) (tD h1))) (zk 2 ?_);by_cases h2:r<=90
  .rw[ip ⟨h1,h2⟩];refine zp (aQ (u:=.int .i32 r) rfl kq kq (bU (b:=true) (tD h2))) (zf (zH (zr (zg 1 s (EO.op (v:=.int .i32 (r-65)) (s1:=s) kq ((show _=some (Value.int .i32 (eQ .i32 (r-65)),s) by kernel_rfl).trans (by rw[kH oq])) (zo s (EO.op (v:=.int .i32 (r+32)) (s1:=s) kq ((show _=some (Value.int .i32 (eQ .i32 (r-65+97)),s) by kernel_rfl).trans (by rw[kH oq,show r-65+97=r+32 by omega])) (zf ?_))))))));exact EW.ret ⟨.inr rfl,by kernel_rfl,by kernel_rfl⟩
  .rw[iw oq];refine zp (aQ (u:=.int .i32 r) rfl kq kq (bU (b:=false) (fD h2))) (zf (zF (zs ?_)));exact EW.ret ⟨.inr rfl,by kernel_rfl,by kernel_rfl⟩
 .rw[iw oq];refine zp (aQ (u:=.int .i32 65) rfl kq kq (bU (b:=false) (fD h1))) (zf (zF (zs ?_)));exact EW.ret ⟨.inr rfl,by kernel_rfl,by kernel_rfl⟩
def Kf(c p:Nat)(sm:Bq)(b:Nat)(x:Nq):TL:=[am c 0,num (p:Nat),str sm,x 3,x 4,x 5,x 6,x 7,x 8,str sm,am b 0]++gD x 11 12
structure wV(rn:Nat)(all:Iq)(pr:Prim):Prop where
 xN:pr 146=gC rn all 146
 n70:pr 70=none
 Zy:pr 150=none
 Jq:pr 247=none
def zS(B:wV rn all pr)(K:∀k,-1<=dL all k/\dL all k<=1114111){p:Nat}(J:∀b∈sm,b.toNat<128)(G:sm.length<16)(C:c<s.nx)(M:s.get c=some (.cells cs t fz))(I:cs[0]?=some (am rn 0))(h1:cs[1]?=some (num (k:Nat)))(T:k+p<=900000) :
  ∃f,Ef pr 150 #[am c 0,num (p:Nat),str sm] s (.bool (kn all (k+p) sm)) f/\iz s.nx s f:=by
 have z:kg (1000+sm.length)=false:=Mo _ G;suffices a:Ew pr (match Tryz.f150.body with|some c=>c|none=>.skip) ((#[am c 0,num (p:Nat),str sm]:Aq).toList++List.replicate (Tryz.f150.ntmps-(#[am c 0,num (p:Nat),str sm]:Aq).toList.length) undef) s (λe i A=>(e=.normal\/e=.ret)/\c8 prog Tryz.f150 i A=some (.bool (kn all (k+p) sm))/\iz s.nx s A) by have⟨m,e,i,A,N,O,P,R⟩:=a;exact⟨A,EF.of (B.Zy) func150 rfl ⟨m,e,i,A,N,O,P,rfl⟩,R⟩
 refine zs (EW.seq (zr (zg 1 s (zp (Aj (l:=sm) rfl underlying9 kq z) (EO.nil (EW.fill (Kf c p sm s.nx) kq ?_))))));intro S;refine EW.block ?_;refine EW.mono (EW.dG (Q:=λe i f=>iz s.nx s f/\((e=.exit 0/\kn all (k+p) sm=true/\∃x,i=Kf c p sm s.nx x)\/(e=.ret/\kn all (k+p) sm=false/\c8 prog Tryz.f150 i f=some (.bool false)))) (λm i f=>∃j,m+j=sm.length/\f.get s.nx=some (.stringIter ⟨sm.toArray⟩ j)/\s.nx<f.nx/\iz s.nx s f/\kn all (k+p) sm=kn all (k+p+j) (sm.drop j)/\∃x,i=Kf c p sm s.nx x) ?_ sm.length _ _ ⟨0,by omega,by rw[AS.bv,ip rfl],by simp,iz.add lr,by simp,S,rfl⟩) ?_
 .rintro m i f ⟨j,U,y,E,d,a,x,rfl⟩;by_cases D:j<sm.length
  .have v:sm[j]?=some sm[j]:=gE D;have H:=J sm[j] (D3 D);rw[List.drop_eq_getElem_cons D] at a;generalize sm[j]=b at v H a;generalize o:f.set s.nx (some (.stringIter ⟨sm.toArray⟩ (j+1)))=u;have g:iz s.nx s u:=by rw[<-o];exact⟨d.1,λq L=>by rw[AS.bn,iw oq];exact d.2 q L⟩
   have F:u.get c=some (.cells cs t fz):=(g.2 c C).trans M;have w:=nL (rn:=rn) (all:=all) (pr:=pr) (s:=u) B.n70 B.xN (p:=p+j) F I h1 oq;rw[show k+(p+j)=k+p+j by omega] at w;have h:=Ui B.Jq (s:=u) (K (k+p+j));simp only[kn] at a;generalize V:dL all (k+p+j)=r at w h a;generalize dO r=lr at h a;refine zr (zp (JK (b:=s.nx) (pos:=j) (l:=sm) (r:=b) rfl kq y v H z) ?_);rw[o];refine zf (za u (EW.seq (zT (EW.block (zs (za u (zr (zk 3 (zp (yp (p:Nat) (j:Nat) ((p+j:Nat):Int) oq oq) (zo u (yf w (yf h (zk 1 ?_)))))))))))));by_cases n:lr=((b.toNat:Nat):Int)
   .refine zp (yb (.int .i32 lr) (.int .i32 ((b.toNat:Nat):Int)) (cM (b:=false) (by simp[n]))) (EO.nil (zF ?_));refine⟨m-1,by omega,j+1,by omega,?_,?_,g,?_,aR kq⟩
    .show u.get s.nx=_;rw[<-o,AS.bn,ip rfl]
    .show s.nx<u.nx;rw[<-o];exact E
    .rw[a,n];simp;rfl
   .refine zp (yb (.int .i32 lr) (.int .i32 ((b.toNat:Nat):Int)) (cM (b:=true) (by simp[n]))) (EO.nil (zH (zs (EW.ret ⟨g,.inr ⟨rfl,?_,by kernel_rfl⟩⟩))));rw[a];simp[n]
  .obtain rfl:j=sm.length:=oq
   refine zr (zp (uw (b:=s.nx) (pos:=sm.length) (l:=sm) rfl kq y lr) (zf (za f (EW.seq (zG (EW.exit ⟨d,.inl ⟨rfl,?_,aR kq⟩⟩))))));rw[a,K3 lr];rfl
 .rintro e i f ⟨d,(⟨rfl,a,x,rfl⟩|⟨rfl,a,YF⟩)⟩
  .rw[a];refine zs ?_;exact EW.ret ⟨.inr rfl,by kernel_rfl,d⟩
  .rw[a];exact⟨.inr rfl,YF,d⟩
end
structure Tok where
 kind:Int
 text:Bq
 name:Bq
 aM:fF
 closed:Bool
def Sx (s:AS)(t:gp)(u:Tok):Prop:=t.kind=u.kind/\t.text=u.text/\t.name=u.name/\t.closed=u.closed/\bS s t.at_ u.aM
def gu(s:AS)(ts:List gp)(us:List Tok):Prop:=ts.length=us.length/\∀(i:Nat) (t:gp) (u:Tok),ts[i]?=some t->us[i]?=some u->Sx s t u
def lS (rn c:Nat)(s:AS)(k:Nat)(tx:Bq)(us:List Tok):Prop:=∃ts,SC rn c s k tx ts/\gu s ts us
def oB (rn c:Nat)(s:AS):Prop:=Has s 1 (.cells cR.toArray 335)/\rn<s.nx/\c≠1
variable {ts:List gp}{us:List Tok}
section
variable {c k:Nat}{s s':AS}{tx:Bq}
def gu.fr(h:gu s ts us)(l:SC rn c s k tx ts)(j:fS c s s'):gu s' ts us:=⟨h.1,λi t u m n=>by
 have⟨h1,h2,h3,g,f⟩:=h.2 i t u m n;refine⟨h1,h2,h3,g,f.fk j.1 λb a=>?_⟩;rcases f with ⟨e,_⟩|⟨d,cp,fz,e,q1,q2⟩
 .rw[e] at a;exact(bR a).elim
 .rw[e] at a;rw[cH a];exact l.no (⟨q1,q2⟩:Has s d _) dq dq dq⟩
def gu.snoc{t:gp}{u:Tok}(h:gu s ts us)(b:Sx s t u):gu s (ts++[t]) (us++[u]):=⟨by simp[h.1],λi c d h1 h2=>by
 by_cases a:i<ts.length
 .rw[vA a] at h1;rw[vA (by rw[<-h.1];exact a)] at h2;exact h.2 i c d h1 h2
 .rw[Bp oq] at h1;rw[Bp (by rw[<-h.1];omega),<-h.1] at h2;match hq:i-ts.length with
  | 0=>rw[hq] at h1 h2;cases h1;cases h2;exact b
  | q+1=>rw[hq] at h1;simp at h1⟩
def oB.fr(h:oB rn c s)(b:SC rn c s k tx ts)(a:fS c s s'):oB rn c s':=⟨h.1.fr a.1 (b.no h.1 dq dq dq),by have:=h.2.1;have:=a.1.1;omega,h.2.2⟩
def ig (tx:Bq)(a:List Tok):List Tok:=if tx=[] then a else a++[⟨1,tx,[],[],false⟩]
def gu.sx(h:gu s ts us):gu s (sx tx ts) (ig tx us):=by
 unfold YtgcaionclkbehaaGreatDoor.sx ig;split
 .exact h
 .exact h.snoc ⟨rfl,rfl,rfl,rfl,.inl ⟨rfl,rfl⟩⟩
variable {pr:Prim}
def aH(nm:Bq)(l:List (Bq)):Bool:=l.any λt=>cw nm t
abbrev nE:List (Bq):=[[115,99,114,105,112,116],[115,116,121,108,101]]
abbrev dM:List (Bq):=[[116,105,116,108,101],[116,101,120,116,97,114,101,97]]
section
variable (js:pr 127=bu 127)
def UT(a:pr 250=none)(nm:Bq):Ef pr 250 #[str nm] s (.bool (aH nm nE)) (s.add (.cells (nE.map str).toArray 9)):=by have b:=oL (pr:=pr) (s:=s.add (.cells (nE.map str).toArray 9)) js (nm:=nm) (Hc:=nE) (d:=s.nx) (c:=2) (Has.new s _).2 dq (bb:=aH nm nE) rfl;generalize aH nm nE=bb at b |-;exact EF.of a func250 rfl (zs (zr (zc 2 b (zf yR))))
def EI(a:pr 251=none)(nm:Bq):Ef pr 251 #[str nm] s (.bool (aH nm dM)) (s.add (.cells (dM.map str).toArray 9)):=by have b:=oL (pr:=pr) (s:=s.add (.cells (dM.map str).toArray 9)) js (nm:=nm) (Hc:=dM) (d:=s.nx) (c:=2) (Has.new s _).2 dq (bb:=aH nm dM) rfl;generalize aH nm dM=bb at b |-;exact EF.of a func251 rfl (zs (zr (zc 2 b (zf yR))))
end
def Ct(a:pr 247=none)(c : -1<=r/\r<=1114111):Ef pr 247 #[.int .i32 r] s (.int .i32 (dO r)) s:=by
 unfold dO;refine EF.of (a) func247 rfl (zs (EW.seq (zr (zk 1 ?_))));by_cases h1:65<=r
 .refine zp (aQ (u:=.int .i32 65) rfl kq kq (bU (b:=true) (tD h1))) (zk 2 ?_);by_cases h2:r<=90
  .rw[ip ⟨h1,h2⟩];refine zp (aQ (u:=.int .i32 r) rfl kq kq (bU (b:=true) (tD h2))) (zf (zH (zr (zg 1 s (EO.op (v:=.int .i32 (r-65)) (s1:=s) kq ((show _=some (Value.int .i32 (eQ .i32 (r-65)),s) by kernel_rfl).trans (by rw[kH oq])) (zo s (EO.op (v:=.int .i32 (r+32)) (s1:=s) kq ((show _=some (Value.int .i32 (eQ .i32 (r-65+97)),s) by kernel_rfl).trans (by rw[kH oq,show r-65+97=r+32 by omega])) (zf ?_))))))));exact EW.ret ⟨.inr rfl,by kernel_rfl,by kernel_rfl⟩
  .rw[iw oq];refine zp (aQ (u:=.int .i32 r) rfl kq kq (bU (b:=false) (fD h2))) (zf (zF (zs ?_)));exact EW.ret ⟨.inr rfl,by kernel_rfl,by kernel_rfl⟩
 .rw[iw oq];refine zp (aQ (u:=.int .i32 65) rfl kq kq (bU (b:=false) (fD h1))) (zf (zF (zs ?_)));exact EW.ret ⟨.inr rfl,by kernel_rfl,by kernel_rfl⟩
def kI(l:Int):Bool:=decide (97<=dO l)&&decide (dO l<=122)
def oM(c:pr 147=none)(d:pr 247=none){l:Int}(e : -1<=l/\l<=1114111):Ef pr 147 #[.int .i32 l] s (.bool (kI l)) s:=by
 have a:=Ct (pr:=pr) (s:=s) d e;unfold kI;generalize dO l=r at a |-;refine EF.of c func147 rfl (zs (zr (zc 1 a (zf (za s (zr (zk 1 ?_)))))));by_cases h1:97<=r
 .rw[tD h1,Bool.true_and];refine zp (yb (.int .i32 97) (.int .i32 r) (bU (b:=true) (tD h1))) (zk 2 (zp (yb (.int .i32 r) (.int .i32 122) (bU (b:=decide (r<=122)) rfl)) ?_));generalize decide (r<=122)=f;exact zf yR
 .rw[fD h1,Bool.false_and];exact zp (yb (.int .i32 97) (.int .i32 r) (bU (b:=false) (fD h1))) (zf yR)
abbrev uT(c:Nat):Obj:=.cells #[am c 0] 196
variable {r:Value}
end
structure Hr(rn:Nat)(all:Iq)(lo:Bq->Bq)(wr:Bq->Int->Bq)(T:Bq->Prop)(W:Bq->Int->Prop)(pr:Prim):Prop where
 h:Wo rn all lo wr T W pr
 fP:pr 127=bu 127
 QL:pr 147=none
 Jq:pr 247=none
 Ut:pr 250=none
 QN:pr 251=none
 lv:∀l∈all,l<=1114111
variable {c k k':Nat}{s s':AS}{tx:Bq}{r:Value}
section
def SC.mv(h1:Has s c (fG rn k p q r))(h2:p=.pointer none\/p=am c 2)(h3:Dk s q tx)(i:rQ s r ts)(g:aO (λb=>b=c) s s')(f:Has s' c (fG rn k' p q r)):SC rn c s' k' tx ts/\fS c s s':=by refine⟨⟨p,q,r,f,h2,h3.imp id λ⟨d,h,e1,a⟩=>⟨d,h,e1,a.fr g (a.ne h1 dq)⟩,i.imp id λ⟨d,h,e1,a⟩=>⟨d,h,e1,a.fr g (a.ne h1 dq)⟩⟩,fS.mk' h1 f ⟨g.1,λb j l=>g.2 b j λe=>l (.inl e)⟩ (.inl rfl) (.inl rfl)⟩
variable {pr:Prim}{wr:Bq->Int->Bq}
section
variable (hp:Hr rn all lo wr T W pr)
def Hr.at(k:Nat) : -1<=dL all k/\dL all k<=1114111:=by
 rcases hp.h.g.at k with e|e
 .rw[e];decide
 .exact⟨by have:=hp.h.g.pos _ e;omega,hp.lv _ e⟩
def KH{w:Nat}{aF:fF}(hk:k+w<=all.length)(hT:T (cP all (k+w) (eL all dE (k+w))))(YM:qy all lo wr n (eL all dE (k+w)) []=some (aF,cl,wh,k'))(Cm:rR all lo wr T W n (eL all dE (k+w)))(h:lS rn c s k tx us)(he:oB rn c s) :
  ∃S1 av,Ef pr 248 #[am c 0] (s.set c (match s.get c with|some (.cells cs t fz)=>some (.cells (cs.set! 1 (num ((k+w:Nat):Int))) t fz)|o=>o)) (.tuple #[.agg #[str (if wh then lo (cP all (k+w) (eL all dE (k+w))) else []),av,.bool cl],.bool wh]) S1/\lS rn c S1 k' tx us/\oB rn c S1/\bS S1 av aF/\fS c s S1:=by
 obtain⟨ts,⟨p,q,r,h1,h2,h3,h4⟩,hm⟩:=h;have hsc:SC rn c s k tx ts:=⟨p,q,r,h1,h2,h3,h4⟩;have e:s.set c (match s.get c with|some (.cells cs t fz)=>some (.cells (cs.set! 1 (num ((k+w:Nat):Int))) t fz)|o=>o)=sp s c rn p q r (k+w):=by rw[h1.2];rfl
 rw[e];have a1:Has (sp s c rn p q r (k+w)) c (fG rn (k+w) p q r):=h1.put _;have a2:Has (sp s c rn p q r (k+w)) 1 (.cells cR.toArray 335):=he.1.set (Ne.symm he.2.2) _;have⟨S1,av,g1,g2,g3,g4,g5,g6⟩:=Ve hp.h hk hT YM Cm a1 he.2.2 a2 he.2.1;have hf:aO (λb=>b=c) s S1:=(aO.set (K:=λb=>b=c) (aO.refl s) (λ_=>rfl) _).trans g4 λb _ z=>z;have⟨m1,m2⟩:=SC.mv h1 h2 h3 h4 hf g2;exact⟨S1,av,g1,⟨ts,m1,hm.fr hsc m2⟩,he.fr hsc m2,g3,m2⟩
end
end
def Kt(c k:Nat)(x:Nq):TL:=[am c 0,x 1,num (k:Nat)]++gD x 3 34
section
variable {pr:Prim}{wr:Bq->Int->Bq}
def SC.ahead(a:Dj rn all pr)(h:SC rn c s k tx ts)(b:k<=900000):Ef pr 70 #[am c 0,num 0] s (.int .i32 (dL all k)) s:=by
 have⟨p,q,r,h1,_⟩:=h
 have:=h9 (s:=s) (c:=c) (p:=p) (q:=q) (r:=r) a (k:=k) oq;rw[mq h1.2] at this;exact this
structure St where
 k:Nat
 tx:Bq
 us:List Tok
abbrev Sv(rn c:Nat)(s:AS)(x:St):Prop:=lS rn c s x.k x.tx x.us
def Rn (rn c:Nat)(x:Nq):TL:=[am rn 0,x 1,aD,am c 0]++gD x 4 14
end
def fY:List (Bq):=[[98,97,115,101],[108,105,110,107],[109,101,116,97],OB,OC,OA]
def aL:List (Bq):=[QH,Um,nW,QI,[116,100],[116,104]]
def nn:List (Bq):=[[97,100,100,114,101,115,115],[97,114,116,105,99,108,101],[97,115,105,100,101],[98,108,111,99,107,113,117,111,116,101],[99,101,110,116,101,114],[100,101,116,97,105,108,115],[100,105,97,108,111,103],[100,105,114],[100,105,118],[100,108],[102,105,101,108,100,115,101,116],[102,105,103,99,97,112,116,105,111,110],[102,105,103,117,114,101],[102,111,111,116,101,114],[102,111,114,109],[104,49],[104,50],[104,51],[104,52],[104,53],[104,54],[104,101,97,100,101,114],[104,103,114,111,117,112],[109,97,105,110],[109,101,110,117],[110,97,118],[111,108],[112],[112,114,101],[115,101,99,116,105,111,110],[115,117,109,109,97,114,121],QI,Ul]
def bz:List (Bq):=[[104,49],[104,50],[104,51],[104,52],[104,53],[104,54]]
def bq:List (Bq):=[[97],[98],[98,105,103],[99,111,100,101],[101,109],[102,111,110,116],[105],[110,111,98,114],[115],[115,109,97,108,108],[115,116,114,105,107,101],[115,116,114,111,110,103],[116,116],[117]]
def dH:List (Bq):=[[97,114,101,97],[98,97,115,101],xr,[99,111,108],[101,109,98,101,100],[104,114],[105,109,103],[105,110,112,117,116],[108,105,110,107],[109,101,116,97],[115,111,117,114,99,101],[116,114,97,99,107],[119,98,114]]
def bO:List (Bq):=[Um,QI,V0,[116,100],VZ,[116,104],V1,[116,114]]
def mf:List (Bq):=[OB,OC,lql,OA]
section
variable {pr:Prim}{s:AS}
def Gk(h:pr 124=none):Ef pr 124 #[] s (.slice (sq s.nx) 6 6) (s.add (.cells (fY.map str).toArray 9)):=by
 refine EF.of h func124 rfl ?_;iterate 2 refine zs ?_
 exact yR
def nX(h:pr 131=none):Ef pr 131 #[] s (.slice (sq s.nx) 6 6) (s.add (.cells (aL.map str).toArray 9)):=by
 refine EF.of h func131 rfl ?_;iterate 2 refine zs ?_
 exact yR
def Cz(h:pr 133=none):Ef pr 133 #[] s (.slice (sq s.nx) 33 33) (s.add (.cells (nn.map str).toArray 9)):=by
 refine EF.of h func133 rfl ?_;iterate 2 refine zs ?_
 exact yR
def jx(h:pr 134=none):Ef pr 134 #[] s (.slice (sq s.nx) 6 6) (s.add (.cells (bz.map str).toArray 9)):=by
 refine EF.of h func134 rfl ?_;iterate 2 refine zs ?_
 exact yR
def rr(h:pr 137=none):Ef pr 137 #[] s (.slice (sq s.nx) 14 14) (s.add (.cells (bq.map str).toArray 9)):=by
 refine EF.of h func137 rfl ?_;iterate 2 refine zs ?_
 exact yR
def Ab(h:pr 138=none):Ef pr 138 #[] s (.slice (sq s.nx) 13 13) (s.add (.cells (dH.map str).toArray 9)):=by
 refine EF.of h func138 rfl ?_;iterate 2 refine zs ?_
 exact yR
def uo(h:pr 142=none):Ef pr 142 #[] s (.slice (sq s.nx) 8 8) (s.add (.cells (bO.map str).toArray 9)):=by
 refine EF.of h func142 rfl ?_;iterate 2 refine zs ?_
 exact yR
def Gl(h:pr 314=none):Ef pr 314 #[] s (.slice (sq s.nx) 4 4) (s.add (.cells (mf.map str).toArray 9)):=by
 refine EF.of h func314 rfl ?_;iterate 2 refine zs ?_
 exact yR
end
structure Nd where
 kind:Int
 parent:Int
 name:Bq
 text:Bq
 aM:fF
def Wn (s:AS)(x:bY)(u:Nd):Prop:=x.kind=u.kind/\x.parent=u.parent/\x.name=u.name/\x.text=u.text/\bS s x.aM u.aM
def fJ (s:AS)(xs:List bY)(us:List Nd):Prop:=xs.length=us.length/\∀(i:Nat) (x:bY) (u:Nd),xs[i]?=some x->us[i]?=some u->Wn s x u
def rP (s:AS)(v:Value)(xs:List bY):Prop:=∃d c fz,v=.slice (some ⟨d,0,none⟩) xs.length c/\Has s d (.cells (aY xs) 44 fz)
structure TS where
 nodes:List Nd
 row:List Nat
 again:List Nat
 w:Int
abbrev c9(f:FuncId):Value:=.func (.func 66) #[.func (.func f) #[] #[]] #[]
abbrev jB(nv rv av:Value)(w:Int):Obj:=.cells #[nv,rv,av,num w,c9 65,c9 67,c9 68,c9 69] 183
def gM (nm:Bq):Bool:=cw nm nW||cw nm QH
def Hh (b:Nat)(nm:Bq)(v:Value):Prop:=∀y,blk v y->y<b/\gM nm=false
def Hh.nil(b:Nat)(nm:Bq):Hh b nm aD:=λy z=>(bR z).elim
def yK (b:Nat)(xs:List bY):Prop:=(∀(i:Nat) (x:bY) (y:Nat),xs[i]?=some x->blk x.aM y->(y<b/\gM x.name=false)\/(b<y/\gM x.name=true))/\∀(i j:Nat) (x x':bY) (y:Nat),xs[i]?=some x->xs[j]?=some x'->b<y->blk x.aM y->blk x'.aM y->i=j
theorem yK.snoc(h:yK b xs)(e:Hh b x.name x.aM):yK b (xs++[x]):=by
 have a:∀(i:Nat) (z:bY),(xs++[x])[i]?=some z->xs[i]?=some z\/(i=xs.length/\z=x):=λi z d=>by grind
 refine⟨λi z y d U=>?_,λi j z f y d g k U c=>?_⟩
 .rcases a i z d with q|⟨_,rfl⟩
  .exact h.1 i z y q U
  .exact .inl (e y U)
 .rcases a i z d with q|⟨_,rfl⟩
  .rcases a j f g with q'|⟨_,rfl⟩
   .exact h.2 i j z f y q q' k U c
   .have:=(e y c).1;omega
  .have:=(e y U).1;omega
theorem yK.set{z:bY}(h:yK b xs)(v:xs[k]?=some x)(t:z.name=x.name)(s:z.aM=x.aM):yK b (xs.set k z):=by
 have a:∀(i:Nat) (u:bY),(xs.set k z)[i]?=some u->∃d:bY,xs[i]?=some d/\u.name=d.name/\u.aM=d.aM:=λi u e=>by grind
 refine⟨λi u y e U=>?_,λi j u d y e f o U c=>?_⟩
 .have⟨m,g,n,l⟩:=a i u e;rw[n];rw[l] at U;exact h.1 i m y g U
 .have⟨m,g,n,l⟩:=a i u e;have⟨r,p,w,q⟩:=a j d f;rw[l] at U;rw[q] at c;exact h.2 i j m r y g p o U c
structure BT(s:AS)(b:Nat)(nv rv av:Value)(xs:List bY)(σ:TS):Prop where
 sp:yK b xs
 b:Has s b (jB nv rv av σ.w)
 n:rP s nv xs
 m:fJ s xs σ.nodes
 r:eS s rv σ.row
 a:eS s av σ.again
 ra:∀x,blk rv x->¬blk av x
 lt:∀k∈σ.row,k<σ.nodes.length
 la:∀k∈σ.again,k<σ.nodes.length
 ne:σ.row≠[]
 sz:σ.nodes.length<=400000000/\σ.row.length<=40/\σ.again.length<=100000
def KB (b:Nat)(s:AS)(x:Nat):Prop:=x=b\/(∃nv rv av w,s.get b=some (jB nv rv av w)/\(blk nv x\/blk rv x\/blk av x))\/(b<x/\∃cs fz,s.get x=some (.cells cs 47 fz))
def bG (b:Nat)(s s':AS):Prop:=aO (KB b s) s s'/\∀x,x<s.nx->KB b s' x->KB b s x
variable {nv rv:Value}{σ:TS}
section
variable {s s' s1 s2:AS}{b:Nat}{av Uz wA u7:Value}{w w':Int}{xs:List bY}
def bG.refl(s:AS):bG b s s:=⟨aO.refl s,λ_ _ h=>h⟩
def bG.trans(h:bG b s s1)(c:bG b s1 s2):bG b s s2:=by have d:=h.1.1;exact⟨h.1.trans c.1 λx a z=>h.2 x a z,λx a z=>h.2 x a (c.2 x oq z)⟩
theorem KB.at(h:s.get b=some (jB nv rv av w)){x:Nat}:KB b s x↔x=b\/blk nv x\/blk rv x\/blk av x\/(b<x/\∃a c,s.get x=some (.cells a 47 c)):=by
 constructor
 .rintro(z|⟨_,_,_,_,z,y⟩|z)
  .exact .inl z
  .grind
  .grind
 .rintro(z|z|z|z|z)
  .exact .inl z
  .exact .inr (.inl ⟨_,_,_,_,h,.inl z⟩)
  .exact .inr (.inl ⟨_,_,_,_,h,.inr (.inl z)⟩)
  .exact .inr (.inl ⟨_,_,_,_,h,.inr (.inr z)⟩)
  .exact .inr (.inr z)
theorem bG.mk'(h1:Has s b (jB nv rv av w))(h2:Has s' b (jB Uz wA u7 w'))(U:aO (KB b s) s s')(e:Uz=nv\/∀x,blk Uz x->s.nx<=x)(f:(∀x,blk wA x->blk rv x)\/∀x,blk wA x->s.nx<=x)(d:(∀x,blk u7 x->blk av x)\/∀x,blk u7 x->s.nx<=x):bG b s s':=by
 refine⟨U,λx c z=>(KB.at h1.2).2 ?_⟩;rcases(KB.at h2.2).1 z with z|z|z|z|z
 .exact .inl z
 iterate 3
  .grind
 .by_cases a:KB b s x
  .exact(KB.at h1.2).1 a
  .rw[U.2 x c a] at z;grind
def eS.blk{x:Nat}(h:eS s v l)(c:YtgcaionclkbehaaGreatDoor.blk v x):∃a b,Has s x (.cells a 3 b):=by
 rcases h with ⟨rfl,_⟩|⟨d,cp,a,b,rfl,_,h1,h2,_⟩
 .exact(bR c).elim
 .rw[cH c];exact⟨_,_,h1,h2⟩
def rP.blk{x:Nat}(h:rP s nv xs)(e:YtgcaionclkbehaaGreatDoor.blk nv x):∃b a,Has s x (.cells b 44 a):=by obtain⟨d,c,a,rfl,h⟩:=h;rw[cH e];exact⟨_,_,h⟩
def BT.no(h:BT s b nv rv av xs σ){x:Nat}(c:Has s x (.cells cs t fz))(h1:t≠183)(h2:t≠44)(h3:t≠3)(d:t≠47:=by decide):¬KB b s x:=by
 intro z;rcases(KB.at h.b.2).1 z with z|z|z|z|⟨_,_,_,z⟩
 .exact c.ne h.b h1 z
 .have⟨_,_,z⟩:=h.n.blk z;exact c.ne z h2 rfl
 .have⟨_,_,z⟩:=h.r.blk z;exact c.ne z h3 rfl
 .have⟨_,_,z⟩:=h.a.blk z;exact c.ne z h3 rfl
 .rw[c.2] at z;cases z;exact d rfl
def eS.fk(h:eS s v l)(a:aO K s s')(b:∀x,YtgcaionclkbehaaGreatDoor.blk v x->¬K x):eS s' v l:=by
 rcases h with h|⟨d,cp,cs,fz,rfl,h0,h1,h2,h3⟩
 .exact .inl h
 .have:=Has.fr ⟨h1,h2⟩ a (b d (dj _ _ _));exact .inr ⟨d,cp,cs,fz,rfl,h0,this.1,this.2,h3⟩
def rP.fk(h:rP s nv xs)(b:aO K s s')(e:∀x,YtgcaionclkbehaaGreatDoor.blk nv x->¬K x):rP s' nv xs:=by obtain⟨d,c,a,rfl,h⟩:=h;exact⟨d,c,a,rfl,h.fr b (e d (dj _ _ _))⟩
def fJ.fk{f:List Nd}(h:fJ s xs f)(k:aO K s s')(l:∀x g b,Has s x (.cells g 47 b)->¬K x):fJ s' xs f:=⟨h.1,λi x u n m=>by
 have⟨h1,h2,h3,j,c⟩:=h.2 i x u n m;refine⟨h1,h2,h3,j,c.fk k λy a=>?_⟩;rcases c with ⟨e,_⟩|⟨d,cp,b,e,q1,q2⟩
 .rw[e] at a;exact(bR a).elim
 .rw[e] at a;rw[cH a];exact l d _ _ ⟨q1,q2⟩⟩
section
variable (h:BT s b nv rv av xs σ)
def BT.fk(f:aO K s s')(g:∀x d t e,Has s x (.cells d t e)->K x->t≠183/\t≠44/\t≠3/\t≠47):BT s' b nv rv av xs σ:=by
 have i:∀x d e,Has s x (.cells d 47 e)->¬K x:=λx d e c z=>(g x d 47 e c z).2.2.2 rfl;refine⟨h.sp,h.b.fr f λz=>(g _ _ _ _ h.b z).1 rfl,h.n.fk f λx c z=>?_,h.m.fk f i,h.r.fk f λx c z=>?_,h.a.fk f λx c z=>?_,h.ra,h.lt,h.la,h.ne,h.sz⟩
 .have⟨_,_,y⟩:=h.n.blk c;exact(g _ _ _ _ y z).2.1 rfl
 .have⟨_,_,y⟩:=h.r.blk c;exact(g _ _ _ _ y z).2.2.1 rfl
 .have⟨_,_,y⟩:=h.a.blk c;exact(g _ _ _ _ y z).2.2.1 rfl
def BT.add(o:Obj):BT (s.add o) b nv rv av xs σ:=h.fk ((aO.refl (K:=λ_=>False) s).add o) λ_ _ _ _ _ z=>z.elim
def bG.add(o:Obj):bG b s (s.add o):=bG.mk' h.b (h.b.add o) ((aO.refl s).add o) (.inl rfl) (.inl λ_ z=>z) (.inl λ_ z=>z)
end
def eS.len(h:eS s v l):∃b a,v=.slice b l.length a:=by
 rcases h with ⟨rfl,rfl⟩|⟨d,a,cs,fz,rfl,h0,h1,h2,h3⟩
 .exact⟨none,0,rfl⟩
 .exact⟨_,_,rfl⟩
variable {pr:Prim}
theorem QF{a b c d:Option Value × Value}(U:a.1=some a.2/\bB 20 a.2=true)(e:b.1=some b.2/\bB 20 b.2=true)(f:c.1=some c.2/\bB 20 c.2=true)(g:d.1=some d.2/\bB 20 d.2=true):∀x∈[a,b,c,d],x.1=some x.2/\bB 20 x.2=true:=gq
def tH(a:pr 232=none)(h:BT s b nv rv av xs σ):Ef pr 232 #[am b 0] s (num ((σ.row.length:Nat)-1:Int)) s:=by have⟨d,e,g⟩:=h.r.len;have c:=h.b;have f:=h.sz.2.1;rw[g] at c;exact EF.of a func232 rfl (zs (zr (zg 3 s (zp (yl b 1 (.slice d σ.row.length e) c.2) (zk 1 (zp (gJ (r:=((σ.row.length:Nat):Int)-1) rfl kq kq rfl oq) (zf yR)))))))
def BT.node(h:BT s b nv rv av xs σ){u:Nd}(g:σ.nodes[k]?=some u):∃d c e x,nv=.slice (sq d) σ.nodes.length c/\Has s d (.cells (aY xs) 44 e)/\xs[k]?=some x/\Wn s x u/\k<σ.nodes.length:=by
 have⟨d,c,e,l,j⟩:=h.n;have a:k<σ.nodes.length:=(gS.1 g).1;have f:k<xs.length:=by rw[h.m.1];exact a
 have i:xs[k]?=some xs[k]:=gE f;exact⟨d,c,e,xs[k],by rw[l,h.m.1],j,i,h.m.2 k _ _ i g,a⟩
def eS.at(h:eS s v l)(hi:l[i]?=some k):∃d c b e,v=.slice (sq d) l.length c/\l.length<=c/\Has s d (.cells b 3 e)/\b[i]?=some (num (k:Nat))/\i<l.length:=by
 have a:i<l.length:=(gS.1 hi).1;rcases h with ⟨_,rfl⟩|⟨d,cp,b,e,rfl,h0,h1,h2,h3⟩
 .simp at a
 .exact⟨d,cp,b,e,rfl,h0,⟨h1,h2⟩,h3 i k hi,a⟩
def Cx(a:pr 231=none)(h:BT s b nv rv av xs σ){u:Nd}(hi:σ.row[i]?=some k)(t:σ.nodes[k]?=some u):Ef pr 231 #[am b 0,num (i:Nat)] s (str u.name) s:=by
 have⟨o,n,H,x,l,g,A,y,w⟩:=h.node t;have⟨f,p,E,I,m,z,e,d,q⟩:=h.r.at hi;have c:=h.b;rw[l,m] at c;have j:(aY xs)[k*5+2]?=some (str u.name):=by rw[dt A 2 dq,<-y.2.2.1];rfl
 have B:=bE underlying38 rfl c.2 (off:=0) rfl;have C:=bE underlying25 rfl c.2 (off:=1) rfl;have D:=bE underlying3 rfl e.2 d;generalize F:σ.nodes.length=N at *;generalize G:σ.row.length=R at *;refine EF.of a func231 rfl ?_;refine zs (EW.seq (EW.draw kq kq kq ?_));iterate 3 refine zq ?_
 refine zt s (zu (yl b 0 (.slice (sq o) N n) c.2) ?_);iterate 3 refine zq ?_
 refine zt s (zu (yl b 1 (.slice (sq f) R p) c.2) (zq (zu (yi f 0 R p i none .i64 (i:Nat) 1 oq oq oq) (zt s (zu (bw (off:=i) (v:=num (k:Nat)) rfl underlying3 rfl kq e.2 d) (zu (yi o 0 N n (k*5) none .i64 (k:Nat) 5 oq oq oq) (zq (zt s (zu (bw (off:=k*5+2) (v:=str u.name) rfl underlying9 rfl kq g.2 j) (zq (ET.nil ⟨aI [(aB prog 38 (am b 0) s,.slice (sq o) N n),(aB prog 25 (am b 1) s,.slice (sq f) R p),(aB prog 3 (am f i) s,num (k:Nat))] kq (Cq ⟨B,rfl⟩ ⟨C,rfl⟩ ⟨D,rfl⟩),_,_,_,_,_,_,rfl,rfl,?_⟩)))))))))));exact yR
end
def nameAt(σ:TS)(i:Nat):Bq:=match σ.row[i]? with
 | some k=>match σ.nodes[k]? with
  | some u=>u.name
  | none=>[]
 | none=>[]
def lx(σ:TS)(l:List (Bq)):Nat->Int
 | 0 => -1
 | n+1=>if aH (nameAt σ n) l then ((n:Nat):Int) else lx σ l n
def cD(σ:TS)(l:List (Bq)):Int:=lx σ l σ.row.length
def bC(σ:TS)(b a:List (Bq)):Int:=if cD σ a<cD σ b then -1 else cD σ a
def zX(σ:TS)(l:List (Bq)):∀n,-1<=lx σ l n/\lx σ l n<n
 | 0=>by simp[lx]
 | n+1=>by have:=zX σ l n;unfold lx;split<;>omega
def jR(σ:TS)(l:List (Bq)) : -1<=cD σ l/\cD σ l<σ.row.length:=zX σ l _
def oE(σ:TS)(l m:List (Bq)) : -1<=bC σ l m/\bC σ l m<σ.row.length:=by have h1:=jR σ m;unfold bC;split<;>omega
def cU (s:AS)(v:Value)(l:List (Bq)):Prop:=l.length<=1000/\∃d c fz,v=.slice (some ⟨d,0,none⟩) l.length c/\Has s d (.cells (l.map str).toArray 9 fz)
def Kh(b:Nat)(v:Value)(at_:Int)(x:Nq):TL:=[am b 0,v,x 2,x 3,num 0,num at_]++gD x 6 12
variable {v2:Value}
section
variable {s s':AS}{b:Nat}{av v:Value}{xs:List bY}{pr:Prim}{l l2:List (Bq)}
section
variable (h:cU s v l)
def cU.fk(f:aO K s s')(g:∀x b a,Has s x (.cells b 9 a)->¬K x):cU s' v l:=by obtain⟨e,d,c,a,rfl,h1⟩:=h;exact⟨e,d,c,a,rfl,h1.fr f (g d _ _ h1)⟩
def cU.add(o:Obj):cU (s.add o) v l:=h.fk ((aO.refl s).add o) λ_ _ _ _=>id
def cU.is(a:pr 127=bu 127)(nm:Bq):Ef pr 127 #[str nm,v] s (.bool (aH nm l)) s:=by obtain⟨b,d,c,e,rfl,h1⟩:=h;exact oL a h1.2 b rfl
end
theorem BT.name(h:BT s b nv rv av xs σ)(U:pr 231=none)(hi:i<σ.row.length):Ef pr 231 #[am b 0,num (i:Nat)] s (str (nameAt σ i)) s:=by
 have c:σ.row[i]?=some σ.row[i]:=gE hi;have a:=h.lt _ (D3 hi);have d:σ.nodes[σ.row[i]]?=some σ.nodes[σ.row[i]]:=gE a
 have:=Cx U h c d;unfold nameAt;grind
def uh(n:pr 222=none)(o:pr 231=none)(p:pr 232=none)(k:pr 127=bu 127)(h:BT s b nv rv av xs σ)(z:cU s v l):Ef pr 222 #[am b 0,v] s (num (cD σ l)) s:=by
 have A:=tH p h;have C:=h.sz;have t:=λi B=>h.name o (i:=i) B;have q:=λu=>z.is k u;generalize y:σ.row.length=R at *;suffices hx:Ew pr (match Tryz.f222.body with|some c=>c|none=>.skip) ((#[am b 0,v]:Aq).toList++List.replicate (Tryz.f222.ntmps-(#[am b 0,v]:Aq).toList.length) undef) s (λe a g=>(e=.normal\/e=.ret)/\c8 prog Tryz.f222 a g=some (num (cD σ l))/\g=s) from EF.of n func222 rfl hx
 refine zs (EW.seq (zr (zc 1 A (zf (za s (EW.fill (Kh b v (((R:Nat):Int)-1)) kq ?_))))));intro D;refine EW.block ?_;refine EW.mono (EW.dG (Q:=λe a g=>(e=.exit 0/\g=s/\cD σ l = -1/\∃x,a=Kh b v (-1) x)\/(e=.ret/\g=s/\c8 prog Tryz.f222 a g=some (num (cD σ l)))) (λm a f=>m<=R/\f=s/\cD σ l=lx σ l m/\∃x,a=Kh b v (((m:Nat):Int)-1) x) ?_ R _ _ ⟨lr,rfl,by unfold cD;rw[y],D,rfl⟩) ?_
 .rintro m a f ⟨E,rfl,d,x,rfl⟩;cases m with
  | zero =>refine EW.seq (zr ?_);refine zf (za f (zG (EW.exit ?_)));exact .inl ⟨rfl,rfl,d,aR kq⟩
  | succ m =>
   have h1:=t m oq;have h2:=q (nameAt σ m);unfold lx at d;generalize nameAt σ m=u at h1 h2 d;rw[show((m+1:Nat):Int)-1=((m:Nat):Int) by omega];generalize aH u l=w at h2 d;refine EW.seq (zr (zk 1 (zp (yb (num (m:Nat)) (num 0) (eZ (b:=true) (tD oq))) (EO.nil (za f (zT (EW.seq (EW.block (zr (zc 2 h1 (zc 1 h2 (EO.nil (za f ?_)))))))))))));cases w with
   | true =>rw[ip rfl] at d;rw[d];refine zH (zs ?_);exact EW.ret (.inr ⟨rfl,kq,kq⟩)
   | false =>rw[iw dq] at d;refine zF (zx (zk 1 (zp (gJ (i:=((m:Nat):Int)) (j:=1) (r:=((m:Nat):Int)-1) rfl kq kq rfl oq) (zf ?_))));exact⟨m,Nat.lt_succ_self m,by omega,kq,d,aR kq⟩
 .rintro e a f (⟨rfl,rfl,h1,x,rfl⟩|⟨rfl,rfl,h1⟩)
  .rw[h1];exact zs yR
  .exact⟨.inr rfl,h1,rfl⟩
def yS(g:pr 235=none)(d:pr 222=none)(e:pr 231=none)(f:pr 232=none)(c:pr 127=bu 127)(h:BT s b nv rv av xs σ)(j:cU s v l)(i:cU s v2 l2):Ef pr 235 #[am b 0,v,v2] s (num (bC σ l l2)) s:=by
 have h1:=uh d e f c h i;have h2:=uh d e f c h j;unfold bC
 have:=jR σ l;generalize cD σ l2=i2 at *;generalize cD σ l=k at *;refine EF.of g func235 rfl (zs (zr (zc 2 h1 (zf (za s (EW.seq (zr (zc 3 h2 ?_))))))));by_cases a:i2<k
 .rw[ip a];exact zp (aQ rfl kq kq (aX (tD a))) (EO.nil (za s (zH (zs (EW.ret ⟨.inr rfl,kq,kq⟩)))))
 .rw[iw a];exact zp (aQ rfl kq kq (aX (fD a))) (EO.nil (za s (zF (zs (EW.ret ⟨.inr rfl,kq,kq⟩)))))
def cU.new(s:AS)(l:List (Bq))(n:Nat)(a:n=l.length)(h:l.length<=1000):cU (s.add (.cells (l.map str).toArray 9)) (.slice (sq s.nx) n n) l:=⟨h,s.nx,n,(0,0),by rw[a],Has.new s _⟩
def xz(j:pr 243=none)(c:pr 131=none)(g:pr 235=none)(d:pr 222=none)(e:pr 231=none)(f:pr 232=none)(a:pr 127=bu 127)(h:BT s b nv rv av xs σ)(k:cU s v l):Ef pr 243 #[am b 0,v] s (num (bC σ aL l)) (s.add (.cells (aL.map str).toArray 9)):=by have h1:=nX (s:=s) c;have h2:=yS g d e f a (h.add (.cells (aL.map str).toArray 9)) (cU.new s aL 6 rfl dq) (k.add _);generalize bC σ aL l=i at *;exact EF.of j func243 rfl (zs (zr (zc 1 h1 (zc 1 h2 (zf yR)))))
section
variable (js:pr 127=bu 127)
def Cn(i:pr 319=none)(g:pr 142=none)(h:BT s b nv rv av xs σ){u:Nd}(r:σ.nodes[k]?=some u):Ef pr 319 #[am b 0,num (k:Nat)] s (.bool (aH u.name bO)) (s.add (.cells (bO.map str).toArray 9)):=by
 have h2:=h.add (.cells (bO.map str).toArray 9);have⟨f,m,F,x,o,a,z,y,w⟩:=h.node r;have n:=h.b;have j:=h2.b;have l:=a.add (.cells (bO.map str).toArray 9);rw[o] at n j;have e:(aY xs)[k*5+2]?=some (str u.name):=by rw[dt z 2 dq,<-y.2.2.1];rfl
 have A:=bE (P:=prog) (t:=38) underlying38 rfl n.2 (off:=0) rfl;have B:=bE (P:=prog) (t:=38) underlying38 rfl j.2 (off:=0) rfl;have C:=bE (P:=prog) (t:=9) underlying9 rfl a.2 e;have D:=bE (P:=prog) (t:=9) underlying9 rfl l.2 e;have q:=uo (s:=s) g;have p:=oL (pr:=pr) (s:=s.add (.cells (bO.map str).toArray 9)) js (nm:=u.name) (Hc:=bO) (d:=s.nx) (c:=8) (Has.new s _).2 dq (bb:=aH u.name bO) rfl;generalize aH u.name bO=bb at p |-;generalize s.add (.cells (bO.map str).toArray 9)=S at *;generalize E:σ.nodes.length=N at *;refine EF.of i func319 rfl ?_;refine zs (EW.seq (EW.draw kq kq kq ?_));iterate 3 refine zq ?_
 refine zt s (zu (yl b 0 (.slice (sq f) N m) n.2) (zq (zu (yi f 0 N m (k*5) none .i64 (k:Nat) 5 oq oq oq) (zq (zt s (zu (bw (b:=f) (off:=k*5+2) (v:=str u.name) rfl underlying9 rfl kq a.2 e) (yt q (yt p (zq (ET.nil ⟨aI [(aB prog 38 (am b 0) s,.slice (sq f) N m),(aB prog 38 (am b 0) S,.slice (sq f) N m),(aB prog 9 (am f (k*5+2)) s,str u.name),(aB prog 9 (am f (k*5+2)) S,str u.name)] kq (QF ⟨A,rfl⟩ ⟨B,rfl⟩ ⟨C,rfl⟩ ⟨D,rfl⟩),_,_,_,_,_,_,rfl,rfl,?_⟩))))))))));exact yR
def Ga(i:pr 320=none)(g:pr 137=none)(h:BT s b nv rv av xs σ){u:Nd}(r:σ.nodes[k]?=some u):Ef pr 320 #[am b 0,num (k:Nat)] s (.bool (aH u.name bq)) (s.add (.cells (bq.map str).toArray 9)):=by
 have h2:=h.add (.cells (bq.map str).toArray 9);have⟨f,m,F,x,o,a,z,y,w⟩:=h.node r;have n:=h.b;have j:=h2.b;have l:=a.add (.cells (bq.map str).toArray 9);rw[o] at n j;have e:(aY xs)[k*5+2]?=some (str u.name):=by rw[dt z 2 dq,<-y.2.2.1];rfl
 have A:=bE (P:=prog) (t:=38) underlying38 rfl n.2 (off:=0) rfl;have B:=bE (P:=prog) (t:=38) underlying38 rfl j.2 (off:=0) rfl;have C:=bE (P:=prog) (t:=9) underlying9 rfl a.2 e;have D:=bE (P:=prog) (t:=9) underlying9 rfl l.2 e;have q:=rr (s:=s) g;have p:=oL (pr:=pr) (s:=s.add (.cells (bq.map str).toArray 9)) js (nm:=u.name) (Hc:=bq) (d:=s.nx) (c:=14) (Has.new s _).2 dq (bb:=aH u.name bq) rfl;generalize aH u.name bq=bb at p |-;generalize s.add (.cells (bq.map str).toArray 9)=S at *;generalize E:σ.nodes.length=N at *;refine EF.of i func320 rfl ?_;refine zs (EW.seq (EW.draw kq kq kq ?_));iterate 3 refine zq ?_
 refine zt s (zu (yl b 0 (.slice (sq f) N m) n.2) (zq (zu (yi f 0 N m (k*5) none .i64 (k:Nat) 5 oq oq oq) (zq (zt s (zu (bw (b:=f) (off:=k*5+2) (v:=str u.name) rfl underlying9 rfl kq a.2 e) (yt q (yt p (zq (ET.nil ⟨aI [(aB prog 38 (am b 0) s,.slice (sq f) N m),(aB prog 38 (am b 0) S,.slice (sq f) N m),(aB prog 9 (am f (k*5+2)) s,str u.name),(aB prog 9 (am f (k*5+2)) S,str u.name)] kq (QF ⟨A,rfl⟩ ⟨B,rfl⟩ ⟨C,rfl⟩ ⟨D,rfl⟩),_,_,_,_,_,_,rfl,rfl,?_⟩))))))))));exact yR
end
end
def BX (s:AS)(b:Nat)(σ:TS):Prop:=∃nv rv av xs,BT s b nv rv av xs σ
def TS.cur(σ:TS):Nat:=σ.row.getLastD 0
def TS.put(σ:TS)(u:Nd):TS:=⟨σ.nodes++[⟨u.kind,((σ.cur:Nat):Int),u.name,u.text,u.aM⟩],σ.row,σ.again,σ.w⟩
def TS.open_(σ:TS)(nm:Bq)(aF:fF):TS:=⟨(σ.put ⟨1,0,nm,[],aF⟩).nodes,if σ.row.length<40 then σ.row++[σ.nodes.length] else σ.row,σ.again,σ.w⟩
section
variable {s s':AS}{b:Nat}{av v:Value}{xs:List bY}{pr:Prim}
def aO.mono(h:aO K s s')(b:∀y,y<s.nx->K y->K' y):aO K' s s':=⟨h.1,λy a c=>h.2 y a λz=>c (b y a z)⟩
def TS.lX(h:σ.row≠[]):σ.row[σ.row.length-1]?=some σ.cur:=by
 unfold TS.cur;rw[List.getLastD_eq_getLast?,<-List.getLast?_eq_getElem?];cases hq:σ.row.getLast? with
 | none=>exact absurd (List.getLast?_eq_none_iff.1 hq) h
 | some k=>rfl
def mg(xs:List bY):(aY xs).size=xs.length*5:=by
 induction xs with
 | nil=>rfl
 | cons t b a=>simp[bY.cells] at a |-;omega
def CE(xs:List bY)(x:bY):((aY xs).toList.take (xs.length*5)++x.cells).toArray=aY (xs++[x]):=by rw[tL (by rw[KF,mg];exact lr)];simp
def rP.lt(h:rP s nv xs):∀x,YtgcaionclkbehaaGreatDoor.blk nv x->x<s.nx:=λx a=>by have⟨_,_,z⟩:=rP.blk h a;exact z.1
def UR(h:rP s nv xs)(x:bY)(i:xs.length<=400000000):∃w a,bK prog 44 nv x.cells 1 s=some (w,a)/\w.cells=#[w]/\w.oneCell'=true/\rP a w (xs++[x])/\aO (λy=>blk nv y) s a/\∀y,blk w y->s.nx<=y:=by obtain⟨d,c,g,rfl,e⟩:=h;have f:=mg xs;refine⟨_,_,gH (sz:=5) dq e.2 kq oq oq,rfl,rfl,?_,(aO.set (aO.refl s) (λ_=>dj _ _ _) none).add _,λb z=>Nat.le_of_eq (cH z).symm⟩;rw[CE];exact⟨s.nx,_,(1,1),by rw[lA];rfl,Has.new (s.set d none) _⟩
def fJ.snoc{b:List Nd}{u:Nd}(h:fJ s xs b)(c:Wn s x u):fJ s (xs++[x]) (b++[u]):=⟨by simp[h.1],λi e d h1 h2=>by
 by_cases a:i<xs.length
 .rw[vA a] at h1;rw[vA (by rw[<-h.1];exact a)] at h2;exact h.2 i e d h1 h2
 .rw[Bp oq] at h1;rw[Bp (by rw[<-h.1];omega),<-h.1] at h2;match hq:i-xs.length with
  | 0=>rw[hq] at h1 h2;cases h1;cases h2;exact c
  | q+1=>rw[hq] at h1;simp at h1⟩
abbrev OX:Value:=.agg #[num 0,num 0,str [],str [],aD]
abbrev BB(kd pa:Int)(nm tx:Bq)(at_:Value):Obj:=.cells #[num kd,num pa,str nm,str tx,at_] 44
def EF.ofX{kt:TypeId->Bool}{f:FuncId}{b:Code}{k:Sort _}{G:AS->k->Prop}(j:pr f=none)(i:P.funcs[f]?=some fn)(g:fn.body=some b)(h:EW P kt pr b (args.toList++List.replicate (fn.ntmps-args.toList.length) undef) s (λe d c=>(e=.normal\/e=.ret)/\c8 P fn d c=some v/\∃x,G c x)):∃a x,EF P kt pr f args s v a/\G a x:=by have⟨a,h1,x,h2⟩:=EF.iy j i g h;exact⟨a,x,h1,h2⟩
def Ax(G:pr 217=none)(H:pr 232=none)(h:BT s b nv rv av xs σ){aF:fF}(ha:bS s at_ aF)(hq:Hh b nm at_)(hN:σ.nodes.length<400000000) :
  ∃s' Uz,Ef pr 217 #[am b 0,.agg #[num kd,num pa,str nm,str tx,at_]] s (.tuple #[]) s'/\BT s' b Uz rv av (xs++[⟨kd,((σ.cur:Nat):Int),nm,tx,at_⟩]) (σ.put ⟨kd,pa,nm,tx,aF⟩)/\bG b s s':=by
 have zW:=h.sz;have⟨g,i,pO⟩:=ha.len;subst pO;have hvq:=ha.og;generalize aF.length=j at *;have⟨M,Q,D,rf,YG,Mc,J,I,Sa⟩:=h.r.at (TS.lX h.ne);have hra:=J.1;have B:=h.add (BB kd pa nm tx (.slice g j i));have N:=Has.new s (BB kd pa nm tx (.slice g j i));have T:=J.add (BB kd pa nm tx (.slice g j i));have a4:=bG.add h (BB kd pa nm tx (.slice g j i));have V:bS (s.add (BB kd pa nm tx (.slice g j i))) (.slice g j i) aF:=ha.fk ((aO.refl (K:=λ_=>False) s).add _) λ_ _=>id;have X:b≠s.nx:=by have:=h.b.1;omega
 have Y:∀y,blk nv y->y≠s.nx:=λy f=>by have:=h.n.lt y f;omega
 have hsn:s.nx<(s.add (BB kd pa nm tx (.slice g j i))).nx:=iq
 have hc:=tH H B;have E:=B.b;refine EF.ofX G func217 rfl (zs (za (s.add (BB kd pa nm tx (.slice g j i))) ?_));generalize s.add (BB kd pa nm tx (.slice g j i))=S at *;rw[YG] at E;have l1:=bE (P:=prog) (t:=25) underlying25 rfl E.2 (off:=1) rfl;have l2:=bE (P:=prog) (t:=3) underlying3 rfl T.2 I;have p:aO (λy=>y=s.nx) S (S.set s.nx (some (BB kd ((σ.cur:Nat):Int) nm tx (.slice g j i)))):=aO.set (K:=λy=>y=s.nx) (aO.refl S) (λ_=>rfl) _;have b2:=N.put (BB kd ((σ.cur:Nat):Int) nm tx (.slice g j i));have l:∀{y:Nat} {D:Aq} {t:TypeId} {x:Nat × Nat},Has S y (.cells D t x)->t≠44->y≠s.nx:=λf L=>f.ne N L;have O:=B.b.fr p X;have F:=B.n.fk p Y;have b4:=B.r.fk p λy f=>by have⟨_,_,z⟩:=B.r.blk f;exact l z dq
 have b5:=B.a.fk p λy f=>by have⟨_,_,z⟩:=B.a.blk f;exact l z dq
 have b6:=B.m.fk p λy D x f=>l f dq;have b7:=V.fk p λy f=>by
  rcases V with ⟨e,_⟩|⟨d,c,x,e,q1,q2⟩
  .rw[e] at f;exact(bR f).elim
  .rw[e] at f;rw[cH f];exact l (⟨q1,q2⟩:Has S d _) dq
 have bf:aO (KB b s) s (S.set s.nx (some (BB kd ((σ.cur:Nat):Int) nm tx (.slice g j i)))):=aO.set a4.1 (λz=>absurd z (Nat.lt_irrefl _)) _;have Z:((σ.row.length:Nat):Int)-1=((σ.row.length-1:Nat):Int):=oq
 rw[Z] at hc;generalize hR1:σ.row.length-1=R at *;refine EW.seq (EW.draw kq kq kq ?_);iterate 3 refine zq ?_
 refine zt S (zu (yl b 1 (.slice (sq M) σ.row.length Q) E.2) (zq (zt S (yt hc (zu (yi M 0 σ.row.length Q R none .i64 (R:Nat) 1 oq oq oq) (zt S (zu (bw (b:=M) (off:=R) (v:=num ((σ.cur:Nat):Int)) rfl underlying3 rfl kq T.2 I) (zq (zt S (zu (ys s.nx 1 (num ((σ.cur:Nat):Int)) N.2 iq) (ET.nil ⟨aI [(aB prog 25 (am b 1) S,.slice (sq M) σ.row.length Q),(aB prog 25 (am b 1) S,.slice (sq M) σ.row.length Q)] kq (iD ⟨l1,rfl⟩ ⟨l1,rfl⟩),_,_,_,_,_,_,rfl,rfl,?_⟩)))))))))));refine za (S.set s.nx (some (BB kd ((σ.cur:Nat):Int) nm tx (.slice g j i)))) ?_;generalize S.set s.nx (some (BB kd ((σ.cur:Nat):Int) nm tx (.slice g j i)))=U at *;clear l1 l2 B N T a4 V hc E p l;have m1:=bE (P:=prog) (t:=38) underlying38 rfl O.2 (off:=0) rfl;have m2:aB prog 44 (am s.nx 0) U=some (.agg #[num kd,num ((σ.cur:Nat):Int),str nm,str tx,.slice g j i]):=gN (off:=0) (n:=5) underlying44 rfl kq b2.2 iq;have e3:=F.fk ((aO.refl (K:=λ_=>False) U).add (BB kd ((σ.cur:Nat):Int) nm tx (.slice g j i))) λ_ _=>id;have e6:=Has.new U (BB kd ((σ.cur:Nat):Int) nm tx (.slice g j i));have⟨w,C,c1,c2,c3,c4,c5,c6⟩:=UR e3 ⟨kd,((σ.cur:Nat):Int),nm,tx,.slice g j i⟩ (by rw[h.m.1];omega);have u:aO (λy=>blk nv y) U C:=((aO.refl U).add _).trans c5 λy _ z=>z;have hnb:¬blk nv b:=λz=>by have⟨_,_,z⟩:=F.blk z;exact O.ne z dq rfl
 have W:=O.fr u hnb;have q:∀{y:Nat} {D:Aq} {t:TypeId} {x:Nat × Nat},Has U y (.cells D t x)->t≠44->¬blk nv y:=λf L z=>by have⟨_,_,z⟩:=F.blk z;exact f.ne z L rfl
 have d4:=b4.fk u λy f=>by have⟨_,_,z⟩:=b4.blk f;exact q z dq
 have d5:=b5.fk u λy f=>by have⟨_,_,z⟩:=b5.blk f;exact q z dq
 have d6:=b6.fk u λy D x f=>q f dq;have d7:=b7.fk u λy f=>by
  rcases b7 with ⟨e,_⟩|⟨d,c,x,e,q1,q2⟩
  .rw[e] at f;exact(bR f).elim
  .rw[e] at f;rw[cH f];exact q (⟨q1,q2⟩:Has U d _) dq
 have df:aO (KB b s) s C:=bf.trans u λy f z=>(KB.at h.b.2).2 (.inr (.inl z));have A:aO (λy=>y=b) C (C.set b (some (jB w rv av σ.w))):=aO.set (K:=λy=>y=b) (aO.refl C) (λ_=>rfl) _;have o:∀{y:Nat} {D:Aq} {t:TypeId} {x:Nat × Nat},Has C y (.cells D t x)->t≠183->y≠b:=λf L=>f.ne W L;have g1:=W.put (jB w rv av σ.w);have g3:=c4.fk A λy f=>by have⟨_,_,z⟩:=c4.blk f;exact o z dq
 have g4:=d4.fk A λy f=>by have⟨_,_,z⟩:=d4.blk f;exact o z dq
 have g5:=d5.fk A λy f=>by have⟨_,_,z⟩:=d5.blk f;exact o z dq
 have g6:=d6.fk A λy D x f=>o f dq;have g7:=d7.fk A λy f=>by
  rcases d7 with ⟨e,_⟩|⟨d,c,x,e,q1,q2⟩
  .rw[e] at f;exact(bR f).elim
  .rw[e] at f;rw[cH f];exact o (⟨q1,q2⟩:Has C d _) dq
 have gf:aO (KB b s) s (C.set b (some (jB w rv av σ.w))):=aO.set df (λ_=>.inl rfl) _;have XW:dR nv (sq U.nx)=true:=gv F.lt;have TZ:∀y,blk w y->s.nx<=y:=λy z=>by have:=c6 y z;have:=bf.1;simp at *;omega
 refine EW.draw kq kq kq ?_;iterate 4 refine zq ?_
 refine zt U (zu (yl b 0 nv O.2) (zu (yA s.nx 0 5 #[num kd,num ((σ.cur:Nat):Int),str nm,str tx,.slice g j i] b2.2 iq) (zq (zt (U.add (BB kd ((σ.cur:Nat):Int) nm tx (.slice g j i))) (zu (gl (sl:=nv) (news:=[num kd,num ((σ.cur:Nat):Int),str nm,str tx,.slice g j i]) (d:=U.nx) (m:=1) (k:=1) (sz:=5) (z:=OX) (bytes:=72) rfl kq kq underlying38 kq rfl dq dq kq e6.2 XW dq iq iq rfl c1) ?_)))));iterate 2 refine zq ?_
 refine zt C (zu (gA (b:=b) (off:=0) (w:=w) rfl kq kq c2 c3 kq W.2 iq) (ET.nil ⟨aI [(aB prog 38 (am b 0) U,nv),(aB prog 44 (am s.nx 0) U,.agg #[num kd,num ((σ.cur:Nat):Int),str nm,str tx,.slice g j i])] kq (iD ⟨m1,by have⟨d,c,x,e,_⟩:=F;rw[e];rfl⟩ ⟨m2,rfl⟩),_,_,_,_,_,_,rfl,rfl,?_⟩));refine⟨.inl rfl,kq,w,⟨h.sp.snoc hq,g1,g3,g6.snoc ⟨rfl,rfl,rfl,rfl,g7⟩,g4,g5,h.ra,λk hk=>?_,λk hk=>?_,h.ne,?_⟩,bG.mk' h.b g1 gf (.inr TZ) (.inl λ_ z=>z) (.inl λ_ z=>z)⟩
 .have:=h.lt k hk;simp[TS.put];omega
 .have:=h.la k hk;simp[TS.put];omega
 .simp[TS.put];omega
def eS.lt(h:eS s v l):∀x,YtgcaionclkbehaaGreatDoor.blk v x->x<s.nx:=λx a=>by have⟨_,_,z⟩:=eS.blk h a;exact z.1
theorem J5(h:eS s v l)(i:Nat)(b:l.length<=100000):∃w a,bK prog 3 v [num (i:Nat)] 1 s=some (w,a)/\w.cells=#[w]/\w.oneCell'=true/\eS a w (l++[i])/\aO (λy=>blk v y) s a/\∀y,blk w y->s.nx<=y:=by
 have⟨w,a,h1,h2,h3,f,g,j⟩:=Q9 h i b;have k:(∀y,blk w y->s.nx<=y)/\aO (λy=>blk v y) s a:=by
  rcases h with ⟨rfl,rfl⟩|⟨d,cp,cs,fz,rfl,q0,q1,q2,q3⟩
  .rw[ia dq] at h1;cases h1;exact⟨λy z=>Nat.le_of_eq (cH z).symm,(aO.refl s).add _⟩
  .have c:l.length<=cs.size:=by
    by_cases e:l.length=0
    .omega
    .have U:l.length-1<l.length:=oq
     have:=(oK.1 (q3 _ _ (gE U))).1;omega
   rw[gH (sz:=1) dq q2 kq oq oq] at h1;cases h1;exact⟨λy z=>Nat.le_of_eq (cH z).symm,(aO.set (aO.refl s) (λ_=>dj _ _ _) none).add _⟩
 grind
theorem xM(Z:pr 223=none)(Y:pr 217=none)(a6:pr 232=none)(h:BT s b nv rv av xs σ){aF:fF}(T:bS s at_ aF)(hq:Hh b nm at_)(hN:σ.nodes.length<400000000) :
  ∃N,Ef pr 223 #[am b 0,str nm,at_] s (.tuple #[]) N/\BX N b (σ.open_ nm aF)/\bG b s N:=by
 have⟨S,G,hP,c,X⟩:=Ax Y a6 h (kd:=1) (pa:=0) (nm:=nm) (tx:=[]) T hq hN;have⟨ad,cp,I⟩:=T.len;subst I;generalize aF.length=nA at *;have⟨A,p,E⟩:=c.r.len;have L:(σ.put ⟨1,0,nm,[],aF⟩).row=σ.row:=rfl;have l:=c.b;rw[L] at E;refine EF.iy Z func223 rfl (zr (zc 4 hP (EO.nil (za S (zr (zg 3 S (zp (yl b 1 rv l.2) ?_)))))));subst E;refine zk 1 ?_;by_cases u:σ.row.length<40
 .have a7:(σ.nodes++[(⟨1,((σ.cur:Nat):Int),nm,[],aF⟩:Nd)]).length=σ.nodes.length+1:=iq
  have a8:=c.n;have⟨W,V,nf,D,L8⟩:=a8;rw[c.m.1,show(σ.put ⟨1,0,nm,[],aF⟩).nodes.length=σ.nodes.length+1 from a7] at D;have e4:=c.r.fk ((aO.refl (K:=λ_=>False) S).add (.cells #[num ((σ.nodes.length:Nat):Int)] 3)) λ_ _=>id;have e6:=Has.new S (.cells #[num ((σ.nodes.length:Nat):Int)] 3);have⟨w,U,c1,c2,c3,O,c5,c6⟩:=J5 e4 σ.nodes.length gq;have o:aO (λy=>blk (.slice A σ.row.length p) y) S U:=((aO.refl S).add _).trans c5 λy _ z=>z;have h3:∀{y:Nat} {B:Aq} {t:TypeId} {C:Nat × Nat},Has S y (.cells B t C)->t≠3->¬blk (.slice A σ.row.length p) y:=λf M z=>by have⟨_,_,z⟩:=c.r.blk z;exact f.ne z M rfl
  have H:=c.b.fr o (h3 c.b dq);have Q:=c.n.fk o λy f=>by have⟨_,_,z⟩:=c.n.blk f;exact h3 z dq
  have R:=c.a.fk o λy f z=>c.ra y z f;have d6:=c.m.fk o λy B C f=>h3 f dq;have v:aO (λy=>y=b) U (U.set b (some (jB G w av σ.w))):=aO.set (K:=λy=>y=b) (aO.refl U) (λ_=>rfl) _;have g:∀{y:Nat} {B:Aq} {t:TypeId} {C:Nat × Nat},Has U y (.cells B t C)->t≠183->y≠b:=λf M=>f.ne H M;have g1:=H.put (jB G w av σ.w);have g3:=Q.fk v λy f=>by have⟨_,_,z⟩:=Q.blk f;exact g z dq
  have g4:=O.fk v λy f=>by have⟨_,_,z⟩:=O.blk f;exact g z dq
  have g5:=R.fk v λy f=>by have⟨_,_,z⟩:=R.blk f;exact g z dq
  have g6:=d6.fk v λy B C f=>g f dq;have gf:aO (KB b S) S (U.set b (some (jB G w av σ.w))):=aO.set (o.mono λy _ q=>(KB.at c.b.2).2 (.inr (.inr (.inl q)))) (λ_=>.inl rfl) _;have F:∀y,blk w y->S.nx<=y:=λy z=>by have:=c6 y z;simp at this;omega
  have l1:=bE (P:=prog) (t:=25) underlying25 rfl l.2 (off:=1) rfl;have l2:=bE (P:=prog) (t:=38) underlying38 rfl l.2 (off:=0) rfl;subst D;refine zp (yb (num (σ.row.length:Nat)) (num 40) (aX (b:=true) (tD oq))) (EO.nil (za S (zH ?_)));refine EW.draw kq kq kq ?_;iterate 4 refine zq ?_
  refine zt S (zu (yl b 1 (.slice A σ.row.length p) l.2) ?_);iterate 3 refine zq ?_
  refine zt S (zu (yl b 0 (.slice (sq W) (σ.nodes.length+1) V) l.2) (zq (zu (gJ (i:=((σ.nodes.length+1:Nat):Int)) (j:=1) (r:=((σ.nodes.length:Nat):Int)) rfl kq kq oq oq) (zq (zt (S.add (.cells #[num ((σ.nodes.length:Nat):Int)] 3)) (zu (gl (sl:=.slice A σ.row.length p) (news:=[num ((σ.nodes.length:Nat):Int)]) (d:=S.nx) (m:=1) (k:=1) (sz:=1) (z:=num 0) (bytes:=8) rfl kq kq underlying25 kq rfl dq dq kq e6.2 (gv c.r.lt) dq iq iq rfl c1) ?_))))));iterate 2 refine zq ?_
  refine zt U (zu (gA (b:=b) (off:=1) (w:=w) rfl kq kq c2 c3 kq H.2 iq) (ET.nil ⟨aI [(aB prog 25 (am b 1) S,.slice A σ.row.length p),(aB prog 38 (am b 0) S,.slice (sq W) (σ.nodes.length+1) V)] kq (iD ⟨l1,by cases A<;>rfl⟩ ⟨l2,rfl⟩),_,_,_,_,_,_,rfl,rfl,?_⟩));refine⟨.inl rfl,kq,⟨_,w,_,_,c.sp,g1,g3,g6,?_,g5,λy f hz=>?_,λk J=>?_,λk J=>?_,?_,?_⟩,X.trans (bG.mk' c.b g1 gf (.inl rfl) (.inr F) (.inl λ_ z=>z))⟩
  .show eS _ _ (if σ.row.length<40 then σ.row++[σ.nodes.length] else σ.row);rw[ip u];exact g4
  .have:=F y f
   have:=c.a.lt y hz;omega
  .have x:k∈(if σ.row.length<40 then σ.row++[σ.nodes.length] else σ.row):=J;rw[ip u,List.mem_append] at x;show k<(σ.put ⟨1,0,nm,[],aF⟩).nodes.length;rcases x with x|x
   .exact c.lt k x
   .simp at x;simp[TS.put];omega
  .exact c.la k J
  .show(if σ.row.length<40 then σ.row++[σ.nodes.length] else σ.row)≠[];rw[ip u];simp
  .have:=c.sz;refine⟨this.1,?_,this.2.2⟩;show(if σ.row.length<40 then σ.row++[σ.nodes.length] else σ.row).length<=40;grind
 .refine zp (yb (num (σ.row.length:Nat)) (num 40) (aX (b:=false) (fD oq))) (EO.nil (za S (zF ?_)));have e:σ.open_ nm aF=σ.put ⟨1,0,nm,[],aF⟩:=by unfold TS.open_;rw[iw u];rfl
  rw[e];exact⟨.inl rfl,kq,⟨_,_,_,_,c⟩,X⟩
end
end Go.Proofs.YtgcaionclkbehaaGreatDoor
