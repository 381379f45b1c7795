import Derived.Test.YtgcaionclkbehaaGreatDoorG3
import Derived.Lib.MapLaws
set_option linter.all false
set_option maxHeartbeats 4000000
set_option maxRecDepth 100000
namespace Go.Proofs.YtgcaionclkbehaaGreatDoor
open Go.Conc Go.RowKit Go.Lib Tryz
section
variable [Inhabited KC]
variable {b c k k' n:Nat}{tx:Bq}{av v:Value}{s s':AS}{xs:List lU}{pr:Prim}{wr:Bq->Int->Bq}
variable {B i off tb:Nat}{n1 nm sm stops tn v1 vl:Bq}{P:Program}{t ty:TypeId}{args cs:Aq}{fz:Nat × Nat}{K K':Nat->Prop}{at_ p0 v0:Value}{bb cl wh:Bool}{fn:Func}{l XI:List Nat}{x:lU}{kd pa r:Int}
variable {rn:Nat}{all:Iq}{p q:Value}{lo:Bq->Bq}{T:Bq->Prop}{W:Bq->Int->Prop}
section
variable {r:Value}
def XU[C2](e:JX rn all pr)(d:k<=150000):Ef pr 366 #[aF c 0] (sp s c rn p q r k) (str (kH all k).1) (sp s c rn p q r (kH all k).2):=by
 by_cases a:dG all k=34
 .have m:=jm (s:=s) (c:=c) (p:=p) (q:=q) (r:=r) e (k:=k) oq;unfold kH;rw[ip a];rw[a] at m;have g:=Hu (s:=s) (c:=c) (p:=p) (q:=q) (r:=r) e (b0:=34) dq (k:=k+1) oq;exact aQ (e.no 366 dq) func366 O<|zs<|am<|zr<|zc 1 m<|zf<|za (sp s c rn p q r k)<|zs<|aD<|zs<|za (sp s c rn p q r k)<|zH<|zr<|zg 3 (sp s c rn p q r k)<|zp (me (b:=c) (off:=1) (v:=num k) O underlying3 O kq fE O)<|zp (dV (i:=(k:Nat)) (j:=1) (r:=((k+1:Nat):Int)) O kq kq oq oq)<|zg 2 (sp s c rn p q r k)<|zp (kB (b:=c) (off:=1) (w:=num ((k+1:Nat):Int)) O kq kq O O kq fE iq)<|aB<|pC (sp s c rn p q r<|k+1) qX<|zr<|zc 3 g<|zf<|aE ⟨.inr O,kq,kq⟩
 .by_cases b:dG all k=39
  .have n:=jm (s:=s) (c:=c) (p:=p) (q:=q) (r:=r) e (k:=k) oq;unfold kH;rw[iw gq,ip b];rw[b] at n;have a:=Hu (s:=s) (c:=c) (p:=p) (q:=q) (r:=r) e (b0:=39) dq (k:=k+1) oq;exact aQ (e.no 366 dq) func366 O<|zs<|am<|zr<|zc 1 n<|zf<|za (sp s c rn p q r k)<|zs<|aD<|zs<|za (sp s c rn p q r k)<|zH<|zr<|zg 3 (sp s c rn p q r k)<|zp (yl c 1 (num k) fE (i:=O))<|zp (dV (i:=(k:Nat)) (j:=1) (r:=((k+1:Nat):Int)) O kq kq oq oq)<|zg 2 (sp s c rn p q r k)<|zp (kB (b:=c) (off:=1) (w:=num ((k+1:Nat):Int)) O kq kq O O kq fE iq)<|aB<|pC (sp s c rn p q r<|k+1) qX<|zr<|zc 3 a<|zf<|aE ⟨.inr O,kq,kq⟩
  .have f:=jm (s:=s) (c:=c) (p:=p) (q:=q) (r:=r) e (k:=k) oq;unfold kH;rw[iw a,iw b];have t:=NN (s:=s) (c:=c) (p:=p) (q:=q) (r:=r) e (stops:=aK++[62]) (by intro o h;simp at h;rcases h with rfl|rfl|rfl|rfl|rfl|rfl<;>decide) (k:=k) oq;generalize dG all k=l at f a b;exact aQ (e.no 366 dq) func366 O<|zs<|am<|zr<|zc 1 f<|zf<|za (sp s c rn p q r k)<|zs<|aD<|am<|zr<|zp (yb (.int .i32 l) (.int .i32 34)<|cQ (b:=false)<|bF.2 a)<|zf<|zG<|zx<|zp (yb (.int .i32 l) (.int .i32 39)<|cQ (b:=false)<|bF.2 b)<|zf<|za (sp s c rn p q r k)<|zF<|zr<|zc 1 t<|zf yR
def nX(a:k<=all.length):k<=gR all stops k/\gR all stops k<=all.length:=by
 have h1:=tZ (λl=>!da l stops)<|all.drop k;have h2:(all.drop k).length=all.length-k:=iq
 unfold gR;omega
def vn(a:k<=all.length):k<=mA all stops k/\mA all stops k<=all.length:=by
 have h1:=tZ (λl=>da l stops)<|all.drop k;have h2:(all.drop k).length=all.length-k:=iq
 unfold mA;omega
theorem jw(h:dG all k ≠ -1):k<all.length:=by unfold dG at h;grind
theorem NQ(U:k<=all.length):k<=(kH all k).2/\(kH all k).2<=all.length+1:=by
 unfold kH;split
 .next h =>
  have h1:k<all.length:=jw gq
  have:=nX (all:=all) (stops:=[34]) (k:=k+1) oq;grind
 .split
  .next h =>
   have h1:k<all.length:=jw gq
   have:=nX (all:=all) (stops:=[39]) (k:=k+1) oq;grind
  .have:=nX (stops:=aK++[62]) U;grind
abbrev cz:Bq:=[9,10,12,13,32,47,62,61]
abbrev bE:Bq:=[9,10,12,13,32,47,62]
def VC:uh cz/\uh bE:=by
 constructor<;>(intro b h;simp at h)
 .rcases h with rfl|rfl|rfl|rfl|rfl|rfl|rfl|rfl<;>decide
 .rcases h with rfl|rfl|rfl|rfl|rfl|rfl|rfl<;>decide
section
variable (all:Iq)
def nk(k:Nat):Nat:=gR all cz<|k+1
def xK(k:Nat):Nat:=mA all aK<|nk all k
def uX(k:Nat):Nat:=mA all aK<|xK all k+1
def jF(lo:Bq->Bq)(wr:Bq->Int->Bq)(k:Nat):(Bq × Bq) × Nat :=
 if dG all (xK all k)=61 then ((lo<|cV all k<|nk all k,wr (kH all<|uX all k).1 1),(kH all<|uX all k).2) else ((lo<|cV all k<|nk all k,[]),xK all k)
end
def J3(a:k<all.length):k+1<=nk all k/\nk all k<=xK all k/\xK all k<=all.length:=by unfold xK nk;have h1:=nX (all:=all) (stops:=cz) (k:=k+1) oq;have h2:=vn (stops:=aK) h1.2;omega
theorem FJ(U:k<all.length)(h:dG all (xK all k)=61):xK all k+1<=uX all k/\uX all k<=all.length:=by have h1:xK all k<all.length:=jw gq;exact vn oq
theorem xM{lo:Bq->Bq}{wr:Bq->Int->Bq}(U:k<all.length):k<(jF all lo wr k).2/\(jF all lo wr k).2<=all.length+1:=by
 have h1:=J3 U;unfold jF;split
 .next h =>have h2:=FJ U h;have h3:=NQ h2.2;grind
 .grind
structure YV(rn:Nat)(all:Iq)(lo:Bq->Bq)(wr:Bq->Int->Bq)(T:Bq->Prop)(W:Bq->Int->Prop)(pr:Prim):Prop where
 g:JX rn all pr
 low:∀(s:AS) (t:Bq),T t->EF prog kJ pr 258 #[str t] s (str<|lo t) s
 YK:∀(s:AS) (t:Bq) (k:Int),W t k->s.get 1=some (.cells eZ.toArray 335)->rn<s.nx->EF prog kJ pr 157 #[str t,num k] s (str<|wr t k) s
def JS(all:Iq)(T:Bq->Prop)(W:Bq->Int->Prop)(k:Nat):Prop:=T (cV all k<|nk all k)/\(dG all (xK all k)=61->W (kH all<|uX all k).1 1)
abbrev gP(a b:Bq):Obj:=.cells #[str a,str b] 47
def iK{d:TypeDesc}(f:P.underlying t=some d)(a:d.isRow=true)(g:cH P t=some n)(e:s.get b=some (.cells cs ty fz))(c:off+n<=cs.size):bA P t (aF b off) s=some (.agg (cs.toList.drop off |>.take n).toArray):=by unfold bA;simp only[aF,e,f,a,g,if_true];rw[ip c]
theorem R3[C2](x:YV rn all lo wr T W pr)(hk:k<all.length)(ho:JS all T W k)(h1:Has s c (iN rn k p q r))(a5:c≠1)(a9:Has s 1 (.cells eZ.toArray 335))(hr:rn<s.nx):∃s',Ef pr 326 #[aF c 0] s (.agg #[str (jF all lo wr k).1.1,str (jF all lo wr k).1.2]) s'/\Has s' c (iN rn (jF all lo wr k).2 p q r)/\fp (λb=>b=c) s s':=by
 have aa:=x.g.len;have Re:=J3 hk;have a6:=FJ (all:=all) hk;have B:=h1.add<|gP [] [];have a2:=bw s<|gP [] [];have a3:=a9.add<|gP [] [];have a4:=(bC (K:=λb=>b=c) s).add<|gP [] [];have o:c≠s.nx:=by have:=h1.1;omega
 have a7:(s.add<|gP [] []).nx=s.nx+1:=rfl;have Q4:s.add (gP [] [])=s.add (gP [] []):=rfl;refine cm (x.g.no 326 dq) func326 rfl<|zs<|za (s.add<|gP [] []) ?_;generalize s.add (gP [] [])=S at B a2 a3 a4 a7 Q4 |-;have hself:=nQ B.2;have D:c≠S.nx:=by have:=B.1;omega
 have a8:s.nx≠S.nx:=oq
 have b1:∀e,Has (sp S c rn p q r e) c (iN rn e p q r):=λe=>B.put _;have b2:∀e,Has (sp S c rn p q r e) s.nx (gP [] []):=λe=>a2.set (Ne.symm o) _;have b3:∀e,Has (sp S c rn p q r e) 1 (.cells eZ.toArray 335):=λe=>a3.set (Ne.symm a5) _;have b4:∀e,fp (λb=>b=c) s (sp S c rn p q r e):=λe=>bG a4 (λ_=>rfl) _;have N:=NN (s:=S) (c:=c) (p:=p) (q:=q) (r:=r) x.g VC.1 (k:=k+1) oq;rw[show gR all cz (k+1)=nk all k from rfl] at N;have M:=su x.g (s:=sp S c rn p q r<|nk all k) (k:=k) (j:=nk all k) oq;have t:=x.low (sp S c rn p q r<|nk all k) _ ho.1;have C:∀v e,(if dG all (xK all k)=61 then (((lo<|cV all k<|nk all k,wr (kH all<|uX all k).1 1),(kH all<|uX all k).2):(Bq × Bq) × Nat) else ((lo<|cV all k<|nk all k,[]),xK all k))=((lo<|cV all k<|nk all k,v),e)->jF all lo wr k=((lo<|cV all k<|nk all k,v),e):=λv e h=>h;generalize lo (cV all k<|nk all k)=a at t C;have R:=(b1<|nk all k).add<|gP a [];have Y:=(b2<|nk all k).add<|gP a [];have d3:=(b3<|nk all k).add<|gP a [];have Z:=(b4<|nk all k).add<|gP a [];have d5:Has ((sp S c rn p q r<|nk all k).add<|gP a []) S.nx (gP a []):=bw (sp S c rn p q r<|nk all k)<|gP a [];have d6:((sp S c rn p q r<|nk all k).add<|gP a []).nx=S.nx+1:=rfl;have hZ:Has ((sp S c rn p q r<|nk all k).add<|gP [] []) S.nx (gP [] []):=bw (sp S c rn p q r<|nk all k)<|gP [] [];have H:((sp S c rn p q r<|nk all k).add<|gP [] []).set S.nx (some<|gP a [])=(sp S c rn p q r<|nk all k).add (gP a []):=AS.set_set (⟨(sp S c rn p q r<|nk all k).hp,S.nx+1⟩:AS) S.nx (some<|gP [] [])<|some<|gP a [];generalize hU:(sp S c rn p q r<|nk all k).add (gP a [])=U at R Y d3 Z d5 d6 H;have y:=nQ R.2;have L:=Fc (s:=U) (c:=c) (p:=p) (q:=q) (r:=r) x.g (k:=nk all k) oq;rw[y,show mA all aK (nk all k)=xK all k from rfl] at L;have I:=jm (s:=U) (c:=c) (p:=p) (q:=q) (r:=r) x.g (k:=xK all k) oq;generalize cV all k (nk all k)=tx at M t;generalize Yq:nk all k=A at *;generalize J:xK all k=d at *;refine zr<|zg 3 S<|zp (yl c 1 (num k) B.2)<|zf<|za S<|zr<|zg 3 S<|zp (yl c 1 (num k) B.2)<|zp (yp k 1 ((k+1:Nat):Int) oq oq)<|zg 2 S<|zp (ys c 1 (num ((k+1:Nat):Int)) B.2 iq)<|aB<|za (sp S c rn p q r<|k+1)<|zr<|zc 1 N<|aB<|za (sp S c rn p q r A)<|am<|bO kq kq kq<|zq<|zq<|zq<|zt (sp S c rn p q r A)<|zu (yl c 0 (aF rn 0) fE)<|zq<|zq<|zq<|zq<|zt (sp S c rn p q r A)<|zu (yl c 1 (num A) fE)<|yt M<|yt t<|zq<|zq<|zt ((sp S c rn p q r A).add<|gP [] [])<|zu (eA (b:=S.nx) (off:=0) (w:=.agg #[str a,str []]) (ws:=[str a,str []]) rfl kq kq rfl rfl kq hZ.2 iq)<|cg ⟨dh [(bA prog 84 (aF c 0)<|sp S c rn p q r A,aF rn 0),(bA prog 3 (aF c 1)<|sp S c rn p q r A,num A)] kq<|o9 (Hc _) (M7 _),_,_,_,_,_,_,rfl,rfl,za (((sp S c rn p q r A).add<|gP [] []).set S.nx<|some<|gP a []) ?_⟩;rw[H];refine zr<|zc 1 L<|aB<|za (sp U c rn p q r d)<|am<|zr<|zc 1 I ?_;by_cases G:dG all d=61
 .have a6:=a6 G;have u:=Fc (s:=U) (c:=c) (p:=p) (q:=q) (r:=r) x.g (k:=d+1) oq;rw[show mA all aK (d+1)=uX all k by unfold uX;rw[J]] at u;have i:=XU (s:=U) (c:=c) (p:=p) (q:=q) (r:=r) x.g (k:=uX all k) oq;have X:=x.YK (sp U c rn p q r (kH all<|uX all k).2) (kH all<|uX all k).1 1 (by have:=ho.2;rw[J] at this;exact this G) (d3.set (Ne.symm a5) _).2 (by show rn<U.nx;omega);have F:=C (wr (kH all<|uX all k).1 1) (kH all<|uX all k).2 gq;rw[F];generalize (kH all<|uX all k).1=t1 at i X F;generalize (kH all<|uX all k).2=m at i X F;generalize uX all k=k3 at u i;generalize wr t1 1=f at X F;have w1:Has (sp U c rn p q r m) c (iN rn m p q r):=R.put _;have w2:Has (sp U c rn p q r m) s.nx (gP [] []):=Y.set (Ne.symm o) _;have w3:Has (sp U c rn p q r m) S.nx (gP a []):=d5.set (Ne.symm D) _;have w4:fp (λb=>b=c) s (sp U c rn p q r m):=bG Z (λ_=>rfl) _;have O:Has ((sp U c rn p q r m).set S.nx<|some<|gP a f) c (iN rn m p q r):=w1.set D _;have E:Has ((sp U c rn p q r m).set S.nx<|some<|gP a f) s.nx (gP [] []):=w2.set a8 _;have P:Has ((sp U c rn p q r m).set S.nx<|some<|gP a f) S.nx (gP a f):=w3.put _;have Q:fp (λb=>b=c) s ((sp U c rn p q r m).set S.nx<|some<|gP a f):=bG w4 (λz=>absurd z oq) _;refine zp (yb (.int .i32<|dG all d) (.int .i32 61)<|cQ (b:=true)<|beq_iff_eq.2 G)<|aB<|za (sp U c rn p q r d)<|zH<|zr<|zg 3 (sp U c rn p q r d)<|zp (yl c 1 (num d) fE)<|zp (yp d 1 ((d+1:Nat):Int) oq oq)<|zg 2 (sp U c rn p q r d)<|zp (ys c 1 (num ((d+1:Nat):Int)) fE iq)<|aB<|pC (sp U c rn p q r<|d+1) qX<|zr<|zc 1 u<|aB<|za (sp U c rn p q r k3)<|zx<|zc 1 i<|zc 0 X<|zg 1 (sp U c rn p q r m)<|zp (ys S.nx 1 (str f) w3.2 iq)<|aB<|za ((sp U c rn p q r m).set S.nx<|some<|gP a f) ?_;generalize (sp U c rn p q r m).set S.nx (some<|gP a f)=V at O E P Q |-;have z1:=E.put<|gP a f;have z2:Has (V.set s.nx<|some<|gP a f) c (iN rn m p q r):=O.set o _;have z3:fp (λb=>b=c) s (V.set s.nx<|some<|gP a f):=bG Q (λz=>absurd z<|Nat.lt_irrefl _) _;exact zr<|zp (yA S.nx 0 2 #[str a,str f] P.2 iq)<|zo V<|zp (eA (b:=s.nx) (off:=0) (w:=.agg #[str a,str f]) (ws:=[str a,str f]) rfl kq kq rfl rfl kq E.2 iq)<|aB<|za (V.set s.nx<|some<|gP a f)<|aE ⟨.inr rfl,(show _=bA prog 47 (aF s.nx 0) (V.set s.nx<|some<|gP a f) by kernel_rfl).trans<|iK (n:=2) underlying47 rfl kq z1.2 iq,z2,z3⟩
 .have F:=C [] d gq;rw[F];have O:Has (sp U c rn p q r d) c (iN rn d p q r):=R.put _;have E:Has (sp U c rn p q r d) s.nx (gP [] []):=Y.set (Ne.symm o) _;have P:Has (sp U c rn p q r d) S.nx (gP a []):=d5.set (Ne.symm D) _;have Q:fp (λb=>b=c) s (sp U c rn p q r d):=bG Z (λ_=>rfl) _;generalize dG all d=l at I G;refine zp (yb (.int .i32 l) (.int .i32 61)<|cQ (b:=false)<|bF.2 G)<|aB<|za (sp U c rn p q r d)<|zF ?_;generalize sp U c rn p q r d=V at O E P Q |-;have z1:=E.put<|gP a [];have z2:Has (V.set s.nx<|some<|gP a []) c (iN rn d p q r):=O.set o _;have z3:fp (λb=>b=c) s (V.set s.nx<|some<|gP a []):=bG Q (λz=>absurd z<|Nat.lt_irrefl _) _;exact zr<|zp (yA S.nx 0 2 #[str a,str []] P.2 iq)<|zo V<|zp (eA (b:=s.nx) (off:=0) (w:=.agg #[str a,str []]) (ws:=[str a,str []]) rfl kq kq rfl rfl kq E.2 iq)<|aB<|za (V.set s.nx<|some<|gP a [])<|aE ⟨.inr rfl,(show _=bA prog 47 (aF s.nx 0) (V.set s.nx<|some<|gP a []) by kernel_rfl).trans<|iK (n:=2) underlying47 rfl kq z1.2 iq,z2,z3⟩
end
abbrev jE:=List<|Bq × Bq
def Ue(a:pr 365=none)(b:Has s B (gP nm vl)):Ef pr 365 #[.agg #[str n1,str v1],aF B 0] s (.bool<|ce n1 nm) (s.add<|gP n1 v1):=by have h1:=bw s<|gP n1 v1;have h2:=b.add<|gP n1 v1;refine aQ a func365 O<|zs<|za (s.add<|gP n1 v1) ?_;generalize d:s.add _=S at h1 h2 |-;refine zr<|zg 1 S<|zp (yl s.nx 0 (str n1) h1.2)<|zg 1 S<|zp (yl B 0 (str nm) h2.2)<|zp (yb (str n1) (str nm)<|nt O) ?_;exact zf yR
abbrev B5(B:Nat):Value:=.func (.func 365) #[] #[aF B 0]
def MW(av:Value)(B n i:Nat)(x:Nq):TL:=[av,B5 B,x 2,x 3,num 0,x 5,av,num n,num i]++fW x 9 10
def fw.fk{l:jE}(h:fw s v l)(a:fp K s s')(d:∀b,blk v b->¬K b):fw s' v l:=by
 rcases h with h|⟨ab,c,fz,rfl,h1,h2⟩
 .exact .inl h
 .have:=Has.fr ⟨h1,h2⟩ a<|d ab<|mJ _ _ _;exact .inr ⟨ab,c,fz,O,this.1,this.2⟩
def fw.lt{l:jE}(h:fw s v l):∀b,YtgcaionclkbehaaGreatDoor.blk v b->b<s.nx:=λb a=>by
 rcases h with ⟨rfl,_⟩|⟨ab,c,fz,rfl,h1,h2⟩
 .exact(dT a).elim
 .rw[dz a];exact h1
def fw.qz{l:jE}(h:fw s v l):bN 20 v=true/\bN 19 v=true/\v.oneCell'=true/\v.cells=#[v]:=by rcases h with ⟨rfl,_⟩|⟨ab,c,fz,rfl,h1,h2⟩<;>exact⟨rfl,rfl,rfl,rfl⟩
def fw.len{l:jE}(h:fw s v l):∃a b,v=.slice a l.length b:=by
 rcases h with ⟨rfl,rfl⟩|⟨ab,c,fz,rfl,h1,h2⟩
 .exact⟨none,0,O⟩
 .exact⟨_,_,O⟩
theorem Tx(F:∀f,f∈yE->pr f=none){dE:jE}(M:Has s B (gP nm vl))(G:fw s av dE)(T:dE.length<=100000):∃a j,Ef pr 364 #[av,B5 B] s (num j) a/\fp (λ_=>False) s a/\decide (j>=0)=dE.any λp=>ce p.1 nm:=by
 have⟨u,v,J⟩:=G.len;suffices h:Ew pr (match f364.body with|some c=>c|none=>.skip) ((#[av,B5 B]:Aq).toList++List.replicate (f364.ntmps-(#[av,B5 B]:Aq).toList.length) undef) s (λe U d=>(e=.normal\/e=.ret)/\fp (λ_=>False) s d/\∃j,cN prog f364 U d=some (num j)/\decide (j>=0)=dE.any λp=>ce p.1 nm) by have⟨m,e,U,d,h1,N,h2,j,h3,L⟩:=h;exact⟨d,j,aQ (F 364 dq) func364 Y ⟨m,e,U,d,h1,N,h3,Y⟩,h2,L⟩
 subst J;refine zs<|za s<|am<|zs<|za s<|ea (MW (.slice u dE.length v) B dE.length 0) kq ?_;intro R;generalize W:dE.length=n at *;refine aD<|aN (aZ (Q:=λe U d=>(e=.exit 0/\fp (λ_=>False) s d/\((dE.any λp=>ce p.1 nm)=false)/\∃x,U=MW (.slice u n v) B n n x)\/(e=.ret/\fp (λ_=>False) s d/\∃j,cN prog f364 U d=some (num j)/\decide (j>=0)=dE.any λp=>ce p.1 nm)) (λm U a=>∃i,i+m=n/\fp (λ_=>False) s a/\((dE.take i).any λp=>ce p.1 nm)=false/\∃x,U=MW (.slice u n v) B n i x) ?_ n _ _ ⟨0,oq,bC s,Y,R,Y⟩) ?_
 .rintro m U a ⟨i,S,k,D,x,rfl⟩;by_cases V:0<m
  .have t:i<dE.length:=oq
   have H:dE[i]?=some dE[i]:=gE t;have⟨w,l⟩:=FL H;have A:dE.take (i+1)=dE.take i++[dE[i]]:=by simp_all
   have C:dE[i]∈dE:=OY t;generalize dE[i]=P at H l A C;have⟨n1,v1⟩:=P;obtain⟨g,y,rfl,X,O⟩:∃g y,u=some ⟨g,0,none⟩/\g<a.nx/\a.get g=some (.cells (jP dE) 47 y):=by
    have:=G.fk k<|λ_ _=>id;rcases this with ⟨_,z⟩|⟨g,cq,y,z1,z2,z3⟩
    .rw[z] at t;simp at t
    .grind
   have I:=M.fr k id;have b:=Ue (F 365 dq) (n1:=n1) (v1:=v1) I;have q:fp (λ_=>False) s (a.add<|gP n1 v1):=k.add _;have o:(dE.take<|i+1).any (λp=>ce p.1 nm)=ce n1 nm:=gq
   have E:ce n1 nm=true->(dE.any λp=>ce p.1 nm)=true:=λh=>List.any_eq_true.2 ⟨_,C,h⟩;generalize ce n1 nm=K at b o E;refine zr<|zp (yb (num i) (num n)<|cj<|tD oq)<|aB<|am<|zT<|am<|aD<|zs<|za a<|zr<|zg 3 a<|zp (yi g 0 n v (i*2) none .i64 (i:Nat) 2 oq oq oq)<|zo a<|zp (wm (off:=i*2) (r:=#[str n1,str v1]) Y underlying47 Y kq kq O w l)<|yc #[] #[aF B 0] b<|aB<|za (a.add<|gP n1 v1) ?_;cases K with
   | true =>exact zH<|zs<|aE<|.inr ⟨Y,q,(i:Nat),kq,by rw[E Y];exact tD oq⟩
   | false =>exact zF<|zx<|zp (yp i 1 ((i+1:Nat):Int) oq oq)<|zf ⟨m-1,oq,i+1,oq,q,o,aP kq⟩
  .obtain rfl:i=n:=oq
   rw[tL oq] at D;exact zr<|zp (yb (num i) (num i)<|cj<|fD oq)<|aB<|am<|zG<|cB<|.inl ⟨Y,k,D,aP kq⟩
 .rintro e U a (⟨rfl,k,h1,x,rfl⟩|⟨rfl,h⟩)
  .exact zs<|aE ⟨.inr Y,k,-1,kq,by rw[h1];rfl⟩
  .exact⟨.inr Y,h⟩
def Wi(a:∀f,f∈yE->pr f=none){dE:jE}(c:Has s B (gP nm vl))(d:fw s av dE)(e:dE.length<=100000):∃b,Ef pr 322 #[av,B5 B] s (.bool<|dE.any λp=>ce p.1 nm) b/\fp (λ_=>False) s b:=by have⟨b,j,h1,h2,h3⟩:=Tx a c d e;refine⟨b,aQ (a 322 dq) func322 O<|zs<|zr<|zc 2 h1<|zp (yb _ _<|jp h3) ?_,h2⟩;exact zf yR
def jH(dE:jE)(x:Bq × Bq):jE:=if decide (dE.length<20)&&!(dE.any λp=>ce p.1 x.1) then dE++[x] else dE
def np(l:jE):(jP l).size=l.length*2:=by
 induction l with
 | nil=>rfl
 | cons t b a=>simp at a |-;omega
def DX(l:jE)(x:Bq × Bq):((jP l).toList.take (l.length*2)++[str x.1,str x.2]).toArray=jP (l++[x]):=by rw[tL (by rw[Hh,np];exact lr)];simp
def Rr{dE:jE}(h:fw s av dE)(x:Bq × Bq)(f:dE.length<=100000):∃w a,cf prog 47 av [str x.1,str x.2] 1 s=some (w,a)/\w.cells=#[w]/\w.oneCell'=true/\fw a w (dE++[x])/\fp (λb=>blk av b) s a/\∀b,blk w b->s.nx<=b:=by
 rcases h with ⟨rfl,rfl⟩|⟨d,cp,fz,rfl,q1,q2⟩
 .refine⟨_,_,oG dq,O,O,.inr ⟨s.nx,1,(1,1),O,(bw s _).1,(bw s _).2⟩,(bC s).add _,λb z=>Nat.le_of_eq (dz z).symm⟩
 .have e:=np dE;refine⟨_,_,ry (sz:=2) dq q2 kq oq oq,O,O,?_,(bG (bC s) (λ_=>mJ _ _ _) none).add _,λb z=>Nat.le_of_eq (dz z).symm⟩;rw[DX];have c:=bw (s.set d none)<|.cells (jP<|dE++[x]) 47 (1,1);exact .inr ⟨s.nx,_,(1,1),by rw[lA];rfl,c.1,c.2⟩
abbrev jV(nm:Bq)(av:Value)(cl:Bool):Obj:=.cells #[str nm,av,.bool cl] 262
theorem SM(U:∀f,f∈yE->pr f=none){dE:jE}(H:Has s tb (jV tn av cl))(E:fw s av dE)(Q:dE.length<=100000)(nm g:Bq):∃v a,Ef pr 325 #[aF tb 0,.agg #[str nm,str g]] s (.tuple #[]) v/\Has v tb (jV tn a cl)/\fw v a (jH dE (nm,g))/\fp (λb=>b=tb\/blk av b) s v/\(a=av\/∀b,blk a b->s.nx<=b):=by
 have⟨l,o,T⟩:=E.len;have r:=H.add<|gP nm g;have x:=bw s<|gP nm g;have y:fw (s.add<|gP nm g) av dE:=E.fk ((bC s).add _) λ_ _=>id;have A:=(bC (K:=λb=>b=tb\/blk av b) s).add<|gP nm g;have G:¬blk av tb:=λz=>by
  rcases E with ⟨rfl,_⟩|⟨d,c,fz,rfl,q1,q2⟩
  .exact dT z
  .rw[dz z] at H;exact H.ne (⟨q1,q2⟩:Has s d _) dq rfl
 suffices h:Ew pr (match f325.body with|some c=>c|none=>.skip) ((#[aF tb 0,.agg #[str nm,str g]]:Aq).toList++List.replicate (f325.ntmps-(#[aF tb 0,.agg #[str nm,str g]]:Aq).toList.length) undef) s (λe I q=>(e=.normal\/e=.ret)/\∃a,Has q tb (jV tn a cl)/\fw q a (jH dE (nm,g))/\fp (λb=>b=tb\/blk av b) s q/\(a=av\/∀b,blk a b->s.nx<=b)) by have⟨m,e,I,q,h1,he,a,h2⟩:=h;exact⟨q,a,aQ (U 325 dq) func325 rfl ⟨m,e,I,q,h1,he,rfl,rfl⟩,h2⟩
 refine zs<|za (s.add<|gP nm g) ?_;have R:(s.add<|gP nm g).nx=s.nx+1:=rfl;generalize s.add (gP nm g)=S at r x y A R |-;refine zs<|za S ?_;have⟨i,hH,j⟩:=Wi U x y Q;have B:=r.fr j id;have J:=x.fr j id;have C:=y.fk j λ_ _=>id;have V:=A.trans j λ_ _ z=>z.elim;refine zr<|zg 3 S<|zp (yl tb 1 av r.2) ?_;subst T;refine zk 1 ?_;by_cases D:dE.length<20
 .refine zp (yb (num dE.length) (num 20)<|cj (b:=true)<|tD oq)<|zg 4 S<|zp (yl tb 1 _ r.2)<|zc 1 hH ?_;unfold jH;rw[tD D,Bool.true_and];show EO _ _ _ _ _ _ _ _;generalize a6:(dE.any λp=>ce p.1 nm)=W at *;cases W with
  | true =>refine zf<|za i<|zF ?_;grind
  | false =>
   have L:=B.add<|gP nm g;have X:fw (i.add<|gP nm g) _ dE:=C.fk ((bC (K:=λ_=>False) i).add _) λ_ _=>id;have Y:=V.add<|gP nm g;have Z:=bw i<|gP nm g;have⟨w,u,e1,e2,e3,e4,N,O⟩:=Rr X (nm,g) Q;have M:=L.fr N G;have c7:=Y.trans N λb _ z=>.inr z;have F:=fJ C.lt;have U5:S.nx<=i.nx:=j.1;have l1:bA prog 42 (aF tb 1) i=some _:=N9 42 B.2 (off:=1) rfl;have l2:bA prog 47 (aF s.nx 0) i=some (.agg #[str nm,str g]):=iK (n:=2) underlying47 rfl kq J.2 iq;refine zf<|za i<|zH<|bO kq kq kq<|zq<|zq<|zq<|zq<|zt i<|zu (yl tb 1 _ B.2)<|zu (yA s.nx 0 2 #[str nm,str g] J.2 iq)<|zq<|zt (i.add<|gP nm g)<|zu (qP (d:=i.nx) (m:=1) (k:=1) (sz:=2) (z:=.agg #[str [],str []]) (bytes:=32) rfl kq kq underlying42 kq rfl dq dq kq Z.2 F dq iq iq rfl e1)<|zq<|zq<|zt u<|zu (kB (b:=tb) (off:=1) (w:=w) rfl kq kq e2 e3 kq M.2 iq)<|cg ⟨Dz<|o9 l1 l2 C.qz.1,_,_,_,_,_,_,rfl,rfl,⟨.inl rfl,w,M.put _,?_,bG c7 (λ_=>.inl rfl) _,.inr λb z=>?_⟩⟩
   .have:=e4.fk (bG (K:=λb=>b=tb) (bC u) (λ_=>rfl)<|some<|jV tn w cl) λb z zz=>?_
    .exact this
    .have:=O b z
     have:=L.1;simp at *;omega
   .have:=O b z;simp at this;omega
 .refine zp (yb (num dE.length) (num 20)<|cj (b:=false)<|fD oq)<|zf<|za S<|zF ⟨.inl rfl,_,r,?_,A,.inl rfl⟩;unfold jH;grind
def kX{a:TL}{b c:Tmp}{v1:Value}(f:fn.results.toList=[.cell b ty,.tmp c])(e:a.getD b undef=p0)(d:bA P ty p0 s=some v0)(h1:a.getD c undef=v1):cN P fn a s=some (.tuple #[v0,v1]):=by unfold cN;rw[f];simp only[List.mapM_cons,List.mapM_nil,oO,e,d,h1];rfl
abbrev bL:Bq:=aK++[47]
def ou (all:Iq)(lo:Bq->Bq)(wr:Bq->Int->Bq):Nat->Nat->jE->Option (jE × Bool × Bool × Nat)
 | 0,_,_=>none
 | n+1,k,dE=>if dG all (mA all bL k) = -1 then some ([],false,false,mA all bL k) else if dG all (mA all bL k)=62 then some (dE,tR all k,true,mA all bL k+1) else ou all lo wr n (jF all lo wr<|mA all bL k).2 (jH dE (jF all lo wr<|mA all bL k).1)
def uj(all:Iq)(lo:Bq->Bq)(wr:Bq->Int->Bq)(T:Bq->Prop)(W:Bq->Int->Prop):Nat->Nat->Prop
 | 0,_=>True
 | n+1,k=>dG all (mA all bL k) ≠ -1->dG all (mA all bL k)≠62->JS all T W (mA all bL k)/\uj all lo wr T W n (jF all lo wr<|mA all bL k).2
def Rz(c tb:Nat)(x:Nq):TL:=[aF c 0,x 1,aF tb 0,.bool false]++fW x 4 25
section
variable {r:Value}
def G3(a:k<=all.length+1):mA all stops k<=all.length+1/\k<=mA all stops k:=by
 by_cases h:k<=all.length
 .have:=vn (stops:=stops) h;omega
 .unfold mA;rw[Sm oq];simp;omega
theorem XJ[C2](D:YV rn all lo wr T W pr){dE:jE}(hk:k<=all.length)(hT:T (cV all k<|gR all bE k))(U:ou all lo wr n (gR all bE k) []=some (dE,cl,wh,k'))(E:uj all lo wr T W n (gR all bE k))(h1:Has s c (iN rn k p q r))(X:c≠1)(aj:Has s 1 (.cells eZ.toArray 335))(hr:rn<s.nx) :
  ∃y a,Ef pr 248 #[aF c 0] s (.tuple #[.agg #[str (if wh then lo (cV all k<|gR all bE k) else []),a,.bool cl],.bool wh]) y/\Has y c (iN rn k' p q r)/\fw y a dE/\fp (λb=>b=c) s y/\(∀b,blk a b->s.nx<=b)/\k'<=all.length+2:=by
 have ao:=D.g.len;have O:=D.g.no;have R:=h1.add<|jV [] aX false;have Y:=bw s<|jV [] aX false;have Z:=aj.add<|jV [] aX false;have a4:=(bC (K:=λb=>b=c) s).add<|jV [] aX false;have j:c≠s.nx:=by have:=h1.1;omega
 have al:s.nx<(s.add<|jV [] aX false).nx:=iq
 suffices h:Ew pr (match f248.body with|some c=>c|none=>.skip) ((#[aF c 0]:Aq).toList++List.replicate (f248.ntmps-(#[aF c 0]:Aq).toList.length) undef) s (λe A v=>(e=.normal\/e=.ret)/\∃a,cN prog f248 A v=some (.tuple #[.agg #[str (if wh then lo (cV all k<|gR all bE k) else []),a,.bool cl],.bool wh])/\Has v c (iN rn k' p q r)/\fw v a dE/\fp (λb=>b=c) s v/\(∀b,blk a b->s.nx<=b)/\k'<=all.length+2) by have⟨m,e,A,v,h1,he,a,h2,h3⟩:=h;exact⟨v,a,aQ (O 248 dq) func248 rfl ⟨m,e,A,v,h1,he,h2,rfl⟩,h3⟩
 refine zs<|za (s.add<|jV [] aX false) ?_;generalize s.add (jV [] aX false)=S at R Y Z a4 al |-;have H:=NN (s:=S) (c:=c) (p:=p) (q:=q) (r:=r) D.g VC.2 (k:=k) oq;rw[nQ R.2] at H;have N:=nX (all:=all) (stops:=bE) hk;have l:=D.low (sp S c rn p q r<|gR all bE k) _ hT;generalize lo (cV all k<|gR all bE k)=i at l |-;generalize cV all k (gR all bE k)=tx at H l;generalize gR all bE k=t at H l N U E;have b1:Has (sp S c rn p q r t) c (iN rn t p q r):=R.put _;have b2:Has (sp S c rn p q r t) s.nx (jV [] aX false):=Y.set (Ne.symm j) _;have b3:Has (sp S c rn p q r t) 1 (.cells eZ.toArray 335):=Z.set (Ne.symm X) _;have b4:fp (λb=>b=c) s (sp S c rn p q r t):=bG a4 (λ_=>rfl) _;have d1:Has ((sp S c rn p q r t).set s.nx<|some<|jV i aX false) c (iN rn t p q r):=b1.set j _;have d2:Has ((sp S c rn p q r t).set s.nx<|some<|jV i aX false) s.nx (jV i aX false):=b2.put _;have I:(1:Nat)≠s.nx:=by have:=aj.1;omega
 have d3:Has ((sp S c rn p q r t).set s.nx<|some<|jV i aX false) 1 (.cells eZ.toArray 335):=b3.set I _;have d4:fp (λb=>b=c) s ((sp S c rn p q r t).set s.nx<|some<|jV i aX false):=bG b4 (λz=>absurd z<|Nat.lt_irrefl _) _;refine zr<|zc 1 H<|zc 0 l<|zg 1 (sp S c rn p q r t)<|zp (ys s.nx 0 (str i) b2.2 iq)<|aB<|za ((sp S c rn p q r t).set s.nx<|some<|jV i aX false) ?_;generalize (sp S c rn p q r t).set s.nx (some<|jV i aX false)=V at d1 d2 d3 d4 |-;refine ea (Rz c s.nx) kq ?_;intro x0;refine aD ?_;have Yq:t<=all.length+1:=oq
 clear H l b1 b2 b3 b4 R Y Z a4 N hT;refine aN (aZ (Q:=λe A v=>e=.ret/\∃a,cN prog f248 A v=some (.tuple #[.agg #[str (if wh then i else []),a,.bool cl],.bool wh])/\Has v c (iN rn k' p q r)/\fw v a dE/\fp (λb=>b=c) s v/\(∀b,blk a b->s.nx<=b)/\k'<=all.length+2) (λm A y=>∃k B a aa,k<=all.length+1/\B.length<=20/\ou all lo wr m k B=some (dE,cl,wh,k')/\uj all lo wr T W m k/\Has y c (iN rn k p q r)/\Has y s.nx (jV i a aa)/\Has y 1 (.cells eZ.toArray 335)/\fp (λb=>b=c) s y/\fw y a B/\(∀b,blk a b->s.nx<=b)/\∃x,A=Rz c s.nx x) ?_ n _ _ ⟨t,[],aX,false,Yq,iq,U,E,d1,d2,d3,d4,.inl ⟨rfl,rfl⟩,λb z=>(dT z).elim,x0,rfl⟩) ?_
 .rintro m A S ⟨k,B,a,aa,hk,aq,U,E,e1,e2,e3,e4,e5,e6,x,rfl⟩;cases m with
  | zero=>cases U
  | succ m =>
   have G:=P4 (s:=S) (c:=c) (p:=p) (q:=q) (r:=r) D.g (k:=k) oq;rw[nQ e1.2] at G;have P:=G3 (all:=all) (stops:=bL) hk;unfold ou at U;unfold uj at E;generalize mA all (aK++[47]) k=f at G P U E;generalize tR all k=o at G U;have f1:Has (sp S c rn p q r f) c (iN rn f p q r):=e1.put _;have f2:Has (sp S c rn p q r f) s.nx (jV i a aa):=e2.set (Ne.symm j) _;have f3:Has (sp S c rn p q r f) 1 (.cells eZ.toArray 335):=e3.set (Ne.symm X) _;have f4:fp (λb=>b=c) s (sp S c rn p q r f):=bG e4 (λ_=>rfl) _;have C:∀b,blk a b->b≠c:=λb z=>by have:=e6 b z;have:=h1.1;omega
   have ah:∀b,blk a b->b≠s.nx:=λb z=>by
    rcases e5 with ⟨rfl,_⟩|⟨d,cp,fz,rfl,q1,q2⟩
    .exact(dT z).elim
    .rw[dz z];exact(show Has S d _ from⟨q1,q2⟩).ne e2 dq
   have f5:fw (sp S c rn p q r f) a B:=e5.fk (bG (K:=λb=>b=c) (bC S) (λ_=>rfl) _) C;have g1:Has ((sp S c rn p q r f).set s.nx<|some<|jV i a o) c (iN rn f p q r):=f1.set j _;have g2:Has ((sp S c rn p q r f).set s.nx<|some<|jV i a o) s.nx (jV i a o):=f2.put _;have g3:Has ((sp S c rn p q r f).set s.nx<|some<|jV i a o) 1 (.cells eZ.toArray 335):=f3.set I _;have g4:fp (λb=>b=c) s ((sp S c rn p q r f).set s.nx<|some<|jV i a o):=bG f4 (λz=>absurd z<|Nat.lt_irrefl _) _;have g5:fw ((sp S c rn p q r f).set s.nx<|some<|jV i a o) a B:=f5.fk (bG (K:=λb=>b=s.nx) (bC _) (λ_=>rfl) _) ah;refine aD<|zr<|zc 1 G<|zg 1 (sp S c rn p q r f)<|zp (ys s.nx 2 (.bool o) f2.2 iq)<|aB<|za ((sp S c rn p q r f).set s.nx<|some<|jV i a o) ?_;generalize (sp S c rn p q r f).set s.nx (some<|jV i a o)=V at g1 g2 g3 g4 g5 |-;clear G f1 f2 f3 f4 f5 e1 e2 e3 e4 e5;have J:=jm (s:=V) (c:=c) (p:=p) (q:=q) (r:=r) D.g (k:=f) oq;rw[nQ g1.2] at J;refine am<|zr<|zc 1 J<|aB<|za V<|aD<|zr ?_;by_cases u:dG all f = -1
   .rw[ip u] at U;simp only[wJ,Prod.mk.injEq] at U;have⟨ab,ae,af,ag⟩:=U;subst ab ae af ag;refine zp (yb (.int .i32<|dG all f) (.int .i32<|-1)<|cQ (b:=true)<|beq_iff_eq.2 u)<|zf<|za V<|zH<|zr<|zg 1 V<|zp (eA (b:=s.nx) (off:=0) (w:=.agg #[str [],aX,.bool false]) (ws:=[str [],aX,.bool false]) rfl kq kq rfl rfl kq g2.2 iq)<|zf ?_;have z1:=g2.put<|jV [] aX false;exact za (V.set s.nx<|some<|jV [] aX false)<|aE ⟨rfl,aX,kX rfl kq (iK (off:=0) (n:=3) underlying262 rfl kq z1.2 iq) kq,g1.set j _,.inl ⟨rfl,rfl⟩,bG g4 (λz=>absurd z<|Nat.lt_irrefl _) _,λb z=>(dT z).elim,oq⟩
   .rw[iw u] at U;refine zp (yb (.int .i32<|dG all f) (.int .i32<|-1)<|cQ (b:=false)<|bF.2 u)<|zf<|za V<|zG<|zr ?_;by_cases F:dG all f=62
    .rw[ip F] at U;simp only[wJ,Prod.mk.injEq] at U;have⟨ab,ae,af,ag⟩:=U;subst ab ae af ag;have z0:Has (sp V c rn p q r<|f+1) s.nx (jV i a o):=g2.set (Ne.symm j) _;have z1:=z0.put<|jV i a o;have z2:Has (sp V c rn p q r<|f+1) c (iN rn (f+1) p q r):=g1.put _;have z3:fw (sp V c rn p q r<|f+1) a B:=g5.fk (bG (K:=λb=>b=c) (bC V) (λ_=>rfl) _) C;exact zp (yb (.int .i32<|dG all f) (.int .i32 62)<|cQ (b:=true)<|beq_iff_eq.2 F)<|zf<|za V<|zH<|zr<|zg 3 V<|zp (yl c 1 (num f) g1.2)<|zp (yp f 1 ((f+1:Nat):Int) oq oq)<|zg 2 V<|zp (ys c 1 (num ((f+1:Nat):Int)) g1.2 iq)<|aB<|za (sp V c rn p q r<|f+1)<|zr<|zp (yA s.nx 0 3 #[str i,a,.bool o] z0.2 iq)<|zo (sp V c rn p q r<|f+1)<|zp (eA (b:=s.nx) (off:=0) (w:=.agg #[str i,a,.bool o]) (ws:=[str i,a,.bool o]) rfl kq kq rfl (by show((str i).oneCell'&&(a.oneCell'&&((Value.bool o).oneCell'&&true)))=true;rw[g5.qz.2.2.1];rfl) kq z0.2 iq)<|zf<|za ((sp V c rn p q r<|f+1).set s.nx<|some<|jV i a o)<|aE ⟨rfl,a,kX rfl kq (iK (off:=0) (n:=3) underlying262 rfl kq z1.2 iq) kq,z2.set j _,z3.fk (bG (K:=λb=>b=s.nx) (bC _) (λ_=>rfl) _) ah,bG (bG g4 (λ_=>rfl) _) (λz=>absurd z<|Nat.lt_irrefl _) _,e6,oq⟩
    .rw[iw F] at U;have⟨ak,ai⟩:=E u F;have M:=jw u;have hrV:rn<V.nx:=by have:=g4.1;omega
     have⟨S3,hA,i1,i2⟩:=R3 D M ak g1 X g3 hrV;have L:=xM (lo:=lo) (wr:=wr) M;generalize jF all lo wr f=ap at *;obtain⟨⟨an,vl⟩,k3⟩:=ap;have j2:=g2.fr i2<|Ne.symm j;have j3:=g3.fr i2<|Ne.symm X;have j4:=g4.trans i2 λb _ z=>z;have j5:=g5.fk i2 C;have⟨S4,av2,hG,l1,l2,l3,l4⟩:=SM O j2 j5 oq an vl;have hgl:(jH B (an,vl)).length<=max B.length 20:=by unfold jH;grind
     have hVn:s.nx<S3.nx:=j2.1;refine zp (yb (.int .i32<|dG all f) (.int .i32 62)<|cQ (b:=false)<|bF.2 F)<|zf<|za V<|zF<|zx<|zc 1 hA<|zc 0 hG<|aB ⟨m,Nat.lt_succ_self m,k3,jH B (an,vl),av2,o,L.2,oq,U,ai,i1.fr l3 ?_,l1,j3.fr l3 ?_,j4.trans l3 ?_,l2,?_,aP kq⟩;iterate 4
      .grind
 .rintro e A y ⟨rfl,h⟩;exact⟨.inr rfl,h⟩
end
def fw.one{dE:List (Bq × Bq)}(h:fw s v dE):Value.oneCell' v=true:=by rcases h with ⟨rfl,_⟩|⟨ab,c,fz,rfl,_⟩<;>rfl
def QK(s:AS)(v:Value)(XI:List Nat):Prop:=(v=.slice none 0 0/\XI=[])\/∃ob cp cs fz,v=.slice (some ⟨ob,0,none⟩) XI.length cp/\XI.length<=cp/\ob<s.nx/\s.get ob=some (.cells cs 3 fz)/\∀i k:Nat,XI[i]?=some k->cs[i]?=some (num k)
theorem Ls(a:pr 127=eL 127){Vi:List (Bq)}{d:Nat}(e:s.get d=some (.cells (Vi.map str).toArray 9 fz))(f:Vi.length<=1000)(U:(Vi.any λt=>ce nm t)=bb):Ef pr 127 #[str nm,.slice (sq d) Vi.length c] s (.bool bb) s:=by
 have b:eH s 1 (sq d) Vi.length=some (Vi.map str):=by unfold eH;grind
 refine fI (a.trans O) ?_;simp only[b];rw[ip ⟨oq,by rw[List.all_map,aT];intro x _;rfl⟩,List.any_map,<-U];rfl
def dC (r:Int):Int:=if 65<=r/\r<=90 then r+32 else r
def kS (all:Iq):Nat->Bq->Bool
 | _,[]=>true
 | q,b::l=>(dC (dG all q)==(b.toNat:Int))&&kS all (q+1) l
def mm(h : -2000000000<=r/\r<=2000000000):fv .i32 r=r:=by unfold fv;rw[ip h]
section
variable {V:Aq->Option Value}
def W5(a:pr 247=none)(c : -1<=r/\r<=1114111):Ef pr 247 #[.int .i32 r] s (.int .i32<|dC r) s:=by
 unfold dC;refine aQ a func247 O<|zs<|am<|zr<|zk 1 ?_;by_cases h1:65<=r
 .refine zp (aI (u:=.int .i32 65) O kq kq<|ck (b:=true)<|tD h1)<|zk 2 ?_;by_cases h2:r<=90
  .rw[ip ⟨h1,h2⟩];exact zp (aI (u:=.int .i32 r) O kq kq<|ck (b:=true)<|tD h2)<|zf<|zH<|zr<|zg 1 s<|bV (s1:=s) kq ((show _=some (Value.int .i32<|fv .i32<|r-65,s) by kernel_rfl).trans<|by rw[mm oq])<|zo s<|bV (s1:=s) kq ((show _=some (Value.int .i32<|fv .i32<|r-65+97,s) by kernel_rfl).trans<|by rw[mm oq,show r-65+97=r+32 by omega])<|zf<|aE ⟨.inr O,by kernel_rfl,by kernel_rfl⟩
  .rw[iw oq];exact zp (aI (u:=.int .i32 r) O kq kq<|ck (b:=false)<|fD h2)<|zf<|zF<|zs<|aE ⟨.inr O,by kernel_rfl,by kernel_rfl⟩
 .rw[iw oq];exact zp (aI (u:=.int .i32 65) O kq kq<|ck (b:=false)<|fD h1)<|zf<|zF<|zs<|aE ⟨.inr O,by kernel_rfl,by kernel_rfl⟩
def MK(c p:Nat)(sm:Bq)(b:Nat)(x:Nq):TL:=[aF c 0,num p,str sm,x 3,x 4,x 5,x 6,x 7,x 8,str sm,aF b 0]++fW x 11 12
structure Bv(rn:Nat)(all:Iq)(pr:Prim):Prop where
 xw:pr 146=gz rn all 146
 n70:pr 70=none
 aam:pr 150=none
 LP:pr 247=none
def Ca(B:Bv rn all pr)(K:∀k,-1<=dG all k/\dG all k<=1114111){p:Nat}(J:∀b∈sm,b.toNat<128)(G0:sm.length<16)(G:gi sm<kc)(C:c<s.nx)(M:s.get c=some (.cells cs t fz))(I:cs[0]?=some (aF rn 0))(h1:cs[1]?=some (num k))(T:k+p<=900000) :
  ∃f,Ef pr 150 #[aF c 0,num p,str sm] s (.bool<|kS all (k+p) sm) f/\eQ s.nx s f:=by
 have z:=my G;suffices a:Ew pr (match f150.body with|some c=>c|none=>.skip) ((#[aF c 0,num p,str sm]:Aq).toList++List.replicate (f150.ntmps-(#[aF c 0,num p,str sm]:Aq).toList.length) undef) s (λe i A=>(e=.normal\/e=.ret)/\cN prog f150 i A=some (.bool<|kS all (k+p) sm)/\eQ s.nx s A) by have⟨m,e,i,A,N,O,P,R⟩:=a;exact⟨A,aQ (B.aam) func150 Y ⟨m,e,i,A,N,O,P,Y⟩,R⟩
 refine zs<|am<|zr<|zg 1 s<|zp (Cx (l:=sm) Y underlying9 kq z)<|aB<|ea (MK c p sm s.nx) kq ?_;intro S;refine aD<|aN (aZ (Q:=λe i f=>eQ s.nx s f/\((e=.exit 0/\kS all (k+p) sm=true/\∃x,i=MK c p sm s.nx x)\/(e=.ret/\kS all (k+p) sm=false/\cN prog f150 i f=some (.bool false)))) (λm i f=>∃j,m+j=sm.length/\f.get s.nx=some (.stringIter ⟨sm.toArray⟩ j)/\s.nx<f.nx/\eQ s.nx s f/\kS all (k+p) sm=kS all (k+p+j) (sm.drop j)/\∃x,i=MK c p sm s.nx x) ?_ sm.length _ _ ⟨0,by omega,by rw[AS.bu,ip Y],by simp,eQ.add lr,by simp,S,Y⟩) ?_
 .rintro m i f ⟨j,U,y,E,d,a,x,rfl⟩;by_cases D:j<sm.length
  .have v:=gE D;have H:=J sm[j] (OY D);rw[List.drop_eq_getElem_cons D] at a;generalize sm[j]=b at v H a;generalize o:f.set s.nx (some<|.stringIter ⟨sm.toArray⟩<|j+1)=u;have g:eQ s.nx s u:=by rw[<-o];exact⟨d.1,λq L=>by rw[AS.aU,iw oq];exact d.2 q L⟩
   have F:=(g.2 c C).trans M;have w:=ni (rn:=rn) (all:=all) (pr:=pr) (s:=u) B.n70 B.xw (p:=p+j) F I h1 oq;rw[show k+(p+j)=k+p+j by omega] at w;have h:=W5 B.LP (s:=u)<|K<|k+p+j;simp only[kS] at a;generalize V:dG all (k+p+j)=r at w h a;generalize dC r=lr at h a;refine zr<|zp (Mb (b:=s.nx) (pos:=j) (l:=sm) (r:=b) Y kq y v H z) ?_;rw[o];refine zf<|za u<|am<|zT<|aD<|zs<|za u<|zr<|zk 3<|zp (yp p (j:Nat) ((p+j:Nat):Int) oq oq)<|zo u<|yf w<|yf h<|zk 1 ?_;by_cases n:lr=(b.toNat:Int)
   .refine zp (yb (.int .i32 lr) (.int .i32 (b.toNat:Int))<|dI (b:=false)<|by simp[n])<|aB<|zF ⟨m-1,by omega,j+1,by omega,?_,?_,g,?_,aP kq⟩
    .show u.get s.nx=_;rw[<-o,AS.aU,ip Y]
    .rw[<-o];exact E
    .rw[a,n];simp;rfl
   .refine zp (yb (.int .i32 lr) (.int .i32 (b.toNat:Int))<|dI (b:=true)<|by simp[n])<|aB<|zH<|zs<|aE ⟨g,.inr ⟨Y,?_,by kernel_rfl⟩⟩;rw[a];simp[n]
  .obtain rfl:j=sm.length:=oq
   refine zr<|zp (wo (b:=s.nx) (l:=sm) Y kq y lr)<|zf<|za f<|am<|zG<|cB ⟨d,.inl ⟨Y,?_,aP kq⟩⟩;rw[a,Sm lr];rfl
 .rintro e i f ⟨d,(⟨rfl,a,x,rfl⟩|⟨rfl,a,Eu⟩)⟩
  .rw[a];exact zs<|aE ⟨.inr Y,by kernel_rfl,d⟩
  .rw[a];exact⟨.inr Y,Eu,d⟩
end
structure Tok where
 kind:Int
 text:Bq
 name:Bq
 lV:jE
 closed:Bool
def zA (s:AS)(t:fA)(u:Tok):Prop:=t.kind=u.kind/\t.text=u.text/\t.name=u.name/\t.closed=u.closed/\fw s t.at_ u.lV
def eR(s:AS)(ts:List fA)(us:List Tok):Prop:=ts.length=us.length/\∀(i:Nat) (t:fA) (u:Tok),ts[i]?=some t->us[i]?=some u->zA s t u
def QO (c:Nat)(ts:List fA):Prop:=(∀t∈ts,∀b,blk t.at_ b->c<b)/\∀(i j:Nat) (t x:fA) (b:Nat),ts[i]?=some t->ts[j]?=some x->blk t.at_ b->blk x.at_ b->i=j
def kn (c:Nat)(s:AS)(ts:List fA)(us:List Tok):Prop:=eR s ts us/\QO c ts
def oF (rn c:Nat)(s:AS)(k:Nat)(tx:Bq)(us:List Tok):Prop:=∃ts,SC rn c s k tx ts/\kn c s ts us
def qE (rn c:Nat)(s:AS):Prop:=Has s 1 (.cells eZ.toArray 335)/\rn<s.nx/\c≠1
variable {ts:List fA}{us:List Tok}
section
def eR.fr(h:eR s ts us)(l:SC rn c s k tx ts)(j:ir c s s'):eR s' ts us:=⟨h.1,λi t u m n=>by
 have⟨h1,h2,h3,g,f⟩:=h.2 i t u m n;refine⟨h1,h2,h3,g,f.fk j.1 λb a=>?_⟩;rcases f with ⟨e,_⟩|⟨d,cp,fz,e,q1,q2⟩
 .rw[e] at a;exact(dT a).elim
 .rw[e] at a;rw[dz a];exact l.no (⟨q1,q2⟩) dq dq dq⟩
def eR.snoc{t:fA}{u:Tok}(h:eR s ts us)(b:zA s t u):eR s (ts++[t]) (us++[u]):=⟨by simp[h.1],λi c d h1 h2=>by
 by_cases a:i<ts.length
 .rw[UY a] at h1;rw[UY (by rw[<-h.1];exact a)] at h2;exact h.2 i c d h1 h2
 .rw[Vw oq] at h1;rw[Vw (by rw[<-h.1];omega),<-h.1] at h2;match hq:i-ts.length with
  | 0=>rw[hq] at h1 h2;cases h1;cases h2;exact b
  | q+1=>rw[hq] at h1;simp at h1⟩
def QO.snoc{c:Nat}{t:fA}(h:QO c ts)(a:∀b,blk t.at_ b->c<b/\∀x∈ts,¬blk x.at_ b):QO c (ts++[t]):=by
 refine⟨λx hx b hb=>?_,λi j x y b hi hj hb hc=>?_⟩
 .rcases List.mem_append.1 hx with hx|hx
  .exact h.1 x hx b hb
  .rw[List.mem_singleton] at hx;subst hx;exact(a b hb).1
 have key:∀(i:Nat) (x:fA),(ts++[t])[i]?=some x->(ts[i]?=some x)\/(i=ts.length/\x=t):=λi x hx=>by
  by_cases d:i<ts.length
  .exact .inl (by rwa[List.getElem?_append_left d] at hx)
  .rw[List.getElem?_append_right (by omega)] at hx;match hq:i-ts.length with
   | 0=>rw[hq] at hx;simp at hx;exact .inr ⟨by omega,hx.symm⟩
   | q+1=>rw[hq] at hx;simp at hx
 rcases key i x hi with h2|⟨h1,rfl⟩<;>rcases key j y hj with h4|⟨h3,rfl⟩
 .exact h.2 i j x y b h2 h4 hb hc
 .exact absurd hb ((a b hc).2 x (List.mem_of_getElem? h2))
 .exact absurd hc ((a b hb).2 y (List.mem_of_getElem? h4))
 .omega
def kn.fr(h:kn c s ts us)(l:SC rn c s k tx ts)(j:ir c s s'):kn c s' ts us:=⟨h.1.fr l j,h.2⟩
def kn.snoc{t:fA}{u:Tok}(h:kn c s ts us)(b:zA s t u)(a:∀b,blk t.at_ b->c<b/\∀x∈ts,¬blk x.at_ b):kn c s (ts++[t]) (us++[u]):=⟨h.1.snoc b,h.2.snoc a⟩
def qE.fr(h:qE rn c s)(b:SC rn c s k tx ts)(a:ir c s s'):qE rn c s':=⟨h.1.fr a.1<|b.no h.1 dq dq dq,by have:=h.2.1;have:=a.1.1;omega,h.2.2⟩
def cZ (tx:Bq)(a:List Tok):List Tok:=if tx=[] then a else a++[⟨1,tx,[],[],false⟩]
def eR.oh(h:eR s ts us):eR s (oh tx ts) (cZ tx us):=by
 unfold YtgcaionclkbehaaGreatDoor.oh cZ;split
 .exact h
 .exact h.snoc ⟨O,O,O,O,.inl ⟨O,O⟩⟩
def kn.oh(h:kn c s ts us):kn c s (oh tx ts) (cZ tx us):=⟨h.1.oh,by
 unfold YtgcaionclkbehaaGreatDoor.oh;split
 .exact h.2
 .exact h.2.snoc λb z=>(dT z).elim⟩
def KP{x:fA}(h:x∈oh tx ts):x∈ts\/x.at_=aX:=by
 unfold YtgcaionclkbehaaGreatDoor.oh at h;split at h
 .exact .inl h
 .rcases List.mem_append.1 h with h|h
  .exact .inl h
  .rw[List.mem_singleton] at h;subst h;exact .inr rfl
def ff(nm:Bq)(l:List (Bq)):Bool:=l.any λt=>ce nm t
abbrev qR:List (Bq):=[[115,99,114,105,112,116],[115,116,121,108,101]]
abbrev dW:List (Bq):=[[116,105,116,108,101],[116,101,120,116,97,114,101,97]]
section
variable (Zh:pr 127=eL 127)
def GS(a:pr 251=none)(nm:Bq):Ef pr 251 #[str nm] s (.bool<|ff nm dW) (s.add<|.cells (dW.map str).toArray 9):=by have b:=Ls (s:=s.add<|.cells (dW.map str).toArray 9) Zh (nm:=nm) (c:=2) (bw s _).2 dq O;exact aQ a func251 O<|zs<|zr<|zc 2 b<|zf yR
end
def EJ(a:pr 247=none)(c : -1<=r/\r<=1114111):Ef pr 247 #[.int .i32 r] s (.int .i32<|dC r) s:=by
 unfold dC;refine aQ (a) func247 O<|zs<|am<|zr<|zk 1 ?_;by_cases h1:65<=r
 .refine zp (aI (u:=.int .i32 65) O kq kq<|ck<|tD h1)<|zk 2 ?_;by_cases h2:r<=90
  .rw[ip ⟨h1,h2⟩];exact zp (aI (u:=.int .i32 r) O kq kq<|ck<|tD h2)<|zf<|zH<|zr<|zg 1 s<|bV kq ((show _=some (Value.int .i32<|fv .i32<|r-65,s) by kernel_rfl).trans<|by rw[mm oq])<|zo s<|bV kq ((show _=some (Value.int .i32<|fv .i32<|r-65+97,s) by kernel_rfl).trans<|by rw[mm oq,show r-65+97=r+32 by omega])<|zf<|aE ⟨.inr O,by kernel_rfl,by kernel_rfl⟩
  .rw[iw oq];exact zp (aI (u:=.int .i32 r) O kq kq<|ck<|fD h2)<|zf<|zF<|zs<|aE ⟨.inr O,by kernel_rfl,by kernel_rfl⟩
 .rw[iw oq];exact zp (aI (u:=.int .i32 65) O kq kq<|ck<|fD h1)<|zf<|zF<|zs<|aE ⟨.inr O,by kernel_rfl,by kernel_rfl⟩
def eW(l:Int):Bool:=decide (97<=dC l)&&decide (dC l<=122)
def qM(c:pr 147=none)(d:pr 247=none){l:Int}(e : -1<=l/\l<=1114111):Ef pr 147 #[.int .i32 l] s (.bool<|eW l) s:=by
 have a:=EJ (pr:=pr) (s:=s) d e;unfold eW;generalize dC l=r at a |-;refine aQ c func147 O<|zs<|zr<|zc 1 a<|zf<|za s<|zr<|zk 1 ?_;by_cases h1:97<=r
 .rw[tD h1,Bool.true_and];refine zp (yb (.int .i32 97) _<|ck (b:=true)<|tD h1)<|zk 2<|zp (yb (.int .i32 r) _<|ck (b:=decide (r<=122)) O) ?_;exact zf yR
 .rw[fD h1,Bool.false_and];exact zp (yb _ (.int .i32 r)<|ck<|fD h1)<|zf yR
abbrev vC(c:Nat):Obj:=.cells #[aF c 0] 196
variable {r:Value}
end
structure JY(rn:Nat)(all:Iq)(lo:Bq->Bq)(wr:Bq->Int->Bq)(T:Bq->Prop)(W:Bq->Int->Prop)(pr:Prim):Prop where
 h:YV rn all lo wr T W pr
 PN:pr 127=eL 127
 TM:pr 147=none
 LP:pr 247=none
 Xa:pr 250=none
 TN:pr 251=none
 lv:∀l∈all,l<=1114111
 Oe:∀k,dG all k=60->2<=kc
 w62:∀j k,dG all j=60->dG all k=62->3<=kc
variable {r:Value}
def Hx(h1:Has s c (iN rn k p q r))(h2:p=.pointer none\/p=aF c 2)(h3:FF s q tx)(i:jl s r ts)(g:fp (λb=>b=c) s s')(f:Has s' c (iN rn k' p q r)):SC rn c s' k' tx ts/\ir c s s':=by refine⟨⟨p,q,r,f,h2,h3.imp id λ⟨d,h,e1,a⟩=>⟨d,h,e1,a.fr g<|a.ne h1 dq⟩,i.imp id λ⟨d,h,e1,a⟩=>⟨d,h,e1,a.fr g<|a.ne h1 dq⟩⟩,ir.mk' h1 f ⟨g.1,λb j l=>g.2 b j λe=>l<|.inl e⟩ (.inl O)<|.inl O⟩
section
variable (hp:JY rn all lo wr T W pr)
def JY.at(k:Nat) : -1<=dG all k/\dG all k<=1114111:=by
 rcases hp.h.g.at k with e|e
 .rw[e];decide
 .exact⟨by have:=hp.h.g.pos _ e;omega,hp.lv _ e⟩
def Nl[C2]{w:Nat}{dE:jE}(hk:k+w<=all.length)(hT:T (cV all (k+w)<|gR all bE<|k+w))(aac:ou all lo wr n (gR all bE<|k+w) []=some (dE,cl,wh,k'))(Ae:uj all lo wr T W n (gR all bE<|k+w))(h:oF rn c s k tx us)(he:qE rn c s) :
  ∃S1 av,Ef pr 248 #[aF c 0] (s.set c<|match s.get c with|some (.cells cs t fz)=>some (.cells (cs.set! 1<|num ((k+w:Nat):Int)) t fz)|o=>o) (.tuple #[.agg #[str (if wh then lo (cV all (k+w)<|gR all bE<|k+w) else []),av,.bool cl],.bool wh]) S1/\(∃ts,SC rn c S1 k' tx ts/\kn c S1 ts us/\∀t∈ts,∀b,blk t.at_ b->b<s.nx)/\qE rn c S1/\fw S1 av dE/\ir c s S1/\∀b,blk av b->s.nx<=b:=by
 obtain⟨ts,⟨p,q,r,h1,h2,h3,h4⟩,hm⟩:=h;have hsc:SC rn c s k tx ts:=⟨p,q,r,h1,h2,h3,h4⟩;have e:s.set c (match s.get c with|some (.cells cs t fz)=>some (.cells (cs.set! 1<|num ((k+w:Nat):Int)) t fz)|o=>o)=sp s c rn p q r (k+w):=by rw[h1.2];rfl
 rw[e];have a1:Has _ c (iN rn (k+w) p q r):=h1.put _;have a2:Has (sp s c rn p q r<|k+w) 1 _:=he.1.set (Ne.symm he.2.2) _;have⟨S1,av,g1,g2,g3,g4,g5,g6⟩:=XJ hp.h hk hT aac Ae a1 he.2.2 a2 he.2.1;have hf:=(bG (K:=λb=>b=c) (bC s) (λ_=>O) _).trans g4 λb _ z=>z;have⟨m1,m2⟩:=Hx h1 h2 h3 h4 hf g2;exact⟨S1,av,g1,⟨ts,m1,hm.fr hsc m2,λt ht b z=>by obtain⟨i,hi⟩:=List.mem_iff_getElem?.1 ht;have:=(List.getElem?_eq_some_iff.1 hi).1;have hl:=hm.1.1;exact(hm.1.2 i t _ hi (List.getElem?_eq_getElem (by omega))).2.2.2.2.lt b z⟩,he.fr hsc m2,g3,m2,λb z=>g5 b z⟩
end
def MY(c k:Nat)(x:Nq):TL:=[aF c 0,x 1,num k]++fW x 3 34
def SC.ahead(a:JX rn all pr)(h:SC rn c s k tx ts)(b:k<=900000):Ef pr 70 #[aF c 0,num 0] s (.int .i32<|dG all k) s:=by
 have⟨p,q,r,h1,_⟩:=h
 have:=jm (s:=s) (c:=c) (p:=p) (q:=q) (r:=r) a (k:=k) oq;rw[nQ h1.2] at this;exact this
structure St where
 k:Nat
 tx:Bq
 us:List Tok
abbrev Vu(rn c:Nat)(s:AS)(x:St):Prop:=oF rn c s x.k x.tx x.us
def Uo (rn c:Nat)(x:Nq):TL:=[aF rn 0,x 1,aX,aF c 0]++fW x 4 14
structure Nd where
 kind:Int
 parent:Int
 name:Bq
 text:Bq
 lV:jE
def NdM (s:AS)(x:lU)(u:Nd):Prop:=x.kind=u.kind/\x.parent=u.parent/\x.name=u.name/\x.text=u.text/\fw s x.lV u.lV
def YU (s:AS)(xs:List lU)(us:List Nd):Prop:=xs.length=us.length/\∀(i:Nat) (x:lU) (u:Nd),xs[i]?=some x->us[i]?=some u->NdM s x u
def RwN (s:AS)(v:Value)(xs:List lU):Prop:=∃d c fz,v=.slice (some ⟨d,0,none⟩) xs.length (xs.length+c)/\Has s d (.cells (TQ xs) 44 fz)
structure TS where
 nodes:List Nd
 row:List Nat
 again:List Nat
 w:Int
abbrev OW(f:FuncId):Value:=.func (.func 66) #[.func (.func f) #[] #[]] #[]
abbrev bdO(nv rv av:Value)(w:Int):Obj:=.cells #[nv,rv,av,num w,OW 65,OW 67,OW 68,OW 69] 183
def W2 (nm:Bq):Bool:=ce nm lqf||ce nm lqj
def YZ (b:Nat)(xs:List lU):Prop:=(∀(i:Nat) (x:lU) (y:Nat),xs[i]?=some x->blk x.lV y->(y<b/\W2 x.name=false)\/(b<y/\W2 x.name=true))/\∀(i j:Nat) (x x':lU) (y:Nat),xs[i]?=some x->xs[j]?=some x'->b<y->blk x.lV y->blk x'.lV y->i=j
structure BT(s:AS)(b:Nat)(nv rv av:Value)(xs:List lU)(σ:TS):Prop where
 sp:YZ b xs
 b:Has s b (bdO nv rv av σ.w)
 n:RwN s nv xs
 m:YU s xs σ.nodes
 r:QK s rv σ.row
 a:QK s av σ.again
 ra:∀x,blk rv x->¬blk av x
 lt:∀k∈σ.row,k<σ.nodes.length
 la:∀k∈σ.again,k<σ.nodes.length
 ne:σ.row≠[]
 sz:σ.nodes.length<=400000000/\σ.row.length<=40/\σ.again.length<=100000
variable {nv rv:Value}{σ:TS}
def AskR (s:AS)(v:Value)(l:List (Bq)):Prop:=l.length<=1000/\∃d c fz,v=.slice (some ⟨d,0,none⟩) l.length c/\Has s d (.cells (l.map str).toArray 9 fz)
variable {v2:Value}
def fp.mono(h:fp K s s')(b:∀y,y<s.nx->K y->K' y):fp K' s s':=⟨h.1,λy a c=>h.2 y a λz=>c<|b y a z⟩
end
section
variable [Inhabited KC]
variable {s s':AS}{nm:Bq}{wr:Bq->Int->Bq}
variable {all:Iq}{B k2 n w:Nat}{stops tx2:Bq}{dE:jE}{cl wh:Bool}
def Eg (all:Iq)(k:Nat)(nm:Bq):Bool:=kS all k (60::47::nm)&&da (dG all<|k+(nm.length+2)) [9,10,12,13,32,47,62]
def Fg(c:Nat)(nm:Bq)(k:Nat)(x:Nq):TL:=[aF c 0,str nm,x 2,x 3,num k]++fW x 5 40
def TC(k:Nat):dG all k = -1\/dG all k∈all:=by
 unfold dG;cases h:all[k]? with
 | none=>exact .inl O
 | some x=>exact .inr<|mG h
variable {rn c k k':Nat}{tx:Bq}{ts:List fA}{us:List Tok}{p q r:Value}{pr:Prim}{lo:Bq->Bq}{T:Bq->Prop}{W:Bq->Int->Prop}
section
variable {all:Iq}
def SC.oj(h:SC rn c s k tx ts)(a:eQ s.nx s s'):SC rn c s' k tx ts/\ir c s s':=by have⟨p,q,r,h1,h2,h3,d⟩:=h;have f:fp (λb=>b=c) s s':=⟨a.1,λb e _=>a.2 b e⟩;exact Hx h1 h2 h3 d f ⟨by have:=h1.1;have:=a.1;omega,(a.2 c h1.1).trans h1.2⟩
theorem Sx[C2][C3](d:JY rn all lo wr T W pr)(u:Bv rn all pr)(U:pr 327=none)(x:∀b∈nm,b.toNat<128)(z:nm.length<14)(hz:gi nm=0)(y:k<=200000)(h:SC rn c s k tx ts):∃i,Ef pr 327 #[aF c 0,str nm] s (.bool<|Eg all k nm) i/\SC rn c i k tx ts/\ir c s i:=by
 have f:=h;have⟨p,q,r,h1,_⟩:=f;have⟨S,e1,t⟩:=Ca u d.at (p:=0) (sm:=60::47::nm) (by simp_all) (by simp;omega) (by show 2+(0+gi nm)<kc;rw[hz];have:=c3;omega) h1.1 h1.2 O O oq;have⟨n,v⟩:=h.oj t;have j:((60::47::nm).length:Nat)=nm.length+2:=iq
 have f:=n;have⟨A,B,C,h2,_⟩:=f;have e:=ni (d.h.g.no 70 dq) d.h.g.xw (p:=(60::47::nm).length) h2.2 O O oq;have a:=d.h.g.one S (dG all<|k+(60::47::nm).length) [9,10,12,13,32,47,62] (TC _) (show ∀b∈([9,10,12,13,32,47,62]:Bq),b.toNat<128 by decide) w2;unfold Eg;rw[j] at e a;generalize kS all k _=o at e1 |-;refine⟨S,aQ U func327 O<|zs<|zr<|zk 1<|zp (vj (l:=[60,47]) (m:=nm) O kq kq<|by simp;omega)<|zf<|za s<|zr ?_,n,v⟩;cases o with
 | false =>exact zc 2 e1<|zf<|za S yR
 | true =>refine zc 2 e1<|zk 3<|zp (di (l:=60::47::nm) O underlying9 kq) ?_;exact zc 0 e<|zc 0 a<|zf<|za S yR
end
def lN{P:Program}{kt:TypeId->Bool}{pr:Prim}{f:FuncId}{fn:Func}{b:Code}{args:Aq}{G:Value->AS->Prop}(k:pr f=none)(j:P.funcs[f]?=some fn)(g:fn.body=some b)(h:EW P kt pr b (args.toList++List.replicate (fn.ntmps-args.toList.length) undef) s (λe c a=>(e=.normal\/e=.ret)/\∃v,cN P fn c a=some v/\G v a)):∃v d,EF P kt pr f args s v d/\G v d:=by have⟨n,e,c,a,h1,i,v,h2,h3⟩:=h;exact⟨v,a,aQ k j g ⟨n,e,c,a,h1,i,h2,O⟩,h3⟩
def Ve (all:Iq)(k:Nat):Nat:=bif eW (dG all<|k+2) then 2 else bif dG all (k+2)==62 then 3 else bif dG all (k+2) == -1 then 0 else 4
abbrev JG:Bq:=[33,100,111,99,116,121,112,101]
def mI (all:Iq)(k:Nat):Nat:=bif dG all k==60 then (bif eW (dG all<|k+1) then 1 else bif dG all (k+1)==47 then Ve all k else bif kS all (k+1) [33,45,45] then 5 else bif kS all (k+1) JG then 6 else bif dG all (k+1)==33 then 7 else bif dG all (k+1)==63 then 8 else 0) else 0
def JU (s:AS)(c:Nat):Nat->Value->Prop
 | 0,v=>v=.nilFunc
 | 1,v=>v=.func (.func 148) #[aF c 0] #[]
 | 2,v=>v=.func (.func 253) #[aF c 0] #[]
 | 3,v=>∃B,v=.func (.func 254) #[] #[aF B 0]/\Has s B (vC c)
 | 4,v=>∃B,v=.func (.func 255) #[] #[aF B 0]/\Has s B (vC c)
 | 5,v=>v=.func (.func 151) #[aF c 0] #[]
 | 6,v=>v=.func (.func 152) #[aF c 0] #[]
 | 7,v=>∃B,v=.func (.func 153) #[] #[aF B 0]/\Has s B (vC c)
 | _,v=>∃B,v=.func (.func 155) #[] #[aF B 0]/\Has s B (vC c)
def Has.oj{b:Nat}{o:Obj}(h:Has s b o)(a:eQ s.nx s s'):Has s' b o:=⟨by have:=h.1;have:=a.1;omega,(a.2 b h.1).trans h.2⟩
section
variable {all:Iq}
section
variable (hp:JY rn all lo wr T W pr)
def P6(h1:Has s c (iN rn k p q r))(m:k<=800000):∃v j,Ef pr 149 #[aF c 0] s v j/\JU j c (Ve all k) v/\eQ s.nx s j:=by
 have d:eQ s.nx s (s.add<|vC c):=eQ.add lr;have i:=h1.add<|vC c;have a:=bw s<|vC c;have e:=ni (hp.h.g.no 70 dq) hp.h.g.xw (p:=2) i.2 O O oq;have f:=qM (s:=s.add<|vC c) hp.TM hp.LP<|hp.at<|k+2;unfold Ve;generalize dG all (k+2)=l at *;generalize eW l=b at *;refine lN (hp.h.g.no 149 dq) func149 O<|zs<|za (s.add<|vC c) ?_;generalize s.add (vC c)=S at *;refine am<|zr<|zp (yl s.nx 0 _ a.2)<|zc 0 e<|zf<|za S<|aD<|zr<|zc 1 f<|zf<|za S ?_;cases b with
 | true =>exact zH<|zr<|zp (yl s.nx 0 _ a.2)<|zf<|aE ⟨.inr O,.func _ _ #[],kq,O,d⟩
 | false =>
  refine zG<|zr<|zk 1<|zp (yb (.int .i32 l) (.int .i32 62)<|cQ O)<|zf<|za S ?_;cases Q1:(l==(62:Int)) with
  | true =>exact zH<|zr<|zf<|aE ⟨.inr O,.func _ #[] _,kq,⟨_,O,a⟩,d⟩
  | false =>
   refine zG<|zr<|zk 1<|zp (yb (.int .i32 l) (.int .i32<|-1)<|cQ O)<|zf<|za S ?_;cases h01:(l==(-1:Int)) with
   | true =>exact zH<|zr<|zf<|aE ⟨.inr O,.nilFunc,kq,O,d⟩
   | false =>exact zF<|zr<|zf<|aE ⟨.inr O,.func _ #[] _,kq,⟨_,O,a⟩,d⟩
def QS(J:Bv rn all pr)(h1:Has s c (iN rn k p q r))(O:k<=800000):∃v H,Ef pr 71 #[aF c 0] s v H/\JU H c (mI all k) v/\eQ s.nx s H:=by
 by_cases h0:dG all k=60
 .haveI:C2:=⟨⟨hp.Oe k h0⟩⟩
  have z:eQ s.nx s (s.add<|vC c):=eQ.add lr;have d:=h1.add<|vC c;have e:=bw s<|vC c;have P:s.nx<=(s.add<|vC c).nx:=iq
  have t:=ni (rn:=rn) (all:=all) (pr:=pr) (hp.h.g.no 70 dq) hp.h.g.xw (p:=0) d.2 Y Y oq;have A:=ni (rn:=rn) (all:=all) (pr:=pr) (hp.h.g.no 70 dq) hp.h.g.xw (p:=1) d.2 Y Y oq;have D:=qM (pr:=pr) (s:=s.add<|vC c) hp.TM hp.LP<|hp.at<|k+1;have⟨Q,L,E,F,u⟩:=P6 hp d O;have⟨I,B,i⟩:=Ca J hp.at (p:=1) (k:=k) (sm:=[33,45,45]) dq dq w2 d.1 d.2 Y Y oq;have x:=d.oj i;have n:=e.oj i;have f:=z.trans ⟨i.1,λj K=>i.2 j oq⟩;have⟨y,C,m⟩:=Ca J hp.at (p:=1) (k:=k) (sm:=JG) dq dq w2 x.1 x.2 Y Y oq;have o:=n.oj m;have a:=f.trans ⟨m.1,λj K=>m.2 j<|by have:=f.1;omega⟩;have w:=z.trans ⟨u.1,λj K=>u.2 j oq⟩;unfold mI;rw[Nat.add_zero] at t;generalize Ve all k=R at *;generalize kS all (k+1) [33,45,45]=M at *;generalize kS all (k+1) JG=N at *;generalize dG all (k+1)=l at *;generalize dG all k=G at *;generalize eW l=b at *;refine lN (hp.h.g.no 71 dq) func71 Y<|zs<|za (s.add<|vC c) ?_;generalize s.add (vC c)=S at *;refine am<|zr<|zp (yl s.nx 0 (aF c 0) e.2)<|zc 0 t<|zp (yb (.int .i32 G) (.int .i32 60)<|dI (b:=!(G==60)) Y)<|aB ?_;cases ol:(G==(60:Int)) with
  | false =>exact zH<|zr<|zf<|aE ⟨.inr Y,.nilFunc,kq,Y,z⟩
  | true =>
   refine zF<|am<|zr<|zp (yl s.nx 0 (aF c 0) e.2)<|zc 0 A<|zf<|za S<|aD<|zr<|zc 1 D<|zf<|za S ?_;cases b with
   | true =>exact zH<|zr<|zp (yl s.nx 0 (aF c 0) e.2)<|zf<|aE ⟨.inr Y,.func (.func 148) #[aF c 0] #[],kq,Y,z⟩
   | false =>
    refine zG<|zr<|zk 1<|zp (yb (.int .i32 l) (.int .i32 47)<|cQ (b:=l==47) Y)<|zf<|za S ?_;cases ow:(l==(47:Int)) with
    | true =>exact zH<|zr<|zp (yl s.nx 0 (aF c 0) e.2)<|zc 0 E<|zf<|aE ⟨.inr Y,Q,kq,F,w⟩
    | false =>
     refine zG<|zr<|zp (yl s.nx 0 (aF c 0) e.2)<|zc 0 B<|zf<|za I ?_;cases M with
     | true =>exact zH<|zr<|zp (yl s.nx 0 (aF c 0) n.2)<|zf<|aE ⟨.inr Y,.func (.func 151) #[aF c 0] #[],kq,Y,f⟩
     | false =>
      refine zG<|zr<|zp (yl s.nx 0 (aF c 0) n.2)<|zc 0 C<|zf<|za y ?_;cases N with
      | true =>exact zH<|zr<|zp (yl s.nx 0 (aF c 0) o.2)<|zf<|aE ⟨.inr Y,.func (.func 152) #[aF c 0] #[],kq,Y,a⟩
      | false =>
       refine zG<|zr<|zk 1<|zp (yb (.int .i32 l) (.int .i32 33)<|cQ (b:=l==33) Y)<|zf<|za y ?_;cases h33:(l==(33:Int)) with
       | true =>exact zH<|zr<|zf<|aE ⟨.inr Y,.func (.func 153) #[] #[aF s.nx 0],kq,⟨_,Y,o⟩,a⟩
       | false =>
        refine zG<|zr<|zk 1<|zp (yb (.int .i32 l) (.int .i32 63)<|cQ (b:=l==63) Y)<|zf<|za y ?_;cases Zq:(l==(63:Int)) with
        | true =>exact zH<|zr<|zf<|aE ⟨.inr Y,.func (.func 155) #[] #[aF s.nx 0],kq,⟨_,Y,o⟩,a⟩
        | false =>exact zF<|zr<|zf<|aE ⟨.inr Y,.nilFunc,kq,Y,a⟩
 .have z:eQ s.nx s (s.add<|vC c):=eQ.add lr;have d:=h1.add<|vC c;have e:=bw s<|vC c;have t:=ni (rn:=rn) (all:=all) (pr:=pr) (hp.h.g.no 70 dq) hp.h.g.xw (p:=0) d.2 Y Y oq;have g:(dG all k==60)=false:=beq_eq_false_iff_ne.2 h0
  unfold mI;rw[Nat.add_zero] at t;rw[g];generalize dG all k=G at *;refine lN (hp.h.g.no 71 dq) func71 Y<|zs<|za (s.add<|vC c) ?_;generalize s.add (vC c)=S at *;refine am<|zr<|zp (yl s.nx 0 (aF c 0) e.2)<|zc 0 t<|zp (yb (.int .i32 G) (.int .i32 60)<|dI (b:=!(G==60)) Y)<|aB ?_;rw[g];exact zH<|zr<|zf<|aE ⟨.inr Y,.nilFunc,kq,Y,z⟩
end
end
def Qq (f:Nat->Bool):Nat->Nat->Nat
 | 0,k=>k
 | n+1,k=>if f k then k else Qq f n (k+1)
theorem py(f:Nat->Bool):∀(n k:Nat),∃m,Qq f n k=k+m/\m<=n/\(∀j,j<m->f (k+j)=false)/\(m<n->f (k+m)=true)
 | 0,k=>⟨0,O,lr,λj U=>by omega,λh=>by omega⟩
 | n+1,k=>by
  unfold Qq;split
  .grind
  .next h =>
   have⟨m,h1,h2,h3,h4⟩:=py f n<|k+1;refine⟨m+1,by omega,by omega,λj U=>?_,λa=>?_⟩
   .cases j with
    | zero=>simpa using h
    | succ j=>have:=h3 j oq;rwa [show k+1+j=k+(j+1) by omega] at this
   .grind
def wT(all:Iq)(g:Nat->Bool)(k:Nat):Nat:=Qq (λj=>dG all j == -1||g j) (all.length+1) k
def GA{k:Nat}(h:all.length<=k):dG all k = -1:=by unfold dG;rw[List.getElem?_eq_none h];rfl
theorem ib(all:Iq)(g:Nat->Bool)(k:Nat):∃m,wT all g k=k+m/\(∀j,j<m->dG all (k+j) ≠ -1/\g (k+j)=false)/\(dG all (k+m) = -1\/(dG all (k+m) ≠ -1/\g (k+m)=true))/\(m=0\/k+m<=all.length):=by
 have⟨m,h1,h2,h3,a⟩:=py (λj=>dG all j == -1||g j) (all.length+1) k;have U:∀j,j<m->dG all (k+j) ≠ -1/\g (k+j)=false:=λj h=>gq
 have b:m=0\/k+m<=all.length:=by
  by_cases f:m=0
  .exact .inl f
  .refine .inr ?_
   have:=(U (m-1) oq).1;by_cases e:all.length<=k+(m-1)
   .exact absurd (GA e) this
   .omega
 have c:m<all.length+1:=oq
 have d:=a c;refine⟨m,h1,U,?_,b⟩;grind
def Bf (all:Iq)(k:Nat):Bq:=bif kS all k [45,45,62] then [45,45,62] else bif kS all k [45,45,33,62] then [45,45,33,62] else []
def ML(c k:Nat)(x:Nq):TL:=[aF c 0,x 1,num k]++fW x 3 52
section
variable {all:Iq}
def oF.open(h:oF rn c s k tx us):∃p q r,Has s c (iN rn k p q r)/\sp s c rn p q r k=s/\∀a,oF rn c (sp s c rn p q r a) a tx us/\ir c s (sp s c rn p q r a):=by obtain⟨e,⟨p,q,r,h1,h2,h3,b⟩,d⟩:=h;exact⟨p,q,r,h1,nQ h1.2,λa=>⟨⟨e,SC.sp h1 h2 h3 b,d.fr ⟨p,q,r,h1,h2,h3,b⟩<|ir.sp h1⟩,ir.sp h1⟩⟩
def oF.oj(h:oF rn c s k tx us)(b:eQ s.nx s s'):oF rn c s' k tx us/\ir c s s':=by have⟨f,h1,d⟩:=h;have⟨e,a⟩:=h1.oj b;exact⟨⟨f,e,d.fr h1 a⟩,a⟩
def oF.ahead(b:JX rn all pr)(h:oF rn c s k tx us)(a:k<=900000):Ef pr 70 #[aF c 0,num 0] s (.int .i32<|dG all k) s:=by have⟨d,h1,_⟩:=h;exact h1.ahead b a
def qE.frS(h:qE rn c s)(b:oF rn c s k tx us)(a:ir c s s'):qE rn c s':=by have⟨d,h1,_⟩:=b;exact h.fr h1 a
def zB(b:∀f,f∈yE->pr f=none)(h:oF rn c s k tx us)(l:tx.length<=1000000)(m:us.length<=900000)(kd:Int)(e d:Bq):∃a,Ef pr 249 #[aF c 0,.agg #[num kd,str e,str d,aX,.bool false]] s (.tuple #[]) a/\oF rn c a k [] (cZ tx us++[⟨kd,e,d,[],false⟩])/\ir c s a:=by have⟨n,h1,i⟩:=h;have⟨a,e1,j,g⟩:=QP b h1 l (by have:=i.1.1;omega) ⟨kd,e,d,aX,false⟩ O O;exact⟨a,e1,⟨_,j,kn.snoc ((i.fr h1 g).oh) ⟨O,O,O,O,.inl ⟨O,O⟩⟩ λb z=>(dT z).elim⟩,g⟩
def FW[C2](l:JY rn all lo wr T W pr)(i:Bv rn all pr)(a:pr 256=none)(h1:Has s c (iN rn k p q r))(u:k<=800000):∃m,Ef pr 256 #[aF c 0] s (str<|Bf all k) m/\eQ s.nx s m:=by
 have⟨e,e1,d⟩:=Ca i l.at (p:=0) (sm:=[45,45,62]) dq dq w2 h1.1 h1.2 O O oq;have h2:=h1.oj d;have⟨b,f,g⟩:=Ca i l.at (p:=0) (sm:=[45,45,33,62]) dq dq w2 h2.1 h2.2 O O oq;have h:=d.trans ⟨g.1,λj t=>g.2 j<|by have:=d.1;omega⟩;unfold Bf;generalize kS all k [45,45,62]=n at *;generalize kS all k [45,45,33,62]=o at *;refine cm a func256 O<|zs<|am<|zs<|aD<|jX ?_;iterate 2 refine zs ?_
 refine am<|aD<|zs<|zr<|zc 2 e1<|aB ?_;cases n with
 | true =>exact zH<|zr<|zf<|za e<|aE ⟨.inr O,kq,d⟩
 | false =>
  refine zF<|cu 5 kq<|za e<|jX ?_;iterate 2 refine zs ?_
  refine am<|aD<|zs<|zr<|zc 2 f<|aB ?_;cases o with
  | true =>exact zH<|zr<|zf<|za b<|aE ⟨.inr O,kq,h⟩
  | false =>exact zF<|cu 5 kq<|za b<|jX<|zs<|am<|zG<|cB<|zs<|za b<|aE ⟨.inr O,kq,h⟩
def Dv (all:Iq)(k:Nat):Nat:=wT all (λj=>!(Bf all j).isEmpty)<|k+2
theorem HZ[C2](A:JY rn all lo wr T W pr)(O:Bv rn all pr)(N:pr 256=none)(X:pr 151=none)(hk:k<=100000)(h:oF rn c s k tx us)(hx:tx.length<=1000000)(R:us.length<=900000) :
  ∃o,Ef pr 151 #[aF c 0] s (.tuple #[]) o/\oF rn c o (Dv all k+(Bf all<|Dv all k).length) [] (cZ tx us++[⟨4,cV all (k+4)<|Dv all k,[],[],false⟩])/\ir c s o:=by
 have a8:=A.h.g.len;have⟨m,F,I,Z,hm4⟩:=ib all (λj=>!(Bf all j).isEmpty)<|k+2;have hkm:k+2+m<=200002:=oq
 unfold Dv;rw[F];clear F;have⟨p,q,r,h1,a9,a6⟩:=h.open;have⟨G,E⟩:=a6<|k+2;refine cm X func151 rfl<|zr<|zg 3 s<|zp (yl c 1 (num k) h1.2)<|zp (yp k 4 ((k+4:Nat):Int) oq oq)<|zf<|za s<|zr<|zg 3 s<|zp (yl c 1 (num k) h1.2)<|zp (yp k 2 ((k+2:Nat):Int) oq oq)<|zg 2 s<|zp (ys c 1 (num ((k+2:Nat):Int)) h1.2 iq)<|aB<|za (sp s c rn p q r<|k+2)<|ea (ML c<|k+4) kq ?_;intro x0;generalize sp s c rn p q r (k+2)=S0 at G E;refine am<|aD<|aN (aZ (Q:=λe B o=>e=.exit 0/\oF rn c o (k+2+m) tx us/\ir c s o/\∃x,B=ML c (k+4) x) (λu B o=>∃j,u+j=m/\oF rn c o (k+2+j) tx us/\ir c s o/\∃x,B=ML c (k+4) x) ?_ m _ _ ⟨0,oq,G,E,x0,rfl⟩) ?_
 .rintro u B S ⟨j,R,w,D,x,rfl⟩;have U:=w.ahead A.h.g oq;have⟨K,L,M,g1,_,_⟩:=w.open;have⟨d,a,y⟩:=FW A O N g1 oq;have⟨f,i⟩:=w.oj y;by_cases hj:j<m
  .have⟨C,z⟩:=I j hj;have z:Bf all (k+2+j)=[]:=gq
   rw[z] at a;generalize dG all (k+2+j)=l at U C;refine am<|zr<|zc 1 U<|zp (yb (.int .i32 l) (.int .i32<|-1)<|dI (b:=true)<|bne_iff_ne.2 C)<|zc 2 a<|zf<|za d<|zT<|aD ?_;have⟨p,q,r,n,_,q3⟩:=f.open;have⟨q4,q5⟩:=q3<|k+2+(j+1);exact zx<|zg 3 d<|zp (yl c 1 (num ((k+2+j:Nat):Int)) n.2)<|zp (yp ((k+2+j:Nat):Int) 1 ((k+2+(j+1):Nat):Int) oq oq)<|zg 2 d<|zp (ys c 1 (num ((k+2+(j+1):Nat):Int)) n.2 iq)<|aB ⟨u-1,oq,j+1,oq,q4,(D.trans i).trans q5,aP kq⟩
  .obtain rfl:j=m:=oq
   rcases Z with e|⟨C,z⟩
   .rw[e] at U;exact am<|zr<|zc 1 U<|zf<|za S<|zG<|cB ⟨rfl,w,D,aP kq⟩
   .have z:Bf all (k+2+j)≠[]:=by simpa using z
    generalize dG all (k+2+j)=l at U C;refine am<|zr<|zc 1 U<|zp (yb (.int .i32 l) (.int .i32<|-1)<|dI (b:=true)<|bne_iff_ne.2 C) ?_;have⟨x1,J,e1⟩:=List.exists_cons_of_ne_nil z;rw[e1] at a;exact zc 2 a<|zp (yb (str (x1::J)) (str [])<|nt (b:=false) rfl)<|zf<|za d<|zG<|cB ⟨rfl,f,D.trans i,aP kq⟩
 rintro e B S ⟨rfl,w,D,x,rfl⟩;have H:=su A.h.g (s:=S) (k:=k+4) (j:=k+2+m) oq;generalize cV all (k+4) (k+2+m)=t at H |-;have⟨p,q,r,n,_,_⟩:=w.open;have⟨d,a,y⟩:=FW A O N n oq;have⟨f,i⟩:=w.oj y;have O3:(Bf all<|k+2+m).length<=4:=by unfold Bf;cases kS all (k+2+m) [45,45,62]<;>cases kS all (k+2+m) [45,45,33,62]<;>decide
 generalize Bf all (k+2+m)=v at *;have⟨K,L,M,g1,_,g3⟩:=f.open;have⟨g4,g5⟩:=g3<|k+2+m+v.length;have J:bA prog 84 (aF c 0) S=some (aF rn 0):=N9 84 n.2 (off:=0) rfl;have V:bA prog 3 (aF c 1) S=some (num ((k+2+m:Nat):Int)):=N9 3 n.2 (off:=1) rfl;have l3:bA prog 3 (aF c 1) d=some (num ((k+2+m:Nat):Int)):=N9 3 g1.2 (off:=1) rfl;refine am<|bO kq kq kq<|zq<|zq<|zq<|zt S<|zu (yl c 0 (aF rn 0) n.2)<|zq<|zq<|zq<|zq<|zt S<|zu (yl c 1 (num ((k+2+m:Nat):Int)) n.2)<|yt H<|zq<|cg ⟨Dz<|o9 J V,_,_,_,_,_,_,rfl,rfl,za S<|am<|bO kq kq kq (zq<|zq<|zq (zt S<|zu (yl c 1 (num ((k+2+m:Nat):Int)) n.2)<|zq<|yt a<|zu (di (l:=v) rfl underlying9 kq)<|zu (yp ((k+2+m:Nat):Int) (v.length:Int) ((k+2+m+v.length:Nat):Int) oq oq) (zq<|zq (zt d<|zu (ys c 1 (num ((k+2+m+v.length:Nat):Int)) g1.2 iq)<|cg ⟨Dz<|o9 V l3,_,_,_,_,_,_,rfl,rfl,za (sp d c rn K L M<|k+2+m+v.length) ?_⟩))))⟩;generalize sp d c rn K L M (k+2+m+v.length)=S3 at g4 g5;have⟨S4,ha,a7,Y⟩:=zB A.h.g.no g4 hx R 4 t [];exact zx<|zc 3 ha<|aB ⟨.inl rfl,kq,a7,((D.trans i).trans g5).trans Y⟩
section
variable (hp:JY rn all lo wr T W pr)
def EM[C2](a:pr 154=none){F:Nat}(e:Has s B (vC c))(i:(F=153/\w=2)\/(F=155/\w=1)\/(F=255/\w=2))(d:pr F=none)(j:k<=100000)(h:oF rn c s k tx us)(m:tx.length<=1000000)(l:us.length<=900000) :
  ∃b,Ef pr F #[aF B 0] s (.tuple #[]) b/\oF rn c b (gR all [62] (k+w)+1) [] (cZ tx us++[⟨4,cV all (k+w)<|gR all [62]<|k+w,[],[],false⟩])/\ir c s b:=by
 have⟨b,e1,f,g⟩:∃i,Ef pr 154 #[aF c 0,num w] s (.tuple #[]) i/\oF rn c i (gR all [62] (k+w)+1) [] (cZ tx us++[⟨4,cV all (k+w)<|gR all [62]<|k+w,[],[],false⟩])/\ir c s i:=by have A:=hp.h.g.len;have⟨p,q,r,h1,C,e⟩:=h.open;have b:=Hu (s:=s) (c:=c) (p:=p) (q:=q) (r:=r) hp.h.g (b0:=62) dq (k:=k+w) oq;have⟨g1,g2⟩:=e<|gR all [62] (k+w)+1;generalize cV all (k+w) _=t at b |-;generalize gR all [62] (k+w)+1=u at *;have⟨y,z,f,d⟩:=zB hp.h.g.no g1 m l 4 t [];refine cm a func154 O<|zr<|zg 3 s<|zp (yl c 1 (num k) h1.2)<|zk 1<|zp (yp k (w:Nat) (k+w:Nat) oq oq)<|zg 2 s<|zp (ys c 1 (num (k+w:Nat)) h1.2 iq)<|aB<|za (sp s c rn p q r<|k+w) ?_;exact zx<|zc 2 b<|zc 1 z<|aB ⟨.inl O,kq,f,g2.trans d⟩
 refine⟨b,?_,f,g⟩;rcases i with ⟨rfl,rfl⟩|⟨rfl,rfl⟩|⟨rfl,rfl⟩
 .exact aQ d func153 O<|zx<|zp (yl B 0 _ e.2)<|zc 0 e1<|aB ⟨.inl O,kq,O⟩
 .exact aQ d func155 O<|zx<|zp (yl B 0 _ e.2)<|zc 0 e1<|aB ⟨.inl O,kq,O⟩
 .exact aQ d func255 O<|zx<|zp (yl B 0 _ e.2)<|zc 0 e1<|aB ⟨.inl O,kq,O⟩
end
def G4:mA all stops k<=max k all.length:=by
 by_cases h:k<=all.length
 .have:=vn (stops:=stops) h;omega
 .unfold mA;rw[Sm oq];simp;omega
def vt:gR all stops k<=max k all.length:=by
 by_cases h:k<=all.length
 .have:=nX (stops:=stops) h;omega
 .unfold gR;rw[Sm oq];simp;omega
def F8 (all:Iq)(k:Nat):Nat:=mA all aK<|k+9
def Bg (all:Iq)(k:Nat):Nat:=gR all (aK++[62])<|F8 all k
def H8[C2](a:JY rn all lo wr T W pr)(d:pr 152=none)(I:k<=100000)(u:T (cV all (F8 all k)<|Bg all k))(h:oF rn c s k tx us)(z:tx.length<=1000000)(y:us.length<=900000) :
  ∃o,Ef pr 152 #[aF c 0] s (.tuple #[]) o/\oF rn c o (gR all [62] (Bg all k)+1) [] (cZ tx us++[⟨5,[],lo<|cV all (F8 all k)<|Bg all k,[],false⟩])/\ir c s o:=by have w:=a.h.g.len;have⟨p,q,r,h1,x,m⟩:=h.open;have G:F8 all k<=max (k+9) all.length:=G4;have H:Bg all k<=max (F8 all k) all.length:=vt;have e:=Fc (s:=s) (c:=c) (p:=p) (q:=q) (r:=r) a.h.g (k:=k+9) oq;have i:=NN (s:=s) (c:=c) (p:=p) (q:=q) (r:=r) a.h.g (stops:=aK++[62]) (by intro b h;simp at h;rcases h with rfl|rfl|rfl|rfl|rfl|rfl<;>decide) (k:=F8 all k) oq;have f:=Hu (s:=s) (c:=c) (p:=p) (q:=q) (r:=r) a.h.g (b0:=62) dq (k:=Bg all k) oq;have l:=a.h.low (sp s c rn p q r<|Bg all k) _ u;have⟨g1,g2⟩:=m<|gR all [62] (Bg all k)+1;generalize gR all [62] (Bg all k)+1=A at *;generalize lo _=B at *;have⟨E,v,n,j⟩:=zB a.h.g.no g1 z y 5 [] B;refine cm d func152 O<|zr<|zg 3 s<|zp (yl c 1 (num k) h1.2)<|zp (yp k 9 ((k+9:Nat):Int) oq oq)<|zg 2 s<|zp (ys c 1 (num ((k+9:Nat):Int)) h1.2 iq)<|aB<|za (sp s c rn p q r<|k+9) ?_;generalize sp s c rn p q r (Bg all k)=t at *;exact zr<|zc 1 e<|aB<|zr<|zc 1 i<|zc 0 l<|zf<|za t<|zr<|zc 1 f<|aB<|zx<|zc 3 v<|aB ⟨.inl O,kq,n,g2.trans j⟩
end
def qK (all:Iq)(nm:Bq)(k:Nat):Nat:=wT all (λj=>Eg all j nm) k
def xr (all:Iq)(wr:Bq->Int->Bq)(nm:Bq)(k:Nat):Bq:=bif ff nm dW then wr (cV all k<|qK all nm k) 0 else cV all k (qK all nm k)
section
variable {all:Iq}
def Cj:k<=qK all nm k/\qK all nm k<=max k all.length:=by have⟨m,h1,_,_,a⟩:=ib all (λj=>Eg all j nm) k;unfold qK;omega
section
variable (hp:JY rn all lo wr T W pr)
def Pg[C2][C3](hT:Bv rn all pr)(F:pr 327=none)(V:(ff nm qR||ff nm dW)=true)(hk:k<=120000)(Z:ff nm dW=true->W (cV all k<|qK all nm k) 0)(h:oF rn c s k tx us)(he:qE rn c s)(hl:tx.length+(xr all wr nm k).length<=1000000) :
  ∃z,Ef pr 252 #[aF c 0,str nm] s (.tuple #[]) z/\oF rn c z (qK all nm k) (tx++xr all wr nm k) us/\ir c s z:=by
 have Yk:=hp.h.g.len;have⟨ha,V,hz⟩:(∀b∈nm,b.toNat<128)/\nm.length<14/\gi nm=0:=by rw[FM] at V;simp only[ff,List.any_cons,List.any_nil,FM,Bool.or_false] at V;rcases V with (V|V)|(V|V)<;>(have:=(eS _ _).1 V;subst this;decide)
 have⟨m,I,M,H,hm4⟩:=ib all (λj=>Eg all j nm) k;change qK all nm k=k+m at I;unfold xr at *;rw[I] at Z hl |-;have hm:k+m<=150000:=oq
 have⟨ts,h,T⟩:=h;have O:=h;have⟨p,q,r,h1,_⟩:=O;refine cm (hp.h.g.no 252 dq) func252 rfl<|zr<|zg 3 s<|zp (yl c 1 (num k) h1.2)<|zf<|za s<|ea (Fg c nm k) kq ?_;intro x0;refine am<|aD ?_;clear h1;refine aN (aZ (Q:=λe E z=>e=.exit 0/\SC rn c z (k+m) tx ts/\ir c s z/\∃x,E=Fg c nm k x) (λu E z=>∃j,u+j=m/\SC rn c z (k+j) tx ts/\ir c s z/\∃x,E=Fg c nm k x) ?_ m _ _ ⟨0,oq,h,ir.refl s,x0,rfl⟩) ?_
 .rintro u E S ⟨j,hu,n,A,x,rfl⟩;have d:=n.ahead hp.h.g oq;have⟨C,o,a,f⟩:=Sx hp hT F ha V hz oq n;by_cases hj:j<m
  .have⟨i,L⟩:=M j hj;rw[L] at o;generalize dG all (k+j)=l at d i;refine am<|zr<|zc 1 d<|zp (yb (.int .i32 l) (.int .i32<|-1)<|dI (b:=true)<|bne_iff_ne.2 i)<|zc 3 o<|zf<|za C<|zT<|aD ?_;have⟨p,q,r,y,q2,q3,q4⟩:=a;exact zx<|zg 3 C<|zp (yl c 1 (num ((k+j:Nat):Int)) y.2)<|zp (yp ((k+j:Nat):Int) 1 ((k+(j+1):Nat):Int) oq oq)<|zg 2 C<|zp (ys c 1 _ y.2 iq)<|aB ⟨u-1,oq,j+1,oq,SC.sp y q2 q3 q4,(A.trans f).trans<|ir.sp y,aP kq⟩
  .obtain rfl:j=m:=oq
   rcases H with e|⟨i,L⟩
   .rw[e] at d;exact am<|zr<|zc 1 d<|zf<|za S<|zG<|cB ⟨rfl,n,A,aP kq⟩
   .rw[L] at o;generalize dG all (k+j)=l at d i;exact am<|zr<|zc 1 d<|zp (yb (.int .i32 l) (.int .i32<|-1)<|dI (b:=true)<|bne_iff_ne.2 i)<|zc 3 o<|zf<|za C<|zG<|cB ⟨rfl,a,A.trans f,aP kq⟩
 rintro e E S ⟨rfl,n,A,x,rfl⟩;have U:=su hp.h.g (s:=S) (k:=k) (j:=k+m) oq;have R:=T.fr h A;have X:=n.add<|.cells (dW.map str).toArray 9;have J:=ir.add n<|.cells (dW.map str).toArray 9;have b3:=R.fr n J;have N:=GS (pr:=pr) (s:=S) hp.PN hp.TN nm;have G:=(he.fr h A).fr n J;have K:=n;generalize S.add _=D at *;generalize cV all k (k+m)=t at *;have⟨v,C,B,a,f⟩:=Dq (pr:=pr) (hp.h.g.no 261 dq) (hp.h.g.no 156 dq) X hl;have Y:=b3.fr X f;have⟨p,q,r,y,_⟩:=K;have l1:=N9 84 y.2 (off:=0) rfl;have l2:=N9 3 y.2 (off:=1) rfl;refine am<|bO kq kq kq<|zq<|zq<|zq<|zt S<|zu (yl c 0 (aF rn 0) y.2)<|zq<|zq<|zq<|zq<|zt S<|zu (yl c 1 (num ((k+m:Nat):Int)) y.2)<|yt U<|zq<|cg ⟨Dz<|o9 l1 l2,_,_,_,_,_,_,rfl,rfl,za S<|am<|zr<|zc 1 N<|aB<|za D ?_⟩;generalize ff nm dW=b at *;cases b with
 | true =>have hw:=hp.h.YK D _ 0 (Z rfl) G.1.2 G.2.1;change EF _ _ _ _ #[_,str<|wr t 0] _ _ _ at B;change SC rn c C _ (tx++wr t 0) _ at a;generalize wr t 0=w at *;exact zH<|zx<|zc 1 hw<|zf<|za D<|zx<|zk 4<|zo D<|zc 0 B<|aB ⟨.inl rfl,kq,⟨_,a,Y⟩,(A.trans J).trans f⟩
 | false =>exact zF<|zx<|zk 4<|zo D<|zc 0 B<|aB ⟨.inl rfl,kq,⟨_,a,Y⟩,(A.trans J).trans f⟩
def P9[C2](hk:k+1<=all.length)(hT:T (cV all (k+1)<|gR all bE<|k+1))(U:lo (cV all (k+1)<|gR all bE<|k+1)=nm)(G:ou all lo wr n (gR all bE<|k+1) []=some (dE,cl,wh,k'))(V:uj all lo wr T W n (gR all bE<|k+1))(h:oF rn c s k tx us)(he:qE rn c s)(hx:tx.length<=500000)(hu:us.length<=500000)(m:wh=true->(ff nm qR||ff nm dW)=true->∀S vs,oF rn c S k' [] vs->qE rn c S->∃O,Ef pr 252 #[aF c 0,str nm] S (.tuple #[]) O/\oF rn c O k2 tx2 vs/\ir c S O) :
  ∃Y,Ef pr 148 #[aF c 0] s (.tuple #[]) Y/\oF rn c Y (bif wh&&(ff nm qR||ff nm dW) then k2 else k') (bif wh then (bif ff nm qR||ff nm dW then tx2 else []) else tx) (bif wh then cZ tx us++[⟨2,[],nm,dE,cl⟩] else us)/\ir c s Y:=by
 have Yk:=hp.h.g.len;have⟨f,av,M,⟨ts,P1,Z,iX⟩,m2,X,N,Ym⟩:=Nl hp hk hT G V h he;obtain⟨ts0,⟨p0,q0,r0,h1,_⟩,_⟩:=h;rw[h1.2] at M;rw[U] at M;obtain⟨j,i,rfl⟩:=X.len;obtain⟨a,l⟩:∃a,a=if wh=true then nm else []:=⟨_,rfl⟩;rw[<-l] at M;have o:=P1.add<|jV a (.slice j dE.length i) cl;have y:=bw f<|jV a (.slice j dE.length i) cl;have p:=ir.add P1<|jV a (.slice j dE.length i) cl;have J:=Z.fr P1 p;have P:fw (f.add<|jV a (.slice j dE.length i) cl) (.slice j dE.length i) dE:=X.fk ((bC f).add _) λ_ _=>id;have hZ:=bw f<|jV [] aX false;have E:(f.add<|jV [] aX false).set f.nx _=f.add _:=AS.set_set (⟨f.hp,f.nx+1⟩:AS) f.nx (some<|jV [] aX false)<|some<|jV a (.slice j dE.length i) cl;generalize f.add _=B at o y p J P E;have v:=X.qz;have⟨H,F,C,q⟩:=QP hp.h.g.no o oq (by have:=J.1.1;omega) ⟨2,[],a,(.slice j dE.length i),cl⟩ v.2.2.1 v.2.1;have c3:=y.fr q.1<|o.no y dq dq dq;have c4:kn c H (oh tx ts++[⟨2,[],a,(.slice j dE.length i),cl⟩]) (cZ tx us++[⟨2,[],a,dE,cl⟩]):=by
  refine kn.snoc ((J.fr o q).oh) ⟨rfl,rfl,rfl,rfl,P.fk q.1 λb z=>?_⟩ λb z=>⟨by have:=Ym b z;have:=h1.1;omega,λx hx zz=>by
   have:=Ym b z;rcases KP hx with hx|hx
   .have:=iX x hx b zz;omega
   .rw[hx] at zz;exact dT zz⟩
  rcases P with ⟨e,_⟩|⟨d,i,fz,e,q1,q2⟩
  .rw[e] at z;exact(dT z).elim
  .rw[e] at z;rw[dz z];exact o.no (⟨q1,q2⟩:Has B d _) dq dq dq
 have u:Ef pr 250 #[str a] H (.bool<|ff a qR) (H.add<|.cells (qR.map str).toArray 9):=by have b:=Ls (s:=H.add<|.cells (qR.map str).toArray 9) hp.PN (nm:=a) (c:=2) (bw H _).2 dq O;generalize ff a qR=bb at b |-;exact aQ hp.Xa func250 O<|zs<|zr<|zc 2 b<|zf yR
 have A:=C.add<|.cells (qR.map str).toArray 9;have r:=ir.add C<|.cells (qR.map str).toArray 9;have Q:=c4.fr C r;have L:=c3.add<|.cells (qR.map str).toArray 9;generalize H.add _=x at u A r Q L;have t:=GS (pr:=pr) (s:=x) hp.PN hp.TN a;have e1:=A.add<|.cells (dW.map str).toArray 9;have D:=ir.add A<|.cells (dW.map str).toArray 9;have R:=Q.fr A D;have e4:=L.add<|.cells (dW.map str).toArray 9;generalize x.add _=I at t e1 D R e4;refine cm (hp.h.g.no 148 dq) func148 rfl<|zr<|zg 3 s<|zp (yl c 1 (num k) h1.2)<|zp (yp k 1 ((k+1:Nat):Int) oq oq)<|zg 2 s<|zp (ys c 1 (num ((k+1:Nat):Int)) h1.2 iq)<|aB<|zr<|zc 1 M<|zg 4 (f.add<|jV [] aX false)<|zp (eA (b:=f.nx) (off:=0) (w:=.agg #[str a,(.slice j dE.length i),.bool cl]) rfl kq kq rfl (by show((str a).oneCell'&&((Value.slice j dE.length i).oneCell'&&((Value.bool cl).oneCell'&&true)))=true;rw[v.2.2.1];rfl) kq hZ.2 iq)<|zf<|za ((f.add<|jV [] aX false).set f.nx<|some<|jV a (.slice j dE.length i) cl) ?_;rw[E];refine am<|zs<|za B ?_;cases wh with
 | false =>exact zH<|aE ⟨.inr rfl,kq,⟨_,o,J⟩,N.trans p⟩
 | true =>
  rw[ip rfl] at l;subst l;refine zF<|zr<|zg 2 B<|zp (yl f.nx 0 (str a) y.2)<|zg 1 B<|zp (yl f.nx 1 (.slice j dE.length i) y.2)<|zg 1 B<|zp (yl f.nx 2 (.bool cl) y.2)<|zc 1 F<|aB<|zr<|zg 1 H<|zp (yl f.nx 0 (str a) c3.2) ?_;have m:=m rfl;generalize ff a qR=br at *;cases br with
  | true =>obtain⟨S6,w1,w2,w3⟩:=m rfl x _ ⟨_,A,Q⟩<|((m2.fr P1 p).fr o q).fr C r;exact zc 0 u<|zf<|za x<|zH<|zx<|zg 2 x<|zp (yl f.nx 0 (str a) L.2)<|zc 0 w1<|aB ⟨.inl rfl,kq,w2,(((N.trans p).trans q).trans r).trans w3⟩
  | false =>
   refine zc 0 u<|zg 2 x<|zp (yl f.nx 0 (str a) L.2) ?_;generalize ff a dW=bp at *;cases bp with
   | false =>exact zc 0 t<|zf<|za I<|zF ⟨.inl rfl,kq,⟨_,e1,R⟩,(((N.trans p).trans q).trans r).trans D⟩
   | true =>obtain⟨S6,w1,w2,w3⟩:=m rfl I _ ⟨_,e1,R⟩<|(((m2.fr P1 p).fr o q).fr C r).fr A D;exact zc 0 t<|zf<|za I<|zH<|zx<|zg 2 I<|zp (yl f.nx 0 (str a) e4.2)<|zc 0 w1<|aB ⟨.inl rfl,kq,w2,((((N.trans p).trans q).trans r).trans D).trans w3⟩
def VY[C2](H:k+2<=all.length)(D:T (cV all (k+2)<|gR all bE<|k+2))(t:lo (cV all (k+2)<|gR all bE<|k+2)=nm)(l:ou all lo wr n (gR all bE<|k+2) []=some (dE,cl,wh,k'))(u:uj all lo wr T W n (gR all bE<|k+2))(h:oF rn c s k tx us)(G:qE rn c s)(O:tx.length<=500000)(N:us.length<=500000) :
  ∃x,Ef pr 253 #[aF c 0] s (.tuple #[]) x/\oF rn c x k' (bif wh then [] else tx) (bif wh then cZ tx us++[⟨3,[],nm,[],false⟩] else us)/\ir c s x:=by
 have F:=hp.h.g.len;have⟨d,e,o,⟨K,P1,y,_⟩,P,J,A,_⟩:=Nl hp H D l u h G;obtain⟨L,⟨Q,R,S,h1,_⟩,_⟩:=h;rw[h1.2] at o;rw[t] at o;obtain⟨a,f⟩:∃a,a=if wh=true then nm else []:=⟨_,Y⟩;rw[<-f] at o;have q:=P1.add<|jV a e cl;have z:=bw d<|jV a e cl;have m:=ir.add P1<|jV a e cl;have r:=y.fr P1 m;have i:(d.add<|jV [] aX false).set d.nx _=d.add (jV a e cl):=AS.set_set (⟨d.hp,d.nx+1⟩:AS) d.nx _<|some<|jV a e cl;generalize d.add (jV a e cl)=p at q z m r i;have v:=J.qz;have⟨M,j,B,C⟩:=zB hp.h.g.no (⟨_,q,r⟩) oq oq 3 [] a;refine cm (hp.h.g.no 253 dq) func253 Y<|zr<|zg 3 s<|zp (yl c 1 (num k) h1.2)<|zp (yp k 2 ((k+2:Nat):Int) oq oq)<|zg 2 s<|zp (ys c 1 (num ((k+2:Nat):Int)) h1.2 iq)<|aB<|zr<|zc 1 o<|zg 4 _<|zp (eA (off:=0) (w:=.agg #[str a,e,.bool cl]) Y kq kq Y (by show((str a).oneCell'&&(e.oneCell'&&((Value.bool cl).oneCell'&&true)))=true;rw[v.2.2.1];rfl) kq (bw d<|jV [] aX false).2 iq)<|zf<|za ((d.add<|jV [] aX false).set d.nx<|some<|jV a e cl) ?_;rw[i];refine zs<|za p ?_;cases wh with
 | false =>exact zF ⟨.inl Y,kq,⟨_,q,r⟩,A.trans m⟩
 | true =>rw[ip Y] at f;subst f;exact zH<|zx<|zg 2 p<|zp (yl d.nx 0 (str a) z.2)<|zc 1 j<|aB ⟨.inl Y,kq,B,(A.trans m).trans C⟩
end
end
def Jy (all:Iq)(k:Nat):Nat:=wT all (λj=>mI all j != 0) k
theorem JU.some{c:Nat}{v:Value}(h:JU s c n v)(b:(n != 0)=true):∃f a U,v=.func (.func f) a U:=by unfold JU at h;grind
section
variable {all:Iq}
def Qv:k<=Jy all k/\Jy all k<=max k all.length:=by have⟨m,h1,_,_,a⟩:=ib all (λj=>mI all j != 0) k;unfold Jy;omega
theorem Qx(o:JY rn all lo wr T W pr)(X:Bv rn all pr)(hk:k<=120000)(N:W (cV all k<|Jy all k) 0)(h:oF rn c s k tx us)(Y:qE rn c s)(O:tx.length+(wr (cV all k<|Jy all k) 0).length<=1000000) :
  ∃n,Ef pr 72 #[aF c 0] s (.tuple #[]) n/\oF rn c n (Jy all k) (tx++wr (cV all k<|Jy all k) 0) us/\ir c s n:=by
 have a3:=o.h.g.len;have⟨m,F,J,R,hm4⟩:=ib all (λj=>mI all j != 0) k;change Jy all k=k+m at F;rw[F] at N O |-;have hm:k+m<=150000:=oq
 have⟨p,q,r,h1,_⟩:=h.open;refine cm (o.h.g.no 72 dq) func72 rfl<|zr<|zg 3 s<|zp (yl c 1 (num k) h1.2)<|zf<|za s<|ea (MY c k) kq ?_;intro x0;refine am<|aD ?_;clear h1;refine aN (aZ (Q:=λe B n=>e=.exit 0/\oF rn c n (k+m) tx us/\ir c s n/\∃x,B=MY c k x) (λu B n=>∃j,u+j=m/\oF rn c n (k+j) tx us/\ir c s n/\∃x,B=MY c k x) ?_ m _ _ ⟨0,oq,h,ir.refl s,x0,rfl⟩) ?_
 .rintro u B S ⟨j,hu,d,z,x,rfl⟩;have U:=d.ahead o.h.g oq;have⟨p,q,r,g1,_⟩:=d.open;have⟨v,A,D,L,I⟩:=QS o X g1 oq;have⟨i,a⟩:=d.oj I;by_cases Z:j<m
  .have⟨C,G⟩:=J j Z;have G:mI all (k+j)=0:=gq
   rw[G] at L;cases L;generalize dG all (k+j)=l at U C;have⟨p,q,r,y,_,q3⟩:=i.open;have⟨q4,q5⟩:=q3<|k+(j+1);exact am<|zr<|zc 1 U<|zp (yb (.int .i32 l) (.int .i32<|-1)<|dI (b:=true)<|bne_iff_ne.2 C)<|zc 2 D<|zf<|za A<|zT<|aD<|zx<|zg 3 A<|zp (yl c 1 _ y.2)<|zp (yp ((k+j:Nat):Int) 1 ((k+(j+1):Nat):Int) oq oq)<|zg 2 A<|zp (ys c 1 _ y.2 iq)<|aB ⟨u-1,oq,j+1,oq,q4,(z.trans a).trans q5,aP kq⟩
  .obtain rfl:j=m:=oq
   rcases R with e|⟨C,G⟩
   .rw[e] at U;exact am<|zr<|zc 1 U<|zf<|za S<|zG<|cB ⟨rfl,d,z,aP kq⟩
   .obtain⟨f,fi,ca,rfl⟩:=L.some G;generalize dG all (k+j)=l at U C;exact am<|zr<|zc 1 U<|zp (yb (.int .i32 l) (.int .i32<|-1)<|dI (b:=true)<|bne_iff_ne.2 C)<|zc 2 D<|zf<|za A<|zG<|cB ⟨rfl,i,z.trans a,aP kq⟩
 rintro e B S ⟨rfl,d,z,x,rfl⟩;have K:=su o.h.g (s:=S) (k:=k) (j:=k+m) oq;have E:=Y.frS h z;have hw:=o.h.YK S _ 0 N E.1.2 E.2.1;have⟨ts,d,V⟩:=d;have⟨v,A,M,i,a⟩:=Dq (pr:=pr) (o.h.g.no 261 dq) (o.h.g.no 156 dq) d O;have H:=V.fr d a;generalize wr (cV all k<|k+m) 0=w at *;generalize cV all k (k+m)=t at *;have⟨p,q,r,y,_⟩:=d;have l1:=N9 84 y.2 (off:=0) rfl;have l2:=N9 3 y.2 (off:=1) rfl;exact bO kq kq kq<|zq<|zq<|zq<|zq<|zq<|zq<|zt S<|zu (yl c 0 (aF rn 0) y.2)<|zq<|zq<|zq<|zq<|zt S<|zu (yl c 1 (num ((k+m:Nat):Int)) y.2)<|yt K<|yt hw<|yt M<|cg ⟨Dz<|o9 l1 l2,_,_,_,_,_,_,rfl,rfl,⟨.inl rfl,kq,⟨_,i,H⟩,z.trans a⟩⟩
def QN(pr:Prim)(rn c:Nat)(all:Iq)(x y:St):Prop:=dG all x.k ≠ -1/\∀s,Vu rn c s x->qE rn c s ->
 (∃f e d b a,EF prog kJ pr 71 #[aF c 0] s (.func (.func f) e d) b/\EF prog kJ pr f (e++d) b (.tuple #[]) a/\Vu rn c a y/\ir c s a) \/
 (∃b a,EF prog kJ pr 71 #[aF c 0] s .nilFunc b/\EF prog kJ pr 72 #[aF c 0] b (.tuple #[]) a/\Vu rn c a y/\ir c s a)
theorem aao(T:JX rn all pr){st:Nat->St}(h0:st 0=⟨0,[],[]⟩)(aa:∀i,i<n->QN pr rn s.nx all (st i) (st<|i+1))(a7:dG all (st n).k = -1)(D:∀i,i<=n->(st i).k<=150000/\(st i).tx.length<=500000/\(st i).us.length<=500000)(h1:Has s 1 (.cells eZ.toArray 335))(hr:rn<s.nx) :
  ∃y v o,Ef pr 40 #[aF rn 0] s v y/\jl y v o/\kn s.nx y o (cZ (st n).tx (st n).us)/\fp (λ_=>False) s y/\(∀b,blk v b->s.nx<b):=by
 suffices h:Ew pr (match f40.body with|some c=>c|none=>.skip) ((#[aF rn 0]:Aq).toList++List.replicate (f40.ntmps-(#[aF rn 0]:Aq).toList.length) undef) s (λe U a=>(e=.normal\/e=.ret)/\∃v o,cN prog f40 U a=some v/\jl a v o/\kn s.nx a o (cZ (st n).tx (st n).us)/\fp (λ_=>False) s a/\(∀b,blk v b->s.nx<b)) by have⟨m,e,U,a,h1,P,v,o,h2,h3⟩:=h;exact⟨a,v,o,aQ (T.no 40 dq) func40 rfl ⟨m,e,U,a,h1,P,h2,rfl⟩,h3⟩
 have J:=bw s<|iN rn 0 (.pointer none) aX aX;have L:SC rn s.nx (s.add<|iN rn 0 (.pointer none) aX aX) 0 [] []:=⟨_,_,_,J,.inl rfl,.inl ⟨rfl,rfl⟩,.inl ⟨rfl,rfl⟩⟩;have X:qE rn s.nx (s.add<|iN rn 0 (.pointer none) aX aX):=⟨h1.add _,by simp;omega,by have:=h1.1;omega⟩;have Y:=(bC (K:=λ_=>False) s).add<|iN rn 0 (.pointer none) aX aX;have O:(s.add<|.cells _ 121).set s.nx _=s.add _:=AS.set_set (⟨s.hp,s.nx+1⟩:AS) s.nx (some<|.cells #[.pointer none,num 0,.pointer none,aX,aX] 121)<|some<|iN rn 0 (.pointer none) aX aX;have a9:(s.add<|iN rn 0 (.pointer none) aX aX).nx=s.nx+1:=rfl;have W:∀b,b<s.nx->¬KS s.nx _ b:=λb D z=>by
  rcases(kl J.2).1 z with z|z|z
  .omega
  iterate 2
   .exact dT z
 refine zs<|zr<|zg 3 _<|zp (eA (b:=s.nx) (off:=0) (w:=.agg #[aF rn 0,num 0,.pointer none,aX,aX]) rfl kq kq rfl rfl kq (bw s<|.cells #[.pointer none,num 0,.pointer none,aX,aX] 121).2 iq)<|aB<|za ((s.add<|.cells #[.pointer none,num 0,.pointer none,aX,aX] 121).set s.nx<|some<|iN rn 0 (.pointer none) aX aX) ?_;rw[O];generalize s.add (iN rn 0 (.pointer none) aX aX)=H at L X Y a9 W J |-;refine ea (Uo rn s.nx) kq ?_;intro x0;refine am<|aD<|aN (aZ (Q:=λe U y=>e=.exit 0/\Vu rn s.nx y (st n)/\ir s.nx H y/\∃x,U=Uo rn s.nx x) (λu U y=>∃j,u+j=n/\Vu rn s.nx y (st j)/\ir s.nx H y/\∃x,U=Uo rn s.nx x) ?_ n _ _ ⟨0,oq,by rw[h0];exact⟨[],L,⟨rfl,λi t u h=>by simp at h⟩,λt h=>by simp at h,λi j t x b h=>by simp at h⟩,ir.refl H,x0,rfl⟩) ?_
 .rintro u U S ⟨j,hu,⟨o,A,C⟩,B,x,rfl⟩;have hbj:=D j oq;have d:=A.ahead T oq;by_cases hj:j<n
  .have⟨I,a4⟩:=aa j hj;have P:=X.fr L B;have G:=a4 S ⟨o,A,C⟩ P;generalize dG all (st j).k=l at d I;rcases G with ⟨f,fi,ca,a,s2,g1,g2,g3,g4⟩|⟨a,s2,g1,g2,g3,g4⟩
   .exact am<|zr<|zc 0 d<|zp (yb (.int .i32 l) (.int .i32<|-1)<|dI (b:=true)<|bne_iff_ne.2 I)<|aB<|za S<|zT<|aD<|zr<|zc 0 g1<|zf<|za a<|zs<|za a<|zH<|zx<|zg 1 a<|EO.call (f:=.tmp 12) (g:=f) (first:=fi) (cap:=ca) (args:=fi++ca) kq rfl rfl kq kq iq g2<|aB ⟨u-1,oq,j+1,oq,g3,B.trans g4,aP kq⟩
   .exact am<|zr<|zc 0 d<|zp (yb (.int .i32 l) (.int .i32<|-1)<|dI (b:=true)<|bne_iff_ne.2 I)<|aB<|za S<|zT<|aD<|zr<|zc 0 g1<|zf<|za a<|zs<|za a<|zG<|zx<|zc 0 g2<|aB ⟨u-1,oq,j+1,oq,g3,B.trans g4,aP kq⟩
  .obtain rfl:j=n:=oq
   rw[a7] at d;exact am<|zr<|zc 0 d<|zf<|za S<|zG<|cB ⟨rfl,⟨o,A,C⟩,B,aP kq⟩
 rintro e U S ⟨rfl,⟨o,A,C⟩,B,x,rfl⟩;have Yl:=D n<|l8 n;have⟨S2,hE,N,E⟩:=ya T.no A oq (by have:=C.1.1;omega);have F:=B.trans E;have⟨p,q,r,V,q2,q3,q4⟩:=N;refine zr<|zc 0 hE<|aB<|zr<|zg 1 S2<|zp (yl s.nx 4 r V.2)<|zf<|aE ⟨.inr rfl,r,_,kq,q4,((C.fr A E).oh (tx:=(st n).tx)),Y.trans F.1 λb D z=>W b D z,λb z=>?_⟩;by_cases R:b<H.nx
 .have:=F.2 b R<|(kl V.2).2<|.inr<|.inr z;by_cases ZS:b<s.nx
  .grind
  .have⟨_,_,w⟩:=q4.blk z;have Z:b≠s.nx:=w.ne V dq;omega
 .omega
end
section
variable {all:Iq}
theorem y5:∀(n k:Nat) (dE:jE),k<=all.length+1->all.length+2-k<=n->∃a c d b,ou all lo wr n k dE=some (a,c,d,b)/\b<=all.length+1/\k<=b
 | 0,k,dE,h1,h2=>oq
 | n+1,k,dE,h1,h2=>by
  have hs:=G3 (stops:=bL) h1;unfold ou;split
  .grind
  .next g =>
   have f:=jw g;split
   .grind
   .have U:=xM (lo:=lo) (wr:=wr) f;have⟨a,c,d,b,e,h3,h⟩:=y5 n (jF all lo wr<|mA all bL k).2 (jH dE (jF all lo wr<|mA all bL k).1) U.2 oq;grind
def NR(k:Nat):∃i j,(kH all k).1=cV all i j:=by
 unfold kH;split
 .exact⟨_,_,O⟩
 .split<;>exact⟨_,_,O⟩
structure Hy(all:Iq)(wr:Bq->Int->Bq)(T:Bq->Prop)(W:Bq->Int->Prop):Prop where
 t:∀k i j,dG all k=60->k<i->T (cV all i j)
 w:∀i j n,W (cV all i j) n
 l:∀i j n,(wr (cV all i j) n).length<=4*(cV all i j).length
theorem wK(st:Bq)(k:Nat):k<=mA all st k:=Nat.le_add_right ..
theorem ud(st:Bq)(k:Nat):k<=gR all st k:=Nat.le_add_right ..
theorem Qr(k:Nat):k<=(kH all k).2:=by
 have a:=ud (all:=all) [34] (k+1);have b:=ud (all:=all) [39] (k+1);have c:=ud (all:=all) (aK++[62]) k;unfold kH;split
 .simp only;omega
 .split
  .simp only;omega
  .exact c
theorem Ka(k:Nat):k<=(jF all lo wr k).2:=by
 have a:k<=nk all k:=by unfold nk;have:=ud (all:=all) cz (k+1);omega
 have b:nk all k<=xK all k:=wK _ _
 have c:xK all k<=uX all k:=by unfold uX;have:=wK (all:=all) aK (xK all k+1);omega
 have d:=Qr (all:=all) (uX all k)
 unfold jF;split<;>simp only<;>omega
def tT(ht:Hy all wr T W){q:Nat}(ol:dG all q=60):∀(n k),q<k->uj all lo wr T W n k
 | 0,_,_=>trivial
 | n+1,k,hq=>λ_ _=>⟨⟨ht.t q _ _ ol (by have:=wK (all:=all) bL k;omega),λ_=>by have⟨i,j,e⟩:=NR (all:=all)<|uX all<|mA all bL k;rw[e];exact ht.w _ _ _⟩,tT ht ol n _ (by have:=wK (all:=all) bL k;have:=Ka (all:=all) (lo:=lo) (wr:=wr) (mA all bL k);omega)⟩
theorem VE{k:Nat}(h:mI all k≠0):dG all k=60:=by
 unfold mI at h;cases e:dG all k==60 with
 | false =>rw[e] at h;exact absurd rfl h
 | true =>exact eq_of_beq e
theorem Hj:∀{n k:Nat} {dE a:jE} {cl:Bool} {k':Nat},ou all lo wr n k dE=some (a,cl,true,k')->∃j,dG all j=62
 | 0,_,_,_,_,_,h=>by cases h
 | n+1,k,dE,a,cl,k',h=>by
  unfold ou at h;split at h
  .cases h
  .split at h
   .next e=>exact⟨_,e⟩
   .exact Hj h
def wZ(i j:Nat):(cV all i j).length<=4*(j-i):=by
 have h1:=iU<|(all.drop i).take<|j-i;have h2:((all.drop i).take<|j-i).length<=j-i:=by simp;omega
 unfold cV;omega
def Hy.wl(a:Hy all wr T W)(i j:Nat)(n:Int):(wr (cV all i j) n).length<=16*(j-i):=by
 have:=a.l i j n
 have:=wZ (all:=all) i j;omega
def fN (all:Iq)(lo:Bq->Bq)(wr:Bq->Int->Bq)(k:Nat):jE × Bool × Bool × Nat:=(ou all lo wr (all.length+2) (gR all bE k) []).getD ([],false,false,k)
theorem mZ(U:k<=all.length):ou all lo wr (all.length+2) (gR all bE k) []=some ((fN all lo wr k).1,(fN all lo wr k).2.1,(fN all lo wr k).2.2.1,(fN all lo wr k).2.2.2)/\(fN all lo wr k).2.2.2<=all.length+1/\k<=(fN all lo wr k).2.2.2:=by have c:=nX (stops:=bE) U;have⟨a,b,f,d,e,h1,h2⟩:=y5 (all:=all) (lo:=lo) (wr:=wr) (all.length+2) (gR all bE k) [] oq oq;unfold fN;grind
section
variable (all:Iq)
section
variable (lo:Bq->Bq)
def jh(k:Nat):Bq:=lo<|cV all k<|gR all bE k
def om (nm:Bq):Bool:=ff nm qR||ff nm dW
def wS(wr:Bq->Int->Bq)(x:St):St :=
 ⟨bif (fN all lo wr<|x.k+1).2.2.1&&om (jh all lo<|x.k+1) then qK all (jh all lo<|x.k+1) (fN all lo wr<|x.k+1).2.2.2 else (fN all lo wr<|x.k+1).2.2.2,
 bif (fN all lo wr<|x.k+1).2.2.1 then (bif om (jh all lo<|x.k+1) then xr all wr (jh all lo<|x.k+1) (fN all lo wr<|x.k+1).2.2.2 else []) else x.tx,
 bif (fN all lo wr<|x.k+1).2.2.1 then cZ x.tx x.us++[⟨2,[],jh all lo<|x.k+1,(fN all lo wr<|x.k+1).1,(fN all lo wr<|x.k+1).2.1⟩] else x.us⟩
def KO(wr:Bq->Int->Bq)(x:St):St :=
 ⟨(fN all lo wr<|x.k+2).2.2.2,bif (fN all lo wr<|x.k+2).2.2.1 then [] else x.tx,bif (fN all lo wr<|x.k+2).2.2.1 then cZ x.tx x.us++[⟨3,[],jh all lo<|x.k+2,[],false⟩] else x.us⟩
end
def v9(w:Nat)(x:St):St:=⟨gR all [62] (x.k+w)+1,[],cZ x.tx x.us++[⟨4,cV all (x.k+w)<|gR all [62]<|x.k+w,[],[],false⟩]⟩
end
def jM(all:Iq)(lo:Bq->Bq)(wr:Bq->Int->Bq)(x:St):St:=match mI all x.k with
 | 0=>⟨Jy all x.k,x.tx++wr (cV all x.k<|Jy all x.k) 0,x.us⟩
 | 1=>wS all lo wr x
 | 2=>KO all lo wr x
 | 3=>⟨x.k+3,x.tx,x.us⟩
 | 4=>v9 all 2 x
 | 5=>⟨Dv all x.k+(Bf all<|Dv all x.k).length,[],cZ x.tx x.us++[⟨4,cV all (x.k+4)<|Dv all x.k,[],[],false⟩]⟩
 | 6=>⟨gR all [62] (Bg all x.k)+1,[],cZ x.tx x.us++[⟨5,[],lo<|cV all (F8 all x.k)<|Bg all x.k,[],false⟩]⟩
 | 7=>v9 all 2 x
 | _=>v9 all 1 x
theorem zI(h:mI all k=2):dG all (k+1)=47:=by
 unfold mI at h;cases h1:(dG all k==60)<;>rw[h1] at h
 .cases h
 cases h2:eW _<;>rw[h2] at h
 .grind
 .cases h
def Xd:List FuncId:=[151,152,153,154,155,254,255,256,327]
structure Vt(rn:Nat)(all:Iq)(lo:Bq->Bq)(wr:Bq->Int->Bq)(T:Bq->Prop)(W:Bq->Int->Prop)(pr:Prim):Prop where
 j:JY rn all lo wr T W pr
 t:Bv rn all pr
 no:∀f,f∈Xd->pr f=none
 a:Hy all wr T W
 len:all.length<=20000
theorem Us(b:Vt rn all lo wr T W pr)(x:St)(y:dG all x.k ≠ -1)(R:x.tx.length<=400000)(P:x.us.length<=400000):QN pr rn c all x (jM all lo wr x):=by
 refine⟨y,λs o F=>?_⟩;have E:=b.len;have z:=jw y;have⟨p,q,r,h1,_,_⟩:=o.open;have⟨v,h,e1,g,G⟩:=QS b.j b.t h1 oq;have⟨e,d⟩:=o.oj G;have l:=F.frS o d;unfold jM;generalize A:mI all x.k=n at *;have ol:n≠0->dG all x.k=60:=λhn=>VE (by rw[A];exact hn);rcases n with _|_|_|_|_|_|_|_|n
 .cases g;have Q:=Qv (all:=all) (k:=x.k);have⟨f,U,g1,g2⟩:=Qx b.j b.t oq (b.a.w _ _ _) e l (by have:=b.a.wl x.k (Jy all x.k) 0;omega);exact .inr ⟨h,f,e1,U,g1,d.trans g2⟩
 .have ol:=ol (by simp);haveI:C2:=⟨⟨b.j.Oe _ ol⟩⟩
  cases g;have⟨u,I,J⟩:=mZ (lo:=lo) (wr:=wr) (k:=x.k+1) z;have⟨f,U,g1,g2⟩:=P9 (k2:=qK all (jh all lo<|x.k+1) (fN all lo wr<|x.k+1).2.2.2) (tx2:=xr all wr (jh all lo<|x.k+1) (fN all lo wr<|x.k+1).2.2.2) b.j z (b.a.t _ _ _ ol (by omega)) Y u (tT b.a ol _ _ (by have:=ud (all:=all) bE (x.k+1);omega)) e l oq oq λhwh H S V D C=>by
   have⟨j62,e62⟩:∃j,dG all j=62:=by rw[hwh] at u;exact Hj u
   haveI:C3:=⟨⟨b.j.w62 _ _ ol e62⟩⟩
   have O:=Cj (all:=all) (nm:=jh all lo<|x.k+1) (k:=(fN all lo wr<|x.k+1).2.2.2);have N:(xr all wr (jh all lo<|x.k+1) (fN all lo wr<|x.k+1).2.2.2).length<=400000:=by
    have L:=b.a.wl (fN all lo wr<|x.k+1).2.2.2 (qK all (jh all lo<|x.k+1) (fN all lo wr<|x.k+1).2.2.2) 0;have M:=wZ (all:=all) (fN all lo wr<|x.k+1).2.2.2 (qK all (jh all lo<|x.k+1) (fN all lo wr<|x.k+1).2.2.2);unfold xr;cases ff _ dW
    .grind
    .grind
   exact Pg b.j b.t (b.no 327 dq) H oq (λ_=>b.a.w _ _ _) D C<|by rw[List.length_nil];change 0+(xr all wr (jh all lo<|x.k+1) _).length<=_;omega
  exact .inl ⟨_,_,_,h,f,e1,U,g1,d.trans g2⟩
 .have ol:=ol (by simp);haveI:C2:=⟨⟨b.j.Oe _ ol⟩⟩
  cases g;have K:=zI A;have m:x.k+1<all.length:=jw gq;have⟨u,I,J⟩:=mZ (lo:=lo) (wr:=wr) m;have⟨f,U,g1,g2⟩:=VY b.j m (b.a.t _ _ _ ol (by omega)) Y u (tT b.a ol _ _ (by have:=ud (all:=all) bE (x.k+2);omega)) e l oq oq;exact .inl ⟨_,_,_,h,f,e1,U,g1,d.trans g2⟩
 .have ol:=ol (by simp);haveI:C2:=⟨⟨b.j.Oe _ ol⟩⟩
  obtain⟨B,rfl,i⟩:=g;have⟨f,U,g1,g2⟩:∃j,Ef pr 254 #[aF B 0] h (.tuple #[]) j/\oF rn c j (x.k+3) x.tx x.us/\ir c h j:=by have⟨p,q,r,h1,f,a⟩:=e.open;have⟨g1,g2⟩:=a<|x.k+3;exact⟨_,aQ (b.no 254 dq) func254 O<|zx<|zp (yl B 0 (aF c 0) i.2)<|zg 2 h<|zp (yl c 1 (num x.k) h1.2)<|zp (yp x.k 3 ((x.k+3:Nat):Int) oq oq)<|zg 2 h<|zp (ys c 1 (num ((x.k+3:Nat):Int)) h1.2 iq)<|aB ⟨.inl O,kq,O⟩,g1,g2⟩
  exact .inl ⟨_,_,_,h,f,e1,U,g1,d.trans g2⟩
 .have ol:=ol (by simp);haveI:C2:=⟨⟨b.j.Oe _ ol⟩⟩
  obtain⟨B,rfl,i⟩:=g;have⟨f,U,g1,g2⟩:=EM b.j (b.no 154 dq) i (.inr<|.inr ⟨Y,Y⟩) (b.no 255 dq) oq e oq oq;exact .inl ⟨_,_,_,h,f,e1,U,g1,d.trans g2⟩
 .have ol:=ol (by simp);haveI:C2:=⟨⟨b.j.Oe _ ol⟩⟩
  cases g;have⟨f,U,g1,g2⟩:=HZ b.j b.t (b.no 256 dq) (b.no 151 dq) oq e oq oq;exact .inl ⟨_,_,_,h,f,e1,U,g1,d.trans g2⟩
 .have ol:=ol (by simp);haveI:C2:=⟨⟨b.j.Oe _ ol⟩⟩
  cases g;have⟨f,U,g1,g2⟩:=H8 b.j (b.no 152 dq) oq (b.a.t _ _ _ ol (by unfold F8;have:=wK (all:=all) aK (x.k+9);omega)) e oq oq;exact .inl ⟨_,_,_,h,f,e1,U,g1,d.trans g2⟩
 .have ol:=ol (by simp);haveI:C2:=⟨⟨b.j.Oe _ ol⟩⟩
  obtain⟨B,rfl,i⟩:=g;have⟨f,U,g1,g2⟩:=EM b.j (b.no 154 dq) i (.inl ⟨Y,Y⟩) (b.no 153 dq) oq e oq oq;exact .inl ⟨_,_,_,h,f,e1,U,g1,d.trans g2⟩
 .have ol:=ol (by simp);haveI:C2:=⟨⟨b.j.Oe _ ol⟩⟩
  obtain⟨B,rfl,i⟩:=g;have⟨f,U,g1,g2⟩:=EM b.j (b.no 154 dq) i (.inr<|.inl ⟨Y,Y⟩) (b.no 155 dq) oq e oq oq;exact .inl ⟨_,_,_,h,f,e1,U,g1,d.trans g2⟩
def KR(tx:Bq)(a:List Tok):(cZ tx a).length<=a.length+1:=by
 unfold cZ;split
 .omega
 .simp
def OA(k:Nat):(Bf all k).length<=4:=by unfold Bf;cases kS all k [45,45,62]<;>cases kS all k [45,45,33,62]<;>decide
theorem Nc(c:Hy all wr T W)(x:St)(f:dG all x.k ≠ -1)(u:x.tx.length<=16*x.k)(s:x.us.length<=2*x.k) :
  x.k<(jM all lo wr x).k/\(jM all lo wr x).k<=all.length+20/\(jM all lo wr x).tx.length<=16*(jM all lo wr x).k/\(jM all lo wr x).us.length<=2*(jM all lo wr x).k:=by
 have i:=jw f;have r:=KR x.tx x.us;have a:∀w,w<=4->x.k<(v9 all w x).k/\(v9 all w x).k<=all.length+20/\(v9 all w x).tx.length<=16*(v9 all w x).k/\(v9 all w x).us.length<=2*(v9 all w x).k:=λw t=>by
  have h1:=vt (all:=all) (stops:=[62]) (k:=x.k+w);have h2:x.k+w<=gR all [62] (x.k+w):=by unfold gR;omega
  refine⟨?_,?_,Nat.zero_le _,?_⟩
  .show x.k<gR all [62] (x.k+w)+1;omega
  .show gR all [62] (x.k+w)+1<=_;omega
  .show(cZ x.tx x.us++[_]).length<=2*(gR all [62] (x.k+w)+1);simp;omega
 unfold jM;generalize h:mI all x.k=n;rcases n with _|_|_|_|_|_|_|_|n
 .have⟨m,h1,h2,h3,b⟩:=ib all (λj=>mI all j != 0) x.k;change Jy all x.k=x.k+m at h1;have l:m≠0:=λe=>gq
  have U:=c.wl x.k (x.k+m) 0;grind
 .have⟨o,p,q⟩:=mZ (lo:=lo) (wr:=wr) i;have l:=Cj (all:=all) (nm:=jh all lo<|x.k+1) (k:=(fN all lo wr<|x.k+1).2.2.2);have U:=c.wl (fN all lo wr<|x.k+1).2.2.2 (qK all (jh all lo<|x.k+1) (fN all lo wr<|x.k+1).2.2.2) 0;have g:=wZ (all:=all) (fN all lo wr<|x.k+1).2.2.2 (qK all (jh all lo<|x.k+1) (fN all lo wr<|x.k+1).2.2.2);unfold wS xr;grind
 .have d:=jw (by rw[zI h];decide);have⟨o,p,q⟩:=mZ (lo:=lo) (wr:=wr) d;unfold KO;grind
 .grind
 .exact a 2 oq
 .have⟨m,h1,h2,h3,b⟩:=ib all (λj=>!(Bf all j).isEmpty)<|x.k+2;change Dv all x.k=x.k+2+m at h1;have U:=OA (all:=all)<|Dv all x.k;grind
 .have h1:F8 all x.k<=max (x.k+9) all.length:=G4;have h2:Bg all x.k<=max (F8 all x.k) all.length:=vt;have h3:=vt (all:=all) (stops:=[62]) (k:=Bg all x.k);have b:x.k+9<=F8 all x.k:=by unfold F8 mA;omega
  have U:F8 all x.k<=Bg all x.k:=by unfold Bg gR;omega
  have g:Bg all x.k<=gR all [62] (Bg all x.k):=by unfold gR;omega
  grind
 .exact a 2 oq
 .exact a 1 oq
def runK (all:Iq)(lo:Bq->Bq)(wr:Bq->Int->Bq):Nat->St->St
 | 0,x=>x
 | n+1,x=>if dG all x.k = -1 then x else runK all lo wr n (jM all lo wr x)
def Tz (all:Iq)(lo:Bq->Bq)(wr:Bq->Int->Bq)(x:St):Nat->St
 | 0=>x
 | n+1=>jM all lo wr<|Tz all lo wr x n
def o0(x:St):∀n,Tz all lo wr x (n+1)=Tz all lo wr (jM all lo wr x) n
 | 0=>rfl
 | n+1=>by show jM all lo wr _=_;rw[o0 x n];rfl
def Vo (all:Iq)(x:St):Prop:=x.k<=all.length+20/\x.tx.length<=16*x.k/\x.us.length<=2*x.k
def E5(ht:Hy all wr T W):∀(m:Nat) (x:St),Vo all x->all.length<x.k+m->∃n,(∀i,i<n->dG all (Tz all lo wr x i).k ≠ -1)/\dG all (Tz all lo wr x n).k = -1/\(∀i,i<=n->Vo all (Tz all lo wr x i))/\runK all lo wr m x=Tz all lo wr x n
 | 0,x,hI,hm=>⟨0,λi hi=>oq,GA<|by show all.length<=x.k;omega,λi hi=>by rw[Nat.le_zero.1 hi];exact hI,O⟩
 | m+1,x,hI,hm=>by
  by_cases hl:dG all x.k = -1
  .exact⟨0,λi hi=>oq,hl,λi hi=>by rw[Nat.le_zero.1 hi];exact hI,by unfold runK;rw[ip hl];rfl⟩
  .have⟨a1,a2,a3,a4⟩:=Nc (lo:=lo) ht x hl hI.2.1 hI.2.2;have⟨n,h1,h2,h3,h4⟩:=E5 ht m (jM all lo wr x) ⟨a2,a3,a4⟩ oq;refine⟨n+1,λi hi=>?_,?_,λi hi=>?_,?_⟩
   .cases i with
    | zero=>exact hl
    | succ i=>rw[o0];exact h1 i oq
   .rw[o0];exact h2
   .cases i with
    | zero=>exact hI
    | succ i=>rw[o0];exact h3 i oq
   .unfold runK;rw[iw hl,o0];exact h4
def wW (all:Iq)(lo:Bq->Bq)(wr:Bq->Int->Bq):List Tok:=cZ (runK all lo wr (all.length+1) ⟨0,[],[]⟩).tx (runK all lo wr (all.length+1) ⟨0,[],[]⟩).us
theorem Py(d:Vt rn all lo wr T W pr)(h1:Has s 1 (.cells eZ.toArray 335))(q:rn<s.nx) :
  ∃e v l,Ef pr 40 #[aF rn 0] s v e/\jl e v l/\kn s.nx e l (wW all lo wr)/\fp (λ_=>False) s e/\(∀b,blk v b->s.nx<b):=by
 have U:=d.len;have⟨n,m,o,k,p⟩:=E5 (lo:=lo) d.a (all.length+1) ⟨0,[],[]⟩ ⟨Nat.zero_le _,Nat.zero_le _,Nat.zero_le _⟩ gq
 have:=aao d.j.h.g O (λi f=>by have c:=k i oq;exact Us d _ (m i f) (by have:=c.1;have:=c.2.1;omega)<|by have:=c.1;have:=c.2.2;omega) o (λi f=>by have c:=k i f;exact⟨by have:=c.1;omega,by have:=c.1;have:=c.2.1;omega,by have:=c.1;have:=c.2.2;omega⟩) h1 q;unfold wW;rw[p];exact this
end
end
section
variable [Inhabited KC]
section
variable {stops:Bq}
def It (c:Nat):Prop:=c<128\/c=233
variable {s:AS}{pr:Prim}
section
variable {rn:Nat}{all:Iq}
theorem Am{l:Int}(h:l<0\/127<l)(a:uh stops):da l stops=false:=by
 unfold da;rw[List.any_eq_false];intro b U
 have:=a b U;grind
def Lk(c:pr 264=none)(d:pr 335=none)(e:stops.length<=1):Ef pr 264 #[str stops,.int .i32 233] s (num<|-1) s:=by
 have a:Ef pr 335 #[.int .i32 233] s (.bool true) s:=by exact aQ d func335 O<|zs<|am<|aD<|zr<|zf<|za s<|zH<|zs<|aE ⟨.inr O,kq,kq⟩
 refine aQ c func264 O<|zs<|aD ?_;iterate 2
  refine zr ?_
  refine zf ?_
  refine za s ?_
  refine zG ?_
 refine zr<|zc 1 a<|zf<|za s<|zG<|EW.scope ?_;iterate 4 refine zs ?_
 exact za s<|am<|aD<|jX<|am<|zr<|zk 2<|zp (di (l:=stops) O underlying9 kq)<|zp (aI (u:=num 1) (w:=num stops.length) O kq kq<|cj (b:=false)<|fD oq)<|aB<|za s<|zG<|cB<|am<|zs<|aE ⟨.inr O,kq,kq⟩
theorem L4(a:X8 rn all pr)(U:pr 335=none){l:Int}(n:l = -1\/∃c:Nat,It c/\l=(c:Int))(g:uh stops):Ef pr 328 #[.int .i32 l,str stops] s (.bool<|da l stops) s:=by
 have f:Ef pr 264 #[str stops,.int .i32 l] s (num<|-1) s->Ef pr 328 #[.int .i32 l,str stops] s (.bool false) s:=by
  intro m;have d:Ef pr 160 #[str stops,.int .i32 l] s (.bool false) s:=by exact aQ (a.no 160 dq) func160 O<|zs<|zr<|zc 2 m<|zf yR
  exact aQ (a.no 328 dq) func328 O<|zs<|zr<|zc 2 d<|zf yR
 rcases n with rfl|⟨c,hc|rfl,rfl⟩
 .rw[Am (.inl dq) g];exact f<|by
   have p:Ef pr 335 #[.int .i32 (-1)] s (.bool false) s:=by exact aQ U func335 O<|zs<|am<|aD<|zr<|zf<|za s<|zG<|zr<|zf<|za s<|zF<|zs<|aE ⟨.inr O,kq,kq⟩
   refine aQ (a.no 264 dq) func264 O<|zs<|aD ?_;iterate 2
    refine zr ?_
    refine zf ?_
    refine za s ?_
    refine zG ?_
   exact zr<|zc 1 p<|zf<|za s<|zH<|zs<|aE ⟨.inr O,kq,kq⟩
 .have j:(UInt8.ofNat c).toNat=c:=by rw[UInt8.toNat_ofNat'];omega
  have o:da (c:Int) stops=decide (UInt8.ofNat c∈stops):=by
   unfold da;rw[Bool.eq_iff_iff,List.any_eq_true,decide_eq_true_iff];constructor
   .rintro⟨b,a4,a5⟩;have:b.toNat=c:=gq
    rw[<-this,UInt8.ofNat_toNat];exact a4
   .grind
  rw[o];by_cases i:UInt8.ofNat c∈stops
  .have:=Iv a (s:=s) (b:=UInt8.ofNat c) oq i;grind
  .have:=Lt a (s:=s) oq i;grind
 .rw[Am (.inr dq) g];refine f ?_;have k:∀b∈stops,b≠169:=λb j e=>by have:=g b j;rw[e] at this;revert this;decide
  match stops,k with
  | [],_=>exact Lk (a.no 264 dq) U dq
  | [b0],_=>exact Lk (a.no 264 dq) U<|l8 1
  | b0::b1::r,h=>have o:Ef pr 373 #[str r,.int .u8 169] s (num<|-1) s:=by obtain⟨g,c⟩:∃g,eL 373=some g:=⟨_,O⟩;have B:=fH (P:=prog) (kt:=kJ) (pr:=eL) (f:=373) (args:=#[str r,.int .u8 169]) (s:=s) (v:=num<|mw (169:UInt8).toNat r 0) (s':=s) 1 kq;rw[rU (λz=>h 169 (by simp[z]) O)] at B;have⟨m,B⟩:=B;refine fI (a.Mi.trans c) ?_;unfold bW at B;rw[c] at B;exact B
                 have d:Ef pr 334 #[str r,.int .u8 169] s (num<|-1) s:=by exact aQ (a.no 334 dq) func334 O<|zs<|zr<|zc 2 o<|zf<|aE ⟨.inr O,kq,kq⟩
                 have C:Ef pr 335 #[.int .i32 233] s (.bool true) s:=by exact aQ U func335 O<|zs<|am<|aD<|zr<|zf<|za s<|zH<|zs<|aE ⟨.inr O,kq,kq⟩
                 have D:str (((b0::b1::r).take (b0::b1::r).length).drop 2)=str r:=gq
                 refine aQ (a.no 264 dq) func264 O<|zs<|aD ?_;iterate 2
                  refine zr ?_
                  refine zf ?_
                  refine za s ?_
                  refine zG ?_
                 refine zr<|zc 1 C<|zf<|za s<|zG<|EW.scope ?_;iterate 4 refine zs ?_
                 exact za s<|am<|aD<|jX<|am<|zr<|zk 2<|zp (di (l:=b0::b1::r) O underlying9 kq)<|zp (aI (u:=num 1) (w:=num ((b0::b1::r).length:Nat)) O kq kq<|cj (b:=true)<|tD gq)<|aB<|za s<|zT<|aD<|EW.scope<|am<|am<|bO kq kq kq<|zq<|zq<|zu (gp (l:=b0::b1::r) (k:=.i64) (n:=1) (b:=b1) O underlying9 kq kq dq O)<|zq<|zq<|zq<|zu (aI (u:=.int .u8 b1.toNat) (w:=.int .u8 169) O kq kq<|dI (b:=true)<|bne_iff_ne.2<|λe=>(h b1 iq)<|UInt8.toNat_inj.1 gq)<|cg ⟨dh [] kq iq,_,_,_,_,_,_,O,O,za s<|zH<|am<|bO kq kq kq (zq<|zq<|zq (zt s<|ET.op (v:=str r) (s1:=s) kq ((Ay (l:=b0::b1::r) (i:=2) (j:=(b0::b1::r).length) O underlying9 kq<|(show _=bM (b0::b1::r).length (b0::b1::r).length (some<|num 2) none by kernel_rfl).trans<|mq dq gq).trans<|congrArg (λx=>some (x,s)) D) (zq<|zq<|zq (zt s<|ET.xS #[str r,.int .u8 169] kq O O kq kq d<|zq<|cg ⟨dh [] kq iq,_,_,_,_,_,_,O,O,za s<|am<|zr<|zf<|za s<|zH<|zs<|aE ⟨.inr O,kq,kq⟩⟩))))⟩
end
end
variable {m n:Nat}{s:AS}{f:FuncId}{pr:Prim}{ι:Type}{N0:ι->Nat}{M:ι->World->Nat->Prop}{R:ι->Wq}{D:ι->World->World->Array Event->Prop}{X:ι->Gq}{Hd:ι->Hq->World->Prop}
variable {r:Int}{N b b0 b1 b2 b3 e e2 e3 j j' k nm off pos v z z2 z3:Nat}{a en l post pre stops t:Bq}{x:Operand}{p:Value}{c:UInt8}{s' s1:AS}
def Ed (r:Int):Bq:=(Utf8.encode r).data.toList
theorem KM(r:Int):Value.string (Utf8.encode r)=str (Ed r):=by unfold Ed;grind
def OM(h:128<=r):∃(n:Nat) (z:UInt8),(Ed r).length=n+1/\n<=3/\1<=n/\(Ed r)[n]?=some z/\128<=z.toNat:=by
 have a:∀c,128<=(UInt8.ofNat<|128+c % 64).toNat:=λc=>by rw[UInt8.toNat_ofNat'];omega
 unfold Ed Utf8.encode;generalize b:(if Utf8.valid r=true then r.toNat else Utf8.runeError)=c;have h1:128<=c:=by
  rw[<-b];split
  .omega
  .decide
 rw[iw oq];split
 .exact⟨1,_,I,oq,oq,I,a c⟩
 .split
  .exact⟨2,_,I,oq,oq,I,a c⟩
  .exact⟨3,_,I,oq,oq,I,a c⟩
def Fh(stops:Bq)(b:Nat)(x:Nq):TL:=[str stops,.int .i32 65533]++fW x 2 173++[aF b 0]++fW x 176 11
variable {rn:Nat}{all:Iq}
def Qt(a:pr 335=none)(h:128<=r/\r<=1114111):Ef pr 335 #[.int .i32 r] s (.bool<|decide (r<55296\/57343<r)) s:=by
 refine aQ a func335 I<|zs<|am<|aD<|zr<|zk 1<|zp (aI (u:=.int .i32 0) (w:=.int .i32 r) I kq kq<|ck<|tD oq)<|zk 2 ?_;by_cases h1:r<55296
 .rw[tD (.inl h1)];exact zp (aI (w:=.int .i32 55296) I kq kq<|eh<|tD h1)<|zf<|za s<|zH<|zs<|aE ⟨.inr I,kq,kq⟩
 .refine zp (aI (u:=.int .i32 r) I kq kq<|eh<|fD h1)<|zf<|za s<|zG<|zr<|zk 1 ?_;by_cases h2:57343<r
  .rw[tD (.inr h2)];exact zp (aI (w:=.int .i32 r) I kq kq<|eh (b:=true)<|tD h2)<|zk 2<|zp (aI (u:=.int .i32 r) I kq kq<|ck (b:=true)<|tD h.2)<|zf<|za s<|zH<|zs<|aE ⟨.inr I,kq,kq⟩
  .rw[fD oq];exact zp (aI (u:=.int .i32 57343) I kq kq<|eh (b:=false)<|fD h2)<|zf<|za s<|zF<|zs<|aE ⟨.inr I,kq,kq⟩
def LU(c:pr 334=none)(d:pr 373=eL 373){r:Bq}{z:UInt8}(h:z∉r):Ef pr 334 #[str r,.int .u8 (z.toNat:Int)] s (num<|-1) s:=by
 have b:Ef pr 373 #[str r,.int .u8 (z.toNat:Int)] s (num<|-1) s:=by obtain⟨g,e⟩:∃g,eL 373=some g:=⟨_,I⟩;have a:=fH (P:=prog) (kt:=kJ) (pr:=eL) (f:=373) (args:=#[str r,.int .u8 (z.toNat:Int)]) (s:=s) (v:=num<|mw ((z.toNat:Int).toNat % 256) r 0) (s':=s) 1 kq;rw[toNat_mod,rU h] at a;have⟨m,a⟩:=a;refine fI (d.trans e) ?_;unfold bW at a;rw[e] at a;exact a
 exact aQ c func334 I<|zs<|zr<|zc 2 b<|zf yR
def Pe(o:pr 264=none)(t:pr 335=none)(p:pr 334=none)(x:pr 373=eL 373)(I:uh stops)(H:128<=r/\r<=1114111)(D:r≠65533):Ef pr 264 #[str stops,.int .i32 r] s (num<|-1) s:=by
 have f:=Qt (s:=s) t H;have⟨n,z,L,M,N,K,O⟩:=OM H.1;have F:∀l:Bq,(∀b∈l,b∈stops)->z∉l:=λl B h=>by have:=I z<|B z h;omega
 have d:=λ(l:Bq) (h:∀b∈l,b∈stops)=>LU (s:=s) p x<|F l h;refine aQ o func264 W<|zs<|aD<|zr<|zk 1<|zp (aI (u:=.int .i32 0) (w:=.int .i32 r) W kq kq<|ck (b:=true)<|tD oq)<|zk 2<|zp (aI (u:=.int .i32 r) (w:=.int .i32 128) W kq kq<|eh (b:=false)<|fD oq)<|zf<|za s<|zG<|zr<|zk 1<|zp (aI (u:=.int .i32 r) (w:=.int .i32 65533) W kq kq<|cQ (b:=false)<|bF.2 D)<|zf<|za s<|zG<|zr<|zc 1 f ?_;by_cases J:r<55296\/57343<r
 .rw[tD J];refine zf<|za s<|zG<|EW.scope<|zr<|zk 1<|bV (v:=str<|Ed r) (s1:=s) kq ((show _=some (Value.string<|Utf8.encode r,s) by kernel_rfl).trans<|by rw[KM]) ?_;generalize Ed r=e at *;refine zf<|za s<|zr<|zk 1<|zp (di (l:=e) W underlying9 kq)<|zp (PK (i:=(e.length:Nat)) (j:=1) (r:=(n:Nat)) W kq kq oq oq)<|zf<|za s ?_;iterate 2 refine zs ?_
  refine za s<|am<|aD<|jX<|am<|zr<|zk 2<|zp (di (l:=stops) W underlying9 kq) ?_;by_cases B:n<stops.length
  .have A:=gE B;have C:=I _<|OY B;generalize stops[n]=y at A C;have E:bM stops.length stops.length (some<|num ((n+1:Nat):Int)) none=some (n+1,stops.length):=mq oq oq;have g:=d ((stops.take stops.length).drop<|n+1) (λb G=>by rw[List.take_length] at G;exact List.mem_of_mem_drop G);generalize c:(stops.take stops.length).drop (n+1)=a at g;exact zp (aI (u:=num n) (w:=num stops.length) W kq kq<|cj (b:=true)<|tD oq)<|aB<|za s<|zT<|aD<|EW.scope<|am<|am<|bO kq kq kq<|zq<|zq<|zu (gp (l:=stops) (k:=.i64) (n:=(n:Nat)) (b:=y) W underlying9 kq kq oq A)<|zq<|zq<|zu (gp (l:=e) (k:=.i64) (n:=(n:Nat)) (b:=z) W underlying9 kq kq oq K)<|zu (aI (u:=.int .u8 y.toNat) (w:=.int .u8 z.toNat) W kq kq<|dI (b:=true)<|bne_iff_ne.2 oq)<|cg ⟨dh [] kq iq,_,_,_,_,_,_,W,W,za s<|zH<|am<|bO kq kq kq (zq<|zq (zu (dV (i:=(n:Nat)) (j:=1) (r:=((n+1:Nat):Int)) W kq kq oq oq)<|zu (iL (l:=stops) (m:=a) (i:=n+1) (j:=stops.length) W underlying9 kq ((show _=bM stops.length stops.length (some<|num ((n+1:Nat):Int)) none by kernel_rfl).trans E) c) (zq<|zq (zu (gp (l:=e) (k:=.i64) (n:=(n:Nat)) (b:=z) W underlying9 kq kq oq K)<|zt s<|ET.xS #[str a,.int .u8 (z.toNat:Int)] kq W W kq kq g<|zq<|cg ⟨dh [] kq iq,_,_,_,_,_,_,W,W,za s<|am<|zr<|zf<|za s<|zH<|zs<|aE ⟨.inr W,kq,kq⟩⟩))))⟩
  .exact zp (aI (u:=num n) (w:=num stops.length) W kq kq<|cj (b:=false)<|fD oq)<|aB<|za s<|zG<|cB<|am<|zs<|aE ⟨.inr W,kq,kq⟩
 .rw[fD J];exact zf<|za s<|zH<|zs<|aE ⟨.inr W,kq,kq⟩
def qi (s:AS)(l:Bq)(j:Nat):AS:=s.add<|.stringIter ⟨l.toArray⟩ j
def rV:(qi s l j).set s.nx (some<|.stringIter ⟨l.toArray⟩ j')=qi s l j':=AS.set_set (⟨s.hp,s.nx+1⟩) s.nx _<|some<|.stringIter ⟨l.toArray⟩ j'
def kU:(qi s l j).get s.nx=some (.stringIter ⟨l.toArray⟩ j):=by unfold qi;rw[AS.bu,ip I]
def Ty(c:pr 264=none)(k:uh stops)(i:kJ (1000+gi stops)=false):Ef pr 264 #[str stops,.int .i32 65533] s (num<|-1) (qi s stops stops.length):=by
 refine aQ c func264 I<|zs<|aD<|zr<|zf<|za s<|zG<|zr<|zf<|za s<|zH<|am<|zr<|zg 1 s<|zp (Cx I underlying9 kq i)<|aB<|za (qi s stops 0)<|ea (Fh stops s.nx) kq ?_;intro m;refine aD<|aN (aZ (Q:=λe a g=>e=.exit 9/\g=qi s stops stops.length/\∃x,a=Fh stops s.nx x) (λu a g=>∃j,u+j=stops.length/\g=qi s stops j/\∃x,a=Fh stops s.nx x) ?_ stops.length _ _ ⟨0,oq,I,m,I⟩) ?_
 .rintro u a g ⟨j,n,rfl,x,rfl⟩;by_cases h:j<stops.length
  .have d:=gE h;have f:=k _<|OY h;generalize stops[j]=y at d f;refine zr<|zp (Mb I kq kU d f i) ?_;rw[rV];exact zf<|za (qi s stops<|j+1)<|am<|zT<|aD<|zs<|zr<|zk 1<|zp (aI (u:=.int .i32 y.toNat) (w:=.int .i32 65533) I kq kq<|cQ<|bF.2 oq)<|aB<|za _<|zF ⟨u-1,oq,j+1,oq,I,aP kq⟩
  .obtain rfl:j=stops.length:=oq
   exact zr<|zp (wo I kq kU lr)<|zf<|za _<|am<|zG<|cB ⟨I,I,aP kq⟩
 rintro e a g ⟨rfl,rfl,x,rfl⟩;exact zs<|aE ⟨.inr I,kq,kq⟩
def Xi(b:X8 rn all pr)(a:pr 335=none){l:Int}(i : -1<=l/\l<=1114111)(f:uh stops)(h:kJ (1000+gi stops)=false):∃c,Ef pr 328 #[.int .i32 l,str stops] s (.bool<|da l stops) c:=by
 by_cases h1:l<128
 .by_cases g:l = -1
  .exact⟨s,L4 b a (.inl g) f⟩
  .exact⟨s,L4 b a (.inr ⟨l.toNat,.inl oq,oq⟩) f⟩
 .rw[Am (.inr oq) f];obtain⟨c,e⟩:∃c,Ef pr 264 #[str stops,.int .i32 l] s (num<|-1) c:=by
   by_cases h2:l=65533
   .subst h2;exact⟨_,Ty (b.no 264 dq) f h⟩
   .exact⟨s,Pe (b.no 264 dq) a (b.no 334 dq) b.Mi f ⟨oq,i.2⟩ h2⟩
  refine⟨c,?_⟩;have d:Ef pr 160 #[str stops,.int .i32 l] s (.bool false) c:=by exact aQ (b.no 160 dq) func160 I<|zs<|zr<|zc 2 e<|zf yR
  exact aQ (b.no 328 dq) func328 I<|zs<|zr<|zc 2 d<|zf yR
def Od{z:Int}(h:0<=z/\z<256):(z.toNat.toUInt8).toNat=z.toNat:=by rw[Nat.toUInt8_eq,UInt8.toNat_ofNat'];omega
theorem KG(U:Good r)(post:Bq):decodeL (encodeRune r++post)=(r.toNat,(encodeRune r).length):=by
 have a:(0<=r/\r<55296)\/(57343<r/\r<=1114111):=U;rw[decodeL_N];unfold encodeRune;by_cases h1:r<=127
 .rw[encodeRuneZ_one oq h1];show decodeN _ (r.toNat.toUInt8).toNat _ _ _=(_,1);rw[Od oq];unfold decodeN;rw[ip oq]
 by_cases h2:r<=2047
 .rw[encodeRuneZ_two oq h2];show decodeN (_+1+1) ((192+r / 64).toNat.toUInt8).toNat ((128+r % 64).toNat.toUInt8).toNat _ _=(_,2);rw[Od oq,Od oq];unfold decodeN;grind
 by_cases h3:r<=65535
 .rw[encodeRuneZ_three oq];show decodeN (_+1+1+1) ((224+r / 4096).toNat.toUInt8).toNat ((128+r / 64 % 64).toNat.toUInt8).toNat ((128+r % 64).toNat.toUInt8).toNat _=(_,3);rw[Od oq,Od oq,Od oq];unfold decodeN;grind
 .rw[encodeRuneZ_four oq oq];show decodeN (_+1+1+1+1) ((240+r / 262144).toNat.toUInt8).toNat ((128+r / 4096 % 64).toNat.toUInt8).toNat ((128+r / 64 % 64).toNat.toUInt8).toNat ((128+r % 64).toNat.toUInt8).toNat=(_,4);rw[Od oq,Od oq,Od oq,Od oq];unfold decodeN;rw[iw oq,iw oq,iw oq,ip oq,ip oq];congr 1;omega
variable {P:Program}{kt:TypeId->Bool}{o:Oper}
section
variable {c:km}{a:TL}
def EZ(g:t=pre++(encodeRune r++post))(f:Good r)(d:o.op=.next x true)(n:a.at x=aF b 0)(m:s.get b=some (.stringIter ⟨t.toArray⟩ pre.length))(i:kt (1000+gi t)=false) :
  bS P kt c a o s=some (.tuple #[.bool true,num pre.length,.int .i32 r],s.set b<|some<|.stringIter ⟨t.toArray⟩<|pre.length+(encodeRune r).length):=by
 have e:ByteArray.size ⟨t.toArray⟩=t.length:=by simp[ByteArray.size]
 have h:Utf8.decode ⟨t.toArray⟩ pre.length=(r.toNat,(encodeRune r).length):=by rw[<-decodeL_drop];rw[g,List.drop_left,KG f]
 have p:=encodeRuneZ_length r;have j:(encodeRune r).length=(encodeRuneZ r).length:=by simp[encodeRune]
 have k:t.length=pre.length+((encodeRune r).length+post.length):=by rw[g];simp
 have l:r.toNat=r:=by unfold Good at f;omega
 unfold bS;rw[iw (by rw[d];simp[gW]),d];simp only[n,aF,m,e,h,l];rw[ip oq,iw<|by show ¬kt (1000+gi t)=true;rw[i];simp];rfl
end
def SO {K:Nat} (e:pr 261=none) (f:pr 272=none) (a:pr 344=eL 344)(m:N<=b) (w:b<s.nx) (t:s.get b=some (.cells #[p,.slice none 0 0] 119)) (r:p=.pointer none\/p=aF b 0) (v:K<=1000000):∃j,EF prog kJ pr 272 #[aF b 0,num ((K+1:Nat):Int)] s (.tuple #[]) j/\BW j N b []/\eQ N s j:=by
 obtain ⟨c,o,u,h,l⟩:=tg e t r
 have i:bA prog 55 (aF b 1) c=some (.slice none 0 0):=by
  unfold bA
  simp only [aF,h,underlying55]
  rfl
 refine cm f func272 I ?_
 refine zr ?_
 refine zk 1 ?_
 refine zo s ?_
 refine yf o ?_
 refine aB ?_
 refine zs ?_
 refine za c ?_
 refine am<|bO kq kq kq ?_
 iterate 2
  refine zq ?_
  refine zq ?_
  refine zq ?_
  refine zt c ?_
  refine zu (yl b 1 _ h) ?_
  refine zq ?_
 iterate 2
  refine zq ?_
 refine zu (yb (num 0) (num ((K+1:Nat):Int))<|cj<|tD oq) ?_
 refine cg ⟨dh [(bA prog 55 (aF b 1) c,.slice none 0 0),(bA prog 55 (aF b 1) c,.slice none 0 0)] kq<|by simp [bN,i],_,_,_,_,_,_,I,I,?_⟩
 refine zH ?_
 refine zx ?_
 refine zk 2 ?_
 refine zo c ?_
 have a:EF prog kJ pr 344 #[aF b 0,num ((K+1:Nat):Int)] c (.tuple #[]) ((c.set b<|some<|.cells #[aF b 0,.slice (some ⟨c.nx,0,none⟩) 0 0] 119 (0,0)).add<|.cells #[] 5 (1,1)):=by
  refine fI (g:=λd s=>match d.toList with
   | [.pointer (some ⟨b,0,none⟩),.int .i64 n]=>match s.get b with
    | some (.cells cs 119 (0,0))=>match cs.toList with
     | [p,.slice none 0 0]=>if 0<=n/\n<=1000000000 then some (.tuple #[],(s.set b<|some<|.cells #[p,.slice (some ⟨s.nx,0,none⟩) 0 0] 119 (0,0)).add<|.cells #[] 5 (1,1)) else none
     | _=>none
    | _=>none
   | _=>none) (a.trans kq) ?_
  simp only [aF]
  rw [h]
  simp only
  rw [ip ⟨oq,oq⟩]
  rfl
 refine yf a ?_
 refine aB ⟨.inl I,kq,?_⟩
 refine ⟨⟨m,by simp;omega,aF b 0,.slice _ 0 0,by rw [AS.bu,iw<|by simp;omega,AS.aU,ip I],.inr I,.inr ⟨c.nx,(1,1),I,oq,iq,oq,by rw [AS.bu,ip iq];rfl⟩⟩,by simp;omega,λk x=>?_⟩
 rw [AS.bu,iw<|by simp;omega,AS.aU,iw oq,l k oq]
def Uc(a:pr 367=none)(h:0<=r/\r<=127):Ef pr 367 #[.int .i32 r] s (num 1) s:=by exact aQ a func367 I<|zs<|am<|aD<|zr<|zk 1<|zp (aI (u:=.int .i32 r) (w:=.int .i32 0) I kq kq<|eh<|fD oq)<|zf<|za s<|zG<|zr<|zk 1<|zp (aI (u:=.int .i32 r) I kq kq<|ck<|tD h.2)<|zf<|za s<|zH<|zs<|aE ⟨.inr I,kq,kq⟩
def YQ (s s':AS):Prop:=s.nx<=s'.nx/\∀k x p,k<s.nx->s.get k=some (.stringIter x p)->s'.get k=some (.stringIter x p)
theorem Qu{x:UInt8}(H:pr 261=none)(I:pr 369=none)(h:BW s N b l)(hl:l.length<=900000):∃v t,Ef pr 369 #[aF b 0,.int .u8 (x.toNat:Int)] s v t/\BW t N b (l++[x])/\eQ N s t/\YQ s t:=by
 have⟨T,Z,p,e,X,W,Q⟩:=h;have⟨c,z,Y,C,D⟩:=tg H X W;have a:sZ c e l:=by
  rcases Q with h|⟨d,fz,q1,q2,q3,q4,q5⟩
  .exact .inl h
  .exact .inr ⟨d,fz,q1,oq,(D d q4).trans q5⟩
 have P:∀n k,e≠.slice (sq b) n k:=gq
 have K:∀k,k<N->∀n j,e≠.slice (sq k) n j:=gq
 have O:∀k y i,s.get k=some (.stringIter y i)->k≠b/\∀n j,e≠.slice (sq k) n j:=gq
 obtain⟨w,f,M,g,rfl,g1,g2,g3,g4⟩:=J5 (m:=[x]) (a.add<|.cells (oJ [x]) 5) iq (by simp;omega);have o:(c.add<|.cells (oJ [x]) 5).get c.nx=some (.cells (oJ [x]) 5):=by rw[AS.bu,ip rfl]
 have U:=mH a<|l8 c.nx;have R:f.get b=some (.cells #[aF b 0,e] 119):=(g4 b (by simp;omega) P).trans (by rw[AS.bu,iw oq];exact C);have E:∀k,k<s.nx->k≠b->(∀n j,e≠.slice (sq k) n j)->f.get k=s.get k:=λk r A B=>(g4 k (by simp;omega) B).trans (by rw[AS.bu,iw oq];exact D k A);have V:s.nx<f.nx:=by simp at g1;omega
 refine lN I func369 rfl<|zs<|zr<|zc 1 z<|aB<|za c ?_;have J:∃q n u,e=.slice q n u:=gq
 obtain⟨q,n,u,rfl⟩:=J;refine zr<|zg 4 c<|zp (yl b 1 (.slice q n u) C)<|zg 2 (c.add<|.cells (oJ [x]) 5)<|zp (sf (m:=[x]) (d:=c.nx) (k:=1) rfl kq kq rfl o U iq M)<|zg 2 f ?_;generalize S:(l++[x]).length=L at *;refine zp (ys b 1 (.slice (sq g) L L) R iq)<|aB<|za (f.set b<|some<|.cells #[aF b 0,.slice (sq g) L L] 119)<|zs<|za (f.set b<|some<|.cells #[aF b 0,.slice (sq g) L L] 119)<|aE ⟨.inr rfl,.nilIface,kq,⟨T,by simp;omega,_,_,by rw[AS.aU,ip rfl],.inr rfl,.inr ⟨g,(1,1),by rw[S],by simp at g1;omega,by simpa using g2,by simp at g1;omega,by rw[AS.aU,iw gq];exact g3⟩⟩,⟨by simp;omega,λk r=>?_⟩,by simp;omega,λk y i r F=>?_⟩
 .rw[AS.aU,iw oq];exact E k oq oq<|K k r
 .have⟨G,i2⟩:=O k y i F;rw[AS.aU,iw G,E k r G i2];exact F
theorem IQ{c:Int}(J:pr 261=none)(I:pr 180=none)(h:BW s N b l)(K:∀(s:AS) (sl:Value),sZ s sl l->∃j,∃w,Ef pr 275 #[sl,.int .i32 c] s w j/\xk s sl l en j w):∃j v,Ef pr 180 #[aF b 0,.int .i32 c] s v j/\BW j N b (l++en)/\eQ N s j/\YQ s j:=by
 have⟨V,hb,p,sl,Z,X,S⟩:=h;have⟨f,C,c1,z,A⟩:=tg J Z X;have r:sZ f sl l:=by
  rcases S with h|⟨d,fz,q1,q2,q3,q4,q5⟩
  .exact .inl h
  .exact .inr ⟨d,fz,q1,oq,(A d q4).trans q5⟩
 have R:∀n k,sl≠.slice (sq b) n k:=gq
 have O:∀k,k<N->∀n B,sl≠.slice (sq k) n B:=gq
 have M:∃n t,sl=.slice (match sl with|.slice a _ _=>a|_=>none) n t/\n=l.length:=gq
 have Q:∀k y i,s.get k=some (.stringIter y i)->k≠b/\∀n B,sl≠.slice (sq k) n B:=gq
 obtain⟨o,w,P,g,rfl,g1,g2,g3,g4⟩:=K f sl r;have T:=(g4 b oq R).trans z;suffices hh:Ew pr (match f180.body with|some c=>c|none=>.skip) ((#[aF b 0,.int .i32 c]:Aq).toList++List.replicate (f180.ntmps-(#[aF b 0,.int .i32 c]:Aq).toList.length) undef) s (λe u f=>(e=.normal\/e=.ret)/\f=o.set b (some<|.cells #[aF b 0,.slice (sq g) (l++en).length (l++en).length] 119)/\∃w,cN prog f180 u f=some w) by
  have⟨m,e,u,H,h1,W,h2,w,h3⟩:=hh;refine⟨H,w,aQ I func180 rfl ⟨m,e,u,H,h1,W,h3,rfl⟩,?_,?_,?_⟩
  .rw[h2];refine⟨V,by simp;omega,_,_,by rw[AS.aU,ip rfl],.inr rfl,.inr ⟨g,(1,1),rfl,oq,by simpa using g2,oq,by rw[AS.aU,iw oq];exact g3⟩⟩
  .rw[h2];exact⟨by simp;omega,λk E=>by rw[AS.aU,iw oq,g4 k oq<|O k E,A k oq]⟩
  .rw[h2];exact⟨by simp;omega,λk x p E F=>by have⟨G,i2⟩:=Q k x p F;rw[AS.aU,iw G,g4 k oq i2,A k G];exact F⟩
 refine zs<|zr<|zc 1 C<|aB ?_;obtain⟨n,t,U,rfl⟩:=M;generalize Y:(match sl with|.slice a _ _=>a|_=>none)=q at U;clear Y;subst U;refine zr<|zg 3 f<|zp (yl b 1 _ z)<|zf<|za f<|zr<|zg 4 f<|zp (yl b 1 _ z)<|zc 1 P<|zg 2 o ?_;generalize (l++en).length=L;refine zp (ys b 1 (.slice (sq g) L L) T iq)<|aB<|za (o.set b<|some<|.cells #[aF b 0,.slice (sq g) L L] 119) ?_;have D:(o.set b<|some<|.cells #[aF b 0,.slice (sq g) L L] 119).get b=some (.cells #[aF b 0,.slice (sq g) L L] 119):=by rw[AS.aU,ip rfl]
 generalize o.set b _=s4 at D;exact zr<|zg 3 s4<|zp (yl b 1 _ D)<|zf<|aE ⟨.inr rfl,kq,.tuple #[.int .i64 (fv .i64<|(L:Int)-(l.length:Int)),.nilIface],kq⟩
def wD(e:pr 261=none)(d:pr 180=none)(f:pr 346=none)(a:pr 275=none)(h:BW s N b l)(m:Good r)(n:l.length<=900000):∃g v,Ef pr 180 #[aF b 0,.int .i32 r] s v g/\BW g N b (l++encodeRune r)/\eQ N s g/\YQ s g:=by
 obtain⟨c,rfl,j,k⟩:=oU m;rw[k];refine IQ e d h λ_ _ i=>?_;unfold rH;split
 .next h1=>exact xL h1 i oq a
 .next h1=>exact BG (j.resolve_left h1) i oq f a
def Xf:List FuncId:=[84,156,180,247,261,272,275,329,346,367,368,369]
structure YW(pr:Prim):Prop where
 no:∀f,f∈Xf->pr f=none
 aap:pr 344=eL 344
 sub:∀(s:AS) (q:Bq),EF prog kJ pr 357 #[str (encodeRune 65533++q)] s (.tuple #[.int .i32 65533,num 3]) s
abbrev f247:Value:=.func (.func 247) #[] #[]
def G7(t:Bq)(b it:Nat)(x:Nq):TL:=[f247,str t,x 2,x 3,x 4,aF b 0,x 6,x 7,x 8,x 9,x 10,x 11,x 12,x 13,aF it 0]++fW x 15 70
def Fj(t:Bq)(b it:Nat)(x:Nq):TL:=[f247,str t,x 2,x 3,x 4,aF b 0]++fW x 6 62++[aF it 0]++fW x 69 16
def jW(A:Iq)(l:Int)(B:Iq):aG (A++l::B)=aG A++(encodeRune l++aG B):=by simp[aG]
def qZ(A:Iq)(l:Int):aG (A++[l])=aG A++encodeRune l:=by simp[aG]
def R8(a:pr 368=none)(c:s.get b=some (.cells #[p,aX] 119)):Ef pr 368 #[aF b 0] s (num 0) s:=by exact aQ a func368 I<|zs<|zr<|zg 3 s<|zp (yl b 1 aX c)<|zf yR
theorem BW.aar{y:ByteArray}{i:Nat}{x:Obj}(h:BW s N b l)(c:s.get k=some (.stringIter y i)):BW (s.set k<|some x) N b l:=by
 have⟨h1,h2,p,g,h3,f,U⟩:=h;have a:b≠k:=λe=>gq;refine⟨h1,h2,p,g,by rw[AS.aU,iw a];exact h3,f,?_⟩;rcases U with U|⟨d,fz,q1,q2,q3,q4,q5⟩
 .exact .inl U
 .exact .inr ⟨d,fz,q1,q2,q3,q4,by rw[AS.aU,iw<|λe=>by subst e;rw[q5] at c;cases c];exact q5⟩
theorem W8(M:YW pr){ls:Iq}(hg:∀l∈ls,Good l)(hl:ls.length<=100000)(hk:gi (aG ls)<kc):∃s1,Ef pr 329 #[f247,str<|aG ls] s (str<|aG<|ls.map dC) s1:=by
 have U:=M.no;have F:∀(S:AS) (l:Int),Good l->Ef pr 247 #[.int .i32 l] S (.int .i32<|dC l) S:=λS l h=>EJ (U 247 dq) (by unfold Good at h;omega);have av:=iU ls;obtain⟨A,B,H,hA,hB⟩:∃A B,ls=A++B/\(∀l∈A,dC l=l)/\(B=[]\/∃c g,B=c::g/\65<=c/\c<=90):=by
  clear hg hl av hk;induction ls with
  | nil=>exact⟨[],[],rfl,by simp,.inl rfl⟩
  | cons l ls ih =>
   by_cases h:65<=l/\l<=90
   .exact⟨[],l::ls,rfl,by simp,.inr ⟨l,ls,rfl,h⟩⟩
   .have⟨A,B,h1,h2,h3⟩:=ih;refine⟨l::A,B,by rw[h1];rfl,λx hx=>?_,h3⟩;rcases pS.1 hx with rfl|hx
    .unfold dC;rw[iw h]
    .exact h2 x hx
 have a7:ls.map dC=A++B.map dC:=by rw[H,Dy,List.map_congr_left hA,List.map_id']
 generalize ht:aG ls=t at av hk;have hz:=bw s<|.cells #[.pointer none,aX] 119;suffices h:∃v s1,Ef pr 329 #[f247,str t] s v s1/\v=str (aG<|ls.map dC) by grind
 refine lN (U 329 dq) func329 rfl ?_;iterate 2 refine zs ?_
 refine za (s.add<|.cells #[.pointer none,aX] 119) ?_;generalize ax:s.add (.cells #[.pointer none,aX] 119)=o at hz;have bf:o.nx=s.nx+1:=by rw[<-ax];rfl
 refine am<|zr<|zg 1 o<|zp (Cx (l:=t) rfl underlying9 kq<|my hk)<|aB<|za (qi o t 0)<|ea (G7 t s.nx o.nx) kq ?_;intro x0;refine aD<|aN (aZ (Q:=λe D f=>e=.exit 0/\((B=[]/\f=qi o t t.length/\∃x,D=G7 t s.nx o.nx x)\/(∃c g,B=c::g/\65<=c/\c<=90/\BW f s.nx s.nx (aG A++encodeRune (c+32))/\∃x,D=G7 (aG g) s.nx o.nx x))) (λu D f=>∃C w,A=C++w/\u=w.length/\f=qi o t (aG C).length/\∃x,D=G7 t s.nx o.nx x) ?_ A.length _ _ ⟨[],A,rfl,rfl,rfl,x0,rfl⟩) ?_
 .rintro u D f ⟨C,w,af,rfl,rfl,x,rfl⟩;cases w with
  | cons l w =>
   have b8:ls=C++l::(w++B):=gq
   have G:t=aG C++(encodeRune l++aG (w++B)):=by rw[<-ht,b8,jW]
   have P:=hg l gq;have hll:=hA l gq;have I:=F (qi o t (aG<|C++[l]).length) l P;rw[hll] at I;have a9:(aG C).length+(encodeRune l).length=(aG<|C++[l]).length:=by rw[qZ,lA]
   generalize T:qi o t (aG<|C++[l]).length=a at I;refine zr<|zp (EZ (b:=o.nx) (t:=t) (pre:=aG C) (post:=aG<|w++B) (r:=l) G P rfl kq kU<|my hk) ?_;rw[rV,a9,T];generalize Yt:(aG C).length=E;refine zf<|za a<|am<|zT<|aD<|zs<|za a<|zr<|zg 2 a<|yc #[] #[] I<|zf<|za a<|am<|zr<|zk 2<|zp (yb (.int .i32 l) (.int .i32 l)<|cQ (b:=true)<|beq_self_eq_true _)<|zk 2<|zp (yb (.int .i32 l) (.int .i32 65533)<|dI (b:=!(l==65533)) rfl) ?_;cases h65:(l==(65533:Int)) with
   | false =>exact zf<|za a<|zH<|cB ⟨w.length,by simp,C++[l],w,by rw[af];simp,rfl,T.symm,aP kq⟩
   | true =>
    obtain rfl:l=65533:=eq_of_beq h65;have hd:=M.sub a<|aG<|w++B;have ao:(t.take t.length).drop E=encodeRune 65533++aG (w++B):=gq
    have be:E<=t.length:=gq
    generalize encodeRune 65533++aG (w++B)=tq at hd ao;exact zf<|za a<|zF<|zs<|am<|zr<|zf<|za a<|zH<|zr<|zg 2 a<|zp (iL (l:=t) (m:=tq) (i:=E) (j:=t.length) rfl underlying9 kq ((show _=bM t.length t.length (some<|num E) none by kernel_rfl).trans<|mq oq oq) ao)<|zc 0 hd<|zf<|za a<|zr<|zf<|za a<|zH<|cB ⟨w.length,by simp,C++[65533],w,by rw[af];simp,rfl,T.symm,aP kq⟩
  | nil =>
   obtain rfl:A=C:=gq
   rcases hB with rfl|⟨c,g,rfl,aa,ab⟩
   .have G:t=aG A:=by rw[<-ht,H,List.append_nil]
    exact zr<|zp (wo (b:=o.nx) (pos:=(aG A).length) (l:=t) rfl kq kU gq)<|zf<|za (qi o t (aG A).length)<|am<|zG<|cB ⟨rfl,.inl ⟨rfl,by rw[G],aP kq⟩⟩
   .have G:t=aG A++(encodeRune c++aG g):=by rw[<-ht,H,jW]
    have al:Good c:=.inl ⟨oq,by omega⟩;have V:(encodeRune c).length=1:=by unfold encodeRune;rw[encodeRuneZ_one oq oq];rfl
    have b6:dC c=c+32:=by unfold dC;rw[ip ⟨aa,ab⟩]
    have I:=F (qi o t<|(aG A).length+1) c al;rw[b6] at I;have hZ:(qi o t<|(aG A).length+1).get s.nx=some (.cells #[.pointer none,aX] 119):=by unfold qi;rw[AS.bu,iw oq];exact hz.2
    have ay:s.nx<(qi o t<|(aG A).length+1).nx:=by show s.nx<o.nx+1;omega
    have ba:=Uc (pr:=pr) (s:=qi o t<|(aG A).length+1) (r:=c) (U 367 dq) oq;have⟨R,hgw,hw1,hw2⟩:=SO (pr:=pr) (N:=s.nx) (K:=t.length+3) (U 261 dq) (U 272 dq) M.aap lr ay hZ (.inl rfl) oq;have N7:(aG A).length+(1+(aG g).length)=t.length:=gq
    have⟨S3,bc,aw,bg⟩:=A8 (pr:=pr) (m:=aG A) (U 261 dq) (U 156 dq) hw1 (by simp;omega);rw[List.nil_append] at aw;have⟨S4,v4,hpt,hw5,_,_⟩:=wD (pr:=pr) (r:=c+32) (U 261 dq) (U 180 dq) (U 346 dq) (U 275 dq) aw (.inl ⟨oq,by omega⟩) oq;have X:(t.take (aG A).length).drop 0=aG A:=gq
    have aq:(t.take t.length).drop ((aG A).length+1)=aG g:=by rw[List.take_length,G,<-uW,List.drop_left'<|by rw[lA,V]]
    generalize T:qi o t ((aG A).length+1)=a at *;refine zr<|zp (EZ (b:=o.nx) (t:=t) (pre:=aG A) (post:=aG g) (r:=c) G al rfl kq kU<|my hk) ?_;rw[rV,V,T];generalize aG g=q at *;generalize aG A=tA at *;generalize Yt:tA.length=E at *;exact zf<|za a<|am<|zT<|aD<|zs<|za a<|zr<|zg 2 a<|yc #[] #[] I<|zf<|za a<|am<|zr<|zk 2<|zp (yb (.int .i32<|c+32) (.int .i32 c)<|cQ (b:=false)<|bF.2 oq)<|zf<|za a<|zF<|zs<|am<|zr<|zk 1<|zp (yb (.int .i32 c) (.int .i32 65533)<|cQ (b:=false)<|bF.2 oq)<|aB<|za a<|zG<|zx<|zc 1 ba<|zf<|za a<|zr<|zk 1<|zp (di (l:=t) rfl underlying9 kq)<|zp (yp t.length 4 ((t.length+3+1:Nat):Int) oq oq)<|zo a<|zc 0 hgw<|aB<|za R<|zr<|zk 2<|zo R<|zp (iL (l:=t) (m:=tA) (i:=0) (j:=E) rfl underlying9 kq ((show _=bM t.length t.length none (some<|num E) by kernel_rfl).trans<|D2 oq oq) X)<|zc 0 bc<|aB<|za S3<|am<|zr<|zk 1<|zp (yb (.int .i32<|c+32) (.int .i32 0)<|rA (b:=true)<|tD oq)<|aB<|za S3<|zH<|zx<|zc 1 hpt<|aB<|za S4<|zr<|zk 3<|zp (yp E 1 ((E+1:Nat):Int) oq oq)<|zo S4<|zp (iL (l:=t) (m:=q) (i:=E+1) (j:=t.length) rfl underlying9 kq ((show _=bM t.length t.length (some<|num ((E+1:Nat):Int)) none by kernel_rfl).trans<|mq oq oq) aq)<|zf<|za S4<|cB ⟨rfl,.inr ⟨c,g,rfl,aa,ab,hw5,aP kq⟩⟩
 rintro e D f ⟨rfl,h⟩;rcases h with ⟨rfl,rfl,x,rfl⟩|⟨c,g,rfl,aa,ab,hW,x,rfl⟩
 .have G:ls.map dC=ls:=by rw[a7,H];simp
  have hZ:(qi o t t.length).get s.nx=some (.cells #[.pointer none,aX] 119):=by unfold qi;rw[AS.bu,iw oq];exact hz.2
  have b4:=R8 (pr:=pr) (U 368 dq) hZ;generalize qi o t t.length=a at *;exact am<|zr<|zc 0 b4<|zf<|za a<|zH<|zr<|zf<|aE ⟨.inr rfl,str t,kq,by rw[G,ht]⟩
 .have a8:aG (ls.map dC)=aG A++encodeRune (c+32)++aG (g.map dC):=by rw[a7,yB,show dC c=c+32 by unfold dC;rw[ip ⟨aa,ab⟩],jW,uW]
  have bd:ls.length=A.length+(g.length+1):=gq
  have ag:∀n z,g=n++z->(aG A++encodeRune (c+32)++aG (n.map dC)).length<=800000:=λn z e=>by have h1:=iU (A++(c+32)::n.map dC);rw[jW,<-uW] at h1;grind
  have b5:∀l∈g,Good l:=λl h=>hg l gq;have hl0:1<=(aG A++encodeRune (c+32)).length:=by
   have:=encodeRuneZ_length<|c+32;have h2:(encodeRune<|c+32).length=(encodeRuneZ<|c+32).length:=by simp[encodeRune]
   grind
  rw[a8];clear a8 a7;generalize aG A++encodeRune (c+32)=Y at *;have a6:∃k,Ef pr 368 #[aF s.nx 0] f (.map<|some<|k+1) f:=by
   have⟨_,_,p,sl,q1,q2,q3⟩:=hW;rcases q3 with ⟨rfl,rfl⟩|⟨d,fz,rfl,_⟩
   .simp at hl0
   .obtain⟨k,hk⟩:∃k,Y.length=k+1:=⟨Y.length-1,by omega⟩;rw[hk] at q1;exact⟨k,(by exact aQ (U 368 dq) func368 I<|zs<|zr<|zg 3 f<|zp (yl s.nx 1 _ q1)<|zf yR)⟩
  have⟨k,a6⟩:=a6;have N7:=iU g;have hkq:gi (aG g)<kc:=by
   have e:t=aG A++(encodeRune c++aG g):=by rw[<-ht,H,jW]
   rw[e,eJ,eJ] at hk;omega
  generalize htB:aG g=q at *;refine am<|zr<|zc 0 a6<|zf<|za f<|zF<|am<|zr<|zg 1 f<|zp (Cx (l:=q) rfl underlying9 kq<|my hkq)<|aB<|za (qi f q 0)<|ea (Fj q s.nx f.nx) kq ?_;intro x1;refine aD<|aN (aZ (Q:=λe D S=>e=.exit 2/\BW S s.nx s.nx (Y++aG (g.map dC))/\∃x,D=Fj q s.nx f.nx x) (λu D S=>∃n z,g=n++z/\u=z.length/\BW S s.nx s.nx (Y++aG (n.map dC))/\S.get f.nx=some (.stringIter ⟨q.toArray⟩ (aG n).length)/\f.nx<S.nx/\∃x,D=Fj q s.nx f.nx x) ?_ g.length _ _ ⟨[],g,rfl,rfl,by rw[List.map_nil,show aG []=[] from rfl,List.append_nil];exact hW.add _,kU,by show f.nx<f.nx+1;omega,x1,rfl⟩) ?_
  .rintro u D S ⟨n,z,O,rfl,hb,aj,b9,x,rfl⟩;cases z with
   | nil =>rw[List.append_nil] at O;subst O;exact zr<|zp (wo (b:=f.nx) (pos:=(aG g).length) (l:=q) rfl kq aj gq)<|zf<|za S<|am<|zG<|cB ⟨rfl,hb,aP kq⟩
   | cons l z =>
    have P:=b5 l gq;have G:q=aG n++(encodeRune l++aG z):=by rw[<-htB,O,jW]
    have a9:(aG n).length+(encodeRune l).length=(aG<|n++[l]).length:=by rw[qZ,lA]
    have ak:=hb.aar aj (x:=.stringIter ⟨q.toArray⟩ (aG<|n++[l]).length);have L:(S.set f.nx<|some<|.stringIter ⟨q.toArray⟩ (aG<|n++[l]).length).get f.nx=some (.stringIter ⟨q.toArray⟩ (aG<|n++[l]).length):=by rw[AS.aU,ip rfl]
    have ai:f.nx<(S.set f.nx<|some<|.stringIter ⟨q.toArray⟩ (aG<|n++[l]).length).nx:=b9;have I:=F (S.set f.nx<|some<|.stringIter ⟨q.toArray⟩ (aG<|n++[l]).length) l P;have W:Good (dC l):=by
     unfold dC;split
     .exact .inl ⟨oq,by omega⟩
     .exact P
    have ah:0<=dC l:=by unfold Good at W;omega
    have ar:aG ((n++[l]).map dC)=aG (n.map dC)++encodeRune (dC l):=by rw[Dy,yB,List.map_nil,qZ]
    have az:=ag n (l::z) O;refine zr<|zp (EZ (b:=f.nx) (t:=q) (pre:=aG n) (post:=aG z) (r:=l) G P rfl kq aj<|my hkq) ?_;rw[a9];generalize S.set f.nx (some<|.stringIter ⟨q.toArray⟩ (aG<|n++[l]).length)=a at *;generalize (aG n).length=E at *;generalize dC l=r at *;refine zf<|za a<|am<|zT<|aD<|zs<|za a<|zr<|zg 2 a<|yc #[] #[] I<|zf<|za a<|zr<|zk 1<|zp (yb (.int .i32 r) (.int .i32 0)<|rA (b:=true)<|tD ah)<|aB<|za a<|zH<|zr<|zk 1 ?_;by_cases J:r<128
    .have⟨v2,R,Z,g1,g2,g3⟩:=Qu (pr:=pr) (x:=UInt8.ofNat r.toNat) (U 261 dq) (U 369 dq) ak oq;have he:encodeRune r=[UInt8.ofNat r.toNat]:=by unfold encodeRune;rw[encodeRuneZ_one ah oq];simp
     have au:IntKind.u8.wrap r=(((UInt8.ofNat r.toNat).toNat:Nat):Int):=by rw[IntKind.wrap_u8,UInt8.toNat_ofNat'];omega
     rw[uW,<-he,<-ar] at g1;generalize UInt8.ofNat r.toNat=y at Z au;exact zp (yb (.int .i32 r) (.int .i32 128)<|eh (b:=true)<|tD J)<|aB<|za a<|zH<|zx<|zg 1 a<|bV (v:=.int .u8 (y.toNat:Int)) (s1:=a) kq ((show _=some (Value.int .u8<|IntKind.u8.wrap r,a) by kernel_rfl).trans<|by rw[au])<|zo a<|zc 0 Z<|aB ⟨z.length,by simp,n++[l],z,by rw[O];simp,rfl,g1,g3.2 _ _ _ ai L,by have:=g3.1;omega,aP kq⟩
    .have⟨R,v2,Z,g1,g2,g3⟩:=wD (pr:=pr) (r:=r) (U 261 dq) (U 180 dq) (U 346 dq) (U 275 dq) ak W oq;rw[uW,<-ar] at g1;exact zp (yb (.int .i32 r) (.int .i32 128)<|eh (b:=false)<|fD J)<|aB<|za a<|zG<|zx<|zc 1 Z<|aB ⟨z.length,by simp,n++[l],z,by rw[O];simp,rfl,g1,g3.2 _ _ _ ai L,by have:=g3.1;omega,aP kq⟩
  rintro e D S ⟨rfl,hb,x,rfl⟩;have az:=ag g [] iq;have⟨R,h84,_⟩:=wU (pr:=pr) (U 84 dq) hb (λe=>by have:=congrArg List.length e;simp only[lA,List.length_nil] at this;omega) oq;generalize Y++aG (g.map dC)=tx at *;exact zr<|zc 0 h84<|zf<|aE ⟨.inr rfl,str tx,kq,rfl⟩
def lu (r:Int):Nat:=if 48<=r/\r<=57 then (r-48).toNat else if 97<=dC r/\dC r<=102 then (dC r-87).toNat else 16
theorem F4(h:128<=r):lu r=16:=by
 have e:dC r=r:=by unfold dC;rw[iw oq]
 unfold lu;grind
def iS (base:Nat):Bq->Nat->Nat × Nat
 | [],v=>(v,0)
 | b::l,v=>if lu (b.toNat:Int)<base then ((iS base l<|min (v*base+lu (b.toNat:Int)) 1114112).1,(iS base l<|min (v*base+lu (b.toNat:Int)) 1114112).2+1) else (v,0)
theorem Ar(a:Nat):∀(l:Bq) (v:Nat),v<=1114112->(iS a l v).1<=1114112/\(iS a l v).2<=l.length
 | [],v,h=>⟨h,lr⟩
 | b::l,v,h=>by
  unfold iS;split
  .have:=Ar a l (min (v*a+lu b.toNat) 1114112) oq;grind
  .exact⟨h,Nat.zero_le _⟩
def Pz:Int->Int
 | 128=>8364
 | 130=>8218
 | 133=>8230
 | 145=>8216
 | 146=>8217
 | 147=>8220
 | 148=>8221
 | 149=>8226
 | 150=>8211
 | 151=>8212
 | 153=>8482
 | v=>v
def EG (v:Nat):Int:=if v=0\/(55296<=v/\v<=57343)\/1114111<v then 65533 else if 128<=v/\v<=159 then Pz v else v
def IE:∀v:Nat,128<=v->v<=159->Good (Pz v):=by
 intro v h1 h2;obtain rfl|rfl|rfl|rfl|rfl|rfl|rfl|rfl|rfl|rfl|rfl|rfl|rfl|rfl|rfl|rfl|rfl|rfl|rfl|rfl|rfl|rfl|rfl|rfl|rfl|rfl|rfl|rfl|rfl|rfl|rfl|rfl:v=128\/v=129\/v=130\/v=131\/v=132\/v=133\/v=134\/v=135\/v=136\/v=137\/v=138\/v=139\/v=140\/v=141\/v=142\/v=143\/v=144\/v=145\/v=146\/v=147\/v=148\/v=149\/v=150\/v=151\/v=152\/v=153\/v=154\/v=155\/v=156\/v=157\/v=158\/v=159:=oq
 all_goals exact .inl ⟨dq,dq⟩
section
variable {c:km}{a:TL}
def TV(d:o.op=.next x true)(i:a.at x=aF b 0)(h:s.get b=some (.stringIter ⟨l.toArray⟩ pos))(g:pos<l.length)(f:kt (1000+gi l)=false) :
  bS P kt c a o s=some (.tuple #[.bool true,num pos,.int .i32 (Utf8.decode ⟨l.toArray⟩ pos).1],s.set b<|some<|.stringIter ⟨l.toArray⟩<|pos+(Utf8.decode ⟨l.toArray⟩ pos).2):=by
 have e:ByteArray.size ⟨l.toArray⟩=l.length:=by simp[ByteArray.size]
 unfold bS;rw[iw (by rw[d];simp[gW]),d];simp only[i,aF,h,e];rw[ip g,iw<|by show ¬kt (1000+gi l)=true;rw[f];simp];rfl
end
theorem OI(h:128<=b0):128<=(decodeN n b0 b1 b2 b3).1:=by unfold decodeN;grind
def yF:List FuncId:=[84,89,147,156,157,178,180,247,261,262,263,275,331,332,335,339,341,346,370,371,372,384,385]
theorem yv(U:pr 339=none)(r:Int):Ef pr 339 #[.int .i32 r] s (.bool<|decide (48<=r/\r<=57)) s:=by
 refine aQ U func339 I<|zs<|zr<|zk 1 ?_;by_cases h1:48<=r
 .refine zp (yb _ (.int .i32 r)<|ck<|tD h1)<|zk 2<|zp (yb (.int .i32 r) (.int .i32 57)<|ck (b:=decide (48<=r/\r<=57)) gq) ?_;exact zf yR
 .rw[fD oq];exact zp (yb _ (.int .i32 r)<|ck<|fD h1)<|zf yR
def F5(a:∀f,f∈yF->pr f=none)(k : -1<=r/\r<=1114111):Ef pr 384 #[.int .i32 r] s (num (lu r:Nat)) s:=by
 have h1:=EJ (pr:=pr) (s:=s) (a 247 dq) k;have h2:=yv (pr:=pr) (s:=s) (a 339 dq) r;have h : -1<=dC r/\dC r<=1114111:=by unfold dC;split<;>omega
 unfold lu;generalize dC r=w at *;refine aQ (a 384 dq) func384 I<|zs<|zr<|zc 1 h1<|zf<|za s<|am<|aD<|zr<|zc 1 h2 ?_;by_cases c:48<=r/\r<=57
 .rw[tD c,ip c];refine zf<|za s<|zH<|zr<|zg 1 s<|bV (v:=.int .i32<|r-48) (s1:=s) kq ((show _=some (Value.int .i32<|fv .i32<|r-48,s) by kernel_rfl).trans<|by rw[mm oq])<|zo s<|bV (v:=num ((r-48).toNat:Nat)) (s1:=s) kq ((show _=some (Value.int .i64<|fv .i64<|r-48,s) by kernel_rfl).trans<|by rw[show fv .i64 (r-48)=((r-48).toNat:Nat) by unfold fv;simp only;rw[ip oq];omega]) ?_;generalize (r-48).toNat=d;exact zf<|aE ⟨.inr I,kq,kq⟩
 .rw[fD c,iw c];refine zf<|za s<|zG<|zr<|zk 1 ?_;by_cases e:97<=w
  .refine zp (aI (u:=.int .i32 97) (w:=.int .i32 w) I kq kq<|ck (b:=true)<|tD e)<|zk 2 ?_;by_cases g:w<=102
   .rw[ip ⟨e,g⟩];refine zp (aI (u:=.int .i32 w) (w:=.int .i32 102) I kq kq<|ck (b:=true)<|tD g)<|zf<|za s<|zH<|zr<|zg 1 s<|bV (v:=.int .i32<|w-97) (s1:=s) kq ((show _=some (Value.int .i32<|fv .i32<|w-97,s) by kernel_rfl).trans<|by rw[mm oq])<|zo s<|bV (v:=num<|w-97) (s1:=s) kq ((show _=some (Value.int .i64<|fv .i64<|w-97,s) by kernel_rfl).trans<|by rw[show fv .i64 (w-97)=w-97 by unfold fv;simp only;rw[ip oq]])<|zp (dV (i:=w-97) (j:=10) (r:=(((w-87).toNat:Nat):Int)) I kq kq oq oq) ?_;generalize (w-87).toNat=d;exact zf<|aE ⟨.inr I,kq,kq⟩
   .rw[iw oq];exact zp (aI (u:=.int .i32 w) (w:=.int .i32 102) I kq kq<|ck (b:=false)<|fD g)<|zf<|za s<|zF<|zs<|aE ⟨.inr I,kq,kq⟩
  .rw[iw oq];exact zp (aI (u:=.int .i32 97) (w:=.int .i32 w) I kq kq<|ck (b:=false)<|fD e)<|zf<|za s<|zF<|zs<|aE ⟨.inr I,kq,kq⟩
def Fl(t:Bq)(base v k b:Nat)(x:Nq):TL:=[str t,num base,x 2,x 3,num v,num k,x 6,x 7,x 8,x 9,aF b 0]++fW x 11 18
theorem LZ(z:∀f,f∈yF->pr f=none){a:Nat}(R:a=10\/a=16)(t:Bq)(P:t.length<=1000000)(w:gi t<kc):∃s1,Ef pr 370 #[str t,num a] s (.tuple #[num ((iS a t 0).1:Nat),num ((iS a t 0).2:Nat)]) s1/\eQ s.nx s s1:=by
 refine cm (z 370 dq) func370 W<|zs<|am<|zr<|zg 1 s<|zp (Cx (l:=t) W underlying9 kq<|my w)<|aB<|za (qi s t 0)<|ea (Fl t a 0 0 s.nx) kq ?_;intro M;refine aD<|aN (aZ (Q:=λe k S=>e=.exit 0/\eQ s.nx s S/\∃x,k=Fl t a (iS a t 0).1 (iS a t 0).2 s.nx x) (λu k S=>∃A B v,t=A++B/\u=B.length/\(iS a t 0).1=(iS a B v).1/\(iS a t 0).2=(iS a B v).2+A.length/\v<=1114112/\S=qi s t A.length/\∃x,k=Fl t a v A.length s.nx x) ?_ t.length _ _ ⟨[],t,0,W,W,W,W,by omega,W,M,W⟩) ?_
 .rintro u k S ⟨A,B,v,q,rfl,h1,h2,T,rfl,x,rfl⟩;rw[h1,h2];have h:∀j,eQ s.nx s (qi s t j):=λj=>eQ.add lr;cases B with
  | nil =>rw[List.append_nil] at q;subst q;exact zr<|zp (wo (b:=s.nx) (l:=t) W kq kU lr)<|zf<|za (qi s t t.length)<|am<|zG<|cB ⟨W,h _,by rw[show iS a [] v=(v,0) from W,Nat.zero_add];exact aP kq⟩
  | cons y B =>
   have H:A.length<t.length:=gq
   have E:t[A.length]?=some y:=gq
   by_cases L:y.toNat<128
   .have p:=F5 (pr:=pr) (s:=qi s t<|A.length+1) z (r:=(y.toNat:Int)) oq;have i:iS a (y::B) v=if lu (y.toNat:Int)<a then ((iS a B<|min (v*a+lu (y.toNat:Int)) 1114112).1,(iS a B<|min (v*a+lu (y.toNat:Int)) 1114112).2+1) else (v,0):=W;generalize lu (y.toNat:Int)=d at *;refine zr<|zp (Mb (b:=s.nx) (l:=t) (r:=y) W kq kU E L<|my w) ?_;rw[rV];generalize c:qi s t (A.length+1)=U at *;refine zf<|za U<|am<|zT<|aD<|zs<|za U<|zr<|zc 1 p<|zf<|za U<|am<|zr<|zk 2 ?_;by_cases F:d<a
    .rw[ip F] at i;rw[i];refine zp (yb (num d) (num a)<|jp (b:=false)<|fD oq)<|aB<|za U<|zF ?_;have G:(v:Int)*(a:Nat)<=17825792/\0<=(v:Int)*(a:Nat):=gq
     have D:(if (1114112:Int)<(v:Int)*(a:Nat)+(d:Nat) then 1114112 else (v:Int)*(a:Nat)+(d:Nat))=((min (v*a+d) 1114112:Nat):Int):=gq
     generalize I:(v:Int)*(a:Nat)=o at G D;have J:min (v*a+d) 1114112<=1114112:=oq
     generalize O:min (v*a+d) 1114112=C at *;refine zr<|zk 2<|zo U<|bV (v:=num o) (s1:=U) kq ((show _=some (num<|IntKind.i64.wrap<|(v:Int)*(a:Nat),U) by kernel_rfl).trans<|by rw[I,NV oq])<|zk 1<|zp (yp o (d:Nat) (o+(d:Nat)) W gq)<|zo U<|bV (v:=num C) (s1:=U) kq ((show _=some (num<|if (1114112:Int)<o+(d:Nat) then 1114112 else o+(d:Nat),U) by kernel_rfl).trans<|by rw[D])<|zf<|za U<|zx<|zk 1<|zp (yp A.length 1 ((A.length+1:Nat):Int) oq oq)<|zf ?_;have g:(A++[y]).length=A.length+1:=iq
     exact⟨B.length,by simp,A++[y],B,C,by rw[q];simp,W,W,by rw[g];show(iS a B C).2+1+A.length=_;omega,J,by rw[g];exact c.symm,by rw[g];exact aP kq⟩
    .rw[iw F] at i;rw[i,Nat.zero_add];exact zp (yb (num d) (num a)<|jp (b:=true)<|tD oq)<|aB<|za U<|zH<|cB ⟨W,by rw[<-c];exact h _,aP kq⟩
   .have N:128<=(Utf8.decode ⟨t.toArray⟩ (List.length A)).1/\(Utf8.decode ⟨t.toArray⟩ (List.length A)).1<=1114111:=by rw[<-decodeL_drop];refine⟨?_,decodeL_rune _⟩;rw[decodeL_N];refine OI ?_;grind
    have i:iS a (y::B) v=(v,0):=by
     have:¬lu (y.toNat:Int)<a:=by rw[F4 oq];omega
     unfold iS;rw[iw this]
    rw[i,Nat.zero_add];have p:=F5 (pr:=pr) (s:=qi s t<|A.length+(Utf8.decode ⟨t.toArray⟩ A.length).2) z (r:=((Utf8.decode ⟨t.toArray⟩ A.length).1:Nat)) oq;have m:lu ((Utf8.decode ⟨t.toArray⟩ A.length).1:Nat)=16:=F4 oq;rw[m] at p;refine zr<|zp (TV (b:=s.nx) (l:=t) W kq kU H<|my w) ?_;rw[rV];generalize (Utf8.decode ⟨t.toArray⟩ A.length).1=V at *;generalize c:qi s t _=U at *;exact zf<|za U<|am<|zT<|aD<|zs<|za U<|zr<|zc 1 p<|zf<|za U<|am<|zr<|zk 2<|zp (yb (num 16) (num a)<|jp (b:=true)<|tD oq)<|aB<|za U<|zH<|cB ⟨W,by rw[<-c];exact h _,aP kq⟩
 rintro e k S ⟨rfl,K,x,rfl⟩;generalize (iS a t 0).1=v;generalize (iS a t 0).2=n;exact zs<|za S<|aE ⟨.inr W,kq,K⟩
def UL(a:pr 335=none)(c:v<=1114112):Ef pr 335 #[.int .i32 (v:Int)] s (.bool<|decide (¬((55296<=v/\v<=57343)\/1114111<v))) s:=by
 refine aQ a func335 I<|zs<|am<|aD<|zr<|zk 1<|zp (aI (u:=.int .i32 0) (w:=.int .i32 (v:Int)) I kq kq<|ck<|tD oq)<|zk 2 ?_;by_cases h1:v<55296
 .rw[tD oq];exact zp (aI (u:=.int .i32 (v:Int)) (w:=.int .i32 55296) I kq kq<|eh<|tD oq)<|zf<|za s<|zH<|zs<|aE ⟨.inr I,kq,kq⟩
 .refine zp (aI (u:=.int .i32 (v:Int)) (w:=.int .i32 55296) I kq kq<|eh<|fD oq)<|zf<|za s<|zG<|zr<|zk 1 ?_;by_cases h2:57343<v
  .refine zp (aI (u:=.int .i32 57343) (w:=.int .i32 (v:Int)) I kq kq<|eh<|tD oq)<|zk 2 ?_;by_cases h3:v<=1114111
   .rw[tD oq];exact zp (aI (u:=.int .i32 (v:Int)) (w:=.int .i32 1114111) I kq kq<|ck<|tD oq)<|zf<|za s<|zH<|zs<|aE ⟨.inr I,kq,kq⟩
   .rw[fD oq];exact zp (aI (u:=.int .i32 (v:Int)) (w:=.int .i32 1114111) I kq kq<|ck<|fD oq)<|zf<|za s<|zF<|zs<|aE ⟨.inr I,kq,kq⟩
  .rw[fD oq];exact zp (aI (u:=.int .i32 57343) (w:=.int .i32 (v:Int)) I kq kq<|eh<|fD oq)<|zf<|za s<|zF<|zs<|aE ⟨.inr I,kq,kq⟩
def LG(a:∀f,f∈yF->pr f=none)(i:v<=1114112):Ef pr 371 #[num v] s (.int .i32<|EG v) s:=by
 unfold EG;refine aQ (a 371 dq) func371 I<|zs<|zr<|zg 1 s<|bV (v:=.int .i32 (v:Int)) (s1:=s) kq ((show _=some (Value.int .i32<|fv .i32 (v:Int),s) by kernel_rfl).trans<|by rw[mm oq])<|zf<|za s<|am<|aD<|zr<|zk 1 ?_;by_cases h:v=0
 .subst h;rw[ip (.inl I)];exact zf<|za s<|zH<|zs<|aE ⟨.inr I,kq,kq⟩
 .refine zp (aI (u:=num v) (w:=num 0) I kq kq<|fh (b:=false)<|bF.2 oq)<|zk 2 ?_;have d:Ef pr 335 #[.int .i32 (v:Int)] s _ s:=UL (a 335 dq) i;refine zo s<|zc 0 d ?_;by_cases c:(55296<=v/\v<=57343)\/1114111<v
  .rw[fD (λz=>z c),ip<|.inr c];exact zf<|za s<|zH<|zs<|aE ⟨.inr I,kq,kq⟩
  .rw[tD c,iw oq];refine zf<|za s<|zG<|zr<|zk 1 ?_;by_cases h3:128<=v
   .refine zp (aI (u:=num 128) (w:=num v) I kq kq<|j7 (b:=true)<|tD oq)<|zk 2 ?_;by_cases e:v<=159
    .rw[ip ⟨h3,e⟩];have g:Ef pr 385 #[.int .i32 (v:Nat)] s (.int .i32<|Pz v) s:=by
      have b:=a 385 dq;obtain rfl|rfl|rfl|rfl|rfl|rfl|rfl|rfl|rfl|rfl|rfl|rfl|rfl|rfl|rfl|rfl|rfl|rfl|rfl|rfl|rfl|rfl|rfl|rfl|rfl|rfl|rfl|rfl|rfl|rfl|rfl|rfl:v=128\/v=129\/v=130\/v=131\/v=132\/v=133\/v=134\/v=135\/v=136\/v=137\/v=138\/v=139\/v=140\/v=141\/v=142\/v=143\/v=144\/v=145\/v=146\/v=147\/v=148\/v=149\/v=150\/v=151\/v=152\/v=153\/v=154\/v=155\/v=156\/v=157\/v=158\/v=159:=oq
      all_goals exact fH 30<|by unfold bW;rw[b];kernel_rfl
     generalize Pz v=j at g;exact zp (aI (u:=num v) (w:=num 159) I kq kq<|j7 (b:=true)<|tD oq)<|zf<|za s<|zH<|zr<|zc 1 g<|zf<|aE ⟨.inr I,kq,kq⟩
    .rw[iw oq];exact zp (aI (u:=num v) (w:=num 159) I kq kq<|j7 (b:=false)<|fD oq)<|zf<|za s<|zF<|zs<|aE ⟨.inr I,kq,kq⟩
   .rw[iw oq];exact zp (aI (u:=num 128) (w:=num v) I kq kq<|j7 (b:=false)<|fD oq)<|zf<|za s<|zF<|zs<|aE ⟨.inr I,kq,kq⟩
def lg (c:UInt8):Bq->Bool
 | []=>false
 | y::_=>y.toNat.beq c.toNat
def Gm(c:UInt8)(t:Bq):(decide (([c]:Bq).length<=t.length)&&ce (t.take ([c]:Bq).length) [c])=lg c t:=by
 cases t with
 | nil=>rfl
 | cons y t =>show(decide _&&(if y.toNat.beq c.toNat then ce [] [] else false))=y.toNat.beq c.toNat;cases y.toNat.beq c.toNat<;>simp[ce]
def jD (t:Bq):Nat:=bif lg 120 t||lg 88 t then 1 else 0
def nu (t:Bq):Nat:=bif lg 120 t||lg 88 t then 16 else 10
def fR(t:Bq):Int × Nat :=
 if (iS (nu t) (t.drop<|jD t) 0).2=0 then (0,0)
 else (EG (iS (nu t) (t.drop<|jD t) 0).1,(iS (nu t) (t.drop<|jD t) 0).2+jD t+bif lg 59 (t.drop<|(iS (nu t) (t.drop<|jD t) 0).2+jD t) then 1 else 0)
def vh(h:lg c t=true):1<=t.length:=by
 cases t with
 | nil=>cases h
 | cons y t=>simp
def K4(t:Bq):jD t<=t.length/\jD t<=1:=by
 unfold jD;cases h:lg 120 t||lg 88 t with
 | false=>exact⟨Nat.zero_le _,Nat.zero_le _⟩
 | true =>rw[FM] at h;rcases h with h|h<;>exact⟨vh h,lr⟩
theorem LY(t:Bq):(iS (nu t) (t.drop<|jD t) 0).2+jD t<=t.length:=by have h1:=(Ar (nu t) (t.drop<|jD t) 0 oq).2;have h2:=K4 t;grind
theorem xQ(t:Bq):(fR t).2<=t.length:=by
 unfold fR;split
 .exact Nat.zero_le _
 .cases h:lg 59 _ with
  | false=>exact (LY t)
  | true =>have:=vh h;grind
def Um(t:Bq)(bs fr:Nat)(x:Nq):TL:=[str t,x 1,x 2,x 3,num bs,num fr]++fW x 6 29
def AD(xj:∀f,f∈yF->pr f=none)(c:UInt8)(t:Bq):Ef pr 89 #[str t,str [c]] s (.bool<|lg c t) s:=uy (xj 178 dq) (xj 89 dq)<|Gm c t
theorem Ov(U:∀f,f∈yF->pr f=none)(t:Bq)(I:t.length<=1000000)(D:gi t<kc):∃B,Ef pr 332 #[str t] s (.tuple #[.int .i32 (fR t).1,num ((fR t).2:Nat)]) B/\eQ s.nx s B:=by
 have E:=LY t;have h:=(Ar (nu t) (t.drop<|jD t) 0 oq).1;have r:nu t=10\/nu t=16:=by unfold nu;cases lg 120 t||lg 88 t<;>simp
 have⟨a,y,q⟩:=LZ (pr:=pr) (s:=s) U r (t.drop<|jD t) gq (by have:=xa t (jD t);omega);have p:=AD (pr:=pr) (s:=s) U 120 t;have o:=AD (pr:=pr) (s:=s) U 88 t;refine cm (U 332 dq) func332 W ?_;iterate 2 refine zs ?_
 refine am<|aN (Q:=λe w A=>e=.normal/\s=A/\∃x,w=Um t (nu t) (jD t) x) ?_ ?_
 .unfold nu jD;refine zr ?_;cases h1:lg 120 t with
  | true =>rw[h1] at p;exact zc 1 p<|zf<|za s<|zH<|zx<|zf ⟨W,kq,aP kq⟩
  | false =>
   rw[h1] at p;refine zc 1 p ?_;cases h2:lg 88 t with
   | true =>rw[h2] at o;exact zc 2 o<|zf<|za s<|zH<|zx<|zf ⟨W,kq,aP kq⟩
   | false =>rw[h2] at o;exact zc 2 o<|zf<|za s<|zF ⟨W,W,aP kq⟩
 rintro e w A ⟨rfl,rfl,x,rfl⟩;unfold fR;have g:=AD (pr:=pr) (s:=a) U 59<|t.drop<|(iS (nu t) (t.drop<|jD t) 0).2+jD t;have d:=LG (pr:=pr) (s:=a) U h;have u:(t.take t.length).drop (jD t)=t.drop (jD t):=gq
 have C:∀k,(t.take t.length).drop k=t.drop k:=λk=>by rw[List.take_length]
 generalize iS (nu t) (t.drop<|jD t) 0=H at *;have⟨v,n⟩:=H;simp only at E h g d y |-;generalize t.drop (jD t)=G at *;generalize nu t=J at *;generalize jD t=c at *;refine zr<|zg 2 s<|zp (iL (l:=t) (m:=G) (i:=c) W underlying9 kq ((show _=bM t.length t.length (some<|num c) none by kernel_rfl).trans<|mq oq oq) u)<|zc 1 y<|zf<|za a<|am<|zr<|zk 1 ?_;by_cases z:n=0
 .subst z;rw[ip W];exact zf<|za a<|zH<|zr<|zf<|za a<|aE ⟨.inr W,kq,q⟩
 .rw[iw z];refine zp (yb (num n) (num 0)<|fh<|bF.2 oq)<|aB<|za a<|zF<|zr<|zk 2<|zp (yp n (c:Nat) ((n+c:Nat):Int) oq oq)<|zf<|za a<|am<|zr<|zg 2 a<|zp (iL (l:=t) (i:=n+c) W underlying9 kq ((show _=bM t.length t.length (some<|num ((n+c:Nat):Int)) none by kernel_rfl).trans<|mq oq oq)<|C _)<|zc 0 g ?_;generalize lg 59 (t.drop<|n+c)=F at *;generalize EG v=K at *;cases F with
  | true =>exact aB<|za a<|zH<|zx<|zk 1<|zp (yp ((n+c:Nat):Int) 1 ((n+c+1:Nat):Int) oq oq)<|zf<|za a<|zr<|zc 1 d<|zf<|za a<|aE ⟨.inr W,kq,q⟩
  | false =>exact aB<|za a<|zF<|zr<|zc 1 d<|zf<|za a<|aE ⟨.inr W,kq,q⟩
def jo(r:Bq)(w:Int):Bool:=(w==0)||match r with
 | []=>true
 | y::_=>!eW (y.toNat:Int)&&!decide (48<=(y.toNat:Int)/\(y.toNat:Int)<=57)&&(y.toNat:Int) != 61
def fT (k:Nat):ByteArray × Int × Bool:=Sy.getD k (⟨#[]⟩,0,false)
def jC (k:Nat):Bq:=(fT k).1.data.toList
theorem PE{kt:TypeId->Bool}{c:km}{a:TL}{o:Oper}{i:Operand}(U:o.op=.index 335 x i)(b:a.at x=.agg eZ.toArray)(hi:a.at i=num k)(d:k<18):bS prog kt c a o s=some (.agg (KW<|fT k).toArray,s):=by
 refine fe (by rw[U];rfl) gq ?_;unfold cW;rw[U];unfold uM;rw[U];have h1:(Op.index 335 x i).operands.toList.all (λx=>qL<|a.at x)=true:=by show(qL (a.at x)&&(qL (a.at i)&&true))=true;rw[b,hi];kernel_rfl
 rw[ip h1];have h2:UK (ik prog<|execOp a.at o)=some (.agg (KW<|fT k).toArray):=by
  unfold execOp;rw[U];simp only[b,hi];obtain rfl|rfl|rfl|rfl|rfl|rfl|rfl|rfl|rfl|rfl|rfl|rfl|rfl|rfl|rfl|rfl|rfl|rfl:k=0\/k=1\/k=2\/k=3\/k=4\/k=5\/k=6\/k=7\/k=8\/k=9\/k=10\/k=11\/k=12\/k=13\/k=14\/k=15\/k=16\/k=17:=oq
  all_goals kernel_rfl
 rw[h2];exact ip<|show qL _=true from I
def qI (t:Bq)(w:Int):Nat->Nat->Int × Nat->Int × Nat
 | 0,_,a=>a
 | n+1,k,a=>match jr (jC k) t with
  | none=>qI t w n (k+1) a
  | some r=>bif lg 59 r then ((fT k).2.1,(jC k).length+1) else bif (fT k).2.2&&(decide (a.2<(jC k).length)&&jo r w) then qI t w n (k+1) ((fT k).2.1,(jC k).length) else qI t w n (k+1) a
def qh (t:Bq)(w:Int):Int × Nat:=qI t w 18 0 (38,0)
def GM:∀k,k<18->(jC k).length<=10:=dq
def LW:List FuncId:=[89,147,178,247,269,339,340,372]
abbrev Sq(k:Nat):Obj:=.cells (KW<|fT k).toArray 334
def CX(t:Bq)(w l:Int)(n k:Nat)(x:Nq):TL:=[str t,num w,x 2,x 3,.int .i32 l,num n,x 6,x 7,x 8,x 9,.agg eZ.toArray,num k]++fW x 12 44
def Sk(a:pr 178=none)(c:pr 340=none)(b:pr 269=none)(l p:Bq):Ef pr 269 #[str l,str p] s (.tuple #[str ((jr p l).getD l),.bool (jr p l).isSome]) s:=by
 cases h:jr p l with
 | none=>exact rE a c b<|.inl ⟨I,pL h,I⟩
 | some r=>exact rE a c b<|.inr ⟨I,iv h⟩
def Pt(xj:∀f,f∈LW->pr f=none)(t:Bq)(w:Int){c:Code}(hc:c=(match f333.body with|some (.seq _ (.seq _ (.seq (.seq _ (.block _ (.loop b))) _)))=>b|_=>.skip)) :
  ∀x,Ew pr (.loop c) (CX t w 38 0 0 x) s (λe a' S=>eQ s.nx s S/\(e=.exit 0\/e=.ret)/\∃k x,a'=CX t w (qh t w).1 (qh t w).2 k x):=by
 intro x0;refine aZ (λu a' S=>∃k l n,u+k=18/\qI t w u k (l,n)=qh t w/\n<=10/\eQ s.nx s S/\∃x,a'=CX t w l n k x) ?_ 18 _ _ ⟨0,38,0,rfl,rfl,oq,eQ.refl,x0,rfl⟩;rintro u a' S ⟨k,l,n,hu,hn,Ys,hf,x,rfl⟩;subst hc;by_cases hk:k<18
 .obtain⟨u,rfl⟩:∃v,u=v+1:=⟨u-1,oq⟩;have tw:qI t w (u+1) k (l,n)=match jr (jC k) t with
   | none=>qI t w u (k+1) (l,n)
   | some r=>bif lg 59 r then ((fT k).2.1,(jC k).length+1) else bif (fT k).2.2&&(decide (n<(jC k).length)&&jo r w) then qI t w u (k+1) ((fT k).2.1,(jC k).length) else qI t w u (k+1) (l,n):=rfl
  rw[hn] at tw;clear hn;have hz:=bw S (.cells #[str [],.int .i32 0,.bool false] 334);have hN:=bw S (Sq k);have Gp:eQ s.nx s (S.add (Sq k)):=hf.trans (eQ.add (by have:=hf.1;omega));have ZC:=AS.set_set (⟨S.hp,S.nx+1⟩:AS) S.nx (some (.cells #[str [],.int .i32 0,.bool false] 334)) (some (Sq k));have ZF:=Sk (pr:=pr) (s:=S.add (Sq k)) (xj 178 dq) (xj 340 dq) (xj 269 dq) t (jC k);have Z3:=GM k hk;have hN:Has (S.add (Sq k)) S.nx (.cells #[str (jC k),.int .i32 (fT k).2.1,.bool (fT k).2.2] 334):=hN;have ZC:(S.add _).set S.nx (some (.cells #[str (jC k),.int .i32 (fT k).2.1,.bool (fT k).2.2] 334))=S.add (Sq k):=ZC;have ZO:∀{c:km} {a:TL} {o:Oper} {y i:Operand},o.op=.index 335 y i->a.at y=.agg eZ.toArray->a.at i=num k->bS prog kJ c a o S=some _:=λh1 h2 h3=>PE h1 h2 h3 hk;generalize jC k=nm at *;generalize (fT k).2.1=el at *;generalize (fT k).2.2=eb at *;generalize S.add (Sq k)=S1 at *;refine zr (zk 0 (zp (yb (num k) (num 18) (cj (b:=true) (tD oq))) (aB (za S (am (zT (am (aD (zr (zp (ZO rfl kq kq) (zg 1 _ (zp (eA (b:=S.nx) (off:=0) (w:=.agg #[str nm,.int .i32 el,.bool eb]) rfl kq kq rfl rfl kq hz.2 iq) (aB (za ((S.add (.cells #[str [],.int .i32 0,.bool false] 334)).set S.nx (some (.cells #[str nm,.int .i32 el,.bool eb] 334))) ?_))))))))))))));rw[ZC];refine zr (zg 2 S1 (zp (yl S.nx 0 (str nm) hN.2) (zc 0 ZF ?_)));cases hcr:jr nm t with
  | none =>rw[hcr] at tw;simp only at tw;exact zf (za S1 (aD (zr (zf (za S1 (zT (zx (zp (yp k 1 ((k+1:Nat):Int) oq oq) (zf (⟨u,oq,k+1,l,n,oq,tw.symm,Ys,Gp,aP kq⟩))))))))))
  | some r =>
   rw[hcr] at tw;simp only at tw;have hba:Ef pr 372 #[str r,num w] S1 (.bool<|jo r w) S1:=by
    refine aQ (xj 372 dq) func372 I<|zs<|am<|zr<|zk 1<|zp (aI (u:=num w) (w:=num 0) I kq kq<|fh (b:=w==0) I) ?_;cases hw:(w==(0:Int)) with
    | true =>rw[show jo r w=true by unfold jo;rw[hw];rfl];exact zf<|za S1<|zH<|zs<|aE ⟨.inr I,kq,kq⟩
    | false =>
     cases r with
     | nil =>rw[show jo [] w=true by unfold jo;rw[hw];rfl];exact zf<|za S1<|zH<|zs<|aE ⟨.inr I,kq,kq⟩
     | cons y r =>
      rw[show jo (y::r) w=(!eW (y.toNat:Int)&&!decide (48<=(y.toNat:Int)/\(y.toNat:Int)<=57)&&(y.toNat:Int) != 61) by unfold jo;rw[hw];rfl];have g:=qM (pr:=pr) (s:=S1) (xj 147 dq) (xj 247 dq) (l:=(y.toNat:Int)) (by have:=y.toNat_lt;omega);have f:=yv (pr:=pr) (s:=S1) (xj 339 dq) (y.toNat:Int);have o:=y.toNat_lt;refine zf<|za S1<|zF<|zr<|zk 1<|zp (gp (l:=y::r) (k:=.i64) (n:=0) (b:=y) I underlying9 kq kq oq I) ?_;generalize j:(y.toNat:Int)=yn at *;refine zo S1<|bV (v:=.int .i32 yn) (s1:=S1) kq ((show _=some (Value.int .i32<|fv .i32 yn,S1) by kernel_rfl).trans<|by rw[mm oq])<|zf<|za S1<|zr<|zc 1 g ?_;generalize eW yn=h at *;generalize decide (48<=yn/\yn<=57)=i at *;cases h with
      | true =>exact zf<|aE ⟨.inr I,kq,kq⟩
      | false =>
       refine zc 3 f ?_;cases i with
       | true =>exact zf<|aE ⟨.inr I,kq,kq⟩
       | false =>refine zk 4<|zp (aI (u:=.int .i32 yn) (w:=.int .i32 61) I kq kq<|dI (b:=yn != 61) I) ?_;generalize (yn != (61:Int))=m;exact zf<|aE ⟨.inr I,kq,kq⟩
   have l1:=N9 21 hN.2 (off:=1) rfl;have l2:=N9 9 hN.2 (off:=0) rfl;refine zf (za S1 (aD (zr (zf (za S1 (zG (zr (zc 1 (uy (pr:=pr) (s:=S1) (xj 178 dq) (xj 89 dq) (Gm 59 r)) ?_))))))));cases U3:lg 59 r with
   | true =>
    rw[U3] at tw;have tw:=tw;rw[tw];exact zf (za S1 (zH (am (bO kq kq kq (zq (zt S1 (zu (yl S.nx 1 (.int .i32 el) hN.2) (zq (zt S1 (zu (yl S.nx 0 (str nm) hN.2) (zu (di (l:=nm) rfl underlying9 kq) (zu (yp nm.length 1 ((nm.length+1:Nat):Int) oq oq) (zq<|zq (cg ⟨Dz<|o9 l1 l2,_,_,_,_,_,_,rfl,rfl,za S1 (aE ⟨Gp,.inr rfl,k,aP kq⟩)⟩))))))))))))))
   | false =>
    rw[U3] at tw;have tw:=tw;refine zf (za S1 (zG (zr (zg 1 S1 (zp (yl S.nx 2 (.bool eb) hN.2) ?_)))));cases eb with
    | false =>exact zf<|za S1 (zF (zx (zp (yp k 1 ((k+1:Nat):Int) oq oq) (zf (⟨u,oq,k+1,l,n,oq,tw.symm,Ys,Gp,aP kq⟩)))))
    | true =>
     refine zg 2 S1 (zp (yl S.nx 0 (str nm) hN.2) (zp (di (l:=nm) rfl underlying9 kq) (zk 1 ?_)));by_cases iX:n<nm.length
     .rw[tD iX] at tw;refine zp (yb (num nm.length) (num n) (db (b:=true) (tD oq))) (zo S1 (zc 4 hba ?_));cases Wj:jo r w with
      | true =>
       rw[Wj] at tw;have tw:=tw;exact zf (za S1 (zH (bO kq kq kq (zq (zt S1 (zu (yl S.nx 1 (.int .i32 el) hN.2) (zq (zt S1 (zu (yl S.nx 0 (str nm) hN.2) (zu (di (l:=nm) rfl underlying9 kq) (zq<|zq (cg ⟨Dz<|o9 l1 l2,_,_,_,_,_,_,rfl,rfl,za S1 (zx (zp (yp k 1 ((k+1:Nat):Int) oq oq) (zf (⟨u,oq,k+1,el,nm.length,oq,tw.symm,Z3,Gp,aP kq⟩))))⟩))))))))))))
      | false =>rw[Wj] at tw;have tw:=tw;exact zf (za S1 (zF (zx (zp (yp k 1 ((k+1:Nat):Int) oq oq) (zf (⟨u,oq,k+1,l,n,oq,tw.symm,Ys,Gp,aP kq⟩))))))
     .rw[fD iX] at tw;have tw:=tw;exact zp (yb (num nm.length) (num n) (db (b:=false) (fD oq))) (zf (za S1 (zF (zx (zp (yp k 1 ((k+1:Nat):Int) oq oq) (zf (⟨u,oq,k+1,l,n,oq,tw.symm,Ys,Gp,aP kq⟩)))))))
 .obtain rfl:u=0:=oq
  have hn:(l,n)=qh t w:=hn;rw[<-hn];exact zr (zp (yb (num k) (num 18) (cj (b:=false) (fD oq))) (aB (za S (am (zG (cB ⟨hf,.inl rfl,k,aP kq⟩))))))
structure QL(pr:Prim):Prop where
 no:∀f,f∈yF->pr f=none
 Mi:pr 373=eL 373
 nm:∀(s:AS) (t:Bq) (w:Int),s.get 1=some (.cells eZ.toArray 335)->EF prog kJ pr 333 #[str t,num w] s (.tuple #[.int .i32 (qh t w).1,num ((qh t w).2:Nat)]) s
def gY (t:Bq)(w:Int):Int × Nat:=bif lg 35 t then (if (fR<|t.drop 1).2=0 then (38,0) else ((fR<|t.drop 1).1,(fR<|t.drop 1).2+1)) else qh t w
def rC (c:UInt8):Bq->Option (Bq × Bq)
 | []=>none
 | y::l=>if y=c then some ([],l) else (rC c l).map λp=>(y::p.1,p.2)
theorem FZ{c:UInt8}:∀{l:Bq},rC c l=none->c∉l
 | [],_=>iq
 | y::l,h=>by
  unfold rC at h;split at h
  .cases h
  .next U =>have:=FZ (by simpa using h);grind
theorem rD{c:UInt8}:∀{l a b:Bq},rC c l=some (a,b)->c∉a/\l=a++c::b
 | [],a,b,h=>by cases h
 | y::l,a,b,h=>by
  unfold rC at h;split at h
  .grind
  .next hy =>
   cases U:rC c l with
   | none=>rw[U] at h;cases h
   | some p =>rw[U] at h;cases h;have⟨h1,h2⟩:=rD U;grind
def DD:Nat->Bq->Int->Bq
 | 0,_,_=>[]
 | n+1,t,w=>match rC 38 t with
  | none=>t
  | some p=>p.1++(encodeRune (gY p.2 w).1++DD n (p.2.drop (gY p.2 w).2) w)
def e8 (t:Bq)(w:Int):Bq:=DD (t.length+1) t w
theorem A5:∀(n:Nat) (t:Bq) (w:Int),(DD n t w).length<=4*t.length
 | 0,t,w=>Nat.zero_le _
 | n+1,t,w=>by
  unfold DD;cases h:rC 38 t with
  | none=>show t.length<=_;omega
  | some p =>
   have⟨_,h2⟩:=rD h;have h3:=A5 n (p.2.drop (gY p.2 w).2) w;have c:=encodeRuneZ_length (gY p.2 w).1;have d:(encodeRune (gY p.2 w).1).length=(encodeRuneZ (gY p.2 w).1).length:=by simp[encodeRune]
   grind
theorem u7(t:Bq)(w:Int):∀(n k:Nat) (a:Int × Nat),k+n<=18->Good a.1->a.2<=t.length->Good (qI t w n k a).1/\(qI t w n k a).2<=t.length
 | 0,k,a,hk,h1,h2=>⟨h1,h2⟩
 | n+1,k,a,hk,h1,h2=>by
  have U:Good (fT k).2.1:=by
   have:∀j,j<18->(0<=(fT j).2.1/\(fT j).2.1<55296):=dq
   exact .inl<|this k oq
  unfold qI;cases hc:jr _ t with
  | none=>exact u7 t w n (k+1) a oq h1 h2
  | some r =>
   have b:t.length=(jC k).length+r.length:=by rw[iv hc];simp
   simp only;cases hh:lg 59 r with
   | true=>exact⟨U,by have:=vh hh;show(jC k).length+1<=_;omega⟩
   | false =>
    cases (fT k).2.2&&(decide (a.2<(jC k).length)&&jo r w) with
    | true=>exact u7 t w n (k+1) _ oq U gq
    | false=>exact u7 t w n (k+1) a oq h1 h2
def Ry(t:Bq)(w:Int)(b:Nat)(x:Nq):TL:=[str t,num w,x 2,x 3,x 4,aF b 0]++fW x 6 27
def BW.oj(h:BW s N b l)(c:eQ s.nx s s'):BW s' N b l:=by
 have⟨h1,h2,p,f,h3,e,a⟩:=h;have g:=c.1;refine⟨h1,oq,p,f,(c.2 b h2).trans h3,e,?_⟩;rcases a with a|⟨d,fz,q1,q2,q3,q4,q5⟩
 .exact .inl a
 .exact .inr ⟨d,fz,q1,q2,oq,q4,(c.2 d q3).trans q5⟩
def Gv(a:QL pr)(l:Bq)(c:UInt8):Ef pr 341 #[str l,str [c]] s (num<|if ce [c] l=true then 0 else mw c.toNat l 0) s:=by
 have d:Ef pr 373 #[str l,.int .u8 (c.toNat:Int)] s (num<|mw c.toNat l 0) s:=by obtain⟨g,b⟩:∃g,eL 373=some g:=⟨_,I⟩;have i:=fH (P:=prog) (kt:=kJ) (pr:=eL) (f:=373) (args:=#[str l,.int .u8 c.toNat]) (s:=s) (v:=num<|mw ((c.toNat:Int).toNat % 256) l 0) (s':=s) 1 kq;rw[toNat_mod] at i;have⟨m,i⟩:=i;refine fI (a.Mi.trans b) ?_;unfold bW at i;rw[b] at i;exact i
 refine aQ (a.no 341 dq) func341 I ?_;iterate 2 refine zs ?_
 refine am<|aD<|zr<|zk 5<|zp (aI (u:=str [c]) (w:=str l) I kq kq<|nt (b:=ce [c] l) I) ?_;cases h:ce [c] l with
 | true =>rw[ip I];exact zf<|za s<|zH<|zs<|aE ⟨.inr I,kq,kq⟩
 | false =>rw[iw dq];exact zf<|za s<|zG<|zr<|zf<|za s<|zH<|zr<|zk 2<|zp (gp (l:=[c]) (k:=.i64) (n:=0) (b:=c) I underlying9 kq kq oq I)<|zo s<|zc 0 d<|zf<|aE ⟨.inr I,kq,kq⟩
theorem Ll(U:QL pr)(h:c∉l):Ef pr 341 #[str l,str [c]] s (num<|-1) s:=by have:=Gv (s:=s) U l c;rw[rU h,Oq gq] at this;exact this
theorem Lm(U:QL pr){b:Bq}(h:c∉a):Ef pr 341 #[str (a++c::b),str [c]] s (num a.length) s:=by
 have:=Gv (s:=s) U (a++c::b) c;rw[vU h] at this;by_cases d:ce [c] (a++c::b)=true
 .have e:=(eS _ _).1 d;have f:a=[]:=by
   cases a with
   | nil=>rfl
   | cons x a=>simp at e
  grind
 .grind
def Sj(d:QL pr){x b:Bq}{t:Bool}(h:Vm c x a b t)(e:x.length<=1000000):Ef pr 331 #[str x,str [c]] s (.tuple #[str a,str b,.bool t]) s:=by
 refine aQ (d.no 331 dq) func331 I<|zs<|am<|zr<|zk 2 ?_;rcases h with ⟨rfl,h,rfl,rfl⟩|⟨rfl,h,rfl⟩
 .exact eM #[str a,str [c]] kq I I kq kq (Ll d h)<|zf<|cu 50 kq<|m8 50 .ret kq ⟨.inr I,by kernel_rfl,by kernel_rfl⟩
 .have f:a.length+(b.length+1)<=1000000:=by simpa using e
  exact eM #[str (a++c::b),str [c]] kq I I kq kq (Lm d h)<|zf<|zs<|zH<|am<|bO kq kq kq<|zq<|zq<|zu (iL (l:=a++c::b) (i:=0) (j:=a.length) I underlying9 kq ((show _=bM (a++c::b).length (a++c::b).length none (some<|num a.length) by kernel_rfl).trans<|D2 oq<|by simp;omega)<|Nv _ _ _)<|zq<|zq<|zq<|zq<|zu (dV (i:=a.length) (j:=1) (r:=a.length+1) I kq kq I oq)<|zu (iL (l:=a++c::b) (i:=a.length+1) I underlying9 kq ((show _=bM (a++c::b).length (a++c::b).length (some<|num<|a.length+1) none by kernel_rfl).trans<|mq oq<|by simp;omega)<|KI _ _ _)<|zq<|zq<|zq<|cg ⟨kq,_,_,_,_,_,_,I,I,aE<|⟨.inr I,by kernel_rfl,by kernel_rfl⟩⟩
def QW(d:QL pr){x b:Bq}{t:Bool}(h:Vm c x a b t)(e:x.length<=1000000):Ef pr 262 #[str x,str [c]] s (.tuple #[str a,str b,.bool t]) s:=by exact aQ (d.no 262 dq) func262 I<|zs<|zr<|zc 2 (Sj (s:=s) d h e)<|zf yR
theorem Xv(U:QL pr)(t:Bq)(v:t.length<=900000)(w:Int)(h1:Has s 1 (.cells eZ.toArray 335))(hk:gi t<kc):∃n,Ef pr 263 #[str t,num w] s (.tuple #[.int .i32 (gY t w).1,num ((gY t w).2:Nat)]) n/\eQ s.nx s n:=by
 have q:=AD (pr:=pr) (s:=s) U.no 35 t;have p:=U.nm s t w h1.2;have c:=xQ<|t.drop 1;have⟨e,k,d⟩:=Ov (pr:=pr) (s:=s) U.no (t.drop 1) gq (by have:=xa t 1;omega);have g:(t.take t.length).drop 1=t.drop 1:=gq
 unfold gY;refine cm (U.no 263 dq) func263 I<|zs<|am<|zr<|zc 1 q ?_;cases a0:lg 35 t with
 | true =>
  have u:=vh a0;rw[List.length_drop] at c;generalize fR (t.drop 1)=o at *;have⟨f,a⟩:=o;simp only at k c |-;generalize t.drop 1=r at *;refine zf<|za s<|zH<|zr<|zg 1 s<|zp (iL (l:=t) (m:=r) (i:=1) (j:=t.length) I underlying9 kq ((show _=bM t.length t.length (some<|num 1) none by kernel_rfl).trans<|mq oq oq) g)<|zc 0 k<|zf<|za e<|am<|zr<|zk 1 ?_;by_cases h:a=0
  .subst h;exact zf<|za e<|zF<|zs<|za e<|aE ⟨.inr I,kq,d⟩
  .rw[show(bif true then (if a=0 then ((38:Int),0) else (f,a+1)) else qh t w)=(f,a+1) from iw h];exact zp (yb (num a) (num 0)<|db (b:=true)<|tD oq)<|aB<|za e<|zH<|zr<|zk 2<|zp (yp 1 (a:Nat) ((a+1:Nat):Int) oq oq)<|zf<|za e<|aE ⟨.inr I,kq,d⟩
 | false =>exact zf<|za s<|zF<|zr<|zc 2 p<|zf<|za s<|aE ⟨.inr I,kq,eQ.refl⟩
theorem UQ(F:QL pr)(t:Bq)(ae:t.length<=100000)(w:Int)(h1:Has s 1 (.cells eZ.toArray 335))(hk:gi t<=kc):∃s1,Ef pr 157 #[str t,num w] s (str<|e8 t w) s1/\eQ s.nx s s1:=by
 have U:=F.no;have T:=bw s<|.cells #[.pointer none,aX] 119;have O:eQ s.nx s (s.add<|.cells #[.pointer none,aX] 119):=eQ.add lr;have L:BW _ s.nx s.nx []:=⟨lr,T.1,_,_,T.2,.inl rfl,.inl ⟨rfl,rfl⟩⟩;refine cm (U 157 dq) func157 rfl ?_;iterate 2 refine zs ?_
 refine za (s.add<|.cells #[.pointer none,aX] 119) ?_;generalize s.add _=S0 at *;refine ea (Ry t w s.nx) kq ?_;intro x0;refine aD<|aZ (λu W S=>∃f d n,u=f.length/\gi f<=kc/\d++DD n f w=e8 t w/\f.length<n/\d.length+4*f.length<=400000/\BW S s.nx s.nx d/\(d=[]->∃p,S.get s.nx=some (.cells #[p,aX] 119)/\(p=.pointer none\/p=aF s.nx 0))/\eQ s.nx s S/\∃x,W=Ry f w s.nx x) ?_ t.length _ _ ⟨t,[],t.length+1,rfl,hk,rfl,by omega,by simp;omega,L,λ_=>⟨_,T.2,.inl rfl⟩,O,x0,rfl⟩;rintro u W S ⟨f,d,n,rfl,hwf,q,hn,hl,Y,E,C,x,rfl⟩;obtain⟨n,rfl⟩:∃m,n=m+1:=⟨n-1,by omega⟩;have Q:DD (n+1) f w=match rC 38 f with
  | none=>f
  | some p=>p.1++(encodeRune (gY p.2 w).1++DD n (p.2.drop (gY p.2 w).2) w):=rfl
 rw[Q] at q;refine aD ?_;cases hc:rC 38 f with
 | none =>
  rw[hc] at q;have q:d++f=e8 t w:=q;have H:=QW (pr:=pr) (s:=S) F (c:=38) (x:=f) (a:=f) (b:=[]) (t:=false) (.inl ⟨rfl,FZ hc,rfl,rfl⟩) oq;rw[<-q];refine zr<|zc 1 H<|zf<|za S ?_;by_cases Z:d++f=[]
  .obtain⟨rfl,rfl⟩:=List.append_eq_nil_iff.1 Z;have⟨p,q1,q2⟩:=E rfl;have⟨r,g0,g1,g2,g3⟩:=tg (pr:=pr) (U 261 dq) q1 q2;have R:∃v g,Ef pr 156 #[aF s.nx 0,str []] S v g/\(∃p,g.get s.nx=some (.cells #[p,aX] 119))/\eQ s.nx s g:=by exact lN (U 156 dq) func156 rfl<|zs<|zr<|zc 1 g0<|aB<|za r<|zr<|zg 4 r<|zp (yl s.nx 1 aX g2)<|zg 1 r<|zp (Aw (sl:=aX) (m:=[]) rfl kq kq underlying55 underlying9 kq kq dq rfl<|BE<|.inl rfl)<|zg 2 r<|zp (ys s.nx 1 aX g2 iq)<|aB<|za (r.set s.nx<|some<|.cells #[aF s.nx 0,aX] 119)<|zs<|za (r.set s.nx<|some<|.cells #[aF s.nx 0,aX] 119)<|aE ⟨.inr rfl,.tuple #[num 0,.nilIface],kq,⟨_,by rw[AS.aU,ip rfl]⟩,⟨by show s.nx<=r.nx;have:=C.1;omega,λk hk=>by rw[AS.aU,iw oq,g3 k oq];exact C.2 k hk⟩⟩
   obtain⟨v,g,B,⟨p2,q3⟩,z⟩:=R;have y:=yY (pr:=pr) (U 84 dq) q3;exact zr<|zc 1 B<|aB<|za g<|am<|zr<|zf<|za g<|zH<|zr<|zc 0 y<|zf<|za g<|aE ⟨.inr rfl,kq,z⟩
  .have⟨g,B,I,z⟩:=A8 (pr:=pr) (m:=f) (U 261 dq) (U 156 dq) Y oq;have⟨A,y,h⟩:=wU (pr:=pr) (U 84 dq) I Z gq;generalize d++f=tx at *;exact zr<|zc 1 B<|aB<|za g<|am<|zr<|zf<|za g<|zH<|zr<|zc 0 y<|zf<|za A<|aE ⟨.inr rfl,kq,(C.trans z).trans h⟩
 | some p =>
  have⟨a,b⟩:=p;rw[hc] at q;have q:=q;have⟨c1,X⟩:=rD hc;have iX:f.length=a.length+(b.length+1):=by rw[X];simp
  have H:=QW (pr:=pr) (s:=S) F (c:=38) (x:=f) (a:=a) (b:=b) (t:=true) (.inr ⟨rfl,c1,X⟩) oq;have⟨g,B,I,z⟩:=A8 (pr:=pr) (m:=a) (U 261 dq) (U 156 dq) Y oq;have o:=C.trans z;have K:Has g 1 (.cells eZ.toArray 335):=⟨by have:=h1.1;have:=o.1;omega,(o.2 1 h1.1).trans h1.2⟩;have⟨A,a6,h⟩:=Xv (s:=g) F b oq w K (by rw[X,eJ] at hwf;have:gi (38::b)=1+gi b:=rfl;omega);have⟨r1,r2⟩:Good (gY b w).1/\(gY b w).2<=b.length:=by
   unfold gY;cases h:lg 35 b with
   | false=>exact u7 b w 18 0 _ oq (.inl ⟨dq,dq⟩)<|Nat.zero_le _
   | true =>
    have h2:=xQ<|b.drop 1;rw[List.length_drop] at h2;show Good (if (fR<|b.drop 1).2=0 then (38,0) else ((fR<|b.drop 1).1,(fR<|b.drop 1).2+1)).1/\_;split
    .exact⟨.inl ⟨dq,dq⟩,Nat.zero_le _⟩
    .next U =>
     refine⟨?_,by show(fR<|b.drop 1).2+1<=_;omega⟩;show Good (fR<|b.drop 1).1;unfold fR at U |-;split
     .grind
     .unfold EG;split
      .exact .inr ⟨oq,oq⟩
      .split
       .next h=>exact IE _ h.1 h.2
       .unfold Good;omega
  have M:=I.oj h;have D:eQ s.nx g A:=⟨h.1,λk hk=>h.2 k<|by have:=o.1;omega⟩;have⟨G,v4,a5,N,P,_⟩:=wD (pr:=pr) (U 261 dq) (U 180 dq) (U 346 dq) (U 275 dq) M r1 gq;have Wr:=encodeRuneZ_length (gY b w).1;have hel2:(encodeRune (gY b w).1).length=(encodeRuneZ (gY b w).1).length:=by simp[encodeRune]
  have a8:(b.take b.length).drop (gY b w).2=b.drop (gY b w).2:=gq
  have ab:(b.drop (gY b w).2).length<=b.length:=gq
  rw[<-uW,<-uW] at q;have a7:d++a++encodeRune (gY b w).1≠[]:=λe=>by have:=congrArg List.length e;simp only[lA,List.length_nil] at this;omega
  have a9:(d++a++encodeRune (gY b w).1).length<=d.length+a.length+4:=gq
  generalize encodeRune (gY b w).1=er at *;generalize (gY b w).1=rl at *;generalize (gY b w).2=V at *;generalize aa:b.drop V=J at *;exact zr<|zc 1 H<|zf<|za S<|zr<|zc 1 B<|aB<|za g<|am<|zr<|zf<|za g<|zF<|zr<|zc 2 a6<|zf<|za A<|zr<|zc 1 a5<|aB<|za G<|zx<|zg 2 G<|zp (iL (l:=b) (m:=J) (i:=V) (j:=b.length) rfl underlying9 kq ((show _=bM b.length b.length (some<|num V) none by kernel_rfl).trans<|mq oq oq) a8)<|zg 1 G<|aB ⟨J.length,by omega,J,d++a++er,n,rfl,by rw[<-aa];have:=xa b V;rw[X,eJ] at hwf;have:gi (38::b)=1+gi b:=rfl;omega,q,by omega,by omega,N,λe=>absurd e a7,((C.trans z).trans D).trans P,aP kq⟩
variable {An:dQ}
section
variable {KT:TypeId->Prop}{O:ι->Nat->Prop}{args:Aq}{v:Value}
def xe(Y:Cy P KT N0 M O R D X Hd)(g:∀b,k<=b->An b=none)(j:args.toList.all (gj m)=true)(p:gj m v=true)(h:mo P KT An R D X Hd f args ⟨[],k⟩ v s1):Sound P KT An R D X Hd f args s v s:=by
 intro S l q i w c u t r z;rw[aT] at j;have e:=r.B0 λx n y A=>iE (j x n) A;subst e;have d:∀b o,(⟨[],k⟩:AS).get b=some o->False:=λb o a=>by unfold AS.get at a;simp at a
 refine(h An [] _ i w c ⟨λb o a=>(d b o a).elim,λb F o I x N a=>(d b o a).elim,λb o a=>(d b o a).elim,aR An⟩ t (jA λx n=>eu<|j x n) λb a=>g b a).mono ?_;rintro G K L ⟨E,H,J,B,C⟩;refine⟨S,l,aR S,λ_ _=>W,u,mQ Y B,?_⟩;rw[iE p C];exact eu p
theorem xD(e:cb P KT An R D X Hd pr){V:Aq->Option Value}(i:∀a v s,V a=some v->Sound P KT An R D X Hd f a s v s):cb P KT An R D X Hd (lF f V pr):=by
 constructor
 .intro g h a s v c U b;unfold lF at U;split at U
  .grind
  .exact e.nx g h a s v c U b
 .intro g h a s v c U b;unfold lF at U;split at U
  .next d =>have d:=ja d;grind
  .exact e.sound g h a s v c U b
variable {aA:TL}{K:TL->AS->Prop}{ops:Array Oper}
def FC(Y:Cy P KT N0 M O R D X Hd)(G:ops[k]?=some o)(hw:Region.wanted o (bK ops aA)=true){t:TypeId}{d:TypeDesc}{q:Tmp}{g:Nat}{vs:Vq}(r:o.op=.load t (.tmp q))(hx:aA.at (.tmp q)=aF nm off)(y:An nm=some (g,z,e))(H:P.underlying t=some d)(p:d.isRow=true)(hi:(P.info? t).map (·.size)=some vs.length)(hv:gj m (.agg vs.toArray)=true)(j:∀i l w,Hd i l w->M i w g/\w.rangeAt g off vs)(kk:WO P KT An X Hd ops (k+1) (aA.put o.dst<|.agg vs.toArray) s K):WO P KT An X Hd ops k aA s K:=by
 intro N S l Q i w a I E B v V A kx;rw[jT (oa.1 G).1];have u:a.eval (.tmp q)=.pointer (some ⟨g,off,none⟩):=by have:=iI (x:=.tmp q) v rfl;rw[hx] at this;have⟨g',z',e',h1,h2⟩:=this.ptr;rw[E.an _ _ y] at h1;cases h1;exact h2
 refine aM Y.C G (by rw[gr v];exact hw) λb U Kx T=>?_;have c:=(Y.Z B).rely B U;have⟨n,F⟩:=j i _ b c;have h:=run_loadAt_mid b g off t vs d F H p hi;have hr:(execOp a.eval o).run P b=.ok (.value<|.agg vs.toArray) b:=by unfold execOp;simp only[r,u,Sem.run_bind,Sem.run_pure,Result.andThen_ok,h]
 have W:(execOp a.eval o).events P b #[]=(Instr.loadAt t<|.pointer<|some ⟨g,off,none⟩).events P b #[]:=by unfold execOp;simp only[r,u,Sem.events_bind,h,Result.evThen_ok,Sem.events_pure]
 rw[hr];refine T _ _ ⟨?_,kk N S l Q i b _ I E c (ki v (eu hv) _) ?_ A kx⟩
 .refine(Y.Z c).env.jb ((Y.Z c).size c) (dM _) λL f=>?_;have f:=mem_listed f;rw[W] at f;have⟨J,h1,h2⟩:=gM b g off t vs d F H p hi L f;exact .inl ⟨J,h1,by rw[h2];exact n⟩
 .cases Cf:o.dst<;>exact V
end
def UJ (args:Aq):Option Value:=match args.toList with
 | [.string x]=>match x.data.toList with
  | 239::191::189::_=>some<|.tuple #[.int .i32 65533,num 3]
  | _=>none
 | _=>none
def CU:AS:=⟨[],4⟩
def Xy:AS:=CU.add<|.cells #[.int .u8 0,.int .u8 0] 344
def sDc:AS:=Xy.set 4<|some<|.cells #[.int .u8 128,.int .u8 191] 344
variable {O:ι->Nat->Prop}
theorem KF(Y:Cy prog dt N0 M O R D X Hd)(h2:An 2=some (2,z2,e2))(h3:An 3=some (3,z3,e3))(g:Tb M Hd)(q:Bq):mo prog dt An R D X Hd 382 #[str (239::191::189::q)] CU (.tuple #[.int .i32 65533,num 3]) sDc:=by
 have d:=pV (An:=An) Y;have r:(239::191::189::q:Bq).length=q.length+3:=I;generalize p:(239::191::189::q:Bq)=f at r;have s:f[0]?=some 239:=gq
 have t:f[1]?=some 191:=gq
 have y:f[2]?=some 189:=gq
 clear p;refine mo.of Y cL func382 I<|bR Y<|fo Y kq cx d cL<|cu 5 kq<|bR Y<|fo Y kq cx d cL<|zx<|zk 1<|zp (di (l:=f) I underlying9 kq)<|zf<|bR Y<|bR Y<|fo Y kq cx d cL<|zx<|zk 1<|zp (aI (u:=num f.length) (w:=num 1) I kq kq<|cj (b:=false)<|fD oq)<|aB<|fo Y kq cx d cL<|zF<|bR Y<|fo Y kq cx d cL<|zx<|zk 1<|zp (gp (l:=f) (b:=239) (k:=.i64) (n:=0) I underlying9 kq kq dq s)<|zf<|bR Y<|WI.region Y<|gg Y cx (v:=.int .u8 239) (s1:=CU) I (λS a e c x U=>?_) kq kq ?_
 .simp[Op.operands] at U;subst U;exact iI c I
 refine gg Y cx (v:=aF 2 239) (s1:=CU) I (λS a e c x U=>?_) kq kq ?_
 .simp[Op.operands] at U;rcases U with rfl|rfl
  .exact dk<|e _ _ h2
  .exact iI c I
 refine WO.load Y (v:=.int .u8 3) I kq (q:=20) (nm:=2) (off:=239) I kq h2 underlying5 I I (λi l w h=>⟨(g i l w h).1,(g i l w h).2.2.2.1⟩)<|gg Y cx (v:=.int .u8 3) (s1:=CU) I (λS a e c x U=>?_) kq kq ?_
 .simp[Op.operands] at U;subst U;exact iI c I
 refine WO.nil Y I ?_;iterate 2 refine bR Y<|fo Y kq cx d cL<|cu 9 kq ?_
 refine bR Y<|WI.region Y<|gg Y cx (v:=.int .u8 3) (s1:=CU) I (λS a e c x U=>?_) kq kq ?_
 .simp[Op.operands] at U;subst U;exact iI c I
 refine gg Y cx (v:=.int .u8 0) (s1:=CU) I (λS a e c x U=>?_) kq kq ?_
 .simp[Op.operands] at U;rcases U with rfl|rfl
  .exact iI c I
  .exact bn I
 refine gg Y cx (v:=aF 3 0) (s1:=CU) I (λS a e c x U=>?_) kq kq ?_
 .simp[Op.operands] at U;rcases U with rfl|rfl
  .exact dk<|e _ _ h3
  .exact iI c I
 refine FC Y (m:=2) (vs:=[.int .u8 128,.int .u8 191]) I kq (q:=41) (nm:=3) (off:=0) I kq h3 underlying344 I kq I (λi l w h=>⟨(g i l w h).2.1,λj v o=>?_⟩) ?_
 .match j with
  | 0=>cases o;exact(g i l w h).2.2.2.2.1
  | 1=>cases o;exact(g i l w h).2.2.2.2.2
  | j+2=>cases o
 refine gg Y cx (v:=aF 4 0) (s1:=Xy) I (λS a e c x U=>?_) kq kq ?_
 .simp[Op.operands] at U
 refine gg Y cx (v:=undef) (s1:=sDc) I (λS a e c x U=>?_) kq kq ?_
 .simp[Op.operands] at U;rcases U with rfl|rfl
  iterate 2
   .exact iI c I
 refine WO.nil Y I<|bR Y<|bR Y<|fo Y kq cx d cL<|zx<|zk 2<|zp (aI (u:=num f.length) (w:=num 3) I kq kq<|cj (b:=false)<|fD oq)<|aB<|fo Y kq cx d cL<|zF<|bR Y<|fo Y kq cx d cL<|zx<|zk 1<|zp (gp (l:=f) (b:=191) (k:=.i64) (n:=1) I underlying9 kq kq dq t)<|zf ?_;iterate 2 refine bR Y<|fo Y kq cx d cL<|cu 12 kq ?_
 exact bR Y<|fo Y kq cx d cL<|zx<|zk 1<|zp (gp (l:=f) (b:=189) (k:=.i64) (n:=2) I underlying9 kq kq dq y)<|zf<|fo Y kq cx d cL<|m8 30 .ret kq ⟨.inr I,kq,kq⟩
def KE(Y:Cy prog dt N0 M O R D X Hd)(l:QB An)(n:Tb M Hd)(args:Aq)(v:Value)(s:AS)(h:UJ args=some v):Sound prog dt An R D X Hd 382 args s v s:=by
 obtain⟨_,⟨t,i,h2⟩,u,j,h3⟩:=l;unfold UJ at h;split at h
 .next x r =>
  split at h
  .next q p =>
   cases h;have o:args=#[str (239::191::189::q)]:=by apply vp.1;rw[r];rw[<-p]
   rw[o];obtain⟨A,g,e,f,c⟩:∃A:dQ,(∀b,4<=b->A b=none)/\A 2=some _/\A 3=some _/\A.le An:=⟨λb=>if b<4 then An b else none,λb a=>iw oq,by simpa using h2,by simpa using h3,λb y d=>by
    by_cases a:b<4
    .simpa[a] using d
    .simp[a] at d⟩;exact iZ c<|xe (m:=2) Y g I I<|KF Y e f n q
  .cases h
 .cases h
def KD(a:pr 357=none)(b:∀q:Bq,Ef pr 382 #[str (239::191::189::q)] s (.tuple #[.int .i32 65533,num 3]) s)(q:Bq):Ef pr 357 #[str (239::191::189::q)] s (.tuple #[.int .i32 65533,num 3]) s:=by exact aQ a func357 I<|zs<|am<|zs<|zG<|zx<|zc 1 (b q)<|zf<|aE ⟨.inr I,kq,kq⟩
def IP(h:f∈LW):eL f=none:=by simp[LW,pS,IA,or_false] at h;rcases h with rfl|rfl|rfl|rfl|rfl|rfl|rfl|rfl<;>rfl
def JC{P:Program}{KT:TypeId->Prop}{c:Code}{a a2:TL}{Q:Exit->TL->AS->Prop}(h:a=a2)(k:WI P KT An X Hd c a2 s Q):WI P KT An X Hd c a s Q:=h▸k
section
variable (Y:Cy prog dt N0 M O R D X Hd)
def Ou(h1:An 1=some (1,z,e))(t:Bq)(k:Int):∃s1:AS,s1.get 1=some (.cells eZ.toArray 335)/\mo prog dt An R D X Hd 333 #[str t,num k] s9 (.tuple #[.int .i32 (qh t k).1,num ((qh t k).2:Nat)]) s1:=by
 have l:=pV (An:=An) Y;have⟨n,e1,p,s1,h,i,g,j,x,r⟩:=Pt (s:=s9) (λf i=>IP i) t k I<|λ_=>undef;refine⟨s1,(i.2 1 dq).trans I,?_⟩;have y:∀{c:Code},c=(match f333.body with|some (.seq _<|.seq _<|.seq (.seq _<|.block _<|.loop b) _)=>b|_=>.skip)->Ew eL (.loop c) (CX t k 38 0 0<|λ_=>undef) s9 (λe m S=>(e=.exit 0\/e=.ret)/\S=s1/\m=CX t k (qh t k).1 (qh t k).2 j x):=λu=>⟨n,e1,p,s1,u▸h,g,I,r⟩;refine mo.of Y cL func333 I ?_;iterate 2 refine bR Y<|fo Y kq cx l cL<|cu 5 kq ?_
 refine bR Y<|bR Y<|WI.region Y<|gg Y cx (v:=.agg eZ.toArray) (s1:=s9) I (λS a o q x d=>?_) kq kq ?_
 .simp[Op.operands] at d;subst d;exact dk<|o _ _ h1
 refine gg Y cx (v:=num 0) (s1:=s9) I (λS a o q x d=>?_) kq kq ?_
 .simp[Op.operands] at d;subst d;exact bn I
 refine WO.nil Y I<|JC kq<|fo Y kq cx l cL<|aD<|aN (y I) λe m S w=>?_;obtain⟨g,rfl,rfl⟩:=w;rcases g with rfl|rfl
 .exact fo Y kq cx l cL<|zs<|za S<|aE ⟨.inr I,kq,I⟩
 .exact⟨.inr I,kq,I⟩
end
def Mr (pr:Prim):Prim:=λg=>if g.beq 333 then some λa s=>match a.toList with
  | [.string x,.int .i64 k]=>match s.get 1 with
   | some (.cells cs 335 (0,0))=>if yd cs.toList=true then some (.tuple #[.int .i32 (qh x.data.toList k).1,num ((qh x.data.toList k).2:Nat)],s) else none
   | _=>none
  | _=>none
 else pr g
theorem GV(c:∀f g a s v b,pr f=some g->g a s=some (v,b)->s.nx<=b.nx):∀f g a s v b,Mr pr f=some g->g a s=some (v,b)->s.nx<=b.nx:=by
 intro f g a s v b U h;unfold Mr at U;split at U
 .grind
 .exact c _ _ _ _ _ _ U h
def PU(Y:Cy prog dt N0 M O R D X Hd)(h1:An 1=some (1,z,e))(hp:cb prog dt An R D X Hd pr):cb prog dt An R D X Hd (Mr pr):=by
 refine⟨GV hp.nx,λf g args s v s' hf h=>?_⟩;unfold Mr at hf;split at hf
 .next he =>
  have he:=ja he;subst he;cases hf;simp only at h;split at h
  .next x k ha =>
   split at h
   .next cs U6 =>
    split at h
    .next hc =>
     cases h;rw[rZ ha];have Q7:cs=eZ.toArray:=by apply vp.1;simp[vJ hc]
     subst Q7;obtain⟨A,g,a,d⟩:∃A:dQ,(∀b,2<=b->A b=none)/\A 1=some _/\A.le An:=⟨λb=>if b=1 then An b else none,λb c=>iw oq,by simpa using h1,λb y f=>by
      by_cases c:b=1
      .simpa[c] using f
      .simp[c] at f⟩;have⟨i,g1,g2⟩:=Ou Y a x.data.toList k;exact iZ d<|pG (m:=2) Y a g kq MD I g1 U6 I I g2
    .cases h
   .cases h
  .cases h
 .exact hp.sound _ _ _ _ _ _ hf h
section
variable {V:Aq->Option Value}
theorem xm.add(h:xm rn pr all)(e:∀a v,V a=some v->a.toList.all (gj m)=true/\gj m v=true/\∃p,Ef pr f a ⟨[],rn+1⟩ v p):xm rn (lF f V pr) all:=by
 have⟨d,U⟩:=h;refine⟨λg k a s v o b j=>?_,λY A i n c l=>cb.add Y nM cx cL c (U Y A i n c l) e⟩;unfold lF at b;split at b
 .grind
 .exact d g k a s v o b j
def Ig(d:∀f g a s v b,pr f=some g->g a s=some (v,b)->s.nx<=b.nx){h:Aq->AS->Option Value}:∀g k a s v b,mW f h (bW prog kJ pr n f) pr g=some k->k a s=some (v,b)->s.nx<=b.nx:=by
 intro g k a s v b e c;unfold mW at e;split at e
 .cases e;simp only at c;split at c
  .cases c;exact l8 _
  .exact(yk d n).2 _ _ _ _ _ c
 .exact d g k a s v b e c
end
