import Derived.Test.YtgcaionclkbehaaGreatDoorG10
set_option linter.all false
set_option maxHeartbeats 4000000
set_option maxRecDepth 100000
namespace Go.Proofs.YtgcaionclkbehaaGreatDoor
def mZz:(∀{U:Type}{a b:U}{l:List U},a∈b::l↔a=b∨a∈l)∧(∀{U:Type}{a:U},¬a∈([]:List U))∧∀p:Prop,(p∨False)=p:=⟨by simp,by simp,by simp⟩
section
open Go.Conc Go.RowKit Go.Lib Tryz
variable {l nb nm r stops tx LZ w:Bq}{kt:TypeId→Bool}{B c i k k2 n off rn sz:Nat}{a:TL}{o:Oper}{t:TypeId}{x:Operand}{b b0 b1:UInt8}{un:Bq→Int→Option (Bq)}{all pre rest:Iq}{us:List Tok}
section
variable {rn c k:Nat}{tx:Bq}{us:List Tok}{all pre rest nm wl:Iq}{pr:Prim}{lo:Bq→Bq}{wr:Bq→Int→Bq}{T:Bq→Prop}{W:Bq→Int→Prop}{aI:List (Iq × Iq)}
def xH(nm:Iq):Prop:=(∃n0 n1,nm=n0::n1∧iH n0=true)∧∀x∈nm,ef x dJ=false
def K2(aI:List (Iq × Iq))(rest:Iq):∃y r,iZ aI++62::rest=y::r∧ef y dJ=true:=by
 cases aI with
 | nil=>exact⟨62,rest,rfl,dq⟩
 | cons a aI=>exact⟨32,_,rfl,dq⟩
def vt(n:tT rn all lo wr T W pr)(h:all=pre++60::(nm++(iZ aI++62::rest)))(J:k=pre.length)(K:xH nm)(G:T (aV nm))(H:∀a∈aI,BD a∧T (aV a.1)∧W (aV a.2) 1)(N:tx.length≤500000)(M:us.length≤500000)(U:bX (lo (aV nm)) n7=false)(x:(bX (lo (aV nm)) eG=false∧k2=k+1+nm.length+(iZ aI).length+1∧LZ=[])∨(bX (lo (aV nm)) eG=true∧∀S w,C4 rn c S (k+1+nm.length+(iZ aI).length+1) [] w→pY rn c S→∃f,Ef pr 252 #[am c 0,str (lo (aV nm))] S (.tuple #[]) f∧C4 rn c f k2 LZ w∧gn c S f)) :
  gg pr rn c all ⟨k,tx,us⟩ ⟨k2,LZ,iB tx us++[⟨2,[],lo (aV nm),Bt lo wr aI [],false⟩]⟩:=by
 have R:=n.h.g.len;obtain⟨⟨v,O,j,l⟩,m⟩:=K;have d:dx all k=60:=fX h J;have u:pre.length+1+nm.length≤all.length:=by rw[h];simp;omega
 have e1:all=(pre++[60])++(nm++(iZ aI++62::rest)):=by rw[h];simp
 have A:all=(pre++[60])++v::(O++(iZ aI++62::rest)):=by rw[e1,j];simp
 have B:all=(pre++[60]++nm)++(iZ aI++62::rest):=by rw[e1];simp
 have z:dx all (k+1)=v:=fX A (by simp;omega);obtain⟨y,r,q,t⟩:=K2 aI rest;have b:g9 all dJ (k+1)=k+1+nm.length:=xi (y:=y) (rest:=r) (by rw[← q];exact e1) (by simp;omega) m t;have e:dQ all (k+1) (k+1+nm.length)=aV nm:=m8 e1 (by simp;omega) rfl;obtain⟨o,p⟩:=Bu (lo:=lo) (wr:=wr) (T:=T) (W:=W) (I4:=[]) (k:=k+1+nm.length) H B (by simp;omega);refine⟨by show dx all k ≠ -1;rw[d];decide,fun s L I=>.inl ?_⟩;obtain⟨ts,i,F⟩:=L;obtain⟨P,g1,g2,g3⟩:=BM (c:=c) (tx:=tx) (ts:=ts) n oq d (by rw[z];exact l) s i;obtain⟨Q,C,D,E⟩:=Iy n (nm:=lo (aV nm)) oq (by rw[b,e];exact G) (by rw[b,e]) (by rw[b];exact o) (by rw[b];exact p) ⟨ts,g2,F.fr i g3⟩ (I.fr i g3) N M U x;exact⟨148,P,Q,g1,C,D,g3.trans E⟩
def Iz(hp:tT rn all lo wr T W pr)(h:all=pre++60::(nm++(iZ aI++62::rest)))(hk:k=pre.length)(hn:xH nm)(hT:T (aV nm))(ha:∀a∈aI,BD a∧T (aV a.1)∧W (aV a.2) 1)(hx:tx.length≤500000)(hu:us.length≤500000)(U:bX (lo (aV nm)) n7=false)(a0:bX (lo (aV nm)) eG=false) :
  gg pr rn c all ⟨k,tx,us⟩ ⟨k+1+nm.length+(iZ aI).length+1,[],iB tx us++[⟨2,[],lo (aV nm),Bt lo wr aI [],false⟩]⟩:=vt hp h hk hn hT ha hx hu U (.inl ⟨a0,rfl,rfl⟩)
def Mw(m:tT rn all lo wr T W pr)(h:all=pre++60::47::(nm++62::rest))(B:k=pre.length)(C:xH nm)(z:T (aV nm))(F:tx.length≤500000)(E:us.length≤500000) :
  gg pr rn c all ⟨k,tx,us⟩ ⟨k+2+nm.length+1,[],iB tx us++[⟨3,[],lo (aV nm),[],false⟩]⟩:=by
 have J:=m.h.g.len;obtain⟨⟨q,G,i,j⟩,l⟩:=C;have b:dx all k=60:=fX h B;have p:pre.length+2+nm.length≤all.length:=by rw[h];simp;omega
 have r:all=(pre++[60])++47::(nm++62::rest):=by rw[h];simp
 have e1:all=(pre++[60,47])++(nm++62::rest):=by rw[h];simp
 have t:all=(pre++[60,47])++q::(G++62::rest):=by rw[e1,i];simp
 have u:all=(pre++[60,47]++nm)++(iZ []++62::rest):=by rw[e1];simp[iZ]
 have U:dx all (k+1)=47:=fX r (by simp;omega);have f:dx all (k+2)=q:=fX t (by simp;omega);have a:g9 all dJ (k+2)=k+2+nm.length:=xi e1 (by simp;omega) l dq;have d:dQ all (k+2) (k+2+nm.length)=aV nm:=m8 e1 (by simp;omega) rfl;obtain⟨n,o⟩:=Bu (lo:=lo) (wr:=wr) (T:=T) (W:=W) (aI:=[]) (I4:=[]) (k:=k+2+nm.length) iq u (by simp;omega);refine⟨by show dx all k ≠ -1;rw[b];decide,fun s D A=>.inl ?_⟩;obtain⟨ts,e,y⟩:=D;obtain⟨H,g1,g2,g3⟩:=BN (c:=c) (tx:=tx) (ts:=ts) m oq b U (by rw[f];exact j) s e;obtain⟨I,v,w,x⟩:=OQ m (nm:=lo (aV nm)) oq (by rw[a,d];exact z) (by rw[a,d]) (by rw[a];exact n) (by rw[a];exact o) ⟨ts,g2,y.fr e g3⟩ (A.fr e g3) F E;exact⟨253,H,I,g1,v,w,g3.trans x⟩
def IM(e:tT rn all lo wr T W pr)(h:all=pre++(wl++60::rest))(A:k=pre.length)(E:wl≠[])(q:∀x∈wl,x≠60∧x ≠ -1)(o:(∃a U,rest=a::U∧iH a=true)∨∃a U,rest=47::a::U∧iH a=true)(I:W (aV wl) 0)(r:tx.length+(wr (aV wl) 0).length≤1000000) :
  gg pr rn c all ⟨k,tx,us⟩ ⟨k+wl.length,tx++wr (aV wl) 0,us⟩:=by
 have N:=e.h.g.len;have C:pre.length+wl.length≤all.length:=by rw[h];simp
 have w:∀j,j<wl.length→∃x∈wl,dx all (k+j)=x:=fun j l=>by refine⟨wl[j],List.getElem_mem l,?_⟩;rw[kj,oK h A,List.getElem?_append_left l,gE l];rfl
 have e1:all=(pre++wl)++60::rest:=by rw[h];simp
 have t:dx all (k+wl.length)=60:=fX e1 (by simp;omega);have d:dQ all k (k+wl.length)=aV wl:=m8 h A rfl;have n:0<wl.length:=List.length_pos_iff.2 E;have⟨D,p,b⟩:=w 0 n;rw[Nat.add_zero] at b;refine⟨by show dx all k ≠ -1;rw[b];exact(q D p).2,fun s K J=>.inr ?_⟩;have⟨ts,v,H⟩:=K;have⟨L,g1,g2,g3⟩:=FW (c:=c) (k:=k) (tx:=tx) (ts:=ts) e oq (by rw[b];exact(q D p).1) s v;have i:∃f,I9 pr rn c tx ts (k+wl.length) f:=by
  rcases o with ⟨a,U,rfl,o⟩|⟨a,U,rfl,o⟩
  ·have u:all=(pre++wl++[60])++a::U:=by rw[e1];simp
   exact⟨148,BM e oq t (by rw[fX u (by simp;omega)];exact o)⟩
  ·have u:all=(pre++wl++[60])++47::a::U:=by rw[e1];simp
   have F:all=(pre++wl++[60,47])++a::U:=by rw[e1];simp
   exact⟨253,BN e oq t (fX u (by simp;omega)) (by rw[fX F (by simp;omega)];exact o)⟩
 have⟨M,G,y,z⟩:=Ld (k:=k) (m:=wl.length) e oq (fun j l=>by have⟨x,r,B⟩:=w j l;exact⟨by rw[B];exact(q x r).2,FW e oq (by rw[B];exact(q x r).1)⟩) (.inr ⟨by rw[t];decide,i⟩) (by rw[d];exact I) g2 (J.fr v g3) (by rw[d];exact r);rw[d] at y;exact⟨L,M,g1,G,⟨ts,y,(H.fr v g3).fr g2 z⟩,g3.trans z⟩
end
section
variable {rn:Nat}{all:Iq}{s:AS}{pr:Prim}
def GI(o:pr 264=none)(q:pr 335=none)(p:pr 334=none)(t:pr 373=bB 373)(h1:b1≠169)(w:169∉r):Ef pr 264 #[str (b0::b1::r),.int .i32 233] s (num (-1)) s:=by
 have h:Ef pr 373 #[str r,.int .u8 169] s (num (-1)) s:=by obtain⟨g,c⟩:∃g,bB 373=some g:=⟨_,rfl⟩;have a:=EF.eval (P:=prog) (kt:=lF) (pr:=bB) (f:=373) (args:=#[str r,.int .u8 169]) (s:=s) (v:=num (jR (169:UInt8).toNat r 0)) (s':=s) 1 kq;rw[rK w] at a;have⟨m,a⟩:=a;refine EF.rC (t.trans c) ?_;unfold bG at a;rw[c] at a;exact a
 have U:Ef pr 334 #[str r,.int .u8 169] s (num (-1)) s:=by refine EF.of p func334 rfl ?_;refine zs (zr (zc 2 h (zf ?_)));exact EW.ret ⟨.inr rfl,kq,kq⟩
 have d:Ef pr 335 #[.int .i32 233] s (.bool true) s:=by refine EF.of q func335 rfl ?_;refine zs (EW.seq (EW.block (zr (zf (za s (zH (zs ?_)))))));exact EW.ret ⟨.inr rfl,kq,kq⟩
 have u:str (((b0::b1::r).take (b0::b1::r).length).drop 2)=str r:=by rw[List.take_length];rfl
 refine EF.of o func264 rfl ?_;refine zs (EW.block ?_);iterate 2
  refine zr ?_
  refine zf ?_
  refine za s ?_
  refine zG ?_
 refine zr (zc 1 d (zf (za s (zG (EW.scope ?_)))));iterate 4 refine zs ?_
 refine za s (EW.seq (EW.block ?_));refine EW.loop ?_;refine EW.seq (zr (zk 2 (zp (da (l:=b0::b1::r) rfl underlying9 kq) (zp (yb (num 1) (num ((b0::b1::r).length:Nat)) (aX (b:=true) (tD (by simp only[lC];omega)))) (EO.nil (za s (zT (EW.block (EW.scope (EW.seq (EW.seq (EW.draw kq kq kq ?_))))))))))));iterate 2 refine zq ?_
 refine zu (kU (l:=b0::b1::r) (k:=.i64) (n:=1) (b:=b1) rfl underlying9 kq kq dq rfl) ?_;iterate 3 refine zq ?_
 refine zu (yb (.int .u8 b1.toNat) (.int .u8 169) (ca (b:=true) (bne_iff_ne.2 (fun e=>h1 (UInt8.toNat_inj.1 (by show b1.toNat=169;omega)))))) (ET.nil ⟨aK [] kq iq,_,_,_,_,_,_,rfl,rfl,?_⟩);refine za s (zH (EW.seq (EW.draw kq kq kq ?_)));iterate 3 refine zq ?_
 refine zt s (ET.op (v:=str r) (s1:=s) kq ((wX (l:=b0::b1::r) (i:=2) (j:=(b0::b1::r).length) rfl underlying9 kq ((show _=bH (b0::b1::r).length (b0::b1::r).length (some (num 2)) none by kernel_rfl).trans (lR dq (by simp only[lC];omega)))).trans (congrArg (fun x=>some (x,s)) u)) ?_);iterate 3 refine zq ?_
 refine zt s (yt U (zq (ET.nil ⟨aK [] kq iq,_,_,_,_,_,_,rfl,rfl,?_⟩)));refine za s (EW.seq (zr (zf (za s (zH (zs ?_))))));exact EW.ret ⟨.inr rfl,kq,kq⟩
def Ck{l:Int}(h:l<0∨127<l)(a:Le stops):ef l stops=false:=by
 unfold ef;rw[List.any_eq_false];intro b U
 have:=a b U;simp only[beq_iff_eq];omega
def MX(a:pr 264=none)(b:pr 335=none)(stops:Bq):Ef pr 264 #[str stops,.int .i32 (-1)] s (num (-1)) s:=by
 have U:Ef pr 335 #[.int .i32 (-1)] s (.bool false) s:=by refine EF.of b func335 rfl ?_;refine zs (EW.seq (EW.block (zr (zf (za s (zG (zr (zf (za s (zF (zs ?_)))))))))));exact EW.ret ⟨.inr rfl,kq,kq⟩
 refine EF.of a func264 rfl ?_;refine zs (EW.block ?_);iterate 2
  refine zr ?_
  refine zf ?_
  refine za s ?_
  refine zG ?_
 refine zr (zc 1 U (zf (za s (zH (zs ?_)))));exact EW.ret ⟨.inr rfl,kq,kq⟩
def GK(a:pr 264=none)(c:pr 335=none)(d:stops.length≤1):Ef pr 264 #[str stops,.int .i32 233] s (num (-1)) s:=by
 have U:Ef pr 335 #[.int .i32 233] s (.bool true) s:=by refine EF.of c func335 rfl ?_;refine zs (EW.seq (EW.block (zr (zf (za s (zH (zs ?_)))))));exact EW.ret ⟨.inr rfl,kq,kq⟩
 refine EF.of a func264 rfl ?_;refine zs (EW.block ?_);iterate 2
  refine zr ?_
  refine zf ?_
  refine za s ?_
  refine zG ?_
 refine zr (zc 1 U (zf (za s (zG (EW.scope ?_)))));iterate 4 refine zs ?_
 refine za s (EW.seq (EW.block ?_));refine EW.loop ?_;refine EW.seq (zr (zk 2 (zp (da (l:=stops) rfl underlying9 kq) (zp (yb (num 1) (num (stops.length:Nat)) (aX (b:=false) (fD oq))) (EO.nil (za s (zG (EW.exit (EW.seq (zs ?_))))))))));exact EW.ret ⟨.inr rfl,kq,kq⟩
def Nj(a:E9 rn all pr)(U:pr 335=none){l:Int}(n:l = -1∨∃c:Nat,It c∧l=((c:Nat):Int))(j:Le stops):Ef pr 328 #[.int .i32 l,str stops] s (.bool (ef l stops)) s:=by
 have g:Ef pr 264 #[str stops,.int .i32 l] s (num (-1)) s→Ef pr 328 #[.int .i32 l,str stops] s (.bool false) s:=by
  intro m;have d:Ef pr 160 #[str stops,.int .i32 l] s (.bool false) s:=by refine EF.of (a.no 160 dq) func160 rfl ?_;refine zs (zr (zc 2 m (zf ?_)));exact yR
  refine EF.of (a.no 328 dq) func328 rfl ?_;refine zs (zr (zc 2 d (zf ?_)));exact yR
 rcases n with rfl|⟨c,hc|rfl,rfl⟩
 ·rw[Ck (.inl dq) j];exact g (MX (a.no 264 dq) U stops)
 ·have f:(UInt8.ofNat c).toNat=c:=by rw[UInt8.toNat_ofNat'];omega
  have o:ef ((c:Nat):Int) stops=decide (UInt8.ofNat c∈stops):=by
   unfold ef;rw[Bool.eq_iff_iff,List.any_eq_true,decide_eq_true_iff];constructor
   ·rintro⟨b,a3,a4⟩;have:b.toNat=c:=by simp at a4;omega
    rw[← this,UInt8.ofNat_toNat];exact a3
   ·intro h;exact⟨_,h,by simp[f]⟩
  rw[o];by_cases i:UInt8.ofNat c∈stops
  ·have:=Ea a (s:=s) (b:=UInt8.ofNat c) oq i;rw[f] at this;rw[tD i];exact this
  ·have:=GP a (s:=s) (b:=UInt8.ofNat c) oq i;rw[f] at this;rw[fD i];exact this
 ·rw[Ck (.inr dq) j];refine g ?_;have k:∀b∈stops,b≠169:=fun b f e=>by have:=j b f;rw[e] at this;revert this;decide
  match stops,k with
  | [],_=>exact GK (a.no 264 dq) U dq
  | [b0],_=>exact GK (a.no 264 dq) U (Nat.le_refl 1)
  | b0::b1::r,h=>exact GI (a.no 264 dq) U (a.no 334 dq) a.Qf (h b1 iq) fun z=>h 169 (by simp[z]) rfl
end
def iL:Aq:=((List.range 256).map fun i=>Value.bool ([9,10,12,13,32].contains i)).toArray
section
variable {s:AS}{pr:Prim}
def NN(b:UInt8):∃t,iL[b.toNat]?=some (.bool t):=by have U:b.toNat<256:=UInt8.toNat_lt b;refine⟨[9,10,12,13,32].contains b.toNat,?_⟩;unfold iL;simp[List.getElem?_map,List.getElem?_range U]
def Kl{P:Program}{c:ft}{e:TypeId}{i:Operand}{b:Nat}{k:IntKind}{j:Int}(U:o.op=.indexAddr t x i)(h:P.underlying t=some (.array n e))(d:bQ P e=some sz)(l:a.at x=am b off)(g:a.at i=.int k j)(f:0≤j)(h1:j<n):bM P kt c a o s=some (am b (off+j.toNat*sz),s):=by refine ec (by rw[U];rfl) (by rw[U];trivial) ?_;unfold cb;rw[U];simp only;rw[h,l,g];simp only[am];rw[d];simp only;rw[ip ⟨f,h1⟩]
def GD(U:pr 356=none)(a:s.get B=some (.cells iL 285))(b:UInt8):∃t,Ef pr 356 #[am B 0,.int .u8 b.toNat] s (.bool t) s:=by have⟨t,c⟩:=NN b;refine⟨t,?_⟩;have d:b.toNat<256:=UInt8.toNat_lt b;refine EF.of U func356 rfl ?_;refine zs (zr (zg 3 s (zp (Kl (b:=B) (off:=0) (n:=256) (k:=.u8) (j:=(b.toNat:Nat)) (sz:=1) rfl underlying285 kq kq kq oq oq) (zp (bP (b:=B) (off:=0+((b.toNat:Nat):Int).toNat*1) (v:=.bool t) rfl underlying4 rfl kq a (by rw[Int.toNat_natCast,Nat.mul_one,Nat.zero_add];exact c)) (zf ?_)))));exact yR
def Ie(l:Bq)(B:Nat)(x:Nq):TL:=[str l,am B 0,x 2,x 3,str []]++iy x 5 11
def EY(f:pr 299=none)(g:pr 356=none)(p:s.get B=some (.cells iL 285))(z:l.length≤1000000):∃U:Bq,U.length≤l.length∧Ef pr 299 #[str l,am B 0] s (str U) s:=by
 suffices h:Ew pr (match Tryz.f299.body with|some c=>c|none=>.skip) ((#[str l,am B 0]:Aq).toList++List.replicate (Tryz.f299.ntmps-(#[str l,am B 0]:Aq).toList.length) undef) s (fun e a s1=>(e=.normal∨e=.ret)∧s1=s∧∃U:Bq,U.length≤l.length∧du prog Tryz.f299 a s1=some (str U)) by have⟨m,e,a,s1,h1,q,h2,U,h3,o⟩:=h;exact⟨U,h3,EF.of f func299 rfl ⟨m,e,a,s1,h1,q,o,h2⟩⟩
 refine zs ?_;refine EW.fill (Ie l B) kq ?_;intro y;refine EW.seq (EW.block ?_);refine EW.mono (EW.dS (Q:=fun e a s1=>e=.exit 0∧s1=s∧∃U:Bq,U.length≤l.length∧∃x,a=Ie U B x) (fun m a s1=>s1=s∧∃U:Bq,U.length=m∧U.length≤l.length∧∃x,a=Ie U B x) ?_ l.length _ _ ⟨rfl,l,rfl,lr,y,rfl⟩) ?_
 ·rintro m a S ⟨rfl,U,rfl,d,x,rfl⟩;by_cases u:0<U.length
  ·refine EW.seq (zr (zk 1 (zp (da (l:=U) rfl underlying9 kq) (zp (yb (num (U.length:Nat)) (num 0) (e0 (b:=true) (tD oq))) (EO.nil (za S (zT (EW.block ?_))))))));obtain⟨b,r,rfl⟩:∃b r,U=b::r:=by cases U with
    | nil=>simp at u
    | cons b r=>exact⟨b,r,rfl⟩
   have⟨t,w⟩:=GD (pr:=pr) g p b;refine EW.seq (zr (zk 2 (zp (kU (l:=b::r) (k:=.i64) (n:=0) (b:=b) rfl underlying9 kq kq dq rfl) (zo S (zc 0 w ?_)))));cases t with
   | false =>refine zf ?_;refine za S (zH (EW.exit ?_));exact⟨rfl,rfl,b::r,d,aN kq⟩
   | true =>refine zf ?_;refine za S (zF (zx (zk 1 (EO.op (v:=str r) (s1:=S) kq ((wX (l:=b::r) (i:=1) (j:=(b::r).length) rfl underlying9 kq ((show _=bH (b::r).length (b::r).length (some (num 1)) none by kernel_rfl).trans (lR dq (by simp only[lC];omega)))).trans (congrArg (fun x=>some (x,S)) (show str (((b::r).take (b::r).length).drop 1)=str r by rw[List.take_length];rfl))) (zf ?_)))));exact⟨r.length,iq,rfl,r,rfl,by simp at d;omega,aN kq⟩
  ·obtain rfl:U=[]:=List.length_eq_zero_iff.1 oq;refine EW.seq (zr (zf (za S (zG (EW.exit ?_)))));exact⟨rfl,rfl,[],iq,aN kq⟩
 ·rintro e a S ⟨rfl,rfl,U,d,x,rfl⟩;refine zs ?_;exact EW.ret ⟨.inr rfl,kq,U,d,kq⟩
def Ig(l:Bq)(B:Nat)(x:Nq):TL:=[str l,am B 0,x 2,x 3,str []]++iy x 5 17
def EZ(g:pr 300=none)(o:pr 356=none)(q:s.get B=some (.cells iL 285))(A:l.length≤1000000):∃U:Bq,U.length≤l.length∧Ef pr 300 #[str l,am B 0] s (str U) s:=by
 suffices h:Ew pr (match Tryz.f300.body with|some c=>c|none=>.skip) ((#[str l,am B 0]:Aq).toList++List.replicate (Tryz.f300.ntmps-(#[str l,am B 0]:Aq).toList.length) undef) s (fun e a s1=>(e=.normal∨e=.ret)∧s1=s∧∃U:Bq,U.length≤l.length∧du prog Tryz.f300 a s1=some (str U)) by have⟨m,e,a,s1,h1,w,h2,U,h3,p⟩:=h;exact⟨U,h3,EF.of g func300 rfl ⟨m,e,a,s1,h1,w,p,h2⟩⟩
 refine zs ?_;refine EW.fill (Ig l B) kq ?_;intro z;refine EW.seq (EW.block ?_);refine EW.mono (EW.dS (Q:=fun e a s1=>e=.exit 0∧s1=s∧∃U:Bq,U.length≤l.length∧∃x,a=Ig U B x) (fun m a s1=>s1=s∧∃U:Bq,U.length=m∧U.length≤l.length∧∃x,a=Ig U B x) ?_ l.length _ _ ⟨rfl,l,rfl,lr,z,rfl⟩) ?_
 ·rintro m a S ⟨rfl,U,rfl,d,x,rfl⟩;by_cases C:0<U.length
  ·refine EW.seq (zr (zk 1 (zp (da (l:=U) rfl underlying9 kq) (zp (yb (num (U.length:Nat)) (num 0) (e0 (b:=true) (tD oq))) (EO.nil (za S (zT (EW.block ?_))))))));obtain⟨b,u⟩:∃b,U[U.length-1]?=some b:=⟨_,gE oq⟩;have⟨t,y⟩:=GD (pr:=pr) o q b;generalize f:U.length=n at *;refine EW.seq (zr (zk 3 (zp (da (l:=U) rfl underlying9 kq) ?_)));rw[f];refine zp (fQ (i:=((n:Nat):Int)) (j:=1) (r:=((n-1:Nat):Int)) rfl kq kq oq oq) (zp (kU (l:=U) (k:=.i64) (n:=((n-1:Nat):Int)) (b:=b) rfl underlying9 kq kq oq (by rw[Int.toNat_natCast];exact u)) (zo S (zc 0 y ?_)));cases t with
   | false =>refine zf ?_;refine za S (zH (EW.exit ?_));exact⟨rfl,rfl,U,oq,aN kq⟩
   | true =>refine zf ?_;refine za S (zF (zx (zk 2 (zp (da (l:=U) rfl underlying9 kq) ?_))));rw[f];refine zp (fQ (i:=((n:Nat):Int)) (j:=1) (r:=((n-1:Nat):Int)) rfl kq kq oq oq) (EO.op (v:=str (U.take (n-1))) (s1:=S) kq ((wX (l:=U) (i:=0) (j:=n-1) rfl underlying9 kq ((show _=bH U.length U.length none (some (num ((n-1:Nat):Int))) by kernel_rfl).trans ((p9 oq oq).trans (by rw[Int.toNat_natCast])))).trans (congrArg (fun x=>some (x,S)) (show str ((U.take (n-1)).drop 0)=_ by rw[List.drop_zero]))) (zf ?_));exact⟨n-1,oq,rfl,U.take (n-1),by rw[List.length_take];omega,by rw[List.length_take];omega,aN kq⟩
  ·obtain rfl:U=[]:=List.length_eq_zero_iff.1 oq;refine EW.seq (zr (zf (za S (zG (EW.exit ?_)))));exact⟨rfl,rfl,[],iq,aN kq⟩
 ·rintro e a S ⟨rfl,rfl,U,d,x,rfl⟩;refine zs ?_;exact EW.ret ⟨.inr rfl,kq,U,d,kq⟩
def PX:List FuncId:=[198,298,299,300,356]
def NU(U:∀f,f∈PX→pr f=none)(h:w.length≤1000000)(d:Ef pr 298 #[str [9,10,12,13,32]] ⟨[],4066⟩ (.tuple #[.agg iL,.bool true]) ((⟨[],4066⟩:AS).add (.cells iL 285))):∃m k,Ef pr 198 #[str w,str [9,10,12,13,32]] ⟨[],4066⟩ (str m) k:=by
 by_cases a:w=[]
 ·subst a;refine⟨[],⟨[],4066⟩,?_⟩;refine EF.of (U 198 dq) func198 rfl ?_;refine zs (EW.seq (zr (zf (za (⟨[],4066⟩) (zH (zs ?_))))));exact EW.ret ⟨.inr rfl,kq,kq⟩
 ·have g:=Has.new ((⟨[],4066⟩:AS).add (.cells iL 285)) (.cells ((List.replicate 256 (Value.bool false)).toArray) 285);have e:(((⟨[],4066⟩:AS).add (.cells iL 285)).add (.cells ((List.replicate 256 (Value.bool false)).toArray) 285)).set 4067 (some (.cells iL 285))=((⟨[],4066⟩:AS).add (.cells iL 285)).add (.cells iL 285):=AS.set_set (⟨((⟨[],4066⟩:AS).add (.cells iL 285)).hp,4068⟩:AS) 4067 (some (.cells ((List.replicate 256 (Value.bool false)).toArray) 285)) (some (.cells iL 285));have c:=Has.new ((⟨[],4066⟩:AS).add (.cells iL 285)) (.cells iL 285);have⟨i,q1,q2⟩:=EZ (U 300 dq) (U 356 dq) c.2 h;have⟨j,q3,q4⟩:=EY (U 299 dq) (U 356 dq) c.2 (l:=i) oq;refine⟨j,((⟨[],4066⟩:AS).add (.cells iL 285)).add (.cells iL 285),?_⟩;refine EF.of (U 198 dq) func198 rfl ?_;refine zs (EW.seq (zr (zk 1 (zp (aU (u:=str w) (w:=str []) rfl kq kq (by unfold dj;simp only;rw[gL a])) ?_))));iterate 2
   refine zf ?_
   refine za (⟨[],4066⟩) ?_
   refine zF ?_
   refine EW.seq (zr ?_)
  refine zc 1 d (zg 4 (((⟨[],4066⟩:AS).add (.cells iL 285)).add (.cells ((List.replicate 256 (Value.bool false)).toArray) 285)) (zp (ep (b:=4067) (off:=0) (w:=.agg iL) (ws:=iL.toList) rfl kq kq rfl rfl kq g.2 (by show 0+256≤256;decide)) (zf (za ((((⟨[],4066⟩:AS).add (.cells iL 285)).add (.cells ((List.replicate 256 (Value.bool false)).toArray) 285)).set 4067 (some (.cells iL 285))) ?_))));rw[e];refine zr (zf (za (((⟨[],4066⟩:AS).add (.cells iL 285)).add (.cells iL 285)) (zH (zr (zc 1 q2 (zc 0 q4 (zf ?_)))))));exact EW.ret ⟨.inr rfl,kq,kq⟩
end
def sV (b:UInt8):Bq:=if b=38 then [97,109,112,59] else if b=60 then [108,116,59] else if b=62 then [103,116,59] else [113,117,111,116,59]
def fp (sp:Bq)(b:UInt8):Bq:=if b∈sp then 38::sV b else [b]
def mL(w:Bq):gQ w=w.flatMap (fp [38,60,62]):=by
 unfold gQ dY;rw[List.flatMap_assoc,List.flatMap_assoc];congr 1;funext b;by_cases h1:b=38
 ·subst h1;decide
 ·by_cases h2:b=60
  ·subst h2;decide
  ·by_cases h3:b=62
   ·subst h3;decide
   ·simp[fp,h1,h2,h3]
def mK(v:Bq):fE v=v.flatMap (fp [38,34]):=by
 unfold fE dY;rw[List.flatMap_assoc];congr 1;funext b;by_cases h1:b=38
 ·subst h1;decide
 ·by_cases h2:b=34
  ·subst h2;decide
  ·simp[fp,h1,h2]
def Sp (b:UInt8):Prop:=b=38∨b=60∨b=62∨b=34
section
variable {rn:Nat}{all:Iq}{s:AS}
def Qw(U:Sp b):b.toNat<128∧(sV b).length≤5∧UInt8.ofNat b.toNat=b:=by rcases U with rfl|rfl|rfl|rfl<;>decide
def KG(e:Sp b)(j:r.length≤900000)(k:Int)(h:s.get 1=some (.cells db.toArray 335)):Ef (dl rn all) 263 #[str (sV b++r),num k] s (.tuple #[.int .i32 ((b.toNat:Nat):Int),num ((sV b).length:Nat)]) s:=by
 have U:Ef (dl rn all) 333 #[str (sV b++r),num k] s (.tuple #[.int .i32 ((b.toNat:Nat):Int),num ((sV b).length:Nat)]) s:=by
  refine EF.rC (g:=fun a s=>match a.toList with
   | [.string x,.int .i64 k]=>match s.get 1 with
    | some (.cells cs 335 (0,0))=>if yj cs.toList=true then match PO x.data.toList with
      | some (c,n)=>some (.tuple #[.int .i32 c,.int .i64 n],s)
      | none=>none
     else none
    | _=>none
   | _=>none) rfl ?_;simp only[h];rw[ip kq];rcases e with rfl|rfl|rfl|rfl<;>rfl
 have f:(decide (([35]:Bq).length≤(sV b++r).length)&&aY ((sV b++r).take ([35]:Bq).length) [35])=false:=by
  rcases e with rfl|rfl|rfl|rfl
  ·show(_&&aY [97] [35])=false;rw[gL dq,Bool.and_false]
  ·show(_&&aY [108] [35])=false;rw[gL dq,Bool.and_false]
  ·show(_&&aY [103] [35])=false;rw[gL dq,Bool.and_false]
  ·show(_&&aY [113] [35])=false;rw[gL dq,Bool.and_false]
 have d:=yG (pr:=dl rn all) (s:=s) (b:=false) kq kq f;generalize sV b++r=t at U d;generalize ((sV b).length:Nat)=m at U ⊢;generalize b.toNat=i at U ⊢;refine EF.of kq func263 rfl ?_;refine zs (EW.seq (zr (zc 1 d (EO.nil (zF (za s (zr (zc 2 U (zf ?_)))))))));exact yR
def LS(t:Bq)(k:Int)(b:Nat)(x:Nq):TL:=[str t,num k,x 2,x 3,str [],am b 0]++iy x 6 27
def Gy{sp:Bq}(h:∀x∈l,x∉sp):l.flatMap (fp sp)=l:=by
 induction l with
 | nil=>rfl
 | cons b l a =>
  rw[List.flatMap_cons,a fun x U=>h x (by simp[U])];have:fp sp b=[b]:=by unfold fp;rw[iw (h b iq)]
  rw[this];rfl
def uN(sp:Bq):∀l:Bq,(∀x∈l,x∉sp)∨∃a b r,l=a++b::r∧(∀x∈a,x∉sp)∧b∈sp
 | []=>.inl iq
 | y::l=>by
  by_cases hy:y∈sp
  ·exact .inr ⟨[],y,l,rfl,iq,hy⟩
  ·rcases uN sp l with h|⟨a,b,r,rfl,h1,h2⟩
   ·exact .inl fun x U=>by
     rcases List.mem_cons.1 U with rfl|U
     ·exact hy
     ·exact h x U
   ·exact .inr ⟨y::a,b,r,rfl,fun x U=>by
     rcases List.mem_cons.1 U with rfl|U
     ·exact hy
     ·exact h1 x U,h2⟩
def E3{sp:Bq}(L:∀x∈sp,Sp x)(I:(38:UInt8)∈sp)(hw:w≠[])(Z:(w.flatMap (fp sp)).length≤100000)(aj:w.length≤100000)(k:Int)(V:1<s.nx)(hs:s.get 1=some (.cells db.toArray 335)):∃d,Ef (dl rn all) 157 #[str (w.flatMap (fp sp)),num k] s (str w) d∧kD s.nx s d:=by
 have O:BW (s.add (.cells #[.pointer none,.slice none 0 0] 119)) s.nx s.nx []:=⟨lr,iq,.pointer none,.slice none 0 0,by rw[AS.aG,ip rfl],.inl rfl,.inl ⟨rfl,rfl⟩⟩;have v:kD s.nx s (s.add (.cells #[.pointer none,.slice none 0 0] 119)):=kD.add lr;refine EF.gq kq func157 rfl ?_;iterate 2 refine zs ?_
 refine za (s.add (.cells #[.pointer none,.slice none 0 0] 119)) ?_;refine EW.fill (LS (w.flatMap (fp sp)) k s.nx) kq ?_;intro x0;generalize s.add (.cells #[.pointer none,.slice none 0 0] 119)=s1 at O v;refine EW.block ?_;refine EW.mono (EW.dS (Q:=fun e q d=>e=.ret∧kD s.nx s d∧q.getD 4 undef=str w) (fun m q d=>∃done b,done++b=w∧b.length=m∧(b.flatMap (fp sp)).length≤100000∧BW d s.nx s.nx done∧kD s.nx s d∧∃x,q=LS (b.flatMap (fp sp)) k s.nx x) ?_ w.length _ _ ⟨[],w,rfl,rfl,Z,O,v,x0,rfl⟩) ?_
 ·rintro m q d ⟨done,b,A,W,K,N,t,x,rfl⟩;have D:done.length+b.length=w.length:=by rw[← A];simp
  rcases uN sp b with a6|⟨a,c,r,rfl,a5,hc⟩
  ·rw[Gy a6];have z:Ja 38 b b [] false:=.inl ⟨rfl,fun h=>a6 _ h I,rfl,rfl⟩;have U:=Am (rn:=rn) (all:=all) (s:=d) z oq;have⟨n,B,f,g⟩:=pP (pr:=dl rn all) (m:=b) kq kq N oq;rw[A] at f;have⟨s3,H,E⟩:=tJ (pr:=dl rn all) kq f hw oq;refine EW.block (zr (zc 1 U (zf (za d (zr (zc 1 B (EO.nil (za n (EW.seq (zs (zH (za n (zr (zc 0 H (zf (za s3 ?_))))))))))))))));exact EW.ret ⟨rfl,(t.trans g).trans E,kq⟩
  ·have J:=Qw (L c hc);have p:(a++c::r).flatMap (fp sp)=a++38::(sV c++r.flatMap (fp sp)):=by
    rw[List.flatMap_append,Gy a5,List.flatMap_cons];have:fp sp c=38::sV c:=by unfold fp;rw[ip hc]
    rw[this];rfl
   rw[p] at K ⊢;simp only[lA,lC] at K W D;have z:Ja 38 (a++38::(sV c++r.flatMap (fp sp))) a (sV c++r.flatMap (fp sp)) true:=.inr ⟨rfl,fun h=>a5 _ h I,rfl⟩;have U:=Am (rn:=rn) (all:=all) (s:=d) z (by simp only[lA,lC];omega);have⟨n,B,f,g⟩:=pP (pr:=dl rn all) (m:=a) kq kq N oq;have G:n.get 1=some (.cells db.toArray 335):=((t.trans g).2 1 V).trans hs;have S:=KG (rn:=rn) (all:=all) (s:=n) (L c hc) (r:=r.flatMap (fp sp)) oq k G;have⟨s4,v4,X,C,F⟩:=tR (pr:=dl rn all) (en:=[c]) (c:=((c.toNat:Nat):Int)) kq kq f (fun s sl u=>by have:=uz (pr:=dl rn all) J.1 u (by rw[lA];omega) kq;rw[J.2.2] at this;exact this);have o:((sV c++r.flatMap (fp sp)).take (sV c++r.flatMap (fp sp)).length).drop (((sV c).length:Nat):Int).toNat=r.flatMap (fp sp):=by rw[List.take_length,Int.toNat_natCast,List.drop_left]
   have ah:((sV c).length:Nat)≤(sV c++r.flatMap (fp sp)).length:=by rw[lA];omega
   have T:(r.flatMap (fp sp)).length≤100000:=oq
   generalize a++38::(sV c++r.flatMap (fp sp))=tt at U;generalize M:r.flatMap (fp sp)=R at *;generalize ag:sV c++R=y at *;generalize (sV c).length=P at *;generalize ai:c.toNat=cn at *;refine EW.block (zr (zc 1 U (zf (za d (zr (zc 1 B (EO.nil (za n (EW.seq (zs (zF (za n (zr (zc 2 S (zf (za n (zr (zc 1 X (EO.nil (za s4 (zx (zk 2 (zp (jU (l:=y) (i:=((P:Nat):Int).toNat) (j:=y.length) (m:=R) rfl underlying9 kq ((show _=bH y.length y.length (some (num (P:Nat))) none by kernel_rfl).trans (lR oq oq)) o) (zf ?_))))))))))))))))))))))));exact⟨r.length,oq,done++a++[c],r,by rw[← A];simp,rfl,by rw[M];exact T,C,(t.trans g).trans F,by rw[M];exact aN kq⟩
 ·rintro e q d ⟨rfl,t,Y⟩;exact⟨.inr rfl,by show some (q.getD 4 undef)=_;rw[Y],t⟩
end
section
variable {rn:Nat}{all:Iq}{s:AS}{pr:Prim}
def IU{b:Nat}(f:pr 261=none)(U:pr 156=none)(j:s.get b=some (.cells #[.pointer none,aD] 119))(l:b<s.nx):∃c,Ef pr 156 #[am b 0,str []] s (.tuple #[num 0,.nilIface]) c∧c.get b=some (.cells #[am b 0,aD] 119)∧c.nx=s.nx∧∀k,k≠b→c.get k=s.get k:=by have⟨a,i,g,d,h⟩:=wj f j (.inl rfl);refine EF.gq U func156 rfl ?_;refine zs (zr (zc 1 i (EO.nil (za a (zr (zg 4 a (zp (yl b 1 aD d) (zg 1 a (zp (rQ (sl:=aD) (m:=[]) rfl kq kq underlying55 underlying9 kq kq dq rfl (qM (.inl rfl))) (zg 2 a (zp (ys b 1 aD d iq) (EO.nil (zs (za (a.set b (some (.cells #[am b 0,aD] 119))) ?_))))))))))))));exact EW.ret ⟨.inr rfl,kq,by rw[AS.aH,ip rfl],g,fun k e=>by rw[AS.aH,iw e];exact h k e⟩
def Lb(k:Int):∃g,Ef (dl rn all) 157 #[str [],num k] s (str []) g∧kD s.nx s g:=by
 have U:=Has.new s (.cells #[.pointer none,aD] 119);have⟨e,q1,q2,q3,q4⟩:=IU (pr:=dl rn all) kq kq U.2 U.1;have i:kD s.nx s e:=⟨by rw[q3];simp,fun x j=>by rw[q4 x oq,AS.aG,iw oq]⟩;have f:=vx (pr:=dl rn all) kq q2;have d:=Am (rn:=rn) (all:=all) (s:=s.add (.cells #[.pointer none,aD] 119)) (c:=38) (x:=[]) (a:=[]) (b:=[]) (t:=false) (.inl ⟨rfl,iq,rfl,rfl⟩) dq;generalize h:s.add (.cells #[.pointer none,aD] 119)=S at *;refine EF.gq kq func157 rfl ?_;iterate 2 refine zs ?_
 refine za (s.add (.cells #[.pointer none,aD] 119)) ?_;rw[h];refine EW.block ?_;refine EW.loop ?_;refine EW.block (zr (zc 1 d (zf (za S (zr (zc 1 q1 (EO.nil (za e (EW.seq (zs (zH (za e (zr (zc 0 f (zf (za e ?_))))))))))))))));exact EW.ret ⟨.inr rfl,kq,i⟩
def Fv(x:Bq)(w:Bq):Prop:=∃sp,(sp=[38,34]∨sp=[38,60,62])∧x=w.flatMap (fp sp)∧x.length≤100000∧w.length≤100000
def IJ (un:Bq→Int→Option (Bq))(args:Aq)(s:AS):Option Value:=match args.toList with
 | [.string x,.int .i64 k]=>match s.get 1 with
  | some (.cells cs 335 (0,0))=>if yj cs.toList=true∧4066≤s.nx then (un x.data.toList k).map str else none
  | _=>none
 | _=>none
def I7 (P:Program)(n:Nat)(un:Bq→Int→Option (Bq))(all:Iq):Prim:=kp 157 (IJ un) (bG P lF (dl 4065 all) n 157) (dl 4065 all)
def Kz(z:∀x k w,un x k=some w→Fv x w):zZ 4065 (I7 prog n un all) all:=by
 refine⟨DV (pw 4065 all),fun Y A C H=>cN.forget Y dG eo dD C H ?_⟩;intro b s v h;unfold IJ at h;split at h
 ·next x k D =>
  split at h
  ·next B I =>
   split at h
   ·next E =>
    have⟨p,q⟩:=E;have i:b=#[str x.data.toList,.int .i64 k]:=by apply Array.toList_inj.1;simp[D]
    subst i;have r:B=db.toArray:=by apply Array.toList_inj.1;simp[yk p]
    subst r;have U:(db.toArray).toList.all (ri s.nx)=true:=by
     rw[aT];intro y d;have h1:db.all dW=true:=kq
     have h2:=aT.1 h1 y (by simpa using d);unfold ri;split<;>first|exact h2|cases h2
    cases hu:un x.data.toList k with
    | none=>rw[hu] at h;cases h
    | some w =>
     rw[hu] at h;cases h;have⟨sp,j,m,t,u⟩:=z _ _ _ hu;refine⟨rfl,q,by simp[ri,dW],1,db.toArray,335,(0,0),I,U,fun f G c=>?_⟩;have e:∀{a:AS},kD f.nx f a→a.get 1=some (.cells db.toArray 335):=fun F=>(F.2 1 oq).trans c;rw[m];by_cases l:w=[]
     ·subst l;have⟨a,e1,g⟩:=Lb (rn:=4065) (all:=all) (s:=f) k;exact⟨a,e1,e g⟩
     ·have o:∀y∈sp,Sp y:=by
       intro y d;unfold Sp;rcases j with rfl|rfl<;>simp only[mZz] at d
       ·rcases d with h|h<;>simp[h]
       ·rcases d with h|h|h<;>simp[h]
      have⟨a,e1,g⟩:=E3 (rn:=4065) (all:=all) (s:=f) o (by rcases j with rfl|rfl<;>simp) l (by rw[← m];exact t) u k oq c;exact⟨a,e1,e g⟩
   ·cases h
  ·cases h
 ·cases h
def wR (names:List (Bq))(args:Aq):Option Value:=match args.toList with
 | [.string x]=>if names.any (aY x.data.toList) then some (.string x) else none
 | _=>none
def EX (tr:Bq→Option (Bq))(args:Aq):Option Value:=match args.toList with
 | [.string x,.string y]=>if aY y.data.toList [9,10,12,13,32] then (tr x.data.toList).map str else none
 | _=>none
def KA (P:Program)(un:Bq→Int→Option (Bq))(names:List (Bq))(tr:Bq→Option (Bq))(all:Iq):Prim:=ly 198 (EX tr) (ly 258 (wR names) (I7 P 0 un all))
def KD{names:List (Bq)}{tr:Bq→Option (Bq)}(l:∀x k w,un x k=some w→Fv x w)(i:∀x∈names,∃b,Ef (I7 prog 0 un all) 258 #[str x] ⟨[],4066⟩ (str x) b)(j:∀x w,tr x=some w→∃b,Ef (ly 258 (wR names) (I7 prog 0 un all)) 198 #[str x,str [9,10,12,13,32]] ⟨[],4066⟩ (str w) b):zZ 4065 (KA prog un names tr all) all:=by
 have h1:=(Kz (n:=0) (all:=all) l).add (m:=1) (f:=258) (V:=wR names) (by
  intro a v U;unfold wR at U;split at U
  ·next x d =>
   have c:a=#[str x.data.toList]:=by apply Array.toList_inj.1;simp[d]
   subst c;split at U
   ·next o =>cases U;have⟨y,e,g⟩:=List.any_eq_true.1 o;have⟨b,h⟩:=i y e;rw[← (eQ _ _).1 g] at h;exact⟨rfl,rfl,b,h⟩
   ·cases U
  ·cases U);refine h1.add (m:=1) (f:=198) (V:=EX tr) ?_;intro a v U;unfold EX at U;split at U
 ·next x y d =>
  have c:a=#[str x.data.toList,str y.data.toList]:=by apply Array.toList_inj.1;simp[d]
  subst c;split at U
  ·next p =>
   cases hq:tr x.data.toList with
   | none=>rw[hq] at U;cases U
   | some w =>rw[hq] at U;cases U;rw[(eQ _ _).1 p];have⟨b,h⟩:=j _ _ hq;exact⟨rfl,rfl,b,h⟩
  ·cases U
 ·cases U
end
section
variable {all:Iq}{un:Bq→Int→Option (Bq)}{names:List (Bq)}{tr:Bq→Option (Bq)}
def kT{pr:Prim}{l:List FuncId}(h:(l.all fun f=>(pr f).isNone)=true):∀f,f∈l→pr f=none:=fun f a=>Option.isNone_iff_eq_none.1 (aT.1 h f a)
def LM:E9 4065 all (KA prog un names tr all):=⟨kq,kq,kq,kT kq⟩
def Hy:∀f,f∈cD→KA prog un names tr all f=none:=kT kq
def KC:KA prog un names tr all 127=bB 127:=kq
def LL(U:∀l∈all,∃c:Nat,It c∧l=((c:Nat):Int))(d:all.length≤100000):xo 4065 all (KA prog un names tr all) where
 y5:=kq
 Uq:=kq
 one:=fun s l b a e=>Nj LM kq (a.imp id fun h=>U l h) e
 no:=kT kq
 pos:=fun l a=>by obtain⟨c,_,rfl⟩:=U l a;omega
 len:=d
def Qi(U:∀l∈all,∃c:Nat,It c∧l=((c:Nat):Int))(b:all.length≤100000):tT 4065 all (fun t=>t) (fun t k=>(un t k).getD []) (fun t=>t∈names) (fun t k=>∃w,un t k=some w) (KA prog un names tr all) where
 h:={
  g:=LL U b
  low:=fun s t f=>by
   refine EF.rC (g:=fun a s=>match wR names a with|some v=>some (v,s)|none=>none) rfl ?_
   have:wR names #[str t]=some (str t):=by
    unfold wR
    show(if names.any (aY t) then _ else _)=_
    rw[ip (List.any_eq_true.2 ⟨t,f,(eQ _ _).2 rfl⟩)]
   simp only[this]
  Rm:=fun s t k ⟨w,i⟩ h1 j=>by
   refine EF.rC (g:=fun a s=>match IJ un a s with|some v=>some (v,s)|none=>bG prog lF (dl 4065 all) 0 157 a s) rfl ?_
   have:IJ un #[str t,num k] s=some (str ((un t k).getD [])):=by
    unfold IJ
    simp only[h1]
    rw[ip ⟨kq,oq⟩]
    show(un t k).map str=_
    rw[i];rfl
   simp only[this] }
 Kr:=kq
 Nb:=kq
 Nc:=kq
 PN:=kq
 Nf:=kq
 lv:=fun l e=>by obtain⟨c,d,rfl⟩:=U l e;unfold It at d;omega
def HA{x:Bq}(h:tr x=some w)(s:AS):Ef (KA prog un names tr all) 198 #[str x,str [9,10,12,13,32]] s (str w) s:=by
 refine EF.rC (g:=fun a s=>match EX tr a with|some v=>some (v,s)|none=>none) rfl ?_;have:EX tr #[str x,str [9,10,12,13,32]]=some (str w):=by unfold EX;show(if aY [9,10,12,13,32] [9,10,12,13,32] then (tr x).map str else none)=_;rw[ip dq,h];rfl
 simp only[this]
def Hz{x:Bq}(U:x.length≤1000000):∃w s1,Ef (ly 258 (wR names) (I7 prog 0 un all)) 198 #[str x,str [9,10,12,13,32]] ⟨[],4066⟩ (str w) s1:=NU (kT kq) U (EF.eval 200 kq)
end
def yq (sp:List Nat)(c:Nat):List Nat:=if c∈sp then 38::(if c=38 then [97,109,112,59] else if c=60 then [108,116,59] else if c=62 then [103,116,59] else [113,117,111,116,59]) else [c]
def JB{sp:List Nat}(U:sp=[38,34]∨sp=[38,60,62])(a:It c):(yJ c).flatMap (fp (sp.map UInt8.ofNat))=cF (yq sp c)∧∀x∈yq sp c,It x∧(c≠0→x≠0)∧(c≠13→x≠13)∧(x∈sp→x=38):=by
 rcases a with a|rfl
 ·have b:∀c:_root_.Fin 128,∀sp∈[[38,34],[38,60,62]],(yJ c.1).flatMap (fp (sp.map UInt8.ofNat))=cF (yq sp c.1)∧∀x∈yq sp c.1,(x<128∨x=233)∧(c.1≠0→x≠0)∧(c.1≠13→x≠13)∧(x∈sp→x=38):=dq
  exact b ⟨c,a⟩ sp (by rcases U with rfl|rfl<;>simp)
 ·rcases U with rfl|rfl<;>exact⟨dq,by unfold It;decide⟩
def fU (sp:List Nat)(cl:List Nat):List Nat:=cl.flatMap (yq sp)
def wx{sp:List Nat}(a:sp=[38,34]∨sp=[38,60,62]):∀{cl:List Nat},Pl cl→(cF cl).flatMap (fp (sp.map UInt8.ofNat))=cF (fU sp cl)∧Pl (fU sp cl)∧∀x∈fU sp cl,x∈sp→x=38
 | [],_=>⟨rfl,fun x U=>by simp[fU] at U,fun x U=>by simp[fU] at U⟩
 | c::cl,h=>by
  have⟨h1,h2,h3⟩:=wx a (cl:=cl) fun x U=>h x (by simp[U]);have⟨b,d,e⟩:=h c iq;have⟨g1,g2⟩:=JB a b;refine⟨?_,fun x U=>?_,fun x U=>?_⟩
  ·show(yJ c++cF cl).flatMap _=cF (yq sp c++fU sp cl);rw[List.flatMap_append,cH,g1,h1]
  ·rcases List.mem_append.1 (show x∈yq sp c++fU sp cl from U) with U|U
   ·exact⟨(g2 x U).1,(g2 x U).2.1 d,(g2 x U).2.2.1 e⟩
   ·exact h2 x U
  ·rcases List.mem_append.1 (show x∈yq sp c++fU sp cl from U) with U|U
   ·exact(g2 x U).2.2.2
   ·exact h3 x U
section
variable {a b:Iq}{v w:Bq}{pr:Prim}{c:Nat}{W:Bq→Int→Prop}{wr:Bq→Int→Bq}
def gg.to{x y y':St}(h:gg pr rn c all x y)(U:y.k=y'.k)(a:y.tx=y'.tx)(b:y.us=y'.us):gg pr rn c all x y':=by cases y;cases y';cases U;cases a;cases b;exact h
end
section
variable {s:AS}
def JA(p q:ByteArray):fV prog (Op.equal 47 (.agg #[.string p,.string q]) (.agg #[.string p,.string q]))=some true:=by
 have U:∀(d:Nat) (x:ByteArray),fV prog (Op.equalIn (d+1) 9 (.string x) (.string x))=some true:=by
  intro d x;rw[Op.equalIn];have a:(x==x)=true:=by have⟨x⟩:=x;show(x==x)=true;exact beq_self_eq_true x
  simp[underlying9,a]
 have p0:∀x y:ByteArray,fV prog (part 9 #[.string x,.string y] 0)=some (.string x):=fun x y=>by kernel_rfl
 have p1:∀x y:ByteArray,fV prog (part 9 #[.string x,.string y] 1)=some (.string y):=fun x y=>by kernel_rfl
 show fV prog (Op.equalIn (9999+1) 47 _ _)=_;rw[Op.equalIn];simp only[dk,dM,underlying47,Option.bind_some];rw[show fV prog program=some prog from rfl];simp only[Option.bind_some];rw[iw (by rw[show prog.stoodInHeld 47=false by kernel_rfl];decide)];rw[← Array.forIn_toList];simp only[List.forIn_cons,List.forIn_nil,dk,p0,p1,U 9998,Option.bind_some,ne_eq,String.reduceEq,not_false_eq_true,if_true,Bool.not_true,Bool.false_eq_true,if_false,lY]
def Km{c:ft}{y:Operand}{p q:Bq}(U:o.op=.binOp .neq 47 x y t)(d:a.at x=.agg #[str p,str q])(e:a.at y=.agg #[str p,str q]):bM prog kt c a o s=some (.bool false,s):=by
 refine ec (by rw[U];rfl) (by rw[U];trivial) ?_;have f:dj .neq (.agg #[str p,str q]) (.agg #[str p,str q])=none:=rfl;have i:lS prog .neq 47 (.agg #[str p,str q]) (.agg #[str p,str q])=none:=rfl;unfold cb;rw[U];simp only;rw[d,e,f];simp only;rw[i];simp only;unfold su;have b:o.op.operands.toList=[x,y]:=by rw[U];rfl
 rw[b];have g:([x,y].all fun z=>sJ (a.at z))=true:=by simp only[List.all_cons,List.all_nil,d,e];rfl
 rw[ip g];have j:fV prog (execOp a.at o)=some (.value (.bool false)):=by
  unfold execOp;rw[U];simp only[d,e,dk];have h:fV prog (eqGuard .neq 47 x y (.agg #[str p,str q]) (.agg #[str p,str q]))=some ():=kq
  rw[h];simp only[Option.bind_some,binOp,dk,JA,lY,Bool.not_true]
 rw[j];rfl
end
def Ce{a:Option Value × Value}{l:List (Option Value × Value)}(b:a.1=some a.2∧bu 20 a.2=true)(c:∀x∈l,x.1=some x.2∧bu 20 x.2=true):∀x∈a::l,x.1=some x.2∧bu 20 x.2=true:=fun x U=>by
 rcases List.mem_cons.1 U with rfl|U
 ·exact b
 ·exact c x U
def Vx:∀x∈([]:List (Option Value × Value)),x.1=some x.2∧bu 20 x.2=true:=fun x U=>by simp at U
def uZ(l:Bq):dj .neq (str l) (str l)=some (.bool false):=by unfold dj;simp only;rw[(eQ l l).2 rfl];rfl
def NG (va vb:Value)(i:Nat)(x:Nq):TL:=[va,vb,x 2,x 3,.bool false,num (i:Nat)]++iy x 6 104
def Ia(va vb:Value)(i j:Nat)(x:Nq):TL:=[va,vb,x 2,x 3,.bool false,num (i:Nat),num (j:Nat)]++iy x 7 103
section
variable {s:AS}{pr:Prim}{va vb:Value}{xs ys:List bv}{us:List Nd}
def NB(aa:pr 22=none)(hA:lq s va xs)(hB:lq s vb ys)(O:eu s xs us)(R:eu s ys us)(hu:∀u∈us,u.bU.length≤100000)(hn:us.length≤100000):Ef pr 22 #[va,vb] s (.bool true) s:=by
 obtain⟨a,g,f1,rfl,g1⟩:=hA;obtain⟨d,k,f2,rfl,g2⟩:=hB;rw[O.1,R.1];generalize hN:us.length=N at *;refine EF.of aa func22 rfl ?_;refine zs (EW.seq (zr (zk 4 (zp (yb (num (N:Nat)) (num (N:Nat)) (ca (b:=false) (bne_self_eq_false _))) (EO.nil (za s (zF (EW.seq (zs ?_)))))))));refine EW.fill (NG (.slice (sq a) N g) (.slice (sq d) N k) 0) kq ?_;intro x0;refine za s (EW.block ?_);refine EW.mono (EW.dS (Q:=fun e l E=>e=.exit 0∧E=s∧∃x,l=NG (.slice (sq a) N g) (.slice (sq d) N k) N x) (fun m l E=>E=s∧∃i,i+m=N∧∃x,l=NG (.slice (sq a) N g) (.slice (sq d) N k) i x) ?_ N _ _ ⟨rfl,0,oq,x0,rfl⟩) ?_
 ·rintro m l S ⟨rfl,i,af,x,rfl⟩;by_cases hi:i<N
  ·have W:us[i]?=some us[i]:=gE oq;have Z:=hu us[i] (List.getElem_mem _);generalize us[i]=u at W Z;have C:xs[i]?=some (xs[i]'(by rw[O.1];omega)):=gE _;generalize (xs[i]'(by rw[O.1];omega))=X at C;have D:ys[i]?=some (ys[i]'(by rw[R.1];omega)):=gE _;generalize (ys[i]'(by rw[R.1];omega))=Y at D;have K:=O.2 i X u C W;have L:=R.2 i Y u D W;have tX:=K.2.2.2.2;have tY:=L.2.2.2.2;have⟨F,A,e1⟩:=tX.len;have⟨J,G,M⟩:=tY.len;rw[e1] at tX;rw[M] at tY;generalize w:u.bU.length=U at *;have e1:=e1.symm;have M:=M.symm;have a0:(bC xs)[i*5+0]?=some (num u.kind):=by rw[ei C 0 dq,← K.1];rfl
   have b0:(bC ys)[i*5+0]?=some (num u.kind):=by rw[ei D 0 dq,← L.1];rfl
   have a1:(bC xs)[i*5+1]?=some (num u.parent):=by rw[ei C 1 dq,← K.2.1];rfl
   have b1:(bC ys)[i*5+1]?=some (num u.parent):=by rw[ei D 1 dq,← L.2.1];rfl
   have a2:(bC xs)[i*5+2]?=some (str u.name):=by rw[ei C 2 dq,← K.2.2.1];rfl
   have b2:(bC ys)[i*5+2]?=some (str u.name):=by rw[ei D 2 dq,← L.2.2.1];rfl
   have a3:(bC xs)[i*5+3]?=some (str u.text):=by rw[ei C 3 dq,← K.2.2.2.1];rfl
   have b3:(bC ys)[i*5+3]?=some (str u.text):=by rw[ei D 3 dq,← L.2.2.2.1];rfl
   have H:(bC xs)[i*5+4]?=some (.slice F U A):=by rw[ei C 4 dq,e1];rfl
   have V:(bC ys)[i*5+4]?=some (.slice J U G):=by rw[ei D 4 dq,M];rfl
   have m0:=bL (P:=prog) (t:=3) underlying3 rfl g1.2 a0;have n0:=bL (P:=prog) (t:=3) underlying3 rfl g2.2 b0;have m1:=bL (P:=prog) (t:=3) underlying3 rfl g1.2 a1;have n1:=bL (P:=prog) (t:=3) underlying3 rfl g2.2 b1;have m2:=bL (P:=prog) (t:=9) underlying9 rfl g1.2 a2;have n2:=bL (P:=prog) (t:=9) underlying9 rfl g2.2 b2;have m3:=bL (P:=prog) (t:=9) underlying9 rfl g1.2 a3;have n3:=bL (P:=prog) (t:=9) underlying9 rfl g2.2 b3;have m4:=bL (P:=prog) (t:=42) underlying42 rfl g1.2 H;have n4:=bL (P:=prog) (t:=42) underlying42 rfl g2.2 V;refine EW.seq (zr (zk 3 (zp (yb (num (i:Nat)) (num (N:Nat)) (aX (b:=true) (tD oq))) (EO.nil (za S (zT (EW.seq (EW.block ?_))))))))
   ·refine EW.seq (EW.seq (EW.draw kq kq kq ?_));iterate 2 refine zq ?_
    refine zu (yi a 0 N g (i*5) none .i64 (i:Nat) 5 oq oq oq) (zq (zt S (zu (bP (b:=a) (off:=i*5+0) (v:=num u.kind) rfl underlying3 rfl kq g1.2 a0) ?_)));iterate 2 refine zq ?_
    refine zu (yi d 0 N k (i*5) none .i64 (i:Nat) 5 oq oq oq) (zq (zt S (zu (bP (b:=d) (off:=i*5+0) (v:=num u.kind) rfl underlying3 rfl kq g2.2 b0) (zu (yb (num u.kind) (num u.kind) (ca (b:=false) (bne_self_eq_false _))) (zq ?_)))));iterate 2 refine zq ?_
    refine zu (yi a 0 N g (i*5) none .i64 (i:Nat) 5 oq oq oq) (zq (zt S (zu (bP (b:=a) (off:=i*5+1) (v:=num u.parent) rfl underlying3 rfl kq g1.2 a1) ?_)));iterate 2 refine zq ?_
    refine zu (yi d 0 N k (i*5) none .i64 (i:Nat) 5 oq oq oq) (zq (zt S (zu (bP (b:=d) (off:=i*5+1) (v:=num u.parent) rfl underlying3 rfl kq g2.2 b1) (zu (yb (num u.parent) (num u.parent) (ca (b:=false) (bne_self_eq_false _))) ?_))));iterate 2 refine zq ?_
    iterate 2 refine zq ?_
    refine zu (yi a 0 N g (i*5) none .i64 (i:Nat) 5 oq oq oq) (zq (zt S (zu (bP (b:=a) (off:=i*5+2) (v:=str u.name) rfl underlying9 rfl kq g1.2 a2) ?_)));iterate 2 refine zq ?_
    refine zu (yi d 0 N k (i*5) none .i64 (i:Nat) 5 oq oq oq) (zq (zt S (zu (bP (b:=d) (off:=i*5+2) (v:=str u.name) rfl underlying9 rfl kq g2.2 b2) (zu (yb (str u.name) (str u.name) (uZ u.name)) ?_))));iterate 2 refine zq ?_
    iterate 2 refine zq ?_
    refine zu (yi a 0 N g (i*5) none .i64 (i:Nat) 5 oq oq oq) (zq (zt S (zu (bP (b:=a) (off:=i*5+3) (v:=str u.text) rfl underlying9 rfl kq g1.2 a3) ?_)));iterate 2 refine zq ?_
    refine zu (yi d 0 N k (i*5) none .i64 (i:Nat) 5 oq oq oq) (zq (zt S (zu (bP (b:=d) (off:=i*5+3) (v:=str u.text) rfl underlying9 rfl kq g2.2 b3) (zu (yb (str u.text) (str u.text) (uZ u.text)) ?_))));iterate 2 refine zq ?_
    iterate 2 refine zq ?_
    refine zu (yi a 0 N g (i*5) none .i64 (i:Nat) 5 oq oq oq) (zq (zt S (zu (bP (b:=a) (off:=i*5+4) (v:=.slice F U A) rfl underlying42 rfl kq g1.2 H) (zq ?_))));iterate 2 refine zq ?_
    refine zu (yi d 0 N k (i*5) none .i64 (i:Nat) 5 oq oq oq) (zq (zt S (zu (bP (b:=d) (off:=i*5+4) (v:=.slice J U G) rfl underlying42 rfl kq g2.2 V) (zq (zu (yb (num (U:Nat)) (num (U:Nat)) (ca (b:=false) (bne_self_eq_false _))) (zq (ET.nil ⟨aK [(aC prog 3 (am a (i*5+0)) S,num u.kind),(aC prog 3 (am d (i*5+0)) S,num u.kind),(aC prog 3 (am a (i*5+1)) S,num u.parent),(aC prog 3 (am d (i*5+1)) S,num u.parent),(aC prog 9 (am a (i*5+2)) S,str u.name),(aC prog 9 (am d (i*5+2)) S,str u.name),(aC prog 9 (am a (i*5+3)) S,str u.text),(aC prog 9 (am d (i*5+3)) S,str u.text),(aC prog 42 (am a (i*5+4)) S,.slice F U A),(aC prog 42 (am d (i*5+4)) S,.slice J U G)] kq (Ce ⟨m0,rfl⟩ (Ce ⟨n0,rfl⟩ (Ce ⟨m1,rfl⟩ (Ce ⟨n1,rfl⟩ (Ce ⟨m2,rfl⟩ (Ce ⟨n2,rfl⟩ (Ce ⟨m3,rfl⟩ (Ce ⟨n3,rfl⟩ (Ce ⟨m4,by cases F<;>rfl⟩ (Ce ⟨n4,by cases J<;>rfl⟩ Vx)))))))))),_,_,_,_,_,_,rfl,rfl,?_⟩)))))));refine za S (zF (zs ?_));refine EW.fill (Ia (.slice (sq a) N g) (.slice (sq d) N k) i 0) kq ?_;intro x1;refine za S (EW.block ?_);refine EW.mono (EW.dS (Q:=fun e l E=>e=.exit 2∧E=S∧∃x,l=Ia (.slice (sq a) N g) (.slice (sq d) N k) i U x) (fun m l E=>E=S∧∃j,j+m=U∧∃x,l=Ia (.slice (sq a) N g) (.slice (sq d) N k) i j x) ?_ U _ _ ⟨rfl,0,oq,x1,rfl⟩) ?_
    ·rintro m' l f ⟨rfl,j,ag,x2,rfl⟩;by_cases hj:j<U
     ·have hP:u.bU[j]?=some (u.bU[j]'oq):=gE _;generalize (u.bU[j]'oq)=p at hP;have⟨T,z2⟩:=vP hP;obtain⟨h,ZG,rfl,y1⟩:∃o B,F=some ⟨o,0,none⟩∧f.get o=some (.cells (fT u.bU) 47 B):=by
       rcases tX with ⟨_,z⟩|⟨o,c,B,z,_,y⟩
       ·rw[z] at w;simp at w;omega
       ·cases z;exact⟨o,B,rfl,y⟩
      obtain⟨I,ae,rfl,y2⟩:∃o B,J=some ⟨o,0,none⟩∧f.get o=some (.cells (fT u.bU) 47 B):=by
       rcases tY with ⟨_,z⟩|⟨o,c,B,z,_,y⟩
       ·rw[z] at w;simp at w;omega
       ·cases z;exact⟨o,B,rfl,y⟩
      have v1:=iJ (P:=prog) (t:=47) (n:=2) underlying47 rfl kq y1 (off:=j*2) T;have v2:=iJ (P:=prog) (t:=47) (n:=2) underlying47 rfl kq y2 (off:=j*2) T;rw[z2] at v1 v2;refine EW.seq (zr (zk 3 (zp (yi a 0 N g (i*5) none .i64 (i:Nat) 5 oq oq oq) (zg 1 f (zp (bP (b:=a) (off:=i*5+4) (v:=.slice (sq h) U A) rfl underlying42 rfl kq g1.2 H) (zk 1 (zp (yb (num (j:Nat)) (num (U:Nat)) (aX (b:=true) (tD oq))) (EO.nil (za f (zT (EW.seq (EW.block (EW.seq (EW.draw kq kq kq ?_))))))))))))));iterate 2 refine zq ?_
      refine zu (yi a 0 N g (i*5) none .i64 (i:Nat) 5 oq oq oq) (zq (zt f (zu (bP (b:=a) (off:=i*5+4) (v:=.slice (sq h) U A) rfl underlying42 rfl kq g1.2 H) (zq (zu (yi h 0 U A (j*2) none .i64 (j:Nat) 2 oq oq oq) (zt f (zu (gX (b:=h) (off:=j*2) (n:=2) (r:=#[str p.1,str p.2]) rfl underlying47 rfl kq kq y1 T z2) ?_)))))));iterate 2 refine zq ?_
      refine zu (yi d 0 N k (i*5) none .i64 (i:Nat) 5 oq oq oq) (zq (zt f (zu (bP (b:=d) (off:=i*5+4) (v:=.slice (sq I) U G) rfl underlying42 rfl kq g2.2 V) (zq (zu (yi I 0 U G (j*2) none .i64 (j:Nat) 2 oq oq oq) (zt f (zu (gX (b:=I) (off:=j*2) (n:=2) (r:=#[str p.1,str p.2]) rfl underlying47 rfl kq kq y2 T z2) (zu (Km (p:=p.1) (q:=p.2) rfl kq kq) (ET.nil ⟨aK [(aC prog 42 (am a (i*5+4)) f,.slice (sq h) U A),(aC prog 47 (am h (j*2)) f,.agg #[str p.1,str p.2]),(aC prog 42 (am d (i*5+4)) f,.slice (sq I) U G),(aC prog 47 (am I (j*2)) f,.agg #[str p.1,str p.2])] kq (Ce ⟨m4,rfl⟩ (Ce ⟨v1,rfl⟩ (Ce ⟨n4,rfl⟩ (Ce ⟨v2,rfl⟩ Vx)))),_,_,_,_,_,_,rfl,rfl,?_⟩)))))))));refine za f (zF (zx (zk 1 (zp (yp (j:Nat) 1 ((j+1:Nat):Int) oq oq) (zf ?_)))));exact⟨m'-1,oq,rfl,j+1,oq,aN kq⟩
     ·obtain rfl:j=U:=oq
      refine EW.seq (zr (zk 3 (zp (yi a 0 N g (i*5) none .i64 (i:Nat) 5 oq oq oq) (zg 1 f (zp (bP (b:=a) (off:=i*5+4) (v:=.slice F j A) rfl underlying42 rfl kq g1.2 H) (zk 1 (zp (yb (num (j:Nat)) (num (j:Nat)) (aX (b:=false) (fD oq))) (EO.nil (za f (zG (EW.exit ?_)))))))))));exact⟨rfl,rfl,aN kq⟩
    ·rintro e l f ⟨rfl,rfl,x2,rfl⟩;refine zx (zk 1 (zp (yp (i:Nat) 1 ((i+1:Nat):Int) oq oq) (zf ?_)));exact⟨m-1,oq,rfl,i+1,oq,aN kq⟩
  ·obtain rfl:i=N:=oq
   refine EW.seq (zr (zk 3 (zp (yb (num (i:Nat)) (num (i:Nat)) (aX (b:=false) (fD oq))) (EO.nil (za S (zG (EW.exit ?_)))))));exact⟨rfl,rfl,aN kq⟩
 ·rintro e l S ⟨rfl,rfl,x,rfl⟩;refine zs ?_;exact yR
end
def El{l:List bv}{x:bv}(h:l[i]?=some x)(w:Value):putAt (bC l) (i*5+4) [w]=bC (l.set i { x with bU:=w }):=by
 apply Array.ext_getElem?;intro k;have b:∀(l:List bv) (i k:Nat),l[i]?=some x→((l.flatMap bv.cells).set (i*5+4) w)=(l.set i { x with bU:=w }).flatMap bv.cells:=by
  intro l;induction l with
  | nil=>intro i k h;simp at h
  | cons y l d =>
   intro i k h;match i with
   | 0=>simp at h;subst h;rfl
   | i+1 =>have:=d i k (by simpa using h);rw[show(i+1)*5+4=(i*5+4)+5 by omega];show _::_::_::_::_::((l.flatMap bv.cells).set (i*5+4) w)=_;rw[this];rfl
 have c:putAt (bC l) (i*5+4) [w]=((l.flatMap bv.cells).set (i*5+4) w).toArray:=by
  unfold putAt;have a:i*5+4<(l.flatMap bv.cells).length:=by have h1:=jv l;have h2:=(gS.1 h).1;rw[List.size_toArray] at h1;omega
  rw[List.set_eq_take_append_cons_drop,ip a];simp
 rw[c,b l i k h]
section
variable {s:AS}{pr:Prim}{v:Value}{xs:List bv}{us:List Nd}
def u6:∀{xs:List bv},(∀x∈xs,x.bU.oneCell'=true)→(xs.flatMap bv.cells).all Value.oneCell'=true
 | [],_=>rfl
 | x::xs,h=>by have:=u6 (xs:=xs) fun y a=>h y (by simp[a]);rw[List.flatMap_cons,List.all_append,this];have h1:=h x iq;show((true&&(true&&(true&&(true&&(x.bU.oneCell'&&true)))))&&true)=true;rw[h1];rfl
def xO{b d:Nat}(h:d<b):dz (.slice (sq b) n k) (sq d)=true:=by
 show(!Nat.beq b d)=true;cases U:Nat.beq b d with
 | true=>have:=Nat.eq_of_beq_eq_true U;omega
 | false=>rfl
def Gf(U:pr 41=none)(l:lq s v xs)(w:xs.length≤100000)(y:0<xs.length)(p:∀x∈xs,x.bU.oneCell'=true):∃g d,Ef pr 41 #[v] s (.slice (sq d) xs.length xs.length) g∧Has g d (.cells (bC xs) 44 (1,1))∧aP (fun _=>False) s g∧s.nx≤d:=by obtain⟨j,q,t,rfl,i⟩:=l;have a:=jv xs;have r:=Has.new s (.cells #[] 44);have f:=i.add (.cells #[] 44);have b:=fM (P:=prog) (s:=s.add (.cells #[] 44)) (e:=44) (news:=xs.flatMap bv.cells) (m:=xs.length) (d:=s.nx) (n:=0) (k:=0) (sz:=5) oq r.2 kq iq oq;rw[Nat.zero_add] at b;have o:aP (fun _=>False) s (((s.add (.cells #[] 44)).set s.nx none).add (.cells (bC xs) 44 (1,1))):=(((aP.refl s).add _).set (fun h=>by omega) _).add _;have c:=Has.new ((s.add (.cells #[] 44)).set s.nx none) (.cells (bC xs) 44 (1,1));generalize u:xs.length=N at *;refine⟨_,(s.add (.cells #[] 44)).nx,?_,c,o,iq⟩;refine EF.of U func41 rfl ?_;refine zs (EW.seq (zr (zf (za s (zF (zr (zg 2 (s.add (.cells #[] 44)) (zp (eF (sl:=.slice (sq s.nx) 0 0) (news:=xs.flatMap bv.cells) (d:=j) (m:=N) (k:=q) (sz:=5) (z:=tS) (bytes:=72) rfl kq kq underlying38 kq rfl dq dq kq f.2 (xO i.1) oq (by rw[a];exact lr) (by rw[tL (by rw[Array.length_toList,a];exact lr)]) (u6 p) b) (zf ?_)))))))));exact yR
def Dy(l:jd):(fT l).toList.all Value.oneCell'=true:=by
 induction l with
 | nil=>rfl
 | cons x l U=>simp[Value.oneCell'] at U ⊢
def Ge(p:pr 42=none){l:jd}(x:bY s v l)(C:l.length≤100000):∃b w,Ef pr 42 #[v] s w b∧bY b w l∧aP (fun _=>False) s b:=by
 rcases x with ⟨rfl,rfl⟩|⟨d0,k0,fz,rfl,a1,hd⟩
 ·refine⟨s,aD,?_,.inl ⟨rfl,rfl⟩,aP.refl s⟩;refine EF.of p func42 rfl ?_;refine zs (EW.seq (zr (zf (za s (zH (zs ?_))))));exact EW.ret ⟨.inr rfl,kq,kq⟩
 ·have U:=nJ l;have o:=Has.new s (.cells #[] 47);have g:=Has.add (s:=s) ⟨a1,hd⟩ (.cells #[] 47);have i:=xO (n:=0) (k:=0) a1;obtain⟨b,w,a,A,y,j⟩:∃b w,bn prog 47 (.slice (sq s.nx) 0 0) (fT l).toList l.length (s.add (.cells #[] 47))=some (w,b)∧bY b w l∧aP (fun _=>False) s b∧∃q r,w=.slice q l.length r:=by
   by_cases t:l=[]
   ·subst t;exact⟨_,_,qM (.inr ⟨_,_,_,rfl⟩),.inr ⟨_,_,_,rfl,o.1,o.2⟩,(aP.refl s).add _,_,_,rfl⟩
   ·have u:l.length≠0:=fun e=>t (List.length_eq_zero_iff.1 e);have a:=fM (P:=prog) (s:=s.add (.cells #[] 47)) (e:=47) (news:=(fT l).toList) (m:=l.length) (d:=s.nx) (n:=0) (k:=0) (sz:=2) u o.2 kq iq oq;rw[Nat.zero_add] at a;have c:=Has.new ((s.add (.cells #[] 47)).set s.nx none) (.cells (fT l) 47 (1,1));exact⟨_,_,a,.inr ⟨_,_,_,rfl,c.1,c.2⟩,(((aP.refl s).add _).set (fun h=>by omega) _).add _,_,_,rfl⟩
  obtain⟨q,r,rfl⟩:=j;refine⟨b,_,?_,A,y⟩;have f:=Dy l;generalize B:l.length=N at *;refine EF.of p func42 rfl ?_;refine zs (EW.seq (zr (zf (za s (zF (zr (zg 2 (s.add (.cells #[] 47)) (zp (eF (sl:=.slice (sq s.nx) 0 0) (news:=(fT l).toList) (d:=d0) (m:=N) (k:=k0) (sz:=2) (z:=.agg #[str [],str []]) (bytes:=32) rfl kq kq underlying42 kq rfl dq dq kq g.2 i oq (by rw[U];exact lr) (by rw[tL (by rw[Array.length_toList,U];exact lr)]) f a) (zf ?_)))))))));exact EW.ret ⟨.inr rfl,kq,kq⟩
def NH (B:Value)(v:Value)(n i:Nat)(x:Nq):TL:=[B,x 1,aD,v,x 4,x 5,x 6,x 7,x 8,x 9,v,num (n:Nat),num (i:Nat)]++iy x 13 14
def eu.one(h:eu s xs us):∀x∈xs,x.bU.oneCell'=true:=fun x b=>by
 have⟨i,U⟩:=List.mem_iff_getElem?.1 b;have a:i<us.length:=by rw[← h.1];exact(gS.1 U).1
 have⟨c,d,e⟩:=(h.2 i x _ U (gE a)).2.2.2.2.len;rw[e];rfl
def Kh(W:pr 23=none)(X:pr 41=none)(Z:pr 42=none)(hB:Has s B (.cells #[v] 82))(hA:lq s v xs)(G:eu s xs us)(hu:∀u∈us,u.bU.length≤100000)(hn:us.length≤100000)(hp:0<us.length):∃R w ys,Ef pr 23 #[am B 0] s w R∧lq R w ys∧eu R ys us∧aP (fun _=>False) s R:=by
 suffices h:Ew pr (match Tryz.f23.body with|some c=>c|none=>.skip) ((#[am B 0]:Aq).toList++List.replicate (Tryz.f23.ntmps-(#[am B 0]:Aq).toList.length) undef) s (fun e A g=>(e=.normal∨e=.ret)∧∃w ys,du prog Tryz.f23 A g=some w∧lq g w ys∧eu g ys us∧aP (fun _=>False) s g) by have⟨m,e,A,g,h1,he,w,ys,h2,h3⟩:=h;exact⟨g,w,ys,EF.of W func23 rfl ⟨m,e,A,g,h1,he,h2,rfl⟩,h3⟩
 have⟨S,d,c1,c2,c3,c4⟩:=Gf X hA (by rw[G.1];exact hn) (by rw[G.1];exact hp) G.one;have XS:eu S xs us:=G.fk c3 fun _ _ _ _=>id;obtain⟨d0,k0,f0,rfl,ZR⟩:=hA;rw[G.1] at hB c1;generalize hN:us.length=N at *;refine zs (zr (zg 3 s (zp (bP (b:=B) (off:=0) (v:=.slice (sq d0) N k0) rfl underlying38 rfl kq hB.2 rfl) (zc 0 c1 (zf (za S (EW.seq (zr (zf ?_)))))))));refine EW.fill (NH (am B 0) (.slice (sq d) N N) N 0) kq ?_;intro x0;refine za S (EW.block ?_);refine EW.mono (EW.dS (Q:=fun e A g=>e=.exit 0∧(∃ys,ys.length=N∧Has g d (.cells (bC ys) 44 (1,1))∧eu g ys us)∧aP (fun _=>False) s g∧∃x,A=NH (am B 0) (.slice (sq d) N N) N N x) (fun m A g=>∃i,i+m=N∧(∃ys,ys.length=N∧Has g d (.cells (bC ys) 44 (1,1))∧eu g ys us)∧aP (fun _=>False) s g∧∃x,A=NH (am B 0) (.slice (sq d) N N) N i x) ?_ N _ _ ⟨0,oq,⟨xs,by rw[G.1,hN],c2,XS⟩,c3,x0,rfl⟩) ?_
 ·rintro m A U ⟨i,XJ,⟨ys,q,o,t⟩,C,x,rfl⟩;by_cases hi:i<N
  ·have hU:us[i]?=some us[i]:=gE oq;have L:=hu us[i] (List.getElem_mem _);generalize us[i]=u at hU L;have P:ys[i]?=some ys[i]:=gE oq;generalize ys[i]=Y at P;have O:=t.2 i Y u P hU;have tY:=O.2.2.2.2;have⟨V,w,q1,q2,q3⟩:=Ge Z tY L;have a4:(bC ys)[i*5+4]?=some Y.bU:=by rw[ei P 4 dq];rfl
   have H:=jv ys;have⟨ad,cp,e1⟩:=tY.len;rw[e1] at a4 q1;have⟨a,f,e2⟩:=q2.len;subst e2;have p:=o.fr q3 id;have M:eu V ys us:=t.fk q3 fun _ _ _ _=>id;have J:=El P (.slice a u.bU.length f);generalize Z1:u.bU.length=D at *;have r1:Has (V.set d (some (.cells (bC (ys.set i { Y with bU:=.slice a D f })) 44 (1,1)))) d (.cells (bC (ys.set i { Y with bU:=.slice a D f })) 44 (1,1)):=p.put _;have E:aP (fun x=>x=d) V (V.set d (some (.cells (bC (ys.set i { Y with bU:=.slice a D f })) 44 (1,1)))):=aP.set (K:=fun x=>x=d) (aP.refl V) (fun _=>rfl) _;have r2:eu (V.set d (some (.cells (bC (ys.set i { Y with bU:=.slice a D f })) 44 (1,1)))) (ys.set i { Y with bU:=.slice a D f }) us:=by
    refine⟨by rw[List.length_set,q,hN],fun j y u' l F=>?_⟩;have I:∀x cs T,Has V x (.cells cs 47 T)→¬x=d:=fun x cs T hx=>hx.ne p dq;rw[List.getElem?_set] at l;split at l
    ·next e =>
     subst e;split at l
     ·cases l;rw[hU] at F;cases F;refine⟨O.1,O.2.1,O.2.2.1,O.2.2.2.1,q2.fk E fun y l=>?_⟩;rcases q2 with ⟨z,_⟩|⟨ab,c,T,z,z1,z2⟩
      ·rw[z] at l;exact(cz l).elim
      ·rw[z] at l;rw[cY l];exact I _ _ _ ⟨z1,z2⟩
     ·cases l
    ·exact(M.fk E I).2 j y u' l F
   refine zr (zp (aU (u:=num (i:Nat)) (w:=num (N:Nat)) rfl kq kq (aX (b:=true) (tD oq))) (EO.nil (EW.seq (zT (EW.seq (EW.block (za U (zs (za U (zx (zk 4 (zp (iv (b:=d) (off:=0) (n:=N) (cp:=N) (k:=i*5) (sp:=none) (kd:=.i64) (j:=(i:Nat)) (sz:=5) rfl underlying38 kq kq kq oq oq oq) (zg 1 U (zp (bP (b:=d) (off:=i*5+4) (v:=.slice ad D cp) rfl underlying42 rfl kq o.2 a4) (zc 0 q1 (zp (iv (b:=d) (off:=0) (n:=N) (cp:=N) (k:=i*5) (sp:=none) (kd:=.i64) (j:=(i:Nat)) (sz:=5) rfl underlying38 kq kq kq oq oq oq) (zg 1 V (zp (gC (b:=d) (off:=i*5+4) (w:=.slice a D f) rfl kq kq rfl rfl kq p.2 (by rw[H];omega)) (EO.nil (za (V.set d (some (.cells (putAt (bC ys) (i*5+4) [.slice a D f]) 44 (1,1)))) ?_))))))))))))))))))));rw[J];refine zx (zp (gW (i:=(i:Nat)) (j:=1) (r:=((i+1:Nat):Int)) rfl kq kq oq oq) (zf ?_));refine⟨m-1,oq,i+1,oq,⟨_,by rw[List.length_set,q],r1,r2⟩,(C.trans q3 fun _ _ z=>z).trans E (fun y l z=>by omega),aN kq⟩
  ·obtain rfl:i=N:=oq
   refine zr (zp (aU (u:=num (i:Nat)) (w:=num (i:Nat)) rfl kq kq (aX (b:=false) (fD oq))) (EO.nil (za U (EW.seq (zG (EW.exit ?_))))));exact⟨rfl,⟨ys,q,o,t⟩,C,aN kq⟩
 ·rintro e A U ⟨rfl,⟨ys,q,o,t⟩,C,x,rfl⟩;refine zs ?_;exact EW.ret ⟨.inr rfl,_,ys,kq,⟨d,N,(1,1),by rw[q],o⟩,t,C⟩
end
section
variable {cv cw:List Nat}{s:AS}
def Pl.app{a b:List Nat}(U:Pl a)(d:Pl b):Pl (a++b):=fun c e=>by
 rcases List.mem_append.1 e with h|h
 ·exact U c h
 ·exact d c h
def j1(h:Pl cv)(i:Pl cw):fE (cF cv)=cF (fU [38,34] cv)∧gQ (cF cw)=cF (fU [38,60,62] cw)∧Pl (fU [38,34] cv)∧Pl (fU [38,60,62] cw)∧(∀x∈fU [38,34] cv,x≠34)∧∀x∈fU [38,60,62] cw,x≠60:=by
 have⟨U,b,c⟩:=wx (.inl rfl) h;have⟨d,f,g⟩:=wx (.inr rfl) i;refine⟨(mK _).trans U,(mL _).trans d,b,f,fun x a e=>?_,fun x a e=>?_⟩
 ·have:=c x a (by rw[e];simp);omega
 ·have:=g x a (by rw[e];simp);omega
structure Fy(oj:Prim)(us:List Nd):Prop where
 run:∀s:AS,s.nx=4066→s.get 1=some (.cells db.toArray 335)→s.get 4064=some (.cells #[aD] 82)→∃s3 w xs,EW prog lF oj (match Tryz.f38.body with|some c=>c|none=>.skip) ([am 4065 0,am 4064 0]++List.replicate 5 undef) s (fun e _ s'=>(e=.normal∨e=.ret)∧s'=s3)∧Has s3 4064 (.cells #[w] 82)∧lq s3 w xs∧eu s3 xs us∧aP (fun x=>x=4064) s s3∧∀x,blk w x→4066≤x
end
structure Pc where
 kind:Nat
 nm:Bq
 at_:List (Bq × List Nat)
 cl:List Nat
def Ad (l:Bq):List Nat:=l.map UInt8.toNat
def Fb (a:Bq × List Nat):List Nat:=32::(Ad a.1++61::34::(fU [38,34] a.2++[34]))
def ej (p:Pc):List Nat:=if p.kind=3 then 60::47::(Ad p.nm++[62]) else if p.kind=2 then 60::(Ad p.nm++(p.at_.flatMap Fb++[62])) else fU [38,60,62] p.cl
def xu (p:Pc):Tok:=if p.kind=3 then pF p.nm else if p.kind=2 then toS p.nm (p.at_.map fun a=>(a.1,cF a.2)) else IH (cF p.cl)
def QV (l:List (Bq × List Nat)):Prop:=l=[]∨∃a ls,iX a∧a≠[]∧dO ls∧l=[(a,ls),(a++[120],[])]
def ub (p:Pc):Prop:=(p.kind=1∧dO p.cl∧cF p.cl≠[])∨(p.kind=2∧p.nm∈dH∧QV p.at_)∨(p.kind=3∧p.nm∈dH)
def sK:∀{l:Bq},(∀b∈l,b.toNat<128)→cF (Ad l)=l
 | [],_=>rfl
 | b::l,h=>by have U:=h b iq;show yJ b.toNat++cF (Ad l)=b::l;rw[sK fun x a=>h x (by simp[a])];unfold yJ;rw[iw oq,UInt8.ofNat_toNat];rfl
def Be(h:∀b∈l,97≤b.toNat∧b.toNat≤122):Pl (Ad l):=fun c a=>by
 obtain⟨b,U,rfl⟩:=List.mem_map.1 a
 have:=h b U;exact⟨.inl oq,oq,oq⟩
def il(h:nm∈dH):∀b∈nm,97≤b.toNat∧b.toNat≤122:=by simp only[dH,mZz] at h;rcases h with e|e|e|e|e|e|e|e|e|e|e<;>(rw[e];decide)
def FV{l:List (Bq × List Nat)}(h:QV l):∀a∈l,(∀b∈a.1,97≤b.toNat∧b.toNat≤122)∧a.1≠[]∧dO a.2∧a.1.length≤9:=by
 rcases h with rfl|⟨a,ls,h1,h2,h3,rfl⟩
 ·intro a d;cases d
 ·intro x U;simp only[mZz] at U
  have:=h1.1;rcases U with rfl|rfl
  ·exact⟨h1.2,h2,h3,by show a.length≤9;omega⟩
  ·refine⟨fun b e=>?_,iq,⟨show(cF []).length≤61 by decide,fun c f=>by cases f⟩,by show(a++[120]).length≤9;simp;omega⟩;rcases List.mem_append.1 e with z|z
   ·exact h1.2 b z
   ·simp at z;subst z;decide
def Pl.cons{l:List Nat}(a:c<128∧c≠0∧c≠13)(h:Pl l):Pl (c::l):=fun x U=>by
 rcases List.mem_cons.1 U with rfl|U
 ·exact⟨.inl a.1,a.2⟩
 ·exact h x U
def lx(h:∀b∈l,97≤b.toNat∧b.toNat≤122):∀b∈l,b.toNat<128:=fun b U=>by have:=h b U;omega
def jH(h:c<128)(l:List Nat):cF (c::l)=UInt8.ofNat c::cF l:=by show yJ c++cF l=_;unfold yJ;rw[iw oq];rfl
def OE{l:List (Bq × List Nat)}(h:∀a∈l,(∀b∈a.1,97≤b.toNat∧b.toNat≤122)∧a.1≠[]∧dO a.2∧a.1.length≤9):cF (l.flatMap Fb)=dt (l.map fun a=>(a.1,cF a.2))∧Pl (l.flatMap Fb):=by
 induction l with
 | nil=>exact⟨rfl,fun c U=>by cases U⟩
 | cons a l k =>
  have⟨j,i2⟩:=k fun x i=>h x (by simp[i]);have⟨d,m,e,_⟩:=h a iq;have⟨e1,_,f,_,_,_⟩:=j1 (cv:=a.2) (cw:=[]) e.2 (fun c U=>by cases U);have g:cF (Fb a)=np (a.1,cF a.2):=by unfold Fb np;rw[jH dq,cH,sK (lx d),jH dq,jH dq,cH,← e1];simp;rfl
  refine⟨?_,?_⟩
  ·rw[List.flatMap_cons,cH,j,g];rfl
  ·rw[List.flatMap_cons];refine Pl.app ?_ i2;unfold Fb;exact .cons dq (.app (Be d) (.cons dq (.cons dq (.app f (.cons dq fun c U=>by cases U)))))
def te{p:Pc}(h:ub p):Pl (ej p)∧(p.kind=3→cF (ej p)=[60,47]++p.nm++[62])∧(p.kind=2→cF (ej p)=[60]++p.nm++dt (p.at_.map fun a=>(a.1,cF a.2))++[62])∧(p.kind=1→cF (ej p)=gQ (cF p.cl)):=by
 unfold ej;rcases h with ⟨k,h1,h2⟩|⟨k,h1,h2⟩|⟨k,h1⟩
 ·have⟨_,d,_,f,_,_⟩:=j1 (cv:=[]) (cw:=p.cl) (fun c b=>by cases b) h1.2;rw[k];exact⟨f,fun e=>absurd e dq,fun e=>absurd e dq,fun _=>d.symm⟩
 ·have⟨g,i2⟩:=OE (FV h2);have U:=il h1;rw[k];refine⟨.cons dq (.app (Be U) (.app i2 (.cons dq fun c b=>by cases b))),fun e=>absurd e dq,fun _=>?_,fun e=>absurd e dq⟩;show cF (60::(Ad p.nm++(p.at_.flatMap Fb++[62])))=_;rw[jH dq,cH,cH,sK (lx U),g,jH dq];simp;rfl
 ·have U:=il h1;rw[k];refine⟨.cons dq (.cons dq (.app (Be U) (.cons dq fun c b=>by cases b))),fun _=>?_,fun e=>absurd e dq,fun e=>absurd e dq⟩;show cF (60::47::(Ad p.nm++[62]))=_;rw[jH dq,jH dq,cH,sK (lx U),jH dq];simp;rfl
section
variable {us:List Nd}
def Kg{u:Nd}(h:ib us i u):∃p,ub p∧cF (ej p)=iD u∧xu p=uj u∧(p.kind=1↔u.kind=2)∧p.nm=u.name∧∀a∈p.at_,a.1∈u.bU.map Prod.fst:=by
 rcases h.2.2 with ⟨k1,k2,k3,k4⟩|⟨_,k1,k2,k3,ls,k4,k5,k6⟩
 ·obtain⟨b,c,U⟩:∃b,QV b∧(b.map fun a=>(a.1,cF a.2))=u.bU:=by
   rcases k4 with e|⟨a,ls,h1,h2,h3,e⟩
   ·exact⟨[],.inl rfl,by rw[e];rfl⟩
   ·exact⟨[(a,ls),(a++[120],[])],.inr ⟨a,ls,h1,h2,h3,rfl⟩,by rw[e];rfl⟩
  refine⟨⟨2,u.name,b,[]⟩,.inr (.inl ⟨rfl,k3,c⟩),?_,?_,⟨fun e=>absurd e (by show ¬((2:Nat)=1);decide),fun e=>absurd (k1.symm.trans e) dq⟩,rfl,fun a h1=>?_⟩;rotate_left 2
  ·rw[← U,List.map_map];exact List.mem_map.2 ⟨a,h1,rfl⟩
  ·rw[(te (p:=⟨2,u.name,b,[]⟩) (.inr (.inl ⟨rfl,k3,c⟩))).2.2.1 rfl];unfold iD;rw[ip k1,← U]
  ·unfold uj;rw[iw (by rw[k1];decide),← U];rfl
 ·refine⟨⟨1,[],[],ls⟩,.inl ⟨rfl,k4,k6⟩,?_,?_,⟨fun _=>k1,fun _=>rfl⟩,k2.symm,fun a h1=>by cases h1⟩
  ·rw[(te (p:=⟨1,[],[],ls⟩) (.inl ⟨rfl,k4,k6⟩)).2.2.2 rfl];unfold iD;rw[iw (by rw[k1];decide),k5]
  ·unfold uj;rw[ip k1,k5];rfl
def Gh(g:∀i u,us[i]?=some u→ib us i u){l:List Nat}(b:∀k∈l,jB us k∈dH):∃a:List Pc,(∀p∈a,ub p∧p.kind=3∧p.at_=[])∧cF (a.flatMap ej)=jz us l∧a.map xu=l.reverse.map (fun k=>pF (jB us k))∧a.length=l.length:=by
 refine⟨l.reverse.map fun k=>⟨3,jB us k,[],[]⟩,fun p d=>?_,?_,?_,iq⟩
 ·obtain⟨k,U,rfl⟩:=List.mem_map.1 d;exact⟨.inr (.inr ⟨rfl,b k (List.mem_reverse.1 U)⟩),rfl,rfl⟩
 ·unfold jz;have:∀m:List Nat,(∀k∈m,jB us k∈dH)→cF ((m.map fun k=>(⟨3,jB us k,[],[]⟩:Pc)).flatMap ej)=m.flatMap fun k=>[60,47]++jB us k++[62]:=by
   intro m c;induction m with
   | nil=>rfl
   | cons k m f =>rw[List.map_cons,List.flatMap_cons,cH,List.flatMap_cons,f fun x e=>c x (by simp[e]),(te (p:=⟨3,jB us k,[],[]⟩) (.inr (.inr ⟨rfl,c k iq⟩))).2.1 rfl]
  exact this l.reverse fun k U=>b k (List.mem_reverse.1 U)
 ·rw[List.map_map];rfl
def vu(b:∀i u,us[i]?=some u→ib us i u)(c:k∈cg us i):jB us k∈dH:=by
 have⟨u,a,U,_⟩:=rV us i k c;unfold jB;rw[a];rcases(b k u a).2.2 with ⟨_,_,k3,_⟩|⟨_,k1,_⟩
 ·exact k3
 ·rw[U] at k1;exact absurd k1 dq
end
def Av (all:Iq)(k:Nat)(nm:Bq):Bool:=oU all k (60::47::nm)&&ef (dx all (k+(nm.length+2))) [9,10,12,13,32,47,62]
def Bj(c:Nat)(nm:Bq)(k:Nat)(x:Nq):TL:=[am c 0,str nm,x 2,x 3,num (k:Nat)]++iy x 5 40
def M0(k:Nat):dx all k = -1∨dx all k∈all:=by
 unfold dx;cases h:all[k]? with
 | none=>exact .inl rfl
 | some x=>exact .inr (mG h)
section
variable {rn c k k':Nat}{s s':AS}{tx nm:Bq}{ts:List eV}{us:List Tok}{p q r:Value}
variable {all:Iq}{pr:Prim}{lo:Bq→Bq}{wr:Bq→Int→Bq}{T:Bq→Prop}{W:Bq→Int→Prop}
def SC.WH(h:SC rn c s k tx ts)(U:kD s.nx s s'):SC rn c s' k tx ts∧gn c s s':=by have⟨p,q,r,h1,h2,h3,a⟩:=h;have e:aP (fun b=>b=c) s s':=⟨U.1,fun b d _=>U.2 b d⟩;exact SC.mv h1 h2 h3 a e ⟨by have:=h1.1;have:=U.1;omega,(U.2 c h1.1).trans h1.2⟩
def Mx(e:tT rn all lo wr T W pr)(u:E9 rn all pr)(U:pr 327=none)(v:∀b∈nm,b.toNat<128)(y:nm.length<14)(x:k≤200000)(h:SC rn c s k tx ts):∃j,Ef pr 327 #[am c 0,str nm] s (.bool (Av all k nm)) j∧SC rn c j k tx ts∧gn c s j:=by
 have i:=h;have⟨p,q,r,h1,_⟩:=i;have⟨S,e1,t⟩:=O3 u e.at (p:=0) (k:=k) (sm:=60::47::nm) (by intro b d;simp only[List.mem_cons] at d;rcases d with rfl|rfl|d<;>first|decide|exact v b d) (by simp;omega) h1.1 h1.2 rfl rfl oq;have⟨q1,q2⟩:=h.WH t;have n:((60::47::nm).length:Nat)=nm.length+2:=iq
 have i:=q1;have⟨z,A,B,h2,_⟩:=i;have f:=iP (rn:=rn) (all:=all) (pr:=pr) (s:=S) (e.h.g.no 70 dq) e.h.g.y5 (p:=(60::47::nm).length) (k:=k) h2.2 rfl rfl oq;have a:=e.h.g.one S (dx all (k+(60::47::nm).length)) [9,10,12,13,32,47,62] (M0 _) (show ∀b∈([9,10,12,13,32,47,62]:Bq),b.toNat<128 by decide);unfold Av;rw[n] at f a;generalize oU all k (60::47::nm)=o at e1 ⊢;generalize ef (dx all (k+(nm.length+2))) [9,10,12,13,32,47,62]=w at a ⊢;generalize dx all (k+(nm.length+2))=l at f a;refine⟨S,?_,q1,q2⟩;refine EF.of U func327 rfl ?_;refine zs (zr (zk 1 (zp (pg (l:=[60,47]) (m:=nm) rfl kq kq (by simp;omega)) (zf (za s (zr ?_))))));cases o with
 | false =>refine zc 2 e1 ?_;refine zf (za S ?_);exact yR
 | true =>refine zc 2 e1 ?_;refine zk 3 (zp (da (l:=60::47::nm) rfl underlying9 kq) ?_);rw[show(((60::47::nm).length:Nat):Int)=((nm.length+2:Nat):Int) by rw[n]];refine zc 0 f (zc 0 a (zf (za S ?_)));exact yR
def JU(U:tT rn all lo wr T W pr)(hT:E9 rn all pr)(R:pr 327=none)(ha:∀b∈nm,b.toNat<128)(hz:nm.length<14)(Y:bX nm eG=true){m:Nat}(hm:k+m≤150000)(X:∀j,j<m→dx all (k+j) ≠ -1∧Av all (k+j) nm=false)(V:dx all (k+m) ≠ -1∧Av all (k+m) nm=true)(hW:W (dQ all k (k+m)) 0)(h:C4 rn c s k tx us)(he:pY rn c s)(hl:tx.length+(wr (dQ all k (k+m)) 0).length≤1000000) :
  ∃f,Ef pr 252 #[am c 0,str nm] s (.tuple #[]) f∧C4 rn c f (k+m) (tx++wr (dQ all k (k+m)) 0) us∧gn c s f:=by
 have⟨O,h,Z⟩:=h;have J:=h;have⟨p,q,r,h1,_⟩:=J;refine EF.gq (U.h.g.no 252 dq) func252 rfl ?_;refine zr (zg 3 s (zp (yl c 1 (num (k:Nat)) h1.2) (zf (za s ?_))));refine EW.fill (Bj c nm k) kq ?_;intro x0;refine EW.seq (EW.block ?_);refine EW.mono (EW.dS (Q:=fun e y f=>e=.exit 0∧SC rn c f (k+m) tx O∧gn c s f∧∃x,y=Bj c nm k x) (fun u y f=>∃j,u+j=m∧SC rn c f (k+j) tx O∧gn c s f∧∃x,y=Bj c nm k x) ?_ m _ _ ⟨0,oq,h,gn.refl s,x0,rfl⟩) ?_
 ·rintro u y S ⟨j,hu,i,n,x,rfl⟩;have z:=i.ahead U.h.g oq;have⟨o,A,a,d⟩:=Mx U hT R ha hz oq i;have G:dx all (k+j) ≠ -1∧Av all (k+j) nm=decide (j=m):=by
   by_cases G:j<m
   ·rw[fD oq];exact X j G
   ·obtain rfl:j=m:=oq
    rw[tD rfl];exact V
  have⟨M,hb⟩:=G;rw[hb] at A;generalize dx all (k+j)=l at z M;refine EW.seq (zr (zc 1 z (zp (yb (.int .i32 l) (.int .i32 (-1)) (ca (b:=true) (bne_iff_ne.2 M))) (zc 3 A ?_))));by_cases G:j<m
  ·rw[fD oq];refine zf (za o (zT (EW.block ?_)));have⟨p,q,r,q1,q2,q3,q4⟩:=a;refine zx (zg 3 o (zp (yl c 1 (num ((k+j:Nat):Int)) q1.2) (zp (yp ((k+j:Nat):Int) 1 ((k+(j+1):Nat):Int) oq oq) (zg 2 o (zp (ys c 1 (num ((k+(j+1):Nat):Int)) q1.2 iq) (EO.nil ?_))))));exact⟨u-1,oq,j+1,oq,SC.sp (k':=k+(j+1)) q1 q2 q3 q4,(n.trans d).trans (gn.sp q1),aN kq⟩
  ·obtain rfl:j=m:=oq
   rw[tD rfl];refine zf (za o (zG (EW.exit ?_)));exact⟨rfl,a,n.trans d,aN kq⟩
 rintro e y S ⟨rfl,i,n,x,rfl⟩;have D:=rS U.h.g (s:=S) (k:=k) (j:=k+m) oq;have K:=Z.fr h n;have N:=i.add (.cells (eG.map str).toArray 9);have H:=gn.add i (.cells (eG.map str).toArray 9);have b3:=K.fr i H;have C:=CG (pr:=pr) (s:=S) U.Kr U.Nf nm;rw[Y] at C;have B:=(he.fr h n).fr i H;have I:=i;generalize S.add (.cells (eG.map str).toArray 9)=F at *;have L:=U.h.Rm F _ 0 hW B.1.2 B.2.1;have⟨v,o,E,a,d⟩:=zR (pr:=pr) (m:=wr (dQ all k (k+m)) 0) (U.h.g.no 261 dq) (U.h.g.no 156 dq) N hl;have b4:=b3.fr N d;generalize wr (dQ all k (k+m)) 0=w at L E a;generalize dQ all k (k+m)=t at D L;have⟨p,q,r,q1,_⟩:=I;have l1:aC prog 84 (am c 0) S=some (am rn 0):=bL (P:=prog) (t:=84) underlying84 rfl q1.2 (off:=0) rfl;have l2:aC prog 3 (am c 1) S=some (num ((k+m:Nat):Int)):=bL (P:=prog) (t:=3) underlying3 rfl q1.2 (off:=1) rfl;refine EW.seq (EW.draw kq kq kq ?_);iterate 3 refine zq ?_
 refine zt S (zu (yl c 0 (am rn 0) q1.2) ?_);iterate 4 refine zq ?_
 refine zt S (zu (yl c 1 (num ((k+m:Nat):Int)) q1.2) (yt D (zq (ET.nil ⟨aK [(aC prog 84 (am c 0) S,am rn 0),(aC prog 3 (am c 1) S,num ((k+m:Nat):Int))] kq (mh ⟨l1,rfl⟩ ⟨l2,rfl⟩),_,_,_,_,_,_,rfl,rfl,?_⟩))));refine za S (EW.seq (zr (zc 1 C (EO.nil (za F (zH (zx (zc 1 L (zf (za F (zx (zk 4 (zo F (zc 0 E (EO.nil ?_)))))))))))))));exact⟨.inl rfl,kq,⟨_,a,b4⟩,(n.trans H).trans d⟩
end
section
variable {rn c k:Nat}{tx:Bq}{us:List Tok}{all pre rest nm wl:Iq}{pr:Prim}{lo:Bq→Bq}{wr:Bq→Int→Bq}{T:Bq→Prop}{W:Bq→Int→Prop}
def JK(h:lG (dx all k)≠((b.toNat:Nat):Int)):oU all k (b::l)=false:=by unfold oU;rw[show(lG (dx all k)==((b.toNat:Nat):Int))=false from bF.2 h,Bool.false_and]
def B7:∀{l:Bq} {pre rest:Iq} {k:Nat},(∀b∈l,lG ((b.toNat:Nat):Int)=((b.toNat:Nat):Int))→all=pre++(l.map (fun b=>((b.toNat:Nat):Int))++rest)→k=pre.length→oU all k l=true
 | [],_,_,_,_,_,_=>rfl
 | b::l,pre,rest,k,U,h,hk=>by unfold oU;rw[fX (x:=((b.toNat:Nat):Int)) (by rw[h];rfl) hk,U b iq,beq_self_eq_true,Bool.true_and];exact B7 (pre:=pre++[((b.toNat:Nat):Int)]) (rest:=rest) (fun x hx=>U x (by simp[hx])) (by rw[h];simp) (by simp;omega)
def GO(n:tT rn all lo wr T W pr)(F:E9 rn all pr)(v:pr 327=none)(q:nm=nb.map fun b=>((b.toNat:Nat):Int))(A:∀b∈nb,lG ((b.toNat:Nat):Int)=((b.toNat:Nat):Int))(u:∀b∈nb,b.toNat<128)(M:nb.length<14)(U:lo (aV nm)=nb)(J:xH nm)(y:T (aV nm))(w:bX nb n7=false)(r:bX nb eG=true)
 (h:all=pre++60::(nm++62::(wl++60::47::(nm++62::rest))))(I:k=pre.length)(L:∀x∈wl,x≠60∧x ≠ -1)(G:W (aV wl) 0)(o:tx.length≤500000)(K:us.length≤500000)(B:(wr (aV wl) 0).length≤1000000) :
  gg pr rn c all ⟨k,tx,us⟩ ⟨k+1+nm.length+1+wl.length,wr (aV wl) 0,iB tx us++[⟨2,[],nb,[],false⟩]⟩:=by
 have N:=n.h.g.len;have t:pre.length+1+nm.length+1+wl.length+2≤all.length:=by rw[h];simp;omega
 have h2:all=(pre++60::(nm++[62]))++(wl++60::47::(nm++62::rest)):=by rw[h];simp
 have h3:all=(pre++60::(nm++62::wl))++((60::47::nb:Bq).map (fun b=>((b.toNat:Nat):Int))++62::rest):=by rw[h,q];simp
 have C:all=(pre++60::(nm++62::(wl++60::47::nm)))++62::rest:=by rw[h];simp
 have O:nm.length=nb.length:=by rw[q];simp
 have z:∀j,j<wl.length→∃x∈wl,dx all (k+1+nm.length+1+j)=x:=fun j d=>by refine⟨wl[j],List.getElem_mem d,?_⟩;rw[kj,oK h2 (by simp;omega),List.getElem?_append_left d,gE d];rfl
 have l:dQ all (k+1+nm.length+1) (k+1+nm.length+1+wl.length)=aV wl:=m8 h2 (by simp;omega) rfl;have f:=vt (c:=c) (aI:=[]) (k2:=k+1+nm.length+1+wl.length) (LZ:=wr (aV wl) 0) n (h:=by rw[h];rfl) I J y (by intro a H;cases H) o K (by rw[U];exact w) (.inr ⟨by rw[U];exact r,fun S P E D=>by rw[U];have s:=JU (k:=k+1+nm.length+1) (m:=wl.length) (tx:=[]) n F v u M r oq (fun j d=>by have⟨x,o,e⟩:=z j d;have p:=L x o;refine⟨by rw[e];exact p.2,?_⟩;unfold Av;rw[JK (by rw[e];show lG x≠60;unfold lG;split<;>omega),Bool.false_and]) ⟨by rw[fX (x:=60) (pre:=pre++60::(nm++62::wl)) (rest:=47::(nm++62::rest)) (by rw[h];simp) (by simp;omega)];decide,by unfold Av;rw[B7 (pre:=pre++60::(nm++62::wl)) (by intro b i;simp only[List.mem_cons] at i;rcases i with rfl|rfl|i<;>first|decide|exact A b i) h3 (by simp;omega),fX (x:=62) C (by simp;omega)];decide⟩ (by rw[l];exact G) E D (by rw[l];simpa using B);rw[l,List.nil_append] at s;exact s⟩);rw[U] at f;exact f
end
def Bd (z:St):Prop:=z.k≤150000∧z.tx.length≤500000∧z.us.length≤500000
def z9 (pr:Prim)(c:Nat)(all:Iq):Nat→St→St→Prop
 | 0,x,y=>y=x
 | n+1,x,y=>∃z,gg pr 4065 c all x z∧Bd z∧z9 pr c all n z y
section
variable {pr:Prim}{c:Nat}{all:Iq}{lo:Bq→Bq}{wr:Bq→Int→Bq}{W:Bq→Int→Prop}{names:List (Bq)}
def z9.fn:∀{n:Nat} {x y:St},Bd x→z9 pr c all n x y→∃a:Nat→St,a 0=x∧a n=y∧(∀i,i<n→gg pr 4065 c all (a i) (a (i+1)))∧∀i,i≤n→Bd (a i)
 | 0,x,y,U,h=>by cases h;exact⟨fun _=>x,rfl,rfl,fun i b=>by omega,fun i _=>U⟩
 | n+1,x,y,U,⟨z,h1,h2,h3⟩=>by
  have⟨a,q1,q2,q3,q4⟩:=z9.fn h2 h3;refine⟨fun i=>match i with|0=>x|i+1=>a i,rfl,q2,fun i b=>?_,fun i b=>?_⟩
  ·match i with
   | 0=>show gg pr 4065 c all x (a 0);rw[q1];exact h1
   | i+1=>exact q3 i oq
  ·match i with
   | 0=>exact U
   | i+1=>exact q4 i oq
abbrev uA(l:Bq):Iq:=ek (Ad l)
def BL(h:∀b∈l,97≤b.toNat∧b.toNat≤122):∀x∈uA l,97≤x∧x≤122:=fun x c=>by
 obtain⟨n,U,rfl⟩:=List.mem_map.1 c;obtain⟨b,a,rfl⟩:=List.mem_map.1 U
 have:=h b a;omega
def sT{x:Int}(h:97≤x∧x≤122)(a:∀b∈l,b.toNat<97):ef x l=false:=by
 unfold ef;rw[List.any_eq_false];intro b U
 have:=a b U;simp;omega
def wP(h:∀b∈l,97≤b.toNat∧b.toNat≤122)(U:l≠[]):xH (uA l):=by
 have c:=BL h;refine⟨?_,fun x a=>sT (c x a) dq⟩;cases l with
 | nil=>exact absurd rfl U
 | cons b l =>
  refine⟨((b.toNat:Nat):Int),uA l,rfl,?_⟩
  have:=h b iq;unfold iH lG;rw[iw oq];simp;omega
def iz(h:∀b∈l,b.toNat<128):aV (uA l)=l:=by rw[pJ fun c U=>?_,sK h];obtain⟨b,a,rfl⟩:=List.mem_map.1 U;exact .inl (h b a)
structure Given(names:List (Bq))(wr:Bq→Int→Bq)(W:Bq→Int→Prop):Prop where
 nm:∀x∈dH,x∈names
 w0:∀ls,dO ls→W (gQ (cF ls)) 0∧wr (gQ (cF ls)) 0=cF ls
 w1:∀ls,dO ls→W (fE (cF ls)) 1∧wr (fE (cF ls)) 1=cF ls
def ms(h:nm∈dH):nm≠[]∧bX nm n7=false∧(nm≠aQ→bX nm eG=false):=by simp only[dH,mZz] at h;rcases h with e|e|e|e|e|e|e|e|e|e|e<;>(rw[e];decide)
def Mv(g:tT 4065 all (fun t=>t) wr (fun t=>t∈names) W pr)(f:Given names wr W){p:Pc}(b:p.kind=3)(a:p.nm∈dH)(h:all=pre++(ek (ej p)++rest))(j:tx.length≤500000)(i:us.length≤500000):gg pr 4065 c all ⟨pre.length,tx,us⟩ ⟨pre.length+(ej p).length,[],iB tx us++[xu p]⟩:=by
 have U:=il a;have e:ej p=60::47::(Ad p.nm++[62]):=by unfold ej;rw[ip b]
 have d:xu p=pF p.nm:=by unfold xu;rw[ip b]
 have:=Mw (c:=c) (k:=pre.length) (pre:=pre) (nm:=uA p.nm) (rest:=rest) g (by rw[h,e];simp[ek]) rfl (wP U (ms a).1) (by rw[iz (lx U)];exact f.nm _ a) j i;rw[iz (lx U)] at this;refine gg.to this ?_ rfl (by rw[d]);show pre.length+2+(uA p.nm).length+1=pre.length+(ej p).length;rw[e];simp[ek];omega
def tH(N:tT 4065 all (fun t=>t) wr (fun t=>t∈names) W pr)(q:Given names wr W){p:Pc}(r:p.kind=2)(g:p.nm∈dH)(G:p.nm≠aQ)(E:QV p.at_)(F:∀a∈p.at_,a.1∈names)(h:all=pre++(ek (ej p)++rest))(m:tx.length≤500000)(O:us.length≤500000):gg pr 4065 c all ⟨pre.length,tx,us⟩ ⟨pre.length+(ej p).length,[],iB tx us++[xu p]⟩:=by
 have j:=il g;have f:=FV E;have e:ej p=60::(Ad p.nm++(p.at_.flatMap Fb++[62])):=by unfold ej;rw[iw (by rw[r];decide),ip r]
 have M:xu p=toS p.nm (p.at_.map fun a=>(a.1,cF a.2)):=by unfold xu;rw[iw (by rw[r];decide),ip r]
 have s:∀a∈p.at_,aV (ek (fU [38,34] a.2))=fE (cF a.2)∧∀x∈ek (fU [38,34] a.2),ef x [34]=false:=fun a h1=>by
  have⟨e1,_,K,_,L,_⟩:=j1 (cv:=a.2) (cw:=[]) (f a h1).2.2.1.2 (fun c i=>by cases i);refine⟨by rw[pJ fun c i=>(K c i).1,e1],fun x m=>?_⟩;obtain⟨n,g,rfl⟩:=List.mem_map.1 m
  have:=L n g;simp[ef];omega
 have C:ek (p.at_.flatMap Fb)=iZ (p.at_.map fun a=>(uA a.1,ek (fU [38,34] a.2))):=by unfold iZ ek;rw[List.map_flatMap,List.flatMap_map];congr 1;funext a;simp[Fb,p8,ek,Ad]
 have H:Bt (fun t=>t) wr (p.at_.map fun a=>(uA a.1,ek (fU [38,34] a.2))) []=p.at_.map fun a=>(a.1,cF a.2):=by
  rcases E with U|⟨a,ls,h1,h2,h3,U⟩
  ·rw[U];rfl
  ·have A:=(s (a,ls) (by rw[U];simp)).1;have B:=(s (a++[120],[]) (by rw[U];simp)).1;have v:=iz (lx (f (a,ls) (by rw[U];simp)).1);have w:=iz (lx (f (a++[120],[]) (by rw[U];simp)).1);have Q:=(q.w1 ls h3).2;have R:=(q.w1 [] ⟨dq,fun c i=>by cases i⟩).2;have A:aV (ek (fU [38,34] ls))=fE (cF ls):=A;have B:aV (ek (fU [38,34] []))=fE (cF []):=B;have v:aV (uA a)=a:=v;have w:aV (uA (a++[120]))=a++[120]:=w;rw[U];unfold Bt;simp only[List.map_cons,List.map_nil,List.foldl_cons,List.foldl_nil];rw[A,B,v,w,Q,R];have u:aY a (a++[120])=false:=gL (fun z=>by have:=congrArg List.length z;simp at this);simp[l7,u]
 have:=Iz (c:=c) (k:=pre.length) (pre:=pre) (nm:=uA p.nm) (aI:=p.at_.map fun a=>(uA a.1,ek (fU [38,34] a.2))) (rest:=rest) N (by rw[h,e,← C];simp[ek]) rfl (wP j (ms g).1) (by rw[iz (lx j)];exact q.nm _ g) (fun a h1=>by
  obtain⟨b,o,rfl⟩:=List.mem_map.1 h1;have⟨D,I,J,S⟩:=f b o;have d:=BL D;refine⟨⟨?_,fun x m=>sT (d x m) dq,(s b o).2⟩,by rw[iz (lx D)];exact F b o,by rw[(s b o).1];exact(q.w1 b.2 J).1⟩;cases N8:b.1 with
  | nil=>exact absurd N8 I
  | cons y l =>rw[N8] at d;have P:=d ((y.toNat:Nat):Int) (by simp[ek,Ad]);exact⟨((y.toNat:Nat):Int),uA l,rfl,sT P dq,oq,oq⟩) m O (by rw[iz (lx j)];exact(ms g).2.1) (by rw[iz (lx j)];exact(ms g).2.2 G);rw[iz (lx j),H] at this;refine gg.to this ?_ rfl (by rw[M]);show pre.length+1+(uA p.nm).length+(iZ _).length+1=pre.length+(ej p).length;rw[e,← C];simp[ek];omega
def IL(F:tT 4065 all (fun t=>t) wr (fun t=>t∈names) W pr)(D:Given names wr W){p q:Pc}(s:p.kind=1)(f:dO p.cl)(C:cF p.cl≠[])(g:(q.kind=2∨q.kind=3)∧q.nm∈dH)(h:all=pre++(ek (ej p)++(ek (ej q)++rest))):gg pr 4065 c all ⟨pre.length,[],us⟩ ⟨pre.length+(ej p).length,cF p.cl,us⟩:=by
 have e:ej p=fU [38,60,62] p.cl:=by unfold ej;rw[iw (by rw[s];decide),iw (by rw[s];decide)]
 have⟨_,y,_,A,_,B⟩:=j1 (cv:=[]) (cw:=p.cl) (fun c d=>by cases d) f.2;have a:aV (ek (ej p))=gQ (cF p.cl):=by rw[e,pJ fun c d=>(A c d).1,y]
 have v:ek (ej p)≠[]:=by
  intro z;have:ej p=[]:=by simpa[ek] using z
  rw[this] at a;exact C (yr a.symm)
 obtain⟨r,G,w⟩:∃r,ek (ej q)++rest=60::r∧((∃b m,r=b::m∧iH b=true)∨∃b m,r=47::b::m∧iH b=true):=by
  obtain⟨⟨j,l,U,o⟩,_⟩:=wP (il g.2) (ms g.2).1;have U:uA q.nm=j::l:=U;rcases g.1 with z|z
  ·refine⟨uA q.nm++(ek (q.at_.flatMap Fb++[62])++rest),?_,.inl ⟨j,l++(ek (q.at_.flatMap Fb++[62])++rest),by rw[U];rfl,o⟩⟩;unfold ej;rw[iw (by rw[z];decide),ip z];simp[ek]
  ·refine⟨47::(uA q.nm++(62::rest)),?_,.inr ⟨j,l++62::rest,by rw[U];rfl,o⟩⟩;unfold ej;rw[ip z];simp[ek]
 have i:=D.w0 p.cl f
 have:=IM (c:=c) (k:=pre.length) (tx:=[]) (us:=us) (pre:=pre) (wl:=ek (ej p)) (rest:=r) F (by rw[h,G]) rfl v (fun x u=>by
  rw[e] at u;obtain⟨n,E,rfl⟩:=List.mem_map.1 u
  have:=B n E;omega) w (by rw[a];exact i.1) (by rw[a,i.2];have:=f.1;simp;omega);rw[a,i.2] at this;refine gg.to this ?_ rfl rfl;show pre.length+(ek (ej p)).length=_;rw[rL]
end
def Lo:List Pc→Prop
 | []=>True
 | p::ps=>(p.kind=1→∃q qs,ps=q::qs∧q.kind≠1)∧Lo ps
def zy (us:List Nd):Nat→Nat→Bq
 | _,0=>jz us (cg us us.length)
 | i,m+1=>match us[i]? with
  | some u=>jz us (cU u.parent (cg us i))++iD u++zy us (i+1) m
  | none=>[]
def zA(us:List Nd):∀{m i:Nat},i+m=us.length→pH us i++zy us i m=ko us
 | 0,i,h=>by
  have e:i=us.length:=oq
  rw[e];rfl
 | m+1,i,h=>by have U:us[i]?=some (us[i]'oq):=gE _;rw[← zA us (m:=m) (i:=i+1) oq];show pH us i++(match us[i]? with|some u=>jz us (cU u.parent (cg us i))++iD u++zy us (i+1) m|none=>[])=(match us[i]? with|some u=>pH us i++jz us (cU u.parent (cg us i))++iD u|none=>pH us i)++zy us (i+1) m;rw[U];simp
def oB(us:List Nd):List (Bq):=us.flatMap fun u=>u.bU.map Prod.fst
def tP:∀{ps qs:List Pc},(∀p∈ps,p.kind=3)→Lo qs→Lo (ps++qs)
 | [],qs,_,h=>h
 | p::ps,qs,U,h=>⟨fun e=>absurd (e.symm.trans (U p iq)) dq,tP (fun x hx=>U x (by simp[hx])) h⟩
section
variable {us:List Nd}{nf:Nat}
def CR(g:∀i u,us[i]?=some u→ib us i u)(A:∀i u,us[i]?=some u→nf<i→u.name≠aQ)(B:∀i u v,us[i]?=some u→nf<i→us[i-1]?=some v→u.kind=2→v.kind=2→cU u.parent (cg us i)≠[])(U:cg us us.length≠[]):∀{m i:Nat},nf<i→i+m=us.length→∃b:List Pc,(∀p∈b,ub p∧(p.kind=2→p.nm≠aQ)∧∀a∈p.at_,a.1∈oB us)∧cF (b.flatMap ej)=zy us i m∧b.map xu=nL us i m++(cg us us.length).reverse.map (fun k=>pF (jB us k))∧Lo b∧b.length≤(m+1)*(us.length+1)∧∃q qs,b=q::qs∧((∀v,us[i-1]?=some v→v.kind=2)→q.kind≠1)
 | 0,i,hi,h=>by
  have⟨b,h1,h2,h3,h4⟩:=Gh g (l:=cg us us.length) (fun k t=>vu g t);have L:=kw us us.length;refine⟨b,fun p o=>⟨(h1 p o).1,fun e=>absurd (e.symm.trans (h1 p o).2.1) dq,fun a d=>by rw[(h1 p o).2.2] at d;cases d⟩,h2,by rw[h3];rfl,?_,oq,?_⟩
  ·have:=tP (qs:=[]) (fun p o=>(h1 p o).2.1) trivial;rwa [List.append_nil] at this
  ·cases b with
   | nil=>exact absurd (List.eq_nil_of_length_eq_zero h4.symm) U
   | cons q qs=>exact⟨q,qs,rfl,fun _=>by rw[(h1 q iq).2.1];decide⟩
 | m+1,i,hi,h=>by
  have f:us[i]?=some (us[i]'oq):=gE _;have c:us[i]'oq∈us:=List.getElem_mem _;generalize us[i]'oq=u at f c;have⟨p,p1,p2,p3,p4,H,I⟩:=Kg (g i u f);have⟨n,j,C,D,E⟩:=Gh g (l:=cU u.parent (cg us i)) (fun k t=>vu g (tg t));have⟨b,q1,q2,q3,q4,N,q,qs,J,K⟩:=CR g A B U (m:=m) (i:=i+1) oq oq;have G:zy us i (m+1)=jz us (cU u.parent (cg us i))++iD u++zy us (i+1) m:=by show(match us[i]? with|some u=>jz us (cU u.parent (cg us i))++iD u++zy us (i+1) m|none=>[])=_;rw[f]
  have F:nL us i (m+1)=(cU u.parent (cg us i)).reverse.map (fun k=>pF (jB us k))++[uj u]++nL us (i+1) m:=by show uD us i++nL us (i+1) m=_;unfold uD;rw[f]
  have M:n.length≤us.length:=by have h1:=congrArg List.length (gx u.parent (cg us i));have h2:=kw us i;rw[lA] at h1;omega
  refine⟨n++p::b,fun x w=>?_,?_,?_,?_,?_,?_⟩
  ·rcases List.mem_append.1 w with z|z
   ·exact⟨(j x z).1,fun e=>absurd (e.symm.trans (j x z).2.1) dq,fun a d=>by rw[(j x z).2.2] at d;cases d⟩
   ·rcases List.mem_cons.1 z with rfl|z
    ·exact⟨p1,fun _=>by rw[H];exact A i u f hi,fun a d=>List.mem_flatMap.2 ⟨u,c,I a d⟩⟩
    ·exact q1 x z
  ·rw[List.flatMap_append,List.flatMap_cons,cH,cH,C,p2,q2,G,List.append_assoc]
  ·rw[List.map_append,List.map_cons,D,p3,q3,F];simp
  ·refine tP (fun x w=>(j x w).2.1) ⟨fun e=>⟨q,qs,J,K fun v s=>?_⟩,q4⟩;rw[Nat.add_sub_cancel,f] at s;cases s;exact p4.1 e
  ·rw[lA,lC,Nat.succ_mul];omega
  ·cases n with
   | cons y n=>exact⟨y,n++p::b,rfl,fun _=>by rw[(j y iq).2.1];decide⟩
   | nil =>refine⟨p,b,rfl,fun s e=>?_⟩;have r:us[i-1]?=some (us[i-1]'oq):=gE _;exact B i u _ f hi r (p4.1 e) (s _ r) (List.eq_nil_of_length_eq_zero E.symm)
end
section
variable {pr:Prim}{c:Nat}{all:Iq}{wr:Bq→Int→Bq}{W:Bq→Int→Prop}{names:List (Bq)}
def pB(d:tT 4065 all (fun t=>t) wr (fun t=>t∈names) W pr)(i:Given names wr W):∀{ps:List Pc} {pre:Iq} {tx:Bq} {us:List Tok},all=pre++ek (ps.flatMap ej)→(∀p∈ps,ub p∧(p.kind=2→p.nm≠aQ)∧∀a∈p.at_,a.1∈names)→Lo ps→tx.length≤1000→us.length+2*ps.length≤100000→(tx≠[]→∃q f,ps=q::f∧q.kind≠1)→∃n y,z9 pr c all n ⟨pre.length,tx,us⟩ y∧y.k=all.length∧y.tx=[]∧y.us=iB tx us++ps.map xu
 | [],pre,tx,us,h,_,_,_,_,h0=>by
  have e:tx=[]:=Classical.byContradiction fun z=>by have⟨q,f,z,_⟩:=h0 z;cases z
  subst e;refine⟨0,_,rfl,?_,rfl,?_⟩
  ·show pre.length=all.length;rw[h];simp[ek]
  ·simp[iB]
 | p::ps,pre,tx,us,h,U,a1,m,hu,h0=>by
  have⟨I,J,K⟩:=U p iq;have H:=d.h.g.len;have b:all=pre++(ek (ej p)++ek (ps.flatMap ej)):=by rw[h,List.flatMap_cons,mQ]
  have A:all=(pre++ek (ej p))++ek (ps.flatMap ej):=by rw[b,List.append_assoc]
  have B:(pre++ek (ej p)).length=pre.length+(ej p).length:=by rw[lA,rL]
  have N:pre.length+(ej p).length≤all.length:=by rw[b,← rL (ej p)];simp
  have M:(iB tx us).length≤us.length+1:=by unfold iB;split<;>simp
  have L:us.length+2*(ps.length+1)≤100000:=hu;have l:(p.kind=2∨p.kind=3)→gg pr 4065 c all ⟨pre.length,tx,us⟩ ⟨pre.length+(ej p).length,[],iB tx us++[xu p]⟩→∃n y,z9 pr c all n ⟨pre.length,tx,us⟩ y∧y.k=all.length∧y.tx=[]∧y.us=iB tx us++(p::ps).map xu:=by
   intro _ s;have⟨n,y,j,u,v,w⟩:=pB d i (ps:=ps) (pre:=pre++ek (ej p)) (tx:=[]) (us:=iB tx us++[xu p]) A (fun x m=>U x (by simp[m])) a1.2 iq (by rw[lA,List.length_singleton];omega) (fun z=>absurd rfl z);rw[B] at j;refine⟨n+1,y,⟨_,s,⟨?_,?_,?_⟩,j⟩,u,v,?_⟩
   ·show pre.length+(ej p).length≤150000;omega
   ·show([]:Bq).length≤500000;decide
   ·show(iB tx us++[xu p]).length≤500000;rw[lA,List.length_singleton];omega
   ·rw[w];simp[iB]
  rcases I with ⟨z,z1,z2⟩|⟨z,z1,z2⟩|⟨z,z1⟩
  ·have e:tx=[]:=Classical.byContradiction fun y=>by have⟨q,f,e,E⟩:=h0 y;cases e;exact E z
   subst e;have⟨q,f,o,C⟩:=a1.1 z;have D:=(U q (by rw[o];simp)).1;have r:(q.kind=2∨q.kind=3)∧q.nm∈dH:=by
    rcases D with ⟨y,_⟩|⟨y,y1,_⟩|⟨y,y1⟩
    ·exact absurd y C
    ·exact⟨.inl y,y1⟩
    ·exact⟨.inr y,y1⟩
   have s:=IL (c:=c) (us:=us) (rest:=ek (f.flatMap ej)) d i z z1 z2 r (by rw[b,o,List.flatMap_cons,mQ]);have G:=z1.1;have⟨n,y,j,u,v,w⟩:=pB d i (ps:=ps) (pre:=pre++ek (ej p)) (tx:=cF p.cl) (us:=us) A (fun x m=>U x (by simp[m])) a1.2 oq oq (fun _=>⟨q,f,o,C⟩);rw[B] at j;refine⟨n+1,y,⟨_,s,⟨?_,?_,?_⟩,j⟩,u,v,?_⟩
   ·show pre.length+(ej p).length≤150000;omega
   ·show(cF p.cl).length≤500000;omega
   ·show us.length≤500000;omega
   ·have F:xu p=IH (cF p.cl):=by unfold xu;rw[iw (by rw[z];decide),iw (by rw[z];decide)]
    rw[w,List.map_cons,F];simp[iB,z2]
  ·exact l (.inl z) (tH d i z z1 (J z) z2 K b oq oq)
  ·exact l (.inr z) (Mv d i z z1 b oq oq)
end
end
section
open Go.Conc Go.RowKit Go.Lib Tryz
def tQ:∀{ps qs:List Pc},(∀p∈ps,p.kind≠1)→Lo qs→Lo (ps++qs)
 | [],qs,_,h=>h
 | p::ps,qs,U,h=>⟨fun e=>absurd e (U p iq),tQ (fun x hx=>U x (by simp[hx])) h⟩
def sx{α β:Type}{f g:α→List β}:∀{l:List α},(∀x∈l,f x=g x)→l.flatMap f=l.flatMap g
 | [],_=>rfl
 | a::l,h=>by rw[List.flatMap_cons,List.flatMap_cons,h a iq,sx fun x U=>h x (by simp[U])]
def G5{us:List Nd}{j k:Nat}(h:k<j):jB (us.take j) k=jB us k:=by unfold jB;rw[List.getElem?_take,ip h]
def zC{us:List Nd}{j:Nat}:∀{i:Nat},i≤j→pH (us.take j) i=pH us i
 | 0,_=>rfl
 | i+1,h=>by
  show(match (us.take j)[i]? with|some u=>pH (us.take j) i++jz (us.take j) (cU u.parent (cg (us.take j) i))++iD u|none=>pH (us.take j) i)=(match us[i]? with|some u=>pH us i++jz us (cU u.parent (cg us i))++iD u|none=>pH us i);rw[List.getElem?_take,ip oq,zC (i:=i) oq,mZ oq];cases us[i]? with
  | none=>rfl
  | some u =>
   simp only;congr 2;unfold jz;refine sx fun k U=>?_
   have:=mY us i k (tg (List.mem_reverse.1 U));rw[G5 oq]
section
variable {lt:Bq}{σ:PS}
def PV.two(h:PV lt σ):∀i u v,σ.nodes[i]?=some u→(aS lt).length<i→σ.nodes[i-1]?=some v→u.kind=2→v.kind=2→cU u.parent (cg σ.nodes i)≠[]:=by
 intro i u v t r a p U e;have⟨A,k,B,D,q1,q2,q3,q4,E,F,w⟩:=h.ok i u t r;have d:k∉B:=fun z=>by have:=(List.pairwise_cons.1 (List.pairwise_append.1 (List.pairwise_cons.1 q2).2).2.1).1 k z;omega
 have l:cg σ.nodes i=(0::A)++k::B:=q1;rw[l,q4,(oC d).2] at e;subst e;have f:v.parent≠u.parent:=by
  rcases w with ⟨_,_,_,_,_,c8⟩|⟨c1,_⟩
  ·exact c8 v a U
  ·rw[p] at c1;exact absurd c1 dq
 obtain⟨m,rfl⟩:∃m,i=m+1:=⟨i-1,oq⟩;rw[Nat.add_sub_cancel] at a;have s:(aS lt).length<m:=by
  by_cases z:m=(aS lt).length
  ·have q:σ.nodes[(aS lt).length]?=some ⟨1,0,cG,[],[]⟩:=by rw[(h.front lr).1];unfold cX;simp only;rw[List.getElem?_append_right lr,Nat.sub_self];rfl
   rw[z,q] at a;cases a;exact absurd U dq
  ·omega
 have⟨g,c,j,C,x,y,G,o,_⟩:=h.ok m v a s;have b:c∉j:=fun z=>by have:=(List.pairwise_cons.1 (List.pairwise_append.1 (List.pairwise_cons.1 y).2).2.1).1 c z;omega
 have n:cg σ.nodes (m+1)=(0::g)++[c]:=by show(match σ.nodes[m]? with|some u=>ea u.parent (cg σ.nodes m)++(if u.kind=1∧aY u.name jI=false then [m] else [])|none=>cg σ.nodes m)=_;rw[a];simp only;rw[iw (fun z=>by rw[U] at z;exact absurd z.1 dq),o,show cg σ.nodes m=(0::g)++c::j from x,(oC b).1,List.append_nil]
 rw[l] at n
 have:=(List.append_inj' n rfl).2;cases this;exact f (o.trans q4.symm)
def PV.Kf(h:PV lt σ):∀i u,σ.nodes[i]?=some u→(aS lt).length<i→u.name≠aQ:=by
 intro i u b a e;have⟨A,k,B,d,q1,q2,q3,q4,f,g,c⟩:=h.ok i u b a;rcases c with ⟨_,c2,_⟩|⟨_,_,c3,_⟩
 ·rw[c2] at e;cases e
 ·have U:=c3.1;rw[e] at U;exact absurd U dq
abbrev pS(nm:Bq):Pc:=⟨2,nm,[],[]⟩
abbrev pE(nm:Bq):Pc:=⟨3,nm,[],[]⟩
def tc{nm:Bq}{names:List (Bq)}(h:nm∈dH)(h2:nm≠aQ):ub (pS nm)∧((pS nm).kind=2→(pS nm).nm≠aQ)∧∀a∈(pS nm).at_,a.1∈names:=⟨.inr (.inl ⟨rfl,h,.inl rfl⟩),fun _=>h2,fun a b=>by cases b⟩
def Hm{nm:Bq}{names:List (Bq)}(h:nm∈dH):ub (pE nm)∧((pE nm).kind=2→(pE nm).nm≠aQ)∧∀a∈(pE nm).at_,a.1∈names:=⟨.inr (.inr ⟨rfl,h⟩),fun e=>absurd e (by show ¬((3:Nat)=2);decide),fun a b=>by cases b⟩
def w5:∀{ps:List Pc},(∀p∈ps,ub p)→Pl (ps.flatMap ej)
 | [],_=>fun c U=>by cases U
 | p::ps,h=>by rw[List.flatMap_cons];exact(te (h p iq)).1.app (w5 fun x hx=>h x (by simp[hx]))
def PV.tokens(h:PV lt σ)(P:lt=[]∨∃d,dO d∧lt=cF d∧cF d≠[])(X:σ.nodes.length≤70):∃o:List Nat,cF o=ko σ.nodes∧Pl o∧∀{pr:Prim} {c:Nat} {wr:Bq→Int→Bq} {W:Bq→Int→Prop} {names:List (Bq)},tT 4065 (ek o) (fun t=>t) wr (fun t=>t∈names) W pr→E9 4065 (ek o) pr→pr 327=none→Given names wr W→(∀x∈oB σ.nodes,x∈names)→∃n y,z9 pr c (ek o) n ⟨0,[],[]⟩ y∧y.k=(ek o).length∧y.tx=[]∧y.us=vg lt σ.nodes:=by
 have hN:∀i u,σ.nodes[i]?=some u→ib σ.nodes i u:=fun i u v=>h.node P v;have hl:=h.len;have r:cg σ.nodes σ.nodes.length≠[]:=by have⟨ex,e⟩:=h.eL;rw[e];simp
 have⟨ps,q1,q2,q3,q4,q5,_⟩:=CR hN h.Kf h.two r (m:=σ.nodes.length-((aS lt).length+1)) (i:=(aS lt).length+1) oq oq;have s:ko σ.nodes=pH (cX lt).nodes ((aS lt).length+1)++cF (ps.flatMap ej):=by rw[← zA σ.nodes (m:=σ.nodes.length-((aS lt).length+1)) (i:=(aS lt).length+1) oq,q2,← h.pre,zC lr]
 have h5:ps.length≤5000:=by have h1:(σ.nodes.length-((aS lt).length+1)+1)*(σ.nodes.length+1)≤70*71:=Nat.mul_le_mul oq oq;omega
 have Q:vg lt σ.nodes=nV lt++ps.map xu:=by unfold vg;rw[q3]
 have ae:=w5 (ps:=ps) fun p U=>(q1 p U).1;by_cases l:lt=[]
 ·subst l;have O:∀p∈[pS cP,pS cf,pE cf,pS cG],ub p∧p.kind≠1:=by
   intro p U;simp only[mZz] at U;rcases U with rfl|rfl|rfl|rfl
   iterate 2
    ·exact⟨(tc (names:=[]) dq dq).1,by show ¬((2:Nat)=1);decide⟩
   ·exact⟨(Hm (names:=[]) dq).1,by show ¬((3:Nat)=1);decide⟩
   ·exact⟨(tc (names:=[]) dq dq).1,by show ¬((2:Nat)=1);decide⟩
  refine⟨([pS cP,pS cf,pE cf,pS cG]++ps).flatMap ej,?_,w5 fun p U=>?_,?_⟩
  ·rw[List.flatMap_append,cH,s];congr 1
  ·rcases List.mem_append.1 U with z|z
   ·exact(O p z).1
   ·exact(q1 p z).1
  ·intro pr c wr W names U T M j C;have⟨n,y,I,J,K,L⟩:=pB (c:=c) U j (ps:=[pS cP,pS cf,pE cf,pS cG]++ps) (pre:=[]) (tx:=[]) (us:=[]) (List.nil_append _).symm (fun p U=>by
    rcases List.mem_append.1 U with z|z
    ·simp only[mZz] at z;rcases z with rfl|rfl|rfl|rfl
     iterate 2
      ·exact tc dq dq
     ·exact Hm dq
     ·exact tc dq dq
    ·exact⟨(q1 p z).1,(q1 p z).2.1,fun a f=>C _ ((q1 p z).2.2 a f)⟩) (tQ (fun p U=>(O p U).2) q4) dq (by simp;omega) (fun z=>absurd rfl z);exact⟨n,y,I,J,K,by rw[L,Q];rfl⟩
 ·have⟨d,D,w,ab⟩:=P.resolve_left l;have H:(aS lt).length=4:=by unfold aS;rw[iw l];rfl
  have aa:cX lt=⟨[cT,dp,⟨1,1,aQ,[],[]⟩,⟨2,2,[],lt,[]⟩,⟨1,0,cG,[],[]⟩],[4],false⟩:=by unfold cX aS;rw[iw l];rfl
  have⟨_,R,_,S,_,e6⟩:=j1 (cv:=[]) (cw:=d) (fun c G=>by cases G) D.2;have A:∀p∈[pE aQ,pE cf,pS cG]++ps,ub p∧(p.kind=2→p.nm≠aQ)∧∀a∈p.at_,a.1∈oB σ.nodes:=by
   intro p U;rcases List.mem_append.1 U with z|z
   ·simp only[mZz] at z;rcases z with rfl|rfl|rfl
    iterate 2
     ·exact Hm dq
    ·exact tc dq dq
   ·exact q1 p z
  have Z:Lo ([pE aQ,pE cf,pS cG]++ps):=tQ (fun p U=>by
   simp only[mZz] at U;rcases U with rfl|rfl|rfl
   iterate 2
    ·show ¬((3:Nat)=1);decide
   ·show ¬((2:Nat)=1);decide) q4;refine⟨ej (pS cP)++(ej (pS cf)++(ej (pS aQ)++(fU [38,60,62] d++([pE aQ,pE cf,pS cG]++ps).flatMap ej))),?_,?_,?_⟩
  ·rw[cH,cH,cH,cH,← R,← w,List.flatMap_append,cH,s,H,aa];show _=(_++cF (ps.flatMap ej));have t5:pH [cT,dp,⟨1,1,aQ,[],[]⟩,⟨2,2,[],lt,[]⟩,⟨1,0,cG,[],[]⟩] 5=(((cF (ej (pS cP))++(cF (ej (pS cf))++cF (ej (pS aQ))))++gQ lt)++cF ([pE aQ,pE cf].flatMap ej))++cF (ej (pS cG)):=kq
   have t6:cF ([pE aQ,pE cf,pS cG].flatMap ej)=cF ([pE aQ,pE cf].flatMap ej)++cF (ej (pS cG)):=kq
   rw[t5,t6];simp only[List.append_assoc]
  ·exact(te (tc (names:=[]) dq dq).1).1.app ((te (tc (names:=[]) dq dq).1).1.app ((te (p:=pS aQ) (.inr (.inl ⟨rfl,dq,.inl rfl⟩))).1.app (S.app (w5 fun p U=>(A p U).1))))
  ·intro pr c wr W names U T M j C;have b:ek (ej (pS cP)++(ej (pS cf)++(ej (pS aQ)++(fU [38,60,62] d++([pE aQ,pE cf,pS cG]++ps).flatMap ej))))=ek (ej (pS cP))++(ek (ej (pS cf))++(ek (ej (pS aQ))++(ek (fU [38,60,62] d)++ek (([pE aQ,pE cf,pS cG]++ps).flatMap ej)))):=by rw[mQ,mQ,mQ,mQ]
   generalize ek (ej (pS cP)++(ej (pS cf)++(ej (pS aQ)++(fU [38,60,62] d++([pE aQ,pE cf,pS cG]++ps).flatMap ej))))=E at *;have N:=U.h.g.len;have v:aV (ek (fU [38,60,62] d))=gQ lt:=by rw[pJ fun c G=>(S c G).1,← R,w]
   have B:=j.w0 d D;rw[← w] at B;have F:=D.1;rw[← w] at F;have s1:=tH (c:=c) (p:=pS cP) (pre:=[]) (tx:=[]) (us:=[]) U j rfl dq dq (.inl rfl) (fun a f=>by cases f) b dq dq;have s2:=tH (c:=c) (p:=pS cf) (pre:=ek (ej (pS cP))) (tx:=[]) (us:=[toS cP []]) U j rfl dq dq (.inl rfl) (fun a f=>by cases f) b dq dq;have q:E=(ek (ej (pS cP))++ek (ej (pS cf)))++60::(uA aQ++62::(ek (fU [38,60,62] d)++60::47::(uA aQ++62::ek (([pE cf,pS cG]++ps).flatMap ej)))):=by rw[b];simp[ek,ej]
   have Y:=GO (c:=c) (k:=(ek (ej (pS cP))++ek (ej (pS cf))).length) (tx:=[]) (us:=[toS cP [],toS cf []]) U T M (nb:=aQ) (nm:=uA aQ) (by simp[ek,Ad]) dq dq dq kq (wP (il dq) dq) (by rw[iz dq];exact j.nm _ dq) dq dq q rfl (fun x hx=>by
    obtain⟨n,X,rfl⟩:=List.mem_map.1 hx
    have:=e6 n X;omega) (by rw[v];exact B.1) dq dq (by rw[v,B.2];omega);rw[v,B.2] at Y;have⟨n,y,I,J,K,L⟩:=pB (c:=c) U j (ps:=[pE aQ,pE cf,pS cG]++ps) (pre:=ek (ej (pS cP))++(ek (ej (pS cf))++(ek (ej (pS aQ))++ek (fU [38,60,62] d)))) (tx:=lt) (us:=[toS cP [],toS cf [],toS aQ []]) (by rw[b];simp) (fun p U=>⟨(A p U).1,(A p U).2.1,fun a f=>C _ ((A p U).2.2 a f)⟩) Z oq (by simp;omega) (fun _=>⟨_,_,rfl,by show ¬((3:Nat)=1);decide⟩);have V:(fU [38,60,62] d).length≤100000:=by rw[b] at N;simp[ek] at N;omega
   refine⟨n+3,y,⟨_,s1,⟨by show 0+(ej (pS cP)).length≤150000;decide,by show([]:Bq).length≤500000;decide,by show(iB [] []++[xu (pS cP)]).length≤500000;decide⟩,⟨_,gg.to (y':=⟨(ek (ej (pS cP))++ek (ej (pS cf))).length,[],[toS cP [],toS cf []]⟩) s2 dq rfl rfl,⟨by show(ek (ej (pS cP))++ek (ej (pS cf))).length≤150000;decide,by show([]:Bq).length≤500000;decide,by show([toS cP [],toS cf []]:List Tok).length≤500000;decide⟩,⟨_,gg.to (y':=⟨(ek (ej (pS cP))++(ek (ej (pS cf))++(ek (ej (pS aQ))++ek (fU [38,60,62] d)))).length,lt,[toS cP [],toS cf [],toS aQ []]⟩) Y ?_ rfl rfl,⟨?_,?_,?_⟩,I⟩⟩⟩,J,K,?_⟩;iterate 2
    ·simp[ek,ej,Ad];omega
   ·show lt.length≤500000;omega
   ·show([toS cP [],toS cf [],toS aQ []]:List Tok).length≤500000;decide
   ·rw[L,Q];have a9:nV lt=[toS cP [],toS cf [],toS aQ [],IH lt,pF aQ,pF cf,toS cG []]:=by unfold nV;rw[iw l];rfl
    rw[a9];unfold iB;rw[iw l];rfl
end
def Ii(l:Bq)(x:Nq):TL:=[.func (.func 247) #[] #[],str l,x 2,x 3,str [],am 4066 0]++(iy x 6 8++([am 4067 0]++iy x 15 70))
abbrev sM(l:Bq)(j:Nat):AS:=((⟨[],4066⟩:AS).add (.cells #[.pointer none,aD] 119)).add (.stringIter ⟨l.toArray⟩ j)
section
variable {un:Bq→Int→Option (Bq)}{all:Iq}
def Qh:E9 4065 all (I7 prog 0 un all):=⟨kq,kq,kq,kT kq⟩
def J3{l:Bq}(h:∀b∈l,97≤b.toNat∧b.toNat≤122)(C:l.length<16):Ef (I7 prog 0 un all) 329 #[.func (.func 247) #[] #[],str l] ⟨[],4066⟩ (str l) (sM l l.length):=by
 have t:lF (1000+l.length)=false:=Cd _ C;have A:=Qh (un:=un) (all:=all);refine EF.of kq func329 rfl ?_;generalize q:I7 prog 0 un all=z at *;have v:∀j,(sM l j).get 4067=some (.stringIter ⟨l.toArray⟩ j):=fun j=>kq;have n:∀j,(sM l j).set 4067 (some (.stringIter ⟨l.toArray⟩ (j+1)))=sM l (j+1):=fun j=>kq;have i:z 368=none:=by rw[← q];kernel_rfl
 iterate 2 refine EW.seq (EW.go 5 kq ?_)
 refine EW.seq (EW.seq (EW.region kq ?_));refine EO.go 1 9 kq ?_;refine EO.op kq (LI (l:=l) rfl underlying9 kq t) ?_;refine EO.nil ?_;refine EW.fill (Ii l) kq ?_;intro D;refine EW.block ?_;refine EW.cV (sM l 0) kq ?_;refine EW.mono (EW.dS (Q:=fun e d o=>e=.exit 0∧o=sM l l.length∧∃x,d=Ii l x) (fun m d o=>∃j,m+j=l.length∧o=sM l j∧∃x,d=Ii l x) ?_ l.length _ _ ⟨0,oq,rfl,D,rfl⟩) ?_
 ·rintro m d o ⟨j,F,rfl,x,rfl⟩;by_cases y:j<l.length
  ·have U:l[j]?=some l[j]:=gE y;have B:=h l[j] (List.getElem_mem y);generalize l[j]=b at U B;have a:=LD A (s:=sM l (j+1)) (r:=((b.toNat:Nat):Int)) oq;have p:lG ((b.toNat:Nat):Int)=((b.toNat:Nat):Int):=by unfold lG;rw[iw oq]
   rw[p] at a;refine EW.seq (EW.region kq ?_);refine EO.op kq (LH (b:=4067) (pos:=j) (l:=l) (r:=b) rfl kq (v j) U oq t) ?_;rw[n j];refine EO.fin 9 kq ?_;refine EW.cV (sM l (j+1)) kq ?_;generalize E:((b.toNat:Nat):Int)=c at *;refine EW.seq (EW.ew kq (EW.skip ?_));refine EW.block ?_;refine EW.seq (EW.go 5 kq ?_);refine EW.cV (sM l (j+1)) kq ?_;refine EW.seq (EW.region kq ?_);refine EO.go 2 9 kq ?_;refine EO.call (f:=.tmp 19) (g:=247) (first:=#[]) (cap:=#[]) (args:=#[.int .i32 c]) kq rfl rfl kq kq kq a ?_;refine EO.fin 9 kq ?_;refine EW.cV (sM l (j+1)) kq ?_;refine EW.seq (EW.seq (EW.region kq ?_));refine EO.go 2 9 kq ?_;refine EO.op kq (aU (u:=.int .i32 c) (w:=.int .i32 c) rfl kq kq (gl (b:=true) iq)) ?_;refine EO.go 2 9 kq ?_;refine EO.op kq (aU (u:=.int .i32 c) (w:=.int .i32 65533) rfl kq kq (ca (b:=true) (bne_iff_ne.2 oq))) ?_;refine EO.fin 9 kq ?_;refine EW.cV (sM l (j+1)) kq ?_;refine EW.ew kq ?_;refine EW.exit ?_;exact⟨m-1,oq,j+1,oq,rfl,aN kq⟩
  ·obtain rfl:j=l.length:=oq
   refine EW.seq (EW.region kq ?_);refine EO.op kq (Hh (b:=4067) (pos:=l.length) (l:=l) rfl kq (v _) lr) ?_;refine EO.fin 9 kq ?_;refine EW.cV (sM l l.length) kq ?_;refine EW.seq (EW.dL kq (EW.exit ?_));exact⟨rfl,rfl,aN kq⟩
 rintro e d o ⟨rfl,rfl,x,rfl⟩;have k:Ef z 368 #[am 4066 0] (sM l l.length) (num 0) (sM l l.length):=by refine EF.of i func368 rfl ?_;refine EW.xt 9 .ret kq ?_;exact⟨.inr rfl,kq,kq⟩
 refine EW.seq (EW.seq (EW.region kq ?_));refine EO.gc 0 9 kq k ?_;refine EO.fin 9 kq ?_;refine EW.cV (sM l l.length) kq ?_;refine EW.ew kq ?_;refine EW.seq (EW.go 5 kq ?_);exact EW.ret ⟨.inr rfl,kq,kq⟩
def GX{l:Bq}(h:∀b∈l,97≤b.toNat∧b.toNat≤122)(U:l.length<16):∃c,Ef (I7 prog 0 un all) 258 #[str l] ⟨[],4066⟩ (str l) c:=by have a:=J3 (un:=un) (all:=all) h U;refine⟨sM l l.length,EF.of kq func258 rfl ?_⟩;refine EW.seq (EW.go 5 kq (EW.seq (EW.region kq (EO.gc 1 9 kq a (EO.fin 9 kq ?_)))));exact EW.ret ⟨.inr rfl,kq,kq⟩
end
def PL{sp:Bq}{a:UInt8}(U:sp=[38,34]∨sp=[38,60,62])(h:a∈sp):a=38∨a=34∨a=60∨a=62:=by
 rcases U with rfl|rfl
 ·simp only[mZz] at h;rcases h with z|z<;>simp[z]
 ·simp only[mZz] at h;rcases h with z|z|z<;>simp[z]
def rH{sp:Bq}(U:sp=[38,34]∨sp=[38,60,62]):∀{l m:Bq},l.flatMap (fp sp)=m.flatMap (fp sp)→l=m
 | [],[],_=>rfl
 | [],b::m,h=>by exfalso;rw[List.flatMap_cons] at h;have h1:=(List.append_eq_nil_iff.1 h.symm).1;unfold fp at h1;split at h1<;>cases h1
 | a::l,[],h=>by exfalso;rw[List.flatMap_cons] at h;have h1:=(List.append_eq_nil_iff.1 h).1;unfold fp at h1;split at h1<;>cases h1
 | a::l,b::m,h=>by
  rw[List.flatMap_cons,List.flatMap_cons] at h;have i:(38:UInt8)∈sp:=by rcases U with rfl|rfl<;>decide
  unfold fp at h;by_cases d:a∈sp
  ·by_cases c:b∈sp
   ·rw[ip d,ip c] at h;have h1:=(List.cons.inj h).2;have e:a=b∧l.flatMap (fp sp)=m.flatMap (fp sp):=by have f:=PL U d;have g:=PL U c;rcases f with rfl|rfl|rfl|rfl<;>rcases g with rfl|rfl|rfl|rfl<;>first|exact⟨rfl,List.append_cancel_left h1⟩|(exfalso;revert h1;simp[sV])
    rw[e.1,rH U e.2]
   ·rw[ip d,iw c] at h;exact absurd ((List.cons.inj h).1▸i) c
  ·by_cases c:b∈sp
   ·rw[iw d,ip c] at h;exact absurd ((List.cons.inj h).1▸i) d
   ·rw[iw d,iw c] at h;have h1:=List.cons.inj h;rw[h1.1,rH U h1.2]
def Gx{v w:Bq}(h:gQ v=gQ w):v=w:=rH (.inr rfl) (by rw[← mL,← mL];exact h)
def Gw{v w:Bq}(h:fE v=fE w):v=w:=rH (.inl rfl) (by rw[← mK,← mK];exact h)
open Classical in
def QB:∃f:Bq→Int→Option (Bq),(∀U,dO U→f (gQ (cF U)) 0=some (cF U))∧(∀U,dO U→f (fE (cF U)) 1=some (cF U))∧∀x k w,f x k=some w→Fv x w:=by
 refine⟨fun x k=>if h:k=0∧∃U,dO U∧gQ (cF U)=x then some (cF (Classical.choose h.2)) else if h:k=1∧∃U,dO U∧fE (cF U)=x then some (cF (Classical.choose h.2)) else none,fun U e=>?_,fun U e=>?_,fun x k w c=>?_⟩
 ·have a:(0:Int)=0∧∃d,dO d∧gQ (cF d)=gQ (cF U):=⟨rfl,U,e,rfl⟩;refine(dif_pos a).trans ?_;rw[Gx (Classical.choose_spec a.2).2]
 ·have a:(1:Int)=1∧∃d,dO d∧fE (cF d)=fE (cF U):=⟨rfl,U,e,rfl⟩;refine(dif_neg (fun z=>absurd z.1 dq)).trans ((dif_pos a).trans ?_);rw[Gw (Classical.choose_spec a.2).2]
 ·simp only at c;split at c
  ·next a =>
   cases c;have b:=Classical.choose_spec a.2
   have:=(oX (v:=[]) (w:=cF (Classical.choose a.2)) dq (by have:=b.1.1;omega)).2
   have:=b.1.1;exact⟨_,.inr rfl,by rw[← mL];exact b.2.symm,by rw[← b.2];omega,oq⟩
  ·split at c
   ·next a =>
    cases c;have b:=Classical.choose_spec a.2
    have:=(oX (v:=cF (Classical.choose a.2)) (w:=[]) (by have:=b.1.1;omega) dq).1
    have:=b.1.1;exact⟨_,.inl rfl,by rw[← mK];exact b.2.symm,by rw[← b.2];omega,oq⟩
   ·cases c
open Classical in
def QA(un:Bq→Int→Option (Bq))(names:List (Bq))(all:Iq):∃b:Bq→Option (Bq),(∀x,x.length≤1000→∃w,b x=some w)∧∀x w,b x=some w→∃c,Ef (ly 258 (wR names) (I7 prog 0 un all)) 198 #[str x,str [9,10,12,13,32]] ⟨[],4066⟩ (str w) c:=by
 refine⟨fun x=>if h:x.length≤1000 then some (Classical.choose (Hz (names:=names) (un:=un) (all:=all) (x:=x) oq)) else none,fun x a=>⟨_,dif_pos a⟩,fun x w U=>?_⟩;simp only at U;split at U
 ·next a =>cases U;exact Classical.choose_spec (Hz (names:=names) (un:=un) (all:=all) (x:=x) oq)
 ·cases U
section
variable {lt:Bq}{σ:PS}
def um(h:PV lt σ)(S:lt=[]∨∃m,dO m∧lt=cF m∧cF m≠[])(hn:σ.nodes.length≤70)(aa:(ko σ.nodes).length≤20000):∃D,zZ 4065 D (cm ⟨(ko σ.nodes).toArray⟩)∧Fy D σ.nodes:=by
 have hN:∀i u,σ.nodes[i]?=some u→ib σ.nodes i u:=fun i u M=>h.node S M;have⟨r,g1,g2,g3⟩:=h.tokens S hn;have A:cm ⟨(ko σ.nodes).toArray⟩=ek r:=by rw[← g1,AP g2]
 have ab:r.length≤20000:=by have:=(JW r).1;rw[g1] at this;omega
 have Q:∀l∈ek r,∃c:Nat,It c∧l=((c:Nat):Int):=fun l p=>by obtain⟨c,hc,rfl⟩:=List.mem_map.1 p;exact⟨c,(g2 c hc).1,rfl⟩
 have R:(ek r).length≤100000:=by rw[rL];omega
 rw[A];have⟨un,W,X,hE⟩:=QB;have f:∀x∈dH++oB σ.nodes,(∀b∈x,97≤b.toNat∧b.toNat≤122)∧x.length<16:=fun x g=>by
  rcases List.mem_append.1 g with z|z
  ·exact⟨il z,by have:=mW z;omega⟩
  ·have⟨u,M,U⟩:=List.mem_flatMap.1 z;have⟨i,hi,I⟩:=List.mem_iff_getElem.1 M;have hP:=hN i u (by rw[← I];exact gE hi);rcases hP.2.2 with ⟨_,_,_,k4⟩|⟨_,_,_,k3,_⟩
   ·rcases k4 with e|⟨a,m,ha,_,_,e⟩
    ·rw[e] at U;cases U
    ·rw[e] at U;simp only[List.map_cons,List.map_nil,mZz] at U
     have:=ha.1;rcases U with rfl|rfl
     ·exact⟨ha.2,oq⟩
     ·refine⟨fun b hb=>?_,by simp;omega⟩;rcases List.mem_append.1 hb with y|y
      ·exact ha.2 b y
      ·simp at y;subst y;decide
   ·rw[k3] at U;cases U
 generalize V:dH++oB σ.nodes=names at *;have⟨tr,a8,a9⟩:=QA un names (ek r);refine⟨KA prog un names tr (ek r),KD hE (fun x g=>GX (f x g).1 (f x g).2) a9,⟨fun s Po L C=>?_⟩⟩;have hJ:=Qi (un:=un) (names:=names) (tr:=tr) Q R;have hg:Given names (fun t k=>(un t k).getD []) (fun t k=>∃w,un t k=some w):=⟨fun x g=>by rw[← V];exact List.mem_append_left _ g,fun m p=>⟨⟨_,W m p⟩,by show(un _ 0).getD []=_;rw[W m p];rfl⟩,fun m p=>⟨⟨_,X m p⟩,by show(un _ 1).getD []=_;rw[X m p];rfl⟩⟩;have⟨n,y,r1,r2,r3,r4⟩:=g3 (c:=s.nx) hJ LM kq hg (fun x g=>by rw[← V];exact List.mem_append_right _ g);have⟨st,q1,q2,q3,q4⟩:=r1.fn ⟨by show(0:Nat)≤150000;decide,by show([]:Bq).length≤500000;decide,by show([]:List Tok).length≤500000;decide⟩;have B:=Hr (pr:=KA prog un names tr (ek r)) Hy KC (fun tx ⟨m,p,e⟩=>by have⟨w,hw⟩:=a8 tx (by rw[e];have:=p.1;omega);exact⟨w,HA hw⟩) h oq;have⟨P,v1,O,e1,Y,E,Z,e5⟩:=Uo (s:=s) (LL (un:=un) (names:=names) (tr:=tr) Q R) (n:=n) (st:=st) q1 q3 (by rw[q2,r2];unfold dx;rw[List.getElem?_eq_none lr];rfl) q4 ⟨oq,L⟩ oq;rw[q2,r3,r4] at E;have E:gh P O (vg lt σ.nodes):=E;have J:(vg lt σ.nodes).length≤1000000:=by have:=(q4 n lr).2.2;rw[q2,r4] at this;omega
 have⟨v,wv,H,f1,f2,f3,f4,f5⟩:=NT (s:=P) Hy Y E J B rfl;have q:aP (fun _=>False) s v:=Z.trans f4 fun _ _ z=>z;have o:Has v 4064 (.cells #[aD] 82):=Has.fr (s:=s) ⟨oq,C⟩ q id;obtain⟨vd,vc,N⟩:∃ad cp,v1=.slice ad O.length cp:=by
  rcases Y with ⟨rfl,rfl⟩|⟨d,fz,rfl,_⟩
  ·exact⟨none,0,rfl⟩
  ·exact⟨_,_,rfl⟩
 subst N;have⟨G,F,nf,a7,T⟩:=f2;subst a7;have j:aP (fun x=>x=4064) v (v.set 4064 (some (.cells #[.slice (sq G) H.length F] 82))):=aP.set (K:=fun x=>x=4064) (aP.refl v) (fun _=>rfl) _;refine⟨v.set 4064 (some (.cells #[.slice (sq G) H.length F] 82)),_,H,?_,o.put _,⟨G,F,nf,rfl,T.fr j (T.ne o dq)⟩,f3.fk j fun x cs fz g=>g.ne o dq,(q.mono fun _ _ z=>z.elim).trans j (fun _ _ z=>z),fun x g=>?_⟩
 ·generalize O.length=nT at *;refine EW.region kq (EO.gc 1 9 kq e1 (EO.gc 0 9 kq f1 (EO.gs 1 9 v kq (EO.op kq (gC (b:=4064) (off:=0) (w:=.slice (sq G) H.length F) rfl kq kq rfl rfl kq o.2 iq) (EO.nil ?_)))));exact⟨.inl rfl,kq⟩
 ·have:=f5 x g
  have:=Z.1;omega
end
section
variable {s:AS}{pr:Prim}
def P3{P:Program}{kt:TypeId→Bool}{c:ft}{a:TL}{o:Oper}{x y:Operand}{t e:TypeId}{n sz bytes:Nat}{z:Value}(U:o.op=.makeSlice t x y)(g:P.underlying t=some (.slice e))(h:a.at x=num (n:Nat))(j:a.at y=num (n:Nat))(d:(P.info? e).map (fun i=>(i.zero,i.size,i.bytes))=some (some z,sz,bytes))(l:0<n)(m:n≤1000000)(k:lD P e=true)(f:kt e=false)(b:bytes≤1000):bM P kt c a o s=some (.slice (sq s.nx) n n,s.add (.cells (madeCells z.cells (n*sz)) e)):=by unfold bM;rw[ip (by rw[U];rfl)];unfold ss;rw[U];simp only;rw[g,h,j];simp only;rw[d];simp only;rw[ip ⟨trivial,oq,oq,k,f,b⟩];rfl
def Nk{P:Program}{kt:TypeId→Bool}{c:ft}{a:TL}{o:Oper}{x y:Operand}{t w e d:TypeId}{b n k:Nat}{l:Bq}{cs:Aq}{fz:Nat × Nat}(U:o.op=.call { callee:=.builtin .copy,args:=#[x,y],argTypes:=#[t,w] })(q:a.at x=.slice (sq b) n k)(r:a.at y=str l)(p:P.underlying t=some (.slice e))(u:bQ P e=some 1)(m:s.get b=some (.cells cs d fz))(i:l.length=n)(z:cs.size=n):bM P kt c a o s=some (num (l.length:Nat),s.set b (some (.cells (lI l) d fz))):=by
 have j:cb P a o=none:=by unfold cb;rw[U]
 have g:putAt cs 0 (strCells ⟨l.toArray⟩)=lI l:=by
  unfold putAt;have h1:(strCells ⟨l.toArray⟩).length=l.length:=by simp[strCells]
  rw[List.take_zero,List.nil_append,List.drop_of_length_le (by rw[Array.length_toList,h1];omega),List.append_nil]
 have f:iK l 0=l.length:=by
  have:∀(l:Bq) (n:Nat),iK l n=n+l.length:=by
   intro l;induction l with
   | nil=>intro n;rfl
   | cons x l v=>intro n;rw[iK,v,lC];omega
  rw[this,Nat.zero_add]
 unfold bM;rw[iw (by rw[U];simp[eI])];rw[U];simp only;rw[j];simp only[List.map_cons,List.map_nil];rw[q,r];unfold eS;simp only;rw[p,m];simp only;have h:(⟨l.toArray⟩:ByteArray).size=n:=by rw[← i];rfl
 rw[ip ⟨u,h,oq⟩,g,f];rfl
def Jp(f:pr 36=none)(g:pr 60=none){l:Bq}(i:l≠[])(m:l.length≤1000000):∃a,Ef pr 36 #[str l] s (str l) a:=by
 have U:0<l.length:=List.length_pos_iff.2 i;have e:=Has.new s (.cells (madeCells (Value.int .u8 0).cells (l.length*1)) 5);have o:=e.put (.cells (lI l) 5);have c:(madeCells (Value.int .u8 0).cells (l.length*1)).size=l.length:=by rw[size_madeCells,Nat.mul_one]
 generalize j:s.add (.cells (madeCells (Value.int .u8 0).cells (l.length*1)) 5)=S at *;obtain⟨a,h⟩:∃a,Ef pr 60 #[str l] s (str l) a:=by refine⟨(S.set s.nx (some (.cells (lI l) 5))).set s.nx none,?_⟩;refine EF.of g func60 rfl ?_;refine zs (EW.seq (zr (zk 1 (zp (da (l:=l) rfl underlying9 kq) (zp (yb (num (l.length:Nat)) (num 0) (gP (b:=false) (bF.2 oq))) (EO.nil (za s (zF (zr (zk 1 (zp (da (l:=l) rfl underlying9 kq) (zo s (zp (P3 (n:=l.length) (sz:=1) (bytes:=1) (z:=.int .u8 0) rfl underlying55 kq kq kq U m kq kq dq) ?_)))))))))))));rw[j];refine zf (za S (zr (zk 2 (zo S (zp (Nk (b:=s.nx) (n:=l.length) (k:=l.length) (l:=l) rfl kq kq underlying55 kq e.2 rfl c) (EO.nil (za (S.set s.nx (some (.cells (lI l) 5))) (zr (zk 1 (zp (yi s.nx 0 l.length l.length 0 none .i64 0 1 oq oq oq) (zk 2 (zo (S.set s.nx (some (.cells (lI l) 5))) (zp (wY (d:=s.nx) (l:=l) rfl kq kq kq o.2 kq U oq) (zf ?_))))))))))))));exact yR
 refine⟨a,?_⟩;refine EF.of f func36 rfl ?_;refine zs (zr (zc 1 h (zf ?_)));exact yR
end
section
variable {s s1:AS}{pr:Prim}
def sZ{b:Nat}{o:Obj}:∀{l:List Nat},b∈l→s.get b=some o→ni o=true→(s.only l).get b=some o
 | [],h,_,_=>by simp at h
 | c::l,h,hs,ho=>by
  unfold AS.only;by_cases U:c=b
  ·subst U;rw[hs];simp only;rw[ip ho,AS.aH,ip rfl]
  ·have ih:=sZ (l:=l) ((List.mem_cons.1 h).resolve_left fun e=>U e.symm) hs ho;split
   ·split
    ·rw[AS.aH,iw (fun e=>U e.symm)];exact ih
    ·exact ih
   ·exact ih
def AS.all(s:AS):AS:=s.only (List.range s.nx)
def AS.Mf(s:AS):s.all.nx=s.nx:=(wU (List.range s.nx) s).1
def Has.all{b:Nat}{o:Obj}(h:Has s b o)(U:ni o=true):Has s.all b o:=⟨by rw[AS.Mf];exact h.1,sZ (List.mem_range.2 h.1) h.2 U⟩
def lq.all{v:Value}{xs:List bv}(h:lq s v xs):lq s.all v xs:=by have⟨d,c,a,e,h⟩:=h;exact⟨d,c,a,e,h.all rfl⟩
def eu.all{xs:List bv}{us:List Nd}(h:eu s xs us):eu s.all xs us:=⟨h.1,fun i x u d b=>by
 have⟨h1,h2,h3,a,U⟩:=h.2 i x u d b;refine⟨h1,h2,h3,a,?_⟩;rcases U with U|⟨ab,c,fz,e,q1,q2⟩
 ·exact .inl U
 ·have:=Has.all (s:=s) ⟨q1,q2⟩ rfl;exact .inr ⟨ab,c,fz,e,this.1,this.2⟩⟩
abbrev ny(v:Value)(n:Nat)(b:Bool):Obj:=.cells #[v,num (n:Nat),.bool b] 80
def Ez (s:AS):AS:=s.add (ny aD 0 false)
def LK (t:Bq)(s:AS):AS:=((Ez s).add (.cells #[str t] 9)).add (.cells #[str t] 9 (1,1))
def Hn (t:Bq)(s:AS):AS:=(LK t s).set s.nx (some (ny (.slice (some ⟨s.nx+2,0,none⟩) 1 1) t.length false))
def vf (t:Bq)(s:AS):AS:=(Hn t s).add (.cells #[aD] 82)
def Ng(U:pr 18=none):Ef pr 18 #[] s (am s.nx 0) (Ez s):=by
 refine EF.of U func18 rfl ?_;iterate 2 refine zs ?_
 exact yR
def JD(B:pr 20=none){t:Bq}(C:∀s,Ef pr 36 #[str t] s (str t) s)(F:t≠[])(K:t.length≤20000):Ef pr 20 #[am s.nx 0,str t] (Ez s) (num 0) (Hn t s):=by
 have U:Has (Ez s) s.nx (ny aD 0 false):=Has.new s _;have A:=U.add (.cells #[str t] 9);have o:Has (LK t s) s.nx (ny aD 0 false):=A.add (.cells #[str t] 9 (1,1));have D:Has ((Ez s).add (.cells #[str t] 9)) (s.nx+1) (.cells #[str t] 9):=Has.new (Ez s) _;have p:=o.put (ny (.slice (sq (s.nx+2)) 1 1) 0 false);have E:((LK t s).set s.nx (some (ny (.slice (sq (s.nx+2)) 1 1) 0 false))).set s.nx (some (ny (.slice (sq (s.nx+2)) 1 1) t.length false))=Hn t s:=AS.set_set (LK t s) s.nx (some (ny (.slice (sq (s.nx+2)) 1 1) 0 false)) (some (ny (.slice (sq (s.nx+2)) 1 1) t.length false));have q:=bL (P:=prog) (t:=62) underlying62 rfl U.2 (off:=0) rfl;have c:=gk (P:=prog) (e:=9) (news:=[str t]) (m:=1) (s:=(Ez s).add (.cells #[str t] 9)) dq;have J:=C (Ez s);have G:(Ez s).nx=s.nx+1:=rfl;have c:bn prog 9 aD [str t] 1 ((Ez s).add (.cells #[str t] 9))=some (.slice (sq (s.nx+2)) 1 1,LK t s):=c;generalize H:Ez s=a at *;generalize h:a.add (.cells #[str t] 9)=x at *;generalize I:LK t s=g at *;generalize n:g.set s.nx (some (ny (.slice (sq (s.nx+2)) 1 1) 0 false))=f at *;generalize Hn t s=y at *;generalize s.nx=b at *;refine EF.of B func20 rfl ?_;refine zs (EW.seq (EW.block (zr (zg 3 a (zp (bP (b:=b) (off:=2) (v:=.bool false) rfl underlying4 rfl kq U.2 rfl) (zf (za a (zG (zr (zk 1 (zp (da (l:=t) rfl underlying9 kq) (zg 3 a (zp (bP (b:=b) (off:=1) (v:=num 0) rfl underlying3 rfl kq U.2 rfl) (zk 1 (zp (aU (u:=num (t.length:Nat)) (w:=num 20000) rfl kq kq (e0 (b:=false) (fD oq))) (zf (za a (zG (zr (zk 1 (zp (aU (u:=str t) (w:=str []) rfl kq kq (by unfold dj;simp only;rw[gL F])) (zf (za a (zH (EW.seq (EW.draw kq kq kq ?_))))))))))))))))))))))))));iterate 4 refine zq ?_
 refine zt a (zu (bP (b:=b) (off:=0) (v:=aD) rfl underlying62 rfl kq U.2 rfl) (zq (zt a (ET.fA #[str t] kq rfl rfl kq kq J (zq (ET.cV x ((show _=a.add (.cells #[str t] 9) by kernel_rfl).trans h) (zu (Cx (sl:=aD) (d:=a.nx) (k:=1) (z:=str []) (w:=str t) (bytes:=16) rfl kq kq underlying62 kq rfl dq kq (by rw[G];exact D.2) rfl rfl c) ?_)))))));iterate 2 refine zq ?_
 refine zt g (zu (gC (b:=b) (off:=0) (w:=.slice (sq (b+2)) 1 1) rfl kq kq rfl rfl kq o.2 iq) (ET.nil ⟨aK [(aC prog 62 (am b 0) a,aD),(aC prog 62 (am b 0) a,aD)] kq (mh ⟨q,rfl⟩ ⟨q,rfl⟩),_,_,_,_,_,_,rfl,rfl,?_⟩));refine EW.cV f ((show _=g.set b (some (ny (.slice (sq (b+2)) 1 1) 0 false)) by kernel_rfl).trans n) (zx (zg 3 f (zp (bP (b:=b) (off:=1) (v:=num 0) rfl underlying3 rfl kq p.2 rfl) (zk 1 (zp (da (l:=t) rfl underlying9 kq) (zp (gW (i:=0) (j:=(t.length:Nat)) (r:=((t.length:Nat):Int)) rfl kq kq oq oq) (zg 2 f (zp (gC (b:=b) (off:=1) (w:=num (t.length:Nat)) rfl kq kq rfl rfl kq p.2 iq) (EO.nil (EW.cV y ((show _=f.set b (some (ny (.slice (sq (b+2)) 1 1) t.length false)) by kernel_rfl).trans E) (zs ?_)))))))))));exact EW.ret ⟨.inr rfl,kq,kq⟩
def Mt(e:pr 21=none){t:Bq}(U:Ef pr 37 #[.slice (sq (s.nx+2)) 1 1,.func (.func 38) #[] #[am (s.nx+3) 0]] (vf t s) (.tuple #[]) s1){o:Obj}(f:Has s1 s.nx (ny (.slice (sq (s.nx+2)) 1 1) t.length false)):Ef pr 21 #[am s.nx 0] (Hn t s) (.tuple #[am (s.nx+3) 0,num 0]) (s1.set s.nx (some (ny aD 0 true))):=by
 have d:Has (Hn t s) s.nx (ny (.slice (sq (s.nx+2)) 1 1) t.length false):=by have:Has (LK t s) s.nx (ny aD 0 false):=((Has.new s _).add _).add _;exact this.put _
 have g:Has (vf t s) s.nx (ny (.slice (sq (s.nx+2)) 1 1) t.length false):=d.add _;have h:(Hn t s).nx=s.nx+3:=rfl;have i:(Hn t s).add (.cells #[aD] 82)=vf t s:=rfl;generalize Hn t s=a at *;generalize vf t s=c at *;rw[← h] at U ⊢;generalize s.nx=b at *;refine EF.of e func21 rfl ?_;refine zs (EW.seq (zr (zg 3 a (zp (yl b 2 (.bool false) d.2) (EO.nil (za a (zF (zr (zk 1 (EO.cV c ((show _=a.add (.cells #[aD] 82) by kernel_rfl).trans i) (EO.nil (za c (zr (zg 3 c (zp (yl b 0 (.slice (sq (b+2)) 1 1) g.2) (zc 1 U (EO.nil (za s1 (zr (zg 3 s1 (zp (ep (b:=b) (off:=0) (w:=.agg #[aD,num 0,.bool true]) (ws:=[aD,num 0,.bool true]) rfl kq kq rfl rfl kq f.2 iq) (EO.nil (za (s1.set b (some (ny aD 0 true))) (zs ?_))))))))))))))))))))))));exact yR
def KE(U:pr 17=none)(e:pr 18=none)(f:pr 20=none)(g:pr 21=none){t:Bq}(h:∀s,Ef pr 36 #[str t] s (str t) s)(m:t≠[])(n:t.length≤20000)(i:Ef pr 37 #[.slice (sq (s.nx+2)) 1 1,.func (.func 38) #[] #[am (s.nx+3) 0]] (vf t s) (.tuple #[]) s1)(j:Has s1 s.nx (ny (.slice (sq (s.nx+2)) 1 1) t.length false)):Ef pr 17 #[str t] s (am (s.nx+3) 0) (s1.set s.nx (some (ny aD 0 true))):=by have e1:=Ng (pr:=pr) (s:=s) e;have k:=JD (s:=s) f h m n;have l:=Mt (o:=ny aD 0 false) g i j;generalize s1.set s.nx (some (ny aD 0 true))=c at *;generalize Hn t s=d at *;generalize Ez s=a at *;generalize s.nx+3=B at *;generalize s.nx=b at *;refine EF.of U func17 rfl ?_;refine zs (zr (zc 0 e1 (zf (za a (EW.seq (zr (zf (za a (zF (zr (zc 2 k (zf (za d (zr (zc 1 l (zf (za c (EW.seq (zr (zf (za c (zF (zs ?_)))))))))))))))))))))));exact yR
end
structure Ext(w w':World):Prop where
 tape:w'.tape=w.tape
 os:w'.os=w.os
 output:w'.output=w.output
 size:w.heap.size≤w'.heap.size
 block:∀b,b<w.heap.size→w'.heap[b]?=w.heap[b]?
section
variable {P:Program}{Post:Value→World→Prop}{b:Frame}{a:Act}{w:World}
def Bn{fn:Func}{U:List Item}{v:Value}(g:b.kind=.normal)(c:a.defers=[])(e:P.funcs[b.fn]?=some fn)(f:P.inits.idxOf? b.fn=none)(h:(results fn a.tmps).run P w=.ok v w)(d:(results fn a.tmps).events P w #[]=#[]) :
  stepG P true (G { b.at a U with mode:=.returning } []) w=.ended (.done v) w #[]:=by simp[G,stepG,unwind,doReturn,Frame.at,g,c,e,f,h,d,seen,GStep.after]
def ends_of_calls{f:FuncId}{args:Aq}{Q:Value→World→Prop}(x:P.inits.idxOf? f=none)(r:∀v d e,Q v d→Post v (d.at e))(h:eA P (ZI P Post 0) f args (fun _=>False) w (fun _ v d=>Q v d)):Ends P Post (solo (G (Frame.enter P f args .normal) []) w) #[]:=by
 have C:bw P true (fun _:Nat→Prop=>AtRel) DZ (ZI P Post 0):=ZI.closed;have T:∀S,Terms AtRel (DZ S):=tM;obtain⟨g,c,n,_,s,A⟩:=h;have a:∀(j:Nat→Prop) (i:Act) (d:World) (U:List Item),(i.defers=[]∧∃v,ResultsC P g i.tmps v∧Q v d)→ZI P Post 0 j (G { (base f).at i U with mode:=.returning } []) d:=by rintro j i d U ⟨t,v,o,z⟩;exact ZI.done rfl (fun e=>Bn (b:=base f) rfl t n x (o _).1 (o _).2) (fun e=>r v d e z)
 have B:ZI P Post 0 (fun _=>False) (G ((base f).at { tmps:=args++Array.replicate (g.ntmps-args.size) undef,defers:=[] } [.code c]) []) w:=by
  refine A (base f) [] [] rfl (by simp[base]) fun j e i d q=>?_;obtain⟨u,q⟩:=q;rcases u with rfl|rfl
  ·exact C.step rfl fun p k=>by rw[stepG_end];exact⟨(T j).idle _,C.rely (a j i d [] q) k⟩
  ·exact fun U=>a j i d U q
 rw[enter_at _ n s,solo_eq_crowd];have m:=past_nil
 have:=B 0 w.drawn (fun _=>False) #[G ((base f).at { tmps:=args++Array.replicate (g.ntmps-args.size) undef,defers:=[] } [.code c]) []] (fun _=>0) #[] none (fun l y=>y.elim)
  ⟨rfl,leavers_one _ _,m.clean,m.known,m.over,m.hears⟩;exact this
end
def mJ:db.toArray.size=54:=kq
def H4:bQ prog 335=some 54:=kq
section
variable {Post:Value→World→Prop}{Ex:Nat→Prop}{w₀:World}{An:bJ}{pr Nt:Prim}
def eK.fewer{P:Program}{KT:TypeId→Prop}{S:bJ}{s s1:AS}{l:Hq}(h:eK P KT An S s l)(hs:∀b o,s1.get b=some o→s.get b=some o)(hn:s.nx≤s1.nx):eK P KT An S s1 l :=
 ⟨fun b o U=>h.live b o (hs b o U),fun b b' o o' x x' U pV=>h.inj b b' o o' x x' (hs b o U) (hs b' o' pV),fun b o U=>lL (h.lt b o (hs b o U)) hn,h.an⟩
def ku{s:AS}{nm b:Nat}{o:Obj}(h:(s.set nm none).get b=some o):b≠nm∧s.get b=some o:=by
 rw[AS.aH] at h;split at h
 ·cases h
 ·next e=>exact⟨e,h⟩
def WI.SM{c:Code}{aA:TL}{s:AS}{Q:Exit→TL→AS→Prop}{nm:Nat}{o:Option Obj}(ho:o=none∨(∃v t y,o=some (Ff v t y))∧An nm≠none)(hs:s.get nm=o)
 (h:WI prog eO An (fun j:Zx=>ZI prog Post 0 j.1) (ua Ex w₀) c aA (s.set nm none) (fun e a n=>nm<n.nx∧∀I,I.nx=n.nx→(∀b,b≠nm→I.get b=n.get b)→I.get nm=o→Q e a I)) :
  WI prog eO An (fun j:Zx=>ZI prog Post 0 j.1) (ua Ex w₀) c aA s Q:=by
 intro fn S l J i w a Q' u P hA hd a7 k;rcases ho with rfl|⟨⟨v,t,y,rfl⟩,JJ⟩
 ·refine h fn S l J i w a Q' (u.fewer (fun b o U=>(ku U).2) lr) P hA hd a7 ?_;rintro e N n Z G K w' M ⟨hn,X⟩ q3 q4 q5 q6 q7;exact k e N (n.set nm none) Z G K w' M (X _ rfl (fun b U=>by rw[AS.aH,iw U]) (by rw[AS.aH,ip rfl])) (q3.fewer (fun b o U=>(ku U).2) lr) q4 q5 q6 q7
 ·have⟨g,z,e,C,q1,q2,q3,q4⟩:=u.live nm _ hs;have V:An nm=some (g,z,e):=by
   cases p:An nm with
   | none=>exact absurd p JJ
   | some x=>rw[← q1,u.an _ _ p]
  obtain⟨l1,l2,rfl⟩:=List.append_of_mem q2;have R:ua Ex w₀ i ((l1++l2)++((g,C)::J)) w:=⟨P.1,P.2.perm (List.perm_middle.trans ((List.perm_middle.symm).append_right J))⟩;refine h fn S (l1++l2) ((g,C)::J) i w a Q' ⟨fun b q U=>?_,fun b r o C x x' U B=>u.inj b r o C x x' (ku U).2 (ku B).2,fun b o U=>u.lt b o (ku U).2,u.an⟩ R hA hd a7 ?_
  ·have⟨aa,U⟩:=ku U;have⟨g1,L,e1,F,p1,p2,p3⟩:=u.live b q U;refine⟨g1,L,e1,F,p1,?_,p3⟩;rcases List.mem_append.1 p2 with m|m
   ·exact List.mem_append.2 (.inl m)
   ·rcases List.mem_cons.1 m with m|m
    ·cases m;exact absurd (u.inj b nm _ _ _ _ U hs p1 q1 rfl) aa
    ·exact List.mem_append.2 (.inr m)
  ·rintro ex N n Z G K w' M ⟨hn,X⟩ D r4 r5 r6 r7;have O:=D.an _ _ V;have E:=r4.2.nodup;rw[List.map_append,List.nodup_append] at E;have W:∀o2,(g,o2)∉K:=fun o2 hm=>E.2.2 g (List.mem_map.2 ⟨_,hm,rfl⟩) g iq rfl;have d:∀b,b≠nm→(n.set nm (some (Ff v t y))).get b=n.get b:=fun b U=>by rw[AS.aH,iw U]
   have a9:(n.set nm (some (Ff v t y))).get nm=some (Ff v t y):=by rw[AS.aH,ip rfl]
   have a8:∀b q x,b≠nm→n.get b=some q→G b=some x→x.1=g→False:=fun b q x U Y p hg=>by have⟨g1,L,e1,F,p1,p2,_⟩:=D.live b q Y;rw[p] at p1;cases p1;cases hg;exact W _ p2
   refine k ex N (n.set nm (some (Ff v t y))) Z G (K++[(g,C)]) w' M (X _ rfl d a9) ⟨fun b q U=>?_,fun b r F o2 x x' U B p H T=>?_,fun b q U=>?_,D.an⟩ (by rw[List.append_assoc];exact r4) r5 r6 r7
   ·by_cases f:b=nm
    ·subst f;rw[a9] at U;cases U;exact⟨g,z,e,C,O,iq,q3,fun v t y h=>by cases h⟩
    ·rw[d b f] at U;have⟨g1,L,e1,F,p1,p2,p3⟩:=D.live b q U;exact⟨g1,L,e1,F,p1,List.mem_append.2 (.inl p2),p3⟩
   ·by_cases f:b=nm
    ·by_cases A:r=nm
     ·rw[f,A]
     ·subst f;rw[d r A] at B;rw[O] at p;cases p;exact(a8 r _ _ A B H T.symm).elim
    ·by_cases A:r=nm
     ·subst A;rw[d b f] at U;rw[O] at H;cases H;exact(a8 b _ _ f U p T).elim
     ·rw[d b f] at U;rw[d r A] at B;exact D.inj b r _ _ _ _ U B p H T
   ·by_cases f:b=nm
    ·subst f;exact hn
    ·rw[d b f] at U;exact D.lt b q U
def WI.Wr{c:Code}{aA:TL}{s:AS}{Q:Exit→TL→AS→Prop}(U:TL)(h:aA=U)(kk:WI prog eO An (fun j:Zx=>ZI prog Post 0 j.1) (ua Ex w₀) c U s Q):WI prog eO An (fun j:Zx=>ZI prog Post 0 j.1) (ua Ex w₀) c aA s Q:=h▸kk
def UI (ti:Bq)(pv v:Value)(t:Bq)(x:Nq):TL:=[str ti,pv,x 2,x 3,.bool false,.bool true,v,str t,num 0]++iy x 9 47
def LY(b:Option Code):Code:=match b with|some (.seq _ (.seq _ (.seq _ (.seq _ (.seq _ (.seq _ c))))))=>c|_=>.skip
abbrev Q9(o:Option Obj):Exit→TL→AS→Prop:=fun e a' s'=>e=.ret∧a'.getD 4 undef=.bool true∧s'.get 1=some (.cells db.toArray 335)∧s'.get 31=o
def K3{ti t:Bq}{pv v c:Value}{s s9 a U:AS}(g:Ef pr 17 #[str t] s (am 4064 0) s9)(i:Ef pr 23 #[am 4064 0] s9 c a)(j:Ef pr 28 #[c] a (.tuple #[str t,num 0]) U)(h:Ef pr 22 #[v,c] U (.bool true) U)(k:U.get 1=some (.cells db.toArray 335))(l:31<U.nx)(x:Nq) :
  Ew pr (LY Tryz.f9.body) (UI ti pv v t x) s (fun e f d=>e=.ret∧f.getD 4 undef=.bool true∧d.get 1=some (.cells db.toArray 335)∧31<d.nx):=by refine EW.seq (EW.region kq ?_);refine EO.gc 1 9 kq g (EO.fin 9 kq (EW.cV s9 kq (EW.seq (EW.seq (EW.region kq (EO.fin 9 kq (EW.cV s9 kq (EW.dL kq (EW.skip (EW.seq (EW.region kq (EO.gc 1 9 kq i (EO.fin 9 kq (EW.cV a kq (EW.seq (EW.region kq (EO.gc 1 9 kq j (EO.fin 9 kq (EW.cV U kq (EW.seq (EW.region kq (EO.gc 2 9 kq h (EO.fin 9 kq (EW.cV U kq (EW.seq (EW.region kq (EO.go 8 9 kq (EO.op kq (aU (u:=str t) (w:=str t) rfl kq kq (gO (b:=true) ((eQ t t).2 rfl))) (EO.fin 9 kq (EW.cV U kq ?_))))))))))))))))))))))))))))));exact EW.ret ⟨rfl,kq,k,l⟩
def NM (ti:Bq)(pv v:Value)(t:Bq):TL:=[str ti,pv,undef,undef,.bool false,.bool true,v,str t,num 0,undef,undef,undef,undef,undef,.bool true,str ti,pv,v,.tuple #[str t,num 0],v,.tuple #[str t,num 0],str t,num 0,.bool true,.bool false,.bool false,num 0,.bool false,.bool false,str t,num (t.length:Nat),.bool false]++List.replicate 24 undef
def KP{ti t:Bq}{pv v:Value}(U:wQ 4061 5 pv=true)(a:wQ 4061 5 v=true):(NM ti pv v t).all (wQ 4061 5)=true:=by unfold NM;simp only[List.all_append,List.all_cons,List.all_nil,U,a];rfl
def M1(U:cN prog eO An (fun _:Zx=>AtRel) (fun j=>DZ j.1) (fun j=>ZI prog Post 0 j.1) (ua Ex w₀) pr)(a5:∀b,32≤b→An b=none){o:Option Obj}(ho:o=none∨(∃cs t fz,o=some (Ff cs t fz))∧An 31≠none){ti t:Bq}{pv v:Value}{S0 s1 s3:AS}(a8:wQ 4061 5 pv=true)(aa:wQ 4061 5 v=true)
 (a2:Ef pr 15 #[] S0 (.bool true) S0)(a3:Ef pr 27 #[str ti,pv] S0 v s1)(a4:s1.get 31=o)(a1:Ef pr 28 #[v] (s1.set 31 none) (.tuple #[str t,num 0]) s3)(h3:s3.get 1=some (.cells db.toArray 335))(a6:31<s3.nx)
 (a0:t.length≤20000→∃(Nt:Prim) (s4:AS),cN prog eO An (fun _:Zx=>AtRel) (fun j=>DZ j.1) (fun j=>ZI prog Post 0 j.1) (ua Ex w₀) Nt∧s4.nx=4061∧(∀b o,s4.get b=some o→b<s4.nx∧s3.get b=some o∧∃cs t fz,o=.cells cs t fz∧cs.toList.all (wQ s4.nx 5)=true)∧∀x,Ew Nt (LY Tryz.f9.body) (UI ti pv v t x) s4 (fun e a' s'=>e=.ret∧a'.getD 4 undef=.bool true∧s'.get 1=some (.cells db.toArray 335)∧31<s'.nx)) :
  ∀c,(match Tryz.f9.body with|some c=>c|_=>.skip)=c→WI prog eO An (fun j:Zx=>ZI prog Post 0 j.1) (ua Ex w₀) c ([str ti,pv]++List.replicate 54 undef) S0 (Q9 o):=by
 rintro c rfl;have D2:∀(e:Exit) (a':TL) (s':AS),(e=.ret∧a'.getD 4 undef=.bool true∧s'.get 1=some (.cells db.toArray 335)∧31<s'.nx)→31<s'.nx∧∀KH:AS,KH.nx=s'.nx→(∀b,b≠31→KH.get b=s'.get b)→KH.get 31=o→Q9 o e a' KH:=by rintro e a' s' ⟨q1,q2,q3,q4⟩;exact⟨q4,fun KH _ k2 k3=>⟨q1,q2,(k2 1 dq).trans q3,k3⟩⟩
 refine WI.seq wm (WI.of wm dG eo U dD (EW.go 5 kq ?_));refine WI.cV S0 kq ?_;refine WI.seq wm (WI.of wm dG eo U dD (EW.region kq ?_));refine EO.gc 0 5 kq a2 (EO.fin 5 kq ?_);refine WI.cV S0 kq ?_;refine WI.seq wm (WI.of wm dG eo U dD (EW.region kq ?_));refine EO.gc 2 5 kq a3 (EO.fin 5 kq ?_);refine WI.cV s1 kq ?_;refine WI.SM ho a4 ?_;generalize ae:s1.set 31 none=s2 at a1 ⊢;refine WI.seq wm (WI.of wm dG eo U dD (EW.region kq ?_));refine EO.gc 1 5 kq a1 (EO.fin 5 kq ?_);refine WI.cV s3 kq ?_;refine WI.seq wm (WI.of wm dG eo U dD (EW.seq (EW.region kq ?_)));refine EO.fin 9 kq (EW.cV s3 kq (EW.dL kq (EW.skip ?_)));refine WI.seq wm (WI.of wm dG eo U dD (EW.seq (EW.region kq ?_)));refine EO.go 1 9 kq (EO.op kq (da (l:=t) rfl underlying9 kq) (EO.cV s3 kq ?_));by_cases ht:t.length≤20000
 ·refine EO.op kq (aU (u:=num (t.length:Nat)) (w:=num 20000) rfl kq kq (e0 (b:=false) (fD oq))) (EO.nil (EW.dL kq (EW.skip ?_)));have⟨Nt,s4,ab,a7,hg,a9⟩:=a0 ht;refine WI.Wr (NM ti pv v t) kq ?_;refine WI.back hg (by rw[a7];exact KP a8 aa) (fun b x hb=>?_) ?_
  ·by_cases h:b<32
   ·omega
   ·rw[a5 b oq] at hb;cases hb
  ·refine WI.fill (UI ti pv v t) kq fun x=>?_;exact WI.of wm dG eo ab dD (EW.mono (a9 x) fun e a' s' h=>D2 e a' s' h)
 ·refine EO.op kq (aU (u:=num (t.length:Nat)) (w:=num 20000) rfl kq kq (e0 (b:=true) (tD oq))) (EO.nil (EW.ew kq (EW.seq (EW.go 5 kq (EW.cV s3 kq (EW.ret ?_))))));exact D2 _ _ _ ⟨rfl,kq,h3,a6⟩
end
def pe{s:AS}{b:Nat}{o:Obj}:∀{l:List Nat},(s.only l).get b=some o→b∈l
 | [],h=>by simp only[AS.only] at h;unfold AS.get at h;simp at h
 | c::l,h=>by
  unfold AS.only at h;split at h
  ·split at h
   ·rw[AS.aH] at h;split at h
    ·next e=>rw[e];simp
    ·exact List.mem_cons_of_mem _ (pe h)
   ·exact List.mem_cons_of_mem _ (pe h)
  ·exact List.mem_cons_of_mem _ (pe h)
def vo(xs:List bv):List Nat:=xs.flatMap fun x=>match x.bU with|.slice (some ⟨b,_,_⟩) _ _=>[b]|_=>[]
def vT{a b:Nat}(h:a<b):Nat.blt a b=true:=by simpa[Nat.blt_eq] using h
def Eb{s:AS}{v:Value}{xs:List bv}{us:List Nd}(h1:Has s 1 (.cells db.toArray 335))(M:lq s v xs)(r:eu s xs us)(C:s.nx≤4061) :
  ∃q:AS,q.nx=4061∧Has q 1 (.cells db.toArray 335)∧lq q v xs∧eu q xs us∧wQ 4061 5 v=true∧∀b o,q.get b=some o→b<s.nx∧s.get b=some o∧∃y t h,o=.cells y t h∧(t=335∨t=44∨t=47)∧y.toList.all (wQ 4061 5)=true∧y.toList.all (ri 4061)=true:=by
 obtain⟨d,c,h,rfl,k⟩:=M;have m:∀x∈xs,∃u,QX s x u:=fun x a=>by have⟨i,G⟩:=List.mem_iff_getElem?.1 a;have B:=(gS.1 G).1;have D:us[i]?=some (us[i]'(by rw[← r.1];exact B)):=gE _;exact⟨_,r.2 i x _ G D⟩
 have E:∀x∈xs,∀z∈x.cells,wQ 4061 5 z=true∧ri 4061 z=true:=fun x a z U=>by
  have⟨u,_,_,_,_,j⟩:=m x a;simp only[bv.cells,mZz] at U;rcases U with rfl|rfl|rfl|rfl|rfl
  iterate 4
   ·exact⟨rfl,rfl⟩
  ·rcases j with ⟨e,_⟩|⟨f,c,h,e,q1,q2⟩
   ·rw[e];exact⟨rfl,rfl⟩
   ·rw[e];exact⟨vT oq,vT oq⟩
 have H:∀x∈xs,∀f n c,x.bU=.slice (sq f) n c→f∈1::d::vo xs:=fun x a f n c e=>by refine List.mem_cons_of_mem _ (List.mem_cons_of_mem _ (List.mem_flatMap.2 ⟨x,a,?_⟩));rw[e];simp
 have w:∀{b o},b∈1::d::vo xs→s.get b=some o→ni o=true→AS.get ⟨(s.only (1::d::vo xs)).hp,4061⟩ b=some o:=fun A g L=>sZ A g L;refine⟨⟨(s.only (1::d::vo xs)).hp,4061⟩,rfl,⟨(by decide:1<4061),w iq h1.2 rfl⟩,⟨d,c,h,rfl,⟨lL k.1 C,w iq k.2 rfl⟩⟩,⟨r.1,fun i x u a D=>?_⟩,vT (lL k.1 C),fun b o A=>?_⟩
 ·have⟨e1,I,J,K,j⟩:=r.2 i x u a D;refine⟨e1,I,J,K,?_⟩;rcases j with j|⟨f,c,h,e,q1,q2⟩
  ·exact .inl j
  ·exact .inr ⟨f,c,h,e,lL q1 C,w (H x (mG a) f _ _ e) q2 rfl⟩
 ·have F:(s.only (1::d::vo xs)).get b=some o:=A;have g:=((wU (1::d::vo xs) s).2 b o F).1;have l:=pe F;rcases List.mem_cons.1 l with rfl|l
  ·rw[h1.2] at g;cases g;exact⟨h1.1,h1.2,_,_,_,rfl,.inl rfl,kq,kq⟩
  ·rcases List.mem_cons.1 l with rfl|l
   ·rw[k.2] at g;cases g;refine⟨k.1,k.2,_,_,_,rfl,.inr (.inl rfl),aT.2 fun z U=>?_,aT.2 fun z U=>?_⟩
    ·have⟨x,a,U⟩:=List.mem_flatMap.1 U;exact(E x a z U).1
    ·have⟨x,a,U⟩:=List.mem_flatMap.1 U;exact(E x a z U).2
   ·have⟨x,a,U⟩:=List.mem_flatMap.1 l;have⟨u,_,_,_,_,j⟩:=m x a;rcases j with ⟨e,_⟩|⟨f,c,h,e,q1,q2⟩
    ·rw[e] at U;simp at U
    ·rw[e] at U;simp only[List.mem_singleton] at U;subst U;rw[q2] at g;cases g;refine⟨q1,q2,_,_,_,rfl,.inr (.inr rfl),aT.2 fun z U=>?_,aT.2 fun z U=>?_⟩
     ·have⟨p,_,U⟩:=List.mem_flatMap.1 U;simp only[mZz] at U;rcases U with rfl|rfl<;>rfl
     ·have⟨p,_,U⟩:=List.mem_flatMap.1 U;simp only[mZz] at U;rcases U with rfl|rfl<;>rfl
def G6{n m:Nat}(h:n≤m){x:Value}(U:ri n x=true):ri m x=true:=by
 unfold ri at U ⊢;split at U;iterate 2
  ·exact vT (lL (nK U) h)
 ·exact U
def CF{U:AS}{t:Bq}(a:U.nx=4061):(∀b,b<4061→(vf t U).get b=U.get b)∧(vf t U).get 4061=some (ny (.slice (sq 4063) 1 1) t.length false)∧(vf t U).get 4062=some (.cells #[str t] 9)∧(vf t U).get 4063=some (.cells #[str t] 9 (1,1))∧(vf t U).get 4064=some (.cells #[aD] 82)∧(vf t U).nx=4065:=by unfold vf Hn LK Ez;simp only[AS.aG,AS.aH,AS.Nh,AS.Ha,a];refine⟨fun b c=>?_,iq,iq,iq,iq,iq⟩;rw[iw oq,iw oq,iw oq,iw oq,iw oq]
def Ho{U:AS}{t:Bq}(f:U.nx=4061)(i:∀b o,U.get b=some o→∃a e d,o=.cells a e d∧a.toList.all (ri 4061)=true):(vf t U).EU=true:=by
 have⟨g1,g2,g3,g4,g5,g6⟩:=CF (t:=t) f;unfold AS.EU;rw[aT];intro b c;have c:=List.mem_range.1 c;rw[g6] at c ⊢;by_cases h:b<4061
 ·rw[g1 b h];cases ho:U.get b with
  | none=>rfl
  | some o =>obtain⟨a,e,d,rfl,g⟩:=i b o ho;exact aT.2 fun z j=>G6 oq (aT.1 g z j)
 ·have:b=4061∨b=4062∨b=4063∨b=4064:=oq
  rcases this with rfl|rfl|rfl|rfl
  ·rw[g2];rfl
  ·rw[g3];rfl
  ·rw[g4];rfl
  ·rw[g5];rfl
def I0.of{pr Nt:Prim}(h:I0 pr)(U:∀f,f≠37→Nt f=pr f):I0 Nt :=
 ⟨⟨(U _ dq).trans h.w.Ey,(U _ dq).trans h.w.Eu,(U _ dq).trans h.w.Ev,(U _ dq).trans h.w.Up,(U _ dq).trans h.w.VF,(U _ dq).trans h.w.Qc,(U _ dq).trans h.w.Qd⟩,(U _ dq).trans h.Nr,(U _ dq).trans h.Ns,(U _ dq).trans h.Qe,(U _ dq).trans h.Qb,(U _ dq).trans h.VE⟩
def Has.kept{s s':AS}{b:Nat}{cs:Aq}{t:TypeId}{fz:Nat × Nat}(h:Has s b (.cells cs t fz))(hn:s.nx≤s'.nx)(hk:∀k,k<s.nx→Ej (s.get k)→G7 (s.get k)→s'.get k=s.get k)(U:t≠5)(h3:t≠3):Has s' b (.cells cs t fz) :=
 ⟨by have:=h.1;omega,(hk b h.1 (dC h.2 U) (kS h.2 h3)).trans h.2⟩
def lq.kept{s s':AS}{v:Value}{xs:List bv}(h:lq s v xs)(e:s.nx≤s'.nx)(U:∀k,k<s.nx→Ej (s.get k)→G7 (s.get k)→s'.get k=s.get k):lq s' v xs:=by obtain⟨d,c,a,rfl,b⟩:=h;exact⟨d,c,a,rfl,b.kept e U dq dq⟩
def eu.kept{s s':AS}{xs:List bv}{us:List Nd}(h:eu s xs us)(g:s.nx≤s'.nx)(f:∀k,k<s.nx→Ej (s.get k)→G7 (s.get k)→s'.get k=s.get k):eu s' xs us:=⟨h.1,fun i x u l j=>by
 have⟨e1,a,b,d,U⟩:=h.2 i x u l j;refine⟨e1,a,b,d,?_⟩;rcases U with U|⟨ab,c,fz,e,q1,q2⟩
 ·exact .inl U
 ·have:=Has.kept (s:=s) ⟨q1,q2⟩ g f dq dq;exact .inr ⟨ab,c,fz,e,this.1,this.2⟩⟩
def G8{us:List Nd}(U:∀i u,us[i]?=some u→ib us i u):∀u∈us,u.bU.length≤100000:=fun u c=>by
 have⟨i,b⟩:=List.mem_iff_getElem?.1 c;rcases(U i u b).2.2 with ⟨_,_,_,h⟩|⟨_,_,_,h,_⟩
 ·rcases h with e|⟨a,ls,_,_,_,e⟩<;>rw[e]<;>simp
 ·rw[h];simp
def Jk{us:List Nd}{t:Bq}{v:Value}{xs:List bv}{j:AS}{oj:Prim}(h0:t≠[])(hl:t.length≤20000)(ht:t=ko us)(hr:Fy oj us)(q:j.nx=4061)(h1:Has j 1 (.cells db.toArray 335))(hv:lq j v xs)(hm:eu j xs us)(hs:∀b o,j.get b=some o→∃cs ty fz,o=.cells cs ty fz∧cs.toList.all (ri 4061)=true)(hN:∀i u,us[i]?=some u→ib us i u)(ao:us.length≤70)(a5:0<us.length) :
  ∃n,∀(pr:Prim) (V Q S:Aq→Option Value),pr 36=some (Lq V)→V #[str t]=some (str t)→(∀f,f∈[17,18,20,21,22,23,41,42,28,84,46]→pr f=none)→I0 pr→pr 127=bB 127→pr 266=some (Lq Q)→(∀w:Bq,w.length≤100→Q #[str w]=some (str (fE w)))→pr 267=some (Lq S)→(∀w:Bq,w.length≤100→S #[str w]=some (str (gQ w))) →
   ∃s9 T m P,Ef (lb prog n 4065 ⟨t.toArray⟩ AS.all oj pr) 17 #[str t] j (am 4064 0) s9∧Ef (lb prog n 4065 ⟨t.toArray⟩ AS.all oj pr) 23 #[am 4064 0] s9 P T∧Ef (lb prog n 4065 ⟨t.toArray⟩ AS.all oj pr) 28 #[P] T (.tuple #[str t,num 0]) m∧Ef (lb prog n 4065 ⟨t.toArray⟩ AS.all oj pr) 22 #[v,P] m (.bool true) m∧m.get 1=some (.cells db.toArray 335)∧31<m.nx:=by
 have⟨g1,g2,g3,g4,g5,g6⟩:=CF (t:=t) q;have Yg:=Ho (t:=t) q hs;obtain⟨R,W⟩:∃R:AS,R=⟨((vf t j).set 4063 none).hp,4066⟩:=⟨_,rfl⟩;have C:∀b,b≠4063→R.get b=(vf t j).get b:=fun b D=>by rw[W];show((vf t j).set 4063 none).get b=_;rw[AS.aH,iw D]
 have ae:R.nx=4066:=by rw[W]
 have Z:aP (fun _=>False) j R:=⟨by rw[q,ae];decide,fun b D _=>by rw[q] at D;rw[C b oq,g1 b D]⟩;have r1:=h1.fr Z id;have Y1:R.get 4061=some (ny (.slice (sq 4063) 1 1) t.length false):=(C _ dq).trans g2;have O:R.get 4064=some (.cells #[aD] 82):=(C _ dq).trans g5;have⟨k,wv,af,e1,e2,e3,e4,I,e6⟩:=hr.run R ae r1.2 O;have E:AS.keeps ((vf t j).set 4063 none) k=true:=by
  unfold AS.keeps;rw[aT];intro b D;have D:b<4065:=by have:=List.mem_range.1 D;rw[AS.Ha,g6] at this;exact this
  have hg:((vf t j).set 4063 none).get b=R.get b:=by rw[W];rfl
  rw[hg];by_cases aa:b=4064
  ·rw[aa,e2.2];simp
  ·rw[I.2 b oq aa];cases R.get b<;>rfl
 have⟨n,hn⟩:=Hw (str:=⟨t.toArray⟩) (r0:=4065) (c0:=1) (bp:=4063) (tV:=AS.all) (oj:=oj) (s:=vf t j) (s1:=k.all) (f:=38) (aM:=Tryz.f38) (y:=#[am 4064 0]) (cs:=#[str t]) (fz:=(1,1)) (rest:=[]) g4 rfl func38 rfl rfl g6 Yg (by rw[g6];rfl) (by rw[g6];decide) (by have e1:=e1;rw[W] at e1;rw[g6];exact EW.mono e1 fun e a s' h=>⟨h.1,by rw[h.2];exact E,by rw[h.2]⟩);have l:Has k.all j.nx (ny (.slice (sq (j.nx+2)) 1 1) t.length false):=by rw[q];exact(Has.fr (s:=R) ⟨oq,Y1⟩ I dq).all rfl
 refine⟨n,fun pr V Q S ag hV aj ak a6 a7 ah a8 ai=>?_⟩;have H:∀f,f≠37→lb prog n 4065 ⟨t.toArray⟩ AS.all oj pr f=pr f:=fun f X=>by unfold lb;rw[iw (by simpa using X)]
 have U:∀f,f∈[17,18,20,21,22,23,41,42,28,84,46]→lb prog n 4065 ⟨t.toArray⟩ AS.all oj pr f=none:=fun f X=>by rw[H f (by rintro rfl;revert X;decide)];exact aj f X
 have a9:∀s,Ef (lb prog n 4065 ⟨t.toArray⟩ AS.all oj pr) 36 #[str t] s (str t) s:=fun s=>EF.al (V:=V) ((H _ dq).trans ag) hV;have A:∀w:Bq,w.length≤100→∀s,Ef (lb prog n 4065 ⟨t.toArray⟩ AS.all oj pr) 266 #[str w] s (str (fE w)) s:=fun w hw s=>EF.al (V:=Q) ((H _ dq).trans a7) (ah w hw);have B:∀w:Bq,w.length≤100→∀s,Ef (lb prog n 4065 ⟨t.toArray⟩ AS.all oj pr) 267 #[str w] s (str (gQ w)) s:=fun w hw s=>EF.al (V:=S) ((H _ dq).trans a8) (ai w hw);have M:=ak.of H;have r:=(H 127 dq).trans a6;have WW:=hn pr;generalize lb prog n 4065 ⟨t.toArray⟩ AS.all oj pr=P2 at *;have L:Ef P2 37 #[.slice (sq (j.nx+2)) 1 1,.func (.func 38) #[] #[am (j.nx+3) 0]] (vf t j) (.tuple #[]) k.all:=by rw[q];exact WW
 have ab:=KE (s:=j) (U 17 iq) (U 18 iq) (U 20 iq) (U 21 iq) a9 h0 hl L l;rw[q] at ab l;have g:aP (fun x=>x=4061) k.all (k.all.set 4061 (some (ny aD 0 true))):=aP.set (K:=fun x=>x=4061) (aP.refl _) (fun _=>rfl) _;have a1:=r1.fr I dq;have J:Has (k.all.set 4061 (some (ny aD 0 true))) 4064 (.cells #[wv] 82):=(e2.all rfl).fr g dq;have k1:Has (k.all.set 4061 (some (ny aD 0 true))) 1 (.cells db.toArray 335):=(a1.all rfl).fr g dq;have gN:lq (k.all.set 4061 (some (ny aD 0 true))) wv af:=by have⟨d,c,fz,e,h⟩:=e3.all;exact⟨d,c,fz,e,h.fr g (h.ne l dq)⟩
 have gM:eu (k.all.set 4061 (some (ny aD 0 true))) af us:=e4.all.fk g fun x cs fz G=>G.ne l dq;have p:Has R 4064 (.cells #[aD] 82):=⟨oq,O⟩;have vR:=hv.fk Z fun _ _=>id;have mR:=hm.fk Z fun _ _ _ _=>id;have v3:lq k v xs:=vR.fk I fun x G=>by have⟨_,_,z⟩:=vR.blk G;exact z.ne p dq
 have m3:eu k xs us:=mR.fk I fun x cs fz G=>G.ne p dq;have vN:lq (k.all.set 4061 (some (ny aD 0 true))) v xs:=by have⟨d,c,fz,e,h⟩:=v3.all;exact⟨d,c,fz,e,h.fr g (h.ne l dq)⟩
 have vM:eu (k.all.set 4061 (some (ny aD 0 true))) xs us:=m3.all.fk g fun x cs fz G=>G.ne l dq;have N:=G8 hN;have⟨T,P,ys,n1,n2,n3,Y⟩:=Kh (U 23 iq) (U 41 iq) (U 42 iq) J gN gM N oq a5;have⟨m,p1,p2,p3⟩:=pm M (U 84 iq) (U 46 iq) (U 28 iq) r A B hN ao a5 n2 n3;have F:=NB (s:=m) (U 22 iq) ((vN.fk Y fun _ _=>id).kept p2 p3) (n2.kept p2 p3) ((vM.fk Y fun _ _ _ _=>id).kept p2 p3) (n3.kept p2 p3) N oq;rw[← ht] at p1;have YA:=(k1.fr Y id).kept p2 p3 dq dq;have YB:=(J.fr Y id).kept p2 p3 dq dq;exact⟨_,T,m,P,ab,n1,p1,F,YA.2,by have:=YB.1;omega⟩
section
variable {ι:Type}{P:Program}{KT:TypeId→Prop}{An:bJ}{N0:ι→Nat}{M:ι→World→Nat→Prop}{O:ι→Nat→Prop}{R:ι→Wq}{D:ι→World→World→Array Event→Prop}{X:ι→Gq}{Hd:ι→Hq→World→Prop}{pr Rg:Prim}{kt:TypeId→Bool}
open Classical in
def cN.Ab(Y : Cy P KT N0 M O R D X Hd)(hm : P.follows .mixedOrders = true)(AG : ∀ t, kt t = false → ¬ KT t)(uU : ∀ (f : FuncId) (aM : Func), P.funcs[f]? = some aM → (aM.name == "runtime.NumGoroutine") = false){k m : Nat}(JJ : ∀ b, k ≤ b → An b = none)(S9 : cN P KT An R D X Hd Rg)(hp : cN P KT An R D X Hd pr)(f : FuncId) : ∃ V, cN P KT An R D X Hd (jW f V pr) ∧ ∀ args v s1, args.toList.all (fF m) = true → fF m v = true → EF P kt Rg f args ⟨[], k⟩ v s1 → V args = some v := by
 refine⟨fun args=>if h:∃v s1,args.toList.all (fF m)=true∧fF m v=true∧EF P kt Rg f args ⟨[],k⟩ v s1 then some (Classical.choose h) else none,⟨?_,?_⟩,?_⟩
 ·intro g h args s v s' hf hh;unfold jW at hf;split at hf
  ·cases hf;unfold Lq at hh;split at hh
   ·cases hh; exact Nat.le_refl _
   ·cases hh
  ·exact hp.nx g h args s v s' hf hh
 ·intro g h args s v s' hf hh;unfold jW at hf;split at hf
  ·next he =>
   have he:=Nat.eq_of_beq_eq_true he;subst he;cases hf;unfold Lq at hh;split at hh
   ·next v' hv =>
    cases hh;dsimp only at hv;split at hv
    ·next hex =>cases hv;have⟨s1,h1,h2,n,h3⟩:=Classical.choose_spec hex;exact Sound.alone Y JJ h1 h2 ((gR Y hm AG S9 uU n).2 _ _ _ _ _ h3)
    ·cases hv
   ·cases hh
  ·exact hp.sound g h args s v s' hf hh
 ·intro args v s1 h1 h2 h3;have hex:∃v s1,args.toList.all (fF m)=true∧fF m v=true∧EF P kt Rg f args ⟨[],k⟩ v s1:=⟨v,s1,h1,h2,h3⟩;simp only[dif_pos hex];have⟨s2,_,_,h4⟩:=Classical.choose_spec hex;rw[(EF.one h4 h3).1]
end
section
variable {Post:Value→World→Prop}
def Je:xJ AS.all:=fun s=>wU (List.range s.nx) s
end
def Ul:Value→Bool
 | .int .i64 _=>false
 | _=>true
def DO:db.all Ul=true:=kq
section
variable {Post:Value→World→Prop}
def nH{W:World}(hG:W.heap[1]?=some (.cells db.toArray 335)){ti:Bq}(bc:ti.length≤9223372036854775807){ps:List gd}(b9:ps.length≤9223372036854775807){An:bJ}{Pb:Nat}{o:Option Obj}{l:Hq}{pv av:Value}(aa:An 1=some (1,54,54))(U:∀b,32≤b→An b=none)(b7:VR An pv av)(ab:z7 (sA.set 31 o) pv ps)(ho:o=none∨(∃f t G,o=some (Ff f t G))∧An 31≠none)(ba:wQ 4061 5 pv=true)
 (ai:eK prog eO An An (sA.set 31 o) l)(az:ua (fun b=>b=1∨b=Pb) W ((fun _=>False),W.heap.size) (l++[]) W)(ar:Pb≠1→∀(j:Zx) (S':bJ) (s':AS) (X:Hq) (w':World),s'.get 31=o→eK prog eO An S' s' X→ua (fun b=>b=1∨b=Pb) W j X w'→w'.heap[Pb]?=W.heap[Pb]?) :
  eA prog (ZI prog Post 0) 9 #[str ti,av] (fun _=>False) W (fun _ x w'=>x=.bool true∧Ext W w'):=by
 have⟨L,a8⟩:=Ky (Post:=Post) (Ex:=fun b=>b=1∨b=Pb) (w₀:=W) aa U;have⟨I,YT,Xe⟩:=cN.Ab wm dG eo dD (k:=32) (m:=1) U a8 a8 266;have⟨J,YU,Xf⟩:=cN.Ab wm dG eo dD (k:=32) (m:=1) U a8 YT 267;have⟨N,VA,Xg⟩:=cN.Ab wm dG eo dD (k:=32) (m:=1) U a8 YU 36;have v1:∀w:Bq,w.length≤100→I #[str w]=some (str (fE w)):=fun w T=>by have⟨z,hz⟩:=D6 (n:=L) (s:=⟨[],32⟩) T;exact Xe _ _ _ rfl rfl hz.1
 have v2:∀w:Bq,w.length≤100→J #[str w]=some (str (gQ w)):=fun w T=>by have⟨z,hz⟩:=D7 (n:=L) (s:=⟨[],32⟩) T;exact Xf _ _ _ rfl rfl hz.1
 have ah:I0 (jW 36 N (jW 267 J (jW 266 I (iE prog L)))):=⟨⟨kq,kq,kq,kq,kq,kq,kq⟩,kq,kq,kq,kq,kq⟩;have Y:∀w:Bq,w.length≤100→∀s,Ef (jW 36 N (jW 267 J (jW 266 I (iE prog L)))) 266 #[str w] s (str (fE w)) s:=fun w T s=>EF.al (V:=I) kq (v1 w T);have Z:∀w:Bq,w.length≤100→∀s,Ef (jW 36 N (jW 267 J (jW 266 I (iE prog L)))) 267 #[str w] s (str (gQ w)) s:=fun w T s=>EF.al (V:=J) kq (v2 w T);have WS:Ef (jW 36 N (jW 267 J (jW 266 I (iE prog L)))) 15 #[] (sA.set 31 o) (.bool true) (sA.set 31 o):=EF.eval 1 kq;obtain⟨a,v,E,H,i,WV,SS,hi,d,⟨xs,M,S5⟩,Xp,R,MO⟩:=ED (pr:=jW 36 N (jW 267 J (jW 266 I (iE prog L)))) (s:=sA.set 31 o) (kT kq) (ti:=ti) bc ab b9;have U0:a.get 31=o:=by rw[R.2 31 (by show 31<32;decide) id,AS.aH,ip rfl]
 have g1:Has a 1 (.cells db.toArray 335):=Has.fr (s:=sA.set 31 o) ⟨by show 1<32;decide,by rw[AS.aH,iw dq];kernel_rfl⟩ R id;have SY:31<a.nx:=lL (by show 31<32;decide) R.1;have D:aP (fun x=>x=31) a (a.set 31 none):=aP.set (K:=fun x=>x=31) (aP.refl _) (fun _=>rfl) _;have C:∀x f t G,Has a x (.cells f t G)→x≠31:=by rintro x f t G p rfl;have p:=p.2;rw[U0] at p;rcases ho with rfl|⟨⟨_,_,_,rfl⟩,_⟩<;>cases p
 have a4:lq (a.set 31 none) v xs:=M.fk D fun x p=>by have⟨_,_,z⟩:=M.blk p;exact C _ _ _ _ z
 have a3:eu (a.set 31 none) xs E.nodes:=S5.fk D fun x f G p=>C _ _ _ _ p;have g2:Has (a.set 31 none) 1 (.cells db.toArray 335):=g1.fr D dq;have q8:cF H=[]∨∃ag,dO ag∧cF H=cF ag∧cF ag≠[]:=by
  by_cases h:cF H=[]
  ·exact .inl h
  ·exact .inr ⟨H,SS,rfl,h⟩
 have a0:PV (cF H) E:=PV.reach d;have hN:∀i u,E.nodes[i]?=some u→ib E.nodes i u:=fun i u hu=>a0.node q8 hu;have P:0<E.nodes.length:=by have:=a0.len;omega
 have af:E.nodes.length≤70:=by
  have key:∀n (τ:PS),nG n (cX (cF H)) τ→PI τ∧τ.nodes.length≤(cX (cF H)).nodes.length+n:=by
   intro n;induction n with
   | zero=>intro τ h;cases h;exact⟨pj _,lr⟩
   | succ n ih =>rintro τ ⟨Zm,h1,h2⟩;have⟨a1,a2⟩:=ih Zm h1;have⟨b1,b2,_⟩:=a1.step h2;exact⟨b1,oq⟩
  have h1:=(key i E d).2;have h2:=(jm (cF H)).2;have h3:(cX (cF H)).nodes.length=(aS (cF H)).length+1:=by unfold cX;simp
  omega
 have⟨s3,ay,ax,aw⟩:=pm ah kq kq kq kq Y Z hN af P a4 a3;have I5:=y6 hN P;have⟨s4,k1,k2,k3,k4,k5,k6⟩:=Eb g2 a4 a3 (by have:(sA.set 31 o).nx=32:=rfl;have:(a.set 31 none).nx=a.nx:=rfl;omega);have B:=M1 (Post:=Post) (Ex:=fun b=>b=1∨b=Pb) (w₀:=W) VA U ho (ti:=ti) (t:=ko E.nodes) ba k5 WS WV U0 ay (g2.kept ax aw dq dq).2 (by have:(a.set 31 none).nx=a.nx:=rfl;omega) (fun hl=>by
  have⟨oj,aq,ae⟩:=um a0 q8 af hl;have⟨z3,Rd⟩:=Jp (pr:=iE prog L) (s:=⟨[],32⟩) kq kq (l:=ko E.nodes) I5 oq;have v3:=Xg _ _ _ rfl rfl Rd;have⟨n,r⟩:=Jk I5 hl rfl ae k1 k2 k3 k4 (fun b o' r=>by have⟨_,_,f,t,G,e,_,_,q⟩:=k6 b o' r;exact⟨f,t,G,e,q⟩) hN af P;have⟨s9,s10,s11,w2,b1,b2,b3,b4,b5,b6⟩:=r (jW 36 N (jW 267 J (jW 266 I (iE prog L)))) N I J kq v3 (kT kq) ah kq kq v1 kq v2;have YV:=CI (Post:=Post) (Ex:=fun b=>b=1∨b=Pb) (w₀:=W) aa U (n:=n) (str:=⟨(ko E.nodes).toArray⟩) (r0:=4065) oq (tV:=AS.all) Je (oj:=oj) aq (by rw[iT,Nat.zero_add];show(ko E.nodes).length≤20000;omega) VA;refine⟨_,s4,YV,k1,fun b o' r=>?_,fun x=>K3 b1 b2 b3 b4 b5 b6 x⟩;obtain⟨q1,q2,f,t,G,rfl,q3,q4,_⟩:=k6 b o' r;have hh:Has (a.set 31 none) b (.cells f t G):=⟨q1,q2⟩;have U1:t≠5∧t≠3:=by rcases q3 with rfl|rfl|rfl<;>decide
  exact⟨by rw[k1];have:(sA.set 31 o).nx=32:=rfl;have:(a.set 31 none).nx=a.nx:=rfl;omega,(hh.kept ax aw U1.1 U1.2).2,f,t,G,rfl,by rw[k1];exact q4⟩);have hold:∀b,b<W.heap.size→b≠1→b≠Pb→∀j l w,ua (fun b=>b=1∨b=Pb) W j l w→uY j.1 w b∧w.heap[b]?=W.heap[b]?:=by intro b r A a7 j l w hF;have hm:uY j.1 W b:=⟨r,fun hj=>by have:=hF.1.2 b hj;omega⟩;exact⟨hF.2.kept.mine b hm,hF.2.kept.block b hm fun h=>h.elim A a7⟩
 obtain⟨cd,aj⟩:∃c,Tryz.f9.body=some c:=⟨_,rfl⟩;have B:=B cd (by rw[aj]);refine⟨Tryz.f9,cd,func9,rq,aj,?_⟩;intro b k f r hk hc;have Q:AR (VR An) (([str ti,pv]++List.replicate 54 undef:Vq)).toArray (#[str ti,av]++Array.replicate (Tryz.f9.ntmps-(#[str ti,av]:Aq).size) undef):=by
  have e:(([str ti,pv]++List.replicate 54 undef:Vq)).toArray=#[str ti,pv]++Array.replicate 54 undef:=by apply Array.toList_inj.1;kernel_rfl
  rw[e];refine AR.append ⟨rfl,fun i x y p hy=>?_⟩ (AR.replicate 54 VR.undef);match i with
  | 0=>cases p;cases hy;exact VR.dE rfl
  | 1=>cases p;cases hy;exact b7
  | i+2=>simp at p
 have ao:∀(e:Exit) (a5:TL) (s':AS) (j:Zx) (S':bJ) (X:Hq) (w':World) (F:Act),Q9 o e a5 s'→eK prog eO An S' s' X→ua (fun b=>b=1∨b=Pb) W j (X++[]) w'→AR (VR S') a5.toArray F.tmps→F.defers=[]→(∀b,s'.nx≤b→S' b=none)→(e=.normal∨e=.ret)∧F.defers=[]∧∃v,ResultsC prog Tryz.f9 F.tmps v∧v=.bool true∧Ext W w':=?_
 ·generalize a9:(⟨#[str ti,av]++Array.replicate (Tryz.f9.ntmps-(#[str ti,av]:Aq).size) undef,[]⟩:Act)=O;have a6:AR (VR An) (([str ti,pv]++List.replicate 54 undef:Vq)).toArray O.tmps:=by rw[← a9];exact Q
  have ak:O.defers=[]:=by rw[← a9]
  have bd:=B 9 An l [] ((fun _=>False),W.heap.size) W O (fun j e F w'=>(e=.normal∨e=.ret)∧F.defers=[]∧∃v,ResultsC prog Tryz.f9 F.tmps v∧v=.bool true∧Ext W w') ai az a6 ak U ao;refine bd b k f r hk ?_;intro j e F w' hQ
  have:=hc j.1 e F w' hQ;cases e<;>exact this
 ·rintro e a5 s' j S' X w' F ⟨rfl,h6,b8,au⟩ q3 q4 q5 q6 q7;refine⟨.inr rfl,q6,_,resultsC_tmp rq _,?_,?_⟩
  ·have:=l6 q5 4;rw[show a5.toArray.toList.getD 4 undef=.bool true from h6] at this;exact this.sc rfl
  ·rw[List.append_nil] at q4;refine⟨q4.2.kept.tape,q4.2.kept.os,q4.2.kept.output,q4.2.kept.grow,fun b r=>?_⟩;by_cases A:b=1
   ·subst A;have⟨g,z,e,o',r1,r2,r3,_⟩:=q3.live 1 _ b8;rw[q3.an _ _ aa] at r1;cases r1;obtain⟨lE,rfl,t1,_,t3⟩:=r3;have B8:lE=db.toArray:=by refine AR.sc (S:=S') ⟨by rw[mJ,t1],t3⟩ ?_;exact wu
    subst B8;rw[(q4.2.own 1 _ r2).2.1,hG]
   ·by_cases a7:b=Pb
    ·subst a7;exact ar A j S' s' X w' au q3 q4
    ·exact(hold b r A a7 j _ w' q4).2
def tv(o:Option Obj)(b:Nat):(sA.set 31 o).get b=if b=31 then o else if b=1 then some (.cells db.toArray 335) else none:=by rw[AS.aH,HZ]
def xc{W:World}(u:W.heap[1]?=some (.cells db.toArray 335)){An:bJ}(p:An 1=some (1,54,54)){o:Option Obj}{Pb:Nat}{l:Hq}(n:(o=none∧l=[])∨∃c t d z e,o=some (Ff c t d)∧An 31=some (Pb,z,e)∧Pb≠1∧l=[(Pb,.cells c t d)]∧W.heap[Pb]?=some (.cells c t d)):eK prog eO An An (sA.set 31 o) ((1,.cells db.toArray 335)::l)∧ua (fun b=>b=1∨b=Pb) W ((fun _=>False),W.heap.size) (((1,.cells db.toArray 335)::l)++[]) W:=by
 have A:1<W.heap.size:=(Array.getElem?_eq_some_iff.1 u).1;refine⟨⟨fun b r a=>?_,fun b s r B x C a U g m v=>?_,fun b r a=>?_,bJ.le_refl An⟩,⟨fun b h=>h.elim,fun b h=>h.elim⟩,Kept.refl W,lr,fun b r f=>?_,?_⟩
 ·rw[tv] at a;split at a
  ·next e =>
   subst e;rcases n with ⟨rfl,_⟩|⟨c,t,d,z,e,rfl,h2,h3,rfl,h5⟩
   ·cases a
   ·cases a;exact⟨Pb,z,e,_,h2,iq,rfl,fun c t d h=>by cases h⟩
  ·split at a
   ·next e =>
    subst e;cases a;refine⟨1,54,54,_,p,iq,⟨db.toArray,rfl,mJ,⟨by rw[mJ];exact lr,fun _=>mJ⟩,fun i x y g w=>?_⟩,fun c t d h=>?_⟩
    ·rw[g] at w;cases w
     have:=wu;rw[aT] at this;exact VR.dE (this x (by simpa using Array.mem_of_getElem? g))
    ·cases h;exact⟨H4,eo 335 rfl⟩
   ·cases a
 ·rw[tv] at a U;rcases n with ⟨rfl,_⟩|⟨c,t,d,z,e,rfl,h2,h3,rfl,h5⟩
  ·split at a
   ·cases a
   ·split at U
    ·cases U
    ·split at a
     ·next e1 =>
      split at U
      ·next k=>rw[e1,k]
      ·cases U
     ·cases a
  ·by_cases q:b=31
   ·by_cases j:s=31
    ·rw[q,j]
    ·rw[iw j] at U;split at U
     ·next k =>subst q k;rw[h2] at g;rw[p] at m;cases g;cases m;exact absurd v h3
     ·cases U
   ·rw[iw q] at a;split at a
    ·next e1 =>
     subst e1;by_cases j:s=31
     ·subst j;rw[h2] at m;rw[p] at g;cases g;cases m;exact absurd v.symm h3
     ·rw[iw j] at U;split at U
      ·next k=>rw[k]
      ·cases U
    ·cases a
 ·rw[tv] at a;split at a
  ·next e=>subst e;show 31<32;decide
  ·split at a
   ·next e=>subst e;show 1<32;decide
   ·cases a
 ·rw[List.append_nil] at f;rcases List.mem_cons.1 f with f|f
  ·cases f;exact⟨⟨A,fun h=>h⟩,u,.inl (.inl rfl)⟩
  ·rcases n with ⟨_,rfl⟩|⟨c,t,d,z,e,rfl,h2,h3,rfl,h5⟩
   ·cases f
   ·cases List.mem_singleton.1 f;exact⟨⟨(Array.getElem?_eq_some_iff.1 h5).1,fun h=>h⟩,h5,.inl (.inr rfl)⟩
 ·rcases n with ⟨_,rfl⟩|⟨c,t,d,z,e,rfl,h2,h3,rfl,h5⟩
  ·simp
  ·simp only[List.append_nil,List.map_cons,List.map_nil];simpa using h3.symm
def Jc{W:World}(r:W.heap[1]?=some (.cells db.toArray 335)){q:ByteArray}(R:q.size≤9223372036854775807){D:Option Addr}{cap:Nat}{ps:List gd}(O:(D=none∧ps=[]∧cap=0)∨∃c f,D=some ⟨c,f,none⟩∧ps.length≤cap∧cap≤maxLen∧(ps≠[]→∃d t n,W.heap[c]?=some (.cells d t n)∧∀(i:Nat) (p:gd),ps[i]?=some p→p.ok∧d[f+i*4]?=some (num p.kind)∧d[f+i*4+1]?=some (str p.s)∧d[f+i*4+2]?=some (str p.a)∧d[f+i*4+3]?=some (str p.v))) :
  eA prog (ZI prog Post 0) 9 #[.string q,.slice D ps.length cap] (fun _=>False) W (fun _ x N=>x=.bool true∧Ext W N):=by
 have E:q.data.toList.length≤9223372036854775807:=by rw[Array.length_toList];exact R
 rcases O with ⟨rfl,rfl,rfl⟩|⟨c,f,rfl,a5,a4,a6⟩
 ·obtain⟨k,U,B⟩:∃k:bJ,k 1=some (1,54,54)∧(∀b,32≤b→k b=none):=by refine⟨fun b=>if b=1 then some (1,54,54) else none,rfl,fun b P=>?_⟩;show(if b=1 then _ else _)=_;rw[iw oq]
  have⟨w,u⟩:=xc r U (o:=none) (Pb:=1) (l:=[]) (.inl ⟨rfl,rfl⟩);exact nH (Pb:=1) (ti:=q.data.toList) (ps:=[]) (pv:=.slice none 0 0) r E iq U B (VR.dE rfl) ⟨_,_,rfl,fun h=>absurd rfl h⟩ (.inl rfl) rfl w u fun h=>absurd rfl h
 ·obtain⟨k,U,A,B⟩:∃k:bJ,k 1=some (1,54,54)∧k 31=some (c,f+cap*4,4)∧(∀b,32≤b→k b=none):=by refine⟨fun b=>if b=1 then some (1,54,54) else if b=31 then some (c,f+cap*4,4) else none,rfl,rfl,fun b P=>?_⟩;show(if b=1 then _ else if b=31 then _ else _)=_;rw[iw oq,iw oq]
  have K:VR k (.slice (some ⟨31,f,none⟩) ps.length cap) (.slice (some ⟨c,f,none⟩) ps.length cap):=VR.yU A a5 lr a4 rfl;have y:ps.length≤9223372036854775807:=lT a5 a4;by_cases I:ps=[]
  ·have⟨w,u⟩:=xc r U (o:=none) (Pb:=1) (l:=[]) (.inl ⟨rfl,rfl⟩);exact nH (Pb:=1) (ti:=q.data.toList) r E y U B K ⟨_,_,rfl,fun h=>absurd I h⟩ (.inl rfl) rfl w u fun h=>absurd rfl h
  ·have⟨d,t,n,C,L⟩:=a6 I;have H:c≠1:=by
    rintro rfl;rw[r] at C;cases C;obtain⟨p,J⟩:∃p,ps[0]?=some p:=by
     cases ps with
     | nil=>exact absurd rfl I
     | cons p l=>exact⟨p,rfl⟩
    have Q:=Array.mem_of_getElem? (L 0 p J).2.1
    have:=aT.1 DO _ (by simpa using Q);cases this
   have⟨w,u⟩:=xc r U (o:=some (Ff d t n)) (Pb:=c) (l:=[(c,.cells d t n)]) (.inr ⟨d,t,n,_,_,rfl,A,H,rfl,C⟩);refine nH (Pb:=c) (ti:=q.data.toList) r E y U B K ⟨_,_,rfl,fun _=>⟨31,f,rfl,d,t,n,⟨by show 31<32;decide,by rw[AS.aH,ip rfl]⟩,L⟩⟩ (.inr ⟨⟨d,t,n,rfl⟩,by rw[A];simp⟩) rfl w u fun _ j V Z X N F m G=>?_;have⟨g,z,e,Y,M,S,T,_⟩:=m.live 31 _ F;rw[m.an _ _ A] at M;cases M;cases T;rw[(G.2.own c _ S).2.1,C]
end
end
end Go.Proofs.YtgcaionclkbehaaGreatDoor
