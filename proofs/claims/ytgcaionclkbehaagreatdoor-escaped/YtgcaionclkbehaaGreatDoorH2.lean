import Derived.Test.YtgcaionclkbehaaGreatDoorG10
set_option linter.all false
set_option maxHeartbeats 2000000
set_option maxRecDepth 100000
namespace Go.Proofs.YtgcaionclkbehaaGreatDoor
open Go.Conc Go.RowKit Go.Lib Tryz
variable {r stops w:Bq}{l:List Nat}{t:TypeId}{B i k n off sz x:Nat}{b b0 b1:UInt8}{f:FuncId}{un:Bq→Int→Option (Bq)}{v:Value}{K:Nat→Prop}
section
variable {rn c k:Nat}{tx:Bq}{us:List Tok}{all pre rest nm wl:Iq}{pr:Prim}{lo:Bq→Bq}{wr:Bq→Int→Bq}{T:Bq→Prop}{W:Bq→Int→Prop}{aN:List (Iq × Iq)}
def KU(nm:List Int):Prop:=(∃n0 n1,nm=n0::n1∧kw n0=true)∧∀x∈nm,ej x di=false
theorem Kt(aN:List (Iq × Iq))(rest:Iq):∃y r,jp aN++62::rest=y::r∧ej y di=true:=by
 cases aN with
 | nil=>exact⟨62,rest,rfl,by decide⟩
 | cons a aN=>exact⟨32,_,rfl,by decide⟩
theorem oN(hp:Bn rn all lo wr T W pr)(h:all=pre++60::(nm++(jp aN++62::rest)))(hk:k=pre.length)(hn:KU nm)(hT:T (bw nm))(ha:∀a∈aN,EJ a∧T (bw a.1)∧W (bw a.2) 1)(hx:tx.length≤500000)(hu:us.length≤500000)(U:dC (lo (bw nm)) qO=false)(a1:dC (lo (bw nm)) jm=false) :
  im pr rn c all ⟨k,tx,us⟩ ⟨k+1+nm.length+(jp aN).length+1,[],rL tx us++[⟨2,[],lo (bw nm),Hw lo wr aN [],false⟩]⟩:=by
 have a2:=hp.h.g.len;obtain⟨⟨n0,n1,Qs,ME⟩,VC⟩:=hn;have PF:dz all k=60:=gX h hk;have jc:pre.length+1+nm.length≤all.length:=by rw[h]; simp; omega
 have e1:all=(pre++[60])++(nm++(jp aN++62::rest)):=by rw[h]; simp
 have e2:all=(pre++[60])++n0::(n1++(jp aN++62::rest)):=by rw[e1,Qs]; simp
 have e3:all=(pre++[60]++nm)++(jp aN++62::rest):=by rw[e1]; simp
 have a0:dz all (k+1)=n0:=gX e2 (by simp; omega);obtain⟨y,r,Wk,Wl⟩:=Kt aN rest;have qY:gL all di (k+1)=k+1+nm.length:=wA (y:=y) (rest:=r) (by rw[← Wk]; exact e1) (by simp; omega) VC Wl;have vI:ec all (k+1) (k+1+nm.length)=bw nm:=oU e1 (by simp; omega) rfl;obtain⟨Jq,Jr⟩:=Bd (lo:=lo) (wr:=wr) (T:=T) (W:=W) (tK:=[]) (k:=k+1+nm.length) ha e3 (by simp; omega);refine⟨by show dz all k ≠ -1; rw[PF]; decide,fun s hs he=>.inl ?_⟩;obtain⟨ts,hS,hM⟩:=hs;obtain⟨s1,g1,g2,g3⟩:=Bw (c:=c) (tx:=tx) (ts:=ts) hp (by omega) PF (by rw[a0]; exact ME) s hS;obtain⟨s2,f1,f2,f3⟩:=Kl hp (nm:=lo (bw nm)) (by omega) (by rw[qY,vI]; exact hT) (by rw[qY,vI]) (by rw[qY]; exact Jq) (by rw[qY]; exact Jr) ⟨ts,g2,hM.fr hS g3⟩ (he.fr hS g3) hx hu U a1;exact⟨148,s1,s2,g1,f1,f2,g3.trans f3⟩
theorem vu(hp:Bn rn all lo wr T W pr)(h:all=pre++60::47::(nm++62::rest))(hk:k=pre.length)(hn:KU nm)(hT:T (bw nm))(hx:tx.length≤500000)(hu:us.length≤500000) :
  im pr rn c all ⟨k,tx,us⟩ ⟨k+2+nm.length+1,[],rL tx us++[⟨3,[],lo (bw nm),[],false⟩]⟩:=by
 have a0:=hp.h.g.len;obtain⟨⟨n0,n1,Qs,ME⟩,VC⟩:=hn;have PF:dz all k=60:=gX h hk;have jc:pre.length+2+nm.length≤all.length:=by rw[h]; simp; omega
 have e0:all=(pre++[60])++47::(nm++62::rest):=by rw[h]; simp
 have e1:all=(pre++[60,47])++(nm++62::rest):=by rw[h]; simp
 have e2:all=(pre++[60,47])++n0::(n1++62::rest):=by rw[e1,Qs]; simp
 have e3:all=(pre++[60,47]++nm)++(jp []++62::rest):=by rw[e1]; simp[jp]
 have U:dz all (k+1)=47:=gX e0 (by simp; omega);have F8:dz all (k+2)=n0:=gX e2 (by simp; omega);have qY:gL all di (k+2)=k+2+nm.length:=wA e1 (by simp; omega) VC (by decide);have vI:ec all (k+2) (k+2+nm.length)=bw nm:=oU e1 (by simp; omega) rfl;obtain⟨Jq,Jr⟩:=Bd (lo:=lo) (wr:=wr) (T:=T) (W:=W) (aN:=[]) (tK:=[]) (k:=k+2+nm.length) (by simp) e3 (by simp; omega);refine⟨by show dz all k ≠ -1; rw[PF]; decide,fun s hs he=>.inl ?_⟩;obtain⟨ts,hS,hM⟩:=hs;obtain⟨s1,g1,g2,g3⟩:=Bx (c:=c) (tx:=tx) (ts:=ts) hp (by omega) PF U (by rw[F8]; exact ME) s hS;obtain⟨s2,f1,f2,f3⟩:=Ps hp (nm:=lo (bw nm)) (by omega) (by rw[qY,vI]; exact hT) (by rw[qY,vI]) (by rw[qY]; exact Jq) (by rw[qY]; exact Jr) ⟨ts,g2,hM.fr hS g3⟩ (he.fr hS g3) hx hu;exact⟨253,s1,s2,g1,f1,f2,g3.trans f3⟩
theorem HK(hp:Bn rn all lo wr T W pr)(h:all=pre++(wl++60::rest))(hk:k=pre.length)(a2:wl≠[])(hw:∀x∈wl,x≠60∧x ≠ -1)(hr:(∃r0 U,rest=r0::U∧kw r0=true)∨∃r0 U,rest=47::r0::U∧kw r0=true)(hW:W (bw wl) 0)(hx:tx.length+(wr (bw wl) 0).length≤1000000) :
  im pr rn c all ⟨k,tx,us⟩ ⟨k+wl.length,tx++wr (bw wl) 0,us⟩:=by
 have a3:=hp.h.g.len;have jc:pre.length+wl.length≤all.length:=by rw[h]; simp
 have a1:∀j,j<wl.length→∃x∈wl,dz all (k+j)=x:=fun j hj=>by refine⟨wl[j],List.getElem_mem hj,?_⟩;rw[lQ,qU h hk,List.getElem?_append_left hj,List.getElem?_eq_getElem hj];rfl
 have e1:all=(pre++wl)++60::rest:=by rw[h]; simp
 have a0:dz all (k+wl.length)=60:=gX e1 (by simp; omega);have vI:ec all k (k+wl.length)=bw wl:=oU h hk rfl;have MJ:0<wl.length:=List.length_pos_iff.2 a2;obtain⟨x0,YD,Ey⟩:=a1 0 MJ;rw[Nat.add_zero] at Ey;refine⟨by show dz all k ≠ -1; rw[Ey]; exact(hw x0 YD).2,fun s hs he=>.inr ?_⟩;obtain⟨ts,hS,hM⟩:=hs;obtain⟨s1,g1,g2,g3⟩:=E8 (c:=c) (k:=k) (tx:=tx) (ts:=ts) hp (by omega) (by rw[Ey]; exact(hw x0 YD).1) s hS;have Al:∃f,Ik pr rn c tx ts (k+wl.length) f:=by
  rcases hr with ⟨r0,U,rfl,hr⟩|⟨r0,U,rfl,hr⟩
  ·have e2:all=(pre++wl++[60])++r0::U:=by rw[e1]; simp
   exact⟨148,Bw hp (by omega) a0 (by rw[gX e2 (by simp; omega)]; exact hr)⟩
  ·have e2:all=(pre++wl++[60])++47::r0::U:=by rw[e1]; simp
   have e3:all=(pre++wl++[60,47])++r0::U:=by rw[e1]; simp
   exact⟨253,Bx hp (by omega) a0 (gX e2 (by simp; omega)) (by rw[gX e3 (by simp; omega)]; exact hr)⟩
 obtain⟨s2,f1,f2,f3⟩:=KH (k:=k) (m:=wl.length) hp (by omega) (fun j hj=>by obtain⟨x,hx,hl⟩:=a1 j hj;exact⟨by rw[hl]; exact(hw x hx).2,E8 hp (by omega) (by rw[hl]; exact(hw x hx).1)⟩) (.inr ⟨by rw[a0]; decide,Al⟩) (by rw[vI]; exact hW) g2 (he.fr hS g3) (by rw[vI]; exact hx);rw[vI] at f2;exact⟨s1,s2,g1,f1,⟨ts,f2,(hM.fr hS g3).fr g2 f3⟩,g3.trans f3⟩
end
section
variable {rn:Nat}{all:Iq}{s:AS}{pr:Prim}
theorem Gi(a2:pr 264=none)(a4:pr 335=none)(a3:pr 334=none)(a5:pr 373=bL 373)(h1:b1≠169)(hr:169∉r):Ef pr 264 #[str (b0::b1::r),.int .i32 233] s (num (-1)) s:=by
 have a1:Ef pr 373 #[str r,.int .u8 169] s (num (-1)) s:=by obtain⟨g,hg⟩:∃g,bL 373=some g:=⟨_,rfl⟩;have h0:=EF.eval (P:=prog) (kt:=mB) (pr:=bL) (f:=373) (args:=#[str r,.int .u8 169]) (s:=s) (v:=num (jN (169:UInt8).toNat r 0)) (s':=s) 1 (by kernel_rfl);rw[qZ hr] at h0;obtain⟨m,h0⟩:=h0;refine EF.qN (a5.trans hg) ?_;unfold br at h0;rw[hg] at h0;exact h0
 have U:Ef pr 334 #[str r,.int .u8 169] s (num (-1)) s:=by refine EF.of a3 func334 rfl ?_;refine zs (zr (zc 2 a1 (zf ?_)));exact EW.ret ⟨.inr rfl,(by kernel_rfl),(by kernel_rfl)⟩
 have a0:Ef pr 335 #[.int .i32 233] s (.bool true) s:=by refine EF.of a4 func335 rfl ?_;refine zs (EW.seq (EW.block (zr (zf (za s (zH (zs ?_)))))));exact EW.ret ⟨.inr rfl,(by kernel_rfl),(by kernel_rfl)⟩
 have a6:str (((b0::b1::r).take (b0::b1::r).length).drop 2)=str r:=by rw[List.take_length]; rfl
 refine EF.of a2 func264 rfl ?_;refine zs (EW.block ?_);iterate 2
  refine zr ?_
  refine zf ?_
  refine za s ?_
  refine zG ?_
 refine zr (zc 1 a0 (zf (za s (zG (EW.scope ?_)))));iterate 4 refine zs ?_
 refine za s (EW.seq (EW.block ?_));refine EW.loop ?_;refine EW.seq (zr (zk 2 (zp (dl (l:=b0::b1::r) rfl underlying9 (by kernel_rfl)) (zp (yb (num 1) (num ((b0::b1::r).length:Nat)) (bD (b:=true) (decide_eq_true (by simp only[List.length_cons]; omega)))) (EO.nil (za s (zT (EW.block (EW.scope (EW.seq (EW.seq (EW.draw (by kernel_rfl) (by kernel_rfl) (by kernel_rfl) ?_))))))))))));iterate 2 refine zq ?_
 refine zu (pW (l:=b0::b1::r) (k:=.i64) (n:=1) (b:=b1) rfl underlying9 (by kernel_rfl) (by kernel_rfl) (by decide) rfl) ?_;iterate 3 refine zq ?_
 refine zu (yb (.int .u8 b1.toNat) (.int .u8 169) (cO (b:=true) (bne_iff_ne.2 (fun e=>h1 (UInt8.toNat_inj.1 (by show b1.toNat=169; omega)))))) (ET.nil ⟨aM [] (by kernel_rfl) (by simp),_,_,_,_,_,_,rfl,rfl,?_⟩);refine za s (zH (EW.seq (EW.draw (by kernel_rfl) (by kernel_rfl) (by kernel_rfl) ?_)));iterate 3 refine zq ?_
 refine zt s (ET.op (v:=str r) (s1:=s) (by kernel_rfl) ((vZ (l:=b0::b1::r) (i:=2) (j:=(b0::b1::r).length) rfl underlying9 (by kernel_rfl) ((show _=bF (b0::b1::r).length (b0::b1::r).length (some (num 2)) none by kernel_rfl).trans (lB (by decide) (by simp only[List.length_cons]; omega)))).trans (congrArg (fun x=>some (x,s)) a6)) ?_);iterate 3 refine zq ?_
 refine zt s (yt U (zq (ET.nil ⟨aM [] (by kernel_rfl) (by simp),_,_,_,_,_,_,rfl,rfl,?_⟩)));refine za s (EW.seq (zr (zf (za s (zH (zs ?_))))));exact EW.ret ⟨.inr rfl,(by kernel_rfl),(by kernel_rfl)⟩
theorem B5{l:Int}(h:l<0∨127<l)(hs:KI stops):ej l stops=false:=by
 unfold ej;rw[List.any_eq_false];intro b U
 have:=hs b U;simp only[beq_iff_eq];omega
theorem MY(a0:pr 264=none)(a1:pr 335=none)(stops:Bq):Ef pr 264 #[str stops,.int .i32 (-1)] s (num (-1)) s:=by
 have U:Ef pr 335 #[.int .i32 (-1)] s (.bool false) s:=by refine EF.of a1 func335 rfl ?_;refine zs (EW.seq (EW.block (zr (zf (za s (zG (zr (zf (za s (zF (zs ?_)))))))))));exact EW.ret ⟨.inr rfl,(by kernel_rfl),(by kernel_rfl)⟩
 refine EF.of a0 func264 rfl ?_;refine zs (EW.block ?_);iterate 2
  refine zr ?_
  refine zf ?_
  refine za s ?_
  refine zG ?_
 refine zr (zc 1 U (zf (za s (zH (zs ?_)))));exact EW.ret ⟨.inr rfl,(by kernel_rfl),(by kernel_rfl)⟩
theorem Gk(a0:pr 264=none)(a1:pr 335=none)(hl:stops.length≤1):Ef pr 264 #[str stops,.int .i32 233] s (num (-1)) s:=by
 have U:Ef pr 335 #[.int .i32 233] s (.bool true) s:=by refine EF.of a1 func335 rfl ?_;refine zs (EW.seq (EW.block (zr (zf (za s (zH (zs ?_)))))));exact EW.ret ⟨.inr rfl,(by kernel_rfl),(by kernel_rfl)⟩
 refine EF.of a0 func264 rfl ?_;refine zs (EW.block ?_);iterate 2
  refine zr ?_
  refine zf ?_
  refine za s ?_
  refine zG ?_
 refine zr (zc 1 U (zf (za s (zG (EW.scope ?_)))));iterate 4 refine zs ?_
 refine za s (EW.seq (EW.block ?_));refine EW.loop ?_;refine EW.seq (zr (zk 2 (zp (dl (l:=stops) rfl underlying9 (by kernel_rfl)) (zp (yb (num 1) (num (stops.length:Nat)) (bD (b:=false) (decide_eq_false (by omega)))) (EO.nil (za s (zG (EW.exit (EW.seq (zs ?_))))))))));exact EW.ret ⟨.inr rfl,(by kernel_rfl),(by kernel_rfl)⟩
theorem Ng(hp:OM rn all pr)(U:pr 335=none){l:Int}(hl:l = -1∨∃c:Nat,It c∧l=((c:Nat):Int))(hs:KI stops):Ef pr 328 #[.int .i32 l,str stops] s (.bool (ej l stops)) s:=by
 have key:Ef pr 264 #[str stops,.int .i32 l] s (num (-1)) s→Ef pr 328 #[.int .i32 l,str stops] s (.bool false) s:=by
  intro a2;have Up:Ef pr 160 #[str stops,.int .i32 l] s (.bool false) s:=by refine EF.of (hp.no 160 (by decide)) func160 rfl ?_;refine zs (zr (zc 2 a2 (zf ?_)));exact yR
  refine EF.of (hp.no 328 (by decide)) func328 rfl ?_;refine zs (zr (zc 2 Up (zf ?_)));exact yR
 rcases hl with rfl|⟨c,hc|rfl,rfl⟩
 ·rw[B5 (.inl (by decide)) hs];exact key (MY (hp.no 264 (by decide)) U stops)
 ·have hb:(UInt8.ofNat c).toNat=c:=by rw[UInt8.toNat_ofNat']; omega
  have hm:ej ((c:Nat):Int) stops=decide (UInt8.ofNat c∈stops):=by
   unfold ej;rw[Bool.eq_iff_iff,List.any_eq_true,decide_eq_true_iff];constructor
   ·rintro⟨b,a3,a4⟩;have:b.toNat=c:=by simp at a4; omega
    rw[← this,UInt8.ofNat_toNat]; exact a3
   ·intro h;exact⟨_,h,by simp[hb]⟩
  rw[hm];by_cases a0:UInt8.ofNat c∈stops
  ·have:=Dv hp (s:=s) (b:=UInt8.ofNat c) (by omega) a0;rw[hb] at this;rw[decide_eq_true a0];exact this
  ·have:=Gn hp (s:=s) (b:=UInt8.ofNat c) (by omega) a0;rw[hb] at this;rw[decide_eq_false a0];exact this
 ·rw[B5 (.inr (by decide)) hs];refine key ?_;have a1:∀b∈stops,b≠169:=fun b hb e=>by have:=hs b hb; rw[e] at this; revert this; decide
  match stops,a1 with
  | [],_=>exact Gk (hp.no 264 (by decide)) U (by decide)
  | [b0],_=>exact Gk (hp.no 264 (by decide)) U (Nat.le_refl 1)
  | b0::b1::r,h=>exact Gi (hp.no 264 (by decide)) U (hp.no 334 (by decide)) hp.Rz (h b1 (by simp)) fun z=>h 169 (by simp[z]) rfl
end
def iC:Array Value:=((List.range 256).map fun i=>Value.bool ([9,10,12,13,32].contains i)).toArray
section
variable {s:AS}{pr:Prim}
theorem NS(b:UInt8):∃t,iC[b.toNat]?=some (.bool t):=by have U:b.toNat<256:=UInt8.toNat_lt b;refine⟨[9,10,12,13,32].contains b.toNat,?_⟩;unfold iC;simp[List.getElem?_map,List.getElem?_range U]
theorem JS{P:Program}{kt:TypeId→Bool}{c:fj}{a:TL}{o:Oper}{e:TypeId}{x i:Operand}{b:Nat}{k:IntKind}{j:Int}(U:o.op=.indexAddr t x i)(ht:P.underlying t=some (.array n e))(a0:bI P e=some sz)(hx:a.at x=am b off)(hi:a.at i=.int k j)(h0:0≤j)(h1:j<n):bK P kt c a o s=some (am b (off+j.toNat*sz),s):=by refine dP (by rw[U]; rfl) (by rw[U]; trivial) ?_;unfold bQ;rw[U];simp only;rw[ht,hx,hi];simp only[am];rw[a0];simp only;rw[if_pos ⟨h0,h1⟩]
theorem F2(U:pr 356=none)(hB:s.get B=some (.cells iC 285))(b:UInt8):∃t,Ef pr 356 #[am B 0,.int .u8 b.toNat] s (.bool t) s:=by obtain⟨t,ht⟩:=NS b;refine⟨t,?_⟩;have hb:b.toNat<256:=UInt8.toNat_lt b;refine EF.of U func356 rfl ?_;refine zs (zr (zg 3 s (zp (JS (b:=B) (off:=0) (n:=256) (k:=.u8) (j:=(b.toNat:Nat)) (sz:=1) rfl underlying285 (by kernel_rfl) (by kernel_rfl) (by kernel_rfl) (by omega) (by omega)) (zp (bO (b:=B) (off:=0+((b.toNat:Nat):Int).toNat*1) (v:=.bool t) rfl underlying4 rfl (by kernel_rfl) hB (by rw[Int.toNat_natCast,Nat.mul_one,Nat.zero_add]; exact ht)) (zf ?_)))));exact yR
def Hf(l:List UInt8)(B:Nat)(x:Nat→Value):TL:=[str l,am B 0,x 2,x 3,str []]++kl x 5 11
theorem Eg(a1:pr 299=none)(a2:pr 356=none)(hB:s.get B=some (.cells iC 285)){l:Bq}(hl:l.length≤1000000):∃U:Bq,U.length≤l.length∧Ef pr 299 #[str l,am B 0] s (str U) s:=by
 suffices h:Ew pr (match Tryz.f299.body with|some c=>c|none=>.skip) ((#[str l,am B 0]:Aq).toList++List.replicate (Tryz.f299.ntmps-(#[str l,am B 0]:Aq).toList.length) undef) s (fun e a' s1=>(e=.normal∨e=.ret)∧s1=s∧∃U:Bq,U.length≤l.length∧dA prog Tryz.f299 a' s1=some (str U)) by obtain⟨m,e,a',s1,h1,he,h2,U,h3,h4⟩:=h;exact⟨U,h3,EF.of a1 func299 rfl ⟨m,e,a',s1,h1,he,h4,h2⟩⟩
 refine zs ?_;refine EW.fill (Hf l B) (by kernel_rfl) ?_;intro x0;refine EW.seq (EW.block ?_);refine EW.mono (EW.eD (Q:=fun e a' s1=>e=.exit 0∧s1=s∧∃U:Bq,U.length≤l.length∧∃x,a'=Hf U B x) (fun m a' s1=>s1=s∧∃U:Bq,U.length=m∧U.length≤l.length∧∃x,a'=Hf U B x) ?_ l.length _ _ ⟨rfl,l,rfl,Nat.le_refl _,x0,rfl⟩) ?_
 ·rintro m a' S ⟨rfl,U,rfl,a0,x,rfl⟩;by_cases hp:0<U.length
  ·refine EW.seq (zr (zk 1 (zp (dl (l:=U) rfl underlying9 (by kernel_rfl)) (zp (yb (num (U.length:Nat)) (num 0) (iJ (b:=true) (decide_eq_true (by omega)))) (EO.nil (za S (zT (EW.block ?_))))))));obtain⟨b,r,rfl⟩:∃b r,U=b::r:=by cases U with
    | nil=>simp at hp
    | cons b r=>exact⟨b,r,rfl⟩
   obtain⟨t,ht⟩:=F2 (pr:=pr) a2 hB b;refine EW.seq (zr (zk 2 (zp (pW (l:=b::r) (k:=.i64) (n:=0) (b:=b) rfl underlying9 (by kernel_rfl) (by kernel_rfl) (by decide) rfl) (zo S (zc 0 ht ?_)))));cases t with
   | false =>refine zf ?_;refine za S (zH (EW.exit ?_));exact⟨rfl,rfl,b::r,a0,bG (by kernel_rfl)⟩
   | true =>refine zf ?_;refine za S (zF (zx (zk 1 (EO.op (v:=str r) (s1:=S) (by kernel_rfl) ((vZ (l:=b::r) (i:=1) (j:=(b::r).length) rfl underlying9 (by kernel_rfl) ((show _=bF (b::r).length (b::r).length (some (num 1)) none by kernel_rfl).trans (lB (by decide) (by simp only[List.length_cons]; omega)))).trans (congrArg (fun x=>some (x,S)) (show str (((b::r).take (b::r).length).drop 1)=str r by rw[List.take_length]; rfl))) (zf ?_)))));exact⟨r.length,by simp,rfl,r,rfl,by simp at a0; omega,bG (by kernel_rfl)⟩
  ·obtain rfl:U=[]:=List.length_eq_zero_iff.1 (by omega);refine EW.seq (zr (zf (za S (zG (EW.exit ?_)))));exact⟨rfl,rfl,[],by simp,bG (by kernel_rfl)⟩
 ·rintro e a' S ⟨rfl,rfl,U,a0,x,rfl⟩;refine zs ?_;exact EW.ret ⟨.inr rfl,(by kernel_rfl),U,a0,(by kernel_rfl)⟩
def Hg(l:List UInt8)(B:Nat)(x:Nat→Value):TL:=[str l,am B 0,x 2,x 3,str []]++kl x 5 17
theorem Eh(a0:pr 300=none)(a1:pr 356=none)(hB:s.get B=some (.cells iC 285)){l:Bq}(hl:l.length≤1000000):∃U:Bq,U.length≤l.length∧Ef pr 300 #[str l,am B 0] s (str U) s:=by
 suffices h:Ew pr (match Tryz.f300.body with|some c=>c|none=>.skip) ((#[str l,am B 0]:Aq).toList++List.replicate (Tryz.f300.ntmps-(#[str l,am B 0]:Aq).toList.length) undef) s (fun e a' s1=>(e=.normal∨e=.ret)∧s1=s∧∃U:Bq,U.length≤l.length∧dA prog Tryz.f300 a' s1=some (str U)) by obtain⟨m,e,a',s1,h1,he,h2,U,h3,h4⟩:=h;exact⟨U,h3,EF.of a0 func300 rfl ⟨m,e,a',s1,h1,he,h4,h2⟩⟩
 refine zs ?_;refine EW.fill (Hg l B) (by kernel_rfl) ?_;intro x0;refine EW.seq (EW.block ?_);refine EW.mono (EW.eD (Q:=fun e a' s1=>e=.exit 0∧s1=s∧∃U:Bq,U.length≤l.length∧∃x,a'=Hg U B x) (fun m a' s1=>s1=s∧∃U:Bq,U.length=m∧U.length≤l.length∧∃x,a'=Hg U B x) ?_ l.length _ _ ⟨rfl,l,rfl,Nat.le_refl _,x0,rfl⟩) ?_
 ·rintro m a' S ⟨rfl,U,rfl,a2,x,rfl⟩;by_cases hp:0<U.length
  ·refine EW.seq (zr (zk 1 (zp (dl (l:=U) rfl underlying9 (by kernel_rfl)) (zp (yb (num (U.length:Nat)) (num 0) (iJ (b:=true) (decide_eq_true (by omega)))) (EO.nil (za S (zT (EW.block ?_))))))));obtain⟨b,hb⟩:∃b,U[U.length-1]?=some b:=⟨_,List.getElem?_eq_getElem (by omega)⟩;obtain⟨t,ht⟩:=F2 (pr:=pr) a1 hB b;generalize hn:U.length=n at *;refine EW.seq (zr (zk 3 (zp (dl (l:=U) rfl underlying9 (by kernel_rfl)) ?_)));rw[hn];refine zp (ik (i:=((n:Nat):Int)) (j:=1) (r:=((n-1:Nat):Int)) rfl (by kernel_rfl) (by kernel_rfl) (by omega) (by omega)) (zp (pW (l:=U) (k:=.i64) (n:=((n-1:Nat):Int)) (b:=b) rfl underlying9 (by kernel_rfl) (by kernel_rfl) (by omega) (by rw[Int.toNat_natCast]; exact hb)) (zo S (zc 0 ht ?_)));cases t with
   | false =>refine zf ?_;refine za S (zH (EW.exit ?_));exact⟨rfl,rfl,U,by omega,bG (by kernel_rfl)⟩
   | true =>refine zf ?_;refine za S (zF (zx (zk 2 (zp (dl (l:=U) rfl underlying9 (by kernel_rfl)) ?_))));rw[hn];refine zp (ik (i:=((n:Nat):Int)) (j:=1) (r:=((n-1:Nat):Int)) rfl (by kernel_rfl) (by kernel_rfl) (by omega) (by omega)) (EO.op (v:=str (U.take (n-1))) (s1:=S) (by kernel_rfl) ((vZ (l:=U) (i:=0) (j:=n-1) rfl underlying9 (by kernel_rfl) ((show _=bF U.length U.length none (some (num ((n-1:Nat):Int))) by kernel_rfl).trans ((rD (by omega) (by omega)).trans (by rw[Int.toNat_natCast])))).trans (congrArg (fun x=>some (x,S)) (show str ((U.take (n-1)).drop 0)=_ by rw[List.drop_zero]))) (zf ?_));exact⟨n-1,by omega,rfl,U.take (n-1),by rw[List.length_take]; omega,by rw[List.length_take]; omega,bG (by kernel_rfl)⟩
  ·obtain rfl:U=[]:=List.length_eq_zero_iff.1 (by omega);refine EW.seq (zr (zf (za S (zG (EW.exit ?_)))));exact⟨rfl,rfl,[],by simp,bG (by kernel_rfl)⟩
 ·rintro e a' S ⟨rfl,rfl,U,a2,x,rfl⟩;refine zs ?_;exact EW.ret ⟨.inr rfl,(by kernel_rfl),U,a2,(by kernel_rfl)⟩
def Rk:List FuncId:=[198,298,299,300,356]
theorem NZ(U:∀f,f∈Rk→pr f=none)(hw:w.length≤1000000)(a0:Ef pr 298 #[str [9,10,12,13,32]] ⟨[],66⟩ (.tuple #[.agg iC,.bool true]) ((⟨[],66⟩:AS).add (.cells iC 285))):∃tr s1,Ef pr 198 #[str w,str [9,10,12,13,32]] ⟨[],66⟩ (str tr) s1:=by
 by_cases h0:w=[]
 ·subst h0;refine⟨[],⟨[],66⟩,?_⟩;refine EF.of (U 198 (by decide)) func198 rfl ?_;refine zs (EW.seq (zr (zf (za (⟨[],66⟩) (zH (zs ?_))))));exact EW.ret ⟨.inr rfl,(by kernel_rfl),(by kernel_rfl)⟩
 ·have hZ:=Has.new ((⟨[],66⟩:AS).add (.cells iC 285)) (.cells ((List.replicate 256 (Value.bool false)).toArray) 285);have hY:(((⟨[],66⟩:AS).add (.cells iC 285)).add (.cells ((List.replicate 256 (Value.bool false)).toArray) 285)).set 67 (some (.cells iC 285))=((⟨[],66⟩:AS).add (.cells iC 285)).add (.cells iC 285):=AS.set_set (⟨((⟨[],66⟩:AS).add (.cells iC 285)).hp,68⟩:AS) 67 (some (.cells ((List.replicate 256 (Value.bool false)).toArray) 285)) (some (.cells iC 285));have hB:=Has.new ((⟨[],66⟩:AS).add (.cells iC 285)) (.cells iC 285);obtain⟨l1,q1,q2⟩:=Eh (U 300 (by decide)) (U 356 (by decide)) hB.2 hw;obtain⟨l2,q3,q4⟩:=Eg (U 299 (by decide)) (U 356 (by decide)) hB.2 (l:=l1) (by omega);refine⟨l2,((⟨[],66⟩:AS).add (.cells iC 285)).add (.cells iC 285),?_⟩;refine EF.of (U 198 (by decide)) func198 rfl ?_;refine zs (EW.seq (zr (zk 1 (zp (dt (u:=str w) (w:=str []) rfl (by kernel_rfl) (by kernel_rfl) (by unfold cX; simp only; rw[iG h0])) ?_))));iterate 2
   refine zf ?_
   refine za (⟨[],66⟩) ?_
   refine zF ?_
   refine EW.seq (zr ?_)
  refine zc 1 a0 (zg 4 (((⟨[],66⟩:AS).add (.cells iC 285)).add (.cells ((List.replicate 256 (Value.bool false)).toArray) 285)) (zp (ek (b:=67) (off:=0) (w:=.agg iC) (ws:=iC.toList) rfl (by kernel_rfl) (by kernel_rfl) rfl rfl (by kernel_rfl) hZ.2 (by show 0+256≤256; decide)) (zf (za ((((⟨[],66⟩:AS).add (.cells iC 285)).add (.cells ((List.replicate 256 (Value.bool false)).toArray) 285)).set 67 (some (.cells iC 285))) ?_))));rw[hY];refine zr (zf (za (((⟨[],66⟩:AS).add (.cells iC 285)).add (.cells iC 285)) (zH (zr (zc 1 q2 (zc 0 q4 (zf ?_)))))));exact EW.ret ⟨.inr rfl,(by kernel_rfl),(by kernel_rfl)⟩
end
def sP (b:UInt8):List UInt8:=if b=38 then [97,109,112,59] else if b=60 then [108,116,59] else if b=62 then [103,116,59] else [113,117,111,116,59]
def gw (sp:List UInt8)(b:UInt8):List UInt8:=if b∈sp then 38::sP b else [b]
theorem tV(w:Bq):li w=w.flatMap (gw [38,60,62]):=by
 unfold li dS;rw[List.flatMap_assoc,List.flatMap_assoc];congr 1;funext b;by_cases h1:b=38
 ·subst h1; decide
 ·by_cases h2:b=60
  ·subst h2; decide
  ·by_cases h3:b=62
   ·subst h3; decide
   ·simp[gw,h1,h2,h3]
theorem tU(v:Bq):iL v=v.flatMap (gw [38,34]):=by
 unfold iL dS;rw[List.flatMap_assoc];congr 1;funext b;by_cases h1:b=38
 ·subst h1; decide
 ·by_cases h2:b=34
  ·subst h2; decide
  ·simp[gw,h1,h2]
def Sp (b:UInt8):Prop:=b=38∨b=60∨b=62∨b=34
section
variable {rn:Nat}{all:Iq}{s:AS}
theorem Si(U:Sp b):b.toNat<128∧(sP b).length≤5∧UInt8.ofNat b.toNat=b:=by rcases U with rfl|rfl|rfl|rfl<;>decide
theorem Kb(hb:Sp b)(hr:r.length≤900000)(k:Int)(hs:s.get 1=some (.cells cY.toArray 335)):Ef (cR rn all) 263 #[str (sP b++r),num k] s (.tuple #[.int .i32 ((b.toNat:Nat):Int),num ((sP b).length:Nat)]) s:=by
 have U:Ef (cR rn all) 333 #[str (sP b++r),num k] s (.tuple #[.int .i32 ((b.toNat:Nat):Int),num ((sP b).length:Nat)]) s:=by
  refine EF.qN (g:=fun args s=>match args.toList with
   | [.string x,.int .i64 k]=>match s.get 1 with
    | some (.cells cs 335 (0,0))=>if xj cs.toList=true then match Rh x.data.toList with
      | some (c,n)=>some (.tuple #[.int .i32 c,.int .i64 n],s)
      | none=>none
     else none
    | _=>none
   | _=>none) rfl ?_;simp only[hs];rw[if_pos (by kernel_rfl)];rcases hb with rfl|rfl|rfl|rfl<;>rfl
 have a1:(decide (([35]:Bq).length≤(sP b++r).length)&&cJ ((sP b++r).take ([35]:Bq).length) [35])=false:=by
  rcases hb with rfl|rfl|rfl|rfl
  ·show(_&&cJ [97] [35])=false;rw[iG (by decide),Bool.and_false]
  ·show(_&&cJ [108] [35])=false;rw[iG (by decide),Bool.and_false]
  ·show(_&&cJ [103] [35])=false;rw[iG (by decide),Bool.and_false]
  ·show(_&&cJ [113] [35])=false;rw[iG (by decide),Bool.and_false]
 have a0:=xZ (pr:=cR rn all) (s:=s) (b:=false) (by kernel_rfl) (by kernel_rfl) a1;generalize sP b++r=t at U a0;generalize ((sP b).length:Nat)=m at U ⊢;generalize b.toNat=bn at U ⊢;refine EF.of (by kernel_rfl) func263 rfl ?_;refine zs (EW.seq (zr (zc 1 a0 (EO.nil (zF (za s (zr (zc 2 U (zf ?_)))))))));exact yR
def Lm(t:List UInt8)(k:Int)(b:Nat)(x:Nat→Value):TL:=[str t,num k,x 2,x 3,str [],am b 0]++kl x 6 27
theorem FJ{sp l:Bq}(h:∀x∈l,x∉sp):l.flatMap (gw sp)=l:=by
 induction l with
 | nil=>rfl
 | cons b l ih =>
  rw[List.flatMap_cons,ih fun x U=>h x (by simp[U])];have:gw sp b=[b]:=by unfold gw; rw[if_neg (h b (by simp))]
  rw[this];rfl
theorem tZ(sp:Bq):∀l:Bq,(∀x∈l,x∉sp)∨∃a b r,l=a++b::r∧(∀x∈a,x∉sp)∧b∈sp
 | []=>.inl (by simp)
 | y::l=>by
  by_cases hy:y∈sp
  ·exact .inr ⟨[],y,l,rfl,by simp,hy⟩
  ·rcases tZ sp l with h|⟨a,b,r,rfl,h1,h2⟩
   ·exact .inl fun x U=>by
     rcases List.mem_cons.1 U with rfl|U
     ·exact hy
     ·exact h x U
   ·exact .inr ⟨y::a,b,r,rfl,fun x U=>by
     rcases List.mem_cons.1 U with rfl|U
     ·exact hy
     ·exact h1 x U,h2⟩
theorem Ei{sp:Bq}(aa:∀x∈sp,Sp x)(a3:(38:UInt8)∈sp)(hw:w≠[])(hl:(w.flatMap (gw sp)).length≤100000)(ak:w.length≤100000)(k:Int)(ae:1<s.nx)(hs:s.get 1=some (.cells cY.toArray 335)):∃s',Ef (cR rn all) 157 #[str (w.flatMap (gw sp)),num k] s (str w) s'∧mK s.nx s s':=by
 have hz:BW (s.add (.cells #[.pointer none,.slice none 0 0] 119)) s.nx s.nx []:=⟨Nat.le_refl _,by simp,.pointer none,.slice none 0 0,by rw[AS.aH,if_pos rfl],.inl rfl,.inl ⟨rfl,rfl⟩⟩;have Jt:mK s.nx s (s.add (.cells #[.pointer none,.slice none 0 0] 119)):=mK.add (Nat.le_refl _);refine EF.gu (by kernel_rfl) func157 rfl ?_;iterate 2 refine zs ?_
 refine za (s.add (.cells #[.pointer none,.slice none 0 0] 119)) ?_;refine EW.fill (Lm (w.flatMap (gw sp)) k s.nx) (by kernel_rfl) ?_;intro x0;generalize s.add (.cells #[.pointer none,.slice none 0 0] 119)=s1 at hz Jt;refine EW.block ?_;refine EW.mono (EW.eD (Q:=fun e a' s'=>e=.ret∧mK s.nx s s'∧a'.getD 4 undef=str w) (fun m a' s'=>∃done rem,done++rem=w∧rem.length=m∧(rem.flatMap (gw sp)).length≤100000∧BW s' s.nx s.nx done∧mK s.nx s s'∧∃x,a'=Lm (rem.flatMap (gw sp)) k s.nx x) ?_ w.length _ _ ⟨[],w,rfl,rfl,hl,hz,Jt,x0,rfl⟩) ?_
 ·rintro m a' s' ⟨done,rem,a1,af,a8,hb,hf,x,rfl⟩;have hdl:done.length+rem.length=w.length:=by rw[← a1]; simp
  rcases tZ sp rem with a6|⟨a,c,r,rfl,a5,hc⟩
  ·rw[FJ a6];have a0:Il 38 rem rem [] false:=.inl ⟨rfl,fun h=>a6 _ h a3,rfl,rfl⟩;have U:=zR (rn:=rn) (all:=all) (s:=s') a0 (by omega);obtain⟨s2,a2,iN,jT⟩:=o0 (pr:=cR rn all) (m:=rem) (by kernel_rfl) (by kernel_rfl) hb (by omega);rw[a1] at iN;obtain⟨s3,Gf,vE⟩:=sI (pr:=cR rn all) (by kernel_rfl) iN hw (by omega);refine EW.block (zr (zc 1 U (zf (za s' (zr (zc 1 a2 (EO.nil (za s2 (EW.seq (zs (zH (za s2 (zr (zc 0 Gf (zf (za s3 ?_))))))))))))))));exact EW.ret ⟨rfl,(hf.trans jT).trans vE,by kernel_rfl⟩
  ·have a4:=Si (aa c hc);have QH:(a++c::r).flatMap (gw sp)=a++38::(sP c++r.flatMap (gw sp)):=by
    rw[List.flatMap_append,FJ a5,List.flatMap_cons];have:gw sp c=38::sP c:=by unfold gw; rw[if_pos hc]
    rw[this];rfl
   rw[QH] at a8 ⊢;simp only[List.length_append,List.length_cons] at a8 af hdl;have a0:Il 38 (a++38::(sP c++r.flatMap (gw sp))) a (sP c++r.flatMap (gw sp)) true:=.inr ⟨rfl,fun h=>a5 _ h a3,rfl⟩;have U:=zR (rn:=rn) (all:=all) (s:=s') a0 (by simp only[List.length_append,List.length_cons]; omega);obtain⟨s2,a2,iN,jT⟩:=o0 (pr:=cR rn all) (m:=a) (by kernel_rfl) (by kernel_rfl) hb (by omega);have Tg:s2.get 1=some (.cells cY.toArray 335):=((hf.trans jT).2 1 ae).trans hs;have a7:=Kb (rn:=rn) (all:=all) (s:=s2) (aa c hc) (r:=r.flatMap (gw sp)) (by omega) k Tg;obtain⟨s4,v4,ag,H0,tf⟩:=sL (pr:=cR rn all) (en:=[c]) (c:=((c.toNat:Nat):Int)) (by kernel_rfl) (by kernel_rfl) iN (fun s sl ot=>by have:=tJ (pr:=cR rn all) a4.1 ot (by rw[List.length_append]; omega) (by kernel_rfl);rw[a4.2.2] at this;exact this);have P3:((sP c++r.flatMap (gw sp)).take (sP c++r.flatMap (gw sp)).length).drop (((sP c).length:Nat):Int).toNat=r.flatMap (gw sp):=by rw[List.take_length,Int.toNat_natCast,List.drop_left]
   have ai:((sP c).length:Nat)≤(sP c++r.flatMap (gw sp)).length:=by rw[List.length_append]; omega
   have a9:(r.flatMap (gw sp)).length≤100000:=by omega
   generalize a++38::(sP c++r.flatMap (gw sp))=tt at U;generalize hR:r.flatMap (gw sp)=rt at *;generalize ah:sP c++rt=bt at *;generalize (sP c).length=ml at *;generalize aj:c.toNat=cn at *;refine EW.block (zr (zc 1 U (zf (za s' (zr (zc 1 a2 (EO.nil (za s2 (EW.seq (zs (zF (za s2 (zr (zc 2 a7 (zf (za s2 (zr (zc 1 ag (EO.nil (za s4 (zx (zk 2 (zp (kK (l:=bt) (i:=((ml:Nat):Int).toNat) (j:=bt.length) (m:=rt) rfl underlying9 (by kernel_rfl) ((show _=bF bt.length bt.length (some (num (ml:Nat))) none by kernel_rfl).trans (lB (by omega) (by omega))) P3) (zf ?_))))))))))))))))))))))));exact⟨r.length,by omega,done++a++[c],r,by rw[← a1]; simp,rfl,by rw[hR]; exact a9,H0,(hf.trans jT).trans tf,by rw[hR]; exact bG (by kernel_rfl)⟩
 ·rintro e a' s' ⟨rfl,hf,h4⟩;exact⟨.inr rfl,by show some (a'.getD 4 undef)=_; rw[h4],hf⟩
end
section
variable {n rn m:Nat}{V:Aq→Option Value}{all:Iq}{pr:Prim}
theorem zy.add(h:zy rn pr all)(hV:∀args v,V args=some v→args.toList.all (fC m)=true∧fC m v=true∧∃s1,Ef pr f args ⟨[],rn+1⟩ v s1):zy rn (lY f V pr) all:=by
 obtain⟨a0,U⟩:=h;refine⟨fun g k args s v s' hf hh=>?_,fun Y A hA hp=>ck.add Y cz dq cI hA (U Y A hA hp) hV⟩;unfold lY at hf;split at hf
 ·cases hf;simp only at hh;split at hh
  ·cases hh; exact Nat.le_refl _
  ·cases hh
 ·exact a0 g k args s v s' hf hh
theorem C8(a0:∀f g args s v s',pr f=some g→g args s=some (v,s')→s.nx≤s'.nx){ok:Aq→AS→Option Value}:∀g k args s v s',j9 f ok (br prog mB pr n f) pr g=some k→k args s=some (v,s')→s.nx≤s'.nx:=by
 intro g k args s v s' hf U;unfold j9 at hf;split at hf
 ·cases hf;simp only at U;split at U
  ·cases U; exact Nat.le_refl _
  ·exact(xQ (P:=prog) (kt:=mB) a0 n).2 _ _ _ _ _ U
 ·exact a0 g k args s v s' hf U
end
section
variable {rn:Nat}{all:Iq}{s:AS}{pr:Prim}
theorem HO{b:Nat}(a0:pr 261=none)(U:pr 156=none)(hs:s.get b=some (.cells #[.pointer none,aG] 119))(hb:b<s.nx):∃s',Ef pr 156 #[am b 0,str []] s (.tuple #[num 0,.nilIface]) s'∧s'.get b=some (.cells #[am b 0,aG] 119)∧s'.nx=s.nx∧∀k,k≠b→s'.get k=s.get k:=by obtain⟨s1,hc,c1,c2,c3⟩:=vq a0 hs (.inl rfl);refine EF.gu U func156 rfl ?_;refine zs (zr (zc 1 hc (EO.nil (za s1 (zr (zg 4 s1 (zp (yl b 1 aG c2) (zg 1 s1 (zp (rj (sl:=aG) (m:=[]) rfl (by kernel_rfl) (by kernel_rfl) underlying55 underlying9 (by kernel_rfl) (by kernel_rfl) (by decide) rfl (qc (.inl rfl))) (zg 2 s1 (zp (ys b 1 aG c2 (by simp)) (EO.nil (zs (za (s1.set b (some (.cells #[am b 0,aG] 119))) ?_))))))))))))));exact EW.ret ⟨.inr rfl,(by kernel_rfl),by rw[AS.aK,if_pos rfl],c1,fun k hk=>by rw[AS.aK,if_neg hk]; exact c3 k hk⟩
theorem KF(k:Int):∃s',Ef (cR rn all) 157 #[str [],num k] s (str []) s'∧mK s.nx s s':=by
 have U:=Has.new s (.cells #[.pointer none,aG] 119);obtain⟨s1,q1,q2,q3,q4⟩:=HO (pr:=cR rn all) (by kernel_rfl) (by kernel_rfl) U.2 U.1;have hf:mK s.nx s s1:=⟨by rw[q3]; simp,fun x hx=>by rw[q4 x (by omega),AS.aH,if_neg (by omega)]⟩;have h84:=uM (pr:=cR rn all) (by kernel_rfl) q2;have Us:=zR (rn:=rn) (all:=all) (s:=s.add (.cells #[.pointer none,aG] 119)) (c:=38) (x:=[]) (a:=[]) (b:=[]) (t:=false) (.inl ⟨rfl,by simp,rfl,rfl⟩) (by decide);generalize hS:s.add (.cells #[.pointer none,aG] 119)=S at *;refine EF.gu (by kernel_rfl) func157 rfl ?_;iterate 2 refine zs ?_
 refine za (s.add (.cells #[.pointer none,aG] 119)) ?_;rw[hS];refine EW.block ?_;refine EW.loop ?_;refine EW.block (zr (zc 1 Us (zf (za S (zr (zc 1 q1 (EO.nil (za s1 (EW.seq (zs (zH (za s1 (zr (zc 0 h84 (zf (za s1 ?_))))))))))))))));exact EW.ret ⟨.inr rfl,(by kernel_rfl),hf⟩
def EL(x:List UInt8)(w:List UInt8):Prop:=∃sp,(sp=[38,34]∨sp=[38,60,62])∧x=w.flatMap (gw sp)∧x.length≤100000∧w.length≤100000
def HH (un:List UInt8→Int→Option (List UInt8))(args:Array Value)(s:AS):Option Value:=match args.toList with
 | [.string x,.int .i64 k]=>match s.get 1 with
  | some (.cells cs 335 (0,0))=>if xj cs.toList=true∧66≤s.nx then (un x.data.toList k).map str else none
  | _=>none
 | _=>none
def OB (P:Program)(n:Nat)(un:List UInt8→Int→Option (List UInt8))(all:List Int):Prim:=j9 157 (HH un) (br P mB (cR 65 all) n 157) (cR 65 all)
theorem J5(a7:∀x k w,un x k=some w→EL x w):zy 65 (OB prog n un all) all:=by
 refine⟨C8 (oH 65 all),fun Y A hA hp=>ck.forget Y cz dq cI hA hp ?_⟩;intro args s v h;unfold HH at h;split at h
 ·next x k ha =>
  split at h
  ·next cs hs =>
   split at h
   ·next hc =>
    obtain⟨a2,a3⟩:=hc;have ha':args=#[str x.data.toList,.int .i64 k]:=by apply Array.toList_inj.1; simp[ha]
    subst ha';have a4:cs=cY.toArray:=by apply Array.toList_inj.1; simp[xk a2]
    subst a4;have U:(cY.toArray).toList.all (vU s.nx)=true:=by
     rw[List.all_eq_true];intro y hy;have h1:cY.all dT=true:=by kernel_rfl
     have h2:=List.all_eq_true.1 h1 y (by simpa using hy);unfold vU;split<;>first|exact h2|cases h2
    cases hu:un x.data.toList k with
    | none=>rw[hu] at h; cases h
    | some w =>
     rw[hu] at h;cases h;obtain⟨sp,a0,hx,a5,a6⟩:=a7 _ _ _ hu;refine⟨rfl,a3,by simp[vU,dT],1,cY.toArray,335,(0,0),hs,U,fun s0 Qs Yu=>?_⟩;have key:∀{s1:AS},mK s0.nx s0 s1→s1.get 1=some (.cells cY.toArray 335):=fun hf=>(hf.2 1 (by omega)).trans Yu;rw[hx];by_cases hw:w=[]
     ·subst hw;obtain⟨s1,e1,e2⟩:=KF (rn:=65) (all:=all) (s:=s0) k;exact⟨s1,e1,key e2⟩
     ·have a1:∀y∈sp,Sp y:=by
       intro y hy;unfold Sp;rcases a0 with rfl|rfl<;>simp only[List.mem_cons,List.not_mem_nil,or_false] at hy
       ·rcases hy with h|h<;>simp[h]
       ·rcases hy with h|h|h<;>simp[h]
      obtain⟨s1,e1,e2⟩:=Ei (rn:=65) (all:=all) (s:=s0) a1 (by rcases a0 with rfl|rfl<;>simp) hw (by rw[← hx]; exact a5) a6 k (by omega) Yu;exact⟨s1,e1,key e2⟩
   ·cases h
  ·cases h
 ·cases h
def yr (names:List (List UInt8))(args:Array Value):Option Value:=match args.toList with
 | [.string x]=>if names.any (cJ x.data.toList) then some (.string x) else none
 | _=>none
def Ee (tr:List UInt8→Option (List UInt8))(args:Array Value):Option Value:=match args.toList with
 | [.string x,.string y]=>if cJ y.data.toList [9,10,12,13,32] then (tr x.data.toList).map str else none
 | _=>none
def J6 (P:Program)(un:List UInt8→Int→Option (List UInt8))(names:List (List UInt8))(tr:List UInt8→Option (List UInt8))(all:List Int):Prim:=lY 198 (Ee tr) (lY 258 (yr names) (OB P 0 un all))
theorem J8{names:List (Bq)}{tr:Bq→Option (Bq)}(a3:∀x k w,un x k=some w→EL x w)(a1:∀x∈names,∃s1,Ef (OB prog 0 un all) 258 #[str x] ⟨[],66⟩ (str x) s1)(a2:∀x w,tr x=some w→∃s1,Ef (lY 258 (yr names) (OB prog 0 un all)) 198 #[str x,str [9,10,12,13,32]] ⟨[],66⟩ (str w) s1):zy 65 (J6 prog un names tr all) all:=by
 have h1:=(J5 (n:=0) (all:=all) a3).add (m:=1) (f:=258) (V:=yr names) (by
  intro args v U;unfold yr at U;split at U
  ·next x ha =>
   have a0:args=#[str x.data.toList]:=by apply Array.toList_inj.1; simp[ha]
   subst a0;split at U
   ·next hx =>cases U;obtain⟨y,Wk,Wl⟩:=List.any_eq_true.1 hx;obtain⟨s1,h⟩:=a1 y Wk;rw[← (ga _ _).1 Wl] at h;exact⟨rfl,rfl,s1,h⟩
   ·cases U
  ·cases U);refine h1.add (m:=1) (f:=198) (V:=Ee tr) ?_;intro args v U;unfold Ee at U;split at U
 ·next x y ha =>
  have a0:args=#[str x.data.toList,str y.data.toList]:=by apply Array.toList_inj.1; simp[ha]
  subst a0;split at U
  ·next hy =>
   cases hq:tr x.data.toList with
   | none=>rw[hq] at U; cases U
   | some w =>rw[hq] at U;cases U;rw[(ga _ _).1 hy];obtain⟨s1,h⟩:=a2 _ _ hq;exact⟨rfl,rfl,s1,h⟩
  ·cases U
 ·cases U
end
def mD:List (List UInt8):=[[98,97,115,101],[108,105,110,107],[109,101,116,97],[115,99,114,105,112,116],[115,116,121,108,101],[116,105,116,108,101]]
def cb:List (List UInt8):=[[98,111,100,121],[99,97,112,116,105,111,110],[104,116,109,108],[116,97,98,108,101],[116,100],[116,104]]
def lU:List (List UInt8):=[[97,100,100,114,101,115,115],[97,114,116,105,99,108,101],[97,115,105,100,101],[98,108,111,99,107,113,117,111,116,101],[99,101,110,116,101,114],[100,101,116,97,105,108,115],[100,105,97,108,111,103],[100,105,114],[100,105,118],[100,108],[102,105,101,108,100,115,101,116],[102,105,103,99,97,112,116,105,111,110],[102,105,103,117,114,101],[102,111,111,116,101,114],[102,111,114,109],[104,49],[104,50],[104,51],[104,52],[104,53],[104,54],[104,101,97,100,101,114],[104,103,114,111,117,112],[109,97,105,110],[109,101,110,117],[110,97,118],[111,108],[112],[112,114,101],[115,101,99,116,105,111,110],[115,117,109,109,97,114,121],[116,97,98,108,101],[117,108]]
def aT:List (List UInt8):=[[104,49],[104,50],[104,51],[104,52],[104,53],[104,54]]
def cV:List (List UInt8):=[[97],[98],[98,105,103],[99,111,100,101],[101,109],[102,111,110,116],[105],[110,111,98,114],[115],[115,109,97,108,108],[115,116,114,105,107,101],[115,116,114,111,110,103],[116,116],[117]]
def gY:List (List UInt8):=[[97,114,101,97],[98,97,115,101],[98,114],[99,111,108],[101,109,98,101,100],[104,114],[105,109,103],[105,110,112,117,116],[108,105,110,107],[109,101,116,97],[115,111,117,114,99,101],[116,114,97,99,107],[119,98,114]]
def bv:List (List UInt8):=[[99,97,112,116,105,111,110],[116,97,98,108,101],[116,98,111,100,121],[116,100],[116,102,111,111,116],[116,104],[116,104,101,97,100],[116,114]]
def mE:List (List UInt8):=[[115,99,114,105,112,116],[115,116,121,108,101],[116,101,120,116,97,114,101,97],[116,105,116,108,101]]
section
variable {pr:Prim}{s:AS}
theorem DG(h:pr 124=none):Ef pr 124 #[] s (.slice (sq s.nx) 6 6) (s.add (.cells (mD.map str).toArray 9)):=by
 refine EF.of h func124 rfl ?_;iterate 2 refine zs ?_
 exact yR
theorem mF(h:pr 131=none):Ef pr 131 #[] s (.slice (sq s.nx) 6 6) (s.add (.cells (cb.map str).toArray 9)):=by
 refine EF.of h func131 rfl ?_;iterate 2 refine zs ?_
 exact yR
theorem AJ(h:pr 133=none):Ef pr 133 #[] s (.slice (sq s.nx) 33 33) (s.add (.cells (lU.map str).toArray 9)):=by
 refine EF.of h func133 rfl ?_;iterate 2 refine zs ?_
 exact yR
theorem iP(h:pr 134=none):Ef pr 134 #[] s (.slice (sq s.nx) 6 6) (s.add (.cells (aT.map str).toArray 9)):=by
 refine EF.of h func134 rfl ?_;iterate 2 refine zs ?_
 exact yR
theorem uv(h:pr 137=none):Ef pr 137 #[] s (.slice (sq s.nx) 14 14) (s.add (.cells (cV.map str).toArray 9)):=by
 refine EF.of h func137 rfl ?_;iterate 2 refine zs ?_
 exact yR
theorem yu(h:pr 138=none):Ef pr 138 #[] s (.slice (sq s.nx) 13 13) (s.add (.cells (gY.map str).toArray 9)):=by
 refine EF.of h func138 rfl ?_;iterate 2 refine zs ?_
 exact yR
theorem r9(h:pr 142=none):Ef pr 142 #[] s (.slice (sq s.nx) 8 8) (s.add (.cells (bv.map str).toArray 9)):=by
 refine EF.of h func142 rfl ?_;iterate 2 refine zs ?_
 exact yR
theorem DI(h:pr 314=none):Ef pr 314 #[] s (.slice (sq s.nx) 4 4) (s.add (.cells (mE.map str).toArray 9)):=by
 refine EF.of h func314 rfl ?_;iterate 2 refine zs ?_
 exact yR
end
structure Nd where
 kind:Int
 parent:Int
 name:List UInt8
 text:List UInt8
 c9:jH
def Tw (s:AS)(x:aW)(u:Nd):Prop:=x.kind=u.kind∧x.parent=u.parent∧x.name=u.name∧x.text=u.text∧bT s x.c9 u.c9
def gP (s:AS)(xs:List aW)(us:List Nd):Prop:=xs.length=us.length∧∀(i:Nat) (x:aW) (u:Nd),xs[i]?=some x→us[i]?=some u→Tw s x u
def qE (s:AS)(v:Value)(xs:List aW):Prop:=∃d c fz,v=.slice (some ⟨d,0,none⟩) xs.length c∧Has s d (.cells (aX xs) 44 fz)
structure TS where
 nodes:List Nd
 row:List Nat
 again:List Nat
 w:Int
abbrev db(f:FuncId):Value:=.func (.func 66) #[.func (.func f) #[] #[]] #[]
abbrev nZ(nv rv av:Value)(w:Int):Obj:=.cells #[nv,rv,av,num w,db 65,db 67,db 68,db 69] 183
structure BT(s:AS)(b:Nat)(nv rv av:Value)(xs:List aW)(σ:TS):Prop where
 b:Has s b (nZ nv rv av σ.w)
 n:qE s nv xs
 m:gP s xs σ.nodes
 r:cC s rv σ.row
 a:cC s av σ.again
 ra:∀x,blk rv x→¬blk av x
 lt:∀k∈σ.row,k<σ.nodes.length
 la:∀k∈σ.again,k<σ.nodes.length
 ne:σ.row≠[]
 sz:σ.nodes.length≤100000∧σ.row.length≤40∧σ.again.length≤100000
def KB (b:Nat)(s:AS)(x:Nat):Prop:=x=b∨∃nv rv av w,s.get b=some (nZ nv rv av w)∧(blk nv x∨blk rv x∨blk av x)
def dw (b:Nat)(s s':AS):Prop:=aQ (KB b s) s s'∧∀x,x<s.nx→KB b s' x→KB b s x
section
variable {s s' s1 s2:AS}{b:Nat}{nv rv av Rl wM nM:Value}{w w':Int}{xs:List aW}{σ:TS}
theorem dw.refl(s:AS):dw b s s:=⟨aQ.refl s,fun _ _ h=>h⟩
theorem dw.trans(h:dw b s s1)(U:dw b s1 s2):dw b s s2:=by have hn:=h.1.1;exact⟨h.1.trans U.1 fun x hx z=>h.2 x hx z,fun x hx z=>h.2 x hx (U.2 x (by omega) z)⟩
theorem KB.at(h:s.get b=some (nZ nv rv av w)):KB b s x↔x=b∨blk nv x∨blk rv x∨blk av x:=by
 constructor
 ·rintro(z|⟨_,_,_,_,z,y⟩)
  ·exact .inl z
  ·rw[h] at z;cases z;exact .inr y
 ·rintro(z|z)
  ·exact .inl z
  ·exact .inr ⟨_,_,_,_,h,z⟩
theorem dw.mk'(h1:Has s b (nZ nv rv av w))(h2:Has s' b (nZ Rl wM nM w'))(hf:aQ (KB b s) s s')(hn:Rl=nv∨∀x,blk Rl x→s.nx≤x)(hr:(∀x,blk wM x→blk rv x)∨∀x,blk wM x→s.nx≤x)(U:(∀x,blk nM x→blk av x)∨∀x,blk nM x→s.nx≤x):dw b s s':=by
 refine⟨hf,fun x hx z=>(KB.at h1.2).2 ?_⟩;rcases(KB.at h2.2).1 z with z|z|z|z
 ·exact .inl z
 ·rcases hn with rfl|hn
  ·exact .inr (.inl z)
  ·have:=hn x z; omega
 ·rcases hr with hr|hr
  ·exact .inr (.inr (.inl (hr x z)))
  ·have:=hr x z; omega
 ·rcases U with U|U
  ·exact .inr (.inr (.inr (U x z)))
  ·have:=U x z; omega
theorem cC.blk(h:cC s v l)(U:YtgcaionclkbehaaGreatDoor.blk v x):∃cs fz,Has s x (.cells cs 3 fz):=by
 rcases h with ⟨rfl,_⟩|⟨d,cp,cs,fz,rfl,_,h1,h2,_⟩
 ·exact(cj U).elim
 ·rw[cW U]; exact⟨_,_,h1,h2⟩
theorem qE.blk(h:qE s nv xs)(U:YtgcaionclkbehaaGreatDoor.blk nv x):∃cs fz,Has s x (.cells cs 44 fz):=by obtain⟨d,c,fz,rfl,h⟩:=h;rw[cW U]; exact⟨_,_,h⟩
theorem BT.no(h:BT s b nv rv av xs σ){cs:Aq}{fz:Nat × Nat}(U:Has s x (.cells cs t fz))(h1:t≠183)(h2:t≠44)(h3:t≠3):¬KB b s x:=by
 intro z;rcases(KB.at h.b.2).1 z with z|z|z|z
 ·exact U.ne h.b h1 z
 ·obtain⟨_,_,z⟩:=h.n.blk z; exact U.ne z h2 rfl
 ·obtain⟨_,_,z⟩:=h.r.blk z; exact U.ne z h3 rfl
 ·obtain⟨_,_,z⟩:=h.a.blk z; exact U.ne z h3 rfl
theorem cC.fk(h:cC s v l)(hf:aQ K s s')(hk:∀x,YtgcaionclkbehaaGreatDoor.blk v x→¬K x):cC s' v l:=by
 rcases h with h|⟨d,cp,cs,fz,rfl,U,h1,h2,h3⟩
 ·exact .inl h
 ·have:=Has.fr ⟨h1,h2⟩ hf (hk d (eA _ _ _));exact .inr ⟨d,cp,cs,fz,rfl,U,this.1,this.2,h3⟩
theorem qE.fk(h:qE s nv xs)(U:aQ K s s')(hk:∀x,YtgcaionclkbehaaGreatDoor.blk nv x→¬K x):qE s' nv xs:=by obtain⟨d,c,fz,rfl,h⟩:=h;exact⟨d,c,fz,rfl,h.fr U (hk d (eA _ _ _))⟩
theorem gP.fk{us:List Nd}(h:gP s xs us)(hf:aQ K s s')(hk:∀x cs fz,Has s x (.cells cs 47 fz)→¬K x):gP s' xs us:=⟨h.1,fun i x u hx hu=>by
 obtain⟨h1,h2,h3,h4,U⟩:=h.2 i x u hx hu;refine⟨h1,h2,h3,h4,U.fk hf fun y hy=>?_⟩;rcases U with ⟨e,_⟩|⟨d,cp,fz,e,q1,q2⟩
 ·rw[e] at hy; exact(cj hy).elim
 ·rw[e] at hy;rw[cW hy];exact hk d _ _ ⟨q1,q2⟩⟩
theorem BT.fk(h:BT s b nv rv av xs σ)(U:aQ K s s')(hk:∀x cs t fz,Has s x (.cells cs t fz)→K x→t≠183∧t≠44∧t≠3∧t≠47):BT s' b nv rv av xs σ:=by
 have a0:∀x cs fz,Has s x (.cells cs 47 fz)→¬K x:=fun x cs fz hx z=>(hk x cs 47 fz hx z).2.2.2 rfl;refine⟨h.b.fr U fun z=>(hk _ _ _ _ h.b z).1 rfl,h.n.fk U fun x hx z=>?_,h.m.fk U a0,h.r.fk U fun x hx z=>?_,h.a.fk U fun x hx z=>?_,h.ra,h.lt,h.la,h.ne,h.sz⟩
 ·obtain⟨_,_,y⟩:=h.n.blk hx; exact(hk _ _ _ _ y z).2.1 rfl
 ·obtain⟨_,_,y⟩:=h.r.blk hx; exact(hk _ _ _ _ y z).2.2.1 rfl
 ·obtain⟨_,_,y⟩:=h.a.blk hx; exact(hk _ _ _ _ y z).2.2.1 rfl
theorem BT.add(h:BT s b nv rv av xs σ)(o:Obj):BT (s.add o) b nv rv av xs σ:=h.fk ((aQ.refl (K:=fun _=>False) s).add o) fun _ _ _ _ _ z=>z.elim
theorem dw.add(h:BT s b nv rv av xs σ)(o:Obj):dw b s (s.add o):=dw.mk' h.b (h.b.add o) ((aQ.refl s).add o) (.inl rfl) (.inl fun _ z=>z) (.inl fun _ z=>z)
theorem cC.len(h:cC s v l):∃ad cp,v=.slice ad l.length cp:=by
 rcases h with ⟨rfl,rfl⟩|⟨d,cp,cs,fz,rfl,U,h1,h2,h3⟩
 ·exact⟨none,0,rfl⟩
 ·exact⟨_,_,rfl⟩
variable {pr:Prim}
theorem Wx{a b c d:Option Value × Value}(ha:a.1=some a.2∧aU 20 a.2=true)(hb:b.1=some b.2∧aU 20 b.2=true)(hc:c.1=some c.2∧aU 20 c.2=true)(hd:d.1=some d.2∧aU 20 d.2=true):∀x∈[a,b,c,d],x.1=some x.2∧aU 20 x.2=true:=by
 intro x U;simp only[List.mem_cons,List.not_mem_nil,or_false] at U;rcases U with rfl|rfl|rfl|rfl
 ·exact ha
 ·exact hb
 ·exact hc
 ·exact hd
theorem BB(U:pr 232=none)(h:BT s b nv rv av xs σ):Ef pr 232 #[am b 0] s (num ((σ.row.length:Nat)-1:Int)) s:=by obtain⟨ad,cp,hv⟩:=h.r.len;have hb:=h.b;have kH:=h.sz.2.1;rw[hv] at hb;refine EF.of U func232 rfl ?_;refine zs (zr (zg 3 s (zp (yl b 1 (.slice ad σ.row.length cp) hb.2) (zk 1 (zp (ik (i:=((σ.row.length:Nat):Int)) (j:=1) (r:=((σ.row.length:Nat):Int)-1) rfl (by kernel_rfl) (by kernel_rfl) rfl (by omega)) (zf ?_))))));exact yR
theorem BT.node(h:BT s b nv rv av xs σ){u:Nd}(U:σ.nodes[k]?=some u):∃d c fz x,nv=.slice (sq d) σ.nodes.length c∧Has s d (.cells (aX xs) 44 fz)∧xs[k]?=some x∧Tw s x u∧k<σ.nodes.length:=by
 obtain⟨d,c,fz,hv,hd⟩:=h.n;have eH:k<σ.nodes.length:=(List.getElem?_eq_some_iff.1 U).1;have MC:k<xs.length:=by rw[h.m.1]; exact eH
 have hx:xs[k]?=some xs[k]:=List.getElem?_eq_getElem MC;exact⟨d,c,fz,xs[k],by rw[hv,h.m.1],hd,hx,h.m.2 k _ _ hx U,eH⟩
theorem cC.at(h:cC s v l)(hi:l[i]?=some k):∃d c cs fz,v=.slice (sq d) l.length c∧l.length≤c∧Has s d (.cells cs 3 fz)∧cs[i]?=some (num (k:Nat))∧i<l.length:=by
 have U:i<l.length:=(List.getElem?_eq_some_iff.1 hi).1;rcases h with ⟨_,rfl⟩|⟨d,cp,cs,fz,rfl,h0,h1,h2,h3⟩
 ·simp at U
 ·exact⟨d,cp,cs,fz,rfl,h0,⟨h1,h2⟩,h3 i k hi,U⟩
theorem M9(U:pr 231=none)(h:BT s b nv rv av xs σ){u:Nd}(hi:σ.row[i]?=some k)(hk:σ.nodes[k]?=some u):Ef pr 231 #[am b 0,num (i:Nat)] s (str u.name) s:=by
 obtain⟨nd,nc,nf,x,a1,a0,hx,hm,a2⟩:=h.node hk;obtain⟨rd,rc,cs,rf,ti,Ia,pM,sO,Ev⟩:=h.r.at hi;have hb:=h.b;rw[a1,ti] at hb;have mU:(aX xs)[k*5+2]?=some (str u.name):=by rw[ea hx 2 (by decide),← hm.2.2.1]; rfl
 have l1:=bH (P:=prog) (t:=38) underlying38 rfl hb.2 (off:=0) rfl;have l2:=bH (P:=prog) (t:=25) underlying25 rfl hb.2 (off:=1) rfl;have l3:=bH (P:=prog) (t:=3) underlying3 rfl pM.2 sO;generalize hN:σ.nodes.length=N at *;generalize hR:σ.row.length=R at *;refine EF.of U func231 rfl ?_;refine zs (EW.seq (EW.draw (by kernel_rfl) (by kernel_rfl) (by kernel_rfl) ?_));iterate 3 refine zq ?_
 refine zt s (zu (yl b 0 (.slice (sq nd) N nc) hb.2) ?_);iterate 3 refine zq ?_
 refine zt s (zu (yl b 1 (.slice (sq rd) R rc) hb.2) (zq (zu (yi rd 0 R rc i none .i64 (i:Nat) 1 (by omega) (by omega) (by omega)) (zt s (zu (bO (b:=rd) (off:=i) (v:=num (k:Nat)) rfl underlying3 rfl (by kernel_rfl) pM.2 sO) (zu (yi nd 0 N nc (k*5) none .i64 (k:Nat) 5 (by omega) (by omega) (by omega)) (zq (zt s (zu (bO (b:=nd) (off:=k*5+2) (v:=str u.name) rfl underlying9 rfl (by kernel_rfl) a0.2 mU) (zq (ET.nil ⟨aM [(aE prog 38 (am b 0) s,.slice (sq nd) N nc),(aE prog 25 (am b 1) s,.slice (sq rd) R rc),(aE prog 3 (am rd i) s,num (k:Nat))] (by kernel_rfl) (vM ⟨l1,rfl⟩ ⟨l2,rfl⟩ ⟨l3,rfl⟩),_,_,_,_,_,_,rfl,rfl,?_⟩)))))))))));exact yR
end
def nameAt(σ:TS)(i:Nat):List UInt8:=match σ.row[i]? with
 | some k=>match σ.nodes[k]? with
  | some u=>u.name
  | none=>[]
 | none=>[]
def qp(σ:TS)(l:List (List UInt8)):Nat→Int
 | 0 => -1
 | n+1=>if dC (nameAt σ n) l then ((n:Nat):Int) else qp σ l n
def iD(σ:TS)(l:List (List UInt8)):Int:=qp σ l σ.row.length
def mi(σ:TS)(Sr asked:List (List UInt8)):Int:=if iD σ asked<iD σ Sr then -1 else iD σ asked
theorem yk(σ:TS)(l:List (Bq)):∀n,-1≤qp σ l n∧qp σ l n<n
 | 0=>by simp[qp]
 | n+1=>by have:=yk σ l n;unfold qp;split<;>omega
theorem yj(σ:TS)(l:List (Bq)) : -1≤iD σ l∧iD σ l<σ.row.length:=yk σ l _
def dm (s:AS)(v:Value)(l:List (List UInt8)):Prop:=l.length≤1000∧∃d c fz,v=.slice (some ⟨d,0,none⟩) l.length c∧Has s d (.cells (l.map str).toArray 9 fz)
def G9(b:Nat)(v:Value)(at_:Int)(x:Nat→Value):TL:=[am b 0,v,x 2,x 3,num 0,num at_]++kl x 6 12
section
variable {s s':AS}{b:Nat}{nv rv av v v2:Value}{xs:List aW}{σ:TS}{pr:Prim}{l l2:List (Bq)}
theorem dm.fk(h:dm s v l)(hf:aQ K s s')(hk:∀x cs fz,Has s x (.cells cs 9 fz)→¬K x):dm s' v l:=by obtain⟨U,d,c,fz,rfl,h1⟩:=h;exact⟨U,d,c,fz,rfl,h1.fr hf (hk d _ _ h1)⟩
theorem dm.add(h:dm s v l)(o:Obj):dm (s.add o) v l:=h.fk ((aQ.refl (K:=fun _=>False) s).add o) fun _ _ _ _=>id
theorem dm.is(h:dm s v l)(U:pr 127=bL 127)(nm:Bq):Ef pr 127 #[str nm,v] s (.bool (dC nm l)) s:=by obtain⟨h0,d,c,fz,rfl,h1⟩:=h;exact pO U h1.2 h0 rfl
theorem BT.name(h:BT s b nv rv av xs σ)(U:pr 231=none)(hi:i<σ.row.length):Ef pr 231 #[am b 0,num (i:Nat)] s (str (nameAt σ i)) s:=by
 have hk:σ.row[i]?=some σ.row[i]:=List.getElem?_eq_getElem hi;have eH:=h.lt _ (List.getElem_mem hi);have hu:σ.nodes[σ.row[i]]?=some σ.nodes[σ.row[i]]:=List.getElem?_eq_getElem eH
 have:=M9 U h hk hu;unfold nameAt;rw[hk];simp only;rw[hu];exact this
theorem vL(a1:pr 222=none)(a2:pr 231=none)(a3:pr 232=none)(a0:pr 127=bL 127)(h:BT s b nv rv av xs σ)(ha:dm s v l):Ef pr 222 #[am b 0,v] s (num (iD σ l)) s:=by
 have hc:=BB a3 h;have kH:=h.sz;have mU:=fun i hi=>h.name (pr:=pr) a2 (i:=i) hi;have his:=fun nm=>ha.is (pr:=pr) a0 nm;generalize hR:σ.row.length=R at *;suffices hx:Ew pr (match Tryz.f222.body with|some c=>c|none=>.skip) ((#[am b 0,v]:Aq).toList++List.replicate (Tryz.f222.ntmps-(#[am b 0,v]:Aq).toList.length) undef) s (fun e U s1=>(e=.normal∨e=.ret)∧dA prog Tryz.f222 U s1=some (num (iD σ l))∧s1=s) from EF.of a1 func222 rfl hx
 refine zs (EW.seq (zr (zc 1 hc (zf (za s ?_)))));refine EW.fill (G9 b v (((R:Nat):Int)-1)) (by kernel_rfl) ?_;intro x0;refine EW.block ?_;refine EW.mono (EW.eD (Q:=fun e U s1=>(e=.exit 0∧s1=s∧iD σ l = -1∧∃x,U=G9 b v (-1) x)∨(e=.ret∧s1=s∧dA prog Tryz.f222 U s1=some (num (iD σ l)))) (fun m U s'=>m≤R∧s'=s∧iD σ l=qp σ l m∧∃x,U=G9 b v (((m:Nat):Int)-1) x) ?_ R _ _ ⟨Nat.le_refl _,rfl,by unfold iD; rw[hR],x0,rfl⟩) ?_
 ·rintro m U s' ⟨hm,rfl,hP,x,rfl⟩;cases m with
  | zero =>refine EW.seq (zr ?_);refine zf (za s' (zG (EW.exit ?_)));exact .inl ⟨rfl,rfl,hP,bG (by kernel_rfl)⟩
  | succ m =>
   have h1:=mU m (by omega);have h2:=his (nameAt σ m);unfold qp at hP;generalize nameAt σ m=nm at h1 h2 hP;rw[show((m+1:Nat):Int)-1=((m:Nat):Int) by omega];generalize dC nm l=bb at h2 hP;refine EW.seq (zr (zk 1 (zp (yb (num (m:Nat)) (num 0) (iI (b:=true) (decide_eq_true (by omega)))) (EO.nil (za s' (zT (EW.seq (EW.block (zr (zc 2 h1 (zc 1 h2 (EO.nil (za s' ?_)))))))))))));cases bb with
   | true =>rw[if_pos rfl] at hP;rw[hP];refine zH (zs ?_);exact EW.ret (.inr ⟨rfl,(by kernel_rfl),(by kernel_rfl)⟩)
   | false =>rw[if_neg (by decide)] at hP;refine zF (zx (zk 1 (zp (ik (i:=((m:Nat):Int)) (j:=1) (r:=((m:Nat):Int)-1) rfl (by kernel_rfl) (by kernel_rfl) rfl (by omega)) (zf ?_))));exact⟨m,Nat.lt_succ_self m,by omega,(by kernel_rfl),hP,bG (by kernel_rfl)⟩
 ·rintro e U s' (⟨rfl,rfl,h1,x,rfl⟩|⟨rfl,rfl,h1⟩)
  ·rw[h1];refine zs ?_;exact yR
  ·exact⟨.inr rfl,h1,rfl⟩
theorem Fc(a3:pr 235=none)(a0:pr 222=none)(a1:pr 231=none)(a2:pr 232=none)(U:pr 127=bL 127)(h:BT s b nv rv av xs σ)(hw:dm s v l)(ha:dm s v2 l2):Ef pr 235 #[am b 0,v,v2] s (num (mi σ l l2)) s:=by
 have h1:=vL a0 a1 a2 U h ha;have h2:=vL a0 a1 a2 U h hw;unfold mi
 have:=yj σ l;generalize iD σ l2=i2 at *;generalize iD σ l=i1 at *;refine EF.of a3 func235 rfl ?_;refine zs (zr (zc 2 h1 (zf (za s (EW.seq (zr (zc 3 h2 ?_)))))));by_cases eH:i2<i1
 ·rw[if_pos eH];refine zp (yb (num i2) (num i1) (bD (b:=true) (decide_eq_true eH))) (EO.nil (za s (zH (zs ?_))));exact EW.ret ⟨.inr rfl,(by kernel_rfl),(by kernel_rfl)⟩
 ·rw[if_neg eH];refine zp (yb (num i2) (num i1) (bD (b:=false) (decide_eq_false eH))) (EO.nil (za s (zF (zs ?_))));exact EW.ret ⟨.inr rfl,(by kernel_rfl),(by kernel_rfl)⟩
theorem dm.new(s:AS)(l:List (Bq))(n:Nat)(U:n=l.length)(h:l.length≤1000):dm (s.add (.cells (l.map str).toArray 9)) (.slice (sq s.nx) n n) l:=⟨h,s.nx,n,(0,0),by rw[U],Has.new s _⟩
theorem Na(a5:pr 243=none)(a0:pr 131=none)(a4:pr 235=none)(a1:pr 222=none)(a2:pr 231=none)(a3:pr 232=none)(U:pr 127=bL 127)(h:BT s b nv rv av xs σ)(ha:dm s v l):Ef pr 243 #[am b 0,v] s (num (mi σ cb l)) (s.add (.cells (cb.map str).toArray 9)):=by have h1:=mF (s:=s) a0;have h2:=Fc a4 a1 a2 a3 U (h.add (.cells (cb.map str).toArray 9)) (dm.new s cb 6 rfl (by decide)) (ha.add _);generalize mi σ cb l=i at *;refine EF.of a5 func243 rfl ?_;refine zs (zr (zc 1 h1 (zc 1 h2 (zf ?_))));exact yR
theorem Ax(U:pr 127=bL 127)(a1:pr 319=none)(a0:pr 142=none)(h:BT s b nv rv av xs σ){u:Nd}(hk:σ.nodes[k]?=some u):Ef pr 319 #[am b 0,num (k:Nat)] s (.bool (dC u.name bv)) (s.add (.cells (bv.map str).toArray 9)):=by
 have h2:=h.add (.cells (bv.map str).toArray 9);obtain⟨nd,nc,nf,x,H9,BO,hx,hm,Mz⟩:=h.node hk;have hb:=h.b;have iN:=h2.b;have Ga:=BO.add (.cells (bv.map str).toArray 9);rw[H9] at hb iN;have mU:(aX xs)[k*5+2]?=some (str u.name):=by rw[ea hx 2 (by decide),← hm.2.2.1]; rfl
 have l1:=bH (P:=prog) (t:=38) underlying38 rfl hb.2 (off:=0) rfl;have l2:=bH (P:=prog) (t:=38) underlying38 rfl iN.2 (off:=0) rfl;have l3:=bH (P:=prog) (t:=9) underlying9 rfl BO.2 mU;have l4:=bH (P:=prog) (t:=9) underlying9 rfl Ga.2 mU;have hc:=r9 (s:=s) a0;have hi:=pO (pr:=pr) (s:=s.add (.cells (bv.map str).toArray 9)) U (nm:=u.name) (l7:=bv) (d:=s.nx) (c:=8) (Has.new s _).2 (by decide) (bb:=dC u.name bv) rfl;generalize dC u.name bv=bb at hi ⊢;generalize s.add (.cells (bv.map str).toArray 9)=S at *;generalize hN:σ.nodes.length=N at *;refine EF.of a1 func319 rfl ?_;refine zs (EW.seq (EW.draw (by kernel_rfl) (by kernel_rfl) (by kernel_rfl) ?_));iterate 3 refine zq ?_
 refine zt s (zu (yl b 0 (.slice (sq nd) N nc) hb.2) (zq (zu (yi nd 0 N nc (k*5) none .i64 (k:Nat) 5 (by omega) (by omega) (by omega)) (zq (zt s (zu (bO (b:=nd) (off:=k*5+2) (v:=str u.name) rfl underlying9 rfl (by kernel_rfl) BO.2 mU) (yt hc (yt hi (zq (ET.nil ⟨aM [(aE prog 38 (am b 0) s,.slice (sq nd) N nc),(aE prog 38 (am b 0) S,.slice (sq nd) N nc),(aE prog 9 (am nd (k*5+2)) s,str u.name),(aE prog 9 (am nd (k*5+2)) S,str u.name)] (by kernel_rfl) (Wx ⟨l1,rfl⟩ ⟨l2,rfl⟩ ⟨l3,rfl⟩ ⟨l4,rfl⟩),_,_,_,_,_,_,rfl,rfl,?_⟩))))))))));exact yR
end
end Go.Proofs.YtgcaionclkbehaaGreatDoor
