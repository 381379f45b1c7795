import Derived.Test.YtgcaionclkbehaaGreatDoorH2
set_option linter.all false
set_option maxHeartbeats 2000000
set_option maxRecDepth 100000
namespace Go.Proofs.YtgcaionclkbehaaGreatDoor
open Go.Conc Go.RowKit Go.Lib Tryz
variable {P:Program}{kt:TypeId→Bool}{nm tx:Bq}{at_:Value}{aN:jH}{l:List Nat}
def BX (s:AS)(b:Nat)(σ:TS):Prop:=∃nv rv av xs,BT s b nv rv av xs σ
def TS.cur(σ:TS):Nat:=σ.row.getLastD 0
def TS.put(σ:TS)(u:Nd):TS:=⟨σ.nodes++[⟨u.kind,((σ.cur:Nat):Int),u.name,u.text,u.c9⟩],σ.row,σ.again,σ.w⟩
def TS.open_(σ:TS)(nm:List UInt8)(aN:jH):TS:=⟨(σ.put ⟨1,0,nm,[],aN⟩).nodes,if σ.row.length<40 then σ.row++[σ.nodes.length] else σ.row,σ.again,σ.w⟩
section
variable {s s':AS}{b:Nat}{nv rv av v v2:Value}{xs:List aW}{σ:TS}{pr:Prim}
theorem aQ.mono{K U:Nat→Prop}(h:aQ K s s')(hk:∀y,y<s.nx→K y→U y):aQ U s s':=⟨h.1,fun y hy hn=>h.2 y hy fun z=>hn (hk y hy z)⟩
theorem TS.vr(h:σ.row≠[]):σ.row[σ.row.length-1]?=some σ.cur:=by
 unfold TS.cur;rw[List.getLastD_eq_getLast?,← List.getLast?_eq_getElem?];cases U:σ.row.getLast? with
 | none=>exact absurd (List.getLast?_eq_none_iff.1 U) h
 | some k=>rfl
theorem jk(xs:List aW):(aX xs).size=xs.length*5:=by
 induction xs with
 | nil=>rfl
 | cons t ts U=>simp[aW.cells] at U ⊢; omega
theorem AK(xs:List aW)(x:aW):((aX xs).toList.take (xs.length*5)++x.cells).toArray=aX (xs++[x]):=by rw[List.take_of_length_le (by rw[Array.length_toList,jk]; exact Nat.le_refl _)];simp
theorem qE.lt(h:qE s nv xs):∀x,YtgcaionclkbehaaGreatDoor.blk nv x→x<s.nx:=fun x U=>by obtain⟨_,_,z⟩:=qE.blk h U; exact z.1
theorem RI(h:qE s nv xs)(x:aW)(U:xs.length≤1000000):∃w s',aZ prog 44 nv x.cells 1 s=some (w,s')∧w.cells=#[w]∧w.oneCell'=true∧qE s' w (xs++[x])∧aQ (fun y=>blk nv y) s s'∧∀y,blk w y→s.nx≤y:=by obtain⟨d,c,fz,rfl,hd⟩:=h;have kH:=jk xs;refine⟨_,_,fM (sz:=5) (by decide) hd.2 (by kernel_rfl) (by omega) (by omega),rfl,rfl,?_,(aQ.set (aQ.refl s) (fun _=>eA _ _ _) none).add _,fun b z=>Nat.le_of_eq (cW z).symm⟩;rw[AK];exact⟨s.nx,_,(1,1),by rw[List.length_append]; rfl,Has.new (s.set d none) _⟩
theorem gP.snoc{us:List Nd}{x:aW}{u:Nd}(h:gP s xs us)(hx:Tw s x u):gP s (xs++[x]) (us++[u]):=⟨by simp[h.1],fun i x' u' h1 h2=>by
 by_cases U:i<xs.length
 ·rw[List.getElem?_append_left U] at h1;rw[List.getElem?_append_left (by rw[← h.1]; exact U)] at h2;exact h.2 i x' u' h1 h2
 ·rw[List.getElem?_append_right (by omega)] at h1;rw[List.getElem?_append_right (by rw[← h.1]; omega),← h.1] at h2;match hq:i-xs.length with
  | 0=>rw[hq] at h1 h2; cases h1; cases h2; exact hx
  | q+1=>rw[hq] at h1; simp at h1⟩
abbrev Lt:Value:=.agg #[num 0,num 0,str [],str [],aG]
abbrev zl(kd pa:Int)(nm tx:List UInt8)(at_:Value):Obj:=.cells #[num kd,num pa,str nm,str tx,at_] 44
theorem EF.ofX{f:FuncId}{fn:Func}{b:Code}{args:Aq}{α:Sort _}{G:AS→α→Prop}(hp:pr f=none)(hf:P.funcs[f]?=some fn)(hb:fn.body=some b)(h:EW P kt pr b (args.toList++List.replicate (fn.ntmps-args.toList.length) undef) s (fun e U s1=>(e=.normal∨e=.ret)∧dA P fn U s1=some v∧∃x,G s1 x)):∃s' x,EF P kt pr f args s v s'∧G s' x:=by obtain⟨s',h1,x,h2⟩:=EF.gu hp hf hb h;exact⟨s',x,h1,h2⟩
theorem GS(a8:pr 217=none)(a9:pr 232=none)(h:BT s b nv rv av xs σ){kd pa:Int}(ha:bT s at_ aN)(hN:σ.nodes.length<100000) :
  ∃s' ae,Ef pr 217 #[am b 0,.agg #[num kd,num pa,str nm,str tx,at_]] s (.tuple #[]) s'∧BT s' b ae rv av (xs++[⟨kd,((σ.cur:Nat):Int),nm,tx,at_⟩]) (σ.put ⟨kd,pa,nm,tx,aN⟩)∧dw b s s':=by
 have ah:=h.sz;obtain⟨ad,cp,gC⟩:=ha.len;subst gC;have Oy:=ha.na;generalize aN.length=nA at *;obtain⟨rd,rc,cs,rf,ti,Ia,pM,sO,Ev⟩:=h.r.at (TS.vr h.ne);have hra:=pM.1;have a1:=h.add (zl kd pa nm tx (.slice ad nA cp));have a2:=Has.new s (zl kd pa nm tx (.slice ad nA cp));have a3:=pM.add (zl kd pa nm tx (.slice ad nA cp));have a4:=dw.add h (zl kd pa nm tx (.slice ad nA cp));have a5:bT (s.add (zl kd pa nm tx (.slice ad nA cp))) (.slice ad nA cp) aN:=ha.fk ((aQ.refl (K:=fun _=>False) s).add _) fun _ _=>id;have PG:b≠s.nx:=by have:=h.b.1; omega
 have aa:∀y,blk nv y→y≠s.nx:=fun y hy=>by have:=h.n.lt y hy; omega
 have ag:s.nx<(s.add (zl kd pa nm tx (.slice ad nA cp))).nx:=by simp
 have hc:=BB a9 a1;have a7:=a1.b;refine EF.ofX a8 func217 rfl ?_;refine zs (za (s.add (zl kd pa nm tx (.slice ad nA cp))) ?_);generalize s.add (zl kd pa nm tx (.slice ad nA cp))=S at *;rw[ti] at a7;have l1:=bH (P:=prog) (t:=25) underlying25 rfl a7.2 (off:=1) rfl;have l2:=bH (P:=prog) (t:=3) underlying3 rfl a3.2 sO;have a6:aQ (fun y=>y=s.nx) S (S.set s.nx (some (zl kd ((σ.cur:Nat):Int) nm tx (.slice ad nA cp)))):=aQ.set (K:=fun y=>y=s.nx) (aQ.refl S) (fun _=>rfl) _;have b2:=a2.put (zl kd ((σ.cur:Nat):Int) nm tx (.slice ad nA cp));have a0:∀{y:Nat} {cs:Aq} {t:TypeId} {fz:Nat × Nat},Has S y (.cells cs t fz)→t≠44→y≠s.nx:=fun hy ht=>hy.ne a2 ht;have bb:=a1.b.fr a6 PG;have b3:=a1.n.fk a6 aa;have b4:=a1.r.fk a6 fun y hy=>by obtain⟨_,_,z⟩:=a1.r.blk hy; exact a0 z (by decide)
 have b5:=a1.a.fk a6 fun y hy=>by obtain⟨_,_,z⟩:=a1.a.blk hy; exact a0 z (by decide)
 have b6:=a1.m.fk a6 fun y cs fz hy=>a0 hy (by decide);have b7:=a5.fk a6 fun y hy=>by
  rcases a5 with ⟨e,_⟩|⟨d,c,fz,e,q1,q2⟩
  ·rw[e] at hy; exact(cj hy).elim
  ·rw[e] at hy; rw[cW hy]; exact a0 (⟨q1,q2⟩:Has S d _) (by decide)
 have bf:aQ (KB b s) s (S.set s.nx (some (zl kd ((σ.cur:Nat):Int) nm tx (.slice ad nA cp)))):=aQ.set a4.1 (fun z=>absurd z (Nat.lt_irrefl _)) _;have UE:((σ.row.length:Nat):Int)-1=((σ.row.length-1:Nat):Int):=by omega
 rw[UE] at hc;generalize af:σ.row.length-1=R1 at *;refine EW.seq (EW.draw (by kernel_rfl) (by kernel_rfl) (by kernel_rfl) ?_);iterate 3 refine zq ?_
 refine zt S (zu (yl b 1 (.slice (sq rd) σ.row.length rc) a7.2) (zq (zt S (yt hc (zu (yi rd 0 σ.row.length rc R1 none .i64 (R1:Nat) 1 (by omega) (by omega) (by omega)) (zt S (zu (bO (b:=rd) (off:=R1) (v:=num ((σ.cur:Nat):Int)) rfl underlying3 rfl (by kernel_rfl) a3.2 sO) (zq (zt S (zu (ys s.nx 1 (num ((σ.cur:Nat):Int)) a2.2 (by simp)) (ET.nil ⟨aM [(aE prog 25 (am b 1) S,.slice (sq rd) σ.row.length rc),(aE prog 25 (am b 1) S,.slice (sq rd) σ.row.length rc)] (by kernel_rfl) (mM ⟨l1,rfl⟩ ⟨l1,rfl⟩),_,_,_,_,_,_,rfl,rfl,?_⟩)))))))))));refine za (S.set s.nx (some (zl kd ((σ.cur:Nat):Int) nm tx (.slice ad nA cp)))) ?_;generalize S.set s.nx (some (zl kd ((σ.cur:Nat):Int) nm tx (.slice ad nA cp)))=U at *;clear l1 l2 a1 a2 a3 a4 a5 hc a7 a6 a0;have m1:=bH (P:=prog) (t:=38) underlying38 rfl bb.2 (off:=0) rfl;have m2:aE prog 44 (am s.nx 0) U=some (.agg #[num kd,num ((σ.cur:Nat):Int),str nm,str tx,.slice ad nA cp]):=iA (off:=0) (n:=5) underlying44 rfl (by kernel_rfl) b2.2 (by simp);have e3:=b3.fk ((aQ.refl (K:=fun _=>False) U).add (zl kd ((σ.cur:Nat):Int) nm tx (.slice ad nA cp))) fun _ _=>id;have e6:=Has.new U (zl kd ((σ.cur:Nat):Int) nm tx (.slice ad nA cp));obtain⟨w,U3,c1,c2,c3,c4,c5,c6⟩:=RI e3 ⟨kd,((σ.cur:Nat):Int),nm,tx,.slice ad nA cp⟩ (by rw[h.m.1]; omega);have vE:aQ (fun y=>blk nv y) U U3:=((aQ.refl U).add _).trans c5 fun y _ z=>z;have hnb:¬blk nv b:=fun z=>by obtain⟨_,_,z⟩:=b3.blk z; exact bb.ne z (by decide) rfl
 have d1:=bb.fr vE hnb;have Jl:∀{y:Nat} {cs:Aq} {t:TypeId} {fz:Nat × Nat},Has U y (.cells cs t fz)→t≠44→¬blk nv y:=fun hy ht z=>by obtain⟨_,_,z⟩:=b3.blk z; exact hy.ne z ht rfl
 have d4:=b4.fk vE fun y hy=>by obtain⟨_,_,z⟩:=b4.blk hy; exact Jl z (by decide)
 have d5:=b5.fk vE fun y hy=>by obtain⟨_,_,z⟩:=b5.blk hy; exact Jl z (by decide)
 have d6:=b6.fk vE fun y cs fz hy=>Jl hy (by decide);have d7:=b7.fk vE fun y hy=>by
  rcases b7 with ⟨e,_⟩|⟨d,c,fz,e,q1,q2⟩
  ·rw[e] at hy; exact(cj hy).elim
  ·rw[e] at hy; rw[cW hy]; exact Jl (⟨q1,q2⟩:Has U d _) (by decide)
 have df:aQ (KB b s) s U3:=bf.trans vE fun y hy z=>(KB.at h.b.2).2 (.inr (.inl z));have tf:aQ (fun y=>y=b) U3 (U3.set b (some (nZ w rv av σ.w))):=aQ.set (K:=fun y=>y=b) (aQ.refl U3) (fun _=>rfl) _;have nq:∀{y:Nat} {cs:Aq} {t:TypeId} {fz:Nat × Nat},Has U3 y (.cells cs t fz)→t≠183→y≠b:=fun hy ht=>hy.ne d1 ht;have g1:=d1.put (nZ w rv av σ.w);have g3:=c4.fk tf fun y hy=>by obtain⟨_,_,z⟩:=c4.blk hy; exact nq z (by decide)
 have g4:=d4.fk tf fun y hy=>by obtain⟨_,_,z⟩:=d4.blk hy; exact nq z (by decide)
 have g5:=d5.fk tf fun y hy=>by obtain⟨_,_,z⟩:=d5.blk hy; exact nq z (by decide)
 have g6:=d6.fk tf fun y cs fz hy=>nq hy (by decide);have g7:=d7.fk tf fun y hy=>by
  rcases d7 with ⟨e,_⟩|⟨d,c,fz,e,q1,q2⟩
  ·rw[e] at hy; exact(cj hy).elim
  ·rw[e] at hy; rw[cW hy]; exact nq (⟨q1,q2⟩:Has U3 d _) (by decide)
 have gf:aQ (KB b s) s (U3.set b (some (nZ w rv av σ.w))):=aQ.set df (fun _=>.inl rfl) _;have xY:dx nv (sq U.nx)=true:=iX b3.lt;have Ti:∀y,blk w y→s.nx≤y:=fun y z=>by have:=c6 y z; have:=bf.1; simp at *; omega
 refine EW.draw (by kernel_rfl) (by kernel_rfl) (by kernel_rfl) ?_;iterate 4 refine zq ?_
 refine zt U (zu (yl b 0 nv bb.2) (zu (yA s.nx 0 5 #[num kd,num ((σ.cur:Nat):Int),str nm,str tx,.slice ad nA cp] b2.2 (by simp)) (zq (zt (U.add (zl kd ((σ.cur:Nat):Int) nm tx (.slice ad nA cp))) (zu (gZ (sl:=nv) (news:=[num kd,num ((σ.cur:Nat):Int),str nm,str tx,.slice ad nA cp]) (d:=U.nx) (m:=1) (k:=1) (sz:=5) (z:=Lt) (bytes:=72) rfl (by kernel_rfl) (by kernel_rfl) underlying38 (by kernel_rfl) rfl (by decide) (by decide) (by kernel_rfl) e6.2 xY (by decide) (by simp) (by simp) rfl c1) ?_)))));iterate 2 refine zq ?_
 refine zt U3 (zu (ir (b:=b) (off:=0) (w:=w) rfl (by kernel_rfl) (by kernel_rfl) c2 c3 (by kernel_rfl) d1.2 (by simp)) (ET.nil ⟨aM [(aE prog 38 (am b 0) U,nv),(aE prog 44 (am s.nx 0) U,.agg #[num kd,num ((σ.cur:Nat):Int),str nm,str tx,.slice ad nA cp])] (by kernel_rfl) (mM ⟨m1,by obtain⟨d,c,fz,e,_⟩:=b3; rw[e]; rfl⟩ ⟨m2,rfl⟩),_,_,_,_,_,_,rfl,rfl,?_⟩));refine⟨.inl rfl,(by kernel_rfl),w,⟨g1,g3,g6.snoc ⟨rfl,rfl,rfl,rfl,g7⟩,g4,g5,h.ra,fun k hk=>?_,fun k hk=>?_,h.ne,?_⟩,dw.mk' h.b g1 gf (.inr Ti) (.inl fun _ z=>z) (.inl fun _ z=>z)⟩
 ·have:=h.lt k hk; simp[TS.put]; omega
 ·have:=h.la k hk; simp[TS.put]; omega
 ·simp[TS.put]; omega
theorem cC.lt(h:cC s v l):∀x,YtgcaionclkbehaaGreatDoor.blk v x→x<s.nx:=fun x U=>by obtain⟨_,_,z⟩:=cC.blk h U; exact z.1
theorem RL(h:cC s v l)(i:Nat)(hl:l.length≤100000):∃w s',aZ prog 3 v [num (i:Nat)] 1 s=some (w,s')∧w.cells=#[w]∧w.oneCell'=true∧cC s' w (l++[i])∧aQ (fun y=>blk v y) s s'∧∀y,blk w y→s.nx≤y:=by
 obtain⟨w,s',h1,h2,h3,h4,h5,h6⟩:=GR h i hl;have hw:(∀y,blk w y→s.nx≤y)∧aQ (fun y=>blk v y) s s':=by
  rcases h with ⟨rfl,rfl⟩|⟨d,cp,cs,fz,rfl,q0,q1,q2,q3⟩
  ·rw[fZ (by decide)] at h1;cases h1;exact⟨fun y z=>Nat.le_of_eq (cW z).symm,(aQ.refl s).add _⟩
  ·have a0:l.length≤cs.size:=by
    by_cases h0:l.length=0
    ·omega
    ·have U:l.length-1<l.length:=by omega
     have:=(Array.getElem?_eq_some_iff.1 (q3 _ _ (List.getElem?_eq_getElem U))).1;omega
   rw[fM (sz:=1) (by decide) q2 (by kernel_rfl) (by omega) (by omega)] at h1;cases h1;exact⟨fun y z=>Nat.le_of_eq (cW z).symm,(aQ.set (aQ.refl s) (fun _=>eA _ _ _) none).add _⟩
 exact⟨w,s',h1,h5,h6,h3,hw.2,hw.1⟩
theorem AU(a4:pr 223=none)(a3:pr 217=none)(a5:pr 232=none)(h:BT s b nv rv av xs σ)(ha:bT s at_ aN)(hN:σ.nodes.length<100000) :
  ∃s',Ef pr 223 #[am b 0,str nm,at_] s (.tuple #[]) s'∧BX s' b (σ.open_ nm aN)∧dw b s s':=by
 obtain⟨S,a2,hP,p1,p2⟩:=GS a3 a5 h (kd:=1) (pa:=0) (nm:=nm) (tx:=[]) ha hN;obtain⟨ad,cp,gC⟩:=ha.len;subst gC;generalize aN.length=nA at *;obtain⟨a1,Lh,ti⟩:=p1.r.len;have Jo:(σ.put ⟨1,0,nm,[],aN⟩).row=σ.row:=rfl;have my:=p1.b;rw[Jo] at ti;refine EF.gu a4 func223 rfl ?_;refine zr (zc 4 hP (EO.nil (za S (zr (zg 3 S (zp (yl b 1 rv my.2) ?_))))));subst ti;refine zk 1 ?_;by_cases PE:σ.row.length<40
 ·have a6:(σ.nodes++[(⟨1,((σ.cur:Nat):Int),nm,[],aN⟩:Nd)]).length=σ.nodes.length+1:=by simp
  have a7:=p1.n;obtain⟨nd,nc,nf,H9,BO⟩:=a7;rw[p1.m.1,show(σ.put ⟨1,0,nm,[],aN⟩).nodes.length=σ.nodes.length+1 from a6] at H9;have e4:=p1.r.fk ((aQ.refl (K:=fun _=>False) S).add (.cells #[num ((σ.nodes.length:Nat):Int)] 3)) fun _ _=>id;have e6:=Has.new S (.cells #[num ((σ.nodes.length:Nat):Int)] 3);obtain⟨w,U,c1,c2,c3,c4,c5,c6⟩:=RL e4 σ.nodes.length (by rw[Jo]; omega);have vE:aQ (fun y=>blk (.slice a1 σ.row.length Lh) y) S U:=((aQ.refl S).add _).trans c5 fun y _ z=>z;have h3:∀{y:Nat} {cs:Aq} {t:TypeId} {fz:Nat × Nat},Has S y (.cells cs t fz)→t≠3→¬blk (.slice a1 σ.row.length Lh) y:=fun hy ht z=>by obtain⟨_,_,z⟩:=p1.r.blk z; exact hy.ne z ht rfl
  have d1:=p1.b.fr vE (h3 p1.b (by decide));have d3:=p1.n.fk vE fun y hy=>by obtain⟨_,_,z⟩:=p1.n.blk hy; exact h3 z (by decide)
  have d5:=p1.a.fk vE fun y hy z=>p1.ra y z hy;have d6:=p1.m.fk vE fun y cs fz hy=>h3 hy (by decide);have tf:aQ (fun y=>y=b) U (U.set b (some (nZ a2 w av σ.w))):=aQ.set (K:=fun y=>y=b) (aQ.refl U) (fun _=>rfl) _;have nq:∀{y:Nat} {cs:Aq} {t:TypeId} {fz:Nat × Nat},Has U y (.cells cs t fz)→t≠183→y≠b:=fun hy ht=>hy.ne d1 ht;have g1:=d1.put (nZ a2 w av σ.w);have g3:=d3.fk tf fun y hy=>by obtain⟨_,_,z⟩:=d3.blk hy; exact nq z (by decide)
  have g4:=c4.fk tf fun y hy=>by obtain⟨_,_,z⟩:=c4.blk hy; exact nq z (by decide)
  have g5:=d5.fk tf fun y hy=>by obtain⟨_,_,z⟩:=d5.blk hy; exact nq z (by decide)
  have g6:=d6.fk tf fun y cs fz hy=>nq hy (by decide);have gf:aQ (KB b S) S (U.set b (some (nZ a2 w av σ.w))):=aQ.set (vE.mono fun y _ q=>(KB.at p1.b.2).2 (.inr (.inr (.inl q)))) (fun _=>.inl rfl) _;have Ti:∀y,blk w y→S.nx≤y:=fun y z=>by have:=c6 y z; simp at this; omega
  have l1:=bH (P:=prog) (t:=25) underlying25 rfl my.2 (off:=1) rfl;have l2:=bH (P:=prog) (t:=38) underlying38 rfl my.2 (off:=0) rfl;subst H9;refine zp (yb (num (σ.row.length:Nat)) (num 40) (bD (b:=true) (decide_eq_true (by omega)))) (EO.nil (za S (zH ?_)));refine EW.draw (by kernel_rfl) (by kernel_rfl) (by kernel_rfl) ?_;iterate 4 refine zq ?_
  refine zt S (zu (yl b 1 (.slice a1 σ.row.length Lh) my.2) ?_);iterate 3 refine zq ?_
  refine zt S (zu (yl b 0 (.slice (sq nd) (σ.nodes.length+1) nc) my.2) (zq (zu (ik (i:=((σ.nodes.length+1:Nat):Int)) (j:=1) (r:=((σ.nodes.length:Nat):Int)) rfl (by kernel_rfl) (by kernel_rfl) (by omega) (by omega)) (zq (zt (S.add (.cells #[num ((σ.nodes.length:Nat):Int)] 3)) (zu (gZ (sl:=.slice a1 σ.row.length Lh) (news:=[num ((σ.nodes.length:Nat):Int)]) (d:=S.nx) (m:=1) (k:=1) (sz:=1) (z:=num 0) (bytes:=8) rfl (by kernel_rfl) (by kernel_rfl) underlying25 (by kernel_rfl) rfl (by decide) (by decide) (by kernel_rfl) e6.2 (iX p1.r.lt) (by decide) (by simp) (by simp) rfl c1) ?_))))));iterate 2 refine zq ?_
  refine zt U (zu (ir (b:=b) (off:=1) (w:=w) rfl (by kernel_rfl) (by kernel_rfl) c2 c3 (by kernel_rfl) d1.2 (by simp)) (ET.nil ⟨aM [(aE prog 25 (am b 1) S,.slice a1 σ.row.length Lh),(aE prog 38 (am b 0) S,.slice (sq nd) (σ.nodes.length+1) nc)] (by kernel_rfl) (mM ⟨l1,by cases a1<;>rfl⟩ ⟨l2,rfl⟩),_,_,_,_,_,_,rfl,rfl,?_⟩));refine⟨.inl rfl,(by kernel_rfl),⟨_,w,_,_,g1,g3,g6,?_,g5,fun y hy hz=>?_,fun k hk=>?_,fun k hk=>?_,?_,?_⟩,p2.trans (dw.mk' p1.b g1 gf (.inl rfl) (.inr Ti) (.inl fun _ z=>z))⟩
  ·show cC _ _ (if σ.row.length<40 then σ.row++[σ.nodes.length] else σ.row);rw[if_pos PE];exact g4
  ·have:=Ti y hy
   have:=p1.a.lt y hz;omega
  ·have a0:k∈(if σ.row.length<40 then σ.row++[σ.nodes.length] else σ.row):=hk;rw[if_pos PE,List.mem_append] at a0;show k<(σ.put ⟨1,0,nm,[],aN⟩).nodes.length;rcases a0 with a0|a0
   ·exact p1.lt k a0
   ·simp at a0; simp[TS.put]; omega
  ·exact p1.la k hk
  ·show(if σ.row.length<40 then σ.row++[σ.nodes.length] else σ.row)≠[];rw[if_pos PE];simp
  ·have:=p1.sz;refine⟨this.1,?_,this.2.2⟩;show(if σ.row.length<40 then σ.row++[σ.nodes.length] else σ.row).length≤40;rw[if_pos PE];simp;omega
 ·refine zp (yb (num (σ.row.length:Nat)) (num 40) (bD (b:=false) (decide_eq_false (by omega)))) (EO.nil (za S (zF ?_)));have e:σ.open_ nm aN=σ.put ⟨1,0,nm,[],aN⟩:=by unfold TS.open_; rw[if_neg PE]; rfl
  rw[e];exact⟨.inl rfl,(by kernel_rfl),⟨_,_,_,_,p1⟩,p2⟩
end
theorem Nj{c:fj}{a:TL}{s:AS}{o:Oper}{t e:TypeId}{x:Operand}{lo hi:Option Operand}{b off sz:Nat}{cs:Aq}{fz:Nat × Nat}(U:o.op=.slice t x lo hi none)(ht:P.underlying t=some (.slice e))(hx:a.at x=.slice (some ⟨b,off,none⟩) 0 0)(hs:s.get b=some (.cells cs e fz))(hz:bI P e=some sz)(hb:bF 0 0 (lo.map a.at) (hi.map a.at)=some (0,0)):bK P kt c a o s=some (.slice (some ⟨b,off,some 0⟩) 0 1,s):=by unfold bK;rw[if_neg (by rw[U]; simp[eV]),U];simp only;unfold fP;rw[ht,hx];simp only[Option.map_none];rw[hz,hs];simp only[if_true];rw[hb];rfl
def TS.v9(σ:TS)(nm:List UInt8)(aN:jH):TS:=if dC nm gY then σ.put ⟨1,0,nm,[],aN⟩ else σ.open_ nm aN
section
variable {s s':AS}{b:Nat}{nv rv av v v2 wM nM:Value}{xs:List aW}{σ:TS}{pr:Prim}{GW u0:List Nat}{w':Int}
theorem BT.upd(h:BT s b nv rv av xs σ)(hr:cC s wM GW)(ha:cC s nM u0)(a6:∀x,blk wM x→¬blk nM x)(a3:∀k∈GW,k<σ.nodes.length)(a2:∀k∈u0,k<σ.nodes.length)(a4:GW≠[])(a0:GW.length≤40∧u0.length≤100000)(a5:(∀x,blk wM x→blk rv x)∨∀x,blk wM x→s.nx≤x)(a1:(∀x,blk nM x→blk av x)∨∀x,blk nM x→s.nx≤x):BT (s.set b (some (nZ nv wM nM w'))) b nv wM nM xs ⟨σ.nodes,GW,u0,w'⟩∧dw b s (s.set b (some (nZ nv wM nM w'))):=by have U:aQ (fun y=>y=b) s (s.set b (some (nZ nv wM nM w'))):=aQ.set (K:=fun y=>y=b) (aQ.refl s) (fun _=>rfl) _;have nq:∀{y:Nat} {cs:Aq} {t:TypeId} {fz:Nat × Nat},Has s y (.cells cs t fz)→t≠183→y≠b:=fun hy ht=>hy.ne h.b ht;have g1:=h.b.put (nZ nv wM nM w');refine⟨⟨g1,h.n.fk U fun y hy=>by obtain⟨_,_,z⟩:=h.n.blk hy; exact nq z (by decide),h.m.fk U fun y cs fz hy=>nq hy (by decide),hr.fk U fun y hy=>by obtain⟨_,_,z⟩:=hr.blk hy; exact nq z (by decide),ha.fk U fun y hy=>by obtain⟨_,_,z⟩:=ha.blk hy; exact nq z (by decide),a6,a3,a2,a4,h.sz.1,a0.1,a0.2⟩,dw.mk' h.b g1 (U.mono fun y _ z=>.inl z) (.inl rfl) a5 a1⟩
theorem BT.G4(h:BT s b nv rv av xs σ)(w':Int):BT (s.set b (some (nZ nv rv av w'))) b nv rv av xs ⟨σ.nodes,σ.row,σ.again,w'⟩∧dw b s (s.set b (some (nZ nv rv av w'))):=h.upd h.r h.a h.ra h.lt h.la h.ne ⟨h.sz.2.1,h.sz.2.2⟩ (.inl fun _ z=>z) (.inl fun _ z=>z)
theorem Mt(a0:pr 220=none)(a1:pr 223=none)(U:pr 217=none)(a2:pr 232=none)(h:BX s b σ)(ha:bT s at_ aN)(hN:σ.nodes.length<100000) :
  ∃s',Ef pr 220 #[am b 0,at_] s (.tuple #[]) s'∧BX s' b { σ.open_ [104,101,97,100] aN with w:=1 }∧dw b s s':=by obtain⟨nv,rv,av,xs,h⟩:=h;obtain⟨S,h1,⟨YT,rv2,Ua,xs2,h2⟩,h3⟩:=AU a1 U a2 h (nm:=[104,101,97,100]) ha hN;obtain⟨h4,h5⟩:=h2.G4 1;refine EF.gu a0 func220 rfl ?_;refine zr (zc 2 h1 (EO.nil (za S (zx (zg 3 S (zp (ys b 3 (num 1) h2.b.2 (by simp)) (EO.nil ?_)))))));exact⟨.inl rfl,(by kernel_rfl),⟨_,_,_,_,h4⟩,h3.trans h5⟩
abbrev dX(t:eT):Obj:=.cells (fK t).toArray 60
theorem DT(a9:pr 228=none)(a7:pr 138=none)(a6:pr 127=bL 127)(a8:pr 223=none)(a0:pr 217=none)(a5:pr 232=none)(h:BX s b σ){t:eT}(ha:bT s t.at_ aN)(hN:σ.nodes.length<100000) :
  ∃s',Ef pr 228 #[am b 0,.agg (fK t).toArray] s (.tuple #[]) s'∧BX s' b (σ.v9 t.name aN)∧dw b s s':=by
 obtain⟨nv,rv,av,xs,h⟩:=h;obtain⟨kd,tx,nm,at_,cl⟩:=t;have ha:bT s at_ aN:=ha;obtain⟨ad,cp,gC⟩:=ha.len;subst gC;generalize aN.length=nA at *;have a1:=h.add (dX ⟨kd,tx,nm,.slice ad nA cp,cl⟩);have a2:=Has.new s (dX ⟨kd,tx,nm,.slice ad nA cp,cl⟩);have a3:=dw.add h (dX ⟨kd,tx,nm,.slice ad nA cp,cl⟩);have a4:bT (s.add (dX ⟨kd,tx,nm,.slice ad nA cp,cl⟩)) (.slice ad nA cp) aN:=ha.fk ((aQ.refl (K:=fun _=>False) s).add _) fun _ _=>id;generalize hS:s.add (dX ⟨kd,tx,nm,.slice ad nA cp,cl⟩)=S at *;have hv:=yu (s:=S) a7;have b1:=a1.add (.cells (gY.map str).toArray 9);have b2:=a2.add (.cells (gY.map str).toArray 9);have b3:=dw.add a1 (.cells (gY.map str).toArray 9);have b4:bT (S.add (.cells (gY.map str).toArray 9)) (.slice ad nA cp) aN:=a4.fk ((aQ.refl (K:=fun _=>False) S).add _) fun _ _=>id;have hi:=(dm.new S gY 13 rfl (by decide)).is (pr:=pr) a6 nm;have l1:=bH (P:=prog) (t:=9) underlying9 rfl a2.2 (off:=2) rfl;have l2:=bH (P:=prog) (t:=9) underlying9 rfl b2.2 (off:=2) rfl;generalize S.add (.cells (gY.map str).toArray 9)=U at *;obtain⟨V1,e1,nv1,p1,p2⟩:∃V1,Ef pr 217 #[am b 0,.agg #[num 1,num 0,str nm,str [],.slice ad nA cp]] U (.tuple #[]) V1∧∃Rl,BT V1 b Rl rv av (xs++[⟨1,((σ.cur:Nat):Int),nm,[],.slice ad nA cp⟩]) (σ.put ⟨1,0,nm,[],aN⟩)∧dw b U V1:=by obtain⟨x,y,z1,z2⟩:=GS a0 a5 b1 (kd:=1) (pa:=0) (nm:=nm) (tx:=[]) b4 hN;exact⟨x,z1,y,z2⟩
 obtain⟨V2,e2,q1,q2⟩:=AU a8 a0 a5 b1 (nm:=nm) b4 hN;unfold TS.v9;show ∃s',_∧BX s' b (if dC nm gY=true then _ else _)∧_;generalize dC nm gY=bb at hi ⊢;refine EF.gu a9 func228 rfl ?_;refine zs (za (s.add (dX ⟨kd,tx,nm,.slice ad nA cp,cl⟩)) ?_);rw[hS];refine EW.seq (EW.seq (EW.draw (by kernel_rfl) (by kernel_rfl) (by kernel_rfl) ?_));refine zq (zt S (zu (yl s.nx 2 (str nm) a2.2) (yt hv (yt hi (ET.nil ⟨aM [(aE prog 9 (am s.nx 2) S,str nm),(aE prog 9 (am s.nx 2) U,str nm)] (by kernel_rfl) (mM ⟨l1,rfl⟩ ⟨l2,rfl⟩),_,_,_,_,_,_,rfl,rfl,?_⟩)))));refine za U ?_;cases bb with
 | true =>refine zH ?_;refine zr (zg 2 U (zp (yl s.nx 2 (str nm) b2.2) (zg 1 U (zp (yl s.nx 3 (.slice ad nA cp) b2.2) (zc 1 e1 (EO.nil (za V1 ?_)))))));exact EW.ret ⟨.inr rfl,(by kernel_rfl),⟨_,_,_,_,p1⟩,(a3.trans b3).trans p2⟩
 | false =>refine zF ?_;refine zx (zg 2 U (zp (yl s.nx 2 (str nm) b2.2) (zg 1 U (zp (yl s.nx 3 (.slice ad nA cp) b2.2) (zc 0 e2 (EO.nil ?_))))));exact⟨.inl rfl,(by kernel_rfl),q1,(a3.trans b3).trans q2⟩
theorem Jg(U:pr 225=none)(h:BX s b σ){i:Nat}(hi:i<σ.row.length){ad:Option Addr}{cp:Nat}:Ef pr 225 #[am b 0,num (i:Nat),.slice ad 0 cp] s (.tuple #[]) s:=by
 obtain⟨nv,rv,av,xs,h⟩:=h;have Yl:σ.row[i]?=some σ.row[i]:=List.getElem?_eq_getElem hi;have eH:=h.lt _ (List.getElem_mem hi);generalize σ.row[i]=k at Yl eH;obtain⟨nd,nc,nf,x,H9,BO,hx,hm,Mz⟩:=h.node (List.getElem?_eq_getElem eH);obtain⟨rd,rc,cs,rf,ti,Ia,pM,sO,Ev⟩:=h.r.at Yl;have hb:=h.b;rw[H9,ti] at hb;have l1:=bH (P:=prog) (t:=38) underlying38 rfl hb.2 (off:=0) rfl;have l2:=bH (P:=prog) (t:=25) underlying25 rfl hb.2 (off:=1) rfl;have l3:=bH (P:=prog) (t:=3) underlying3 rfl pM.2 sO;clear hm hx;generalize hN:σ.nodes.length=N at *;generalize hR:σ.row.length=R at *;refine EF.of U func225 rfl ?_;refine EW.seq (EW.draw (by kernel_rfl) (by kernel_rfl) (by kernel_rfl) ?_);iterate 3 refine zq ?_
 refine zt s (zu (yl b 0 (.slice (sq nd) N nc) hb.2) ?_);iterate 3 refine zq ?_
 refine zt s (zu (yl b 1 (.slice (sq rd) R rc) hb.2) (zq (zu (yi rd 0 R rc i none .i64 (i:Nat) 1 (by omega) (by omega) (by omega)) (zt s (zu (bO (b:=rd) (off:=i) (v:=num (k:Nat)) rfl underlying3 rfl (by kernel_rfl) pM.2 sO) (zu (yi nd 0 N nc (k*5) none .i64 (k:Nat) 5 (by omega) (by omega) (by omega)) (zq (ET.nil ⟨aM [(aE prog 38 (am b 0) s,.slice (sq nd) N nc),(aE prog 25 (am b 1) s,.slice (sq rd) R rc),(aE prog 3 (am rd i) s,num (k:Nat))] (by kernel_rfl) (vM ⟨l1,rfl⟩ ⟨l2,rfl⟩ ⟨l3,rfl⟩),_,_,_,_,_,_,rfl,rfl,?_⟩))))))));refine EW.go 20 (by kernel_rfl) ?_;exact⟨.inl rfl,(by kernel_rfl),(by kernel_rfl)⟩
theorem wX(a5:pr 239=none)(h:BX s b σ)(ha:σ.again=[]):∃s',Ef pr 239 #[am b 0] s (.tuple #[]) s'∧BX s' b σ∧dw b s s':=by
 obtain⟨nv,rv,av,xs,h⟩:=h;have kH:=h.sz;obtain⟨a4,Lh,ti⟩:=h.r.len;have hb:=h.b;rw[ti] at hb;have a6:=h.a;rw[ha] at a6;obtain⟨u1,u2⟩:=h.upd (wM:=rv) (nM:=aG) (w':=σ.w) h.r (.inl ⟨rfl,rfl⟩) (fun x _ z=>cj z) h.lt (by simp) h.ne ⟨kH.2.1,by simp⟩ (.inl fun _ z=>z) (.inr fun x z=>(cj z).elim);have hσ:(⟨σ.nodes,σ.row,[],σ.w⟩:TS)=σ:=by rw[← ha]
 rw[hσ] at u1;obtain⟨a0,U,a7,a8⟩:∃a0 U,av=.slice a0 0 U∧((a0=none∧U=0)∨∃d cs fz,a0=some ⟨d,0,none⟩∧Has s d (.cells cs 3 fz)):=by
  rcases a6 with ⟨e,_⟩|⟨d,cp,cs,fz,e,_,q1,q2,_⟩
  ·exact⟨none,0,e,.inl ⟨rfl,rfl⟩⟩
  ·exact⟨_,cp,e,.inr ⟨d,cs,fz,rfl,q1,q2⟩⟩
 rw[a7] at hb;have l1:=bH (P:=prog) (t:=25) underlying25 rfl hb.2 (off:=1) rfl;have l2:=bH (P:=prog) (t:=25) underlying25 rfl hb.2 (off:=2) rfl;subst ti;subst a7;generalize hR:σ.row.length=R at *;have BN:(if (0:Int)<40-((R:Nat):Int) then (0:Int) else 40-((R:Nat):Int))=0:=by split<;>omega
 have a1:∀(a2:Option Addr) (a3:Nat) (x:Nq),Ew pr (match Tryz.f239.body with|some (.seq _ (.seq (.seq _ c) _))=>c|_=>.skip) ([am b 0,x 1,num 0,x 3,x 4,x 5]++kl x 6 17++[.slice a2 0 a3,num 0,num 0]++kl x 26 20) s (uP prog mB pr (match Tryz.f239.body with|some (.seq _ (.seq _ c))=>c|_=>.skip) (fun e a' s1=>(e=.normal∨e=.ret)∧dA prog Tryz.f239 a' s1=some (.tuple #[])∧BX s1 b σ∧dw b s s1)):=by intro a2 a3 x;refine EW.block ?_;refine EW.loop ?_;refine zs (EW.seq (zG (EW.exit (za s (zx (zg 3 s (zp (ys b 2 aG hb.2 (by simp)) (EO.nil ?_))))))));exact⟨.inl rfl,(by kernel_rfl),⟨_,_,_,_,u1⟩,u2⟩
 refine EF.gu a5 func239 rfl ?_;refine EW.seq (EW.draw (by kernel_rfl) (by kernel_rfl) (by kernel_rfl) ?_);iterate 3 refine zq ?_
 refine zt s (zu (yl b 1 (.slice a4 R Lh) hb.2) (zq (zu (ik (i:=40) (j:=((R:Nat):Int)) (r:=40-((R:Nat):Int)) rfl (by kernel_rfl) (by kernel_rfl) rfl (by omega)) ?_)));iterate 3 refine zq ?_
 refine zt s (zu (yl b 2 (.slice a0 0 U) hb.2) (zq (zt s (ET.op (v:=num 0) (s1:=s) (by kernel_rfl) ((show _=some (num (if (0:Int)<40-((R:Nat):Int) then 0 else 40-((R:Nat):Int)),s) by kernel_rfl).trans (by rw[BN])) (zq (ET.nil ⟨aM [(aE prog 25 (am b 1) s,.slice a4 R Lh),(aE prog 25 (am b 2) s,.slice a0 0 U)] (by kernel_rfl) (mM ⟨l1,by cases a4<;>rfl⟩ ⟨l2,by cases a0<;>rfl⟩),_,_,_,_,_,_,rfl,rfl,?_⟩))))));refine za s (EW.seq (zr (zg 3 s (zp (yl b 2 (.slice a0 0 U) hb.2) ?_))));rcases a8 with ⟨rfl,rfl⟩|⟨d,cs,fz,rfl,hd⟩
 ·refine zf (za s ?_);refine EW.fill (fun x=>[am b 0,x 1,num 0,x 3,x 4,x 5]++kl x 6 17++[.slice none 0 0,num 0,num 0]++kl x 26 20) (by kernel_rfl) ?_;exact fun x=>a1 none 0 x
 ·refine zg 1 s ?_;by_cases hc:0<U
  ·refine zp (se (b:=d) (off:=0) (n:=0) (cp:=U) (i:=0) (j:=0) (sz:=1) rfl underlying25 (by kernel_rfl) hd.2 (by kernel_rfl) (by kernel_rfl) hc) (zf (za s ?_));refine EW.fill (fun x=>[am b 0,x 1,num 0,x 3,x 4,x 5]++kl x 6 17++[.slice (sq d) 0 (U-0),num 0,num 0]++kl x 26 20) (by kernel_rfl) ?_;exact fun x=>a1 _ _ x
  ·obtain rfl:U=0:=by omega
   refine zp (Nj (b:=d) (off:=0) (sz:=1) rfl underlying25 (by kernel_rfl) hd.2 (by kernel_rfl) (by kernel_rfl)) (zf (za s ?_));refine EW.fill (fun x=>[am b 0,x 1,num 0,x 3,x 4,x 5]++kl x 6 17++[.slice (some ⟨d,0,some 0⟩) 0 1,num 0,num 0]++kl x 26 20) (by kernel_rfl) ?_;exact fun x=>a1 _ _ x
end
end Go.Proofs.YtgcaionclkbehaaGreatDoor
