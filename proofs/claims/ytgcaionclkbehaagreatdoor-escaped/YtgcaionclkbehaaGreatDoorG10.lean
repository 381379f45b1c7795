import Derived.Test.YtgcaionclkbehaaGreatDoorS15
set_option linter.all false
set_option maxHeartbeats 2000000
set_option maxRecDepth 100000
namespace Go.Proofs.YtgcaionclkbehaaGreatDoor
open Go.Conc Go.RowKit Go.Lib Tryz
variable {s s' s0 s1:AS}{dH:List Nat}{b c k k' n nb wk:Nat}{nd:Value}{l nm:Bq}{ns:List aW}{fz:Nat × Nat}{out:Nat→Bq}{vd:Nat→Bool}{d:DS}{r:Int}{aN:jH}{bb cl wh:Bool}
abbrev Px(b:Nat):Value:=.func (.func 82) #[am b 0] #[]
abbrev Je(b:Nat):Value:=.func (.func 83) #[am b 0] #[]
def su(nd:Value)(b wk K i:Nat)(x:Nat→Value):TL:=[nd,Px b,Je b,x 3,x 4,x 5,.bool false,am wk 0,x 8,x 9,x 10,x 11,x 12,nd,num (K:Nat),num (i:Nat)]++kl x 16 34
structure N9(pr:Prim):Prop where
 w:Lz pr
 Rx:pr 163=none
 Ry:pr 164=none
 Xm:pr 265=none
 Xj:pr 138=none
 p79:pr 79=none
theorem DR{v:Value}(h:cC s v dH)(hk:s.nx≤k):dx v (sq k)=true:=by
 rcases h with ⟨rfl,_⟩|⟨d,cp,cs,fz,rfl,_,q,_⟩
 ·rfl
 ·show(!d.beq k)=true;cases U:d.beq k
  ·rfl
  ·exact absurd (Nat.eq_of_beq_eq_true U) (by omega)
theorem cC.add{v:Value}(h:cC s v dH)(o:Obj):cC (s.add o) v dH:=by
 rcases h with h|⟨ob,cp,cs,fz,e1,U,e3,e4,e5⟩
 ·exact .inl h
 ·exact .inr ⟨ob,cp,cs,fz,e1,U,by simp; omega,by rw[AS.aH,if_neg (by omega)]; exact e4,e5⟩
theorem cC.set{v:Value}{o:Option Obj}(h:cC s v dH)(h3:Ih (s.get k)):cC (s.set k o) v dH:=by
 rcases h with h|⟨ob,cp,cs,fz,e1,e2,e3,U,e5⟩
 ·exact .inl h
 ·exact .inr ⟨ob,cp,cs,fz,e1,e2,by simpa using e3,by rw[AS.aK,if_neg (fun e=>by rw[e] at U; exact h3 _ _ U)]; exact U,e5⟩
theorem BE.ZX(h:BE s b nd l)(hx:s.nx≤s'.nx)(hf:∀k,k<s.nx→Ih (s.get k)→s'.get k=s.get k):BE s' b nd l:=by
 obtain⟨hb,p,sl,hs,hp,U⟩:=h;refine⟨by omega,p,sl,(hf b hb (kJ hs (by decide))).trans hs,hp,?_⟩;rcases U with h|⟨d,fz,q1,q2,q3⟩
 ·exact .inl h
 ·exact .inr ⟨d,fz,q1,by omega,(hf d q2 (kJ q3 (by decide))).trans q3⟩
theorem gO.v(h:gO b s s1):sU b wk s s1:=h.u.v
section
variable {pr:Prim}{s:AS}
structure uZ(pr:Prim)(s:AS)(ns:List aW)(out:Nat→List UInt8)(vd:Nat→Bool)(b nb c wk i:Nat)(x:aW):Prop where
 kind:x.kind=1∨x.kind=2
 root:i=0→x.kind=1∧x.name=[104,116,109,108]∧x.parent = -1
 inn:0<i→dO x.parent (cL ns out vd i).dH≠[]
 one:x.cells.all Value.oneCell'=true
 len:(cL ns out vd i).oR.length+(bE ns (dU x.parent (cL ns out vd i).dH)).length+(out i).length≤700000
 ZO:∀s' l',sU b wk s s'→BE s' b (eE nb ns.length c) l'→l'.length+(out i).length≤800000→∃OC,EF prog mB pr 82 #[am b 0,num (i:Nat)] s' (.tuple #[]) OC∧BE OC b (eE nb ns.length c) (l'++out i)∧gO b s' OC
 XH:x.kind=1→∀(s':AS) (d:Nat),s'.get d=some (.cells l8 9)→EF prog mB pr 127 #[str x.name,.slice (some ⟨d,0,none⟩) 13 13] s' (.bool (vd i)) s'
theorem D5(hp:N9 pr){i:Nat}{x:aW}{v:Value}{y:Nq}{Q:Exit→TL→AS→Prop}(ai:sU b wk s0 s)(hx:ns[i]?=some x)(a1:uZ pr s0 ns out vd b nb c wk i x)(h:BE s b (eE nb ns.length c) (cL ns out vd i).oR)(a5:s0.get nb=some (.cells (aX ns) 44 fz))(bc:nb<s0.nx)(b5:∃l0,BE s0 b (eE nb ns.length c) l0)(af:nb≠wk)(aw:s.get wk=some (ng (eE nb ns.length c) v b))(bn:wk<s.nx)(hv:cC s v (cL ns out vd i).dH)(ak:ns.length≤100000)
 (hq:∀s' v' y',sU b wk s0 s'→BE s' b (eE nb ns.length c) (cL ns out vd (i+1)).oR→s'.get wk=some (ng (eE nb ns.length c) v' b)→wk<s'.nx→cC s' v' (cL ns out vd (i+1)).dH→Q .normal (su (eE nb ns.length c) b wk ns.length (i+1) y') s'):∀cd,(match Tryz.f79.body with|some (.seq _ (.seq _ (.seq (.seq _ (.block _ (.loop cd))) _)))=>cd|_=>.skip)=cd→Ew pr cd (su (eE nb ns.length c) b wk ns.length i y) s Q:=by
 rintro cd rfl;have hi:i<ns.length:=(List.getElem?_eq_some_iff.1 hx).1;obtain⟨kH,Jh⟩:=ji hx;have Ic:=HT ns out vd i;have ul:cL ns out vd (i+1)=⟨dO x.parent (cL ns out vd i).dH++(if x.kind=1∧vd i=false then [i] else []),(cL ns out vd i).oR++bE ns (dU x.parent (cL ns out vd i).dH)++out i⟩:=by show stepW ns out vd i (cL ns out vd i)=_;unfold stepW;rw[hx]
 rw[ul] at hq;simp only at hq;have bh:=a1.len;have Vn:=a1.inn;generalize hW:cL ns out vd i=W at *;obtain⟨l0,UN⟩:=b5;obtain⟨_,pb0,XF,VU,_⟩:=UN;have hn:s.get nb=some (.cells (aX ns) 44 fz):=(ai.2 nb bc (jF a5 VU (by decide)) af (dg a5 (by decide)) (kJ a5 (by decide))).trans a5;have hnbs:nb<s.nx:=by have:=ai.1; omega
 have bj:=h.1;have rW:(s.add cg).get s.nx=some cg:=by rw[AS.aH,if_pos rfl]
 have ao:((s.add cg).set s.nx (some (.cells x.cells.toArray 44))).get s.nx=some (.cells x.cells.toArray 44):=by rw[AS.aK,if_pos rfl]
 have au:BE ((s.add cg).set s.nx (some (.cells x.cells.toArray 44))) b (eE nb ns.length c) W.oR:=(h.add _).set (by omega) (dg rW (by decide));have wI:gO b s ((s.add cg).set s.nx (some (.cells x.cells.toArray 44))):=(gO.add b s _).set (Nat.le_refl _);have VE:s.nx<((s.add cg).set s.nx (some (.cells x.cells.toArray 44))).nx:=by simp
 have ax:((s.add cg).set s.nx (some (.cells x.cells.toArray 44))).get wk=some (ng (eE nb ns.length c) v b):=by rw[AS.aK,if_neg (by omega),AS.aH,if_neg (by omega)]; exact aw
 have a6:((s.add cg).set s.nx (some (.cells x.cells.toArray 44))).get nb=some (.cells (aX ns) 44 fz):=by rw[AS.aK,if_neg (by omega),AS.aH,if_neg (by omega)]; exact hn
 have be:cC ((s.add cg).set s.nx (some (.cells x.cells.toArray 44))) v W.dH:=hv.fr (wk:=wk) h aw wI.u;have At:=a1.one;refine zr (zp (yb (num (i:Nat)) (num (ns.length:Nat)) (bD (b:=true) (decide_eq_true (by omega)))) (EO.nil (EW.seq (zT (EW.seq (EW.block (za s (zr (zg 1 s (zp (yi nb 0 ns.length c (i*5) none .i64 (i:Nat) 5 (by omega) (by omega) (by omega)) (zo s (zp (g8 (b:=nb) (off:=i*5) (n:=5) (r:=x.cells.toArray) rfl underlying44 rfl (by kernel_rfl) (by kernel_rfl) hn kH Jh) (zg 2 (s.add cg) (zp (ek (b:=s.nx) (off:=0) (w:=.agg x.cells.toArray) (ws:=x.cells) rfl (by kernel_rfl) (by kernel_rfl) rfl At (by kernel_rfl) rW (by simp[aW.cells])) (EO.nil (za ((s.add cg).set s.nx (some (.cells x.cells.toArray 44))) ?_))))))))))))))));generalize (s.add cg).set s.nx (some (.cells x.cells.toArray 44))=s1 at *;generalize hB:s.nx=B at *;have PG:B≠b:=by omega
 have b3:B≠wk:=by omega
 have ay:wk<s1.nx:=by omega
 have ae:nb<s1.nx:=by omega
 have ar:=mh x.parent W.dH;have UU:=congrArg List.length ar;rw[List.length_append] at UU;obtain⟨s2,hE,iN,jT,v2,tp,QJ⟩:=tT (pr:=pr) hp.w hp.Rx (p:=x.parent) (base:=dO x.parent W.dH) (eF:=dU x.parent W.dH) au a6 ae ax ay (by rw[ar]; exact be) (fun k hk=>⟨J2 hk,by have:=Ic.1 k (GL hk); omega⟩) (CU _ _) (by omega) ak (by omega);have Dd:=(jT.2 B (by omega) PG b3 (dg ao (by decide))).trans ao;have H8:=(jT.2 nb ae (fun e=>by obtain⟨_,p,sl,hs,_⟩:=au; exact jF a6 hs (by decide) e) af (dg a6 (by decide))).trans a6;have MS:wk<s2.nx:=by have:=jT.1; omega
 have b6:(dO x.parent W.dH).length≤100000:=by omega
 obtain⟨s3,hF,aq,a2⟩:∃s',Ef pr 164 #[am wk 0,num (i:Nat)] s2 (.bool true) s'∧(∀b1 l',BE s2 b b1 l'→BE s' b b1 l')∧gO b s2 s':=by
  by_cases av:i=0
  ·obtain⟨r1,r2,r3⟩:=a1.root av;exact Jc (pr:=pr) hp.Ry H8 tp MS hx At ak av r1 r2 r3
  ·exact Jd (pr:=pr) hp.Ry H8 tp MS hx At ak hp.Xm (by omega) a1.kind QJ (Vn (by omega)) b6
 have ag:=aq _ _ iN;have UP:=iN;obtain⟨_,pb2,slb2,VV,_⟩:=iN;have Dp:=(a2.2 wk MS (jF tp VV (by decide)) (dg tp (by decide))).trans tp;have PS:=(a2.2 B (by have:=jT.1; omega) PG (dg Dd (by decide))).trans Dd;have Wc:wk<s3.nx:=by have:=a2.1; omega
 have bf:cC s3 v2 (dO x.parent W.dH):=QJ.fr (wk:=wk) UP tp a2.u;have pg:sU b wk s0 s3:=((ai.trans wI.v).trans jT.v).trans a2.v;obtain⟨U,hG,H0,tf⟩:=a1.ZO s3 _ pg ag (by rw[List.length_append]; omega);have UQ:=ag;obtain⟨hbs3,pb3,slb3,VW,_⟩:=ag;have QP:=(tf.2 wk Wc (jF Dp VW (by decide)) (dg Dp (by decide))).trans Dp;have ya:=(tf.2 B (by have:=jT.1; have:=a2.1; omega) PG (dg PS (by decide))).trans PS;have Wd:wk<U.nx:=by have:=tf.1; omega
 have bi:B<U.nx:=by have:=jT.1; have:=a2.1; have:=tf.1; omega
 have a7:sU b wk s0 U:=pg.trans tf.v;have um:=a1.XH;have Qi:=a1.kind;have YB:cC U v2 (dO x.parent W.dH):=bf.fr (wk:=wk) UQ Dp tf.u;have htop:W.oR++bE ns (dU x.parent W.dH)++out i=W.oR++bE ns (dU x.parent W.dH)++out i:=rfl;generalize X8:eE nb ns.length c=nd at *;generalize hK:ns.length=K at *;generalize hbs:dO x.parent W.dH=bs at *;generalize vI:W.oR++bE ns (dU x.parent W.dH)++out i=tx at *;have Al:∀(a8:TL) (s8:AS) (v8:Value),(∃y',a8=su nd b wk K i y')→sU b wk s0 s8→BE s8 b nd tx→s8.get wk=some (ng nd v8 b)→wk<s8.nx→cC s8 v8 (bs++(if x.kind=1∧vd i=false then [i] else []))→Ew pr (match Tryz.f79.body with|some (.seq _ (.seq _ (.seq (.seq _ (.block _ (.loop (.seq _ (.seq _ (.seq _ cd)))))) _)))=>cd|_=>.skip) a8 s8 Q:=by
  rintro a8 s8 v8 ⟨y',rfl⟩ q1 q2 q3 q4 q5;refine EW.mono (Q:=fun e a' b2=>e=.normal∧b2=s8∧∃y',a'=su nd b wk K (i+1) y') ?_ ?_
  ·refine zx (zp (yp (i:Nat) 1 ((i+1:Nat):Int) (by omega) (by omega)) (zf ?_));exact⟨rfl,by kernel_rfl,bG (by kernel_rfl)⟩
  ·rintro e a' b2 ⟨rfl,rfl,y2,rfl⟩;exact hq _ v8 y2 q1 q2 q3 q4 q5
 refine zr (zg 1 s1 (zp (yl B 1 (num x.parent) ao) (zc 0 hE (EO.nil (za s2 (EW.seq (zr (zc 1 hF (zf (za s3 (zF (zr (zg 2 s3 (yc #[am b 0] #[] hG (EO.nil (za U ?_))))))))))))))));have bk:=bH (P:=prog) (t:=3) underlying3 rfl ya (off:=0) rfl;have F8:=bH (P:=prog) (t:=9) underlying9 rfl ya (off:=2) rfl;rcases Qi with H6|Dh
 ·have a9:x.cells.toArray[0]?=some (num 1):=by show some (num x.kind)=_; rw[H6]
  have a3:=bH (P:=prog) (t:=3) underlying3 rfl ya a9;have V9:=um H6 (U.add (.cells l8 9)) U.nx (by rw[AS.aH,if_pos rfl]);have hvo:=N5 (pr:=pr) (s:=U) hp.Xj;have UW:(U.add (.cells l8 9)).get B=some (.cells x.cells.toArray 44):=by rw[AS.aH,if_neg (by omega)]; exact ya
  have ba:=bH (P:=prog) (t:=9) underlying9 rfl UW (off:=2) (v:=str x.name) rfl;have Js:(U.add (.cells l8 9)).get wk=some (ng nd v2 b):=by rw[AS.aH,if_neg (by omega)]; exact QP
  have ah:=H0.add (.cells l8 9);have V8:=YB.add (.cells l8 9);have Yh:sU b wk s0 (U.add (.cells l8 9)):=a7.trans (gO.add b U _).v;have We:wk<(U.add (.cells l8 9)).nx:=by simp; omega
  generalize bl:U.add (.cells l8 9)=s5 at *;generalize bm:vd i=vv at *;refine EW.seq (EW.draw (by kernel_rfl) (by kernel_rfl) (by kernel_rfl) ?_);refine zq (zt U (zu (bO (b:=B) (off:=0) (v:=num 1) rfl underlying3 rfl (by kernel_rfl) ya a9) ?_));iterate 3 refine zq ?_
  refine zt U (zu (yl B 2 (str x.name) ya) (zt U (yt hvo (yt V9 ?_))));iterate 2 refine zq ?_
  refine ET.nil ⟨aM [(aE prog 3 (am B 0) U,num 1),(aE prog 9 (am B 2) U,str x.name),(aE prog 9 (am B 2) s5,str x.name)] (by kernel_rfl) (vM ⟨a3,rfl⟩ ⟨F8,rfl⟩ ⟨ba,rfl⟩),_,_,_,_,_,_,rfl,rfl,?_⟩;refine za s5 ?_;cases vv with
  | true =>refine zF ?_;exact Al _ _ v2 (bG (by kernel_rfl)) Yh ah Js We (by rw[if_neg (by simp),List.append_nil]; exact V8)
  | false =>
   have b8:(s5.add (.cells #[num (i:Nat)] 3)).get s5.nx=some (.cells #[num (i:Nat)] 3):=by rw[AS.aH,if_pos rfl]
   obtain⟨v7,s7,b4,al,bg,aj,b7,bd⟩:=GR (V8.add (.cells #[num (i:Nat)] 3)) i (by omega);have QQ:(s5.add (.cells #[num (i:Nat)] 3)).get wk=some (ng nd v2 b):=by rw[AS.aH,if_neg (by omega)]; exact Js
   have az:wk<(s5.add (.cells #[num (i:Nat)] 3)).nx:=by simp; omega
   have a4:=(aj wk az (kJ QQ (by decide))).trans QQ;have SX:=(ah.add (.cells #[num (i:Nat)] 3)).ZX al aj;have xY:=DR V8 (k:=s5.nx) (Nat.le_refl _);have UR:=ah;obtain⟨_,pb5,slb5,VX,_⟩:=UR;have hwb:wk≠b:=jF Js VX (by decide);have Wj:s5.nx≤s7.nx:=Nat.le_trans (by simp) al;have Vb:sU b wk s5 s7:=by
    refine⟨Wj,fun k hk _ _ _ h3=>?_⟩;have e:(s5.add (.cells #[num (i:Nat)] 3)).get k=s5.get k:=by rw[AS.aH,if_neg (by omega)]
    rw[aj k (by simp; omega) (by rw[e]; exact h3),e]
   have b9:sU b wk s0 s7:=Yh.trans Vb;refine zH (zx (zg 1 s5 (zp (yl wk 1 v2 Js) (zg 2 (s5.add (.cells #[num (i:Nat)] 3)) (zp (Cm (sl:=v2) (z:=num 0) (w:=num (i:Nat)) (d:=s5.nx) (k:=1) (bytes:=8) rfl (by kernel_rfl) (by kernel_rfl) underlying25 (by kernel_rfl) rfl (by decide) (by kernel_rfl) b8 xY rfl b4) (zg 1 s7 (zp (ir (b:=wk) (off:=1) (w:=v7) rfl (by kernel_rfl) (by kernel_rfl) b7 bd (by kernel_rfl) a4 (by simp)) (EO.nil ?_))))))));refine Al _ (s7.set wk (some (ng nd v7 b))) v7 (bG (by kernel_rfl)) (b9.trans uY.G4.v) (SX.set hwb (dg a4 (by decide))) (by rw[AS.aK,if_pos rfl]) (by have:=al; simp; omega) ?_;rw[if_pos ⟨H6,rfl⟩];exact bg.set (kJ a4 (by decide))
 ·have aa:x.cells.toArray[0]?=some (num 2):=by show some (num x.kind)=_; rw[Dh]
  have a3:=bH (P:=prog) (t:=3) underlying3 rfl ya aa;refine EW.seq (EW.draw (by kernel_rfl) (by kernel_rfl) (by kernel_rfl) ?_);refine zq (zt U (zu (bO (b:=B) (off:=0) (v:=num 2) rfl underlying3 rfl (by kernel_rfl) ya aa) ?_));iterate 2 refine zq ?_
  iterate 5 refine ET.pass (by kernel_rfl) ?_
  refine zq (ET.nil ⟨aM [(aE prog 3 (am B 0) U,num 2)] (by kernel_rfl) (fun z hz=>by rw[List.mem_singleton.1 hz]; exact⟨a3,rfl⟩),_,_,_,_,_,_,rfl,rfl,?_⟩);refine za U (zF ?_);exact Al _ _ v2 (bG (by kernel_rfl)) a7 H0 QP Wd (by rw[if_neg (by rw[Dh]; simp),List.append_nil]; exact YB)
end
abbrev pd:Obj:=.cells #[.slice none 0 0,.slice none 0 0,.nilFunc] 209
section
variable {pr:Prim}{s:AS}
theorem NX(hp:N9 pr)(h:BE s b (eE nb ns.length c) [])(hn:s.get nb=some (.cells (aX ns) 44 fz))(a1:nb<s.nx)(a2:ns.length≤100000)(a8:0<ns.length)(a5:∀i x,ns[i]?=some x→uZ pr s ns out vd b nb c s.nx i x)(a7:(cL ns out vd ns.length).oR.length+(bE ns (cL ns out vd ns.length).dH).length≤800000) :
  ∃s',Ef pr 79 #[eE nb ns.length c,Px b,Je b] s (.bool true) s'∧BE s' b (eE nb ns.length c) ((cL ns out vd ns.length).oR++bE ns (cL ns out vd ns.length).dH)∧sU b s.nx s s':=by
 have aa:=h.1;have rW:(s.add pd).get s.nx=some pd:=by rw[AS.aH,if_pos rfl]
 have a6:((s.add pd).set s.nx (some (ng (eE nb ns.length c) (.slice none 0 0) b))).get s.nx=some (ng (eE nb ns.length c) (.slice none 0 0) b):=by rw[AS.aK,if_pos rfl]
 have a4:BE ((s.add pd).set s.nx (some (ng (eE nb ns.length c) (.slice none 0 0) b))) b (eE nb ns.length c) []:=(h.add _).set (by omega) (dg rW (by decide));have H5:sU b s.nx s ((s.add pd).set s.nx (some (ng (eE nb ns.length c) (.slice none 0 0) b))):=((gO.add b s _).set (Nat.le_refl _)).v;have Wi:s.nx<((s.add pd).set s.nx (some (ng (eE nb ns.length c) (.slice none 0 0) b))).nx:=by simp
 refine EF.gu hp.p79 func79 rfl ?_;refine zs (zr (zg 4 (s.add pd) (zp (ek (b:=s.nx) (off:=0) (w:=.agg #[eE nb ns.length c,.slice none 0 0,Je b]) (ws:=[eE nb ns.length c,.slice none 0 0,Je b]) rfl (by kernel_rfl) (by kernel_rfl) rfl rfl (by kernel_rfl) rW (by simp)) (EO.nil (za ((s.add pd).set s.nx (some (ng (eE nb ns.length c) (.slice none 0 0) b))) ?_)))));generalize (s.add pd).set s.nx (some (ng (eE nb ns.length c) (.slice none 0 0) b))=s1 at *;refine EW.seq (zs (za s1 ?_));refine EW.fill (su (eE nb ns.length c) b s.nx ns.length 0) (by kernel_rfl) ?_;intro y0;refine EW.block ?_;refine EW.mono (EW.eD (Q:=fun e a' s'=>e=.exit 0∧sU b s.nx s s'∧BE s' b (eE nb ns.length c) (cL ns out vd ns.length).oR∧(∃U,s'.get s.nx=some (ng (eE nb ns.length c) U b)∧cC s' U (cL ns out vd ns.length).dH)∧s.nx<s'.nx∧∃y,a'=su (eE nb ns.length c) b s.nx ns.length ns.length y) (fun m a' s'=>∃i,i+m=ns.length∧sU b s.nx s s'∧BE s' b (eE nb ns.length c) (cL ns out vd i).oR∧(∃U,s'.get s.nx=some (ng (eE nb ns.length c) U b)∧cC s' U (cL ns out vd i).dH)∧s.nx<s'.nx∧∃y,a'=su (eE nb ns.length c) b s.nx ns.length i y) ?_ ns.length _ _ ⟨0,by omega,H5,a4,⟨_,a6,.inl ⟨rfl,rfl⟩⟩,Wi,y0,rfl⟩) ?_
 ·rintro m a' s' ⟨i,ae,hf,hb,⟨U,hw,hv⟩,hx,y,rfl⟩;by_cases hm:0<m
  ·have hi:i<ns.length:=by omega
   have a3:ns[i]?=some ns[i]:=List.getElem?_eq_getElem hi;refine D5 hp hf a3 (a5 i _ a3) hb hn a1 ⟨[],h⟩ (by omega) hw hx hv a2 (fun s2 v2 y2 q1 q2 q3 q4 q5=>?_) _ rfl;exact⟨m-1,by omega,i+1,by omega,q1,q2,⟨v2,q3,q5⟩,q4,y2,rfl⟩
  ·obtain rfl:i=ns.length:=by omega
   generalize hK:ns.length=K at *;generalize a9:eE nb K c=nd at *;refine zr (zp (yb (num (K:Nat)) (num (K:Nat)) (bD (b:=false) (decide_eq_false (by omega)))) (EO.nil (za s' (EW.seq (zG (EW.exit ?_))))));exact⟨rfl,hf,hb,⟨U,hw,hv⟩,hx,bG (by kernel_rfl)⟩
 ·rintro e a' s' ⟨rfl,hf,hb,⟨U,hw,hv⟩,hx,y,rfl⟩;have Ic:=HT ns out vd ns.length;obtain⟨_,pb,slb,VT,_⟩:=h;have Dj:=(hf.2 nb a1 (jF hn VT (by decide)) (by omega) (dg hn (by decide)) (kJ hn (by decide))).trans hn;obtain⟨s2,hE,iN,jT,v2,YC,QJ⟩:=tT (pr:=pr) hp.w hp.Rx (p := -1) (base:=[]) (eF:=(cL ns out vd ns.length).dH) hb Dj (by have:=hf.1; omega) hw hx (by simpa using hv) (fun k hk=>⟨by omega,Ic.1 k hk⟩) (.inl rfl) (by omega) a2 (by simp; omega);generalize (cL ns out vd ns.length).oR++bE ns (cL ns out vd ns.length).dH=tx at *;generalize hK:ns.length=K at *;refine zr (zc 0 hE (EO.nil (za s2 (zr (zk 2 (zp (yb (num (K:Nat)) (num 0) (iJ (b:=true) (decide_eq_true (by omega)))) (zf (za s2 ?_))))))));exact EW.ret ⟨.inr rfl,by kernel_rfl,iN,hf.trans jT.v⟩
end
abbrev iS:Obj:=.cells #[.slice none 0 0,.pointer none,.slice none 0 0] 135
section
variable {pr:Prim}{s:AS}
theorem Ec(a1:pr 84=none)(h:BE s b nd l)(h0:l≠[])(hl:l.length≤1000000):∃s',Ef pr 84 #[am b 1] s (str l) s'∧gO b s s':=by
 obtain⟨hb,p,sl,hs,hp,U⟩:=h;rcases U with ⟨_,U⟩|⟨d,fz,rfl,q3,q5⟩
 ·exact absurd U h0
 obtain⟨c,l,rfl⟩:∃c l',l=c::l':=by
  cases l with
  | nil=>exact absurd rfl h0
  | cons c l=>exact⟨c,l,rfl⟩
 refine EF.gu a1 func84 rfl ?_;refine zs (EW.seq (EW.draw (by kernel_rfl) (by kernel_rfl) (by kernel_rfl) ?_));iterate 3 refine zq ?_
 refine zt s (zu (yl b 2 (.slice (sq d) (c::l).length (c::l).length) hs) ?_);iterate 4 refine zq ?_
 refine zt s (zu (yl b 2 (.slice (sq d) (c::l).length (c::l).length) hs) (zq (zt s (zu (v5 (d:=d) (l:=c::l) (e:=5) (fz:=fz) rfl (by kernel_rfl) (by kernel_rfl) (by kernel_rfl) q5 (by kernel_rfl) (by simp) (by omega)) (zq ?_)))));have a2:=bH (P:=prog) (t:=55) underlying55 rfl hs (off:=2) rfl;refine ET.nil ⟨aM [(aE prog 55 (am b 2) s,.slice (sq d) (c::l).length (c::l).length),(aE prog 55 (am b 2) s,.slice (sq d) (c::l).length (c::l).length)] (by kernel_rfl) (by simp[aU,a2]),_,_,_,_,_,_,rfl,rfl,?_⟩;refine EW.ret ⟨.inr rfl,by kernel_rfl,?_⟩;refine⟨Nat.le_refl _,fun k hk Tc h5=>?_⟩;show(s.set d none).get k=_;rw[AS.aK,if_neg (fun e=>by rw[e] at h5; exact h5 _ _ q5)]
theorem Em(hp:N9 pr)(a6:pr 84=none)(a5:pr 46=none)(a4:pr 28=none)(hn:s.get nb=some (.cells (aX ns) 44 fz))(aa:nb<s.nx)(af:ns.length≤100000)(a3:0<ns.length)
 (ag:∀s1:AS,s.nx<s1.nx→(∀k,k<s.nx→s1.get k=s.get k)→∀i x,ns[i]?=some x→uZ pr s1 ns out vd s.nx nb c s1.nx i x)(a2:(cL ns out vd ns.length).oR.length+(bE ns (cL ns out vd ns.length).dH).length≤800000)(ae:(cL ns out vd ns.length).oR++bE ns (cL ns out vd ns.length).dH≠[]) :
  ∃s',Ef pr 28 #[eE nb ns.length c] s (.tuple #[str ((cL ns out vd ns.length).oR++bE ns (cL ns out vd ns.length).dH),num 0]) s'∧s.nx≤s'.nx∧∀k,k<s.nx→EC (s.get k)→Ih (s.get k)→s'.get k=s.get k:=by
 have aj:(s.add iS).get s.nx=some iS:=by rw[AS.aH,if_pos rfl]
 have ak:((s.add iS).set s.nx (some (.cells #[eE nb ns.length c,.pointer none,.slice none 0 0] 135))).get s.nx=some (.cells #[eE nb ns.length c,.pointer none,.slice none 0 0] 135):=by rw[AS.aK,if_pos rfl]
 have ah:((s.add iS).set s.nx (some (.cells #[eE nb ns.length c,.pointer none,.slice none 0 0] 135))).nx=s.nx+1:=rfl;have H6:∀k,k<s.nx→((s.add iS).set s.nx (some (.cells #[eE nb ns.length c,.pointer none,.slice none 0 0] 135))).get k=s.get k:=fun k hk=>by rw[AS.aK,if_neg (by omega),AS.aH,if_neg (by omega)]
 have a7:BE ((s.add iS).set s.nx (some (.cells #[eE nb ns.length c,.pointer none,.slice none 0 0] 135))) s.nx (eE nb ns.length c) []:=⟨by rw[ah]; omega,_,_,ak,.inl rfl,.inl ⟨rfl,rfl⟩⟩;have Uv:∃s',Ef pr 46 #[eE nb ns.length c] s (.tuple #[str ((cL ns out vd ns.length).oR++bE ns (cL ns out vd ns.length).dH),.bool true]) s'∧s.nx≤s'.nx∧∀k,k<s.nx→EC (s.get k)→Ih (s.get k)→s'.get k=s.get k:=by
  refine EF.gu a5 func46 rfl ?_;refine zs (zr (zg 3 (s.add iS) (zp (ek (b:=s.nx) (off:=0) (w:=.agg #[eE nb ns.length c,.pointer none,.slice none 0 0]) (ws:=[eE nb ns.length c,.pointer none,.slice none 0 0]) rfl (by kernel_rfl) (by kernel_rfl) rfl rfl (by kernel_rfl) aj (by simp)) (EO.nil (za ((s.add iS).set s.nx (some (.cells #[eE nb ns.length c,.pointer none,.slice none 0 0] 135))) ?_)))));generalize (s.add iS).set s.nx (some (.cells #[eE nb ns.length c,.pointer none,.slice none 0 0] 135))=s1 at *;obtain⟨s2,hT,a8,U⟩:=NX (pr:=pr) hp a7 ((H6 nb aa).trans hn) (by omega) af a3 (ag s1 (by omega) H6) a2;have F8:((cL ns out vd ns.length).oR++bE ns (cL ns out vd ns.length).dH).length≤1000000:=by rw[List.length_append]; omega
  generalize hb:s.nx=b at *;generalize (cL ns out vd ns.length).oR++bE ns (cL ns out vd ns.length).dH=tx at *;obtain⟨s3,hS,a1⟩:=Ec (pr:=pr) a6 a8 ae F8;refine EW.seq (zr (zc 3 hT (zf (za s2 (zF (zr (zc 1 hS (zf (za s3 (EW.ret ⟨.inr rfl,by kernel_rfl,by have:=U.1; have:=a1.1; omega,fun k hk h5 h3=>?_⟩))))))))));have e1:=H6 k hk;have e2:=U.2 k (by omega) (by omega) (by omega) (by rw[e1]; exact h5) (by rw[e1]; exact h3);rw[a1.2 k (by have:=U.1; omega) (by omega) (by rw[e2,e1]; exact h5),e2,e1]
 obtain⟨s2,h2,ai,a9⟩:=Uv;generalize (cL ns out vd ns.length).oR++bE ns (cL ns out vd ns.length).dH=tx at *;refine EF.gu a4 func28 rfl ?_;refine zs (zr (zc 1 h2 (zf (za s2 ?_))));iterate 2 refine zs ?_
 refine za s2 ?_;exact EW.ret ⟨.inr rfl,by kernel_rfl,ai,a9⟩
end
section
variable {pr:Prim}{s:AS}
theorem pO(U:pr 127=bL 127){l7:List (Bq)}{d:Nat}(hd:s.get d=some (.cells (l7.map str).toArray 9 fz))(hk:l7.length≤1000)(hb:(l7.any fun t=>cJ nm t)=bb):Ef pr 127 #[str nm,.slice (sq d) l7.length c] s (.bool bb) s:=by
 have hc:dQ s 1 (sq d) l7.length=some (l7.map str):=by unfold dQ;simp only;rw[hd];simp;exact List.take_of_length_le (by simp)
 refine EF.qN (U.trans rfl) ?_;simp only[hc];rw[if_pos ⟨by omega,by rw[List.all_map,List.all_eq_true]; intro x _; rfl⟩,List.any_map,← hb];rfl
end
def Gv (r:Int):Int:=if 65≤r∧r≤90 then r+32 else r
theorem CH(h : -2000000000≤r∧r≤2000000000):jG .i32 r=r:=by unfold jG; simp only; rw[if_pos h]
structure Tok where
 kind:Int
 text:List UInt8
 name:List UInt8
 c9:jH
 closed:Bool
def O7 (s:AS)(t:eT)(u:Tok):Prop:=t.kind=u.kind∧t.text=u.text∧t.name=u.name∧t.closed=u.closed∧bT s t.at_ u.c9
def fY(s:AS)(ts:List eT)(us:List Tok):Prop:=ts.length=us.length∧∀(i:Nat) (t:eT) (u:Tok),ts[i]?=some t→us[i]?=some u→O7 s t u
def LC (rn c:Nat)(s:AS)(k:Nat)(tx:List UInt8)(us:List Tok):Prop:=∃ts,SC rn c s k tx ts∧fY s ts us
def sT (rn c:Nat)(s:AS):Prop:=Has s 1 (.cells cY.toArray 335)∧rn<s.nx∧c≠1
section
variable {rn c k:Nat}{s s':AS}{tx:Bq}{ts:List eT}{us:List Tok}
theorem fY.fr(h:fY s ts us)(hs:SC rn c s k tx ts)(hf:ij c s s'):fY s' ts us:=⟨h.1,fun i t u ht hu=>by
 obtain⟨h1,h2,h3,h4,U⟩:=h.2 i t u ht hu;refine⟨h1,h2,h3,h4,U.fk hf.1 fun b hb=>?_⟩;rcases U with ⟨e,_⟩|⟨d,cp,fz,e,q1,q2⟩
 ·rw[e] at hb; exact(cj hb).elim
 ·rw[e] at hb;rw[cW hb];exact hs.no (⟨q1,q2⟩:Has s d _) (by decide) (by decide) (by decide)⟩
theorem fY.snoc{t:eT}{u:Tok}(h:fY s ts us)(ht:O7 s t u):fY s (ts++[t]) (us++[u]):=⟨by simp[h.1],fun i t' u' h1 h2=>by
 by_cases U:i<ts.length
 ·rw[List.getElem?_append_left U] at h1;rw[List.getElem?_append_left (by rw[← h.1]; exact U)] at h2;exact h.2 i t' u' h1 h2
 ·rw[List.getElem?_append_right (by omega)] at h1;rw[List.getElem?_append_right (by rw[← h.1]; omega),← h.1] at h2;match hq:i-ts.length with
  | 0=>rw[hq] at h1 h2; cases h1; cases h2; exact ht
  | q+1=>rw[hq] at h1; simp at h1⟩
theorem sT.fr(h:sT rn c s)(hs:SC rn c s k tx ts)(U:ij c s s'):sT rn c s':=⟨h.1.fr U.1 (hs.no h.1 (by decide) (by decide) (by decide)),by have:=h.2.1; have:=U.1.1; omega,h.2.2⟩
def rL (tx:List UInt8)(us:List Tok):List Tok:=if tx=[] then us else us++[⟨1,tx,[],[],false⟩]
theorem fY.pG(h:fY s ts us):fY s (pG tx ts) (rL tx us):=by
 unfold YtgcaionclkbehaaGreatDoor.pG rL;split
 ·exact h
 ·exact h.snoc ⟨rfl,rfl,rfl,rfl,.inl ⟨rfl,rfl⟩⟩
variable {pr:Prim}
def dC(nm:List UInt8)(l:List (List UInt8)):Bool:=l.any fun t=>cJ nm t
abbrev qO:List (List UInt8):=[[115,99,114,105,112,116],[115,116,121,108,101]]
abbrev jm:List (List UInt8):=[[116,105,116,108,101],[116,101,120,116,97,114,101,97]]
theorem RR(U:pr 127=bL 127)(a1:pr 250=none)(nm:Bq):Ef pr 250 #[str nm] s (.bool (dC nm qO)) (s.add (.cells (qO.map str).toArray 9)):=by have hi:=pO (pr:=pr) (s:=s.add (.cells (qO.map str).toArray 9)) U (nm:=nm) (l7:=qO) (d:=s.nx) (c:=2) (Has.new s _).2 (by decide) (bb:=dC nm qO) rfl;generalize dC nm qO=bb at hi ⊢;refine EF.of a1 func250 rfl ?_;refine zs (zr (zc 2 hi (zf ?_)));exact yR
theorem J0(U:pr 127=bL 127)(a1:pr 251=none)(nm:Bq):Ef pr 251 #[str nm] s (.bool (dC nm jm)) (s.add (.cells (jm.map str).toArray 9)):=by have hi:=pO (pr:=pr) (s:=s.add (.cells (jm.map str).toArray 9)) U (nm:=nm) (l7:=jm) (d:=s.nx) (c:=2) (Has.new s _).2 (by decide) (bb:=dC nm jm) rfl;generalize dC nm jm=bb at hi ⊢;refine EF.of a1 func251 rfl ?_;refine zs (zr (zc 2 hi (zf ?_)));exact yR
theorem M3(U:pr 247=none)(hr : -1≤r∧r≤1114111):Ef pr 247 #[.int .i32 r] s (.int .i32 (Gv r)) s:=by
 unfold Gv;refine EF.of (U) func247 rfl ?_;refine zs (EW.seq (zr (zk 1 ?_)));by_cases h1:65≤r
 ·refine zp (yb (.int .i32 65) (.int .i32 r) (dY (b:=true) (decide_eq_true h1))) (zk 2 ?_);by_cases h2:r≤90
  ·rw[if_pos ⟨h1,h2⟩];refine zp (yb (.int .i32 r) (.int .i32 90) (dY (b:=true) (decide_eq_true h2))) (zf (zH (zr (zg 1 s (EO.op (v:=.int .i32 (r-65)) (s1:=s) (by kernel_rfl) ((show _=some (Value.int .i32 (jG .i32 (r-65)),s) by kernel_rfl).trans (by rw[CH (by omega)])) (zo s (EO.op (v:=.int .i32 (r+32)) (s1:=s) (by kernel_rfl) ((show _=some (Value.int .i32 (jG .i32 (r-65+97)),s) by kernel_rfl).trans (by rw[CH (by omega),show r-65+97=r+32 by omega])) (zf ?_))))))));exact EW.ret ⟨.inr rfl,by kernel_rfl,by kernel_rfl⟩
  ·rw[if_neg (by omega)];refine zp (yb (.int .i32 r) (.int .i32 90) (dY (b:=false) (decide_eq_false h2))) (zf (zF (zs ?_)));exact EW.ret ⟨.inr rfl,by kernel_rfl,by kernel_rfl⟩
 ·rw[if_neg (by omega)];refine zp (yb (.int .i32 65) (.int .i32 r) (dY (b:=false) (decide_eq_false h1))) (zf (zF (zs ?_)));exact EW.ret ⟨.inr rfl,by kernel_rfl,by kernel_rfl⟩
def kw(l:Int):Bool:=decide (97≤Gv l)&&decide (Gv l≤122)
theorem nt(a1:pr 147=none)(a2:pr 247=none){l:Int}(hl : -1≤l∧l≤1114111):Ef pr 147 #[.int .i32 l] s (.bool (kw l)) s:=by
 have U:=M3 (pr:=pr) (s:=s) a2 hl;unfold kw;generalize Gv l=r at U ⊢;refine EF.of a1 func147 rfl ?_;refine zs (zr (zc 1 U (zf (za s (zr (zk 1 ?_))))));by_cases h1:97≤r
 ·rw[decide_eq_true h1,Bool.true_and];refine zp (yb (.int .i32 97) (.int .i32 r) (dY (b:=true) (decide_eq_true h1))) (zk 2 (zp (yb (.int .i32 r) (.int .i32 122) (dY (b:=decide (r≤122)) rfl)) ?_));generalize decide (r≤122)=bb;refine zf ?_;exact yR
 ·rw[decide_eq_false h1,Bool.false_and];refine zp (yb (.int .i32 97) (.int .i32 r) (dY (b:=false) (decide_eq_false h1))) (zf ?_);exact yR
abbrev py(c:Nat):Obj:=.cells #[am c 0] 196
variable {all:Iq}{p q r:Value}
theorem LQ(a6:pr 71=none)(a3:pr 70=none)(U:pr 146=cR rn all 146)(a1:pr 147=none)(a2:pr 247=none)(h1:Has s c (fI rn k p q r))(hk:k≤900000)(a5:dz all k=60)(hl : -1≤dz all (k+1)∧dz all (k+1)≤1114111)(ha:kw (dz all (k+1))=true):Ef pr 71 #[am c 0] s (.func (.func 148) #[am c 0] #[]) (s.add (py c)):=by have a4:=h1.add (py c);have Gf:=Has.new s (py c);have PL:=ku (rn:=rn) (all:=all) (pr:=pr) (s:=s.add (py c)) a3 U (p:=0) a4.2 rfl rfl (by omega);have Oi:=ku (rn:=rn) (all:=all) (pr:=pr) (s:=s.add (py c)) a3 U (p:=1) a4.2 rfl rfl (by omega);have Ev:=nt (pr:=pr) (s:=s.add (py c)) a1 a2 hl;rw[ha] at Ev;rw[Nat.add_zero,a5] at PL;generalize dz all (k+1)=l at Oi Ev;refine EF.of a6 func71 rfl ?_;refine zs (za (s.add (py c)) ?_);generalize s.add (py c)=S at *;refine EW.seq (zr (zp (yl s.nx 0 (am c 0) Gf.2) (zc 0 PL (zf (za S (zF (EW.seq (zr (zp (yl s.nx 0 (am c 0) Gf.2) (zc 0 Oi (zf (za S (EW.block (zr (zc 1 Ev (zf (za S (zH (zr (zp (yl s.nx 0 (am c 0) Gf.2) (zf ?_)))))))))))))))))))));exact EW.ret ⟨.inr rfl,(by kernel_rfl),(by kernel_rfl)⟩
theorem LP(ag:pr 71=none)(a8:pr 149=none)(a5:pr 70=none)(a1:pr 146=cR rn all 146)(a2:pr 147=none)(a3:pr 247=none)(h1:Has s c (fI rn k p q r))(hk:k≤900000)(af:dz all k=60)(ae:dz all (k+1)=47)(hl : -1≤dz all (k+2)∧dz all (k+2)≤1114111)(ha:kw (dz all (k+2))=true):Ef pr 71 #[am c 0] s (.func (.func 253) #[am c 0] #[]) ((s.add (py c)).add (py c)):=by
 have a6:=h1.add (py c);have a7:=Has.new s (py c);have a9:=ku (rn:=rn) (all:=all) (pr:=pr) (s:=s.add (py c)) a5 a1 (p:=0) a6.2 rfl rfl (by omega);have aa:=ku (rn:=rn) (all:=all) (pr:=pr) (s:=s.add (py c)) a5 a1 (p:=1) a6.2 rfl rfl (by omega);have ah:=nt (pr:=pr) (s:=s.add (py c)) a2 a3 (l:=47) (by decide);rw[Nat.add_zero,af] at a9;rw[ae] at aa;have a4:Ef pr 149 #[am c 0] (s.add (py c)) (.func (.func 253) #[am c 0] #[]) ((s.add (py c)).add (py c)):=by generalize s.add (py c)=S at *;have Jr:=a6.add (py c);have Yx:=Has.new S (py c);have iN:=ku (rn:=rn) (all:=all) (pr:=pr) (s:=S.add (py c)) a5 a1 (p:=2) Jr.2 rfl rfl (by omega);have Mx:=nt (pr:=pr) (s:=S.add (py c)) a2 a3 hl;rw[ha] at Mx;generalize dz all (k+2)=l at iN Mx;refine EF.of a8 func149 rfl ?_;refine zs (za (S.add (py c)) ?_);generalize S.add (py c)=U at *;refine EW.seq (zr (zp (yl S.nx 0 (am c 0) Yx.2) (zc 0 iN (zf (za U (EW.block (zr (zc 1 Mx (zf (za U (zH (zr (zp (yl S.nx 0 (am c 0) Yx.2) (zf ?_))))))))))))));exact EW.ret ⟨.inr rfl,(by kernel_rfl),(by kernel_rfl)⟩
 refine EF.of ag func71 rfl ?_;refine zs (za (s.add (py c)) ?_);generalize s.add (py c)=S at *;refine EW.seq (zr (zp (yl s.nx 0 (am c 0) a7.2) (zc 0 a9 (zf (za S (zF (EW.seq (zr (zp (yl s.nx 0 (am c 0) a7.2) (zc 0 aa (zf (za S (EW.block (zr (zc 1 ah (zf (za S (zG (zs (za S (zH (zr (zp (yl s.nx 0 (am c 0) a7.2) (zc 0 a4 (zf ?_)))))))))))))))))))))))));exact EW.ret ⟨.inr rfl,(by kernel_rfl),(by kernel_rfl)⟩
end
structure Bn(rn:Nat)(all:List Int)(lo:List UInt8→List UInt8)(wr:List UInt8→Int→List UInt8)(T:List UInt8→Prop)(W:List UInt8→Int→Prop)(pr:Prim):Prop where
 h:Tx rn all lo wr T W pr
 Nm:pr 127=bL 127
 M7:pr 147=none
 M8:pr 247=none
 Rf:pr 250=none
 Rg:pr 251=none
 lv:∀l∈all,l≤1114111
section
variable {rn c k k':Nat}{s s':AS}{tx:Bq}{ts:List eT}{us:List Tok}{p q r:Value}
theorem SC.mv(h1:Has s c (fI rn k p q r))(h2:p=.pointer none∨p=am c 2)(h3:Bp s q tx)(h4:qb s r ts)(hf:aQ (fun b=>b=c) s s')(U:Has s' c (fI rn k' p q r)):SC rn c s' k' tx ts∧ij c s s':=by refine⟨⟨p,q,r,U,h2,h3.imp id fun ⟨d,fz,e1,e2⟩=>⟨d,fz,e1,e2.fr hf (e2.ne h1 (by decide))⟩,h4.imp id fun ⟨d,fz,e1,e2⟩=>⟨d,fz,e1,e2.fr hf (e2.ne h1 (by decide))⟩⟩,ij.mk' h1 U ⟨hf.1,fun b hb hk=>hf.2 b hb fun e=>hk (.inl e)⟩ (.inl rfl) (.inl rfl)⟩
variable {all:Iq}{pr:Prim}{lo:Bq→Bq}{wr:Bq→Int→Bq}{T:Bq→Prop}{W:Bq→Int→Prop}
theorem Bn.at(U:Bn rn all lo wr T W pr)(k:Nat) : -1≤dz all k∧dz all k≤1114111:=by
 rcases U.h.g.at k with e|e
 ·rw[e]; decide
 ·exact⟨by have:=U.h.g.pos _ e; omega,U.lv _ e⟩
theorem Hx(hp:Bn rn all lo wr T W pr){w:Nat}(hk:k+w≤all.length)(hT:T (ec all (k+w) (gL all di (k+w))))(a3:tF all lo wr n (gL all di (k+w)) []=some (aN,cl,wh,k'))(a4:mP all lo wr T W n (gL all di (k+w)))(h:LC rn c s k tx us)(he:sT rn c s) :
  ∃U av,Ef pr 248 #[am c 0] (s.set c (match s.get c with|some (.cells cs t fz)=>some (.cells (cs.set! 1 (num ((k+w:Nat):Int))) t fz)|o=>o)) (.tuple #[.agg #[str (if wh then lo (ec all (k+w) (gL all di (k+w))) else []),av,.bool cl],.bool wh]) U∧LC rn c U k' tx us∧sT rn c U∧bT U av aN∧ij c s U:=by
 obtain⟨ts,⟨p,q,r,h1,h2,h3,h4⟩,hm⟩:=h;have Jp:SC rn c s k tx ts:=⟨p,q,r,h1,h2,h3,h4⟩;have e:s.set c (match s.get c with|some (.cells cs t fz)=>some (.cells (cs.set! 1 (num ((k+w:Nat):Int))) t fz)|o=>o)=sp s c rn p q r (k+w):=by rw[h1.2]; rfl
 rw[e];have a1:Has (sp s c rn p q r (k+w)) c (fI rn (k+w) p q r):=h1.put _;have a2:Has (sp s c rn p q r (k+w)) 1 (.cells cY.toArray 335):=he.1.set (Ne.symm he.2.2) _;obtain⟨U,av,g1,g2,g3,g4,g5,g6⟩:=Sj hp.h hk hT a3 a4 a1 he.2.2 a2 he.2.1;have hf:aQ (fun b=>b=c) s U:=(aQ.set (K:=fun b=>b=c) (aQ.refl s) (fun _=>rfl) _).trans g4 fun b _ z=>z;obtain⟨m1,m2⟩:=SC.mv h1 h2 h3 h4 hf g2;exact⟨U,av,g1,⟨ts,m1,hm.fr Jp m2⟩,he.fr Jp m2,g3,m2⟩
theorem Kl(U:Bn rn all lo wr T W pr)(hk:k+1≤all.length)(hT:T (ec all (k+1) (gL all di (k+1))))(a4:lo (ec all (k+1) (gL all di (k+1)))=nm)(a3:tF all lo wr n (gL all di (k+1)) []=some (aN,cl,true,k'))(a5:mP all lo wr T W n (gL all di (k+1)))(h:LC rn c s k tx us)(he:sT rn c s)(hx:tx.length≤500000)(hu:us.length≤500000)(a2:dC nm qO=false)(a6:dC nm jm=false) :
  ∃s',Ef pr 148 #[am c 0] s (.tuple #[]) s'∧LC rn c s' k' [] (rL tx us++[⟨2,[],nm,aN,cl⟩])∧ij c s s':=by
 have a7:=U.h.g.len;obtain⟨S1,av,hE,m1,m2,m3,m4⟩:=Hx U hk hT a3 a5 h he;obtain⟨ts0,⟨p0,q0,r0,h1,_⟩,_⟩:=h;rw[h1.2] at hE;obtain⟨ts,Lk,XG⟩:=m1;rw[if_pos rfl,a4] at hE;obtain⟨ad,cp,rfl⟩:=m3.len;have b1:=Lk.add (gi nm (.slice ad aN.length cp) cl);have b2:=Has.new S1 (gi nm (.slice ad aN.length cp) cl);have b3:=ij.add Lk (gi nm (.slice ad aN.length cp) cl);have b4:fY (S1.add (gi nm (.slice ad aN.length cp) cl)) ts us:=XG.fr Lk b3;have b5:bT (S1.add (gi nm (.slice ad aN.length cp) cl)) (.slice ad aN.length cp) aN:=m3.fk ((aQ.refl (K:=fun _=>False) S1).add _) fun _ _=>id;have hZ:=Has.new S1 (gi [] aG false);have HZ:(S1.add (gi [] aG false)).set S1.nx (some (gi nm (.slice ad aN.length cp) cl))=S1.add (gi nm (.slice ad aN.length cp) cl):=AS.set_set (⟨S1.hp,S1.nx+1⟩:AS) S1.nx (some (gi [] aG false)) (some (gi nm (.slice ad aN.length cp) cl));generalize S1.add (gi nm (.slice ad aN.length cp) cl)=S2 at b1 b2 b3 b4 b5 HZ;have Oy:=m3.na;obtain⟨S3,F1,c1,c2⟩:=KY U.h.g.no b1 (by omega) (by have:=b4.1; omega) ⟨2,[],nm,(.slice ad aN.length cp),cl⟩ Oy.2.2.1 Oy.2.1;have c3:=b2.fr c2.1 (b1.no b2 (by decide) (by decide) (by decide));have c4:fY S3 (pG tx ts++[⟨2,[],nm,(.slice ad aN.length cp),cl⟩]) (rL tx us++[⟨2,[],nm,aN,cl⟩]):=by
  refine fY.snoc ((b4.fr b1 c2).pG) ⟨rfl,rfl,rfl,rfl,b5.fk c2.1 fun b z=>?_⟩;rcases b5 with ⟨e,_⟩|⟨d,cp,fz,e,q1,q2⟩
  ·rw[e] at z; exact(cj z).elim
  ·rw[e] at z;rw[cW z];exact b1.no (⟨q1,q2⟩:Has S2 d _) (by decide) (by decide) (by decide)
 have a1:=RR (pr:=pr) (s:=S3) U.Nm U.Rf nm;rw[a2] at a1;have d1:=c1.add (.cells (qO.map str).toArray 9);have d2:=ij.add c1 (.cells (qO.map str).toArray 9);have d3:=c4.fr c1 d2;have d4:=c3.add (.cells (qO.map str).toArray 9);generalize S3.add (.cells (qO.map str).toArray 9)=S4 at a1 d1 d2 d3 d4;have VG:=J0 (pr:=pr) (s:=S4) U.Nm U.Rg nm;rw[a6] at VG;have e1:=d1.add (.cells (jm.map str).toArray 9);have e2:=ij.add d1 (.cells (jm.map str).toArray 9);have e3:=d3.fr d1 e2;generalize S4.add (.cells (jm.map str).toArray 9)=S5 at VG e1 e2 e3;refine EF.gu (U.h.g.no 148 (by decide)) func148 rfl ?_;refine zr (zg 3 s (zp (yl c 1 (num (k:Nat)) h1.2) (zp (yp (k:Nat) 1 ((k+1:Nat):Int) (by omega) (by omega)) (zg 2 s (zp (ys c 1 (num ((k+1:Nat):Int)) h1.2 (by simp)) (EO.nil (zr (zc 1 hE (zg 4 (S1.add (gi [] aG false)) (zp (ek (b:=S1.nx) (off:=0) (w:=.agg #[str nm,(.slice ad aN.length cp),.bool cl]) (ws:=[str nm,(.slice ad aN.length cp),.bool cl]) rfl (by kernel_rfl) (by kernel_rfl) rfl (by show((str nm).oneCell'&&((Value.slice ad aN.length cp).oneCell'&&((Value.bool cl).oneCell'&&true)))=true; rw[Oy.2.2.1]; rfl) (by kernel_rfl) hZ.2 (by simp)) (zf (za ((S1.add (gi [] aG false)).set S1.nx (some (gi nm (.slice ad aN.length cp) cl))) ?_))))))))))));rw[HZ];refine EW.seq (zs (za S2 (zF (zr (zg 2 S2 (zp (yl S1.nx 0 (str nm) b2.2) (zg 1 S2 (zp (yl S1.nx 1 (.slice ad aN.length cp) b2.2) (zg 1 S2 (zp (yl S1.nx 2 (.bool cl) b2.2) (zc 1 F1 (EO.nil (zr (zg 1 S3 (zp (yl S1.nx 0 (str nm) c3.2) (zc 0 a1 (zg 2 S4 (zp (yl S1.nx 0 (str nm) d4.2) (zc 0 VG (zf (za S5 (zF ?_))))))))))))))))))))));exact⟨.inl rfl,(by kernel_rfl),⟨_,e1,e3⟩,(((m4.trans b3).trans c2).trans d2).trans e2⟩
theorem Ps(hp:Bn rn all lo wr T W pr)(hk:k+2≤all.length)(hT:T (ec all (k+2) (gL all di (k+2))))(a1:lo (ec all (k+2) (gL all di (k+2)))=nm)(U:tF all lo wr n (gL all di (k+2)) []=some (aN,cl,true,k'))(a2:mP all lo wr T W n (gL all di (k+2)))(h:LC rn c s k tx us)(he:sT rn c s)(hx:tx.length≤500000)(hu:us.length≤500000) :
  ∃s',Ef pr 253 #[am c 0] s (.tuple #[]) s'∧LC rn c s' k' [] (rL tx us++[⟨3,[],nm,[],false⟩])∧ij c s s':=by have a3:=hp.h.g.len;obtain⟨S1,av,hE,m1,m2,m3,m4⟩:=Hx hp hk hT U a2 h he;obtain⟨ts0,⟨p0,q0,r0,h1,_⟩,_⟩:=h;rw[h1.2] at hE;obtain⟨ts,Lk,XG⟩:=m1;rw[if_pos rfl,a1] at hE;have b1:=Lk.add (gi nm av cl);have b2:=Has.new S1 (gi nm av cl);have b3:=ij.add Lk (gi nm av cl);have b4:fY (S1.add (gi nm av cl)) ts us:=XG.fr Lk b3;have hZ:=Has.new S1 (gi [] aG false);have HZ:(S1.add (gi [] aG false)).set S1.nx (some (gi nm av cl))=S1.add (gi nm av cl):=AS.set_set (⟨S1.hp,S1.nx+1⟩:AS) S1.nx (some (gi [] aG false)) (some (gi nm av cl));generalize S1.add (gi nm av cl)=S2 at b1 b2 b3 b4 HZ;have Oy:=m3.na;obtain⟨S3,F1,c1,c2⟩:=KY hp.h.g.no b1 (by omega) (by have:=b4.1; omega) ⟨3,[],nm,aG,false⟩ rfl rfl;have c4:fY S3 (pG tx ts++[⟨3,[],nm,aG,false⟩]) (rL tx us++[⟨3,[],nm,[],false⟩]):=fY.snoc ((b4.fr b1 c2).pG) ⟨rfl,rfl,rfl,rfl,.inl ⟨rfl,rfl⟩⟩;refine EF.gu (hp.h.g.no 253 (by decide)) func253 rfl ?_;refine zr (zg 3 s (zp (yl c 1 (num (k:Nat)) h1.2) (zp (yp (k:Nat) 2 ((k+2:Nat):Int) (by omega) (by omega)) (zg 2 s (zp (ys c 1 (num ((k+2:Nat):Int)) h1.2 (by simp)) (EO.nil (zr (zc 1 hE (zg 4 (S1.add (gi [] aG false)) (zp (ek (b:=S1.nx) (off:=0) (w:=.agg #[str nm,av,.bool cl]) (ws:=[str nm,av,.bool cl]) rfl (by kernel_rfl) (by kernel_rfl) rfl (by show((str nm).oneCell'&&(av.oneCell'&&((Value.bool cl).oneCell'&&true)))=true; rw[Oy.2.2.1]; rfl) (by kernel_rfl) hZ.2 (by simp)) (zf (za ((S1.add (gi [] aG false)).set S1.nx (some (gi nm av cl))) ?_))))))))))));rw[HZ];refine zs (za S2 (zH (zx (zg 2 S2 (zp (yl S1.nx 0 (str nm) b2.2) (zc 1 F1 (EO.nil ?_)))))));exact⟨.inl rfl,(by kernel_rfl),⟨_,c1,c4⟩,(m4.trans b3).trans c2⟩
end
def Hn(c k:Nat)(x:Nat→Value):TL:=[am c 0,x 1,num (k:Nat)]++kl x 3 34
section
variable {rn c k k':Nat}{s s':AS}{tx:Bq}{ts:List eT}{us:List Tok}{p q r:Value}
variable {all:Iq}{pr:Prim}{lo:Bq→Bq}{wr:Bq→Int→Bq}{T:Bq→Prop}{W:Bq→Int→Prop}
def OJ (pr:Prim)(rn c:Nat)(tx:List UInt8)(ts:List eT)(k:Nat):Prop:=∀s1,SC rn c s1 k tx ts→∃s2,EF prog mB pr 71 #[am c 0] s1 .nilFunc s2∧SC rn c s2 k tx ts∧ij c s1 s2
def Ik (pr:Prim)(rn c:Nat)(tx:List UInt8)(ts:List eT)(k:Nat)(f:FuncId):Prop:=∀s1,SC rn c s1 k tx ts→∃s2,EF prog mB pr 71 #[am c 0] s1 (.func (.func f) #[am c 0] #[]) s2∧SC rn c s2 k tx ts∧ij c s1 s2
theorem E8(U:Bn rn all lo wr T W pr)(hk:k≤900000)(h:dz all k≠60):OJ pr rn c tx ts k:=by intro s1 hs;have ML:=hs;obtain⟨p,q,r,h1,_⟩:=ML;exact⟨_,Fa (U.h.g.no 70 (by decide)) (U.h.g.no 71 (by decide)) U.h.g.D1 h1.1 h1.2 rfl rfl (by omega) h,hs.add _,ij.add hs _⟩
theorem Bw(U:Bn rn all lo wr T W pr)(hk:k≤900000)(h:dz all k=60)(ha:kw (dz all (k+1))=true):Ik pr rn c tx ts k 148:=by intro s1 hs;have ML:=hs;obtain⟨p,q,r,h1,_⟩:=ML;exact⟨_,LQ (U.h.g.no 71 (by decide)) (U.h.g.no 70 (by decide)) U.h.g.D1 U.M7 U.M8 h1 hk h (U.at _) ha,hs.add _,ij.add hs _⟩
theorem Bx(U:Bn rn all lo wr T W pr)(hk:k≤900000)(h:dz all k=60)(a1:dz all (k+1)=47)(ha:kw (dz all (k+2))=true):Ik pr rn c tx ts k 253:=by intro s1 hs;have ML:=hs;obtain⟨p,q,r,h1,_⟩:=ML;exact⟨_,LP (U.h.g.no 71 (by decide)) (U.h.g.no 149 (by decide)) (U.h.g.no 70 (by decide)) U.h.g.D1 U.M7 U.M8 h1 hk h a1 (U.at _) ha,(hs.add _).add _,(ij.add hs _).trans (ij.add (hs.add _) _)⟩
theorem SC.ahead(U:wE rn all pr)(h:SC rn c s k tx ts)(hk:k≤900000):Ef pr 70 #[am c 0,num 0] s (.int .i32 (dz all k)) s:=by
 obtain⟨p,q,r,h1,_⟩:=h
 have:=gE (s:=s) (c:=c) (p:=p) (q:=q) (r:=r) U (k:=k) (by omega);rw[mH h1.2] at this;exact this
theorem KH(hp:Bn rn all lo wr T W pr){m:Nat}(hm:k+m≤150000)(a5:∀j,j<m→dz all (k+j) ≠ -1∧OJ pr rn c tx ts (k+j))(a4:dz all (k+m) = -1∨(dz all (k+m) ≠ -1∧∃f,Ik pr rn c tx ts (k+m) f))(hW:W (ec all k (k+m)) 0)(h:SC rn c s k tx ts)(he:sT rn c s)(hl:tx.length+(wr (ec all k (k+m)) 0).length≤1000000) :
  ∃s',Ef pr 72 #[am c 0] s (.tuple #[]) s'∧SC rn c s' (k+m) (tx++wr (ec all k (k+m)) 0) ts∧ij c s s':=by
 have a6:=h;obtain⟨p,q,r,h1,_⟩:=a6;refine EF.gu (hp.h.g.no 72 (by decide)) func72 rfl ?_;refine zr (zg 3 s (zp (yl c 1 (num (k:Nat)) h1.2) (zf (za s ?_))));refine EW.fill (Hn c k) (by kernel_rfl) ?_;intro x0;refine EW.seq (EW.block ?_);clear h1;refine EW.mono (EW.eD (Q:=fun e a' s'=>e=.exit 0∧SC rn c s' (k+m) tx ts∧ij c s s'∧∃x,a'=Hn c k x) (fun u a' s'=>∃j,u+j=m∧SC rn c s' (k+j) tx ts∧ij c s s'∧∃x,a'=Hn c k x) ?_ m _ _ ⟨0,by omega,h,ij.refl s,x0,rfl⟩) ?_
 ·rintro u a' S ⟨j,hu,hS,hf,x,rfl⟩;have pK:=hS.ahead hp.h.g (by omega);by_cases hj:j<m
  ·obtain⟨a2,hb⟩:=a5 j hj;obtain⟨S2,a3,U,a1⟩:=hb S hS;obtain⟨p,q,r,q1,q2,q3,q4⟩:=U;generalize dz all (k+j)=l at pK a2;refine EW.seq (zr (zc 1 pK (zp (yb (.int .i32 l) (.int .i32 (-1)) (cO (b:=true) (bne_iff_ne.2 a2))) (zc 2 a3 (zf (za S2 (zT (EW.block (zx (zg 3 S2 (zp (yl c 1 (num ((k+j:Nat):Int)) q1.2) (zp (yp ((k+j:Nat):Int) 1 ((k+(j+1):Nat):Int) (by omega) (by omega)) (zg 2 S2 (zp (ys c 1 (num ((k+(j+1):Nat):Int)) q1.2 (by simp)) (EO.nil ?_)))))))))))))));exact⟨u-1,by omega,j+1,by omega,SC.sp (k':=k+(j+1)) q1 q2 q3 q4,(hf.trans a1).trans (ij.sp q1),bG (by kernel_rfl)⟩
  ·obtain rfl:j=m:=by omega
   rcases a4 with e|⟨a2,f,hb⟩
   ·rw[e] at pK;refine EW.seq (zr (zc 1 pK (zf (za S (zG (EW.exit ?_))))));exact⟨rfl,hS,hf,bG (by kernel_rfl)⟩
   ·obtain⟨S2,a3,U,a1⟩:=hb S hS;generalize dz all (k+j)=l at pK a2;refine EW.seq (zr (zc 1 pK (zp (yb (.int .i32 l) (.int .i32 (-1)) (cO (b:=true) (bne_iff_ne.2 a2))) (zc 2 a3 (zf (za S2 (zG (EW.exit ?_))))))));exact⟨rfl,U,hf.trans a1,bG (by kernel_rfl)⟩
 rintro e a' S ⟨rfl,hS,hf,x,rfl⟩;have vI:=wj hp.h.g (s:=S) (k:=k) (j:=k+m) (by omega);have P6:=he.fr h hf;have hw:=hp.h.XI S _ 0 hW P6.1.2 P6.2.1;obtain⟨v,S2,Oz,U,a1⟩:=HR (pr:=pr) (m:=wr (ec all k (k+m)) 0) (hp.h.g.no 261 (by decide)) (hp.h.g.no 156 (by decide)) hS hl;generalize wr (ec all k (k+m)) 0=w at hw Oz U;generalize ec all k (k+m)=t at vI hw;obtain⟨p,q,r,q1,_⟩:=hS;have l1:aE prog 84 (am c 0) S=some (am rn 0):=bH (P:=prog) (t:=84) underlying84 rfl q1.2 (off:=0) rfl;have l2:aE prog 3 (am c 1) S=some (num ((k+m:Nat):Int)):=bH (P:=prog) (t:=3) underlying3 rfl q1.2 (off:=1) rfl;refine EW.draw (by kernel_rfl) (by kernel_rfl) (by kernel_rfl) ?_;iterate 6 refine zq ?_
 refine zt S (zu (yl c 0 (am rn 0) q1.2) ?_);iterate 4 refine zq ?_
 refine zt S (zu (yl c 1 (num ((k+m:Nat):Int)) q1.2) (yt vI (yt hw (yt Oz (ET.nil ⟨aM [(aE prog 84 (am c 0) S,am rn 0),(aE prog 3 (am c 1) S,num ((k+m:Nat):Int))] (by kernel_rfl) (mM ⟨l1,rfl⟩ ⟨l2,rfl⟩),_,_,_,_,_,_,rfl,rfl,?_⟩)))));exact⟨.inl rfl,(by kernel_rfl),U,hf.trans a1⟩
structure St where
 k:Nat
 tx:List UInt8
 us:List Tok
abbrev O6(rn c:Nat)(s:AS)(x:St):Prop:=LC rn c s x.k x.tx x.us
def im(pr:Prim)(rn c:Nat)(all:List Int)(x y:St):Prop:=dz all x.k ≠ -1∧∀s,O6 rn c s x→sT rn c s →
 (∃f s1 s2,EF prog mB pr 71 #[am c 0] s (.func (.func f) #[am c 0] #[]) s1∧EF prog mB pr f #[am c 0] s1 (.tuple #[]) s2∧O6 rn c s2 y∧ij c s s2) ∨
 (∃s1 s2,EF prog mB pr 71 #[am c 0] s .nilFunc s1∧EF prog mB pr 72 #[am c 0] s1 (.tuple #[]) s2∧O6 rn c s2 y∧ij c s s2)
def NO (rn c:Nat)(x:Nat→Value):TL:=[am rn 0,x 1,aG,am c 0]++kl x 4 14
theorem Xi(hp:wE rn all pr){st:Nat→St}(h0:st 0=⟨0,[],[]⟩)(aa:∀i,i<n→im pr rn s.nx all (st i) (st (i+1)))(a7:dz all (st n).k = -1)(hb:∀i,i≤n→(st i).k≤150000∧(st i).tx.length≤500000∧(st i).us.length≤500000)(h1:Has s 1 (.cells cY.toArray 335))(hr:rn<s.nx) :
  ∃s' v ts,Ef pr 40 #[am rn 0] s v s'∧qb s' v ts∧fY s' ts (rL (st n).tx (st n).us)∧aQ (fun _=>False) s s'∧(∀b,blk v b→s.nx<b):=by
 suffices h:Ew pr (match Tryz.f40.body with|some c=>c|none=>.skip) ((#[am rn 0]:Aq).toList++List.replicate (Tryz.f40.ntmps-(#[am rn 0]:Aq).toList.length) undef) s (fun e U s1=>(e=.normal∨e=.ret)∧∃v ts,dA prog Tryz.f40 U s1=some v∧qb s1 v ts∧fY s1 ts (rL (st n).tx (st n).us)∧aQ (fun _=>False) s s1∧(∀b,blk v b→s.nx<b)) by obtain⟨m,e,U,s1,h1,he,v,ts,h2,h3⟩:=h;exact⟨s1,v,ts,EF.of (hp.no 40 (by decide)) func40 rfl ⟨m,e,U,s1,h1,he,h2,rfl⟩,h3⟩
 have a1:=Has.new s (fI rn 0 (.pointer none) aG aG);have a4:SC rn s.nx (s.add (fI rn 0 (.pointer none) aG aG)) 0 [] []:=⟨_,_,_,a1,.inl rfl,.inl ⟨rfl,rfl⟩,.inl ⟨rfl,rfl⟩⟩;have a6:sT rn s.nx (s.add (fI rn 0 (.pointer none) aG aG)):=⟨h1.add _,by simp; omega,by have:=h1.1; omega⟩;have a8:=(aQ.refl (K:=fun _=>False) s).add (fI rn 0 (.pointer none) aG aG);have hZ:=Has.new s (.cells #[.pointer none,num 0,.pointer none,aG,aG] 121);have HZ:(s.add (.cells #[.pointer none,num 0,.pointer none,aG,aG] 121)).set s.nx (some (fI rn 0 (.pointer none) aG aG))=s.add (fI rn 0 (.pointer none) aG aG):=AS.set_set (⟨s.hp,s.nx+1⟩:AS) s.nx (some (.cells #[.pointer none,num 0,.pointer none,aG,aG] 121)) (some (fI rn 0 (.pointer none) aG aG));have a9:(s.add (fI rn 0 (.pointer none) aG aG)).nx=s.nx+1:=rfl;have a2:∀b,b<s.nx→¬KS s.nx (s.add (fI rn 0 (.pointer none) aG aG)) b:=fun b hb z=>by
  rcases(KS.at a1.2).1 z with z|z|z
  ·omega
  iterate 2
   ·exact cj z
 refine zs (zr (zg 3 (s.add (.cells #[.pointer none,num 0,.pointer none,aG,aG] 121)) (zp (ek (b:=s.nx) (off:=0) (w:=.agg #[am rn 0,num 0,.pointer none,aG,aG]) (ws:=[am rn 0,num 0,.pointer none,aG,aG]) rfl (by kernel_rfl) (by kernel_rfl) rfl rfl (by kernel_rfl) hZ.2 (by simp)) (EO.nil (za ((s.add (.cells #[.pointer none,num 0,.pointer none,aG,aG] 121)).set s.nx (some (fI rn 0 (.pointer none) aG aG))) ?_)))));rw[HZ];generalize s.add (fI rn 0 (.pointer none) aG aG)=S0 at a4 a6 a8 a9 a2 a1 ⊢;refine EW.fill (NO rn s.nx) (by kernel_rfl) ?_;intro x0;refine EW.seq (EW.block ?_);refine EW.mono (EW.eD (Q:=fun e U s'=>e=.exit 0∧O6 rn s.nx s' (st n)∧ij s.nx S0 s'∧∃x,U=NO rn s.nx x) (fun u U s'=>∃j,u+j=n∧O6 rn s.nx s' (st j)∧ij s.nx S0 s'∧∃x,U=NO rn s.nx x) ?_ n _ _ ⟨0,by omega,by rw[h0]; exact⟨[],a4,rfl,fun i t u h=>by simp at h⟩,ij.refl S0,x0,rfl⟩) ?_
 ·rintro u U S ⟨j,hu,⟨ts,hS,hM⟩,hf,x,rfl⟩;have hbj:=hb j (by omega);have pK:=hS.ahead hp (by omega);by_cases hj:j<n
  ·obtain⟨a3,a5⟩:=aa j hj;have he:=a6.fr a4 hf;have VQ:=a5 S ⟨ts,hS,hM⟩ he;generalize dz all (st j).k=l at pK a3;rcases VQ with ⟨f,s1,s2,g1,g2,g3,g4⟩|⟨s1,s2,g1,g2,g3,g4⟩
   ·refine EW.seq (zr (zc 0 pK (zp (yb (.int .i32 l) (.int .i32 (-1)) (cO (b:=true) (bne_iff_ne.2 a3))) (EO.nil (za S (zT (EW.block (zr (zc 0 g1 (zf (za s1 (zs (za s1 (zH (zx (zg 1 s1 (yc #[am s.nx 0] #[] g2 (EO.nil ?_))))))))))))))))));exact⟨u-1,by omega,j+1,by omega,g3,hf.trans g4,bG (by kernel_rfl)⟩
   ·refine EW.seq (zr (zc 0 pK (zp (yb (.int .i32 l) (.int .i32 (-1)) (cO (b:=true) (bne_iff_ne.2 a3))) (EO.nil (za S (zT (EW.block (zr (zc 0 g1 (zf (za s1 (zs (za s1 (zG (zx (zc 0 g2 (EO.nil ?_)))))))))))))))));exact⟨u-1,by omega,j+1,by omega,g3,hf.trans g4,bG (by kernel_rfl)⟩
  ·obtain rfl:j=n:=by omega
   rw[a7] at pK;refine EW.seq (zr (zc 0 pK (zf (za S (zG (EW.exit ?_))))));exact⟨rfl,⟨ts,hS,hM⟩,hf,bG (by kernel_rfl)⟩
 rintro e U S ⟨rfl,⟨ts,hS,hM⟩,hf,x,rfl⟩;have Mm:=hb n (Nat.le_refl n);obtain⟨S2,hE,zi,jT⟩:=tS hp.no hS (by omega) (by have:=hM.1; omega);have hM2:=(hM.fr hS jT).pG (tx:=(st n).tx);have vE:=hf.trans jT;obtain⟨p,q,r,q1,q2,q3,q4⟩:=zi;refine zr (zc 0 hE (EO.nil (zr (zg 1 S2 (zp (yl s.nx 4 r q1.2) (zf (EW.ret ⟨.inr rfl,r,_,(by kernel_rfl),q4,hM2,a8.trans vE.1 fun b hb z=>a2 b hb z,fun b z=>?_⟩)))))));by_cases eH:b<S0.nx
 ·have:=vE.2 b eH ((KS.at q1.2).2 (.inr (.inr z)));by_cases Qo:b<s.nx
  ·exact absurd this (a2 b Qo)
  ·obtain⟨_,_,w⟩:=q4.blk z;have hbne:b≠s.nx:=w.ne q1 (by decide);omega
 ·omega
end
def It (c:Nat):Prop:=c<128∨c=233
def Dw (c:Nat):List UInt8:=if c=233 then [195,169] else [UInt8.ofNat c]
def dR (cl:List Nat):List UInt8:=cl.flatMap Dw
def qL (cl:List Nat):List Int:=cl.map fun c=>((c:Nat):Int)
theorem Jv(c:Nat):1≤(Dw c).length∧(Dw c).length≤2:=by unfold Dw; split<;>simp
theorem fD(a b:List Nat):dR (a++b)=dR a++dR b:=by simp[dR]
theorem q8(cl:List Nat):cl.length≤(dR cl).length∧(dR cl).length≤2*cl.length:=by
 induction cl with
 | nil=>simp[dR]
 | cons c cl U =>have:=Jv c;simp only[dR,List.flatMap_cons,List.length_append,List.length_cons] at U ⊢;omega
theorem wB:∀{cl:List Nat},(∀c∈cl,It c)→bw (qL cl)=dR cl
 | [],_=>rfl
 | c::cl,h=>by
  show Lib.encodeRune ((c:Nat):Int)++bw (qL cl)=Dw c++dR cl;rw[wB fun x hx=>h x (by simp[hx])];congr 1;by_cases xX:c=233
  ·subst xX; decide +kernel
  ·have U:c<128:=(h c (by simp)).resolve_right xX;have hn:(UInt8.ofNat c).toNat=c:=by have:=OH (n:=c) (by omega);omega
   have:=Ul (b:=UInt8.ofNat c) (by omega);rw[hn] at this;rw[this];unfold Dw;rw[if_neg xX]
section
theorem tQ(c:CS)(r:Int):aI c [r]=eh c r:=by simp[aI]
theorem AA{c:CS}(hn:n<128)(h0:n≠0)(a1:n≠13)(hc:c.returned=false)(hd:d.missing=0)(l:Iq):bq c d (((n:Nat):Int)::l)=((n:Nat):Int)::bq ⟨true,false⟩ d l:=by
 have h1:cT d ((n:Nat):Int)=(d,[((n:Nat):Int)]):=by unfold cT;rw[if_neg (by omega)];unfold cK;rw[if_pos (by omega),IntKind.wrap_i32,show(((n:Nat):Int)+2147483648) % 4294967296-2147483648=((n:Nat):Int) by omega]
 have U:(((n:Nat):Int)==13)=false:=by simp; omega
 have eb:(((n:Nat):Int)==65279)=false:=by simp; omega
 have h2:eh c ((n:Nat):Int)=(⟨true,false⟩,[((n:Nat):Int)]):=by unfold eh;rw[hc,U,eb];simp only[Bool.and_false,Bool.false_and,Bool.false_eq_true,if_false];rw[if_neg (by omega),if_neg (by omega)]
 rw[dN,h1];show(aI c [((n:Nat):Int)]).2++bq (aI c [((n:Nat):Int)]).1 d l=_;rw[tQ,h2];rfl
theorem AB{c:CS}(U:c.returned=false)(hd:d.missing=0)(l:Iq):bq c d (195::169::l)=233::bq ⟨true,false⟩ ⟨233,0,128,191⟩ l:=by
 have h1:cT d 195=(⟨3,1,128,191⟩,[]):=by unfold cT;rw[if_neg (by omega)];rfl
 have h2:cT ⟨3,1,128,191⟩ 169=(⟨233,0,128,191⟩,[233]):=by rfl
 have h3:eh c 233=(⟨true,false⟩,[233]):=by unfold eh;rw[U];simp
 rw[dN,h1,dN];show[]++((aI c (cT ⟨3,1,128,191⟩ 169).2).2++bq (aI c (cT ⟨3,1,128,191⟩ 169).2).1 (cT ⟨3,1,128,191⟩ 169).1 l)=_;rw[h2];show[]++((aI c [233]).2++bq (aI c [233]).1 ⟨233,0,128,191⟩ l)=_;rw[tQ,h3];rfl
def Pl (cl:List Nat):Prop:=∀c∈cl,It c∧c≠0∧c≠13
theorem BZ:∀{cl:List Nat} {c:CS} {d:DS},Pl cl→c.returned=false→d.missing=0→bq c d ((dR cl).map fun b=>((b.toNat:Nat):Int))=qL cl
 | [],c,d,_,U,hd=>by show bq c d []=[];rw[gh];unfold gk;rw[if_neg (by omega)];rfl
 | n::cl,c,d,h,U,hd=>by
  have ih:=fun c d=>BZ (cl:=cl) (c:=c) (d:=d) fun x hx=>h x (by simp[hx]);obtain⟨h1,h2,h3⟩:=h n (by simp);show bq c d ((Dw n++dR cl).map fun b=>((b.toNat:Nat):Int))=((n:Nat):Int)::qL cl;rw[List.map_append];unfold Dw;by_cases xX:n=233
  ·rw[if_pos xX,xX];show bq c d (195::169::(dR cl).map fun b=>((b.toNat:Nat):Int))=233::qL cl;rw[AB U hd,ih _ _ rfl rfl]
  ·have a1:n<128:=h1.resolve_right xX;rw[if_neg xX];have e:(UInt8.ofNat n).toNat=n:=by simp; omega
   show bq c d ((((UInt8.ofNat n).toNat:Nat):Int)::(dR cl).map fun b=>((b.toNat:Nat):Int))=_;rw[e,AA a1 h2 h3 U hd,ih _ _ rfl hd]
theorem AD{cl:List Nat}(h:Pl cl):bV ⟨(dR cl).toArray⟩=qL cl:=by unfold bV bytesOf;exact BZ h rfl rfl
end
section
variable {all pre rest yO:Iq}{x y:Int}{k:Nat}{stops:Bq}
theorem gX(h:all=pre++x::rest)(U:k=pre.length):dz all k=x:=by subst h U;unfold dz;rw[List.getElem?_append_right (Nat.le_refl _),Nat.sub_self];rfl
theorem qU(h:all=pre++rest)(U:k=pre.length):all.drop k=rest:=by subst h U;rw[List.drop_left]
theorem Bg{α:Type}{f:α→Bool}{y:α}{rest:List α}(U:f y=false):∀{yO:List α},(∀x∈yO,f x=true)→(yO++y::rest).takeWhile f=yO
 | [],_=>by simp[List.takeWhile_cons,U]
 | x::yO,h=>by rw[List.cons_append,List.takeWhile_cons,if_pos (h x (by simp)),Bg U fun z hz=>h z (by simp[hz])]
theorem wA(h:all=pre++(yO++y::rest))(U:k=pre.length)(hs:∀x∈yO,ej x stops=false)(hy:ej y stops=true):gL all stops k=k+yO.length:=by unfold gL;rw[qU h U,Bg (by simp[hy]) fun x hx=>by simp[hs x hx]]
theorem G7(h:all=pre++(yO++y::rest))(U:k=pre.length)(hs:∀x∈yO,ej x stops=true)(hy:ej y stops=false):mO all stops k=k+yO.length:=by unfold mO;rw[qU h U,Bg (f:=fun l=>ej l stops) hy hs]
theorem G6(h:all=pre++y::rest)(U:k=pre.length)(hy:ej y stops=false):mO all stops k=k:=G7 (yO:=[]) h U (by simp) hy
theorem oU(h:all=pre++(yO++rest))(hk:k=pre.length)(U:k'=k+yO.length):ec all k k'=bw yO:=by unfold ec;rw[qU h hk,U,show k+yO.length-k=yO.length by omega,List.take_left]
variable {an vl:Iq}{a0:Int}
structure EJ(a:List Int × List Int):Prop where
 ne:∃a0 an,a.1=a0::an∧ej a0 gK=false∧a0≠62∧a0 ≠ -1
 nm:∀x∈a.1,ej x p6=false
 vl:∀x∈a.2,ej x [34]=false
def lz (a:List Int × List Int):List Int:=a.1++61::34::(a.2++[34])
theorem ID{a:Iq × Iq}(ha:EJ a)(h:all=pre++(lz a++rest))(hk:k=pre.length):lk all k=k+a.1.length∧sX all k=k+a.1.length∧dz all (k+a.1.length)=61∧sM all k=k+a.1.length+1∧gz all (k+a.1.length+1)=(bw a.2,k+(lz a).length)∧ec all k (k+a.1.length)=bw a.1:=by
 obtain⟨a0,an,U,_⟩:=ha.ne;obtain⟨a,vl⟩:=a;have U:a=a0::an:=U;subst U;have hvl:∀x∈vl,ej x [34]=false:=ha.vl;have e0:all=pre++(a0::an++(61::34::(vl++34::rest))):=by rw[h]; simp[lz]
 have e1:all=(pre++[a0])++(an++61::(34::(vl++34::rest))):=by rw[e0]; simp
 have e2:all=(pre++a0::an)++61::(34::(vl++34::rest)):=by rw[e0]; simp
 have e3:all=(pre++a0::an++[61])++34::(vl++34::rest):=by rw[e0]; simp
 have e4:all=(pre++a0::an++[61,34])++(vl++34::rest):=by rw[e0]; simp
 have h1:lk all k=k+(a0::an).length:=by unfold lk;rw[wA (k:=k+1) e1 (by simp; omega) (fun x hx=>ha.nm x (by simp[hx])) (by decide)];simp;omega
 have h2:sX all k=k+(a0::an).length:=by unfold sX;rw[h1];exact G6 e2 (by simp; omega) (by decide)
 have h3:sM all k=k+(a0::an).length+1:=by unfold sM;rw[h2];exact G6 e3 (by simp; omega) (by decide)
 refine⟨h1,h2,gX e2 (by simp; omega),h3,?_,oU e0 hk rfl⟩;have h5:dz all (k+(a0::an).length+1)=34:=gX e3 (by simp; omega);have h6:gL all [34] (k+(a0::an).length+1+1)=k+(a0::an).length+1+1+vl.length:=wA e4 (by simp; omega) hvl (by decide);show gz all (k+(a0::an).length+1)=_;unfold gz;rw[if_pos h5,h6,oU (k':=k+(a0::an).length+1+1+vl.length) e4 (by simp; omega) rfl];simp[lz];omega
variable {lo:Bq→Bq}{wr:Bq→Int→Bq}{T:Bq→Prop}{W:Bq→Int→Prop}
def jp (aN:List (List Int × List Int)):List Int:=aN.flatMap fun a=>32::lz a
def Hw (lo:List UInt8→List UInt8)(wr:List UInt8→Int→List UInt8)(aN:List (List Int × List Int))(tK:jH):jH:=aN.foldl (fun l a=>mS l (lo (bw a.1),wr (bw a.2) 1)) tK
theorem Bd:∀{aN:List (Iq × Iq)} {pre:Iq} {k:Nat} {tK:jH},(∀a∈aN,EJ a∧T (bw a.1)∧W (bw a.2) 1)→all=pre++(jp aN++62::rest)→k=pre.length→tF all lo wr (aN.length+1) k tK=some (Hw lo wr aN tK,false,true,k+(jp aN).length+1)∧mP all lo wr T W (aN.length+1) k
 | [],pre,k,tK,_,h,hk=>by
  have hs:mO all gK k=k:=G6 (y:=62) h hk (by decide);have hl:dz all k=62:=gX h hk;constructor
  ·unfold tF sw;rw[show mO all (bR++[47]) k=k from hs,if_neg (by rw[hl]; decide),if_pos hl];simp[Hw,jp]
  ·unfold mP;intro _ h2;rw[hs] at h2;exact absurd hl h2
 | a::aN,pre,k,tK,ha,h,hk=>by
  obtain⟨U,a1,a2⟩:=ha a (by simp);obtain⟨a0,an,hae,my,iN,PO⟩:=U.ne;have e0:all=pre++(32::(lz a++(jp aN++62::rest))):=by rw[h]; simp[jp]
  have e1:all=(pre++[32])++(lz a++(jp aN++62::rest)):=by rw[e0]; simp
  have e2:all=pre++([32]++a0::(an++61::34::(a.2++34::(jp aN++62::rest)))):=by rw[e0]; simp[lz,hae]
  have e3:all=(pre++[32])++a0::(an++61::34::(a.2++34::(jp aN++62::rest))):=by rw[e2]; simp
  have hs:mO all gK k=k+1:=G7 e2 hk (by decide) my;have hl:dz all (k+1)=a0:=gX e3 (by simp; omega);obtain⟨q1,q2,q3,q4,q5,q6⟩:=ID U (k:=k+1) e1 (by simp; omega);have gC:jV all lo wr (k+1)=((lo (bw a.1),wr (bw a.2) 1),k+1+(lz a).length):=by unfold jV;rw[q2,if_pos q3,q1,q6,q4,q5]
  have e4:all=(pre++32::lz a)++(jp aN++62::rest):=by rw[e0]; simp
  obtain⟨a3,a4⟩:=Bd (aN:=aN) (pre:=pre++32::lz a) (k:=k+1+(lz a).length) (tK:=mS tK (lo (bw a.1),wr (bw a.2) 1)) (fun b hb=>ha b (by simp[hb])) e4 (by simp; omega);constructor
  ·rw[show(a::aN).length+1=(aN.length+1)+1 from rfl];unfold tF;rw[hs,hl,if_neg PO,if_neg iN,gC,a3];simp[Hw,jp];omega
  ·rw[show(a::aN).length+1=(aN.length+1)+1 from rfl];unfold mP;rw[hs,hl,gC];intro _ _;refine⟨⟨by rw[q1,q6]; exact a1,fun _=>?_⟩,a4⟩;rw[q4,q5];exact a2
end
end Go.Proofs.YtgcaionclkbehaaGreatDoor
