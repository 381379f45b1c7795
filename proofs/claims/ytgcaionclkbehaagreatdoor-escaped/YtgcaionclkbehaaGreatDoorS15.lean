import Derived.Test.YtgcaionclkbehaaGreatDoorG3
set_option linter.all false
set_option maxHeartbeats 2000000
set_option maxRecDepth 100000
namespace Go.Proofs.YtgcaionclkbehaaGreatDoor
open Go.Conc Go.RowKit Go.Lib Tryz
variable {B b c k k' n nb off pi tb wk:Nat}{l n1 nm out stops tn v1 vl:Bq}{P:Program}{t t' ty:TypeId}{cs gU cw:Aq}{fw fz uh:Nat × Nat}{s s' s1 s2:AS}{av nd v0:Value}{cl wh:Bool}{px x:aW}{aN:List (Bq × Bq)}{ns:List aW}{p:Int}{eF dH:List Nat}
section
variable {rn:Nat}{all:Iq}{pr:Prim}{s:AS}{c:Nat}{p q r:Value}
theorem KE(hp:wE rn all pr)(hk:k≤150000)(U:dz all k=39):Ef pr 366 #[am c 0] (sp s c rn p q r k) (str (gz all k).1) (sp s c rn p q r (gz all k).2):=by have a0:=gE (s:=s) (c:=c) (p:=p) (q:=q) (r:=r) hp (k:=k) (by omega);unfold gz;rw[if_neg (by rw[U]; decide),if_pos U];rw[U] at a0;have qY:=Lr (s:=s) (c:=c) (p:=p) (q:=q) (r:=r) hp (b0:=39) (by decide) (k:=k+1) (by omega);generalize ec all (k+1) (gL all [39] (k+1))=tx at qY ⊢;generalize gL all [39] (k+1)+1=k1 at qY ⊢;refine EF.of (hp.no 366 (by decide)) func366 rfl ?_;refine zs (EW.seq (zr (zc 1 a0 (zf (za (sp s c rn p q r k) (zs (EW.block (zs (za (sp s c rn p q r k) (zH (zr (zg 3 (sp s c rn p q r k) (zp (yl c 1 (num (k:Nat)) dV) (zp (yp (k:Nat) 1 ((k+1:Nat):Int) (by omega) (by omega)) (zg 2 (sp s c rn p q r k) (zp (ys c 1 (num ((k+1:Nat):Int)) dV (by simp)) (EO.nil (EW.gm (sp s c rn p q r (k+1)) nJ (zr (zc 3 qY (zf ?_)))))))))))))))))))));exact EW.ret ⟨.inr rfl,(by kernel_rfl),(by kernel_rfl)⟩
theorem N3(hp:wE rn all pr)(hk:k≤150000)(U:dz all k≠34)(a0:dz all k≠39):Ef pr 366 #[am c 0] (sp s c rn p q r k) (str (gz all k).1) (sp s c rn p q r (gz all k).2):=by have a1:=gE (s:=s) (c:=c) (p:=p) (q:=q) (r:=r) hp (k:=k) (by omega);unfold gz;rw[if_neg U,if_neg a0];have qY:=KC (s:=s) (c:=c) (p:=p) (q:=q) (r:=r) hp (stops:=bR++[62]) (by intro b h; simp at h; rcases h with rfl|rfl|rfl|rfl|rfl|rfl<;>decide) (k:=k) (by omega);generalize ec all k (gL all (bR++[62]) k)=tx at qY ⊢;generalize gL all (bR++[62]) k=k1 at qY ⊢;generalize dz all k=l at a1 U a0;refine EF.of (hp.no 366 (by decide)) func366 rfl ?_;refine zs (EW.seq (zr (zc 1 a1 (zf (za (sp s c rn p q r k) (zs (EW.block (EW.seq (zr (zp (yb (.int .i32 l) (.int .i32 34) (gF (b:=false) (beq_eq_false_iff_ne.2 U))) (zf (zG (zx (zp (yb (.int .i32 l) (.int .i32 39) (gF (b:=false) (beq_eq_false_iff_ne.2 a0))) (zf (za (sp s c rn p q r k) (zF (zr (zc 1 qY (zf ?_))))))))))))))))))));exact yR
theorem Sq(hp:wE rn all pr)(hk:k≤150000):Ef pr 366 #[am c 0] (sp s c rn p q r k) (str (gz all k).1) (sp s c rn p q r (gz all k).2):=by
 by_cases U:dz all k=34
 ·exact KD hp hk U
 ·by_cases a0:dz all k=39
  ·exact KE hp hk a0
  ·exact N3 hp hk U a0
theorem oV(U:k≤all.length):k≤gL all stops k∧gL all stops k≤all.length:=by
 have h1:=p9 (fun l=>!ej l stops) (all.drop k);have h2:(all.drop k).length=all.length-k:=by simp
 unfold gL;omega
theorem wm(U:k≤all.length):k≤mO all stops k∧mO all stops k≤all.length:=by
 have h1:=p9 (fun l=>ej l stops) (all.drop k);have h2:(all.drop k).length=all.length-k:=by simp
 unfold mO;omega
theorem vK(h:dz all k ≠ -1):k<all.length:=by
 unfold dz at h;by_cases U:k<all.length
 ·exact U
 ·rw[List.getElem?_eq_none (by omega)] at h; exact absurd rfl h
theorem HI(U:k≤all.length):k≤(gz all k).2∧(gz all k).2≤all.length+1:=by
 unfold gz;split
 ·next h =>
  have h1:k<all.length:=vK (by rw[h]; decide)
  have:=oV (all:=all) (stops:=[34]) (k:=k+1) (by omega);show k≤gL all [34] (k+1)+1∧gL all [34] (k+1)+1≤_;omega
 ·split
  ·next h =>
   have h1:k<all.length:=vK (by rw[h]; decide)
   have:=oV (all:=all) (stops:=[39]) (k:=k+1) (by omega);show k≤gL all [39] (k+1)+1∧gL all [39] (k+1)+1≤_;omega
  ·have:=oV (all:=all) (stops:=bR++[62]) U;show k≤gL all (bR++[62]) k∧gL all (bR++[62]) k≤_;omega
abbrev p6:List UInt8:=[9,10,12,13,32,47,62,61]
abbrev di:List UInt8:=[9,10,12,13,32,47,62]
theorem Pe:KI p6∧KI di:=by
 constructor<;>(intro b h; simp at h)
 ·rcases h with rfl|rfl|rfl|rfl|rfl|rfl|rfl|rfl<;>decide
 ·rcases h with rfl|rfl|rfl|rfl|rfl|rfl|rfl<;>decide
def lk (all:List Int)(k:Nat):Nat:=gL all p6 (k+1)
def sX (all:List Int)(k:Nat):Nat:=mO all bR (lk all k)
def sM (all:List Int)(k:Nat):Nat:=mO all bR (sX all k+1)
def jV(all:List Int)(lo:List UInt8→List UInt8)(wr:List UInt8→Int→List UInt8)(k:Nat):(List UInt8 × List UInt8) × Nat :=
 if dz all (sX all k)=61 then ((lo (ec all k (lk all k)),wr (gz all (sM all k)).1 1),(gz all (sM all k)).2) else ((lo (ec all k (lk all k)),[]),sX all k)
theorem EZ(U:k<all.length):k+1≤lk all k∧lk all k≤sX all k∧sX all k≤all.length:=by unfold sX lk;have h1:=oV (all:=all) (stops:=p6) (k:=k+1) (by omega);have h2:=wm (all:=all) (stops:=bR) h1.2;omega
theorem Bt(U:k<all.length)(h:dz all (sX all k)=61):sX all k+1≤sM all k∧sM all k≤all.length:=by have h1:sX all k<all.length:=vK (by rw[h]; decide);exact wm (all:=all) (stops:=bR) (k:=sX all k+1) (by omega)
theorem CP{lo:Bq→Bq}{wr:Bq→Int→Bq}(U:k<all.length):k<(jV all lo wr k).2∧(jV all lo wr k).2≤all.length+1:=by
 have h1:=EZ U;unfold jV;split
 ·next h =>have h2:=Bt U h;have h3:=HI h2.2;show k<(gz all (sM all k)).2∧(gz all (sM all k)).2≤_;omega
 ·show k<sX all k∧sX all k≤_;omega
structure Tx(rn:Nat)(all:List Int)(lo:List UInt8→List UInt8)(wr:List UInt8→Int→List UInt8)(T:List UInt8→Prop)(W:List UInt8→Int→Prop)(pr:Prim):Prop where
 g:wE rn all pr
 low:∀(s:AS) (t:List UInt8),T t→EF prog mB pr 258 #[str t] s (str (lo t)) s
 XI:∀(s:AS) (t:List UInt8) (k:Int),W t k→s.get 1=some (.cells cY.toArray 335)→rn<s.nx→EF prog mB pr 157 #[str t,num k] s (str (wr t k)) s
def EK(all:List Int)(T:List UInt8→Prop)(W:List UInt8→Int→Prop)(k:Nat):Prop:=T (ec all k (lk all k))∧(dz all (sX all k)=61→W (gz all (sM all k)).1 1)
abbrev fo(a b:List UInt8):Obj:=.cells #[str a,str b] 47
variable {lo:Bq→Bq}{wr:Bq→Int→Bq}{T:Bq→Prop}{W:Bq→Int→Prop}
theorem iA{d:TypeDesc}(ht:P.underlying t=some d)(hd:d.isRow=true)(hz:bI P t=some n)(hs:s.get b=some (.cells cs ty fz))(U:off+n≤cs.size):aE P t (am b off) s=some (.agg (cs.toList.drop off |>.take n).toArray):=by unfold aE;simp only[am,hs,ht,hd,hz,if_true];rw[if_pos U]
theorem LO(hp:Tx rn all lo wr T W pr)(hk:k<all.length)(ho:EK all T W k)(h1:Has s c (fI rn k p q r))(a5:c≠1)(a9:Has s 1 (.cells cY.toArray 335))(hr:rn<s.nx):∃s',Ef pr 326 #[am c 0] s (.agg #[str (jV all lo wr k).1.1,str (jV all lo wr k).1.2]) s'∧Has s' c (fI rn (jV all lo wr k).2 p q r)∧aQ (fun b=>b=c) s s':=by
 have aa:=hp.g.len;have H7:=EZ hk;have a6:=Bt (all:=all) hk;have a1:=h1.add (fo [] []);have a2:=Has.new s (fo [] []);have a3:=a9.add (fo [] []);have a4:=(aQ.refl (K:=fun b=>b=c) s).add (fo [] []);have vD:c≠s.nx:=by have:=h1.1; omega
 have a7:(s.add (fo [] [])).nx=s.nx+1:=rfl;have PI:s.add (fo [] [])=s.add (fo [] []):=rfl;refine EF.gu (hp.g.no 326 (by decide)) func326 rfl ?_;refine zs (za (s.add (fo [] [])) ?_);generalize s.add (fo [] [])=S at a1 a2 a3 a4 a7 PI ⊢;have Yv:=mH a1.2;have UZ:c≠S.nx:=by have:=a1.1; omega
 have a8:s.nx≠S.nx:=by omega
 have b1:∀k',Has (sp S c rn p q r k') c (fI rn k' p q r):=fun k'=>a1.put _;have b2:∀k',Has (sp S c rn p q r k') s.nx (fo [] []):=fun k'=>a2.set (Ne.symm vD) _;have b3:∀k',Has (sp S c rn p q r k') 1 (.cells cY.toArray 335):=fun k'=>a3.set (Ne.symm a5) _;have b4:∀k',aQ (fun b=>b=c) s (sp S c rn p q r k'):=fun k'=>aQ.set a4 (fun _=>rfl) _;have qY:=KC (s:=S) (c:=c) (p:=p) (q:=q) (r:=r) hp.g Pe.1 (k:=k+1) (by omega);rw[show gL all p6 (k+1)=lk all k from rfl] at qY;have vI:=wj hp.g (s:=sp S c rn p q r (lk all k)) (k:=k) (j:=lk all k) (by omega);have vF:=hp.low (sp S c rn p q r (lk all k)) _ ho.1;have gC:∀v k',(if dz all (sX all k)=61 then (((lo (ec all k (lk all k)),wr (gz all (sM all k)).1 1),(gz all (sM all k)).2):(Bq × Bq) × Nat) else ((lo (ec all k (lk all k)),[]),sX all k))=((lo (ec all k (lk all k)),v),k')→jV all lo wr k=((lo (ec all k (lk all k)),v),k'):=fun v k' h=>h;generalize lo (ec all k (lk all k))=nm at vF gC;have d1:=(b1 (lk all k)).add (fo nm []);have d2:=(b2 (lk all k)).add (fo nm []);have d3:=(b3 (lk all k)).add (fo nm []);have d4:=(b4 (lk all k)).add (fo nm []);have d5:Has ((sp S c rn p q r (lk all k)).add (fo nm [])) S.nx (fo nm []):=Has.new (sp S c rn p q r (lk all k)) (fo nm []);have d6:((sp S c rn p q r (lk all k)).add (fo nm [])).nx=S.nx+1:=rfl;have hZ:Has ((sp S c rn p q r (lk all k)).add (fo [] [])) S.nx (fo [] []):=Has.new (sp S c rn p q r (lk all k)) (fo [] []);have HZ:((sp S c rn p q r (lk all k)).add (fo [] [])).set S.nx (some (fo nm []))=(sp S c rn p q r (lk all k)).add (fo nm []):=AS.set_set (⟨(sp S c rn p q r (lk all k)).hp,S.nx+1⟩:AS) S.nx (some (fo [] [])) (some (fo nm []));generalize hU:(sp S c rn p q r (lk all k)).add (fo nm [])=U at d1 d2 d3 d4 d5 d6 HZ;have MM:=mH d1.2;have Yw:=G8 (s:=U) (c:=c) (p:=p) (q:=q) (r:=r) hp.g (k:=lk all k) (by omega);rw[MM,show mO all bR (lk all k)=sX all k from rfl] at Yw;have pK:=gE (s:=U) (c:=c) (p:=p) (q:=q) (r:=r) hp.g (k:=sX all k) (by omega);generalize ec all k (lk all k)=tx at vI vF;generalize H6:lk all k=k1 at *;generalize Dh:sX all k=k2 at *;refine zr (zg 3 S (zp (yl c 1 (num (k:Nat)) a1.2) (zf (za S (zr (zg 3 S (zp (yl c 1 (num (k:Nat)) a1.2) (zp (yp (k:Nat) 1 ((k+1:Nat):Int) (by omega) (by omega)) (zg 2 S (zp (ys c 1 (num ((k+1:Nat):Int)) a1.2 (by simp)) (EO.nil (za (sp S c rn p q r (k+1)) (zr (zc 1 qY (EO.nil (za (sp S c rn p q r k1) (EW.seq (EW.draw (by kernel_rfl) (by kernel_rfl) (by kernel_rfl) ?_))))))))))))))))));iterate 3 refine zq ?_
 refine zt (sp S c rn p q r k1) (zu (yl c 0 (am rn 0) dV) ?_);iterate 4 refine zq ?_
 refine zt (sp S c rn p q r k1) (zu (yl c 1 (num (k1:Nat)) dV) (yt vI (yt vF ?_)));iterate 2 refine zq ?_
 refine zt ((sp S c rn p q r k1).add (fo [] [])) (zu (ek (b:=S.nx) (off:=0) (w:=.agg #[str nm,str []]) (ws:=[str nm,str []]) rfl (by kernel_rfl) (by kernel_rfl) rfl rfl (by kernel_rfl) hZ.2 (by simp)) (ET.nil ⟨aM [(aE prog 84 (am c 0) (sp S c rn p q r k1),am rn 0),(aE prog 3 (am c 1) (sp S c rn p q r k1),num (k1:Nat))] (by kernel_rfl) (mM ⟨Cz _,rfl⟩ ⟨Hs _,rfl⟩),_,_,_,_,_,_,rfl,rfl,?_⟩));refine za (((sp S c rn p q r k1).add (fo [] [])).set S.nx (some (fo nm []))) ?_;rw[HZ];refine zr (zc 1 Yw (EO.nil (za (sp U c rn p q r k2) (EW.seq (zr (zc 1 pK ?_))))));by_cases a0:dz all k2=61
 ·have a6:=a6 a0;have MN:=G8 (s:=U) (c:=c) (p:=p) (q:=q) (r:=r) hp.g (k:=k2+1) (by omega);rw[show mO all bR (k2+1)=sM all k by unfold sM; rw[Dh]] at MN;have tl:=Sq (s:=U) (c:=c) (p:=p) (q:=q) (r:=r) hp.g (k:=sM all k) (by omega);have hw:=hp.XI (sp U c rn p q r (gz all (sM all k)).2) (gz all (sM all k)).1 1 (by have:=ho.2; rw[Dh] at this; exact this a0) (d3.set (Ne.symm a5) _).2 (by show rn<U.nx; omega);have he:=gC (wr (gz all (sM all k)).1 1) (gz all (sM all k)).2 (by rw[if_pos a0]);rw[he];generalize (gz all (sM all k)).1=t1 at tl hw he;generalize (gz all (sM all k)).2=k4 at tl hw he;generalize sM all k=k3 at MN tl;generalize wr t1 1=vl at hw he;have w1:Has (sp U c rn p q r k4) c (fI rn k4 p q r):=d1.put _;have w2:Has (sp U c rn p q r k4) s.nx (fo [] []):=d2.set (Ne.symm vD) _;have w3:Has (sp U c rn p q r k4) S.nx (fo nm []):=d5.set (Ne.symm UZ) _;have w4:aQ (fun b=>b=c) s (sp U c rn p q r k4):=aQ.set d4 (fun _=>rfl) _;have v1:Has ((sp U c rn p q r k4).set S.nx (some (fo nm vl))) c (fI rn k4 p q r):=w1.set UZ _;have v2:Has ((sp U c rn p q r k4).set S.nx (some (fo nm vl))) s.nx (fo [] []):=w2.set a8 _;have v3:Has ((sp U c rn p q r k4).set S.nx (some (fo nm vl))) S.nx (fo nm vl):=w3.put _;have v4:aQ (fun b=>b=c) s ((sp U c rn p q r k4).set S.nx (some (fo nm vl))):=aQ.set w4 (fun z=>absurd z (by omega)) _;refine zp (yb (.int .i32 (dz all k2)) (.int .i32 61) (gF (b:=true) (beq_iff_eq.2 a0))) (EO.nil (za (sp U c rn p q r k2) (zH (zr (zg 3 (sp U c rn p q r k2) (zp (yl c 1 (num (k2:Nat)) dV) (zp (yp (k2:Nat) 1 ((k2+1:Nat):Int) (by omega) (by omega)) (zg 2 (sp U c rn p q r k2) (zp (ys c 1 (num ((k2+1:Nat):Int)) dV (by simp)) (EO.nil (EW.gm (sp U c rn p q r (k2+1)) nJ (zr (zc 1 MN (EO.nil (za (sp U c rn p q r k3) (zx (zc 1 tl (zc 0 hw (zg 1 (sp U c rn p q r k4) (zp (ys S.nx 1 (str vl) w3.2 (by simp)) (EO.nil (za ((sp U c rn p q r k4).set S.nx (some (fo nm vl))) ?_))))))))))))))))))))));generalize (sp U c rn p q r k4).set S.nx (some (fo nm vl))=V at v1 v2 v3 v4 ⊢;have z1:=v2.put (fo nm vl);have z2:Has (V.set s.nx (some (fo nm vl))) c (fI rn k4 p q r):=v1.set vD _;have z3:aQ (fun b=>b=c) s (V.set s.nx (some (fo nm vl))):=aQ.set v4 (fun z=>absurd z (Nat.lt_irrefl _)) _;refine zr (zp (yA S.nx 0 2 #[str nm,str vl] v3.2 (by simp)) (zo V (zp (ek (b:=s.nx) (off:=0) (w:=.agg #[str nm,str vl]) (ws:=[str nm,str vl]) rfl (by kernel_rfl) (by kernel_rfl) rfl rfl (by kernel_rfl) v2.2 (by simp)) (EO.nil (za (V.set s.nx (some (fo nm vl))) ?_)))));exact EW.ret ⟨.inr rfl,(show _=aE prog 47 (am s.nx 0) (V.set s.nx (some (fo nm vl))) by kernel_rfl).trans (iA (n:=2) underlying47 rfl (by kernel_rfl) z1.2 (by simp)),z2,z3⟩
 ·have he:=gC [] k2 (by rw[if_neg a0]);rw[he];have v1:Has (sp U c rn p q r k2) c (fI rn k2 p q r):=d1.put _;have v2:Has (sp U c rn p q r k2) s.nx (fo [] []):=d2.set (Ne.symm vD) _;have v3:Has (sp U c rn p q r k2) S.nx (fo nm []):=d5.set (Ne.symm UZ) _;have v4:aQ (fun b=>b=c) s (sp U c rn p q r k2):=aQ.set d4 (fun _=>rfl) _;generalize dz all k2=l at pK a0;refine zp (yb (.int .i32 l) (.int .i32 61) (gF (b:=false) (beq_eq_false_iff_ne.2 a0))) (EO.nil (za (sp U c rn p q r k2) (zF ?_)));generalize sp U c rn p q r k2=V at v1 v2 v3 v4 ⊢;have z1:=v2.put (fo nm []);have z2:Has (V.set s.nx (some (fo nm []))) c (fI rn k2 p q r):=v1.set vD _;have z3:aQ (fun b=>b=c) s (V.set s.nx (some (fo nm []))):=aQ.set v4 (fun z=>absurd z (Nat.lt_irrefl _)) _;refine zr (zp (yA S.nx 0 2 #[str nm,str []] v3.2 (by simp)) (zo V (zp (ek (b:=s.nx) (off:=0) (w:=.agg #[str nm,str []]) (ws:=[str nm,str []]) rfl (by kernel_rfl) (by kernel_rfl) rfl rfl (by kernel_rfl) v2.2 (by simp)) (EO.nil (za (V.set s.nx (some (fo nm []))) ?_)))));exact EW.ret ⟨.inr rfl,(show _=aE prog 47 (am s.nx 0) (V.set s.nx (some (fo nm []))) by kernel_rfl).trans (iA (n:=2) underlying47 rfl (by kernel_rfl) z1.2 (by simp)),z2,z3⟩
end
section
variable {pr:Prim}{s:AS}
abbrev jH:=List (List UInt8 × List UInt8)
theorem NF(U:pr 365=none)(hB:Has s B (fo nm vl)):Ef pr 365 #[.agg #[str n1,str v1],am B 0] s (.bool (cJ n1 nm)) (s.add (fo n1 v1)):=by have h1:=Has.new s (fo n1 v1);have h2:=hB.add (fo n1 v1);refine EF.of U func365 rfl ?_;refine zs (za (s.add (fo n1 v1)) ?_);generalize hS:s.add (fo n1 v1)=S at h1 h2 ⊢;refine zr (zg 1 S (zp (yl s.nx 0 (str n1) h1.2) (zg 1 S (zp (yl B 0 (str nm) h2.2) (zp (yb (str n1) (str nm) (Bz rfl)) ?_)))));generalize cJ n1 nm=bb;refine zf ?_;exact yR
abbrev xT(B:Nat):Value:=.func (.func 365) #[] #[am B 0]
def Hj(av:Value)(B n i:Nat)(x:Nat→Value):TL:=[av,xT B,x 2,x 3,num 0,x 5,av,num (n:Nat),num (i:Nat)]++kl x 9 10
theorem bT.fk{K:Nat→Prop}{v:Value}{l:jH}(h:bT s v l)(U:aQ K s s')(hk:∀b,blk v b→¬K b):bT s' v l:=by
 rcases h with h|⟨ab,c,fz,rfl,h1,h2⟩
 ·exact .inl h
 ·have:=Has.fr ⟨h1,h2⟩ U (hk ab (eA _ _ _));exact .inr ⟨ab,c,fz,rfl,this.1,this.2⟩
theorem bT.lt{v:Value}{l:jH}(h:bT s v l):∀b,YtgcaionclkbehaaGreatDoor.blk v b→b<s.nx:=fun b U=>by
 rcases h with ⟨rfl,_⟩|⟨ab,c,fz,rfl,h1,h2⟩
 ·exact(cj U).elim
 ·rw[cW U]; exact h1
theorem bT.na{v:Value}{l:jH}(h:bT s v l):aU 20 v=true∧aU 19 v=true∧v.oneCell'=true∧v.cells=#[v]:=by rcases h with ⟨rfl,_⟩|⟨ab,c,fz,rfl,h1,h2⟩<;>exact⟨rfl,rfl,rfl,rfl⟩
theorem bT.len{v:Value}{l:jH}(h:bT s v l):∃ad cp,v=.slice ad l.length cp:=by
 rcases h with ⟨rfl,rfl⟩|⟨ab,c,fz,rfl,h1,h2⟩
 ·exact⟨none,0,rfl⟩
 ·exact⟨_,_,rfl⟩
theorem MX(a3:∀f,f∈ux→pr f=none){aN:jH}(hB:Has s B (fo nm vl))(ha:bT s av aN)(hl:aN.length≤100000):∃s' j,Ef pr 364 #[av,xT B] s (num j) s'∧aQ (fun _=>False) s s'∧decide (j≥0)=aN.any fun p=>cJ p.1 nm:=by
 obtain⟨ad,cp,a5⟩:=ha.len;suffices h:Ew pr (match Tryz.f364.body with|some c=>c|none=>.skip) ((#[av,xT B]:Aq).toList++List.replicate (Tryz.f364.ntmps-(#[av,xT B]:Aq).toList.length) undef) s (fun e a' s1=>(e=.normal∨e=.ret)∧aQ (fun _=>False) s s1∧∃j,dA prog Tryz.f364 a' s1=some (num j)∧decide (j≥0)=aN.any fun p=>cJ p.1 nm) by obtain⟨m,e,a',s1,h1,he,h2,j,h3,h4⟩:=h;exact⟨s1,j,EF.of (a3 364 (by decide)) func364 rfl ⟨m,e,a',s1,h1,he,h3,rfl⟩,h2,h4⟩
 subst a5;refine zs (za s (EW.seq (zs (za s ?_))));refine EW.fill (Hj (.slice ad aN.length cp) B aN.length 0) (by kernel_rfl) ?_;intro x0;generalize hn:aN.length=n at *;refine EW.block ?_;refine EW.mono (EW.eD (Q:=fun e a' s1=>(e=.exit 0∧aQ (fun _=>False) s s1∧((aN.any fun p=>cJ p.1 nm)=false)∧∃x,a'=Hj (.slice ad n cp) B n n x)∨(e=.ret∧aQ (fun _=>False) s s1∧∃j,dA prog Tryz.f364 a' s1=some (num j)∧decide (j≥0)=aN.any fun p=>cJ p.1 nm)) (fun m a' s'=>∃i,i+m=n∧aQ (fun _=>False) s s'∧((aN.take i).any fun p=>cJ p.1 nm)=false∧∃x,a'=Hj (.slice ad n cp) B n i x) ?_ n _ _ ⟨0,by omega,aQ.refl s,rfl,x0,rfl⟩) ?_
 ·rintro m a' s' ⟨i,a6,hf,U,x,rfl⟩;by_cases hm:0<m
  ·have a0:i<aN.length:=by omega
   have hx:aN[i]?=some aN[i]:=List.getElem?_eq_getElem a0;obtain⟨ZN,XT⟩:=u7 hx;have Au:aN.take (i+1)=aN.take i++[aN[i]]:=by rw[List.take_add_one,hx]; rfl
   have a1:aN[i]∈aN:=List.getElem_mem a0;generalize aN[i]=pp at hx XT Au a1;obtain⟨n1,v1⟩:=pp;obtain⟨ab,fz,rfl,l1,l2⟩:∃ab fz,ad=some ⟨ab,0,none⟩∧ab<s'.nx∧s'.get ab=some (.cells (fA aN) 47 fz):=by
    have:=ha.fk hf (fun _ _=>id);rcases this with ⟨_,z⟩|⟨ab,cq,fz,z1,z2,z3⟩
    ·rw[z] at a0; simp at a0
    ·cases z1; exact⟨ab,fz,rfl,z2,z3⟩
   have a4:=hB.fr hf id;have mT:=NF (pr:=pr) (a3 365 (by decide)) (n1:=n1) (v1:=v1) a4;have Yg:aQ (fun _=>False) s (s'.add (fo n1 v1)):=hf.add _;have Ml:(aN.take (i+1)).any (fun p=>cJ p.1 nm)=cJ n1 nm:=by rw[Au,List.any_append,U];simp
   have a2:cJ n1 nm=true→(aN.any fun p=>cJ p.1 nm)=true:=fun h=>List.any_eq_true.2 ⟨_,a1,h⟩;generalize cJ n1 nm=bb at mT Ml a2;refine zr (zp (yb (num (i:Nat)) (num (n:Nat)) (bD (b:=true) (decide_eq_true (by omega)))) (EO.nil (EW.seq (zT (EW.seq (EW.block (zs (za s' (zr (zg 3 s' (zp (yi ab 0 n cp (i*2) none .i64 (i:Nat) 2 (by omega) (by omega) (by omega)) (zo s' (zp (g8 (b:=ab) (off:=i*2) (n:=2) (r:=#[str n1,str v1]) rfl underlying47 rfl (by kernel_rfl) (by kernel_rfl) l2 ZN XT) (yc #[] #[am B 0] mT (EO.nil (za (s'.add (fo n1 v1)) ?_))))))))))))))));cases bb with
   | true =>refine zH ?_;refine zs ?_;exact EW.ret (.inr ⟨rfl,Yg,(i:Nat),(by kernel_rfl),by rw[a2 rfl]; exact decide_eq_true (by omega)⟩)
   | false =>refine zF ?_;refine zx (zp (yp (i:Nat) 1 ((i+1:Nat):Int) (by omega) (by omega)) (zf ?_));exact⟨m-1,by omega,i+1,by omega,Yg,Ml,bG (by kernel_rfl)⟩
  ·obtain rfl:i=n:=by omega
   rw[List.take_of_length_le (by omega)] at U;refine zr (zp (yb (num (i:Nat)) (num (i:Nat)) (bD (b:=false) (decide_eq_false (by omega)))) (EO.nil (EW.seq (zG (EW.exit ?_)))));exact .inl ⟨rfl,hf,U,bG (by kernel_rfl)⟩
 ·rintro e a' s' (⟨rfl,hf,h1,x,rfl⟩|⟨rfl,h⟩)
  ·refine zs ?_;exact EW.ret ⟨.inr rfl,hf,-1,(by kernel_rfl),by rw[h1]; rfl⟩
  ·exact⟨.inr rfl,h⟩
theorem PN(U:∀f,f∈ux→pr f=none){aN:jH}(hB:Has s B (fo nm vl))(ha:bT s av aN)(hl:aN.length≤100000):∃s',Ef pr 322 #[av,xT B] s (.bool (aN.any fun p=>cJ p.1 nm)) s'∧aQ (fun _=>False) s s':=by obtain⟨s',j,h1,h2,h3⟩:=MX U hB ha hl;refine⟨s',?_,h2⟩;refine EF.of (U 322 (by decide)) func322 rfl ?_;refine zs (zr (zc 2 h1 (zp (yb (num j) (num 0) (iI (b:=aN.any fun p=>cJ p.1 nm) h3)) ?_)));generalize (aN.any fun p=>cJ p.1 nm)=bb;refine zf ?_;exact yR
def mS(aN:jH)(x:List UInt8 × List UInt8):jH:=if decide (aN.length<20)&&!(aN.any fun p=>cJ p.1 x.1) then aN++[x] else aN
theorem ni(l:jH):(fA l).size=l.length*2:=by
 induction l with
 | nil=>rfl
 | cons t ts U=>simp at U ⊢; omega
theorem zK(l:jH)(x:Bq × Bq):((fA l).toList.take (l.length*2)++[str x.1,str x.2]).toArray=fA (l++[x]):=by rw[List.take_of_length_le (by rw[Array.length_toList,ni]; exact Nat.le_refl _)];simp
theorem RG{aN:jH}(h:bT s av aN)(x:Bq × Bq)(hl:aN.length≤100000):∃w s',aZ prog 47 av [str x.1,str x.2] 1 s=some (w,s')∧w.cells=#[w]∧w.oneCell'=true∧bT s' w (aN++[x])∧aQ (fun b=>blk av b) s s'∧∀b,blk w b→s.nx≤b:=by
 rcases h with ⟨rfl,rfl⟩|⟨d,cp,fz,rfl,q1,q2⟩
 ·refine⟨_,_,fZ (by decide),rfl,rfl,.inr ⟨s.nx,1,(1,1),rfl,(Has.new s _).1,(Has.new s _).2⟩,(aQ.refl s).add _,fun b z=>Nat.le_of_eq (cW z).symm⟩
 ·have U:=ni aN;refine⟨_,_,fM (sz:=2) (by decide) q2 (by kernel_rfl) (by omega) (by omega),rfl,rfl,?_,(aQ.set (aQ.refl s) (fun _=>eA _ _ _) none).add _,fun b z=>Nat.le_of_eq (cW z).symm⟩;rw[zK];have hn:=Has.new (s.set d none) (.cells (fA (aN++[x])) 47 (1,1));exact .inr ⟨s.nx,_,(1,1),by rw[List.length_append]; rfl,hn.1,hn.2⟩
abbrev gi(nm:List UInt8)(av:Value)(cl:Bool):Obj:=.cells #[str nm,av,.bool cl] 262
theorem Mb(U:∀f,f∈ux→pr f=none){aN:jH}(ht:Has s tb (gi tn av cl))(ha:bT s av aN)(hl:aN.length≤100000)(nm vl:Bq):∃s' nM,Ef pr 325 #[am tb 0,.agg #[str nm,str vl]] s (.tuple #[]) s'∧Has s' tb (gi tn nM cl)∧bT s' nM (mS aN (nm,vl))∧aQ (fun b=>b=tb∨blk av b) s s'∧(nM=av∨∀b,blk nM b→s.nx≤b):=by
 obtain⟨ad,cp,a5⟩:=ha.len;have a1:=ht.add (fo nm vl);have a2:=Has.new s (fo nm vl);have a3:bT (s.add (fo nm vl)) av aN:=ha.fk ((aQ.refl (K:=fun _=>False) s).add _) fun _ _=>id;have a4:=(aQ.refl (K:=fun b=>b=tb∨blk av b) s).add (fo nm vl);have hnt:¬blk av tb:=fun z=>by
  rcases ha with ⟨rfl,_⟩|⟨d,c,fz,rfl,q1,q2⟩
  ·exact cj z
  ·rw[cW z] at ht; exact ht.ne (⟨q1,q2⟩:Has s d _) (by decide) rfl
 suffices h:Ew pr (match Tryz.f325.body with|some c=>c|none=>.skip) ((#[am tb 0,.agg #[str nm,str vl]]:Aq).toList++List.replicate (Tryz.f325.ntmps-(#[am tb 0,.agg #[str nm,str vl]]:Aq).toList.length) undef) s (fun e a' s1=>(e=.normal∨e=.ret)∧∃nM,Has s1 tb (gi tn nM cl)∧bT s1 nM (mS aN (nm,vl))∧aQ (fun b=>b=tb∨blk av b) s s1∧(nM=av∨∀b,blk nM b→s.nx≤b)) by obtain⟨m,e,a',s1,h1,he,nM,h2⟩:=h;exact⟨s1,nM,EF.of (U 325 (by decide)) func325 rfl ⟨m,e,a',s1,h1,he,rfl,rfl⟩,h2⟩
 refine zs (za (s.add (fo nm vl)) ?_);have a0:(s.add (fo nm vl)).nx=s.nx+1:=rfl;generalize s.add (fo nm vl)=S at a1 a2 a3 a4 a0 ⊢;refine zs (za S ?_);obtain⟨S2,hH,jT⟩:=PN U a2 a3 hl;have b1:=a1.fr jT id;have b2:=a2.fr jT id;have b3:=a3.fk jT fun _ _=>id;have b4:=a4.trans jT fun _ _ z=>z.elim;refine zr (zg 3 S (zp (yl tb 1 av a1.2) ?_));subst a5;refine zk 1 ?_;by_cases X1:aN.length<20
 ·refine zp (yb (num (aN.length:Nat)) (num 20) (bD (b:=true) (decide_eq_true (by omega)))) (zg 4 S (zp (yl tb 1 (.slice ad aN.length cp) a1.2) (zc 1 hH ?_)));unfold mS;rw[decide_eq_true X1,Bool.true_and];show EO _ _ _ _ _ _ _ _;generalize a6:(aN.any fun p=>cJ p.1 nm)=bb at *;cases bb with
  | true =>refine zf ?_;refine za S2 (zF ?_);exact⟨.inl rfl,_,b1,by simpa using b3,b4,.inl rfl⟩
  | false =>
   have c1:=b1.add (fo nm vl);have c3:bT (S2.add (fo nm vl)) (.slice ad aN.length cp) aN:=b3.fk ((aQ.refl (K:=fun _=>False) S2).add _) fun _ _=>id;have c4:=b4.add (fo nm vl);have c5:=Has.new S2 (fo nm vl);obtain⟨w,S3,e1,e2,e3,e4,e5,e6⟩:=RG c3 (nm,vl) hl;have c6:Has S3 tb (gi tn (.slice ad aN.length cp) cl):=c1.fr e5 hnt;have c7:aQ (fun b=>b=tb∨blk (.slice ad aN.length cp) b) s S3:=c4.trans e5 fun b _ z=>.inr z;have xY:=iX b3.lt;have zi:S.nx≤S2.nx:=jT.1;have l1:aE prog 42 (am tb 1) S2=some (.slice ad aN.length cp):=bH (P:=prog) (t:=42) underlying42 rfl b1.2 (off:=1) rfl;have l2:aE prog 47 (am s.nx 0) S2=some (.agg #[str nm,str vl]):=iA (n:=2) underlying47 rfl (by kernel_rfl) b2.2 (by simp);refine zf (za S2 (zH ?_));refine EW.draw (by kernel_rfl) (by kernel_rfl) (by kernel_rfl) ?_;iterate 4 refine zq ?_
   refine zt S2 (zu (yl tb 1 (.slice ad aN.length cp) b1.2) (zu (yA s.nx 0 2 #[str nm,str vl] b2.2 (by simp)) (zq (zt (S2.add (fo nm vl)) (zu (gZ (sl:=.slice ad aN.length cp) (news:=[str nm,str vl]) (d:=S2.nx) (m:=1) (k:=1) (sz:=2) (z:=.agg #[str [],str []]) (bytes:=32) rfl (by kernel_rfl) (by kernel_rfl) underlying42 (by kernel_rfl) rfl (by decide) (by decide) (by kernel_rfl) c5.2 xY (by decide) (by simp) (by simp) rfl e1) ?_)))));iterate 2 refine zq ?_
   refine zt S3 (zu (ir (b:=tb) (off:=1) (w:=w) rfl (by kernel_rfl) (by kernel_rfl) e2 e3 (by kernel_rfl) c6.2 (by simp)) (ET.nil ⟨aM [(aE prog 42 (am tb 1) S2,.slice ad aN.length cp),(aE prog 47 (am s.nx 0) S2,.agg #[str nm,str vl])] (by kernel_rfl) (mM ⟨l1,b3.na.1⟩ ⟨l2,rfl⟩),_,_,_,_,_,_,rfl,rfl,?_⟩));refine⟨.inl rfl,w,c6.put _,?_,aQ.set c7 (fun _=>.inl rfl) _,.inr fun b z=>?_⟩
   ·have:=e4.fk (aQ.set (K:=fun b=>b=tb) (aQ.refl S3) (fun _=>rfl) (some (gi tn w cl))) fun b z zz=>?_
    ·exact this
    ·have:=e6 b z
     have:=c1.1;simp at *;omega
   ·have:=e6 b z;simp at this;omega
 ·refine zp (yb (num (aN.length:Nat)) (num 20) (bD (b:=false) (decide_eq_false (by omega)))) (zf (za S (zF ?_)));refine⟨.inl rfl,_,a1,?_,a4,.inl rfl⟩;unfold mS;rw[decide_eq_false X1];exact a3
end
theorem Ct{fn:Func}{a:TL}{t0 t1:Tmp}{p0 v1:Value}(hr:fn.results.toList=[.cell t0 ty,.tmp t1])(ha:a.getD t0 undef=p0)(U:aE P ty p0 s=some v0)(h1:a.getD t1 undef=v1):dA P fn a s=some (.tuple #[v0,v1]):=by unfold dA;rw[hr];simp only[List.mapM_cons,List.mapM_nil,lG,ha,U,h1];rfl
abbrev gK:List UInt8:=bR++[47]
def tF (all:List Int)(lo:List UInt8→List UInt8)(wr:List UInt8→Int→List UInt8):Nat→Nat→jH→Option (jH × Bool × Bool × Nat)
 | 0,_,_=>none
 | n+1,k,aN=>if dz all (mO all gK k) = -1 then some ([],false,false,mO all gK k) else if dz all (mO all gK k)=62 then some (aN,sw all k,true,mO all gK k+1) else tF all lo wr n (jV all lo wr (mO all gK k)).2 (mS aN (jV all lo wr (mO all gK k)).1)
def mP(all:List Int)(lo:List UInt8→List UInt8)(wr:List UInt8→Int→List UInt8)(T:List UInt8→Prop)(W:List UInt8→Int→Prop):Nat→Nat→Prop
 | 0,_=>True
 | n+1,k=>dz all (mO all gK k) ≠ -1→dz all (mO all gK k)≠62→EK all T W (mO all gK k)∧mP all lo wr T W n (jV all lo wr (mO all gK k)).2
theorem Db(aN:jH)(x:Bq × Bq):(mS aN x).length≤max aN.length 20:=by
 unfold mS;split
 ·next h =>
  rw[Bool.and_eq_true] at h
  have:=of_decide_eq_true h.1;simp;omega
 ·omega
def Lp(c tb:Nat)(x:Nat→Value):TL:=[am c 0,x 1,am tb 0,.bool false]++kl x 4 25
section
variable {rn:Nat}{all:Iq}{pr:Prim}{s:AS}{c:Nat}{p q r:Value}{lo:Bq→Bq}{wr:Bq→Int→Bq}{T:Bq→Prop}{W:Bq→Int→Prop}
theorem Kg(U:k≤all.length+1):mO all stops k≤all.length+1∧k≤mO all stops k:=by
 by_cases h:k≤all.length
 ·have:=wm (all:=all) (stops:=stops) h; omega
 ·unfold mO;rw[List.drop_of_length_le (by omega)];simp;omega
theorem Sj(hp:Tx rn all lo wr T W pr){aN:jH}(hk:k≤all.length)(hT:T (ec all k (gL all di k)))(U:tF all lo wr n (gL all di k) []=some (aN,cl,wh,k'))(a0:mP all lo wr T W n (gL all di k))(h1:Has s c (fI rn k p q r))(a8:c≠1)(ah:Has s 1 (.cells cY.toArray 335))(hr:rn<s.nx) :
  ∃s' av,Ef pr 248 #[am c 0] s (.tuple #[.agg #[str (if wh then lo (ec all k (gL all di k)) else []),av,.bool cl],.bool wh]) s'∧Has s' c (fI rn k' p q r)∧bT s' av aN∧aQ (fun b=>b=c) s s'∧(∀b,blk av b→s.nx≤b)∧k'≤all.length+2:=by
 have ao:=hp.g.len;have yg:=hp.g.no;have a1:=h1.add (gi [] aG false);have a2:=Has.new s (gi [] aG false);have a3:=ah.add (gi [] aG false);have a4:=(aQ.refl (K:=fun b=>b=c) s).add (gi [] aG false);have vD:c≠s.nx:=by have:=h1.1; omega
 have al:s.nx<(s.add (gi [] aG false)).nx:=by simp
 suffices h:Ew pr (match Tryz.f248.body with|some c=>c|none=>.skip) ((#[am c 0]:Aq).toList++List.replicate (Tryz.f248.ntmps-(#[am c 0]:Aq).toList.length) undef) s (fun e a' s1=>(e=.normal∨e=.ret)∧∃av,dA prog Tryz.f248 a' s1=some (.tuple #[.agg #[str (if wh then lo (ec all k (gL all di k)) else []),av,.bool cl],.bool wh])∧Has s1 c (fI rn k' p q r)∧bT s1 av aN∧aQ (fun b=>b=c) s s1∧(∀b,blk av b→s.nx≤b)∧k'≤all.length+2) by obtain⟨m,e,a',s1,h1,he,av,h2,h3⟩:=h;exact⟨s1,av,EF.of (yg 248 (by decide)) func248 rfl ⟨m,e,a',s1,h1,he,h2,rfl⟩,h3⟩
 refine zs (za (s.add (gi [] aG false)) ?_);generalize s.add (gi [] aG false)=S at a1 a2 a3 a4 al ⊢;have a7:=KC (s:=S) (c:=c) (p:=p) (q:=q) (r:=r) hp.g Pe.2 (k:=k) (by omega);rw[mH a1.2] at a7;have H7:=oV (all:=all) (stops:=di) hk;have vF:=hp.low (sp S c rn p q r (gL all di k)) _ hT;generalize lo (ec all k (gL all di k))=nm at vF ⊢;generalize ec all k (gL all di k)=tx at a7 vF;generalize gL all di k=k1 at a7 vF H7 U a0;have b1:Has (sp S c rn p q r k1) c (fI rn k1 p q r):=a1.put _;have b2:Has (sp S c rn p q r k1) s.nx (gi [] aG false):=a2.set (Ne.symm vD) _;have b3:Has (sp S c rn p q r k1) 1 (.cells cY.toArray 335):=a3.set (Ne.symm a8) _;have b4:aQ (fun b=>b=c) s (sp S c rn p q r k1):=aQ.set a4 (fun _=>rfl) _;have d1:Has ((sp S c rn p q r k1).set s.nx (some (gi nm aG false))) c (fI rn k1 p q r):=b1.set vD _;have d2:Has ((sp S c rn p q r k1).set s.nx (some (gi nm aG false))) s.nx (gi nm aG false):=b2.put _;have Uq:(1:Nat)≠s.nx:=by have:=ah.1; omega
 have d3:Has ((sp S c rn p q r k1).set s.nx (some (gi nm aG false))) 1 (.cells cY.toArray 335):=b3.set Uq _;have d4:aQ (fun b=>b=c) s ((sp S c rn p q r k1).set s.nx (some (gi nm aG false))):=aQ.set b4 (fun z=>absurd z (Nat.lt_irrefl _)) _;refine zr (zc 1 a7 (zc 0 vF (zg 1 (sp S c rn p q r k1) (zp (ys s.nx 0 (str nm) b2.2 (by simp)) (EO.nil (za ((sp S c rn p q r k1).set s.nx (some (gi nm aG false))) ?_))))));generalize (sp S c rn p q r k1).set s.nx (some (gi nm aG false))=V at d1 d2 d3 d4 ⊢;refine EW.fill (Lp c s.nx) (by kernel_rfl) ?_;intro x0;refine EW.block ?_;have H6:k1≤all.length+1:=by omega
 clear a7 vF b1 b2 b3 b4 a1 a2 a3 a4 H7 hT;refine EW.mono (EW.eD (Q:=fun e a' s1=>e=.ret∧∃av,dA prog Tryz.f248 a' s1=some (.tuple #[.agg #[str (if wh then nm else []),av,.bool cl],.bool wh])∧Has s1 c (fI rn k' p q r)∧bT s1 av aN∧aQ (fun b=>b=c) s s1∧(∀b,blk av b→s.nx≤b)∧k'≤all.length+2) (fun m a' s'=>∃k tK av a9,k≤all.length+1∧tK.length≤20∧tF all lo wr m k tK=some (aN,cl,wh,k')∧mP all lo wr T W m k∧Has s' c (fI rn k p q r)∧Has s' s.nx (gi nm av a9)∧Has s' 1 (.cells cY.toArray 335)∧aQ (fun b=>b=c) s s'∧bT s' av tK∧(∀b,blk av b→s.nx≤b)∧∃x,a'=Lp c s.nx x) ?_ n _ _ ⟨k1,[],aG,false,H6,by simp,U,a0,d1,d2,d3,d4,.inl ⟨rfl,rfl⟩,fun b z=>(cj z).elim,x0,rfl⟩) ?_
 ·rintro m a' S ⟨k,tK,av,a9,hk,aq,U,a0,e1,e2,e3,e4,e5,e6,x,rfl⟩;cases m with
  | zero=>cases U
  | succ m =>
   have a6:=Kh (s:=S) (c:=c) (p:=p) (q:=q) (r:=r) hp.g (k:=k) (by omega);rw[mH e1.2] at a6;have VZ:=Kg (all:=all) (stops:=gK) hk;unfold tF at U;unfold mP at a0;generalize mO all (bR++[47]) k=k2 at a6 VZ U a0;generalize sw all k=sl at a6 U;have f1:Has (sp S c rn p q r k2) c (fI rn k2 p q r):=e1.put _;have f2:Has (sp S c rn p q r k2) s.nx (gi nm av a9):=e2.set (Ne.symm vD) _;have f3:Has (sp S c rn p q r k2) 1 (.cells cY.toArray 335):=e3.set (Ne.symm a8) _;have f4:aQ (fun b=>b=c) s (sp S c rn p q r k2):=aQ.set e4 (fun _=>rfl) _;have H2:∀b,blk av b→b≠c:=fun b z=>by have:=e6 b z; have:=h1.1; omega
   have ai:∀b,blk av b→b≠s.nx:=fun b z=>by
    rcases e5 with ⟨rfl,_⟩|⟨d,cp,fz,rfl,q1,q2⟩
    ·exact(cj z).elim
    ·rw[cW z]; exact(show Has S d _ from⟨q1,q2⟩).ne e2 (by decide)
   have f5:bT (sp S c rn p q r k2) av tK:=e5.fk (aQ.set (K:=fun b=>b=c) (aQ.refl S) (fun _=>rfl) _) H2;have g1:Has ((sp S c rn p q r k2).set s.nx (some (gi nm av sl))) c (fI rn k2 p q r):=f1.set vD _;have g2:Has ((sp S c rn p q r k2).set s.nx (some (gi nm av sl))) s.nx (gi nm av sl):=f2.put _;have g3:Has ((sp S c rn p q r k2).set s.nx (some (gi nm av sl))) 1 (.cells cY.toArray 335):=f3.set Uq _;have g4:aQ (fun b=>b=c) s ((sp S c rn p q r k2).set s.nx (some (gi nm av sl))):=aQ.set f4 (fun z=>absurd z (Nat.lt_irrefl _)) _;have g5:bT ((sp S c rn p q r k2).set s.nx (some (gi nm av sl))) av tK:=f5.fk (aQ.set (K:=fun b=>b=s.nx) (aQ.refl _) (fun _=>rfl) _) ai;refine EW.block (zr (zc 1 a6 (zg 1 (sp S c rn p q r k2) (zp (ys s.nx 2 (.bool sl) f2.2 (by simp)) (EO.nil (za ((sp S c rn p q r k2).set s.nx (some (gi nm av sl))) ?_))))));generalize (sp S c rn p q r k2).set s.nx (some (gi nm av sl))=V at g1 g2 g3 g4 g5 ⊢;clear a6 f1 f2 f3 f4 f5 e1 e2 e3 e4 e5;have pK:=gE (s:=V) (c:=c) (p:=p) (q:=q) (r:=r) hp.g (k:=k2) (by omega);rw[mH g1.2] at pK;refine EW.seq (zr (zc 1 pK (EO.nil (za V (EW.block (zr ?_))))));by_cases MD:dz all k2 = -1
   ·rw[if_pos MD] at U;simp only[Option.some.injEq,Prod.mk.injEq] at U;obtain⟨aa,ae,af,ag⟩:=U;subst aa ae af ag;refine zp (yb (.int .i32 (dz all k2)) (.int .i32 (-1)) (gF (b:=true) (beq_iff_eq.2 MD))) (zf (za V (zH (zr (zg 1 V (zp (ek (b:=s.nx) (off:=0) (w:=.agg #[str [],aG,.bool false]) (ws:=[str [],aG,.bool false]) rfl (by kernel_rfl) (by kernel_rfl) rfl rfl (by kernel_rfl) g2.2 (by simp)) (zf ?_)))))));have z1:=g2.put (gi [] aG false);refine za (V.set s.nx (some (gi [] aG false))) ?_;exact EW.ret ⟨rfl,aG,Ct rfl (by kernel_rfl) (iA (off:=0) (n:=3) underlying262 rfl (by kernel_rfl) z1.2 (by simp)) (by kernel_rfl),g1.set vD _,.inl ⟨rfl,rfl⟩,aQ.set g4 (fun z=>absurd z (Nat.lt_irrefl _)) _,fun b z=>(cj z).elim,by omega⟩
   ·rw[if_neg MD] at U;refine zp (yb (.int .i32 (dz all k2)) (.int .i32 (-1)) (gF (b:=false) (beq_eq_false_iff_ne.2 MD))) (zf (za V (zG (zr ?_))));by_cases a5:dz all k2=62
    ·rw[if_pos a5] at U;simp only[Option.some.injEq,Prod.mk.injEq] at U;obtain⟨aa,ae,af,ag⟩:=U;subst aa ae af ag;have z0:Has (sp V c rn p q r (k2+1)) s.nx (gi nm av sl):=g2.set (Ne.symm vD) _;have z1:=z0.put (gi nm av sl);have z2:Has (sp V c rn p q r (k2+1)) c (fI rn (k2+1) p q r):=g1.put _;have z3:bT (sp V c rn p q r (k2+1)) av tK:=g5.fk (aQ.set (K:=fun b=>b=c) (aQ.refl V) (fun _=>rfl) _) H2;refine zp (yb (.int .i32 (dz all k2)) (.int .i32 62) (gF (b:=true) (beq_iff_eq.2 a5))) (zf (za V (zH (zr (zg 3 V (zp (yl c 1 (num (k2:Nat)) g1.2) (zp (yp (k2:Nat) 1 ((k2+1:Nat):Int) (by omega) (by omega)) (zg 2 V (zp (ys c 1 (num ((k2+1:Nat):Int)) g1.2 (by simp)) (EO.nil (za (sp V c rn p q r (k2+1)) (zr (zp (yA s.nx 0 3 #[str nm,av,.bool sl] z0.2 (by simp)) (zo (sp V c rn p q r (k2+1)) (zp (ek (b:=s.nx) (off:=0) (w:=.agg #[str nm,av,.bool sl]) (ws:=[str nm,av,.bool sl]) rfl (by kernel_rfl) (by kernel_rfl) rfl (by show((str nm).oneCell'&&(av.oneCell'&&((Value.bool sl).oneCell'&&true)))=true; rw[g5.na.2.2.1]; rfl) (by kernel_rfl) z0.2 (by simp)) (zf (za ((sp V c rn p q r (k2+1)).set s.nx (some (gi nm av sl))) ?_)))))))))))))))));exact EW.ret ⟨rfl,av,Ct rfl (by kernel_rfl) (iA (off:=0) (n:=3) underlying262 rfl (by kernel_rfl) z1.2 (by simp)) (by kernel_rfl),z2.set vD _,z3.fk (aQ.set (K:=fun b=>b=s.nx) (aQ.refl _) (fun _=>rfl) _) ai,aQ.set (aQ.set g4 (fun _=>rfl) _) (fun z=>absurd z (Nat.lt_irrefl _)) _,e6,by omega⟩
    ·rw[if_neg a5] at U;obtain⟨ak,aj⟩:=a0 MD a5;have Dh:=vK MD;have hrV:rn<V.nx:=by have:=g4.1; omega
     obtain⟨S3,hA,i1,i2⟩:=LO hp Dh ak g1 a8 g3 hrV;have UM:=CP (lo:=lo) (wr:=wr) Dh;generalize jV all lo wr k2=ap at *;obtain⟨⟨an,vl⟩,k3⟩:=ap;have j2:=g2.fr i2 (Ne.symm vD);have j3:=g3.fr i2 (Ne.symm a8);have j4:=g4.trans i2 fun b _ z=>z;have j5:=g5.fk i2 H2;obtain⟨S4,Ua,hG,l1,l2,l3,l4⟩:=Mb yg j2 j5 (by omega) an vl;have Vj:=Db tK (an,vl);have hVn:s.nx<S3.nx:=j2.1;refine zp (yb (.int .i32 (dz all k2)) (.int .i32 62) (gF (b:=false) (beq_eq_false_iff_ne.2 a5))) (zf (za V (zF (zx (zc 1 hA (zc 0 hG (EO.nil ?_)))))));refine⟨m,Nat.lt_succ_self m,k3,mS tK (an,vl),Ua,sl,UM.2,by omega,U,aj,i1.fr l3 ?_,l1,j3.fr l3 ?_,j4.trans l3 ?_,l2,?_,bG (by kernel_rfl)⟩
     ·rintro(z|z)
      ·exact vD z
      ·exact H2 c z rfl
     ·rintro(z|z)
      ·exact Uq z
      ·have:=e6 1 z; have:=ah.1; omega
     ·rintro b hb (z|z)
      ·omega
      ·have:=e6 b z; omega
     ·rcases l4 with rfl|l4
      ·exact e6
      ·intro b z
       have:=l4 b z;omega
 ·rintro e a' s' ⟨rfl,h⟩;exact⟨.inr rfl,h⟩
end
abbrev cg:Obj:=.cells #[num 0,num 0,str [],str [],.slice none 0 0] 44
theorem ji{l:List aW}{i:Nat}(h:l[i]?=some x):i*5+5≤(aX l).size∧(((aX l).toList.drop (i*5)).take 5).toArray=x.cells.toArray:=by
 induction l generalizing i with
 | nil=>simp at h
 | cons y l U =>
  cases i with
  | zero =>simp only[List.getElem?_cons_zero,Option.some.injEq] at h;subst h;simp[aW.cells]
  | succ i =>rw[List.getElem?_cons_succ] at h;obtain⟨h1,h2⟩:=U h;simp only[List.size_toArray,List.flatMap_cons,List.length_append,aW.cells,List.length_cons,List.length_nil] at h1 ⊢;refine⟨by omega,?_⟩;rw[show(i+1)*5=5+i*5 by omega,← List.drop_drop];simpa[aW.cells] using h2
section
variable {pr:Prim}{s:AS}
theorem bT.fr{v:Value}(h:bT s v aN)(hb:BE s b nd l)(hf:gO b s s'):bT s' v aN:=by
 rcases h with h|⟨ab,c,fz,e1,e2,U⟩
 ·exact .inl h
 ·refine .inr ⟨ab,c,fz,e1,by have:=hf.1; omega,(hf.2 ab e2 ?_ (dg U (by decide))).trans U⟩;rintro rfl;obtain⟨_,p,sl,hs,_⟩:=hb;rw[hs] at U;injection U with q
  injection q with _ q2
  exact absurd q2 (by decide)
theorem bT.one{v:Value}(h:bT s v aN):Value.oneCell' v=true:=by rcases h with ⟨rfl,_⟩|⟨ab,c,fz,rfl,_⟩<;>rfl
theorem n6(hp:Lz pr){i:Nat}(h:BE s b (eE nb ns.length c) l)(hn:s.get nb=some (.cells (aX ns) 44 fz))(hx:ns[i]?=some x)(a7:x.kind=1)(a0:bT s x.c9 aN)(hl:l.length+x.name.length+(cF aN).length≤900000)(hk:aN.length≤1000)(a8:ns.length≤100000)
 (U:∀p∈aN,∀s,Ef pr 266 #[str p.2] s (str (iL p.2)) s) :
  ∃s',Ef pr 82 #[am b 0,num (i:Nat)] s (.tuple #[]) s'∧BE s' b (eE nb ns.length c) (l++([60]++x.name++cF aN++[62]))∧gO b s s':=by
 have a1:=h;obtain⟨hb,p,sl,hs,VI,QF⟩:=h;have hi:i<ns.length:=(List.getElem?_eq_some_iff.1 hx).1;obtain⟨kH,Jh⟩:=ji hx;have rW:(s.add cg).get s.nx=some cg:=by rw[AS.aH,if_pos rfl]
 have a3:((s.add cg).set s.nx (some (.cells x.cells.toArray 44))).get s.nx=some (.cells x.cells.toArray 44):=by rw[AS.aK,if_pos rfl]
 have a5:BE ((s.add cg).set s.nx (some (.cells x.cells.toArray 44))) b (eE nb ns.length c) l:=(a1.add _).set (by omega) (dg rW (by decide));have wI:gO b s ((s.add cg).set s.nx (some (.cells x.cells.toArray 44))):=(gO.add b s _).set (Nat.le_refl _);have VE:s.nx<((s.add cg).set s.nx (some (.cells x.cells.toArray 44))).nx:=by simp
 have a2:x.cells.all Value.oneCell'=true:=by simp only[aW.cells,List.all_cons,List.all_nil,a0.one];rfl
 obtain⟨s2,hw,a4,a6⟩:=LV (pr:=pr) hp (x:=x) (aN:=aN) a5 (a0.fr a1 wI) hl hk U;refine EF.gu hp.YW func82 rfl ?_;refine zr (zg 3 s (zp (yl b 0 (eE nb ns.length c) hs) ?_));generalize hK:ns.length=K at *;refine zg 1 s (zp (yi nb 0 K c (i*5) none .i64 (i:Nat) 5 (by omega) (by omega) (by omega)) (zo s (zp (g8 (b:=nb) (off:=i*5) (n:=5) (r:=x.cells.toArray) rfl underlying44 rfl (by kernel_rfl) (by kernel_rfl) hn kH Jh) (zg 1 (s.add cg) (zp (ek (b:=s.nx) (off:=0) (w:=.agg x.cells.toArray) (ws:=x.cells) rfl (by kernel_rfl) (by kernel_rfl) rfl a2 (by kernel_rfl) rW (by simp[aW.cells])) (EO.nil (za ((s.add cg).set s.nx (some (.cells x.cells.toArray 44))) ?_)))))));generalize (s.add cg).set s.nx (some (.cells x.cells.toArray 44))=s1 at *;generalize hB:s.nx=B at *;refine zr (zg 1 s1 (zp (bO (b:=B) (off:=0) (v:=num 1) rfl underlying3 rfl (by kernel_rfl) a3 (by show some (num x.kind)=_; rw[a7])) (EO.nil (EW.block (za s1 (zs (zH (za s1 (zx (zg 1 s1 (zp (g8 (b:=B) (off:=0) (n:=5) (r:=x.cells.toArray) rfl underlying44 rfl (by kernel_rfl) (by kernel_rfl) a3 (by simp[aW.cells]) (by simp[aW.cells])) (zc 0 hw (EO.nil ?_)))))))))))));exact⟨.inl rfl,by kernel_rfl,a4,wI.trans a6⟩
theorem E9(hp:Lz pr){i:Nat}(h:BE s b (eE nb ns.length c) l)(hn:s.get nb=some (.cells (aX ns) 44 fz))(aa:nb<s.nx)(hx:ns[i]?=some x)(a9:x.kind=2)(a4:bT s x.c9 [])(af:x.parent=(pi:Nat))(ag:ns[pi]?=some px)(hl:l.length+out.length≤900000)(ae:ns.length≤100000)
 (a3:∀(s:AS) (d:Nat),s.get d=some (.cells #[str [115,99,114,105,112,116],str [115,116,121,108,101]] 9)→Ef pr 127 #[str px.name,.slice (sq d) 2 2] s (.bool false) s)(U:∀s,Ef pr 267 #[str x.text] s (str out) s) :
  ∃s',Ef pr 82 #[am b 0,num (i:Nat)] s (.tuple #[]) s'∧BE s' b (eE nb ns.length c) (l++out)∧gO b s s':=by
 have a6:=h;obtain⟨hb,p,sl,hs,VI,QF⟩:=h;have hi:i<ns.length:=(List.getElem?_eq_some_iff.1 hx).1;obtain⟨kH,Jh⟩:=ji hx;have rW:(s.add cg).get s.nx=some cg:=by rw[AS.aH,if_pos rfl]
 have a2:((s.add cg).set s.nx (some (.cells x.cells.toArray 44))).get s.nx=some (.cells x.cells.toArray 44):=by rw[AS.aK,if_pos rfl]
 have a7:BE ((s.add cg).set s.nx (some (.cells x.cells.toArray 44))) b (eE nb ns.length c) l:=(a6.add _).set (by omega) (dg rW (by decide));have wI:gO b s ((s.add cg).set s.nx (some (.cells x.cells.toArray 44))):=(gO.add b s _).set (Nat.le_refl _);have VE:s.nx<((s.add cg).set s.nx (some (.cells x.cells.toArray 44))).nx:=by simp
 have a1:x.cells.all Value.oneCell'=true:=by simp only[aW.cells,List.all_cons,List.all_nil,a4.one];rfl
 have a0:nb≠b:=by
  rintro rfl;rw[hs] at hn;injection hn with q
  injection q with _ q2
  exact absurd q2 (by decide)
 obtain⟨s2,hw,a5,a8⟩:=KG (pr:=pr) hp (x:=x) (pi:=pi) (px:=px) (out:=out) a7 ((wI.2 nb aa a0 (dg hn (by decide))).trans hn) (by omega) af ag hl ae a3 U;refine EF.gu hp.YW func82 rfl ?_;refine zr (zg 3 s (zp (yl b 0 (eE nb ns.length c) hs) ?_));generalize hK:ns.length=K at *;refine zg 1 s (zp (yi nb 0 K c (i*5) none .i64 (i:Nat) 5 (by omega) (by omega) (by omega)) (zo s (zp (g8 (b:=nb) (off:=i*5) (n:=5) (r:=x.cells.toArray) rfl underlying44 rfl (by kernel_rfl) (by kernel_rfl) hn kH Jh) (zg 1 (s.add cg) (zp (ek (b:=s.nx) (off:=0) (w:=.agg x.cells.toArray) (ws:=x.cells) rfl (by kernel_rfl) (by kernel_rfl) rfl a1 (by kernel_rfl) rW (by simp[aW.cells])) (EO.nil (za ((s.add cg).set s.nx (some (.cells x.cells.toArray 44))) ?_)))))));generalize (s.add cg).set s.nx (some (.cells x.cells.toArray 44))=s1 at *;generalize hB:s.nx=B at *;refine zr (zg 1 s1 (zp (bO (b:=B) (off:=0) (v:=num 2) rfl underlying3 rfl (by kernel_rfl) a2 (by show some (num x.kind)=_; rw[a9])) (EO.nil (EW.block (za s1 (zs (zG (zs (zH (za s1 (zx (zg 1 s1 (zp (g8 (b:=B) (off:=0) (n:=5) (r:=x.cells.toArray) rfl underlying44 rfl (by kernel_rfl) (by kernel_rfl) a2 (by simp[aW.cells]) (by simp[aW.cells])) (zc 0 hw (EO.nil ?_)))))))))))))));exact⟨.inl rfl,by kernel_rfl,a5,wI.trans a8⟩
end
def cC(s:AS)(v:Value)(dH:List Nat):Prop:=(v=.slice none 0 0∧dH=[])∨∃ob cp cs fz,v=.slice (some ⟨ob,0,none⟩) dH.length cp∧dH.length≤cp∧ob<s.nx∧s.get ob=some (.cells cs 3 fz)∧∀i k:Nat,dH[i]?=some k→cs[i]?=some (num (k:Nat))
abbrev ng(nd v:Value)(b:Nat):Obj:=.cells #[nd,v,.func (.func 83) #[am b 0] #[]] 209
def uY (b wk:Nat)(s s':AS):Prop:=s.nx≤s'.nx∧∀k,k<s.nx→k≠b→k≠wk→EC (s.get k)→s'.get k=s.get k
theorem uY.refl(b wk:Nat)(s:AS):uY b wk s s:=⟨Nat.le_refl _,fun _ _ _ _ _=>rfl⟩
theorem uY.trans(h:uY b wk s s1)(U:uY b wk s1 s2):uY b wk s s2:=⟨Nat.le_trans h.1 U.1,fun k hk hb hw h5=>by have e:=h.2 k hk hb hw h5;rw[U.2 k (by have:=h.1; omega) hb hw (by rw[e]; exact h5),e]⟩
theorem gO.u(h:gO b s s1):uY b wk s s1:=⟨h.1,fun k hk hb _ U=>h.2 k hk hb U⟩
theorem uY.G4{o:Option Obj}:uY b wk s (s.set wk o):=⟨by simp,fun k hk hb U h5=>by rw[AS.aK,if_neg U]⟩
theorem jF{a:Nat}(h:s.get a=some (.cells cs t fz))(U:s.get b=some (.cells gU t' uh))(ht:t≠t'):a≠b:=fun e=>by
 rw[e,U] at h;injection h with q
 injection q with _ q2
 exact ht q2.symm
def vT (ns:List aW)(k:Nat):List UInt8:=match ns[k]? with
 | some x=>x.name
 | none=>[]
def iw(ns:List aW)(k:Nat):List UInt8:=[60,47]++vT ns k++[62]
def bE(ns:List aW)(eF:List Nat):List UInt8:=eF.reverse.flatMap (iw ns)
theorem vk(ns:List aW)(l:List Nat)(k:Nat):bE ns (k::l)=bE ns l++iw ns k:=by simp[bE]
theorem vm(ns:List aW)(l:List Nat)(m:Nat):(bE ns (l.drop m)).length≤(bE ns l).length:=by have:=congrArg (fun z=>(bE ns z).length) (List.take_append_drop m l);simp only[bE,List.reverse_append,List.flatMap_append,List.length_append] at this ⊢;omega
def Ln(wk:Nat)(p z:Int)(x:Nat→Value):TL:=[am wk 0,num p,x 2,x 3,num z]++kl x 5 42
section
variable {pr:Prim}{s:AS}
theorem tT(hp:Lz pr)(af:pr 163=none){v:Value}{base:List Nat}(h:BE s b (eE nb ns.length c) l)(hn:s.get nb=some (.cells (aX ns) 44 fz))(b1:nb<s.nx)(ae:s.get wk=some (ng (eE nb ns.length c) v b))(b8:wk<s.nx)(hv:cC s v (base++eF))
 (ar:∀k∈eF,((k:Nat):Int)≠p∧k<ns.length)(a8:base=[]∨∃b0 k0,base=b0++[k0]∧((k0:Nat):Int)=p)(hl:l.length+(bE ns eF).length≤900000)(b2:ns.length≤100000)(b7:base.length+eF.length≤100000) :
  ∃s',Ef pr 163 #[am wk 0,num p] s (.tuple #[]) s'∧BE s' b (eE nb ns.length c) (l++bE ns eF)∧uY b wk s s'∧∃v',s'.get wk=some (ng (eE nb ns.length c) v' b)∧cC s' v' base:=by
 have a9:∃a0 cp,v=.slice a0 (base.length+eF.length) cp:=by
  rcases hv with ⟨e1,e2⟩|⟨ob,cp,cs,uh,e1,_⟩
  ·have hz:base.length+eF.length=0:=by have:=congrArg List.length e2; simpa using this
   exact⟨none,0,by rw[e1,hz]⟩
  ·exact⟨_,cp,by rw[e1,List.length_append]⟩
 obtain⟨a0,b5,au⟩:=a9;refine EF.gu af func163 rfl ?_;refine zr (zg 3 s (zp (yl wk 1 v ae) ?_));rw[au];refine zk 1 (zp (ik (i:=((base.length+eF.length:Nat):Int)) (j:=1) (r:=((base.length+eF.length:Nat):Int)-1) rfl (by kernel_rfl) (by kernel_rfl) rfl (by omega)) (zf (za s ?_)));refine EW.fill (Ln wk p (((base.length+eF.length:Nat):Int)-1)) (by kernel_rfl) ?_;intro x0;clear au;refine EW.block ?_;refine EW.mono (EW.eD (Q:=fun e a' s'=>e=.exit 0∧BE s' b (eE nb ns.length c) (l++bE ns eF)∧uY b wk s s'∧∃v',s'.get wk=some (ng (eE nb ns.length c) v' b)∧cC s' v' base) (fun m a' s'=>m≤eF.length∧BE s' b (eE nb ns.length c) (l++bE ns (eF.drop m))∧uY b wk s s'∧(∃v',s'.get wk=some (ng (eE nb ns.length c) v' b)∧cC s' v' (base++eF.take m))∧∃x,a'=Ln wk p (((base.length+m:Nat):Int)-1) x) ?_ eF.length _ _ ⟨Nat.le_refl _,by simpa[bE] using h,uY.refl b wk s,⟨v,ae,by simpa using hv⟩,x0,rfl⟩) ?_
 ·rintro m a' s' ⟨b6,hb,hf,⟨v',U,a4⟩,x,rfl⟩;have hb0:=hb;by_cases hm:0<m
  ·obtain⟨m,rfl⟩:∃m',m=m'+1:=⟨m-1,by omega⟩;have eH:m<eF.length:=by omega
   have aq:eF[m]?=some eF[m]:=List.getElem?_eq_getElem eH;obtain⟨ai,ah⟩:=ar _ (List.getElem_mem eH);have ag:eF.drop m=eF[m]::eF.drop (m+1):=List.drop_eq_getElem_cons eH;have aa:eF.take (m+1)=eF.take m++[eF[m]]:=by rw[List.take_add_one,aq]; rfl
   generalize eF[m]=k at aq ai ah ag aa;obtain⟨nx,aj⟩:∃x,ns[k]?=some x:=⟨ns[k],List.getElem?_eq_getElem ah⟩;have mU:vT ns k=nx.name:=by unfold vT; rw[aj]
   have a5:bE ns (eF.drop m)=bE ns (eF.drop (m+1))++iw ns k:=by rw[ag,vk]
   have ay:=vm ns eF m;rw[a5,List.length_append] at ay;have Df:(iw ns k).length=nx.name.length+3:=by simp[iw,mU]
   obtain⟨b4,pb,b9,a6,_⟩:=hb;obtain⟨hbs,pb0,XF,VT,_⟩:=h;have US:BE s' b (eE nb ns.length c) (l++bE ns (eF.drop (m+1))):=hb0;have Dj:=(hf.2 nb b1 (jF hn VT (by decide)) (jF hn ae (by decide)) (dg hn (by decide))).trans hn;have Wb:wk<s'.nx:=by have:=hf.1; omega
   obtain⟨ob,cp,cs,uh,rfl,ax,ak,a1,a7⟩:∃ob cp cs uh,v'=.slice (sq ob) (base.length+(m+1)) cp∧base.length+(m+1)≤cp∧ob<s'.nx∧s'.get ob=some (.cells cs 3 uh)∧∀i k:Nat,(base++eF.take (m+1))[i]?=some k→cs[i]?=some (num (k:Nat)):=by
    have a3:(base++eF.take (m+1)).length=base.length+(m+1):=by rw[List.length_append,List.length_take]; omega
    rcases a4 with ⟨_,e2⟩|⟨ob,cp,cs,uh,e1,e2,e3,e4,e5⟩
    ·rw[e2] at a3; simp at a3
    ·exact⟨ob,cp,cs,uh,by rw[e1,a3],by omega,e3,e4,e5⟩
   have a2:cs[base.length+m]?=some (num (k:Nat)):=a7 _ _ (by rw[aa,← List.append_assoc,List.getElem?_append_right (by rw[List.length_append,List.length_take]; omega),List.length_append,List.length_take,show base.length+m-(base.length+min m eF.length)=0 by omega];rfl);obtain⟨s2,Al,iN,jT⟩:=LX (pr:=pr) hp US Dj aj (by rw[List.length_append]; omega) b2;rw[show l++bE ns (eF.drop (m+1))++([60,47]++nx.name++[62])=l++bE ns (eF.drop m) by rw[a5]; unfold iw; rw[mU]; simp only[List.append_assoc]] at iN;have tp:=(jT.2 wk Wb (jF U a6 (by decide)) (dg U (by decide))).trans U;have Qx:=(jT.2 ob ak (jF a1 a6 (by decide)) (dg a1 (by decide))).trans a1;have Ey:=bH (P:=prog) (t:=133) underlying133 rfl U (off:=2) rfl;have H7:=bH (P:=prog) (t:=25) underlying25 rfl U (off:=1) rfl;have F8:=bH (P:=prog) (t:=3) underlying3 rfl a1 a2;rw[show((base.length+(m+1):Nat):Int)-1=((base.length+m:Nat):Int) by omega];generalize hT:base.length+m=T at *;rw[show base.length+(m+1)=T+1 by omega] at *;generalize X8:eE nb ns.length c=nd at *;refine EW.seq (zr (zk 1 (zp (yb (num (T:Nat)) (num 0) (iI (b:=true) (decide_eq_true (by omega)))) (zg 4 s' (zp (yl wk 1 (.slice (sq ob) (T+1) cp) U) (zk 1 (zp (yi ob 0 (T+1) cp T none .i64 (T:Nat) 1 (by omega) (by omega) (by omega)) (zo s' (zp (bO (b:=ob) (off:=T) (v:=num (k:Nat)) rfl underlying3 rfl (by kernel_rfl) a1 a2) (zk 1 (zp (yb (num (k:Nat)) (num p) (cO (b:=true) (bne_iff_ne.2 ai))) (zf (za s' (zT (EW.seq (EW.block (EW.seq (EW.draw (by kernel_rfl) (by kernel_rfl) (by kernel_rfl) ?_))))))))))))))))));iterate 3 refine zq ?_
   refine zt s' (zu (yl wk 2 (.func (.func 83) #[am b 0] #[]) U) ?_);iterate 3 refine zq ?_
   refine zt s' (zu (yl wk 1 (.slice (sq ob) (T+1) cp) U) (zq (zu (yi ob 0 (T+1) cp T none .i64 (T:Nat) 1 (by omega) (by omega) (by omega)) (zt s' (zu (bO (b:=ob) (off:=T) (v:=num (k:Nat)) rfl underlying3 rfl (by kernel_rfl) a1 a2) (zt s' (ET.call (f:=.tmp 29) (g:=83) (first:=#[am b 0]) (cap:=#[]) (args:=#[am b 0,num (k:Nat)]) (by kernel_rfl) rfl rfl (by kernel_rfl) (by kernel_rfl) (by kernel_rfl) Al (ET.nil ⟨aM [(aE prog 133 (am wk 2) s',.func (.func 83) #[am b 0] #[]),(aE prog 25 (am wk 1) s',.slice (sq ob) (T+1) cp),(aE prog 3 (am ob T) s',num (k:Nat))] (by kernel_rfl) (vM ⟨Ey,rfl⟩ ⟨H7,rfl⟩ ⟨F8,rfl⟩),_,_,_,_,_,_,rfl,rfl,?_⟩))))))));refine za s2 (zx (zg 4 s2 (zp (yl wk 1 (.slice (sq ob) (T+1) cp) tp) (zg 1 s2 (zp (se (b:=ob) (off:=0) (n:=T+1) (cp:=cp) (i:=0) (j:=T) (sz:=1) rfl underlying25 (by kernel_rfl) Qx (by kernel_rfl) ((show _=bF (T+1) cp none (some (num (T:Nat))) by kernel_rfl).trans ((rD (by omega) (by omega)).trans (by rw[Int.toNat_natCast]))) (by omega)) (zg 2 s2 (zp (ys wk 1 (.slice (sq ob) T cp) tp (by simp)) (EO.nil (za (s2.set wk (some (ng nd (.slice (sq ob) T cp) b))) ?_)))))))));have aw:BE (s2.set wk (some (ng nd (.slice (sq ob) T cp) b))) b nd (l++bE ns (eF.drop m)):=iN.set (jF U a6 (by decide)) (dg tp (by decide));have vE:uY b wk s (s2.set wk (some (ng nd (.slice (sq ob) T cp) b))):=(hf.trans jT.u).trans uY.G4;have Dp:(s2.set wk (some (ng nd (.slice (sq ob) T cp) b))).get wk=some (ng nd (.slice (sq ob) T cp) b):=by rw[AS.aK,if_pos rfl]
   have al:(s2.set wk (some (ng nd (.slice (sq ob) T cp) b))).get ob=some (.cells cs 3 uh):=by rw[AS.aK,if_neg (jF a1 U (by decide))]; exact Qx
   have ao:ob<(s2.set wk (some (ng nd (.slice (sq ob) T cp) b))).nx:=by have:=jT.1; simp; omega
   generalize s2.set wk (some (ng nd (.slice (sq ob) T cp) b))=s3 at *;refine zx (zk 1 (zp (ik (i:=(T:Nat)) (j:=1) (r:=((T:Nat):Int)-1) rfl (by kernel_rfl) (by kernel_rfl) rfl (by omega)) (zf ?_)));refine⟨m,Nat.lt_succ_self m,by omega,aw,vE,⟨_,Dp,.inr ⟨ob,cp,cs,uh,by rw[List.length_append,List.length_take,show base.length+min m eF.length=T by omega],by rw[List.length_append,List.length_take]; omega,ao,al,fun i k' kG=>a7 i k' ?_⟩⟩,bG (by kernel_rfl)⟩;rw[aa,← List.append_assoc];have Ev:i<(base++eF.take m).length:=(List.getElem?_eq_some_iff.1 kG).1;rw[List.getElem?_append_left Ev];exact kG
  ·obtain rfl:m=0:=by omega
   rw[List.take_zero,List.append_nil] at a4;rw[List.drop_zero] at hb;rcases a8 with rfl|⟨b0,k0,rfl,az⟩
   ·refine EW.seq (zr (zf (za s' (zG (EW.exit ?_)))));exact⟨rfl,hb,hf,v',U,a4⟩
   ·have b3:=a4;obtain⟨ob,cp,cs,uh,rfl,ax,ak,a1,a7⟩:∃ob cp cs uh,v'=.slice (sq ob) (b0.length+1) cp∧b0.length+1≤cp∧ob<s'.nx∧s'.get ob=some (.cells cs 3 uh)∧∀i k:Nat,(b0++[k0])[i]?=some k→cs[i]?=some (num (k:Nat)):=by
     have a3:(b0++[k0]).length=b0.length+1:=by simp
     rcases a4 with ⟨_,e2⟩|⟨ob,cp,cs,uh,e1,e2,e3,e4,e5⟩
     ·rw[e2] at a3; simp at a3
     ·exact⟨ob,cp,cs,uh,by rw[e1,a3],by omega,e3,e4,e5⟩
    have a2:cs[b0.length]?=some (num (k0:Nat)):=a7 _ _ (by rw[List.getElem?_append_right (Nat.le_refl _),Nat.sub_self]; rfl);rw[show(((b0++[k0]).length+0:Nat):Int)-1=((b0.length:Nat):Int) by simp];generalize hT:b0.length=T at *;generalize X8:eE nb ns.length c=nd at *;refine EW.seq (zr (zk 1 (zp (yb (num (T:Nat)) (num 0) (iI (b:=true) (decide_eq_true (by omega)))) (zg 4 s' (zp (yl wk 1 (.slice (sq ob) (T+1) cp) U) (zk 1 (zp (yi ob 0 (T+1) cp T none .i64 (T:Nat) 1 (by omega) (by omega) (by omega)) (zo s' (zp (bO (b:=ob) (off:=T) (v:=num (k0:Nat)) rfl underlying3 rfl (by kernel_rfl) a1 a2) (zk 1 (zp (yb (num (k0:Nat)) (num p) (cO (b:=false) (by rw[az]; simp))) (zf (za s' (zG (EW.exit ?_)))))))))))))));exact⟨rfl,hb,hf,_,U,b3⟩
 ·rintro e a' s' ⟨rfl,hb,hf,a4⟩;exact⟨.inl rfl,by kernel_rfl,hb,hf,a4⟩
end
section
variable {pr:Prim}{s:AS}
theorem Jd(a1:pr 164=none){i:Nat}{v:Value}(hn:s.get nb=some (.cells (aX ns) 44 fz))(a5:s.get wk=some (ng (eE nb ns.length c) v b))(ah:wk<s.nx)(hx:ns[i]?=some x)(a4:x.cells.all Value.oneCell'=true)(ag:ns.length≤100000)(a2:pr 265=none)(af:0<i)(a7:x.kind=1∨x.kind=2)(hv:cC s v dH)(a3:dH≠[])(ae:dH.length≤100000):∃s',Ef pr 164 #[am wk 0,num (i:Nat)] s (.bool true) s'∧(∀U l',BE s b U l'→BE s' b U l')∧gO b s s':=by
 have aa:0<dH.length:=List.length_pos_iff.2 a3;obtain⟨a0,cp,hv0⟩:∃a0 cp,v=.slice a0 dH.length cp:=by
  rcases hv with ⟨_,e2⟩|⟨ob,cp,cs,uh,e1,_⟩
  ·exact absurd e2 a3
  ·exact⟨_,cp,e1⟩
 have hi:i<ns.length:=(List.getElem?_eq_some_iff.1 hx).1;obtain⟨kH,Jh⟩:=ji hx;have rW:(s.add cg).get s.nx=some cg:=by rw[AS.aH,if_pos rfl]
 have a9:((s.add cg).set s.nx (some (.cells x.cells.toArray 44))).get s.nx=some (.cells x.cells.toArray 44):=by rw[AS.aK,if_pos rfl]
 have a6:gO b s ((s.add cg).set s.nx (some (.cells x.cells.toArray 44))):=(gO.add b s _).set (Nat.le_refl _);have UX:∀U l',BE s b U l'→BE ((s.add cg).set s.nx (some (.cells x.cells.toArray 44))) b U l':=fun U l' h=>(h.add _).set (by have:=h.1; omega) (dg rW (by decide));have QO:((s.add cg).set s.nx (some (.cells x.cells.toArray 44))).get wk=some (ng (eE nb ns.length c) v b):=by rw[AS.aK,if_neg (by omega),AS.aH,if_neg (by omega)]; exact a5
 refine EF.gu a1 func164 rfl ?_;refine zs (zr (zg 3 s (zp (yl wk 0 (eE nb ns.length c) a5) ?_)));generalize hK:ns.length=K at *;refine zg 1 s (zp (yi nb 0 K c (i*5) none .i64 (i:Nat) 5 (by omega) (by omega) (by omega)) (zo s (zp (g8 (b:=nb) (off:=i*5) (n:=5) (r:=x.cells.toArray) rfl underlying44 rfl (by kernel_rfl) (by kernel_rfl) hn kH Jh) (zg 1 (s.add cg) (zp (ek (b:=s.nx) (off:=0) (w:=.agg x.cells.toArray) (ws:=x.cells) rfl (by kernel_rfl) (by kernel_rfl) rfl a4 (by kernel_rfl) rW (by simp[aW.cells])) (EO.nil (za ((s.add cg).set s.nx (some (.cells x.cells.toArray 44))) ?_)))))));generalize (s.add cg).set s.nx (some (.cells x.cells.toArray 44))=s1 at *;generalize hB:s.nx=B at *;have Qf:Ef pr 265 #[num x.kind] s1 (.bool true) s1:=by rcases a7 with hk|hk<;>rw[hk]<;>exact EF.of a2 func265 rfl (EW.zh 20 .ret (by kernel_rfl) ⟨.inr rfl,by kernel_rfl,by kernel_rfl⟩)
 generalize a8:x.kind=kk at *;refine EW.seq (zr (zk 1 (zp (yb (num (i:Nat)) (num 0) (iH (b:=false) (beq_eq_false_iff_ne.2 (by omega)))) (EO.nil (zF (za s1 (zr (zg 3 s1 (zp (yl wk 1 v QO) ?_)))))))));rw[hv0];refine zk 1 (zp (yb (num (dH.length:Nat)) (num 0) (iJ (b:=true) (decide_eq_true (by omega)))) (zg 2 s1 (zp (bO (b:=B) (off:=0) (v:=num kk) rfl underlying3 rfl (by kernel_rfl) a9 (by show some (num x.kind)=_; rw[a8])) (zc 0 Qf (zf (za s1 ?_))))));exact EW.ret ⟨.inr rfl,by kernel_rfl,UX,a6⟩
theorem Jc(a1:pr 164=none){i:Nat}{v:Value}(hn:s.get nb=some (.cells (aX ns) 44 fz))(a4:s.get wk=some (ng (eE nb ns.length c) v b))(ae:wk<s.nx)(hx:ns[i]?=some x)(a3:x.cells.all Value.oneCell'=true)(aa:ns.length≤100000)(a9:i=0)(a6:x.kind=1)(a7:x.name=[104,116,109,108])(a8:x.parent = -1):∃s',Ef pr 164 #[am wk 0,num (i:Nat)] s (.bool true) s'∧(∀U l',BE s b U l'→BE s' b U l')∧gO b s s':=by
 have a2:((i:Nat):Int)=0:=by omega
 have hi:i<ns.length:=(List.getElem?_eq_some_iff.1 hx).1;obtain⟨kH,Jh⟩:=ji hx;have rW:(s.add cg).get s.nx=some cg:=by rw[AS.aH,if_pos rfl]
 have a0:((s.add cg).set s.nx (some (.cells x.cells.toArray 44))).get s.nx=some (.cells x.cells.toArray 44):=by rw[AS.aK,if_pos rfl]
 have a5:gO b s ((s.add cg).set s.nx (some (.cells x.cells.toArray 44))):=(gO.add b s _).set (Nat.le_refl _);have UX:∀U l',BE s b U l'→BE ((s.add cg).set s.nx (some (.cells x.cells.toArray 44))) b U l':=fun U l' h=>(h.add _).set (by have:=h.1; omega) (dg rW (by decide));have QO:((s.add cg).set s.nx (some (.cells x.cells.toArray 44))).get wk=some (ng (eE nb ns.length c) v b):=by rw[AS.aK,if_neg (by omega),AS.aH,if_neg (by omega)]; exact a4
 refine EF.gu a1 func164 rfl ?_;refine zs (zr (zg 3 s (zp (yl wk 0 (eE nb ns.length c) a4) ?_)));generalize hK:ns.length=K at *;refine zg 1 s (zp (yi nb 0 K c (i*5) none .i64 (i:Nat) 5 (by omega) (by omega) (by omega)) (zo s (zp (g8 (b:=nb) (off:=i*5) (n:=5) (r:=x.cells.toArray) rfl underlying44 rfl (by kernel_rfl) (by kernel_rfl) hn kH Jh) (zg 1 (s.add cg) (zp (ek (b:=s.nx) (off:=0) (w:=.agg x.cells.toArray) (ws:=x.cells) rfl (by kernel_rfl) (by kernel_rfl) rfl a3 (by kernel_rfl) rW (by simp[aW.cells])) (EO.nil (za ((s.add cg).set s.nx (some (.cells x.cells.toArray 44))) ?_)))))));generalize (s.add cg).set s.nx (some (.cells x.cells.toArray 44))=s1 at *;generalize hB:s.nx=B at *;refine EW.seq (zr (zk 1 (zp (yb (num (i:Nat)) (num 0) (iH (b:=true) (by rw[a2]; rfl))) (EO.nil (zH (za s1 (zr (zg 1 s1 (zp (bO (b:=B) (off:=0) (v:=num 1) rfl underlying3 rfl (by kernel_rfl) a0 (by show some (num x.kind)=_; rw[a6])) (zg 3 s1 (zp (bO (b:=B) (off:=2) (v:=str [104,116,109,108]) rfl underlying9 rfl (by kernel_rfl) a0 (by show some (str x.name)=_; rw[a7])) (zg 4 s1 (zp (bO (b:=B) (off:=1) (v:=num (-1)) rfl underlying3 rfl (by kernel_rfl) a0 (by show some (num x.parent)=_; rw[a8])) (zf (za s1 ?_)))))))))))))));exact EW.ret ⟨.inr rfl,by kernel_rfl,UX,a5⟩
end
def Ih (o:Option Obj):Prop:=∀cs fz,o≠some (.cells cs 3 fz)
theorem kJ{o:Option Obj}(h:o=some (.cells cs t fz))(U:t≠3):Ih o:=fun gU uh e=>by
 rw[h] at e;injection e with q
 injection q with _ q2
 exact U q2
def sU (b wk:Nat)(s s':AS):Prop:=s.nx≤s'.nx∧∀k,k<s.nx→k≠b→k≠wk→EC (s.get k)→Ih (s.get k)→s'.get k=s.get k
theorem sU.trans(h:sU b wk s s1)(U:sU b wk s1 s2):sU b wk s s2:=⟨Nat.le_trans h.1 U.1,fun k hk hb hw h5 h3=>by have e:=h.2 k hk hb hw h5 h3;rw[U.2 k (by have:=h.1; omega) hb hw (by rw[e]; exact h5) (by rw[e]; exact h3),e]⟩
theorem uY.v(h:uY b wk s s1):sU b wk s s1:=⟨h.1,fun k hk hb hw U _=>h.2 k hk hb hw U⟩
theorem cC.fr{v:Value}(h:cC s v dH)(hb:BE s b nd l)(hw:s.get wk=some (.cells cw 209 fw))(hf:uY b wk s s'):cC s' v dH:=by
 rcases h with h|⟨ob,cp,cs,fz,e1,e2,e3,U,e5⟩
 ·exact .inl h
 ·obtain⟨_,p,sl,hs,_⟩:=hb;exact .inr ⟨ob,cp,cs,fz,e1,e2,by have:=hf.1; omega,(hf.2 ob e3 (jF U hs (by decide)) (jF U hw (by decide)) (dg U (by decide))).trans U,e5⟩
theorem GR{v:Value}(h:cC s v dH)(i:Nat)(hl:dH.length≤100000):∃v' s',aZ prog 3 v [num (i:Nat)] 1 s=some (v',s')∧s.nx≤s'.nx∧cC s' v' (dH++[i])∧(∀k,k<s.nx→Ih (s.get k)→s'.get k=s.get k)∧v'.cells=#[v']∧v'.oneCell'=true:=by
 rcases h with ⟨rfl,rfl⟩|⟨ob,cp,cs,fz,rfl,a4,a5,a1,a0⟩
 ·refine⟨_,_,fZ (by decide),by simp,.inr ⟨s.nx,1,_,_,rfl,by simp,by simp,by rw[AS.aH,if_pos rfl],fun j k U=>?_⟩,fun k U _=>by rw[AS.aH,if_neg (by omega)],rfl,rfl⟩;rw[List.nil_append] at U;match j with
  | 0=>simp only[List.getElem?_cons_zero,Option.some.injEq] at U; subst U; rfl
  | j+1=>simp at U
 ·have a6:dH.length≤cs.size:=by
   by_cases h0:dH.length=0
   ·omega
   ·have a2:dH.length-1<dH.length:=by omega
    have:=a0 _ _ (List.getElem?_eq_getElem a2)
    have:=(Array.getElem?_eq_some_iff.1 this).1;omega
  refine⟨_,_,fM (sz:=1) (by decide) a1 (by kernel_rfl) (by omega) (by omega),by simp,.inr ⟨s.nx,_,_,_,by rw[List.length_append]; rfl,by rw[List.length_append]; exact Nat.le_refl _,by simp,by rw[AS.aH,if_pos (by simp)],fun j k U=>?_⟩,fun k U h3=>?_,rfl,rfl⟩
  ·rw[Nat.mul_one,List.getElem?_toArray];have a3:(cs.toList.take dH.length).length=dH.length:=by have hq:cs.toList.length=cs.size:=Array.length_toList;rw[List.length_take];omega
   by_cases hj:j<dH.length
   ·rw[List.getElem?_append_left hj] at U;rw[List.getElem?_append_left (by omega),List.getElem?_take_of_lt hj]
    have:=a0 j k U;simpa using this
   ·rw[List.getElem?_append_right (by omega)] at U ⊢;rw[a3];match hq:j-dH.length with
    | 0 =>rw[hq] at U;simp only[List.getElem?_cons_zero,Option.some.injEq] at U;subst U;rfl
    | q+1=>rw[hq] at U; simp at U
  ·rw[AS.aH,if_neg (by simp; omega),AS.aK,if_neg (fun e=>by rw[e] at h3; exact h3 _ _ a1)]
def dO(p:Int)(dH:List Nat):List Nat:=(dH.reverse.dropWhile fun k=>decide (((k:Nat):Int)≠p)).reverse
def dU(p:Int)(dH:List Nat):List Nat:=(dH.reverse.takeWhile fun k=>decide (((k:Nat):Int)≠p)).reverse
theorem mh(p:Int)(dH:List Nat):dO p dH++dU p dH=dH:=by unfold dO dU;rw[← List.reverse_append,List.takeWhile_append_dropWhile,List.reverse_reverse]
theorem HF{α:Type}{p:α→Bool}{x:α}:∀{l:List α},x∈l.takeWhile p→p x=true
 | [],h=>by simp at h
 | a::l,h=>by
  rw[List.takeWhile_cons] at h;split at h
  ·next U =>
   rcases List.mem_cons.1 h with rfl|h
   ·exact U
   ·exact HF h
  ·simp at h
theorem J2(h:k∈dU p dH):((k:Nat):Int)≠p:=by
 unfold dU at h;rw[List.mem_reverse] at h
 have:=HF h;simpa using this
theorem CU(p:Int)(dH:List Nat):dO p dH=[]∨∃b0 U,dO p dH=b0++[U]∧((U:Nat):Int)=p:=by
 unfold dO;cases hd:dH.reverse.dropWhile fun k=>decide (((k:Nat):Int)≠p) with
 | nil=>exact .inl rfl
 | cons k r =>
  refine .inr ⟨r.reverse,k,by rw[List.reverse_cons],?_⟩
  have:=List.head?_dropWhile_not (fun k=>decide (((k:Nat):Int)≠p)) dH.reverse;rw[hd] at this;simpa using this
structure TY where
 dH:List Nat
 oR:List UInt8
def stepW(ns:List aW)(out:Nat→List UInt8)(vd:Nat→Bool)(i:Nat)(w:TY):TY:=match ns[i]? with
 | some x=>⟨dO x.parent w.dH++(if x.kind=1∧vd i=false then [i] else []),w.oR++bE ns (dU x.parent w.dH)++out i⟩
 | none=>w
def cL (ns:List aW)(out:Nat→List UInt8)(vd:Nat→Bool):Nat→TY
 | 0=>⟨[],[]⟩
 | i+1=>stepW ns out vd i (cL ns out vd i)
theorem E7(h:k∈dO p dH):k∈dH:=by rw[← mh p dH];exact List.mem_append_left _ h
theorem GL(h:k∈dU p dH):k∈dH:=by rw[← mh p dH];exact List.mem_append_right _ h
theorem HT(ns:List aW)(out:Nat→Bq)(vd:Nat→Bool):∀i,(∀k∈(cL ns out vd i).dH,k<i)∧(cL ns out vd i).dH.length≤i
 | 0=>⟨by intro k U; simp[cL] at U,by simp[cL]⟩
 | i+1=>by
  obtain⟨h1,h2⟩:=HT ns out vd i;simp only[cL,stepW];split
  ·next x hx =>
   have a0:(dO x.parent (cL ns out vd i).dH).length≤(cL ns out vd i).dH.length:=by have:=congrArg List.length (mh x.parent (cL ns out vd i).dH);rw[List.length_append] at this;omega
   refine⟨fun k U=>?_,?_⟩
   ·rcases List.mem_append.1 U with U|U
    ·have:=h1 k (E7 U); omega
    ·split at U
     ·rw[List.mem_singleton.1 U]; omega
     ·simp at U
   ·rw[List.length_append];split<;>simp<;>omega
  ·exact⟨fun k U=>by have:=h1 k U; omega,by omega⟩
abbrev l8:Array Value:=#[str [97,114,101,97],str [98,97,115,101],str [98,114],str [99,111,108],str [101,109,98,101,100],str [104,114],str [105,109,103],str [105,110,112,117,116],str [108,105,110,107],str [109,101,116,97],str [115,111,117,114,99,101],str [116,114,97,99,107],str [119,98,114]]
theorem N5{pr:Prim}(U:pr 138=none):Ef pr 138 #[] s (.slice (sq s.nx) 13 13) (s.add (.cells l8 9)):=EF.of U func138 rfl (EW.zh 9 .ret (by kernel_rfl) ⟨.inr rfl,by kernel_rfl,by kernel_rfl⟩)
end Go.Proofs.YtgcaionclkbehaaGreatDoor
