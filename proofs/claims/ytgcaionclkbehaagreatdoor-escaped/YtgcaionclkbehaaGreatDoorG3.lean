import Derived.Test.YtgcaionclkbehaaGreatDoorG1
set_option linter.all false
set_option maxHeartbeats 2000000
set_option maxRecDepth 100000
namespace Go.Proofs.YtgcaionclkbehaaGreatDoor
open Go.Conc Go.RowKit Go.Lib Tryz
variable {c:UInt8}{l new out:Bq}{s s' s1 s2:AS}{a:TL}{b bytes d i k m n nb off pi sz:Nat}{nd p sl v:Value}{e t ty u:TypeId}{x y:Operand}{cs:Aq}{fz:Nat × Nat}{P:Program}{o:Option Obj}{kt:TypeId→Bool}
def dS (c:UInt8)(new l:List UInt8):List UInt8:=l.flatMap fun b=>if b=c then new else [b]
theorem so(c:UInt8)(new a b:Bq):dS c new (a++b)=dS c new a++dS c new b:=by simp[dS]
theorem we(h:c∉l):dS c new l=l:=by
 induction l with
 | nil=>rfl
 | cons b l ih =>
  have U:b≠c:=fun e=>h (by simp[e])
  have:=ih fun hm=>h (by simp[hm]);simp only[dS,List.flatMap_cons,if_neg U] at this ⊢;rw[this];rfl
theorem GV(c:UInt8)(new:Bq):dS c new [c]=new:=by simp[dS]
theorem oK(c:UInt8)(hn:1≤new.length)(l:Bq):(dS c new l).length=l.length+l.count c*(new.length-1):=by
 induction l with
 | nil=>simp[dS]
 | cons b l U =>
  have e:dS c new (b::l)=(if b=c then new else [b])++dS c new l:=rfl;rw[e,List.length_append,U,List.count_cons];by_cases hb:b=c
  ·subst hb;simp only[if_true,beq_self_eq_true,List.length_cons,Nat.add_mul,Nat.one_mul];omega
  ·simp only[if_neg hb,List.length_cons,List.length_nil,beq_iff_eq,Nat.add_zero];omega
theorem L9{N:Nat}(h:s'=s):mK N s s':=h▸⟨Nat.le_refl _,fun _ _=>rfl⟩
section
variable {n:Nat}{s:AS}
theorem FA(l:Bq)(c:UInt8):Ef (gR prog n) 343 #[str l,str [c]] s (num (l.count c:Nat)) s:=by
 have U:vn c.toNat l 0=l.count c:=by rw[vo];unfold countByte;rfl
 exact EF.eval 5 ((show br prog mB (gR prog n) 5 343 #[str l,str [c]] s=some (num (vn c.toNat l 0:Nat),s) by kernel_rfl).trans (by rw[U]))
theorem Gm{a b:Bq}(h:c∉a):Ef (gR prog n) 270 #[str (a++c::b),str [c]] s (num (a.length:Nat)) s:=by have U:=Du (n:=n) (s:=s) (b:=b) h;generalize a++c::b=x at U ⊢;refine EF.of (by kernel_rfl) func270 rfl ?_;refine zs (zr (zc 2 U (zf ?_)));exact yR
def Lq(l:List UInt8)(c:UInt8)(new:List UInt8)(m b st i:Nat)(x:Nat→Value):TL:=[str l,str [c],str new,num (m:Nat),x 4,x 5,x 6,x 7,str [],x 9,am b 0,num (st:Nat)]++kl x 12 40++[num (m:Nat),num (i:Nat)]++kl x 54 50
def Hk(l:List UInt8)(c:UInt8)(new:List UInt8)(m b st:Nat)(x:Nat→Value):TL:=[str l,str [c],str new,num (m:Nat),x 4,x 5,x 6,x 7,str [],x 9,am b 0,num (st:Nat)]++kl x 12 92
theorem D4(hl:l.length≤10000)(a4:1≤new.length)(hn:new.length≤10)(a9:cJ [c] new=false):∃s',Ef (gR prog n) 374 #[str l,str [c],str new,num (-1)] s (str (dS c new l)) s'∧mK s.nx s s':=by
 have a0:=FA (n:=n) (s:=s) l c;have Df:l.count c≤l.length:=List.count_le_length;have Jo:=oK c a4 l;have hmul:l.count c*(new.length-1)≤10000*9:=Nat.mul_le_mul (by omega) (by omega);refine EF.gu (by kernel_rfl) func374 rfl ?_;refine zs (EW.seq (zr (zk 2 (zp (yb (str [c]) (str new) (Bz a9)) (zf (zF (za s ?_)))))));by_cases Ez:l.count c=0
 ·rw[Ez] at a0;have ag:c∉l:=List.count_eq_zero.1 Ez;rw[we ag];refine EW.seq (zr (zc 2 a0 (zf (zs (zH (EW.zh 5 .ret (by kernel_rfl) ?_))))));exact⟨.inr rfl,by kernel_rfl,L9 (by kernel_rfl)⟩
 ·have a6:c∈l:=List.count_pos_iff.1 (by omega);generalize hM:l.count c=m at *;refine EW.seq (zr (zc 2 a0 (zf (zr (zk 1 (zp (yb (num (m:Nat)) (num 0) (iH (b:=false) (beq_eq_false_iff_ne.2 (by omega)))) (EO.nil (zG (zs (zH (EW.go 9 (by kernel_rfl) (zs ?_))))))))))));have Jt:mK s.nx s (s.add (.cells #[.pointer none,.slice none 0 0] 119)):=mK.add (Nat.le_refl _);obtain⟨s2,Vk,iN,jT⟩:=Mc (n:=n) (N:=s.nx) (b:=s.nx) (K:=l.length+m*(new.length-1)-1) (p:=.pointer none) (s:=s.add (.cells #[.pointer none,.slice none 0 0] 119)) (Nat.le_refl _) (by simp) (by rw[AS.aH,if_pos rfl]) (.inl rfl) (by omega);have MJ:0<l.length:=List.length_pos_of_mem a6;rw[show l.length+m*(new.length-1)-1+1=l.length+m*(new.length-1) by omega] at Vk;refine za (s.add (.cells #[.pointer none,.slice none 0 0] 119)) ?_;generalize s.add (.cells #[.pointer none,.slice none 0 0] 119)=s1 at Vk Jt jT;refine zr (zk 1 (zp (dl (l:=l) rfl underlying9 (by kernel_rfl)) (zk 2 (zp (dl (l:=new) rfl underlying9 (by kernel_rfl)) (zk 2 (zp (ik (i:=(new.length:Nat)) (j:=1) (r:=((new.length-1:Nat):Int)) rfl (by kernel_rfl) (by kernel_rfl) (by omega) (by omega)) (zo s1 (EO.op (v:=num ((m*(new.length-1):Nat):Int)) (s1:=s1) (by kernel_rfl) ((show _=some (num (IntKind.i64.wrap (((m:Nat):Int)*((new.length-1:Nat):Int))),s1) by kernel_rfl).trans (by rw[← Int.natCast_mul,Ss (by omega)])) (zp (yp (l.length:Nat) ((m*(new.length-1):Nat):Int) ((l.length+m*(new.length-1):Nat):Int) (by omega) (by omega)) (zc 0 Vk (EO.nil (za s2 (zs (EW.seq (EW.mono (Q:=fun e a' s'=>e=.normal∧∃pre rest,l=pre++rest∧c∉rest∧BW s' s.nx s.nx (dS c new pre)∧mK s.nx s s'∧∃x,a'=Hk l c new m s.nx pre.length x) ?_ ?_)))))))))))))))
  ·refine zs (zH (zs (za s2 ?_)));refine EW.fill (Lq l c new m s.nx 0 0) (by kernel_rfl) ?_;intro x0;refine EW.block ?_;refine EW.mono (EW.eD (Q:=fun e a' s'=>e=.exit 0∧∃pre rest,l=pre++rest∧c∉rest∧BW s' s.nx s.nx (dS c new pre)∧mK s.nx s s'∧∃x,a'=Hk l c new m s.nx pre.length x) (fun k a' s'=>∃pre rest i,l=pre++rest∧i+k=m∧rest.count c=k∧BW s' s.nx s.nx (dS c new pre)∧mK s.nx s s'∧∃x,a'=Lq l c new m s.nx pre.length i x) ?_ m _ _ ⟨[],l,0,rfl,by omega,hM,iN,Jt.trans jT,x0,rfl⟩) ?_
   ·rintro k a' s' ⟨pre,rest,i,U,aj,a8,hb,hf,x,rfl⟩;by_cases hk:0<k
    ·have ae:c∈rest:=List.count_pos_iff.1 (by omega);obtain⟨a,r,rfl,ME⟩:=List.eq_append_cons_of_mem ae;have hix:=Gm (n:=n) (s:=s') (b:=r) ME;have jc:l.length=pre.length+(a.length+(r.length+1)):=by rw[U]; simp
     have ai:=oK c a4 pre;have U5:pre.count c≤pre.length:=List.count_le_length;have hmp:pre.count c*(new.length-1)≤10000*9:=Nat.mul_le_mul (by omega) (by omega);have Ms:((l.take l.length).drop ((pre.length:Nat):Int).toNat)=a++c::r:=by rw[List.take_length,Int.toNat_natCast,U,List.drop_left]
     have aa:((l.take ((pre.length+a.length:Nat):Int).toNat).drop ((pre.length:Nat):Int).toNat)=a:=by rw[Int.toNat_natCast,Int.toNat_natCast,U,← List.append_assoc,show pre.length+a.length=(pre++a).length by simp,List.take_left,List.drop_left]
     obtain⟨s3,a5,a1,a2⟩:=o0 (pr:=gR prog n) (m:=a) (by kernel_rfl) (by kernel_rfl) hb (by omega);obtain⟨s4,hw4,H0,a3⟩:=o0 (pr:=gR prog n) (m:=new) (by kernel_rfl) (by kernel_rfl) a1 (by rw[List.length_append]; omega);have Dk:dS c new pre++a++new=dS c new (pre++a++[c]):=by rw[so,so,we ME,GV]
     rw[Dk] at H0;refine zr (zp (yb (num (i:Nat)) (num (m:Nat)) (bD (b:=true) (decide_eq_true (by omega)))) (EO.nil (EW.seq (zT (EW.seq (EW.block (za s' (zr (zk 3 (zp (kK (l:=l) (i:=((pre.length:Nat):Int).toNat) (j:=l.length) rfl underlying9 (by kernel_rfl) ((show _=bF l.length l.length (some (num (pre.length:Nat))) none by kernel_rfl).trans (lB (by omega) (by omega))) Ms) (zc 1 hix (zp (yp (pre.length:Nat) (a.length:Nat) ((pre.length+a.length:Nat):Int) (by omega) (by omega)) (zf (za s' (zr (zk 3 (zp (kK (l:=l) (i:=((pre.length:Nat):Int).toNat) (j:=((pre.length+a.length:Nat):Int).toNat) rfl underlying9 (by kernel_rfl) ((show _=bF l.length l.length (some (num (pre.length:Nat))) (some (num ((pre.length+a.length:Nat):Int))) by kernel_rfl).trans (w8 (by omega) (by omega) (by omega))) aa) (zc 0 a5 (EO.nil (za s3 (zr (zc 1 hw4 (EO.nil (za s4 (zx (zk 3 (zp (yp ((pre.length+a.length:Nat):Int) 1 (((pre++a++[c]).length:Nat):Int) (by simp; omega) (by simp; omega)) (zf (za s4 (zx (zp (yp (i:Nat) 1 ((i+1:Nat):Int) (by omega) (by omega)) (zf ?_))))))))))))))))))))))))))))))));refine⟨k-1,by omega,pre++a++[c],r,i+1,by rw[U]; simp,by omega,?_,H0,(hf.trans a2).trans a3,bG (by kernel_rfl)⟩;rw[List.count_append,List.count_cons_self,List.count_eq_zero.2 ME] at a8;omega
    ·refine zr (zp (yb (num (i:Nat)) (num (m:Nat)) (bD (b:=false) (decide_eq_false (by omega)))) (EO.nil (EW.seq (zG (EW.exit ?_)))));exact⟨rfl,pre,rest,U,List.count_eq_zero.1 (by omega),hb,hf,bG (by kernel_rfl)⟩
   ·rintro e a' s' ⟨rfl,pre,rest,h1,h2,h3,h4,x,rfl⟩;exact⟨rfl,pre,rest,h1,h2,h3,h4,x,rfl⟩
  rintro e a' s' ⟨rfl,pre,rest,U,ah,hb,hf,x,rfl⟩;have jc:l.length=pre.length+rest.length:=by rw[U]; simp
  have ai:=oK c a4 pre;have U5:pre.count c≤pre.length:=List.count_le_length;have hmp:pre.count c*(new.length-1)≤10000*9:=Nat.mul_le_mul (by omega) (by omega);have Ms:((l.take l.length).drop ((pre.length:Nat):Int).toNat)=rest:=by rw[List.take_length,Int.toNat_natCast,U,List.drop_left]
  obtain⟨s3,a5,a1,a2⟩:=o0 (pr:=gR prog n) (m:=rest) (by kernel_rfl) (by kernel_rfl) hb (by omega);have Dc:dS c new pre++rest=dS c new l:=by rw[U,so,we ah]
  rw[Dc] at a1;have af:dS c new l≠[]:=fun e=>by rw[e] at Jo; simp at Jo; omega
  obtain⟨s4,a7,a3⟩:=sI (pr:=gR prog n) (by kernel_rfl) a1 af (by omega);generalize dS c new l=out at a7 ⊢;refine zr (zk 2 (zp (kK (l:=l) (i:=((pre.length:Nat):Int).toNat) (j:=l.length) rfl underlying9 (by kernel_rfl) ((show _=bF l.length l.length (some (num (pre.length:Nat))) none by kernel_rfl).trans (lB (by omega) (by omega))) Ms) (zc 0 a5 (EO.nil (za s3 (zr (zc 0 a7 (zf ?_))))))));exact EW.ret ⟨.inr rfl,by kernel_rfl,(hf.trans a2).trans a3⟩
end
abbrev ly:List UInt8:=[38,97,109,112,59]
abbrev M4:List UInt8:=[38,108,116,59]
abbrev SR:List UInt8:=[38,103,116,59]
abbrev Cs:List UInt8:=[38,113,117,111,116,59]
def iL (v:List UInt8):List UInt8:=dS 34 Cs (dS 38 ly v)
def li (w:List UInt8):List UInt8:=dS 62 SR (dS 60 M4 (dS 38 ly w))
theorem jD(c:UInt8)(h1:1≤new.length)(h2:new.length≤k)(l:Bq):(dS c new l).length≤l.length*k:=by have h:=oK c h1 l;have hc:l.count c≤l.length:=List.count_le_length;have h3:l.count c*(new.length-1)≤l.length*(k-1):=Nat.mul_le_mul hc (by omega);obtain⟨k',rfl⟩:∃k',k=k'+1:=⟨k-1,by omega⟩;rw[h,Nat.mul_succ];simp only[Nat.add_sub_cancel] at h3;omega
section
variable {n:Nat}{s:AS}
theorem ki(hl:l.length≤10000)(a0:1≤new.length)(hn:new.length≤10)(U:cJ [c] new=false):∃s',Ef (gR prog n) 338 #[str l,str [c],str new] s (str (dS c new l)) s'∧mK s.nx s s':=by obtain⟨s1,h1,hf⟩:=D4 (n:=n) (s:=s) hl a0 hn U;generalize dS c new l=out at h1 ⊢;refine EF.gu (by kernel_rfl) func338 rfl ?_;refine zs (zr (zc 3 h1 (zf ?_)));exact EW.ret ⟨.inr rfl,by kernel_rfl,hf⟩
theorem Dr{v:Bq}(U:v.length≤100):∃s',Ef (gR prog n) 266 #[str v] s (str (iL v)) s'∧mK s.nx s s':=by have l1:=jD 38 (new:=ly) (k:=5) (by decide) (by decide) v;obtain⟨s1,h1,f1⟩:=ki (n:=n) (s:=s) (l:=v) (c:=38) (new:=ly) (by omega) (by decide) (by decide) rfl;obtain⟨s2,h2,f2⟩:=ki (n:=n) (s:=s1) (l:=dS 38 ly v) (c:=34) (new:=Cs) (by omega) (by decide) (by decide) rfl;unfold iL;generalize dS 38 ly v=x at h1 h2 ⊢;generalize dS 34 Cs x=y at h2 ⊢;refine EF.gu (by kernel_rfl) func266 rfl ?_;refine zs (zr (zc 1 h1 (zf (za s1 (zr (zc 1 h2 (zf ?_)))))));exact EW.ret ⟨.inr rfl,by kernel_rfl,f1.trans (f2.low f1.1)⟩
theorem Ds{w:Bq}(U:w.length≤100):∃s',Ef (gR prog n) 267 #[str w] s (str (li w)) s'∧mK s.nx s s':=by have l1:=jD 38 (new:=ly) (k:=5) (by decide) (by decide) w;have l2:=jD 60 (new:=M4) (k:=4) (by decide) (by decide) (dS 38 ly w);obtain⟨s1,h1,f1⟩:=ki (n:=n) (s:=s) (l:=w) (c:=38) (new:=ly) (by omega) (by decide) (by decide) rfl;obtain⟨s2,h2,f2⟩:=ki (n:=n) (s:=s1) (l:=dS 38 ly w) (c:=60) (new:=M4) (by omega) (by decide) (by decide) rfl;obtain⟨s3,h3,f3⟩:=ki (n:=n) (s:=s2) (l:=dS 60 M4 (dS 38 ly w)) (c:=62) (new:=SR) (by omega) (by decide) (by decide) rfl;unfold li;generalize dS 38 ly w=x at h1 h2 h3 ⊢;generalize dS 60 M4 x=y at h2 h3 ⊢;generalize dS 62 SR y=z at h3 ⊢;refine EF.gu (by kernel_rfl) func267 rfl ?_;refine zs (zr (zc 1 h1 (zf (za s1 (zr (zc 1 h2 (zf (za s2 (zr (zc 1 h3 (zf ?_)))))))))));exact EW.ret ⟨.inr rfl,by kernel_rfl,(f1.trans (f2.low f1.1)).trans (f3.low (Nat.le_trans f1.1 f2.1))⟩
end
section
variable {P:Program}{kt:TypeId→Bool}{pr:Prim}{c:fj}{a:TL}{s s':AS}{o:Oper}{v:Value}
theorem Fy{x:Value}(hx:x=am b off)(ht:P.underlying t=some (.pointer e))(hu:P.underlying u=some .unsafePointer)(hs:s.get b=some (.cells cs ty fz))(hz:bI P e=some (k+1))(U:off<cs.size):fq P t u x s=some (am b off):=by subst hx;unfold fq;rw[ht,hu];simp only[am];rw[hs,hz];simp only;rw[if_pos U]
theorem Fz{x:Value}(hx:x=am b off)(ht:P.underlying t=some .unsafePointer)(hu:P.underlying u=some (.pointer e))(hs:s.get b=some (.cells cs ty (0,0)))(hz:bI P e=some (k+1))(U:liesAt P P.depth ty (cs.size / P.cellsOf ty) off e 1=true):fq P t u x s=some (am b off):=by subst hx;unfold fq;rw[ht,hu];simp only[am];rw[hs,hz];simp only;rw[if_pos U]
theorem yC{z}(U:o.op=.binOp .neq t x y z)(hx:a.at x=am b off)(hy:a.at y=am b off)(ht:P.underlying t=some (.pointer e))(hz:bI P e=some (k+1)):bK P kt c a o s=some (.bool false,s):=by
 refine dP (by rw[U]; rfl) (by rw[U]; trivial) ?_;unfold bQ;rw[U];simp only;rw[hx,hy];have h1:cX .neq (am b off) (am b off)=none:=rfl;have h2:lC P .neq t (am b off) (am b off)=some (.bool false):=by unfold lC;simp only[am,ht];rw[hz];simp
 rw[h1,h2]
end
def EC (o:Option Obj):Prop:=∀cs fz,o≠some (.cells cs 5 fz)
def gO (b:Nat)(s s':AS):Prop:=s.nx≤s'.nx∧∀k,k<s.nx→k≠b→EC (s.get k)→s'.get k=s.get k
theorem gO.refl(b:Nat)(s:AS):gO b s s:=⟨Nat.le_refl _,fun _ _ _ _=>rfl⟩
theorem gO.trans(h:gO b s s1)(U:gO b s1 s2):gO b s s2:=⟨Nat.le_trans h.1 U.1,fun k hk hb h5=>by have e:=h.2 k hk hb h5;rw[U.2 k (by have:=h.1; omega) hb (by rw[e]; exact h5),e]⟩
def BE (s:AS)(b:Nat)(nd:Value)(l:List UInt8):Prop:=b<s.nx∧∃p sl,s.get b=some (.cells #[nd,p,sl] 135)∧(p=.pointer none∨p=am b 1)∧((sl=.slice none 0 0∧l=[])∨∃d fz,sl=.slice (some ⟨d,0,none⟩) l.length l.length∧d<s.nx∧s.get d=some (.cells (ll l) 5 fz))
section
variable {pr:Prim}{s:AS}
theorem IQ(a0:pr 261=none)(U:s.get b=some (.cells #[nd,p,sl] 135))(hp:p=.pointer none∨p=am b 1):∃s',Ef pr 261 #[am b 1] s (.tuple #[]) s'∧s'.nx=s.nx∧s'.get b=some (.cells #[nd,am b 1,sl] 135)∧∀k,k≠b→s'.get k=s.get k:=by
 refine EF.gu a0 func261 rfl ?_;refine zr (zk 3 (zo s (zp (yl b 1 p U) ?_)));rcases hp with rfl|rfl
 ·refine zf (zH (zx (zk 2 (zo s (zp (pV rfl (by kernel_rfl) (Fy (off:=1) (b:=b) (k:=1) (by kernel_rfl) underlying117 underlying244 U (by kernel_rfl) (by simp))) (EO.q (by kernel_rfl) (by kernel_rfl) (zo s (zp (pV rfl (by kernel_rfl) (Fz (off:=1) (b:=b) (k:=1) (by kernel_rfl) underlying244 underlying117 U (by kernel_rfl) (by kernel_rfl))) (zk 2 (zo s (zp (ys b 1 (am b 1) U (by simp)) (EO.nil ⟨.inl rfl,by kernel_rfl,?_⟩))))))))))));refine⟨rfl,?_,fun k hk=>?_⟩
  ·rw[AS.aK,if_pos rfl];rfl
  ·rw[AS.aK,if_neg hk]
 ·refine zf (zG (zr (zk 3 (zo s (zp (yl b 1 (am b 1) U) (zk 1 (zo s (zp (yC (off:=1) (b:=b) (k:=1) rfl (by kernel_rfl) (by kernel_rfl) underlying117 (by kernel_rfl)) (EO.nil (zF ?_))))))))));exact⟨.inl rfl,by kernel_rfl,rfl,U,fun k hk=>rfl⟩
theorem HS{m:Bq}(a2:pr 261=none)(a1:pr 156=none)(h:BE s b nd l)(hl:l.length+m.length≤1000000):∃s',Ef pr 156 #[am b 1,str m] s (.tuple #[num m.length,.nilIface]) s'∧BE s' b nd (l++m)∧gO b s s':=by
 obtain⟨hb,p,sl,hs,hp,a4⟩:=h;obtain⟨s1,hc,c1,c2,c3⟩:=IQ a2 hs hp;refine EF.gu a1 func156 rfl ?_;refine zs (zr (zc 1 hc (EO.nil (zr (zg 4 s1 (zp (yl b 2 sl c2) (zg 1 s1 ?_)))))));have key:∀(v:Value) (s2:AS),v.cells=#[v]→v.oneCell'=true→aZ prog 5 sl (strCells ⟨m.toArray⟩) m.length s1=some (v,s2)→s2.get b=some (.cells #[nd,am b 1,sl] 135)→s1.nx≤s2.nx→(∀k,k<s.nx→k≠b→EC (s.get k)→s2.get k=s1.get k)→((v=.slice none 0 0∧l++m=[])∨∃d fz,v=.slice (sq d) (l++m).length (l++m).length∧d<s2.nx∧d≠b∧s2.get d=some (.cells (ll (l++m)) 5 fz))→fG sl=true→∃w U,aZ prog 5 sl (strCells ⟨m.toArray⟩) m.length s1=some (w,U)∧w.cells=#[w]∧w.oneCell'=true∧fG sl=true∧U.get b=some (.cells #[nd,am b 1,sl] 135)∧BE (U.set b (some (.cells #[nd,am b 1,w] 135))) b nd (l++m)∧gO b s (U.set b (some (.cells #[nd,am b 1,w] 135))):=by
  intro v s2 k1 k2 k3 k4 k5 k6 k7 k8;refine⟨v,s2,k3,k1,k2,k8,k4,⟨by simp; omega,am b 1,v,by rw[AS.aK,if_pos rfl],.inr rfl,?_⟩,by simp; omega,fun k hk Tc h5=>?_⟩
  ·rcases k7 with k7|⟨d,fz,q1,q3,q4,q5⟩
   ·exact .inl k7
   ·exact .inr ⟨d,fz,q1,by simpa using q3,by rw[AS.aK,if_neg q4]; exact q5⟩
  ·rw[AS.aK,if_neg Tc,k6 k hk Tc h5,c3 k Tc]
 have a5:∃w U,aZ prog 5 sl (strCells ⟨m.toArray⟩) m.length s1=some (w,U)∧w.cells=#[w]∧w.oneCell'=true∧fG sl=true∧U.get b=some (.cells #[nd,am b 1,sl] 135)∧BE (U.set b (some (.cells #[nd,am b 1,w] 135))) b nd (l++m)∧gO b s (U.set b (some (.cells #[nd,am b 1,w] 135))):=by
  have a0:∀d fz,s.get d=some (.cells (ll l) 5 fz)→d≠b:=fun d fz q e=>by
   rw[e,hs] at q;injection q with q
   injection q with _ q2
   exact absurd q2 (by decide)
  cases m with
  | nil =>
   rcases a4 with ⟨rfl,rfl⟩|⟨d,fz,rfl,q3,q5⟩
   ·exact key _ s1 rfl rfl (qc (.inl rfl)) c2 (Nat.le_refl _) (fun k hk _ _=>rfl) (.inl ⟨rfl,rfl⟩) rfl
   ·exact key _ s1 rfl rfl (qc (.inr ⟨d,_,_,rfl⟩)) c2 (Nat.le_refl _) (fun k hk _ _=>rfl) (.inr ⟨d,fz,by rw[List.append_nil],by omega,a0 d fz q5,by rw[c3 d (a0 d fz q5),List.append_nil]; exact q5⟩) rfl
  | cons x m =>
   rcases a4 with ⟨rfl,rfl⟩|⟨d,fz,rfl,q3,q5⟩
   ·exact key _ _ rfl rfl (fZ (by simp)) (by rw[AS.aH,if_neg (by omega)]; exact c2) (by simp) (fun k hk _ _=>by rw[AS.aH,if_neg (by omega)]) (.inr ⟨s1.nx,(1,1),rfl,by simp,by omega,by rw[AS.aH,if_pos rfl]; rfl⟩) rfl
   ·have a3:(ll l).size=l.length:=by simp[strCells]
    have q4:=a0 d fz q5;refine key _ _ rfl rfl (fM (sz:=1) (by simp) (by rw[c3 d q4]; exact q5) (by kernel_rfl) (by rw[a3]; omega) (by omega)) (by rw[AS.aH,if_neg (by simp; omega),AS.aK,if_neg (Ne.symm q4)]; exact c2) (by simp) (fun k hk _ h5=>by rw[AS.aH,if_neg (by simp; omega),AS.aK,if_neg (fun e=>by rw[e] at h5; exact h5 _ _ q5)]) (.inr ⟨s1.nx,(1,1),by rw[List.length_append],by simp,by omega,?_⟩) rfl;rw[AS.aH,if_pos (by simp)];have:List.take (l.length*1) (ll l).toList=strCells ⟨l.toArray⟩:=by rw[Nat.mul_one];exact List.take_of_length_le (by simp[strCells])
    rw[this,iR]
 obtain⟨w,U,e1,e2,e3,e4,e5,e6,e7⟩:=a5;refine zp (rj (sl:=sl) (m:=m) rfl (by kernel_rfl) (by kernel_rfl) underlying55 underlying9 (by kernel_rfl) (by kernel_rfl) (by omega) e4 e1) (zg 2 U (zp (ir (b:=b) (off:=2) (w:=w) rfl (by kernel_rfl) (by kernel_rfl) e2 e3 (by kernel_rfl) e5 (by simp)) (EO.nil (zr (zk 1 (zp (dl (l:=m) rfl underlying9 (by kernel_rfl)) (zf ?_)))))));exact EW.ret ⟨.inr rfl,by kernel_rfl,e6,e7⟩
def Lo(b t k c i:Nat)(x:Nat→Value):TL:=[am b 0,.slice (some ⟨t,0,none⟩) k c,x 2,x 3,x 4,x 5,.slice (some ⟨t,0,none⟩) k c,num (k:Nat),num (i:Nat)]++kl x 9 9
theorem md{t c:Nat}{l7:List (Bq)}(a4:pr 261=none)(a2:pr 156=none)(a3:pr 170=none)(h:BE s b nd l)(ht:s.get t=some (.cells (l7.map str).toArray 9 fz))(a8:t<s.nx)(hk:l7.length≤100000)(hl:l.length+(l7.flatten).length≤1000000):∃s',Ef pr 170 #[am b 0,.slice (sq t) l7.length c] s (.tuple #[]) s'∧BE s' b nd (l++l7.flatten)∧gO b s s':=by
 have a5:t≠b:=fun e=>by
  obtain⟨_,p,sl,hs,_⟩:=h;rw[e,hs] at ht;injection ht with q
  injection q with _ q2
  exact absurd q2 (by decide)
 have h5:EC (s.get t):=fun cs fz e=>by
  rw[ht] at e;injection e with q
  injection q with _ q2
  exact absurd q2 (by decide)
 refine EF.gu a3 func170 rfl ?_;refine zs (za s ?_);generalize hK:l7.length=K;refine EW.fill (Lo b t K c 0) (by kernel_rfl) ?_;intro x0;refine EW.block ?_;refine EW.mono (EW.eD (Q:=fun e a' s'=>e=.exit 0∧BE s' b nd (l++l7.flatten)∧gO b s s') (fun m a' s'=>∃i,i+m=K∧BE s' b nd (l++(l7.take i).flatten)∧gO b s s'∧∃x,a'=Lo b t K c i x) ?_ K _ _ ⟨0,by omega,by simpa using h,gO.refl b s,x0,rfl⟩) ?_
 ·rintro m a' s' ⟨i,a9,hb,hf,x,rfl⟩;by_cases hm:0<m
  ·have a6:i<l7.length:=by omega
   have a1:l7[i]?=some l7[i]:=List.getElem?_eq_getElem a6;have a0:(l7.take (i+1)).flatten=(l7.take i).flatten++l7[i]:=by rw[List.take_add_one,a1,Option.toList_some,List.flatten_append];simp only[List.flatten_cons,List.flatten_nil,List.append_nil]
   have U:((l7.take (i+1)).flatten).length≤(l7.flatten).length:=by have:=congrArg (fun z=>(List.flatten z).length) (List.take_append_drop (i+1) l7);simp only[List.flatten_append,List.length_append] at this;omega
   rw[a0,List.length_append] at U;generalize l7[i]=tx at a1 a0 U;have a7:=(hf.2 t a8 a5 h5).trans ht;obtain⟨s2,hw,iN,jT⟩:=HS (pr:=pr) (m:=tx) a4 a2 hb (by rw[List.length_append]; omega);rw[List.append_assoc,← a0] at iN;refine zr (zp (yb (num (i:Nat)) (num (K:Nat)) (bD (b:=true) (decide_eq_true (by omega)))) (EO.nil (EW.seq (zT (EW.seq (EW.block (za s' (zr (zp (yi t 0 K c i none .i64 (i:Nat) 1 (by omega) (by omega) (by omega)) (zo s' (zp (bO (b:=t) (off:=i) (v:=str tx) rfl underlying9 rfl (by kernel_rfl) a7 (by simp[a1])) (zf (za s' (zx (zc 4 hw (EO.nil (za s2 (zx (zp (yp (i:Nat) 1 ((i+1:Nat):Int) (by omega) (by omega)) (zf ?_))))))))))))))))))));exact⟨m-1,by omega,i+1,by omega,iN,hf.trans jT,bG (by kernel_rfl)⟩
  ·refine zr (zp (yb (num (i:Nat)) (num (K:Nat)) (bD (b:=false) (decide_eq_false (by omega)))) (EO.nil (EW.seq (zG (EW.exit ?_)))));rw[List.take_of_length_le (by omega)] at hb;exact⟨rfl,hb,hf⟩
 ·rintro e a' s' ⟨rfl,hb,hf⟩;exact⟨.inl rfl,by kernel_rfl,hb,hf⟩
end
structure eT where
 kind:Int
 text:List UInt8
 name:List UInt8
 at_:Value
 closed:Bool
abbrev fK(t:eT):List Value:=[num t.kind,str t.text,str t.name,t.at_,.bool t.closed]
def m6(ts:List eT):Array Value:=(ts.flatMap fK).toArray
theorem p8(ts:List eT):(m6 ts).size=ts.length*5:=by
 unfold m6;induction ts with
 | nil=>rfl
 | cons t ts U=>simp at U ⊢; omega
theorem Ed(ts:List eT)(t:eT):((m6 ts).toList.take (ts.length*5)++fK t).toArray=m6 (ts++[t]):=by rw[List.take_of_length_le (by rw[Array.length_toList,p8]; exact Nat.le_refl _)];unfold m6;simp
def Bp (s:AS)(q:Value)(tx:List UInt8):Prop:=(q=aG∧tx=[])∨∃d fz,q=.slice (some ⟨d,0,none⟩) tx.length tx.length∧Has s d (.cells (ll tx) 5 fz)
def qb (s:AS)(r:Value)(ts:List eT):Prop:=(r=aG∧ts=[])∨∃d fz,r=.slice (some ⟨d,0,none⟩) ts.length ts.length∧Has s d (.cells (m6 ts) 60 fz)
def SC (rn c:Nat)(s:AS)(k:Nat)(tx:List UInt8)(ts:List eT):Prop:=∃p q r,Has s c (fI rn k p q r)∧(p=.pointer none∨p=am c 2)∧Bp s q tx∧qb s r ts
def blk (v:Value)(b:Nat):Prop:=∃off sp n m,v=.slice (some ⟨b,off,sp⟩) n m
def KS (c:Nat)(s:AS)(b:Nat):Prop:=b=c∨∃rn k p q r,s.get c=some (fI rn k p q r)∧(blk q b∨blk r b)
def ij (c:Nat)(s s':AS):Prop:=aQ (KS c s) s s'∧∀b,b<s.nx→KS c s' b→KS c s b
section
variable {rn c k k':Nat}{s s' s1 s2:AS}{p q r p' q' r':Value}{tx:Bq}{ts:List eT}
theorem ij.refl(s:AS):ij c s s:=⟨aQ.refl s,fun _ _ h=>h⟩
theorem ij.trans(h:ij c s s1)(U:ij c s1 s2):ij c s s2:=by have hn:=h.1.1;exact⟨h.1.trans U.1 fun b hb z=>h.2 b hb z,fun b hb z=>h.2 b hb (U.2 b (by omega) z)⟩
theorem KS.at(h:s.get c=some (fI rn k p q r)):KS c s b↔b=c∨blk q b∨blk r b:=by
 constructor
 ·rintro(z|⟨_,_,_,_,_,z,w⟩)
  ·exact .inl z
  ·rw[h] at z;cases z;exact .inr w
 ·rintro(z|z)
  ·exact .inl z
  ·exact .inr ⟨_,_,_,_,_,h,z⟩
theorem ij.mk'(h1:Has s c (fI rn k p q r))(h2:Has s' c (fI rn k' p' q' r'))(hf:aQ (KS c s) s s')(U:q'=q∨∀b,blk q' b→s.nx≤b)(hr:r'=r∨∀b,blk r' b→s.nx≤b):ij c s s':=by
 refine⟨hf,fun b hb z=>(KS.at h1.2).2 ?_⟩;rcases(KS.at h2.2).1 z with z|z|z
 ·exact .inl z
 ·rcases U with rfl|U
  ·exact .inr (.inl z)
  ·have:=U b z; omega
 ·rcases hr with rfl|hr
  ·exact .inr (.inr z)
  ·have:=hr b z; omega
theorem cj(h:blk aG b):False:=by obtain⟨_,_,_,_,h⟩:=h; cases h
theorem cW(h:blk (.slice (sq d) n m) b):b=d:=by obtain⟨_,_,_,_,h⟩:=h; cases h; rfl
theorem eA(d n m:Nat):blk (.slice (sq d) n m) d:=⟨0,none,n,m,rfl⟩
theorem Bp.blk(h:Bp s q tx)(U:YtgcaionclkbehaaGreatDoor.blk q b):∃cs fz,Has s b (.cells cs 5 fz):=by
 rcases h with ⟨rfl,_⟩|⟨d,fz,rfl,h⟩
 ·exact(cj U).elim
 ·rw[cW U]; exact⟨_,_,h⟩
theorem qb.blk(h:qb s r ts)(U:YtgcaionclkbehaaGreatDoor.blk r b):∃cs fz,Has s b (.cells cs 60 fz):=by
 rcases h with ⟨rfl,_⟩|⟨d,fz,rfl,h⟩
 ·exact(cj U).elim
 ·rw[cW U]; exact⟨_,_,h⟩
theorem SC.no(h:SC rn c s k tx ts)(U:Has s b (.cells cs t fz))(h1:t≠121)(h5:t≠5)(h6:t≠60):¬KS c s b:=by
 obtain⟨p,q,r,q1,q2,q3,q4⟩:=h;intro z;rcases(KS.at q1.2).1 z with z|z|z
 ·exact U.ne q1 h1 z
 ·obtain⟨_,_,z⟩:=q3.blk z; exact U.ne z h5 rfl
 ·obtain⟨_,_,z⟩:=q4.blk z; exact U.ne z h6 rfl
theorem Bp.add(h:Bp s q tx)(x:Obj):Bp (s.add x) q tx:=h.imp id fun ⟨d,fz,h1,h3⟩=>⟨d,fz,h1,h3.add x⟩
theorem qb.add(h:qb s r ts)(x:Obj):qb (s.add x) r ts:=h.imp id fun ⟨d,fz,h1,h3⟩=>⟨d,fz,h1,h3.add x⟩
theorem SC.add(h:SC rn c s k tx ts)(x:Obj):SC rn c (s.add x) k tx ts:=by obtain⟨p,q,r,h1,h2,h3,U⟩:=h;exact⟨p,q,r,h1.add x,h2,h3.add x,U.add x⟩
theorem ij.add(h:SC rn c s k tx ts)(x:Obj):ij c s (s.add x):=by obtain⟨p,q,r,h1,_⟩:=h;exact ij.mk' h1 (h1.add x) ((aQ.refl s).add x) (.inl rfl) (.inl rfl)
theorem Bp.set(h:Bp s q tx)(U:Has s b (.cells cs t fz))(ht:t≠5)(x:Option Obj):Bp (s.set b x) q tx:=h.imp id fun ⟨d,f,h1,h3⟩=>⟨d,f,h1,h3.set (h3.ne U (Ne.symm ht)) x⟩
theorem qb.set(h:qb s r ts)(U:Has s b (.cells cs t fz))(ht:t≠60)(x:Option Obj):qb (s.set b x) r ts:=h.imp id fun ⟨d,f,h1,h3⟩=>⟨d,f,h1,h3.set (h3.ne U (Ne.symm ht)) x⟩
theorem SC.sp(h1:Has s c (fI rn k p q r))(h2:p=.pointer none∨p=am c 2)(h3:Bp s q tx)(U:qb s r ts):SC rn c (sp s c rn p q r k') k' tx ts :=
 ⟨p,q,r,h1.put _,h2,h3.set h1 (by decide) _,U.set h1 (by decide) _⟩
theorem ij.sp(h1:Has s c (fI rn k p q r)):ij c s (sp s c rn p q r k'):=ij.mk' h1 (h1.put _) (aQ.set (aQ.refl s) (fun _=>.inl rfl) _) (.inl rfl) (.inl rfl)
variable {pr:Prim}{x0 x1 x4:Value}
theorem IP(a0:pr 261=none)(U:s.get c=some (.cells #[x0,x1,p,q,x4] 121))(hp:p=.pointer none∨p=am c 2):Ef pr 261 #[am c 2] s (.tuple #[]) (s.set c (some (.cells #[x0,x1,am c 2,q,x4] 121))):=by
 refine EF.of a0 func261 rfl ?_;refine zr (zg 3 s (zp (yl c 2 p U) ?_));rcases hp with rfl|rfl
 ·refine zf (zH (zx (zg 2 s (zp (pV rfl (by kernel_rfl) (Fy (off:=2) (b:=c) (k:=1) (by kernel_rfl) underlying117 underlying244 U (by kernel_rfl) (by simp))) (EO.q (by kernel_rfl) (by kernel_rfl) (zo s (zp (pV rfl (by kernel_rfl) (Fz (off:=2) (b:=c) (k:=1) (by kernel_rfl) underlying244 underlying117 U (by kernel_rfl) (by kernel_rfl))) (zg 2 s (zp (ys c 2 (am c 2) U (by simp)) ?_)))))))));exact EO.nil ⟨.inl rfl,(by kernel_rfl),(by kernel_rfl)⟩
 ·refine zf (zG (zr (zg 3 s (zp (yl c 2 (am c 2) U) (zg 1 s (zp (yC (off:=2) (b:=c) (k:=1) rfl (by kernel_rfl) (by kernel_rfl) underlying117 (by kernel_rfl)) (EO.nil (zF ?_))))))));exact⟨.inl rfl,(by kernel_rfl),(AS.yP U).symm⟩
theorem HR{m:Bq}(a1:pr 261=none)(a0:pr 156=none)(h:SC rn c s k tx ts)(hl:tx.length+m.length≤1000000):∃v s',Ef pr 156 #[am c 2,str m] s v s'∧SC rn c s' k (tx++m) ts∧ij c s s':=by
 obtain⟨p,q,r,h1,h2,h3,h4⟩:=h;have hc:=IP a1 h1.2 h2;have c2:Has (s.set c (some (fI rn k (am c 2) q r))) c (fI rn k (am c 2) q r):=h1.put _;have c3:Bp (s.set c (some (fI rn k (am c 2) q r))) q tx:=h3.set h1 (by decide) _;have c4:qb (s.set c (some (fI rn k (am c 2) q r))) r ts:=h4.set h1 (by decide) _;have c5:ij c s (s.set c (some (fI rn k (am c 2) q r))):=ij.mk' h1 c2 (aQ.set (aQ.refl s) (fun _=>.inl rfl) _) (.inl rfl) (.inl rfl);generalize s.set c (some (fI rn k (am c 2) q r))=s1 at *;have hex:∃w U,aZ prog 5 q (strCells ⟨m.toArray⟩) m.length s1=some (w,U)∧w.cells=#[w]∧w.oneCell'=true∧fG q=true∧Has U c (fI rn k (am c 2) q r)∧Bp U w (tx++m)∧qb U r ts∧aQ (KS c s1) s1 U∧(w=q∨∀b,blk w b→s1.nx≤b):=by
  cases m with
  | nil =>
   rcases c3 with ⟨rfl,rfl⟩|⟨d,fz,rfl,q3⟩
   ·exact⟨_,s1,qc (.inl rfl),rfl,rfl,rfl,c2,.inl ⟨rfl,rfl⟩,c4,aQ.refl s1,.inl rfl⟩
   ·exact⟨_,s1,qc (.inr ⟨d,_,_,rfl⟩),rfl,rfl,rfl,c2,.inr ⟨d,fz,by rw[List.append_nil],by rw[List.append_nil]; exact q3⟩,c4,aQ.refl s1,.inl rfl⟩
  | cons x m =>
   rcases c3 with ⟨rfl,rfl⟩|⟨d,fz,rfl,q3⟩
   ·exact⟨_,_,fZ (by simp),rfl,rfl,rfl,c2.add _,.inr ⟨s1.nx,(1,1),rfl,Has.new s1 _⟩,c4.add _,(aQ.refl s1).add _,.inr fun b z=>Nat.le_of_eq (cW z).symm⟩
   ·have a2:(ll tx).size=tx.length:=by simp[strCells]
    refine⟨_,_,fM (sz:=1) (by simp) q3.2 (by kernel_rfl) (by rw[a2]; omega) (by omega),rfl,rfl,rfl,(c2.set (c2.ne q3 (by decide)) none).add _,.inr ⟨s1.nx,(1,1),by rw[List.length_append],?_⟩,(c4.set q3 (by decide) none).add _,(aQ.set (aQ.refl s1) (fun _=>(KS.at c2.2).2 (.inr (.inl (eA _ _ _)))) none).add _,.inr fun b z=>Nat.le_of_eq (cW z).symm⟩;have:List.take (tx.length*1) (ll tx).toList=strCells ⟨tx.toArray⟩:=by rw[Nat.mul_one];exact List.take_of_length_le (by simp[strCells])
    rw[this,iR];exact Has.new (s1.set d none) _
 obtain⟨w,U,e1,e2,e3,e4,e5,e6,e7,e8,e9⟩:=hex;have SP:ij c s1 (U.set c (some (fI rn k (am c 2) w r))):=ij.mk' c2 (e5.put _) (aQ.set e8 (fun _=>.inl rfl) _) e9 (.inl rfl);suffices h:∃s',Ef pr 156 #[am c 2,str m] s (.tuple #[num m.length,.nilIface]) s'∧SC rn c s' k (tx++m) ts∧ij c s s' by obtain⟨s',h⟩:=h;exact⟨_,s',h⟩
 refine EF.gu a0 func156 rfl ?_;refine zs (zr (zc 1 hc (EO.nil (zr (zg 4 s1 (zp (yl c 3 q c2.2) (zg 1 s1 (zp (rj (sl:=q) (m:=m) rfl (by kernel_rfl) (by kernel_rfl) underlying55 underlying9 (by kernel_rfl) (by kernel_rfl) (by omega) e4 e1) (zg 2 U (zp (ir (b:=c) (off:=3) (w:=w) rfl (by kernel_rfl) (by kernel_rfl) e2 e3 (by kernel_rfl) e5.2 (by simp)) (EO.nil (zr (zk 1 (zp (dl (l:=m) rfl underlying9 (by kernel_rfl)) (zf ?_)))))))))))))));exact EW.ret ⟨.inr rfl,(by kernel_rfl),⟨am c 2,w,r,e5.put _,.inr rfl,e6.set e5 (by decide) _,e7.set e5 (by decide) _⟩,c5.trans SP⟩
theorem Eb(a0:pr 84=none)(hs:s.get c=some (.cells #[x0,x1,p,.slice (sq d) l.length l.length,x4] 121))(hb:s.get d=some (.cells (ll l) 5 fz))(h0:l≠[])(hl:l.length≤1000000):Ef pr 84 #[am c 2] s (str l) (s.set d none):=by
 obtain⟨y,l,rfl⟩:∃y l',l=y::l':=by
  cases l with
  | nil=>exact absurd rfl h0
  | cons y l=>exact⟨y,l,rfl⟩
 refine EF.of a0 func84 rfl ?_;refine zs (EW.seq (EW.draw (by kernel_rfl) (by kernel_rfl) (by kernel_rfl) ?_));iterate 3 refine zq ?_
 refine zt s (zu (yl c 3 (.slice (sq d) (y::l).length (y::l).length) hs) ?_);iterate 4 refine zq ?_
 refine zt s (zu (yl c 3 (.slice (sq d) (y::l).length (y::l).length) hs) (zq (zt s (zu (v5 (d:=d) (l:=y::l) (e:=5) (fz:=fz) rfl (by kernel_rfl) (by kernel_rfl) (by kernel_rfl) hb (by kernel_rfl) (by simp) (by omega)) (zq ?_)))));have U:aE prog 55 (am c 3) s=some (.slice (sq d) (y::l).length (y::l).length):=by unfold aE;simp only[am,hs,underlying55];rfl
 refine ET.nil ⟨aM [(aE prog 55 (am c 3) s,.slice (sq d) (y::l).length (y::l).length),(aE prog 55 (am c 3) s,.slice (sq d) (y::l).length (y::l).length)] (by kernel_rfl) (mM ⟨U,rfl⟩ ⟨U,rfl⟩),_,_,_,_,_,_,rfl,rfl,?_⟩;exact yR
theorem M2(U:pr 158=none){ad:Option Addr}(hs:s.get c=some (.cells #[x0,x1,p,.slice ad n m,x4] 121)):Ef pr 158 #[am c 2] s (num (n:Nat)) s:=by refine EF.of U func158 rfl ?_;refine zs (zr (zg 3 s (zp (yl c 3 (.slice ad n m) hs) (zf ?_))));exact yR
end
structure aW where
 kind:Int
 parent:Int
 name:List UInt8
 text:List UInt8
 c9:Value
def aW.cells(x:aW):List Value:=[num x.kind,num x.parent,str x.name,str x.text,x.c9]
abbrev aX(l:List aW):Array Value:=(l.flatMap aW.cells).toArray
abbrev eE(nb k c:Nat):Value:=.slice (some ⟨nb,0,none⟩) k c
theorem ea{l:List aW}{x:aW}(h:l[i]?=some x)(j:Nat)(hj:j<5):(aX l)[i*5+j]?=x.cells[j]?:=by
 rw[List.getElem?_toArray];induction l generalizing i with
 | nil=>simp at h
 | cons y l U =>
  cases i with
  | zero =>simp only[List.getElem?_cons_zero,Option.some.injEq] at h;subst h;rw[List.flatMap_cons,List.getElem?_append_left (by simp[aW.cells]; omega),Nat.zero_mul,Nat.zero_add]
  | succ i =>rw[List.getElem?_cons_succ] at h;rw[List.flatMap_cons,List.getElem?_append_right (by simp[aW.cells]; omega),show(i+1)*5+j-(aW.cells y).length=i*5+j by simp[aW.cells]; omega];exact U h
section
variable {pr:Prim}{s:AS}
theorem gO.add(b:Nat)(s:AS)(o:Obj):gO b s (s.add o):=⟨by simp,fun k U _ _=>by rw[AS.aH,if_neg (by omega)]⟩
theorem BE.add(h:BE s b nd l)(o:Obj):BE (s.add o) b nd l:=by
 obtain⟨hb,p,sl,hs,hp,U⟩:=h;refine⟨by simp; omega,p,sl,by rw[AS.aH,if_neg (by omega)]; exact hs,hp,?_⟩;rcases U with h|⟨d,fz,q1,q2,q3⟩
 ·exact .inl h
 ·exact .inr ⟨d,fz,q1,by simp; omega,by rw[AS.aH,if_neg (by omega)]; exact q3⟩
structure Lz(pr:Prim):Prop where
 GK:pr 261=none
 GI:pr 156=none
 GJ:pr 170=none
 YW:pr 82=none
 p83:pr 83=none
 Xk:pr 168=none
 Xl:pr 169=none
theorem LX(U:Lz pr){c:Nat}{ns:List aW}{x:aW}(h:BE s b (eE nb ns.length c) l)(hn:s.get nb=some (.cells (aX ns) 44 fz))(hx:ns[i]?=some x)(hl:l.length+x.name.length≤900000)(a0:ns.length≤100000):∃s',Ef pr 83 #[am b 0,num (i:Nat)] s (.tuple #[]) s'∧BE s' b (eE nb ns.length c) (l++([60,47]++x.name++[62]))∧gO b s s':=by
 have hi:i<ns.length:=(List.getElem?_eq_some_iff.1 hx).1;have mU:(aX ns)[i*5+2]?=some (str x.name):=ea hx 2 (by decide);have hbE:=h;obtain⟨hb,p,sl,hs,VI,QF⟩:=h;have F1:=hbE.add (.cells #[str [60,47],str x.name,str [62]] 9);obtain⟨s2,hw,iN,jT⟩:=md (pr:=pr) (c:=3) (l7:=[[60,47],x.name,[62]]) (fz:=(0,0)) U.GK U.GI U.GJ F1 (t:=s.nx) (by rw[AS.aH,if_pos rfl]; rfl) (by simp) (by simp) (by simp; omega);have e:l++([60,47]++x.name++[62])=l++([[60,47],x.name,[62]]:List (Bq)).flatten:=by simp
 rw[e];refine EF.gu U.p83 func83 rfl ?_;refine zx (zg 4 s (zp (yl b 0 (eE nb ns.length c) hs) ?_));generalize hK:ns.length=K at *;refine zg 1 s (zp (yi nb 0 K c (i*5) none .i64 (i:Nat) 5 (by omega) (by omega) (by omega)) (zg 1 s (zp (bO (b:=nb) (off:=i*5+2) (v:=str x.name) rfl underlying9 rfl (by kernel_rfl) hn mU) ?_)));generalize x.name=nm at *;refine zg 1 (s.add (.cells #[str [60,47],str nm,str [62]] 9)) (zc 0 hw (EO.nil ?_));exact⟨.inl rfl,by kernel_rfl,iN,(gO.add b s _).trans jT⟩
end
theorem vM{a b c:Option Value × Value}(ha:a.1=some a.2∧aU 20 a.2=true)(hb:b.1=some b.2∧aU 20 b.2=true)(hc:c.1=some c.2∧aU 20 c.2=true):∀x∈[a,b,c],x.1=some x.2∧aU 20 x.2=true:=by
 intro x U;simp only[List.mem_cons,List.not_mem_nil,or_false] at U;rcases U with rfl|rfl|rfl
 ·exact ha
 ·exact hb
 ·exact hc
theorem bH{d:TypeDesc}(ht:P.underlying t=some d)(hd:d.isRow=false)(U:s.get b=some (.cells cs ty fz))(hv:cs[off]?=some v):aE P t (am b off) s=some v:=by unfold aE;simp only[am,U,ht,hd];exact hv
section
variable {pr:Prim}{s:AS}
theorem dg(h:o=some (.cells cs t fz))(ht:t≠5):EC o:=fun U a0 e=>by
 rw[h] at e;injection e with q
 injection q with _ q2
 exact ht q2
theorem KG(hp:Lz pr){c:Nat}{ns:List aW}{x px:aW}(h:BE s b (eE nb ns.length c) l)(hn:s.get nb=some (.cells (aX ns) 44 fz))(a8:nb<s.nx)(a0:x.parent=(pi:Nat))(a1:ns[pi]?=some px)(hl:l.length+out.length≤900000)(a9:ns.length≤100000)
 (a2:∀(s:AS) (d:Nat),s.get d=some (.cells #[str [115,99,114,105,112,116],str [115,116,121,108,101]] 9)→Ef pr 127 #[str px.name,.slice (sq d) 2 2] s (.bool false) s)(U:∀s,Ef pr 267 #[str x.text] s (str out) s) :
  ∃s',Ef pr 169 #[am b 0,.agg x.cells.toArray] s (.tuple #[]) s'∧BE s' b (eE nb ns.length c) (l++out)∧gO b s s':=by
 have hi:pi<ns.length:=(List.getElem?_eq_some_iff.1 a1).1;have mU:(aX ns)[pi*5+2]?=some (str px.name):=ea a1 2 (by decide);have Mm:b<s.nx:=h.1;obtain⟨kd,par,nm,tx,at_⟩:=x;simp only at a0 U;subst a0;have Mn:(s.add (.cells #[num kd,num ((pi:Nat):Int),str nm,str tx,at_] 44)).get s.nx=some (.cells #[num kd,num ((pi:Nat):Int),str nm,str tx,at_] 44):=by rw[AS.aH,if_pos rfl]
 have h1:=h.add (.cells #[num kd,num ((pi:Nat):Int),str nm,str tx,at_] 44);have Vy:(s.add (.cells #[num kd,num ((pi:Nat):Int),str nm,str tx,at_] 44)).get nb=some (.cells (aX ns) 44 fz):=by rw[AS.aH,if_neg (by omega)]; exact hn
 have a3:=gO.add b s (.cells #[num kd,num ((pi:Nat):Int),str nm,str tx,at_] 44);have Qw:(s.add (.cells #[num kd,num ((pi:Nat):Int),str nm,str tx,at_] 44)).nx=s.nx+1:=rfl;refine EF.gu hp.Xl func169 rfl ?_;refine zs (za (s.add (.cells #[num kd,num ((pi:Nat):Int),str nm,str tx,at_] 44)) ?_);generalize s.add (.cells #[num kd,num ((pi:Nat):Int),str nm,str tx,at_] 44)=s1 at *;generalize hB:s.nx=B at *;have PC:=h1;obtain⟨my,p,sl,Tf,VI,QF⟩:=PC;have ot:(s1.add (.cells #[str [115,99,114,105,112,116],str [115,116,121,108,101]] 9)).get s1.nx=some (.cells #[str [115,99,114,105,112,116],str [115,116,121,108,101]] 9):=by rw[AS.aH,if_pos rfl]
 have hI:=a2 _ _ ot;have h2:=h1.add (.cells #[str [115,99,114,105,112,116],str [115,116,121,108,101]] 9);have jT:=a3.trans (gO.add b s1 (.cells #[str [115,99,114,105,112,116],str [115,116,121,108,101]] 9));have Dd:(s1.add (.cells #[str [115,99,114,105,112,116],str [115,116,121,108,101]] 9)).get B=some (.cells #[num kd,num ((pi:Nat):Int),str nm,str tx,at_] 44):=by rw[AS.aH,Qw,if_neg (by omega)]; exact Mn
 have a7:(s1.add (.cells #[str [115,99,114,105,112,116],str [115,116,121,108,101]] 9)).nx=B+2:=by show s1.nx+1=_; omega
 have a4:=bH (P:=prog) (t:=38) underlying38 rfl Tf (off:=0) rfl;have a5:=bH (P:=prog) (t:=3) underlying3 rfl Mn (off:=1) rfl;have a6:=bH (P:=prog) (t:=9) underlying9 rfl Vy mU;generalize hK:ns.length=K at *;generalize px.name=pn at *;refine EW.seq (EW.seq (EW.draw (by kernel_rfl) (by kernel_rfl) (by kernel_rfl) ?_));iterate 3 refine zq ?_
 refine zt s1 (zu (yl b 0 (eE nb K c) Tf) (zq (zt s1 (zu (yl B 1 (num ((pi:Nat):Int)) Mn) (zu (yi nb 0 K c (pi*5) none .i64 (pi:Nat) 5 (by omega) (by omega) (by omega)) (zq (zt s1 (zu (bO (b:=nb) (off:=pi*5+2) (v:=str pn) rfl underlying9 rfl (by kernel_rfl) Vy mU) (zq (zt (s1.add (.cells #[str [115,99,114,105,112,116],str [115,116,121,108,101]] 9)) ?_))))))))));generalize aa:s1.add (.cells #[str [115,99,114,105,112,116],str [115,116,121,108,101]] 9)=s2 at *;refine yt hI (ET.nil ⟨aM [(aE prog 38 (am b 0) s1,eE nb K c),(aE prog 3 (am B 1) s1,num ((pi:Nat):Int)),(aE prog 9 (am nb (pi*5+2)) s1,str pn)] (by kernel_rfl) (vM ⟨a4,rfl⟩ ⟨a5,rfl⟩ ⟨a6,rfl⟩),_,_,_,_,_,_,rfl,rfl,?_⟩);refine zF (za s2 ?_);have h3:=h2.add (.cells #[str out] 9);obtain⟨s4,hw,H0,tf⟩:=md (pr:=pr) (c:=1) (l7:=[out]) (fz:=(0,0)) hp.GK hp.GI hp.GJ h3 (t:=s2.nx) (by rw[AS.aH,if_pos rfl]; rfl) (by simp) (by simp) (by simp; omega);rw[show([out]:List (Bq)).flatten=out by simp] at H0;refine zx (zg 2 s2 (zp (yl B 3 (str tx) Dd) (zc 0 (U s2) (zg 1 (s2.add (.cells #[str out] 9)) (zc 0 hw (EO.nil ?_))))));exact⟨.inl rfl,by kernel_rfl,H0,(jT.trans (gO.add b s2 _)).trans tf⟩
end
theorem ek{c:fj}{o:Oper}{w:Value}{ws:Vq}(U:o.op=.store t x y)(hx:a.at x=am b off)(hy:a.at y=w)(hc:w.cells=ws.toArray)(ho:ws.all Value.oneCell'=true)(a0:bI P t=some ws.length)(hs:s.get b=some (.cells cs ty fz))(hl:off+ws.length≤cs.size):bK P kt c a o s=some (undef,s.set b (some (.cells (putAt cs off ws) ty fz))):=by unfold bK;rw[if_neg (by rw[U]; simp[eV]),U];simp only;unfold iM;rw[hx,hy];simp only[am,hs,hc];rw[if_pos ⟨by simpa using a0,by simpa using hl,by simpa using ho⟩]
abbrev fA(l:List (List UInt8 × List UInt8)):Array Value:=(l.flatMap fun p=>[str p.1,str p.2]).toArray
def bT (s:AS)(v:Value)(l:List (List UInt8 × List UInt8)):Prop:=(v=.slice none 0 0∧l=[])∨∃ab c fz,v=.slice (some ⟨ab,0,none⟩) l.length c∧ab<s.nx∧s.get ab=some (.cells (fA l) 47 fz)
theorem u7{l:List (Bq × Bq)}{p:Bq × Bq}(h:l[i]?=some p):i*2+2≤(fA l).size∧(((fA l).toList.drop (i*2)).take 2).toArray=#[str p.1,str p.2]:=by
 induction l generalizing i with
 | nil=>simp at h
 | cons q l U =>
  cases i with
  | zero =>simp only[List.getElem?_cons_zero,Option.some.injEq] at h;subst h;simp
  | succ i =>rw[List.getElem?_cons_succ] at h;obtain⟨h1,h2⟩:=U h;simp only[List.size_toArray,List.flatMap_cons,List.length_append,List.length_cons,List.length_nil] at h1 ⊢;refine⟨by omega,?_⟩;rw[show(i+1)*2=2+i*2 by omega,← List.drop_drop];simpa using h2
def kY(p:List UInt8 × List UInt8):List UInt8:=[32]++p.1++[61,34]++iL p.2++[34]
def cF(l:List (List UInt8 × List UInt8)):List UInt8:=l.flatMap kY
section
variable {pr:Prim}{s:AS}
theorem gO.set(h:gO b s s1)(U:s.nx≤k):gO b s (s1.set k o):=⟨by have:=h.1; simpa using this,fun j hj hb h5=>by rw[AS.aK,if_neg (by omega)]; exact h.2 j hj hb h5⟩
theorem BE.set(h:BE s b nd l)(hk:k≠b)(h5:EC (s.get k)):BE (s.set k o) b nd l:=by
 obtain⟨hb,p,sl,hs,hp,U⟩:=h;refine⟨by simpa using hb,p,sl,by rw[AS.aK,if_neg (Ne.symm hk)]; exact hs,hp,?_⟩;rcases U with h|⟨d,fz,q1,q2,q3⟩
 ·exact .inl h
 ·exact .inr ⟨d,fz,q1,by simpa using q2,by rw[AS.aK,if_neg (fun e=>by rw[e] at q3; exact h5 _ _ q3)]; exact q3⟩
def Cx(b B:Nat)(at_:Value)(nv:Value)(k i:Nat)(x:Nat→Value):TL:=[am b 0,nv,x 2,am B 0,x 4,x 5,x 6,x 7,x 8,x 9,x 10,x 11,at_,num (k:Nat),num (i:Nat)]++kl x 15 15
theorem LV(hp:Lz pr){x:aW}{aN:List (Bq × Bq)}(h:BE s b nd l)(a5:bT s x.c9 aN)(hl:l.length+x.name.length+(cF aN).length≤900000)(hk:aN.length≤1000)
 (a6:∀p∈aN,∀s,Ef pr 266 #[str p.2] s (str (iL p.2)) s) :
  ∃s',Ef pr 168 #[am b 0,.agg x.cells.toArray] s (.tuple #[]) s'∧BE s' b nd (l++([60]++x.name++cF aN++[62]))∧gO b s s':=by
 have ao:b<s.nx:=h.1;obtain⟨kd,U,nm,tx,at_⟩:=x;simp only at a5 hl;have Mn:(s.add (.cells #[num kd,num U,str nm,str tx,at_] 44)).get s.nx=some (.cells #[num kd,num U,str nm,str tx,at_] 44):=by rw[AS.aH,if_pos rfl]
 have h1:=h.add (.cells #[num kd,num U,str nm,str tx,at_] 44);have H5:=gO.add b s (.cells #[num kd,num U,str nm,str tx,at_] 44);have Qw:(s.add (.cells #[num kd,num U,str nm,str tx,at_] 44)).nx=s.nx+1:=rfl;refine EF.gu hp.Xk func168 rfl ?_;refine zs (za (s.add (.cells #[num kd,num U,str nm,str tx,at_] 44)) ?_);generalize s.add (.cells #[num kd,num U,str nm,str tx,at_] 44)=s1 at *;generalize hB:s.nx=B at *;have h2:=h1.add (.cells #[str [60],str nm] 9);obtain⟨s2,YC,iN,jT⟩:=md (pr:=pr) (c:=2) (l7:=[[60],nm]) (fz:=(0,0)) hp.GK hp.GI hp.GJ h2 (t:=s1.nx) (by rw[AS.aH,if_pos rfl]; rfl) (by simp) (by simp) (by simp; omega);rw[show([[60],nm]:List (Bq)).flatten=[60]++nm by simp] at iN;have Qa:=(gO.add b s1 (.cells #[str [60],str nm] 9)).trans jT;have Dd:s2.get B=some (.cells #[num kd,num U,str nm,str tx,at_] 44):=(Qa.2 B (by omega) (by omega) (dg Mn (by decide))).trans Mn;have Qc:=H5.trans Qa;refine zr (zg 2 s1 (zp (yl B 2 (str nm) Mn) (zg 1 (s1.add (.cells #[str [60],str nm] 9)) (zc 0 YC (EO.nil ?_)))));have jc:∃cp a0,at_=.slice a0 aN.length cp:=by
  rcases a5 with ⟨e1,e2⟩|⟨ab,c,fz,e1,_⟩
  ·exact⟨0,none,by rw[e1,e2]; rfl⟩
  ·exact⟨c,_,e1⟩
 obtain⟨cp,a0,a8⟩:=jc;refine EW.seq (EW.mono (Q:=fun e a' s'=>e=.normal∧BE s' b nd (l++([60]++nm++cF aN))∧gO b s s'∧∃x,a'=Cx b B at_ (.agg #[num kd,num U,str nm,str tx,at_]) aN.length aN.length x) ?_ ?_)
 ·subst a8;refine zr (zg 1 s2 (zp (yl B 4 (.slice a0 aN.length cp) Dd) (zf (za s2 ?_))));generalize hK:aN.length=K at *;refine EW.fill (Cx b B (.slice a0 K cp) (.agg #[num kd,num U,str nm,str tx,.slice a0 K cp]) K 0) (by kernel_rfl) ?_;intro x0;refine EW.block ?_;refine EW.mono (EW.eD (Q:=fun e a' s'=>e=.exit 0∧BE s' b nd (l++([60]++nm++cF aN))∧gO b s s'∧∃x,a'=Cx b B (.slice a0 K cp) (.agg #[num kd,num U,str nm,str tx,.slice a0 K cp]) K K x) (fun m a' s'=>∃i,i+m=K∧BE s' b nd (l++([60]++nm++cF (aN.take i)))∧gO b s s'∧s.nx≤s'.nx∧∃x,a'=Cx b B (.slice a0 K cp) (.agg #[num kd,num U,str nm,str tx,.slice a0 K cp]) K i x) ?_ K _ _ ⟨0,by omega,by simpa[cF] using iN,Qc,Qc.1,x0,rfl⟩) ?_
  ·rintro m a' s' ⟨i,aq,hb,hf,ar,x,rfl⟩;by_cases hm:0<m
   ·have a2:i<aN.length:=by omega
    have ae:aN[i]?=some aN[i]:=List.getElem?_eq_getElem a2;have pL:aN[i]∈aN:=List.getElem_mem a2;have Au:cF (aN.take (i+1))=cF (aN.take i)++kY aN[i]:=by unfold cF;rw[List.take_add_one,ae,Option.toList_some,List.flatMap_append];simp
    have aa:(cF (aN.take (i+1))).length≤(cF aN).length:=by have:=congrArg (fun z=>(cF z).length) (List.take_append_drop (i+1) aN);unfold cF at this ⊢;simp only[List.flatMap_append,List.length_append] at this;omega
    rw[Au,List.length_append] at aa;obtain⟨ab,fz,rfl,al,a1⟩:∃ab fz,a0=some ⟨ab,0,none⟩∧ab<s.nx∧s.get ab=some (.cells (fA aN) 47 fz):=by
     rcases a5 with ⟨_,e2⟩|⟨ab,c,fz,e1,e2,e3⟩
     ·rw[e2] at a2; simp at a2
     ·injection e1 with e1 _ _
      exact⟨ab,fz,e1,e2,e3⟩
    obtain⟨ai,a4⟩:=u7 ae;have F6:=a6 _ pL;generalize aN[i]=av at Au aa a4 F6;obtain⟨an,vv⟩:=av;simp only at a4 F6;have UK:ab≠b:=fun e=>by
     obtain⟨_,p,sl,hs,_⟩:=h;rw[e,hs] at a1;injection a1 with q
     injection q with _ q2
     exact absurd q2 (by decide)
    have a7:=(hf.2 ab (by omega) UK (dg a1 (by decide))).trans a1;have hbn':b<s'.nx:=hb.1;have rW:(s'.add (.cells #[str [],str []] 47)).get s'.nx=some (.cells #[str [],str []] 47):=by rw[AS.aH,if_pos rfl]
    have a3:((s'.add (.cells #[str [],str []] 47)).set s'.nx (some (.cells #[str an,str vv] 47))).get s'.nx=some (.cells #[str an,str vv] 47):=by rw[AS.aK,if_pos rfl]
    have ag:BE ((s'.add (.cells #[str [],str []] 47)).set s'.nx (some (.cells #[str an,str vv] 47))) b nd (l++([60]++nm++cF (aN.take i))):=(hb.add _).set (by omega) (dg rW (by decide));have wI:gO b s' ((s'.add (.cells #[str [],str []] 47)).set s'.nx (some (.cells #[str an,str vv] 47))):=(gO.add b s' _).set (Nat.le_refl _);have VE:s'.nx<((s'.add (.cells #[str [],str []] 47)).set s'.nx (some (.cells #[str an,str vv] 47))).nx:=by simp
    refine zr (zp (yb (num (i:Nat)) (num (K:Nat)) (bD (b:=true) (decide_eq_true (by omega)))) (EO.nil (EW.seq (zT (EW.seq (EW.block (za s' (zr (zp (yi ab 0 K cp (i*2) none .i64 (i:Nat) 2 (by omega) (by omega) (by omega)) (zo s' (zp (g8 (b:=ab) (off:=i*2) (n:=2) (r:=#[str an,str vv]) rfl underlying47 rfl (by kernel_rfl) (by kernel_rfl) a7 ai a4) (zg 1 (s'.add (.cells #[str [],str []] 47)) (zp (ek (b:=s'.nx) (off:=0) (w:=.agg #[str an,str vv]) (ws:=[str an,str vv]) rfl (by kernel_rfl) (by kernel_rfl) rfl rfl (by kernel_rfl) rW (by simp)) (EO.nil (za ((s'.add (.cells #[str [],str []] 47)).set s'.nx (some (.cells #[str an,str vv] 47))) ?_)))))))))))))));generalize (s'.add (.cells #[str [],str []] 47)).set s'.nx (some (.cells #[str an,str vv] 47))=s3 at *;generalize ak:s'.nx=B3 at *;have h4:=ag.add (.cells #[str [32],str an,str [61,34],str (iL vv),str [34]] 9);have Ol:kY (an,vv)=([[32],an,[61,34],iL vv,[34]]:List (Bq)).flatten:=by simp[kY]
    have aj:(kY (an,vv)).length=([[32],an,[61,34],iL vv,[34]]:List (Bq)).flatten.length:=by rw[Ol]
    obtain⟨s5,af,a9,ah⟩:=md (pr:=pr) (c:=5) (l7:=[[32],an,[61,34],iL vv,[34]]) (fz:=(0,0)) hp.GK hp.GI hp.GJ h4 (t:=s3.nx) (by rw[AS.aH,if_pos rfl]; rfl) (by simp) (by simp) (by rw[← aj]; simp only[List.length_append,List.length_cons,List.length_nil]; omega);rw[← Ol,show l++([60]++nm++cF (aN.take i))++kY (an,vv)=l++([60]++nm++cF (aN.take (i+1))) by rw[Au]; simp only[List.append_assoc]] at a9;have Qb:=(hf.trans wI).trans ((gO.add b s3 (.cells #[str [32],str an,str [61,34],str (iL vv),str [34]] 9)).trans ah);have Ey:=bH (P:=prog) (t:=9) underlying9 rfl a3 (off:=0) rfl;have H7:=bH (P:=prog) (t:=9) underlying9 rfl a3 (off:=1) rfl;have K6:=F6 s3;generalize iL vv=ev at K6 af;refine EW.draw (by kernel_rfl) (by kernel_rfl) (by kernel_rfl) ?_;iterate 2 refine zq ?_
    refine zt s3 (zu (yl B3 0 (str an) a3) (zq (zt s3 (zu (yl B3 1 (str vv) a3) (yt K6 (zq (zt (s3.add (.cells #[str [32],str an,str [61,34],str ev,str [34]] 9)) (yt af (ET.nil ⟨aM [(aE prog 9 (am B3 0) s3,str an),(aE prog 9 (am B3 0) s3,str an),(aE prog 9 (am B3 1) s3,str vv)] (by kernel_rfl) (vM ⟨Ey,rfl⟩ ⟨Ey,rfl⟩ ⟨H7,rfl⟩),_,_,_,_,_,_,rfl,rfl,?_⟩)))))))));refine za s5 (zx (zp (yp (i:Nat) 1 ((i+1:Nat):Int) (by omega) (by omega)) (zf ?_)));exact⟨m-1,by omega,i+1,by omega,a9,Qb,Qb.1,bG (by kernel_rfl)⟩
   ·obtain rfl:i=K:=by omega
    rw[List.take_of_length_le (by omega)] at hb;refine zr (zp (yb (num (i:Nat)) (num (i:Nat)) (bD (b:=false) (decide_eq_false (by omega)))) (EO.nil (EW.seq (zG (EW.exit ?_)))));exact⟨rfl,hb,hf,bG (by kernel_rfl)⟩
  ·rintro e a' s' ⟨rfl,q1,q2,q3⟩;exact⟨rfl,q1,q2,q3⟩
 rintro e a' s' ⟨rfl,hb,hf,x,rfl⟩;have h6:=hb.add (.cells #[str [62]] 9);obtain⟨s7,hw7,SX,hf7⟩:=md (pr:=pr) (c:=1) (l7:=[[62]]) (fz:=(0,0)) hp.GK hp.GI hp.GJ h6 (t:=s'.nx) (by rw[AS.aH,if_pos rfl]; rfl) (by simp) (by simp) (by simp only[List.length_append,List.length_cons,List.length_nil,List.flatten_cons,List.flatten_nil,List.append_nil]; omega);rw[show l++([60]++nm++cF aN)++([[62]]:List (Bq)).flatten=l++([60]++nm++cF aN++[62]) by simp] at SX;refine zx (zg 2 (s'.add (.cells #[str [62]] 9)) (zc 0 hw7 (EO.nil ?_)));exact⟨.inl rfl,by kernel_rfl,SX,(hf.trans (gO.add b s' _)).trans hf7⟩
end
theorem gZ{c:fj}{o:Oper}{z:Value}{news:Vq}(U:o.op=.call { callee:=.builtin .append,args:=#[x,y],argTypes:=#[t,t] })(hx:a.at x=sl)(hy:a.at y=.slice (sq d) m k)(ht:P.underlying t=some (.slice e))(hi:(P.info? e).map (fun i=>(i.zero,i.size,i.bytes))=some (some z,sz,bytes))(hz:z.cells.size=sz)(h0:0<sz)(hb:bytes≤1000)(a1:kt e=false)(hd:s.get d=some (.cells cs e fz))(a0:dx sl (sq d)=true)(hm:m≤1000000000)(hl:m*sz≤cs.size)(hn:cs.toList.take (m*sz)=news)(ho:news.all Value.oneCell'=true)(h:aZ P e sl news m s=some (v,s')):bK P kt c a o s=some (v,s'):=by
 have hq:bQ P a o=none:=by unfold bQ;rw[U]
 have hc:dQ s sz (sq d) m=some news:=by unfold dQ;simp only;rw[hd];simp only;rw[if_pos (by omega),List.drop_zero,hn]
 unfold bK;rw[if_neg (by rw[U]; simp[eV])];rw[U];simp only;rw[hq];simp only[List.map_cons,List.map_nil];rw[hx,hy];unfold eB;simp only[if_true];rw[ht];simp only;rw[hi];simp only;rw[hc];simp only;rw[if_pos ⟨hz,h0,hb,hm,a1,a0,ho⟩];exact h
abbrev SK:Value:=.agg #[num 0,str [],str [],aG,.bool false]
theorem CE(t:eT)(h:t.at_.oneCell'=true):(fK t).all Value.oneCell'=true:=by show((num t.kind).oneCell'&&((str t.text).oneCell'&&((str t.name).oneCell'&&(t.at_.oneCell'&&((Value.bool t.closed).oneCell'&&true)))))=true;rw[h];rfl
theorem iX(h:∀b,blk v b→b<n):dx v (sq n)=true:=by
 unfold dx;split
 ·next b off n' m b' o' U e =>
  cases e
  have:=h b ⟨off,none,_,_,rfl⟩;cases hq:Nat.beq b n with
  | false=>rfl
  | true=>exact absurd (Nat.eq_of_beq_eq_true hq) (by omega)
 ·rfl
section
variable {rn c k:Nat}{s:AS}{tx:Bq}{ts:List eT}{pr:Prim}{r:Value}
theorem qb.lt(h:qb s r ts):∀b,YtgcaionclkbehaaGreatDoor.blk r b→b<s.nx:=fun b U=>by obtain⟨_,_,z⟩:=qb.blk h U; exact z.1
theorem qb.na(h:qb s r ts):aU 20 r=true:=by rcases h with ⟨rfl,_⟩|⟨d',U,rfl,_⟩<;>rfl
theorem Lg{x:Obj}(h:qb s r ts)(h1:Has s c x)(U:¬blk r c)(hl:ts.length≤1000000)(t:eT):∃w s',aZ prog 60 r (fK t) 1 s=some (w,s')∧w.cells=#[w]∧w.oneCell'=true∧qb s' w (ts++[t])∧Has s' c x∧aQ (fun b=>blk r b) s s'∧∀b,blk w b→s.nx≤b:=by
 rcases h with ⟨rfl,rfl⟩|⟨d,fz,rfl,q3⟩
 ·exact⟨_,_,fZ (by decide),rfl,rfl,.inr ⟨s.nx,(1,1),rfl,Has.new s _⟩,h1.add _,(aQ.refl s).add _,fun b z=>Nat.le_of_eq (cW z).symm⟩
 ·have a0:=p8 ts;refine⟨_,_,fM (sz:=5) (by decide) q3.2 (by kernel_rfl) (by omega) (by omega),rfl,rfl,?_,(h1.set (fun e=>U (e▸eA _ _ _)) none).add _,(aQ.set (aQ.refl s) (fun _=>eA _ _ _) none).add _,fun b z=>Nat.le_of_eq (cW z).symm⟩;rw[Ed];exact .inr ⟨s.nx,(1,1),by rw[List.length_append]; rfl,Has.new (s.set d none) _⟩
def pG (tx:List UInt8)(ts:List eT):List eT:=if tx=[] then ts else ts++[⟨1,tx,[],aG,false⟩]
theorem SC.rc{q:Value}(h1:Has s c (fI rn k p q r))(U:qb s r ts):¬blk r c:=fun z=>by obtain⟨_,_,w⟩:=U.blk z;exact h1.ne w (by decide) rfl
theorem tS(a0:∀f,f∈ux→pr f=none)(h:SC rn c s k tx ts)(hx:tx.length≤1000000)(hl:ts.length≤1000000):∃s',Ef pr 73 #[am c 0] s (.tuple #[]) s'∧SC rn c s' k [] (pG tx ts)∧ij c s s':=by
 have ae:=h;obtain⟨p,q,r,h1,h2,h3,h4⟩:=h;obtain⟨ad,cp,hq⟩:∃ad cp,q=.slice ad tx.length cp:=by
  rcases h3 with ⟨rfl,rfl⟩|⟨d,fz,rfl,_⟩
  ·exact⟨none,0,rfl⟩
  ·exact⟨_,_,rfl⟩
 have a9:Ef pr 158 #[am c 2] s (num (tx.length:Nat)) s:=by have PC:=h1;rw[hq] at PC;exact M2 (a0 158 (by decide)) PC.2
 refine EF.gu (a0 73 (by decide)) func73 rfl ?_;refine zr (zc 3 a9 ?_);by_cases ht:tx=[]
 ·subst ht;refine zp (yb (num (([]:Bq).length:Nat)) (num 0) (iJ (b:=false) (by decide))) (EO.nil (za s (zF ?_)));exact⟨.inl rfl,(by kernel_rfl),ae,ij.refl s⟩
 ·have af:0<tx.length:=List.length_pos_iff.2 ht;rcases h3 with ⟨_,z⟩|⟨d,fz,VM,q3⟩
  ·exact absurd z ht
  rw[VM] at h1;have aa:=Eb (pr:=pr) (a0 84 (by decide)) h1.2 q3.2 ht hx;have Vs:aE prog 56 (am c 4) s=some r:=bH (P:=prog) (t:=56) underlying56 rfl h1.2 (off:=4) rfl;have e1:Has (s.set d none) c (fI rn k p (.slice (sq d) tx.length tx.length) r):=h1.set (h1.ne q3 (by decide)) none;have a5:aE prog 56 (am c 4) (s.set d none)=some r:=bH (P:=prog) (t:=56) underlying56 rfl e1.2 (off:=4) rfl;have ti:=h4.na;have f1:aQ (KS c s) s (s.set d none):=aQ.set (aQ.refl s) (fun _=>(KS.at h1.2).2 (.inr (.inl (eA _ _ _)))) none;have e4:qb (s.set d none) r ts:=h4.set q3 (by decide) none;have U:=iX e4.lt;have e5:=e4.add (.cells (fK ⟨1,tx,[],aG,false⟩).toArray 60);have e6:=Has.new (s.set d none) (.cells (fK ⟨1,tx,[],aG,false⟩).toArray 60);have e7:=e1.add (.cells (fK ⟨1,tx,[],aG,false⟩).toArray 60);have f2:=f1.add (.cells (fK ⟨1,tx,[],aG,false⟩).toArray 60);obtain⟨w,s3,a1,a2,a3,a4,e8,a6,a7⟩:=Lg e5 e7 (SC.rc h1 h4) hl ⟨1,tx,[],aG,false⟩;have f3:aQ (KS c s) s s3:=f2.trans a6 fun b _ z=>(KS.at h1.2).2 (.inr (.inr z));have hw:∀b,blk w b→s.nx≤b:=fun b z=>by have:=a7 b z; simp at this; omega
  generalize s.set d none=s1 at e1 a5 e4 U e5 e6 e7 a1 a6 a7 aa f1 f2;refine zp (yb (num (tx.length:Nat)) (num 0) (iJ (b:=true) (decide_eq_true (by omega)))) (EO.nil (zH (za s (EW.seq (EW.draw (by kernel_rfl) (by kernel_rfl) (by kernel_rfl) ?_)))));iterate 4 refine zq ?_
  refine zt s (zu (yl c 4 r h1.2) ?_);iterate 3 refine zq ?_
  refine zt s (yt aa ?_);iterate 2 refine zq ?_
  refine zt (s1.add (.cells (fK ⟨1,tx,[],aG,false⟩).toArray 60)) (zu (gZ (sl:=r) (news:=fK ⟨1,tx,[],aG,false⟩) (d:=s1.nx) (m:=1) (k:=1) (sz:=5) (z:=SK) (bytes:=72) rfl (by kernel_rfl) (by kernel_rfl) underlying56 (by kernel_rfl) rfl (by decide) (by decide) (by kernel_rfl) e6.2 U (by decide) (by simp) (by simp) (CE _ rfl) a1) ?_);iterate 2 refine zq ?_
  refine zt s3 (zu (ir (b:=c) (off:=4) (w:=w) rfl (by kernel_rfl) (by kernel_rfl) a2 a3 (by kernel_rfl) e8.2 (by simp)) (ET.nil ⟨aM [(aE prog 56 (am c 4) s,r),(aE prog 56 (am c 4) s1,r)] (by kernel_rfl) (mM ⟨Vs,ti⟩ ⟨a5,ti⟩),_,_,_,_,_,_,rfl,rfl,?_⟩));have e9:=e8.put (fI rn k p (.slice (sq d) tx.length tx.length) w);have SP:=a4.set e8 (by decide) (some (fI rn k p (.slice (sq d) tx.length tx.length) w));have f4:aQ (KS c s) s (s3.set c (some (fI rn k p (.slice (sq d) tx.length tx.length) w))):=aQ.set f3 (fun _=>.inl rfl) _;refine za (s3.set c (some (fI rn k p (.slice (sq d) tx.length tx.length) w))) ?_;generalize s3.set c (some (fI rn k p (.slice (sq d) tx.length tx.length) w))=s4 at e9 SP f4 ⊢;have Uo:Ef pr 159 #[am c 2] s4 (.tuple #[]) (s4.set c (some (fI rn k (.pointer none) aG w))):=by refine EF.of (a0 159 (by decide)) func159 rfl ?_;refine zr (zg 3 s4 (zp (ys c 2 (.pointer none) e9.2 (by simp)) (EO.nil ?_)));have XW:=e9.put (fI rn k (.pointer none) (.slice (sq d) tx.length tx.length) w);have XX:=AS.set_set s4 c (some (fI rn k (.pointer none) (.slice (sq d) tx.length tx.length) w)) (some (fI rn k (.pointer none) aG w));refine za (s4.set c (some (fI rn k (.pointer none) (.slice (sq d) tx.length tx.length) w))) ?_;generalize s4.set c (some (fI rn k (.pointer none) (.slice (sq d) tx.length tx.length) w))=s5 at XW XX ⊢;refine zx (zg 3 s5 (zp (ys c 3 aG XW.2 (by simp)) ?_));exact EO.nil ⟨.inl rfl,(by kernel_rfl),by rw[← XX]; kernel_rfl⟩
  have a8:Has (s4.set c (some (fI rn k (.pointer none) aG w))) c (fI rn k (.pointer none) aG w):=e9.put _;refine zx (zc 3 Uo (EO.nil ?_));refine⟨.inl rfl,(by kernel_rfl),⟨.pointer none,aG,w,a8,.inl rfl,.inl ⟨rfl,rfl⟩,?_⟩,ij.mk' h1 a8 (aQ.set f4 (fun _=>.inl rfl) _) (.inr fun b z=>(cj z).elim) (.inr hw)⟩;unfold pG;rw[if_neg ht];exact SP.set e9 (by decide) _
theorem FG(tx:Bq)(ts:List eT):(pG tx ts).length≤ts.length+1:=by unfold pG;split<;>simp
theorem KY(a0:∀f,f∈ux→pr f=none)(h:SC rn c s k tx ts)(hx:tx.length≤1000000)(hl:ts.length≤900000)(t:eT)(a8:t.at_.oneCell'=true)(a9:aU 19 t.at_=true):∃s',Ef pr 249 #[am c 0,.agg (fK t).toArray] s (.tuple #[]) s'∧SC rn c s' k [] (pG tx ts++[t])∧ij c s s':=by
 have a5:=ij.add h (.cells (fK t).toArray 60);obtain⟨s2,hE,Tg,jT⟩:=tS a0 (h.add (.cells (fK t).toArray 60)) hx (by omega);have hel:=FG tx ts;have my:Has s2 s.nx (.cells (fK t).toArray 60):=by
  refine(Has.new s _).fr jT.1 fun z=>?_;obtain⟨p,q,r,q1,q2,q3,q4⟩:=h;have hc:=q1.1;rcases(KS.at (q1.add (.cells (fK t).toArray 60)).2).1 z with z|z|z
  ·omega
  ·obtain⟨_,_,z⟩:=q3.blk z; have:=z.1; omega
  ·obtain⟨_,_,z⟩:=q4.blk z; have:=z.1; omega
 obtain⟨p,q,r,h1,h2,h3,U⟩:=Tg;have Vs:aE prog 56 (am c 4) s2=some r:=bH (P:=prog) (t:=56) underlying56 rfl h1.2 (off:=4) rfl;have Vt:aE prog 60 (am s.nx 0) s2=some (.agg (fK t).toArray):=by unfold aE;simp only[am,my.2,underlying60];kernel_rfl
 have aa:aU 20 (.agg (fK t).toArray)=true:=by show((aU 19 (num t.kind))&&((aU 19 (str t.text))&&((aU 19 (str t.name))&&(aU 19 t.at_&&(aU 19 (.bool t.closed)&&true)))))=true;rw[a9];rfl
 have e5:=U.add (.cells (fK t).toArray 60);have e6:=Has.new s2 (.cells (fK t).toArray 60);have e7:=h1.add (.cells (fK t).toArray 60);have f2:=(aQ.refl (K:=KS c s2) s2).add (.cells (fK t).toArray 60);obtain⟨w,s3,a1,a2,a3,a4,e8,a6,a7⟩:=Lg e5 e7 (SC.rc h1 U) (by omega) t;have f3:aQ (KS c s2) s2 s3:=f2.trans a6 fun b _ z=>(KS.at h1.2).2 (.inr (.inr z));have hw:∀b,blk w b→s2.nx≤b:=fun b z=>by have:=a7 b z; simp at this; omega
 have e9:Has (s3.set c (some (fI rn k p q w))) c (fI rn k p q w):=e8.put _;have f4:ij c s2 (s3.set c (some (fI rn k p q w))):=ij.mk' h1 e9 (aQ.set f3 (fun _=>.inl rfl) _) (.inl rfl) (.inr hw);have h3':Bp s3 q []:=by
  rcases h3 with z|⟨d,fz,z1,z2⟩
  ·exact .inl z
  ·refine .inr ⟨d,fz,z1,(z2.add _).fr a6 fun z=>?_⟩;obtain⟨_,_,z⟩:=U.blk z;exact z2.ne z (by decide) rfl
 refine EF.gu (a0 249 (by decide)) func249 rfl ?_;refine zs (za (s.add (.cells (fK t).toArray 60)) (zr (zc 1 hE (EO.nil (za s2 ?_)))));refine EW.draw (by kernel_rfl) (by kernel_rfl) (by kernel_rfl) ?_;iterate 4 refine zq ?_
 refine zt s2 (zu (yl c 4 r h1.2) (zu (yA s.nx 0 5 ((fK t).toArray) my.2 (by simp)) (zq (zt (s2.add (.cells (fK t).toArray 60)) (zu (gZ (sl:=r) (news:=fK t) (d:=s2.nx) (m:=1) (k:=1) (sz:=5) (z:=SK) (bytes:=72) rfl (by kernel_rfl) (by kernel_rfl) underlying56 (by kernel_rfl) rfl (by decide) (by decide) (by kernel_rfl) e6.2 (iX U.lt) (by decide) (by simp) (by simp) (CE _ a8) a1) ?_)))));iterate 2 refine zq ?_
 refine zt s3 (zu (ir (b:=c) (off:=4) (w:=w) rfl (by kernel_rfl) (by kernel_rfl) a2 a3 (by kernel_rfl) e8.2 (by simp)) (ET.nil ⟨aM [(aE prog 56 (am c 4) s2,r),(aE prog 60 (am s.nx 0) s2,.agg (fK t).toArray)] (by kernel_rfl) (mM ⟨Vs,U.na⟩ ⟨Vt,aa⟩),_,_,_,_,_,_,rfl,rfl,?_⟩));exact⟨.inl rfl,(by kernel_rfl),⟨p,q,w,e9,h2,h3'.set e8 (by decide) _,a4.set e8 (by decide) _⟩,(a5.trans jT).trans f4⟩
end
end Go.Proofs.YtgcaionclkbehaaGreatDoor
