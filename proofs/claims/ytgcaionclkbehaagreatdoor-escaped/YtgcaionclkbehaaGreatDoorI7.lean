import Derived.Test.YtgcaionclkbehaaGreatDoorI4
import Derived.Laws.BytesString
set_option linter.all false
set_option maxHeartbeats 2000000
set_option maxRecDepth 100000
namespace Go.Proofs.YtgcaionclkbehaaGreatDoor
open Go.Conc Go.RowKit Go.Lib Tryz
variable {P:Program}{kt:TypeId→Bool}{c:Code}{a:TL}{x y:Operand}{S1 l t v w:Bq}{bt e t':TypeId}{b k n sz:Nat}{xs:List aW}
section
variable {s:AS}{pr:Prim}
theorem Rp{c:fj}{o:Oper}{t:TypeId}{bytes:Nat}{z:Value}(U:o.op=.makeSlice t x y)(ht:P.underlying t=some (.slice e))(hx:a.at x=num (n:Nat))(hy:a.at y=num (n:Nat))(hi:(P.info? e).map (fun i=>(i.zero,i.size,i.bytes))=some (some z,sz,bytes))(h0:0<n)(hn:n≤1000000)(hz:lh P e=true)(hk:kt e=false)(hb:bytes≤1000):bK P kt c a o s=some (.slice (sq s.nx) n n,s.add (.cells (madeCells z.cells (n*sz)) e)):=by unfold bK;rw[if_pos (by rw[U]; rfl)];unfold ub;rw[U];simp only;rw[ht,hx,hy];simp only;rw[hi];simp only;rw[if_pos ⟨trivial,by omega,by omega,hz,hk,hb⟩];rfl
theorem Nh{c:fj}{o:Oper}{t:TypeId}{cs:Aq}{fz:Nat × Nat}(U:o.op=.call { callee:=.builtin .copy,args:=#[x,y],argTypes:=#[t,t'] })(hx:a.at x=.slice (sq b) n k)(hy:a.at y=str l)(ht:P.underlying t=some (.slice e))(hz:bI P e=some 1)(hs:s.get b=some (.cells cs bt fz))(hl:l.length=n)(hc:cs.size=n):bK P kt c a o s=some (num (l.length:Nat),s.set b (some (.cells (ll l) bt fz))):=by
 have hq:bQ P a o=none:=by unfold bQ;rw[U]
 have a1:putAt cs 0 (strCells ⟨l.toArray⟩)=ll l:=by
  unfold putAt;have h1:(strCells ⟨l.toArray⟩).length=l.length:=by simp[strCells]
  rw[List.take_zero,List.nil_append,List.drop_of_length_le (by rw[Array.length_toList,h1]; omega),List.append_nil]
 have a0:iB l 0=l.length:=by
  have:∀(l:Bq) (n:Nat),iB l n=n+l.length:=by
   intro l;induction l with
   | nil=>intro n; rfl
   | cons x l ih=>intro n; rw[iB,ih,List.length_cons]; omega
  rw[this,Nat.zero_add]
 unfold bK;rw[if_neg (by rw[U]; simp[eV])];rw[U];simp only;rw[hq];simp only[List.map_cons,List.map_nil];rw[hx,hy];unfold eB;simp only;rw[ht,hs];simp only;have a2:(⟨l.toArray⟩:ByteArray).size=n:=by rw[← hl]; rfl
 rw[if_pos ⟨hz,a2,by omega⟩,a1,a0];rfl
theorem IK(a0:pr 36=none)(a1:pr 60=none)(h0:l≠[])(hl:l.length≤1000000):∃s',Ef pr 36 #[str l] s (str l) s':=by
 have U:0<l.length:=List.length_pos_iff.2 h0;have z1:=Has.new s (.cells (madeCells (Value.int .u8 0).cells (l.length*1)) 5);have z2:=z1.put (.cells (ll l) 5);have Ou:(madeCells (Value.int .u8 0).cells (l.length*1)).size=l.length:=by rw[size_madeCells,Nat.mul_one]
 generalize hS:s.add (.cells (madeCells (Value.int .u8 0).cells (l.length*1)) 5)=S at *;obtain⟨s',h⟩:∃s',Ef pr 60 #[str l] s (str l) s':=by refine⟨(S.set s.nx (some (.cells (ll l) 5))).set s.nx none,?_⟩;refine EF.of a1 func60 rfl ?_;refine zs (EW.seq (zr (zk 1 (zp (dl (l:=l) rfl underlying9 (by kernel_rfl)) (zp (yb (num (l.length:Nat)) (num 0) (iH (b:=false) (beq_eq_false_iff_ne.2 (by omega)))) (EO.nil (za s (zF (zr (zk 1 (zp (dl (l:=l) rfl underlying9 (by kernel_rfl)) (zo s (zp (Rp (n:=l.length) (sz:=1) (bytes:=1) (z:=.int .u8 0) rfl underlying55 (by kernel_rfl) (by kernel_rfl) (by kernel_rfl) U hl (by kernel_rfl) (by kernel_rfl) (by decide)) ?_)))))))))))));rw[hS];refine zf (za S (zr (zk 2 (zo S (zp (Nh (b:=s.nx) (n:=l.length) (k:=l.length) (l:=l) rfl (by kernel_rfl) (by kernel_rfl) underlying55 (by kernel_rfl) z1.2 rfl Ou) (EO.nil (za (S.set s.nx (some (.cells (ll l) 5))) (zr (zk 1 (zp (yi s.nx 0 l.length l.length 0 none .i64 0 1 (by omega) (by omega) (by omega)) (zk 2 (zo (S.set s.nx (some (.cells (ll l) 5))) (zp (v5 (d:=s.nx) (l:=l) rfl (by kernel_rfl) (by kernel_rfl) (by kernel_rfl) z2.2 (by kernel_rfl) U (by omega)) (zf ?_))))))))))))));exact yR
 refine⟨s',?_⟩;refine EF.of a0 func36 rfl ?_;refine zs (zr (zc 1 h (zf ?_)));exact yR
end
section
variable {s s1:AS}{pr:Prim}
theorem yB{o:Obj}:∀{l:List Nat},b∈l→s.get b=some o→nz o=true→(s.only l).get b=some o
 | [],h,_,_=>by simp at h
 | c::l,h,hs,ho=>by
  unfold AS.only;by_cases U:c=b
  ·subst U;rw[hs];simp only;rw[if_pos ho,AS.aK,if_pos rfl]
  ·have ih:=yB (l:=l) ((List.mem_cons.1 h).resolve_left fun e=>U e.symm) hs ho;split
   ·split
    ·rw[AS.aK,if_neg (fun e=>U e.symm)]; exact ih
    ·exact ih
   ·exact ih
def AS.all(s:AS):AS:=s.only (List.range s.nx)
theorem AS.LH(s:AS):s.all.nx=s.nx:=(Cj (List.range s.nx) s).1
theorem Has.all{o:Obj}(h:Has s b o)(U:nz o=true):Has s.all b o:=⟨by rw[AS.LH]; exact h.1,yB (List.mem_range.2 h.1) h.2 U⟩
theorem qE.all{v:Value}(h:qE s v xs):qE s.all v xs:=by obtain⟨d,c,fz,e,h⟩:=h;exact⟨d,c,fz,e,h.all rfl⟩
theorem gP.all{us:List Nd}(h:gP s xs us):gP s.all xs us:=⟨h.1,fun i x u hx hu=>by
 obtain⟨h1,h2,h3,h4,U⟩:=h.2 i x u hx hu;refine⟨h1,h2,h3,h4,?_⟩;rcases U with U|⟨ab,c,fz,e,q1,q2⟩
 ·exact .inl U
 ·have:=Has.all (s:=s) ⟨q1,q2⟩ rfl;exact .inr ⟨ab,c,fz,e,this.1,this.2⟩⟩
abbrev nD(v:Value)(n:Nat)(b:Bool):Obj:=.cells #[v,num (n:Nat),.bool b] 80
def EE (s:AS):AS:=s.add (nD aG 0 false)
def Nn (t:List UInt8)(s:AS):AS:=((EE s).add (.cells #[str t] 9)).add (.cells #[str t] 9 (1,1))
def Ii (t:List UInt8)(s:AS):AS:=(Nn t s).set s.nx (some (nD (.slice (some ⟨s.nx+2,0,none⟩) 1 1) t.length false))
def JZ (t:List UInt8)(s:AS):AS:=(Ii t s).add (.cells #[aG] 82)
theorem Nb(U:pr 18=none):Ef pr 18 #[] s (am s.nx 0) (EE s):=by
 refine EF.of U func18 rfl ?_;iterate 2 refine zs ?_
 exact yR
theorem Jb(a4:pr 20=none)(a5:∀s,Ef pr 36 #[str t] s (str t) s)(h0:t≠[])(hl:t.length≤20000):Ef pr 20 #[am s.nx 0,str t] (EE s) (num 0) (Ii t s):=by
 have U:Has (EE s) s.nx (nD aG 0 false):=Has.new s _;have a1:=U.add (.cells #[str t] 9);have a2:Has (Nn t s) s.nx (nD aG 0 false):=a1.add (.cells #[str t] 9 (1,1));have b1:Has ((EE s).add (.cells #[str t] 9)) (s.nx+1) (.cells #[str t] 9):=Has.new (EE s) _;have a3:=a2.put (nD (.slice (sq (s.nx+2)) 1 1) 0 false);have e4:((Nn t s).set s.nx (some (nD (.slice (sq (s.nx+2)) 1 1) 0 false))).set s.nx (some (nD (.slice (sq (s.nx+2)) 1 1) t.length false))=Ii t s:=AS.set_set (Nn t s) s.nx (some (nD (.slice (sq (s.nx+2)) 1 1) 0 false)) (some (nD (.slice (sq (s.nx+2)) 1 1) t.length false));have l1:=bH (P:=prog) (t:=62) underlying62 rfl U.2 (off:=0) rfl;have xY:=fZ (P:=prog) (e:=9) (news:=[str t]) (m:=1) (s:=(EE s).add (.cells #[str t] 9)) (by decide);have hc:=a5 (EE s);have hN:(EE s).nx=s.nx+1:=rfl;have xY:aZ prog 9 aG [str t] 1 ((EE s).add (.cells #[str t] 9))=some (.slice (sq (s.nx+2)) 1 1,Nn t s):=xY;generalize PI:EE s=S0 at *;generalize Og:S0.add (.cells #[str t] 9)=S1 at *;generalize zi:Nn t s=S2 at *;generalize UF:S2.set s.nx (some (nD (.slice (sq (s.nx+2)) 1 1) 0 false))=S3 at *;generalize Ii t s=S4 at *;generalize s.nx=b at *;refine EF.of a4 func20 rfl ?_;refine zs (EW.seq (EW.block (zr (zg 3 S0 (zp (bO (b:=b) (off:=2) (v:=.bool false) rfl underlying4 rfl (by kernel_rfl) U.2 rfl) (zf (za S0 (zG (zr (zk 1 (zp (dl (l:=t) rfl underlying9 (by kernel_rfl)) (zg 3 S0 (zp (bO (b:=b) (off:=1) (v:=num 0) rfl underlying3 rfl (by kernel_rfl) U.2 rfl) (zk 1 (zp (dt (u:=num (t.length:Nat)) (w:=num 20000) rfl (by kernel_rfl) (by kernel_rfl) (iJ (b:=false) (decide_eq_false (by omega)))) (zf (za S0 (zG (zr (zk 1 (zp (dt (u:=str t) (w:=str []) rfl (by kernel_rfl) (by kernel_rfl) (by unfold cX; simp only; rw[iG h0])) (zf (za S0 (zH (EW.seq (EW.draw (by kernel_rfl) (by kernel_rfl) (by kernel_rfl) ?_))))))))))))))))))))))))));iterate 4 refine zq ?_
 refine zt S0 (zu (bO (b:=b) (off:=0) (v:=aG) rfl underlying62 rfl (by kernel_rfl) U.2 rfl) (zq (zt S0 (ET.fR #[str t] (by kernel_rfl) rfl rfl (by kernel_rfl) (by kernel_rfl) hc (zq (ET.gm S1 ((show _=S0.add (.cells #[str t] 9) by kernel_rfl).trans Og) (zu (Cm (sl:=aG) (d:=S0.nx) (k:=1) (z:=str []) (w:=str t) (bytes:=16) rfl (by kernel_rfl) (by kernel_rfl) underlying62 (by kernel_rfl) rfl (by decide) (by kernel_rfl) (by rw[hN]; exact b1.2) rfl rfl xY) ?_)))))));iterate 2 refine zq ?_
 refine zt S2 (zu (ir (b:=b) (off:=0) (w:=.slice (sq (b+2)) 1 1) rfl (by kernel_rfl) (by kernel_rfl) rfl rfl (by kernel_rfl) a2.2 (by simp)) (ET.nil ⟨aM [(aE prog 62 (am b 0) S0,aG),(aE prog 62 (am b 0) S0,aG)] (by kernel_rfl) (mM ⟨l1,rfl⟩ ⟨l1,rfl⟩),_,_,_,_,_,_,rfl,rfl,?_⟩));refine EW.gm S3 ((show _=S2.set b (some (nD (.slice (sq (b+2)) 1 1) 0 false)) by kernel_rfl).trans UF) (zx (zg 3 S3 (zp (bO (b:=b) (off:=1) (v:=num 0) rfl underlying3 rfl (by kernel_rfl) a3.2 rfl) (zk 1 (zp (dl (l:=t) rfl underlying9 (by kernel_rfl)) (zp (mG (i:=0) (j:=(t.length:Nat)) (r:=((t.length:Nat):Int)) rfl (by kernel_rfl) (by kernel_rfl) (by omega) (by omega)) (zg 2 S3 (zp (ir (b:=b) (off:=1) (w:=num (t.length:Nat)) rfl (by kernel_rfl) (by kernel_rfl) rfl rfl (by kernel_rfl) a3.2 (by simp)) (EO.nil (EW.gm S4 ((show _=S3.set b (some (nD (.slice (sq (b+2)) 1 1) t.length false)) by kernel_rfl).trans e4) (zs ?_)))))))))));exact EW.ret ⟨.inr rfl,(by kernel_rfl),(by kernel_rfl)⟩
theorem LY(a0:pr 21=none)(U:Ef pr 37 #[.slice (sq (s.nx+2)) 1 1,.func (.func 38) #[] #[am (s.nx+3) 0]] (JZ t s) (.tuple #[]) s1){o:Obj}(a1:Has s1 s.nx (nD (.slice (sq (s.nx+2)) 1 1) t.length false)):Ef pr 21 #[am s.nx 0] (Ii t s) (.tuple #[am (s.nx+3) 0,num 0]) (s1.set s.nx (some (nD aG 0 true))):=by
 have a4:Has (Ii t s) s.nx (nD (.slice (sq (s.nx+2)) 1 1) t.length false):=by have:Has (Nn t s) s.nx (nD aG 0 false):=((Has.new s _).add _).add _;exact this.put _
 have a5:Has (JZ t s) s.nx (nD (.slice (sq (s.nx+2)) 1 1) t.length false):=a4.add _;have hN:(Ii t s).nx=s.nx+3:=rfl;have hT:(Ii t s).add (.cells #[aG] 82)=JZ t s:=rfl;generalize Ii t s=S4 at *;generalize JZ t s=S5 at *;rw[← hN] at U ⊢;generalize s.nx=b at *;refine EF.of a0 func21 rfl ?_;refine zs (EW.seq (zr (zg 3 S4 (zp (yl b 2 (.bool false) a4.2) (EO.nil (za S4 (zF (zr (zk 1 (EO.gm S5 ((show _=S4.add (.cells #[aG] 82) by kernel_rfl).trans hT) (EO.nil (za S5 (zr (zg 3 S5 (zp (yl b 0 (.slice (sq (b+2)) 1 1) a5.2) (zc 1 U (EO.nil (za s1 (zr (zg 3 s1 (zp (ek (b:=b) (off:=0) (w:=.agg #[aG,num 0,.bool true]) (ws:=[aG,num 0,.bool true]) rfl (by kernel_rfl) (by kernel_rfl) rfl rfl (by kernel_rfl) a1.2 (by simp)) (EO.nil (za (s1.set b (some (nD aG 0 true))) (zs ?_))))))))))))))))))))))));exact yR
theorem J9(U:pr 17=none)(a0:pr 18=none)(a1:pr 20=none)(a2:pr 21=none)(a3:∀s,Ef pr 36 #[str t] s (str t) s)(h0:t≠[])(hl:t.length≤20000)(a4:Ef pr 37 #[.slice (sq (s.nx+2)) 1 1,.func (.func 38) #[] #[am (s.nx+3) 0]] (JZ t s) (.tuple #[]) s1)(a5:Has s1 s.nx (nD (.slice (sq (s.nx+2)) 1 1) t.length false)):Ef pr 17 #[str t] s (am (s.nx+3) 0) (s1.set s.nx (some (nD aG 0 true))):=by have e1:=Nb (pr:=pr) (s:=s) a0;have e2:=Jb (s:=s) a1 a3 h0 hl;have e3:=LY (o:=nD aG 0 false) a2 a4 a5;generalize s1.set s.nx (some (nD aG 0 true))=S6 at *;generalize Ii t s=S4 at *;generalize EE s=S0 at *;generalize s.nx+3=B at *;generalize s.nx=b at *;refine EF.of U func17 rfl ?_;refine zs (zr (zc 0 e1 (zf (za S0 (EW.seq (zr (zf (za S0 (zF (zr (zc 2 e2 (zf (za S4 (zr (zc 1 e3 (zf (za S6 (EW.seq (zr (zf (za S6 (zF (zs ?_)))))))))))))))))))))));exact yR
end
section
variable {ι:Type}{P:Program}{KT:TypeId→Prop}{An:bC}{N0:ι→Nat}{M:ι→World→Nat→Prop}{O:ι→Nat→Prop}{R:ι→Wq}{D:ι→World→World→Array Event→Prop}{X:ι→Gq}{Hd:ι→Hq→World→Prop}{kt:TypeId→Bool}{pr:Prim}
variable {aA:TL}{s s1:AS}{K:TL→AS→Prop}{ops:Array Oper}{o:Oper}{v:Value}
theorem WI.gm{Q:Exit→TL→AS→Prop}(s':AS)(h:s=s')(U:WI P KT An X Hd c aA s' Q):WI P KT An X Hd c aA s Q:=h▸U
theorem WI.fill{Q:Exit→TL→AS→Prop}(f:(Nq)→TL)(h:aA=f (fun i=>aA.getD i undef))(k:∀x,WI P KT An X Hd c (f x) s Q):WI P KT An X Hd c aA s Q:=h▸k _
end
structure Ext(w w':World):Prop where
 tape:w'.tape=w.tape
 os:w'.os=w.os
 output:w'.output=w.output
 size:w.heap.size≤w'.heap.size
 block:∀b,b<w.heap.size→w'.heap[b]?=w.heap[b]?
section
variable {P:Program}{Post:Value→World→Prop}{b:Frame}{a:Act}{w:World}
theorem A9{fn:Func}{U:List Item}{v:Value}(hn:b.kind=.normal)(hd:a.defers=[])(hf:P.funcs[b.fn]?=some fn)(hi:P.inits.idxOf? b.fn=none)(hr:(results fn a.tmps).run P w=.ok v w)(he:(results fn a.tmps).events P w #[]=#[]) :
  stepG P true (G { b.at a U with mode:=.returning } []) w=.ended (.done v) w #[]:=by simp[G,stepG,unwind,doReturn,Frame.at,hn,hd,hf,hi,hr,he,seen,GStep.after]
theorem ends_of_calls{f:FuncId}{args:Aq}{Q:Value→World→Prop}(hi:P.inits.idxOf? f=none)(hQ:∀v w' e,Q v w'→Post v (w'.at e))(h:ew P (ZI P Post 0) f args (fun _=>False) w (fun _ v w'=>Q v w')):Ends P Post (solo (G (Frame.enter P f args .normal) []) w) #[]:=by
 have C:aV P true (fun _:Nat→Prop=>AtRel) DZ (ZI P Post 0):=ZI.closed;have T:∀S,Terms AtRel (DZ S):=sJ;obtain⟨aJ,c,hf,_,hb,hw⟩:=h;have lL:∀(S':Nat→Prop) (a':Act) (w':World) (U:List Item),(a'.defers=[]∧∃v,ResultsC P aJ a'.tmps v∧Q v w')→ZI P Post 0 S' (G { (base f).at a' U with mode:=.returning } []) w':=by rintro S' a' w' U ⟨hd,v,hr,hq⟩;exact ZI.done rfl (fun e=>A9 (b:=base f) rfl hd hf hi (hr _).1 (hr _).2) (fun e=>hQ v w' e hq)
 have hz:ZI P Post 0 (fun _=>False) (G ((base f).at { tmps:=args++Array.replicate (aJ.ntmps-args.size) undef,defers:=[] } [.code c]) []) w:=by
  refine hw (base f) [] [] rfl (by simp[base]) fun S' e a' w' q=>?_;obtain⟨he,q⟩:=q;rcases he with rfl|rfl
  ·exact C.step rfl fun dI fW=>by rw[stepG_end]; exact⟨(T S').idle _,C.rely (lL S' a' w' [] q) fW⟩
  ·exact fun U=>lL S' a' w' U q
 rw[enter_at _ hf hb,solo_eq_crowd];have hp:=past_nil
 have:=hz 0 w.drawn (fun _=>False) #[G ((base f).at { tmps:=args++Array.replicate (aJ.ntmps-args.size) undef,defers:=[] } [.code c]) []] (fun _=>0) #[] none (fun l hl=>hl.elim)
  ⟨rfl,leavers_one _ _,hp.clean,hp.known,hp.over,hp.hears⟩;exact this
end
theorem mm:cY.toArray.size=54:=by kernel_rfl
theorem G5:bI prog 335=some 54:=by kernel_rfl
section
variable {pr:Prim}{s:AS}
def qq(ls:List Nat):Prop:=(dR ls).length≤61∧∀c∈ls,It c∧c≠0∧c≠13
def Ea (q out:List UInt8)(i:Nat)(x:Nat→Value):TL:=[str q,x 1,str [],str out,num ((i:Nat):Int)]++kl x 5 37
def Az (c:UInt8):List Nat:=if 128≤c.toNat then [233] else if c.toNat=0∨c.toNat=13 then [] else [c.toNat]
def lj:List UInt8→List Nat→List Nat
 | [],acc=>acc
 | c::r,acc=>if (dR acc).length<60 then lj r (acc++Az c) else acc
theorem DD{r:Bq}{U:List Nat}(h:¬(dR U).length<60):lj r U=U:=by
 cases r with
 | nil=>rfl
 | cons c r=>rw[lj,if_neg h]
theorem mC{q:Bq}(hp:pr 29=none)(hq:q.length≤9223372036854775807):qq (lj q [])∧Ef pr 29 #[str q] s (str (dR (lj q []))) s:=by
 suffices hx:∃U,(lj q []=U∧qq U)∧Ef pr 29 #[str q] s (str (dR U)) s by obtain⟨U,⟨rfl,h1⟩,h2⟩:=hx;exact⟨h1,h2⟩
 suffices h:Ew pr (match Tryz.f29.body with|some c=>c|none=>.skip) ((#[str q]:Aq).toList++List.replicate (Tryz.f29.ntmps-(#[str q]:Aq).toList.length) undef) s (fun e a' s1=>(e=.normal∨e=.ret)∧s1=s∧∃U,(lj q []=U∧qq U)∧dA prog Tryz.f29 a' s1=some (str (dR U))) by obtain⟨m,e,a',s1,h1,he,h2,U,h3,h4⟩:=h;exact⟨U,h3,EF.of hp func29 rfl ⟨m,e,a',s1,h1,he,h4,h2⟩⟩
 iterate 2 refine zs ?_
 refine EW.seq (zs (za s ?_));refine EW.fill (Ea q (dR []) 0) (by kernel_rfl) ?_;intro x0;refine EW.block ?_;refine EW.mono (EW.eD (Q:=fun e a' s'=>e=.exit 0∧s'=s∧∃U i,(lj q []=U∧qq U)∧∃x,a'=Ea q (dR U) i x) (fun m a' s'=>s'=s∧∃U i,i+m=q.length+1∧i≤q.length∧(lj q []=lj (q.drop i) U∧qq U)∧∃x,a'=Ea q (dR U) i x) ?_ (q.length+1) _ _ ⟨rfl,[],0,by omega,by omega,⟨rfl,by simp[dR],by simp⟩,x0,rfl⟩) ?_
 ·rintro m a' s' ⟨rfl,U,i,a9,hi,⟨hF,a0⟩,x,rfl⟩;obtain⟨k,rfl⟩:∃k,m=k+1:=⟨m-1,by omega⟩;refine EW.seq (zr (zk 2 (zp (dl (l:=q) rfl underlying9 (by kernel_rfl)) ?_)));by_cases eH:i<q.length
  ·refine zp (yb (num ((i:Nat):Int)) (num q.length) (bD (b:=true) (decide_eq_true (by omega)))) (zk 2 (zp (dl (l:=dR U) rfl underlying9 (by kernel_rfl)) ?_));by_cases h8:(dR U).length<60
   ·refine zp (yb (num (dR U).length) (num 60) (bD (b:=true) (decide_eq_true (by omega)))) (zf (zT (EW.seq (EW.block (EW.block ?_)))));have hb:q[i]?=some q[i]:=List.getElem?_eq_getElem eH;have a7:lj q []=lj (q.drop (i+1)) (U++Az q[i]):=by rw[hF,List.drop_eq_getElem_cons eH,lj,if_pos h8]
    generalize q[i]=c at hb a7;have a4:q[((i:Nat):Int).toNat]?=some c:=by rw[Int.toNat_natCast]; exact hb
    have a3:∀(a5:List Nat) (a1:TL) (s1:AS),(U++Az c=a5∧qq a5)→s1=s'→(∃x,a1=Ea q (dR a5) i x)→Ew pr (match Tryz.f29.body with|some (.seq _ (.seq _ (.seq (.seq _ (.block _ (.loop (.seq _ (.seq _ c))))) _)))=>c|_=>.skip) a1 s1 (fun e a' OC=>match e with|.normal=>∃m',m'<k+1∧OC=s'∧∃U i,i+m'=q.length+1∧i≤q.length∧(lj q []=lj (q.drop i) U∧qq U)∧∃x,a'=Ea q (dR U) i x|e=>e=.exit 0∧OC=s'∧∃U i,(lj q []=U∧qq U)∧∃x,a'=Ea q (dR U) i x):=by rintro a5 a1 s1 ⟨ho1,ho⟩ rfl ⟨x1,rfl⟩;refine zx (zk 1 (zp (Ck (i:=((i:Nat):Int)) (j:=1) (r:=((i+1:Nat):Int)) rfl (by kernel_rfl) (by kernel_rfl) (by omega) (by omega)) (zf ?_)));exact⟨k,Nat.lt_succ_self k,by kernel_rfl,a5,i+1,by omega,by omega,⟨by rw[a7,ho1],ho⟩,bG (by kernel_rfl)⟩
    refine zr (zk 2 (zp (pW (l:=q) (k:=.i64) (n:=((i:Nat):Int)) (b:=c) rfl underlying9 (by kernel_rfl) (by kernel_rfl) (by omega) a4) ?_));by_cases a2:128≤c.toNat
    ·refine zp (yb (.int .u8 c.toNat) (.int .u8 128) (w7 (b:=true) (decide_eq_true (by omega)))) (zf (zH (zx (zk 1 (zp (Cl (l:=dR U) (m:=[195,169]) rfl (by kernel_rfl) (by kernel_rfl) (by simp; omega)) ?_)))));have hT:dR U++[195,169]=dR (U++[233]):=by rw[fD]; rfl
     rw[hT];refine zf ?_;refine a3 (U++[233]) _ _ ⟨by unfold Az; rw[if_pos a2],by rw[← hT]; simp; omega,fun y hy=>?_⟩ (by kernel_rfl) (bG (by kernel_rfl));rcases List.mem_append.1 hy with hy|hy
     ·exact a0.2 y hy
     ·rw[List.mem_singleton.1 hy]; exact⟨.inr rfl,by decide,by decide⟩
    ·refine zp (yb (.int .u8 c.toNat) (.int .u8 128) (w7 (b:=false) (decide_eq_false (by omega)))) (zf (zG (zr (zk 2 (zp (pW (l:=q) (k:=.i64) (n:=((i:Nat):Int)) (b:=c) rfl underlying9 (by kernel_rfl) (by kernel_rfl) (by omega) a4) ?_)))));by_cases a8:c.toNat=0
     ·refine zp (yb (.int .u8 c.toNat) (.int .u8 0) (cO (b:=false) (by rw[a8]; rfl))) (zf (zF ?_));exact a3 U _ _ ⟨by unfold Az; rw[if_neg a2,if_pos (by omega),List.append_nil],a0⟩ (by kernel_rfl) (bG (by kernel_rfl))
     ·refine zp (yb (.int .u8 c.toNat) (.int .u8 0) (cO (b:=true) (bne_iff_ne.2 (by omega)))) (zk 3 (zp (pW (l:=q) (k:=.i64) (n:=((i:Nat):Int)) (b:=c) rfl underlying9 (by kernel_rfl) (by kernel_rfl) (by omega) a4) ?_));by_cases a6:c.toNat=13
      ·refine zp (yb (.int .u8 c.toNat) (.int .u8 13) (cO (b:=false) (by rw[a6]; rfl))) (zf (zF ?_));exact a3 U _ _ ⟨by unfold Az; rw[if_neg a2,if_pos (by omega),List.append_nil],a0⟩ (by kernel_rfl) (bG (by kernel_rfl))
      ·refine zp (yb (.int .u8 c.toNat) (.int .u8 13) (cO (b:=true) (bne_iff_ne.2 (by omega)))) (zf (zH (zx (zk 4 (zp (Ck (i:=((i:Nat):Int)) (j:=1) (r:=((i+1:Nat):Int)) rfl (by kernel_rfl) (by kernel_rfl) (by omega) (by omega)) (zp (kK (l:=q) (m:=[c]) (i:=i) (j:=i+1) rfl underlying9 (by kernel_rfl) ((show _=bF q.length q.length (some (num ((i:Nat):Int))) (some (num ((i+1:Nat):Int))) by kernel_rfl).trans ((w8 (by omega) (by omega) (by omega)).trans (by rw[Int.toNat_natCast,Int.toNat_natCast]))) (by rw[List.take_add_one,hb,List.drop_append_of_le_length (by simp; omega),List.drop_eq_nil_of_le (by simp; omega)]; rfl)) (zp (Cl (l:=dR U) (m:=[c]) rfl (by kernel_rfl) (by kernel_rfl) (by simp; omega)) ?_)))))));have hT:dR U++[c]=dR (U++[c.toNat]):=by rw[fD];congr 1;show[c]=Dw c.toNat++[];unfold Dw;rw[if_neg (by omega)];simp
       rw[hT];refine zf ?_;refine a3 (U++[c.toNat]) _ _ ⟨by unfold Az; rw[if_neg a2,if_neg (by omega)],by rw[← hT]; simp; omega,fun y hy=>?_⟩ (by kernel_rfl) (bG (by kernel_rfl));rcases List.mem_append.1 hy with hy|hy
       ·exact a0.2 y hy
       ·rw[List.mem_singleton.1 hy]; exact⟨.inl (by omega),a8,a6⟩
   ·refine zp (yb (num (dR U).length) (num 60) (bD (b:=false) (decide_eq_false (by omega)))) (zf (zG (EW.exit ?_)));exact⟨rfl,by kernel_rfl,U,i,⟨hF.trans (DD h8),a0⟩,bG (by kernel_rfl)⟩
  ·refine zp (yb (num ((i:Nat):Int)) (num q.length) (bD (b:=false) (decide_eq_false (by omega)))) (zf (zG (EW.exit ?_)));exact⟨rfl,by kernel_rfl,U,i,⟨by rw[hF,List.drop_of_length_le (by omega)]; rfl,a0⟩,bG (by kernel_rfl)⟩
 ·rintro e a' s' ⟨rfl,rfl,U,i,a0,x,rfl⟩;refine EW.zh 5 .ret (by kernel_rfl) ?_;exact⟨.inr rfl,by kernel_rfl,U,a0,by kernel_rfl⟩
end
def kS (v w:List UInt8):AS:=(sA.add (.cells #[str [118],str v] 47)).add (.cells (aX (dL 32 w)) 44)
def qP (v w:List UInt8):AS:=(((⟨[],61⟩:AS).set 33 (some (.cells (aX (dL 32 w)) 44))).set 32 (some (.cells #[str [118],str v] 47))).set 1 (some (.cells cY.toArray 335))
def Ki (w v t:List UInt8)(x:Nat→Value):TL:=[str w,str v,x 2,x 3,.bool false,.bool true,eE 33 5 5,str t,num 0]++kl x 9 41
section
variable {Post:Value→World→Prop}{Ex:Nat→Prop}{w₀:World}{An:bC}{pr YX:Prim}
theorem Hy{s s9 U:AS}{d c:Nat}(a0:Ef pr 17 #[str t] s (am 64 0) s9)(a2:Ef pr 23 #[am 64 0] s9 (.slice (sq d) n c) U)(a1:Ef pr 22 #[eE 33 5 5,.slice (sq d) n c] U (.bool true) U)(hg:U.get 1=some (.cells cY.toArray 335))(x:Nq) :
  Ew pr (match Tryz.f10.body with|some (.seq _ (.seq _ (.seq _ (.seq _ (.seq _ (.seq _ (.seq _ c)))))))=>c|_=>.skip) (Ki w v t x) s (fun e a' s'=>e=.ret∧a'.getD 4 undef=.bool true∧s'.get 1=some (.cells cY.toArray 335)):=by refine zr ?_;refine zc 1 a0 (zf (za s9 (EW.seq (zr (zf (za s9 (zF (zr (zc 1 a2 (zf (za U (zr (zc 2 a1 (zf (za U ?_)))))))))))))));exact EW.ret ⟨rfl,(by kernel_rfl),hg⟩
theorem JA(U:ck prog eS An (fun _:Zx=>AtRel) (fun j=>DZ j.1) (fun j=>ZI prog Post 0 j.1) (Bl Ex w₀) pr)(a2:ck prog eS An (fun _:Zx=>AtRel) (fun j=>DZ j.1) (fun j=>ZI prog Post 0 j.1) (Bl Ex w₀) YX)(a7:∀b,32≤b→An b=none)(a5:Ef pr 15 #[] sA (.bool true) sA){q1 q2:Bq}(a6:Ef pr 29 #[str q1] sA (str S1) sA)(a3:Ef pr 29 #[str q2] sA (str v) sA)(hw:(if S1=[] then [120] else S1)=w)
 (a1:∃s',Ef pr 28 #[eE 33 5 5] (kS v w) (.tuple #[str t,num 0]) s'∧∀b,b<34→(kS v w).get b≠none→s'.get b=(kS v w).get b)
 (a0:∀x,Ew YX (match Tryz.f10.body with|some (.seq _ (.seq _ (.seq _ (.seq _ (.seq _ (.seq _ (.seq _ c)))))))=>c|_=>.skip) (Ki w v t x) (qP v w) (fun e a' s'=>e=.ret∧a'.getD 4 undef=.bool true∧s'.get 1=some (.cells cY.toArray 335))) :
  ∀c,(match Tryz.f10.body with|some c=>c|_=>.skip)=c→WI prog eS An (fun j:Zx=>ZI prog Post 0 j.1) (Bl Ex w₀) c ([str q1,str q2]++List.replicate 48 undef) sA (fun e a' s'=>e=.ret∧a'.getD 4 undef=.bool true∧s'.get 1=some (.cells cY.toArray 335)):=by
 rintro c rfl;obtain⟨s7,a1,hk⟩:=a1;have hg:∀b o,(qP v w).get b=some o→b<(qP v w).nx∧s7.get b=some o∧∃cs t fz,o=.cells cs t fz∧cs.toList.all (Ig (qP v w).nx 5)=true:=by
  intro b o hb;unfold qP at hb;rw[AS.aK] at hb;split at hb
  ·next e =>cases hb; subst e;refine⟨(by decide:1<61),(hk 1 (by decide) (by rw[show(kS v w).get 1=some (.cells cY.toArray 335) by kernel_rfl]; simp)).trans (by kernel_rfl),_,_,_,rfl,by kernel_rfl⟩
  ·rw[AS.aK] at hb;split at hb
   ·next e =>cases hb; subst e;refine⟨(by decide:32<61),(hk 32 (by decide) (by rw[show(kS v w).get 32=some (.cells #[str [118],str v] 47) by kernel_rfl]; simp)).trans (by kernel_rfl),_,_,_,rfl,by kernel_rfl⟩
   ·rw[AS.aK] at hb;split at hb
    ·next e =>cases hb; subst e;refine⟨(by decide:33<61),(hk 33 (by decide) (by rw[show(kS v w).get 33=some (.cells (aX (dL 32 w)) 44) by kernel_rfl]; simp)).trans (by kernel_rfl),_,_,_,rfl,by kernel_rfl⟩
    ·unfold AS.get at hb; simp at hb
 have a4:∀b x,An b=some x→b<(qP v w).nx:=by
  intro b x hb;by_cases h:b<32
  ·exact Nat.lt_of_lt_of_le h (by decide:32≤61)
  ·rw[a7 b (by omega)] at hb; cases hb
 refine WI.seq qh (WI.of qh cz dq U cI (EW.go 5 (by kernel_rfl) ?_));refine WI.seq qh (WI.of qh cz dq U cI (zx ?_));refine zc 0 a5 (zf ?_);refine WI.gm sA (by kernel_rfl) ?_;refine WI.seq qh (WI.of qh cz dq U cI (zx ?_));refine zc 1 a6 (zf ?_);refine WI.gm sA (by kernel_rfl) ?_;refine WI.seq qh (WI.of qh cz dq U cI (zx ?_));refine zc 1 a3 (zf ?_);refine WI.gm sA (by kernel_rfl) ?_;refine WI.seq qh (WI.of qh cz dq U cI (zr ?_));by_cases h1:S1=[]
 ·subst h1;rw[if_pos rfl] at hw;subst hw;refine zf (zH (EW.go 5 (by kernel_rfl) ?_));refine WI.seq qh (WI.of qh cz dq U cI (EW.go 5 (by kernel_rfl) ?_));refine WI.gm (kS v [120]) (by kernel_rfl) ?_;refine WI.seq qh (WI.of qh cz dq U cI (zx ?_));refine zc 1 a1 (zf ?_);refine WI.gm s7 (by kernel_rfl) ?_;refine WI.back hg (by kernel_rfl) a4 ?_;refine WI.fill (Ki [120] v t) (by kernel_rfl) fun x=>?_;exact WI.of qh cz dq a2 cI (a0 x)
 ·rw[if_neg h1] at hw;subst hw;refine zk 1 (zp (dt (u:=str S1) (w:=str []) rfl (by kernel_rfl) (by kernel_rfl) (by unfold cX; simp only; rw[iG h1])) (EO.nil (zF ?_)));refine WI.seq qh (WI.of qh cz dq U cI (EW.go 5 (by kernel_rfl) ?_));refine WI.gm (kS v S1) (by kernel_rfl) ?_;refine WI.seq qh (WI.of qh cz dq U cI (zx ?_));refine zc 1 a1 (zf ?_);refine WI.gm s7 (by kernel_rfl) ?_;refine WI.back hg (by kernel_rfl) a4 ?_;refine WI.fill (Ki S1 v t) (by kernel_rfl) fun x=>?_;exact WI.of qh cz dq a2 cI (a0 x)
end
section
variable {ι:Type}{P:Program}{KT:TypeId→Prop}{An:bC}{N0:ι→Nat}{M:ι→World→Nat→Prop}{O:ι→Nat→Prop}{R:ι→Wq}{D:ι→World→World→Array Event→Prop}{X:ι→Gq}{Hd:ι→Hq→World→Prop}{pr Tn:Prim}{kt:TypeId→Bool}
open Classical in
theorem ck.zD(Y : Cy P KT N0 M O R D X Hd)(hm : P.follows .mixedOrders = true)(Ao : ∀ t, kt t = false → ¬ KT t)(mU : ∀ (f : FuncId) (aJ : Func), P.funcs[f]? = some aJ → (aJ.name == "runtime.NumGoroutine") = false){m : Nat}(Ak : ∀ b, k ≤ b → An b = none)(VF : ck P KT An R D X Hd Tn)(hp : ck P KT An R D X Hd pr)(f : FuncId) : ∃ V, ck P KT An R D X Hd (g9 f V pr) ∧ ∀ args v s1, args.toList.all (fC m) = true → fC m v = true → EF P kt Tn f args ⟨[], k⟩ v s1 → V args = some v := by
 refine⟨fun args=>if h:∃v s1,args.toList.all (fC m)=true∧fC m v=true∧EF P kt Tn f args ⟨[],k⟩ v s1 then some (Classical.choose h) else none,⟨?_,?_⟩,?_⟩
 ·intro g h args s v s' hf hh;unfold g9 at hf;split at hf
  ·cases hf;unfold Ob at hh;split at hh
   ·cases hh; exact Nat.le_refl _
   ·cases hh
  ·exact hp.nx g h args s v s' hf hh
 ·intro g h args s v s' hf hh;unfold g9 at hf;split at hf
  ·next he =>
   have he:=Nat.eq_of_beq_eq_true he;subst he;cases hf;unfold Ob at hh;split at hh
   ·next v' hv =>
    cases hh;dsimp only at hv;split at hv
    ·next hex =>cases hv;obtain⟨s1,h1,h2,n,h3⟩:=Classical.choose_spec hex;exact Sound.alone Y Ak h1 h2 ((gH Y hm Ao VF mU n).2 _ _ _ _ _ h3)
    ·cases hv
   ·cases hh
  ·exact hp.sound g h args s v s' hf hh
 ·intro args v s1 h1 h2 h3;have hex:∃v s1,args.toList.all (fC m)=true∧fC m v=true∧EF P kt Tn f args ⟨[],k⟩ v s1:=⟨v,s1,h1,h2,h3⟩;simp only[dif_pos hex];obtain⟨s2,_,_,h4⟩:=Classical.choose_spec hex;rw[(EF.one h4 h3).1]
end
section
variable {Post:Value→World→Prop}
theorem Iz:wV AS.all:=fun s=>Cj (List.range s.nx) s
theorem I6{s:AS}(h:Has s 32 (.cells #[str [118],str v] 47)):gP s (dL 32 w) (ta v w):=⟨rfl,fun i x u U hu=>by
 match i with
 | 0=>cases U; cases hu; exact⟨rfl,rfl,rfl,rfl,.inl ⟨rfl,rfl⟩⟩
 | 1=>cases U; cases hu; exact⟨rfl,rfl,rfl,rfl,.inl ⟨rfl,rfl⟩⟩
 | 2=>cases U; cases hu; exact⟨rfl,rfl,rfl,rfl,.inl ⟨rfl,rfl⟩⟩
 | 3=>cases U; cases hu; exact⟨rfl,rfl,rfl,rfl,.inr ⟨32,1,(0,0),rfl,h.1,h.2⟩⟩
 | 4=>cases U; cases hu; exact⟨rfl,rfl,rfl,rfl,.inl ⟨rfl,rfl⟩⟩
 | i+5=>simp[dL] at U⟩
theorem FK(v w:Bq):∀u∈ta v w,u.c9.length≤100000:=by intro u U;simp only[ta,List.mem_cons,List.not_mem_nil,or_false] at U;rcases U with rfl|rfl|rfl|rfl|rfl<;>simp
theorem E6{oI:Prim}(h0:t≠[])(hl:t.length≤12000)(hr:EN oI (ta v w)):∃n,∀(pr:Prim) (V:Aq→Option Value),pr 36=some (Ob V)→V #[str t]=some (str t)→(∀f,f∈[17,18,20,21,22,23,41,42]→pr f=none)→∃s9 Lj d k c,Ef (mN prog n 65 ⟨t.toArray⟩ AS.all oI pr) 17 #[str t] (qP v w) (am 64 0) s9∧Ef (mN prog n 65 ⟨t.toArray⟩ AS.all oI pr) 23 #[am 64 0] s9 (.slice (sq d) k c) Lj∧Ef (mN prog n 65 ⟨t.toArray⟩ AS.all oI pr) 22 #[eE 33 5 5,.slice (sq d) k c] Lj (.bool true) Lj∧Lj.get 1=some (.cells cY.toArray 335):=by
 obtain⟨R,hR⟩:∃R:AS,R=⟨((JZ t (qP v w)).set 63 none).hp,66⟩:=⟨_,rfl⟩;have r1:R.get 1=some (.cells cY.toArray 335):=by rw[hR]; kernel_rfl
 have a3:R.get 32=some (.cells #[str [118],str v] 47):=by rw[hR]; kernel_rfl
 have a4:R.get 33=some (.cells (aX (dL 32 w)) 44):=by rw[hR]; kernel_rfl
 have a5:R.get 61=some (nD (.slice (sq 63) 1 1) t.length false):=by rw[hR]; kernel_rfl
 have a6:R.get 64=some (.cells #[aG] 82):=by rw[hR]; kernel_rfl
 have a7:R.nx=66:=by rw[hR]
 obtain⟨U,wv,xs,e1,e2,e3,e4,e5,e6⟩:=hr.run R a7 r1 a6;have Qg:AS.keeps ((JZ t (qP v w)).set 63 none) U=true:=by
  unfold AS.keeps;rw[List.all_eq_true];intro b hb;have hb:b<65:=List.mem_range.1 hb;have hg:((JZ t (qP v w)).set 63 none).get b=R.get b:=by rw[hR]; rfl
  rw[hg];by_cases a1:b=64
  ·rw[a1,e2.2]; simp
  ·rw[e5.2 b (by omega) a1];cases R.get b<;>rfl
 obtain⟨n,hn⟩:=GN (str:=⟨t.toArray⟩) (r0:=65) (c0:=1) (bp:=63) (sS:=AS.all) (oI:=oI) (s:=JZ t (qP v w)) (s1:=U.all) (f:=38) (aJ:=Tryz.f38) (y:=#[am 64 0]) (cs:=#[str t]) (fz:=(1,1)) (rest:=[]) (by kernel_rfl) rfl func38 rfl rfl rfl (by kernel_rfl) rfl (by show 63<65; decide) (by have e1:=e1;rw[hR] at e1;exact EW.mono e1 fun e a s' h=>⟨h.1,by rw[h.2]; exact Qg,by rw[h.2]⟩);have Uw:Has U.all 61 (nD (.slice (sq 63) 1 1) t.length false):=(Has.fr (s:=R) ⟨by omega,a5⟩ e5 (by decide)).all rfl;refine⟨n,fun pr V X4 hV yg=>?_⟩;have yh:∀f,f∈[17,18,20,21,22,23,41,42]→mN prog n 65 ⟨t.toArray⟩ AS.all oI pr f=none:=by intro f hf;unfold mN;rw[if_neg (by simp only[List.mem_cons,List.not_mem_nil,or_false] at hf; rcases hf with rfl|rfl|rfl|rfl|rfl|rfl|rfl|rfl<;>decide)];exact yg f hf
 have a0:∀s,Ef (mN prog n 65 ⟨t.toArray⟩ AS.all oI pr) 36 #[str t] s (str t) s:=by intro s;refine EF.al (V:=V) ?_ hV;unfold mN;rw[if_neg (by decide)];exact X4
 have a2:=hn pr;generalize mN prog n 65 ⟨t.toArray⟩ AS.all oI pr=P2 at *;have pM:=J9 (s:=qP v w) (yh 17 (by simp)) (yh 18 (by simp)) (yh 20 (by simp)) (yh 21 (by simp)) a0 h0 (by omega) a2 Uw;have tj:aQ (fun x=>x=61) U.all (U.all.set 61 (some (nD aG 0 true))):=aQ.set (K:=fun x=>x=61) (aQ.refl _) (fun _=>rfl) _;have Z1:Has (U.all.set 61 (some (nD aG 0 true))) 64 (.cells #[wv] 82):=(e2.all rfl).fr tj (by decide);have g1:Has (U.all.set 61 (some (nD aG 0 true))) 1 (.cells cY.toArray 335):=((Has.fr (s:=R) ⟨by omega,r1⟩ e5 (by decide)).all rfl).fr tj (by decide);have ZZ:Has (U.all.set 61 (some (nD aG 0 true))) 32 (.cells #[str [118],str v] 47):=((Has.fr (s:=R) ⟨by omega,a3⟩ e5 (by decide)).all rfl).fr tj (by decide);have Z0:Has (U.all.set 61 (some (nD aG 0 true))) 33 (.cells (aX (dL 32 w)) 44):=((Has.fr (s:=R) ⟨by omega,a4⟩ e5 (by decide)).all rfl).fr tj (by decide);have gN:qE (U.all.set 61 (some (nD aG 0 true))) wv xs:=by obtain⟨d,c,fz,e,h⟩:=e3.all;exact⟨d,c,fz,e,h.fr tj (h.ne Uw (by decide))⟩
 have gM:gP (U.all.set 61 (some (nD aG 0 true))) xs (ta v w):=e4.all.fk tj fun x cs fz hx=>hx.ne Uw (by decide);obtain⟨Lj,w2,ys,n1,⟨d,c,fz,rfl,hd⟩,n3,n4⟩:=JO (yh 23 (by simp)) (yh 41 (by simp)) (yh 42 (by simp)) Z1 gN gM (FK v w) (by simp[ta]) (by simp[ta]);have k32:=ZZ.fr n4 id;have k33:=Z0.fr n4 id;have QE:=NG (s:=Lj) (va:=eE 33 5 5) (xs:=dL 32 w) (yh 22 (by simp)) ⟨33,5,(0,0),rfl,k33⟩ ⟨d,c,fz,rfl,hd⟩ (I6 k32) n3 (FK v w) (by simp[ta]);exact⟨_,Lj,d,_,c,pM,n1,QE,(g1.fr n4 id).2⟩
theorem Cc(h:(kS v w).get b≠none):EC ((kS v w).get b)∧Ih ((kS v w).get b):=by
 have key:∀cs t fz,(kS v w).get b=some (.cells cs t fz)→t≠5→t≠3→EC ((kS v w).get b)∧Ih ((kS v w).get b):=fun cs t fz e h5 h3=>⟨dg e h5,kJ e h3⟩;by_cases X3:b=33
 ·subst X3; exact key _ 44 (0,0) (show(kS v w).get 33=some (.cells (aX (dL 32 w)) 44) by kernel_rfl) (by decide) (by decide)
 ·by_cases U:b=32
  ·subst U; exact key _ 47 (0,0) (show(kS v w).get 32=some (.cells #[str [118],str v] 47) by kernel_rfl) (by decide) (by decide)
  ·have e:(kS v w).get b=sA.get b:=by unfold kS;rw[AS.aH,if_neg (show ¬b=(sA.add (Obj.cells #[str [118],str v] 47)).nx from X3),AS.aH,if_neg (show ¬b=sA.nx from U)]
   rw[ss] at e;split at e
   ·exact key _ _ _ e (by decide) (by decide)
   ·exact absurd e h
theorem C4{W:World}(hG:W.heap[1]?=some (.cells cY.toArray 335)){q1 q2:Bq}(aa:q1.length≤9223372036854775807)(ae:q2.length≤9223372036854775807) :
  ew prog (ZI prog Post 0) 10 #[str q1,str q2] (fun _=>False) W (fun _ x w'=>x=.bool true∧Ext W w'):=by
 have af:1<W.heap.size:=(Array.getElem?_eq_some_iff.1 hG).1;obtain⟨An,a1,Mh⟩:∃An:bC,An 1=some (1,54,54)∧(∀b,32≤b→An b=none):=by refine⟨fun b=>if b=1 then some (1,54,54) else none,rfl,fun b U=>?_⟩;show(if b=1 then _ else _)=_;rw[if_neg (by omega)]
 obtain⟨n0,a3⟩:=J4 (Post:=Post) (Ex:=fun b=>b=1) (w₀:=W) a1 Mh;have MB:=(mC (pr:=fun _=>none) (s:=sA) (q:=q1) rfl aa).1;have F9:=(mC (pr:=fun _=>none) (s:=sA) (q:=q2) rfl ae).1;obtain⟨l1,H7⟩:∃ls,lj q1 []=ls:=⟨_,rfl⟩;obtain⟨cv,Ye⟩:∃ls,lj q2 []=ls:=⟨_,rfl⟩;rw[H7] at MB;rw[Ye] at F9;obtain⟨cw,Yf⟩:∃cw,cw=if l1=[] then [120] else l1:=⟨_,rfl⟩;have Ic:(dR cw).length≤61∧Pl cw∧cw≠[]∧(if dR l1=[] then [120] else dR l1)=dR cw:=by
  by_cases h:l1=[]
  ·rw[Yf,if_pos h,h];exact⟨by decide,by unfold Pl It; decide,by simp,rfl⟩
  ·have h2:dR l1≠[]:=fun e=>by have:=(q8 l1).1;rw[e] at this;exact h (List.length_eq_zero_iff.1 (by simpa using this))
   rw[Yf,if_neg h,if_neg h2];exact⟨MB.1,MB.2,h,rfl⟩
 obtain⟨lw,aj,a6,hw⟩:=Ic;obtain⟨oI,P9,QB⟩:=GU (cv:=cv) F9.2 aj a6 F9.1 lw;have MI:=rN (v:=dR cv) (w:=dR cw) (by have:=F9.1; omega) (by omega);obtain⟨t,ht⟩:∃t,t=qI (dR cv) (dR cw):=⟨_,rfl⟩;rw[← ht] at P9 MI;have lv:=F9.1;obtain⟨V1,ok1,hV1⟩:=ck.zD qh cz dq cI (k:=32) (m:=1) Mh a3 a3 266;obtain⟨V2,ok2,hV2⟩:=ck.zD qh cz dq cI (k:=32) (m:=1) Mh a3 ok1 267;obtain⟨V3,YU,hV3⟩:=ck.zD qh cz dq cI (k:=32) (m:=1) Mh a3 ok2 36;obtain⟨z1,rW⟩:=Dr (n:=n0) (s:=⟨[],32⟩) (v:=dR cv) (by omega);obtain⟨z2,Jt⟩:=Ds (n:=n0) (s:=⟨[],32⟩) (w:=dR cw) (by omega);obtain⟨z3,Wn⟩:=IK (pr:=gR prog n0) (s:=⟨[],32⟩) (by kernel_rfl) (by kernel_rfl) (l:=t) MI.2 (by omega);have v1:=hV1 _ _ _ rfl rfl rW.1;have v2:=hV2 _ _ _ rfl rfl Jt.1;have v3:=hV3 _ _ _ rfl rfl Wn;have Ut:∀s,Ef (g9 36 V3 (g9 267 V2 (g9 266 V1 (gR prog n0)))) 266 #[str (dR cv)] s (str (iL (dR cv))) s:=fun s=>EF.al (V:=V1) (by kernel_rfl) v1;have Uu:∀s,Ef (g9 36 V3 (g9 267 V2 (g9 266 V1 (gR prog n0)))) 267 #[str (dR cw)] s (str (li (dR cw))) s:=fun s=>EF.al (V:=V2) (by kernel_rfl) v2;have X4:∀s,Ef (g9 36 V3 (g9 267 V2 (g9 266 V1 (gR prog n0)))) 36 #[str t] s (str t) s:=fun s=>EF.al (V:=V3) (by kernel_rfl) v3;have hPV:N9 (g9 36 V3 (g9 267 V2 (g9 266 V1 (gR prog n0)))):=⟨⟨by kernel_rfl,by kernel_rfl,by kernel_rfl,by kernel_rfl,by kernel_rfl,by kernel_rfl,by kernel_rfl⟩,by kernel_rfl,by kernel_rfl,by kernel_rfl,by kernel_rfl,by kernel_rfl⟩;obtain⟨s7,QL,hn7,hk7⟩:=zW (s:=kS (dR cv) (dR cw)) hPV (by kernel_rfl) (by kernel_rfl) (by kernel_rfl) (by kernel_rfl) (v:=dR cv) (w:=dR cw) (by omega) (by omega) Ut Uu (ab:=32) (nb:=33) (c:=5) (fa:=(0,0)) (fz:=(0,0)) (by show 32<34; decide) (by show 33<34; decide) (by kernel_rfl) (by kernel_rfl);obtain⟨n,UO⟩:=E6 (v:=dR cv) (w:=dR cw) MI.2 MI.1 QB;obtain⟨s9,Lj,d,k,c,b1,b2,b3,b4⟩:=UO (g9 36 V3 (g9 267 V2 (g9 266 V1 (gR prog n0)))) V3 (by kernel_rfl) v3 (oD (by kernel_rfl));rw[← ht] at QL;have okT:=Cr (Post:=Post) (Ex:=fun b=>b=1) (w₀:=W) a1 Mh (n:=n) (str:=⟨t.toArray⟩) (r0:=65) (by omega) (sS:=AS.all) Iz (oI:=oI) P9 (by rw[iO,Nat.zero_add]; show t.length≤20000; omega) YU;have Z7:Ef (g9 36 V3 (g9 267 V2 (g9 266 V1 (gR prog n0)))) 15 #[] sA (.bool true) sA:=EF.eval 1 (by kernel_rfl);have X2:=(mC (pr:=(g9 36 V3 (g9 267 V2 (g9 266 V1 (gR prog n0))))) (s:=sA) (q:=q1) (by kernel_rfl) aa).2;have PD:=(mC (pr:=(g9 36 V3 (g9 267 V2 (g9 266 V1 (gR prog n0))))) (s:=sA) (q:=q2) (by kernel_rfl) ae).2;rw[H7] at X2;rw[Ye] at PD;have MA:=JA (Post:=Post) (Ex:=fun b=>b=1) (w₀:=W) YU okT Mh Z7 X2 PD hw ⟨s7,QL,fun b U vG=>hk7 b U (Cc vG).1 (Cc vG).2⟩ fun x=>Hy (v:=dR cv) (w:=dR cw) b1 b2 b3 b4 x;have hold:∀b,b<W.heap.size→b≠1→∀j l w,Bl (fun b=>b=1) W j l w→ut j.1 w b∧w.heap[b]?=W.heap[b]?:=by intro b U my j l w hF;have hm:ut j.1 W b:=⟨U,fun hj=>by have:=hF.1.2 b hj; omega⟩;exact⟨hF.2.kept.mine b hm,hF.2.kept.block b hm my⟩
 obtain⟨cd,a7⟩:∃c,Tryz.f10.body=some c:=⟨_,rfl⟩;have MA:=MA cd (by rw[a7]);have UI:eK prog eS An An sA [(1,.cells cY.toArray 335)]:=by
  refine⟨fun b o U=>?_,fun b b' o o' x x' U a5 _ _ _=>?_,fun b o U=>?_,bC.le_refl An⟩
  ·rw[ss] at U;split at U
   ·next e =>
    subst e;cases U;refine⟨1,54,54,_,a1,by simp,⟨cY.toArray,rfl,mm,⟨by rw[mm]; exact Nat.le_refl _,fun _=>mm⟩,fun i x y hx hy=>?_⟩,fun cs t fz h=>?_⟩
    ·rw[hx] at hy;cases hy
     have:=vw;rw[List.all_eq_true] at this;exact VR.dr (this x (by simpa using Array.mem_of_getElem? hx))
    ·cases h;exact⟨G5,dq 335 rfl⟩
   ·cases U
  ·rw[ss] at U a5;split at U
   ·next e =>
    split at a5
    ·next e'=>rw[e,e']
    ·cases a5
   ·cases U
  ·rw[ss] at U;split at U
   ·next e=>subst e; decide
   ·cases U
 have ag:Bl (fun b=>b=1) W ((fun _=>False),W.heap.size) ([(1,.cells cY.toArray 335)]++[]) W:=by refine⟨⟨fun b h=>h.elim,fun b h=>h.elim⟩,Kept.refl W,Nat.le_refl _,fun b o hm=>?_,by simp⟩;simp only[List.append_nil,List.mem_singleton,Prod.mk.injEq] at hm;obtain⟨rfl,rfl⟩:=hm;exact⟨⟨af,fun h=>h⟩,hG,.inl rfl⟩
 refine⟨Tryz.f10,cd,func10,by rfl,a7,?_⟩;intro b k cs U hk hc;have uj:AR (VR An) (([str q1,str q2]++List.replicate 48 undef:Vq)).toArray (#[str q1,str q2]++Array.replicate (Tryz.f10.ntmps-(#[str q1,str q2]:Aq).size) undef):=by
  have e:(([str q1,str q2]++List.replicate 48 undef:Vq)).toArray=#[str q1,str q2]++Array.replicate 48 undef:=by apply Array.toList_inj.1;kernel_rfl
  rw[e];refine AR.append ⟨rfl,fun i x y hx hy=>?_⟩ (AR.replicate 48 VR.undef);match i with
  | 0=>cases hx; cases hy; exact VR.dr rfl
  | 1=>cases hx; cases hy; exact VR.dr rfl
  | i+2=>simp at hx
 have a9:∀(e:Exit) (a0:TL) (s':AS) (j:Zx) (S':bC) (l':Hq) (w':World) (a':Act),(e=.ret∧a0.getD 4 undef=.bool true∧s'.get 1=some (.cells cY.toArray 335))→eK prog eS An S' s' l'→Bl (fun b=>b=1) W j (l'++[]) w'→AR (VR S') a0.toArray a'.tmps→a'.defers=[]→(∀b,s'.nx≤b→S' b=none)→(e=.normal∨e=.ret)∧a'.defers=[]∧∃v,ResultsC prog Tryz.f10 a'.tmps v∧v=.bool true∧Ext W w':=?_
 ·generalize a4:(⟨#[str q1,str q2]++Array.replicate (Tryz.f10.ntmps-(#[str q1,str q2]:Aq).size) undef,[]⟩:Act)=act;have a2:AR (VR An) (([str q1,str q2]++List.replicate 48 undef:Vq)).toArray act.tmps:=by rw[← a4]; exact uj
  have a8:act.defers=[]:=by rw[← a4]
  have ai:=MA 10 An [(1,.cells cY.toArray 335)] [] ((fun _=>False),W.heap.size) W act (fun j e a' w'=>(e=.normal∨e=.ret)∧a'.defers=[]∧∃v,ResultsC prog Tryz.f10 a'.tmps v∧v=.bool true∧Ext W w') UI ag a2 a8 Mh a9;refine ai b k cs U hk ?_;intro j e a' w' hQ
  have:=hc j.1 e a' w' hQ;cases e<;>exact this
 ·rintro e a0 s' j S' l' w' a' ⟨rfl,h6,ah⟩ q3 q4 q5 q6 q7;refine⟨.inr rfl,q6,_,resultsC_tmp (by rfl) _,?_,?_⟩
  ·have:=lJ q5 4;rw[show a0.toArray.toList.getD 4 undef=.bool true from h6] at this;exact this.sc rfl
  ·rw[List.append_nil] at q4;refine⟨q4.2.kept.tape,q4.2.kept.os,q4.2.kept.output,q4.2.kept.grow,fun b U=>?_⟩;by_cases my:b=1
   ·subst my;obtain⟨g,z,e,o',r1,r2,r3,_⟩:=q3.live 1 _ ah;rw[q3.an _ _ a1] at r1;cases r1;obtain⟨gU,rfl,t1,_,t3⟩:=r3;have sO:gU=cY.toArray:=by refine AR.sc (S:=S') ⟨by rw[mm,t1],t3⟩ ?_;exact vw
    subst sO;rw[(q4.2.own 1 _ r2).2.1,hG]
   ·exact(hold b U my j _ w' q4).2
end
end Go.Proofs.YtgcaionclkbehaaGreatDoor
