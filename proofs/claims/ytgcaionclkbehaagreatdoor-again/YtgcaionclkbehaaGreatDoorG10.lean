import Derived.Test.YtgcaionclkbehaaGreatDoorG9
set_option linter.all false
set_option maxHeartbeats 4000000
set_option maxRecDepth 100000
namespace Go.Proofs.YtgcaionclkbehaaGreatDoor
section
open Go.Conc Go.RowKit Go.Lib Tryz
variable {b cp i k m m' n off pb x:Nat}{at_ v:Value}{l:List Nat}{args cs:Aq}{t ty:TypeId}{fz:Nat × Nat}{K K':Nat→Prop}{d:TypeDesc}{P:Program}{kt:TypeId→Bool}{kd pa:Int}{ti tx wh:Bq}{aI:jd}{s:AS}
def mT:List (Bq):=[[98,97,115,101],[108,105,110,107],[109,101,116,97],[115,99,114,105,112,116],[115,116,121,108,101],[116,105,116,108,101]]
def bO:List (Bq):=[[98,111,100,121],[99,97,112,116,105,111,110],[104,116,109,108],[116,97,98,108,101],[116,100],[116,104]]
def ml:List (Bq):=[[97,100,100,114,101,115,115],[97,114,116,105,99,108,101],[97,115,105,100,101],[98,108,111,99,107,113,117,111,116,101],[99,101,110,116,101,114],[100,101,116,97,105,108,115],[100,105,97,108,111,103],[100,105,114],[100,105,118],[100,108],[102,105,101,108,100,115,101,116],[102,105,103,99,97,112,116,105,111,110],[102,105,103,117,114,101],[102,111,111,116,101,114],[102,111,114,109],[104,49],[104,50],[104,51],[104,52],[104,53],[104,54],[104,101,97,100,101,114],[104,103,114,111,117,112],[109,97,105,110],[109,101,110,117],[110,97,118],[111,108],[112],[112,114,101],[115,101,99,116,105,111,110],[115,117,109,109,97,114,121],[116,97,98,108,101],[117,108]]
def br:List (Bq):=[[104,49],[104,50],[104,51],[104,52],[104,53],[104,54]]
def dy:List (Bq):=[[97],[98],[98,105,103],[99,111,100,101],[101,109],[102,111,110,116],[105],[110,111,98,114],[115],[115,109,97,108,108],[115,116,114,105,107,101],[115,116,114,111,110,103],[116,116],[117]]
def eT:List (Bq):=[[97,114,101,97],[98,97,115,101],[98,114],[99,111,108],[101,109,98,101,100],[104,114],[105,109,103],[105,110,112,117,116],[108,105,110,107],[109,101,116,97],[115,111,117,114,99,101],[116,114,97,99,107],[119,98,114]]
def bI:List (Bq):=[[99,97,112,116,105,111,110],[116,97,98,108,101],[116,98,111,100,121],[116,100],[116,102,111,111,116],[116,104],[116,104,101,97,100],[116,114]]
def gV:List (Bq):=[[115,99,114,105,112,116],[115,116,121,108,101],[116,101,120,116,97,114,101,97],[116,105,116,108,101]]
section
variable {pr:Prim}{s:AS}
def Ei(h:pr 124=none):Ef pr 124 #[] s (.slice (sq s.nx) 6 6) (s.add (.cells (mT.map str).toArray 9)):=by
 refine EF.of h func124 rfl ?_;iterate 2 refine zs ?_
 exact yR
def mU(h:pr 131=none):Ef pr 131 #[] s (.slice (sq s.nx) 6 6) (s.add (.cells (bO.map str).toArray 9)):=by
 refine EF.of h func131 rfl ?_;iterate 2 refine zs ?_
 exact yR
def AX(h:pr 133=none):Ef pr 133 #[] s (.slice (sq s.nx) 33 33) (s.add (.cells (ml.map str).toArray 9)):=by
 refine EF.of h func133 rfl ?_;iterate 2 refine zs ?_
 exact yR
def iV(h:pr 134=none):Ef pr 134 #[] s (.slice (sq s.nx) 6 6) (s.add (.cells (br.map str).toArray 9)):=by
 refine EF.of h func134 rfl ?_;iterate 2 refine zs ?_
 exact yR
def u0(h:pr 137=none):Ef pr 137 #[] s (.slice (sq s.nx) 14 14) (s.add (.cells (dy.map str).toArray 9)):=by
 refine EF.of h func137 rfl ?_;iterate 2 refine zs ?_
 exact yR
def yP(h:pr 138=none):Ef pr 138 #[] s (.slice (sq s.nx) 13 13) (s.add (.cells (eT.map str).toArray 9)):=by
 refine EF.of h func138 rfl ?_;iterate 2 refine zs ?_
 exact yR
def sX(h:pr 142=none):Ef pr 142 #[] s (.slice (sq s.nx) 8 8) (s.add (.cells (bI.map str).toArray 9)):=by
 refine EF.of h func142 rfl ?_;iterate 2 refine zs ?_
 exact yR
def u1(h:pr 314=none):Ef pr 314 #[] s (.slice (sq s.nx) 4 4) (s.add (.cells (gV.map str).toArray 9)):=by
 refine EF.of h func314 rfl ?_;iterate 2 refine zs ?_
 exact yR
end
structure Nd where
 kind:Int
 parent:Int
 name:Bq
 text:Bq
 bU:jd
def QX (s:AS)(x:bv)(u:Nd):Prop:=x.kind=u.kind∧x.parent=u.parent∧x.name=u.name∧x.text=u.text∧bY s x.bU u.bU
def eu (s:AS)(xs:List bv)(us:List Nd):Prop:=xs.length=us.length∧∀(i:Nat) (x:bv) (u:Nd),xs[i]?=some x→us[i]?=some u→QX s x u
def lq (s:AS)(v:Value)(xs:List bv):Prop:=∃d c fz,v=.slice (some ⟨d,0,none⟩) xs.length c∧Has s d (.cells (bC xs) 44 fz)
structure TS where
 nodes:List Nd
 row:List Nat
 again:List Nat
 w:Int
abbrev dB(f:FuncId):Value:=.func (.func 66) #[.func (.func f) #[] #[]] #[]
abbrev oD(nv rv av:Value)(w:Int):Obj:=.cells #[nv,rv,av,num w,dB 65,dB 67,dB 68,dB 69] 183
structure BT(s:AS)(b:Nat)(nv rv av:Value)(xs:List bv)(σ:TS):Prop where
 b:Has s b (oD nv rv av σ.w)
 n:lq s nv xs
 m:eu s xs σ.nodes
 r:cR s rv σ.row
 a:cR s av σ.again
 ra:∀x,blk rv x→¬blk av x
 lt:∀k∈σ.row,k<σ.nodes.length
 la:∀k∈σ.again,k<σ.nodes.length
 ne:σ.row≠[]
 sz:σ.nodes.length≤100000∧σ.row.length≤40∧σ.again.length≤100000
def KB (b:Nat)(s:AS)(x:Nat):Prop:=x=b∨∃nv rv av w,s.get b=some (oD nv rv av w)∧(blk nv x∨blk rv x∨blk av x)
def dA (b:Nat)(s s':AS):Prop:=aP (KB b s) s s'∧∀x,x<s.nx→KB b s' x→KB b s x
section
variable {s s' s1 s2:AS}{b:Nat}{nv rv av PY xw xq:Value}{w w':Int}{xs:List bv}{σ:TS}
def dA.refl(s:AS):dA b s s:=⟨aP.refl s,fun _ _ h=>h⟩
def dA.trans(h:dA b s s1)(U:dA b s1 s2):dA b s s2:=by have c:=h.1.1;exact⟨h.1.trans U.1 fun x a z=>h.2 x a z,fun x a z=>h.2 x a (U.2 x oq z)⟩
def KB.at(h:s.get b=some (oD nv rv av w)):KB b s x↔x=b∨blk nv x∨blk rv x∨blk av x:=by
 constructor
 ·rintro(z|⟨_,_,_,_,z,y⟩)
  ·exact .inl z
  ·rw[h] at z;cases z;exact .inr y
 ·rintro(z|z)
  ·exact .inl z
  ·exact .inr ⟨_,_,_,_,h,z⟩
def dA.mk'(h1:Has s b (oD nv rv av w))(h2:Has s' b (oD PY xw xq w'))(d:aP (KB b s) s s')(c:PY=nv∨∀x,blk PY x→s.nx≤x)(a:(∀x,blk xw x→blk rv x)∨∀x,blk xw x→s.nx≤x)(U:(∀x,blk xq x→blk av x)∨∀x,blk xq x→s.nx≤x):dA b s s':=by
 refine⟨d,fun x e z=>(KB.at h1.2).2 ?_⟩;rcases(KB.at h2.2).1 z with z|z|z|z
 ·exact .inl z
 ·rcases c with rfl|c
  ·exact .inr (.inl z)
  ·have:=c x z;omega
 ·rcases a with a|a
  ·exact .inr (.inr (.inl (a x z)))
  ·have:=a x z;omega
 ·rcases U with U|U
  ·exact i3 (U x z)
  ·have:=U x z;omega
def cR.blk(h:cR s v l)(U:YtgcaionclkbehaaGreatDoor.blk v x):∃a b,Has s x (.cells a 3 b):=by
 rcases h with ⟨rfl,_⟩|⟨d,cp,a,b,rfl,_,h1,h2,_⟩
 ·exact(cz U).elim
 ·rw[cY U];exact⟨_,_,h1,h2⟩
def lq.blk(h:lq s nv xs)(U:YtgcaionclkbehaaGreatDoor.blk nv x):∃b a,Has s x (.cells b 44 a):=by obtain⟨d,c,a,rfl,h⟩:=h;rw[cY U];exact⟨_,_,h⟩
def BT.no(h:BT s b nv rv av xs σ)(U:Has s x (.cells cs t fz))(h1:t≠183)(h2:t≠44)(h3:t≠3):¬KB b s x:=by
 intro z;rcases(KB.at h.b.2).1 z with z|z|z|z
 ·exact U.ne h.b h1 z
 ·have⟨_,_,z⟩:=h.n.blk z;exact U.ne z h2 rfl
 ·have⟨_,_,z⟩:=h.r.blk z;exact U.ne z h3 rfl
 ·have⟨_,_,z⟩:=h.a.blk z;exact U.ne z h3 rfl
def cR.fk(h:cR s v l)(a:aP K s s')(b:∀x,YtgcaionclkbehaaGreatDoor.blk v x→¬K x):cR s' v l:=by
 rcases h with h|⟨d,cp,cs,fz,rfl,U,h1,h2,h3⟩
 ·exact .inl h
 ·have:=Has.fr ⟨h1,h2⟩ a (b d (eR _ _ _));exact .inr ⟨d,cp,cs,fz,rfl,U,this.1,this.2,h3⟩
def lq.fk(h:lq s nv xs)(U:aP K s s')(b:∀x,YtgcaionclkbehaaGreatDoor.blk nv x→¬K x):lq s' nv xs:=by obtain⟨d,c,a,rfl,h⟩:=h;exact⟨d,c,a,rfl,h.fr U (b d (eR _ _ _))⟩
def eu.fk{us:List Nd}(h:eu s xs us)(g:aP K s s')(j:∀x c b,Has s x (.cells c 47 b)→¬K x):eu s' xs us:=⟨h.1,fun i x u l k=>by
 have⟨h1,h2,h3,f,U⟩:=h.2 i x u l k;refine⟨h1,h2,h3,f,U.fk g fun y a=>?_⟩;rcases U with ⟨e,_⟩|⟨d,cp,b,e,q1,q2⟩
 ·rw[e] at a;exact(cz a).elim
 ·rw[e] at a;rw[cY a];exact j d _ _ ⟨q1,q2⟩⟩
def BT.fk(h:BT s b nv rv av xs σ)(U:aP K s s')(f:∀x d t e,Has s x (.cells d t e)→K x→t≠183∧t≠44∧t≠3∧t≠47):BT s' b nv rv av xs σ:=by
 have g:∀x d e,Has s x (.cells d 47 e)→¬K x:=fun x d e c z=>(f x d 47 e c z).2.2.2 rfl;refine⟨h.b.fr U fun z=>(f _ _ _ _ h.b z).1 rfl,h.n.fk U fun x c z=>?_,h.m.fk U g,h.r.fk U fun x c z=>?_,h.a.fk U fun x c z=>?_,h.ra,h.lt,h.la,h.ne,h.sz⟩
 ·have⟨_,_,y⟩:=h.n.blk c;exact(f _ _ _ _ y z).2.1 rfl
 ·have⟨_,_,y⟩:=h.r.blk c;exact(f _ _ _ _ y z).2.2.1 rfl
 ·have⟨_,_,y⟩:=h.a.blk c;exact(f _ _ _ _ y z).2.2.1 rfl
def BT.add(h:BT s b nv rv av xs σ)(o:Obj):BT (s.add o) b nv rv av xs σ:=h.fk ((aP.refl (K:=fun _=>False) s).add o) fun _ _ _ _ _ z=>z.elim
def dA.add(h:BT s b nv rv av xs σ)(o:Obj):dA b s (s.add o):=dA.mk' h.b (h.b.add o) ((aP.refl s).add o) (.inl rfl) (.inl fun _ z=>z) (.inl fun _ z=>z)
def cR.len(h:cR s v l):∃b a,v=.slice b l.length a:=by
 rcases h with ⟨rfl,rfl⟩|⟨d,a,cs,fz,rfl,U,h1,h2,h3⟩
 ·exact⟨none,0,rfl⟩
 ·exact⟨_,_,rfl⟩
variable {pr:Prim}
def TF{a b c d:Option Value × Value}(e:a.1=some a.2∧bu 20 a.2=true)(f:b.1=some b.2∧bu 20 b.2=true)(g:c.1=some c.2∧bu 20 c.2=true)(h:d.1=some d.2∧bu 20 d.2=true):∀x∈[a,b,c,d],x.1=some x.2∧bu 20 x.2=true:=by
 intro x U;simp only[List.mem_cons,List.not_mem_nil,or_false] at U;rcases U with rfl|rfl|rfl|rfl
 ·exact e
 ·exact f
 ·exact g
 ·exact h
def uJ(U:pr 232=none)(h:BT s b nv rv av xs σ):Ef pr 232 #[am b 0] s (num ((σ.row.length:Nat)-1:Int)) s:=by have⟨c,d,f⟩:=h.r.len;have a:=h.b;have e:=h.sz.2.1;rw[f] at a;refine EF.of U func232 rfl ?_;refine zs (zr (zg 3 s (zp (yl b 1 (.slice c σ.row.length d) a.2) (zk 1 (zp (fQ (i:=((σ.row.length:Nat):Int)) (j:=1) (r:=((σ.row.length:Nat):Int)-1) rfl kq kq rfl oq) (zf ?_))))));exact yR
def BT.node(h:BT s b nv rv av xs σ){u:Nd}(U:σ.nodes[k]?=some u):∃d c e x,nv=.slice (sq d) σ.nodes.length c∧Has s d (.cells (bC xs) 44 e)∧xs[k]?=some x∧QX s x u∧k<σ.nodes.length:=by
 have⟨d,c,e,j,i⟩:=h.n;have a:k<σ.nodes.length:=(gS.1 U).1;have f:k<xs.length:=by rw[h.m.1];exact a
 have g:xs[k]?=some xs[k]:=gE f;exact⟨d,c,e,xs[k],by rw[j,h.m.1],i,g,h.m.2 k _ _ g U,a⟩
def cR.at(h:cR s v l)(e:l[i]?=some k):∃d c a b,v=.slice (sq d) l.length c∧l.length≤c∧Has s d (.cells a 3 b)∧a[i]?=some (num (k:Nat))∧i<l.length:=by
 have U:i<l.length:=(gS.1 e).1;rcases h with ⟨_,rfl⟩|⟨d,cp,a,b,rfl,h0,h1,h2,h3⟩
 ·simp at U
 ·exact⟨d,cp,a,b,rfl,h0,⟨h1,h2⟩,h3 i k e,U⟩
def G2(U:pr 231=none)(h:BT s b nv rv av xs σ){u:Nd}(p:σ.row[i]?=some k)(w:σ.nodes[k]?=some u):Ef pr 231 #[am b 0,num (i:Nat)] s (str u.name) s:=by
 have⟨f,l,I,x,o,n,A,y,E⟩:=h.node w;have⟨e,m,F,J,j,z,d,c,q⟩:=h.r.at p;have a:=h.b;rw[o,j] at a;have g:(bC xs)[k*5+2]?=some (str u.name):=by rw[ei A 2 dq,← y.2.2.1];rfl
 have B:=bL (P:=prog) (t:=38) underlying38 rfl a.2 (off:=0) rfl;have C:=bL (P:=prog) (t:=25) underlying25 rfl a.2 (off:=1) rfl;have D:=bL (P:=prog) (t:=3) underlying3 rfl d.2 c;generalize G:σ.nodes.length=N at *;generalize H:σ.row.length=R at *;refine EF.of U func231 rfl ?_;refine zs (EW.seq (EW.draw kq kq kq ?_));iterate 3 refine zq ?_
 refine zt s (zu (yl b 0 (.slice (sq f) N l) a.2) ?_);iterate 3 refine zq ?_
 refine zt s (zu (yl b 1 (.slice (sq e) R m) a.2) (zq (zu (yi e 0 R m i none .i64 (i:Nat) 1 oq oq oq) (zt s (zu (bP (b:=e) (off:=i) (v:=num (k:Nat)) rfl underlying3 rfl kq d.2 c) (zu (yi f 0 N l (k*5) none .i64 (k:Nat) 5 oq oq oq) (zq (zt s (zu (bP (b:=f) (off:=k*5+2) (v:=str u.name) rfl underlying9 rfl kq n.2 g) (zq (ET.nil ⟨aK [(aC prog 38 (am b 0) s,.slice (sq f) N l),(aC prog 25 (am b 1) s,.slice (sq e) R m),(aC prog 3 (am e i) s,num (k:Nat))] kq (uh ⟨B,rfl⟩ ⟨C,rfl⟩ ⟨D,rfl⟩),_,_,_,_,_,_,rfl,rfl,?_⟩)))))))))));exact yR
end
def nameAt(σ:TS)(i:Nat):Bq:=match σ.row[i]? with
 | some k=>match σ.nodes[k]? with
  | some u=>u.name
  | none=>[]
 | none=>[]
def lw(σ:TS)(l:List (Bq)):Nat→Int
 | 0 => -1
 | n+1=>if bX (nameAt σ n) l then ((n:Nat):Int) else lw σ l n
def fS(σ:TS)(l:List (Bq)):Int:=lw σ l σ.row.length
def eM(σ:TS)(b a:List (Bq)):Int:=if fS σ a<fS σ b then -1 else fS σ a
def sP(σ:TS)(l:List (Bq)):∀n,-1≤lw σ l n∧lw σ l n<n
 | 0=>by simp[lw]
 | n+1=>by have:=sP σ l n;unfold lw;split<;>omega
def sO(σ:TS)(l:List (Bq)) : -1≤fS σ l∧fS σ l<σ.row.length:=sP σ l _
def dF (s:AS)(v:Value)(l:List (Bq)):Prop:=l.length≤1000∧∃d c fz,v=.slice (some ⟨d,0,none⟩) l.length c∧Has s d (.cells (l.map str).toArray 9 fz)
def H9(b:Nat)(v:Value)(at_:Int)(x:Nq):TL:=[am b 0,v,x 2,x 3,num 0,num at_]++iy x 6 12
section
variable {s s':AS}{b:Nat}{nv rv av v v2:Value}{xs:List bv}{σ:TS}{pr:Prim}{l l2:List (Bq)}
def dF.fk(h:dF s v l)(e:aP K s s')(f:∀x b a,Has s x (.cells b 9 a)→¬K x):dF s' v l:=by obtain⟨U,d,c,a,rfl,h1⟩:=h;exact⟨U,d,c,a,rfl,h1.fr e (f d _ _ h1)⟩
def dF.add(h:dF s v l)(o:Obj):dF (s.add o) v l:=h.fk ((aP.refl (K:=fun _=>False) s).add o) fun _ _ _ _=>id
def dF.is(h:dF s v l)(U:pr 127=bB 127)(nm:Bq):Ef pr 127 #[str nm,v] s (.bool (bX nm l)) s:=by obtain⟨a,d,c,b,rfl,h1⟩:=h;exact nW U h1.2 a rfl
def BT.name(h:BT s b nv rv av xs σ)(U:pr 231=none)(c:i<σ.row.length):Ef pr 231 #[am b 0,num (i:Nat)] s (str (nameAt σ i)) s:=by
 have d:σ.row[i]?=some σ.row[i]:=gE c;have a:=h.lt _ (List.getElem_mem c);have e:σ.nodes[σ.row[i]]?=some σ.nodes[σ.row[i]]:=gE a
 have:=G2 U h d e;unfold nameAt;rw[d];simp only;rw[e];exact this
def wI(p:pr 222=none)(q:pr 231=none)(t:pr 232=none)(o:pr 127=bB 127)(h:BT s b nv rv av xs σ)(y:dF s v l):Ef pr 222 #[am b 0,v] s (num (fS σ l)) s:=by
 have z:=uJ t h;have B:=h.sz;have k:=fun i A=>h.name (pr:=pr) q (i:=i) A;have g:=fun n=>y.is (pr:=pr) o n;generalize w:σ.row.length=R at *;suffices hx:Ew pr (match Tryz.f222.body with|some c=>c|none=>.skip) ((#[am b 0,v]:Aq).toList++List.replicate (Tryz.f222.ntmps-(#[am b 0,v]:Aq).toList.length) undef) s (fun e U f=>(e=.normal∨e=.ret)∧du prog Tryz.f222 U f=some (num (fS σ l))∧f=s) from EF.of p func222 rfl hx
 refine zs (EW.seq (zr (zc 1 z (zf (za s ?_)))));refine EW.fill (H9 b v (((R:Nat):Int)-1)) kq ?_;intro C;refine EW.block ?_;refine EW.mono (EW.dS (Q:=fun e U f=>(e=.exit 0∧f=s∧fS σ l = -1∧∃x,U=H9 b v (-1) x)∨(e=.ret∧f=s∧du prog Tryz.f222 U f=some (num (fS σ l)))) (fun m U d=>m≤R∧d=s∧fS σ l=lw σ l m∧∃x,U=H9 b v (((m:Nat):Int)-1) x) ?_ R _ _ ⟨lr,rfl,by unfold fS;rw[w],C,rfl⟩) ?_
 ·rintro m U d ⟨D,rfl,a,x,rfl⟩;cases m with
  | zero =>refine EW.seq (zr ?_);refine zf (za d (zG (EW.exit ?_)));exact .inl ⟨rfl,rfl,a,aN kq⟩
  | succ m =>
   have h1:=k m oq;have h2:=g (nameAt σ m);unfold lw at a;generalize nameAt σ m=n at h1 h2 a;rw[show((m+1:Nat):Int)-1=((m:Nat):Int) by omega];generalize bX n l=u at h2 a;refine EW.seq (zr (zk 1 (zp (yb (num (m:Nat)) (num 0) (iQ (b:=true) (tD oq))) (EO.nil (za d (zT (EW.seq (EW.block (zr (zc 2 h1 (zc 1 h2 (EO.nil (za d ?_)))))))))))));cases u with
   | true =>rw[ip rfl] at a;rw[a];refine zH (zs ?_);exact EW.ret (.inr ⟨rfl,kq,kq⟩)
   | false =>rw[iw dq] at a;refine zF (zx (zk 1 (zp (fQ (i:=((m:Nat):Int)) (j:=1) (r:=((m:Nat):Int)-1) rfl kq kq rfl oq) (zf ?_))));exact⟨m,Nat.lt_succ_self m,oq,kq,a,aN kq⟩
 ·rintro e U d (⟨rfl,rfl,h1,x,rfl⟩|⟨rfl,rfl,h1⟩)
  ·rw[h1];refine zs ?_;exact yR
  ·exact⟨.inr rfl,h1,rfl⟩
def xR(g:pr 235=none)(d:pr 222=none)(e:pr 231=none)(f:pr 232=none)(U:pr 127=bB 127)(h:BT s b nv rv av xs σ)(j:dF s v l)(i:dF s v2 l2):Ef pr 235 #[am b 0,v,v2] s (num (eM σ l l2)) s:=by
 have h1:=wI d e f U h i;have h2:=wI d e f U h j;unfold eM
 have:=sO σ l;generalize fS σ l2=i2 at *;generalize fS σ l=c at *;refine EF.of g func235 rfl ?_;refine zs (zr (zc 2 h1 (zf (za s (EW.seq (zr (zc 3 h2 ?_)))))));by_cases a:i2<c
 ·rw[ip a];refine zp (yb (num i2) (num c) (aX (b:=true) (tD a))) (EO.nil (za s (zH (zs ?_))));exact EW.ret ⟨.inr rfl,kq,kq⟩
 ·rw[iw a];refine zp (yb (num i2) (num c) (aX (b:=false) (fD a))) (EO.nil (za s (zF (zs ?_))));exact EW.ret ⟨.inr rfl,kq,kq⟩
def dF.new(s:AS)(l:List (Bq))(n:Nat)(U:n=l.length)(h:l.length≤1000):dF (s.add (.cells (l.map str).toArray 9)) (.slice (sq s.nx) n n) l:=⟨h,s.nx,n,(0,0),by rw[U],Has.new s _⟩
def G3(g:pr 243=none)(a:pr 131=none)(f:pr 235=none)(c:pr 222=none)(d:pr 231=none)(e:pr 232=none)(U:pr 127=bB 127)(h:BT s b nv rv av xs σ)(j:dF s v l):Ef pr 243 #[am b 0,v] s (num (eM σ bO l)) (s.add (.cells (bO.map str).toArray 9)):=by have h1:=mU (s:=s) a;have h2:=xR f c d e U (h.add (.cells (bO.map str).toArray 9)) (dF.new s bO 6 rfl dq) (j.add _);generalize eM σ bO l=i at *;refine EF.of g func243 rfl ?_;refine zs (zr (zc 1 h1 (zc 1 h2 (zf ?_))));exact yR
def AJ(U:pr 127=bB 127)(p:pr 319=none)(o:pr 142=none)(h:BT s b nv rv av xs σ){u:Nd}(r:σ.nodes[k]?=some u):Ef pr 319 #[am b 0,num (k:Nat)] s (.bool (bX u.name bI)) (s.add (.cells (bI.map str).toArray 9)):=by
 have h2:=h.add (.cells (bI.map str).toArray 9);have⟨f,j,F,x,m,a,z,y,w⟩:=h.node r;have l:=h.b;have g:=h2.b;have i:=a.add (.cells (bI.map str).toArray 9);rw[m] at l g;have e:(bC xs)[k*5+2]?=some (str u.name):=by rw[ei z 2 dq,← y.2.2.1];rfl
 have A:=bL (P:=prog) (t:=38) underlying38 rfl l.2 (off:=0) rfl;have B:=bL (P:=prog) (t:=38) underlying38 rfl g.2 (off:=0) rfl;have C:=bL (P:=prog) (t:=9) underlying9 rfl a.2 e;have D:=bL (P:=prog) (t:=9) underlying9 rfl i.2 e;have q:=sX (s:=s) o;have n:=nW (pr:=pr) (s:=s.add (.cells (bI.map str).toArray 9)) U (nm:=u.name) (lJ:=bI) (d:=s.nx) (c:=8) (Has.new s _).2 dq (bb:=bX u.name bI) rfl;generalize bX u.name bI=bb at n ⊢;generalize s.add (.cells (bI.map str).toArray 9)=S at *;generalize E:σ.nodes.length=N at *;refine EF.of p func319 rfl ?_;refine zs (EW.seq (EW.draw kq kq kq ?_));iterate 3 refine zq ?_
 refine zt s (zu (yl b 0 (.slice (sq f) N j) l.2) (zq (zu (yi f 0 N j (k*5) none .i64 (k:Nat) 5 oq oq oq) (zq (zt s (zu (bP (b:=f) (off:=k*5+2) (v:=str u.name) rfl underlying9 rfl kq a.2 e) (yt q (yt n (zq (ET.nil ⟨aK [(aC prog 38 (am b 0) s,.slice (sq f) N j),(aC prog 38 (am b 0) S,.slice (sq f) N j),(aC prog 9 (am f (k*5+2)) s,str u.name),(aC prog 9 (am f (k*5+2)) S,str u.name)] kq (TF ⟨A,rfl⟩ ⟨B,rfl⟩ ⟨C,rfl⟩ ⟨D,rfl⟩),_,_,_,_,_,_,rfl,rfl,?_⟩))))))))));exact yR
end
def BX (s:AS)(b:Nat)(σ:TS):Prop:=∃nv rv av xs,BT s b nv rv av xs σ
def TS.cur(σ:TS):Nat:=σ.row.getLastD 0
def TS.put(σ:TS)(u:Nd):TS:=⟨σ.nodes++[⟨u.kind,((σ.cur:Nat):Int),u.name,u.text,u.bU⟩],σ.row,σ.again,σ.w⟩
def TS.open_(σ:TS)(nm:Bq)(aI:jd):TS:=⟨(σ.put ⟨1,0,nm,[],aI⟩).nodes,if σ.row.length<40 then σ.row++[σ.nodes.length] else σ.row,σ.again,σ.w⟩
section
variable {s s':AS}{b:Nat}{nv rv av v v2:Value}{xs:List bv}{σ:TS}{pr:Prim}
def aP.mono(h:aP K s s')(a:∀y,y<s.nx→K y→K' y):aP K' s s':=⟨h.1,fun y U b=>h.2 y U fun z=>b (a y U z)⟩
def TS.sr(h:σ.row≠[]):σ.row[σ.row.length-1]?=some σ.cur:=by
 unfold TS.cur;rw[List.getLastD_eq_getLast?,← List.getLast?_eq_getElem?];cases U:σ.row.getLast? with
 | none=>exact absurd (List.getLast?_eq_none_iff.1 U) h
 | some k=>rfl
def jv(xs:List bv):(bC xs).size=xs.length*5:=by
 induction xs with
 | nil=>rfl
 | cons t a U=>simp[bv.cells] at U ⊢;omega
def AY(xs:List bv)(x:bv):((bC xs).toList.take (xs.length*5)++x.cells).toArray=bC (xs++[x]):=by rw[tL (by rw[Array.length_toList,jv];exact lr)];simp
def lq.lt(h:lq s nv xs):∀x,YtgcaionclkbehaaGreatDoor.blk nv x→x<s.nx:=fun x U=>by have⟨_,_,z⟩:=lq.blk h U;exact z.1
def LN(h:lq s nv xs)(x:bv)(U:xs.length≤1000000):∃w a,bn prog 44 nv x.cells 1 s=some (w,a)∧w.cells=#[w]∧w.oneCell'=true∧lq a w (xs++[x])∧aP (fun y=>blk nv y) s a∧∀y,blk w y→s.nx≤y:=by obtain⟨d,c,g,rfl,e⟩:=h;have f:=jv xs;refine⟨_,_,fM (sz:=5) dq e.2 kq oq oq,rfl,rfl,?_,(aP.set (aP.refl s) (fun _=>eR _ _ _) none).add _,fun b z=>Nat.le_of_eq (cY z).symm⟩;rw[AY];exact⟨s.nx,_,(1,1),by rw[lA];rfl,Has.new (s.set d none) _⟩
def eu.snoc{us:List Nd}{x:bv}{u:Nd}(h:eu s xs us)(a:QX s x u):eu s (xs++[x]) (us++[u]):=⟨by simp[h.1],fun i c b h1 h2=>by
 by_cases U:i<xs.length
 ·rw[List.getElem?_append_left U] at h1;rw[List.getElem?_append_left (by rw[← h.1];exact U)] at h2;exact h.2 i c b h1 h2
 ·rw[List.getElem?_append_right oq] at h1;rw[List.getElem?_append_right (by rw[← h.1];omega),← h.1] at h2;match hq:i-xs.length with
  | 0=>rw[hq] at h1 h2;cases h1;cases h2;exact a
  | q+1=>rw[hq] at h1;simp at h1⟩
abbrev tS:Value:=.agg #[num 0,num 0,str [],str [],aD]
abbrev iM(kd pa:Int)(nm tx:Bq)(at_:Value):Obj:=.cells #[num kd,num pa,str nm,str tx,at_] 44
def EF.YR{f:FuncId}{fn:Func}{b:Code}{j:Sort _}{G:AS→j→Prop}(i:pr f=none)(g:P.funcs[f]?=some fn)(d:fn.body=some b)(h:EW P kt pr b (args.toList++List.replicate (fn.ntmps-args.toList.length) undef) s (fun e U c=>(e=.normal∨e=.ret)∧du P fn U c=some v∧∃x,G c x)):∃a x,EF P kt pr f args s v a∧G a x:=by have⟨a,h1,x,h2⟩:=EF.gq i g d h;exact⟨a,x,h1,h2⟩
def HH(a8:pr 217=none)(a9:pr 232=none)(h:BT s b nv rv av xs σ){nm:Bq}(V:bY s at_ aI)(hN:σ.nodes.length<100000) :
  ∃s' PY,Ef pr 217 #[am b 0,.agg #[num kd,num pa,str nm,str tx,at_]] s (.tuple #[]) s'∧BT s' b PY rv av (xs++[⟨kd,((σ.cur:Nat):Int),nm,tx,at_⟩]) (σ.put ⟨kd,pa,nm,tx,aI⟩)∧dA b s s':=by
 have af:=h.sz;have⟨g,i,X⟩:=V.len;subst X;have Vn:=V.m9;generalize aI.length=j at *;have⟨H,L,B,rf,X9,Ra,F,E,Ob⟩:=h.r.at (TS.sr h.ne);have Z5:=F.1;have A:=h.add (iM kd pa nm tx (.slice g j i));have N:=Has.new s (iM kd pa nm tx (.slice g j i));have a3:=F.add (iM kd pa nm tx (.slice g j i));have a4:=dA.add h (iM kd pa nm tx (.slice g j i));have a5:bY (s.add (iM kd pa nm tx (.slice g j i))) (.slice g j i) aI:=V.fk ((aP.refl (K:=fun _=>False) s).add _) fun _ _=>id;have R:b≠s.nx:=by have:=h.b.1;omega
 have aa:∀y,blk nv y→y≠s.nx:=fun y f=>by have:=h.n.lt y f;omega
 have ae:s.nx<(s.add (iM kd pa nm tx (.slice g j i))).nx:=iq
 have hc:=uJ a9 A;have O:=A.b;refine EF.YR a8 func217 rfl ?_;refine zs (za (s.add (iM kd pa nm tx (.slice g j i))) ?_);generalize s.add (iM kd pa nm tx (.slice g j i))=S at *;rw[X9] at O;have l1:=bL (P:=prog) (t:=25) underlying25 rfl O.2 (off:=1) rfl;have l2:=bL (P:=prog) (t:=3) underlying3 rfl a3.2 E;have C:aP (fun y=>y=s.nx) S (S.set s.nx (some (iM kd ((σ.cur:Nat):Int) nm tx (.slice g j i)))):=aP.set (K:=fun y=>y=s.nx) (aP.refl S) (fun _=>rfl) _;have b2:=N.put (iM kd ((σ.cur:Nat):Int) nm tx (.slice g j i));have I:∀{y:Nat} {B:Aq} {t:TypeId} {q:Nat × Nat},Has S y (.cells B t q)→t≠44→y≠s.nx:=fun f G=>f.ne N G;have J:=A.b.fr C R;have D:=A.n.fk C aa;have b4:=A.r.fk C fun y f=>by have⟨_,_,z⟩:=A.r.blk f;exact I z dq
 have b5:=A.a.fk C fun y f=>by have⟨_,_,z⟩:=A.a.blk f;exact I z dq
 have b6:=A.m.fk C fun y B q f=>I f dq;have b7:=a5.fk C fun y f=>by
  rcases a5 with ⟨e,_⟩|⟨d,c,q,e,q1,q2⟩
  ·rw[e] at f;exact(cz f).elim
  ·rw[e] at f;rw[cY f];exact I (⟨q1,q2⟩:Has S d _) dq
 have bf:aP (KB b s) s (S.set s.nx (some (iM kd ((σ.cur:Nat):Int) nm tx (.slice g j i)))):=aP.set a4.1 (fun z=>absurd z (Nat.lt_irrefl _)) _;have T:((σ.row.length:Nat):Int)-1=((σ.row.length-1:Nat):Int):=oq
 rw[T] at hc;generalize ab:σ.row.length-1=M at *;refine EW.seq (EW.draw kq kq kq ?_);iterate 3 refine zq ?_
 refine zt S (zu (yl b 1 (.slice (sq H) σ.row.length L) O.2) (zq (zt S (yt hc (zu (yi H 0 σ.row.length L M none .i64 (M:Nat) 1 oq oq oq) (zt S (zu (bP (b:=H) (off:=M) (v:=num ((σ.cur:Nat):Int)) rfl underlying3 rfl kq a3.2 E) (zq (zt S (zu (ys s.nx 1 (num ((σ.cur:Nat):Int)) N.2 iq) (ET.nil ⟨aK [(aC prog 25 (am b 1) S,.slice (sq H) σ.row.length L),(aC prog 25 (am b 1) S,.slice (sq H) σ.row.length L)] kq (mh ⟨l1,rfl⟩ ⟨l1,rfl⟩),_,_,_,_,_,_,rfl,rfl,?_⟩)))))))))));refine za (S.set s.nx (some (iM kd ((σ.cur:Nat):Int) nm tx (.slice g j i)))) ?_;generalize S.set s.nx (some (iM kd ((σ.cur:Nat):Int) nm tx (.slice g j i)))=U at *;have m1:=bL (P:=prog) (t:=38) underlying38 rfl J.2 (off:=0) rfl;have m2:aC prog 44 (am s.nx 0) U=some (.agg #[num kd,num ((σ.cur:Nat):Int),str nm,str tx,.slice g j i]):=iJ (off:=0) (n:=5) underlying44 rfl kq b2.2 iq;have e3:=D.fk ((aP.refl (K:=fun _=>False) U).add (iM kd ((σ.cur:Nat):Int) nm tx (.slice g j i))) fun _ _=>id;have e6:=Has.new U (iM kd ((σ.cur:Nat):Int) nm tx (.slice g j i));have⟨w,x,c1,c2,c3,c4,c5,c6⟩:=LN e3 ⟨kd,((σ.cur:Nat):Int),nm,tx,.slice g j i⟩ (by rw[h.m.1];omega);have p:aP (fun y=>blk nv y) U x:=((aP.refl U).add _).trans c5 fun y _ z=>z;have Z:¬blk nv b:=fun z=>by have⟨_,_,z⟩:=D.blk z;exact J.ne z dq rfl
 have Q:=J.fr p Z;have o:∀{y:Nat} {B:Aq} {t:TypeId} {q:Nat × Nat},Has U y (.cells B t q)→t≠44→¬blk nv y:=fun f G z=>by have⟨_,_,z⟩:=D.blk z;exact f.ne z G rfl
 have d4:=b4.fk p fun y f=>by have⟨_,_,z⟩:=b4.blk f;exact o z dq
 have d5:=b5.fk p fun y f=>by have⟨_,_,z⟩:=b5.blk f;exact o z dq
 have d6:=b6.fk p fun y B q f=>o f dq;have d7:=b7.fk p fun y f=>by
  rcases b7 with ⟨e,_⟩|⟨d,c,q,e,q1,q2⟩
  ·rw[e] at f;exact(cz f).elim
  ·rw[e] at f;rw[cY f];exact o (⟨q1,q2⟩:Has U d _) dq
 have df:aP (KB b s) s x:=bf.trans p fun y f z=>(KB.at h.b.2).2 (.inr (.inl z));have u:aP (fun y=>y=b) x (x.set b (some (oD w rv av σ.w))):=aP.set (K:=fun y=>y=b) (aP.refl x) (fun _=>rfl) _;have l:∀{y:Nat} {B:Aq} {t:TypeId} {q:Nat × Nat},Has x y (.cells B t q)→t≠183→y≠b:=fun f G=>f.ne Q G;have g1:=Q.put (oD w rv av σ.w);have g3:=c4.fk u fun y f=>by have⟨_,_,z⟩:=c4.blk f;exact l z dq
 have g4:=d4.fk u fun y f=>by have⟨_,_,z⟩:=d4.blk f;exact l z dq
 have g5:=d5.fk u fun y f=>by have⟨_,_,z⟩:=d5.blk f;exact l z dq
 have g6:=d6.fk u fun y B q f=>l f dq;have g7:=d7.fk u fun y f=>by
  rcases d7 with ⟨e,_⟩|⟨d,c,q,e,q1,q2⟩
  ·rw[e] at f;exact(cz f).elim
  ·rw[e] at f;rw[cY f];exact l (⟨q1,q2⟩:Has x d _) dq
 have gf:aP (KB b s) s (x.set b (some (oD w rv av σ.w))):=aP.set df (fun _=>.inl rfl) _;have W:dz nv (sq U.nx)=true:=gi D.lt;have Ys:∀y,blk w y→s.nx≤y:=fun y z=>by have:=c6 y z;have:=bf.1;simp at *;omega
 refine EW.draw kq kq kq ?_;iterate 4 refine zq ?_
 refine zt U (zu (yl b 0 nv J.2) (zu (yA s.nx 0 5 #[num kd,num ((σ.cur:Nat):Int),str nm,str tx,.slice g j i] b2.2 iq) (zq (zt (U.add (iM kd ((σ.cur:Nat):Int) nm tx (.slice g j i))) (zu (eF (sl:=nv) (news:=[num kd,num ((σ.cur:Nat):Int),str nm,str tx,.slice g j i]) (d:=U.nx) (m:=1) (k:=1) (sz:=5) (z:=tS) (bytes:=72) rfl kq kq underlying38 kq rfl dq dq kq e6.2 W dq iq iq rfl c1) ?_)))));iterate 2 refine zq ?_
 refine zt x (zu (gC (b:=b) (off:=0) (w:=w) rfl kq kq c2 c3 kq Q.2 iq) (ET.nil ⟨aK [(aC prog 38 (am b 0) U,nv),(aC prog 44 (am s.nx 0) U,.agg #[num kd,num ((σ.cur:Nat):Int),str nm,str tx,.slice g j i])] kq (mh ⟨m1,by have⟨d,c,q,e,_⟩:=D;rw[e];rfl⟩ ⟨m2,rfl⟩),_,_,_,_,_,_,rfl,rfl,?_⟩));refine⟨.inl rfl,kq,w,⟨g1,g3,g6.snoc ⟨rfl,rfl,rfl,rfl,g7⟩,g4,g5,h.ra,fun k Y=>?_,fun k Y=>?_,h.ne,?_⟩,dA.mk' h.b g1 gf (.inr Ys) (.inl fun _ z=>z) (.inl fun _ z=>z)⟩
 ·have:=h.lt k Y;simp[TS.put];omega
 ·have:=h.la k Y;simp[TS.put];omega
 ·simp[TS.put];omega
def cR.lt(h:cR s v l):∀x,YtgcaionclkbehaaGreatDoor.blk v x→x<s.nx:=fun x U=>by have⟨_,_,z⟩:=cR.blk h U;exact z.1
def LO(h:cR s v l)(i:Nat)(f:l.length≤100000):∃w a,bn prog 3 v [num (i:Nat)] 1 s=some (w,a)∧w.cells=#[w]∧w.oneCell'=true∧cR a w (l++[i])∧aP (fun y=>blk v y) s a∧∀y,blk w y→s.nx≤y:=by
 have⟨w,a,h1,h2,h3,k,c,e⟩:=HF h i f;have b:(∀y,blk w y→s.nx≤y)∧aP (fun y=>blk v y) s a:=by
  rcases h with ⟨rfl,rfl⟩|⟨d,cp,cs,fz,rfl,q0,q1,q2,q3⟩
  ·rw[gk dq] at h1;cases h1;exact⟨fun y z=>Nat.le_of_eq (cY z).symm,(aP.refl s).add _⟩
  ·have g:l.length≤cs.size:=by
    by_cases j:l.length=0
    ·omega
    ·have U:l.length-1<l.length:=oq
     have:=(Array.getElem?_eq_some_iff.1 (q3 _ _ (gE U))).1;omega
   rw[fM (sz:=1) dq q2 kq oq oq] at h1;cases h1;exact⟨fun y z=>Nat.le_of_eq (cY z).symm,(aP.set (aP.refl s) (fun _=>eR _ _ _) none).add _⟩
 exact⟨w,a,h1,c,e,h3,b.2,b.1⟩
def A6(X:pr 223=none)(W:pr 217=none)(Y:pr 232=none)(h:BT s b nv rv av xs σ){nm:Bq}(R:bY s at_ aI)(hN:σ.nodes.length<100000) :
  ∃M,Ef pr 223 #[am b 0,str nm,at_] s (.tuple #[]) M∧BX M b (σ.open_ nm aI)∧dA b s M:=by
 have⟨S,G,hP,p1,p2⟩:=HH W Y h (kd:=1) (pa:=0) (nm:=nm) (tx:=[]) R hN;have⟨ad,cp,I⟩:=R.len;subst I;generalize aI.length=nA at *;have⟨x,p,E⟩:=p1.r.len;have D:(σ.put ⟨1,0,nm,[],aI⟩).row=σ.row:=rfl;have l:=p1.b;rw[D] at E;refine EF.gq X func223 rfl ?_;refine zr (zc 4 hP (EO.nil (za S (zr (zg 3 S (zp (yl b 1 rv l.2) ?_))))));subst E;refine zk 1 ?_;by_cases g:σ.row.length<40
 ·have Z:(σ.nodes++[(⟨1,((σ.cur:Nat):Int),nm,[],aI⟩:Nd)]).length=σ.nodes.length+1:=iq
  have a7:=p1.n;have⟨V,T,nf,C,XW⟩:=a7;rw[p1.m.1,show(σ.put ⟨1,0,nm,[],aI⟩).nodes.length=σ.nodes.length+1 from Z] at C;have e4:=p1.r.fk ((aP.refl (K:=fun _=>False) S).add (.cells #[num ((σ.nodes.length:Nat):Int)] 3)) fun _ _=>id;have e6:=Has.new S (.cells #[num ((σ.nodes.length:Nat):Int)] 3);have⟨w,U,c1,c2,c3,N,c5,c6⟩:=LO e4 σ.nodes.length (by rw[D];omega);have o:aP (fun y=>blk (.slice x σ.row.length p) y) S U:=((aP.refl S).add _).trans c5 fun y _ z=>z;have h3:∀{y:Nat} {A:Aq} {t:TypeId} {B:Nat × Nat},Has S y (.cells A t B)→t≠3→¬blk (.slice x σ.row.length p) y:=fun c L z=>by have⟨_,_,z⟩:=p1.r.blk z;exact c.ne z L rfl
  have H:=p1.b.fr o (h3 p1.b dq);have O:=p1.n.fk o fun y c=>by have⟨_,_,z⟩:=p1.n.blk c;exact h3 z dq
  have Q:=p1.a.fk o fun y c z=>p1.ra y z c;have d6:=p1.m.fk o fun y A B c=>h3 c dq;have u:aP (fun y=>y=b) U (U.set b (some (oD G w av σ.w))):=aP.set (K:=fun y=>y=b) (aP.refl U) (fun _=>rfl) _;have f:∀{y:Nat} {A:Aq} {t:TypeId} {B:Nat × Nat},Has U y (.cells A t B)→t≠183→y≠b:=fun c L=>c.ne H L;have g1:=H.put (oD G w av σ.w);have g3:=O.fk u fun y c=>by have⟨_,_,z⟩:=O.blk c;exact f z dq
  have g4:=N.fk u fun y c=>by have⟨_,_,z⟩:=N.blk c;exact f z dq
  have g5:=Q.fk u fun y c=>by have⟨_,_,z⟩:=Q.blk c;exact f z dq
  have g6:=d6.fk u fun y A B c=>f c dq;have gf:aP (KB b S) S (U.set b (some (oD G w av σ.w))):=aP.set (o.mono fun y _ q=>(KB.at p1.b.2).2 (.inr (.inr (.inl q)))) (fun _=>.inl rfl) _;have F:∀y,blk w y→S.nx≤y:=fun y z=>by have:=c6 y z;simp at this;omega
  have l1:=bL (P:=prog) (t:=25) underlying25 rfl l.2 (off:=1) rfl;have l2:=bL (P:=prog) (t:=38) underlying38 rfl l.2 (off:=0) rfl;subst C;refine zp (yb (num (σ.row.length:Nat)) (num 40) (aX (b:=true) (tD oq))) (EO.nil (za S (zH ?_)));refine EW.draw kq kq kq ?_;iterate 4 refine zq ?_
  refine zt S (zu (yl b 1 (.slice x σ.row.length p) l.2) ?_);iterate 3 refine zq ?_
  refine zt S (zu (yl b 0 (.slice (sq V) (σ.nodes.length+1) T) l.2) (zq (zu (fQ (i:=((σ.nodes.length+1:Nat):Int)) (j:=1) (r:=((σ.nodes.length:Nat):Int)) rfl kq kq oq oq) (zq (zt (S.add (.cells #[num ((σ.nodes.length:Nat):Int)] 3)) (zu (eF (sl:=.slice x σ.row.length p) (news:=[num ((σ.nodes.length:Nat):Int)]) (d:=S.nx) (m:=1) (k:=1) (sz:=1) (z:=num 0) (bytes:=8) rfl kq kq underlying25 kq rfl dq dq kq e6.2 (gi p1.r.lt) dq iq iq rfl c1) ?_))))));iterate 2 refine zq ?_
  refine zt U (zu (gC (b:=b) (off:=1) (w:=w) rfl kq kq c2 c3 kq H.2 iq) (ET.nil ⟨aK [(aC prog 25 (am b 1) S,.slice x σ.row.length p),(aC prog 38 (am b 0) S,.slice (sq V) (σ.nodes.length+1) T)] kq (mh ⟨l1,by cases x<;>rfl⟩ ⟨l2,rfl⟩),_,_,_,_,_,_,rfl,rfl,?_⟩));refine⟨.inl rfl,kq,⟨_,w,_,_,g1,g3,g6,?_,g5,fun y c hz=>?_,fun k J=>?_,fun k J=>?_,?_,?_⟩,p2.trans (dA.mk' p1.b g1 gf (.inl rfl) (.inr F) (.inl fun _ z=>z))⟩
  ·show cR _ _ (if σ.row.length<40 then σ.row++[σ.nodes.length] else σ.row);rw[ip g];exact g4
  ·have:=F y c
   have:=p1.a.lt y hz;omega
  ·have v:k∈(if σ.row.length<40 then σ.row++[σ.nodes.length] else σ.row):=J;rw[ip g,List.mem_append] at v;show k<(σ.put ⟨1,0,nm,[],aI⟩).nodes.length;rcases v with v|v
   ·exact p1.lt k v
   ·simp at v;simp[TS.put];omega
  ·exact p1.la k J
  ·show(if σ.row.length<40 then σ.row++[σ.nodes.length] else σ.row)≠[];rw[ip g];simp
  ·have:=p1.sz;refine⟨this.1,?_,this.2.2⟩;show(if σ.row.length<40 then σ.row++[σ.nodes.length] else σ.row).length≤40;rw[ip g];simp;omega
 ·refine zp (yb (num (σ.row.length:Nat)) (num 40) (aX (b:=false) (fD oq))) (EO.nil (za S (zF ?_)));have e:σ.open_ nm aI=σ.put ⟨1,0,nm,[],aI⟩:=by unfold TS.open_;rw[iw g];rfl
  rw[e];exact⟨.inl rfl,kq,⟨_,_,_,_,p1⟩,p2⟩
end
abbrev qu:Bq:=[100,105,118]
abbrev km:Bq:=[115,112,97,110]
abbrev nB:Bq:=[98]
abbrev nI:Bq:=[105]
abbrev rh:Bq:=[117,108]
abbrev Cp:Bq:=[108,105]
abbrev jI:Bq:=[98,114]
abbrev jM:List (Bq):=[[],qu,km,nB,nI,rh,Cp,jI,[]]
structure PS where
 nodes:List Nd
 row:List Nat
 wd:Bool
def PS.cur(σ:PS):Nat:=σ.row.getLastD 0
def PS.nm(σ:PS):Bq:=match σ.nodes[σ.cur]? with|some u=>u.name|none=>[]
def inl (n:Bq):Bool:=aY n km||(aY n nB||aY n nI)
def C3 (pn nm:Bq):Prop:=nm∈[qu,km,nB,nI,rh,Cp,jI]∧aY nm Cp=aY pn rh∧(inl pn=true→aY nm qu=false∧aY nm rh=false)
def C1 (aI:jd):Prop:=aI=[]∨∃a ls,iX a∧a≠[]∧dO ls∧aI=[(a,cF ls),(a++[120],[])]
def ux(σ fo:PS):Prop:=fo=σ∨(2≤σ.row.length∧fo=⟨σ.nodes,σ.row.dropLast,false⟩) ∨
 (∃ls,dO ls∧cF ls≠[]∧σ.wd=false∧aY σ.nm rh=false∧fo=⟨σ.nodes++[⟨2,((σ.cur:Nat):Int),[],cF ls,[]⟩],σ.row,true⟩) ∨
 ∃nm aI,C3 σ.nm nm∧C1 aI∧σ.row.length≤20∧fo=⟨σ.nodes++[⟨1,((σ.cur:Nat):Int),nm,[],aI⟩],if aY nm jI=true then σ.row else σ.row++[σ.nodes.length],false⟩
def nG:Nat→PS→PS→Prop
 | 0,σ,fo=>fo=σ
 | n+1,σ,fo=>∃xn,nG n σ xn∧ux xn fo
structure PI(σ:PS):Prop where
 ne:σ.row≠[]
 lt:∀k∈σ.row,k<σ.nodes.length
 len:σ.row.length≤21
def PI.step{σ a:PS}(h:PI σ)(c:ux σ a):PI a∧a.nodes.length≤σ.nodes.length+1∧σ.nodes.length≤a.nodes.length:=by
 rcases c with rfl|⟨h2,rfl⟩|⟨ls,_,_,_,_,rfl⟩|⟨nm,aI,_,_,hl,rfl⟩
 ·exact⟨h,oq,oq⟩
 ·refine⟨⟨fun e=>?_,fun k b=>h.lt k (List.dropLast_subset _ b),by have:=h.len;simp;omega⟩,iq,iq⟩
  have:=congrArg List.length e;simp at this;omega
 ·exact⟨⟨h.ne,fun k b=>by have:=h.lt k b;simp;omega,h.len⟩,iq,iq⟩
 ·refine⟨⟨?_,fun k b=>?_,?_⟩,iq,iq⟩
  ·show(if aY nm jI=true then σ.row else σ.row++[σ.nodes.length])≠[];split
   ·exact h.ne
   ·simp
  ·have U:k∈(if aY nm jI=true then σ.row else σ.row++[σ.nodes.length]):=b;simp only[lA,List.length_singleton];split at U
   ·have:=h.lt k U;omega
   ·rcases List.mem_append.1 U with z|z
    ·have:=h.lt k z;omega
    ·simp at z;omega
  ·show(if aY nm jI=true then σ.row else σ.row++[σ.nodes.length]).length≤21;split
   ·exact h.len
   ·simp;omega
def PI.at{σ:PS}(h:PI σ):∃u,σ.nodes[σ.cur]?=some u∧u.name=σ.nm∧σ.row[σ.row.length-1]?=some σ.cur∧0<σ.row.length:=by
 have U:σ.row.getLast?=some σ.cur:=by
  unfold PS.cur;cases hr:σ.row with
  | nil=>exact absurd hr h.ne
  | cons a l=>simp[List.getLastD,List.getLast?]
 have c:σ.cur∈σ.row:=List.mem_of_getLast? U;have b:=h.lt _ c;refine⟨σ.nodes[σ.cur],gE b,?_,?_,List.length_pos_iff.2 h.ne⟩
 ·unfold PS.nm;rw[gE b]
 ·rw[← List.getLast?_eq_getElem?];exact U
section
variable {s0 s s':AS}{v5 v6:Value}{σ:PS}
structure PM(s0 s:AS)(v5 v6:Value)(σ:PS)(m:Nat):Prop where
 n:∃xs,lq s v5 xs∧eu s xs σ.nodes
 r:cR s v6 σ.row
 nn:∀x,blk v5 x→s0.nx≤x
 nr:∀x,blk v6 x→s0.nx≤x
 f:aP (fun _=>False) s0 s
 z:s.nx≤m
def PM.mono(h:PM s0 s v5 v6 σ m)(U:m≤m'):PM s0 s v5 v6 σ m':=⟨h.n,h.r,h.nn,h.nr,h.f,lT h.z U⟩
def PM.fk(h:PM s0 s v5 v6 σ m)(U:aP (fun _=>False) s s')(d:s'.nx≤m'):PM s0 s' v5 v6 σ m':=by obtain⟨⟨e,h1,h2⟩,h3,a,b,c,_⟩:=h;exact⟨⟨e,h1.fk U fun _ _=>id,h2.fk U fun _ _ _ _=>id⟩,h3.fk U fun _ _=>id,a,b,c.trans U fun _ _=>id,d⟩
def PM.add(h:PM s0 s v5 v6 σ m)(o:Obj):PM s0 (s.add o) v5 v6 σ (m+1):=h.fk ((aP.refl s).add o) (Nat.succ_le_succ h.z)
def mH{e:TypeId}{x:Value}{news:Vq}(h:bn P e x news m s=some (v,s')):s'.nx≤s.nx+1:=by
 unfold bn at h;split at h
 ·split at h<;>cases h
  ·omega
  ·exact Nat.le_refl _
 ·split at h
  ·cases h;omega
  ·split at h
   ·split at h
    ·cases h;exact Nat.le_refl _
    ·cases h
   ·cases h
 ·split at h<;>cases h;exact Nat.le_refl _
 ·cases h
def PM.node(h:PM s0 s v5 v6 σ m){nm:Bq}(J:bY s at_ aI)(Q:σ.nodes.length≤1000)(U:List Nat)(v:U=σ.row)(A:Bool):∃w f,bn prog 44 v5 [num kd,num pa,str nm,str tx,at_] 1 (s.add (iM kd pa nm tx at_))=some (w,f)∧PM s0 f w v6 ⟨σ.nodes++[⟨kd,pa,nm,tx,aI⟩],U,A⟩ (m+2)∧dz v5 (sq s.nx)=true∧(s.add (iM kd pa nm tx at_)).get s.nx=some (iM kd pa nm tx at_):=by
 subst v;have I:=h.add (iM kd pa nm tx at_);have i:=Has.new s (iM kd pa nm tx at_);have k:bY (s.add (iM kd pa nm tx at_)) at_ aI:=J.fk ((aP.refl (K:=fun _=>False) s).add _) fun _ _=>id;obtain⟨⟨S,q,r⟩,u,B,C,p,N⟩:=I;have⟨ys,M,R⟩:=h.n;have⟨w,f,l,O,P,D,g,E⟩:=LN q ⟨kd,pa,nm,tx,at_⟩ (by rw[r.1];omega);have a:∀{y:Nat} {o:Aq} {t:TypeId} {j:Nat × Nat},Has (s.add (iM kd pa nm tx at_)) y (.cells o t j)→t≠44→¬blk v5 y:=fun b L z=>by have⟨_,_,z⟩:=q.blk z;exact b.ne z L rfl
 have F:=r.fk g fun y o j b=>a b dq;have G:=u.fk g fun y b=>by have⟨_,_,z⟩:=u.blk b;exact a z dq
 have H:=k.fk g fun y b=>by
  rcases k with ⟨e,_⟩|⟨d,c,j,e,q1,q2⟩
  ·rw[e] at b;exact(cz b).elim
  ·rw[e] at b;rw[cY b];exact a (⟨q1,q2⟩:Has (s.add (iM kd pa nm tx at_)) d _) dq
 refine⟨w,f,l,⟨⟨_,D,F.snoc ⟨rfl,rfl,rfl,rfl,H⟩⟩,G,fun x i=>by have:=E x i;have:=p.1;omega,C,p.trans g fun x i z=>by have:=B x z;omega,lT (mH l) (Nat.succ_le_succ N)⟩,gi M.lt,i.2⟩
def PM.push(h:PM s0 s v5 v6 σ m)(i:Nat)(G:σ.row.length≤1000):∃w c,bn prog 3 v6 [num (i:Nat)] 1 (s.add (.cells #[num (i:Nat)] 3))=some (w,c)∧PM s0 c v5 w ⟨σ.nodes,σ.row++[i],σ.wd⟩ (m+2)∧dz v6 (sq s.nx)=true∧(s.add (.cells #[num (i:Nat)] 3)).get s.nx=some (.cells #[num (i:Nat)] 3):=by
 have U:=h.add (.cells #[num (i:Nat)] 3);have d:=Has.new s (.cells #[num (i:Nat)] 3);obtain⟨⟨H,l,C⟩,n,o,p,j,D⟩:=U;have⟨w,c,f,E,F,q,e,u⟩:=LO n i oq;have a:∀{y:Nat} {g:Aq} {t:TypeId} {k:Nat × Nat},Has (s.add (.cells #[num (i:Nat)] 3)) y (.cells g t k)→t≠3→¬blk v6 y:=fun b B z=>by have⟨_,_,z⟩:=n.blk z;exact b.ne z B rfl
 have v:=l.fk e fun y b=>by have⟨_,_,z⟩:=l.blk b;exact a z dq
 have A:=C.fk e fun y g k b=>a b dq;exact⟨w,c,f,⟨⟨_,v,A⟩,q,o,fun x d=>by have:=u x d;have:=j.1;omega,j.trans e fun x d z=>by have:=p x z;omega,lT (mH f) (Nat.succ_le_succ D)⟩,gi h.r.lt,d.2⟩
end
structure gd where
 kind:Int
 s:Bq
 a:Bq
 v:Bq
def gd.ok(p:gd):Prop:=(-9223372036854775808≤p.kind∧p.kind≤9223372036854775807)∧p.s.length≤9223372036854775807∧p.a.length≤9223372036854775807∧p.v.length≤9223372036854775807
abbrev Ff(cs:Aq)(ty:TypeId)(fz:Nat × Nat):Obj:=.chan ty cs true fz.1 fz.2 true
def GW(e:P.underlying t=some d)(a:d.isRow=false)(c:s.get b=some (Ff cs ty fz))(f:cs[off]?=some v)(U:dW v=true):aC P t (am b off) s=some v:=by unfold aC;simp only[am,c,e,a,f,U,if_true,if_false,Bool.false_eq_true]
def wW{c:FuncId→Aq→AS→Option (Value × AS)}{a:TL}{o:Oper}{x:Operand}(U:o.op=.load t x)(h:P.underlying t=some d)(f:d.isRow=false)(j:a.at x=am b off)(g:s.get b=some (Ff cs ty fz))(i:cs[off]?=some v)(e:dW v=true):bM P kt c a o s=some (v,s):=by unfold bM;rw[iw (by rw[U];simp[eI]),U];simp only;rw[j,GW h f g i e]
def kH(s:AS)(pb off:Nat)(ps:List gd):Prop:=∃cs ty fz,Has s pb (Ff cs ty fz)∧∀(i:Nat) (p:gd),ps[i]?=some p→p.ok∧cs[off+i*4]?=some (num p.kind)∧cs[off+i*4+1]?=some (str p.s)∧cs[off+i*4+2]?=some (str p.a)∧cs[off+i*4+3]?=some (str p.v)
def Bl (ti:Bq)(pv v5 v6:Value)(wd:Bool)(i:Nat)(x:Nq):TL:=[str ti,pv,x 2,x 3,aD,v5,v6,.bool wd,num (i:Nat)]++iy x 9 181
def EQ (ti:Bq)(pv v5 v6:Value)(wd:Bool)(i now:Nat)(nm:Bq)(b:Bool)(kd:Nat)(wh:Bq)(x:Nq):TL:=[str ti,pv,x 2,x 3,aD,v5,v6,.bool wd,num (i:Nat),num (now:Nat),str nm,.bool b,num (kd:Nat),str wh]++iy x 14 176
def JS (b:Option Code):Code:=match b with|some (.seq _ (.seq _ (.seq _ (.seq _ (.seq _ (.seq _ (.seq _ (.seq (.seq _ (.block _ (.loop (.seq _ (.seq (.block _ c) _))))) _))))))))=>c|_=>.skip
def GL(c:Code):Code:=match c with|.seq _ (.seq _ (.seq _ (.seq _ (.seq _ c))))=>c|_=>.skip
def PD(c:Code):Code:=match c with|.seq _ (.seq _ (.seq _ c))=>c|_=>.skip
def yQ:List FuncId:=[19,27,29,31,45]
section
variable {pr:Prim}{s0 s s':AS}{v5 v6:Value}{σ:PS}
def M5(a5:∀f,f∈yQ→pr f=none){ps:List gd}{p:gd}(a6:kH s pb off ps)(Z:ps[i]?=some p)(hn:ps.length=n)(h:PM s0 s v5 v6 σ m)(T:PI σ)(hN:σ.nodes.length≤1000)(hi:i<60){x:Nq}{Q:Exit→TL→AS→Prop}
 (k:∀S kd x,PM s0 S v5 v6 σ (m+1)→kH S pb off ps→kd<9→kd=mq p.kind 9→Ew pr (GL (JS Tryz.f27.body)) (EQ ti (.slice (some ⟨pb,off,none⟩) n cp) v5 v6 σ.wd i σ.cur σ.nm (inl σ.nm) kd (jM.getD kd []) x) S Q):Ew pr (JS Tryz.f27.body) (Bl ti (.slice (some ⟨pb,off,none⟩) n cp) v5 v6 σ.wd i x) s Q:=by
 have⟨u,J,P,a3,ah⟩:=T.at;have⟨q,z,cs,rf,a7,Ra,I,D,Ob⟩:=h.r.at a3;have⟨A,F,l⟩:=h.n;have⟨d,y,f5,a8,E⟩:=F;have Y:=T.len;have V:σ.cur<σ.nodes.length:=(gS.1 J).1;have aa:A.length=σ.nodes.length:=l.1;have c:A[σ.cur]?=some A[σ.cur]:=gE oq;have G:(bC A)[σ.cur*5+2]?=some (str σ.nm):=by have:=(l.2 _ _ _ c J).2.2.1;rw[← P,← this];exact(ei c 2 dq).trans rfl
 clear c J P;have⟨ab,af,ae,O,N⟩:=a6;have⟨L,pk,_⟩:=N i p Z;have W:=(gS.1 Z).1;have H:=Ks (pr:=pr) (s:=s) (a5 19 dq) L.1;have g:=Ht p.kind 9 dq;have o:kH (s.add (.cells (jM.map str).toArray 9)) pb off ps:=⟨ab,af,ae,O.add _,N⟩;have hS:=h.add (.cells (jM.map str).toArray 9);have C:=Has.new s (.cells (jM.map str).toArray 9);generalize ZW:mq p.kind 9=kd at *;have K:(jM.map str).toArray[kd]?=some (str (jM.getD kd [])):=by
  match kd,g with
  | 0,_=>rfl
  | 1,_=>rfl
  | 2,_=>rfl
  | 3,_=>rfl
  | 4,_=>rfl
  | 5,_=>rfl
  | 6,_=>rfl
  | 7,_=>rfl
  | 8,_=>rfl
 generalize a9:jM.getD kd []=wh at *;generalize ai:σ.cur=U at *;generalize ag:σ.nm=a at *;subst a7 a8;generalize ak:σ.row.length=R at *;rw[aa] at *;generalize aj:σ.nodes.length=t at *;refine EW.seq (EW.region kq ?_);refine EO.go 3 9 kq ?_;refine EO.op kq (fQ (i:=(R:Nat)) (j:=1) (r:=((R-1:Nat):Int)) rfl kq kq oq oq) ?_;refine EO.op kq (iv (b:=q) (off:=0) (n:=R) (cp:=z) (k:=R-1) (sp:=none) (kd:=.i64) (j:=((R-1:Nat):Int)) (sz:=1) rfl underlying25 kq kq kq oq oq oq) ?_;refine EO.op kq (bP (b:=q) (off:=R-1) (v:=num (U:Nat)) rfl underlying3 rfl kq I.2 D) ?_;refine EO.fin 9 kq ?_;refine EW.cV s kq ?_;refine EW.seq (EW.region kq ?_);refine EO.go 2 9 kq ?_;refine EO.op kq (iv (b:=d) (off:=0) (n:=t) (cp:=y) (k:=U*5) (sp:=none) (kd:=.i64) (j:=(U:Nat)) (sz:=5) rfl underlying38 kq kq kq oq oq oq) ?_;refine EO.go 1 9 kq ?_;refine EO.op kq (bP (b:=d) (off:=U*5+2) (v:=str a) rfl underlying9 rfl kq E.2 G) ?_;refine EO.fin 9 kq ?_;refine EW.cV s kq ?_;refine EW.fill (fun x=>[str ti,.slice (some ⟨pb,off,none⟩) n cp,x 2,x 3,aD,.slice (sq d) t y,.slice (sq q) R z,.bool σ.wd,num (i:Nat),num (U:Nat),str a]++iy x 11 179) kq ?_;intro x1;refine EW.seq (EW.mono (Q:=fun e M s'=>e=.normal∧s'=s∧∃x,M=[str ti,.slice (some ⟨pb,off,none⟩) n cp,x 2,x 3,aD,.slice (sq d) t y,.slice (sq q) R z,.bool σ.wd,num (i:Nat),num (U:Nat),str a,.bool (inl a)]++iy x 12 178) ?_ ?_)
 ·unfold inl;refine EW.region kq ?_;refine EO.go 1 9 kq ?_;refine EO.op kq (aU (u:=str a) (w:=str km) rfl kq kq (gO (b:=aY a km) rfl)) ?_;generalize aY a km=b1;cases b1 with
  | true =>refine EO.fin 9 kq ?_;exact⟨rfl,kq,aN kq⟩
  | false =>
   refine EO.go 2 9 kq ?_;refine EO.op kq (aU (u:=str a) (w:=str nB) rfl kq kq (gO (b:=aY a nB) rfl)) ?_;generalize aY a nB=b2;cases b2 with
   | true =>refine EO.fin 9 kq ?_;exact⟨rfl,kq,aN kq⟩
   | false =>refine EO.go 3 9 kq ?_;refine EO.op kq (aU (u:=str a) (w:=str nI) rfl kq kq (gO (b:=aY a nI) rfl)) ?_;refine EO.fin 9 kq ?_;exact⟨rfl,kq,aN kq⟩
 rintro e M S1 ⟨rfl,B,x2,rfl⟩;have B:=B.symm;subst B;generalize inl a=bi at *;refine EW.seq (EW.region kq ?_);refine EO.go 2 9 kq ?_;refine EO.op kq (iv (b:=pb) (off:=off) (n:=n) (cp:=cp) (k:=off+i*4) (sp:=none) (kd:=.i64) (j:=(i:Nat)) (sz:=4) rfl underlying48 kq kq kq oq oq oq) ?_;refine EO.go 1 9 kq ?_;refine EO.op kq (wW (b:=pb) (off:=off+i*4) (v:=num p.kind) rfl underlying3 rfl kq O.2 pk rfl) ?_;refine EO.gc 0 9 kq H ?_;refine EO.fin 9 kq ?_;refine EW.cV s kq ?_;refine EW.seq (EW.region kq ?_);refine EO.go 2 9 kq ?_;refine EO.cV (s.add (.cells (jM.map str).toArray 9)) kq ?_;refine EO.op kq (iv (b:=s.nx) (off:=0) (n:=9) (cp:=9) (k:=kd) (sp:=none) (kd:=.i64) (j:=(kd:Nat)) (sz:=1) rfl underlying62 kq kq kq oq oq oq) ?_;refine EO.op kq (bP (b:=s.nx) (off:=kd) (v:=str wh) rfl underlying9 rfl kq C.2 K) ?_;refine EO.fin 9 kq ?_;refine EW.cV (s.add (.cells (jM.map str).toArray 9)) kq ?_;refine EW.fill (EQ ti (.slice (some ⟨pb,off,none⟩) n cp) (.slice (sq d) t y) (.slice (sq q) R z) σ.wd i U a bi kd wh) kq ?_;intro x3;have X:=k _ kd x3 hS o g rfl;rw[a9] at X;exact X
end
def UJ (ti:Bq)(pv v5 v6:Value)(wd:Bool)(i now:Nat)(nm:Bq)(b:Bool)(kd:Nat)(wh:Bq)(nb:Nat)(x:Nq):TL:=[str ti,pv,x 2,x 3,aD,v5,v6,.bool wd,num (i:Nat),num (now:Nat),str nm,.bool b,num (kd:Nat),str wh,x 14,x 15,am nb 0]++iy x 17 173
def Rq (s0:AS)(ti:Bq)(pv:Value)(i:Nat)(σ:PS)(m:Nat)(e:Exit)(a':TL)(s':AS):Prop:=(e=.normal∨e=.exit 1)∧∃VQ UL fo,ux σ fo∧PM s0 s' VQ UL fo m∧∃x,a'=Bl ti pv VQ UL fo.wd i x
section
variable {pr:Prim}{s0 s s':AS}{v5 v6:Value}{σ:PS}
def Gs(a4:∀f,f∈yQ→pr f=none){kd:Nat}{bi:Bool}{ps:List gd}{p:gd}(ab:kH s pb off ps)(hp:ps[i]?=some p)(hn:ps.length=n)(h:PM s0 s v5 v6 σ m)(hN:σ.nodes.length≤1000)(hi:i<60)(hE:C3 σ.nm wh)(hR:σ.row.length≤20){x:Nq} :
  Ew pr (PD (GL (JS Tryz.f27.body))) (EQ ti (.slice (some ⟨pb,off,none⟩) n cp) v5 v6 σ.wd i σ.cur σ.nm bi kd wh x) s (Rq s0 ti (.slice (some ⟨pb,off,none⟩) n cp) i σ (m+12)):=by
 have⟨al,aq,ao,aa,a9⟩:=ab;have⟨Y,pk,pks,VG,X⟩:=a9 i p hp;have SN:=(gS.1 hp).1;obtain⟨Zo,ZA,Rc⟩:∃ad cp,v5=.slice ad σ.nodes.length cp:=by obtain⟨xs,⟨d,c,fz,e,_⟩,q⟩:=h.n;exact⟨_,c,by rw[e,q.1]⟩
 have⟨ag,ai,aj⟩:=h.r.len;have L:=Has.new s (iM 1 ((σ.cur:Nat):Int) wh [] aD);have aZ:=Has.new s (iM 0 0 [] [] aD);have T:(s.add (iM 0 0 [] [] aD)).set s.nx (some (iM 1 ((σ.cur:Nat):Int) wh [] aD))=s.add (iM 1 ((σ.cur:Nat):Int) wh [] aD):=AS.set_set (⟨s.hp,s.nx+1⟩:AS) s.nx (some (iM 0 0 [] [] aD)) (some (iM 1 ((σ.cur:Nat):Int) wh [] aD));have J:aP (fun _=>False) s (s.add (iM 1 ((σ.cur:Nat):Int) wh [] aD)):=(aP.refl s).add _;have B:=aa.add (iM 1 ((σ.cur:Nat):Int) wh [] aD);have V:∃U,U=σ.cur:=⟨_,rfl⟩;have⟨U,H⟩:=V;rw[← H] at L T J B ⊢;generalize uU:σ.nm=nm at *;refine EW.seq (EW.region kq ?_);refine EO.gs 4 9 (s.add (iM 0 0 [] [] aD)) kq ?_;refine EO.op kq (ep (b:=s.nx) (off:=0) (w:=.agg #[num 1,num (U:Nat),str wh,str [],aD]) (ws:=[num 1,num (U:Nat),str wh,str [],aD]) rfl kq kq rfl rfl kq aZ.2 iq) ?_;refine EO.nil ?_;refine EW.cV ((s.add (iM 0 0 [] [] aD)).set s.nx (some (iM 1 ((U:Nat):Int) wh [] aD))) kq ?_;rw[T];generalize S:s.add (iM 1 ((U:Nat):Int) wh [] aD)=o at *;have⟨g,I,Yc⟩:=KU (pr:=pr) (s:=o) (a4 31 dq) Y.2.2.1;refine EW.seq (EW.region kq ?_);refine EO.gs 2 9 o kq ?_;refine EO.op kq (iv (b:=pb) (off:=off) (n:=n) (cp:=cp) (k:=off+i*4) (sp:=none) (kd:=.i64) (j:=(i:Nat)) (sz:=4) rfl underlying48 kq kq kq oq oq oq) ?_;refine EO.gs 1 9 o kq ?_;refine EO.op kq (wW (b:=pb) (off:=off+i*4+2) (v:=str p.a) rfl underlying9 rfl kq B.2 VG rfl) ?_;refine EO.gc 0 9 kq Yc ?_;refine EO.fin 9 kq ?_;refine EW.cV o kq ?_;refine EW.fill (fun x=>[str ti,.slice (some ⟨pb,off,none⟩) n cp,x 2,x 3,aD,v5,v6,.bool σ.wd,num (i:Nat),num (U:Nat),str nm,.bool bi,num (kd:Nat),str wh,x 14,x 15,am s.nx 0,str g]++iy x 18 172) kq ?_;intro x1;refine EW.seq (EW.mono (Q:=fun e a' s'=>e=.normal∧∃A aI,C1 aI∧bY s' A aI∧aP (fun _=>False) s s'∧Has s' s.nx (iM 1 ((U:Nat):Int) wh [] A)∧s'.nx≤s.nx+5∧∃x,a'=UJ ti (.slice (some ⟨pb,off,none⟩) n cp) v5 v6 σ.wd i U nm bi kd wh s.nx x) ?_ ?_)
 ·by_cases ho:g=[]
  ·subst ho;refine EW.seq (EW.go 5 kq ?_);refine EW.cV o kq ?_;refine EW.dL kq (EW.skip ?_);exact⟨rfl,aD,[],.inl rfl,.inl ⟨rfl,rfl⟩,J,L,by rw[← S];exact Nat.add_le_add_left (by decide:1≤5) _,aN kq⟩
  ·have⟨a3,a8⟩:=qo (pr:=pr) (s:=o) (a4 29 dq) Y.2.2.2;have XP:=a3.1;have X2:=I.1;generalize W:cF (iU p.v [])=F at *;have b1:=L.add (.cells #[str g,str F] 47);have b2:=Has.new o (.cells #[str g,str F] 47);have Ps:s.nx<o.nx:=L.1;have MT:o.nx=s.nx+1:=by rw[← S];rfl
   have⟨C,E,c1,O,c3,c4,c5,c6⟩:=HD (s:=o.add (.cells #[str g,str F] 47)) (av:=aD) (aI:=[]) (.inl ⟨rfl,rfl⟩) (g,F) iq;have R:=b1.fr c5 (fun z=>cz z);have Ty:E.nx≤s.nx+3:=by have:=mH c1;simp at this;omega
   have f2:aP (fun _=>False) s E:=(J.trans ((aP.refl o).add _) fun _ _=>id).trans c5 fun y _ z=>(cz z).elim;have l1:aC prog 42 (am s.nx 4) o=some aD:=bL (P:=prog) (t:=42) underlying42 rfl L.2 (off:=4) rfl;have l2:aC prog 9 (am pb (off+i*4+3)) o=some (str p.v):=GW (P:=prog) (t:=9) underlying9 rfl B.2 (off:=off+i*4+3) X rfl;refine EW.seq (EW.region kq ?_);refine EO.go 1 9 kq ?_;refine EO.op kq (aU (u:=str g) (w:=str []) rfl kq kq (by unfold dj;simp only;rw[gL ho])) ?_;refine EO.nil ?_;refine EW.cV o kq ?_;refine EW.ew kq ?_;refine EW.seq (EW.draw kq kq kq ?_);refine ET.q kq kq ?_;refine ET.cV o kq ?_;refine ET.op kq (bP (b:=s.nx) (off:=4) (v:=aD) rfl underlying42 rfl kq L.2 rfl) ?_;iterate 3 refine ET.q kq kq ?_
   refine ET.cV o kq ?_;refine ET.op kq (iv (b:=pb) (off:=off) (n:=n) (cp:=cp) (k:=off+i*4) (sp:=none) (kd:=.i64) (j:=(i:Nat)) (sz:=4) rfl underlying48 kq kq kq oq oq oq) ?_;refine ET.q kq kq ?_;refine ET.cV o kq ?_;refine ET.op kq (wW (b:=pb) (off:=off+i*4+3) (v:=str p.v) rfl underlying9 rfl kq B.2 X rfl) ?_;refine ET.fA #[str p.v] kq rfl rfl kq kq a8 ?_;iterate 2 refine ET.q kq kq ?_
   refine ET.cV (o.add (.cells #[str g,str F] 47)) kq ?_;refine ET.op kq (eF (sl:=aD) (news:=[str g,str F]) (d:=o.nx) (m:=1) (k:=1) (sz:=2) (z:=.agg #[str [],str []]) (bytes:=32) rfl kq kq underlying42 kq rfl dq dq kq b2.2 rfl dq iq iq rfl c1) ?_;refine ET.q kq kq ?_;refine ET.cV E kq ?_;refine ET.op kq (gC (b:=s.nx) (off:=4) (w:=C) rfl kq kq O c3 kq R.2 iq) ?_;refine ET.nil ⟨aK [(aC prog 42 (am s.nx 4) o,aD),(aC prog 42 (am s.nx 4) o,aD),(aC prog 9 (am pb (off+i*4+3)) o,str p.v)] kq (uh ⟨l1,rfl⟩ ⟨l1,rfl⟩ ⟨l2,rfl⟩),_,_,_,_,_,_,rfl,rfl,?_⟩;refine EW.cV (E.set s.nx (some (iM 1 ((U:Nat):Int) wh [] C))) kq ?_;have e1:=R.put (iM 1 ((U:Nat):Int) wh [] C);have e2:bY (E.set s.nx (some (iM 1 ((U:Nat):Int) wh [] C))) C [(g,F)]:=c4.fk (aP.set (K:=fun y=>y=s.nx) (aP.refl E) (fun _=>rfl) _) fun y M=>by have:=c6 y M;simp at this;omega
   have f3:aP (fun _=>False) s (E.set s.nx (some (iM 1 ((U:Nat):Int) wh [] C))):=aP.set f2 (fun z=>absurd z (Nat.lt_irrefl _)) _;have hU:s.nx<E.nx:=R.1;have Rd:(E.set s.nx (some (iM 1 ((U:Nat):Int) wh [] C))).nx≤s.nx+3:=Ty;generalize E.set s.nx (some (iM 1 ((U:Nat):Int) wh [] C))=G at *;have g1:=e1.add (.cells #[str (g++[120]),str []] 47);have g2:=Has.new G (.cells #[str (g++[120]),str []] 47);have g3:bY (G.add (.cells #[str (g++[120]),str []] 47)) C [(g,F)]:=e2.fk ((aP.refl (K:=fun _=>False) G).add _) fun _ _=>id;have⟨w2,Z,k1,k2,k3,k4,k5,k6⟩:=HD g3 (g++[120],[]) iq;have Ym:∀y,blk C y→y≠s.nx:=fun y M=>by have:=c6 y M;simp at this;omega
   have m1:=g1.fr k5 (fun z=>Ym _ z rfl);have f4:aP (fun _=>False) s Z:=(f3.trans ((aP.refl G).add _) fun _ _=>id).trans k5 fun y M z=>by have:=c6 y z;simp at this;omega
   have a5:=gi e2.lt;have Yw:Z.nx≤s.nx+5:=by have:=mH k1;simp at this;omega
   have⟨af,ah,ae⟩:=e2.len;refine EW.region kq ?_;refine EO.gs 1 9 G kq ?_;refine EO.op kq (bP (b:=s.nx) (off:=4) (v:=C) rfl underlying42 rfl kq e1.2 rfl) ?_;refine EO.gs 1 9 G kq ?_;refine EO.op kq (pg (l:=g) (m:=[120]) rfl kq kq (by simp;omega)) ?_;refine EO.go 2 9 kq ?_;refine EO.cV (G.add (.cells #[str (g++[120]),str []] 47)) kq ?_;refine EO.op kq (eF (sl:=C) (news:=[str (g++[120]),str []]) (d:=G.nx) (m:=1) (k:=1) (sz:=2) (z:=.agg #[str [],str []]) (bytes:=32) rfl kq kq underlying42 kq rfl dq dq kq g2.2 a5 dq iq iq rfl k1) ?_;refine EO.gs 1 9 Z kq ?_;refine EO.op kq (gC (b:=s.nx) (off:=4) (w:=w2) rfl kq kq k2 k3 kq m1.2 iq) ?_;refine EO.nil ?_;have e3:=m1.put (iM 1 ((U:Nat):Int) wh [] w2);refine⟨rfl,w2,[(g,F),(g++[120],[])],.inr ⟨g,iU p.v [],I,ho,a3,by rw[W]⟩,k4.fk (aP.set (K:=fun y=>y=s.nx) (aP.refl Z) (fun _=>rfl) _) (fun y M=>by have:=k6 y M;have:=e1.1;simp at *;omega),aP.set f4 (fun z=>absurd z (Nat.lt_irrefl _)) _,e3,Yw,aN kq⟩
 rintro e a' S2 ⟨rfl,A,aI,hA,a0,a7,a6,ak,x2,rfl⟩;have h2:=h.fk (m':=m+5) a7 (by have:=h.z;omega);have⟨ad,ZB,ZL⟩:=a0.len;have Vn:=a0.m9;have⟨w,N,c1,O,c3,c4⟩:=h2.node (kd:=1) (pa:=((U:Nat):Int)) (nm:=wh) (tx:=[]) a0 hN σ.row rfl false;have D:ux σ ⟨σ.nodes++[⟨1,((σ.cur:Nat):Int),wh,[],aI⟩],if aY wh jI=true then σ.row else σ.row++[σ.nodes.length],false⟩:=.inr (.inr (.inr ⟨wh,aI,by rw[uU];exact hE,hA,hR,rfl⟩));have⟨w',S4,R,d2,d3,d4⟩:=O.push σ.nodes.length (by show σ.row.length≤1000;omega);obtain⟨Zp,ZC,Yt⟩:∃ad cp,w=.slice ad (σ.nodes.length+1) cp:=by obtain⟨xs,⟨d,c,fz,e,_⟩,q⟩:=O.n;exact⟨some ⟨d,0,none⟩,c,by rw[e,q.1];simp⟩
 rw[← H] at D;refine EW.seq (EW.region kq ?_);refine EO.gs 1 9 S2 kq ?_;refine EO.op kq (gX (b:=s.nx) (off:=0) (n:=5) (r:=#[num 1,num (U:Nat),str wh,str [],A]) rfl underlying44 rfl kq kq a6.2 iq kq) ?_;refine EO.go 1 9 kq ?_;refine EO.cV (S2.add (iM 1 ((U:Nat):Int) wh [] A)) kq ?_;refine EO.op kq (eF (sl:=v5) (news:=[num 1,num ((U:Nat):Int),str wh,str [],A]) (d:=S2.nx) (m:=1) (k:=1) (sz:=5) (z:=tS) (bytes:=72) rfl kq kq underlying38 kq rfl dq dq kq c4 c3 dq iq iq (by show((num 1).oneCell'&&((num (U:Nat)).oneCell'&&((str wh).oneCell'&&((str []).oneCell'&&(A.oneCell'&&true)))))=true;rw[Vn.2.2.1];rfl) c1) ?_;refine EO.fin 9 kq ?_;refine EW.cV N kq ?_;refine EW.seq (EW.go 5 kq ?_);refine EW.cV N kq ?_;subst Yt;refine EW.seq (EW.region kq ?_);refine EO.go 1 9 kq ?_;refine EO.op kq (aU (u:=str wh) (w:=str jI) rfl kq kq (show _=some (Value.bool (!aY wh jI)) from rfl)) ?_;refine EO.nil ?_;refine EW.cV N kq ?_;cases a2:aY wh jI with
 | true =>rw[a2,ip rfl] at D;refine EW.dL kq (EW.skip ?_);exact⟨.inl rfl,_,_,_,D,O.mono oq,aN kq⟩
 | false =>rw[a2,iw dq] at D;refine EW.ew kq ?_;refine EW.region kq ?_;refine EO.go 3 9 kq ?_;refine EO.op kq (fQ (i:=((σ.nodes.length+1:Nat):Int)) (j:=1) (r:=((σ.nodes.length:Nat):Int)) rfl kq kq oq oq) ?_;refine EO.go 1 9 kq ?_;refine EO.cV (N.add (.cells #[num (σ.nodes.length:Nat)] 3)) kq ?_;refine EO.op kq (eF (sl:=v6) (news:=[num ((σ.nodes.length:Nat):Int)]) (d:=N.nx) (m:=1) (k:=1) (sz:=1) (z:=num 0) (bytes:=8) rfl kq kq underlying25 kq rfl dq dq kq d4 d3 dq iq iq rfl R) ?_;refine EO.fin 9 kq ?_;exact⟨.inl rfl,_,_,_,D,d2.mono oq,aN kq⟩
end
end
section
open Go.Conc Go.RowKit Go.Lib Tryz
variable {B B9 Bo Br b cp i kd m0 n nf off pb rd sz:Nat}{nm ti tr:Bq}{ps:List gd}{m:List (Bq)}{x:Operand}{at_ av dv pv wv:Value}{us:List Nd}{u:Nd}{P:Program}{kt:TypeId→Bool}{c:ft}{a:TL}{s s0:AS}{o:Oper}{e t:TypeId}{hi lo:Option Operand}{cs:Aq}{fz:Nat × Nat}{aI:jd}{K:Nat→Prop}{l vs ws:Vq}
def GZ(h:kd<9)(U:kd≠0)(a:kd≠8):jM.getD kd []∈[qu,km,nB,nI,rh,Cp,jI]∧aY (jM.getD kd []) []=false:=by
 match kd,h with
 | 0,_=>exact absurd rfl U
 | 1,_=>decide
 | 2,_=>decide
 | 3,_=>decide
 | 4,_=>decide
 | 5,_=>decide
 | 6,_=>decide
 | 7,_=>decide
 | 8,_=>exact absurd rfl a
section
variable {pr:Prim}{s0 s s':AS}{v5 v6:Value}{σ:PS}
def Nx(A:∀f,f∈yQ→pr f=none){p:gd}(F:kH s pb off ps)(D:ps[i]?=some p)(hn:ps.length=n){m:Nat}(h:PM s0 s v5 v6 σ m)(Z:PI σ)(G:σ.nodes.length≤1000)(hi:i<60)(hk:kd<9){x:Nq} :
  Ew pr (GL (JS Tryz.f27.body)) (EQ ti (.slice (some ⟨pb,off,none⟩) n cp) v5 v6 σ.wd i σ.cur σ.nm (inl σ.nm) kd (jM.getD kd []) x) s (Rq s0 ti (.slice (some ⟨pb,off,none⟩) n cp) i σ (m+12)):=by
 have⟨u,hu,ak,a7,aj⟩:=Z.at;have ZH:=Z.len;have⟨t,a,cs,rf,q,Ra,B,B8,Ob⟩:=h.r.at a7;by_cases Y:kd=8
 ·subst Y;have hw:jM.getD 8 []=[]:=rfl;rw[hw];refine EW.seq (EW.seq (EW.region kq ?_));subst q;refine EO.go 5 9 kq ?_;by_cases h2:2≤σ.row.length
  ·refine EO.op kq (aU (u:=num (σ.row.length:Nat)) (w:=num 1) rfl kq kq (e0 (b:=true) (tD oq))) ?_;refine EO.fin 9 kq ?_;refine EW.cV s kq ?_;refine EW.ew kq ?_;refine EW.seq (EW.region kq ?_);refine EO.go 3 9 kq ?_;refine EO.op kq (fQ (i:=((σ.row.length:Nat):Int)) (j:=1) (r:=((σ.row.length-1:Nat):Int)) rfl kq kq oq oq) ?_;refine EO.op kq (qz (b:=t) (off:=0) (n:=σ.row.length) (cp:=a) (i:=0) (j:=σ.row.length-1) (sz:=1) rfl underlying25 kq B.2 kq ((show _=bH σ.row.length a none (some (num ((σ.row.length-1:Nat):Int))) by kernel_rfl).trans ((p9 oq oq).trans (by rw[Int.toNat_natCast]))) oq) ?_;rw[show σ.row.length-1-0=σ.row.length-1 by omega,show a-0=a by omega];refine EO.fin 9 kq ?_;refine EW.cV s kq ?_;refine EW.seq (EW.go 5 kq ?_);refine EW.cV s kq ?_;refine EW.exit ⟨.inr rfl,v5,.slice (sq t) (σ.row.length-1) a,_,.inr (.inl ⟨h2,rfl⟩),⟨h.n,?_,h.nn,fun y hy=>h.nr y ?_,h.f,lT h.z (Nat.le_add_right _ _)⟩,aN kq⟩
   ·refine .inr ⟨t,a,cs,rf,iq,by simp;omega,B.1,B.2,fun j k hj=>?_⟩;rcases h.r with ⟨e,_⟩|⟨d',c',lE,f',e,q1,q2,q3,q4⟩
    ·cases e
    ·cases e;rw[B.2] at q3;cases q3;have E:σ.row.dropLast[j]?=some k:=hj;have I:=(gS.1 E).1;rw[List.getElem?_dropLast,ip (by simpa using I)] at E;exact q4 j k E
   ·have⟨o,sp,n',m',e⟩:=hy;cases e;exact⟨0,none,_,_,rfl⟩
  ·refine EO.op kq (aU (u:=num (σ.row.length:Nat)) (w:=num 1) rfl kq kq (e0 (b:=false) (fD oq))) ?_;refine EO.fin 9 kq ?_;refine EW.cV s kq ?_;refine EW.dL kq (EW.skip ?_);refine EW.seq (EW.seq (EW.go 5 kq ?_));refine EW.cV s kq ?_;refine EW.dL kq (EW.skip ?_);refine EW.seq (EW.seq (EW.go 9 kq ?_));refine EW.cV s kq ?_;refine EW.ew kq ?_;refine EW.exit ?_;exact⟨.inr rfl,_,_,_,.inl rfl,h.mono (Nat.le_add_right _ _),aN kq⟩
 refine EW.seq (EW.seq (EW.region kq ?_));refine EO.go 1 9 kq ?_;refine EO.op kq (aU (u:=num (kd:Nat)) (w:=num 8) rfl kq kq (gP (b:=false) (bF.2 oq))) ?_;refine EO.fin 9 kq ?_;refine EW.cV s kq ?_;refine EW.dL kq (EW.skip ?_);by_cases X:kd=0
 ·subst X;have⟨al,aq,ao,ag,af⟩:=F;have⟨N,pk,M,VG,pkv⟩:=af i p D;have SN:=(gS.1 D).1;have⟨g,J⟩:=qo (pr:=pr) (s:=s) (A 29 dq) N.2.1;have XP:=g.1;have⟨V,K,H⟩:=Iu (pr:=pr) (s:=s) (l:=cF (iU p.s [])) (A 45 dq) oq;have⟨w,O,c1,c2,c3,c4⟩:=h.node (kd:=2) (pa:=((σ.cur:Nat):Int)) (nm:=[]) (tx:=cF (iU p.s [])) (at_:=aD) (aI:=[]) (.inl ⟨rfl,rfl⟩) G σ.row rfl true;have L:∀(_:V=false) (_:σ.wd=false) (_:aY σ.nm rh=false),ux σ ⟨σ.nodes++[⟨2,((σ.cur:Nat):Int),[],cF (iU p.s []),[]⟩],σ.row,true⟩:=fun e1 e2 e3=>.inr (.inr (.inl ⟨_,g,fun e=>(by rw[H e] at e1;cases e1),e2,e3,rfl⟩));generalize cF (iU p.s [])=lt at *;generalize c:σ.wd=wd at *;generalize uU:σ.nm=nm at *;generalize ZQ:σ.cur=T at *;refine EW.seq (EW.seq (EW.go 5 kq ?_));refine EW.cV s kq ?_;refine EW.ew kq ?_;refine EW.seq (EW.region kq ?_);refine EO.gs 2 9 s kq ?_;refine EO.op kq (iv (b:=pb) (off:=off) (n:=n) (cp:=cp) (k:=off+i*4) (sp:=none) (kd:=.i64) (j:=(i:Nat)) (sz:=4) rfl underlying48 kq kq kq oq oq oq) ?_;refine EO.gs 1 9 s kq ?_;refine EO.op kq (wW (b:=pb) (off:=off+i*4+1) (v:=str p.s) rfl underlying9 rfl kq ag.2 M rfl) ?_;refine EO.gc 0 9 kq J ?_;refine EO.fin 9 kq ?_;refine EW.cV s kq ?_;refine EW.seq (EW.region kq ?_);refine EO.gc 1 9 kq K ?_;refine EO.fin 9 kq ?_;refine EW.cV s kq ?_;cases V with
  | true =>refine EW.seq (EW.seq (EW.go 9 kq ?_));refine EW.cV s kq ?_;refine EW.dL kq (EW.skip ?_);refine EW.exit ?_;exact⟨.inr rfl,_,_,_,.inl rfl,h.mono (Nat.le_add_right _ _),by rw[c];exact aN kq⟩
  | false =>
   cases wd with
   | true =>refine EW.seq (EW.seq (EW.go 9 kq ?_));refine EW.cV s kq ?_;refine EW.dL kq (EW.skip ?_);refine EW.exit ?_;exact⟨.inr rfl,_,_,_,.inl rfl,h.mono (Nat.le_add_right _ _),by rw[c];exact aN kq⟩
   | false =>
    refine EW.seq (EW.seq (EW.region kq ?_));refine EO.go 8 9 kq ?_;refine EO.op kq (aU (u:=str nm) (w:=str rh) rfl kq kq (show _=some (Value.bool (!aY nm rh)) from rfl)) ?_;cases ah:aY nm rh with
    | true =>refine EO.fin 9 kq ?_;refine EW.cV s kq ?_;refine EW.dL kq (EW.skip ?_);refine EW.exit ?_;exact⟨.inr rfl,_,_,_,.inl rfl,h.mono (Nat.le_add_right _ _),by rw[c];exact aN kq⟩
    | false =>refine EO.fin 9 kq ?_;refine EW.cV s kq ?_;refine EW.ew kq ?_;refine EW.seq (EW.region kq ?_);refine EO.go 5 9 kq ?_;refine EO.cV (s.add (iM 2 ((T:Nat):Int) [] lt aD)) kq ?_;refine EO.op kq (eF (sl:=v5) (news:=[num 2,num ((T:Nat):Int),str [],str lt,aD]) (d:=s.nx) (m:=1) (k:=1) (sz:=5) (z:=tS) (bytes:=72) rfl kq kq underlying38 kq rfl dq dq kq c4 c3 dq iq iq rfl c1) ?_;refine EO.fin 9 kq ?_;refine EW.cV O kq ?_;refine EW.go 5 kq ?_;refine EW.cV O kq ?_;refine EW.exit ?_;exact⟨.inr rfl,_,_,_,L rfl rfl ah,c2.mono oq,aN kq⟩
 have⟨S,ai⟩:=GZ hk X Y;generalize jM.getD kd []=U at *;refine EW.seq (EW.seq (EW.region kq ?_));refine EO.go 1 9 kq ?_;refine EO.op kq (aU (u:=num (kd:Nat)) (w:=num 0) rfl kq kq (gP (b:=false) (bF.2 oq))) ?_;refine EO.fin 9 kq ?_;refine EW.cV s kq ?_;refine EW.dL kq (EW.skip ?_);subst q;refine EW.seq (EW.seq (EW.region kq ?_));refine EO.go 1 9 kq ?_;refine EO.op kq (aU (u:=str U) (w:=str []) rfl kq kq (gO (b:=false) ai)) ?_;refine EO.go 3 9 kq ?_;by_cases hR:σ.row.length≤20
 ·refine EO.op kq (aU (u:=num (σ.row.length:Nat)) (w:=num 20) rfl kq kq (e0 (b:=false) (fD oq))) ?_;refine EO.go 3 9 kq ?_;refine EO.op kq (aU (u:=str U) (w:=str Cp) rfl kq kq (gO (b:=aY U Cp) rfl)) ?_;refine EO.go 1 9 kq ?_;refine EO.op kq (aU (u:=str σ.nm) (w:=str rh) rfl kq kq (gO (b:=aY σ.nm rh) rfl)) ?_;generalize P:aY U Cp=C;generalize Q:aY σ.nm rh=W;by_cases R:C=W
  ·subst R;generalize ae:inl σ.nm=bi;cases bi with
   | false =>
    cases C;all_goals
     refine EO.fin 9 kq ?_
     refine EW.cV s kq ?_
     refine EW.dL kq (EW.skip ?_)
     refine EW.fill (EQ ti (.slice (some ⟨pb,off,none⟩) n cp) v5 (.slice (sq t) σ.row.length a) σ.wd i σ.cur σ.nm false kd U) kq ?_
     intro x2
     exact Gs A F D hn h G hi ⟨S,by rw[P,Q],fun e=>(by rw[ae] at e;cases e)⟩ hR
   | true =>
    cases C;all_goals
     refine EO.go 6 9 kq ?_
     refine EO.op kq (aU (u:=str U) (w:=str qu) rfl kq kq (gO (b:=aY U qu) rfl)) ?_
     generalize aa:aY U qu=bd
     cases bd with
     | true =>refine EO.fin 9 kq ?_;refine EW.cV s kq ?_;refine EW.ew kq ?_;refine EW.exit ?_;exact⟨.inr rfl,_,_,_,.inl rfl,h.mono (Nat.le_add_right _ _),aN kq⟩
     | false =>
      refine EO.go 2 9 kq ?_;refine EO.op kq (aU (u:=str U) (w:=str rh) rfl kq kq (gO (b:=aY U rh) rfl)) ?_;generalize ab:aY U rh=be;cases be with
      | true =>refine EO.fin 9 kq ?_;refine EW.cV s kq ?_;refine EW.ew kq ?_;refine EW.exit ?_;exact⟨.inr rfl,_,_,_,.inl rfl,h.mono (Nat.le_add_right _ _),aN kq⟩
      | false =>refine EO.fin 9 kq ?_;refine EW.cV s kq ?_;refine EW.dL kq (EW.skip ?_);refine EW.fill (EQ ti (.slice (some ⟨pb,off,none⟩) n cp) v5 (.slice (sq t) σ.row.length a) σ.wd i σ.cur σ.nm true kd U) kq ?_;intro x2;exact Gs A F D hn h G hi ⟨S,by rw[P,Q],fun _=>⟨aa,ab⟩⟩ hR
  ·cases C<;>cases W<;>first|exact absurd rfl R|skip
   all_goals
    refine EO.fin 9 kq ?_
    refine EW.cV s kq ?_
    refine EW.ew kq ?_
    refine EW.exit ?_
    exact⟨.inr rfl,_,_,_,.inl rfl,h.mono (Nat.le_add_right _ _),aN kq⟩
 ·refine EO.op kq (aU (u:=num (σ.row.length:Nat)) (w:=num 20) rfl kq kq (e0 (b:=true) (tD oq))) ?_;refine EO.fin 9 kq ?_;refine EW.cV s kq ?_;refine EW.ew kq ?_;refine EW.exit ?_;exact⟨.inr rfl,_,_,_,.inl rfl,h.mono (Nat.le_add_right _ _),aN kq⟩
end
abbrev cP:Bq:=[104,116,109,108]
abbrev cf:Bq:=[104,101,97,100]
abbrev aQ:Bq:=[116,105,116,108,101]
abbrev cG:Bq:=[98,111,100,121]
abbrev cT:Nd:=⟨1,-1,cP,[],[]⟩
abbrev dp:Nd:=⟨1,0,cf,[],[]⟩
def aS(lt:Bq):List Nd:=if lt=[] then [cT,dp] else [cT,dp,⟨1,1,aQ,[],[]⟩,⟨2,2,[],lt,[]⟩]
def cX(lt:Bq):PS:=⟨aS lt++[⟨1,0,cG,[],[]⟩],[(aS lt).length],false⟩
def jm(lt:Bq):2≤(aS lt).length∧(aS lt).length≤4:=by unfold aS;split<;>simp
def pj(lt:Bq):PI (cX lt):=⟨by simp[cX],fun k U=>by simp[cX] at U ⊢;omega,by simp[cX]⟩
def z7(s:AS)(pv:Value)(ps:List gd):Prop:=∃ad cp,pv=.slice ad ps.length cp∧(ps≠[]→∃pb off,ad=some ⟨pb,off,none⟩∧kH s pb off ps)
section
variable {pr:Prim}{s0 s s':AS}{v5 v6:Value}{σ:PS}
def kH.fk(h:kH s pb off ps)(U:aP (fun _=>False) s s'):kH s' pb off ps:=by have⟨a,c,b,h1,h2⟩:=h;exact⟨a,c,b,h1.fr U id,h2⟩
def M6(a2:∀f,f∈yQ→pr f=none){lt:Bq}(a4:z7 s0 pv ps)(hl:ps.length≤9223372036854775807)(h:PM s0 s v5 v6 (cX lt) m0){x:Nq}{C:Code}(hC:C=match Tryz.f27.body with|some (.seq _ (.seq _ (.seq _ (.seq _ (.seq _ (.seq _ (.seq _ (.seq (.seq _ (.block _ c)) _))))))))=>c|_=>.skip) :
  Ew pr C (Bl lt pv v5 v6 (cX lt).wd 0 x) s (fun e a' s'=>e=.exit 0∧∃i σ U a0,i≤60∧nG i (cX lt) σ∧PM s0 s' U a0 σ (m0+1000)∧∃i x,a'=Bl lt pv U a0 σ.wd i x):=by
 subst hC;refine EW.dS (fun m a' s'=>∃i σ U a0,i+m=min ps.length 60∧nG i (cX lt) σ∧PM s0 s' U a0 σ (m0+13*i)∧PI σ∧σ.nodes.length≤5+i∧∃x,a'=Bl lt pv U a0 σ.wd i x) ?_ (min ps.length 60) _ _ ⟨0,cX lt,v5,v6,oq,rfl,h,pj lt,by have:=(jm lt).2;simp[cX];omega,x,rfl⟩;rintro m a' S ⟨i,σ,v5,v6,XJ,Tg,hM,hI,hN,x,rfl⟩;obtain⟨ad,cp,rfl,Vg⟩:=a4;refine EW.seq (EW.seq (EW.region kq (EO.go 3 9 kq ?_)));cases m with
 | zero =>
  by_cases a5:i<ps.length
  ·refine EO.op kq (aU (u:=num (i:Nat)) (w:=num (ps.length:Nat)) rfl kq kq (aX (b:=true) (tD oq))) (EO.go 2 9 kq (EO.op kq (aU (u:=num (i:Nat)) (w:=num 60) rfl kq kq (aX (b:=false) (fD oq))) (EO.fin 9 kq (EW.cV S kq (EW.dL kq (EW.exit ?_))))));exact⟨rfl,i,σ,_,_,oq,Tg,hM.mono oq,i,aN kq⟩
  ·refine EO.op kq (aU (u:=num (i:Nat)) (w:=num (ps.length:Nat)) rfl kq kq (aX (b:=false) (fD oq))) (EO.fin 9 kq (EW.cV S kq (EW.dL kq (EW.exit ?_))));exact⟨rfl,i,σ,_,_,oq,Tg,hM.mono oq,i,aN kq⟩
 | succ m =>
  have a1:i<ps.length:=oq
  obtain⟨pb,off,rfl,a3⟩:=Vg (fun e=>by rw[e] at a1;simp at a1);have hp:ps[i]?=some ps[i]:=gE a1;refine EO.op kq (aU (u:=num (i:Nat)) (w:=num (ps.length:Nat)) rfl kq kq (aX (b:=true) (tD oq))) (EO.go 2 9 kq (EO.op kq (aU (u:=num (i:Nat)) (w:=num 60) rfl kq kq (aX (b:=true) (tD oq))) (EO.fin 9 kq (EW.cV S kq (EW.ew kq (EW.skip ?_))))));refine EW.fill (Bl lt (.slice (some ⟨pb,off,none⟩) ps.length cp) v5 v6 σ.wd i) kq ?_;intro x1;refine EW.seq (EW.block (EW.mono (M5 (Q:=Rq s0 lt (.slice (some ⟨pb,off,none⟩) ps.length cp) i σ (m0+13*i+1+12)) a2 (a3.fk hM.f) hp rfl hM hI oq oq fun S2 kd x2 h1 h2 h3 h4=>Nx a2 h2 hp rfl h1 hI oq oq h3) fun e a' s' hq=>?_));obtain⟨he,U,a0,fo,Fl,Xc,x3,rfl⟩:=hq;have⟨q1,q2,q3⟩:=hI.step Fl;rcases he with rfl|rfl
  all_goals
   refine EW.region kq ?_
   refine EO.go 1 9 kq ?_
   refine EO.op kq (gW (i:=((i:Nat):Int)) (j:=1) (r:=((i+1:Nat):Int)) rfl kq kq oq oq) ?_
   refine EO.fin 9 kq ?_
   exact⟨m,oq,i+1,fo,U,a0,oq,⟨σ,Tg,Fl⟩,Xc.mono oq,q1,oq,aN kq⟩
def ED(G:∀f,f∈yQ→pr f=none)(a6:ti.length≤9223372036854775807)(Y:z7 s pv ps)(hl:ps.length≤9223372036854775807) :
  ∃h v g ls i,Ef pr 27 #[str ti,pv] s v h∧dO ls∧i≤60∧nG i (cX (cF ls)) g∧(∃A,lq h v A∧eu h A g.nodes)∧(∀x,blk v x→s.nx≤x)∧aP (fun _=>False) s h∧h.nx≤s.nx+1100:=by
 have a2:=Y;have⟨t,y,T,_⟩:=a2;subst T;have U:=Has.new s (.cells (bC [⟨1,-1,cP,[],aD⟩,⟨1,0,cf,[],aD⟩]) 44);have Z:PM s (s.add (.cells (bC [⟨1,-1,cP,[],aD⟩,⟨1,0,cf,[],aD⟩]) 44)) (.slice (sq s.nx) 2 2) aD ⟨[cT,dp],[],false⟩ (s.nx+1):=by
  refine⟨⟨[⟨1,-1,cP,[],aD⟩,⟨1,0,cf,[],aD⟩],⟨s.nx,2,_,rfl,U⟩,rfl,fun i x u U hu=>?_⟩,.inl ⟨rfl,rfl⟩,fun x U=>Nat.le_of_eq (cY U).symm,fun x U=>(cz U).elim,(aP.refl s).add _,lr⟩;match i with
  | 0=>cases U;cases hu;exact⟨rfl,rfl,rfl,rfl,.inl ⟨rfl,rfl⟩⟩
  | 1=>cases U;cases hu;exact⟨rfl,rfl,rfl,rfl,.inl ⟨rfl,rfl⟩⟩
  | i+2=>simp at U
 have⟨a4,a5⟩:=qo (pr:=pr) (s:=s.add (.cells (bC [⟨1,-1,cP,[],aD⟩,⟨1,0,cf,[],aD⟩]) 44)) (G 29 dq) a6;suffices hh:Ew pr (match Tryz.f27.body with|some c=>c|none=>.skip) ((#[str ti,.slice t ps.length y]:Aq).toList++List.replicate (Tryz.f27.ntmps-(#[str ti,.slice t ps.length y]:Aq).toList.length) undef) s (fun e r l=>(e=.normal∨e=.ret)∧∃v g i,du prog Tryz.f27 r l=some v∧i≤60∧nG i (cX (cF (iU ti []))) g∧(∃A,lq l v A∧eu l A g.nodes)∧(∀x,blk v x→s.nx≤x)∧aP (fun _=>False) s l∧l.nx≤s.nx+1100) by have⟨m,e,r,l,q1,q2,v,g,i,q3,q4⟩:=hh;exact⟨l,v,g,_,i,EF.of (G 27 dq) func27 rfl ⟨m,e,r,l,q1,q2,q3,rfl⟩,a4,q4⟩
 generalize cF (iU ti [])=a at *;refine EW.seq (EW.go 5 kq (EW.seq (EW.go 9 kq (EW.cV (s.add (.cells (bC [⟨1,-1,cP,[],aD⟩,⟨1,0,cf,[],aD⟩]) 44)) kq ?_))));generalize a7:s.add (.cells (bC [⟨1,-1,cP,[],aD⟩,⟨1,0,cf,[],aD⟩]) 44)=B at *;refine EW.seq (EW.region kq (EO.gc 1 9 kq a5 (EO.fin 9 kq (EW.cV B kq ?_))));refine EW.fill (fun x=>[str a,.slice t ps.length y,x 2,x 3,aD,.slice (sq s.nx) 2 2]++iy x 6 184) kq ?_;intro x0;refine EW.seq (EW.mono (Q:=fun e r h=>e=.normal∧∃C,PM s h C aD ⟨aS a,[],false⟩ (s.nx+5)∧∃x,r=[str a,.slice t ps.length y,x 2,x 3,aD,C]++iy x 6 184) ?_ ?_)
 ·by_cases N:a=[]
  ·subst N;refine EW.seq (EW.go 5 kq (EW.cV B kq (EW.dL kq (EW.skip ?_))));exact⟨rfl,_,Z.mono oq,aN kq⟩
  ·have⟨w,p,c1,c2,c3,c4⟩:=Z.node (kd:=1) (pa:=1) (nm:=aQ) (tx:=[]) (at_:=aD) (aI:=[]) (.inl ⟨rfl,rfl⟩) dq [] rfl false;have⟨w',E,J,K,L,M⟩:=c2.node (kd:=2) (pa:=2) (nm:=[]) (tx:=a) (at_:=aD) (aI:=[]) (.inl ⟨rfl,rfl⟩) dq [] rfl false;have R:aS a=[cT,dp,⟨1,1,aQ,[],[]⟩,⟨2,2,[],a,[]⟩]:=by unfold aS;rw[iw N]
   refine EW.seq (EW.region kq (EO.go 1 9 kq (EO.op kq (aU (u:=str a) (w:=str []) rfl kq kq (by unfold dj;simp only;rw[gL N])) (EO.nil (EW.cV B kq (EW.ew kq (EW.seq (EW.region kq (EO.go 3 9 kq (EO.cV (B.add (iM 1 1 aQ [] aD)) kq (EO.op kq (eF (sl:=.slice (sq s.nx) 2 2) (news:=[num 1,num 1,str aQ,str [],aD]) (d:=B.nx) (m:=1) (k:=1) (sz:=5) (z:=tS) (bytes:=72) rfl kq kq underlying38 kq rfl dq dq kq c4 c3 dq iq iq rfl c1) (EO.fin 9 kq (EW.cV p kq (EW.region kq (EO.go 4 9 kq (EO.cV (p.add (iM 2 2 [] a aD)) kq (EO.op kq (eF (sl:=w) (news:=[num 2,num 2,str [],str a,aD]) (d:=p.nx) (m:=1) (k:=1) (sz:=5) (z:=tS) (bytes:=72) rfl kq kq underlying38 kq rfl dq dq kq M L dq iq iq rfl J) (EO.fin 9 kq ?_))))))))))))))))));exact⟨rfl,w',by rw[R];exact K,aN kq⟩
 rintro e r o ⟨rfl,C,F,x2,rfl⟩;have⟨Q6,zW⟩:=jm a;obtain⟨H,I,W⟩:∃t y,C=.slice t (aS a).length y:=by obtain⟨A,⟨d,c,fz,e,_⟩,q⟩:=F.n;exact⟨some ⟨d,0,none⟩,c,by rw[e,q.1]⟩
 have hr:=Has.new o (.cells #[num ((aS a).length:Nat)] 3);have O:PM s (o.add (.cells #[num ((aS a).length:Nat)] 3)) C (.slice (sq o.nx) 1 1) ⟨aS a,[(aS a).length],false⟩ (s.nx+6):=by
  have q:=F.add (.cells #[num ((aS a).length:Nat)] 3);refine⟨q.n,.inr ⟨o.nx,1,_,_,rfl,iq,hr.1,hr.2,fun j k hj=>?_⟩,q.nn,fun x U=>by have:=cY U;have:=F.f.1;omega,q.f,q.z⟩;match j with
  | 0=>cases hj;rfl
  | j+1=>simp at hj
 have⟨w,E,J,K,L,M⟩:=O.node (kd:=1) (pa:=0) (nm:=cG) (tx:=[]) (at_:=aD) (aI:=[]) (.inl ⟨rfl,rfl⟩) (by show(aS a).length≤1000;omega) [(aS a).length] rfl false;generalize P:(aS a).length=D at *;subst W;refine EW.seq (EW.region kq (EO.go 3 9 kq (EO.cV (o.add (.cells #[num (D:Nat)] 3)) kq ?_)));generalize U7:o.add (.cells #[num (D:Nat)] 3)=p at *;refine EO.fin 9 kq (EW.cV p kq (EW.seq (EW.region kq (EO.go 3 9 kq (EO.cV (p.add (iM 1 0 cG [] aD)) kq (EO.op kq (eF (sl:=.slice H D I) (news:=[num 1,num 0,str cG,str [],aD]) (d:=p.nx) (m:=1) (k:=1) (sz:=5) (z:=tS) (bytes:=72) rfl kq kq underlying38 kq rfl dq dq kq M L dq iq iq rfl J) (EO.fin 9 kq (EW.cV E kq (EW.seq (EW.go 5 kq (EW.seq (EW.seq (EW.go 5 kq (EW.cV E kq ?_))))))))))))));refine EW.fill (Bl a (.slice t ps.length y) w (.slice (sq o.nx) 1 1) false 0) kq ?_;intro x4;have S:cX a=⟨aS a++[⟨1,0,cG,[],[]⟩],[D],false⟩:=by unfold cX;rw[P]
 refine EW.block (EW.mono (M6 G Y hl (by rw[S];exact K) (x:=x4) rfl) fun e r h hq=>?_);obtain⟨rfl,i,g,X,UL,hi,V,b,i',x5,rfl⟩:=hq;refine EW.seq (EW.go 5 kq ?_);exact EW.ret ⟨.inr rfl,X,g,i,kq,hi,V,b.n,b.nn,b.f,lT b.z oq⟩
end
def cg (us:List Nd):Nat→List Nat
 | 0=>[]
 | i+1=>match us[i]? with
  | some u=>ea u.parent (cg us i)++(if u.kind=1∧aY u.name jI=false then [i] else [])
  | none=>cg us i
def pD:∀{i:Nat},i≤us.length→cg (us++[u]) i=cg us i
 | 0,_=>rfl
 | i+1,h=>by unfold cg;rw[pD (i:=i) oq,List.getElem?_append_left oq]
def mY(us:List Nd):∀i,∀k∈cg us i,k<i
 | 0,k,U=>by cases U
 | i+1,k,U=>by
  unfold cg at U;split at U
  ·rcases List.mem_append.1 U with z|z
   ·have:=mY us i k (r9 z);omega
   ·split at z
    ·simp at z;omega
    ·cases z
  ·have:=mY us i k U;omega
def oC{A B:List Nat}{k:Nat}(h:k∉B):ea (k:Nat) (A++k::B)=A++[k]∧cU (k:Nat) (A++k::B)=B:=by
 have h1:∀x∈B.reverse,decide (((x:Nat):Int)≠((k:Nat):Int))=true:=fun x a=>by rw[decide_eq_true_eq];intro e;exact h (by rw[← Int.ofNat.inj e];exact List.mem_reverse.1 a)
 have e:(A++k::B).reverse=B.reverse++k::A.reverse:=iq
 unfold ea cU;rw[e,List.dropWhile_append_of_pos h1,List.takeWhile_append_of_pos h1];simp
def rY(us:List Nd)(nf i:Nat)(u:Nd):Prop:=∃A k B pu,cg us i=0::(A++k::B)∧(0::(A++k::B)).Pairwise (·<·)∧(A++[k]).head?=some nf∧u.parent=((k:Nat):Int)∧us[k]?=some pu∧A.length≤20 ∧
 ((u.kind=2∧u.name=[]∧u.bU=[]∧(∃ls,dO ls∧u.text=cF ls∧cF ls≠[])∧aY pu.name rh=false∧∀v,us[i-1]?=some v→v.kind=2→v.parent≠u.parent) ∨
 (u.kind=1∧u.text=[]∧C3 pu.name u.name∧C1 u.bU∧A.length≤19))
def rY.app{v:Nd}(h:rY us nf i u)(m:i≤us.length)(q:0<i):rY (us++[v]) nf i u:=by have⟨A,k,B,p,h1,h2,h3,g,U,j,l⟩:=h;have n:=(gS.1 U).1;refine⟨A,k,B,p,by rw[pD m];exact h1,h2,h3,g,by rw[List.getElem?_append_left n];exact U,j,l.imp (fun ⟨a,b,c,d,e,f⟩=>⟨a,b,c,d,e,fun w o=>f w ?_⟩) id⟩;rwa [List.getElem?_append_left oq] at o
structure PV(lt:Bq)(σ:PS):Prop where
 I:PI σ
 len:(aS lt).length+1≤σ.nodes.length
 pre:σ.nodes.take ((aS lt).length+1)=(cX lt).nodes
 eL:∃ex,cg σ.nodes σ.nodes.length=0::(σ.row++ex)
 inc:(cg σ.nodes σ.nodes.length).Pairwise (·<·)
 hd:σ.row.head?=some (aS lt).length
 wd:∀u,σ.nodes[σ.nodes.length-1]?=some u→u.kind=2→(σ.wd=true∧u.parent=((σ.cur:Nat):Int))∨((σ.cur:Nat):Int)<u.parent
 ok:∀i u,σ.nodes[i]?=some u→(aS lt).length<i→rY σ.nodes (aS lt).length i u
def PS.HN{σ:PS}(h:σ.row≠[]):σ.row=σ.row.dropLast++[σ.cur]:=by
 have U:σ.row.getLast?=some σ.cur:=by
  unfold PS.cur;cases hr:σ.row with
  | nil=>exact absurd hr h
  | cons a l=>simp[List.getLastD,List.getLast?]
 have⟨ys,e⟩:=List.getLast?_eq_some_iff.1 U;generalize σ.cur=c at e;rw[e,List.dropLast_concat]
def Hp(lt:Bq):PV lt (cX lt):=by
 by_cases h:lt=[]
 ·subst h;refine⟨pj _,dq,rfl,⟨[],kq⟩,dq,rfl,fun u U d=>?_,fun i u U c=>?_⟩
  ·cases U;cases d
  ·have h1:=(gS.1 U).1;have e:(cX []).nodes.length=3:=rfl;have f:(aS []).length=2:=rfl;omega
 ·have b:aS lt=[cT,dp,⟨1,1,aQ,[],[]⟩,⟨2,2,[],lt,[]⟩]:=by unfold aS;rw[iw h]
  have a:cX lt=⟨[cT,dp,⟨1,1,aQ,[],[]⟩,⟨2,2,[],lt,[]⟩,⟨1,0,cG,[],[]⟩],[4],false⟩:=by unfold cX;rw[b];rfl
  refine⟨pj _,by rw[b,a];simp,by rw[b,a];rfl,⟨[],by rw[a];kernel_rfl⟩,?_,by rw[b,a];rfl,fun u U d=>?_,fun i u U c=>?_⟩;rotate_left
  ·rw[a] at U;cases U;cases d
  ·have h1:=(gS.1 U).1;rw[a] at h1;rw[b] at c;simp at h1 c;omega
  have e:cg (cX lt).nodes (cX lt).nodes.length=[0,4]:=by rw[a];kernel_rfl
  rw[e];decide
def PV.step{lt:Bq}{σ x:PS}(h:PV lt σ)(K:ux σ x):PV lt x:=by
 have p:=(h.I.step K).1;have f:=PS.HN h.I.ne;have⟨k,g⟩:=h.eL;have c:=h.inc;have⟨u,L,F,_,_⟩:=h.I.at;have t:∀(v:Nd) (s:Bool),v.parent=((σ.cur:Nat):Int)→((v.kind=2∧v.name=[]∧v.bU=[]∧(∃r,dO r∧v.text=cF r∧cF r≠[])∧aY σ.nm rh=false∧σ.wd=false∧s=true)∨(v.kind=1∧v.text=[]∧C3 σ.nm v.name∧C1 v.bU∧σ.row.length≤20))→PI ⟨σ.nodes++[v],if v.kind=1∧aY v.name jI=false then σ.row++[σ.nodes.length] else σ.row,s⟩→PV lt ⟨σ.nodes++[v],if v.kind=1∧aY v.name jI=false then σ.row++[σ.nodes.length] else σ.row,s⟩:=by
  intro v s y J O;have m:cg σ.nodes σ.nodes.length=(0::σ.row.dropLast)++σ.cur::k:=by rw[g];exact congrArg (0::·) ((congrArg (·++k) f).trans iq)
  have N:σ.cur∉k:=by
   intro z;rw[m] at c
   have:=(List.pairwise_append.1 c).2.1
   have:=(List.pairwise_cons.1 this).1 _ z;omega
  have j:=oC (A:=0::σ.row.dropLast) N;have n:cg (σ.nodes++[v]) (σ.nodes++[v]).length=0::(σ.row++(if v.kind=1∧aY v.name jI=false then [σ.nodes.length] else [])):=by rw[lA,List.length_singleton];unfold cg;rw[List.getElem?_append_right lr,Nat.sub_self,pD lr,m];simp only[List.getElem?_cons_zero];rw[y,j.1,show 0::(σ.row++(if v.kind=1∧aY v.name jI=false then [σ.nodes.length] else []))=(0::(σ.row.dropLast++[σ.cur]))++(if v.kind=1∧aY v.name jI=false then [σ.nodes.length] else []) by rw[← f];rfl];simp
  have G:=mY σ.nodes σ.nodes.length;have E:(0::σ.row).Pairwise (·<·):=by rw[g,show 0::(σ.row++k)=(0::σ.row)++k from rfl] at c;exact(List.pairwise_append.1 c).1
  refine⟨O,by have:=h.len;simp;omega,?_,?_,?_,?_,?_,?_⟩
  ·rw[List.take_append_of_le_length h.len];exact h.pre
  ·by_cases B:v.kind=1∧aY v.name jI=false
   ·refine⟨[],?_⟩;rw[n];simp only[ip B,List.append_nil]
   ·refine⟨[],?_⟩;rw[n];simp only[iw B,List.append_nil]
  ·rw[n,show ∀z:List Nat,0::(σ.row++z)=(0::σ.row)++z from fun _=>rfl,List.pairwise_append];refine⟨E,by split<;>simp,fun a C b j=>?_⟩;split at j
   ·simp only[List.mem_singleton] at j;subst j;refine G a ?_;rw[g];rcases List.mem_cons.1 C with rfl|C
    ·exact List.mem_cons_self
    ·exact List.mem_cons_of_mem _ (List.mem_append_left _ C)
   ·cases j
  ·have:σ.row.head?=some (aS lt).length:=h.hd;show(if v.kind=1∧aY v.name jI=false then σ.row++[σ.nodes.length] else σ.row).head?=_;split
   ·cases hr:σ.row with
    | nil=>exact absurd hr h.I.ne
    | cons a l=>rw[hr] at this;exact this
   ·exact this
  ·intro w o q;have e:w=v:=by have d:(σ.nodes++[v])[(σ.nodes++[v]).length-1]?=some w:=o;rw[lA,List.length_singleton,Nat.add_sub_cancel,List.getElem?_append_right lr,Nat.sub_self] at d;simpa using d.symm
   subst e;rcases J with ⟨k1,_,_,_,_,_,k7⟩|⟨k1,_⟩
   ·refine .inl ⟨k7,?_⟩;have B:¬(w.kind=1∧aY w.name jI=false):=fun z=>by rw[k1] at z;exact absurd z.1 dq
    have:(⟨σ.nodes++[w],if w.kind=1∧aY w.name jI=false then σ.row++[σ.nodes.length] else σ.row,s⟩:PS).cur=σ.cur:=by unfold PS.cur;simp only[iw B]
    rw[this];exact y
   ·rw[k1] at q;exact absurd q dq
  ·intro i w o S;have d:(σ.nodes++[v])[i]?=some w:=o;by_cases D:i<σ.nodes.length
   ·rw[List.getElem?_append_left D] at d;exact(h.ok i w d S).app oq oq
   ·have M:=(gS.1 d).1;obtain rfl:i=σ.nodes.length:=by simp at M;omega
    rw[List.getElem?_append_right lr,Nat.sub_self] at d;obtain rfl:v=w:=by simpa using d
    have P:=(gS.1 L).1;have T:σ.row.length=σ.row.dropLast.length+1:=by rw[List.length_dropLast];have:=List.length_pos_iff.2 h.I.ne;omega
    have V:=h.I.len;refine⟨σ.row.dropLast,σ.cur,k,u,by show cg (σ.nodes++[v]) _=_;rw[pD lr,m];rfl,by rw[m] at c;exact c,by rw[← f];exact h.hd,y,by show(σ.nodes++[v])[_]?=_;rw[List.getElem?_append_left P];exact L,oq,?_⟩;rw[F];rcases J with ⟨k1,k2,k3,k4,k5,k6,k7⟩|⟨k1,k2,k3,k4,k5⟩
    ·refine .inl ⟨k1,k2,k3,k4,k5,fun w o q e=>?_⟩;have W:=h.len;have d:(σ.nodes++[v])[σ.nodes.length-1]?=some w:=o;rw[List.getElem?_append_left oq] at d;rcases h.wd w d q with ⟨z,_⟩|z
     ·rw[k6] at z;cases z
     ·rw[e,y] at z;omega
    ·exact .inr ⟨k1,k2,k3,k4,oq⟩
 rcases K with rfl|⟨h2,rfl⟩|⟨r,q1,q2,q3,q4,rfl⟩|⟨nm,aI,q1,q2,q3,rfl⟩
 ·exact h
 ·have Q:σ.row.dropLast≠[]:=fun e=>by have:=congrArg List.length e;simp at this;omega
  have U:=PS.HN (σ:=⟨σ.nodes,σ.row.dropLast,false⟩) Q;have U:σ.row.dropLast=σ.row.dropLast.dropLast++[(⟨σ.nodes,σ.row.dropLast,false⟩:PS).cur]:=U;have G:(⟨σ.nodes,σ.row.dropLast,false⟩:PS).cur<σ.cur:=by
   generalize (⟨σ.nodes,σ.row.dropLast,false⟩:PS).cur=R at U;have e:cg σ.nodes σ.nodes.length=(0::σ.row.dropLast.dropLast)++R::σ.cur::k:=by rw[g];refine congrArg (0::·) ((congrArg (·++k) f).trans ?_);rw[U];simp
   rw[e] at c;exact(List.pairwise_cons.1 (List.pairwise_append.1 c).2.1).1 _ List.mem_cons_self
  refine⟨p,h.len,h.pre,⟨σ.cur::k,?_⟩,c,?_,fun w o q=>.inr ?_,h.ok⟩
  ·rw[g];exact congrArg (0::·) ((congrArg (·++k) f).trans iq)
  ·have H:=h.hd;show σ.row.dropLast.head?=_;cases hr:σ.row with
   | nil=>exact absurd hr h.I.ne
   | cons a l =>
    rw[hr] at H h2;cases l with
    | nil=>simp at h2
    | cons b l=>exact H
  ·rcases h.wd w o q with ⟨_,z⟩|z
   ·rw[z];omega
   ·omega
 ·have:=t ⟨2,((σ.cur:Nat):Int),[],cF r,[]⟩ true rfl (.inl ⟨rfl,rfl,rfl,⟨r,q1,rfl,q2⟩,q4,q3,rfl⟩);rw[iw (fun z=>absurd z.1 (show ¬((2:Int)=1) by decide))] at this;exact this p
 ·have:=t ⟨1,((σ.cur:Nat):Int),nm,[],aI⟩ false rfl (.inr ⟨rfl,rfl,q1,q2,q3⟩);by_cases j:aY nm jI=true
  ·rw[iw (fun z=>by rw[j] at z;exact absurd z.2 dq)] at this;rw[ip j] at p ⊢;exact this p
  ·rw[ip ⟨rfl,by simpa using j⟩] at this;rw[iw j] at p ⊢;exact this p
def PV.reach{lt:Bq}:∀{n:Nat} {σ:PS},nG n (cX lt) σ→PV lt σ
 | 0,σ,h=>by cases h;exact Hp lt
 | n+1,σ,⟨U,h1,h2⟩=>(PV.reach h1).step h2
def Nm(U:o.op=.slice t x lo hi none)(g:P.underlying t=some (.slice e))(h:a.at x=.slice (some ⟨b,off,none⟩) 0 0)(f:s.get b=some (.cells cs e fz))(i:bQ P e=some sz)(d:bH 0 0 (lo.map a.at) (hi.map a.at)=some (0,0)):bM P kt c a o s=some (.slice (some ⟨b,off,some 0⟩) 0 1,s):=by unfold bM;rw[iw (by rw[U];simp[eI]),U];simp only;unfold fP;rw[g,h];simp only[Option.map_none];rw[i,f];simp only[if_true];rw[d];rfl
def TS.mV(σ:TS)(nm:Bq)(aI:jd):TS:=if bX nm eT then σ.put ⟨1,0,nm,[],aI⟩ else σ.open_ nm aI
section
variable {s s':AS}{b:Nat}{nv rv av v v2 xw xq:Value}{xs:List bv}{σ:TS}{pr:Prim}{HK vK:List Nat}{w':Int}
def BT.upd(h:BT s b nv rv av xs σ)(i:cR s xw HK)(g:cR s xq vK)(r:∀x,blk xw x→¬blk xq x)(o:∀k∈HK,k<σ.nodes.length)(l:∀k∈vK,k<σ.nodes.length)(p:HK≠[])(d:HK.length≤40∧vK.length≤100000)(q:(∀x,blk xw x→blk rv x)∨∀x,blk xw x→s.nx≤x)(j:(∀x,blk xq x→blk av x)∨∀x,blk xq x→s.nx≤x):BT (s.set b (some (oD nv xw xq w'))) b nv xw xq xs ⟨σ.nodes,HK,vK,w'⟩∧dA b s (s.set b (some (oD nv xw xq w'))):=by have U:aP (fun y=>y=b) s (s.set b (some (oD nv xw xq w'))):=aP.set (K:=fun y=>y=b) (aP.refl s) (fun _=>rfl) _;have a:∀{y:Nat} {e:Aq} {t:TypeId} {f:Nat × Nat},Has s y (.cells e t f)→t≠183→y≠b:=fun c u=>c.ne h.b u;have g1:=h.b.put (oD nv xw xq w');refine⟨⟨g1,h.n.fk U fun y c=>by have⟨_,_,z⟩:=h.n.blk c;exact a z dq,h.m.fk U fun y e f c=>a c dq,i.fk U fun y c=>by have⟨_,_,z⟩:=i.blk c;exact a z dq,g.fk U fun y c=>by have⟨_,_,z⟩:=g.blk c;exact a z dq,r,o,l,p,h.sz.1,d.1,d.2⟩,dA.mk' h.b g1 (U.mono fun y _ z=>.inl z) (.inl rfl) q j⟩
def BT.H3(h:BT s b nv rv av xs σ)(w':Int):BT (s.set b (some (oD nv rv av w'))) b nv rv av xs ⟨σ.nodes,σ.row,σ.again,w'⟩∧dA b s (s.set b (some (oD nv rv av w'))):=h.upd h.r h.a h.ra h.lt h.la h.ne ⟨h.sz.2.1,h.sz.2.2⟩ (.inl fun _ z=>z) (.inl fun _ z=>z)
def MN(c:pr 220=none)(d:pr 223=none)(U:pr 217=none)(e:pr 232=none)(h:BX s b σ)(k:bY s at_ aI)(j:σ.nodes.length<100000) :
  ∃a,Ef pr 220 #[am b 0,at_] s (.tuple #[]) a∧BX a b { σ.open_ [104,101,97,100] aI with w:=1 }∧dA b s a:=by have⟨p,q,o,r,h⟩:=h;obtain⟨S,h1,⟨l,m,f,n,h2⟩,h3⟩:=A6 d U e h (nm:=[104,101,97,100]) k j;have⟨g,i⟩:=h2.H3 1;refine EF.gq c func220 rfl ?_;refine zr (zc 2 h1 (EO.nil (za S (zx (zg 3 S (zp (ys b 3 (num 1) h2.b.2 iq) (EO.nil ?_)))))));exact⟨.inl rfl,kq,⟨_,_,_,_,g⟩,h3.trans i⟩
abbrev dZ(t:eV):Obj:=.cells (ff t).toArray 60
def ve(F:pr 228=none)(D:pr 138=none)(C:pr 127=bB 127)(E:pr 223=none)(o:pr 217=none)(r:pr 232=none)(h:BX s b σ){t:eV}(j:bY s t.at_ aI)(z:σ.nodes.length<100000) :
  ∃i,Ef pr 228 #[am b 0,.agg (ff t).toArray] s (.tuple #[]) i∧BX i b (σ.mV t.name aI)∧dA b s i:=by
 have⟨X,Q,G,R,h⟩:=h;have⟨kd,tx,nm,l,e⟩:=t;have j:bY s l aI:=j;have⟨a,c,m⟩:=j.len;subst m;generalize aI.length=d at *;have p:=h.add (dZ ⟨kd,tx,nm,.slice a d c,e⟩);have k:=Has.new s (dZ ⟨kd,tx,nm,.slice a d c,e⟩);have q:=dA.add h (dZ ⟨kd,tx,nm,.slice a d c,e⟩);have B:bY (s.add (dZ ⟨kd,tx,nm,.slice a d c,e⟩)) (.slice a d c) aI:=j.fk ((aP.refl (K:=fun _=>False) s).add _) fun _ _=>id;generalize J:s.add (dZ ⟨kd,tx,nm,.slice a d c,e⟩)=S at *;have L:=yP (s:=S) D;have u:=p.add (.cells (eT.map str).toArray 9);have g:=k.add (.cells (eT.map str).toArray 9);have v:=dA.add p (.cells (eT.map str).toArray 9);have w:bY (S.add (.cells (eT.map str).toArray 9)) (.slice a d c) aI:=B.fk ((aP.refl (K:=fun _=>False) S).add _) fun _ _=>id;have A:=(dF.new S eT 13 rfl dq).is (pr:=pr) C nm;have M:=bL (P:=prog) (t:=9) underlying9 rfl k.2 (off:=2) rfl;have N:=bL (P:=prog) (t:=9) underlying9 rfl g.2 (off:=2) rfl;generalize S.add (.cells (eT.map str).toArray 9)=U at *;obtain⟨f,e1,O,p1,p2⟩:∃f,Ef pr 217 #[am b 0,.agg #[num 1,num 0,str nm,str [],.slice a d c]] U (.tuple #[]) f∧∃n,BT f b n Q G (R++[⟨1,((σ.cur:Nat):Int),nm,[],.slice a d c⟩]) (σ.put ⟨1,0,nm,[],aI⟩)∧dA b U f:=by have⟨x,y,T,V⟩:=HH o r u (kd:=1) (pa:=0) (nm:=nm) (tx:=[]) w z;exact⟨x,T,y,V⟩
 have⟨W,I,q1,q2⟩:=A6 E o r u (nm:=nm) w z;unfold TS.mV;show ∃i,_∧BX i b (if bX nm eT=true then _ else _)∧_;generalize bX nm eT=H at A ⊢;refine EF.gq F func228 rfl ?_;refine zs (za (s.add (dZ ⟨kd,tx,nm,.slice a d c,e⟩)) ?_);rw[J];refine EW.seq (EW.seq (EW.draw kq kq kq ?_));refine zq (zt S (zu (yl s.nx 2 (str nm) k.2) (yt L (yt A (ET.nil ⟨aK [(aC prog 9 (am s.nx 2) S,str nm),(aC prog 9 (am s.nx 2) U,str nm)] kq (mh ⟨M,rfl⟩ ⟨N,rfl⟩),_,_,_,_,_,_,rfl,rfl,?_⟩)))));refine za U ?_;cases H with
 | true =>refine zH ?_;refine zr (zg 2 U (zp (yl s.nx 2 (str nm) g.2) (zg 1 U (zp (yl s.nx 3 (.slice a d c) g.2) (zc 1 e1 (EO.nil (za f ?_)))))));exact EW.ret ⟨.inr rfl,kq,⟨_,_,_,_,p1⟩,(q.trans v).trans p2⟩
 | false =>refine zF ?_;refine zx (zg 2 U (zp (yl s.nx 2 (str nm) g.2) (zg 1 U (zp (yl s.nx 3 (.slice a d c) g.2) (zc 0 I (EO.nil ?_))))));exact⟨.inl rfl,kq,q1,(q.trans v).trans q2⟩
def JI(U:pr 225=none)(h:BX s b σ)(p:i<σ.row.length){ad:Option Addr}:Ef pr 225 #[am b 0,num (i:Nat),.slice ad 0 cp] s (.tuple #[]) s:=by
 have⟨J,L,E,M,h⟩:=h;have d:σ.row[i]?=some σ.row[i]:=gE p;have e:=h.lt _ (List.getElem_mem p);generalize σ.row[i]=k at d e;have⟨n,m,I,x,j,y,A,w,u⟩:=h.node (gE e);have⟨g,o,F,K,l,z,f,c,q⟩:=h.r.at d;have a:=h.b;rw[j,l] at a;have B:=bL (P:=prog) (t:=38) underlying38 rfl a.2 (off:=0) rfl;have C:=bL (P:=prog) (t:=25) underlying25 rfl a.2 (off:=1) rfl;have D:=bL (P:=prog) (t:=3) underlying3 rfl f.2 c;clear w A;generalize G:σ.nodes.length=N at *;generalize H:σ.row.length=R at *;refine EF.of U func225 rfl ?_;refine EW.seq (EW.draw kq kq kq ?_);iterate 3 refine zq ?_
 refine zt s (zu (yl b 0 (.slice (sq n) N m) a.2) ?_);iterate 3 refine zq ?_
 refine zt s (zu (yl b 1 (.slice (sq g) R o) a.2) (zq (zu (yi g 0 R o i none .i64 (i:Nat) 1 oq oq oq) (zt s (zu (bP (b:=g) (off:=i) (v:=num (k:Nat)) rfl underlying3 rfl kq f.2 c) (zu (yi n 0 N m (k*5) none .i64 (k:Nat) 5 oq oq oq) (zq (ET.nil ⟨aK [(aC prog 38 (am b 0) s,.slice (sq n) N m),(aC prog 25 (am b 1) s,.slice (sq g) R o),(aC prog 3 (am g i) s,num (k:Nat))] kq (uh ⟨B,rfl⟩ ⟨C,rfl⟩ ⟨D,rfl⟩),_,_,_,_,_,_,rfl,rfl,?_⟩))))))));refine EW.go 20 kq ?_;exact⟨.inl rfl,kq,kq⟩
def xL(J:pr 239=none)(h:BX s b σ)(G:σ.again=[]):∃B,Ef pr 239 #[am b 0] s (.tuple #[]) B∧BX B b σ∧dA b s B:=by
 have⟨V,Q,L,W,h⟩:=h;have y:=h.sz;have⟨q,l,k⟩:=h.r.len;have g:=h.b;rw[k] at g;have E:=h.a;rw[G] at E;have⟨H,S⟩:=h.upd (xw:=Q) (xq:=aD) (w':=σ.w) h.r (.inl ⟨rfl,rfl⟩) (fun x _ z=>cz z) h.lt iq h.ne ⟨y.2.1,iq⟩ (.inl fun _ z=>z) (.inr fun x z=>(cz z).elim);have A:(⟨σ.nodes,σ.row,[],σ.w⟩:TS)=σ:=by rw[← G]
 rw[A] at H;obtain⟨f,U,F,K⟩:∃f U,L=.slice f 0 U∧((f=none∧U=0)∨∃d m o,f=some ⟨d,0,none⟩∧Has s d (.cells m 3 o)):=by
  rcases E with ⟨e,_⟩|⟨d,cp,m,o,e,_,q1,q2,_⟩
  ·exact⟨none,0,e,.inl ⟨rfl,rfl⟩⟩
  ·exact⟨_,cp,e,.inr ⟨d,m,o,rfl,q1,q2⟩⟩
 rw[F] at g;have N:=bL (P:=prog) (t:=25) underlying25 rfl g.2 (off:=1) rfl;have O:=bL (P:=prog) (t:=25) underlying25 rfl g.2 (off:=2) rfl;subst k;subst F;generalize T:σ.row.length=R at *;have u:(if (0:Int)<40-((R:Nat):Int) then (0:Int) else 40-((R:Nat):Int))=0:=by split<;>omega
 have p:∀(C:Option Addr) (D:Nat) (x:Nq),Ew pr (match Tryz.f239.body with|some (.seq _ (.seq (.seq _ c) _))=>c|_=>.skip) ([am b 0,x 1,num 0,x 3,x 4,x 5]++iy x 6 17++[.slice C 0 D,num 0,num 0]++iy x 26 20) s (vA prog lF pr (match Tryz.f239.body with|some (.seq _ (.seq _ c))=>c|_=>.skip) (fun e I s1=>(e=.normal∨e=.ret)∧du prog Tryz.f239 I s1=some (.tuple #[])∧BX s1 b σ∧dA b s s1)):=by intro C D x;refine EW.block ?_;refine EW.loop ?_;refine zs (EW.seq (zG (EW.exit (za s (zx (zg 3 s (zp (ys b 2 aD g.2 iq) (EO.nil ?_))))))));exact⟨.inl rfl,kq,⟨_,_,_,_,H⟩,S⟩
 refine EF.gq J func239 rfl ?_;refine EW.seq (EW.draw kq kq kq ?_);iterate 3 refine zq ?_
 refine zt s (zu (yl b 1 (.slice q R l) g.2) (zq (zu (fQ (i:=40) (j:=((R:Nat):Int)) (r:=40-((R:Nat):Int)) rfl kq kq rfl oq) ?_)));iterate 3 refine zq ?_
 refine zt s (zu (yl b 2 (.slice f 0 U) g.2) (zq (zt s (ET.op (v:=num 0) (s1:=s) kq ((show _=some (num (if (0:Int)<40-((R:Nat):Int) then 0 else 40-((R:Nat):Int)),s) by kernel_rfl).trans (by rw[u])) (zq (ET.nil ⟨aK [(aC prog 25 (am b 1) s,.slice q R l),(aC prog 25 (am b 2) s,.slice f 0 U)] kq (mh ⟨N,by cases q<;>rfl⟩ ⟨O,by cases f<;>rfl⟩),_,_,_,_,_,_,rfl,rfl,?_⟩))))));refine za s (EW.seq (zr (zg 3 s (zp (yl b 2 (.slice f 0 U) g.2) ?_))));rcases K with ⟨rfl,rfl⟩|⟨d,m,o,rfl,hd⟩
 ·refine zf (za s ?_);refine EW.fill (fun x=>[am b 0,x 1,num 0,x 3,x 4,x 5]++iy x 6 17++[.slice none 0 0,num 0,num 0]++iy x 26 20) kq ?_;exact fun x=>p none 0 x
 ·refine zg 1 s ?_;by_cases M:0<U
  ·refine zp (qz (b:=d) (off:=0) (n:=0) (cp:=U) (i:=0) (j:=0) (sz:=1) rfl underlying25 kq hd.2 kq kq M) (zf (za s ?_));refine EW.fill (fun x=>[am b 0,x 1,num 0,x 3,x 4,x 5]++iy x 6 17++[.slice (sq d) 0 (U-0),num 0,num 0]++iy x 26 20) kq ?_;exact fun x=>p _ _ x
  ·obtain rfl:U=0:=oq
   refine zp (Nm (b:=d) (off:=0) (sz:=1) rfl underlying25 kq hd.2 kq kq) (zf (za s ?_));refine EW.fill (fun x=>[am b 0,x 1,num 0,x 3,x 4,x 5]++iy x 6 17++[.slice (some ⟨d,0,some 0⟩) 0 1,num 0,num 0]++iy x 26 20) kq ?_;exact fun x=>p _ _ x
end
def TG{a b c d e f:Option Value × Value}(g:a.1=some a.2∧bu 20 a.2=true)(h:b.1=some b.2∧bu 20 b.2=true)(i:c.1=some c.2∧bu 20 c.2=true)(j:d.1=some d.2∧bu 20 d.2=true)(k:e.1=some e.2∧bu 20 e.2=true)(l:f.1=some f.2∧bu 20 f.2=true):∀x∈[a,b,c,d,e,f],x.1=some x.2∧bu 20 x.2=true:=by
 intro x U;simp only[List.mem_cons,List.not_mem_nil,or_false] at U;rcases U with rfl|rfl|rfl|rfl|rfl|rfl
 ·exact g
 ·exact h
 ·exact i
 ·exact j
 ·exact k
 ·exact l
section
variable {s s':AS}{b:Nat}{nv rv av v v2 xw xq:Value}{xs:List bv}{σ:TS}{pr:Prim}{tx:Bq}
def xk(V:pr 315=none)(T:pr 217=none)(F:pr 232=none)(h:BX s b σ)(hu:σ.nodes[σ.nodes.length-1]?=some u)(X:u.kind=2→u.parent≠((σ.cur:Nat):Int))(Y:σ.nodes.length<100000):∃D,Ef pr 315 #[am b 0,str tx] s (.tuple #[]) D∧BX D b (σ.put ⟨2,0,[],tx,[]⟩)∧dA b s D:=by
 have⟨nv,rv,av,Q,h⟩:=h;have H:=uJ F h;have⟨S,nv2,Z,p1,p2⟩:=HH T F h (kd:=2) (pa:=0) (nm:=[]) (tx:=tx) (at_:=aD) (aI:=[]) (.inl ⟨rfl,rfl⟩) Y;have⟨a,p,nf,x,B,f,J,I,ZX⟩:=h.node hu;have⟨k,w,cs,rf,C,Ra,o,m,Ob⟩:=h.r.at (TS.sr h.ne);have g:=h.b;rw[B,C] at g;have n:(bC Q)[(σ.nodes.length-1)*5+0]?=some (num u.kind):=by rw[ei J 0 dq,← I.1];rfl
 have G:(bC Q)[(σ.nodes.length-1)*5+1]?=some (num u.parent):=by rw[ei J 1 dq,← I.2.1];rfl
 have K:=bL (P:=prog) (t:=38) underlying38 rfl g.2 (off:=0) rfl;have L:=bL (P:=prog) (t:=25) underlying25 rfl g.2 (off:=1) rfl;have M:=bL (P:=prog) (t:=3) underlying3 rfl f.2 n;have O:=bL (P:=prog) (t:=3) underlying3 rfl f.2 G;have l5:=bL (P:=prog) (t:=3) underlying3 rfl o.2 m;have A:((σ.row.length:Nat):Int)-1=((σ.row.length-1:Nat):Int):=oq
 rw[A] at H;generalize σ.cur=z at *;generalize a8:σ.row.length-1=q at *;generalize hR:σ.row.length=R at *;generalize a6:σ.nodes.length-1=d at *;generalize a7:σ.nodes.length=N at *;refine EF.gq V func315 rfl ?_;refine EW.seq (EW.draw kq kq kq ?_);iterate 3 refine zq ?_
 refine zt s (zu (yl b 0 (.slice (sq a) N p) g.2) ?_);iterate 3 refine zq ?_
 refine zt s (zu (yl b 0 (.slice (sq a) N p) g.2) (zq (zu (fQ (i:=((N:Nat):Int)) (j:=1) (r:=((d:Nat):Int)) rfl kq kq oq oq) (zu (yi a 0 N p (d*5) none .i64 (d:Nat) 5 oq oq oq) (zq (ET.nil ⟨aK [(aC prog 38 (am b 0) s,.slice (sq a) N p),(aC prog 38 (am b 0) s,.slice (sq a) N p)] kq (mh ⟨K,rfl⟩ ⟨K,rfl⟩),_,_,_,_,_,_,rfl,rfl,?_⟩))))));refine za s ?_;have U:∀l:TL,(∃y:Nq,l=[am b 0,str tx]++iy y 2 46)→Ew pr (match Tryz.f315.body with|some (.seq _ (.seq _ c))=>c|_=>.skip) l s (fun e l E=>(e=.normal∨e=.ret)∧du prog Tryz.f315 l E=some (.tuple #[])∧BX E b (σ.put ⟨2,0,[],tx,[]⟩)∧dA b s E):=by rintro l ⟨y,rfl⟩;refine zx (zc 3 Z (EO.nil ?_));exact⟨.inl rfl,kq,⟨_,_,_,_,p1⟩,p2⟩
 refine EW.seq (EW.seq (EW.draw kq kq kq ?_));iterate 3 refine zq ?_
 refine zt s (zu (bP (b:=a) (off:=d*5+0) (v:=num u.kind) rfl underlying3 rfl kq f.2 n) ?_);by_cases h2:u.kind=2
 ·have W:=X h2;refine zu (yb (num u.kind) (num 2) (gP (b:=true) (beq_iff_eq.2 h2))) ?_;iterate 4 refine zq ?_
  refine zt s (zu (bP (b:=a) (off:=d*5+1) (v:=num u.parent) rfl underlying3 rfl kq f.2 G) ?_);iterate 3 refine zq ?_
  refine zt s (zu (yl b 1 (.slice (sq k) R w) g.2) (zq (zt s (yt H (zu (yi k 0 R w q none .i64 (q:Nat) 1 oq oq oq) (zt s (zu (bP (b:=k) (off:=q) (v:=num (z:Nat)) rfl underlying3 rfl kq o.2 m) (zu (yb (num u.parent) (num (z:Nat)) (gP (b:=false) (bF.2 W))) (zq (ET.nil ⟨aK [(aC prog 3 (am a (d*5+0)) s,num u.kind),(aC prog 3 (am a (d*5+1)) s,num u.parent),(aC prog 3 (am a (d*5+1)) s,num u.parent),(aC prog 25 (am b 1) s,.slice (sq k) R w),(aC prog 25 (am b 1) s,.slice (sq k) R w),(aC prog 3 (am k q) s,num (z:Nat))] kq (TG ⟨M,rfl⟩ ⟨O,rfl⟩ ⟨O,rfl⟩ ⟨L,rfl⟩ ⟨L,rfl⟩ ⟨l5,rfl⟩),_,_,_,_,_,_,rfl,rfl,?_⟩))))))))));refine za s (zF ?_);exact U _ (aN kq)
 ·refine zu (yb (num u.kind) (num 2) (gP (b:=false) (bF.2 h2))) (zq ?_);iterate 13 refine ET.pass kq ?_
  refine zq (ET.nil ⟨aK [(aC prog 3 (am a (d*5+0)) s,num u.kind)] kq (M3 ⟨M,rfl⟩),_,_,_,_,_,_,rfl,rfl,?_⟩);refine za s (zF ?_);exact U _ (aN kq)
def NQ(B:pr 216=none)(C:pr 231=none)(E:pr 314=none)(z:pr 127=bB 127)(D:pr 239=none)(k:pr 315=none)(j:pr 217=none)(c:pr 232=none)(A:∀s,Ef pr 198 #[str tx,str [9,10,12,13,32]] s (str tr) s)(h:BX s b σ)(M:σ.w=2)(F:σ.again=[])(x:σ.nodes[σ.nodes.length-1]?=some u)(l:u.kind=2→u.parent≠((σ.cur:Nat):Int))(p:σ.nodes.length<100000):∃g,Ef pr 216 #[am b 0,str tx] s (.tuple #[]) g∧BX g b (σ.put ⟨2,0,[],tx,[]⟩)∧dA b s g:=by
 have⟨Q,R,P,T,h⟩:=h;have K:=h.sz;have t:0<σ.row.length:=List.length_pos_iff.2 h.ne;have f:=uJ c h;have a:=h.name (pr:=pr) C (i:=σ.row.length-1) oq;rw[show((σ.row.length:Nat):Int)-1=((σ.row.length-1:Nat):Int) by omega] at f;generalize nameAt σ (σ.row.length-1)=y at a;generalize σ.row.length-1=N at f a;have L:=u1 (s:=s) E;have d:=h.add (.cells (gV.map str).toArray 9);have e:=dA.add h (.cells (gV.map str).toArray 9);have r:=(dF.new s gV 4 rfl dq).is (pr:=pr) z y;generalize s.add (.cells (gV.map str).toArray 9)=S at *;have q:=d.b;rw[M] at q;have⟨V,e1,n,o⟩:=xk (tx:=tx) k j c ⟨_,_,_,_,d⟩ x l p;have⟨U,H,I,J⟩:=xL D ⟨_,_,_,_,d⟩ F;have⟨O,g1,g2,g3⟩:=xk (tx:=tx) k j c I x l p;generalize bX y gV=G at r;refine EF.gq B func216 rfl ?_;refine EW.seq (zr ?_);refine zc 2 f ?_;refine zc 0 a ?_;refine zc 0 L ?_;refine zc 0 r ?_;refine EO.nil ?_;refine za S ?_;cases G with
 | true =>refine zH ?_;refine zr ?_;refine zc 2 e1 ?_;refine EO.nil ?_;refine za V ?_;exact EW.ret ⟨.inr rfl,kq,n,e.trans o⟩
 | false =>
  refine zF ?_;refine EW.seq (zr ?_);refine zg 3 S ?_;refine zp (bP (b:=b) (off:=3) (v:=num 2) rfl underlying181 rfl kq q.2 rfl) ?_;refine zf ?_;refine za S ?_;refine zF ?_;refine EW.seq (zr ?_);refine zc 1 (A S) ?_;by_cases m:tr=[]
  ·subst m;refine zf ?_;refine za S ?_;refine zF ?_;refine zx ?_;refine zc 2 e1 ?_;refine EO.nil ?_;exact⟨.inl rfl,kq,n,e.trans o⟩
  ·refine zp (aU (u:=str tr) (w:=str []) rfl kq kq (by unfold dj;simp only;rw[gL m])) ?_;refine EO.nil ?_;refine za S ?_;refine zH ?_;refine zx ?_;refine zc 1 H ?_;refine EO.nil ?_;refine za U ?_;refine zx ?_;refine zc 2 g1 ?_;refine EO.nil ?_;exact⟨.inl rfl,kq,g2,(e.trans J).trans g3⟩
end
def Nl(U:o.op=.slice t x lo hi none)(h:P.underlying t=some (.slice e))(j:a.at x=.slice (some ⟨b,off,none⟩) n cp)(g:s.get b=some (.cells cs e fz))(k:bQ P e=some sz)(f:bH n cp (lo.map a.at) (hi.map a.at)=some (i,i))(d:¬i<cp):bM P kt c a o s=some (.slice (some ⟨b,off,some 0⟩) 0 1,s):=by unfold bM;rw[iw (by rw[U];simp[eI]),U];simp only;unfold fP;rw[h,j];simp only[Option.map_none];rw[k,g];simp only[if_true];rw[f];simp only;rw[iw d];simp only[if_true]
def TS.G1(σ:TS)(k:Nat):Bq:=match σ.nodes[k]? with
 | some u=>u.name
 | none=>[]
def TS.vy(σ:TS)(k:Nat):Bool:=bX (σ.G1 k) bI
def TS.pop(σ:TS):TS:=⟨σ.nodes,σ.row.dropLast,if σ.vy σ.cur then [] else σ.again,σ.w⟩
abbrev yB(b:Nat):Value:=.func (.func 319) #[am b 0] #[]
def Ij(rd off n c b i:Nat)(x:Nq):TL:=[.slice (some ⟨rd,off,none⟩) n c,yB b,x 2,x 3,num 0,x 5,.slice (some ⟨rd,off,none⟩) n c,num (n:Nat),num (i:Nat)]++iy x 9 10
section
variable {s s':AS}{b:Nat}{nv rv av v v2 xw xq:Value}{xs:List bv}{σ:TS}{pr:Prim}
def NO(J:pr 318=none)(L:pr 363=none)(H:pr 127=bB 127)(K:pr 319=none)(I:pr 142=none)(h:BT s b nv rv av xs σ){c:Nat}{ks:List Nat}(Y:ks.length=n)(O:Has s rd (.cells cs 3 fz))(M:∀j k:Nat,ks[j]?=some k→cs[off+j]?=some (num (k:Nat)))(N:∀k∈ks,k<σ.nodes.length)(hn:n≤1000):∃f,Ef pr 318 #[.slice (some ⟨rd,off,none⟩) n c,yB b] s (.bool (ks.any σ.vy)) f∧aP (fun _=>False) s f:=by
 have G:∃f j,Ef pr 363 #[.slice (some ⟨rd,off,none⟩) n c,yB b] s (num j) f∧aP (fun _=>False) s f∧decide (j≥0)=ks.any σ.vy:=by
  suffices h:Ew pr (match Tryz.f363.body with|some c=>c|none=>.skip) ((#[.slice (some ⟨rd,off,none⟩) n c,yB b]:Aq).toList++List.replicate (Tryz.f363.ntmps-(#[.slice (some ⟨rd,off,none⟩) n c,yB b]:Aq).toList.length) undef) s (fun e d g=>(e=.normal∨e=.ret)∧aP (fun _=>False) s g∧∃j,du prog Tryz.f363 d g=some (num j)∧decide (j≥0)=ks.any σ.vy) by have⟨m,e,d,g,h1,V,h2,j,h3,P⟩:=h;exact⟨g,j,EF.of L func363 rfl ⟨m,e,d,g,h1,V,h3,rfl⟩,h2,P⟩
  refine zs (za s (EW.seq (zs (za s ?_))));refine EW.fill (Ij rd off n c b 0) kq ?_;intro W;refine EW.block ?_;refine EW.mono (EW.dS (Q:=fun e d g=>(e=.exit 0∧aP (fun _=>False) s g∧(ks.any σ.vy)=false∧∃x,d=Ij rd off n c b n x)∨(e=.ret∧aP (fun _=>False) s g∧∃j,du prog Tryz.f363 d g=some (num j)∧decide (j≥0)=ks.any σ.vy)) (fun m d f=>∃i,i+m=n∧aP (fun _=>False) s f∧((ks.take i).any σ.vy)=false∧∃x,d=Ij rd off n c b i x) ?_ n _ _ ⟨0,oq,aP.refl s,rfl,W,rfl⟩) ?_
  ·rintro m d S ⟨i,X,l,r,x,rfl⟩;by_cases Z:0<m
   ·have A:i<ks.length:=oq
    have y:ks[i]?=some ks[i]:=gE A;have q:ks.take (i+1)=ks.take i++[ks[i]]:=by rw[List.take_add_one,y];rfl
    have U:ks[i]∈ks:=List.getElem_mem A;generalize ks[i]=k at y q U;have u:=N k U;have E:σ.nodes[k]?=some σ.nodes[k]:=gE u;have R:=h.fk l fun _ _ _ _ _ z=>z.elim;have a:=AJ H K I R E;have w:bX (σ.nodes[k]).name bI=σ.vy k:=by unfold TS.vy TS.G1;rw[E]
    rw[w] at a;have C:=l.add (.cells (bI.map str).toArray 9);have p:=O.fr l id;have t:=M i k y;have o:(ks.take (i+1)).any σ.vy=σ.vy k:=by rw[q,List.any_append,r];simp
    have B:σ.vy k=true→(ks.any σ.vy)=true:=fun h=>List.any_eq_true.2 ⟨_,U,h⟩;generalize σ.vy k=D at a o B;generalize T:S.add (.cells (bI.map str).toArray 9)=F at *;refine zr (zp (yb (num (i:Nat)) (num (n:Nat)) (aX (b:=true) (tD oq))) (EO.nil (EW.seq (zT (EW.seq (EW.block (zs (za S (zr (zg 3 S (zp (yi rd off n c (off+i) none .i64 (i:Nat) 1 oq oq oq) (zo S (zp (bP (b:=rd) (off:=off+i) (v:=num (k:Nat)) rfl underlying3 rfl kq p.2 t) (yc #[am b 0] #[] a (EO.nil (za F ?_))))))))))))))));cases D with
    | true =>refine zH ?_;refine zs ?_;exact EW.ret (.inr ⟨rfl,C,(i:Nat),kq,by rw[B rfl];exact tD oq⟩)
    | false =>refine zF ?_;refine zx (zp (yp (i:Nat) 1 ((i+1:Nat):Int) oq oq) (zf ?_));exact⟨m-1,oq,i+1,oq,C,o,aN kq⟩
   ·obtain rfl:i=n:=oq
    rw[tL oq] at r;refine zr (zp (yb (num (i:Nat)) (num (i:Nat)) (aX (b:=false) (fD oq))) (EO.nil (EW.seq (zG (EW.exit ?_)))));exact .inl ⟨rfl,l,r,aN kq⟩
  ·rintro e d f (⟨rfl,l,h1,x,rfl⟩|⟨rfl,h⟩)
   ·refine zs ?_;exact EW.ret ⟨.inr rfl,l,-1,kq,by rw[h1];rfl⟩
   ·exact⟨.inr rfl,h⟩
 have⟨f,j,h1,h2,h3⟩:=G;refine⟨f,?_,h2⟩;refine EF.of J func318 rfl ?_;refine zs (zr (zc 2 h1 (zp (yb (num j) (num 0) (iQ (b:=ks.any σ.vy) h3)) ?_)));generalize ks.any σ.vy=D;refine zf ?_;exact yR
def Gg(U:pr 221=none):Ef pr 221 #[am b 0,num (-1)] s (.tuple #[]) s:=by refine EF.of U func221 rfl ?_;refine EW.seq (zr (zf (za s (zH ?_))));exact EW.ret ⟨.inr rfl,kq,kq⟩
def oH(T:pr 221=none)(W:pr 318=none)(Y:pr 363=none)(R:pr 127=bB 127)(X:pr 319=none)(S:pr 142=none)(h:BX s b σ)(h2:2≤σ.row.length):∃G,Ef pr 221 #[am b 0,num ((σ.row.length-1:Nat):Int)] s (.tuple #[]) G∧BX G b σ.pop∧dA b s G:=by
 have⟨F,rv,A,xs,h⟩:=h;have E:=h.sz;have⟨rd,g,C,P,o,Ra,m,D,Ob⟩:=h.r.at (TS.sr h.ne);have u:∀i k:Nat,σ.row[i]?=some k→C[i]?=some (num (k:Nat)):=by
  rcases h.r with ⟨e,_⟩|⟨d,cp,ae,fz,e,q0,q1,q2,q3⟩
  ·rw[o] at e;cases e
  ·rw[o] at e;cases e
   have:=m.2;rw[q2] at this;cases this;exact q3
 generalize B:σ.row.length-1=f at *
 have N:σ.row.dropLast=σ.row.take f:=by rw[List.dropLast_eq_take,B]
 have Q:cR s (.slice (sq rd) f g) σ.row.dropLast:=.inr ⟨rd,g,C,P,by rw[List.length_dropLast,B],by rw[List.length_dropLast,B];omega,m.1,m.2,fun i k l=>u i k (by
  rw[N,List.getElem?_take] at l;split at l
  ·exact l
  ·cases l)⟩;have M:∀x,blk (.slice (sq rd) f g) x→blk rv x:=fun x z=>by rw[o,cY z];exact eR _ _ _
 have ab:σ.row.dropLast≠[]:=fun e=>by have:=congrArg List.length e;simp at this;omega
 have Z:∀k∈σ.row.dropLast,k∈σ.row:=fun k l=>by rw[N] at l;exact List.mem_of_mem_take l
 have⟨J,K⟩:=h.upd (xw:=.slice (sq rd) f g) (xq:=A) (w':=σ.w) Q h.a (fun x z=>h.ra x (M x z)) (fun k l=>h.lt k (Z k l)) h.la ab ⟨by rw[List.length_dropLast];omega,E.2.2⟩ (.inl M) (.inl fun _ z=>z);have v:=h.b;rw[o] at v;have q:Has (s.set b (some (oD F (.slice (sq rd) f g) A σ.w))) rd (.cells C 3 P):=m.set (m.ne h.b dq) _;generalize hU:s.set b (some (oD F (.slice (sq rd) f g) A σ.w))=U at *;have⟨V,H,I⟩:=NO (σ:=⟨σ.nodes,σ.row.dropLast,σ.again,σ.w⟩) W Y R X S J (rd:=rd) (off:=f) (n:=1) (c:=g-f) (ks:=[σ.cur]) rfl q (fun j k l=>by
  match j with
  | 0=>simp at l;subst l;exact D
  | j+1=>simp at l) (fun k l=>by simp at l;subst l;exact h.lt _ (mG (TS.sr h.ne))) dq;have p:=J.fk I fun _ _ _ _ _ z=>z.elim;have L:dA b U V:=dA.mk' J.b p.b (I.mono fun _ _ z=>z.elim) (.inl rfl) (.inl fun _ z=>z) (.inl fun _ z=>z);have t:=q.fr I id;have y:([σ.cur].any (⟨σ.nodes,σ.row.dropLast,σ.again,σ.w⟩:TS).vy)=σ.vy σ.cur:=by simp[TS.vy,TS.G1]
 rw[y] at H;unfold TS.pop;generalize σ.vy σ.cur=bb at H ⊢;refine EF.gq T func221 rfl ?_;refine EW.seq (zr (zk 1 (zp (yb (num (f:Nat)) (num (-1)) (gP (b:=false) (bF.2 oq))) (zg 5 s (zp (yl b 1 (.slice (sq rd) σ.row.length g) v.2) (zk 1 (zp (yb (num (f:Nat)) (num (σ.row.length:Nat)) (iQ (b:=false) (fD oq))) (zf (za s (zF (zr (zg 3 s (zp (yl b 1 (.slice (sq rd) σ.row.length g) v.2) (zg 1 s (zp (qz (b:=rd) (off:=0) (n:=σ.row.length) (cp:=g) (i:=f) (j:=σ.row.length) (sz:=1) rfl underlying25 kq m.2 kq ((show _=bH σ.row.length g (some (num (f:Nat))) none by kernel_rfl).trans ((lR oq oq).trans (by rw[Int.toNat_natCast]))) oq) ?_)))))))))))))));rw[show 0+f*1=f by omega,show σ.row.length-f=1 by omega];refine zf (za s (zr (zg 4 s (zp (yl b 1 (.slice (sq rd) σ.row.length g) v.2) (zg 1 s (zp (qz (b:=rd) (off:=0) (n:=σ.row.length) (cp:=g) (i:=0) (j:=f) (sz:=1) rfl underlying25 kq m.2 kq ((show _=bH σ.row.length g none (some (num (f:Nat))) by kernel_rfl).trans ((p9 oq oq).trans (by rw[Int.toNat_natCast]))) oq) ?_))))));rw[show f-0=f by omega,show g-0=g by omega];refine zg 2 s (zp (ys b 1 (.slice (sq rd) f g) v.2 iq) (EO.nil (za (s.set b (some (oD F (.slice (sq rd) f g) A σ.w))) ?_)));rw[hU];refine EW.seq (zr (zc 3 H (EO.nil (za V ?_))));cases bb with
 | true =>obtain⟨w1,w2⟩:=p.upd (xw:=.slice (sq rd) f g) (xq:=aD) (w':=σ.w) p.r (.inl ⟨rfl,rfl⟩) (fun x _ z=>cz z) p.lt iq p.ne ⟨p.sz.2.1,iq⟩ (.inl fun _ z=>z) (.inr fun x z=>(cz z).elim);refine zH (zr (zg 3 V (zp (ys b 2 aD p.b.2 iq) (EO.nil ?_))));exact EW.ret ⟨.inr rfl,kq,⟨_,_,_,_,w1⟩,(K.trans L).trans w2⟩
 | false =>
  refine zF (zr (zg 1 V ?_));by_cases O:1<g-f
  ·refine zp (qz (b:=rd) (off:=f) (n:=1) (cp:=g-f) (i:=1) (j:=1) (sz:=1) rfl underlying25 kq t.2 kq kq O) (zf (za V (EW.block ?_)));refine EW.loop ?_;refine zs (za V (EW.seq (zG (EW.exit ?_))));exact⟨.inl rfl,kq,⟨_,_,_,_,p⟩,K.trans L⟩
  ·have af:g-f=1:=oq
   refine zp (Nl (b:=rd) (off:=f) (n:=1) (cp:=g-f) (i:=1) (sz:=1) rfl underlying25 kq t.2 kq kq O) (zf (za V (EW.block ?_)));refine EW.loop ?_;refine zs (za V (EW.seq (zG (EW.exit ?_))));exact⟨.inl rfl,kq,⟨_,_,_,_,p⟩,K.trans L⟩
end
structure DC where
 f:Nat
 a:List (Bq)
 b:List (Bq)
def cu(s:AS)(v:Value)(d:DC):Prop:=∃x,v=.func (.func d.f) #[] x ∧
 (d.f=224∨d.f=241∨d.f=244→∃B nm,d.a=[nm]∧x=#[am B 0]∧Has s B (.cells #[str nm] 9)) ∧
 (d.f=230→∃B av,x=#[am B 0]∧Has s B (.cells #[av] 62)∧dF s av d.a) ∧
 (d.f=234→∃B C wv av,x=#[am B 0,am C 0]∧Has s B (.cells #[wv] 62)∧Has s C (.cells #[av] 62)∧dF s wv d.a∧dF s av d.b) ∧
 (d.f∈[226,227,229,233,238,240,246]→x=#[])
def cD:List FuncId:=[39,64,65,66,67,68,69,119,120,121,122,123,124,125,126,128,129,130,131,132,133,134,135,136,137,138,139,140,141,142,143,144,145,216,217,218,219,220,221,222,223,224,225,226,227,228,229,230,231,232,233,234,235,238,239,240,243,244,246,314,315,317,318,319,363]
def ng (s:AS)(v:Value)(l:Vq):Prop:=(v=aD∧l=[])∨∃d fz,v=.slice (some ⟨d,0,none⟩) l.length l.length∧Has s d (.cells l.toArray 187 fz)
def C2 (s:AS)(vs:Vq)(ds:List DC):Prop:=vs.length=ds.length∧∀(i:Nat) (v:Value) (d:DC),vs[i]?=some v→ds[i]?=some d→cu s v d
abbrev ru:=DC × List (Bq)
def wZ (nm:Bq)(l:List ru):List DC:=(l.filter fun x=>bX nm x.2).map (·.1)
def rp(nm:Bq)(l:List ru):List DC:=(l.filter fun x=>!bX nm x.2&&bX [] x.2).map (·.1)
section
variable {s s' s0:AS}{pr:Prim}{v:Value}{d:DC}
def cu.fk(h:cu s v d)(a:aP K s s')(b:∀x e f,Has s x (.cells e 9 f)→¬K x)(U:∀x e f,Has s x (.cells e 62 f)→¬K x):cu s' v d:=by
 have⟨x,g,e1,i,j,k⟩:=h;refine⟨x,g,fun q=>?_,fun q=>?_,fun q=>?_,k⟩
 ·have⟨B,l,q1,q2,q3⟩:=e1 q;exact⟨B,l,q1,q2,q3.fr a (b _ _ _ q3)⟩
 ·have⟨B,c,q1,q2,q3⟩:=i q;exact⟨B,c,q1,q2.fr a (U _ _ _ q2),q3.fk a b⟩
 ·have⟨B,C,n,c,q1,q2,q3,q4,m⟩:=j q;exact⟨B,C,n,c,q1,q2.fr a (U _ _ _ q2),q3.fr a (U _ _ _ q3),q4.fk a b,m.fk a b⟩
def cu.fn(h:cu s v d):∃x,v=.func (.func d.f) #[] x:=⟨h.choose,h.choose_spec.1⟩
def cu.c0(f:Nat)(h:f∈[226,227,229,233,238,240,246]):cu s (.func (.func f) #[] #[]) ⟨f,[],[]⟩:=by refine⟨#[],rfl,fun q=>?_,fun q=>?_,fun q=>?_,fun _=>rfl⟩<;>(simp at h q;omega)
def cu.c1(f:Nat)(h:f=224∨f=241∨f=244)(U:Has s B (.cells #[str nm] 9)):cu s (.func (.func f) #[] #[am B 0]) ⟨f,[nm],[]⟩:=by refine⟨#[am B 0],rfl,fun q=>⟨B,nm,rfl,rfl,U⟩,fun q=>?_,fun q=>?_,fun q=>?_⟩<;>(simp at q;omega)
def C2.fk{c:List DC}(h:C2 s vs c)(g:aP K s s')(e:∀x a b,Has s x (.cells a 9 b)→¬K x)(U:∀x a b,Has s x (.cells a 62 b)→¬K x):C2 s' vs c:=⟨h.1,fun i v d j f=>(h.2 i v d j f).fk g e U⟩
def C2.snoc{U:List DC}(h:C2 s vs U)(c:cu s v d):C2 s (vs++[v]) (U++[d]):=⟨by simp[h.1],fun i e b h1 h2=>by
 by_cases a:i<vs.length
 ·rw[List.getElem?_append_left a] at h1;rw[List.getElem?_append_left (by rw[← h.1];exact a)] at h2;exact h.2 i e b h1 h2
 ·rw[List.getElem?_append_right oq] at h1;rw[List.getElem?_append_right (by rw[← h.1];omega),← h.1] at h2;match hq:i-vs.length with
  | 0=>rw[hq] at h1 h2;cases h1;cases h2;exact c
  | q+1=>rw[hq] at h1;simp at h1⟩
structure RS(s0:AS)(B9 Bo Br:Nat)(nm:Bq)(s:AS)(l:List ru):Prop where
 n9:Has s B9 (.cells #[str nm] 9)
 bo:Bo<s0.nx∧Br<s0.nx∧Bo≠Br
 ex:∃ov rv VC VI,Has s Bo (.cells #[ov] 191)∧Has s Br (.cells #[rv] 191)∧ng s ov VC∧ng s rv VI∧(∀x,blk ov x→s0.nx≤x)∧(∀x,blk rv x→s0.nx≤x)∧(∀x,blk ov x→¬blk rv x)∧C2 s VC (wZ nm l)∧C2 s VI (rp nm l)
 fr:aP (fun x=>x=Bo∨x=Br) s0 s
 sz:l.length≤1000
def ng.fk(h:ng s v l)(U:aP K s s')(a:∀x,blk v x→¬K x):ng s' v l:=by
 rcases h with h|⟨d,fz,rfl,h⟩
 ·exact .inl h
 ·exact .inr ⟨d,fz,rfl,h.fr U (a d (eR _ _ _))⟩
def ng.lt(h:ng s v l):∀x,blk v x→∃b a,Has s x (.cells b 187 a):=fun x U=>by
 rcases h with ⟨rfl,_⟩|⟨d,a,rfl,h⟩
 ·exact(cz U).elim
 ·rw[cY U];exact⟨_,_,h⟩
variable {B9 Bo Br:Nat}{nm:Bq}{l:List ru}
def RS.fk(h:RS s0 B9 Bo Br nm s l)(U:aP (fun _=>False) s s'):RS s0 B9 Bo Br nm s' l:=by have⟨j,k,a,b,h1,h2,h3,c,d,e,f,g,i⟩:=h.ex;exact⟨h.n9.fr U id,h.bo,⟨j,k,a,b,h1.fr U id,h2.fr U id,h3.fk U fun _ _=>id,c.fk U fun _ _=>id,d,e,f,g.fk U (fun _ _ _ _=>id) fun _ _ _ _=>id,i.fk U (fun _ _ _ _=>id) fun _ _ _ _=>id⟩,h.fr.trans U fun _ _ z=>z.elim,h.sz⟩
def Qj{w:Value}(h:ng s v ws)(U:ws.length≤1000000):∃u a,bn prog 187 v [w] 1 s=some (u,a)∧u.cells=#[u]∧u.oneCell'=true∧ng a u (ws++[w])∧aP (fun y=>blk v y) s a∧∀y,blk u y→s.nx≤y:=by
 rcases h with ⟨rfl,rfl⟩|⟨d,fz,rfl,q3⟩
 ·exact⟨_,_,gk dq,rfl,rfl,.inr ⟨s.nx,(1,1),rfl,Has.new s _⟩,(aP.refl s).add _,fun b z=>Nat.le_of_eq (cY z).symm⟩
 ·refine⟨_,_,fM (sz:=1) dq q3.2 kq iq oq,rfl,rfl,?_,(aP.set (aP.refl s) (fun _=>eR _ _ _) none).add _,fun b z=>Nat.le_of_eq (cY z).symm⟩;rw[show((List.take (ws.length*1) ws.toArray.toList++[w]).toArray)=(ws++[w]).toArray by rw[Nat.mul_one,tL iq]];exact .inr ⟨s.nx,(1,1),by rw[lA];rfl,Has.new (s.set d none) _⟩
def rr(Z:pr 126=none)(a7:pr 127=bB 127)(h:RS s0 B9 Bo Br nm s l){a:List (Bq)}(hd:cu s dv d)(ha:dF s av a)(hl:l.length<1000):∃s',Ef pr 126 #[dv,av,am B9 0,am Bo 0,am Br 0] s (.tuple #[]) s'∧RS s0 B9 Bo Br nm s' (l++[(d,a)])∧aP (fun x=>(x=Bo∨x=Br)∨∃j n,Has s x (.cells j 187 n)) s s':=by
 have⟨I,J,T,V,h1,h2,h3,F,h5,h6,h7,W,X⟩:=h.ex;have⟨x,XC⟩:=hd.fn;have Y:=ha.is (pr:=pr) a7 nm;have a8:=ha.is (pr:=pr) a7 [];have R:wZ nm (l++[(d,a)])=if bX nm a then wZ nm l++[d] else wZ nm l:=by unfold wZ;rw[List.filter_append];cases hq:bX nm a<;>simp[hq]
 have U:rp nm (l++[(d,a)])=if !bX nm a&&bX [] a then rp nm l++[d] else rp nm l:=by unfold rp;rw[List.filter_append];cases hq:(!bX nm a&&bX [] a)<;>simp[hq]
 have ag:T.length≤1000:=by rw[W.1];unfold wZ;rw[List.length_map];exact lT (List.length_filter_le _ _) h.sz
 have ah:V.length≤1000:=by rw[X.1];unfold rp;rw[List.length_map];exact lT (List.length_filter_le _ _) h.sz
 have P:∀(B C:Nat) (g E:Value) (L w2:Vq),Has s B (.cells #[g] 191)→Has s C (.cells #[E] 191)→B≠C→ng s g L→ng s E w2→(∀x,blk g x→¬blk E x)→L.length≤1000→∃u o i,Has (s.add (.cells #[dv] 187)) s.nx (.cells #[dv] 187)∧bn prog 187 g [dv] 1 (s.add (.cells #[dv] 187))=some (u,o)∧u.cells=#[u]∧u.oneCell'=true∧Has o B (.cells #[g] 191)∧i=o.set B (some (.cells #[u] 191))∧dz g (sq s.nx)=true∧Has i B (.cells #[u] 191)∧Has i C (.cells #[E] 191)∧ng i u (L++[dv])∧ng i E w2∧(∀x,blk u x→s.nx≤x)∧aP (fun x=>x=B∨blk g x) s i:=by
  intro B C g E L w2 g1 g2 g3 g4 g5 g6 g7;have XE:=(aP.refl (K:=fun _=>False) s).add (.cells #[dv] 187);have e4:=g4.fk XE fun _ _=>id;have⟨u,o,c1,c2,c3,c4,c5,c6⟩:=Qj (w:=dv) e4 oq;have v:aP (fun x=>blk g x) s o:=((aP.refl s).add _).trans c5 fun y _ z=>z;have G:∀{y:Nat} {j:Aq} {n:Nat × Nat},Has s y (.cells j 191 n)→¬blk g y:=fun A z=>by have⟨_,_,z⟩:=g4.lt _ z;exact A.ne z dq rfl
  have H:=g1.fr v (G g1);have N:=g2.fr v (G g2);have O:=g5.fk v fun y A z=>g6 y z A;have XU:∀y,blk u y→y≠B:=fun y A e=>by have:=c6 y A;have:=g1.1;simp at *;omega
  have ae:∀y,blk E y→y≠B:=fun y A e=>by have⟨_,_,z⟩:=g5.lt y A;exact z.ne g1 dq e
  have S:aP (fun y=>y=B) o (o.set B (some (.cells #[u] 191))):=aP.set (K:=fun y=>y=B) (aP.refl o) (fun _=>rfl) _;refine⟨u,o,_,Has.new s _,c1,c2,c3,H,rfl,gi fun b hb=>by have⟨_,_,z⟩:=g4.lt b hb;exact z.1,H.put _,N.fr S (Ne.symm g3),c4.fk S XU,O.fk S ae,fun x z=>by have:=c6 x z;simp at this;omega,(v.mono fun _ _ z=>.inr z).trans S fun y _ z=>.inl z⟩
 have ab:∀{i:AS} {B:Nat} {g:Value},(B=Bo∨B=Br)→(∀x,blk g x→s0.nx≤x)→aP (fun x=>x=B∨blk g x) s i→aP (fun x=>x=Bo∨x=Br) s0 i:=fun G hb hf=>h.fr.trans hf fun y A z=>by
  rcases z with z|z
  ·rcases G with e|e<;>(rw[z,e];simp)
  ·have:=hb y z;omega
 have aa:∀{B:Nat} {g:Value} {L:Vq} {q:Value},Has s B (.cells #[q] 191)→ng s g L→∀x j t n,Has s x (.cells j t n)→t≠191→t≠187→¬(x=B∨blk g x):=fun G hv x j t n c Tp Yf z=>by
  rcases z with z|z
  ·exact c.ne G Tp z
  ·have⟨_,_,z⟩:=hv.lt x z;exact c.ne z Yf rfl
 subst XC;generalize hA:bX nm a=bA at Y R U;generalize ai:bX [] a=af at a8 U;cases bA with
 | true =>
  have⟨u,o,i,k0,H,N,k3,k4,O,k6,k7,k8,k9,a9,M,p⟩:=P Bo Br I J T V h1 h2 h.bo.2.2 h3 F h7 ag;have r:=aa h1 h3;have D:RS s0 B9 Bo Br nm i (l++[(d,a)]):=by
   refine⟨h.n9.fr p (r _ _ _ _ h.n9 dq dq),h.bo,⟨u,J,_,_,k7,k8,k9,a9,fun x z=>by have:=M x z;have:=h.fr.1;omega,h6,fun x z Q=>?_,?_,?_⟩,ab (.inl rfl) h5 p,by simp;omega⟩
   ·have:=M x z;have⟨_,_,y⟩:=F.lt x Q
    have:=y.1;omega
   ·rw[R,ip rfl];exact(W.snoc hd).fk p (fun x j n c=>r _ _ _ _ c dq dq) fun x j n c=>r _ _ _ _ c dq dq
   ·rw[U,iw iq];exact X.fk p (fun x j n c=>r _ _ _ _ c dq dq) fun x j n c=>r _ _ _ _ c dq dq
  refine⟨i,?_,D,p.mono fun y _ z=>z.elim (fun z=>.inl (.inl z)) fun z=>.inr (h3.lt y z)⟩;refine EF.of Z func126 rfl ?_;refine zr (zp (yl B9 0 (str nm) h.n9.2) (zc 1 Y (EO.nil (za s (zH (zx (zp (yl Bo 0 I h1.2) (zg 2 (s.add (.cells #[.func (.func d.f) #[] x] 187)) (zp (eF (sl:=I) (news:=[.func (.func d.f) #[] x]) (d:=s.nx) (m:=1) (k:=1) (sz:=1) (z:=.nilFunc) (bytes:=8) rfl kq kq underlying191 kq rfl dq dq kq k0.2 k6 dq iq iq rfl H) (zp (gC (b:=Bo) (off:=0) (w:=u) rfl kq kq N k3 kq k4.2 iq) ?_))))))))));exact EO.nil ⟨.inl rfl,kq,by rw[O];kernel_rfl⟩
 | false =>
  cases af with
  | true =>
   have⟨u,o,i,k0,H,N,k3,k4,O,k6,k7,k8,k9,a9,M,p⟩:=P Br Bo J I V T h2 h1 (Ne.symm h.bo.2.2) F h3 (fun x z Q=>h7 x Q z) ah;have r:=aa h2 F;have D:RS s0 B9 Bo Br nm i (l++[(d,a)]):=by
    refine⟨h.n9.fr p (r _ _ _ _ h.n9 dq dq),h.bo,⟨I,u,_,_,k8,k7,a9,k9,h5,fun x z=>by have:=M x z;have:=h.fr.1;omega,fun x z Q=>?_,?_,?_⟩,ab (.inr rfl) h6 p,by simp;omega⟩
    ·have:=M x Q;have⟨_,_,y⟩:=h3.lt x z
     have:=y.1;omega
    ·rw[R,iw iq];exact W.fk p (fun x j n c=>r _ _ _ _ c dq dq) fun x j n c=>r _ _ _ _ c dq dq
    ·rw[U,ip (show(!false&&true)=true from rfl)];exact(X.snoc hd).fk p (fun x j n c=>r _ _ _ _ c dq dq) fun x j n c=>r _ _ _ _ c dq dq
   refine⟨i,?_,D,p.mono fun y _ z=>z.elim (fun z=>.inl (.inr z)) fun z=>.inr (F.lt y z)⟩;refine EF.of Z func126 rfl ?_;refine zr (zp (yl B9 0 (str nm) h.n9.2) (zc 1 Y (EO.nil (za s (zG (zr (zc 1 a8 (EO.nil (za s (zH (zx (zp (yl Br 0 J h2.2) (zg 2 (s.add (.cells #[.func (.func d.f) #[] x] 187)) (zp (eF (sl:=J) (news:=[.func (.func d.f) #[] x]) (d:=s.nx) (m:=1) (k:=1) (sz:=1) (z:=.nilFunc) (bytes:=8) rfl kq kq underlying191 kq rfl dq dq kq k0.2 k6 dq iq iq rfl H) (zp (gC (b:=Br) (off:=0) (w:=u) rfl kq kq N k3 kq k4.2 iq) ?_)))))))))))))));exact EO.nil ⟨.inl rfl,kq,by rw[O];kernel_rfl⟩
  | false =>refine⟨s,?_,⟨h.n9,h.bo,⟨I,J,T,V,h1,h2,h3,F,h5,h6,h7,by rw[R,iw iq];exact W,by rw[U,iw iq];exact X⟩,h.fr,by simp;omega⟩,aP.refl s⟩;refine EF.of Z func126 rfl ?_;refine zr (zp (yl B9 0 (str nm) h.n9.2) (zc 1 Y (EO.nil (za s (zG (zr (zc 1 a8 (EO.nil (za s (zF ?_))))))))));exact⟨.inl rfl,kq,kq⟩
def J4(U:∀f,f∈cD→pr f=none):∃a b,Ef pr 122 #[] s b a∧cu a b ⟨226,[],[]⟩∧aP (fun _=>False) s a:=by
 refine⟨s,.func (.func 226) #[] #[],?_,cu.c0 _ dq,aP.refl s⟩;refine EF.of (U 122 dq) func122 rfl ?_;iterate 2 refine zs ?_
 exact yR
def J5(U:∀f,f∈cD→pr f=none):∃a b,Ef pr 123 #[] s b a∧cu a b ⟨227,[],[]⟩∧aP (fun _=>False) s a:=by
 refine⟨s,.func (.func 227) #[] #[],?_,cu.c0 _ dq,aP.refl s⟩;refine EF.of (U 123 dq) func123 rfl ?_;iterate 2 refine zs ?_
 exact yR
def Cl(U:∀f,f∈cD→pr f=none):∃a b,Ef pr 125 #[] s b a∧cu a b ⟨229,[],[]⟩∧aP (fun _=>False) s a:=by
 refine⟨s,.func (.func 229) #[] #[],?_,cu.c0 _ dq,aP.refl s⟩;refine EF.of (U 125 dq) func125 rfl ?_;iterate 2 refine zs ?_
 exact yR
def qX(s:AS)(l:List (Bq)):aP (fun _=>False) s (s.add (.cells (l.map str).toArray 9)):=(aP.refl s).add _
def dF.Fg{l:List (Bq)}(h:dF s v l)(U:aP (fun _=>False) s s'):dF s' v l:=h.fk U fun _ _ _ _=>id
def cu.Fg(h:cu s v d)(U:aP (fun _=>False) s s'):cu s' v d:=h.fk U (fun _ _ _ _=>id) fun _ _ _ _=>id
def jC(U:pr 126=none)(a0:pr 127=bB 127)(h:RS s0 B9 Bo Br nm s l)(hd:cu s dv d)(ask:List (Bq))(n:Nat)(hn:n=ask.length)(ha:ask.length≤1000)(hl:l.length<1000):∃s',Ef pr 126 #[dv,.slice (sq s.nx) n n,am B9 0,am Bo 0,am Br 0] (s.add (.cells (ask.map str).toArray 9)) (.tuple #[]) s'∧RS s0 B9 Bo Br nm s' (l++[(d,ask)])∧aP (fun x=>(x=Bo∨x=Br)∨∃cs fz,Has (s.add (.cells (ask.map str).toArray 9)) x (.cells cs 187 fz)) (s.add (.cells (ask.map str).toArray 9)) s':=rr U a0 (h.fk (qX s ask)) (hd.Fg (qX s ask)) (dF.new s ask n hn ha) hl
def wN(U:∀f,f∈cD→pr f=none):∃a b,Ef pr 129 #[] s b a∧cu a b ⟨233,[],[]⟩∧aP (fun _=>False) s a:=by
 refine⟨s,.func (.func 233) #[] #[],?_,cu.c0 _ dq,aP.refl s⟩;refine EF.of (U 129 dq) func129 rfl ?_;iterate 2 refine zs ?_
 exact yR
def Cm(U:∀f,f∈cD→pr f=none):∃a b,Ef pr 136 #[] s b a∧cu a b ⟨238,[],[]⟩∧aP (fun _=>False) s a:=by
 refine⟨s,.func (.func 238) #[] #[],?_,cu.c0 _ dq,aP.refl s⟩;refine EF.of (U 136 dq) func136 rfl ?_;iterate 2 refine zs ?_
 exact yR
def J6(U:∀f,f∈cD→pr f=none):∃a b,Ef pr 139 #[] s b a∧cu a b ⟨240,[],[]⟩∧aP (fun _=>False) s a:=by
 refine⟨s,.func (.func 240) #[] #[],?_,cu.c0 _ dq,aP.refl s⟩;refine EF.of (U 139 dq) func139 rfl ?_;iterate 2 refine zs ?_
 exact yR
def Ka(U:∀f,f∈cD→pr f=none):∃a b,Ef pr 145 #[] s b a∧cu a b ⟨246,[],[]⟩∧aP (fun _=>False) s a:=by
 refine⟨s,.func (.func 246) #[] #[],?_,cu.c0 _ dq,aP.refl s⟩;refine EF.of (U 145 dq) func145 rfl ?_;iterate 2 refine zs ?_
 exact yR
def wL(U:∀f,f∈cD→pr f=none)(nm:Bq):∃a b,Ef pr 121 #[str nm] s b a∧cu a b ⟨224,[nm],[]⟩∧aP (fun _=>False) s a:=by
 refine⟨s.add (.cells #[str nm] 9),.func (.func 224) #[] #[am s.nx 0],?_,cu.c1 _ dq (Has.new s _),(aP.refl s).add _⟩;refine EF.of (U 121 dq) func121 rfl ?_;iterate 2 refine zs ?_
 exact yR
def Cn(U:∀f,f∈cD→pr f=none)(nm:Bq):∃a b,Ef pr 140 #[str nm] s b a∧cu a b ⟨241,[nm],[]⟩∧aP (fun _=>False) s a:=by
 refine⟨s.add (.cells #[str nm] 9),.func (.func 241) #[] #[am s.nx 0],?_,cu.c1 _ dq (Has.new s _),(aP.refl s).add _⟩;refine EF.of (U 140 dq) func140 rfl ?_;iterate 2 refine zs ?_
 exact yR
def J9(U:∀f,f∈cD→pr f=none)(nm:Bq):∃a b,Ef pr 144 #[str nm] s b a∧cu a b ⟨244,[nm],[]⟩∧aP (fun _=>False) s a:=by
 refine⟨s.add (.cells #[str nm] 9),.func (.func 244) #[] #[am s.nx 0],?_,cu.c1 _ dq (Has.new s _),(aP.refl s).add _⟩;refine EF.of (U 144 dq) func144 rfl ?_;iterate 2 refine zs ?_
 exact yR
end
section
variable {s s':AS}{pr:Prim}
def cu.cx(f:Nat)(h:f=236∨f=242)(x:Aq):cu s (.func (.func f) #[] x) ⟨f,[],[]⟩:=by refine⟨x,rfl,fun q=>?_,fun q=>?_,fun q=>?_,fun q=>?_⟩<;>(simp at q;omega)
def cu.c2{C:Nat}{l:List (Bq)}(U:Has s B (.cells #[wv] 62))(a:Has s C (.cells #[av] 62))(c:dF s wv l)(b:dF s av m):cu s (.func (.func 234) #[] #[am B 0,am C 0]) ⟨234,l,m⟩:=⟨_,rfl,fun q=>absurd q iq,fun q=>absurd q iq,fun _=>⟨B,C,wv,av,rfl,U,a,c,b⟩,fun q=>absurd q iq⟩
def cu.c3(U:Has s B (.cells #[av] 62))(a:dF s av m):cu s (.func (.func 230) #[] #[am B 0]) ⟨230,m,[]⟩:=⟨_,rfl,fun q=>absurd q iq,fun _=>⟨B,av,rfl,U,a⟩,fun q=>absurd q iq,fun q=>absurd q iq⟩
def rN(U:∀f,f∈cD→pr f=none){l:List (Bq)}(r:dF s wv l)(p:dF s av m):∃i j,Ef pr 130 #[wv,av] s j i∧cu i j ⟨234,l,m⟩∧aP (fun _=>False) s i:=by
 obtain⟨u,d,c,o,rfl,h1⟩:=r;obtain⟨v,b,a,e,rfl,t⟩:=p;generalize q:l.length=n at *;generalize h:m.length=k at *;have g:=((aP.refl (K:=fun _=>False) s).add (.cells #[.slice (sq d) n c] 62)).add (.cells #[.slice (sq b) k a] 62);refine⟨(s.add (.cells #[.slice (sq d) n c] 62)).add (.cells #[.slice (sq b) k a] 62),.func (.func 234) #[] #[am s.nx 0,am (s.nx+1) 0],?_,cu.c2 ((Has.new s _).add _) (Has.new (s.add (.cells #[.slice (sq d) n c] 62)) _) ⟨oq,d,c,o,by rw[q],h1.fr g id⟩ ⟨oq,b,a,e,by rw[h],t.fr g id⟩,g⟩;refine EF.of (U 130 dq) func130 rfl ?_;iterate 2 refine zs ?_
 exact yR
def wM(i:∀f,f∈cD→pr f=none)(j:dF s av m):∃c d,Ef pr 128 #[av] s d c∧cu c d ⟨230,m,[]⟩∧aP (fun _=>False) s c:=by
 obtain⟨l,a,U,h,rfl,k⟩:=j;generalize b:m.length=g at *;have e:=(aP.refl (K:=fun _=>False) s).add (.cells #[.slice (sq a) g U] 62);refine⟨s.add (.cells #[.slice (sq a) g U] 62),.func (.func 230) #[] #[am s.nx 0],?_,cu.c3 (Has.new s _) ⟨oq,a,U,h,by rw[b],k.fr e id⟩,e⟩;refine EF.of (i 128 dq) func128 rfl ?_;iterate 2 refine zs ?_
 exact yR
def rO(U:∀f,f∈cD→pr f=none)(e:dF s av m):∃a b,Ef pr 132 #[av] s b a∧cu a b ⟨234,bO,m⟩∧aP (fun _=>False) s a:=by have h1:=mU (pr:=pr) (s:=s) (U 131 dq);have⟨a,b,e1,c,d⟩:=rN (pr:=pr) U (dF.new s bO 6 rfl dq) (e.add _);refine⟨a,b,?_,c,((aP.refl s).add _).trans d fun _ _ z=>z⟩;refine EF.of (U 132 dq) func132 rfl ?_;refine zs (zr (zc 0 h1 (zc 1 e1 (zf ?_))));exact yR
def wO(U:∀f,f∈cD→pr f=none)(ad:Option Addr)(n c:Nat):∃a b,Ef pr 135 #[.slice ad n c] s b a∧cu a b ⟨236,[],[]⟩∧aP (fun _=>False) s a:=by
 refine⟨s.add (.cells #[.slice ad n c] 72),.func (.func 236) #[] #[am s.nx 0],?_,cu.cx _ dq _,(aP.refl s).add _⟩;refine EF.of (U 135 dq) func135 rfl ?_;iterate 2 refine zs ?_
 exact yR
def J8(U:∀f,f∈cD→pr f=none)(nm:Bq):∃a b,Ef pr 143 #[str nm] s b a∧cu a b ⟨234,[[116,97,98,108,101]],[nm]⟩∧aP (fun _=>False) s a:=by have e:=(dF.new s [[116,97,98,108,101]] 1 rfl dq).add (.cells ([nm].map str).toArray 9);have g:=dF.new (s.add (.cells ([[116,97,98,108,101]].map str).toArray 9)) [nm] 1 rfl iq;have⟨a,b,e1,c,d⟩:=rN (pr:=pr) U e g;refine⟨a,b,?_,c,(((aP.refl s).add _).add _).trans d fun _ _ z=>z⟩;refine EF.of (U 143 dq) func143 rfl ?_;refine zs (zr (zc 3 e1 (zf ?_)));exact yR
def J7(U:∀f,f∈cD→pr f=none):∃b e,Ef pr 141 #[] s e b∧cu b e ⟨242,[],[]⟩∧aP (fun _=>False) s b:=by have⟨b,n,e1,h,i⟩:=Cn (pr:=pr) (s:=s) U [112];have j:=dF.new b [[112]] 1 rfl dq;have⟨a,o,g1,g2,g3⟩:=rO (pr:=pr) U j;obtain⟨c,rfl⟩:=h.fn;obtain⟨g,rfl⟩:=g2.fn;have d:=i.trans (((aP.refl b).add (.cells ([[112]].map str).toArray 9)).trans g3 fun _ _ z=>z) fun _ _ z=>z;have k:=(Has.new a (.cells #[.nilFunc] 187)).add (.cells #[.nilFunc] 187);have l:Has ((a.add (.cells #[.nilFunc] 187)).add (.cells #[.nilFunc] 187)) (a.nx+1) (.cells #[.nilFunc] 187):=Has.new (a.add (.cells #[.nilFunc] 187)) _;have m:=l.set (show a.nx+1≠a.nx by omega) (some (.cells #[.func (.func 241) #[] c] 187));refine⟨(((a.add (.cells #[.nilFunc] 187)).add (.cells #[.nilFunc] 187)).set a.nx (some (.cells #[.func (.func 241) #[] c] 187))).set (a.nx+1) (some (.cells #[.func (.func 234) #[] g] 187)),.func (.func 242) #[] #[am a.nx 0,am (a.nx+1) 0],?_,cu.cx _ dq _,aP.set (aP.set ((d.add _).add _) (fun z=>absurd z (by have:=d.1;omega)) _) (fun z=>absurd z (by have:=d.1;omega)) _⟩;refine EF.of (U 141 dq) func141 rfl ?_;refine zs (zr (zc 0 e1 (zg 1 (b.add (.cells ([[112]].map str).toArray 9)) (zc 0 g1 (zg 2 ((a.add (.cells #[.nilFunc] 187)).add (.cells #[.nilFunc] 187)) (zp (ys a.nx 0 (.func (.func 241) #[] c) k.2 iq) (zo (((a.add (.cells #[.nilFunc] 187)).add (.cells #[.nilFunc] 187)).set a.nx (some (.cells #[.func (.func 241) #[] c] 187))) (zp (ys (a.nx+1) 0 (.func (.func 234) #[] g) m.2 iq) (EO.nil (zs ?_))))))))));exact yR
def Jg(s:AS)(l m:List (Bq))(n k:Nat)(c:n=l.length)(U:k=m.length)(d:l.length+m.length≤1000∧0<m.length):∃T,bn prog 9 (.slice (sq s.nx) n n) (m.map str) k ((s.add (.cells (l.map str).toArray 9)).add (.cells (m.map str).toArray 9))=some (.slice (some ⟨((s.add (.cells (l.map str).toArray 9)).add (.cells (m.map str).toArray 9)).nx,0,none⟩) (n+k) (n+k),T)∧dF T (.slice (some ⟨((s.add (.cells (l.map str).toArray 9)).add (.cells (m.map str).toArray 9)).nx,0,none⟩) (n+k) (n+k)) (l++m)∧aP (fun _=>False) s T∧Has ((s.add (.cells (l.map str).toArray 9)).add (.cells (m.map str).toArray 9)) (s.add (.cells (l.map str).toArray 9)).nx (.cells (m.map str).toArray 9)∧dz (.slice (sq s.nx) n n) (some ⟨(s.add (.cells (l.map str).toArray 9)).nx,0,none⟩)=true:=by subst c U;have h1:=(Has.new s (.cells (l.map str).toArray 9)).add (.cells (m.map str).toArray 9);have h2:=Has.new (s.add (.cells (l.map str).toArray 9)) (.cells (m.map str).toArray 9);have a:=(qX s l).add (.cells (m.map str).toArray 9);refine⟨_,fM (sz:=1) oq h1.2 kq iq oq,?_,(aP.set a (fun z=>absurd z (Nat.lt_irrefl _)) none).add _,h2,gi fun b z=>by rw[cY z];simp⟩;rw[show(List.take (l.length*1) (l.map str).toArray.toList++m.map str).toArray=((l++m).map str).toArray by rw[Nat.mul_one,tL iq];simp];exact⟨by simp;omega,((s.add (.cells (l.map str).toArray 9)).add (.cells (m.map str).toArray 9)).nx,l.length+m.length,(1,1),by rw[lA],Has.new (((s.add (.cells (l.map str).toArray 9)).add (.cells (m.map str).toArray 9)).set s.nx none) _⟩
abbrev qY(B9 Bo Br:Nat):Value:=.func (.func 126) #[] #[am B9 0,am Bo 0,am Br 0]
def li:List ru:=[]++[(⟨224,[[104,116,109,108]],[]⟩,[[104,116,109,108]])]++[(⟨226,[],[]⟩,[[104,101,97,100]])]++[(⟨227,[],[]⟩,mT)]++[(⟨229,[],[]⟩,[[]])]
def HR(U:∀f,f∈cD→pr f=none)(g:pr 127=bB 127)(h:RS s0 B9 Bo Br nm s []):∃I,Ef pr 65 #[qY B9 Bo Br] s (.tuple #[]) I∧RS s0 B9 Bo Br nm I li:=by refine EF.gq (U 65 dq) func65 rfl ?_;have⟨J,T,N,O,P⟩:=wL (pr:=pr) (s:=s) U [104,116,109,108];have M:=h.fk P;have⟨m,E,i,_⟩:=jC (U 126 dq) g M O [[104,116,109,108]] 1 rfl dq iq;refine zr (zc 1 N (zg 1 (J.add (.cells ([[104,116,109,108]].map str).toArray 9)) (yc #[] #[am B9 0,am Bo 0,am Br 0] E (EO.nil ?_))));have⟨n,Q,v,w,x⟩:=J4 (pr:=pr) (s:=m) U;have r:=i.fk x;have⟨o,F,j,_⟩:=jC (U 126 dq) g r w [[104,101,97,100]] 1 rfl dq iq;refine zr (zc 1 v (zg 1 (n.add (.cells ([[104,101,97,100]].map str).toArray 9)) (yc #[] #[am B9 0,am Bo 0,am Br 0] F (EO.nil ?_))));have⟨a,R,y,z,A⟩:=J5 (pr:=pr) (s:=o) U;have t:=j.fk A;have e:=Ei (pr:=pr) (s:=a) (U 124 dq);have d:=dF.new a mT 6 rfl dq;have b:=t.fk (qX a mT);have c:=z.Fg (qX a mT);generalize a.add (.cells (mT.map str).toArray 9)=K at e d b c;have⟨p,G,k,_⟩:=rr (U 126 dq) g b c d iq;refine zr (zc 1 y (zc 0 e (yc #[] #[am B9 0,am Bo 0,am Br 0] G (EO.nil ?_))));have⟨q,S,B,C,D⟩:=Cl (pr:=pr) (s:=p) U;have u:=k.fk D;have⟨L,H,l,_⟩:=jC (U 126 dq) g u C [[]] 1 rfl dq iq;refine zx (zc 1 B (zg 1 (q.add (.cells ([[]].map str).toArray 9)) (yc #[] #[am B9 0,am Bo 0,am Br 0] H (EO.nil ?_))));exact⟨.inl rfl,kq,l⟩
def mw:List ru:=[]++[(⟨230,[[115,99,114,105,112,116],[115,116,121,108,101],[116,105,116,108,101]],[]⟩,[[115,99,114,105,112,116],[115,116,121,108,101],[116,105,116,108,101]])]++[(⟨229,[],[]⟩,[[104,101,97,100],[98,111,100,121],[104,116,109,108],[98,114],[112]])]++[(⟨233,[],[]⟩,[[115,99,114,105,112,116],[115,116,121,108,101],[116,105,116,108,101],[104,101,97,100],[]])]
def HO(U:∀f,f∈cD→pr f=none)(j:pr 127=bB 127)(h:RS s0 B9 Bo Br nm s []):∃A,Ef pr 67 #[qY B9 Bo Br] s (.tuple #[]) A∧RS s0 B9 Bo Br nm A mw:=by refine EF.gq (U 67 dq) func67 rfl ?_;have z:=dF.new s [[115,99,114,105,112,116],[115,116,121,108,101],[116,105,116,108,101]] 3 rfl dq;have y:=h.fk (qX s [[115,99,114,105,112,116],[115,116,121,108,101],[116,105,116,108,101]]);generalize D:s.add (.cells ([[115,99,114,105,112,116],[115,116,121,108,101],[116,105,116,108,101]].map str).toArray 9)=x at z y;have⟨C,J,E,F,G⟩:=wM (pr:=pr) (s:=x) U  z;have k:=y.fk G;have⟨d,u,a,_⟩:=jC (U 126 dq) j k F [[115,99,114,105,112,116],[115,116,121,108,101],[116,105,116,108,101]] 3 rfl dq iq;refine zr (zg 2 (s.add (.cells ([[115,99,114,105,112,116],[115,116,121,108,101],[116,105,116,108,101]].map str).toArray 9)) (EO.cV x D (zc 0 E (zg 1 (C.add (.cells ([[115,99,114,105,112,116],[115,116,121,108,101],[116,105,116,108,101]].map str).toArray 9)) (yc #[] #[am B9 0,am Bo 0,am Br 0] u (EO.nil ?_))))));have⟨e,H,n,o,p⟩:=Cl (pr:=pr) (s:=d) U;have l:=a.fk p;have⟨g,v,b,_⟩:=jC (U 126 dq) j l o [[104,101,97,100],[98,111,100,121],[104,116,109,108],[98,114],[112]] 5 rfl dq iq;refine zr (zc 1 n (zg 1 (e.add (.cells ([[104,101,97,100],[98,111,100,121],[104,116,109,108],[98,114],[112]].map str).toArray 9)) (yc #[] #[am B9 0,am Bo 0,am Br 0] v (EO.nil ?_))));have⟨i,I,q,r,t⟩:=wN (pr:=pr) (s:=g) U;have m:=b.fk t;have⟨B,w,c,_⟩:=jC (U 126 dq) j m r [[115,99,114,105,112,116],[115,116,121,108,101],[116,105,116,108,101],[104,101,97,100],[]] 5 rfl dq iq;refine zx (zc 1 q (zg 1 (i.add (.cells ([[115,99,114,105,112,116],[115,116,121,108,101],[116,105,116,108,101],[104,101,97,100],[]].map str).toArray 9)) (yc #[] #[am B9 0,am Bo 0,am Br 0] w (EO.nil ?_))));exact⟨.inl rfl,kq,c⟩
end
section
variable {s s':AS}{pr:Prim}
def gZ:List ru:=[]++[(⟨224,[[104,116,109,108]],[]⟩,[[104,116,109,108]])]++[(⟨224,[[98,111,100,121]],[]⟩,[[98,111,100,121]])]++[(⟨233,[],[]⟩,[[104,101,97,100]])]++[(⟨234,bO++[[111,108],[117,108]],[[108,105]]⟩,[[108,105]])]++[(⟨234,bO++[[100,108]],[[100,100],[100,116]]⟩,[[100,100],[100,116]])]++[(⟨234,bO,[[112]]⟩,(ml++[[108,105],[100,100],[100,116]]))]++[(⟨230,br,[]⟩,br)]++[(⟨230,[[111,112,116,105,111,110]],[]⟩,[[111,112,116,105,111,110]])]++[(⟨236,[],[]⟩,[[99,97,112,116,105,111,110],[116,98,111,100,121],[116,102,111,111,116],[116,104,101,97,100]])]++[(⟨236,[],[]⟩,[[116,114]])]++[(⟨236,[],[]⟩,[[116,100],[116,104]])]++[(⟨234,bO,[[97]]⟩,[[97]])]++[(⟨238,[],[]⟩,(dy++eT))]++[(⟨238,[],[]⟩,[[]])]++[(⟨240,[],[]⟩,[[115,99,114,105,112,116],[115,116,121,108,101],[116,105,116,108,101]])]
def HT(U:∀f,f∈cD→pr f=none)(g:pr 127=bB 127)(h:RS s0 B9 Bo Br nm s []):∃s',Ef pr 68 #[qY B9 Bo Br] s (.tuple #[]) s'∧RS s0 B9 Bo Br nm s' gZ:=by refine EF.gq (U 68 dq) func68 rfl ?_;have⟨S1,v2,m3,m4,m5⟩:=wL (pr:=pr) (s:=s) U [104,116,109,108];have f6:=h.fk m5;have⟨Rz,Ut,V0,_⟩:=jC (U 126 dq) g f6 m4 [[104,116,109,108]] 1 rfl dq iq;refine zr (zc 1 m3 (zg 1 (S1.add (.cells ([[104,116,109,108]].map str).toArray 9)) (yc #[] #[am B9 0,am Bo 0,am Br 0] Ut (EO.nil ?_))));have⟨RB,Zc,TU,TY,TZ⟩:=wL (pr:=pr) (s:=Rz) U [98,111,100,121];have f20:=V0.fk TZ;have⟨RP,UB,V1,_⟩:=jC (U 126 dq) g f20 TY [[98,111,100,121]] 1 rfl dq iq;refine zr (zc 1 TU (zg 1 (RB.add (.cells ([[98,111,100,121]].map str).toArray 9)) (yc #[] #[am B9 0,am Bo 0,am Br 0] UB (EO.nil ?_))));have⟨RU,Zk,Uj,m32,Uk⟩:=wN (pr:=pr) (s:=RP) U;have f34:=V1.fk Uk;have⟨r,UE,V2,_⟩:=jC (U 126 dq) g f34 m32 [[104,101,97,100]] 1 rfl dq iq;refine zr (zc 1 Uj (zg 1 (RU.add (.cells ([[104,101,97,100]].map str).toArray 9)) (yc #[] #[am B9 0,am Bo 0,am Br 0] UE (EO.nil ?_))));have YC:=mU (pr:=pr) (s:=r) (U 131 dq);have⟨t,We,Wh,Wi,Wj,Wk⟩:=Jg r bO [[111,108],[117,108]] 6 2 rfl rfl dq;have f50:=V2.fk Wi;have Vu:=dF.new t [[108,105]] 1 rfl dq;have f52:=f50.fk (qX t [[108,105]]);have f53:=Wh.Fg (qX t [[108,105]]);generalize Wz:t.add (.cells ([[108,105]].map str).toArray 9)=UT at Vu f52 f53;have⟨UU,v57,YI,YJ,YK⟩:=rN (pr:=pr) (s:=UT) U  f53 Vu;have f61:=f52.fk YK;have⟨u,YZ,V3,_⟩:=jC (U 126 dq) g f61 YJ [[108,105]] 1 rfl dq iq;refine zr (zc 1 YC (zg 1 ((r.add (.cells (bO.map str).toArray 9)).add (.cells ([[111,108],[117,108]].map str).toArray 9)) (zp (eF (sl:=.slice (sq r.nx) 6 6) (news:=[[111,108],[117,108]].map str) (d:=(r.add (.cells (bO.map str).toArray 9)).nx) (m:=2) (k:=2) (sz:=1) (z:=str []) (bytes:=16) rfl kq kq underlying62 kq rfl dq dq kq Wj.2 Wk dq dq rfl dq We) (zg 1 (t.add (.cells ([[108,105]].map str).toArray 9)) (EO.cV UT Wz (zc 0 YI (zg 1 (UU.add (.cells ([[108,105]].map str).toArray 9)) (yc #[] #[am B9 0,am Bo 0,am Br 0] YZ (EO.nil ?_)))))))));have YD:=mU (pr:=pr) (s:=u) (U 131 dq);have⟨v,Wl,Wm,Wn,Wo,Wp⟩:=Jg u bO [[100,108]] 6 1 rfl rfl dq;have f81:=V3.fk Wn;have Vv:=dF.new v [[100,100],[100,116]] 2 rfl dq;have f83:=f81.fk (qX v [[100,100],[100,116]]);have f84:=Wm.Fg (qX v [[100,100],[100,116]]);generalize WA:v.add (.cells ([[100,100],[100,116]].map str).toArray 9)=UW at Vv f83 f84;have⟨Wd,v88,YO,YP,YQ⟩:=rN (pr:=pr) (s:=UW) U  f84 Vv;have f92:=f83.fk YQ;have⟨i,Ur,W,_⟩:=jC (U 126 dq) g f92 YP [[100,100],[100,116]] 2 rfl dq iq;refine zr (zc 1 YD (zg 1 ((u.add (.cells (bO.map str).toArray 9)).add (.cells ([[100,108]].map str).toArray 9)) (zp (eF (sl:=.slice (sq u.nx) 6 6) (news:=[[100,108]].map str) (d:=(u.add (.cells (bO.map str).toArray 9)).nx) (m:=1) (k:=1) (sz:=1) (z:=str []) (bytes:=16) rfl kq kq underlying62 kq rfl dq dq kq Wo.2 Wp dq dq rfl dq Wl) (zg 1 (v.add (.cells ([[100,100],[100,116]].map str).toArray 9)) (EO.cV UW WA (zc 0 YO (zg 1 (Wd.add (.cells ([[100,100],[100,116]].map str).toArray 9)) (yc #[] #[am B9 0,am Bo 0,am Br 0] Ur (EO.nil ?_)))))))));have O:=dF.new i [[112]] 1 rfl dq;have H:=W.fk (qX i [[112]]);generalize Se:i.add (.cells ([[112]].map str).toArray 9)=A at O H;have⟨b,Y9,TI,TJ,TM⟩:=rO (pr:=pr) (s:=A) U  O;have f114:=H.fk TM;have TC:=AX (pr:=pr) (s:=b) (U 133 dq);have⟨V5,RY,RZ,F,R0,R1⟩:=Jg b ml [[108,105],[100,100],[100,116]] 33 3 rfl rfl dq;have f123:=f114.fk F;have f125:=TJ.Fg F;have⟨j,Us,X,_⟩:=rr (U 126 dq) g f123 f125 RZ iq;refine zr (zg 2 (i.add (.cells ([[112]].map str).toArray 9)) (EO.cV A Se (zc 0 TI (zc 0 TC (zg 1 ((b.add (.cells (ml.map str).toArray 9)).add (.cells ([[108,105],[100,100],[100,116]].map str).toArray 9)) (zp (eF (sl:=.slice (sq b.nx) 33 33) (news:=[[108,105],[100,100],[100,116]].map str) (d:=(b.add (.cells (ml.map str).toArray 9)).nx) (m:=3) (k:=3) (sz:=1) (z:=str []) (bytes:=16) rfl kq kq underlying62 kq rfl dq dq kq R0.2 R1 dq dq rfl dq RY) (yc #[] #[am B9 0,am Bo 0,am Br 0] Us (EO.nil ?_))))))));have T:=iV (pr:=pr) (s:=j) (U 134 dq);have P:=dF.new j br 6 rfl dq;have I:=X.fk (qX j br);generalize j.add (.cells (br.map str).toArray 9)=RA at T P I;have⟨c,Za,TN,TO,TP⟩:=wM (pr:=pr) (s:=RA) U  P;have f138:=I.fk TP;have V:=iV (pr:=pr) (s:=c) (U 134 dq);have Q:=dF.new c br 6 rfl dq;have J:=f138.fk (qX c br);have L:=TO.Fg (qX c br);generalize c.add (.cells (br.map str).toArray 9)=V6 at V Q J L;have⟨l,Uu,Y,_⟩:=rr (U 126 dq) g J L Q iq;refine zr (zc 1 T (zc 0 TN (zc 0 V (yc #[] #[am B9 0,am Bo 0,am Br 0] Uu (EO.nil ?_)))));have R:=dF.new l [[111,112,116,105,111,110]] 1 rfl dq;have M:=Y.fk (qX l [[111,112,116,105,111,110]]);generalize Sf:l.add (.cells ([[111,112,116,105,111,110]].map str).toArray 9)=B at R M;have⟨RE,Zb,TQ,TR,TT⟩:=wM (pr:=pr) (s:=B) U  R;have f158:=M.fk TT;have⟨a,Uv,Z,_⟩:=jC (U 126 dq) g f158 TR [[111,112,116,105,111,110]] 1 rfl dq iq;refine zr (zg 2 (l.add (.cells ([[111,112,116,105,111,110]].map str).toArray 9)) (EO.cV B Sf (zc 0 TQ (zg 1 (RE.add (.cells ([[111,112,116,105,111,110]].map str).toArray 9)) (yc #[] #[am B9 0,am Bo 0,am Br 0] Uv (EO.nil ?_))))));have w:=Z.fk ((qX a [[116,98,111,100,121],[116,102,111,111,116],[116,104,101,97,100]]).add (.cells ([[116,114]].map str).toArray 9));generalize Sg:(a.add (.cells ([[116,98,111,100,121],[116,102,111,111,116],[116,104,101,97,100]].map str).toArray 9)).add (.cells ([[116,114]].map str).toArray 9)=q at w;refine zr (zg 2 ((a.add (.cells ([[116,98,111,100,121],[116,102,111,111,116],[116,104,101,97,100]].map str).toArray 9)).add (.cells ([[116,114]].map str).toArray 9)) (EO.cV q Sg (zf (za q ?_))));have⟨RF,Zd,TV,TW,TX⟩:=wO (pr:=pr) (s:=q) U none 0 0;have f177:=w.fk TX;have⟨n,Uw,Rr,_⟩:=jC (U 126 dq) g f177 TW [[99,97,112,116,105,111,110],[116,98,111,100,121],[116,102,111,111,116],[116,104,101,97,100]] 4 rfl dq iq;refine zr (zc 1 TV (zg 1 (RF.add (.cells ([[99,97,112,116,105,111,110],[116,98,111,100,121],[116,102,111,111,116],[116,104,101,97,100]].map str).toArray 9)) (yc #[] #[am B9 0,am Bo 0,am Br 0] Uw (EO.nil ?_))));have x:=Rr.fk ((aP.refl (K:=fun _=>False) n).add (.cells #[.slice (sq a.nx) 3 3] 62));generalize Si:n.add (.cells #[.slice (sq a.nx) 3 3] 62)=C at x;have⟨RG,Ze,T0,T1,T2⟩:=wO (pr:=pr) (s:=C) U (sq n.nx) 1 1;have f194:=x.fk T2;have⟨o,Ux,Rs,_⟩:=jC (U 126 dq) g f194 T1 [[116,114]] 1 rfl dq iq;refine zr (zg 3 (n.add (.cells #[.slice (sq a.nx) 3 3] 62)) (EO.cV C Si (zc 0 T0 (zg 1 (RG.add (.cells ([[116,114]].map str).toArray 9)) (yc #[] #[am B9 0,am Bo 0,am Br 0] Ux (EO.nil ?_))))));have y:=Rs.fk ((aP.refl (K:=fun _=>False) o).add (.cells #[.slice (sq a.nx) 3 3,.slice (some ⟨(a.add (.cells ([[116,98,111,100,121],[116,102,111,111,116],[116,104,101,97,100]].map str).toArray 9)).nx,0,none⟩) 1 1] 62));generalize Sj:o.add (.cells #[.slice (sq a.nx) 3 3,.slice (some ⟨(a.add (.cells ([[116,98,111,100,121],[116,102,111,111,116],[116,104,101,97,100]].map str).toArray 9)).nx,0,none⟩) 1 1] 62)=D at y;have⟨RH,Zf,T4,T5,T6⟩:=wO (pr:=pr) (s:=D) U (sq o.nx) 2 2;have f211:=y.fk T6;have⟨p,Uy,Rt,_⟩:=jC (U 126 dq) g f211 T5 [[116,100],[116,104]] 2 rfl dq iq;refine zr (zg 4 (o.add (.cells #[.slice (sq a.nx) 3 3,.slice (some ⟨(a.add (.cells ([[116,98,111,100,121],[116,102,111,111,116],[116,104,101,97,100]].map str).toArray 9)).nx,0,none⟩) 1 1] 62)) (EO.cV D Sj (zc 0 T4 (zg 1 (RH.add (.cells ([[116,100],[116,104]].map str).toArray 9)) (yc #[] #[am B9 0,am Bo 0,am Br 0] Uy (EO.nil ?_))))));have S:=dF.new p [[97]] 1 rfl dq;have N:=Rt.fk (qX p [[97]]);generalize Sk:p.add (.cells ([[97]].map str).toArray 9)=E at S N;have⟨RI,Zg,T7,T8,T9⟩:=rO (pr:=pr) (s:=E) U  S;have f229:=N.fk T9;have⟨RL,Uz,Ru,_⟩:=jC (U 126 dq) g f229 T8 [[97]] 1 rfl dq iq;refine zr (zg 2 (p.add (.cells ([[97]].map str).toArray 9)) (EO.cV E Sk (zc 0 T7 (zg 1 (RI.add (.cells ([[97]].map str).toArray 9)) (yc #[] #[am B9 0,am Bo 0,am Br 0] Uz (EO.nil ?_))))));have⟨e,Zh,Ua,Ub,Uc⟩:=Cm (pr:=pr) (s:=RL) U;have f245:=Ru.fk Uc;have TD:=u0 (pr:=pr) (s:=e) (U 137 dq);have TE:=yP (pr:=pr) (s:=(e.add (.cells (dy.map str).toArray 9))) (U 138 dq);have⟨V7,R2,R3,G,R4,R5⟩:=Jg e dy eT 14 13 rfl rfl dq;have f254:=f245.fk G;have f255:=Ub.Fg G;have⟨RN,UA,Rv,_⟩:=rr (U 126 dq) g f254 f255 R3 iq;refine zr (zc 1 Ua (zc 0 TD (zc 0 TE (zp (eF (sl:=.slice (sq e.nx) 14 14) (news:=eT.map str) (d:=(e.add (.cells (dy.map str).toArray 9)).nx) (m:=13) (k:=13) (sz:=1) (z:=str []) (bytes:=16) rfl kq kq underlying62 kq rfl dq dq kq R4.2 R5 dq dq rfl dq R2) (yc #[] #[am B9 0,am Bo 0,am Br 0] UA (EO.nil ?_))))));have⟨RO,Zi,Ud,Ue,Uf⟩:=Cm (pr:=pr) (s:=RN) U;have f264:=Rv.fk Uf;have⟨RQ,UC,Rw,_⟩:=jC (U 126 dq) g f264 Ue [[]] 1 rfl dq iq;refine zr (zc 1 Ud (zg 1 (RO.add (.cells ([[]].map str).toArray 9)) (yc #[] #[am B9 0,am Bo 0,am Br 0] UC (EO.nil ?_))));have⟨RR,Zj,Ug,Uh,Ui⟩:=J6 (pr:=pr) (s:=RQ) U;have f278:=Rw.fk Ui;have⟨V8,UD,Rx,_⟩:=jC (U 126 dq) g f278 Uh [[115,99,114,105,112,116],[115,116,121,108,101],[116,105,116,108,101]] 3 rfl dq iq;refine zx (zc 1 Ug (zg 1 (RR.add (.cells ([[115,99,114,105,112,116],[115,116,121,108,101],[116,105,116,108,101]].map str).toArray 9)) (yc #[] #[am B9 0,am Bo 0,am Br 0] UD (EO.nil ?_))));exact⟨.inl rfl,kq,Rx⟩
end
end
section
open Go.Conc Go.RowKit Go.Lib Tryz
variable {new nm pn tr tx w x:Bq}{F:FuncId}{lz:List ru}{fz:Nat × Nat}{v:Value}{l m:List (Bq)}{ds:List DC}{aI:jd}{g:Bool}{B9 Bo Br i j k k' nb nf:Nat}{ts:List eV}{ns us:List Nd}{d:DS}{u:Nd}{A R ag cl row:List Nat}{c:CS}
def rT (n:Bq):ru:=(⟨234,[[116,97,98,108,101]],[n]⟩,[n])
def rF (n:Bq):ru:=(⟨244,[n],[]⟩,[n])
def Im(B9 Bo Br d i:Nat)(x:Nq):TL:=[qY B9 Bo Br]++iy x 1 22++[.slice (some ⟨d,0,none⟩) 8 8,num 8,num (i:Nat)]++iy x 26 27
def Io(B9 Bo Br d i:Nat)(x:Nq):TL:=[qY B9 Bo Br]++iy x 1 35++[.slice (some ⟨d,0,none⟩) 14 14,num 14,num (i:Nat)]++iy x 39 14
section
variable {s s':AS}{pr:Prim}
def gY:List ru:=(([]++[(⟨233,[],[]⟩,[[98,111,100,121],[104,101,97,100],[104,116,109,108]])]++[(⟨241,[[98,114]],[]⟩,[[98,114]])]++[(⟨242,[],[]⟩,[[112]])]++[(⟨234,bO,br⟩,br)]++bI.map rT)++dy.map rF)++[(⟨246,[],[]⟩,[[]])]
def HS(U:∀f,f∈cD→pr f=none)(t:pr 127=bB 127){s0:AS}(h:RS s0 B9 Bo Br nm s []):∃j,Ef pr 69 #[qY B9 Bo Br] s (.tuple #[]) j∧RS s0 B9 Bo Br nm j gY:=by
 refine EF.gq (U 69 dq) func69 rfl ?_;have⟨k,v2,C,m4,m5⟩:=wN (pr:=pr) (s:=s) U;have f6:=h.fk m5;have⟨Rz,Ut,W,_⟩:=jC (U 126 dq) t f6 m4 [[98,111,100,121],[104,101,97,100],[104,116,109,108]] 3 rfl dq iq;refine zr (zc 1 C (zg 1 (k.add (.cells ([[98,111,100,121],[104,101,97,100],[104,116,109,108]].map str).toArray 9)) (yc #[] #[am B9 0,am Bo 0,am Br 0] Ut (EO.nil ?_))));have⟨RB,Zc,TU,TY,TZ⟩:=Cn (pr:=pr) (s:=Rz) U [98,114];have f20:=W.fk TZ;have⟨RP,UB,X,_⟩:=jC (U 126 dq) t f20 TY [[98,114]] 1 rfl dq iq;refine zr (zc 1 TU (zg 1 (RB.add (.cells ([[98,114]].map str).toArray 9)) (yc #[] #[am B9 0,am Bo 0,am Br 0] UB (EO.nil ?_))));have⟨RU,Zk,Uj,m32,Uk⟩:=J7 (pr:=pr) (s:=RP) U;have f34:=X.fk Uk;have⟨p,UE,Y,_⟩:=jC (U 126 dq) t f34 m32 [[112]] 1 rfl dq iq;refine zr (zc 1 Uj (zg 1 (RU.add (.cells ([[112]].map str).toArray 9)) (yc #[] #[am B9 0,am Bo 0,am Br 0] UE (EO.nil ?_))));have R:=iV (pr:=pr) (s:=p) (U 134 dq);have O:=dF.new p br 6 rfl dq;have J:=Y.fk (qX p br);generalize p.add (.cells (br.map str).toArray 9)=V9 at R O J;have⟨l,v48,YF,YG,YH⟩:=rO (pr:=pr) (s:=V9) U  O;have f52:=J.fk YH;have T:=iV (pr:=pr) (s:=l) (U 134 dq);have P:=dF.new l br 6 rfl dq;have K:=f52.fk (qX l br);have L:=YG.Fg (qX l br);generalize l.add (.cells (br.map str).toArray 9)=UU at T P K L;have⟨n,YY,Z,_⟩:=rr (U 126 dq) t K L P iq;refine zr (zc 1 R (zc 0 YF (zc 0 T (yc #[] #[am B9 0,am Bo 0,am Br 0] YY (EO.nil ?_)))));have A:=sX (pr:=pr) (s:=n) (U 142 dq);have D:=Has.new n (.cells (bI.map str).toArray 9);have F:=Z.fk (qX n bI);generalize n.add (.cells (bI.map str).toArray 9)=Wa at A D F;obtain⟨a,u⟩:∃d,d=n.nx:=⟨_,rfl⟩;rw[← u] at A D;refine EW.seq (zr (zc 0 A (zf (za Wa ?_))));refine EW.fill (Im B9 Bo Br a 0) kq ?_;intro x0;refine EW.block ?_;refine EW.mono (EW.dS (Q:=fun e o j=>e=.exit 0∧RS s0 B9 Bo Br nm j ([]++[(⟨233,[],[]⟩,[[98,111,100,121],[104,101,97,100],[104,116,109,108]])]++[(⟨241,[[98,114]],[]⟩,[[98,114]])]++[(⟨242,[],[]⟩,[[112]])]++[(⟨234,bO,br⟩,br)]++bI.map rT)∧∃x,o=Im B9 Bo Br a 8 x) (fun m o j=>∃i,i+m=8∧RS s0 B9 Bo Br nm j ([]++[(⟨233,[],[]⟩,[[98,111,100,121],[104,101,97,100],[104,116,109,108]])]++[(⟨241,[[98,114]],[]⟩,[[98,114]])]++[(⟨242,[],[]⟩,[[112]])]++[(⟨234,bO,br⟩,br)]++(bI.take i).map rT)∧Has j a (.cells (bI.map str).toArray 9)∧∃x,o=Im B9 Bo Br a i x) ?_ 8 _ _ ⟨0,oq,by simpa using F,D,x0,rfl⟩) ?_
 ·rintro m o S ⟨i,a7,N,M,x,rfl⟩;by_cases hm:0<m
  ·have a4:i<bI.length:=by show i<8;omega
   have y:bI[i]?=some bI[i]:=gE a4;have I:(bI.take (i+1)).map rT=(bI.take i).map rT++[rT bI[i]]:=by rw[List.take_add_one,y,Option.toList_some,List.map_append];rfl
   generalize bI[i]=g at y I;have a3:(bI.map str).toArray[i]?=some (str g):=by simp[y]
   have⟨k,dv,m1,m2,C⟩:=J8 (pr:=pr) (s:=S) U g;have r1:=N.fk C;have d1:=M.fr C id;have k2:=dF.new k [g] 1 rfl iq;have V:=r1.fk (qX k [g]);have q:=d1.add (.cells ([g].map str).toArray 9);have e2:=m2.Fg (qX k [g]);have⟨S3,q1,r,f3⟩:=rr (U 126 dq) t V e2 k2 (by simp[List.length_take,show bI.length=8 from rfl];omega);have d3:=q.fr f3 (by
    have⟨ov,rv,a8,a9,g1,g2,_⟩:=V.ex;rintro((z|z)|⟨_,_,z⟩)
    ·exact q.ne g1 dq z
    ·exact q.ne g2 dq z
    ·exact q.ne z dq rfl);replace r:RS s0 B9 Bo Br nm S3 ([]++[(⟨233,[],[]⟩,[[98,111,100,121],[104,101,97,100],[104,116,109,108]])]++[(⟨241,[[98,114]],[]⟩,[[98,114]])]++[(⟨242,[],[]⟩,[[112]])]++[(⟨234,bO,br⟩,br)]++(bI.take i).map rT++[rT g]):=r;rw[List.append_assoc,← I] at r;refine zr ?_;refine zp (yb (num (i:Nat)) (num 8) (aX (b:=true) (tD oq))) ?_;refine EO.nil ?_;refine EW.seq (zT ?_);refine EW.seq (EW.block ?_);refine za S ?_;refine zr ?_;refine zp (yi a 0 8 8 i none .i64 (i:Nat) 1 oq oq oq) ?_;refine zo S ?_;refine zp (bP (b:=a) (off:=i) (v:=str g) rfl underlying9 rfl kq M.2 a3) ?_;refine zf ?_;refine za S ?_;refine zx ?_;refine zc 2 m1 ?_;refine zg 2 (k.add (.cells ([g].map str).toArray 9)) ?_;refine yc #[] #[am B9 0,am Bo 0,am Br 0] q1 ?_;refine EO.nil ?_;refine zx ?_;refine zp (yp (i:Nat) 1 ((i+1:Nat):Int) oq oq) ?_;refine zf ?_;refine⟨m-1,oq,i+1,oq,?_,?_,aN kq⟩
   ·exact r
   ·exact d3
  ·obtain rfl:i=8:=oq
   refine zr (zf (za S (EW.seq (zG (EW.exit ?_)))));exact⟨rfl,N,aN kq⟩
 rintro e o H ⟨rfl,a5,xA,rfl⟩;have B:=u0 (pr:=pr) (s:=H) (U 137 dq);have E:=Has.new H (.cells (dy.map str).toArray 9);have G:=a5.fk (qX H dy);generalize H.add (.cells (dy.map str).toArray 9)=Wb at B E G;obtain⟨c,w⟩:∃d,d=H.nx:=⟨_,rfl⟩;rw[← w] at B E;refine EW.seq (zr (zc 0 B (zf (za Wb ?_))));refine EW.fill (Io B9 Bo Br c 0) kq ?_;intro x0;refine EW.block ?_;refine EW.mono (EW.dS (Q:=fun e o j=>e=.exit 2∧RS s0 B9 Bo Br nm j (([]++[(⟨233,[],[]⟩,[[98,111,100,121],[104,101,97,100],[104,116,109,108]])]++[(⟨241,[[98,114]],[]⟩,[[98,114]])]++[(⟨242,[],[]⟩,[[112]])]++[(⟨234,bO,br⟩,br)]++bI.map rT)++dy.map rF)∧∃x,o=Io B9 Bo Br c 14 x) (fun m o j=>∃i,i+m=14∧RS s0 B9 Bo Br nm j (([]++[(⟨233,[],[]⟩,[[98,111,100,121],[104,101,97,100],[104,116,109,108]])]++[(⟨241,[[98,114]],[]⟩,[[98,114]])]++[(⟨242,[],[]⟩,[[112]])]++[(⟨234,bO,br⟩,br)]++bI.map rT)++(dy.take i).map rF)∧Has j c (.cells (dy.map str).toArray 9)∧∃x,o=Io B9 Bo Br c i x) ?_ 14 _ _ ⟨0,oq,by simpa using G,E,x0,rfl⟩) ?_
 ·rintro m o S ⟨i,a7,N,M,x,rfl⟩;by_cases hm:0<m
  ·have a4:i<dy.length:=by show i<14;omega
   have y:dy[i]?=some dy[i]:=gE a4;have I:(dy.take (i+1)).map rF=(dy.take i).map rF++[rF dy[i]]:=by rw[List.take_add_one,y,Option.toList_some,List.map_append];rfl
   generalize dy[i]=g at y I;have a3:(dy.map str).toArray[i]?=some (str g):=by simp[y]
   have⟨k,dv,m1,m2,C⟩:=J9 (pr:=pr) (s:=S) U g;have r1:=N.fk C;have d1:=M.fr C id;have k2:=dF.new k [g] 1 rfl iq;have V:=r1.fk (qX k [g]);have q:=d1.add (.cells ([g].map str).toArray 9);have e2:=m2.Fg (qX k [g]);have⟨S3,q1,r,f3⟩:=rr (U 126 dq) t V e2 k2 (by simp[List.length_take,show bI.length=8 from rfl,show dy.length=14 from rfl];omega);have d3:=q.fr f3 (by
    have⟨ov,rv,a8,a9,g1,g2,_⟩:=V.ex;rintro((z|z)|⟨_,_,z⟩)
    ·exact q.ne g1 dq z
    ·exact q.ne g2 dq z
    ·exact q.ne z dq rfl);replace r:RS s0 B9 Bo Br nm S3 (([]++[(⟨233,[],[]⟩,[[98,111,100,121],[104,101,97,100],[104,116,109,108]])]++[(⟨241,[[98,114]],[]⟩,[[98,114]])]++[(⟨242,[],[]⟩,[[112]])]++[(⟨234,bO,br⟩,br)]++bI.map rT)++(dy.take i).map rF++[rF g]):=r;rw[List.append_assoc,← I] at r;refine zr ?_;refine zp (yb (num (i:Nat)) (num 14) (aX (b:=true) (tD oq))) ?_;refine EO.nil ?_;refine EW.seq (zT ?_);refine EW.seq (EW.block ?_);refine za S ?_;refine zr ?_;refine zp (yi c 0 14 14 i none .i64 (i:Nat) 1 oq oq oq) ?_;refine zo S ?_;refine zp (bP (b:=c) (off:=i) (v:=str g) rfl underlying9 rfl kq M.2 a3) ?_;refine zf ?_;refine za S ?_;refine zx ?_;refine zc 2 m1 ?_;refine zg 2 (k.add (.cells ([g].map str).toArray 9)) ?_;refine yc #[] #[am B9 0,am Bo 0,am Br 0] q1 ?_;refine EO.nil ?_;refine zx ?_;refine zp (yp (i:Nat) 1 ((i+1:Nat):Int) oq oq) ?_;refine zf ?_;refine⟨m-1,oq,i+1,oq,?_,?_,aN kq⟩
   ·exact r
   ·exact d3
  ·obtain rfl:i=14:=oq
   refine zr (zf (za S (EW.seq (zG (EW.exit ?_)))));exact⟨rfl,N,aN kq⟩
 rintro e o SB ⟨rfl,a6,xB,rfl⟩;have⟨Wc,v72,YL,YM,YN⟩:=Ka (pr:=pr) (s:=SB) U;have f76:=a6.fk YN;have⟨Zn,Y0,V4,_⟩:=jC (U 126 dq) t f76 YM [[]] 1 rfl dq (by simp[show bI.length=8 from rfl,show dy.length=14 from rfl]);refine zx (zc 1 YL (zg 1 (Wc.add (.cells ([[]].map str).toArray 9)) (yc #[] #[am B9 0,am Bo 0,am Br 0] Y0 (EO.nil ?_))));exact⟨.inl rfl,kq,V4⟩
end
def bV(nm:Bq)(l:List ru):List DC:=if (wZ nm l).length>0 then wZ nm l else rp nm l
section
variable {s s':AS}{pr:Prim}{b:Nat}{σ fo:TS}
def Ni(D:∀f,f∈cD→pr f=none)(M:∀{s0 s:AS} {o p q:Nat} {nm:Bq},RS s0 o p q nm s []→∃g,Ef pr F #[qY o p q] s (.tuple #[]) g∧RS s0 o p q nm g lz)(nm:Bq):∃g v j,Ef pr 66 #[.func (.func F) #[] #[],str nm] s v g∧ng g v j∧C2 g j (bV nm lz)∧aP (fun _=>False) s g∧(bV nm lz).length≤1000:=by
 have G:=((Has.new s (.cells #[str nm] 9)).add (.cells #[aD] 191)).add (.cells #[aD] 191);have A:Has (((s.add (.cells #[str nm] 9)).add (.cells #[aD] 191)).add (.cells #[aD] 191)) (s.nx+1) (.cells #[aD] 191):=(Has.new (s.add (.cells #[str nm] 9)) (.cells #[aD] 191)).add (.cells #[aD] 191);have B:Has (((s.add (.cells #[str nm] 9)).add (.cells #[aD] 191)).add (.cells #[aD] 191)) (s.nx+2) (.cells #[aD] 191):=Has.new ((s.add (.cells #[str nm] 9)).add (.cells #[aD] 191)) (.cells #[aD] 191);have t:=(((aP.refl (K:=fun _=>False) s).add (.cells #[str nm] 9)).add (.cells #[aD] 191)).add (.cells #[aD] 191);have N:RS (((s.add (.cells #[str nm] 9)).add (.cells #[aD] 191)).add (.cells #[aD] 191)) s.nx (s.nx+1) (s.nx+2) nm (((s.add (.cells #[str nm] 9)).add (.cells #[aD] 191)).add (.cells #[aD] 191)) [] :=
  ⟨G,⟨A.1,B.1,oq⟩,⟨aD,aD,[],[],A,B,.inl ⟨rfl,rfl⟩,.inl ⟨rfl,rfl⟩,fun x z=>(cz z).elim,fun x z=>(cz z).elim,fun x z=>(cz z).elim,⟨rfl,fun i v d h=>by simp at h⟩,⟨rfl,fun i v d h=>by simp at h⟩⟩,aP.refl _,iq⟩;have⟨S,L,a⟩:=M N;have⟨O,P,U,Q,h1,h2,h3,I,R,T,V,C,J⟩:=a.ex;have u:aP (fun _=>False) s S:=t.trans a.fr fun y W z=>by omega
 suffices h:Ew pr (match Tryz.f66.body with|some c=>c|none=>.skip) ((#[.func (.func F) #[] #[],str nm]:Aq).toList++List.replicate (Tryz.f66.ntmps-(#[.func (.func F) #[] #[],str nm]:Aq).toList.length) undef) s (fun e r k=>(e=.normal∨e=.ret)∧k=S∧∃v j,du prog Tryz.f66 r k=some v∧ng S v j∧C2 S j (bV nm lz)) by obtain⟨m,e,r,k,g1,H,rfl,v,j,g2,g3,g4⟩:=h;exact⟨k,v,j,EF.of (D 66 dq) func66 rfl ⟨m,e,r,k,g1,H,g2,rfl⟩,g3,g4,u,by unfold bV wZ rp;split<;>rw[List.length_map]<;>exact lT (List.length_filter_le _ _) a.sz⟩
 obtain⟨l,n,E⟩:∃l n,O=.slice l U.length n:=by
  rcases h3 with ⟨rfl,rfl⟩|⟨d,fz,rfl,_⟩
  ·exact⟨none,0,rfl⟩
  ·exact⟨_,_,rfl⟩
 subst E;unfold bV;rw[← C.1];iterate 2 refine zs ?_
 refine za (((s.add (.cells #[str nm] 9)).add (.cells #[aD] 191)).add (.cells #[aD] 191)) (zr (zk 2 (zo (((s.add (.cells #[str nm] 9)).add (.cells #[aD] 191)).add (.cells #[aD] 191)) (yc #[] #[] L (EO.nil (za S (EW.seq (zr (zp (yl (s.nx+1) 0 (.slice l U.length n) h1.2) (zk 1 ?_))))))))));by_cases w:U.length>0
 ·rw[ip w];refine zp (yb (num (U.length:Nat)) (num 0) (e0 (b:=true) (tD oq))) (EO.nil (za S (zH (zr (zp (yl (s.nx+1) 0 (.slice l U.length n) h1.2) (zf ?_))))));exact EW.ret ⟨.inr rfl,kq,_,_,kq,h3,C⟩
 ·rw[iw w];refine zp (yb (num (U.length:Nat)) (num 0) (e0 (b:=false) (fD oq))) (EO.nil (za S (zF (zr (zp (yl (s.nx+2) 0 P h2.2) (zf ?_))))));exact EW.ret ⟨.inr rfl,kq,_,_,kq,I,J⟩
def cI(pr:Prim)(b:Nat)(t:eV)(aI:jd)(d:DC)(σ fo:TS)(g:Bool):Prop:=∀s x,BX s b σ→cu s (.func (.func d.f) #[] x) d→bY s t.at_ aI→∃s',EF prog lF pr d.f (#[am b 0,.agg (ff t).toArray]++x) s (.bool g) s'∧BX s' b fo∧dA b s s'
def eN(pr:Prim)(b:Nat)(t:eV)(aI:jd):List DC→TS→TS→Bool→Prop
 | [],σ,fo,g=>fo=σ∧g=true
 | d::ds,σ,fo,g=>∃xn g1,cI pr b t aI d σ xn g1∧((g1=true∧eN pr b t aI ds xn fo g)∨(g1=false∧fo=xn∧g=false))
def BX.no(h:BX s b σ){x:Nat}{cs:Aq}{t:TypeId}(U:Has s x (.cells cs t fz))(h1:t≠183)(h2:t≠44)(h3:t≠3):¬KB b s x:=by have⟨_,_,_,_,h⟩:=h;exact h.no U h1 h2 h3
def BX.add(h:BX s b σ)(o:Obj):BX (s.add o) b σ:=by have⟨_,_,_,_,h⟩:=h;exact⟨_,_,_,_,h.add o⟩
def BX.fk(h:BX s b σ)(U:aP (fun _=>False) s s'):BX s' b σ∧dA b s s':=by have⟨_,_,_,_,h⟩:=h;have a:=h.fk U fun _ _ _ _ _ z=>z.elim;exact⟨⟨_,_,_,_,a⟩,dA.mk' h.b a.b (U.mono fun _ _ z=>z.elim) (.inl rfl) (.inl fun _ z=>z) (.inl fun _ z=>z)⟩
def bY.fb{l:jd}(h:bY s v l)(a:BX s b σ)(f:dA b s s'):bY s' v l:=h.fk f.1 fun y U=>by
 rcases h with ⟨e,_⟩|⟨d,c,fz,e,q1,q2⟩
 ·rw[e] at U;exact(cz U).elim
 ·rw[e] at U;rw[cY U];exact a.no (⟨q1,q2⟩:Has s d _) dq dq dq
def C2.fb{vs:Vq}(h:C2 s vs ds)(a:BX s b σ)(e:dA b s s'):C2 s' vs ds:=h.fk e.1 (fun x c d U=>a.no U dq dq dq) fun x c d U=>a.no U dq dq dq
def Ih(b B:Nat)(v aI:Value)(n i:Nat)(x:Nq):TL:=[am b 0,x 1,x 2,x 3,x 4,am B 0,.bool false,x 7,x 8,x 9,x 10,x 11,v,num (n:Nat),num (i:Nat)]++iy x 15 9
def Jw(af:∀f,f∈cD→pr f=none)(hF:∀{s0 s:AS} {Y Z Br:Nat} {nm:Bq},RS s0 Y Z Br nm s []→∃D,Ef pr F #[qY Y Z Br] s (.tuple #[]) D∧RS s0 Y Z Br nm D lz){t:eV}(h:BX s b σ)(ha:bY s t.at_ aI)(V:eN pr b t aI (bV t.name lz) σ fo g):∃D,Ef pr 317 #[am b 0,dB F,.agg (ff t).toArray] s (.bool g) D∧BX D b fo∧dA b s D:=by
 have⟨o,p,nm,at_,l⟩:=t;have N:bY s at_ aI:=ha;have⟨c,j,JL⟩:=N.len;subst JL;have a1:=h.add (dZ ⟨o,p,nm,.slice c aI.length j,l⟩);have a2:=Has.new s (dZ ⟨o,p,nm,.slice c aI.length j,l⟩);have T:=(aP.refl (K:=fun _=>False) s).add (dZ ⟨o,p,nm,.slice c aI.length j,l⟩);have a3:=(h.fk T).2;have a4:bY (s.add (dZ ⟨o,p,nm,.slice c aI.length j,l⟩)) (.slice c aI.length j) aI:=N.fk T fun _ _=>id;generalize hS:s.add (dZ ⟨o,p,nm,.slice c aI.length j,l⟩)=S at *;have⟨y,v,G,e1,e2,X,e4,e5⟩:=Ni (s:=S) af hF nm;have⟨I,b2⟩:=a1.fk e4;have b3:=a2.fr e4 id;have b4:bY y (.slice c aI.length j) aI:=a4.fk e4 fun _ _=>id;have V:eN pr b ⟨o,p,nm,.slice c aI.length j,l⟩ aI (bV nm lz) σ fo g:=V;generalize bV nm lz=q at V X e5;obtain⟨B,C,hv⟩:∃B C,v=.slice B q.length C:=by
  rw[← X.1];rcases e2 with ⟨rfl,rfl⟩|⟨d,L,rfl,_⟩
  ·exact⟨none,0,rfl⟩
  ·exact⟨_,_,rfl⟩
 subst hv;generalize hn:q.length=n at *;refine EF.gq (af 317 dq) func317 rfl ?_;refine zs (za (s.add (dZ ⟨o,p,nm,.slice c aI.length j,l⟩)) ?_);rw[hS];refine EW.seq (zr (zg 2 S (zp (yl s.nx 2 (str nm) a2.2) (yc #[.func (.func F) #[] #[]] #[] e1 (zf (za y ?_))))));refine EW.fill (Ih b s.nx (.slice B n C) undef n 0) kq ?_;intro x0;refine EW.block ?_;refine EW.mono (EW.dS (Q:=fun e A E=>((e=.exit 0∧g=true∧∃x,A=Ih b s.nx (.slice B n C) undef n n x)∨(e=.ret∧du prog Tryz.f317 A E=some (.bool g)))∧BX E b fo∧dA b y E) (fun m A E=>∃i w,i+m=n∧BX E b w∧dA b y E∧eN pr b ⟨o,p,nm,.slice c aI.length j,l⟩ aI (q.drop i) w fo g∧∃x,A=Ih b s.nx (.slice B n C) undef n i x) ?_ n _ _ ⟨0,σ,oq,I,dA.refl y,V,x0,rfl⟩) ?_
 ·rintro m A U ⟨i,w,aj,M,k,H,x,rfl⟩;by_cases hm:0<m
  ·have ae:i<q.length:=oq
   have hx:q[i]?=some q[i]:=gE ae;rw[List.drop_eq_getElem_cons ae] at H;generalize q[i]=d at hx H;have r:i<G.length:=by rw[X.1];omega
   have aa:G[i]?=some G[i]:=gE r;generalize G[i]=dv at aa;have Wx:=X.fb I k;have R:=Wx.2 i dv d aa hx;obtain⟨W,rfl⟩:=R.fn;obtain⟨J,L,rfl,P⟩:∃J L,B=some ⟨J,0,none⟩∧Has y J (.cells G.toArray 187 L):=by
    rcases e2 with ⟨_,z⟩|⟨d,L,z,hh⟩
    ·rw[z] at r;simp at r
    ·cases z;exact⟨d,L,rfl,hh⟩
   have ab:=P.fr k.1 (I.no P dq dq dq);have O:G.toArray[i]?=some (.func (.func d.f) #[] W):=by simp[aa]
   have ai:=b3.fr k.1 (I.no b3 dq dq dq);have Xh:bY U (.slice c aI.length j) aI:=b4.fb I k;have⟨xn,g1,u,a⟩:=H;have⟨U2,f1,f2,f3⟩:=u U W M R Xh;generalize aI.length=nA at *;refine zr (zp (yb (num (i:Nat)) (num (n:Nat)) (aX (b:=true) (tD oq))) (EO.nil (EW.seq (zT (EW.seq (EW.block (za U (zr (zp (yi J 0 n C i none .i64 (i:Nat) 1 oq oq oq) (zo U (zp (bP (b:=J) (off:=i) (v:=.func (.func d.f) #[] W) rfl underlying187 rfl kq ab.2 O) (zf (za U (zr (zg 2 U (zp (yA s.nx 0 5 #[num o,str p,str nm,.slice c nA j,.bool l] ai.2 iq) (yc #[] W f1 ?_)))))))))))))))));rcases a with ⟨rfl,a⟩|⟨rfl,rfl,rfl⟩
   ·refine zf (za U2 (zF (zx (zp (yp (i:Nat) 1 ((i+1:Nat):Int) oq oq) (zf ?_)))));exact⟨m-1,oq,i+1,xn,oq,f2,k.trans f3,a,aN kq⟩
   ·refine zf (za U2 (zH (zs ?_)));exact EW.ret ⟨.inr ⟨rfl,kq⟩,f2,k.trans f3⟩
  ·obtain rfl:i=n:=oq
   rw[List.drop_of_length_le oq] at H;obtain⟨rfl,rfl⟩:=H;refine zr (zp (yb (num (i:Nat)) (num (i:Nat)) (aX (b:=false) (fD oq))) (EO.nil (za U (EW.seq (zG (EW.exit ?_))))));exact⟨.inl ⟨rfl,rfl,aN kq⟩,M,k⟩
 ·rintro e A U ⟨⟨rfl,rfl,x,rfl⟩|⟨rfl,ah⟩,M,k⟩
  ·refine zs ?_;exact EW.ret ⟨.inr rfl,kq,M,(a3.trans b2).trans k⟩
  ·exact⟨.inr rfl,ah,M,(a3.trans b2).trans k⟩
end
section
variable {s s':AS}{pr:Prim}{b:Nat}{σ fo:TS}{t:eV}{aI:jd}
def cI.nothing(m:∀f,f∈cD→pr f=none):cI pr b t aI ⟨233,[],[]⟩ σ σ false:=by intro s x h r U;have⟨y,p,u,v,w,o⟩:=r;cases p;have⟨g,i,a,j,d⟩:=t;have U:bY s j aI:=U;have⟨c,e,k⟩:=U.len;subst k;have l:=h.add (dZ ⟨g,i,a,.slice c aI.length e,d⟩);have n:=(h.fk ((aP.refl (K:=fun _=>False) s).add (dZ ⟨g,i,a,.slice c aI.length e,d⟩))).2;obtain rfl:=o dq;generalize q:s.add (dZ ⟨g,i,a,.slice c aI.length e,d⟩)=S at *;refine EF.gq (m 233 dq) func233 rfl ?_;refine zs (za (s.add (dZ ⟨g,i,a,.slice c aI.length e,d⟩)) ?_);rw[q];refine zs (za S ?_);exact EW.ret ⟨.inr rfl,kq,l,n⟩
def cI.again(m:∀f,f∈cD→pr f=none)(z:σ.again=[]):cI pr b t aI ⟨238,[],[]⟩ σ σ true:=by intro s x h y k;have⟨D,q,A,B,C,p⟩:=y;cases q;have⟨g,i,a,j,d⟩:=t;have k:bY s j aI:=k;have⟨c,e,l⟩:=k.len;subst l;have n:=h.add (dZ ⟨g,i,a,.slice c aI.length e,d⟩);have o:=(h.fk ((aP.refl (K:=fun _=>False) s).add (dZ ⟨g,i,a,.slice c aI.length e,d⟩))).2;obtain rfl:=p dq;generalize w:s.add (dZ ⟨g,i,a,.slice c aI.length e,d⟩)=S at *;have⟨U,r,u,v⟩:=xL (m 239 dq) n z;refine EF.gq (m 238 dq) func238 rfl ?_;refine zs (za (s.add (dZ ⟨g,i,a,.slice c aI.length e,d⟩)) ?_);rw[w];refine zr (zc 1 r (EO.nil (za U (zs (za U ?_)))));exact EW.ret ⟨.inr rfl,kq,u,o.trans v⟩
def cI.head(j:∀f,f∈cD→pr f=none)(F:σ.w=0)(C:σ.nodes.length<100000):cI pr b t aI ⟨226,[],[]⟩ σ { σ.open_ [104,101,97,100] aI with w:=1 } false:=by intro s x h E k;have⟨N,y,H,I,J,v⟩:=E;cases y;have⟨g,i,a,m,e⟩:=t;have k:bY s m aI:=k;have⟨c,d,n⟩:=k.len;subst n;have o:=h.add (dZ ⟨g,i,a,.slice c aI.length d,e⟩);have q:=Has.new s (dZ ⟨g,i,a,.slice c aI.length d,e⟩);have r:=(h.fk ((aP.refl (K:=fun _=>False) s).add (dZ ⟨g,i,a,.slice c aI.length d,e⟩))).2;have u:bY (s.add (dZ ⟨g,i,a,.slice c aI.length d,e⟩)) (.slice c aI.length d) aI:=k.fk ((aP.refl (K:=fun _=>False) s).add _) fun _ _=>id;obtain rfl:=v dq;generalize D:s.add (dZ ⟨g,i,a,.slice c aI.length d,e⟩)=S at *;have⟨U,z,A,B⟩:=MN (j 220 dq) (j 223 dq) (j 217 dq) (j 232 dq) o u C;have⟨L,M,G,O,l⟩:=o;have l:=l.b;rw[F] at l;generalize aI.length=p at *;refine EF.gq (j 226 dq) func226 rfl ?_;refine zs (za (s.add (dZ ⟨g,i,a,.slice c p d,e⟩)) ?_);rw[D];refine EW.seq (zr (zg 3 S (zp (yl b 3 (num 0) l.2) (zf (za S (zH (zx (zg 2 S (zp (yl s.nx 3 (.slice c p d) q.2) (zc 0 z (EO.nil (za U (zs (za U ?_))))))))))))));exact EW.ret ⟨.inr rfl,kq,A,r.trans B⟩
def Jl(a:∀f,f∈cD→pr f=none)(d:pr 127=bB 127)(h:BX s b σ)(r:σ.w=1)(q:fS σ [[104,101,97,100]]=((σ.row.length-1:Nat):Int))(h2:2≤σ.row.length)(o:σ.nodes.length<100000):∃c,Ef pr 120 #[am b 0] s (.tuple #[]) c∧BX c b { σ.pop.open_ [98,111,100,121] [] with w:=2 }∧dA b s c:=by
 have⟨D,F,A,G,h⟩:=h;have g:=h.b;rw[r] at g;have e1:=h.add (.cells ([[104,101,97,100]].map str).toArray 9);have j:=dA.add h (.cells ([[104,101,97,100]].map str).toArray 9);have e:=wI (a 222 dq) (a 231 dq) (a 232 dq) d e1 (dF.new s [[104,101,97,100]] 1 rfl dq);rw[q] at e;have⟨U,k,l,m⟩:=oH (a 221 dq) (a 318 dq) (a 363 dq) d (a 319 dq) (a 142 dq) ⟨_,_,_,_,e1⟩ h2;have⟨C,E,z,H,n⟩:=l;obtain⟨V,g1,⟨v,x,i,y,g2⟩,g3⟩:=A6 (a 223 dq) (a 217 dq) (a 232 dq) n (nm:=[98,111,100,121]) (at_:=aD) (aI:=[]) (.inl ⟨rfl,rfl⟩) o;have⟨t,u⟩:=g2.H3 2;generalize p:s.add (.cells ([[104,101,97,100]].map str).toArray 9)=S at *;generalize B:σ.row.length-1=R at *;refine EF.gq (a 120 dq) func120 rfl ?_;iterate 2
  refine EW.seq (zr ?_)
  refine zg 3 s ?_
  refine zp (yl b 3 (num 1) g.2) ?_
  refine zf ?_
  refine za s ?_
  refine zF ?_
 refine zr (zk 3 (zo (s.add (.cells ([[104,101,97,100]].map str).toArray 9)) ?_));rw[p];refine zc 0 e (zc 0 k (EO.nil (za U (zr (zc 1 g1 (EO.nil (za V (zx (zg 3 V (zp (ys b 3 (num 2) g2.b.2 iq) (EO.nil ?_)))))))))));exact⟨.inl rfl,kq,⟨_,_,_,_,t⟩,((j.trans m).trans g3).trans u⟩
def Jm(U:∀f,f∈cD→pr f=none)(h:BX s b σ)(c:σ.w=2):Ef pr 120 #[am b 0] s (.tuple #[]) s:=by have⟨e,g,d,i,h⟩:=h;have a:=h.b;rw[c] at a;refine EF.of (U 120 dq) func120 rfl ?_;refine EW.seq (zr (zg 3 s (zp (yl b 3 (num 2) a.2) (zf (za s (zH ?_))))));exact EW.ret ⟨.inr rfl,kq,kq⟩
def cI.Lv(m:∀f,f∈cD→pr f=none)(o:pr 127=bB 127)(D:σ.w=1)(C:fS σ [[104,101,97,100]]=((σ.row.length-1:Nat):Int))(h2:2≤σ.row.length)(z:σ.nodes.length<100000):cI pr b t aI ⟨229,[],[]⟩ σ { σ.pop.open_ [98,111,100,121] [] with w:=2 } true:=by intro s x h B k;have⟨H,r,E,F,G,q⟩:=B;cases r;have⟨g,i,a,j,d⟩:=t;have k:bY s j aI:=k;have⟨c,e,l⟩:=k.len;subst l;have n:=h.add (dZ ⟨g,i,a,.slice c aI.length e,d⟩);have p:=(h.fk ((aP.refl (K:=fun _=>False) s).add (dZ ⟨g,i,a,.slice c aI.length e,d⟩))).2;obtain rfl:=q dq;generalize A:s.add (dZ ⟨g,i,a,.slice c aI.length e,d⟩)=S at *;have⟨U,u,v,y⟩:=Jl m o n D C h2 z;refine EF.gq (m 229 dq) func229 rfl ?_;refine zs (za (s.add (dZ ⟨g,i,a,.slice c aI.length e,d⟩)) ?_);rw[A];refine zr (zc 1 u (EO.nil (za U (zs (za U ?_)))));exact EW.ret ⟨.inr rfl,kq,v,p.trans y⟩
def cI.Jy(c:∀f,f∈cD→pr f=none)(q:pr 127=bB 127)(p:eM σ bO [t.name]=((σ.row.length-1:Nat):Int))(h2:2≤σ.row.length):cI pr b t aI ⟨246,[],[]⟩ σ σ.pop false:=by intro s x h J n;have⟨X,E,O,P,Q,D⟩:=J;cases E;have⟨i,j,a,k,e⟩:=t;have n:bY s k aI:=n;have⟨d,g,o⟩:=n.len;subst o;have w:=h.add (dZ ⟨i,j,a,.slice d aI.length g,e⟩);have y:=Has.new s (dZ ⟨i,j,a,.slice d aI.length g,e⟩);have z:=(h.fk ((aP.refl (K:=fun _=>False) s).add (dZ ⟨i,j,a,.slice d aI.length g,e⟩))).2;obtain rfl:=D dq;generalize I:s.add (dZ ⟨i,j,a,.slice d aI.length g,e⟩)=S at *;have p:eM σ bO [a]=((σ.row.length-1:Nat):Int):=p;generalize aI.length=L at *;have⟨V,W,N,Y,u⟩:=w;have l:=u.add (.cells ([a].map str).toArray 9);have A:=dA.add u (.cells ([a].map str).toArray 9);have r:=G3 (c 243 dq) (c 131 dq) (c 235 dq) (c 222 dq) (c 231 dq) (c 232 dq) q l (dF.new S [a] 1 rfl (by decide:(1:Nat)≤1000));rw[p] at r;generalize m:S.add (.cells ([a].map str).toArray 9)=v at *;have B:=l.add (.cells (bO.map str).toArray 9);have C:=dA.add l (.cells (bO.map str).toArray 9);generalize v.add (.cells (bO.map str).toArray 9)=M at *;have⟨U,F,G,H⟩:=oH (c 221 dq) (c 318 dq) (c 363 dq) q (c 319 dq) (c 142 dq) ⟨_,_,_,_,B⟩ h2;generalize T:σ.row.length-1=R at *;refine EF.gq (c 246 dq) func246 rfl ?_;refine zs (za (s.add (dZ ⟨i,j,a,.slice d L g,e⟩)) ?_);rw[I];refine zr (zg 3 S (zp (yl s.nx 2 (str a) y.2) (zk 1 (zo (S.add (.cells ([a].map str).toArray 9)) ?_))));rw[m];refine zc 0 r (zc 0 F (EO.nil (za U (zs (za U ?_)))));exact EW.ret ⟨.inr rfl,kq,G,((z.trans A).trans C).trans H⟩
def cI.give(U:∀f,f∈cD→pr f=none)(A:pr 127=bB 127)(w:fS σ [nm]=(i:Nat)):cI pr b t [] ⟨224,[nm],[]⟩ σ σ false:=by
 intro s x h I n;have⟨X,E,D,Q,R,T⟩:=I;cases E;have⟨d,e,a,k,c⟩:=t;have n:bY s k ([]:jd):=n;have⟨ad,cp,o⟩:=n.len;subst o;have y:=h.add (dZ ⟨d,e,a,.slice ad ([]:jd).length cp,c⟩);have q:=Has.new s (dZ ⟨d,e,a,.slice ad ([]:jd).length cp,c⟩);have z:=(h.fk ((aP.refl (K:=fun _=>False) s).add (dZ ⟨d,e,a,.slice ad ([]:jd).length cp,c⟩))).2;obtain⟨B,N,q1,rfl,G⟩:=D (.inl rfl);cases q1;have j:=G.add (dZ ⟨d,e,a,.slice ad ([]:jd).length cp,c⟩);generalize H:s.add (dZ ⟨d,e,a,.slice ad ([]:jd).length cp,c⟩)=S at *;have p:i<σ.row.length:=by have:=sO σ [nm];rw[w] at this;omega
 have⟨V,W,O,Y,v⟩:=y;have l:=v.add (.cells ([nm].map str).toArray 9);have C:=dA.add v (.cells ([nm].map str).toArray 9);have r:=wI (U 222 dq) (U 231 dq) (U 232 dq) A l (dF.new S [nm] 1 rfl (by decide:(1:Nat)≤1000));rw[w] at r;have u:=q.add (.cells ([nm].map str).toArray 9);have J:=bL (P:=prog) (t:=9) underlying9 rfl j.2 (off:=0) rfl;have L:=bL (P:=prog) (t:=42) underlying42 rfl q.2 (off:=3) rfl;have M:=bL (P:=prog) (t:=42) underlying42 rfl u.2 (off:=3) rfl;generalize m:S.add (.cells ([nm].map str).toArray 9)=g at *;have F:=JI (U 225 dq) (⟨_,_,_,_,l⟩:BX g b σ) p (ad:=ad) (cp:=cp);refine EF.gq (U 224 dq) func224 rfl ?_;refine zs (za (s.add (dZ ⟨d,e,a,.slice ad ([]:jd).length cp,c⟩)) ?_);rw[H];refine EW.seq (EW.draw kq kq kq ?_);iterate 2 refine zq ?_
 refine zt S (zu (yl B 0 (str nm) j.2) (zq (zt (S.add (.cells ([nm].map str).toArray 9)) ?_)));rw[m];refine yt r (zq (zt g (zu (yl s.nx 3 (.slice ad 0 cp) u.2) (yt F (ET.nil ⟨aK [(aC prog 9 (am B 0) S,str nm),(aC prog 42 (am s.nx 3) S,.slice ad 0 cp),(aC prog 42 (am s.nx 3) g,.slice ad 0 cp)] kq (uh ⟨J,rfl⟩ ⟨L,by cases ad<;>rfl⟩ ⟨M,by cases ad<;>rfl⟩),_,_,_,_,_,_,rfl,rfl,?_⟩)))));refine za g (zs (za g ?_));exact EW.ret ⟨.inr rfl,kq,⟨_,_,_,_,l⟩,z.trans C⟩
end
section
variable {s s':AS}{pr:Prim}{b:Nat}{σ fo:TS}{t:eV}{aI:jd}
def jg(pr:Prim)(F:FuncId)(b:Nat)(t:eV)(aI:jd)(σ fo:TS):Prop:=∀s,BX s b σ→bY s t.at_ aI→∃s',EF prog lF pr F #[am b 0,.agg (ff t).toArray] s (.tuple #[]) s'∧BX s' b fo∧dA b s s'
def tG(p:∀f,f∈cD→pr f=none)(A:pr 127=bB 127)(H:σ.w≠2)(G:eN pr b t aI (bV t.name li) σ fo false):jg pr 218 b t aI σ fo:=by
 intro s h l;have⟨g,j,i,q,e⟩:=t;have l:bY s q aI:=l;have⟨a,c,r⟩:=l.len;subst r;generalize aI.length=d at *;have o:=h.add (dZ ⟨g,j,i,.slice a d c,e⟩);have u:=Has.new s (dZ ⟨g,j,i,.slice a d c,e⟩);have k:=(aP.refl (K:=fun _=>False) s).add (dZ ⟨g,j,i,.slice a d c,e⟩);have x:=(h.fk k).2;have y:bY (s.add (dZ ⟨g,j,i,.slice a d c,e⟩)) (.slice a d c) aI:=l.fk k fun _ _=>id;generalize E:s.add (dZ ⟨g,j,i,.slice a d c,e⟩)=S at *;have⟨U,B,C,D⟩:=Jw (s:=S) p (F:=65) (lz:=li) (fun z=>HR p A z) (t:=⟨g,j,i,.slice a d c,e⟩) o y G;have⟨O,Q,N,R,v⟩:=o;have m:=v.b;have o:BX S b σ:=⟨_,_,_,_,v⟩;have J:=bL (P:=prog) (t:=181) underlying181 rfl m.2 (off:=3) rfl;have L:=bL (P:=prog) (t:=112) underlying112 rfl m.2 (off:=4) rfl;have M:=iJ (P:=prog) (t:=60) (n:=5) underlying60 rfl kq u.2 (off:=0) (Nat.le_refl 5);generalize I:σ.w=w at *;refine EF.gq (p 218 dq) func218 rfl ?_;refine zs (za (s.add (dZ ⟨g,j,i,.slice a d c,e⟩)) ?_);rw[E];refine EW.seq (EW.seq (EW.draw kq kq kq ?_));iterate 3 refine zq ?_
 refine zt S (zu (yl b 3 (num w) m.2) (zu (yb (num w) (num 2) (ca (b:=true) (bne_iff_ne.2 H))) ?_));iterate 6 refine zq ?_
 refine zt S (zu (yl b 4 (dB 65) m.2) (zu (yA s.nx 0 5 #[num g,str j,str i,.slice a d c,.bool e] u.2 iq) (yt B ?_)));iterate 2 refine zq ?_
 refine ET.nil ⟨aK [(aC prog 181 (am b 3) S,num w),(aC prog 112 (am b 4) S,dB 65),(aC prog 60 (am s.nx 0) S,.agg #[num g,str j,str i,.slice a d c,.bool e])] kq (uh ⟨J,rfl⟩ ⟨L,rfl⟩ ⟨M,by cases a<;>rfl⟩),_,_,_,_,_,_,rfl,rfl,?_⟩;refine za U (zH ?_);exact EW.ret ⟨.inr rfl,kq,C,x.trans D⟩
def tF(m:∀f,f∈cD→pr f=none)(C:pr 127=bB 127)(Q:σ.w=2){l:TS}(O:eN pr b t aI (bV t.name gZ) σ l g)(M:l.nodes.length<100000):jg pr 218 b t aI σ (if g then l.mV t.name aI else l):=by
 intro s h v;have⟨i,k,j,x,e⟩:=t;have v:bY s x aI:=v;have⟨a,c,y⟩:=v.len;subst y;generalize aI.length=d at *;have o:=h.add (dZ ⟨i,k,j,.slice a d c,e⟩);have r:=Has.new s (dZ ⟨i,k,j,.slice a d c,e⟩);have q:=(aP.refl (K:=fun _=>False) s).add (dZ ⟨i,k,j,.slice a d c,e⟩);have A:=(h.fk q).2;have B:bY (s.add (dZ ⟨i,k,j,.slice a d c,e⟩)) (.slice a d c) aI:=v.fk q fun _ _=>id;generalize N:s.add (dZ ⟨i,k,j,.slice a d c,e⟩)=S at *;have⟨U,L,D,u⟩:=Jw (s:=S) m (F:=68) (lz:=gZ) (fun z=>HT m C z) (t:=⟨i,k,j,.slice a d c,e⟩) o B O;have G:=r.fr u.1 (o.no r dq dq dq);have H:bY U (.slice a d c) aI:=B.fb o u;have⟨V,e1,I,J⟩:=ve (m 228 dq) (m 138 dq) C (m 223 dq) (m 217 dq) (m 232 dq) D (t:=⟨i,k,j,.slice a d c,e⟩) H M;have⟨Y,Z,X,xs,E⟩:=o;have p:=E.b;have o:BX S b σ:=⟨_,_,_,_,E⟩;rw[Q] at p;have R:=bL (P:=prog) (t:=181) underlying181 rfl p.2 (off:=3) rfl;have T:=bL (P:=prog) (t:=112) underlying112 rfl p.2 (off:=6) rfl;have W:=iJ (P:=prog) (t:=60) (n:=5) underlying60 rfl kq r.2 (off:=0) (Nat.le_refl 5);refine EF.gq (m 218 dq) func218 rfl ?_;refine zs (za (s.add (dZ ⟨i,k,j,.slice a d c,e⟩)) ?_);rw[N];refine EW.seq (EW.seq (EW.draw kq kq kq ?_));iterate 3 refine zq ?_
 refine zt S (zu (yl b 3 (num 2) p.2) ?_);iterate 2 refine zq ?_
 iterate 9 refine ET.pass kq ?_
 refine zq (ET.nil ⟨aK [(aC prog 181 (am b 3) S,num 2)] kq (M3 ⟨R,rfl⟩),_,_,_,_,_,_,rfl,rfl,?_⟩);refine za S (zF (EW.seq (EW.draw kq kq kq ?_)));iterate 5 refine zq ?_
 refine zt S (zu (yl b 6 (dB 68) p.2) (zu (yA s.nx 0 5 #[num i,str k,str j,.slice a d c,.bool e] r.2 iq) (yt L (zq (ET.nil ⟨aK [(aC prog 112 (am b 6) S,dB 68),(aC prog 60 (am s.nx 0) S,.agg #[num i,str k,str j,.slice a d c,.bool e])] kq (mh ⟨T,rfl⟩ ⟨W,by cases a<;>rfl⟩),_,_,_,_,_,_,rfl,rfl,?_⟩)))));refine za U ?_;cases g with
 | true =>refine zH ?_;refine zx (zg 1 U (zp (yA s.nx 0 5 #[num i,str k,str j,.slice a d c,.bool e] G.2 iq) (zc 0 e1 (EO.nil ?_))));exact⟨.inl rfl,kq,I,(A.trans u).trans J⟩
 | false =>refine zF ?_;exact⟨.inl rfl,kq,D,A.trans u⟩
def Au(p:∀f,f∈cD→pr f=none)(A:pr 127=bB 127)(H:σ.w≠2)(G:eN pr b t aI (bV t.name mw) σ fo false):jg pr 219 b t aI σ fo:=by
 intro s h l;have⟨g,j,i,q,e⟩:=t;have l:bY s q aI:=l;have⟨a,c,r⟩:=l.len;subst r;generalize aI.length=d at *;have o:=h.add (dZ ⟨g,j,i,.slice a d c,e⟩);have u:=Has.new s (dZ ⟨g,j,i,.slice a d c,e⟩);have k:=(aP.refl (K:=fun _=>False) s).add (dZ ⟨g,j,i,.slice a d c,e⟩);have x:=(h.fk k).2;have y:bY (s.add (dZ ⟨g,j,i,.slice a d c,e⟩)) (.slice a d c) aI:=l.fk k fun _ _=>id;generalize E:s.add (dZ ⟨g,j,i,.slice a d c,e⟩)=S at *;have⟨U,B,C,D⟩:=Jw (s:=S) p (F:=67) (lz:=mw) (fun z=>HO p A z) (t:=⟨g,j,i,.slice a d c,e⟩) o y G;have⟨O,Q,N,R,v⟩:=o;have m:=v.b;have o:BX S b σ:=⟨_,_,_,_,v⟩;have J:=bL (P:=prog) (t:=181) underlying181 rfl m.2 (off:=3) rfl;have L:=bL (P:=prog) (t:=112) underlying112 rfl m.2 (off:=5) rfl;have M:=iJ (P:=prog) (t:=60) (n:=5) underlying60 rfl kq u.2 (off:=0) (Nat.le_refl 5);generalize I:σ.w=w at *;refine EF.gq (p 219 dq) func219 rfl ?_;refine zs (za (s.add (dZ ⟨g,j,i,.slice a d c,e⟩)) ?_);rw[E];refine EW.seq (EW.draw kq kq kq ?_);iterate 3 refine zq ?_
 refine zt S (zu (yl b 3 (num w) m.2) (zu (yb (num w) (num 2) (gP (b:=false) (bF.2 H))) ?_));iterate 6 refine zq ?_
 refine zt S (zu (yl b 5 (dB 67) m.2) (zu (yA s.nx 0 5 #[num g,str j,str i,.slice a d c,.bool e] u.2 iq) (yt B ?_)));iterate 2 refine zq ?_
 refine ET.nil ⟨aK [(aC prog 181 (am b 3) S,num w),(aC prog 112 (am b 5) S,dB 67),(aC prog 60 (am s.nx 0) S,.agg #[num g,str j,str i,.slice a d c,.bool e])] kq (uh ⟨J,rfl⟩ ⟨L,rfl⟩ ⟨M,by cases a<;>rfl⟩),_,_,_,_,_,_,rfl,rfl,?_⟩;refine za U (zF ?_);exact⟨.inl rfl,kq,C,x.trans D⟩
def At(q:∀f,f∈cD→pr f=none)(B:pr 127=bB 127)(I:σ.w=2)(H:eN pr b t aI (bV t.name gY) σ fo g):jg pr 219 b t aI σ fo:=by
 intro s h o;have⟨i,k,j,r,e⟩:=t;have o:bY s r aI:=o;have⟨a,c,u⟩:=o.len;subst u;generalize aI.length=d at *;have p:=h.add (dZ ⟨i,k,j,.slice a d c,e⟩);have v:=Has.new s (dZ ⟨i,k,j,.slice a d c,e⟩);have m:=(aP.refl (K:=fun _=>False) s).add (dZ ⟨i,k,j,.slice a d c,e⟩);have y:=(h.fk m).2;have A:bY (s.add (dZ ⟨i,k,j,.slice a d c,e⟩)) (.slice a d c) aI:=o.fk m fun _ _=>id;generalize G:s.add (dZ ⟨i,k,j,.slice a d c,e⟩)=S at *;have⟨U,C,D,E⟩:=Jw (s:=S) q (F:=69) (lz:=gY) (fun z=>HS q B z) (t:=⟨i,k,j,.slice a d c,e⟩) p A H;have⟨O,Q,N,R,x⟩:=p;have l:=x.b;have p:BX S b σ:=⟨_,_,_,_,x⟩;rw[I] at l;have J:=bL (P:=prog) (t:=181) underlying181 rfl l.2 (off:=3) rfl;have L:=bL (P:=prog) (t:=112) underlying112 rfl l.2 (off:=7) rfl;have M:=iJ (P:=prog) (t:=60) (n:=5) underlying60 rfl kq v.2 (off:=0) (Nat.le_refl 5);refine EF.gq (q 219 dq) func219 rfl ?_;refine zs (za (s.add (dZ ⟨i,k,j,.slice a d c,e⟩)) ?_);rw[G];refine EW.seq (EW.draw kq kq kq ?_);iterate 3 refine zq ?_
 refine zt S (zu (yl b 3 (num 2) l.2) ?_);iterate 2 refine zq ?_
 iterate 9 refine ET.pass kq ?_
 refine zq (ET.nil ⟨aK [(aC prog 181 (am b 3) S,num 2)] kq (M3 ⟨J,rfl⟩),_,_,_,_,_,_,rfl,rfl,?_⟩);refine za S (zH ?_);refine EW.draw kq kq kq ?_;iterate 5 refine zq ?_
 refine zt S (zu (yl b 7 (dB 69) l.2) (zu (yA s.nx 0 5 #[num i,str k,str j,.slice a d c,.bool e] v.2 iq) (yt C (ET.nil ⟨aK [(aC prog 112 (am b 7) S,dB 69),(aC prog 60 (am s.nx 0) S,.agg #[num i,str k,str j,.slice a d c,.bool e])] kq (mh ⟨L,rfl⟩ ⟨M,by cases a<;>rfl⟩),_,_,_,_,_,_,rfl,rfl,?_⟩))));exact⟨.inl rfl,kq,D,y.trans E⟩
def CU(v:∀f,f∈cD→pr f=none)(B:pr 127=bB 127)(A:t.kind=1)(u:∀s,BX s b σ→∃o,Ef pr 216 #[am b 0,str t.text] s (.tuple #[]) o∧BX o b fo∧dA b s o):jg pr 119 b t aI σ fo:=by intro s h l;have⟨g,a,j,k,d⟩:=t;have l:bY s k aI:=l;have⟨c,e,m⟩:=l.len;subst m;generalize aI.length=i at *;have q:=h.add (dZ ⟨g,a,j,.slice c i e,d⟩);have p:=Has.new s (dZ ⟨g,a,j,.slice c i e,d⟩);have n:=(aP.refl (K:=fun _=>False) s).add (dZ ⟨g,a,j,.slice c i e,d⟩);have r:=(h.fk n).2;generalize z:s.add (dZ ⟨g,a,j,.slice c i e,d⟩)=S at *;have⟨U,w,x,y⟩:=u S q;obtain rfl:g=1:=A;refine EF.gq (v 119 dq) func119 rfl ?_;refine zs (za (s.add (dZ ⟨1,a,j,.slice c i e,d⟩)) ?_);rw[z];refine zr (zg 1 S (zp (yl s.nx 0 (num 1) p.2) (zf (za S (EW.block (zr (zf (za S (zH (zx (zg 2 S (zp (yl s.nx 1 (str a) p.2) (zc 0 w (EO.nil ?_))))))))))))));exact⟨.inl rfl,kq,x,r.trans y⟩
def m7(u:∀f,f∈cD→pr f=none)(B:pr 127=bB 127)(z:t.kind=2)(A:jg pr 218 b t aI σ fo):jg pr 119 b t aI σ fo:=by
 intro s h l;have⟨j,i,g,m,e⟩:=t;have l:bY s m aI:=l;have⟨a,c,n⟩:=l.len;subst n;generalize aI.length=d at *;have p:=h.add (dZ ⟨j,i,g,.slice a d c,e⟩);have o:=Has.new s (dZ ⟨j,i,g,.slice a d c,e⟩);have k:=(aP.refl (K:=fun _=>False) s).add (dZ ⟨j,i,g,.slice a d c,e⟩);have q:=(h.fk k).2;have r:bY (s.add (dZ ⟨j,i,g,.slice a d c,e⟩)) (.slice a d c) aI:=l.fk k fun _ _=>id;generalize y:s.add (dZ ⟨j,i,g,.slice a d c,e⟩)=S at *;have⟨U,v,w,x⟩:=A S p r;obtain rfl:j=2:=z;refine EF.gq (u 119 dq) func119 rfl ?_;refine zs (za (s.add (dZ ⟨2,i,g,.slice a d c,e⟩)) ?_);rw[y];refine zr (zg 1 S (zp (yl s.nx 0 (num 2) o.2) (zf (za S (EW.block ?_)))));iterate 2
  refine zr ?_
  refine zf ?_
  refine za S ?_
  refine zG ?_
 refine zr (zf (za S (zH (zx (zg 1 S (zp (yA s.nx 0 5 #[num 2,str i,str g,.slice a d c,.bool e] o.2 iq) (zc 0 v (EO.nil ?_))))))));exact⟨.inl rfl,kq,w,q.trans x⟩
def m6(u:∀f,f∈cD→pr f=none)(B:pr 127=bB 127)(z:t.kind=3)(A:jg pr 219 b t aI σ fo):jg pr 119 b t aI σ fo:=by
 intro s h l;have⟨j,i,g,m,e⟩:=t;have l:bY s m aI:=l;have⟨a,c,n⟩:=l.len;subst n;generalize aI.length=d at *;have p:=h.add (dZ ⟨j,i,g,.slice a d c,e⟩);have o:=Has.new s (dZ ⟨j,i,g,.slice a d c,e⟩);have k:=(aP.refl (K:=fun _=>False) s).add (dZ ⟨j,i,g,.slice a d c,e⟩);have q:=(h.fk k).2;have r:bY (s.add (dZ ⟨j,i,g,.slice a d c,e⟩)) (.slice a d c) aI:=l.fk k fun _ _=>id;generalize y:s.add (dZ ⟨j,i,g,.slice a d c,e⟩)=S at *;have⟨U,v,w,x⟩:=A S p r;obtain rfl:j=3:=z;refine EF.gq (u 119 dq) func119 rfl ?_;refine zs (za (s.add (dZ ⟨3,i,g,.slice a d c,e⟩)) ?_);rw[y];refine zr (zg 1 S (zp (yl s.nx 0 (num 3) o.2) (zf (za S (EW.block ?_)))));iterate 3
  refine zr ?_
  refine zf ?_
  refine za S ?_
  refine zG ?_
 refine zr (zf (za S (zH (zx (zg 1 S (zp (yA s.nx 0 5 #[num 3,str i,str g,.slice a d c,.bool e] o.2 iq) (zc 0 v (EO.nil ?_))))))));exact⟨.inl rfl,kq,w,q.trans x⟩
end
section
variable {s s':AS}{pr:Prim}{b:Nat}{σ fo:TS}{t:eV}{aI:jd}
def K7:∀(ts:List eV) (i:Nat) (t:eV),ts[i]?=some t→(((nC ts).toList.drop (i*5)).take 5).toArray=(ff t).toArray:=by
 intro ts i t h;have a:∀(ts:List eV) (i:Nat),ts[i]?=some t→((ts.flatMap ff).drop (i*5)).take 5=ff t:=by
  intro ts;induction ts with
  | nil=>intro i h;simp at h
  | cons x l U =>
   intro i h;match i with
   | 0=>simp at h;subst h;rfl
   | i+1=>rw[show(i+1)*5=i*5+5 by omega];exact U i (by simpa using h)
 rw[show(nC ts).toList=ts.flatMap ff by simp[nC],a ts i h]
def bN(pr:Prim):List Tok→TS→TS→Prop
 | [],σ,fo=>fo=σ
 | u::us,σ,fo=>∃xn,(∀b at_,jg pr 119 b ⟨u.kind,u.text,u.name,at_,u.closed⟩ u.bU σ xn)∧bN pr us xn fo
def TS.zero:TS:=⟨[⟨1,-1,[104,116,109,108],[],[]⟩],[0],[],0⟩
def NJ (B:Nat)(v:Value)(n i:Nat)(x:Nq):TL:=[v,x 1,x 2,x 3,x 4,x 5,am B 0,x 7,x 8,x 9,x 10,x 11,x 12,x 13,x 14,v,num (n:Nat),num (i:Nat)]++iy x 18 9
def Jn(ae:∀f,f∈cD→pr f=none){us:List Tok}(hv:qL s v ts)(hm:gh s ts us)(hn:us.length≤1000000)(hr:bN pr us TS.zero fo)(hw:fo.w=2):∃s' w I,Ef pr 64 #[v,.agg #[dB 65,dB 67,dB 68,dB 69]] s w s'∧lq s' w I∧eu s' I fo.nodes∧aP (fun _=>False) s s'∧∀x,blk w x→s.nx≤x:=by
 suffices h:Ew pr (match Tryz.f64.body with|some c=>c|none=>.skip) ((#[v,.agg #[dB 65,dB 67,dB 68,dB 69]]:Aq).toList++List.replicate (Tryz.f64.ntmps-(#[v,.agg #[dB 65,dB 67,dB 68,dB 69]]:Aq).toList.length) undef) s (fun e J C=>(e=.normal∨e=.ret)∧∃w I,du prog Tryz.f64 J C=some w∧lq C w I∧eu C I fo.nodes∧aP (fun _=>False) s C∧∀x,blk w x→s.nx≤x) by have⟨m,e,J,C,h1,he,w,I,h2,h3⟩:=h;exact⟨C,w,I,EF.of (ae 64 dq) func64 rfl ⟨m,e,J,C,h1,he,h2,rfl⟩,h3⟩
 obtain⟨R,S,aj⟩:∃R S,v=.slice R ts.length S:=by
  rcases hv with ⟨rfl,rfl⟩|⟨d,Y,rfl,_⟩
  ·exact⟨none,0,rfl⟩
  ·exact⟨_,_,rfl⟩
 subst aj;have ak:ts.length=us.length:=hm.1;have a0:=Has.new s (.cells #[dB 65,dB 67,dB 68,dB 69] 116);have f0:=(aP.refl (K:=fun _=>False) s).add (.cells #[dB 65,dB 67,dB 68,dB 69] 116);have n0:(s.add (.cells #[dB 65,dB 67,dB 68,dB 69] 116)).nx=s.nx+1:=rfl;generalize WX:s.add (.cells #[dB 65,dB 67,dB 68,dB 69] 116)=g at a0 f0 n0;have z1:=Has.new g (.cells #[num 0,num 0,str [],str [],aD] 44);have y1:(g.add (.cells #[num 0,num 0,str [],str [],aD] 44)).set g.nx (some (.cells #[num 1,num (-1),str [104,116,109,108],str [],aD] 44))=g.add (.cells #[num 1,num (-1),str [104,116,109,108],str [],aD] 44):=AS.set_set (⟨g.hp,g.nx+1⟩:AS) g.nx (some (.cells #[num 0,num 0,str [],str [],aD] 44)) (some (.cells #[num 1,num (-1),str [104,116,109,108],str [],aD] 44));have a1:=Has.new g (.cells #[num 1,num (-1),str [104,116,109,108],str [],aD] 44);have b1:=a0.add (.cells #[num 1,num (-1),str [104,116,109,108],str [],aD] 44);have f1:=f0.add (.cells #[num 1,num (-1),str [104,116,109,108],str [],aD] 44);have n1:(g.add (.cells #[num 1,num (-1),str [104,116,109,108],str [],aD] 44)).nx=s.nx+2:=by show g.nx+1=_;omega
 generalize al:g.add (.cells #[num 1,num (-1),str [104,116,109,108],str [],aD] 44)=j at y1 a1 b1 f1 n1;have a2:=Has.new j (.cells #[num 1,num (-1),str [104,116,109,108],str [],aD] 44);have b2:=b1.add (.cells #[num 1,num (-1),str [104,116,109,108],str [],aD] 44);have f2:=f1.add (.cells #[num 1,num (-1),str [104,116,109,108],str [],aD] 44);have n2:(j.add (.cells #[num 1,num (-1),str [104,116,109,108],str [],aD] 44)).nx=s.nx+3:=by show j.nx+1=_;omega
 generalize ah:j.add (.cells #[num 1,num (-1),str [104,116,109,108],str [],aD] 44)=l at a2 b2 f2 n2;have a3:=Has.new l (.cells #[num 0] 3);have c2:=a2.add (.cells #[num 0] 3);have b3:=b2.add (.cells #[num 0] 3);have f3:=f2.add (.cells #[num 0] 3);have n3:(l.add (.cells #[num 0] 3)).nx=s.nx+4:=by show l.nx+1=_;omega
 generalize ai:l.add (.cells #[num 0] 3)=a at a3 c2 b3 f3 n3;have z4:=Has.new a (.cells #[aD,aD,aD,num 0,.nilFunc,.nilFunc,.nilFunc,.nilFunc] 183);have y4:(a.add (.cells #[aD,aD,aD,num 0,.nilFunc,.nilFunc,.nilFunc,.nilFunc] 183)).set a.nx (some (oD (.slice (sq j.nx) 1 1) (.slice (sq l.nx) 1 1) aD 0))=a.add (oD (.slice (sq j.nx) 1 1) (.slice (sq l.nx) 1 1) aD 0):=AS.set_set (⟨a.hp,a.nx+1⟩:AS) a.nx (some (.cells #[aD,aD,aD,num 0,.nilFunc,.nilFunc,.nilFunc,.nilFunc] 183)) (some _);have a4:=Has.new a (oD (.slice (sq j.nx) 1 1) (.slice (sq l.nx) 1 1) aD 0);have c3:=a3.add (oD (.slice (sq j.nx) 1 1) (.slice (sq l.nx) 1 1) aD 0);have d2:=c2.add (oD (.slice (sq j.nx) 1 1) (.slice (sq l.nx) 1 1) aD 0);have f4:=f3.add (oD (.slice (sq j.nx) 1 1) (.slice (sq l.nx) 1 1) aD 0);have n4:(a.add (oD (.slice (sq j.nx) 1 1) (.slice (sq l.nx) 1 1) aD 0)).nx=s.nx+5:=by show a.nx+1=_;omega
 generalize ao:a.add (oD (.slice (sq j.nx) 1 1) (.slice (sq l.nx) 1 1) aD 0)=M at y4 a4 c3 d2 f4 n4;have hT:BT M a.nx (.slice (sq j.nx) 1 1) (.slice (sq l.nx) 1 1) aD [⟨1,-1,[104,116,109,108],[],aD⟩] TS.zero :=
  ⟨a4,⟨_,_,_,rfl,d2⟩,⟨rfl,fun i x u h1 h2=>by
   match i with
   | 0=>cases h1;cases h2;exact⟨rfl,rfl,rfl,rfl,.inl ⟨rfl,rfl⟩⟩
   | i+1=>simp at h1⟩,.inr ⟨_,_,_,_,rfl,Nat.le_refl 1,c3.1,c3.2,fun i k h=>by
   match i with
   | 0=>cases h;rfl
   | i+1=>simp[TS.zero] at h⟩,.inl ⟨rfl,rfl⟩,fun x _ z=>cz z,fun k hk=>by simp[TS.zero] at hk;subst hk;decide,fun k hk=>by simp[TS.zero] at hk,by simp[TS.zero],dq⟩;have hK:∀x,KB a.nx M x→s.nx≤x:=fun x z=>by
  rcases(KB.at a4.2).1 z with z|z|z|z
  ·omega
  iterate 2
   ·rw[cY z];omega
  ·exact(cz z).elim
 have hX:BX M a.nx TS.zero:=⟨_,_,_,_,hT⟩;refine zs (za (s.add (.cells #[dB 65,dB 67,dB 68,dB 69] 116)) ?_);rw[WX];refine zr (zg 2 (g.add (.cells #[num 0,num 0,str [],str [],aD] 44)) (zp (ep (b:=g.nx) (off:=0) (w:=.agg #[num 1,num (-1),str [104,116,109,108],str [],aD]) (ws:=[num 1,num (-1),str [104,116,109,108],str [],aD]) rfl kq kq rfl rfl kq (Has.new g _).2 iq) (EO.nil (za ((g.add (.cells #[num 0,num 0,str [],str [],aD] 44)).set g.nx (some (.cells #[num 1,num (-1),str [104,116,109,108],str [],aD] 44))) ?_))));rw[y1];refine zr (zp (yA g.nx 0 5 #[num 1,num (-1),str [104,116,109,108],str [],aD] a1.2 iq) (zk 1 (zo (j.add (.cells #[num 1,num (-1),str [104,116,109,108],str [],aD] 44)) ?_)));rw[ah];refine zk 1 (zo (l.add (.cells #[num 0] 3)) ?_);rw[ai];refine zp (yA s.nx 0 4 #[dB 65,dB 67,dB 68,dB 69] b3.2 iq) (zk 2 (zo (a.add (.cells #[aD,aD,aD,num 0,.nilFunc,.nilFunc,.nilFunc,.nilFunc] 183)) (zp (ep (b:=a.nx) (off:=0) (w:=.agg #[.slice (sq j.nx) 1 1,.slice (sq l.nx) 1 1,aD,num 0,dB 65,dB 67,dB 68,dB 69]) (ws:=[.slice (sq j.nx) 1 1,.slice (sq l.nx) 1 1,aD,num 0,dB 65,dB 67,dB 68,dB 69]) rfl kq kq rfl rfl kq z4.2 iq) (EO.nil (za ((a.add (.cells #[aD,aD,aD,num 0,.nilFunc,.nilFunc,.nilFunc,.nilFunc] 183)).set a.nx (some (oD (.slice (sq j.nx) 1 1) (.slice (sq l.nx) 1 1) aD 0))) ?_)))));rw[y4];refine EW.seq (zr (zf (za M ?_)));generalize a.nx=B at *;generalize Z3:ts.length=n at *;refine EW.fill (NJ B (.slice R n S) n 0) kq ?_;intro x0;refine EW.block ?_;refine EW.mono (EW.dS (Q:=fun e J C=>e=.exit 0∧BX C B fo∧dA B M C∧∃x,J=NJ B (.slice R n S) n n x) (fun m J C=>∃i P,i+m=n∧BX C B P∧dA B M C∧bN pr (us.drop i) P fo∧∃x,J=NJ B (.slice R n S) n i x) ?_ n _ _ ⟨0,TS.zero,oq,hX,dA.refl M,hr,x0,rfl⟩) ?_
 ·rintro m J U ⟨i,P,aq,T,N,V,x,rfl⟩;by_cases hi:i<n
  ·have ab:i<us.length:=oq
   rw[List.drop_eq_getElem_cons ab] at V;have af:us[i]?=some us[i]:=gE ab;generalize us[i]=u at af V;have H:i<ts.length:=oq
   have a9:ts[i]?=some ts[i]:=gE H;generalize ts[i]=t at a9;have⟨m1,m2,m3,m4,m5⟩:=hm.2 i t u a9 af;obtain⟨X,Y,rfl,Xz⟩:∃X Y,R=some ⟨X,0,none⟩∧Has s X (.cells (nC ts) 60 Y):=by
    rcases hv with ⟨_,z⟩|⟨d,Y,z,hh⟩
    ·rw[z] at H;simp at H
    ·cases z;exact⟨d,Y,rfl,hh⟩
   have aa:=Xz.fr f4 id;have Xy:=aa.fr N.1 (hX.no aa dq dq dq);have L:bY U t.at_ u.bU:=(m5.fk f4 fun _ _=>id).fb hX N;have⟨xn,o,O⟩:=V;have o:=o B t.at_;rw[← m1,← m2,← m3,← m4] at o;have Pu:=K7 ts i t a9;have JO:=qI ts;have⟨E,G,F,at_,D⟩:=t;have L:bY U at_ u.bU:=L;have⟨p,q,JL⟩:=L.len;subst JL;generalize u.bU.length=A at *;have e1:=T.add (dZ ⟨E,G,F,.slice p A q,D⟩);have e2:=Has.new U (dZ ⟨E,G,F,.slice p A q,D⟩);have Z:=(aP.refl (K:=fun _=>False) U).add (dZ ⟨E,G,F,.slice p A q,D⟩);have e3:=(T.fk Z).2;have e4:bY (U.add (dZ ⟨E,G,F,.slice p A q,D⟩)) (.slice p A q) u.bU:=L.fk Z fun _ _=>id;have ez:=Has.new U (.cells #[num 0,str [],str [],aD,.bool false] 60);have ey:(U.add (.cells #[num 0,str [],str [],aD,.bool false] 60)).set U.nx (some (dZ ⟨E,G,F,.slice p A q,D⟩))=U.add (dZ ⟨E,G,F,.slice p A q,D⟩):=AS.set_set (⟨U.hp,U.nx+1⟩:AS) U.nx (some (.cells #[num 0,str [],str [],aD,.bool false] 60)) (some _);generalize hW:U.add (dZ ⟨E,G,F,.slice p A q,D⟩)=W at *;have⟨W2,g1,g2,g3⟩:=o W e1 e4;refine zr (zp (yb (num (i:Nat)) (num (n:Nat)) (aX (b:=true) (tD oq))) (EO.nil (EW.seq (zT (EW.seq (EW.block (za U (zr (zp (yi X 0 n S (i*5) none .i64 (i:Nat) 5 oq oq oq) (zo U (zp (gX (b:=X) (off:=i*5) (n:=5) (r:=#[num E,str G,str F,.slice p A q,.bool D]) rfl underlying60 rfl kq kq Xy.2 (by rw[JO];omega) Pu) (zk 1 (zo (U.add (.cells #[num 0,str [],str [],aD,.bool false] 60)) (zp (ep (b:=U.nx) (off:=0) (w:=.agg #[num E,str G,str F,.slice p A q,.bool D]) (ws:=[num E,str G,str F,.slice p A q,.bool D]) rfl kq kq rfl rfl kq ez.2 iq) (EO.nil (za ((U.add (.cells #[num 0,str [],str [],aD,.bool false] 60)).set U.nx (some (dZ ⟨E,G,F,.slice p A q,D⟩))) ?_))))))))))))))));rw[ey];refine zx (zp (yA U.nx 0 5 #[num E,str G,str F,.slice p A q,.bool D] e2.2 iq) (zc 0 g1 (EO.nil (za W2 (zx (zp (yp (i:Nat) 1 ((i+1:Nat):Int) oq oq) (zf ?_)))))));exact⟨m-1,oq,i+1,xn,oq,g2,(N.trans e3).trans g3,O,aN kq⟩
  ·obtain rfl:i=n:=oq
   rw[List.drop_of_length_le oq] at V;cases V;refine zr (zp (yb (num (i:Nat)) (num (i:Nat)) (aX (b:=false) (fD oq))) (EO.nil (za U (EW.seq (zG (EW.exit ?_))))));exact⟨rfl,T,N,aN kq⟩
 ·rintro e J U ⟨rfl,T,N,x,rfl⟩;have Xr:=Jm ae T hw;have⟨nv,rv,av,I,hB⟩:=T;have hb:=hB.b;have⟨nd,nc,nf,XZ,XW⟩:=hB.n;subst XZ;refine zr (zc 0 Xr (EO.nil (za U (zr (zg 1 U (zp (yl B 0 (.slice (sq nd) I.length nc) hb.2) (zf (za U (EW.ret ⟨.inr rfl,_,I,kq,hB.n,hB.m,f4.trans N.1 fun y hy z=>by have:=hK y z;omega,fun x z=>?_⟩)))))))));by_cases H:x<M.nx
  ·exact hK x (N.2 x H ((KB.at hb.2).2 (.inr (.inl z))))
  ·omega
def NT(U:∀f,f∈cD→pr f=none){us:List Tok}(h:qL s v ts)(m:gh s ts us)(n:us.length≤1000000)(o:bN pr us TS.zero fo)(p:fo.w=2):∃a w b,Ef pr 39 #[v] s w a∧lq a w b∧eu a b fo.nodes∧aP (fun _=>False) s a∧∀x,blk w x→s.nx≤x:=by
 have⟨a,w,b,h1,h2,h3,k,l⟩:=Jn U h m n o p;obtain⟨e,g,c⟩:∃e g,v=.slice e ts.length g:=by
  rcases h with ⟨rfl,rfl⟩|⟨d,fz,rfl,_⟩
  ·exact⟨none,0,rfl⟩
  ·exact⟨_,_,rfl⟩
 subst c;have⟨r,q,t,j,i⟩:=h2;subst j;refine⟨a,_,b,?_,⟨r,q,t,rfl,i⟩,h3,k,l⟩;refine EF.of (U 39 dq) func39 rfl ?_;refine zs (zr (zk 6 (zc 0 h1 (zf ?_))));exact yR
end
section
variable {s s':AS}{pr:Prim}{b:Nat}{σ fo:TS}{t:eV}{aI:jd}
def eN.no{d:DC}(h:cI pr b t aI d σ fo false):eN pr b t aI (d::ds) σ fo false:=⟨fo,false,h,.inr ⟨rfl,rfl,rfl⟩⟩
def eN.ok{d:DC}{a:TS}(h:cI pr b t aI d σ a true)(U:eN pr b t aI ds a fo g):eN pr b t aI (d::ds) σ fo g:=⟨a,true,h,.inl ⟨rfl,U⟩⟩
def eN.nil:eN pr b t aI [] σ σ true:=⟨rfl,rfl⟩
variable {v w:Bq}
end
section
variable {s s':AS}{pr:Prim}{b:Nat}{σ fo:TS}{t:eV}{aI:jd}
def cI.go{fn:Func}{j:Code}(k:pr F=none)(v:prog.funcs[F]?=some fn)(r:fn.body=some j)
 (h:∀(s S:AS) (x:Aq) (kd:Int) (tx U:Bq) (ad:Option Addr) (w cp:Nat) (cl:Bool),t=⟨kd,tx,U,.slice ad w cp,cl⟩→s.add (dZ t)=S→Has S s.nx (dZ t)→cu S (.func (.func F) #[] x) ⟨F,l,m⟩→BX S b σ→bY S t.at_ aI →
   Ew pr j ((#[am b 0,.agg (ff t).toArray]++x).toList++List.replicate (fn.ntmps-(#[am b 0,.agg (ff t).toArray]++x).toList.length) undef) s fun e d a=>(e=.normal∨e=.ret)∧du prog fn d a=some (.bool g)∧BX a b fo∧dA b S a):cI pr b t aI ⟨F,l,m⟩ σ fo g:=by intro s x q u c;have⟨kd,tx,U,f,cl⟩:=t;have c:bY s f aI:=c;obtain⟨ad,cp,rfl⟩:=c.len;have i:=(aP.refl (K:=fun _=>False) s).add (dZ ⟨kd,tx,U,.slice ad aI.length cp,cl⟩);have⟨q1,q2⟩:=q.fk i;have⟨n,e,d,a,h1,h2,h3,o,p⟩:=h s _ x kd tx U ad aI.length cp cl rfl rfl (Has.new s _) (u.Fg i) q1 (c.fk i fun _ _=>id);exact⟨a,EF.of k v r ⟨n,e,d,a,h1,h2,h3,rfl⟩,o,q2.trans p⟩
def cI.Cs(U:∀f,f∈cD→pr f=none)(g:pr 127=bB 127)(y:eM σ l m = -1):cI pr b t aI ⟨234,l,m⟩ σ σ true:=by refine cI.go (U 234 dq) func234 rfl fun s S x D F h i E n k z u H w e I=>?_;subst z;have⟨P,p,K,L,o,M⟩:=w;cases p;obtain⟨B,C,G,a,rfl,q,r,A,v⟩:=o rfl;have⟨N,O,J,Q,d⟩:=e;have c:=xR (U 235 dq) (U 222 dq) (U 231 dq) (U 232 dq) g d A v;rw[y] at c;have j:=Gg (b:=b) (s:=S) (U 221 dq);refine zs (za (s.add (dZ ⟨D,F,h,.slice i E n,k⟩)) ?_);rw[u];refine zr (zg 2 S (zp (yl B 0 G q.2) (zp (yl C 0 a r.2) (zc 0 c (zc 0 j (EO.nil (za S (zs (za S ?_)))))))));exact EW.ret ⟨.inr rfl,kq,⟨_,_,_,_,d⟩,dA.refl S⟩
def cI.form(a:∀f,f∈cD→pr f=none)(g:pr 127=bB 127)(E:eM σ bO [nm]=((σ.row.length-1:Nat):Int))(h2:2≤σ.row.length):cI pr b t aI ⟨244,[nm],[]⟩ σ σ.pop false:=by refine cI.go (a 244 dq) func244 rfl fun s S x G J l m H r q F C K D k L=>?_;subst F;have⟨W,v,u,N,O,P⟩:=D;cases v;obtain⟨B,I,q1,rfl,A⟩:=u (.inr (.inr rfl));cases q1;have⟨T,V,M,X,i⟩:=k;have c:=i.add (.cells ([nm].map str).toArray 9);have n:=dA.add i (.cells ([nm].map str).toArray 9);have h:=G3 (a 243 dq) (a 131 dq) (a 235 dq) (a 222 dq) (a 231 dq) (a 232 dq) g c (dF.new S [nm] 1 rfl (by decide:(1:Nat)≤1000));rw[E] at h;generalize d:S.add (.cells ([nm].map str).toArray 9)=j at *;have o:=c.add (.cells (bO.map str).toArray 9);have p:=dA.add c (.cells (bO.map str).toArray 9);generalize j.add (.cells (bO.map str).toArray 9)=e at *;have⟨U,w,y,z⟩:=oH (a 221 dq) (a 318 dq) (a 363 dq) g (a 319 dq) (a 142 dq) ⟨_,_,_,_,o⟩ h2;generalize Q:σ.row.length-1=R at *;refine zs (za (s.add (dZ ⟨G,J,l,.slice m H r,q⟩)) ?_);rw[C];refine EW.seq (zr (zg 1 S (zp (yl B 0 (str nm) A.2) (zk 1 (zo (S.add (.cells ([nm].map str).toArray 9)) ?_)))));rw[d];refine zc 0 h (zf (za e (zr (zk 1 (zp (yb (num (R:Nat)) (num (-1)) (ca (b:=true) (by rw[bne_iff_ne];omega))) (zf (zH (zx (zk 2 (zo e (zc 0 w (EO.nil (za U (zs (za U ?_)))))))))))))));exact EW.ret ⟨.inr rfl,kq,y,(n.trans p).trans z⟩
def cI.MY(a:∀f,f∈cD→pr f=none)(o:pr 127=bB 127)(D:σ.w=1)(y:σ.nodes.length<100000):cI pr b t aI ⟨227,[],[]⟩ σ (σ.mV t.name aI) false:=by refine cI.go (a 227 dq) func227 rfl fun s S x h j c d i g e C z m B k n=>?_;subst C;have⟨K,q,F,G,H,p⟩:=B;cases q;obtain rfl:=p dq;have⟨U,r,u,v⟩:=ve (t:=⟨h,j,c,.slice d i g,e⟩) (a 228 dq) (a 138 dq) o (a 223 dq) (a 217 dq) (a 232 dq) k n y;have⟨I,J,E,L,A⟩:=k;have l:=A.b;rw[D] at l;refine zs (za (s.add (dZ ⟨h,j,c,.slice d i g,e⟩)) ?_);rw[z];refine EW.seq (zr (zg 3 S (zp (yl b 3 (num 1) l.2) (zf (za S (zF (zr (zg 1 S (zp (yA s.nx 0 5 ((ff ⟨h,j,c,.slice d i g,e⟩).toArray) m.2 iq) (zc 0 r (EO.nil (za U (zs (za U ?_))))))))))))));exact EW.ret ⟨.inr rfl,kq,u,v⟩
def cI.current(a:∀f,f∈cD→pr f=none)(h:pr 127=bB 127)(G:σ.nodes[σ.cur]?=some u)(E:bX u.name l=true)(h2:2≤σ.row.length):cI pr b t aI ⟨230,l,[]⟩ σ σ.pop true:=by
 refine cI.go (a 230 dq) func230 rfl fun s S x J M k m L p o F A N D g O=>?_;subst F;have⟨x',r,T,q,V,W⟩:=D;cases r;obtain⟨B,v,rfl,i,C⟩:=q rfl;have⟨U,w,y,z⟩:=oH (a 221 dq) (a 318 dq) (a 363 dq) h (a 319 dq) (a 142 dq) g h2;have⟨Z,rv,Q,xs,e⟩:=g;have g1:=uJ (a 232 dq) e;have g2:=G2 (a 231 dq) e (TS.sr e.ne) G;obtain⟨H,d,c,X,rfl,I⟩:=C;have g3:=nW (pr:=pr) (s:=S) h (nm:=u.name) (lJ:=l) (d:=d) (c:=c) I.2 H (bb:=true) E;have e1:((σ.row.length:Nat)-1:Int)=((σ.row.length-1:Nat):Int):=oq
 rw[e1] at g1;have K:=bL (P:=prog) (t:=62) underlying62 rfl i.2 (off:=0) rfl;generalize Y:σ.row.length-1=R at *;generalize l.length=n at *;refine zs (za (s.add (dZ ⟨J,M,k,.slice m L p,o⟩)) ?_);rw[A];refine EW.seq (EW.seq (EW.draw kq kq kq ?_));iterate 2 refine zq ?_
 refine zt S (yt g1 (yt g2 (zu (yl B 0 (.slice (sq d) n c) i.2) (yt g3 (ET.nil ⟨aK [(aC prog 62 (am B 0) S,.slice (sq d) n c),(aC prog 62 (am B 0) S,.slice (sq d) n c),(aC prog 62 (am B 0) S,.slice (sq d) n c)] kq (by intro x j;simp only[List.mem_cons,List.not_mem_nil,or_false,or_self] at j;subst j;exact⟨K,rfl⟩),_,_,_,_,_,_,rfl,rfl,?_⟩)))));refine za S (zH (zx (zk 2 (zo S (zc 0 g1 (zc 0 w (EO.nil (za U (zs (za U ?_))))))))));exact EW.ret ⟨.inr rfl,kq,y,z⟩
end
section
variable {s s':AS}{pr:Prim}{b:Nat}{σ fo:TS}{tx:Bq}
def K4(m:pr 216=none)(o:pr 231=none)(p:pr 314=none)(l:pr 127=bB 127)(q:pr 315=none)(n:pr 217=none)(U:pr 232=none)(h:BX s b σ)(e:bX (nameAt σ (σ.row.length-1)) gV=true)(y:σ.nodes[σ.nodes.length-1]?=some u)(r:u.kind=2→u.parent≠((σ.cur:Nat):Int))(w:σ.nodes.length<100000):∃d,Ef pr 216 #[am b 0,str tx] s (.tuple #[]) d∧BX d b (σ.put ⟨2,0,[],tx,[]⟩)∧dA b s d:=by have⟨C,D,B,E,h⟩:=h;have g:0<σ.row.length:=List.length_pos_iff.2 h.ne;have c:=uJ U h;have a:=h.name (pr:=pr) o (i:=σ.row.length-1) oq;rw[show((σ.row.length:Nat):Int)-1=((σ.row.length-1:Nat):Int) by omega] at c;generalize nameAt σ (σ.row.length-1)=z at a e;generalize σ.row.length-1=A at c a;have x:=u1 (s:=s) p;have j:=h.add (.cells (gV.map str).toArray 9);have k:=dA.add h (.cells (gV.map str).toArray 9);have f:=(dF.new s gV 4 rfl dq).is (pr:=pr) l z;rw[e] at f;generalize s.add (.cells (gV.map str).toArray 9)=S at *;have⟨V,e1,t,v⟩:=xk (tx:=tx) q n U ⟨_,_,_,_,j⟩ y r w;refine EF.gq m func216 rfl ?_;refine EW.seq (zr (zc 2 c (zc 0 a (zc 0 x (zc 0 f (EO.nil (za S (zH (zr (zc 2 e1 (EO.nil (za V ?_))))))))))));exact EW.ret ⟨.inr rfl,kq,t,k.trans v⟩
end
abbrev toS(nm:Bq)(aI:jd):Tok:=⟨2,[],nm,aI,false⟩
abbrev pF(nm:Bq):Tok:=⟨3,[],nm,[],false⟩
abbrev IH(tx:Bq):Tok:=⟨1,tx,[],[],false⟩
abbrev nP:Bq:=[112]
abbrev nq:List (Bq):=[qu,km,nB,nI,rh,Cp]
section
variable {pr:Prim}{σ fo xn:TS}{l m:List (Bq)}
def bN.app:∀{us vs:List Tok} {σ xn fo:TS},bN pr us σ xn→bN pr vs xn fo→bN pr (us++vs) σ fo
 | [],vs,σ,xn,fo,h,U=>by cases h;exact U
 | u::us,vs,σ,xn,fo,⟨Zl,h1,h2⟩,U=>⟨Zl,h1,bN.app h2 U⟩
def bN.one{u:Tok}(h:∀b a,jg pr 119 b ⟨u.kind,u.text,u.name,a,u.closed⟩ u.bU σ fo):bN pr [u] σ fo:=⟨fo,h,rfl⟩
def yK:∀n,(∀j,j<n→bX (nameAt σ j) l=false)→lw σ l n = -1
 | 0,_=>rfl
 | n+1,h=>by unfold lw;rw[h n oq,iw dq];exact yK n fun j U=>h j oq
def J0(h:∀j,j<σ.row.length→bX (nameAt σ j) l=false):fS σ l = -1:=yK _ h
def yL(U:σ.row=R++[k])(h:bX (nameAt σ R.length) l=true):fS σ l=((R.length:Nat):Int):=by unfold fS;rw[U,lA,List.length_singleton];unfold lw;rw[ip h]
def AK(U:σ.row=R++[k])(h:bX (nameAt σ R.length) l=false):fS σ l<((R.length:Nat):Int):=by unfold fS;rw[U,lA,List.length_singleton];unfold lw;rw[iw (by rw[h];decide)];exact(sP σ l _).2
def xS(h:fS σ m = -1):eM σ l m = -1:=by unfold eM;rw[h];split<;>rfl
def Ag(U:σ.row=R++[k])(h:bX (nameAt σ R.length) m=true):eM σ l m=((σ.row.length-1:Nat):Int):=by
 have h1:=yL U h;have h2:=sO σ l;have h3:σ.row.length=R.length+1:=by rw[U];simp
 unfold eM;rw[h1,iw oq,h3];rfl
def xT(U:σ.row=R++[k])(h:bX (nameAt σ R.length) l=true)(a:bX (nameAt σ R.length) m=false):eM σ l m = -1:=by have h1:=yL U h;have h2:=AK U a;unfold eM;rw[h1,ip h2]
def Ku(a:∀f,f∈cD→pr f=none)(U:pr 127=bB 127)(j:R≠[])(l:nameAt ⟨ns,R++[k],[],2⟩ R.length=x)(h:x∈nq):bN pr [pF x] ⟨ns,R++[k],[],2⟩ ⟨ns,R,[],2⟩:=by
 have d:(⟨ns,R++[k],[],2⟩:TS).pop=⟨ns,R,[],2⟩:=by unfold TS.pop;simp
 have h2:2≤(⟨ns,R++[k],[],2⟩:TS).row.length:=by have:=List.length_pos_iff.2 j;simp;omega
 have c:eM ⟨ns,R++[k],[],2⟩ bO [x]=(((⟨ns,R++[k],[],2⟩:TS).row.length-1:Nat):Int):=Ag (R:=R) (k:=k) rfl (by rw[l];simp[bX,(eQ x x).2 rfl]);refine bN.one fun b i=>m6 a U rfl (At a U rfl (g:=false) ?_);show eN pr b _ _ (bV x gY) _ _ _;simp only[nq,List.mem_cons,List.not_mem_nil,or_false] at h;rcases h with e|e|e|e|e|e
 ·rw[e,show bV qu gY=[⟨246,[],[]⟩] by kernel_rfl];rw[← d];exact .no (.Jy a U (e▸c) h2)
 ·rw[e,show bV km gY=[⟨246,[],[]⟩] by kernel_rfl];rw[← d];exact .no (.Jy a U (e▸c) h2)
 ·rw[e,show bV nB gY=[⟨244,[nB],[]⟩] by kernel_rfl];rw[← d];exact .no (.form a U (e▸c) h2)
 ·rw[e,show bV nI gY=[⟨244,[nI],[]⟩] by kernel_rfl];rw[← d];exact .no (.form a U (e▸c) h2)
 ·rw[e,show bV rh gY=[⟨246,[],[]⟩] by kernel_rfl];rw[← d];exact .no (.Jy a U (e▸c) h2)
 ·rw[e,show bV Cp gY=[⟨246,[],[]⟩] by kernel_rfl];rw[← d];exact .no (.Jy a U (e▸c) h2)
def Hk(U:∀f,f∈cD→pr f=none)(d:pr 127=bB 127)(q:ns.length<100000)(s:R.length<39)(n:nameAt ⟨ns,R++[k],[],2⟩ R.length=pn)(p:∀j,j<(R++[k]).length→bX (nameAt ⟨ns,R++[k],[],2⟩ j) [nP]=false)(l:C3 pn x):bN pr [toS x aI] ⟨ns,R++[k],[],2⟩ ⟨ns++[⟨1,((k:Nat):Int),x,[],aI⟩],if aY x jI=true then R++[k] else R++[k]++[ns.length],[],2⟩:=by
 have r:(⟨ns,R++[k],[],2⟩:TS).cur=k:=by unfold TS.cur;simp
 have i:eM ⟨ns,R++[k],[],2⟩ bO [nP] = -1:=xS (J0 p);have h:(⟨ns,R++[k],[],2⟩:TS).mV x aI=⟨ns++[⟨1,((k:Nat):Int),x,[],aI⟩],if aY x jI=true then R++[k] else R++[k]++[ns.length],[],2⟩:=by
  have e:=l.1;unfold TS.mV TS.open_ TS.put;rw[r];simp only[List.mem_cons,List.not_mem_nil,or_false] at e;have a:(R++[k]).length<40:=by simp;omega
  rcases e with rfl|rfl|rfl|rfl|rfl|rfl|rfl
  ·rw[show bX qu eT=false by kernel_rfl,show aY qu jI=false by kernel_rfl];simp only[ip a,if_false,Bool.false_eq_true]
  ·rw[show bX km eT=false by kernel_rfl,show aY km jI=false by kernel_rfl];simp only[ip a,if_false,Bool.false_eq_true]
  ·rw[show bX nB eT=false by kernel_rfl,show aY nB jI=false by kernel_rfl];simp only[ip a,if_false,Bool.false_eq_true]
  ·rw[show bX nI eT=false by kernel_rfl,show aY nI jI=false by kernel_rfl];simp only[ip a,if_false,Bool.false_eq_true]
  ·rw[show bX rh eT=false by kernel_rfl,show aY rh jI=false by kernel_rfl];simp only[ip a,if_false,Bool.false_eq_true]
  ·rw[show bX Cp eT=false by kernel_rfl,show aY Cp jI=false by kernel_rfl];simp only[ip a,if_false,Bool.false_eq_true]
  ·rw[show bX jI eT=true by kernel_rfl,show aY jI jI=true by kernel_rfl];simp only[if_true]
 rw[← h];have m:∀b c,eN pr b ⟨2,[],x,c,false⟩ aI (bV x gZ) ⟨ns,R++[k],[],2⟩ ⟨ns,R++[k],[],2⟩ true:=by
  intro b c;have e:=l.1;simp only[List.mem_cons,List.not_mem_nil,or_false] at e;rcases e with rfl|rfl|rfl|rfl|rfl|rfl|rfl
  ·rw[show bV qu gZ=[⟨234,bO,[nP]⟩] by kernel_rfl];exact .ok (.Cs U d i) .nil
  ·rw[show bV km gZ=[⟨238,[],[]⟩] by kernel_rfl];exact .ok (.again U rfl) .nil
  ·rw[show bV nB gZ=[⟨238,[],[]⟩] by kernel_rfl];exact .ok (.again U rfl) .nil
  ·rw[show bV nI gZ=[⟨238,[],[]⟩] by kernel_rfl];exact .ok (.again U rfl) .nil
  ·rw[show bV rh gZ=[⟨234,bO,[nP]⟩] by kernel_rfl];exact .ok (.Cs U d i) .nil
  ·have o:pn=rh:=(eQ _ _).1 (by rw[← l.2.1];decide);rw[show bV Cp gZ=[⟨234,bO++[[111,108],rh],[Cp]⟩,⟨234,bO,[nP]⟩] by kernel_rfl];exact .ok (.Cs U d (xT (R:=R) (k:=k) rfl (by rw[n,o];decide) (by rw[n,o];decide))) (.ok (.Cs U d i) .nil)
  ·rw[show bV jI gZ=[⟨238,[],[]⟩] by kernel_rfl];exact .ok (.again U rfl) .nil
 exact bN.one fun b c=>m7 U d rfl (tF U d rfl (g:=true) (m b c) q)
def E4(U:∀f,f∈cD→pr f=none)(a:pr 127=bB 127)(d:∀s,Ef pr 198 #[str tx,str [9,10,12,13,32]] s (str tr) s)(i:ns.length<100000)(l:ns[ns.length-1]?=some u)(j:u.kind=2→u.parent≠((k:Nat):Int)):bN pr [IH tx] ⟨ns,R++[k],[],2⟩ ⟨ns++[⟨2,((k:Nat):Int),[],tx,[]⟩],R++[k],[],2⟩:=by
 have c:(⟨ns,R++[k],[],2⟩:TS).cur=k:=by unfold TS.cur;simp
 have e:(⟨ns,R++[k],[],2⟩:TS).put ⟨2,0,[],tx,[]⟩=⟨ns++[⟨2,((k:Nat):Int),[],tx,[]⟩],R++[k],[],2⟩:=by unfold TS.put;rw[c]
 rw[← e];exact bN.one fun b g=>CU U a rfl fun s h=>NQ (U 216 dq) (U 231 dq) (U 314 dq) a (U 239 dq) (U 315 dq) (U 217 dq) (U 232 dq) d h rfl rfl l (by rw[c];exact j) i
end
def jB (us:List Nd)(k:Nat):Bq:=match us[k]? with|some u=>u.name|none=>[]
def uj (u:Nd):Tok:=if u.kind=2 then IH u.text else toS u.name u.bU
def uD(us:List Nd)(i:Nat):List Tok:=match us[i]? with
 | some u=>(cU u.parent (cg us i)).reverse.map (fun k=>pF (jB us k))++[uj u]
 | none=>[]
def nL(us:List Nd):Nat→Nat→List Tok
 | _,0=>[]
 | i,m+1=>uD us i++nL us (i+1) m
abbrev Rl(us:List Nd)(i:Nat):TS:=⟨us.take i,cg us i,[],2⟩
def nV(lt:Bq):List Tok:=[toS cP [],toS cf []]++(if lt=[] then [] else [toS aQ [],IH lt,pF aQ])++[pF cf,toS cG []]
def Ox(us:List Nd)(nf:Nat)(row:List Nat):Prop:=∀k∈row,k=0∨k=nf∨jB us k∈nq
def rV(us:List Nd):∀i,∀k∈cg us i,∃u,us[k]?=some u∧u.kind=1∧aY u.name jI=false
 | 0,k,U=>by cases U
 | i+1,k,U=>by
  unfold cg at U;split at U
  ·next u hu =>
   rcases List.mem_append.1 U with z|z
   ·exact rV us i k (r9 z)
   ·split at z
    ·next hc =>simp at z;subst z;exact⟨u,hu,hc⟩
    ·cases z
  ·exact rV us i k U
def B6(h:A.head?=some nf)(b:A.Pairwise (·<·)):∀k∈A,nf≤k:=by
 cases A with
 | nil=>cases h
 | cons a l =>
  cases h;intro k U;rcases List.mem_cons.1 U with rfl|U
  ·exact Nat.le_refl _
  ·exact Nat.le_of_lt ((List.pairwise_cons.1 b).1 k U)
def Bg(l:∀i u,us[i]?=some u→nf<i→rY us nf i u)(g:cg us i=0::A)(o:(0::A).Pairwise (·<·))(n:A.head?=some nf):Ox us nf (cg us i)∧∀k∈A,k≠nf→nf<k∧jB us k∈nq:=by
 have b:∀k∈A,k≠nf→nf<k∧jB us k∈nq:=by
  intro k U c;have h1:=B6 n (List.pairwise_cons.1 o).2 k U;have a:nf<k:=oq
  have⟨u,h,j,d⟩:=rV us i k (by rw[g];exact List.mem_cons_of_mem _ U);have⟨_,_,_,_,_,_,_,_,_,_,m⟩:=l k u h a;refine⟨a,?_⟩;unfold jB;rw[h];rcases m with ⟨z,_⟩|⟨_,_,hE,_⟩
  ·rw[j] at z;exact absurd z dq
  ·have f:=hE.1;simp only[List.mem_cons,List.not_mem_nil,or_false] at f;show u.name∈nq;simp only[nq,List.mem_cons,List.not_mem_nil,or_false];rcases f with e|e|e|e|e|e|e
   ·exact .inl e
   ·exact .inr (.inl e)
   ·exact .inr (.inr (.inl e))
   ·exact i3 (.inl e)
   ·exact i3 (.inr (.inl e))
   ·exact i3 (.inr (.inr e))
   ·rw[e] at d;exact absurd d dq
 refine⟨fun k U=>?_,b⟩;rw[g] at U;rcases List.mem_cons.1 U with rfl|U
 ·exact .inl rfl
 ·by_cases c:k=nf
  ·exact .inr (.inl c)
  ·exact .inr (.inr (b k U c).2)
def qv{w:Int}(U:row[j]?=some k)(a:k<i):nameAt ⟨us.take i,row,ag,w⟩ j=jB us k:=by unfold nameAt jB;rw[U];simp only;rw[List.getElem?_take,ip a]<;>cases us[k]?<;>rfl
section
variable {pr:Prim}{us:List Nd}{nf i:Nat}
def nO(a:∀f,f∈cD→pr f=none)(U:pr 127=bB 127)(b:R≠[]):∀{L:List Nat},(∀k∈L,k<i∧jB us k∈nq)→bN pr (L.map fun k=>pF (jB us k)) ⟨us.take i,R++L.reverse,[],2⟩ ⟨us.take i,R,[],2⟩
 | [],_=>by simp[bN]
 | k::L,h=>by
  have hk:=h k List.mem_cons_self;have e:R++(k::L).reverse=(R++L.reverse)++[k]:=iq
  rw[e];have h1:=Ku (pr:=pr) (ns:=us.take i) (R:=R++L.reverse) (k:=k) (x:=jB us k) a U (by simp[b]) (qv (by rw[List.getElem?_append_right lr,Nat.sub_self];rfl) hk.1) hk.2;exact bN.app (us:=[pF (jB us k)]) h1 (nO a U b fun x c=>h x (List.mem_cons_of_mem _ c))
def F3(y:∀f,f∈cD→pr f=none)(w:pr 127=bB 127)(O:∀N,(∃v,dO v∧N=cF v)→∃M,∀s,Ef pr 198 #[str N,str [9,10,12,13,32]] s (str M) s)(H:∀i u,us[i]?=some u→nf<i→rY us nf i u)(Y:jB us 0=cP)(hf:jB us nf=cG)(hn:us.length≤1000)(hi:nf<i)(P:i<us.length):bN pr (uD us i) (Rl us i) (Rl us (i+1)):=by
 have r:us[i]?=some us[i]:=gE P;generalize us[i]=u at r;obtain⟨A,k,B,pu,q1,q2,q3,q4,q5,q6,q7⟩:=H i u r hi;have o:(A++k::B).head?=some nf:=by
  cases A with
  | nil=>exact q3
  | cons a l=>exact q3
 obtain⟨T,V⟩:=Bg H q1 q2 o;have m:=mY us i;have p:k∉B∧∀b∈B,nf<b:=by
  have K:=(List.pairwise_cons.1 q2).2;have q:=List.pairwise_append.1 K;have ZY:nf≤k:=B6 o K k iq;refine⟨fun z=>?_,fun b g=>?_⟩
  ·have:=(List.pairwise_cons.1 q.2.1).1 k z;omega
  ·have:=(List.pairwise_cons.1 q.2.1).1 b g;omega
 have g:=oC (A:=0::A) p.1;have n:cg us i=(0::A)++k::B:=q1;have E:cg us (i+1)=((0::A)++[k])++(if u.kind=1∧aY u.name jI=false then [i] else []):=by show(match us[i]? with|some u=>ea u.parent (cg us i)++(if u.kind=1∧aY u.name jI=false then [i] else [])|none=>cg us i)=_;rw[r,n];simp only;rw[q4,g.1]
 have W:us.take (i+1)=us.take i++[u]:=by rw[List.take_add_one,r];rfl
 have Z:uD us i=B.reverse.map (fun k=>pF (jB us k))++[uj u]:=by unfold uD;rw[r];simp only;rw[n,q4,g.2]
 have S:k<i:=m k (by rw[q1];simp);have I:=nO (pr:=pr) (us:=us) (i:=i) y w (R:=(0::A)++[k]) iq (L:=B.reverse) (fun b g=>by have g:=List.mem_reverse.1 g;have N9:=p.2 b g;exact⟨m b (by rw[q1];simp[g]),(V b (by simp[g]) oq).2⟩);rw[List.reverse_reverse,show((0::A)++[k])++B=cg us i by rw[q1];simp] at I;rw[Z];refine bN.app I ?_;have D:nameAt ⟨us.take i,(0::A)++[k],[],2⟩ (0::A).length=pu.name:=by rw[qv (k:=k) (by rw[List.getElem?_append_right lr,Nat.sub_self];rfl) S];unfold jB;rw[q5]
 have U:(us.take i).length=i:=by rw[List.length_take];omega
 show bN pr _ _ ⟨us.take (i+1),cg us (i+1),[],2⟩;rw[E,W];rcases q7 with ⟨c1,c2,c3,⟨v,c4,c5,c6⟩,c7,c8⟩|⟨c1,c2,c3,c4,c5⟩
 ·obtain⟨M,X⟩:=O u.text ⟨v,c4,c5⟩;have F:(us.take i)[(us.take i).length-1]?=some us[i-1]:=by rw[U,List.getElem?_take,ip oq,gE]
  have h:=E4 (pr:=pr) (ns:=us.take i) (R:=0::A) (k:=k) y w X (by rw[U];omega) F (fun e=>by rw[← q4];exact c8 _ (gE _) e);have e1:uj u=IH u.text:=by unfold uj;rw[ip c1]
  have C:(⟨2,((k:Nat):Int),[],u.text,[]⟩:Nd)=u:=by obtain⟨a,b,c,d,e⟩:=u;simp only at c1 c2 c3 q4;rw[c1,c2,c3,q4]
  rw[e1,iw (fun z=>by rw[c1] at z;exact absurd z.1 dq),List.append_nil];rw[C] at h;exact h
 ·have h:=Hk (pr:=pr) (ns:=us.take i) (R:=0::A) (k:=k) (x:=u.name) (aI:=u.bU) y w (by rw[U];omega) (by simp;omega) D (fun j J=>by
   have Q:((0::A)++[k])[j]?=some (((0::A)++[k])[j]):=gE J;have G:((0::A)++[k])[j]∈cg us i:=by
    have:=List.getElem_mem J;rw[n];rcases List.mem_append.1 this with z|z
    ·exact List.mem_append_left _ z
    ·exact List.mem_append_right _ (by simp at z;simp[z])
   rw[qv Q (m _ G)];rcases T _ G with z|z|z
   ·rw[z,Y];decide
   ·rw[z,hf];decide
   ·simp only[nq,List.mem_cons,List.not_mem_nil,or_false] at z;rcases z with z|z|z|z|z|z<;>(rw[z];decide)) c3;have e1:uj u=toS u.name u.bU:=by unfold uj;rw[iw (by rw[c1];decide)]
  have C:(⟨1,((k:Nat):Int),u.name,[],u.bU⟩:Nd)=u:=by obtain⟨a,b,c,d,e⟩:=u;simp only at c1 c2 q4;rw[c1,c2,q4]
  rw[e1];rw[C,U] at h;by_cases t:aY u.name jI=true
  ·rw[iw (fun z=>by rw[t] at z;exact absurd z.2 dq),List.append_nil];rw[ip t] at h;exact h
  ·rw[ip ⟨c1,by simpa using t⟩];rw[iw t] at h;exact h
def se(a2:∀f,f∈cD→pr f=none)(U:pr 127=bB 127)(a1:∀tx,(∃ls,dO ls∧tx=cF ls)→∃tr,∀s,Ef pr 198 #[str tx,str [9,10,12,13,32]] s (str tr) s)(a3:∀i u,us[i]?=some u→nf<i→rY us nf i u)(h0:jB us 0=cP)(hf:jB us nf=cG)(hn:us.length≤1000):∀{m i:Nat},nf<i→i+m=us.length→bN pr (nL us i m) (Rl us i) (Rl us us.length)
 | 0,i,_,h=>by
  have e:i=us.length:=oq
  rw[e];exact rfl
 | m+1,i,hi,h=>bN.app (F3 a2 U a1 a3 h0 hf hn hi oq) (se a2 U a1 a3 h0 hf hn oq oq)
end
def vg(lt:Bq)(us:List Nd):List Tok:=nV lt++(nL us ((aS lt).length+1) (us.length-((aS lt).length+1))++(cg us us.length).reverse.map fun k=>pF (jB us k))
def mZ:∀{i:Nat},i≤j→cg (us.take j) i=cg us i
 | 0,_=>rfl
 | i+1,h=>by unfold cg;rw[mZ (i:=i) oq,List.getElem?_take,ip oq]
def EA(lt:Bq):cg (cX lt).nodes ((aS lt).length+1)=[0,(aS lt).length]:=by
 by_cases h:lt=[]
 ·subst h;kernel_rfl
 ·have U:aS lt=[cT,dp,⟨1,1,aQ,[],[]⟩,⟨2,2,[],lt,[]⟩]:=by unfold aS;rw[iw h]
  have a:cX lt=⟨[cT,dp,⟨1,1,aQ,[],[]⟩,⟨2,2,[],lt,[]⟩,⟨1,0,cG,[],[]⟩],[4],false⟩:=by unfold cX;rw[U];rfl
  rw[a,U];show cg [cT,dp,⟨1,1,aQ,[],[]⟩,⟨2,2,[],lt,[]⟩,⟨1,0,cG,[],[]⟩] 5=[0,4];kernel_rfl
section
variable {pr:Prim}{lt:Bq}{σ:PS}
def DY(c:∀f,f∈cD→pr f=none)(U:pr 127=bB 127):bN pr (nV lt) TS.zero ⟨(cX lt).nodes,[0,(aS lt).length],[],2⟩:=by
 have e1:bV cP li=[⟨224,[cP],[]⟩]:=kq
 have n:bV cf li=[⟨226,[],[]⟩]:=kq
 have d:bV cf mw=[⟨229,[],[]⟩,⟨233,[],[]⟩]:=kq
 have j:bV cG gZ=[⟨224,[cG],[]⟩]:=kq
 have o:bV aQ li=[⟨227,[],[]⟩]:=kq
 have p:bV aQ mw=[⟨230,[[115,99,114,105,112,116],[115,116,121,108,101],aQ],[]⟩,⟨233,[],[]⟩]:=kq
 have l:bN pr [toS cP []] TS.zero ⟨[cT],[0],[],0⟩:=.one fun b a=>m7 c U rfl (tG c U dq (by show eN pr b _ _ (bV cP li) _ _ _;rw[e1];exact .no (.give c U (i:=0) kq)));have m:bN pr [toS cf []] ⟨[cT],[0],[],0⟩ ⟨[cT,dp],[0,1],[],1⟩:=.one fun b a=>m7 c U rfl (tG c U dq (by show eN pr b _ _ (bV cf li) _ _ _;rw[n];exact .no (.head c rfl dq)));by_cases h:lt=[]
 ·subst h;have v:bN pr [pF cf] ⟨[cT,dp],[0,1],[],1⟩ ⟨[cT,dp,⟨1,0,cG,[],[]⟩],[0,2],[],2⟩:=.one fun b a=>m6 c U rfl (Au c U dq (by show eN pr b _ _ (bV cf mw) _ _ _;rw[d];exact .ok (.Lv c U rfl kq dq dq) (.no (.nothing c))));have w:bN pr [toS cG []] ⟨[cT,dp,⟨1,0,cG,[],[]⟩],[0,2],[],2⟩ ⟨[cT,dp,⟨1,0,cG,[],[]⟩],[0,2],[],2⟩:=.one fun b a=>m7 c U rfl (tF c U rfl (g:=false) (by show eN pr b _ _ (bV cG gZ) _ _ _;rw[j];exact .no (.give c U (i:=1) kq)) dq);exact l.app (m.app (v.app w))
 ·have k:aS lt=[cT,dp,⟨1,1,aQ,[],[]⟩,⟨2,2,[],lt,[]⟩]:=by unfold aS;rw[iw h]
  have t:cX lt=⟨[cT,dp,⟨1,1,aQ,[],[]⟩,⟨2,2,[],lt,[]⟩,⟨1,0,cG,[],[]⟩],[4],false⟩:=by unfold cX;rw[k];rfl
  have r:nV lt=[toS cP []]++([toS cf []]++([toS aQ []]++([IH lt]++([pF aQ]++([pF cf]++[toS cG []]))))):=by unfold nV;rw[iw h];rfl
  rw[t,k,r];have x:bN pr [toS aQ []] ⟨[cT,dp],[0,1],[],1⟩ ⟨[cT,dp,⟨1,1,aQ,[],[]⟩],[0,1,2],[],1⟩:=.one fun b a=>m7 c U rfl (tG c U dq (by show eN pr b _ _ (bV aQ li) _ _ _;rw[o];exact .no (.MY c U rfl dq)));have y:bN pr [IH lt] ⟨[cT,dp,⟨1,1,aQ,[],[]⟩],[0,1,2],[],1⟩ ⟨[cT,dp,⟨1,1,aQ,[],[]⟩,⟨2,2,[],lt,[]⟩],[0,1,2],[],1⟩:=.one fun b a=>CU c U rfl fun s q=>K4 (c 216 dq) (c 231 dq) (c 314 dq) U (c 315 dq) (c 217 dq) (c 232 dq) q kq (u:=⟨1,1,aQ,[],[]⟩) rfl (fun e=>absurd e dq) iq;have z:bN pr [pF aQ] ⟨[cT,dp,⟨1,1,aQ,[],[]⟩,⟨2,2,[],lt,[]⟩],[0,1,2],[],1⟩ ⟨[cT,dp,⟨1,1,aQ,[],[]⟩,⟨2,2,[],lt,[]⟩],[0,1],[],1⟩:=.one fun b a=>m6 c U rfl (Au c U (show(1:Int)≠2 by decide) (by show eN pr b _ _ (bV aQ mw) _ _ _;rw[p];exact .ok (.current c U (u:=⟨1,1,aQ,[],[]⟩) rfl dq (show 2≤3 by decide)) (.no (.nothing c))));have A:bN pr [pF cf] ⟨[cT,dp,⟨1,1,aQ,[],[]⟩,⟨2,2,[],lt,[]⟩],[0,1],[],1⟩ ⟨[cT,dp,⟨1,1,aQ,[],[]⟩,⟨2,2,[],lt,[]⟩,⟨1,0,cG,[],[]⟩],[0,4],[],2⟩:=.one fun b a=>m6 c U rfl (Au c U (show(1:Int)≠2 by decide) (by show eN pr b _ _ (bV cf mw) _ _ _;rw[d];exact .ok (.Lv c U rfl kq (show 2≤2 by decide) iq) (.no (.nothing c))));have B:bN pr [toS cG []] ⟨[cT,dp,⟨1,1,aQ,[],[]⟩,⟨2,2,[],lt,[]⟩,⟨1,0,cG,[],[]⟩],[0,4],[],2⟩ ⟨[cT,dp,⟨1,1,aQ,[],[]⟩,⟨2,2,[],lt,[]⟩,⟨1,0,cG,[],[]⟩],[0,4],[],2⟩:=.one fun b a=>m7 c U rfl (tF c U rfl (g:=false) (by show eN pr b _ _ (bV cG gZ) _ _ _;rw[j];exact .no (.give c U (i:=1) kq)) iq);exact l.app (m.app (x.app (y.app (z.app (A.app B)))))
def PV.Vy(h:PV lt σ):jB σ.nodes 0=cP∧jB σ.nodes (aS lt).length=cG:=by
 have b:=jm lt;have a:σ.nodes[0]?=(cX lt).nodes[0]?:=by rw[← h.pre,List.getElem?_take,ip oq]
 have e1:σ.nodes[(aS lt).length]?=(cX lt).nodes[(aS lt).length]?:=by rw[← h.pre,List.getElem?_take,ip oq]
 unfold jB;rw[a,e1];refine⟨?_,?_⟩
 ·have U:(aS lt)[0]?=some cT:=by unfold aS;split<;>rfl
  unfold cX;simp only;rw[List.getElem?_append_left oq,U]
 ·unfold cX;simp only;rw[List.getElem?_append_right lr,Nat.sub_self];rfl
def Hr(m:∀f,f∈cD→pr f=none)(U:pr 127=bB 127)(z:∀y,(∃u,dO u∧y=cF u)→∃G,∀s,Ef pr 198 #[str y,str [9,10,12,13,32]] s (str G) s)(h:PV lt σ)(E:σ.nodes.length≤1000):bN pr (vg lt σ.nodes) TS.zero ⟨σ.nodes,[0,(aS lt).length],[],2⟩:=by
 have K:=h.len;have⟨v,w⟩:=h.Vy;have r:cg σ.nodes ((aS lt).length+1)=[0,(aS lt).length]:=by rw[← mZ (j:=(aS lt).length+1) lr,h.pre];exact EA lt
 have x:=DY (pr:=pr) (lt:=lt) m U;rw[← h.pre,← r] at x;refine x.app (bN.app (se m U z h.ok v w E oq oq) ?_);have⟨t,d⟩:=h.eL;have e:=h.inc;obtain⟨c,o⟩:∃c,σ.row++t=(aS lt).length::c:=by
  have:=h.hd;cases hr:σ.row with
  | nil=>exact absurd hr h.I.ne
  | cons a l =>rw[hr] at this;cases this;exact⟨l++t,rfl⟩
 rw[o] at d;have A:=mY σ.nodes σ.nodes.length;rw[d] at e;have⟨_,q⟩:=Bg h.ok d e rfl;have p:=nO (pr:=pr) (us:=σ.nodes) (i:=σ.nodes.length) m U (R:=[0,(aS lt).length]) iq (L:=c.reverse) (fun b n=>by have n:=List.mem_reverse.1 n;have D:=(List.pairwise_cons.1 (List.pairwise_cons.1 e).2).1 b n;exact⟨A b (by rw[d];simp[n]),(q b (by simp[n]) oq).2⟩);rw[List.reverse_reverse] at p;have B:bV cG gY=[⟨233,[],[]⟩]:=kq
 have C:bV cP gY=[⟨233,[],[]⟩]:=kq
 have H:bN pr [pF cG] ⟨σ.nodes,[0,(aS lt).length],[],2⟩ ⟨σ.nodes,[0,(aS lt).length],[],2⟩:=.one fun b a=>m6 m U rfl (At m U rfl (g:=false) (by show eN pr b _ _ (bV cG gY) _ _ _;rw[B];exact .no (.nothing m)));have J:bN pr [pF cP] ⟨σ.nodes,[0,(aS lt).length],[],2⟩ ⟨σ.nodes,[0,(aS lt).length],[],2⟩:=.one fun b a=>m6 m U rfl (At m U rfl (g:=false) (by show eN pr b _ _ (bV cP gY) _ _ _;rw[C];exact .no (.nothing m)));have F:(cg σ.nodes σ.nodes.length).reverse.map (fun k=>pF (jB σ.nodes k))=c.reverse.map (fun k=>pF (jB σ.nodes k))++([pF cG]++[pF cP]):=by rw[d];simp[v,w]
 rw[F];refine bN.app ?_ (H.app J);show bN pr _ ⟨σ.nodes.take σ.nodes.length,cg σ.nodes σ.nodes.length,[],2⟩ _;rw[d];rw[List.take_length] at p ⊢;exact p
end
section
variable {pr:Prim}{s s1:AS}
def oX{v:Bq}(e:v.length≤100)(f:w.length≤100):(fE v).length≤3000∧(gQ w).length≤8000:=by have U:=jJ 38 (new:=lP) (k:=5) dq dq v;have a:=jJ 34 (new:=CJ) (k:=6) dq dq (dY 38 lP v);have b:=jJ 38 (new:=lP) (k:=5) dq dq w;have c:=jJ 60 (new:=M8) (k:=4) dq dq (dY 38 lP w);have d:=jJ 62 (new:=Q2) (k:=4) dq dq (dY 60 M8 (dY 38 lP w));unfold fE gQ;omega
end
abbrev dH:List (Bq):=[cP,cf,aQ,cG,qu,km,nB,nI,rh,Cp,jI]
def ib(us:List Nd)(i:Nat)(u:Nd):Prop:=(0<i→∃A k B,cg us i=A++k::B∧k∉B∧u.parent=((k:Nat):Int)∧A.length≤22∧∃pu,us[k]?=some pu∧pu.name∈dH)∧(i=0→u=cT) ∧
 ((u.kind=1∧u.text=[]∧u.name∈dH∧C1 u.bU)∨(0<i∧u.kind=2∧u.name=[]∧u.bU=[]∧∃ls,dO ls∧u.text=cF ls∧cF ls≠[]))
def Gr(h:C3 pn nm):nm∈dH:=by have U:=h.1;simp only[List.mem_cons,List.not_mem_nil,or_false] at U;simp only[dH,List.mem_cons,List.not_mem_nil,or_false];rcases U with e|e|e|e|e|e|e<;>simp[e]
section
variable {lt:Bq}{σ:PS}
def PV.front(h:PV lt σ)(U:i≤(aS lt).length):σ.nodes[i]?=(cX lt).nodes[i]?∧cg σ.nodes i=cg (cX lt).nodes i:=by rw[← h.pre,List.getElem?_take,ip oq,mZ oq];exact⟨rfl,rfl⟩
def PV.node(h:PV lt σ)(y:lt=[]∨∃s,dO s∧lt=cF s∧cF s≠[])(U:σ.nodes[i]?=some u):ib σ.nodes i u:=by
 have c:C1 []:=.inl rfl;by_cases d:(aS lt).length<i
 ·have H:=(gS.1 U).1;have⟨A,k,B,t,q1,q2,q3,q4,v,I,G⟩:=h.ok i u U d;have w:(A++k::B).head?=some (aS lt).length:=by
   cases A with
   | nil=>exact q3
   | cons a l=>exact q3
  have q:=(List.pairwise_cons.1 q2).2;have p:k∉B:=fun z=>by have:=(List.pairwise_cons.1 (List.pairwise_append.1 q).2.1).1 k z;omega
  have⟨E,F⟩:=h.Vy;have r:t.name∈dH:=by
   have D:jB σ.nodes k=t.name:=by unfold jB;rw[v]
   rw[← D];rcases(Bg h.ok q1 q2 w).1 k (by rw[q1];simp) with z|z|z
   ·rw[z,E];decide
   ·rw[z,F];decide
   ·simp only[nq,List.mem_cons,List.not_mem_nil,or_false] at z;rcases z with z|z|z|z|z|z<;>(rw[z];decide)
  refine⟨fun _=>⟨0::A,k,B,q1,p,q4,by simp;omega,t,v,r⟩,fun e=>by omega,?_⟩;rcases G with ⟨c1,c2,c3,c4,_⟩|⟨c1,c2,c3,c4,_⟩
  ·exact .inr ⟨oq,c1,c2,c3,c4⟩
  ·exact .inl ⟨c1,c2,Gr c3,c4⟩
 ·have⟨e1,C⟩:=h.front (i:=i) oq;have b:∀k,k≤(aS lt).length→σ.nodes[k]?=(cX lt).nodes[k]?:=fun k b=>(h.front b).1;rw[e1] at U;have g:=jm lt;unfold ib;rw[C];by_cases j:lt=[]
  ·subst j;have m:(aS []).length=2:=rfl;have f:=b 0 oq;match i,d,U with
   | 0,_,U=>cases U;exact⟨fun z=>absurd z dq,fun _=>rfl,.inl ⟨rfl,rfl,dq,c⟩⟩
   | 1,_,U=>cases U;exact⟨fun _=>⟨[],0,[],kq,iq,rfl,iq,_,f,dq⟩,fun z=>absurd z dq,.inl ⟨rfl,rfl,dq,c⟩⟩
   | 2,_,U=>cases U;exact⟨fun _=>⟨[],0,[1],kq,iq,rfl,iq,_,f,dq⟩,fun z=>absurd z dq,.inl ⟨rfl,rfl,dq,c⟩⟩
   | i+3,d,_=>omega
  ·have m:aS lt=[cT,dp,⟨1,1,aQ,[],[]⟩,⟨2,2,[],lt,[]⟩]:=by unfold aS;rw[iw j]
   have q:cX lt=⟨[cT,dp,⟨1,1,aQ,[],[]⟩,⟨2,2,[],lt,[]⟩,⟨1,0,cG,[],[]⟩],[4],false⟩:=by unfold cX;rw[m];rfl
   have x:=y.resolve_left j;rw[q] at U b ⊢;have g:(aS lt).length=4:=by rw[m];rfl
   rw[g] at d b;have f:=b 0 oq;have n:=b 1 oq;have o:=b 2 oq;match i,d,U with
   | 0,_,U=>cases U;exact⟨fun z=>absurd z dq,fun _=>rfl,.inl ⟨rfl,rfl,dq,c⟩⟩
   | 1,_,U=>cases U;exact⟨fun _=>⟨[],0,[],kq,iq,rfl,iq,_,f,dq⟩,fun z=>absurd z dq,.inl ⟨rfl,rfl,dq,c⟩⟩
   | 2,_,U=>cases U;exact⟨fun _=>⟨[0],1,[],kq,iq,rfl,iq,_,n,dq⟩,fun z=>absurd z dq,.inl ⟨rfl,rfl,dq,c⟩⟩
   | 3,_,U=>cases U;exact⟨fun _=>⟨[0,1],2,[],kq,iq,rfl,iq,_,o,dq⟩,fun z=>absurd z dq,.inr ⟨dq,rfl,rfl,rfl,x⟩⟩
   | 4,_,U=>cases U;exact⟨fun _=>⟨[],0,[1,2],kq,iq,rfl,iq,_,f,dq⟩,fun z=>absurd z dq,.inl ⟨rfl,rfl,dq,c⟩⟩
   | i+5,d,_=>omega
end
def iD (u:Nd):Bq:=if u.kind=1 then [60]++u.name++dt u.bU++[62] else gQ u.text
def qD (us:List Nd)(i:Nat):Bq:=match us[i]? with|some u=>iD u|none=>[]
def Fp (us:List Nd)(i:Nat):Bool:=match us[i]? with|some u=>aY u.name jI|none=>false
def jz (us:List Nd)(eH:List Nat):Bq:=eH.reverse.flatMap fun k=>[60,47]++jB us k++[62]
def pH (us:List Nd):Nat→Bq
 | 0=>[]
 | i+1=>match us[i]? with
  | some u=>pH us i++jz us (cU u.parent (cg us i))++iD u
  | none=>pH us i
def tq{c:UInt8}(U:new≠[]):∀{l:Bq},dY c new l=[]→l=[]
 | [],_=>rfl
 | b::l,h=>by
  have h1:=(List.append_eq_nil_iff.1 (show(if b=c then new else [b])++dY c new l=[] from h)).1;split at h1
  ·exact absurd h1 U
  ·cases h1
def yr(h:gQ w=[]):w=[]:=tq dq (tq dq (tq dq h))
def ko(us:List Nd):Bq:=pH us us.length++jz us (cg us us.length)
section
variable {s s1:AS}{xs:List bv}{us:List Nd}{pr:Prim}
def PQ(U:eu s xs us)(k:Nat):G4 xs k=jB us k:=by
 unfold G4 jB;by_cases a:k<us.length
 ·have h1:xs[k]?=some (xs[k]'(by rw[U.1];exact a)):=gE _;have h2:us[k]?=some us[k]:=gE a;rw[h1,h2];exact(U.2 k _ _ h1 h2).2.2.1
 ·rw[List.getElem?_eq_none (by rw[U.1];omega),List.getElem?_eq_none oq]
def sn(U:eu s xs us)(l:List Nat):bT xs l=jz us l:=by unfold bT jz nN;congr 1;funext k;rw[PQ U]
def C0(U:eu s xs us):∀i,dN xs (qD us) (Fp us) i=⟨cg us i,pH us i⟩
 | 0=>rfl
 | i+1=>by
  show stepW xs (qD us) (Fp us) i (dN xs (qD us) (Fp us) i)=_;rw[C0 U i,show cg us (i+1)=(match us[i]? with|some u=>ea u.parent (cg us i)++(if u.kind=1∧aY u.name jI=false then [i] else [])|none=>cg us i) from rfl,show pH us (i+1)=(match us[i]? with|some u=>pH us i++jz us (cU u.parent (cg us i))++iD u|none=>pH us i) from rfl];unfold stepW;by_cases hk:i<us.length
  ·have h1:xs[i]?=some (xs[i]'(by rw[U.1];exact hk)):=gE _;have h2:us[i]?=some us[i]:=gE hk;have⟨e1,e2,e3,e4,_⟩:=U.2 i _ _ h1 h2;have e5:qD us i=iD us[i]:=by unfold qD;rw[h2]
   have e6:Fp us i=aY us[i].name jI:=by unfold Fp;rw[h2]
   rw[h1,h2];simp only;rw[e1,e2,sn U,e5,e6]
  ·rw[List.getElem?_eq_none (by rw[U.1];omega),List.getElem?_eq_none oq]
def mW(h:nm∈dH):nm.length≤5:=by simp only[dH,List.mem_cons,List.not_mem_nil,or_false] at h;rcases h with e|e|e|e|e|e|e|e|e|e|e<;>(rw[e];decide)
def CE(h:ib us i u):(iD u).length≤8000:=by
 unfold iD;rcases h.2.2 with ⟨k1,k2,k3,U⟩|⟨_,k1,k2,k3,ls,U,k5,k6⟩
 ·have b:=mW k3;rw[ip k1];rcases U with e|⟨a,ls,ha,ZK,SS,e⟩
  ·rw[e];simp[dt];omega
  ·have h1:=(oX (v:=cF ls) (w:=[]) (by have:=SS.1;omega) dq).1;have h2:=ha.1;have h3:(fE []).length=0:=dq
   rw[e];simp[dt,np,h3];omega
 ·have h1:=(oX (v:=[]) (w:=cF ls) dq (by have:=U.1;omega)).2;rw[iw (by rw[k1];decide),k5];exact h1
def Kd(U:∀i u,us[i]?=some u→ib us i u)(k:Nat):(jB us k).length≤5:=by
 unfold jB;split
 ·next u a =>
  rcases(U k u a).2.2 with ⟨_,_,k3,_⟩|⟨_,_,k2,_⟩
  ·exact mW k3
  ·rw[k2];decide
 ·decide
def vZ(U:∀i u,us[i]?=some u→ib us i u):∀l:List Nat,(jz us l).length≤l.length*8:=by
 intro l;unfold jz;have h:∀m:List Nat,(m.flatMap fun k=>[60,47]++jB us k++[62]).length≤m.length*8:=by
  intro m;induction m with
  | nil=>simp
  | cons a m b =>have:=Kd U a;rw[List.flatMap_cons,lA,lC];simp at b ⊢;omega
 have:=h l.reverse;rwa [List.length_reverse] at this
def kw(us:List Nd):∀i,(cg us i).length≤i
 | 0=>by simp[cg]
 | i+1=>by
  have h:=kw us i;unfold cg;split
  ·next u U =>have:=congrArg List.length (gx u.parent (cg us i));rw[lA] at this ⊢;split<;>simp<;>omega
  ·omega
def BA(U:∀i u,us[i]?=some u→ib us i u):∀i,i≤100→(pH us i).length≤i*8800
 | 0,_=>by simp[pH]
 | i+1,hi=>by
  have h:=BA U i oq;rw[show pH us (i+1)=(match us[i]? with|some u=>pH us i++jz us (cU u.parent (cg us i))++iD u|none=>pH us i) from rfl];split
  ·next u a =>have h1:=CE (U i u a);have h2:=vZ U (cU u.parent (cg us i));have h3:=congrArg List.length (gx u.parent (cg us i));have b:=kw us i;rw[lA] at h3;rw[lA,lA];omega
  ·omega
def Hu(l:I0 pr)(M:pr 127=bB 127)(W:∀v:Bq,v.length≤100→∀s,Ef pr 266 #[str v] s (str (fE v)) s)(X:∀w:Bq,w.length≤100→∀s,Ef pr 267 #[str w] s (str (gQ w)) s)(z:∀i u,us[i]?=some u→ib us i u)(hl:us.length≤70)(h:eu s xs us){c:Nat}(Y:nb<s.nx)(hn:s.get nb=some (.cells (bC xs) 44 fz))(aj:s.nx<s1.nx)(R:∀k,k<s.nx→s1.get k=s.get k):∀i x,xs[i]?=some x→vJ pr s1 xs (qD us) (Fp us) s.nx nb c s1.nx i x:=by
 intro i x C;have H:i<us.length:=by rw[← h.1];exact(gS.1 C).1
 have m:us[i]?=some us[i]:=gE H;generalize us[i]=u at m;have⟨n,K,L,m4,T⟩:=h.2 i x u C m;have hP:=z i u m;have⟨p1,p2,p3⟩:=hP;have X2:=CE (z i u m);have j:qD us i=iD u:=by unfold qD;rw[m]
 have S:xs.length≤100000:=by rw[h.1];omega
 have D:=(R nb Y).trans hn;have t:∀b,tZ s.nx s1.nx s1 b→b.get nb=some (.cells (bC xs) 44 fz)∧nb<b.nx:=fun b f=>⟨(f.2 nb oq oq oq (dC D dq) (kS D dq)).trans D,by have:=f.1;omega⟩;have o:∀b,tZ s.nx s1.nx s1 b→bY b x.bU u.bU:=fun b f=>by
  rcases T with ⟨e1,e2⟩|⟨ab,cp,fa,e1,e2,e3⟩
  ·exact .inl ⟨e1,e2⟩
  ·have E:=(R ab e2).trans e3;exact .inr ⟨ab,cp,fa,e1,by have:=f.1;omega,(f.2 ab oq oq oq (dC E dq) (kS E dq)).trans E⟩
 have P:x.cells.all Value.oneCell'=true:=by have:=T.m9.2.2.1;show((num x.kind).oneCell'&&((num x.parent).oneCell'&&((str x.name).oneCell'&&((str x.text).oneCell'&&(x.bU.oneCell'&&true)))))=true;rw[this];rfl
 have O:(dN xs (qD us) (Fp us) i).tN.length+(bT xs (cU x.parent (dN xs (qD us) (Fp us) i).eL)).length+(qD us i).length≤700000:=by rw[C0 h,sn h,j];have h1:=BA z i oq;have h2:=vZ z (cU x.parent (cg us i));have h3:=congrArg List.length (gx x.parent (cg us i));have h4:=kw us i;rw[lA] at h3;show(pH us i).length+(jz us (cU x.parent (cg us i))).length+(iD u).length≤700000;omega
 have U:i=0→x.kind=1∧x.name=[104,116,109,108]∧x.parent = -1:=fun e=>by rw[n,L,K,p2 e];exact⟨rfl,rfl,rfl⟩
 have N:0<i→ea x.parent (dN xs (qD us) (Fp us) i).eL≠[]:=fun Z=>by have⟨A,k,B,q1,q2,q3,_⟩:=p1 Z;rw[C0 h,K,q3];show ea _ (cg us i)≠[];rw[q1,(oC q2).1];simp
 rcases p3 with ⟨k1,k2,k3,k4⟩|⟨k0,k1,k2,k3,ls,k4,k5,k6⟩
 ·have ai:=mW k3;refine⟨.inl (n.trans k1),U,N,P,O,fun b l' f F g=>?_,fun _ b d G=>?_⟩
  ·have⟨q1,q2⟩:=t b f;have q:(dt u.bU).length≤8000∧u.bU.length≤1000∧∀p∈u.bU,p.2.length≤100:=by
    rcases k4 with e|⟨a,ls,ha,ah,aa,e⟩
    ·rw[e];simp[dt]
    ·have h1:=(oX (v:=cF ls) (w:=[]) (by have:=aa.1;omega) dq).1;have h2:=ha.1;have h3:(fE []).length=0:=dq
     have h4:=aa.1;rw[e];refine⟨by simp[dt,np,h3];omega,iq,fun p l=>?_⟩;simp only[List.mem_cons,List.not_mem_nil,or_false] at l;rcases l with rfl|rfl
     ·show(cF ls).length≤100;omega
     ·show([]:Bq).length≤100;decide
   rw[j] at g ⊢;have I:iD u=[60]++x.name++dt u.bU++[62]:=by unfold iD;rw[ip k1,L]
   rw[I] at g ⊢;exact FX l.w (i:=i) F q1 C (n.trans k1) (o b f) (by simp at g;omega) q.2.1 S (fun p l s=>W p.2 (q.2.2 p l) s)
  ·have hv:Fp us i=aY u.name jI:=by unfold Fp;rw[m]
   rw[hv,L];refine nW M (lJ:=[[97,114,101,97],[98,97,115,101],[98,114],[99,111,108],[101,109,98,101,100],[104,114],[105,109,103],[105,110,112,117,116],[108,105,110,107],[109,101,116,97],[115,111,117,114,99,101],[116,114,97,99,107],[119,98,114]]) (c:=13) (fz:=(0,0)) G dq ?_;simp only[dH,List.mem_cons,List.not_mem_nil,or_false] at k3;rcases k3 with e|e|e|e|e|e|e|e|e|e|e<;>(rw[e];decide)
 ·have⟨A,k,B,q1,q2,q3,_,pu,q4,V⟩:=p1 k0;have r:k<us.length:=(gS.1 q4).1;have y:xs[k]?=some (xs[k]'(by rw[h.1];exact r)):=gE _;have J:=(h.2 k _ _ y q4).2.2.1;refine⟨.inr (n.trans k1),U,N,P,O,fun b l' f F g=>?_,fun e=>absurd (e.symm.trans (n.trans k1)) dq⟩;have⟨r1,r2⟩:=t b f;have I:iD u=gQ u.text:=by unfold iD;rw[iw (by rw[k1];decide)]
  have Q:=o b f;rw[k3] at Q;rw[j,I] at g ⊢;refine FY l.w (i:=i) (pi:=k) (px:=xs[k]'(by rw[h.1];exact r)) (out:=gQ u.text) F r1 r2 C (n.trans k1) Q (K.trans q3) y oq S (fun s d G=>?_) (by rw[m4];exact X u.text (by rw[k5];have:=k4.1;omega));refine nW M (lJ:=[[115,99,114,105,112,116],[115,116,121,108,101]]) (c:=2) (fz:=(0,0)) G dq ?_;rw[J];simp only[dH,List.mem_cons,List.not_mem_nil,or_false] at V;rcases V with e|e|e|e|e|e|e|e|e|e|e<;>(rw[e];decide)
def y6(U:∀i u,us[i]?=some u→ib us i u)(g:0<us.length):ko us≠[]:=by
 intro e;have c:=(List.append_eq_nil_iff.1 e).1;obtain⟨m,b⟩:∃m,us.length=m+1:=⟨us.length-1,oq⟩;have d:us[m]?=some (us[m]'oq):=gE _;rw[b,show pH us (m+1)=(match us[m]? with|some u=>pH us m++jz us (cU u.parent (cg us m))++iD u|none=>pH us m) from rfl,d] at c;simp only at c;have a:=(List.append_eq_nil_iff.1 c).2;have f:=U _ _ d;rcases f.2.2 with ⟨k1,_⟩|⟨k0,k1,k2,k3,ls,k4,k5,k6⟩
 ·unfold iD at a;rw[ip k1] at a;simp at a
 ·unfold iD at a;rw[iw (by rw[k1];decide),k5] at a;exact k6 (yr a)
def pm(g:I0 pr)(o:pr 84=none)(n:pr 46=none)(m:pr 28=none)(h:pr 127=bB 127)(j:∀v:Bq,v.length≤100→∀s,Ef pr 266 #[str v] s (str (fE v)) s)(l:∀w:Bq,w.length≤100→∀s,Ef pr 267 #[str w] s (str (gQ w)) s)(a:∀i u,us[i]?=some u→ib us i u)(q:us.length≤70)(p:0<us.length)(r:lq s v xs)(U:eu s xs us) :
  ∃f,Ef pr 28 #[v] s (.tuple #[str (ko us),num 0]) f∧s.nx≤f.nx∧∀k,k<s.nx→Ej (s.get k)→G7 (s.get k)→f.get k=s.get k:=by
 obtain⟨x,c,t,rfl,b⟩:=r;have e:=C0 U us.length;have h1:=BA a us.length oq;have h2:=vZ a (cg us us.length);have h3:=kw us us.length;have d:=y6 a p
 have:=E7 (pr:=pr) (s:=s) g o n m (c:=c) (ns:=xs) (out:=qD us) (vd:=Fp us) b.2 b.1 (by rw[U.1];omega) (by rw[U.1];omega) (fun y q1 q2=>Hu g h j l a q U b.1 b.2 q1 q2) (by rw[U.1,e,sn U];show(pH us us.length).length+(jz us (cg us us.length)).length≤800000;omega) (by rw[U.1,e,sn U];exact d);rw[U.1,e,sn U] at this;rw[U.1];exact this
end
section
def uI(c:CS)(r:Int):aJ c [r]=eD c r:=by simp[aJ]
def AN{n:Nat}(h:n<128)(f:n≠0)(e:n≠13)(b:c.returned=false)(g:d.missing=0)(l:Iq):bE c d (((n:Nat):Int)::l)=((n:Nat):Int)::bE ⟨true,false⟩ d l:=by
 have h1:dm d ((n:Nat):Int)=(d,[((n:Nat):Int)]):=by unfold dm;rw[iw (by omega)];unfold dd;rw[ip (by omega),IntKind.wrap_i32,show(((n:Nat):Int)+2147483648) % 4294967296-2147483648=((n:Nat):Int) by omega]
 have U:(((n:Nat):Int)==13)=false:=by simp;omega
 have a:(((n:Nat):Int)==65279)=false:=by simp;omega
 have h2:eD c ((n:Nat):Int)=(⟨true,false⟩,[((n:Nat):Int)]):=by unfold eD;rw[b,U,a];simp only[Bool.and_false,Bool.false_and,Bool.false_eq_true,if_false];rw[iw (by omega),iw (by omega)]
 rw[dX,h1];show(aJ c [((n:Nat):Int)]).2++bE (aJ c [((n:Nat):Int)]).1 d l=_;rw[uI,h2];rfl
def AO(U:c.returned=false)(a:d.missing=0)(l:Iq):bE c d (195::169::l)=233::bE ⟨true,false⟩ ⟨233,0,128,191⟩ l:=by
 have h1:dm d 195=(⟨3,1,128,191⟩,[]):=by unfold dm;rw[iw oq];rfl
 have h2:dm ⟨3,1,128,191⟩ 169=(⟨233,0,128,191⟩,[233]):=rq
 have h3:eD c 233=(⟨true,false⟩,[233]):=by unfold eD;rw[U];simp
 rw[dX,h1,dX];show[]++((aJ c (dm ⟨3,1,128,191⟩ 169).2).2++bE (aJ c (dm ⟨3,1,128,191⟩ 169).2).1 (dm ⟨3,1,128,191⟩ 169).1 l)=_;rw[h2];show[]++((aJ c [233]).2++bE (aJ c [233]).1 ⟨233,0,128,191⟩ l)=_;rw[uI,h3];rfl
def Pl (cl:List Nat):Prop:=∀c∈cl,It c∧c≠0∧c≠13
def Cf:∀{cl:List Nat} {c:CS} {d:DS},Pl cl→c.returned=false→d.missing=0→bE c d ((cF cl).map fun b=>((b.toNat:Nat):Int))=ek cl
 | [],c,d,_,U,hd=>by show bE c d []=[];rw[gp];unfold gu;rw[iw (by omega)];rfl
 | n::cl,c,d,h,U,hd=>by
  have ih:=fun c d=>Cf (cl:=cl) (c:=c) (d:=d) fun x g=>h x (by simp[g]);obtain⟨h1,h2,h3⟩:=h n (by simp);show bE c d ((yJ n++cF cl).map fun b=>((b.toNat:Nat):Int))=((n:Nat):Int)::ek cl;rw[List.map_append];unfold yJ;by_cases a:n=233
  ·rw[ip a,a];show bE c d (195::169::(cF cl).map fun b=>((b.toNat:Nat):Int))=233::ek cl;rw[AO U hd,ih _ _ rfl rfl]
  ·have f:n<128:=h1.resolve_right a;rw[iw a];have e:(UInt8.ofNat n).toNat=n:=by simp;omega
   show bE c d ((((UInt8.ofNat n).toNat:Nat):Int)::(cF cl).map fun b=>((b.toNat:Nat):Int))=_;rw[e,AN f h2 h3 U hd,ih _ _ rfl hd]
def AP(h:Pl cl):cm ⟨(cF cl).toArray⟩=ek cl:=by unfold cm bytesOf;exact Cf h rfl rfl
end
section
variable {all pre rest zl:Iq}{x y:Int}{k:Nat}{stops:Bq}
def fX(h:all=pre++x::rest)(U:k=pre.length):dx all k=x:=by subst h U;unfold dx;rw[List.getElem?_append_right lr,Nat.sub_self];rfl
def oK(h:all=pre++rest)(U:k=pre.length):all.drop k=rest:=by subst h U;rw[List.drop_left]
def Bx{α:Type}{f:α→Bool}{y:α}{rest:List α}(U:f y=false):∀{zl:List α},(∀x∈zl,f x=true)→(zl++y::rest).takeWhile f=zl
 | [],_=>by simp[U]
 | x::zl,h=>by rw[List.cons_append,List.takeWhile_cons,ip (h x iq),Bx U fun z hz=>h z (by simp[hz])]
def xi(h:all=pre++(zl++y::rest))(U:k=pre.length)(a:∀x∈zl,ef x stops=false)(c:ef y stops=true):g9 all stops k=k+zl.length:=by unfold g9;rw[oK h U,Bx (by simp[c]) fun x b=>by simp[a x b]]
def H6(h:all=pre++(zl++y::rest))(U:k=pre.length)(a:∀x∈zl,ef x stops=true)(b:ef y stops=false):nj all stops k=k+zl.length:=by unfold nj;rw[oK h U,Bx (f:=fun l=>ef l stops) b a]
def H5(h:all=pre++y::rest)(U:k=pre.length)(hy:ef y stops=false):nj all stops k=k:=H6 (zl:=[]) h U iq hy
def m8(h:all=pre++(zl++rest))(a:k=pre.length)(U:k'=k+zl.length):dQ all k k'=aV zl:=by unfold dQ;rw[oK h a,U,show k+zl.length-k=zl.length by omega,List.take_left]
variable {an vl:Iq}{a0:Int}
structure BD(a:Iq × Iq):Prop where
 ne:∃a0 an,a.1=a0::an∧ef a0 g8=false∧a0≠62∧a0 ≠ -1
 nm:∀x∈a.1,ef x tI=false
 vl:∀x∈a.2,ef x [34]=false
def p8 (a:Iq × Iq):Iq:=a.1++61::34::(a.2++[34])
def Ji{a:Iq × Iq}(f:BD a)(h:all=pre++(p8 a++rest))(o:k=pre.length):lH all k=k+a.1.length∧ud all k=k+a.1.length∧dx all (k+a.1.length)=61∧tU all k=k+a.1.length+1∧gH all (k+a.1.length+1)=(aV a.2,k+(p8 a).length)∧dQ all k (k+a.1.length)=aV a.1:=by
 have⟨b,c,U,_⟩:=f.ne;have⟨a,d⟩:=a;have U:a=b::c:=U;subst U;have g:∀x∈d,ef x [34]=false:=f.vl;have e:all=pre++(b::c++(61::34::(d++34::rest))):=by rw[h];simp[p8]
 have e1:all=(pre++[b])++(c++61::(34::(d++34::rest))):=by rw[e];simp
 have i:all=(pre++b::c)++61::(34::(d++34::rest)):=by rw[e];simp
 have j:all=(pre++b::c++[61])++34::(d++34::rest):=by rw[e];simp
 have l:all=(pre++b::c++[61,34])++(d++34::rest):=by rw[e];simp
 have h1:lH all k=k+(b::c).length:=by unfold lH;rw[xi (k:=k+1) e1 (by simp;omega) (fun x p=>f.nm x (by simp[p])) dq];simp;omega
 have h2:ud all k=k+(b::c).length:=by unfold ud;rw[h1];exact H5 i (by simp;omega) dq
 have h3:tU all k=k+(b::c).length+1:=by unfold tU;rw[h2];exact H5 j (by simp;omega) dq
 refine⟨h1,h2,fX i (by simp;omega),h3,?_,m8 e o rfl⟩;have m:dx all (k+(b::c).length+1)=34:=fX j (by simp;omega);have n:g9 all [34] (k+(b::c).length+1+1)=k+(b::c).length+1+1+d.length:=xi l (by simp;omega) g dq;show gH all (k+(b::c).length+1)=_;unfold gH;rw[ip m,n,m8 (k':=k+(b::c).length+1+1+d.length) l (by simp;omega) rfl];simp[p8];omega
variable {lo:Bq→Bq}{wr:Bq→Int→Bq}{T:Bq→Prop}{W:Bq→Int→Prop}
def iZ (aI:List (Iq × Iq)):Iq:=aI.flatMap fun a=>32::p8 a
def Bt (lo:Bq→Bq)(wr:Bq→Int→Bq)(aI:List (Iq × Iq))(I4:jd):jd:=aI.foldl (fun l a=>l7 l (lo (aV a.1),wr (aV a.2) 1)) I4
def Bu:∀{aI:List (Iq × Iq)} {pre:Iq} {k:Nat} {I4:jd},(∀a∈aI,BD a∧T (aV a.1)∧W (aV a.2) 1)→all=pre++(iZ aI++62::rest)→k=pre.length→uu all lo wr (aI.length+1) k I4=some (Bt lo wr aI I4,false,true,k+(iZ aI).length+1)∧nk all lo wr T W (aI.length+1) k
 | [],pre,k,I4,_,h,hk=>by
  have e:nj all g8 k=k:=H5 (y:=62) h hk dq;have c:dx all k=62:=fX h hk;constructor
  ·unfold uu tA;rw[show nj all (ce++[47]) k=k from e,iw (by rw[c];decide),ip c];simp[Bt,iZ]
  ·unfold nk;intro _ h2;rw[e] at h2;exact absurd c h2
 | a::aI,pre,k,I4,ha,h,hk=>by
  have⟨U,r,s⟩:=ha a iq;have⟨f,n,i,j,l,m⟩:=U.ne;have g:all=pre++(32::(p8 a++(iZ aI++62::rest))):=by rw[h];simp[iZ]
  have e1:all=(pre++[32])++(p8 a++(iZ aI++62::rest)):=by rw[g];simp
  have o:all=pre++([32]++f::(n++61::34::(a.2++34::(iZ aI++62::rest)))):=by rw[g];simp[p8,i]
  have v:all=(pre++[32])++f::(n++61::34::(a.2++34::(iZ aI++62::rest))):=by rw[o];simp
  have e:nj all g8 k=k+1:=H6 o hk dq j;have c:dx all (k+1)=f:=fX v (by simp;omega);have⟨q1,q2,q3,q4,p,q⟩:=Ji U (k:=k+1) e1 (by simp;omega);have d:j0 all lo wr (k+1)=((lo (aV a.1),wr (aV a.2) 1),k+1+(p8 a).length):=by unfold j0;rw[q2,ip q3,q1,q,q4,p]
  have w:all=(pre++32::p8 a)++(iZ aI++62::rest):=by rw[g];simp
  have⟨t,u⟩:=Bu (aI:=aI) (pre:=pre++32::p8 a) (k:=k+1+(p8 a).length) (I4:=l7 I4 (lo (aV a.1),wr (aV a.2) 1)) (fun b x=>ha b (by simp[x])) w (by simp;omega);constructor
  ·rw[show(a::aI).length+1=(aI.length+1)+1 from rfl];unfold uu;rw[e,c,iw m,iw l,d,t];simp[Bt,iZ];omega
  ·rw[show(a::aI).length+1=(aI.length+1)+1 from rfl];unfold nk;rw[e,c,d];intro _ _;refine⟨⟨by rw[q1,q];exact r,fun _=>?_⟩,u⟩;rw[q4,p];exact s
end
end
end Go.Proofs.YtgcaionclkbehaaGreatDoor
