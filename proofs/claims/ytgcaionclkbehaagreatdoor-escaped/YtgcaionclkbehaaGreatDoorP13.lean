import Derived.Test.YtgcaionclkbehaaGreatDoorE18
import Derived.Room.MakeNoZero
set_option linter.all false
set_option maxHeartbeats 2000000
set_option maxRecDepth 100000
namespace Go.Proofs.YtgcaionclkbehaaGreatDoor
open Go.Conc Go.RowKit Go.Lib Tryz
variable {a args cs:Aq}{b cp k m n off sz:Nat}{sl v w:Value}{s s' s0 s1 s2:AS}{c:Code}{e pt t t' ty u:TypeId}{α:Type}{x y:Operand}{i j r:Int}{cl:Call}{f g:FuncId}{hi lo:Option Operand}{l:Bq}{fz:Nat × Nat}{d:TypeDesc}{P:Program}{kt:TypeId→Bool}{pr:Prim}{ops:Array Oper}{news:Vq}
def fC:Nat→Value→Bool
 | 0,_=>false
 | n+1,v=>match v with
  | .agg x=>x.toList.all (fC n)
  | .tuple x=>x.toList.all (fC n)
  | v=>dT v
section
variable {S:bC}
theorem AR.rp(h:∀x∈a.toList,VR S x x):AR (VR S) a a:=⟨rfl,fun i x y U hy=>by rw[U] at hy;cases hy;exact h x (by rw[Array.mem_toList_iff]; exact Array.mem_of_getElem? U)⟩
theorem AR.BK{b:Aq}(h:AR (VR S) a b)(U:∀x∈a.toList,∀y,VR S x y→y=x):b=a:=by
 apply Array.toList_inj.1;apply List.ext_getElem?;intro i;rw[Array.getElem?_toList,Array.getElem?_toList];by_cases hi:i<a.size
 ·have h1:a[i]?=some a[i]:=Array.getElem?_eq_getElem hi;have h2:b[i]?=some (b[i]'(by rw[← h.1]; exact hi)):=Array.getElem?_eq_getElem _;rw[h1,h2];rw[U _ (by simp) _ (h.2 i _ _ h1 h2)]
 ·have h2:¬i<b.size:=by rw[← h.1]; exact hi
  rw[Array.getElem?_eq_none (Nat.le_of_not_lt h2),Array.getElem?_eq_none (Nat.le_of_not_lt hi)]
theorem VR.flat:∀{n:Nat} {x v:Value},fC n x=true→VR S x v→v=x
 | 0,x,v,h,_=>by simp[fC] at h
 | n+1,x,v,h,hr=>by
  unfold fC at h;split at h
  ·rw[List.all_eq_true] at h;obtain⟨p',rfl,U⟩:=hr.ag;rw[U.BK fun x hx y hy=>VR.flat (h x hx) hy]
  ·rw[List.all_eq_true] at h;obtain⟨p',rfl,U⟩:=hr.tu;rw[U.BK fun x hx y hy=>VR.flat (h x hx) hy]
  ·exact hr.sc h
theorem VR.of_flat:∀{n:Nat} {x:Value},fC n x=true→VR S x x
 | 0,x,h=>by simp[fC] at h
 | n+1,x,h=>by
  unfold fC at h;split at h
  ·rw[List.all_eq_true] at h;exact VR.yv (AR.rp fun x U=>VR.of_flat (h x U))
  ·rw[List.all_eq_true] at h;exact VR.sa (AR.rp fun x U=>VR.of_flat (h x U))
  ·exact VR.dr h
end
section
variable {ι:Type}{P:Program}{KT:TypeId→Prop}{An:bC}{N0:ι→Nat}{M:ι→World→Nat→Prop}{O:ι→Nat→Prop}{R:ι→Wq}{D:ι→World→World→Array Event→Prop}{X:ι→Gq}{Hd:ι→Hq→World→Prop}{f:FuncId}{args:Aq}{s:AS}{v:Value}
theorem jI.mono{i:ι}{w:World}{Post U:ι→Value→World→Prop}(h:jI P R D X f args i w Post)(hp:∀i v w,Post i v w→U i v w):jI P R D X f args i w U:=by obtain⟨aJ,c,h1,h2,h3,h4⟩:=h;refine⟨aJ,c,h1,h2,h3,l9 h4 fun i' e a' w' q=>⟨q.1,q.2.1,fun aB r=>?_⟩⟩;obtain⟨v,q1,q2,q3⟩:=q.2.2 aB r;exact⟨v,q1,q2,hp _ _ _ q3⟩
theorem lK(Y:Cy P KT N0 M O R D X Hd){i:ι}{w:World}:∀{l fr:Hq},Hd i (l++fr) w→Hd i fr w
 | [],fr,h=>h
 | x::l,fr,h=>lK Y (l:=l) ((Y.Z h).drop h)
theorem Sound.alone(Y:Cy P KT N0 M O R D X Hd)(a0:∀b,k≤b→An b=none)(ha:args.toList.all (fC m)=true)(hv:fC m v=true)(h:Sound P KT An R D X Hd f args ⟨[],k⟩ v s1):Sound P KT An R D X Hd f args s v s:=by
 intro S l fr i w args' hS hF hA a1;rw[List.all_eq_true] at ha;have e:=hA.BK fun x hx y hy=>VR.flat (ha x hx) hy;subst e;have yg:∀b o,(⟨[],k⟩:AS).get b=some o→False:=fun b o U=>by unfold AS.get at U; simp at U
 refine(h An [] (l++fr) i w args' ⟨fun b o U=>(yg b o U).elim,fun b b' o o' x x' U=>(yg b o U).elim,fun b o U=>(yg b o U).elim,bC.le_refl An⟩ hF (AR.rp fun x hx=>VR.of_flat (ha x hx)) fun b U _=>a0 b U).mono ?_;rintro i' v' w' ⟨S',l',q1,q2,q3,q4,q5⟩;refine⟨S,l,bC.le_refl S,fun _ _=>rfl,hS,lK Y (l:=l') q4,?_⟩;rw[VR.flat hv q5];exact VR.of_flat hv
def pm(P:Program)(KT:TypeId→Prop)(An:bC)(R:ι→World→World→Prop)(D:ι→World→World→Array Event→Prop)(X:ι→Goroutine→World→Prop)(Hd:ι→List (Nat × Obj)→World→Prop)(f:FuncId)(args:Array Value)(s:AS)(v:Value)(s':AS):Prop :=
 ∀S l fr i w args',eK P KT An S s l→Hd i (l++fr) w→AR (VR S) args args'→(∀b,s.nx≤b→S b=none) →
  jI P R D X f args' i w fun i' v' w'=>∃S' l',eK P KT An S' s' l'∧Hd i' (l'++fr) w'∧VR S' v v'
theorem Sound.toW(h:Sound P KT An R D X Hd f args s v s'):pm P KT An R D X Hd f args s v s':=fun S l fr i w args' hS hF hA U=>(h S l fr i w args' hS hF hA fun b hb _=>U b hb).mono fun _ _ _ ⟨S',l',_,_,q⟩=>⟨S',l',q⟩
theorem Sound.EY(Y:Cy P KT N0 M O R D X Hd){c:Nat}{x1:Nat × Nat × Nat}(h1:An c=some x1)(a1:∀b,k≤b→An b=none)(a3:cs.toList.all dT=true)(a7:∀b,s0.get b=if b=c then some (.cells cs t) else none)(hk:s0.nx=k)(a8:s1.get c=some (.cells cs t))(hs:s.get c=some (.cells cs t))(ha:args.toList.all (fC m)=true)(hv:fC m v=true)(h:pm P KT An R D X Hd f args s0 v s1):Sound P KT An R D X Hd f args s v s:=by
 intro S l fr i w args' hS hF hA a9;rw[List.all_eq_true] at ha a3;have e:=hA.BK fun x hx y hy=>VR.flat (ha x hx) hy;subst e;have U1:c<k:=by
  by_cases a5:c<k
  ·exact a5
  ·rw[a1 c (by omega)] at h1; cases h1
 obtain⟨g,z,e,o',q1,q2,q3,q4⟩:=hS.live c _ hs;have Wi:x1=(g,z,e):=by have:=hS.an _ _ h1; rw[q1] at this; cases this; rfl
 subst Wi;have a2:∀{A B:bC} {ED:Obj},OR A z (.cells cs t) ED→OR B z (.cells cs t) ED:=fun {A B ED} hq=>by obtain⟨gU,r1,r2,r3,r4⟩:=hq;refine⟨gU,r1,r2,r3,fun i x y hx hy=>?_⟩;have Jp:=a3 x (by rw[Array.mem_toList_iff]; exact Array.mem_of_getElem? hx);rw[(r4 i x y hx hy).sc Jp];exact VR.dr Jp
 obtain⟨la,lb,hl⟩:=List.append_of_mem q2;have MH:(la++(g,o')::lb).Perm ([(g,o')]++(la++lb)):=List.perm_middle;have mw:Hd i ([(g,o')]++((la++lb)++fr)) w:=(Y.Z hF).perm hF (by
  rw[hl,← List.append_assoc];exact(MH.append_right fr).symm);have a0:∀b o,s0.get b=some o→b=c∧o=.cells cs t:=fun b o U=>by
  rw[a7] at U;split at U
  ·next e=>cases U; exact⟨e,rfl⟩
  ·cases U
 refine(h An [(g,o')] ((la++lb)++fr) i w args' ⟨fun b o U=>?_,fun b b' o o' x x' U jA _ _ _=>by rw[(a0 b o U).1,(a0 b' o' jA).1],fun b o U=>by rw[(a0 b o U).1,hk]; exact U1,bC.le_refl An⟩ mw (AR.rp fun x hx=>VR.of_flat (ha x hx)) fun b U=>a1 b (by rw[← hk]; exact U)).mono ?_
 ·obtain⟨rfl,rfl⟩:=a0 b o U;exact⟨g,z,e,o',h1,by simp,a2 q3,q4⟩
 ·rintro i' v' w' ⟨S',l',r3,r4,r5⟩;obtain⟨g2,z2,e2,o2,p1,p2,p3,p4⟩:=r3.live c _ a8;have he:(g2,z2,e2)=(g,z,e):=by have:=r3.an _ _ h1; rw[p1] at this; cases this; rfl
  cases he;obtain⟨lc,ld,a4⟩:=List.append_of_mem p2;have Gc:(lc++(g,o2)::ld).Perm ((lc++ld)++[(g,o2)]):=List.perm_middle.trans (List.perm_append_singleton _ _).symm;have Mi:Hd i' ((lc++ld)++(([(g,o2)]++(la++lb))++fr)) w':=(Y.Z r4).perm r4 (by
   rw[a4]
   have:=(Gc.append_right ((la++lb)++fr)).symm;simpa[List.append_assoc] using this);refine⟨S,[(g,o2)]++(la++lb),bC.le_refl S,fun _ _=>rfl,⟨fun b o U=>?_,hS.inj,hS.lt,hS.an⟩,lK Y Mi,?_⟩
  ·obtain⟨gb,zb,eb,ob,u1,u2,u3,u4⟩:=hS.live b o U;by_cases H2:b=c
   ·subst H2;rw[hs] at U;cases U;rw[q1] at u1;cases u1;exact⟨g,z,e,o2,q1,by simp,a2 p3,u4⟩
   ·rw[hl] at u2;have a6:gb≠g:=fun e'=>H2 (hS.inj b c o _ _ _ U hs u1 q1 e');refine⟨gb,zb,eb,ob,u1,?_,u3,u4⟩;rcases List.mem_append.1 u2 with u2|u2
    ·simp[u2]
    ·rcases List.mem_cons.1 u2 with u2|u2
     ·cases u2; exact absurd rfl a6
     ·simp[u2]
  ·rw[VR.flat hv r5];exact VR.of_flat hv
end
def Rm:Option Obj→Option Obj→Bool
 | none,none=>true
 | some (.cells c t f),some (.cells c' t' f')=>t.beq t'&&f.1.beq f'.1&&f.2.beq f'.2&&c.toList.length.beq c'.toList.length&&(c.toList.zip c'.toList).all (fun p=>na 20 p.1 p.2)
 | some (.stringIter x p),some (.stringIter y q)=>p.beq q&&cJ x.data.toList y.data.toList
 | _,_=>false
def Ke (s s':AS):Bool:=s.nx.beq s'.nx&&s.hp.length.beq s'.hp.length&&(s.hp.zip s'.hp).all fun p=>p.1.length.beq p.2.length&&(p.1.zip p.2).all fun q=>Rm q.1 q.2
def N4:Value→Value→Bool
 | .tuple x,.tuple y=>x.toList.length.beq y.toList.length&&(x.toList.zip y.toList).all (fun p=>na 20 p.1 p.2)
 | x,y=>na 20 x y
def XU (r:Option (Value × AS))(v:Value)(s:AS):Bool:=match r with
 | some (v',s')=>N4 v' v&&Ke s' s
 | none=>false
theorem me{p:α × α→Bool}(hp:∀q:α × α,p q=true→q.1=q.2):∀{a b:List α},a.length.beq b.length=true→(a.zip b).all p=true→a=b
 | [],[],_,_=>rfl
 | [],_::_,U,_=>by simp at U
 | _::_,[],U,_=>by simp at U
 | x::a,y::b,U,h=>by
  have a0:a.length.beq b.length=true:=by have:=Nat.eq_of_beq_eq_true U;simp only[List.length_cons,Nat.add_right_cancel_iff] at this;rw[this];exact Nat.beq_refl _
  simp only[List.zip_cons_cons,List.all_cons,Bool.and_eq_true] at h;rw[show x=y from hp (x,y) h.1,me hp a0 h.2]
theorem pU{x y:Option Obj}(h:Rm x y=true):x=y:=by
 unfold Rm at h;split at h
 ·rfl
 ·next c t f U t' f' =>simp only[Bool.and_eq_true] at h;obtain⟨⟨⟨⟨h1,h2⟩,h3⟩,h4⟩,h5⟩:=h;have e:=me (fun q hq=>ic hq) h4 h5;have e':c=U:=Array.toList_inj.1 e;rw[Nat.eq_of_beq_eq_true h1,e',Prod.ext (Nat.eq_of_beq_eq_true h2) (Nat.eq_of_beq_eq_true h3)]
 ·simp only[Bool.and_eq_true] at h;rw[Nat.eq_of_beq_eq_true h.1,rC h.2]
 ·cases h
theorem nH(h:Ke s s'=true):s=s':=by unfold Ke at h;simp only[Bool.and_eq_true] at h;obtain⟨⟨h1,h2⟩,h3⟩:=h;obtain⟨a,b⟩:=s;obtain⟨c,d⟩:=s';have e1:b=d:=Nat.eq_of_beq_eq_true h1;have e2:a=c:=me (fun q hq=>by simp only[Bool.and_eq_true] at hq;exact me (fun r hr=>pU hr) hq.1 hq.2) h2 h3;rw[e1,e2]
theorem Bj{x y:Value}(h:N4 x y=true):x=y:=by
 unfold N4 at h;split at h
 ·next a b =>simp only[Bool.and_eq_true] at h;have e:a=b:=Array.toList_inj.1 (me (fun q hq=>ic hq) h.1 h.2);rw[e]
 ·exact ic h
theorem LS{r:Option (Value × AS)}(h:XU r v s=true):r=some (v,s):=by
 unfold XU at h;split at h
 ·simp only[Bool.and_eq_true] at h;rw[Bj h.1,nH h.2]
 ·cases h
def Tl:Option (TL × AS)→Bool
 | some _=>true
 | none=>false
def oA:Option (TL × AS)→TL
 | some (a,_)=>a
 | none=>[]
def oS:Option (TL × AS)→AS
 | some (_,s)=>s
 | none=>⟨[],0⟩
def Ub:Option (Exit × TL × AS)→Bool
 | some (.normal,_,_)=>true
 | _=>false
def cA:Option (Exit × TL × AS)→TL
 | some (_,a,_)=>a
 | none=>[]
def cS:Option (Exit × TL × AS)→AS
 | some (_,_,s)=>s
 | none=>⟨[],0⟩
section
variable {P:Program}{kt:TypeId→Bool}{pr:Prim}{a:TL}{s:AS}{Q:Exit→TL→AS→Prop}{K:TL→AS→Prop}{KT:List (TL × Value × AS)→Prop}{ops:Array Oper}{o:Oper}{rest:List Oper}{v:Value}{s1:AS}{x y:Code}
theorem kB{c:fj}:∀{l m:List Oper} {a:TL} {s:AS},cD P kt c ops (l++m) a s=(match cD P kt c ops l a s with|some (a',s')=>cD P kt c ops m a' s'|none=>none)
 | [],m,a,s=>rfl
 | o::l,m,a,s=>by
  rw[List.cons_append];simp only[cD];by_cases U:Region.wanted o (bB ops a)=true
  ·simp only[if_pos U];cases bK P kt c a o s with
   | none=>rfl
   | some r=>exact kB
  ·simp only[if_neg U];exact kB
theorem EO.run(k n:Nat)(U:TL)(s':AS)(h:cD P kt (br P kt pr n) ops (rest.take k) a s=some (U,s'))(kk:EO P kt pr ops (rest.drop k) U s' K):EO P kt pr ops rest a s K:=by obtain⟨m,a2,s2,h1,h2⟩:=kk;refine⟨max n m,a2,s2,?_,h2⟩;rw[← List.take_append_drop k rest,kB,gW (gq (Nat.le_max_left n m)) h];exact gW (gq (Nat.le_max_right n m)) h1
theorem EO.go(k n:Nat)(h:Tl (cD P kt (br P kt pr n) ops (rest.take k) a s)=true)(U:EO P kt pr ops (rest.drop k) (oA (cD P kt (br P kt pr n) ops (rest.take k) a s)) (oS (cD P kt (br P kt pr n) ops (rest.take k) a s)) K):EO P kt pr ops rest a s K:=by
 generalize hq:cD P kt (br P kt pr n) ops (rest.take k) a s=q at h U;obtain _|⟨a',s'⟩:=q
 ·cases h
 ·exact EO.run k n a' s' hq U
theorem EW.go(n:Nat)(h:Ub (eJ P kt pr n c a s)=true)(k:Q .normal (cA (eJ P kt pr n c a s)) (cS (eJ P kt pr n c a s))):EW P kt pr c a s Q:=by
 generalize U:eJ P kt pr n c a s=q at h k;unfold Ub at h;split at h
 ·exact⟨n,_,_,_,U,k⟩
 ·cases h
def cE:Option (Exit × TL × AS)→Option Exit
 | some (e,_,_)=>some e
 | none=>none
theorem EW.zh(n:Nat)(e:Exit)(h:cE (eJ P kt pr n c a s)=some e)(k:Q e (cA (eJ P kt pr n c a s)) (cS (eJ P kt pr n c a s))):EW P kt pr c a s Q:=by
 generalize U:eJ P kt pr n c a s=q at h k;obtain _|⟨e',a',s'⟩:=q
 ·cases h
 ·cases h;exact⟨n,_,_,_,U,k⟩
theorem EO.fR(args:Aq)(hw:Region.wanted o (bB ops a)=true)(a2:o.op=.call cl)(a0:cl.callee=.value (.func g))(a1:jh P (.func g)=false)(U:(#[]++cl.args.map a.at++#[]:Aq)=args)(h:EF P kt pr g args s v s1)(k:EO P kt pr ops rest (a.put o.dst v) s1 K):EO P kt pr ops (o::rest) a s K :=
 EO.call hw a2 a0 a1 rfl U h k
theorem ET.fR(args:Aq)(hw:Region.wanted o (bB ops a)=true)(a2:o.op=.call cl)(a0:cl.callee=.value (.func g))(a1:jh P (.func g)=false)(U:(#[]++cl.args.map a.at++#[]:Aq)=args)(h:EF P kt pr g args s v s1)(k:ET P kt pr ops rest (a.put o.dst v) s1 (fun tr=>KT ((a,v,s1)::tr))):ET P kt pr ops (o::rest) a s KT :=
 ET.call hw a2 a0 a1 rfl U h k
theorem EO.gm(s':AS)(h:s=s')(k:EO P kt pr ops rest a s' K):EO P kt pr ops rest a s K:=h▸k
theorem EW.gm(s':AS)(h:s=s')(k:EW P kt pr c a s' Q):EW P kt pr c a s Q:=h▸k
theorem EW.fill(f:(Nq)→TL)(h:a=f (fun i=>a.getD i undef))(k:∀x,EW P kt pr c (f x) s Q):EW P kt pr c a s Q:=h▸k _
theorem EW.eD(I:Nat→TL→AS→Prop)(h:∀m a s,I m a s→EW P kt pr c a s (fun e U s'=>match e with|.normal=>∃m',m'<m∧I m' U s'|e=>Q e U s')):∀m a s,I m a s→EW P kt pr (.loop c) a s Q:=by
 intro m;induction m using Nat.strongRecOn with
 | _ m ih =>
  intro a s hI;refine EW.loop (EW.mono (h m a s hI) fun e U s' q=>?_);unfold uP;cases e with
  | normal=>obtain⟨m',hm,a0⟩:=q; exact ih m' hm U s' a0
  | _=>exact q
end
section
variable {ι:Type}{P:Program}{KT:TypeId→Prop}{An:bC}{N0:ι→Nat}{M:ι→World→Nat→Prop}{O:ι→Nat→Prop}{R:ι→Wq}{D:ι→World→World→Array Event→Prop}{X:ι→Gq}{Hd:ι→Hq→World→Prop}{pr:Prim}{kt:TypeId→Bool}
def lY(f:FuncId)(V:Array Value→Option Value)(pr:Prim):Prim:=fun g=>if g.beq f then some fun args s=>match V args with
 | some v=>some (v,s)
 | none=>none
 else pr g
theorem ck.add(Y : Cy P KT N0 M O R D X Hd)(hm : P.follows .mixedOrders = true)(Ao : ∀ t, kt t = false → ¬ KT t)(mU : ∀ (f : FuncId) (aJ : Func), P.funcs[f]? = some aJ → (aJ.name == "runtime.NumGoroutine") = false)(Ak : ∀ b, k ≤ b → An b = none)(hp : ck P KT An R D X Hd pr){V : Array Value → Option Value}(hV : ∀ args v, V args = some v → args.toList.all (fC m) = true ∧ fC m v = true ∧ ∃ s1, EF P kt pr f args ⟨[], k⟩ v s1) : ck P KT An R D X Hd (lY f V pr) := by
 constructor
 ·intro g h args s v s' hf hh;unfold lY at hf;split at hf
  ·cases hf;simp only at hh;split at hh
   ·cases hh; exact Nat.le_refl _
   ·cases hh
  ·exact hp.nx g h args s v s' hf hh
 ·intro g h args s v s' hf hh;unfold lY at hf;split at hf
  ·next he =>
   have he:=Nat.eq_of_beq_eq_true he;subst he;cases hf;simp only at hh;split at hh
   ·next v' hv =>cases hh;obtain⟨h1,h2,s1,n,h3⟩:=hV _ _ hv;exact Sound.alone Y Ak h1 h2 ((gH Y hm Ao hp mU n).2 _ _ _ _ _ h3)
   ·cases hh
  ·exact hp.sound g h args s v s' hf hh
end
abbrev str(l:List UInt8):Value:=.string ⟨l.toArray⟩
abbrev num(n:Int):Value:=.int .i64 n
theorem oy(l:List α):iB l 0=l.length:=by rw[iO,Nat.zero_add]
theorem y9(h : -2000000000≤r∧r≤2000000000):jG .i64 r=r:=by unfold jG; simp only; rw[if_pos h]
theorem rD{c:Nat}{k:IntKind}(h:0≤j)(U:j≤c):bF n c none (some (.int k j))=some (0,j.toNat):=by unfold bF; simp only; rw[if_pos ⟨h,U⟩]
theorem lB{c:Nat}{k:IntKind}(h:0≤i)(U:i≤n):bF n c (some (.int k i)) none=some (i.toNat,n):=by unfold bF; simp only; rw[if_pos ⟨h,U⟩]
theorem w8{c:Nat}{k k':IntKind}(h:0≤i)(h1:i≤j)(U:j≤c):bF n c (some (.int k i)) (some (.int k' j))=some (i.toNat,j.toNat):=by unfold bF; simp only; rw[if_pos ⟨by omega,U⟩,if_pos ⟨h,h1⟩]
section
variable {P:Program}{kt:TypeId→Bool}{pr:Prim}{c:fj}{a:TL}{s:AS}{Q:Exit→TL→AS→Prop}{K:TL→AS→Prop}{KT:List (TL × Value × AS)→Prop}{ops:Array Oper}{o:Oper}{rest:List Oper}{v:Value}{s1:AS}
theorem dP(hn:eV o.op=false)(hk:match o.op with|.load _ _|.store _ _ _|.slice _ _ _ _ _|.next _ _|.call _=>False|_=>True)(h:bQ P a o=some v):bK P kt c a o s=some (v,s):=by
 unfold bK;rw[if_neg (by rw[hn]; simp)];cases U:o.op with
 | load _ _=>rw[U] at hk; exact hk.elim
 | store _ _ _=>rw[U] at hk; exact hk.elim
 | slice _ _ _ _ _=>rw[U] at hk; exact hk.elim
 | next _ _=>rw[U] at hk; exact hk.elim
 | call _=>rw[U] at hk; exact hk.elim
 | _=>simp only[h]
theorem vZ{i j:Nat}(U:o.op=.slice t x lo hi none)(ht:P.underlying t=some .string)(hx:a.at x=str l)(hb:bF l.length l.length (lo.map a.at) (hi.map a.at)=some (i,j)):bK P kt c a o s=some (str ((l.take j).drop i),s):=by
 have e:fP P t (a.at x) (lo.map a.at) (hi.map a.at) ((none:Option Operand).map a.at) s=some (str ((l.take j).drop i)):=by
  unfold fP;rw[ht,hx];show(match bF (iB l 0) (iB l 0) (lo.map a.at) (hi.map a.at) with
   | some (l',h)=>some (Value.string ⟨((l.take h).drop l').toArray⟩)
   | none=>none)=_;rw[oy,hb]
 unfold bK;rw[if_neg (by rw[U]; simp[eV]),U];simp only;rw[e]
theorem mG{z}(U:o.op=.binOp .add t x y z)(hx:a.at x=num i)(hy:a.at y=num j)(hr:i+j=r)(hs : -2000000000≤r∧r≤2000000000):bK P kt c a o s=some (num r,s):=by refine dP (by rw[U]; rfl) (by rw[U]; trivial) ?_;unfold bQ;rw[U];simp only;rw[hx,hy];unfold cX;simp only[if_pos];rw[hr,y9 hs]
theorem Cl{z}{m:Bq}(U:o.op=.binOp .add t x y z)(hx:a.at x=str l)(hy:a.at y=str m)(hs:l.length+m.length≤1000000000):bK P kt c a o s=some (str (l++m),s):=by refine dP (by rw[U]; rfl) (by rw[U]; trivial) ?_;unfold bQ;rw[U];simp only;rw[hx,hy];unfold cX;simp only;rw[show iB l.toArray.toList 0=l.length from oy l,show iB m.toArray.toList 0=m.length from oy m,if_pos hs]
theorem pW{i:Operand}{k:IntKind}{n:Int}{b:UInt8}(U:o.op=.index t x i)(ht:P.underlying t=some .string)(hx:a.at x=str l)(hi:a.at i=.int k n)(hn:0≤n)(hb:l[n.toNat]?=some b):bK P kt c a o s=some (.int .u8 b.toNat,s):=by refine dP (by rw[U]; rfl) (by rw[U]; trivial) ?_;unfold bQ;rw[U];simp only;rw[ht,hx,hi];simp only;rw[if_pos hn,show l.toArray.toList[n.toNat]?=some b from hb]
theorem Cn{i:Operand}{sp:Option Nat}{k:IntKind}(U:o.op=.indexAddr t x i)(ht:P.underlying t=some (.slice e))(a0:bI P e=some sz)(hx:a.at x=.slice (some ⟨b,off,sp⟩) n cp)(hi:a.at i=.int k j)(h0:0≤j)(h1:j<n):bK P kt c a o s=some (am b (off+j.toNat*sz),s):=by refine dP (by rw[U]; rfl) (by rw[U]; trivial) ?_;unfold bQ;rw[U];simp only;rw[ht,hx,hi];simp only;rw[a0];simp only;rw[if_pos ⟨h0,h1⟩]
theorem bO(U:o.op=.load t x)(ht:P.underlying t=some d)(hd:d.isRow=false)(hx:a.at x=am b off)(hs:s.get b=some (.cells cs ty fz))(hv:cs[off]?=some v):bK P kt c a o s=some (v,s):=by unfold bK;rw[if_neg (by rw[U]; simp[eV]),U];simp only;unfold aE;rw[hx];simp only[am,hs,ht,hd,hv,if_false,Bool.false_eq_true]
theorem ir(U:o.op=.store t x y)(hx:a.at x=am b off)(hy:a.at y=w)(hc:w.cells=#[w])(ho:w.oneCell'=true)(a0:bI P t=some 1)(hs:s.get b=some (.cells cs ty fz))(hl:off+1≤cs.size):bK P kt c a o s=some (undef,s.set b (some (.cells (putAt cs off [w]) ty fz))):=by unfold bK;rw[if_neg (by rw[U]; simp[eV]),U];simp only;unfold iM;rw[hx,hy];simp only[am,hs,hc];rw[if_pos ⟨a0,by simpa using hl,by simp[ho]⟩]
theorem EO.fin(n:Nat)(h:Tl (cD P kt (br P kt pr n) ops rest a s)=true)(k:K (oA (cD P kt (br P kt pr n) ops rest a s)) (oS (cD P kt (br P kt pr n) ops rest a s))):EO P kt pr ops rest a s K:=by
 generalize hq:cD P kt (br P kt pr n) ops rest a s=q at h k;obtain _|⟨U,s'⟩:=q
 ·cases h
 ·exact⟨n,U,s',hq,k⟩
end
theorem EF.one(h:EF P kt pr f args s v s1)(U:EF P kt pr f args s w s2):v=w∧s1=s2:=by obtain⟨n,h⟩:=h;obtain⟨m,U⟩:=U;have e1:=gq (P:=P) (kt:=kt) (pr:=pr) (Nat.le_max_left n m) _ _ _ _ h;have e2:=gq (P:=P) (kt:=kt) (pr:=pr) (Nat.le_max_right n m) _ _ _ _ U;rw[e1] at e2;cases e2;exact⟨rfl,rfl⟩
def Ob (V:Array Value→Option Value)(args:Array Value)(s:AS):Option (Value × AS):=match V args with
 | some v=>some (v,s)
 | none=>none
def g9 (f:FuncId)(V:Array Value→Option Value)(pr:Prim):Prim:=fun g=>if g.beq f then some (Ob V) else pr g
theorem EF.al{V:Aq→Option Value}(hp:pr f=some (Ob V))(U:V args=some v):EF P kt pr f args s v s:=EF.qN hp (by unfold Ob; rw[U])
def Xz:Option (Value × AS)→Bool
 | some _=>true
 | none=>false
def qV:Option (Value × AS)→Value
 | some (v,_)=>v
 | none=>undef
def qS:Option (Value × AS)→AS
 | some (_,s)=>s
 | none=>⟨[],0⟩
section
variable {P:Program}{kt:TypeId→Bool}{pr:Prim}{c:fj}{a:TL}{s:AS}{Q:Exit→TL→AS→Prop}{K:TL→AS→Prop}{KT:List (TL × Value × AS)→Prop}{ops:Array Oper}{o:Oper}{rest:List Oper}{v:Value}{s1:AS}
theorem ET.q(hw:Region.wanted o (bB ops a)=true)(h:Xz (bK P kt (fun _ _ _=>none) a o s)=true)(k:ET P kt pr ops rest (a.put o.dst (qV (bK P kt (fun _ _ _=>none) a o s))) (qS (bK P kt (fun _ _ _=>none) a o s)) (fun tr=>KT ((a,qV (bK P kt (fun _ _ _=>none) a o s),qS (bK P kt (fun _ _ _=>none) a o s))::tr))):ET P kt pr ops (o::rest) a s KT:=by
 generalize U:bK P kt (fun _ _ _=>none) a o s=q at h k;obtain _|⟨v,s'⟩:=q
 ·cases h
 ·exact ET.op hw U k
theorem EO.q(hw:Region.wanted o (bB ops a)=true)(h:Xz (bK P kt (fun _ _ _=>none) a o s)=true)(k:EO P kt pr ops rest (a.put o.dst (qV (bK P kt (fun _ _ _=>none) a o s))) (qS (bK P kt (fun _ _ _=>none) a o s)) K):EO P kt pr ops (o::rest) a s K:=by
 generalize U:bK P kt (fun _ _ _=>none) a o s=q at h k;obtain _|⟨v,s'⟩:=q
 ·cases h
 ·exact EO.op hw U k
theorem ET.gm(s':AS)(h:s=s')(k:ET P kt pr ops rest a s' KT):ET P kt pr ops rest a s KT:=h▸k
theorem dt{op:BinOp}{z}{u:Value}(U:o.op=.binOp op t x y z)(hx:a.at x=u)(hy:a.at y=w)(h:cX op u w=some v):bK P kt c a o s=some (v,s):=by refine dP (by rw[U]; rfl) (by rw[U]; trivial) ?_;unfold bQ;rw[U];simp only;rw[hx,hy,h]
theorem dl(U:o.op=.call { callee:=.builtin .len,args:=#[x],argTypes:=#[t] })(ht:P.underlying t=some .string)(hx:a.at x=str l):bK P kt c a o s=some (num l.length,s):=by
 have e:bQ P a o=some (num l.length):=by unfold bQ;rw[U];simp only;rw[ht,hx];show some (goInt (iB l 0))=_;rw[oy];rfl
 unfold bK;rw[if_neg (by rw[U]; simp[eV]),U];simp only;rw[e]
theorem kK{m:Bq}{i j:Nat}(U:o.op=.slice t x lo hi none)(ht:P.underlying t=some .string)(hx:a.at x=str l)(hb:bF l.length l.length (lo.map a.at) (hi.map a.at)=some (i,j))(hm:(l.take j).drop i=m):bK P kt c a o s=some (str m,s):=by rw[vZ U ht hx hb,hm]
theorem iI{b:Bool}(h:decide (i≥j)=b):cX .geq (num i) (num j)=some (.bool b):=by unfold cX; simp only[if_pos]; rw[h]
theorem iJ{b:Bool}(h:decide (i>j)=b):cX .gtr (num i) (num j)=some (.bool b):=by unfold cX; simp only[if_pos]; rw[h]
theorem bD{b:Bool}(h:decide (i<j)=b):cX .lss (num i) (num j)=some (.bool b):=by unfold cX; simp only[if_pos]; rw[h]
theorem iH{b:Bool}(h:(i==j)=b):cX .eql (num i) (num j)=some (.bool b):=by unfold cX; simp only[if_pos]; rw[h]
theorem Bz{m:Bq}{b:Bool}(h:cJ l m=b):cX .eql (str l) (str m)=some (.bool b):=by unfold cX; simp only; rw[h]
end
theorem ga(l m:Bq):cJ l m=true↔l=m:=by
 constructor
 ·intro h;induction l generalizing m with
  | nil=>cases m with
   | nil=>rfl
   | cons y m=>simp[cJ] at h
  | cons x l U=>cases m with
   | nil=>simp[cJ] at h
   | cons y m =>
    unfold cJ at h;split at h
    ·next e=>rw[UInt8.toNat_inj.1 (Nat.eq_of_beq_eq_true e),U m h]
    ·cases h
 ·rintro rfl;induction l with
  | nil=>rfl
  | cons x l U=>unfold cJ; simp[U]
theorem iG{m:Bq}(h:l≠m):cJ l m=false:=by
 cases U:cJ l m with
 | false=>rfl
 | true=>exact absurd ((ga l m).1 U) h
def aU:Nat→Value→Bool
 | 0,_=>false
 | n+1,v=>match v with
  | .bool _|.int _ _|.string _|.pointer _|.slice _ _ _|.nilFunc|.nilIface=>true
  | .func _ x y=>x.toList.all (aU n)&&y.toList.all (aU n)
  | .agg x=>x.toList.all (aU n)
  | _=>false
theorem pf{p:α × α→Bool}:∀{l:List α},(∀x∈l,p (x,x)=true)→(l.zip l).all p=true
 | [],_=>rfl
 | x::l,h=>by rw[List.zip_cons_cons,List.all_cons,h x (by simp),pf fun y U=>h y (by simp[U])];rfl
theorem oW:∀{n:Nat} {v:Value},aU n v=true→na n v v=true
 | 0,v,h=>by simp[aU] at h
 | n+1,v,h=>by
  cases v with
  | bool b=>unfold na; simp
  | int k i=>unfold na; simp
  | string x=>unfold na; exact(ga _ _).2 rfl
  | pointer x=>unfold na; simp
  | slice x l c=>unfold na; simp
  | nilFunc=>unfold na; rfl
  | nilIface=>unfold na; rfl
  | func f x y =>unfold aU at h;simp only[Bool.and_eq_true,List.all_eq_true] at h;unfold na;simp only[beq_self_eq_true,Bool.true_and,Nat.beq_refl];rw[pf fun z U=>oW (h.1 z U),pf fun z U=>oW (h.2 z U)];rfl
  | agg x =>unfold aU at h;simp only[List.all_eq_true] at h;unfold na;simp only[Nat.beq_refl,Bool.true_and];exact pf fun z U=>oW (h z U)
  | _=>simp[aU] at h
def Gu (P:Program)(ops:Array Oper)(q:Nat):List Nat:=(List.range q).filter fun i=>(match ops.toList[i]? with|some o=>kindOf P o|none=>0)==3
def M0(P:Program)(ops:Array Oper)(pF:List Nat)(q:Nat)(tr:List (TL × Value × AS))(s:AS):List (Option Value × Value) :=
 (List.range q).flatMap fun r=>match ops.toList[r]?,tr[r]? with
  | some o,some (a,v,_)=>match o.op with
   | .load t x=>if Region.wanted o (bB ops a) then ((0::(Gu P ops q).map (·+1)).filter fun p=>!((Gu P ops q).any fun e=>(e.blt p&&(pF.getD e 0).testBit r)||(!e.blt p&&(pF.getD r 0).testBit e))).map fun p=>(aE P t (a.at x) (gI tr s p),v) else []
   | _=>[]
  | _,_=>[(none,undef)]
theorem aM{U:List Nat}{q:Nat}{tr:List (TL × Value × AS)}(L:List (Option Value × Value))(hL:M0 P ops U q tr s=L)(h:∀x∈L,x.1=some x.2∧aU 20 x.2=true):oF P ops U q tr s=true:=by
 subst hL;unfold oF;simp only;rw[List.all_eq_true];intro r hr;have dM:∀x,x∈(match ops.toList[r]?,tr[r]? with
  | some o,some (a,v,_)=>match o.op with
   | .load t x=>if Region.wanted o (bB ops a) then ((0::(Gu P ops q).map (·+1)).filter fun p=>!((Gu P ops q).any fun e=>(e.blt p&&(U.getD e 0).testBit r)||(!e.blt p&&(U.getD r 0).testBit e))).map fun p=>(aE P t (a.at x) (gI tr s p),v) else []
   | _=>[]
  | _,_=>[(none,undef)]:List (Option Value × Value))→x.1=some x.2∧aU 20 x.2=true:=fun x hx=>h x (List.mem_flatMap.2 ⟨r,hr,hx⟩);cases ho:ops.toList[r]? with
 | none=>rw[ho] at dM; exact absurd (dM (none,undef) (by simp)).1 (by simp)
 | some o =>
  cases ht:tr[r]? with
  | none=>rw[ho,ht] at dM; exact absurd (dM (none,undef) (by simp)).1 (by simp)
  | some z =>
   obtain⟨a,v,s'⟩:=z;rw[ho,ht] at dM;simp only at dM ⊢;cases eI:o.op with
   | load t x =>
    rw[eI] at dM;simp only at dM ⊢;rw[List.all_eq_true];intro p hp;by_cases hw:Region.wanted o (bB ops a)=true
    ·rw[if_pos hw] at dM;by_cases he:((Gu P ops q).any fun e=>(e.blt p&&(U.getD e 0).testBit r)||(!e.blt p&&(U.getD r 0).testBit e))=true
     ·rw[Bool.or_eq_true,Bool.or_eq_true];exact .inl (.inl he)
     ·have hm:=dM (aE P t (a.at x) (gI tr s p),v) (List.mem_map.2 ⟨p,List.mem_filter.2 ⟨hp,by simpa using he⟩,rfl⟩);simp only at hm;rw[hm.1];simp only[oW hm.2,Bool.or_true,Bool.true_or]
    ·simp only[Bool.not_eq_true] at hw;rw[hw];simp
   | _=>rfl
theorem gF{k:IntKind}{b:Bool}(h:(i==j)=b):cX .eql (.int k i) (.int k j)=some (.bool b):=by unfold cX; simp only[if_pos]; rw[h]
theorem bG{f:(Nq)→TL}{a:TL}(h:a=f (fun j=>a.getD j undef)):∃x,a=f x:=⟨_,h⟩
section
variable {P:Program}{kt:TypeId→Bool}{pr:Prim}{c:fj}{a:TL}{s s':AS}{o:Oper}{v:Value}
theorem g8{r:Aq}(U:o.op=.load t x)(ht:P.underlying t=some d)(hd:d.isRow=true)(a0:bI P t=some n)(hx:a.at x=am b off)(hs:s.get b=some (.cells cs ty fz))(hl:off+n≤cs.size)(hr:(cs.toList.drop off |>.take n).toArray=r):bK P kt c a o s=some (.agg r,s):=by unfold bK;rw[if_neg (by rw[U]; simp[eV]),U];simp only;unfold aE;rw[hx];simp only[am,hs,ht,hd,a0,if_true];rw[if_pos hl,hr]
theorem pV(U:o.op=.convert t u x)(hq:bQ P a o=none)(h:fq P t u (a.at x) s=some v):bK P kt c a o s=some (v,s):=by unfold bK;rw[if_neg (by rw[U]; simp[eV])];rw[U];simp only;rw[hq];simp only;rw[h]
theorem Pm{x:Value}(hx:x=am b 0)(ht:P.underlying t=some (.pointer e))(hu:P.underlying u=some .unsafePointer)(hs:s.get b=some (.cells cs ty fz))(hz:bI P e=some (k+1))(U:0<cs.size):fq P t u x s=some (am b 0):=by subst hx;unfold fq;rw[ht,hu];simp only[am];rw[hs,hz];simp only;rw[if_pos U]
theorem Pn{x:Value}(hx:x=am b 0)(ht:P.underlying t=some .unsafePointer)(hu:P.underlying u=some (.pointer e))(hs:s.get b=some (.cells cs ty (0,0)))(hz:bI P e=some (k+1))(U:liesAt P P.depth ty (cs.size / P.cellsOf ty) 0 e 1=true):fq P t u x s=some (am b 0):=by subst hx;unfold fq;rw[ht,hu];simp only[am];rw[hs,hz];simp only;rw[if_pos U]
theorem JV{z}(U:o.op=.binOp .neq t x y z)(hx:a.at x=am b 0)(hy:a.at y=am b 0)(ht:P.underlying t=some (.pointer e))(hz:bI P e=some (k+1)):bK P kt c a o s=some (.bool false,s):=by
 refine dP (by rw[U]; rfl) (by rw[U]; trivial) ?_;unfold bQ;rw[U];simp only;rw[hx,hy];have h1:cX .neq (am b 0) (am b 0)=none:=rfl;have h2:lC P .neq t (am b 0) (am b 0)=some (.bool false):=by unfold lC;simp only[am,ht];rw[hz];simp
 rw[h1,h2]
theorem rj{m:Bq}(U:o.op=.call { callee:=.builtin .append,args:=#[x,y],argTypes:=#[t,t'] })(hx:a.at x=sl)(hy:a.at y=str m)(ht:P.underlying t=some (.slice e))(a1:P.underlying t'=some .string)(hi:(P.info? e).map (fun i=>(i.zero,i.size,i.bytes))=some (some (Value.int .u8 0),1,1))(a0:kt e=false)(hm:m.length≤1000000000)(hp:fG sl=true)(h:aZ P e sl (strCells ⟨m.toArray⟩) m.length s=some (v,s')):bK P kt c a o s=some (v,s'):=by
 have hq:bQ P a o=none:=by unfold bQ;rw[U]
 unfold bK;rw[if_neg (by rw[U]; simp[eV])];rw[U];simp only;rw[hq];simp only[List.map_cons,List.map_nil];rw[hx,hy];unfold eB;simp only;rw[ht,a1];simp only;rw[hi];simp only;rw[if_pos ⟨by show m.toArray.size≤_; simpa using hm,a0,hp⟩];show aZ P e sl (strCells ⟨m.toArray⟩) m.toArray.size s=_;rw[List.size_toArray];exact h
theorem qc(h:sl=.slice none 0 0∨∃d n k,sl=.slice (sq d) n k):aZ P e sl news 0 s=some (sl,s):=by
 rcases h with rfl|⟨d,n,k,rfl⟩
 ·rfl
 ·rfl
theorem fZ(h:m≠0):aZ P e (.slice none 0 0) news m s=some (.slice (sq s.nx) m m,s.add (.cells news.toArray e (1,1))):=by unfold aZ;simp only;rw[if_neg h]
theorem fM{d:Nat}(h:m≠0)(hs:s.get d=some (.cells cs e fz))(hz:bI P e=some sz)(hn:n*sz≤cs.size)(U:n+m≤1000000000):aZ P e (.slice (sq d) n k) news m s=some (.slice (sq s.nx) (n+m) (n+m),(s.set d none).add (.cells (cs.toList.take (n*sz)++news).toArray e (1,1))):=by unfold aZ;simp only;rw[if_neg h,hs,hz];simp only;rw[if_pos ⟨trivial,hn,U⟩]
theorem ua:∀(l:Bq),jy (l.map fun b=>Value.int .u8 b.toNat)=some l
 | []=>rfl
 | b::l=>by rw[List.map_cons];unfold jy;have h:=b.toNat_lt;rw[if_pos ⟨by omega,by omega⟩,ua l];simp
theorem v5{d:Nat}(U:o.op=.call { callee:=.builtin .unsafeString,args:=#[x,y],argTypes:=#[pt,t'] })(hx:a.at x=am d 0)(hy:a.at y=num l.length)(ht:P.underlying pt=some (.pointer e))(hs:s.get d=some (.cells (strCells ⟨l.toArray⟩).toArray e fz))(hc:P.cellsOf e=1)(h0:0<l.length)(h1:l.length≤1000000000):bK P kt c a o s=some (str l,s.set d none):=by
 have hq:bQ P a o=none:=by unfold bQ;rw[U];simp only;unfold rP;rw[U];rw[if_neg];intro hh;have:((Op.call { callee:=.builtin .unsafeString,args:=#[x,y],argTypes:=#[pt,t'] }).operands.toList.all fun x=>rX (a.at x))=(rX (a.at x)&&(rX (a.at y)&&true)):=rfl;rw[this,hx] at hh;simp[rX,dT,am] at hh
 have a0:(strCells ⟨l.toArray⟩).toArray.size=l.length:=by simp[strCells]
 unfold bK;rw[if_neg (by rw[U]; simp[eV])];rw[U];simp only;rw[hq];simp only[List.map_cons,List.map_nil];rw[hx,hy];unfold eB;simp only[am];rw[ht,hs];simp only;rw[if_pos ⟨hc,trivial,by omega,by omega,by rw[a0]; simp⟩];have:(List.take ((l.length:Int)).toNat (strCells ⟨l.toArray⟩).toArray.toList)=l.map fun b=>Value.int .u8 b.toNat:=by rw[Int.toNat_natCast];show List.take l.length (l.map fun b=>Value.int .u8 b.toNat)=_;rw[List.take_of_length_le (by simp)]
 rw[this,ua]
end
def oR (all:List Int)(a b:Nat):List UInt8:=bw ((all.drop a).take (b-a))
def Pf (p u:Value):Obj:=.cells #[p,u] 119
section
variable {ι:Type}{R:ι→Wq}{D:ι→World→World→Array Event→Prop}{X:ι→Gq}{i:ι}{M:World→Nat→Prop}{O:Nat→Prop}{N0:Nat}{w:World}{Bb Rb at_:Nat}{p u v lv:Value}{n:Nat}{xs:Vq}{rl:Hq}
theorem eu(x:Option Addr)(n c:Nat)(w:World)(es:Array Event):(Builtin.len_ #[55] 3 #[.slice x n c]).events prog w es=es:=by simp[Builtin.len_,go_sem]
end
theorem er(x:Option Addr)(n c:Nat)(w:World)(es:Array Event):(Builtin.cap_ #[55] 3 #[.slice x n c]).events prog w es=es:=by simp[Builtin.cap_,go_sem]
theorem fU(x:Option Addr)(n c:Nat)(w:World)(es:Array Event):(Instr.sliceAt 55 (.slice x n c) none (some (.int .i64 0)) none).events prog w es=es:=by
 have hi:(prog.info? 5).isSome=true:=by kernel_rfl
 obtain⟨U,hi⟩:=Option.isSome_iff_exists.1 hi;simp[Instr.sliceAt,Instr.slice,Instr.sliceBounds,Instr.sliceBound,underlying,underlying55,asIntOf,sizeOf,typeInfo,hi]
theorem dB(x:Option Addr)(c:Nat)(w:World)(es:Array Event):(Builtin.copy_ #[55,55] 3 #[.slice x 0 c,.slice none 0 0]).events prog w es=es:=by
 have hi:(prog.info? 5).isSome=true:=by kernel_rfl
 obtain⟨U,hi⟩:=Option.isSome_iff_exists.1 hi;cases x<;>simp[Builtin.copy_,underlying,underlying55,sizeOf,typeInfo,hi,Builtin.lenOf,Builtin.firstCells,storeCells,loadCells,loadCellsFrom]
theorem Ae(w:World)(ps:Array TypeId)(t e:TypeId)(ht:P.underlying t=some (.slice e))(n:Nat)(hn:n≤281474976710656)(es:Array Event):∃evs,(Extern.BytealgMakeNoZero.makeNoZero ps #[t] #[.int .i64 n]).events P w es=es++evs∧∀ev∈evs,ev=⟨.mark .noRoom,false,true⟩:=by
 have U:Extern.BytealgMakeNoZero.makeNoZero ps #[t] #[.int .i64 n] =
   (do
    let .slice elem ← underlying t|stuck _
    if (n:Int)<0||(n:Int)>2 ^ 48 then runtimePanic (.error _)
    let cap ← choose (.appendCap (n:Int).toNat 0 elem)
    askRoom cap
    let bytes ← choose (.extern _ 0)
    let a ← newRow elem (Extern.BytealgMakeNoZero.digits cap bytes #[])
    pure (.slice (some a) (n:Int).toNat cap)):=rfl;have h1:¬(n:Int)<0:=by omega
 have h2:¬(281474976710656:Int)<(n:Int):=by omega
 by_cases hB:grownCap w n 0 e>roomBytes
 ·refine⟨#[⟨.mark .noRoom,false,true⟩],?_,by simp⟩;rw[U];simp[run_underlying ht,h1,h2,Question.forced,newRow,askRoom,underlying,ht];simpa[grownCap] using hB
 ·refine⟨#[],?_,by simp⟩;rw[U];simp[run_underlying ht,h1,h2,Question.forced,newRow,askRoom,underlying,ht];simpa[grownCap] using hB
section
variable {ι:Type}{R:ι→Wq}{D:ι→World→World→Array Event→Prop}{X:ι→Gq}{i:ι}{M:World→Nat→Prop}{O:Nat→Prop}{N0:Nat}{H:Hq→World→Prop}{w:World}{l rl:Hq}{Bb:Nat}{p v:Value}{n:Nat}{xs:Vq}
variable {fn:FuncId}{Q:dK ι}{a:Act}{vs:ι}
theorem DW(C:aV prog true R D X)(Z:Co eS N0 M O (R vs) (D vs) H){i:Nat}{rest:List Nat}{o:Oper}{ats:Array TypeId}{z:Int}(n:Nat)(hn:n≤1000000000)(ho:ops[i]?=some o)(hw:Region.wanted o (yielded ops a.tmps)=true)(a1:o.op=.call { callee:=.value (.func 378),args:=#[x],argTypes:=ats })(hx:a.eval x=.int .i64 z)(hz:z=(n:Int))(hF:H l w)
 (h:∀b cs w',n≤cs.size→cs.size≤maxLen→H ((b,.cells cs 5)::l) w'→bU X fn ops rest vs Q (a.put o.dst (.slice (sq b) n cs.size)) w'):bU X fn ops (i::rest) vs Q a w:=fun b k cs a0 hk hc=>C.step rfl fun aB aF=>by
 subst hz;have U:=Z.rely hF aF;have ui:H l aB.drew.drew:=Z.rely (Z.rely U (Z.env.tR _)) (Z.env.tR _);obtain⟨gU,dZ,h1,h2,_⟩:=Lib.run_makeNoZero_cap (P:=prog) aB #[3] 55 5 underlying55 n (by omega);obtain⟨evs,ju,P8⟩:=Ae (P:=prog) aB #[3] 55 5 underlying55 n (by omega) #[⟨.mark (.extern 378),false,true⟩];have uj:(#[x]:Array Operand).map a.eval=#[.int .i64 (n:Int)]:=by simp[hx]
 rw[stepG_entry ho hw hk a1 func378 (by rfl) (by rfl) (by kernel_rfl) (e:=Extern.BytealgMakeNoZero.makeNoZero #[3] #[55]) (by kernel_rfl) (by rw[uj]; exact dZ) (evs:=evs) (by rw[uj]; exact ju) (fun y hy=>by rw[P8 y hy]; simp)];have hO:Own eS M aB.drew.drew (aB.drew.drew.alloc (.cells gU 5)):=Own.alloc (by simp[eS]);have hO':Own eS M aB (aB.drew.drew.alloc (.cells gU 5)):=⟨hO.tape,hO.os,hO.output,hO.grow,fun b hb hm=>heap_alloc_old aB.drew.drew _ b hb,fun b o' hh hk=>(hO.kt b o' hh hk)⟩;refine⟨Z.env.jr (Z.size U) hO' fun ev hl=>?_,h _ gU _ h1 (h2 (by unfold maxLen; omega)) (Z.grown ui hO) b k cs a0 hk hc⟩;rw[P8 ev hl];exact .inr (.inr ⟨by simp[MemAct.ofEvent,MemAct.touch?],by simp,by simp,by simp[MemAct.ofEvent]⟩)
end
section
variable {ι:Type}{R:ι→Wq}{D:ι→World→World→Array Event→Prop}{X:ι→Gq}{i:ι}{M:World→Nat→Prop}{O:Nat→Prop}{N0:Nat}{H:Hq→World→Prop}{w:World}{l rl:Hq}{Bb:Nat}{p v:Value}{n:Nat}{xs:Vq}
theorem Md(C:aV prog true R D X)(T:∀i,Terms (R i) (D i))(Z:Co eS N0 M O (R i) (D i) H)(n:Nat)(hn:n≤1000000000)(hF:H ((Bb,Pf p (.slice none 0 0))::l) w) :
  ew prog X 344 #[.pointer (sq Bb),.int .i64 (n:Int)] i w (fun i' x w'=>i'=i∧x=.tuple #[]∧∃g cs,n≤cs.size∧cs.size≤maxLen∧H ((g,.cells cs 5)::(Bb,Pf p (.slice (sq g) 0 cs.size))::l) w'):=by
 have a6:IntKind.i64.wrap (n:Int)=(n:Int):=by rw[IntKind.wrap_i64]; omega
 have a5:IntKind.i64.wrap 0=0:=by decide
 refine gn func344 (by rfl) rfl ?_;simp only[ntmps344,List.size_toArray,List.length_cons,List.length_nil,Nat.reduceAdd,Nat.reduceSub,Array.replicate_succ,Array.replicate_zero,List.push_toArray,List.append_toArray,List.nil_append,List.cons_append];refine bS C T ?_;refine lg C Z.env.BD (by kernel_rfl) (n:=16) rfl (by kernel_rfl) (fun J a2 a' w'=>a2=i∧∃(g:Nat) (cs:Aq),H ((Bb,Pf p (.slice none 0 0))::(if J 8=true then (g,.cells cs 5)::l else l)) w'∧(J 8=true→n≤cs.size∧cs.size≤maxLen)∧((J 14=true→J 8=true))∧((J 15=true→J 8=true))∧a'=⟨#[.pointer (sq Bb),.int .i64 (n:Int),undef,undef,(if J 15=true then .slice (sq g) 0 cs.size else undef),(if J 0=true then .pointer (sq Bb) else undef),(if J 1=true then .pointer (sq Bb) else undef),(if J 2=true then .pointer (some ⟨Bb,1,none⟩) else undef),(if J 3=true then .slice none 0 0 else undef),(if J 4=true then .int .i64 0 else undef),(if J 5=true then .int .i64 0 else undef),(if J 6=true then .int .i64 (n:Int) else undef),(if J 7=true then .int .i64 (n:Int) else undef),(if J 8=true then .slice (sq g) n cs.size else undef),(if J 9=true then .pointer (sq Bb) else undef),(if J 10=true then .pointer (sq Bb) else undef),(if J 11=true then .pointer (some ⟨Bb,1,none⟩) else undef),(if J 12=true then .slice none 0 0 else undef),(if J 13=true then .int .i64 0 else undef),(if J 14=true then .slice (sq g) 0 cs.size else undef),undef,undef,undef,undef,undef,undef,undef,undef,undef,undef],[]⟩) (fun aB hR=>⟨rfl,0,#[],?_,by simp,by simp,by simp,rfl⟩) ?_ ?_ ?_
 ·simpa using Z.rely (Z.rely hF hR) (Z.env.tR _)
 ·rintro J J' a2 a' w' hJ ⟨rfl,g,cs,hF,hC,a0,a1,rfl⟩;simp only[hJ 0 (by decide),hJ 1 (by decide),hJ 2 (by decide),hJ 3 (by decide),hJ 4 (by decide),hJ 5 (by decide),hJ 6 (by decide),hJ 7 (by decide),hJ 8 (by decide),hJ 9 (by decide),hJ 10 (by decide),hJ 11 (by decide),hJ 12 (by decide),hJ 13 (by decide),hJ 14 (by decide),hJ 15 (by decide)] at hF hC a0 a1;refine⟨rfl,g,cs,hF,hC,a0,a1,?_⟩;simp only[hJ 0 (by decide),hJ 1 (by decide),hJ 2 (by decide),hJ 3 (by decide),hJ 4 (by decide),hJ 5 (by decide),hJ 6 (by decide),hJ 7 (by decide),hJ 8 (by decide),hJ 9 (by decide),hJ 10 (by decide),hJ 11 (by decide),hJ 12 (by decide),hJ 13 (by decide),hJ 14 (by decide),hJ 15 (by decide)]
 ·rintro J j a2 a' w' ⟨rfl,g,cs,hF,hC,a0,a1,rfl⟩ hj hJ hr rest hK;match j,hj with
  | 0,_ =>
   have hr:=hr _ rfl;simp[Region.binds] at hr;try simp only[hr,if_true,reduceIte]
   refine bu C T rfl (by rfl) fun _ Kx U=>?_;go_simp;refine U _ ?_ (by first|(simp[go_sem]; done)|(simp[go_sem, *]; done)|(simp[go_sem,dE,dF,dG,cU,ft,eu,er,fU,dB, *]; done));clear U Kx;try walk_nrm
   refine hK _ _ _ ⟨rfl,g,cs,by simpa using hF,by first|(simpa using hC; done)|(simp_all; done),by first|(simpa using a0; done)|(simp_all; done),by first|(simpa using a1; done)|(simp_all; done),?_⟩;simp[*]
  | 1,_ =>
   have hr:=hr _ rfl;simp[Region.binds] at hr;try simp only[hr,if_true,reduceIte]
   refine bu C T rfl (by rfl) fun _ Kx U=>?_;go_simp;refine U _ ?_ (by first|(simp[go_sem]; done)|(simp[go_sem, *]; done)|(simp[go_sem,dE,dF,dG,cU,ft,eu,er,fU,dB, *]; done));clear U Kx;try walk_nrm
   refine hK _ _ _ ⟨rfl,g,cs,by simpa using hF,by first|(simpa using hC; done)|(simp_all; done),by first|(simpa using a0; done)|(simp_all; done),by first|(simpa using a1; done)|(simp_all; done),?_⟩;simp[*]
  | 2,_ =>
   have hr:=hr _ rfl;simp[Region.binds] at hr;try simp only[hr,if_true,reduceIte]
   refine bu C T rfl (by rfl) fun _ Kx U=>?_;go_simp;refine U _ ?_ (by first|(simp[go_sem]; done)|(simp[go_sem, *]; done)|(simp[go_sem,dE,dF,dG,cU,ft,eu,er,fU,dB, *]; done));clear U Kx;try walk_nrm
   refine hK _ _ _ ⟨rfl,g,cs,by simpa using hF,by first|(simpa using hC; done)|(simp_all; done),by first|(simpa using a0; done)|(simp_all; done),by first|(simpa using a1; done)|(simp_all; done),?_⟩;simp[*]
  | 3,_ =>
   have hr:=hr _ rfl;simp[Region.binds] at hr;try simp only[hr,if_true,reduceIte]
   refine kL C Z (v:=.slice none 0 0) (b:=Bb) (off:=1) 0 rfl (by rfl) rfl (by simp[Act.eval, *]) underlying55 rfl hF rfl (by rfl) fun _ hF=>?_;try walk_nrm
   refine hK _ _ _ ⟨rfl,g,cs,by simpa using hF,by first|(simpa using hC; done)|(simp_all; done),by first|(simpa using a0; done)|(simp_all; done),by first|(simpa using a1; done)|(simp_all; done),?_⟩;simp[*]
  | 4,_ =>
   have hr:=hr _ rfl;simp[Region.binds] at hr;try simp only[hr,if_true,reduceIte]
   refine bu C T rfl (by rfl) fun _ Kx U=>?_;go_simp;refine U _ ?_ (by first|(simp[go_sem]; done)|(simp[go_sem, *]; done)|(simp[go_sem,dE,dF,dG,cU,ft,eu,er,fU,dB, *]; done));clear U Kx;try walk_nrm
   refine hK _ _ _ ⟨rfl,g,cs,by simpa using hF,by first|(simpa using hC; done)|(simp_all; done),by first|(simpa using a0; done)|(simp_all; done),by first|(simpa using a1; done)|(simp_all; done),?_⟩;simp[*]
  | 5,_ =>
   have hr:=hr _ rfl;simp[Region.binds] at hr;try simp only[hr,if_true,reduceIte]
   refine bu C T rfl (by rfl) fun _ Kx U=>?_;go_simp;refine U _ ?_ (by first|(simp[go_sem]; done)|(simp[go_sem, *]; done)|(simp[go_sem,dE,dF,dG,cU,ft,eu,er,fU,dB, *]; done));clear U Kx;try walk_nrm
   refine hK _ _ _ ⟨rfl,g,cs,by simpa using hF,by first|(simpa using hC; done)|(simp_all; done),by first|(simpa using a0; done)|(simp_all; done),by first|(simpa using a1; done)|(simp_all; done),?_⟩;simp[*]
  | 6,_ =>
   have hr:=hr _ rfl;simp[Region.binds] at hr;try simp only[hr,if_true,reduceIte]
   refine bu C T rfl (by rfl) fun _ Kx U=>?_;go_simp;refine U _ ?_ (by first|(simp[go_sem]; done)|(simp[go_sem, *]; done)|(simp[go_sem,dE,dF,dG,cU,ft,eu,er,fU,dB, *]; done));clear U Kx;try walk_nrm
   refine hK _ _ _ ⟨rfl,g,cs,by simpa using hF,by first|(simpa using hC; done)|(simp_all; done),by first|(simpa using a0; done)|(simp_all; done),by first|(simpa using a1; done)|(simp_all; done),?_⟩;simp[*]
  | 7,_ =>
   have hr:=hr _ rfl;simp[Region.binds] at hr;try simp only[hr,if_true,reduceIte]
   refine bu C T rfl (by rfl) fun _ Kx U=>?_;go_simp;refine U _ ?_ (by first|(simp[go_sem]; done)|(simp[go_sem, *]; done)|(simp[go_sem,dE,dF,dG,cU,ft,eu,er,fU,dB, *]; done));clear U Kx;try walk_nrm
   refine hK _ _ _ ⟨rfl,g,cs,by simpa using hF,by first|(simpa using hC; done)|(simp_all; done),by first|(simpa using a0; done)|(simp_all; done),by first|(simpa using a1; done)|(simp_all; done),?_⟩;simp[*]
  | 8,_ =>
   have hr:=hr _ rfl;simp[Region.binds] at hr;try simp only[hr,if_true,reduceIte]
   have a3:J 14=false:=by cases hq:J 14 with|false=>rfl|true=>rw[a0 hq] at hJ; cases hJ
   have a4:J 15=false:=by cases hq:J 15 with|false=>rfl|true=>rw[a1 hq] at hJ; cases hJ
   simp only[hJ,Bool.false_eq_true,if_false,reduceIte] at hF;refine DW C Z n hn rfl (by rfl) rfl (by simp[Act.eval, *]) rfl hF fun g cs w2 h1 h2 hF=>?_;try walk_nrm
   refine hK _ _ _ ⟨rfl,g,cs,by simpa using Z.perm hF (List.Perm.swap _ _ _),fun _=>⟨h1,h2⟩,by simp[a3],by simp[a4],?_⟩;simp[*]
  | 9,_ =>
   have hr:=hr _ rfl;simp[Region.binds] at hr;try simp only[hr,if_true,reduceIte]
   refine bu C T rfl (by rfl) fun _ Kx U=>?_;go_simp;refine U _ ?_ (by first|(simp[go_sem]; done)|(simp[go_sem, *]; done)|(simp[go_sem,dE,dF,dG,cU,ft,eu,er,fU,dB, *]; done));clear U Kx;try walk_nrm
   refine hK _ _ _ ⟨rfl,g,cs,by simpa using hF,by first|(simpa using hC; done)|(simp_all; done),by first|(simpa using a0; done)|(simp_all; done),by first|(simpa using a1; done)|(simp_all; done),?_⟩;simp[*]
  | 10,_ =>
   have hr:=hr _ rfl;simp[Region.binds] at hr;try simp only[hr,if_true,reduceIte]
   refine bu C T rfl (by rfl) fun _ Kx U=>?_;go_simp;refine U _ ?_ (by first|(simp[go_sem]; done)|(simp[go_sem, *]; done)|(simp[go_sem,dE,dF,dG,cU,ft,eu,er,fU,dB, *]; done));clear U Kx;try walk_nrm
   refine hK _ _ _ ⟨rfl,g,cs,by simpa using hF,by first|(simpa using hC; done)|(simp_all; done),by first|(simpa using a0; done)|(simp_all; done),by first|(simpa using a1; done)|(simp_all; done),?_⟩;simp[*]
  | 11,_ =>
   have hr:=hr _ rfl;simp[Region.binds] at hr;try simp only[hr,if_true,reduceIte]
   refine bu C T rfl (by rfl) fun _ Kx U=>?_;go_simp;refine U _ ?_ (by first|(simp[go_sem]; done)|(simp[go_sem, *]; done)|(simp[go_sem,dE,dF,dG,cU,ft,eu,er,fU,dB, *]; done));clear U Kx;try walk_nrm
   refine hK _ _ _ ⟨rfl,g,cs,by simpa using hF,by first|(simpa using hC; done)|(simp_all; done),by first|(simpa using a0; done)|(simp_all; done),by first|(simpa using a1; done)|(simp_all; done),?_⟩;simp[*]
  | 12,_ =>
   have hr:=hr _ rfl;simp[Region.binds] at hr;try simp only[hr,if_true,reduceIte]
   refine kL C Z (v:=.slice none 0 0) (b:=Bb) (off:=1) 0 rfl (by rfl) rfl (by simp[Act.eval, *]) underlying55 rfl hF rfl (by rfl) fun _ hF=>?_;try walk_nrm
   refine hK _ _ _ ⟨rfl,g,cs,by simpa using hF,by first|(simpa using hC; done)|(simp_all; done),by first|(simpa using a0; done)|(simp_all; done),by first|(simpa using a1; done)|(simp_all; done),?_⟩;simp[*]
  | 13,_ =>
   have hr:=hr _ rfl;simp[Region.binds] at hr;try simp only[hr,if_true,reduceIte]
   refine bu C T rfl (by rfl) fun _ Kx U=>?_;go_simp;refine U _ ?_ (by first|(simp[go_sem]; done)|(simp[go_sem, *]; done)|(simp[go_sem,dE,dF,dG,cU,ft,eu,er,fU,dB, *]; done));clear U Kx;try walk_nrm
   refine hK _ _ _ ⟨rfl,g,cs,by simpa using hF,by first|(simpa using hC; done)|(simp_all; done),by first|(simpa using a0; done)|(simp_all; done),by first|(simpa using a1; done)|(simp_all; done),?_⟩;simp[*]
  | 14,_ =>
   have hr:=hr _ rfl;simp[Region.binds] at hr;try simp only[hr,if_true,reduceIte]
   refine bu C T rfl (by rfl) fun _ Kx U=>?_;go_simp;refine U _ ?_ (by first|(simp[go_sem]; done)|(simp[go_sem, *]; done)|(simp[go_sem,dE,dF,dG,cU,ft,eu,er,fU,dB, *]; done));clear U Kx;try walk_nrm
   refine hK _ _ _ ⟨rfl,g,cs,by simpa using hF,by first|(simpa using hC; done)|(simp_all; done),by first|(simpa using a0; done)|(simp_all; done),by first|(simpa using a1; done)|(simp_all; done),?_⟩;simp[*]
  | 15,_ =>
   have hr:=hr _ rfl;simp[Region.binds] at hr;try simp only[hr,if_true,reduceIte]
   refine bu C T rfl (by rfl) fun _ Kx U=>?_;go_simp;refine U _ ?_ (by first|(simp[go_sem]; done)|(simp[go_sem, *]; done)|(simp[go_sem,dE,dF,dG,cU,ft,eu,er,fU,dB, *]; done));clear U Kx;try walk_nrm
   refine hK _ _ _ ⟨rfl,g,cs,by simpa using hF,by first|(simpa using hC; done)|(simp_all; done),by first|(simpa using a0; done)|(simp_all; done),by first|(simpa using a1; done)|(simp_all; done),?_⟩;simp[*]
  | m+16,h=>exact absurd h (by omega)
 ·rintro J a2 a' w' hJ ⟨rfl,g,cs,hF,hC,a0,a1,rfl⟩;simp only[hJ 0 (by decide),hJ 1 (by decide),hJ 2 (by decide),hJ 3 (by decide),hJ 4 (by decide),hJ 5 (by decide),hJ 6 (by decide),hJ 7 (by decide),hJ 8 (by decide),hJ 9 (by decide),hJ 10 (by decide),hJ 11 (by decide),hJ 12 (by decide),hJ 13 (by decide),hJ 14 (by decide),hJ 15 (by decide),if_true,reduceIte,true_implies,forall_const] at hF hC a0 a1 ⊢;refine aS C T ?_;show fx _ _ _ _ _ _ _;refine bS C T ?_;refine aP C T ?_;simp only[ia,Nat.reduceAdd];iterate 4
   refine bu C T rfl (by rfl) fun _ Kx U=>?_
   go_simp
   refine U _ ?_ (by first|(simp[go_sem]; done)|(simp[go_sem, *]; done)|(simp[go_sem,dE,dF,dG,cU,ft,eu,er,fU,dB, *]; done))
   clear U Kx
   try walk_nrm
  refine kL C (Z) (v:=.slice none 0 0) 0 rfl (by rfl) rfl (by rfl) underlying55 rfl hF rfl (by rfl) fun _ hF=>?_;try walk_nrm
  refine bu C T rfl (by rfl) fun _ Kx U=>?_;go_simp;refine U _ ?_ (by first|(simp[go_sem]; done)|(simp[go_sem, *]; done)|(simp[go_sem,dE,dF,dG,cU,ft,eu,er,fU,dB, *]; done));clear U Kx;try walk_nrm
  refine aS C T ?_;show fx _ _ _ _ _ _ _;refine aP C T ?_;simp only[ia,Nat.reduceAdd];iterate 4
   refine bu C T rfl (by rfl) fun _ Kx U=>?_
   go_simp
   refine U _ ?_ (by first|(simp[go_sem]; done)|(simp[go_sem, *]; done)|(simp[go_sem,dE,dF,dG,cU,ft,eu,er,fU,dB, *]; done))
   clear U Kx
   try walk_nrm
  refine qw C (Z) (cs:=[.slice (sq g) 0 cs.size]) (cur':=#[p,.slice (sq g) 0 cs.size]) 0 rfl (by rfl) rfl (by rfl) (by rfl) (by rfl) (by simp[Value.oneCell']) (by simp[eS]) hF rfl (by first|decide|simp) (by first|rfl|(simp[putAt]; done)) fun _ hF=>?_;simp only[List.set_cons_zero,List.set_cons_succ,List.set] at hF;try walk_nrm
  refine aS C T ?_;refine⟨.inl rfl,rfl,_,resultsC_none (by rfl) _,rfl,rfl,g,cs,hC.1,hC.2,?_⟩;exact Z.perm hF (List.Perm.swap _ _ _)
end
end Go.Proofs.YtgcaionclkbehaaGreatDoor
