import Derived.Test.YtgcaionclkbehaaGreatDoorP13
set_option linter.all false
set_option maxHeartbeats 2000000
set_option maxRecDepth 100000
namespace Go.Proofs.YtgcaionclkbehaaGreatDoor
open Go.Conc Go.RowKit Go.Lib Tryz
variable {S:bC}{N b c n:Nat}{P:Program}{p sl x y:Value}{f g:FuncId}{kt:TypeId→Bool}{pr:Prim}{s s' s1 s2:AS}{args args' cs:Aq}{l:Bq}{k:IntKind}{i j:Int}
theorem C7(s:ByteArray)(c:Int)(w:World)(es:Array Event):(Extern.BytealgCount.count #[.string s,.int .u8 c]).events prog w es=es:=by
 change Sem.events prog (do
  let b ← Extern.Bytes.bytesOf (.string s)
  let U ← Extern.Bytes.asByte (.int .u8 c)
  pure (goInt (b.foldl (fun n x=>if x==U then n+1 else n) (0:Nat)))) w es=_;simp only[Extern.Bytes.bytesOf,Extern.Bytes.asByte,Sem.events_bind,Sem.run_pure,Sem.events_pure,Result.evThen_ok]
def IM (s:ByteArray)(c:Int):Int:=(Lib.countByte s.data.toList c.toNat.toUInt8:Nat)
theorem IU(s:ByteArray)(c:UInt8):KW prog 343 #[.string s,.string ⟨#[c]⟩] (.int .i64 (IM s c.toNat)):=by
 intro ι R D X C T i w;have u9:=underlying9;have h1:(⟨#[c]⟩:ByteArray).size=1:=rfl;refine gn func343 (by rfl) rfl ?_;simp only[ntmps343,List.size_toArray,List.length_cons,List.length_nil,Nat.reduceAdd,Nat.reduceSub,Array.replicate_succ,Array.replicate_zero,List.push_toArray,List.append_toArray,List.nil_append,List.cons_append];refine bS C T ?_;refine aP C T ?_;simp only[ia,Nat.reduceAdd];refine bu C T rfl (by rfl) fun _ Kx U=>?_;go_simp;refine U _ ?_ (by first|(simp[go_sem]; done)|(simp[go_sem, *]; done)|(simp[go_sem,dE,dF,dG,cU,ft, *]; done));clear U Kx;try walk_nrm
 refine aS C T ?_;show fx _ _ _ _ _ _ _;iterate 2 refine bS C T ?_
 refine aP C T ?_;simp only[ia,Nat.reduceAdd];iterate 3
  refine bu C T rfl (by rfl) fun _ Kx U=>?_
  go_simp
  refine U _ ?_ (by first|(simp[go_sem]; done)|(simp[go_sem, *]; done)|(simp[go_sem,dE,dF,dG,cU,ft, *]; done))
  clear U Kx
  try walk_nrm
 refine aS C T ?_;show fx _ _ _ _ _ _ _;refine uT C T rfl (fun hb=>?_) (fun hb=>?_)
 ·
  try simp only[IH,beq_iff_eq,beq_eq_false_iff_ne,bne_iff_ne,bne_eq_false_iff_eq] at hb
  cases hb
 ·
  try simp only[hb]
  try simp only[IH,beq_iff_eq,beq_eq_false_iff_ne,bne_iff_ne,bne_eq_false_iff_eq] at hb
  refine mc C T ?_;show fx _ _ _ _ _ _ _;iterate 2 refine bS C T ?_
  refine aP C T ?_;simp only[ia,Nat.reduceAdd];iterate 3
   refine bu C T rfl (by rfl) fun _ Kx U=>?_
   go_simp
   refine U _ ?_ (by first|(simp[go_sem]; done)|(simp[go_sem, *]; done)|(simp[go_sem,dE,dF,dG,cU,ft, *]; done))
   clear U Kx
   try walk_nrm
  refine aS C T ?_;show fx _ _ _ _ _ _ _;refine uT C T rfl (fun hb=>?_) (fun hb=>?_)
  ·
   try simp only[hb]
   try simp only[IH,beq_iff_eq,beq_eq_false_iff_ne,bne_iff_ne,bne_eq_false_iff_eq] at hb
   refine bS C T ?_;refine aP C T ?_;simp only[ia,Nat.reduceAdd];iterate 3
    refine bu C T rfl (by rfl) fun _ Kx U=>?_
    go_simp
    refine U _ ?_ (by first|(simp[go_sem]; done)|(simp[go_sem, *]; done)|(simp[go_sem,dE,dF,dG,cU,ft, *]; done))
    clear U Kx
    try walk_nrm
   try simp only[show((⟨#[c]⟩:ByteArray)[0]).toNat=c.toNat from rfl]
   refine nB C T rfl (by rfl) rfl func377 (by rfl) (by rfl) (by kernel_rfl) (e:=Extern.BytealgCount.count) (by kernel_rfl) (x:=.int .i64 (IM s c.toNat)) (args':=#[.string s,.int .u8 c.toNat]) (by simp[Act.eval]) (fun w=>Lib.run_countString s c.toNat w) (fun w es=>C7 s c.toNat w es) ?_;try walk_nrm
   refine bu C T rfl (by rfl) fun _ Kx U=>?_;go_simp;refine U _ ?_ (by first|(simp[go_sem]; done)|(simp[go_sem, *]; done)|(simp[go_sem,dE,dF,dG,cU,ft, *]; done));clear U Kx;try walk_nrm
   refine aS C T ?_;show fx _ _ _ _ _ _ _;refine oZ C T ?_;refine⟨.inr rfl,rfl,_,resultsC_tmp (by rfl) _,rfl,?_,rfl⟩;simp
  ·
   try simp only[IH,beq_iff_eq,beq_eq_false_iff_ne,bne_iff_ne,bne_eq_false_iff_eq] at hb
   simp at hb
section
variable {ι:Type}{P:Program}{KT:TypeId→Prop}{An:bC}{N0:ι→Nat}{M:ι→World→Nat→Prop}{O:ι→Nat→Prop}{R:ι→Wq}{D:ι→World→World→Array Event→Prop}{X:ι→Gq}{Hd:ι→Hq→World→Prop}{f:FuncId}{args:Aq}{s:AS}{v:Value}
theorem Sound.same(Y:Cy P KT N0 M O R D X Hd)(hv:dT v=true)(h:∀S l fr i w args',eK P KT An S s l→Hd i (l++fr) w→AR (VR S) args args'→ew P X f args' i w (fun U x w'=>x=v∧Hd U (l++fr) w')):Sound P KT An R D X Hd f args s v s:=by intro S l fr i w args' hS hF hA np;refine(h S l fr i w args' hS hF hA).Y4 Y.C Y.T ?_;rintro U x w' aB ⟨rfl,mw⟩ hR;exact⟨S,l,bC.le_refl S,fun _ _=>rfl,hS,(Y.Z mw).rely mw hR,VR.dr hv⟩
theorem AR.sc{a b:Aq}(h:AR (VR S) a b)(U:a.toList.all dT=true):b=a:=by
 apply Array.toList_inj.1;apply List.ext_getElem?;intro i;rw[Array.getElem?_toList,Array.getElem?_toList];by_cases hi:i<a.size
 ·have h1:a[i]?=some a[i]:=Array.getElem?_eq_getElem hi;have h2:b[i]?=some (b[i]'(by rw[← h.1]; exact hi)):=Array.getElem?_eq_getElem _;rw[h1,h2];rw[List.all_eq_true] at U;rw[(h.2 i _ _ h1 h2).sc (U _ (by simp))]
 ·have h2:¬i<b.size:=by rw[← h.1]; exact hi
  rw[Array.getElem?_eq_none (Nat.le_of_not_lt h2),Array.getElem?_eq_none (Nat.le_of_not_lt hi)]
theorem ny{i:ι}{w:World}{Post U:ι→Value→World→Prop}(h:ew P X f args i w Post)(hp:∀i v w,Post i v w→U i v w):ew P X f args i w U:=by obtain⟨aJ,c,h1,h2,h3,h4⟩:=h;exact⟨aJ,c,h1,h2,h3,l9 h4 fun i' e a' w' ⟨q1,q2,v,q3,q4⟩=>⟨q1,q2,v,q3,hp _ _ _ q4⟩⟩
end
def jN (c:Nat):List UInt8→Nat→Int
 | [],_ => -1
 | b::l,k=>if b.toNat.beq c then (k:Int) else jN c l (k+1)
def vn (c:Nat):List UInt8→Nat→Nat
 | [],k=>k
 | b::l,k=>if b.toNat.beq c then vn c l (k+1) else vn c l k
theorem lA(b u:UInt8):b.toNat.beq u.toNat=(b==u):=by
 by_cases h:b=u
 ·subst h; simp
 ·have:b.toNat≠u.toNat:=fun e=>h (UInt8.toNat_inj.1 e);rw[show(b==u)=false by simp[h]];exact Bool.eq_false_iff.2 fun e=>this (Nat.eq_of_beq_eq_true e)
theorem BS(u:UInt8):∀(l:Bq) (k:Nat),jN u.toNat l k=if indexByte l u = -1 then -1 else indexByte l u+k
 | [],k=>by simp[jN,indexByte]
 | b::l,k=>by
  unfold jN indexByte;rw[lA];by_cases U:(b==u)=true
  ·simp[U]
  ·have a0:=indexByte_ge l u;simp only[U,if_false,Bool.false_eq_true];rw[BS u l (k+1)];by_cases h:indexByte l u = -1
   ·simp[h]
   ·have h2:¬indexByte l u+1 = -1:=by omega
    simp[h,h2];omega
theorem vo(u:UInt8):∀(l:Bq) (k:Nat),vn u.toNat l k=countByte l u+k
 | [],k=>by simp[vn,countByte]
 | b::l,k=>by
  unfold vn;rw[lA]
  have:=vo u l;unfold countByte at this ⊢;rw[List.count_cons];by_cases hb:(b==u)=true
  ·simp[hb,this]; omega
  ·simp[hb,this]
theorem Ca:prog.funcs.size=416:=by kernel_rfl
theorem CK{p:Func→Bool}(h:(List.range n).all (fun g=>(P.funcs[g]?).all p)=true)(hn:P.funcs.size=n){aJ:Func}(U:P.funcs[g]?=some aJ):p aJ=true:=by
 have hg:g<n:=by rw[← hn]; exact(Array.getElem?_eq_some_iff.1 U).1
 have h1:=List.all_eq_true.1 h g (List.mem_range.2 hg);rw[U] at h1;exact h1
def Gz(aJ : Func) : Bool := !(aJ.name == "runtime.NumGoroutine")
theorem JL:(List.range 416).all (fun g=>(prog.funcs[g]?).all Gz)=true:=by kernel_rfl
theorem cI : ∀ (f : FuncId) (aJ : Func), prog.funcs[f]? = some aJ → (aJ.name == "runtime.NumGoroutine") = false := by intro g aJ hf;have h:=CK JL Ca hf;unfold Gz at h;simpa using h
def NL(x:List UInt8)(v:Value)(n i:Nat)(r:Nat→Value):TL:=[str x,v,r 2,r 3,.bool false,r 5,r 6,v,num n,num i,r 10,r 11,r 12,r 13,r 14,r 15,r 16]
theorem QW{x:Bq}{xs:List (Bq)}{y:Option Addr}(hp:pr 127=none)(U:dQ s 1 y n=some (xs.map str))(hn:n≤1000000):EF prog kt pr 127 #[str x,.slice y n c] s (.bool (xs.any fun z=>cJ x z)) s:=by
 have ha:xs.length=n∧∀k z,xs[k]?=some z→∃b o p,y=some ⟨b,o,p⟩∧∃cs ty fz,s.get b=some (.cells cs ty fz)∧cs[o+k]?=some (str z):=by
  unfold dQ at U;split at U
  ·split at U
   ·next h=>cases xs with
    | nil=>exact⟨h.symm,fun k z hz=>by simp at hz⟩
    | cons z xs=>cases U
   ·cases U
  ·next b o p =>
   split at U
   ·next cs ty fz hs =>
    split at U
    ·next hl =>simp only[Option.some.injEq,Nat.mul_one] at U;have hz:=congrArg List.length U;simp at hz;refine⟨by omega,fun k z hk=>⟨b,o,p,rfl,cs,ty,fz,hs,?_⟩⟩;have h1:=congrArg (fun l=>l[k]?) U;have Yo:=(List.getElem?_eq_some_iff.1 hk).1;simp only[List.getElem?_map,hk,Option.map_some] at h1;rw[List.getElem?_take,if_pos (by omega),List.getElem?_drop,Array.getElem?_toList] at h1;exact h1
    ·cases U
   ·cases U
 obtain⟨hl,ha⟩:=ha;clear U;refine EF.of hp func127 rfl ?_;refine EW.seq (EW.go 5 (by kernel_rfl) (EW.seq (EW.seq (EW.go 5 (by kernel_rfl) (EW.block ?_)))));refine EW.eD (fun m a s'=>s'=s∧∃i,i+m=n∧((xs.drop i).any fun z=>cJ x z)=(xs.any fun z=>cJ x z)∧∃r,a=NL x (.slice y n c) n i r) ?_ n _ _ ⟨by kernel_rfl,0,by omega,rfl,bG (by kernel_rfl)⟩;rintro m a s' ⟨rfl,i,hi,hd,r,rfl⟩;refine EW.seq (EW.region (by kernel_rfl) ?_);cases m with
 | zero =>refine EO.op (by kernel_rfl) (dt (u:=num i) (w:=num n) rfl (by kernel_rfl) (by kernel_rfl) (bD (b:=false) (decide_eq_false (by omega)))) ?_;refine EO.nil (EW.seq (EW.zh 5 (.exit 0) (by kernel_rfl) (EW.seq (EW.go 5 (by kernel_rfl) (EW.ret ⟨.inr rfl,?_,by kernel_rfl⟩)))));rw[← hd,List.drop_of_length_le (by omega)];kernel_rfl
 | succ m =>
  have hk:xs[i]?=some xs[i]:=List.getElem?_eq_getElem (by omega);obtain⟨b,o,p,rfl,cs,ty,fz,hs,hv⟩:=ha i _ hk;rw[List.drop_eq_getElem_cons (by omega),List.any_cons] at hd;refine EO.op (by kernel_rfl) (dt (u:=num i) (w:=num n) rfl (by kernel_rfl) (by kernel_rfl) (bD (b:=true) (decide_eq_true (by omega)))) (EO.nil (EW.seq (EW.go 5 (by kernel_rfl) (EW.seq (EW.block (EW.seq (EW.region (by kernel_rfl) (EO.op (by kernel_rfl) (Cn (j:=i) (b:=b) (off:=o) (n:=n) (cp:=c) (sp:=p) (k:=.i64) (sz:=1) rfl underlying62 (by kernel_rfl) (by kernel_rfl) (by kernel_rfl) (by omega) (by omega)) (EO.op (by kernel_rfl) (bO (b:=b) (off:=o+(i:Int).toNat*1) (v:=str xs[i]) rfl underlying9 rfl (by kernel_rfl) hs (by rw[Int.toNat_natCast,Nat.mul_one]; exact hv)) (EO.fin 5 (by kernel_rfl) (EW.seq (EW.go 5 (by kernel_rfl) (EW.cond (b:=cJ x xs[i]) (by kernel_rfl) (fun he=>?_) (fun he=>?_))))))))))))))
  ·refine EW.zh 5 .ret (by kernel_rfl) ?_;refine⟨.inr rfl,?_,by kernel_rfl⟩;rw[← hd,he];kernel_rfl
  ·rw[he,Bool.false_or] at hd;refine EW.go 5 (by kernel_rfl) (EW.region (by kernel_rfl) (EO.op (by kernel_rfl) (mG (i:=i) (j:=1) (r:=((i+1:Nat):Int)) rfl (by kernel_rfl) (by kernel_rfl) (by omega) (by omega)) (EO.fin 5 (by kernel_rfl) ?_)));exact⟨m,by omega,by kernel_rfl,i+1,by omega,hd,bG (by kernel_rfl)⟩
def bL:Prim
 | 127=>some fun args s=>match args.toList with
  | [.string x,.slice y n _]=>match dQ s 1 y n with
   | some l=>if n≤1000000∧(l.all fun v=>match v with|.string _=>true|_=>false)=true then some (.bool (l.any fun v=>match v with|.string z=>cJ x.data.toList z.data.toList|_=>false),s) else none
   | none=>none
  | _=>none
 | 373=>some fun args s=>match args.toList with
  | [.string x,.int .u8 c]=>some (.int .i64 (jN (c.toNat % 256) x.data.toList 0),s)
  | _=>none
 | 343=>some fun args s=>match args.toList with
  | [.string x,.string y]=>match y.data.toList with
   | [c]=>some (.int .i64 (vn c.toNat x.data.toList 0),s)
   | _=>none
  | _=>none
 | 344=>some fun args s=>match args.toList with
  | [.pointer (some ⟨b,0,none⟩),.int .i64 n]=>match s.get b with
   | some (.cells cs 119 (0,0))=>match cs.toList with
    | [p,.slice none 0 0]=>if 0≤n∧n≤1000000000 then some (.tuple #[],(s.set b (some (.cells #[p,.slice (some ⟨s.nx,0,none⟩) 0 0] 119 (0,0)))).add (.cells #[] 5 (1,1))) else none
    | _=>none
   | _=>none
  | _=>none
 | _=>none
theorem oG{g:Aq→AS→Option (Value × AS)}(h:bL f=some g):f=127∨f=373∨f=343∨f=344:=by
 unfold bL at h;split at h
 ·exact .inl rfl
 ·exact .inr (.inl rfl)
 ·exact .inr (.inr (.inl rfl))
 ·exact .inr (.inr (.inr rfl))
 ·cases h
theorem uB:∀f g args s v s',bL f=some g→g args s=some (v,s')→s.nx≤s'.nx:=by
 intro f g args s v s' U h;rcases oG U with rfl|rfl|rfl|rfl
 ·cases U;simp only at h;split at h
  ·split at h
   ·split at h
    ·cases h; exact Nat.le_refl _
    ·cases h
   ·cases h
  ·cases h
 ·cases U;simp only at h;split at h
  ·cases h; exact Nat.le_refl _
  ·cases h
 ·cases U;simp only at h;split at h
  ·split at h
   ·cases h; exact Nat.le_refl _
   ·cases h
  ·cases h
 ·cases U;simp only at h;split at h
  ·split at h
   ·split at h
    ·split at h
     ·cases h; simp
     ·cases h
    ·cases h
   ·cases h
  ·cases h
section
variable {ι:Type}{An:bC}{N0:ι→Nat}{M:ι→World→Nat→Prop}{O:ι→Nat→Prop}{R:ι→Wq}{D:ι→World→World→Array Event→Prop}{X:ι→Gq}{Hd:ι→Hq→World→Prop}
theorem qu(h:args.toList=[x,y]):args=#[x,y]:=by apply Array.toList_inj.1; simp[h]
theorem Gp(Y:Cy prog eS N0 M O R D X Hd){x:ByteArray}{y:Option Addr}{l0:Vq}(hc:dQ s 1 y n=some l0)(hn:n≤1000000)(U:(l0.all fun v=>match v with|.string _=>true|_=>false)=true) :
  Sound prog eS An R D X Hd 127 #[.string x,.slice y n c] s (.bool (l0.any fun v=>match v with|.string z=>cJ x.data.toList z.data.toList|_=>false)) s:=by
 obtain⟨xs,rfl⟩:∃xs:List (Bq),l0=xs.map str:=by
  clear hc;induction l0 with
  | nil=>exact⟨[],rfl⟩
  | cons v l0 ih =>
   simp only[List.all_cons,Bool.and_eq_true] at U;obtain⟨xs,rfl⟩:=ih U.2;cases v with
   | string z=>exact⟨z.data.toList::xs,rfl⟩
   | _=>simp at U
 obtain⟨m,hm⟩:=QW (kt:=fun _=>true) (pr:=fun _=>none) (x:=x.data.toList) (c:=c) rfl hc hn;rw[List.any_map];exact(gH Y (by kernel_rfl) (fun _ h=>by cases h) ⟨fun _ _ _ _ _ _ h=>(by cases h),fun _ _ _ _ _ _ h=>(by cases h)⟩ cI m).2 _ _ _ _ _ hm
theorem eK.same{KT:TypeId→Prop}{l:Hq}(h:eK P KT An S s l)(U:∀b,s'.get b=s.get b)(hn:s'.nx=s.nx):eK P KT An S s' l where
 live b o hb:=h.live b o (U b▸hb)
 inj b b' o o' x x' hb jA:=h.inj b b' o o' x x' (U b▸hb) (U b'▸jA)
 lt b o hb:=hn▸h.lt b o (U b▸hb)
 an:=h.an
theorem Ai(Y:Cy prog eS N0 M O R D X Hd){n:Int}(hb:s.get b=some (.cells cs 119 (0,0)))(aa:cs.toList=[p,.slice none 0 0])(hn:0≤n∧n≤1000000000) :
  Sound prog eS An R D X Hd 344 #[.pointer (sq b),.int .i64 n] s (.tuple #[]) ((s.set b (some (.cells #[p,.slice (sq s.nx) 0 0] 119 (0,0)))).add (.cells #[] 5 (1,1))):=by
 intro S l fr i w args' hS hF hA ae;obtain rfl:cs=#[p,.slice none 0 0]:=by apply Array.toList_inj.1; simp[aa]
 obtain⟨a0,a1,rfl,h0,h1⟩:∃a0 a1,args'=#[a0,a1]∧VR S (.pointer (sq b)) a0∧VR S (.int .i64 n) a1:=by
  have af:=hA.1;simp at af;refine⟨args'[0]'(by omega),args'[1]'(by omega),?_,hA.2 0 _ _ rfl (Array.getElem?_eq_getElem (by omega)),hA.2 1 _ _ rfl (Array.getElem?_eq_getElem (by omega))⟩;apply Array.ext
  ·simp; omega
  ·intro k h1 h2;simp at h2;match k,h2 with
   | 0,_=>rfl
   | 1,_=>rfl
 have h1:=h1.sc rfl;subst h1;obtain⟨d,hd⟩:=h0;cases d with
 | zero=>exact hd.elim
 | succ d =>
  unfold VD at hd;obtain⟨g,z,e,hg,rfl⟩:=hd;obtain⟨k,o',hk,eH,kG,BQ,MP⟩:=hS.at (fr:=fr) hb hg;unfold OR at BQ;obtain⟨gU,rfl,hz,⟨rW,Jt⟩,hv⟩:=BQ;have Wn:=Jt rfl;simp at Wn;obtain⟨p',u',rfl⟩:∃p' u',gU=#[p',u']:=by
   refine⟨gU[0]'(by omega),gU[1]'(by omega),?_⟩;apply Array.ext
   ·simp; omega
   ·intro k h1 h2;simp at h2;match k,h2 with
    | 0,_=>rfl
    | 1,_=>rfl
  have hp:=hv 0 _ _ rfl rfl;have hu:=(hv 1 _ _ rfl rfl).sc rfl;subst hu;have Z:=Y.Z hF;have PH:=Z.front hF k kG;obtain⟨m,rfl⟩:∃m:Nat,n=(m:Int):=⟨n.toNat,by omega⟩;refine(Md Y.C Y.T Z m (by omega) PH).Y4 Y.C Y.T ?_;rintro i' x w' aB ⟨rfl,rfl,g2,U,Mp,H3,Mi⟩ hR;have X7:=Z.rely Mi hR;have BO:=Z.nodup hF;have hnl:(l.map Prod.fst).Nodup:=by rw[List.map_append] at BO;exact(List.nodup_append.1 BO).1
  have a5:S s.nx=none:=ae _ (Nat.le_refl _) (by simp);have Qo:k<(l++fr).length:=by simp; omega
  have a3:(l++fr).eraseIdx k=l.eraseIdx k++fr:=List.eraseIdx_append_of_lt_length eH fr;have Vj:∀o,(g2,o)∉l:=by
   intro o ho;have H8:=Z.nodup X7;rw[a3] at H8;simp only[List.map_cons,List.nodup_cons,List.map_append,List.mem_cons,List.mem_append,not_or] at H8;by_cases Yi:g2=g
   ·exact H8.1.1 Yi
   ·apply H8.1.2.1;obtain⟨q,hq⟩:=List.mem_iff_getElem?.1 ho;have hqk:q≠k:=by rintro rfl;rw[hk] at hq;cases hq;exact Yi rfl
    refine List.mem_map.2 ⟨(g2,o),?_,rfl⟩;rw[List.mem_eraseIdx_iff_getElem?];exact⟨q,hqk,hq⟩
  have a6:eK prog eS An (S.put s.nx (g2,U.size,1)) (s.add (.cells #[] 5 (1,1))) ((g2,.cells U 5)::l):=by
   refine hS.grown a5 Vj ?_ ?_
   ·unfold OR;exact⟨U,rfl,rfl,⟨by simp,fun h=>by cases h⟩,fun i x y hx=>by simp at hx⟩
   ·intro cs t fz h;cases h;exact⟨by kernel_rfl,by simp[eS]⟩
  have a4:b≠s.nx:=by have:=hS.lt b _ hb; omega
  have a9:(s.add (.cells #[] 5 (1,1))).get b=some (.cells #[p,.slice none 0 0] 119 (0,0)):=by rw[AS.aH,if_neg a4]; exact hb
  have a2:=bC.jP (S:=S) (x:=(g2,U.size,1)) a5;have Ga:(((g2,Obj.cells U 5)::l).map Prod.fst).Nodup:=by simp only[List.map_cons,List.nodup_cons];refine⟨fun h=>?_,hnl⟩;obtain⟨⟨g3,o3⟩,h3,h4⟩:=List.mem_map.1 h;simp at h4;subst h4;exact Vj _ h3
  have a7:=a6.wy (k:=k+1) (ED:=Pf p' (.slice (sq g2) 0 U.size)) (zm:=.cells #[p,.slice (sq s.nx) 0 0] 119 (0,0)) a9 (a2 _ _ hg) (by simpa using hk) Ga (by
   unfold OR Pf;refine⟨_,rfl,by simpa using hz,⟨by simp; omega,fun _=>by simp; omega⟩,?_⟩;intro j x y hx hy;match j with
   | 0=>simp at hx hy; subst hx hy; exact hp.mono a2
   | 1 =>simp at hx hy;subst hx hy;exact⟨1,g2,U.size,1,U.size,bC.iv,rfl,by omega,by omega,by omega,by omega⟩
   | j+2=>simp at hx) (by
   intro cs t fz h;cases h;exact MP _ _ _ rfl);have zi:=a7.same (s':=(s.set b (some (.cells #[p,.slice (sq s.nx) 0 0] 119 (0,0)))).add (.cells #[] 5 (1,1))) (fun b'=>by
   rw[AS.aH,AS.aK,AS.aK,AS.aH];by_cases h1:b'=s.nx
   ·subst h1;simp[Ne.symm a4]
   ·simp[h1]) rfl;refine⟨_,_,a2,?_,zi,?_,?_⟩
  ·intro b' a8;unfold bC.put;rw[if_neg];simp at a8;omega
  ·simp only[List.set_cons_succ,List.cons_append];refine Z.perm X7 ?_;rw[a3];refine List.Perm.cons _ ?_;rw[← List.cons_append];exact List.Perm.append_right _ (si hk)
  ·exact⟨1,#[],rfl,rfl,fun i x y hx=>by simp at hx⟩
theorem pZ(Y:Cy prog eS N0 M O R D X Hd):ck prog eS An R D X Hd bL where
 nx:=uB
 sound f g args s v s' hf h:=by
  rcases oG hf with rfl|rfl|rfl|rfl
  ·
   cases hf
   simp only at h
   split at h
   ·
    next x y n c U =>
    rw[qu U]
    split at h
    ·
     next l hl =>
     split at h
     ·
      next hc=>cases h; exact Gp Y hl hc.1 hc.2
     ·
      cases h
    ·
     cases h
   ·
    cases h
  ·
   cases hf
   simp only at h
   split at h
   ·
    next x c U =>
    rw[qu U]
    cases h
    refine Sound.same Y rfl fun S l fr i w args' hS hF hA=>?_
    rw[hA.sc rfl]
    have e:jN (c.toNat % 256) x.data.toList 0=Ju x c:=by
     have:=BS c.toNat.toUInt8 x.data.toList 0
     rw[show c.toNat.toUInt8.toNat=c.toNat % 256 by simp] at this
     rw[this]
     unfold Ju
     split
     ·
      next h=>rw[h]
     ·
      simp
    rw[e]
    exact ny (vJ x c _ _ _ _ Y.C Y.T i w) fun i' v w' ⟨q1,q2,q3⟩=>⟨q2,by subst q1; subst q3; exact hF⟩
   ·
    cases h
  ·
   cases hf
   simp only at h
   split at h
   ·
    next x y U =>
    rw[qu U]
    split at h
    ·
     next c hy =>
     cases h
     refine Sound.same Y rfl fun S l fr i w args' hS hF hA=>?_
     rw[hA.sc rfl]
     obtain rfl:y=⟨#[c]⟩:=by
      obtain⟨y⟩:=y
      congr 1
      apply Array.toList_inj.1
      simpa using hy
     have e:(vn c.toNat x.data.toList 0:Int)=IM x c.toNat:=by
      rw[vo]
      unfold IM
      simp
     rw[e]
     exact ny (IU x c _ _ _ _ Y.C Y.T i w) fun i' v w' ⟨q1,q2,q3⟩=>⟨q2,by subst q1; subst q3; exact hF⟩
    ·
     cases h
   ·
    cases h
  ·
   cases hf
   simp only at h
   split at h
   ·
    next b n U =>
    rw[qu U]
    split at h
    ·
     next cs hb =>
     split at h
     ·
      next p a0 =>
      split at h
      ·
       next hn=>cases h; exact Ai Y hb a0 hn
      ·
       cases h
     ·
      cases h
    ·
     cases h
   ·
    cases h
end
def Pt:List (ByteArray × Int × Bool):=[(⟨#[97,109,112]⟩,38,true),(⟨#[108,116]⟩,60,true),(⟨#[103,116]⟩,62,true),(⟨#[113,117,111,116]⟩,34,true),(⟨#[97,112,111,115]⟩,39,false),(⟨#[110,98,115,112]⟩,160,true),(⟨#[99,111,112,121]⟩,169,true),(⟨#[114,101,103]⟩,174,true),(⟨#[110,111,116]⟩,172,true),(⟨#[110,111,116,105,110]⟩,8713,false),(⟨#[101,97,99,117,116,101]⟩,233,true),(⟨#[101,117,109,108]⟩,235,true),(⟨#[101,117,114,111]⟩,8364,false),(⟨#[110,100,97,115,104]⟩,8211,false),(⟨#[109,100,97,115,104]⟩,8212,false),(⟨#[104,101,108,108,105,112]⟩,8230,false),(⟨#[108,97,114,114]⟩,8592,false),(⟨#[114,97,114,114]⟩,8594,false)]
def Pu (x:ByteArray × Int × Bool):List Value:=[.string x.1,.int .i32 x.2.1,.bool x.2.2]
def cY:List Value:=Pt.flatMap Pu
def Rh:List UInt8→Option (Int × Int)
 | 97::109::112::59::_=>some (38,4)
 | 108::116::59::_=>some (60,3)
 | 103::116::59::_=>some (62,3)
 | 113::117::111::116::59::_=>some (34,5)
 | _=>none
def mB (t:TypeId):Bool:=t.beq 177||t.beq 179||Nat.ble 1016 t
abbrev Ef:=EF prog mB
abbrev Ew:=EW prog mB
theorem dq(t:TypeId)(h:mB t=false):¬eS t:=by
 rintro(rfl|rfl|U)
 ·cases h
 ·cases h
 ·have:Nat.ble 1016 t=true:=Nat.ble_eq_true_of_le U;simp[mB,this] at h
theorem JK:(List.range 416).all (fun g=>!(jh prog (.func g))||g.beq 330)=true:=by kernel_rfl
theorem Cb : ∀ g aJ, jh prog (.func g) = true → prog.funcs[g]? = some aJ → (aJ.name == "runtime.NumGoroutine") = false ∧ Extern.findNext aJ = none ∧ Extern.find aJ = some Extern.AbiNoEscape.same := by
 intro g aJ h hf;have hg:g<416:=by rw[← Ca]; exact(Array.getElem?_eq_some_iff.1 hf).1
 have:=JK;rw[List.all_eq_true] at this
 have:=this g (List.mem_range.2 hg);rw[h] at this;have e:g=330:=Nat.eq_of_beq_eq_true (by simpa using this);subst e;rw[func330] at hf;cases hf;exact⟨by rfl,by kernel_rfl,by kernel_rfl⟩
def xj(l:List Value):Bool:=(iB l 0).beq (iB cY 0)&&(l.zip cY).all fun p=>na 3 p.1 p.2
theorem xk{l:Vq}(h:xj l=true):l=cY:=by unfold xj at h;simp only[Bool.and_eq_true,iO,Nat.zero_add] at h;exact pe _ _ (Nat.eq_of_beq_eq_true h.1) h.2 fun p U=>ic U
theorem K0(h:AR (VR S) #[x,y] args'):∃x' y',args'=#[x',y']∧VR S x x'∧VR S y y':=by
 have U:=h.1;simp at U;refine⟨args'[0]'(by omega),args'[1]'(by omega),?_,h.2 0 _ _ rfl (Array.getElem?_eq_getElem (by omega)),h.2 1 _ _ rfl (Array.getElem?_eq_getElem (by omega))⟩;apply Array.ext
 ·simp; omega
 ·intro k h1 h2;simp at h2;match k,h2 with
  | 0,_=>rfl
  | 1,_=>rfl
theorem Pd{z:Value}(h:AR (VR S) #[x,y,z] args'):∃x' y' z',args'=#[x',y',z']∧VR S x x'∧VR S y y'∧VR S z z':=by
 have U:=h.1;simp at U;refine⟨args'[0]'(by omega),args'[1]'(by omega),args'[2]'(by omega),?_,h.2 0 _ _ rfl (Array.getElem?_eq_getElem (by omega)),h.2 1 _ _ rfl (Array.getElem?_eq_getElem (by omega)),h.2 2 _ _ rfl (Array.getElem?_eq_getElem (by omega))⟩;apply Array.ext
 ·simp; omega
 ·intro k h1 h2;simp at h2;match k,h2 with
  | 0,_=>rfl
  | 1,_=>rfl
  | 2,_=>rfl
def cR(rn:Nat)(L:List Int):Prim
 | 146=>some fun args s=>match args.toList with
  | [.pointer (some ⟨b,0,none⟩),.int .i64 k]=>if b=rn∧0≤k then some (.int .i32 (L[k.toNat]?.getD (-1)),s) else none
  | _=>none
 | 92=>some fun args s=>match args.toList with
  | [.pointer (some ⟨b,0,none⟩),.int .i64 i,.int .i64 j]=>if b=rn∧0≤i∧0≤j∧j≤1000000 then some (.string ⟨(bw ((L.drop i.toNat).take (j.toNat-i.toNat))).toArray⟩,s) else none
  | _=>none
 | 333=>some fun args s=>match args.toList with
  | [.string x,.int .i64 k]=>match s.get 1 with
   | some (.cells cs 335 (0,0))=>if xj cs.toList=true then match Rh x.data.toList with
     | some (c,n)=>some (.tuple #[.int .i32 c,.int .i64 n],s)
     | none=>none
    else none
   | _=>none
  | _=>none
 | f=>bL f
theorem oH(rn:Nat)(all:Iq):∀f g args s v s',cR rn all f=some g→g args s=some (v,s')→s.nx≤s'.nx:=by
 intro f g args s v s' U h;unfold cR at U;split at U;iterate 2
  ·cases U;simp only at h;split at h
   ·split at h
    ·cases h; exact Nat.le_refl _
    ·cases h
   ·cases h
 ·cases U;simp only at h;split at h
  ·split at h
   ·split at h
    ·split at h
     ·cases h; exact Nat.le_refl _
     ·cases h
    ·cases h
   ·cases h
  ·cases h
 ·exact uB _ _ _ _ _ _ U h
theorem EF.gu{fn:Func}{b:Code}{v:Value}{G:AS→Prop}(hp:pr f=none)(hf:P.funcs[f]?=some fn)(hb:fn.body=some b)(h:EW P kt pr b (args.toList++List.replicate (fn.ntmps-args.toList.length) undef) s (fun e U s1=>(e=.normal∨e=.ret)∧dA P fn U s1=some v∧G s1)):∃s',EF P kt pr f args s v s'∧G s':=by obtain⟨n,e,U,s1,h1,he,h2,h3⟩:=h;exact⟨s1,EF.of hp hf hb ⟨n,e,U,s1,h1,he,h2,rfl⟩,h3⟩
section
variable {P:Program}{kt:TypeId→Bool}{pr:Prim}{a:TL}{s s1:AS}{K:TL→AS→Prop}{ops:Array Oper}{rest:List Oper}{v:Value}
def oT:Option (TL × AS)→Option AS
 | some (_,s)=>some s
 | none=>none
theorem EO.gs(k n:Nat)(s':AS)(h:oT (cD P kt (br P kt pr n) ops (rest.take k) a s)=some s')(U:EO P kt pr ops (rest.drop k) (oA (cD P kt (br P kt pr n) ops (rest.take k) a s)) s' K):EO P kt pr ops rest a s K:=by
 generalize hq:cD P kt (br P kt pr n) ops (rest.take k) a s=q at h U;obtain _|⟨a',s2⟩:=q
 ·cases h
 ·cases h;exact EO.run k n a' s' hq U
def Un (P:Program)(ops:Array Oper)(r:List Oper):Option (TL × AS)→Option (FuncId × Array Value × AS)
 | some (a,s)=>match r with
  | o::_=>match o.op with
   | .call cl=>match cl.callee with
    | .value (.func g)=>if Region.wanted o (bB ops a)=true∧jh P (.func g)=false then some (g,#[]++cl.args.map a.at++#[],s) else none
    | _=>none
   | _=>none
  | []=>none
 | none=>none
def RN (r:List Oper)(a:TL)(v:Value):TL:=match r with
 | o::_=>a.put o.dst v
 | []=>a
theorem EO.gc(k n:Nat)(h:Un P ops (rest.drop k) (cD P kt (br P kt pr n) ops (rest.take k) a s)=some (g,args,s'))(hf:EF P kt pr g args s' v s1)(U:EO P kt pr ops (rest.drop (k+1)) (RN (rest.drop k) (oA (cD P kt (br P kt pr n) ops (rest.take k) a s)) v) s1 K):EO P kt pr ops rest a s K:=by
 generalize hq:cD P kt (br P kt pr n) ops (rest.take k) a s=q at h U;obtain _|⟨a',s2⟩:=q
 ·cases h
 ·rw[← List.drop_drop] at U;refine EO.run k n a' s2 hq ?_;generalize rest.drop k=r at h U;cases r with
  | nil=>cases h
  | cons o t =>
   simp only[Un] at h;split at h
   ·next cl a1 =>
    split at h
    ·next g' a0 =>
     split at h
     ·next hw =>cases h;exact EO.fR _ hw.1 a1 a0 hw.2 rfl hf U
     ·cases h
    ·cases h
   ·cases h
end
def kl (x:Nat→Value):Nat→Nat→TL
 | _,0=>[]
 | k,n+1=>x k::kl x (k+1) n
theorem w7{b:Bool}(h:decide (i≥j)=b):cX .geq (.int k i) (.int k j)=some (.bool b):=by unfold cX; simp only[if_pos]; rw[h]
theorem dY{b:Bool}(h:decide (i≤j)=b):cX .leq (.int k i) (.int k j)=some (.bool b):=by unfold cX; simp only[if_pos]; rw[h]
abbrev ll(l:List UInt8):Array Value:=(strCells ⟨l.toArray⟩).toArray
def BW (s:AS)(N b:Nat)(l:List UInt8):Prop:=N≤b∧b<s.nx∧∃p sl,s.get b=some (.cells #[p,sl] 119)∧(p=.pointer none∨p=am b 0)∧((sl=.slice none 0 0∧l=[])∨∃d fz,sl=.slice (some ⟨d,0,none⟩) l.length l.length∧N≤d∧d<s.nx∧d≠b∧s.get d=some (.cells (ll l) 5 fz))
def mK (N:Nat)(s s':AS):Prop:=s.nx≤s'.nx∧∀k,k<N→s'.get k=s.get k
theorem mK.trans(h:mK N s s1)(U:mK N s1 s2):mK N s s2:=⟨Nat.le_trans h.1 U.1,fun k hk=>(U.2 k hk).trans (h.2 k hk)⟩
theorem mK.add{o:Obj}(h:N≤s.nx):mK N s (s.add o):=⟨by simp,fun k U=>by rw[AS.aH,if_neg (by omega)]⟩
section
variable {pr:Prim}{s:AS}
theorem vq(a0:pr 261=none)(U:s.get b=some (.cells #[p,sl] 119))(hp:p=.pointer none∨p=am b 0):∃s',Ef pr 261 #[am b 0] s (.tuple #[]) s'∧s'.nx=s.nx∧s'.get b=some (.cells #[am b 0,sl] 119)∧∀k,k≠b→s'.get k=s.get k:=by
 refine EF.gu a0 func261 rfl ?_;refine EW.seq (EW.region (by kernel_rfl) (EO.go 3 5 (by kernel_rfl) (EO.gm s (by kernel_rfl) (EO.op (by kernel_rfl) (bO (b:=b) (off:=0) (v:=p) rfl underlying117 rfl (by kernel_rfl) U rfl) ?_))));rcases hp with rfl|rfl
 ·refine EO.fin 5 (by kernel_rfl) (EW.qg (by kernel_rfl) (EW.region (by kernel_rfl) (EO.go 2 5 (by kernel_rfl) (EO.gm s (by kernel_rfl) (EO.op (by kernel_rfl) (pV rfl (by kernel_rfl) (Pm (b:=b) (k:=1) (by kernel_rfl) underlying117 underlying244 U (by kernel_rfl) (by simp))) (EO.q (by kernel_rfl) (by kernel_rfl) (EO.gm s (by kernel_rfl) (EO.op (by kernel_rfl) (pV rfl (by kernel_rfl) (Pn (b:=b) (k:=1) (by kernel_rfl) underlying244 underlying117 U (by kernel_rfl) (by kernel_rfl))) (EO.go 2 5 (by kernel_rfl) (EO.gm s (by kernel_rfl) (EO.op (by kernel_rfl) (ir (b:=b) (off:=0) (w:=am b 0) rfl (by kernel_rfl) (by kernel_rfl) rfl rfl (by kernel_rfl) U (by simp)) (EO.nil ⟨.inl rfl,by kernel_rfl,?_⟩))))))))))));refine⟨rfl,?_,fun k hk=>?_⟩
  ·rw[AS.aK,if_pos rfl];rfl
  ·rw[AS.aK,if_neg hk]
 ·refine EO.fin 5 (by kernel_rfl) (EW.rK (by kernel_rfl) (EW.seq (EW.region (by kernel_rfl) (EO.go 3 5 (by kernel_rfl) (EO.gm s (by kernel_rfl) (EO.op (by kernel_rfl) (bO (b:=b) (off:=0) (v:=am b 0) rfl underlying117 rfl (by kernel_rfl) U rfl) (EO.go 1 5 (by kernel_rfl) (EO.gm s (by kernel_rfl) (EO.op (by kernel_rfl) (JV (b:=b) (k:=1) rfl (by kernel_rfl) (by kernel_rfl) underlying117 (by kernel_rfl)) (EO.nil (EW.rK (by kernel_rfl) (EW.skip ?_))))))))))));exact⟨.inl rfl,by kernel_rfl,rfl,U,fun k hk=>rfl⟩
theorem iR(l m:Bq):strCells ⟨l.toArray⟩++strCells ⟨m.toArray⟩=strCells ⟨(l++m).toArray⟩:=by show(l.map fun b=>Value.int .u8 b.toNat)++(m.map fun b=>Value.int .u8 b.toNat)=(l++m).map fun b=>Value.int .u8 b.toNat;rw[List.map_append]
theorem o0{m:Bq}(a1:pr 261=none)(a0:pr 156=none)(h:BW s N b l)(hl:l.length+m.length≤1000000):∃s',Ef pr 156 #[am b 0,str m] s (.tuple #[num m.length,.nilIface]) s'∧BW s' N b (l++m)∧mK N s s':=by
 obtain⟨hN,hb,p,sl,hs,hp,a3⟩:=h;obtain⟨s1,hc,c1,c2,c3⟩:=vq a1 hs hp;refine EF.gu a0 func156 rfl ?_;refine EW.seq (EW.go 5 (by kernel_rfl) (EW.seq (EW.region (by kernel_rfl) (EO.go 1 5 (by kernel_rfl) (EO.gm s (by kernel_rfl) (EO.fR #[am b 0] (by kernel_rfl) rfl rfl (by kernel_rfl) (by kernel_rfl) hc (EO.nil (EW.seq (EW.region (by kernel_rfl) (EO.go 4 5 (by kernel_rfl) (EO.gm s1 (by kernel_rfl) (EO.op (by kernel_rfl) (bO (b:=b) (off:=1) (v:=sl) rfl underlying55 rfl (by kernel_rfl) c2 rfl) (EO.go 1 5 (by kernel_rfl) (EO.gm s1 (by kernel_rfl) ?_))))))))))))));have key:∀(v:Value) (s2:AS),v.cells=#[v]→v.oneCell'=true→aZ prog 5 sl (strCells ⟨m.toArray⟩) m.length s1=some (v,s2)→s2.get b=some (.cells #[am b 0,sl] 119)→s1.nx≤s2.nx→(∀k,k<N→s2.get k=s1.get k)→((v=.slice none 0 0∧l++m=[])∨∃d fz,v=.slice (sq d) (l++m).length (l++m).length∧N≤d∧d<s2.nx∧d≠b∧s2.get d=some (.cells (ll (l++m)) 5 fz))→fG sl=true→∃w U,aZ prog 5 sl (strCells ⟨m.toArray⟩) m.length s1=some (w,U)∧w.cells=#[w]∧w.oneCell'=true∧fG sl=true∧U.get b=some (.cells #[am b 0,sl] 119)∧BW (U.set b (some (.cells #[am b 0,w] 119))) N b (l++m)∧mK N s (U.set b (some (.cells #[am b 0,w] 119))):=by
  intro v s2 k1 k2 k3 k4 k5 k6 k7 k8;refine⟨v,s2,k3,k1,k2,k8,k4,⟨hN,by simp; omega,am b 0,v,by rw[AS.aK,if_pos rfl],.inr rfl,?_⟩,by simp; omega,fun k hk=>?_⟩
  ·rcases k7 with k7|⟨d,fz,q1,q2,q3,q4,q5⟩
   ·exact .inl k7
   ·exact .inr ⟨d,fz,q1,q2,by simpa using q3,q4,by rw[AS.aK,if_neg q4]; exact q5⟩
  ·rw[AS.aK,if_neg (by omega),k6 k hk,c3 k (by omega)]
 have a4:∃w U,aZ prog 5 sl (strCells ⟨m.toArray⟩) m.length s1=some (w,U)∧w.cells=#[w]∧w.oneCell'=true∧fG sl=true∧U.get b=some (.cells #[am b 0,sl] 119)∧BW (U.set b (some (.cells #[am b 0,w] 119))) N b (l++m)∧mK N s (U.set b (some (.cells #[am b 0,w] 119))):=by
  cases m with
  | nil =>
   rcases a3 with ⟨rfl,rfl⟩|⟨d,fz,rfl,q2,q3,q4,q5⟩
   ·exact key _ s1 rfl rfl (qc (.inl rfl)) c2 (Nat.le_refl _) (fun k hk=>rfl) (.inl ⟨rfl,rfl⟩) rfl
   ·refine key _ s1 rfl rfl (qc (.inr ⟨d,_,_,rfl⟩)) c2 (Nat.le_refl _) (fun k hk=>rfl) (.inr ⟨d,fz,by rw[List.append_nil],q2,by omega,q4,by rw[c3 d q4,List.append_nil]; exact q5⟩) rfl
  | cons x m =>
   rcases a3 with ⟨rfl,rfl⟩|⟨d,fz,rfl,q2,q3,q4,q5⟩
   ·refine key _ _ rfl rfl (fZ (by simp)) (by rw[AS.aH,if_neg (by omega)]; exact c2) (by simp) (fun k hk=>by rw[AS.aH,if_neg (by omega)]) (.inr ⟨s1.nx,(1,1),rfl,by omega,by simp,by omega,by rw[AS.aH,if_pos rfl]; rfl⟩) rfl
   ·have a2:(ll l).size=l.length:=by simp[strCells]
    refine key _ _ rfl rfl (fM (sz:=1) (by simp) (by rw[c3 d q4]; exact q5) (by kernel_rfl) (by rw[a2]; omega) (by omega)) (by rw[AS.aH,if_neg (by simp; omega),AS.aK,if_neg (Ne.symm q4)]; exact c2) (by simp) (fun k hk=>by rw[AS.aH,if_neg (by simp; omega),AS.aK,if_neg (by omega)]) (.inr ⟨s1.nx,(1,1),by rw[List.length_append],by omega,by simp,by omega,?_⟩) rfl;rw[AS.aH,if_pos (by simp)];have:List.take (l.length*1) (ll l).toList=strCells ⟨l.toArray⟩:=by rw[Nat.mul_one];exact List.take_of_length_le (by simp[strCells])
    rw[this,iR]
 obtain⟨w,U,e1,e2,e3,e4,e5,e6,e7⟩:=a4;refine EO.op (by kernel_rfl) (rj (sl:=sl) (m:=m) rfl (by kernel_rfl) (by kernel_rfl) underlying55 underlying9 (by kernel_rfl) (by kernel_rfl) (by omega) e4 e1) (EO.go 2 5 (by kernel_rfl) (EO.gm U (by kernel_rfl) (EO.op (by kernel_rfl) (ir (b:=b) (off:=1) (w:=w) rfl (by kernel_rfl) (by kernel_rfl) e2 e3 (by kernel_rfl) e5 (by simp)) (EO.nil (EW.seq (EW.region (by kernel_rfl) (EO.go 1 5 (by kernel_rfl) (EO.op (by kernel_rfl) (dl (l:=m) rfl underlying9 (by kernel_rfl)) (EO.fin 5 (by kernel_rfl) (EW.ret ⟨.inr rfl,by kernel_rfl,?_⟩))))))))));exact⟨e6,e7⟩
theorem sI(a0:pr 84=none)(h:BW s N b l)(h0:l≠[])(hl:l.length≤1000000):∃s',Ef pr 84 #[am b 0] s (str l) s'∧mK N s s':=by
 obtain⟨hN,hb,p,sl,hs,hp,U⟩:=h;rcases U with ⟨_,U⟩|⟨d,fz,rfl,q2,q3,q4,q5⟩
 ·exact absurd U h0
 obtain⟨c,l,rfl⟩:∃c l',l=c::l':=by
  cases l with
  | nil=>exact absurd rfl h0
  | cons c l=>exact⟨c,l,rfl⟩
 refine EF.gu a0 func84 rfl ?_;refine EW.seq (EW.go 5 (by kernel_rfl) (EW.seq (EW.draw (by kernel_rfl) (by kernel_rfl) (by kernel_rfl) ?_)));iterate 2
  refine ET.q (by kernel_rfl) (by kernel_rfl) ?_
  refine ET.q (by kernel_rfl) (by kernel_rfl) ?_
  refine ET.q (by kernel_rfl) (by kernel_rfl) ?_
  refine ET.gm s (by kernel_rfl) ?_
  refine ET.op (by kernel_rfl) (bO (b:=b) (off:=1) (v:=.slice (sq d) (c::l).length (c::l).length) rfl underlying55 rfl (by kernel_rfl) hs rfl) ?_
  refine ET.q (by kernel_rfl) (by kernel_rfl) ?_
 refine ET.gm s (by kernel_rfl) (ET.op (by kernel_rfl) (v5 (d:=d) (l:=c::l) (e:=5) (fz:=fz) rfl (by kernel_rfl) (by kernel_rfl) (by kernel_rfl) q5 (by kernel_rfl) (by simp) (by omega)) (ET.q (by kernel_rfl) (by kernel_rfl) ?_));have a1:aE prog 55 (am b 1) s=some (.slice (sq d) (c::l).length (c::l).length):=by unfold aE;simp only[am,hs,underlying55];rfl
 refine ET.nil ⟨aM [(aE prog 55 (am b 1) s,.slice (sq d) (c::l).length (c::l).length),(aE prog 55 (am b 1) s,.slice (sq d) (c::l).length (c::l).length)] (by kernel_rfl) (by simp[aU,a1]),_,_,_,_,_,_,rfl,rfl,?_⟩;refine EW.ret ⟨.inr rfl,by kernel_rfl,?_⟩;refine⟨Nat.le_refl _,fun k hk=>?_⟩;show(s.set d none).get k=_;rw[AS.aK,if_neg (by omega)]
end
section
variable {P:Program}{kt:TypeId→Bool}{pr:Prim}{a:TL}{s s1:AS}{Q:Exit→TL→AS→Prop}{ops:Array Oper}{id:Nat}{y c:Code}{K:TL→AS→Prop}{rest:List Oper}{t:Operand}{o:Oper}{v:Value}{KT:List (TL × Value × AS)→Prop}
theorem zr(k:EO P kt pr ops ops.toList a s fun U s'=>uP P kt pr y Q .normal U s')(h:j8 ops=true:=by kernel_rfl):EW P kt pr (.seq (.region id ops false) y) a s Q:=EW.seq (EW.region h k)
theorem zx(k:EO P kt pr ops ops.toList a s fun U s'=>Q .normal U s')(h:j8 ops=true:=by kernel_rfl):EW P kt pr (.region id ops false) a s Q:=EW.region h k
theorem zf(k:K (oA (cD P kt (br P kt pr 9) ops rest a s)) (oS (cD P kt (br P kt pr 9) ops rest a s)))(h:Tl (cD P kt (br P kt pr 9) ops rest a s)=true:=by kernel_rfl):EO P kt pr ops rest a s K:=EO.fin 9 h k
theorem zs(k:uP P kt pr y Q .normal (cA (eJ P kt pr 9 c a s)) (cS (eJ P kt pr 9 c a s)))(h:Ub (eJ P kt pr 9 c a s)=true:=by kernel_rfl):EW P kt pr (.seq c y) a s Q:=EW.seq (EW.go 9 h k)
theorem zg(k:Nat)(s':AS)(U:EO P kt pr ops (rest.drop k) (oA (cD P kt (br P kt pr 9) ops (rest.take k) a s)) s' K)(h:oT (cD P kt (br P kt pr 9) ops (rest.take k) a s)=some s':=by kernel_rfl):EO P kt pr ops rest a s K:=EO.gs k 9 s' h U
theorem zk(k:Nat)(U:EO P kt pr ops (rest.drop k) (oA (cD P kt (br P kt pr 9) ops (rest.take k) a s)) (oS (cD P kt (br P kt pr 9) ops (rest.take k) a s)) K)(h:Tl (cD P kt (br P kt pr 9) ops (rest.take k) a s)=true:=by kernel_rfl):EO P kt pr ops rest a s K:=EO.go k 9 h U
theorem zc(k:Nat)(U:EF P kt pr g args s' v s1)(kk:EO P kt pr ops (rest.drop (k+1)) (RN (rest.drop k) (oA (cD P kt (br P kt pr 9) ops (rest.take k) a s)) v) s1 K)(h:Un P ops (rest.drop k) (cD P kt (br P kt pr 9) ops (rest.take k) a s)=some (g,args,s'):=by kernel_rfl):EO P kt pr ops rest a s K:=EO.gc k 9 h U kk
theorem za(s':AS)(k:EW P kt pr c a s' Q)(h:s=s':=by kernel_rfl):EW P kt pr c a s Q:=EW.gm s' h k
theorem zo(s':AS)(k:EO P kt pr ops rest a s' K)(h:s=s':=by kernel_rfl):EO P kt pr ops rest a s K:=EO.gm s' h k
theorem zt(s':AS)(k:ET P kt pr ops rest a s' KT)(h:s=s':=by kernel_rfl):ET P kt pr ops rest a s KT:=ET.gm s' h k
theorem zF(k:Q .normal a s)(h:a.at t=.bool false:=by kernel_rfl):EW P kt pr (.cond t y .skip) a s Q:=EW.rK h (EW.skip k)
theorem zT(k:Q .normal a s)(h:a.at t=.bool true:=by kernel_rfl):EW P kt pr (.cond t .skip y) a s Q:=EW.qg h (EW.skip k)
theorem zG(k:EW P kt pr y a s Q)(h:a.at t=.bool false:=by kernel_rfl):EW P kt pr (.cond t c y) a s Q:=EW.rK h k
theorem zH(k:EW P kt pr c a s Q)(h:a.at t=.bool true:=by kernel_rfl):EW P kt pr (.cond t c y) a s Q:=EW.qg h k
theorem zq(k:ET P kt pr ops rest (a.put o.dst (qV (bK P kt (fun _ _ _=>none) a o s))) (qS (bK P kt (fun _ _ _=>none) a o s)) fun tr=>KT ((a,qV (bK P kt (fun _ _ _=>none) a o s),qS (bK P kt (fun _ _ _=>none) a o s))::tr))(h:Region.wanted o (bB ops a)=true:=by kernel_rfl)(U:Xz (bK P kt (fun _ _ _=>none) a o s)=true:=by kernel_rfl):ET P kt pr ops (o::rest) a s KT:=ET.q h U k
theorem zp(e:bK P kt (fun _ _ _=>none) a o s=some (v,s1))(k:EO P kt pr ops rest (a.put o.dst v) s1 K)(h:Region.wanted o (bB ops a)=true:=by kernel_rfl):EO P kt pr ops (o::rest) a s K:=EO.op h e k
theorem zu(e:bK P kt (fun _ _ _=>none) a o s=some (v,s1))(k:ET P kt pr ops rest (a.put o.dst v) s1 fun tr=>KT ((a,v,s1)::tr))(h:Region.wanted o (bB ops a)=true:=by kernel_rfl):ET P kt pr ops (o::rest) a s KT:=ET.op h e k
end
end Go.Proofs.YtgcaionclkbehaaGreatDoor
