
import Derived.Test.YtgcaionclkbehaaGreatDoorE5
set_option linter.all false
set_option maxHeartbeats 2000000
set_option maxRecDepth 100000
namespace Go.Proofs.YtgcaionclkbehaaGreatDoor
open Go.Conc Go.RowKit Go.Lib
variable {b bt c c' cap cp cy m n off sz:Nat}{lo mx:Option Operand}{hi:Option Value}{e it pt t t' ty u:TypeId}{x y:Operand}{v v' x' z:Value}{news us vs xs Vx xsR:Vq}{fz:Nat × Nat}{args cs cur first tmps:Aq}{f:FuncId}{ops:Array Oper}{o:Oper}{call:FuncId->Aq->AS->Option (Value × AS)}{s s':AS}{α β:Type}
variable {P:Program}{S:cb}
section
def jC{sl:Bool}{l h:Nat}{lo:Option Value}(e:bD n c lo hi=some (l,h))(hc:c<=c')(hn:n<=c):gn P (Instr.sliceBounds sl n c' lo hi none)=some (l,h,c')/\l<=h/\h<=c:=by
 unfold bD at e;split at e
 .split at e
  .cases e;exact⟨by simp[Instr.sliceBounds],Nat.zero_le _,hn⟩
  .next k i =>
   split at e
   .next hi =>cases e;exact⟨by simp[Instr.sliceBounds,Instr.sliceBound,asIntOf,hi],by omega,hn⟩
   .cases e
  .cases e
 .next k i =>
  split at e
  .next hi =>
   have h1:0<=i/\i<=(c':Int):=oq
   split at e
   .cases e;exact⟨by simp[Instr.sliceBounds,Instr.sliceBound,asIntOf,h1],Nat.zero_le _,by omega⟩
   .next k2 i2 =>
    split at e
    .next hi2 =>
     cases e;have h2:0<=i2/\i2<=((i.toNat:Nat):Int):=oq
     refine⟨?_,by omega,by omega⟩;simp only[Instr.sliceBounds,Instr.sliceBound,asIntOf,dA,jO,Bs,ip h1,ip h2]
    .cases e
   .cases e
  .cases e
 .cases e
def qR{lo:Option Value}{r:Nat × Nat}(e:bD n c lo hi=some r):(∀v,lo=some v->dX v=true)/\(∀v,hi=some v->dX v=true):=by
 unfold bD at e;split at e
 .split at e
  .simp
  .exact⟨λv h=>by cases h;rfl,by simp⟩
  .cases e
 .split at e
  .split at e
   .exact⟨iq,λv h=>by cases h;rfl⟩
   .exact⟨λv h=>by cases h;rfl,λv h=>by cases h;rfl⟩
   .cases e
  .cases e
 .cases e
end
variable {ι:Type}{KT:TypeId->Prop}{An:cb}{fn:FuncId}{a:Act}{w:World}{l fr:Hq}{aA:TL}{j:Nat}{rest:List Nat}{kt:TypeId->Bool}
variable {N0:ι->Nat}{M:ι->World->Nat->Prop}{O:ι->Nat->Prop}{R:ι->Wq}{D:ι->World->World->Array Event->Prop}{X:ι->Gq}{Hd:ι->Hq->World->Prop}
variable {Q:ei ι}{i:ι}{s s':AS}{v:Value}{ops:Array Oper}{o:Oper}
section
def mj(b:∀x,lo=some x->VR S (aA.at x) (a.eval x))(h:∀v,lo.map aA.at=some v->dX v=true):lo.map a.eval=lo.map aA.at:=by
 cases lo with
 | none=>rfl
 | some x=>simp;exact(b x rfl).sc (h _ rfl)
theorem AY{hi:Option Operand}(Y:o.op=.slice t x lo hi mx)(G:eI S aA a o)(hS:eT P KT An S s l)(h:fX P t (aA.at x) (lo.map aA.at) (hi.map aA.at) (mx.map aA.at) s=some v):∃v',VR S v v'/\gn P (execOp a.eval o)=some (.value v'):=by
 unfold eI at G;rw[Y] at G;have D:=G x (by simp[Op.operands]);have A:∀y,lo=some y->VR S (aA.at y) (a.eval y):=λy N=>G y (by simp[Op.operands,N]);have w:∀y,hi=some y->VR S (aA.at y) (a.eval y):=λy N=>G y (by simp[Op.operands,N]);have T:∀y,mx=some y->VR S (aA.at y) (a.eval y):=λy N=>G y (by simp[Op.operands,N]);have m:∀d,P.underlying t=some d->(∀n e,d≠.array n e)->gn P (execOp a.eval o)=(gn P (Instr.slice t (a.eval x) (lo.map a.eval) (hi.map a.eval) (mx.map a.eval))).map .value:=λd q hd=>by simp only[execOp,Y,Instr.sliceAt,dA,dB,q,Bs];cases d<;>first|exact absurd rfl (hd _ _)|(cases gn P (Instr.slice t (a.eval x) (lo.map a.eval) (hi.map a.eval) (mx.map a.eval))<;>rfl)
 unfold fX at h;split at h
 .next e b j n c q u C =>
  rw[u] at D;have⟨g,z,E,B,h1,h2,h3,Z,h5,h6⟩:=D.sl;split at h
  .next X cs bt fz M hb =>
   split at h
   .next Q =>
    subst Q;split at h
    .next f H U =>
     have⟨J,K⟩:=qR U;have⟨p,L,F⟩:=jC (P:=P) (sl:=true) U Z h3;have⟨g',z',e2,W,h7,_,_,h8⟩:=hS.live b _ hb;rw[h1] at h7;cases h7;have R:E=X:=gq
     subst R;have I:mx=none:=by cases mx with
      | none=>rfl
      | some y=>simp at C
     have i:=m _ q iq;rw[I,h2,mj A J,mj w K] at i;simp only[Option.map_none,Instr.slice,dA,dB,q,Bs,p,l6,M,jO,Option.map_some] at i;split at h
     .next a9 =>
      cases h;have a7:B≠f:=oq
      rw[iw a7,Addr.add_lit] at i;refine⟨.slice (some ⟨g,j+f*E,none⟩) (H-f) (B-f),?_,i⟩;refine VR.Af h1 oq oq oq ?_;rw[<-h6,Nat.sub_mul];have:f*E<=B*E:=Nat.mul_le_mul_right _ oq;omega
     .split at h
      .next a6 =>
       cases h;subst a6;have:∃W,(Value.slice (if B=f then some (⟨g,j,none⟩:Addr) else some ((⟨g,j,none⟩:Addr).add (f*E))) (f-f) (B-f))=.slice (some ⟨g,W,none⟩) 0 (B-f):=by
        split
        .exact⟨j,by simp⟩
        .exact⟨j+f*E,by simp[Addr.add_lit]⟩
       have⟨W,a8⟩:=this;rw[a8] at i;exact⟨_,VR.Eu h1 oq oq,i⟩
      .cases h
    .cases h
   .cases h
  .cases h
 .next e b j n c k q u C =>
  rw[u] at D;have⟨g,z,E,B,h1,h2,h3,Z,h5,h6⟩:=D.sl;split at h
  .next X k2 M hl hh =>
   cases h;have i:=m _ q iq;rw[h2,mj A (by rw[hl];simp),mj w (by rw[hh];intro v u;cases u;rfl),mj T (by rw[C];intro v u;cases u;rfl),hl,hh,C] at i;refine⟨.slice (some ⟨g,j,none⟩) 0 0,VR.Eu h1 iq (by simp[maxLen]),?_⟩;rw[i];have O:(0:Int)<=0/\(0:Int)<=((B:Nat):Int):=oq
   have a5:(0:Int)<=0/\(0:Int)<=(((0:Int).toNat:Nat):Int):=iq
   simp only[Instr.slice,dA,dB,q,Bs,Instr.sliceBounds,Instr.sliceBound,asIntOf,jO,ip O,ip a5,l6,M];simp
  .cases h
 .next str q u C =>
  rw[u] at D;split at h
  .next f H U =>
   cases h;have⟨J,K⟩:=qR U;have⟨p,L,F⟩:=jC (P:=P) (sl:=false) U lr lr;have I:mx=none:=by cases mx with
    | none=>rfl
    | some y=>simp at C
   have i:=m _ q iq;have V:jg str.data.toList 0=str.size:=by rw[iO,Nat.zero_add,KF];rfl
   rw[V] at p F;rw[I,D.sc rfl,mj A J,mj w K] at i;refine⟨_,VR.dx rfl,?_⟩;rw[i];have Q:(⟨((str.data.toList.take H).drop f).toArray⟩:ByteArray)=str.extract f H:=by apply oH;simp[ByteArray.data_extract,List.drop_take]
   rw[Q];simp[Instr.slice,q,p]
  .cases h
 .next e q u C =>
  rw[u] at D;split at h
  .next X r M U =>
   cases h;have⟨f,H⟩:=r;have⟨J,K⟩:=qR U;have⟨p,L,F⟩:=jC (P:=P) (sl:=true) U lr lr;have I:mx=none:=by cases mx with
    | none=>rfl
    | some y=>simp at C
   have i:=m _ q iq;rw[I,D.sc rfl,mj A J,mj w K] at i;refine⟨_,VR.dx rfl,?_⟩;rw[i];have O:H=0:=oq
   have h1:f=0:=oq
   subst O h1;simp[Instr.slice,q,p,M]
  .cases h
 .cases h
def JM(Y:Cy P KT N0 M O R D X Hd)(n:ops[j]?=some o)(p:Region.wanted o (yielded ops a.tmps)=true){hi:Option Operand}(c:o.op=.slice t x lo hi mx)(f:eI S aA a o)(e:eT P KT An S s l)(g:Hd i (l++fr) w)(h:fX P t (aA.at x) (lo.map aA.at) (hi.map aA.at) (mx.map aA.at) s=some v)
 (k:Out P KT An Hd S s s fr v λq d r=>ce X fn ops rest q Q (a.put o.dst d) r):ce X fn ops (j::rest) i Q a w:=by have⟨d,h1,h2⟩:=AY c f e h;refine cV Y.C Y.T n p λb K m=>?_;rw[(kB h2 b #[]).1];exact m _ (k i S l w d (cb.le_refl S) (λ_ _=>rfl) e g h1) (kB h2 b #[]).2
end
variable {rl:Hq}
section
variable {Q:ei ι}{i:ι}{s s':AS}{v:Value}{ops:Array Oper}{o:Oper}{H:Hq->World->Prop}
theorem kR(C:bW P true R D X)(Z:Co KT (N0 i) (M i) (O i) (R i) (D i) H){bytes:Nat}(k:Nat)(ho:ops[j]?=some o)(hw:Region.wanted o (yielded ops a.tmps)=true)(F:o.op=.call { callee:=.builtin .append,args:=#[x,y],argTypes:=#[t,t] })
 (E:∀w,(Builtin.append_ #[t,t] o.type #[a.eval x,.slice (some ⟨bt,off,none⟩) m c]).run P w=(Builtin.append_ #[t,t] o.type #[v,.slice (some ⟨bt,off,none⟩) m c]).run P w/\(Builtin.append_ #[t,t] o.type #[a.eval x,.slice (some ⟨bt,off,none⟩) m c]).events P w #[]=(Builtin.append_ #[t,t] o.type #[v,.slice (some ⟨bt,off,none⟩) m c]).events P w #[])(G:a.eval y=.slice (some ⟨bt,off,none⟩) m c)(he:¬KT e)(ht:P.underlying t=some (.slice e))(hi:(P.info? e).map (λi=>(i.zero,i.size,i.bytes))=some (some z,sz,bytes))(hz:z.cells.size=sz)(N:0<sz)(hm:0<m)(r:news.length=m*sz)(h1:∀u∈news,u.oneCell'=true)(hn:n+m<=maxLen)(J:(n+m)*bytes<=140737488355328)
 (S:H (rl++l) w)(hk:l[k]?=some (bt,.cells cur t' fz))(I:∀j u,news[j]?=some u->cur[off+j]?=some u)(hr:iY e sz v n xs rl)
 (h:∀q U g,H (U++l) g->mA e sz q (n+m) (xs++news) U->ce X fn ops rest i Q (a.put o.dst q) g):ce X fn ops (j::rest) i Q a w:=by
 refine aG C ho hw λb W K T=>?_;have d:=Z.rely S W;have p:(bt,Obj.cells cur t' fz)∈rl++l:=Jp _ (List.mem_of_getElem? hk);obtain⟨A,Y⟩:=Z.own d p;obtain⟨q,g,U,f,s,B,V,_,_,Cj,_⟩:=HL.Lr (l:=[]) (rl:=rl) Z.env he (by simpa using(Z.hl d).left.mm) hr t o.type z bytes ht hi hz N ⟨bt,off,none⟩ m c hm r (λj u hu=>by rw[Addr.add_lit]; simp[World.cell?,Y,I j u hu]) A h1 hn J
 .have s:HL (M i) (O i) (N0 i) (kN rl) b U g:=by simpa using s
  have L:(execOp a.eval o).run P b=.ok (.value q) g:=by unfold execOp;simp only[F,resolve,invoke,builtin,Sem.run_bind,Sem.run_pure,Result.andThen_ok,List.map_toArray,rp,List.map_nil,G,(E b).1,f]
  have a7:(execOp a.eval o).events P b #[]=(Builtin.append_ #[t,t] o.type #[v,.slice (some ⟨bt,off,none⟩) m c]).events P b #[]:=by unfold execOp;simp only[F,resolve,invoke,builtin,Sem.events_bind,Sem.run_pure,Sem.events_pure,Result.evThen_ok,List.map_toArray,rp,List.map_nil,G,(E b).1,(E b).2,f]
  rw[L];refine T _ _ ⟨Z.env.jb (Z.size d) V λev r=>?_,h q U g (Z.call d s) B⟩;have r:=mem_listed r;grind
theorem nt(C:bW P true R D X)(Z:Co KT (N0 i) (M i) (O i) (R i) (D i) H){str:ByteArray}(S:ops[j]?=some o)(Y:Region.wanted o (yielded ops a.tmps)=true)(r:o.op=.call { callee:=.builtin .append,args:=#[x,y],argTypes:=#[t,u] })
 (s:a.eval x=v)(z:a.eval y=.string str)(L:¬KT e)(V:P.underlying t=some (.slice e))(W:P.underlying u=some .string)(hi:(P.info? e).map (λi=>(i.zero,i.size,i.bytes))=some (some (.int .u8 0),1,1))(N:n+str.size<=140737488355328)
 (F:H (rl++l) w)(T:iY e 1 v n xs rl)
 (h:∀k U f,H (U++l) f->iY e 1 k (n+str.size) (xs++strCells str) U->ce X fn ops rest i Q (a.put o.dst k) f):ce X fn ops (j::rest) i Q a w:=by
 refine aG C S Y λc J K G=>?_;have b:=Z.rely F J;obtain⟨k,f,U,d,g,⟨q,_⟩,I,_,_,p⟩:=HL.BK (l:=[]) (rl:=rl) Z.env L (by simpa using(Z.hl b).left.mm) T t u o.type V W hi str N;have g:HL (M i) (O i) (N0 i) (kN rl) c U f:=gq
 have B:(execOp a.eval o).run P c=.ok (.value k) f:=by unfold execOp;simp only[r,resolve,invoke,builtin,Sem.run_bind,Sem.run_pure,Result.andThen_ok,List.map_toArray,rp,List.map_nil,s,z,d]
 have A:(execOp a.eval o).events P c #[]=(Builtin.append_ #[t,u] o.type #[v,.string str]).events P c #[]:=by unfold execOp;simp only[r,resolve,invoke,builtin,Sem.events_bind,Sem.run_pure,Sem.events_pure,Result.evThen_ok,List.map_toArray,rp,List.map_nil,s,z,d]
 rw[B];refine G _ _ ⟨Z.env.jb (Z.size b) I λE m=>?_,h k U f (Z.call b g) q⟩;have m:=mem_listed m;rw[A] at m;exact p E m
theorem eT.erased(U:eT P KT An S s l){g z e k:Nat}{o':Obj}(p:S b=some (g,z,e))(o:s.get b≠none)(q:l[k]?=some (g,o')):eT P KT An S (s.set b none) (l.eraseIdx k) where
 live b' o1 h1:=by
  rw[AS.bn] at h1
  split at h1
  .
   cases h1
  .
   next d =>
   have⟨a,t,h,c,h2,h3,j,n⟩:=U.live b' o1 h1
   refine⟨a,t,h,c,h2,?_,j,n⟩
   have⟨r,f⟩:=Option.ne_none_iff_exists'.1 o
   have u:a≠g:=λi=>d (U.inj b' b o1 r _ _ h1 f h2 p i)
   have v:(a,c)∈(g,o')::l.eraseIdx k:=(ml q).mem_iff.2 h3
   grind
 inj m m' o1 o2 x x' h1 h2:=by
  rw[AS.bn] at h1 h2
  split at h1
  .
   cases h1
  .
   split at h2
   .
    cases h2
   .
    exact U.inj m m' o1 o2 x x' h1 h2
 lt m o1 h1:=by
  rw[AS.bn] at h1
  split at h1
  .
   cases h1
  .
   exact U.lt m o1 h1
 an:=U.an
theorem lk(Y:Cy P KT N0 M O R D X Hd)(u:eT P KT An S s l){h:Hq}(B:0<n)(C:0<sz)(r:Hd i (h++(l++fr)) w)(z:iY e sz v' n xsR h)(c:S s.nx=none)(o:bP P e=some sz)(q:¬KT e)(U:Vx.length=n*sz)
 (k:∀(m:Nat) (x y:Value),Vx[m]?=some x->xsR[m]?=some y->VR S x y):∃a j,S.le a/\(∀b,b<s.nx\/s.nx+1<=b->a b=S b)/\eT P KT An a (s.add (.cells Vx.toArray e (1,1))) j/\Hd i (j++fr) w/\VR a (.slice (sq s.nx) n n) v':=by
 rcases z.2 with ⟨_,h0,_⟩|⟨g,cap,cur,rfl,rfl,h1,h2,h3,h4⟩
 .omega
 have f:Hd i ((g,Obj.cells cur e)::l++fr) w:=r;have d:OR (S.put s.nx (g,cur.size,sz)) cur.size (.cells Vx.toArray e (1,1)) (.cells cur e):=by
  refine⟨cur,rfl,rfl,⟨?_,λp=>by cases p⟩,λm x y A I=>?_⟩
  .simp;rw[U,h3];exact Nat.mul_le_mul_right _ h1
  .have H:m<n*sz:=by rw[<-U];have:=(oK.1 A).1;simpa using this
   refine(k m x y gq ?_).mono (cb.kO c);grind
 refine⟨S.put s.nx (g,cur.size,sz),_,cb.kO c,λb G=>?_,u.grown c (Y.fresh f) d λE t F v=>?_,f,VR.Af cb.iX lr h1 h2 gq⟩
 .unfold cb.put;rw[iw oq]
 .cases v;exact⟨o,q⟩
theorem BR(j:eT P KT An S s l){ad:Addr}(q:VR S (.slice (some ad) n c) v')(h:ep s sz (some ad) n=some xs)(D:0<n) :
  ∃(g c' k:Nat) (U:Aq) (t:TypeId),v'=.slice (some ⟨g,ad.off,none⟩) n c'/\l[k]?=some (g,.cells U t)/\xs.length=n*sz/\ad.off+n*sz<=U.size/\∀(m:Nat) (x y:Value),xs[m]?=some x->((U.toList.drop ad.off).take (n*sz))[m]?=some y->VR S x y:=by
 obtain⟨g,z,e,r,c',h1,rfl,h3,B,f⟩:=q.kT;have f:r=ad.off:=oq
 subst f;have⟨b,u,sp⟩:=ad;unfold ep at h;simp only at h;split at h
 .next w t A o =>
  split at h
  .next v =>cases h;have⟨F,G,C,p,_,d,_⟩:=j.at (fr:=[]) o h1;obtain⟨U,rfl,E,⟨i,_⟩,a⟩:=d;grind
  .cases h
 .cases h
theorem AH(q:eT P KT An S s l)(B:VR S (.slice (sq b) n c) v')(r:s.get b=some (.cells cs t fz))(w:t=e)(E:bP P e=some sz)(H:n*sz<=cs.size) :
  ∃(g z a k:Nat) (U:Aq),S b=some (g,z,a)/\l[k]?=some (g,.cells U e)/\iY e sz v' n (U.toList.take (n*sz)) [(g,.cells U e)]/\∀(m:Nat) (x y:Value),(cs.toList.take (n*sz))[m]?=some x->(U.toList.take (n*sz))[m]?=some y->VR S x y:=by
 subst w;obtain⟨g,z,a,o,h1,rfl,h3,F,p,G⟩:=B.sl;have⟨D,J,u,v,_,h,A⟩:=q.at (fr:=[]) r h1;obtain⟨U,rfl,I,⟨j,_⟩,d⟩:=h;have f:a=sz:=gq
 subst f;refine⟨g,z,a,D,U,h1,u,⟨by simp;omega,.inr ⟨g,o,U,rfl,rfl,by omega,p,by omega,rfl⟩⟩,λm x y i C=>?_⟩;rw[Bu] at i C;split at i
 .grind
 .cases i
theorem Dp{ys:Vq}(h1:xs.length=ys.length)(a:∀(m:Nat) (x y:Value),xs[m]?=some x->ys[m]?=some y->VR S x y)(U:∀(m:Nat) (x y:Value),us[m]?=some x->vs[m]?=some y->VR S x y):∀(m:Nat) (x y:Value),(xs++us)[m]?=some x->(ys++vs)[m]?=some y->VR S x y:=gq
theorem ML{ys:Vq}(h1:xs.length=ys.length)(c:∀(m:Nat) (x y:Value),xs[m]?=some x->ys[m]?=some y->VR S x y)(h:xs.all Value.oneCell'=true):∀u∈ys,u.oneCell'=true:=by
 intro u U;have⟨m,b⟩:=List.mem_iff_getElem?.1 U;have d:=(gS.1 b).1;have a:m<xs.length:=oq
 rw[(c m _ u (gE a) b).Ey];grind
section
variable (ht:P.underlying t=some (.slice e))
def yQ{a ad:Option Addr}(d:bP P e=some sz)(b:n<=cap):gn P (Builtin.append_ #[t,t] ty #[.slice a n cap,.slice ad 0 c])=some (.slice a n cap):=by unfold Builtin.append_;cases a<;>cases ad<;>simp[ht,d,Builtin.lenOf,Builtin.firstCells,loadCells,loadCellsFrom,storeCells,b]
def wX{a:Option Addr}{str:ByteArray}(g:P.underlying u=some .string)(f:bP P e=some sz)(d:n<=cap)(c:str.size=0):gn P (Builtin.append_ #[t,u] ty #[.slice a n cap,.string str])=some (.slice a n cap):=by
 have h1:(str.extract 0 0).data.map (λb=>Value.int .u8 b.toNat)=#[]:=by apply uX.1;simp
 unfold Builtin.append_;cases a<;>simp[ht,g,f,Builtin.lenOf,Builtin.firstCells,storeCells,d,c]
def yN{bytes:Nat}{p q:Addr}(hi:(P.info? e).map (λi=>(i.zero,i.size,i.bytes))=some (some z,sz,bytes))(d:0<m)(g:m*bytes<=140737488355328)(w:World) :
  (Builtin.append_ #[t,t] ty #[.slice (some p) 0 0,.slice (some q) m c]).run P w=(Builtin.append_ #[t,t] ty #[.slice none 0 0,.slice (some q) m c]).run P w /\
  (Builtin.append_ #[t,t] ty #[.slice (some p) 0 0,.slice (some q) m c]).events P w #[]=(Builtin.append_ #[t,t] ty #[.slice none 0 0,.slice (some q) m c]).events P w #[]:=by
 have⟨h,hi,h1,h2,h3⟩:=info_parts hi;have b:¬Builtin.nextslicecap m 0*bytes>2 ^ 48:=by
  have:Builtin.nextslicecap m 0=m:=by simp[Builtin.nextslicecap,d]
  rw[this];omega
 have f:¬m<=0:=oq
 have a:m≠0:=oq
 unfold Builtin.append_;constructor;iterate 2
  .simp[run_underlying ht,sizeOf,typeInfo,hi,h2,h3,Builtin.lenOf,Builtin.firstCells,loadCells,loadCellsFrom,a,b]
end
end
section
def xI(Y:Cy P KT N0 M O R D X Hd)(ho:ops[j]?=some o)(hw:Region.wanted o (yielded ops a.tmps)=true)(hS:eT P KT An S s l)(hF:Hd i (l++fr) w)(h:gn P (execOp a.eval o)=some (.value v'))(hv:VR S v v')
 (k:Out P KT An Hd S s s fr v λi' v' w'=>ce X fn ops rest i' Q (a.put o.dst v') w'):ce X fn ops (j::rest) i Q a w:=by refine cV Y.C Y.T ho hw λaE K hK=>?_;rw[(kB h aE #[]).1];exact hK _ (k i S l w v' (cb.le_refl S) (λ_ _=>rfl) hS hF hv) (kB h aE #[]).2
def r8{c:Call}{b:Builtin}{r:Value}(ko:o.op=.call c)(XY:c.callee=.builtin b)(tZ:c.args=#[x,y])(hts:c.argTypes=#[t,u])
 (h:gn P (match b with|.append=>Builtin.append_ #[t,u] o.type #[a.eval x,a.eval y]|_=>Builtin.unsafeString_ #[t,u] o.type #[a.eval x,a.eval y])=some r)(hb:b=.append\/b=.unsafeString):gn P (execOp a.eval o)=some (.value r):=by
 rcases hb with rfl|rfl
 iterate 2
  .simp only at h;simp[execOp,ko,resolve,XY,invoke,builtin,tZ,hts,h]
theorem Gp(Y:Cy P KT N0 M O R D X Hd)(a8:∀t,kt t=false->¬KT t)(ho:ops[j]?=some o)(hw:Region.wanted o (yielded ops a.tmps)=true)(aa:o.op=.call { callee:=.builtin .append,args:=#[x,y],argTypes:=#[t,t] })(hA:eI S aA a o)(H:eT P KT An S s l)(N:Hd i (l++fr) w)
 {yy:Option Addr}{bytes:Nat}(b5:aA.at y=.slice yy m cy)(ht:P.underlying t=some (.slice e))(hi:(P.info? e).map (λi=>(i.zero,i.size,i.bytes))=some (some z,sz,bytes))(a6:ep s sz yy m=some news)(hz:z.cells.size=sz)(a9:0<sz)(av:bytes<=1000)(b4:m<=1000000000)(a7:kt e=false)(al:dR (aA.at x) yy=true)(ar:news.all Value.oneCell'=true)
 (h:bK P e (aA.at x) news m s=some (v,s'))(af:∀b,s.nx<=b->b<s'.nx->S b=none)
 (k:Out P KT An Hd S s s' fr v λi' v' w'=>ce X fn ops rest i' Q (a.put o.dst v') w'):ce X fn ops (j::rest) i Q a w:=by
 have ba:=hA;unfold eI at hA;rw[aa] at hA;have F:=hA x (by simp[Op.operands,Call.operands]);have hy:=hA y (by simp[Op.operands,Call.operands]);rw[b5] at hy;obtain⟨i0,Yf,h1z,XF,P5⟩:=info_parts hi;have f:bP P e=some sz:=by simp[bP,Yf,XF]
 have a4:∀n,n<=1000000000->n*bytes<=140737488355328:=λn hn=>Nat.le_trans (Nat.mul_le_mul hn av) (by omega);by_cases A:m=0
 .
  subst A;have U:∃p c,a.eval y=.slice p 0 c:=by
   cases yy with
   | none=>rw[hy.sc rfl]; exact⟨_,_,rfl⟩
   | some p=>obtain⟨g,z,e,o',c',_,h2,_⟩:=hy.kT; exact⟨_,_,h2⟩
  obtain⟨p,c,U⟩:=U;have key:∀G n L,a.eval x=.slice G n L->n<=L->gn P (execOp a.eval o)=some (.value (a.eval x)):=λG n L he hn =>r8 aa rfl rfl rfl (by simp only; rw[he,U]; exact yQ ht f hn) (.inl rfl);unfold bK at h;split at h
  .next E =>simp only[if_true] at h;cases h;rw[E] at F;have ag:=F.sc rfl;exact xI Y ho hw H N (key _ _ _ ag (jl _)) (by grind) k
  .next b n cp E =>simp only[if_true] at h;cases h;rw[E] at F;obtain⟨g,z',e',c',h1,h2,h3,h4,_⟩:=F.sl;exact xI Y ho hw H N (key _ _ _ h2 (by omega)) (by grind) k
  .simp at h
  .cases h
 .have K:0<m:=by omega
  obtain⟨p,rfl⟩:∃p,yy=some p:=by
   cases yy with
   | none=>simp[ep,A] at a6
   | some p=>exact⟨p,rfl⟩
  obtain⟨gy,b9,ky,J,ty,U,b1,ab,bc,a5⟩:=BR H hy a6 K;have W:((J.toList.drop p.off).take (m*sz)).length=m*sz:=by simp; omega
  have a3:=ML (by grind) a5 ar;have d:∀(q:Nat) (u:Value),((J.toList.drop p.off).take (m*sz))[q]?=some u->J[p.off+q]?=some u:=λq u hu=>by
   rw[Bu] at hu;split at hu
   .rw[K2] at hu; simpa using hu
   .cases hu
  unfold bK at h;split at h
  .next E =>
   rw[if_neg A] at h;cases h;rw[E] at F;have ag:=F.sc rfl;have T:(l++fr)[ky]?=some (gy,.cells J ty):=by grind
   refine kR Y.C (Y.Z N) ky ho hw aa (λw=>by rw[ag]; exact⟨rfl,rfl⟩) U (a8 e a7) ht hi hz a9 K W a3 (by simp[maxLen]; omega) (a4 _ (by omega)) (by grind) T d (mA.nil e sz).zero λv' V8 w' r B=>?_;obtain⟨S',l',h1,h2,h3,h4,h5⟩:=lk Y H K a9 r (by simpa using B.zero) (af _ (jl _) (by simp)) f (a8 e a7) ab a5;exact k i S' l' w' v' h1 h2 h3 h4 h5
  .next b n cp E =>
   rw[if_neg A] at h;split at h
   .next cs t' fz bd hb au =>
    rw[f] at au;cases au;split at h
    .next hc =>
     obtain⟨aw,ax,ay⟩:=hc;cases h;rw[E] at F;obtain⟨g,zz,e',kx,aj,h1,V,I,TR⟩:=AH H F hb aw f ax;have az:gy≠g:=by
      rintro rfl;obtain⟨b2,off2,sp2⟩:=p;have ah:∃z2 e2,S b2=some (gy,z2,e2):=by obtain⟨g2,z2,e2,o2,c2,q1,q2,_⟩:=hy.kT;rw[U] at q2;cases q2;exact⟨z2,e2,q1⟩
      obtain⟨z2,e2,ah⟩:=ah;have ae:∃ai,s.get b2=some ai:=by
       unfold ep at a6;simp only at a6;split at a6
       .next q _ _ hq=>exact⟨_,hq⟩
       .cases a6
      obtain⟨ai,ae⟩:=ae
      have:=H.inj b2 b ai _ _ _ ae hb ah h1 rfl;rw[E] at al;simp[dR,this] at al
     have ao:=(List.getElem?_eq_some_iff.1 V).1;have Yh:(l++fr)[kx]?=some (g,.cells aj e):=by grind
     have ak:=(Y.Z N).front N kx Yh;rw[List.eraseIdx_append_of_lt_length ao] at ak;have Qj:(gy,Obj.cells J ty)∈l.eraseIdx kx++fr:=by
      refine G8 _ ?_;have b3:(gy,Obj.cells J ty)∈(g,Obj.cells aj e)::l.eraseIdx kx:=(ml V).mem_iff.2 (List.mem_of_getElem? b1);rcases nk.1 b3 with q|q
      .cases q; exact absurd rfl az
      .exact q
     obtain⟨b6,aq⟩:=List.mem_iff_getElem?.1 Qj;refine kR Y.C (Y.Z N) b6 ho hw aa (λw=>⟨rfl,rfl⟩) U (a8 e a7) ht hi hz a9 K W a3 (by simp[maxLen]; omega) (a4 _ ay) ak aq d I λv' V8 w' r B=>?_;have Oo:=H.erased h1 (by rw[hb]; simp) V;have hlx:(cs.toList.take (n*sz)).length=n*sz:=by simp; omega
     have b8:=I.1;obtain⟨S',l',q1,q2,q3,q4,q5⟩:=lk Y Oo (by omega) a9 r B.zero (af _ (jl _) (by simp)) f (a8 e a7) (by grind) (Dp (by grind) TR a5);exact k i S' l' w' v' q1 q2 q3 q4 q5
    .cases h
   .cases h
  .next E =>
   rw[if_neg A] at h;cases h;rw[E] at F;obtain⟨g,zz,e',o',c',h1,h2,h3,h4,h5⟩:=F.Nl;have Qd:=h4 rfl;subst Qd;have T:(l++fr)[ky]?=some (gy,.cells J ty):=by grind
   refine kR Y.C (Y.Z N) ky ho hw aa (λw=>by rw[h2]; exact yN ht hi K (a4 _ b4) w) U (a8 e a7) ht hi hz a9 K W a3 (by simp[maxLen]; omega) (a4 _ (by omega)) (by grind) T d (mA.nil e sz).zero λv' V8 w' r B=>?_;obtain⟨S',l',q1,q2,q3,q4,q5⟩:=lk Y H K a9 r (by simpa using B.zero) (af _ (jl _) (by simp)) f (a8 e a7) ab a5;exact k i S' l' w' v' q1 q2 q3 q4 q5
  .cases h
def my(str:ByteArray):∀(m:Nat) (x y:Value),(strCells str)[m]?=some x->(strCells str)[m]?=some y->VR S x y:=λm x y a c=>by rw[a] at c;cases c;unfold strCells at a;rw[List.getElem?_map,p7] at a;obtain⟨b,_,rfl⟩:=a;exact VR.dx rfl
theorem CL(Y:Cy P KT N0 M O R D X Hd)(T:∀t,kt t=false->¬KT t)(ho:ops[j]?=some o)(hw:Region.wanted o (yielded ops a.tmps)=true)(W:o.op=.call { callee:=.builtin .append,args:=#[x,y],argTypes:=#[t,u] })(hA:eI S aA a o)(H:eT P KT An S s l)(F:Hd i (l++fr) w)
 {str:ByteArray}(ae:aA.at y=.string str)(ht:P.underlying t=some (.slice e))(hu:P.underlying u=some .string)(hi:(P.info? e).map (λi=>(i.zero,i.size,i.bytes))=some (some (.int .u8 0),1,1))(ah:str.size<=1000000000)(U:kt e=false)(a7:iU (aA.at x)=true)
 (h:bK P e (aA.at x) (strCells str) str.size s=some (v,s'))(a5:∀b,s.nx<=b->b<s'.nx->S b=none)
 (k:Out P KT An Hd S s s' fr v λi' L N=>ce X fn ops rest i' Q (a.put o.dst L) N):ce X fn ops (j::rest) i Q a w:=by
 unfold eI at hA;rw[W] at hA;have p:=hA x (by simp[Op.operands,Call.operands]);have hy:=hA y (by simp[Op.operands,Call.operands]);rw[ae] at hy;have E:=hy.sc rfl;obtain⟨i0,Yf,h1z,XF,P5⟩:=info_parts hi;have c:bP P e=some 1:=by simp[bP,Yf,XF]
 have a6:(strCells str).length=str.size*1:=by rw[strCells_length,Nat.mul_one]
 by_cases V:str.size=0
 .have K:∀f n q,a.eval x=.slice f n q->n<=q->gn P (execOp a.eval o)=some (.value (a.eval x)):=λf n q he hn =>r8 W rfl rfl rfl (by simp only; rw[he,E]; exact wX ht hu c hn V) (.inl rfl);rw[V] at h;unfold bK at h;split at h
  .next d =>simp only[if_true] at h;cases h;rw[d] at p;have B:=p.sc rfl;exact xI Y ho hw H F (K _ _ _ B (jl _)) (by grind) k
  .next b n cp d =>simp only[if_true] at h;cases h;rw[d] at p;obtain⟨g,z',e',c',h1,h2,h3,h4,_⟩:=p.sl;exact xI Y ho hw H F (K _ _ _ h2 (by omega)) (by grind) k
  .simp at h
  .cases h
 .have ab:0<str.size:=by omega
  unfold bK at h;split at h
  .next d =>rw[if_neg V] at h;cases h;rw[d] at p;have B:=p.sc rfl;refine nt Y.C (Y.Z F) (rl:=[]) (l:=l++fr) (xs:=[]) (n:=0) ho hw W B E (T e U) ht hu hi (by omega) (by grind) (mA.nil e 1).zero λL V8 N r z=>?_;obtain⟨S',l',h1,h2,h3,h4,h5⟩:=lk Y H ab (by omega) r (by simpa using z) (a5 _ (jl _) (by simp)) c (T e U) a6 (my str);exact k i S' l' N L h1 h2 h3 h4 h5
  .next b n cp d =>
   rw[if_neg V] at h;split at h
   .next cs t' fz ai hb a8 =>
    rw[c] at a8;cases a8;split at h
    .next hc =>
     obtain⟨a9,aa,ag⟩:=hc;cases h;rw[d] at p;obtain⟨g,zz,e',kx,G,h1,J,m,A⟩:=AH (l:=l) H p hb a9 c aa;have I:=(List.getElem?_eq_some_iff.1 J).1;have Yh:(l++fr)[kx]?=some (g,.cells G e):=by grind
     have a4:=(Y.Z F).front F kx Yh;rw[List.eraseIdx_append_of_lt_length I] at a4;refine nt Y.C (Y.Z F) (rl:=[(g,.cells G e)]) (l:=l.eraseIdx kx++fr) ho hw W rfl E (T e U) ht hu hi (by omega) a4 m λL V8 N r z=>?_;have Oo:=H.erased h1 (by rw[hb]; simp) J;have hlx:(cs.toList.take (n*1)).length=n*1:=by simp; omega
     have af:=m.1;obtain⟨S',l',q1,q2,q3,q4,q5⟩:=lk Y Oo (by omega) (by omega) r z (a5 _ (jl _) (by simp)) c (T e U) (Vx:=cs.toList.take (n*1)++strCells str) (by grind) (Dp (by grind) A (my str));exact k i S' l' N L q1 q2 q3 q4 q5
    .cases h
   .cases h
  .next d =>rw[d] at a7;simp[iU] at a7
  .cases h
def kK:∀{l:Vq} {bs:Bq},kz l=some bs->l=bs.map λb=>Value.int .u8 b.toNat
 | [],bs,h=>by simp[kz] at h;subst h;rfl
 | x::l,bs,h=>by
  unfold kz at h;split at h
  .next e=>cases e
  .next y r e =>
   cases e;split at h
   .next hr =>
    split at h
    .next bs' hb =>
     cases h;rw[kK hb];simp only[rp];congr 2;have:(y.toNat.toUInt8).toNat=y.toNat:=by rw[Nat.toUInt8,UInt8.toNat_ofNat'];omega
     rw[this];omega
    .cases h
   .cases h
  .cases h
theorem MT(Y:Cy P KT N0 M O R D X Hd)(ho:ops[j]?=some o)(hw:Region.wanted o (yielded ops a.tmps)=true)(G:o.op=.call { callee:=.builtin .unsafeString,args:=#[x,y],argTypes:=#[pt,it] })(A:eI S aA a o)(hS:eT P KT An S s l)(hF:Hd i (l++fr) w)
 {n:Int}{bs:Bq}(hx:aA.at x=.pointer (sq b))(hy:aA.at y=.int .i64 n)(hp:P.underlying pt=some (.pointer e))(hb:s.get b=some (.cells cs t fz))(a5:P.cellsOf e=1)(ae:t=e)(ag:0<n)(ah:n<=1000000000)(ai:n.toNat<=cs.size)(a4:kz (cs.toList.take n.toNat)=some bs)
 (k:Out P KT An Hd S s (s.set b none) fr (.string ⟨bs.toArray⟩) λi' v' w'=>ce X fn ops rest i' Q (a.put o.dst v') w'):ce X fn ops (j::rest) i Q a w:=by
 subst ae;unfold eI at A;rw[G] at A;have a8:=A x (by simp[Op.operands,Call.operands]);have m:=A y (by simp[Op.operands,Call.operands]);rw[hx] at a8;rw[hy] at m;have m:=m.sc rfl;have⟨g,z,e',h1,h2⟩:=a8.ptr;have⟨kk,o',hk,T,p,Lb,TX⟩:=hS.at (fr:=fr) hb h1;obtain⟨v,rfl,hz,⟨Bv,hex⟩,h⟩:=Lb;have H:bs.length=n.toNat:=by have:=congrArg List.length (kK a4);simp at this;omega
 have a6:bs≠[]:=by rintro rfl;simp at H;omega
 have a9:a.eval y=.int .i64 (bs.length:Int):=gq
 have Z:=Y.Z hF;refine aG Y.C ho hw λc hR K hK=>?_;have d:=Z.rely hF hR;have⟨V,L⟩:=Z.own d (mG p);have u:c.shape? g=some (t,v.size):=by simp[World.shape?,L]
 have U:∀j x,bs[j]?=some x->c.cell? ((⟨g,0,none⟩:Addr).add j)=some (.int .u8 x.toNat):=λq b1 F=>by
  rw[Addr.add_lit];have af:q<bs.length:=(gS.1 F).1;have I:cs[q]?=some (.int .u8 b1.toNat):=by
   have:(cs.toList.take n.toNat)[q]?=some (.int .u8 b1.toNat):=by rw[kK a4];simp[F]
   rw[Bu,ip oq] at this;simpa using this
  have a7:q<v.size:=oq
  have:=(h q _ _ I (gF a7)).sc rfl;simp[World.cell?,L,this,a7]
 have B:Own KT (M i) c (c.freeze ⟨g,0,none⟩ bs.length):=Own.freeze L V (TX cs t fz rfl).2 _;have f:=Lib.run_unsafeString_row c pt it o.type t hp a5 g v.size u bs a6 oq oq U;have J:=lh c pt it o.type t hp a5 g v.size u bs a6 oq oq U;have YA:(execOp a.eval o).run P c=.ok (.value (.string ⟨bs.toArray⟩)) (c.freeze ⟨g,0,none⟩ bs.length):=by unfold execOp;simp only[G,resolve,invoke,builtin,Sem.run_bind,Sem.run_pure,Result.andThen_ok,List.map_toArray,rp,List.map_nil,h2,a9,f]
 have ab:(execOp a.eval o).events P c #[]=(Builtin.unsafeString_ #[pt,it] o.type #[.pointer (sq g),.int .i64 bs.length]).events P c #[]:=by unfold execOp;simp only[G,resolve,invoke,builtin,Sem.events_bind,Sem.run_pure,Sem.events_pure,Result.evThen_ok,List.map_toArray,rp,List.map_nil,h2,a9,f]
 rw[YA];have a3:=Z.front d kk p;rw[List.eraseIdx_append_of_lt_length T] at a3;have r:=Z.env.lt V;obtain⟨ob,W⟩:∃ob,(c.freeze ⟨g,0,none⟩ bs.length).heap[g]?=some ob:=by have N:g<(c.freeze ⟨g,0,none⟩ bs.length).heap.size:=lL r B.grow;exact⟨_,gF N⟩
 have aa:=Z.drop (Z.turn a3 B W λq F=>q9 _ F);refine hK _ _ ⟨?_,k i S _ _ _ (cb.le_refl S) (λ_ _=>rfl) (hS.erased h1 (by rw[hb];simp) hk) aa (VR.dx rfl)⟩;refine Z.env.jb (Z.size d) B λev E=>?_;have E:=mem_listed E;rw[ab] at E;have⟨ad,q1,q2⟩:=J ev E;exact .inl ⟨ad,q1,by rw[q2];exact Z.env.mine B V⟩
theorem MO(Y:Cy P KT N0 M O R D X Hd)(ho:ops[j]?=some o)(hw:Region.wanted o (yielded ops a.tmps)=true)(T:o.op=.call { callee:=.builtin .copy,args:=#[x,y],argTypes:=#[t,u] })(H:eI S aA a o)(hS:eT P KT An S s l)(V:Hd i (l++fr) w)
 {str:ByteArray}{m:TypeId}(hx:aA.at x=.slice (some ⟨b,off,none⟩) n cp)(hy:aA.at y=.string str)(ht:P.underlying t=some (.slice e))(hb:s.get b=some (.cells cs m fz))(a5:bP P e=some 1)(hn:str.size=n)(aa:off+n<=cs.size)
 (k:Out P KT An Hd S s (s.set b (some (.cells (putAt cs off (strCells str)) m fz))) fr (goInt (jg str.data.toList 0)) λi' v' w'=>ce X fn ops rest i' Q (a.put o.dst v') w'):ce X fn ops (j::rest) i Q a w:=by
 unfold eI at H;rw[T] at H;have a8:=H x (by simp[Op.operands,Call.operands]);have h:=H y (by simp[Op.operands,Call.operands]);rw[hx] at a8;rw[hy] at h;have h:=h.sc rfl;have⟨g,z,e',v,h1,h2,h3,h4,h5,h6⟩:=a8.sl;have⟨kk,o',hk,kF,B,Lb,a7⟩:=hS.at (fr:=fr) hb h1;obtain⟨U,rfl,hz,⟨Bv,hex⟩,p⟩:=Lb;have Z:=Y.Z V;refine aG Y.C ho hw λc hR K hK=>?_;have d:=Z.rely V hR;have⟨hm,I⟩:=Z.own d (mG B);have hsl:(strCells str).length=str.size:=strCells_length str;have f:=run_copy_row_string (P:=P) c t u o.type e g off n v str U m ht a5 I oq oq;have f:(Builtin.copy_ #[t,u] o.type #[.slice (some ⟨g,off,none⟩) n v,.string str]).run P c=.ok (goInt str.size) (c.setRow g (putAt U off (strCells str))):=by rw[f];unfold putAt;rw[hsl];rfl
 have F:∀A∈(Builtin.copy_ #[t,u] o.type #[.slice (some ⟨g,off,none⟩) n v,.string str]).events P c #[],∃G:Addr,A.loc=.cell G/\G.block=g:=by
  intro A F;have a9:=events_storeCells_at (P:=P) g off m (strCells str) 0 U c #[] I oq (strCells_oneCell str);cases L:P.info? e with
  | none=>simp[bP,L] at a5
  | some it =>
   have a6:Nat.min str.size n=str.size:=by simp_all
   have ab:((str.extract 0 str.size).data.map λb=>Value.int .u8 b.toNat).toList=strCells str:=by simp[strCells]
   have N:(Builtin.copy_ #[t,u] o.type #[.slice (some ⟨g,off,none⟩) n v,.string str]).events P c #[]=(storeCells ⟨g,off,none⟩ (strCells str)).events P c #[]:=by simp[Builtin.copy_,underlying,ht,Builtin.lenOf,Builtin.firstCells,sizeOf,typeInfo,L,a6];rw[tL (by simp_all)];rfl
   rw[N] at F;rcases a9 A F with z|z
   .simp at z
   .exact z
 have W:Own KT (M i) c (c.setRow g (putAt U off (strCells str))):=Own.setRow I hm (a7 cs m fz rfl).2;have YA:(execOp a.eval o).run P c=.ok (.value (goInt str.size)) (c.setRow g (putAt U off (strCells str))):=by unfold execOp;simp only[T,resolve,invoke,builtin,Sem.run_bind,Sem.run_pure,Result.andThen_ok,List.map_toArray,rp,List.map_nil,h2,h,f]
 have N:(execOp a.eval o).events P c #[]=(Builtin.copy_ #[t,u] o.type #[.slice (some ⟨g,off,none⟩) n v,.string str]).events P c #[]:=by unfold execOp;simp only[T,resolve,invoke,builtin,Sem.events_bind,Sem.run_pure,Sem.events_pure,Result.evThen_ok,List.map_toArray,rp,List.map_nil,h2,h,f]
 rw[YA];have a4:=Z.yd d kk B W (o':=.cells (putAt U off (strCells str)) m) (by simp[World.setRow,IF,I]) (λq L=>by simp[World.setRow,IF,Ne.symm L]);rw[List.set_append_left _ _ kF] at a4;have r:=wo (S:=S) (xs:=strCells str) (ys:=strCells str) (off:=off) hz Bv p rfl (my str) oq;have E:jg str.data.toList 0=str.size:=by rw[iO,Nat.zero_add,KF];rfl
 refine hK _ _ ⟨?_,k i S _ _ _ (cb.le_refl S) (λ_ _=>rfl) (hS.uQ hb h1 hk (Y.xC V) ⟨_,rfl,r.1,⟨r.2.1,λhfz=>by have:=hex hfz;simp[putAt];omega⟩,r.2.2⟩ λcs1 t1 fz1 he=>?_) a4 (by rw[E];exact VR.dx rfl)⟩
 .refine Z.env.jb (Z.size d) W λA J=>?_;have J:=mem_listed J;rw[N] at J;have⟨G,q1,q2⟩:=F A J;exact .inl ⟨G,q1,by rw[q2];exact Z.env.mine W hm⟩
 .cases he;exact a7 cs m fz rfl
end
section
variable {main:Bool}{b:Frame}{cs:List Frame}
def xW{fn:Func}{d:List Item}{c:Frame}(g:b.kind=.normal)(e:a.defers=[])(f:P.funcs[b.fn]?=some fn)
 (h:(results fn a.tmps).run P w=.ok v w) :
  stepG P main (G { b.at a d with mode:=.returning } (c::cs)) w=.go (G (c.finish v) cs) w (seen P b.fn ((results fn a.tmps).events P w #[])):=by simp[G,stepG,unwind,doReturn,Frame.at,g,e,f,h,GStep.after]
end
section
variable {R:ι->Wq}{D:ι->World->World->Array Event->Prop}{X:ι->Gq}{Q:ei ι}{vs:ι}
def Leaves(P:Program)(R:ι->Wq)(D:ι->World->World->Array Event->Prop)(f:FuncId)(aS:Func)(vs:ι)(tmps:Aq)(w:World)(Post:ι->Value->World->Prop):Prop :=
 ∀aE,R vs w aE->∃v,(results aS tmps).run P aE=.ok v aE/\D vs aE aE (seen P f ((results aS tmps).events P aE #[]))/\Post vs v aE
def jH(P:Program)(R:ι->World->World->Prop)(D:ι->World->World->Array Event->Prop)(X:ι->Goroutine->World->Prop)(f:FuncId)(args:Array Value)(vs:ι)(w:World)(Post:ι->Value->World->Prop):Prop :=
 ∃ aS c, P.funcs[f]? = some aS /\ (aS.name == "runtime.NumGoroutine") = false /\ aS.body = some c /\
  fA X f c vs (λfE e a' w'=>(e=.normal\/e=.ret)/\a'.defers=[]/\Leaves P R D f aS fE a'.tmps w' Post) { tmps:=args++Array.replicate (aS.ntmps-args.size) undef,defers:=[] } w
def eM.toE(C:bW P true R D X)(T:∀i,Terms (R i) (D i)){Post rO:ι->Value->World->Prop}(h:eM P X f args vs w Post)(hp:∀vs v w aE,Post vs v w->R vs w aE->rO vs v aE):jH P R D X f args vs w rO:=by have⟨aS,c,hf,hn,hb,h⟩:=h;refine⟨aS,c,hf,hn,hb,lM h λfE e a' w' q=>?_⟩;have⟨h1,h2,v,h3,h4⟩:=q;refine⟨h1,h2,λaE hr=>⟨v,(h3 aE).1,?_,hp _ _ _ _ h4 hr⟩⟩;rw[(h3 aE).2];exact(T fE).idle _
def CP(C:bW P true R D X)(T:∀i,Terms (R i) (D i)){i:Nat}{g:List Nat}{cap:Aq}{args:Array Operand}{ats:Array TypeId}{Post:ι->Value->World->Prop}
 (N:ops[i]?=some o)(Y:Region.wanted o (yielded ops a.tmps)=true)(J:o.op=.call { callee:=.value x,args,argTypes:=ats })(Z:a.eval x=.func (.func f) first cap)
 (t:jH P R D X f (first++args.map a.eval++cap) vs w Post)(y:∀d v p,Post d v p->ce X fn ops g d Q (a.put o.dst v) p):ce X fn ops (i::g) vs Q a w:=by
 obtain⟨r,c,H,u,L,h⟩:=t;intro b k K B M S;have E:r.body.isNone=false:=by rw[L]; rfl
 have z:∀v,(b.at a (.inRegion ops (i::g)::k)).finish v=b.at (a.put o.dst v) (.inRegion ops g::k):=λv=>by rw[Frame.finish_at,N]; rfl
 have j:∀(d:ι) (s:Act) (p:World) (l:List Item),(s.defers=[]/\Leaves P R D f r d s.tmps p Post) ->
   X d (G { (base f).at s l with mode:=.returning } (b.at a (.inRegion ops (i::g)::k)::K)) p:=by rintro d s p l ⟨U,I⟩;refine C.step rfl λm n=>?_;obtain⟨v,h1,h2,h3⟩:=I m n;rw[xW rfl U H h1,z];exact⟨h2,y d v m h3 b k K B M S⟩
 refine C.step rfl λm n=>?_;obtain⟨W,V⟩:=jz J Z H u E;rw[stepG_enter N Y M W,enter_at _ H L];have I:listed P b.fn a o m=#[]:=listed_nil V;rw[I];refine⟨(T vs).idle _,C.rely (h (base f) [] _ rfl (by simp[base]) λd e s p q=>?_) n⟩;obtain⟨F,q⟩:=q;rcases F with rfl|rfl
 .exact C.step rfl λO A=>by rw[stepG_end]; exact⟨(T d).idle _,C.rely (j d s p [] q) A⟩
 .exact λl=>j d s p l q
end
section
def Sound(P:Program)(KT:TypeId->Prop)(An:cb)(R:ι->Wq)(D:ι->World->World->Array Event->Prop)(X:ι->Gq)(Hd:ι->Hq->World->Prop)(f:FuncId)(args:Aq)(s:AS)(v:Value)(s':AS):Prop :=
 ∀S l fr i w args',eT P KT An S s l->Hd i (l++fr) w->AR (VR S) args args'->(∀b,s.nx<=b->b<s'.nx->S b=none) ->
  jH P R D X f args' i w λi' v' w'=>∃S' l',S.le S'/\(∀b,b<s.nx\/s'.nx<=b->S' b=S b)/\eT P KT An S' s' l'/\Hd i' (l'++fr) w'/\VR S' v v'
def qz{xs:Array Operand}{f:Operand->Value}{u:Value}(h:xs.toList.map f=[u,v]):∃x y,xs=#[x,y]/\f x=u/\f y=v:=by
 have⟨l⟩:=xs;cases l with
 | nil=>simp at h
 | cons x l =>
  cases l with
  | nil=>simp at h
  | cons y l =>
   cases l with
   | nil=>simp at h;exact⟨x,y,rfl,h.1,h.2⟩
   | cons z l=>simp at h
theorem MN(Y:Cy P KT N0 M O R D X Hd)(ho:ops[j]?=some o)(hw:Region.wanted o (yielded ops a.tmps)=true)(I:o.op=.convert t u x)(N:eI S aA a o)(V:eT P KT An S s l)(hF:Hd i (l++fr) w)(h:fB P t u (aA.at x) s=some v)
 (k:Out P KT An Hd S s s fr v λi' v' w'=>ce X fn ops rest i' Q (a.put o.dst v') w'):ce X fn ops (j::rest) i Q a w:=by
 unfold eI at N;rw[I] at N;have G:=N x (by simp[Op.operands]);have Z:=Y.Z hF;have B:∀(f:Addr),a.eval x=.pointer (some f)->(∀U,Hd i (l++fr) U->(convert t u (.pointer (some f))).run P U=.ok (.pointer (some f)) U/\(convert t u (.pointer (some f))).events P U #[]=#[])->VR S v (.pointer (some f))->ce X fn ops (j::rest) i Q a w:=by
  intro f a9 F hv;refine aG Y.C ho hw λU hR K hK=>?_;have r:=Z.rely hF hR;have⟨h1,h2⟩:=F U r;have hr:(execOp a.eval o).run P U=.ok (.value (.pointer (some f))) U:=by unfold execOp;simp only[I,a9,Sem.run_bind,h1,Result.andThen_ok,Sem.run_pure]
  have he:(execOp a.eval o).events P U #[]=#[]:=by unfold execOp;simp only[I,a9,Sem.events_bind,h1,h2,Result.evThen_ok,Sem.events_pure]
  rw[hr];refine hK _ _ ⟨?_,k i S l U _ (cb.le_refl S) (λ_ _=>rfl) V r hv⟩;rw[listed_nil he];exact(Y.T i).idle _
 unfold fB at h;split at h
 .next e b c y A L =>
  rw[L] at G;have⟨g,z,e',h1,h2⟩:=G.ptr;split at h
  .next cs ct fz n W d =>
   split at h
   .next ab =>
    cases h;have⟨kk,o',hk,a8,H,J,aa⟩:=V.at (fr:=fr) W h1;obtain⟨m,rfl,hz,⟨Bv,_⟩,p⟩:=J;have q:(P.info? e).map (λi=>decide (i.size=0))=some false:=by
     unfold bP at d;cases hi:P.info? e with
     | none=>simp[hi] at d
     | some it=>simp[hi] at d |-;omega
    refine B ⟨g,c,none⟩ h2 (λU r=>?_) gq;have⟨hm,hg⟩:=Z.own r (mG H);have F:U.cell? ⟨g,c,none⟩=some (m[c]'oq):=by simp[World.cell?,hg,show c<m.size by omega]
    exact⟨run_convert_to_unsafe y A q F,events_convert_to_unsafe y A q F #[]⟩
   .cases h
  .cases h
 .next e b c y A L =>
  rw[L] at G;have⟨g,z,e',h1,h2⟩:=G.ptr;split at h
  .next cs bt n W d =>
   split at h
   .next hl =>
    cases h;have⟨kk,o',hk,a8,H,J,aa⟩:=V.at (fr:=fr) W h1;obtain⟨m,rfl,hz,⟨Bv,hex⟩,p⟩:=J;have q:=hex rfl;obtain⟨jt,hj,_⟩:∃jt,P.info? e=some jt/\jt.size=n+1:=by
     unfold bP at d;cases hi:P.info? e with
     | none=>simp[hi] at d
     | some it=>simp[hi] at d;exact⟨it,rfl,d⟩
    refine B ⟨g,c,none⟩ h2 (λU r=>?_) gq;have⟨hm,hg⟩:=Z.own r (mG H);have E:U.shape? g=some (bt,cs.size):=by simp[World.shape?,hg];omega
    refine⟨Lib.run_from_unsafe U ⟨g,c,none⟩ y A hj E hl,?_⟩;simp[convert,Conv.unsafePointer,Conv.seenAt,viewAt,E,variablesAt,hl,sizeOf,typeInfo,hj,underlying,y,A]
   .cases h
  .cases h
 .cases h
theorem nq(Y:Cy P KT N0 M O R D X Hd)(a9:∀t,kt t=false->¬KT t)(a8:∀f K s v s',call f K s=some (v,s')->Sound P KT An R D X Hd f K s v s')
 (E:ops[j]?=some o)(F:Region.wanted o (yielded ops a.tmps)=true)(r:eI S aA a o)(B:eT P KT An S s l)(A:Hd i (l++fr) w)(h:bN P kt call aA o s=some (v,s'))(a7:∀b,s.nx<=b->b<s'.nx->S b=none)
 (k:Out P KT An Hd S s s' fr v λi' H w'=>ce X fn ops rest i' Q (a.put o.dst H) w'):ce X fn ops (j::rest) i Q a w:=by
 unfold bN at h;split at h
 .
  split at h
  .next ob mk hn =>cases h;refine JJ Y a9 E F r A hn λg z e o' w' H VH hr ht=>?_;have VQ:S s.nx=none:=a7 _ lr iq;have⟨h1,h2⟩:=hr (S.put s.nx (g,z,e)) s.nx (cb.kO VQ) cb.iX;refine k i _ _ w' H (cb.kO VQ) (λb Z=>?_) (B.grown VQ (Y.fresh VH) h1 ht) VH h2;unfold cb.put;simp at Z;rw[iw oq]
  .cases h
 .split at h
  .next t x p =>
   split at h
   .next H G=>cases h;exact EB Y E F p r B A G k
   .cases h
  .next t x y p =>
   split at h
   .next s1 G=>cases h;exact JN Y E F p r B A G k
   .cases h
  .next t x lo hi mx p =>
   split at h
   .next H G=>cases h;exact JM Y E F p r B A G k
   .cases h
  .next x p =>
   split at h
   .next b hx =>
    split at h
    .next str pos Z =>
     refine MS Y E F p r B A hx Z (λhp=>?_) (λhp=>?_) (λhp=>?_);iterate 3
      .grind
    .cases h
   .cases h
  .next c p =>
   split at h
   .next f I =>
    split at h
    .next aa =>
     split at h
     .next x hx =>
      cases h;have⟨ae,a3,a6⟩:=c;simp only at I hx;subst I;have q:=r;unfold eI at q;rw[p] at q;have T1:=q x (by simp only[Op.operands,Call.operands,Array.mem_append];right;simpa using(show x∈a3.toList by rw[hx];simp));obtain⟨g,rfl⟩:∃g,f=.func g:=by
       cases f with
       | func g=>exact⟨g,rfl⟩
       | _=>simp[jV] at aa
      have a5:=aa;unfold jV at a5;simp only at a5;split at a5
      .next aS af =>
       have⟨n1,n2,n3⟩:=Y.ne g aS aa af;have J:a3=#[x]:=gq
       exact oQ Y.C Y.T E F p af n1 gq n2 n3 gq (λw=>Lib.run_noEscape w _) (λw es=>by show Sem.events P (pure (a.eval x):Sem Value) w es=es;simp) (k i S l w _ (cb.le_refl S) (λ_ _=>rfl) B A T1)
      .cases a5
     .cases h
    split at h
    .next g first cap hf =>have q:=r;unfold eI at q;rw[p] at q;have X8:=q f (by simp[Op.operands,Call.operands,I]);rw[hf] at X8;have⟨p',q',h1,h2,h3⟩:=X8.fn;have U:AR (VR S) (c.args.map aA.at) (c.args.map a.eval):=Cw λx hx=>q x (by simp[Op.operands,Call.operands,hx]);have K7:=a8 _ _ _ _ _ h S l fr i w _ B A ((h2.append U).append h3) a7;have⟨ae,a3,a6⟩:=c;simp only at I;subst I;refine CP Y.C Y.T E F p h1 K7 ?_;rintro i' H w' ⟨S',l',q1,q2,q3,q4,q5⟩;exact k i' S' l' w' H q1 q2 q3 q4 q5
    .cases h
   .next b I =>
    split at h
    .next H G=>cases h;exact ux Y E F r B A G k
    .have⟨ae,a3,a6⟩:=c;simp only at I h;subst I;unfold eN at h;split at h
     .next x1 yy m cy t t' U ab =>
      split at h
      .next ai =>
       subst ai;split at h
       .next e ht =>
        split at h
        .next z sz bytes hi =>
         split at h
         .next news ah =>
          split at h
          .next hc =>
           have⟨N,V,L,c4,c5,c6,c7⟩:=hc;have⟨x,y,J,e1,W⟩:=qz U;subst J;have d:a6=#[t,t]:=gq
           subst d;rw[<-e1] at h c6;exact Gp Y a9 E F p r B A W ht hi ah N V L c4 c5 c6 c7 h a7 k
          .cases h
         .cases h
        .cases h
       .cases h
      .cases h
     .next x1 str t t' U ab =>
      split at h
      .next e ht hu =>
       split at h
       .next hi =>
        split at h
        .next hc =>
         have⟨N,V,L⟩:=hc;have⟨x,y,J,e1,W⟩:=qz U;subst J;have d:a6=#[t,t']:=gq
         subst d;rw[<-e1] at h L;exact CL Y a9 E F p r B A W ht hu hi N V L h a7 k
        .cases h
       .cases h
      .cases h
     .next b off n cp str t u U ab =>
      split at h
      .next e cs bt fz ht Z =>
       split at h
       .next hc =>
        have⟨N,V,L⟩:=hc;cases h;have⟨x,y,J,e1,W⟩:=qz U;subst J;have d:a6=#[t,u]:=gq
        subst d;exact MO Y E F p r B A e1 W ht Z N V L k
       .cases h
      .cases h
     .next b n pt it U ab =>
      split at h
      .next e cs t fz hp Z =>
       split at h
       .next hc =>
        have⟨N,V,L,c4,c5⟩:=hc;split at h
        .next bs ag =>
         cases h;have⟨x,y,J,e1,W⟩:=qz U;subst J;have d:a6=#[pt,it]:=gq
         subst d;exact MT Y E F p r B A e1 W hp Z N V L c4 c5 ag k
        .cases h
       .cases h
      .cases h
     .cases h
   .cases h
  .next t u x p =>
   split at h
   .next H G=>cases h;exact ux Y E F r B A G k
   .split at h
    .next H G=>cases h;exact MN Y E F p r B A G k
    .cases h
  .split at h
   .next H G=>cases h;exact ux Y E F r B A G k
   .cases h
end
def p6:∀(l:Vq) (n:Nat) (v:Value),z5 l n v=l.set n v
 | [],_,_=>rfl
 | _::_,0,_=>rfl
 | x::l,n+1,v=>by simp[z5,p6 l n v]
section
def m8{x:Aq}{y:Aq}(h:AR (VR S) x y)(t:Nat):VR S (x.toList.getD t undef) (y.getD t undef):=by
 by_cases a:t<x.size
 .have h1:x[t]?=some x[t]:=gF a;have h2:y[t]?=some (y[t]'(by rw[<-h.1];exact a)):=gF _
  have:=h.2 t _ _ h1 h2;rw[tS,D4,h2,Array.getElem?_toList,h1];exact this
 .rw[tS,D4,Array.getElem?_toList,Array.getElem?_eq_none oq,Array.getElem?_eq_none (by rw[<-h.1];omega)];exact VR.undef
def iZ(h:AR (VR S) aA.toArray a.tmps)(b:Ag x=true):VR S (aA.at x) (a.eval x):=by
 cases x with
 | tmp t=>exact m8 h t
 | const v=>exact VR.dx b
 | global g=>simp[Ag] at b
 | func f=>exact VR.Ae AR.nil AR.nil
theorem nZ(h:AR (VR S) aA.toArray a.tmps)(U:VR S v v')(d:Option Tmp):AR (VR S) (aA.put d v).toArray (a.put d v').tmps:=by
 cases d with
 | none=>exact h
 | some t =>
  show AR (VR S) (z5 aA t v).toArray (a.tmps.setIfInBounds t v');rw[p6]
  have:=h.set U t;grind
def VR.yV{x:Value}{b:Bool}(h:VR S x (.bool b)):x=.bool b:=by
 cases x with
 | agg p=>obtain⟨a,h1,_⟩:=h.ag;cases h1
 | tuple p=>obtain⟨a,h1,_⟩:=h.tu;cases h1
 | map p=>obtain⟨k,m,_,h1,_⟩:=h.mp;cases h1
 | func f p q=>obtain⟨a,o,h1,_⟩:=h.fn;cases h1
 | pointer p =>
  cases p with
  | none=>exact(h.sc rfl).symm
  | some p =>
   have⟨b,i,sp⟩:=p
   have:=h.iW;simp at this;subst this;have⟨g,z,e,_,h1⟩:=h.ptr;cases h1
 | slice p n c =>
  cases p with
  | none=>exact(h.sc rfl).symm
  | some p=>obtain⟨g,z,e,l,j,_,h1,_⟩:=h.kT;cases h1
 | bool b=>exact(h.sc rfl).symm
 | int k n=>exact(h.sc rfl).symm
 | string s=>exact(h.sc rfl).symm
 | nilFunc=>exact(h.sc rfl).symm
 | nilIface=>exact(h.sc rfl).symm
 | _=>obtain⟨d,h⟩:=h;cases d with
  | zero=>exact h.elim
  | succ d=>exact absurd h.1 (by simp[dX])
theorem qD{j:Nat}(h:∀d,(ops[j]?).bind (·.dst)=some d->∀b,(aA[d]?=some (.bool b)↔tmps[d]?=some (.bool b))):yielded ops tmps j=bL ops aA j:=by unfold yielded bL;grind
theorem Bm(h:AR (VR S) aA.toArray a.tmps)(ops:Array Oper)(j:Nat):yielded ops a.tmps j=bL ops aA j:=by
 refine qD λd _ b=>⟨λc=>?_,λc=>?_⟩
 .have U:d<a.tmps.size:=by rw[<-h.1];have:=(gS.1 c).1;simpa using this
  have:=h.2 d _ _ (by simpa using c) (gF U);rw[gF U,this.sc rfl]
 .have U:d<aA.toArray.size:=by rw[h.1];exact(oK.1 c).1
  have:=(h.2 d _ _ (gF U) c).yV;grind
def iM(h:AR (VR S) aA.toArray a.tmps)(ops:Array Oper)(o:Oper):Region.wanted o (yielded ops a.tmps)=Region.wanted o (bL ops aA):=by
 unfold Region.wanted;split
 .rfl
 .rw[Bm h]
end
section
variable {call:FuncId->Aq->AS->Option (Value × AS)}
def rY{x:Value}(h:bK P e x news m s=some (v,s')):s.nx<=s'.nx:=by
 unfold bK at h;split at h
 .split at h<;>(cases h;simp)
 .split at h
  .cases h;simp
  .split at h
   .split at h
    .cases h;simp
    .cases h
   .cases h
 .split at h
  .cases h
  .cases h;simp
 .cases h
def xe{b:Builtin}{args:Vq}{a:List TypeId}(h:eN P kt b args a s=some (v,s')):s.nx<=s'.nx:=by
 unfold eN at h;split at h
 .split at h
  .split at h
   .split at h
    .split at h
     .split at h
      .exact rY h
      .cases h
     .cases h
    .cases h
   .cases h
  .cases h
 .split at h
  .split at h
   .split at h
    .exact rY h
    .cases h
   .cases h
  .cases h
 .split at h
  .split at h
   .cases h;simp
   .cases h
  .cases h
 .split at h
  .split at h
   .split at h
    .cases h;simp
    .cases h
   .cases h
  .cases h
 .cases h
def B7{x y:Value}(h:jr P t x y s=some s'):s.nx=s'.nx:=by
 unfold jr at h;split at h
 .split at h
  .split at h
   .cases h;simp
   .cases h
  .cases h
 .cases h
theorem sY(hc:∀f args s v s',call f args s=some (v,s')->s.nx<=s'.nx){a:TL}(h:bN P kt call a o s=some (v,s')):s.nx<=s'.nx:=by
 unfold bN at h;split at h
 .split at h
  .cases h;simp
  .cases h
 .split at h
  .grind
  .split at h
   .next hv=>cases h;exact Nat.le_of_eq (B7 hv)
   .cases h
  .grind
  .split at h
   .split at h
    .split at h
     .split at h
      .cases h
      .cases h;simp
     .cases h;simp
    .cases h
   .cases h
  .split at h
   .grind
   .split at h
    .cases h;exact jl _
    .exact xe h
   .cases h
  .grind
  .grind
def mY(hc:∀f args s v s',call f args s=some (v,s')->s.nx<=s'.nx):∀(todo:List Oper) {a a':TL} {s s':AS},cT P kt call ops todo a s=some (a',s')->s.nx<=s'.nx
 | [],a,a',s,s',h=>by simp[cT] at h;rw[h.2];exact jl _
 | o::rest,a,a',s,s',h=>by
  unfold cT at h;split at h
  .split at h
   .next v s1 hv=>exact lT (sY hc hv) (mY hc rest h)
   .cases h
  .exact mY hc rest h
end
section
variable {Q:ei ι}{i:ι}{s s':AS}{lO:TL}{v:Value}{ops:Array Oper}{o:Oper}
def O0 (P:Program)(KT:TypeId->Prop)(An:cb)(Hd:ι->Hq->World->Prop)(S:cb)(s s':AS)(fr:Hq)(lO:TL)(K:ι->Act->World->Prop):Prop :=
 ∀i' S' l' w' a',S.le S'->(∀b,b<s.nx\/s'.nx<=b->S' b=S b)->eT P KT An S' s' l'->Hd i' (l'++fr) w'->AR (VR S') lO.toArray a'.tmps->a'.defers=[]->K i' a' w'
theorem mZ(Y:Cy P KT N0 M O R D X Hd)(Ck:∀t,kt t=false->¬KT t)(I0:∀f args s v s',call f args s=some (v,s')->Sound P KT An R D X Hd f args s v s')(hc:∀f args s v s',call f args s=some (v,s')->s.nx<=s'.nx)(Cm:lB ops=true) :
  ∀(m k:Nat) {S:cb} {l:Hq} {i:ι} {w:World} {a:Act} {aA:TL} {s:AS},m=ops.size-k->k<=ops.size->cT P kt call ops (ops.toList.drop k) aA s=some (lO,s')->eT P KT An S s l->Hd i (l++fr) w->AR (VR S) aA.toArray a.tmps->a.defers=[]->(∀b,s.nx<=b->b<s'.nx->S b=none) ->
   O0 P KT An Hd S s s' fr lO (λi' a' w'=>Q i' .normal a' w')->ce X fn ops (List.range' k m) i Q a w
 | 0,k,S,l,i,w,a,aA,s,hm,hk,h,hS,hF,hA,hd,qI,K=>by
  have:k=ops.size:=oq
  subst this;rw[List.drop_eq_nil_of_le iq] at h;simp only[cT,sK,Prod.mk.injEq] at h;obtain⟨rfl,rfl⟩:=h;exact aW Y.C Y.T (K i S l w a (cb.le_refl S) (λ_ _=>rfl) hS hF hA hd)
 | m+1,k,S,l,i,w,a,aA,s,hm,hk,h,hS,hF,hA,hd,qI,K=>by
  have kF:k<ops.size:=oq
  have xl:k<ops.toList.length:=gq
  rw[List.drop_eq_getElem_cons xl] at h;have ho:ops[k]?=some (ops.toList[k]'xl):=gq
  have P9:eI S aA a (ops.toList[k]'xl):=λx hx=>iZ hA (by
   unfold lB at Cm;rw[aT] at Cm
   have:=Cm _ (D3 xl);rw[aT] at this;exact this x gq);unfold cT at h;show ce X fn ops (k::List.range' (k+1) m) i Q a w;split at h
  .next hw =>
   split at h
   .next v s1 hv =>
    have n1:=sY hc hv;have n2:=mY hc _ h;refine nq Y Ck I0 ho (by rw[iM hA];exact hw) P9 hS hF hv (λb h1 h2=>qI b h1 oq) ?_;intro i1 S1 l1 w1 v1 Tg VL Th XQ hv1;refine mZ Y Ck I0 hc Cm m (k+1) oq oq h Th XQ (nZ (hA.mono Tg) hv1 _) ?_ (λb h1 h2=>?_) ?_
    .cases L4:(ops.toList[k]'xl).dst<;>exact hd
    .rw[VL b (.inr h1)];exact qI b oq h2
    .intro i2 S2 l2 w2 a2 Oo K6 Ti XR Tc hd2;exact K i2 S2 l2 w2 a2 (cb.le_trans Tg Oo) (λb hb=>by rw[K6 b oq,VL b oq]) Ti XR Tc hd2
   .cases h
  .next hw =>have n2:=mY hc _ h;refine gB Y.C Y.T ho (by rw[iM hA];simpa using hw) ?_;refine mZ Y Ck I0 hc Cm m (k+1) oq oq h hS hF (nZ hA VR.undef _) ?_ qI K;cases L4:(ops.toList[k]'xl).dst<;>exact hd
def Reads{a:Type}(P:Program)(t:Sem a)(w:World)(v:a)(B:Event->Prop):Prop:=t.run P w=.ok v w/\∀b∈t.events P w #[],B b
def Reads.bind{t:Sem α}{k:α->Sem β}{v:α}{u:β}{B:Event->Prop}(h:Reads P t w v B)(c:Reads P (k v) w u B):Reads P (t >>= k) w u B:=by
 refine⟨by rw[Sem.run_bind,h.1];exact c.1,λb a=>?_⟩;rw[Sem.events_bind,h.1] at a;simp only[Result.evThen_ok] at a;rw[Sem.events_acc] at a;rcases Array.mem_append.1 a with q|q
 .exact h.2 b q
 .exact c.2 b q
def Reads.pure(v:α)(B:Event->Prop):Reads P (Pure.pure v:Sem α) w v B:=⟨rfl,λa h=>by simp at h⟩
theorem Cs(Y:Cy P KT N0 M O R D X Hd)(K:eT P KT An S s l)(y:Hd i (l++fr) w){x:Value}(hx:VR S x x')(h:aB P t x s=some v):∃o,VR S v o/\Reads P (do loadVar t (<-asAddr x')) w o (u0 (M i w)):=by
 unfold aB at h;split at h
 .next b a =>
  obtain⟨g,z,e,h1,rfl⟩:=hx.ptr;split at h
  .next cs ty fz H =>
   have⟨kk,o',hk,W,C,E,aa⟩:=K.at (fr:=fr) H h1;obtain⟨p,rfl,hz,⟨Bv,hex⟩,j⟩:=E;have⟨f,B⟩:=(Y.Z y).own y (mG C);have k:∀{o},Reads P (Instr.loadAt t (.pointer (some ⟨g,a,none⟩))) w o (u0 (M i w))->Reads P (do loadVar t (<-asAddr (.pointer (some ⟨g,a,none⟩)))) w o (u0 (M i w)):=λh=>h;split at h
   .next d c =>
    split at h
    .next A =>
     split at h
     .next n Q =>
      split at h
      .next ae =>
       cases h;have L:w.rangeAt g a ((p.toList.drop a).take n):=uF B (by
        intro m u f;rw[Bu] at f;split at f
        .rw[K2] at f;simpa using f
        .cases f);have N:(P.info? t).map (·.size)=some ((p.toList.drop a).take n).length:=by unfold bP at Q;rw[Q];simp;omega
       refine⟨_,VR.Ad (p':=((p.toList.drop a).take n).toArray) ?_,k ⟨run_loadAt_mid w g a t _ d L c A N,λG U=>?_⟩⟩
       .refine⟨by simp;omega,λm u u' c F=>?_⟩;simp only[IE,Bu] at c F;split at c
        .next f =>rw[ip f] at F;rw[K2] at c F;exact j _ u u' (by simpa using c) gq
        .cases c
       .have⟨ad,T,V⟩:=ik w g a t _ d L c A N G U;exact .inl ⟨ad,T,by rw[V];exact f⟩
      .cases h
     .cases h
    .next A =>
     have J:a<p.size:=gq
     have q:w.cell? ⟨g,a,none⟩=some p[a]:=by simp[World.cell?,B,J]
     have r:d.isRow=false:=gq
     refine⟨p[a],j a v _ h (gF J),k ⟨?_,λG U=>?_⟩⟩
     .simp[Instr.loadAt,Instr.sureAddr,loadVar,gX c r,load,Sem.run,q]
     .have I:(Instr.loadAt t (.pointer (some ⟨g,a,none⟩))).events P w #[]=#[⟨.cell ⟨g,a,none⟩,false,false⟩]:=by simp[Instr.loadAt,Instr.sureAddr,loadVar,gX c r,jv c,events_load,q]
      rw[I] at U;simp at U;subst U;exact .inl ⟨_,rfl,f⟩
   .cases h
  .next ty cs T V q3 q4 H =>
   have⟨kk,o',hk,W,C,E,aa⟩:=K.at (fr:=fr) H h1;cases E;have⟨f,B⟩:=(Y.Z y).own y (mG C);have k:∀{o},Reads P (Instr.loadAt t (.pointer (some ⟨g,a,none⟩))) w o (u0 (M i w))->Reads P (do loadVar t (<-asAddr (.pointer (some ⟨g,a,none⟩)))) w o (u0 (M i w)):=λh=>h;split at h
   .next d c =>
    split at h
    .cases h
    .next A =>
     split at h
     .next v0 ab =>
      split at h
      .next a9 =>
       cases h;have q:w.cell? ⟨g,a,none⟩=some v:=by simp[World.cell?,B,ab]
       have r:d.isRow=false:=gq
       refine⟨v,VR.dx a9,k ⟨?_,λG U=>?_⟩⟩
       .simp[Instr.loadAt,Instr.sureAddr,loadVar,gX c r,load,Sem.run,q]
       .have I:(Instr.loadAt t (.pointer (some ⟨g,a,none⟩))).events P w #[]=#[⟨.cell ⟨g,a,none⟩,false,false⟩]:=by simp[Instr.loadAt,Instr.sureAddr,loadVar,gX c r,jv c,events_load,q]
        rw[I] at U;simp at U;subst U;exact .inl ⟨_,rfl,f⟩
      .cases h
     .cases h
   .cases h
  .cases h
 .cases h
theorem z6{f:α->Option β}:∀{xs:List α} {vs:List β},xs.mapM f=some vs->xs.length=vs.length/\∀(i:Nat) (x:α) (v:β),xs[i]?=some x->vs[i]?=some v->f x=some v
 | [],vs,h=>by simp at h;subst h;exact⟨rfl,λi x v U=>by simp at U⟩
 | x::xs,vs,h=>by
  rw[List.mapM_cons] at h;cases U:f x with
  | none=>rw[U] at h;cases h
  | some v =>
   rw[U] at h;cases hm:xs.mapM f with
   | none=>rw[hm] at h;cases h
   | some us =>rw[hm] at h;cases h;have⟨h1,h2⟩:=z6 hm;grind
theorem wy(Y:Cy P KT N0 M O R D X Hd)(E:eT P KT An S s l)(C:Hd i (l++fr) w){aS:Func}(o:AR (VR S) aA.toArray tmps)(h:c8 P aS aA s=some v):∃q,VR S v q/\Reads P (results aS tmps) w q (u0 (M i w)):=by
 have m:∀r u,m6 P aA s r=some u->∃j,VR S u j/\Reads P ((λr=>match r with|.tmp t=>pure (tmps.getD t undef)|.cell a t=>do loadVar t (<-asAddr (tmps.getD a undef)):ResultVar->Sem Value) r) w j (u0 (M i w)):=by
  intro r u b;cases r with
  | tmp t=>simp[m6] at b;subst b;exact⟨_,m8 o t,Reads.pure _ _⟩
  | cell t ty=>exact Cs Y E C (m8 o t) b
 have c:∀(d:List ResultVar) (e:Vq),d.mapM (m6 P aA s)=some e->∃U,e.length=U.length/\(∀(i:Nat) (x y:Value),e[i]?=some x->U[i]?=some y->VR S x y)/\Reads P (d.mapM (λr=>match r with|.tmp t=>pure (tmps.getD t undef)|.cell a t=>do loadVar t (<-asAddr (tmps.getD a undef)):ResultVar->Sem Value)) w U (u0 (M i w)):=by
  intro d;induction d with
  | nil=>intro e b;simp at b;subst b;exact⟨[],rfl,λi x y k=>by simp at k,by rw[List.mapM_nil];exact Reads.pure _ _⟩
  | cons r d I =>
   intro e b;rw[List.mapM_cons] at b;cases g:m6 P aA s r with
   | none=>rw[g] at b;cases b
   | some u =>
    rw[g] at b;cases hm:d.mapM (m6 P aA s) with
    | none=>rw[hm] at b;cases b
    | some A =>
     rw[hm] at b;cases b;have⟨U,h1,h2,h3⟩:=I A hm;have⟨j,J,B⟩:=m r u g;refine⟨j::U,by simp[h1],λi x y k H=>?_,?_⟩
     .grind
     .rw[List.mapM_cons];exact B.bind (h3.bind (Reads.pure _ _))
 have f:∀U,Reads P (aS.results.toList.mapM (λr=>match r with|.tmp t=>pure (tmps.getD t undef)|.cell a t=>do loadVar t (<-asAddr (tmps.getD a undef)):ResultVar->Sem Value)) w U (u0 (M i w))->Reads P (results aS tmps) w (if h:U.toArray.size=1 then U.toArray[0] else .tuple U.toArray) (u0 (M i w)):=by intro U g;unfold results;rw[Array.mapM_eq_mapM_toList];refine Reads.bind ?_ (Reads.pure _ _);rw[map_eq_pure_bind];exact g.bind (Reads.pure _ _)
 unfold c8 at h;split at h
 .next r g =>
  have⟨U,h1,h2,h3⟩:=c [r] [v] gq;cases U with
  | nil=>simp at h1
  | cons u U =>
   have:U=[]:=gq
   subst this;refine⟨u,h2 0 v u rfl rfl,?_⟩;grind
 .next d z =>
  split at h
  .next e n =>
   cases h;have⟨U,h1,h2,h3⟩:=c _ e n;have p:=f U h3;have F:¬U.toArray.size=1:=by
    intro G;have:aS.results.toList.length=1:=by rw[(z6 n).1,h1];simpa using G
    match Yy:aS.results.toList,this with
    | [r],_=>exact z r Yy
   rw[dif_neg F] at p;exact⟨_,VR.uu ⟨by simpa using h1,λi x y k H=>h2 i x y gq gq⟩,p⟩
  .cases h
end
end Go.Proofs.YtgcaionclkbehaaGreatDoor
