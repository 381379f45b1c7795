
import Derived.Test.YtgcaionclkbehaaGreatDoorR4
import Derived.Lib.SliceRun
set_option linter.all false
set_option maxHeartbeats 2000000
set_option maxRecDepth 100000
namespace Go.Proofs.YtgcaionclkbehaaGreatDoor
open Go.Conc Go.RowKit Go.Lib Tryz
variable {x y:Operand}{r:Int}{Mx acc c cy i j k n off sz:Nat}{bt e t t' ty:TypeId}{A B v:Value}{w':World}{cs:Vq}{l nm tx:Bq}{args:Aq}{s s':AS}{pr:Prim}{us:List Tok}{P:Program}{kt:TypeId->Bool}{a:TL}{o:Oper}
def qW (cs:Vq)(n i:Nat):Vq:=(cs.take n).eraseIdx i++(num 0::cs.drop n)
variable {ι:Type}
section
variable {P:Program}{KT:TypeId->Prop}{N0:ι->Nat}{M:ι->World->Nat->Prop}{O:ι->Nat->Prop}{R:ι->Wq}{D:ι->World->World->Array Event->Prop}{X:ι->Gq}{Hd:ι->Hq->World->Prop}
variable {fn:FuncId}{Q:ei ι}{a:Act}{w:World}{i:ι}{l:Hq}{v:Value}{ops:Array Oper}{j k g:Nat}{rest:List Nat}{o:Oper}{cs sV:Aq}{t e:TypeId}
section
variable (Y:Cy P KT N0 M O R D X Hd)
def cF(ho:ops[j]?=some o)(hw:Region.wanted o (yielded ops a.tmps)=true)(h:gn P (execOp a.eval o)=some (.value v))(k:ce X fn ops rest i Q (a.put o.dst v) w):ce X fn ops (j::rest) i Q a w :=
 cV Y.C Y.T ho hw λaE K hK=>by rw[(kB h aE #[]).1];exact hK _ k (kB h aE #[]).2
def we(u:Hd i l w)(x:l[k]?=some (g,.cells cs t))(r:¬KT t)(D:ops[j]?=some o)(G:Region.wanted o (yielded ops a.tmps)=true)
 (d:∀b:World,b.heap[g]?=some (.cells cs t)->(execOp a.eval o).run P b=.ok (.value v) (b.setRow g sV)/\∀f∈(execOp a.eval o).events P b #[],∃e:Addr,f.loc=.cell e/\e.block=g)
 (H:∀z,Hd i (l.set k (g,.cells sV t)) z->ce X fn ops rest i Q (a.put o.dst v) z):ce X fn ops (j::rest) i Q a w:=by have Z:=Y.Z u;refine aG Y.C D G λb B K A=>?_;have c:=Z.rely u B;have⟨y,p⟩:=Z.own c (mG x);have⟨F,n⟩:=d b p;rw[F];have m:Own KT (M i) b (b.setRow g sV):=Own.setRow p y r;have h:=Z.yd c k x m (o':=.cells sV t) (by simp[World.setRow,IF,p]) (λq E=>by simp[World.setRow,IF,Ne.symm E]);refine A _ _ ⟨?_,H _ h⟩;refine Z.env.jb (Z.size c) m λf s=>?_;have s:=mem_listed s;have⟨e,I,J⟩:=n f s;exact .inl ⟨e,I,by rw[J];exact Z.env.mine m y⟩
end
def nP{lo hi g:Option Operand}{X:Value}{Lo Hi Mx:Option Value}{r:Value}(f:o.op=.slice t x lo hi g)(i:P.underlying t=some (.slice e))(j:a.eval x=X)(c:lo.map a.eval=Lo)(b:hi.map a.eval=Hi)(d:g.map a.eval=Mx)(h:gn P (Instr.slice t X Lo Hi Mx)=some r):gn P (execOp a.eval o)=some (.value r):=by simp only[execOp,f,Instr.sliceAt,dA,dB,i,Bs,j,c,b,d,h,jO]
def qv{L H:Nat}{lo hi b:Option Value}(f:P.underlying t=some (.slice e))(a:bP P e=some 1)(d:gn P (Instr.sliceBounds true n c lo hi b)=some (L,H,Mx)):gn P (Instr.slice t (.slice (sq g) n c) lo hi b)=some (.slice (if Mx=L then some ⟨g,0,none⟩ else some ⟨g,L,none⟩) (H-L) (Mx-L)):=by simp only[Instr.slice,dA,dB,f,Bs,d,l6,a,jO,Option.map_some,Addr.add_lit,Nat.mul_one,Nat.zero_add]
theorem yP(C:P.underlying t=some (.slice e))(hi:∃i,P.info? e=some i/\i.size=1){m:Nat}{ad:Addr}(r:w.heap[g]?=some (.cells cs e))(D:ad.block=g/\ad.spot=none)(A:∀q,q<m->ad.off+q<cs.size)(p:∀u∈(cs.toList.drop ad.off).take m,u.oneCell'=true)(B:n+m<=c)(z:n+m<=cs.size) :
  (Builtin.append_ #[t,t] ty #[.slice (sq g) n c,.slice (some ad) m cy]).run P w=.ok (.slice (sq g) (n+m) c) (w.setRow g (cs.toList.take n++(cs.toList.drop ad.off).take m++cs.toList.drop (n+m)).toArray)/\∀o∈(Builtin.append_ #[t,t] ty #[.slice (sq g) n c,.slice (some ad) m cy]).events P w #[],∃a:Addr,o.loc=.cell a/\a.block=g:=by
 have⟨s,hi,G⟩:=hi;have⟨f,d,sp⟩:=ad;have⟨h1,h2⟩:=D;simp only at h1 h2 A p;subst h1 h2;have l:((cs.toList.drop d).take m).length=m:=by
  rcases Nat.eq_zero_or_pos m with rfl|hm
  .simp
  .have:=A (m-1) oq;simp;omega
 have U:∀q u,((cs.toList.drop d).take m)[q]?=some u->w.cell? ((⟨f,d,none⟩:Addr).add q)=some u:=by
  intro q u j;rw[Bu] at j;split at j
  .rw[K2] at j;have j:cs[d+q]?=some u:=gq
   rw[Addr.add_lit];simp[World.cell?,r,j]
  .cases j
 have y:=run_append_room (P:=P) w t ty e s C hi f n c cs r ⟨f,d,none⟩ m cy ((cs.toList.drop d).take m) gq U p B gq;rw[G,Nat.mul_one,l] at y;refine⟨y,λo k=>?_⟩;have z:=run_firstCells_some (P:=P) w s.size m ⟨f,d,none⟩ m cy ((cs.toList.drop d).take m) gq U;have x:=run_storeCells_at P f (n*s.size) e ((cs.toList.drop d).take m) 0 cs w r gq p;have v:=events_storeCells_at (P:=P) f (n*s.size) e ((cs.toList.drop d).take m) 0 cs w;simp only[Nat.add_zero] at x;simp[Builtin.append_,run_underlying C,sizeOf,typeInfo,hi,Builtin.lenOf,B,z,Addr.add_lit] at k;rcases v _ r gq p o k with h|h
 .rcases events_firstCells_in (λb=>b=f) _ _ _ _ _ (λH J I E=>by
   cases E;refine⟨rfl,λq F=>?_⟩;have F:q<m:=gq
   have:=U q _ (gE gq);rw[this];rfl) o h with h|⟨ad,h1,h2,h3⟩
  .simp at h
  .exact⟨ad,h1,h3⟩
 .exact h
def Nb(b:o.op=.call { callee:=.builtin .append,args:=#[x,y],argTypes:=#[t,t] })(c:a.eval x=A)(d:a.eval y=B)(h:(Builtin.append_ #[t,t] o.type #[A,B]).run P w=.ok v w'):(execOp a.eval o).run P w=.ok (.value v) w'/\(execOp a.eval o).events P w #[]=(Builtin.append_ #[t,t] o.type #[A,B]).events P w #[]:=by
 unfold execOp;constructor
 .simp only[b,resolve,invoke,builtin,Sem.run_bind,Sem.run_pure,Result.andThen_ok,List.map_toArray,rp,List.map_nil,c,d,h]
 .simp only[b,resolve,invoke,builtin,Sem.events_bind,Sem.run_pure,Sem.events_pure,Result.evThen_ok,List.map_toArray,rp,List.map_nil,c,d,h]
def Nc(b:o.op=.call { callee:=.builtin .clear,args:=#[x],argTypes:=#[t] })(c:a.eval x=A)(h:(Builtin.clear_ #[t] o.type #[A]).run P w=.ok v w'):(execOp a.eval o).run P w=.ok (.value v) w'/\(execOp a.eval o).events P w #[]=(Builtin.clear_ #[t] o.type #[A]).events P w #[]:=by
 unfold execOp;constructor
 .simp only[b,resolve,invoke,builtin,Sem.run_bind,Sem.run_pure,Result.andThen_ok,List.map_toArray,rp,List.map_nil,c,h]
 .simp only[b,resolve,invoke,builtin,Sem.events_bind,Sem.run_pure,Sem.events_pure,Result.evThen_ok,List.map_toArray,rp,List.map_nil,c,h]
section
variable (Y:Cy P KT N0 M O R D X Hd)
def Gr(r:Hd i l w)(u:l[k]?=some (g,.cells cs e))(c:¬KT e)(z:ops[j]?=some o)(C:Region.wanted o (yielded ops a.tmps)=true)(d:o.op=.call { callee:=.builtin .append,args:=#[x,y],argTypes:=#[t,t] })(D:a.eval x=A)(E:a.eval y=B)
 (h:∀b:World,b.heap[g]?=some (.cells cs e)->∀m:TypeId,(Builtin.append_ #[t,t] m #[A,B]).run P b=.ok v (b.setRow g sV)/\∀p∈(Builtin.append_ #[t,t] m #[A,B]).events P b #[],∃f:Addr,p.loc=.cell f/\f.block=g)
 (F:∀n,Hd i (l.set k (g,.cells sV e)) n->ce X fn ops rest i Q (a.put o.dst v) n):ce X fn ops (j::rest) i Q a w:=by refine we Y r u c z C (λb s=>?_) F;have⟨h1,h2⟩:=h b s o.type;have⟨h3,q⟩:=Nb d D E h1;exact⟨h3,by rw[q];exact h2⟩
def Gw(r:Hd i l w)(u:l[k]?=some (g,.cells cs e))(c:¬KT e)(y:ops[j]?=some o)(z:Region.wanted o (yielded ops a.tmps)=true)(d:o.op=.call { callee:=.builtin .clear,args:=#[x],argTypes:=#[t] })(B:a.eval x=A)
 (h:∀b:World,b.heap[g]?=some (.cells cs e)->∀m:TypeId,(Builtin.clear_ #[t] m #[A]).run P b=.ok v (b.setRow g sV)/\∀p∈(Builtin.clear_ #[t] m #[A]).events P b #[],∃f:Addr,p.loc=.cell f/\f.block=g)
 (C:∀n,Hd i (l.set k (g,.cells sV e)) n->ce X fn ops rest i Q (a.put o.dst v) n):ce X fn ops (j::rest) i Q a w:=by refine we Y r u c y z (λb s=>?_) C;have⟨h1,h2⟩:=h b s o.type;have⟨h3,q⟩:=Nc d B h1;exact⟨h3,by rw[q];exact h2⟩
end
theorem Fq(i:P.underlying t=some (.slice e))(j:∀w,(zeroValue e).run P w=.ok (num 0) w)(l:∀w d,(zeroValue e).events P w d=d)(h:w.heap[g]?=some (.cells cs e))(n:off<cs.size) :
  (Builtin.clear_ #[t] ty #[.slice (some ⟨g,off,none⟩) 1 c]).run P w=.ok (.tuple #[]) (w.setRow g (putAt cs off [num 0]))/\∀f∈(Builtin.clear_ #[t] ty #[.slice (some ⟨g,off,none⟩) 1 c]).events P w #[],∃a:Addr,f.loc=.cell a/\a.block=g:=by
 have U:=run_storeCells_at P g off e [num 0] 0 cs w h gq (by simp[num,Value.oneCell']);have m:=events_storeCells_at (P:=P) g off e [num 0] 0 cs w #[] h gq (by simp[num,Value.oneCell']);have b:(Builtin.zeroCells (num 0).cells 1).toList=[num 0]:=by simp[Builtin.zeroCells,num,Value.cells]
 simp only[Nat.add_zero] at U;constructor
 .simp[Builtin.clear_,run_underlying i,j,b,U,putAt]
 .intro f k;simp[Builtin.clear_,underlying,i,j,l,b] at k;grind
end
variable {An:cb}
variable {N0:ι->Nat}{M:ι->World->Nat->Prop}{O:ι->Nat->Prop}{R:ι->Wq}{D:ι->World->World->Array Event->Prop}{X:ι->Gq}{Hd:ι->Hq->World->Prop}
section
def Fy(hi:i<n)(c:n<=cs.length):(putAt (cs.take i++(cs.drop (i+1)).take (n-(i+1))++cs.drop (i+(n-(i+1)))).toArray (n-1) [num 0]).toList=qW cs n i:=by
 unfold putAt qW;have e1:i+(n-(i+1))=n-1:=by omega
 have a:(cs.take i++(cs.drop (i+1)).take (n-(i+1))).length=n-1:=by simp;omega
 have b:(cs.take n).eraseIdx i=cs.take i++(cs.drop (i+1)).take (n-(i+1)):=by rw[List.eraseIdx_eq_take_drop_succ,List.take_take,Nat.min_eq_left (by omega),List.drop_take]
 rw[b,e1];generalize cs.take i++(cs.drop (i+1)).take (n-(i+1))=A at a |-;show(A++cs.drop (n-1)).take (n-1)++[num 0]++(A++cs.drop (n-1)).drop (n-1+1)=_;rw[List.take_append_of_le_length (by omega),tL (by omega),List.drop_append,a,K3 (by omega),List.nil_append,List.drop_drop,show n-1+(n-1+1-(n-1))=n by omega];simp
theorem Fx(Y:Cy prog eg N0 M O R D X Hd){ix:ι}{l:Hq}{w:World}{g:Nat}{cs:Aq}(j:Hd ix l w)(hk:l[k]?=some (g,.cells cs 3))(hi:i<n)(hn:n<=c)(hc:cs.size=c)(hm:c<=maxLen)(ae:∀u∈cs.toList.take n,u.oneCell'=true) :
  jH prog R D X 323 #[.slice (sq g) n c,num (i:Int),num ((i:Int)+1)] ix w λW v' s=>W=ix/\v'=.slice (sq g) (n-1) c/\Hd ix (l.set k (g,.cells (qW cs.toList n i).toArray 3)) s:=by
 refine⟨_,_,func323,by rfl,rfl,?_⟩;have H:bP prog 3=some 1:=kq
 have p:prog.underlying 25=some (.slice 3):=underlying25;simp only[ntmps323,bZ,Nat.reduceAdd,Nat.reduceSub];refine n5 (f:=λx=>⟨#[.slice (sq g) n c,num (i:Int),num ((i:Int)+1),x 3,x 4,x 5,x 6,x 7,x 8,x 9,x 10,x 11,x 12,x 13,x 14,x 15,x 16,x 17,x 18,x 19,x 20,x 21,x 22,x 23,x 24,x 25,x 26,x 27,x 28,x 29,x 30,x 31,x 32],[]⟩) kq ?_;intro x;refine bQ Y.C Y.T (aN Y.C Y.T ?_);simp only[fH];refine cF Y rfl kq (v:=.slice none 0 0) kq (aW Y.C Y.T (bQ Y.C Y.T (aN Y.C Y.T ?_)));simp only[fH,Nat.reduceAdd];refine cF Y rfl kq (v:=.slice (sq g) n c) kq (cF Y rfl kq (v:=num (i:Int)) kq (cF Y rfl kq (v:=num ((i:Int)+1)) kq (cF Y rfl kq (v:=.slice (sq g) n c) kq (cF Y rfl kq (v:=num (n:Int)) kq ?_))));refine cF Y rfl kq (v:=.slice (some ⟨g,i,none⟩) (i+1-i) (n-i)) ?_ ?_
 .have hb:gn prog (Instr.sliceBounds true n c (some (num (i:Int))) (some (num ((i:Int)+1))) (some (num (n:Int))))=some (i,i+1,n):=by
   have h1:(0:Int)<=(n:Int)/\(n:Int)<=(c:Int):=oq
   have h2:(0:Int)<=(i:Int)+1/\(i:Int)+1<=(n:Int):=oq
   have h3:(0:Int)<=(i:Int)/\(i:Int)<=(i:Int)+1:=oq
   simp only[Instr.sliceBounds,Instr.sliceBound,num,asIntOf,dA,jO,Bs,ip h1,xn,ip h2];have e:((i:Int)+1).toNat=i+1:=oq
   rw[e];have h3:(0:Int)<=(i:Int)/\(i:Int)<=((i+1:Nat):Int):=oq
   simp only[ip h3,jO,Bs]
  have:=qv (g:=g) p H hb;rw[iw oq] at this;exact nP rfl p kq kq kq kq this
 refine aW Y.C Y.T ?_;refine n5 (f:=λx=>⟨#[.slice (sq g) n c,num (i:Int),num ((i:Int)+1),x 3,x 4,x 5,x 6,x 7,x 8,x 9,x 10,x 11,x 12,x 13,x 14,x 15,x 16,x 17,x 18,x 19,x 20,x 21,x 22,x 23,x 24,x 25,x 26,x 27,x 28,x 29,x 30,x 31,x 32],[]⟩) kq ?_;intro x;refine bQ Y.C Y.T (bQ Y.C Y.T (aN Y.C Y.T ?_));simp only[fH,Nat.reduceAdd];refine cF Y rfl kq (v:=num (i:Int)) kq ?_;refine cF Y rfl kq (v:=num ((i:Int)+1)) kq ?_;refine cF Y rfl kq (v:=.bool ((i:Int)==(i:Int)+1)) kq ?_;rw[show((i:Int)==(i:Int)+1)=false by rw[bF];omega];refine aW Y.C Y.T ?_;refine eG Y.C Y.T (t:=false) kq (lN Y.C Y.T ?_);refine bQ Y.C Y.T (aN Y.C Y.T ?_);simp only[fH,Nat.reduceAdd];refine cF Y rfl kq (v:=.slice (sq g) n c) kq ?_;iterate 2 refine cF Y rfl kq (v:=num (n:Int)) kq ?_
 refine aW Y.C Y.T (n5 (f:=λx=>⟨#[.slice (sq g) n c,num (i:Int),num ((i:Int)+1),x 3,x 4,x 5,x 6,num (n:Int),x 8,x 9,x 10,x 11,x 12,x 13,x 14,x 15,x 16,x 17,x 18,x 19,x 20,x 21,x 22,x 23,x 24,x 25,x 26,x 27,x 28,x 29,x 30,x 31,x 32],[]⟩) kq ?_);intro x;have Q:=(jC (P:=prog) (sl:=true) (n:=n) (c:=c) (c':=c) (lo:=none) (hi:=some (num (i:Int))) (l:=0) (h:=i) (by
  show(if (0:Int)<=(i:Int)/\(i:Int)<=(c:Int) then some (0,(i:Int).toNat) else none)=_;rw[ip oq,xn]) lr hn).1;have aa:=(jC (P:=prog) (sl:=true) (n:=n) (c:=c) (c':=c) (lo:=some (num ((i:Int)+1))) (hi:=none) (l:=i+1) (h:=n) (by
  show(if (0:Int)<=(i:Int)+1/\(i:Int)+1<=(n:Int) then some (((i:Int)+1).toNat,n) else none)=_;rw[ip oq,show((i:Int)+1).toNat=i+1 by omega]) lr hn).1;have ab:=(jC (P:=prog) (sl:=true) (n:=n-1) (c:=c) (c':=c) (lo:=some (num ((n-1:Nat):Int))) (hi:=some (num (n:Int))) (l:=n-1) (h:=n) (by
  show(if (0:Int)<=(n:Int)/\(n:Int)<=(c:Int) then (if (0:Int)<=((n-1:Nat):Int)/\((n-1:Nat):Int)<=(n:Int) then some (((n-1:Nat):Int).toNat,(n:Int).toNat) else none) else none)=_;rw[ip oq,ip oq,xn,xn]) lr oq).1;have sA:=qv (g:=g) p H Q;rw[iw oq] at sA;have sB:=qv (g:=g) p H aa;have sC:=qv (g:=g) p H ab;rw[iw oq] at sC;obtain⟨ad,I⟩:∃ad:Addr,(if c=i+1 then some (⟨g,0,none⟩:Addr) else some ⟨g,i+1,none⟩)=some ad/\ad.block=g/\ad.spot=none/\(c=i+1\/ad.off=i+1):=by
  by_cases h:c=i+1
  .exact⟨_,ip h,rfl,rfl,.inl h⟩
  .exact⟨_,iw h,rfl,rfl,.inr rfl⟩
 have⟨I,a8,a9,a6⟩:=I;rw[I] at sB;have a3:∀b:World,b.heap[g]?=some (.cells cs 3)->∀ty:TypeId,(Builtin.append_ #[25,25] ty #[.slice (sq g) i c,.slice (some ad) (n-(i+1)) (c-(i+1))]).run prog b=.ok (.slice (sq g) (n-1) c) (b.setRow g (cs.toList.take i++(cs.toList.drop (i+1)).take (n-(i+1))++cs.toList.drop (i+(n-(i+1)))).toArray)/\∀ev∈(Builtin.append_ #[25,25] ty #[.slice (sq g) i c,.slice (some ad) (n-(i+1)) (c-(i+1))]).events prog b #[],∃a:Addr,ev.loc=.cell a/\a.block=g:=by
  intro b S ty;have⟨i0,o,_,V,_⟩:=info_parts (show(prog.info? 3).map (λi=>(i.zero,i.size,i.bytes))=some (some (num 0),1,8) by kernel_rfl);have hd:(cs.toList.drop ad.off).take (n-(i+1))=(cs.toList.drop (i+1)).take (n-(i+1)):=by
   rcases a6 with h|h
   .rw[show n-(i+1)=0 by omega];simp
   .rw[h]
  have:=yP (P:=prog) (t:=25) (e:=3) (g:=g) (cs:=cs) (w:=b) (n:=i) (c:=c) (m:=n-(i+1)) (ad:=ad) (cy:=c-(i+1)) (ty:=ty) p ⟨i0,o,V⟩ S ⟨a8,a9⟩ (λq hq=>by rcases a6 with h|h<;>omega) (λu hu=>by rw[hd,<-List.drop_take] at hu;exact ae u (List.mem_of_mem_drop (by simpa[show i+1+(n-(i+1))=n by omega] using hu))) oq oq;rw[hd,show i+(n-(i+1))=n-1 by omega] at this;rw[show i+(n-(i+1))=n-1 by omega];exact this
 generalize a4:(cs.toList.take i++(cs.toList.drop (i+1)).take (n-(i+1))++cs.toList.drop (i+(n-(i+1)))).toArray=sV at a3;refine bQ Y.C Y.T ?_;refine jk Y.C (Y.Z j).env.y9 kq (n:=8) rfl kq (λJ W G s=>W=ix/\Hd ix (if J 6=true then l.set k (g,.cells sV 3) else l) s/\((J 2=true->J 0=true)/\(J 5=true->J 3=true)/\(J 6=true->J 2=true/\J 5=true)/\(J 7=true->J 6=true))/\G=⟨#[(if J 7=true then .slice (sq g) (n-1) c else .slice (sq g) n c),num (i:Int),num ((i:Int)+1),x 3,x 4,x 5,x 6,num (n:Int),x 8,x 9,x 10,x 11,x 12,x 13,x 14,x 15,x 16,x 17,x 18,x 19,(if J 0=true then .slice (sq g) n c else x 20),(if J 1=true then num (i:Int) else x 21),(if J 2=true then .slice (sq g) (i-0) (c-0) else x 22),(if J 3=true then .slice (sq g) n c else x 23),(if J 4=true then num ((i:Int)+1) else x 24),(if J 5=true then .slice (some ad) (n-(i+1)) (c-(i+1)) else x 25),(if J 6=true then .slice (sq g) (n-1) c else x 26),x 27,x 28,x 29,x 30,x 31,x 32],[]⟩) (λb N=>⟨rfl,?_,by simp,rfl⟩) ?_ ?_ ?_
 .exact(Y.Z j).rely ((Y.Z j).rely j N) ((Y.Z j).env.tM _)
 .rintro J J' a7 G s d ⟨rfl,j,hj,rfl⟩;simp only[d 0 dq,d 1 dq,d 2 dq,d 3 dq,d 4 dq,d 5 dq,d 6 dq,d 7 dq] at j hj |-;exact⟨trivial,j,hj,trivial⟩
 .rintro J q a7 G s ⟨rfl,j,⟨j2,j5,j6,j7⟩,rfl⟩ hq d U rest r;match q,hq with
  | 0,_ =>
   have U:=U _ rfl;simp[Region.binds] at U;have L:J 7=false:=by
    cases h:J 7 with
    | false=>rfl
    | true=>rw[j2 (j6 (j7 h)).1] at d;cases d
   refine cF Y rfl kq (v:=.slice (sq g) n c) (by show some (Next.value (if J 7=true then .slice (sq g) (n-1) c else .slice (sq g) n c))=_;rw[L];rfl) ?_;refine r _ _ _ ⟨rfl,by simpa using j,by simp_all,by kernel_rfl⟩
  | 1,_ =>have U:=U _ rfl;simp[Region.binds] at U;refine cF Y rfl kq (v:=num (i:Int)) kq ?_;refine r _ _ _ ⟨rfl,by simpa using j,by simp_all,by kernel_rfl⟩
  | 2,_ =>have U:=U _ rfl;simp[Region.binds] at U;have⟨E,F⟩:=U;refine cF Y rfl kq (v:=.slice (sq g) (i-0) (c-0)) (nP rfl p (X:=.slice (sq g) n c) (Lo:=none) (Hi:=some (num (i:Int))) (Mx:=none) (by show(if J 0=true then .slice (sq g) n c else x 20)=_;rw[ip E]) rfl (by show some (if J 1=true then num (i:Int) else x 21)=_;rw[ip F]) rfl sA) ?_;refine r _ _ _ ⟨rfl,by simpa using j,by simp_all,by kernel_rfl⟩
  | 3,_ =>
   have U:=U _ rfl;simp[Region.binds] at U;have L:J 7=false:=by
    cases h:J 7 with
    | false=>rfl
    | true=>rw[j5 (j6 (j7 h)).2] at d;cases d
   refine cF Y rfl kq (v:=.slice (sq g) n c) (by show some (Next.value (if J 7=true then .slice (sq g) (n-1) c else .slice (sq g) n c))=_;rw[L];rfl) ?_;refine r _ _ _ ⟨rfl,by simpa using j,by simp_all,by kernel_rfl⟩
  | 4,_ =>have U:=U _ rfl;simp[Region.binds] at U;refine cF Y rfl kq (v:=num ((i:Int)+1)) kq ?_;refine r _ _ _ ⟨rfl,by simpa using j,by simp_all,by kernel_rfl⟩
  | 5,_ =>have U:=U _ rfl;simp[Region.binds] at U;have⟨E,F⟩:=U;refine cF Y rfl kq (v:=.slice (some ad) (n-(i+1)) (c-(i+1))) (nP rfl p (X:=.slice (sq g) n c) (Lo:=some (num ((i:Int)+1))) (Hi:=none) (Mx:=none) (by show(if J 3=true then .slice (sq g) n c else x 23)=_;rw[ip E]) (by show some (if J 4=true then num ((i:Int)+1) else x 24)=_;rw[ip F]) rfl rfl sB) ?_;refine r _ _ _ ⟨rfl,by simpa using j,by simp_all,by kernel_rfl⟩
  | 6,_ =>
   have U:=U _ rfl;simp[Region.binds] at U;have⟨E,F⟩:=U;rw[iw gq] at j;refine Gr Y j hk (by simp[eg]) rfl kq (t:=25) (A:=.slice (sq g) i c) (B:=.slice (some ad) (n-(i+1)) (c-(i+1))) rfl (show(if J 2=true then .slice (sq g) (i-0) (c-0) else x 22)=.slice (sq g) i c from by rw[ip E];rfl) (show(if J 5=true then .slice (some ad) (n-(i+1)) (c-(i+1)) else x 25)=.slice (some ad) (n-(i+1)) (c-(i+1)) from by rw[ip F]) a3 λs z=>?_
   .refine r _ _ _ ⟨rfl,by simpa using z,by simp_all,by kernel_rfl⟩
  | 7,_ =>have U:=U _ rfl;simp[Region.binds] at U;refine cF Y rfl kq (v:=.slice (sq g) (n-1) c) (by show some (Next.value (if J 6=true then .slice (sq g) (n-1) c else x 26))=_;rw[ip U.1]) ?_;refine r _ _ _ ⟨rfl,by simpa using j,by simp_all,by kernel_rfl⟩
  | n+8,h=>exact absurd h oq
 .rintro J a7 G s d ⟨rfl,j,_,rfl⟩;simp only[d 0 dq,d 1 dq,d 2 dq,d 3 dq,d 4 dq,d 5 dq,d 6 dq,d 7 dq,if_true] at j |-;refine aW Y.C Y.T ?_;refine n5 (f:=λx=>⟨#[.slice (sq g) (n-1) c,x 1,x 2,x 3,x 4,x 5,x 6,num (n:Int),x 8,x 9,x 10,x 11,x 12,x 13,x 14,x 15,x 16,x 17,x 18,x 19,x 20,x 21,x 22,x 23,x 24,x 25,x 26,x 27,x 28,x 29,x 30,x 31,x 32],[]⟩) kq ?_;intro x;refine bQ Y.C Y.T (aN Y.C Y.T ?_);simp only[fH,Nat.reduceAdd];iterate 2 refine cF Y rfl kq (v:=.slice (sq g) (n-1) c) kq ?_
  refine cF Y rfl kq (v:=num ((n-1:Nat):Int)) kq (cF Y rfl kq (v:=num (n:Int)) kq (cF Y rfl kq (v:=.slice (some ⟨g,n-1,none⟩) (n-(n-1)) (c-(n-1))) (nP rfl p kq kq kq kq sC) ?_));have ag:sV.size=cs.size:=by rw[<-a4];simp;omega
  have hz:∀w:World,(zeroValue 3).run prog w=.ok (num 0) w:=λw=>by have⟨i0,o,y,_,_⟩:=info_parts (show(prog.info? 3).map (λi=>(i.zero,i.size,i.bytes))=some (some (num 0),1,8) by kernel_rfl);simp[zeroValue,typeInfo,o,y]
  have af:∀(w:World) (K:Array Event),(zeroValue 3).events prog w K=K:=λw K=>by have⟨i0,o,y,_,_⟩:=info_parts (show(prog.info? 3).map (λi=>(i.zero,i.size,i.bytes))=some (some (num 0),1,8) by kernel_rfl);simp[zeroValue,typeInfo,o,y]
  refine Gw Y j (k:=k) (g:=g) (cs:=sV) (e:=3) gq (by simp[eg]) rfl kq (v:=.tuple #[]) (sV:=putAt sV (n-1) [num 0]) (t:=25) (A:=.slice (some ⟨g,n-1,none⟩) (n-(n-1)) (c-(n-1))) rfl kq (λb S ty=>by rw[show n-(n-1)=1 by omega];exact Fq p hz af S oq) λs z=>?_;refine aW Y.C Y.T ?_;rw[List.set_set,show putAt sV (n-1) [num 0]=(qW cs.toList n i).toArray from by rw[<-a4];exact congrArg List.toArray (Fy hi gq)] at z;refine bQ Y.C Y.T (aN Y.C Y.T ?_);simp only[fH,Nat.reduceAdd];iterate 2 refine cF Y rfl kq (v:=.slice (sq g) (n-1) c) kq ?_
  refine aW Y.C Y.T ?_;refine n6 Y.C Y.T ⟨.inr rfl,rfl,λb N=>⟨.slice (sq g) (n-1) c,?_,?_,rfl,rfl,(Y.Z z).rely z N⟩⟩
  .kernel_rfl
  .have he:∀(tm:Aq) (w:World),(results Tryz.f323 tm).events prog w #[]=#[]:=λtm w=>by kernel_rfl
   rw[he];exact(Y.T _).idle _
end
def B0 (args:Aq)(s:AS):Option (Value × AS):=match args.toList with
 | [.slice (some ⟨d,0,none⟩) n c,.int .i64 i,.int .i64 j]=>match s.get d with
  | some (.cells cs 3 fz)=>if (0<=i/\i<n/\j=i+1)/\n<=c/\n<=cs.toList.length/\(cs.toList.take n).all dX=true then some (.slice (some ⟨d,0,none⟩) (n-1) c,s.set d (some (.cells (qW cs.toList n i.toNat).toArray 3 fz))) else none
  | _=>none
 | _=>none
def Au(pr:Prim):Prim:=λg=>if g.beq 323 then some B0 else pr g
theorem tJ(hi:i<n)(U:n<=cs.length):(qW cs n i).length=cs.length:=by unfold qW;grind
theorem DD(hi:i<n)(U:n<=cs.length)(q:Nat):(qW cs n i)[q]?=if q<i then cs[q]? else if q<n-1 then cs[q+1]? else if q=n-1 then some (num 0) else cs[q]?:=by unfold qW;grind
def Rh:∀{y:Value},dX y=true->y.oneCell'=true:=by intro y h;unfold dX at h;split at h<;>first|rfl|cases h
def LP(h:B0 args s=some (v,s')):s.nx<=s'.nx:=by
 unfold B0 at h;split at h
 .split at h
  .split at h
   .cases h;exact jl _
   .cases h
  .cases h
 .cases h
def Av(d:∀f g a s v b,pr f=some g->g a s=some (v,b)->s.nx<=b.nx):∀f g a s v b,Au pr f=some g->g a s=some (v,b)->s.nx<=b.nx:=by
 intro f g a s v b c h;unfold Au at c;split at c
 .cases c;exact LP h
 .exact d _ _ _ _ _ _ c h
section
theorem SO(Y:Cy prog eg N0 M O R D X Hd)(args:Aq)(v:Value)(s s':AS)(h:B0 args s=some (v,s')):Sound prog eg An R D X Hd 323 args s v s':=by
 intro S l fr ix w a V T hA a8;unfold B0 at h;split at h
 .next d n c i j ha =>
  split at h
  .next cs Q W =>
   split at h
   .next hc =>
    cases h;obtain⟨⟨c1,c2,c3⟩,c4,C,c6⟩:=hc;subst c3;have o:args=#[.slice (sq d) n c,.int .i64 i,.int .i64 (i+1)]:=by rw[<-ha]
    subst o;obtain⟨k,rfl⟩:∃k:Nat,i=(k:Int):=⟨i.toNat,by omega⟩;have⟨h1,h2⟩:=hA;have a7:a.size=3:=gq
    obtain⟨x0,x1,x2,rfl⟩:∃x0 x1 x2,a=#[x0,x1,x2]:=⟨a[0],a[1],a[2],by
     apply Array.ext
     .simpa using a7
     .intro q r q2;match q,r with
      | 0,_=>rfl
      | 1,_=>rfl
      | 2,_=>rfl
      | q+3,r=>omega⟩;have v0:=h2 0 _ _ rfl rfl;have v1:=(h2 1 _ _ rfl rfl).sc rfl;have v2:=(h2 2 _ _ rfl rfl).sc rfl;subst v1 v2;obtain⟨g,z,e,P,r,rfl,q3,q4,q5,q6⟩:=v0.sl;have⟨kk,o',hk,H,G,I,N⟩:=V.at (fr:=fr) W r;obtain⟨B,rfl,hz,⟨Bv,F⟩,b⟩:=I;have E:e=1:=by have:=(N cs 3 Q rfl).1;rw[show bP prog 3=some 1 by kernel_rfl] at this;cases this;rfl
    subst E;have a5:B.size=P:=oq
    have p:k<n:=oq
    have a9:cs.toList.length=cs.size:=iq
    have a3:∀u∈B.toList.take n,u.oneCell'=true/\∃y∈cs.toList.take n,u=y:=by
     intro u K;have⟨q,J⟩:=List.mem_iff_getElem?.1 K;rw[Bu] at J;split at J
     .next a6 =>have x:cs[q]?=some (cs[q]'oq):=gF oq;have m:cs[q]'oq∈cs.toList.take n:=List.mem_iff_getElem?.2 ⟨q,by rw[Bu,ip a6];simpa using x⟩;have Z:=aT.1 c6 _ m;have e:=(b q _ u x gq).sc Z;refine⟨?_,_,m,e⟩;rw[e];exact Rh Z
     .cases J
    have⟨t,cc,g1,g2,g3,g4⟩:=Fx Y (ix:=ix) (g:=g) (c:=P) (cs:=B) T G p oq a5 q5 (λu K=>(a3 u K).1);refine⟨t,cc,g1,g2,g3,lM g4 λi' e' a' w'=>?_⟩;rintro⟨r1,r2,r3⟩;refine⟨r1,r2,λA hR=>?_⟩;obtain⟨v',p1,p2,rfl,rfl,p5⟩:=r3 A hR;refine⟨_,p1,p2,S,l.set kk (g,.cells (qW B.toList n k).toArray 3),cb.le_refl S,λ_ _=>rfl,V.uQ W r hk (Y.xC T) ⟨_,rfl,?_,⟨?_,λhf=>?_⟩,λq y L f U=>?_⟩ (λcs1 t1 fz1 E=>?_),by rw[<-List.set_append_left _ _ H];exact p5,?_⟩
    .rw[List.size_toArray,tJ p (by simp;omega)];simp;omega
    .rw[List.size_toArray,xn,tJ p C];omega
    .rw[List.size_toArray,xn,tJ p C];have:=F hf;omega
    .rw[IE] at f U;rw[show(k:Int).toNat=k from xn k,DD p C] at f;rw[DD p (by simp;omega)] at U;by_cases z1:q<k
     .rw[ip z1] at f U;exact b q y L gq gq
     .rw[iw z1] at f U;by_cases z2:q<n-1
      .rw[ip z2] at f U;exact b (q+1) y L gq gq
      .rw[iw z2] at f U;by_cases z3:q=n-1
       .rw[ip z3] at f U;cases f;cases U;exact VR.dx rfl
       .rw[iw z3] at f U;exact b q y L gq gq
    .cases E;exact N cs 3 Q rfl
    .exact VR.Af r oq oq q5 q6
   .cases h
  .cases h
 .cases h
def JW(Y:Cy prog eg N0 M O R D X Hd)(d:ck prog eg An R D X Hd pr):ck prog eg An R D X Hd (Au pr):=by
 refine⟨Av d.nx,λf g a s v e b h=>?_⟩;unfold Au at b;split at b
 .next c =>have c:=gh c;subst c;cases b;exact SO Y a v s e h
 .exact d.sound _ _ _ _ _ _ b h
end
def ji{l:List FuncId}(h:(l.all λf=>(pr f).isNone)=true):∀f,f∈l->pr f=none:=λf a=>Option.isNone_iff_eq_none.1 (aT.1 h f a)
def xp(n:Nat):kg (1000+n)=false:=by
 unfold kg;rw[Bool.or_eq_false_iff];constructor
 .cases h:Nat.beq (1000+n) 177 with
  | false=>rfl
  | true=>have:=gh h;omega
 .cases h:Nat.beq (1000+n) 179 with
  | false=>rfl
  | true=>have:=gh h;omega
def Jl (b:UInt8):UInt8:=if 65<=b.toNat/\b.toNat<=90 then UInt8.ofNat (b.toNat+32) else b
def lz (l:Bq):Bq:=l.map Jl
theorem PD(h:128<=r)(d:Good r):∀b∈encodeRune r,128<=b.toNat:=by
 intro b U;unfold encodeRune at U;obtain⟨x,a,rfl⟩:=List.mem_map.1 U;have c:128<=x/\x<=255:=by unfold encodeRuneZ at a;grind
 show 128<=(UInt8.ofNat x.toNat).toNat;rw[UInt8.toNat_ofNat'];omega
theorem Ir(a:Good r):encodeRune (dO r)=(encodeRune r).map Jl:=by
 by_cases h:128<=r
 .have e1:dO r=r:=by unfold dO;rw[iw oq]
  rw[e1];refine((List.map_congr_left λb U=>?_).trans (List.map_id _)).symm
  have:=PD h a b U;unfold Jl;grind
 .have c:0<=r:=by unfold Good at a;omega
  obtain⟨n,rfl⟩:=Int.eq_ofNat_of_zero_le c;have U:(UInt8.ofNat n).toNat=n:=by rw[UInt8.toNat_ofNat'];omega
  have e1:encodeRune ((n:Nat):Int)=[UInt8.ofNat n]:=by have:=SS (b:=UInt8.ofNat n) oq;grind
  rw[e1];unfold dO;show _=[Jl (UInt8.ofNat n)];unfold Jl;rw[U];by_cases h1:65<=n/\n<=90
  .rw[ip oq,ip h1];have d:(UInt8.ofNat (n+32)).toNat=n+32:=by rw[UInt8.toNat_ofNat'];omega
   have:=SS (b:=UInt8.ofNat (n+32)) oq;grind
  .grind
def zZ:∀{ls:Iq},(∀l∈ls,Good l)->aJ (ls.map dO)=lz (aJ ls)
 | [],_=>rfl
 | l::ls,h=>by
  have ih:=zZ (ls:=ls) λx b=>h x (Jo _ b);have e1:aJ (l::ls)=encodeRune l++aJ ls:=by simp[aJ]
  have a:aJ ((l::ls).map dO)=encodeRune (dO l)++aJ (ls.map dO):=by simp[aJ]
  rw[e1,a,ih,Ir (h l (List.mem_cons_self ..))];unfold lz;rw[Bz]
def TxL (x:Bq):Prop:=∃ls:Iq,(∀l∈ls,Good l)/\ls.length<=100000/\x=aJ ls
def Wc (args:Aq)(s:AS):Option Value:=match args.toList with
 | [.string x,.int .i64 k]=>match s.get 1 with
  | some (.cells cs 335 (0,0))=>if vN cs.toList=true/\4066<=s.nx/\x.data.toList.length<=100000 then some (str (G0 x.data.toList k)) else none
  | _=>none
 | _=>none
def KQ (args:Aq):Option Value:=match args.toList with
 | [.int .i32 l,.string st]=>if (-1<=l/\l<=1114111)/\(∀b∈st.data.toList,b.toNat<128) then some (.bool (gz l st.data.toList)) else none
 | _=>none
def Vi (all:Iq)(x:Bq):Bool:=(List.range (all.length+1)).any λi=>(List.range (all.length+1)).any λj=>cw x (cP all i j)
theorem RA(all:Iq)(i j:Nat):Vi all (cP all i j)=true:=by
 have e:cP all i j=cP all (min i all.length) (min j all.length):=by
  unfold cP;congr 1;by_cases a:all.length<=i
  .rw[K3 a,Nat.min_eq_right a,K3 lr];simp
  .rw[Nat.min_eq_left (show i<=all.length by omega)];by_cases U:all.length<=j
   .rw[Nat.min_eq_right U,tL gq,tL gq]
   .grind
 refine List.any_eq_true.2 ⟨min i all.length,List.mem_range.2 oq,List.any_eq_true.2 ⟨min j all.length,List.mem_range.2 oq,(dz _ _).2 e⟩⟩
def Vj{all:Iq}(a:∀l∈all,Good l)(c:all.length<=100000){x:Bq}(h:Vi all x=true):TxL x:=by have⟨i,_,h⟩:=List.any_eq_true.1 h;have⟨j,_,h⟩:=List.any_eq_true.1 h;refine⟨(all.drop i).take (j-i),λl b=>a l (List.mem_of_mem_drop (List.mem_of_mem_take b)),?_,(dz _ _).1 h⟩;simp;omega
def NP (all:Iq)(args:Aq):Option Value:=match args.toList with
 | [.string x]=>if Vi all x.data.toList=true then some (str (lz x.data.toList)) else none
 | _=>none
def Si (f:Bq->Bq)(args:Aq):Option Value:=match args.toList with
 | [.string x,.string y]=>if cw y.data.toList Cu=true/\x.data.toList.length<=1000000 then some (str (f x.data.toList)) else none
 | _=>none
def M0 (all:Iq):Prim:=iV 382 RE (J3 (Au (gC 4065 all)))
section
variable (P:Program)
section
variable (all:Iq)
def Q0:Prim:=lE 157 Wc (bH P kg (M0 all) 0 157) (M0 all)
def Q2:Prim:=iV 328 KQ (Q0 P all)
def Q4:Prim:=iV 258 (NP all) (Q2 P all)
def Q5:Prim:=iV 198 (Si λx=>oy (uP x)) (Q4 P all)
def rE:Prim:=iV 316 (Si oy) (Q5 P all)
end
end
variable {all:Iq}
section
variable {pr:Prim}
theorem O6{f:FuncId}{V:Aq->Option Value}(h:∀f g a s v b,pr f=some g->g a s=some (v,b)->s.nx<=b.nx):∀g k a s v b,iV f V pr g=some k->k a s=some (v,b)->s.nx<=b.nx:=by
 intro g k a s v b U c;unfold iV at U;split at U
 .grind
 .exact h g k a s v b U c
def Aw:tp 4065 (M0 all) all:=⟨O6 (EK (Av (qj 4065 all))),λY A a c d b=>by have⟨z,e,h1⟩:=a.1;exact ck.Xe (M4 Y h1 (JW Y b)) (Ih Y a c)⟩
def QZ:Ll (M0 all):=⟨ji kq,by kernel_rfl,λs t w h=>EF.given rq (by simp only[h];rw[ip kq]),xp⟩
theorem JX:tp 4065 (Q0 prog all) all:=by
 refine⟨FG Aw.1,λY A b q e o=>ck.forget Y gO cv cn e (Aw.2 Y A b q e o) ?_⟩;intro a s v h;unfold Wc at h;split at h
 .next x k b =>
  split at h
  .next l p =>
   split at h
   .next n =>
    obtain⟨f,g,i⟩:=n;cases h;have c:a=#[str x.data.toList,.int .i64 k]:=by apply uX.1; simp[b]
    subst c;have j:l=cR.toArray:=by apply uX.1; simp[tN f]
    subst j;have U:(cR.toArray).toList.all (ry s.nx)=true:=by
     rw[List.all_eq_true];intro y u;have h1:cR.all dX=true:=kq
     have h2:=List.all_eq_true.1 h1 y gq;unfold ry;split<;>first|exact h2|cases h2
    refine⟨rfl,g,by simp[ry,dX],1,cR.toArray,335,(0,0),p,U,λw t d=>?_⟩;obtain⟨r,e1,m⟩:=RO QZ x.data.toList i k ⟨oq,d⟩;exact⟨r,e1,(m.2 1 oq).trans d⟩
   .cases h
  .cases h
 .cases h
def Q1:VB 4065 all (Q0 prog all):=⟨kq,kq,kq,ji kq⟩
def JY:tp 4065 (Q2 prog all) all:=JX.add (m:=1) (f:=328) (V:=KQ) (by
 intro b v a;unfold KQ at a;split at a
 .next l i e =>
  have c:b=#[.int .i32 l,str i.data.toList]:=by apply uX.1; simp[e]
  subst c;split at a
  .next d =>cases a;obtain⟨g,h⟩:=UG Q1 kq d.1 d.2 (xp _);exact⟨rfl,rfl,g,h⟩
  .cases a
 .cases a)
def Q3:Wr (Q2 prog all):=⟨ji kq,by kernel_rfl,λs q=>by
 have e:encodeRune 65533=[239,191,189]:=kq
 rw[e];exact Ig kq (λq=>EF.given rfl rfl) q,xp⟩
def Jk(f:Wr pr)(a:pr 258=none){ls:Iq}(c:∀l∈ls,Good l)(e:ls.length<=100000):∃b,Ef pr 258 #[str (aJ ls)] s (str (lz (aJ ls))) b:=by have⟨b,d⟩:=Uo (s:=s) f c e;rw[zZ c] at d;refine⟨b,EF.of a func258 rfl ?_⟩;exact zs (zr (zc 1 d (zf yR)))
section
variable (hg:∀l∈all,Good l)
section
variable (hl:all.length<=100000)
def JZ:tp 4065 (Q4 prog all) all:=JY.add (m:=1) (f:=258) (V:=NP all) (by
 intro b v a;unfold NP at a;split at a
 .next x d =>
  have c:b=#[str x.data.toList]:=by apply uX.1; simp[d]
  subst c;split at a
  .next e =>cases a;obtain⟨i,h1,h2,h3⟩:=Vj hg hl e;rw[h3];obtain⟨g,h⟩:=Jk Q3 kq h1 h2;exact⟨rfl,rfl,g,h⟩
  .cases a
 .cases a)
def Bd{f:Bq->Bq}(h:Si f args=some v):∃x:Bq,args=#[str x,str Cu]/\v=str (f x)/\x.length<=1000000:=by
 unfold Si at h;split at h
 .next x y b =>
  split at h
  .next a =>cases h;have e:y.data.toList=Cu:=(dz _ _).1 a.1;refine⟨x.data.toList,?_,rfl,a.2⟩;apply uX.1;rw[b,<-e]
  .cases h
 .cases h
def J0:tp 4065 (Q5 prog all) all:=(JZ hg hl).add (m:=1) (f:=198) (by intro args v hv;obtain⟨x,rfl,rfl,hx⟩:=Bd hv;have⟨s1,h⟩:=Rz (pr:=Q4 prog all) (ji kq) hx (EF.eval 200 kq);exact⟨rfl,rfl,s1,h⟩)
def J2:tp 4065 (rE prog all) all:=(J0 hg hl).add (m:=1) (f:=316) (by intro args v hv;obtain⟨x,rfl,rfl,hx⟩:=Bd hv;have⟨s1,h⟩:=NO (pr:=Q5 prog all) (ji kq) hx (EF.eval 200 kq);exact⟨rfl,rfl,s1,h⟩)
end
end
def Q7:wV 4065 all (rE prog all):=⟨kq,kq,kq,kq⟩
def M1:∀f,f∈OG->rE prog all f=none:=ji kq
def M3{x:Bq}(a:x.length<=1000000)(s:AS):Ef (rE prog all) 198 #[str x,str Cu] s (str (oy (uP x))) s:=by refine EF.given rfl ?_;have:Si (λx=>oy (uP x)) #[str x,str Cu]=some (str (oy (uP x))):=ip (show cw Cu Cu=true/\x.length<=1000000 from⟨dq,a⟩);simp only[this]
def M2{x:Bq}(a:x.length<=1000000)(s:AS):Ef (rE prog all) 316 #[str x,str Cu] s (str (oy x)) s:=by refine EF.given rfl ?_;have:Si oy #[str x,str Cu]=some (str (oy x)):=ip (show cw Cu Cu=true/\x.length<=1000000 from⟨dq,a⟩);simp only[this]
def Q6(e:∀l∈all,Good l)(o:all.length<=20000):Wp 4065 all lz G0 (λt=>Vi all t=true) (λt _=>t.length<=100000) (rE prog all) where
 j:={
  h:={
   g:={
    xN:=(by kernel_rfl)
    ZE:=(by kernel_rfl)
    one:=λs l c h p=>by
     refine EF.given (g:=λd s=>match KQ d with|some v=>some (v,s)|none=>none) rfl ?_
     have m : -1<=l/\l<=1114111:=by
      rcases h with rfl|h
      .
       omega
      .
       have:=e l h;unfold Good at this;omega
     have:KQ #[.int .i32 l,str c]=some (.bool (gz l c)):=ip (show(-1<=l/\l<=1114111)/\(∀b∈c,b.toNat<128) from⟨m,p⟩)
     simp only[this]
    no:=ji (by kernel_rfl)
    pos:=λl h=>by have:=e l h;unfold Good at this;omega
    len:=by omega }
   low:=λs t f=>by
    refine EF.given rfl ?_
    have:NP all #[str t]=some (str (lz t)):=ip (show Vi all t=true from f)
    simp only[this]
   Wd:=λs t k f h1 m=>by
    refine EF.given rfl ?_
    have:Wc #[str t,num k] s=some (str (G0 t k)):=by
     unfold Wc
     simp only[h1]
     exact ip (show vN cR=true/\4066<=s.nx/\t.length<=100000 from⟨by kernel_rfl,by omega,f⟩)
    simp only[this] }
  fP:=(by kernel_rfl)
  QL:=(by kernel_rfl)
  Jq:=(by kernel_rfl)
  Ut:=(by kernel_rfl)
  QN:=(by kernel_rfl)
  lv:=λl h=>by have:=e l h;unfold Good at this;omega }
 t:=Q7
 no:=M1
 a:={
  t:=λi j=>RA all i j
  w:=λi j n=>by
   have:=gG ((all.drop i).take (j-i))
   have h2:((all.drop i).take (j-i)).length<=all.length:=by simp;omega
   show(aJ ((all.drop i).take (j-i))).length<=100000
   omega
  l:=λi j n=>E9 _ _ _ }
 len:=o
end
variable {lo:Bq->Bq}{T:Bq->Prop}{W:Bq->Int->Prop}
section
variable {pr:Prim}{s:AS}{wr:Bq->Int->Bq}
def qh(us:List Tok):TS:=(us.foldl TS.step TS.zero).cu
def NN(c:Di pr){g:List gp}(n:rQ s v g)(l:gu s g us)(m:∀u∈us,mQ u)(q:jj us<=1000000)(r:us.length<=100000):(∃d w h,Ef pr 39 #[v] s w d/\rP d w h/\fJ d h (qh us).nodes/\aO (λ_=>False) s d/\∀x,blk w x->s.nx<=x)/\Gv (jj us) (qh us)/\(qh us).w=2/\(qh us).nodes.length<=200000000:=by have⟨o,a,f⟩:=ya c us m Gv.zero oq (by show 1+_+_<_;omega);have f:(us.foldl TS.step TS.zero).nodes.length<=1+1703*us.length:=f;rw[Nat.zero_add] at a;have⟨i,j,p⟩:=a.cu;refine⟨Ry c.no n l oq o λs b k=>?_,i,j,by unfold qh;omega⟩;refine w5 c.no c.um c.fP k a.w3 (λe=>(a.gT e).2.2.1) (λe=>?_) a.tt oq;have⟨g1,g2⟩:=a.im e nodup_nil;exact(g1.gT g2).2.2.1
structure O4(x:St):Prop where
 ok:∀u∈x.us,mQ u
 tot:jj x.us+x.tx.length<=16*x.k
def lH(a b:List Tok):jj (a++b)=jj a+jj b:=by unfold jj;simp
theorem DT(h:∀u∈us,mQ u):(∀u∈ig tx us,mQ u)/\jj (ig tx us)=jj us+tx.length:=by
 unfold ig;split
 .grind
 .next e =>
  refine⟨λu U=>?_,?_⟩
  .rcases List.mem_append.1 U with q|q
   .exact h u q
   .simp at q;subst q;exact⟨.inl rfl,λ_=>e,nodup_nil⟩
  .rw[lH];unfold jj;simp
end
section
variable {pr:Prim}{s:AS}{wr:Bq->Int->Bq}
def EZ:∀(n k:Nat) {aF:fF} {r:fF × Bool × Bool × Nat},ki aF->qy all lo wr n k aF=some r->ki r.1
 | 0,_,_,_,_,h=>by cases h
 | n+1,k,aF,r,ha,h=>by
  unfold qy at h;split at h
  .cases h;exact nodup_nil
  .split at h
   .cases h;exact ha
   .exact EZ n _ (zN ha) h
def NA(k:Nat):ki (eB all lo wr k).1:=by
 unfold eB;cases h:qy all lo wr (all.length+2) (eL all dE k) [] with
 | none=>exact nodup_nil
 | some r=>exact EZ _ _ nodup_nil h
theorem qd{u:Tok}(h:∀v∈us,mQ v)(U:mQ u):∀v∈us++[u],mQ v:=λv a=>by grind
def nJ(u:Tok):jj [u]=u.text.length:=by unfold jj;simp
theorem KC(p:wS all wr T W)(x:St)(s:dL all x.k ≠ -1)(h:O4 x):O4 (jp all lo wr x):=by
 have v:x.k<all.length:=jQ s;have⟨e1,b⟩:=DT (tx:=x.tx) h.ok;have q:=h.tot;have a:∀w,O4 (vk all w x):=λw=>by
  have h2:x.k+w<=eL all [62] (x.k+w):=by unfold eL;omega
  have d:=lJ (all:=all) (x.k+w) (eL all [62] (x.k+w));refine⟨qd e1 ⟨i3 (.inl rfl),λe=>absurd (show(4:Int)=1 from e) dq,nodup_nil⟩,?_⟩;show jj (ig x.tx x.us++[_])+([]:Bq).length<=16*(eL all [62] (x.k+w)+1);rw[lH,nJ,b];grind
 unfold jp;generalize u:qP all x.k=n;rcases n with _|_|_|_|_|_|_|_|n
 .have y:=E8 (all:=all) (k:=x.k);have o:=p.wl x.k (GX all x.k) 0;refine⟨h.ok,?_⟩;grind
 .have⟨A,B,C⟩:=jF (lo:=lo) (wr:=wr) (k:=x.k+1) v;have y:=ue (all:=all) (nm:=ef all lo (x.k+1)) (k:=(eB all lo wr (x.k+1)).2.2.2);have o:=p.wl (eB all lo wr (x.k+1)).2.2.2 (nb all (ef all lo (x.k+1)) (eB all lo wr (x.k+1)).2.2.2) 0;have d:=lJ (all:=all) (eB all lo wr (x.k+1)).2.2.2 (nb all (ef all lo (x.k+1)) (eB all lo wr (x.k+1)).2.2.2);have f:=NA (all:=all) (lo:=lo) (wr:=wr) (x.k+1);show O4 (kU all lo wr x);have g:mQ ⟨2,[],ef all lo (x.k+1),(eB all lo wr (x.k+1)).1,(eB all lo wr (x.k+1)).2.1⟩:=⟨.inr (.inl rfl),λe=>absurd (show(2:Int)=1 from e) dq,f⟩;unfold kU vg;generalize (eB all lo wr (x.k+1)).2.2.1=i;generalize Qv (ef all lo (x.k+1))=U;generalize aH (ef all lo (x.k+1)) dM=l;generalize nb all (ef all lo (x.k+1)) (eB all lo wr (x.k+1)).2.2.2=z at *;generalize (eB all lo wr (x.k+1)).2.2.2=c at *;cases i with
  | false =>refine⟨h.ok,?_⟩;grind
  | true =>refine⟨qd e1 g,?_⟩;show jj (ig x.tx x.us++[_])+(bif U then (bif l then _ else _) else _:Bq).length<=16*(bif true&&U then z else c);rw[lH,nJ,b];cases U<;>cases l<;>simp only[Bool.true_and,cond_true,cond_false,List.length_nil]<;>omega
 .have r:x.k+1<all.length:=jQ (by rw[wY u];decide);have⟨A,B,C⟩:=jF (lo:=lo) (wr:=wr) (k:=x.k+2) r;show O4 (ve all lo wr x);unfold ve;generalize (eB all lo wr (x.k+2)).2.2.1=i;generalize (eB all lo wr (x.k+2)).2.2.2=c at *;cases i with
  | false=>exact⟨h.ok,by show jj x.us+x.tx.length<=16*c;omega⟩
  | true =>refine⟨qd e1 ⟨.inr (.inr (.inl rfl)),λe=>absurd (show(3:Int)=1 from e) dq,nodup_nil⟩,?_⟩;show jj (ig x.tx x.us++[_])+([]:Bq).length<=16*c;rw[lH,nJ,b];grind
 .exact⟨h.ok,by show jj x.us+x.tx.length<=16*(x.k+3);omega⟩
 .exact a 2
 .have⟨m,h1,h2,h3,t⟩:=eX all (λj=>!(Bt all j).isEmpty) (x.k+2);change Fs all x.k=x.k+2+m at h1;have d:=lJ (all:=all) (x.k+4) (Fs all x.k);refine⟨qd e1 ⟨i3 (.inl rfl),λe=>absurd (show(4:Int)=1 from e) dq,nodup_nil⟩,?_⟩;show jj (ig x.tx x.us++[_])+([]:Bq).length<=16*(Fs all x.k+(Bt all (Fs all x.k)).length);rw[lH,nJ,b];grind
 .have t:x.k+9<=vL all x.k:=by unfold vL nG;omega
  have o:vL all x.k<=qG all x.k:=by unfold qG eL;omega
  have d:qG all x.k<=eL all [62] (qG all x.k):=by unfold eL;omega
  refine⟨qd e1 ⟨i3 (.inr rfl),λe=>absurd (show(5:Int)=1 from e) dq,nodup_nil⟩,?_⟩;show jj (ig x.tx x.us++[_])+([]:Bq).length<=16*(eL all [62] (qG all x.k)+1);rw[lH,nJ,b];grind
 .exact a 2
 .exact a 1
def EN(ht:wS all wr T W):∀(n:Nat) (x:St),Lk all x->O4 x->O4 (runK all lo wr n x)/\Lk all (runK all lo wr n x)
 | 0,x,hI,h=>⟨h,hI⟩
 | n+1,x,hI,h=>by
  unfold runK;split
  .exact⟨h,hI⟩
  .next hl =>obtain⟨a1,a2,a3,a4⟩:=A6 ht x hl hI.2.1 hI.2.2;exact EN ht n _ ⟨a2,a3,a4⟩ (KC ht x hl h)
theorem NJ(U:wS all wr T W)(d:all.length<=20000):(∀u∈sM all lo wr,mQ u)/\jj (sM all lo wr)<=1000000/\(sM all lo wr).length<=100000:=by
 have⟨h1,h2⟩:=EN (lo:=lo) U (all.length+1) ⟨0,[],[]⟩ ⟨Nat.zero_le _,Nat.zero_le _,Nat.zero_le _⟩ ⟨(λu a=>by cases a),Nat.zero_le _⟩;unfold sM;generalize runK all lo wr (all.length+1) ⟨0,[],[]⟩=y at *;have⟨e1,b⟩:=DT (tx:=y.tx) h1.ok;have c:=zi y.tx y.us
 have:=h1.tot;have⟨e,i2,i3⟩:=h2;grind
def uq(all:Iq):List Nd:=(qh (sM all lz G0)).nodes
end
def FC{α β:Type}(f:α->β):∀(l:List α) (i:Nat),(l.map f).eraseIdx i=(l.eraseIdx i).map f
 | [],i=>by simp
 | x::l,0=>rfl
 | x::l,i+1=>by simp[FC f l i]
section
variable {pr:Prim}
theorem Pz(h:pr 323=some B0):Dg pr:=by
 intro s v l i c b;rcases c with ⟨_,e⟩|⟨d,cp,cs,fz,rfl,h0,h1,h2,h3⟩
 .rw[e] at b;simp at b
 have U:cs.toList.take l.length=l.map λk=>num ((k:Nat):Int):=by apply List.ext_getElem?;grind
 have f:l.length<=cs.toList.length:=by have:=congrArg List.length U;grind
 refine⟨.slice (sq d) (l.length-1) cp,s.set d (some (.cells (qW cs.toList l.length i).toArray 3 fz)),?_,rfl,rfl,.inr ⟨d,cp,(qW cs.toList l.length i).toArray,fz,?_,?_,h1,by rw[AS.bn,ip rfl],λq k j=>?_⟩,?_,λy a=>?_⟩
 .refine EF.given h ?_;unfold B0;simp only[h2];have g:(cs.toList.take l.length).all dX=true:=by rw[U,aT];intro y a;obtain⟨k,_,rfl⟩:=List.mem_map.1 a;rfl
  grind
 .grind
 .grind
 .unfold qW;grind
 .exact aO.set (aO.refl s) (λ_=>dj _ _ _) _
 .have a:=cH a;rw[a];exact dj _ _ _
def J1:Di (rE prog all) where
 no:=ji kq
 nA:=ji kq
 um:=kq
 Up:=kq
 Uq:=kq
 QM:=kq
 Ur:=kq
 Us:=kq
 fP:=kq
 del:=Pz rfl
 tr:=λx a s=>M3 a s
 tl:=λx a s=>M2 a s
structure Hs(nC:Prim)(us:List Nd):Prop where
 run:∀s:AS,s.nx=4066->s.get 1=some (.cells cR.toArray 335)->s.get 4064=some (.cells #[aD] 82)->∃s3 w xs,EW prog kg nC (match Tryz.f38.body with|some c=>c|none=>.skip) ([am 4065 0,am 4064 0]++List.replicate 5 undef) s (λe _ s'=>(e=.normal\/e=.ret)/\s'=s3)/\Has s3 4064 (.cells #[w] 82)/\rP s3 w xs/\fJ s3 xs us/\aO (λx=>x=4064) s s3/\∀x,blk w x->4066<=x
def UU(O:∀l∈all,Good l)(v:all.length<=20000):Hs (rE prog all) (uq all)/\(∃m,Gv m (qh (sM all lz G0)))/\(qh (sM all lz G0)).w=2/\(uq all).length<=200000000:=by
 have u:=Q6 O v;have⟨A,T,U⟩:=NJ (lo:=lz) u.a v;have⟨_,S,y⟩:=ya (J1 (all:=all)) (sM all lz G0) A Gv.zero oq (by show 1+_+_<_;omega);have y:((sM all lz G0).foldl TS.step TS.zero).nodes.length<=1+1703*(sM all lz G0).length:=y;have⟨D,E,X⟩:=S.cu;refine⟨⟨λs P o h=>?_⟩,⟨_,D⟩,E,by unfold uq qh;omega⟩;have⟨W,V,B,e1,r,G,t,Z⟩:=MI (s:=s) u ⟨oq,o⟩ oq;obtain⟨⟨f,wv,k,H,I,J,L,M⟩,_⟩:=NN (J1 (all:=all)) r G A T U;have e:aO (λ_=>False) s f:=t.trans L λ_ _ z=>z;have c:Has f 4064 (.cells #[aD] 82):=Has.fr (s:=s) ⟨oq,h⟩ e id;obtain⟨vd,vc,p⟩:∃C F,V=.slice C B.length F:=by
  rcases r with ⟨rfl,rfl⟩|⟨d,N,rfl,_⟩
  .exact⟨none,0,rfl⟩
  .exact⟨_,_,rfl⟩
 subst p;have⟨j,i,Q,n,g⟩:=I;subst n;have b:aO (λx=>x=4064) f (f.set 4064 (some (.cells #[.slice (sq j) k.length i] 82))):=aO.set (K:=λx=>x=4064) (aO.refl f) (λ_=>rfl) _;refine⟨f.set 4064 (some (.cells #[.slice (sq j) k.length i] 82)),_,k,?_,c.put _,⟨j,i,Q,rfl,g.fr b (g.ne c dq)⟩,J.fk b λx Y N q=>q.ne c dq,(e.mono λ_ _ z=>z.elim).trans b (λ_ _ z=>z),λx q=>?_⟩
 .generalize rE prog all=R at *;generalize B.length=nT at *;exact zx (zc 1 e1 (zc 0 H (zg 1 f (zp (ys 4064 0 (.slice (sq j) k.length i) c.2 iq) (EO.nil ⟨.inl rfl,kq⟩)))))
 .have:=M x q
  have:=t.1;omega
end
section
variable {s:AS}{pr:Prim}
theorem JH{c:fI}{bytes:Nat}{z:Value}(U:o.op=.makeSlice t x y)(h:P.underlying t=some (.slice e))(j:a.at x=num (n:Nat))(k:a.at y=num (n:Nat))(hi:(P.info? e).map (λi=>(i.zero,i.size,i.bytes))=some (some z,sz,bytes))(b:0<n)(g:n<=1000000000)(l:mF P e=true)(f:kt e=false)(d:bytes<=1000):bN P kt c a o s=some (.slice (sq s.nx) n n,s.add (.cells (madeCells z.cells (n*sz)) e)):=by unfold bN;rw[ip (by rw[U];rfl)];unfold tO;grind
theorem QS{c:fI}{b:Nat}{cs:Aq}{fz:Nat × Nat}(U:o.op=.call { callee:=.builtin .copy,args:=#[x,y],argTypes:=#[t,t'] })(p:a.at x=.slice (sq b) n k)(q:a.at y=str l)(m:P.underlying t=some (.slice e))(r:bP P e=some 1)(j:s.get b=some (.cells cs bt fz))(h:l.length=n)(v:cs.size=n):bN P kt c a o s=some (num (l.length:Nat),s.set b (some (.cells (od l) bt fz))):=by
 have i:cj P a o=none:=by unfold cj;rw[U]
 have f:putAt cs 0 (strCells ⟨l.toArray⟩)=od l:=by
  unfold putAt;have h1:(strCells ⟨l.toArray⟩).length=l.length:=by simp[strCells]
  grind
 have d:jg l 0=l.length:=by
  have:∀(l:Bq) (n:Nat),jg l n=n+l.length:=by
   intro l;induction l with
   | nil=>intro n;rfl
   | cons x l u=>intro n;rw[jg,u,lC];omega
  rw[this,Nat.zero_add]
 unfold bN;rw[iw (by rw[U];simp[eF])];rw[U];simp only;rw[i];simp only[rp,List.map_nil];rw[p,q];unfold eN;simp only;rw[m,j];simp only;have g:(⟨l.toArray⟩:ByteArray).size=n:=by rw[<-h];rfl
 rw[ip ⟨r,g,by omega⟩,f,d];rfl
def LH(e:pr 36=none)(f:pr 60=none)(j:l≠[])(p:l.length<=1000000):∃c,Ef pr 36 #[str l] s (str l) c:=by
 have a:0<l.length:=Eg.2 j;have i:=Has.new s (.cells (madeCells (Value.int .u8 0).cells (l.length*1)) 5);have o:=i.put (.cells (od l) 5);have g:(madeCells (Value.int .u8 0).cells (l.length*1)).size=l.length:=by rw[size_madeCells,Nat.mul_one]
 generalize m:s.add (.cells (madeCells (Value.int .u8 0).cells (l.length*1)) 5)=S at *;obtain⟨c,h⟩:∃c,Ef pr 60 #[str l] s (str l) c:=by refine⟨(S.set s.nx (some (.cells (od l) 5))).set s.nx none,?_⟩;refine EF.of f func60 rfl (zs (EW.seq (zr (zk 1 (zp (cY (l:=l) rfl underlying9 kq) (zp (yb (num (l.length:Nat)) (num 0) (dk (b:=false) (bF.2 oq))) (EO.nil (za s (zF (zr (zk 1 (zp (cY (l:=l) rfl underlying9 kq) (zo s (zp (JH (n:=l.length) (sz:=1) (bytes:=1) (z:=.int .u8 0) rfl underlying55 kq kq kq a oq kq kq dq) ?_))))))))))))));rw[m];exact zf (za S (zr (zk 2 (zo S (zp (QS (b:=s.nx) (n:=l.length) (k:=l.length) (l:=l) rfl kq kq underlying55 kq i.2 rfl g) (EO.nil (za (S.set s.nx (some (.cells (od l) 5))) (zr (zk 1 (zp (yi s.nx 0 l.length l.length 0 none .i64 0 1 oq oq oq) (zk 2 (zo (S.set s.nx (some (.cells (od l) 5))) (zp (CN (d:=s.nx) (l:=l) rfl kq kq kq o.2 kq a oq) (zf yR))))))))))))))
 refine⟨c,?_⟩;exact EF.of e func36 rfl (zs (zr (zc 1 h (zf yR))))
end
structure Lj(us:List Nd):Prop where
 ok:oC (dY us)
 n0:(dY us)[0]?=some (1,-1,me)
 kd:kids (dY us)=[gg,pd]
 pn:∀u∈us,(u.kind=2->u.text≠[])/\ki u.aM
def Ed:∀(ks:List Sk) (a:List (Bq)),(ks.foldl (λa x=>if x.2.1=0/\x.1=1 then a++[x.2.2] else a) a).length<=a.length+ks.length
 | [],a=>by simp
 | x::ks,a=>by rw[List.foldl_cons];refine lT (Ed ks _) ?_;split<;>simp<;>omega
theorem Lj.len{a:List Nd}(h:Lj a):3<=a.length:=by
 have U:=h.n0;have b:=h.kd;have d:=fR a;unfold kids at b;generalize dY a=c at U b d;cases c with
 | nil=>cases U
 | cons x c =>
  cases U;rw[List.foldl_cons,iw dq] at b
  have:=Ed c [];grind
def Gv.grt{σ:TS}(h:Gv acc σ)(a:σ.w=2):Lj σ.nodes where
 ok:=h.g.c.ok
 n0:=h.g.c.n0
 kd:=by
  rcases h.g.ph with ⟨e,_⟩|⟨e,_⟩|⟨_,e,_⟩
  iterate 2
   .
    rw[a] at e;cases e
  .
   exact e
 pn u hu:=⟨(h.pn u hu).1,(h.pn u hu).2.1⟩
def eR (n:Nat)(f:Nat->Int):Aq:=((List.range n).map λj=>num (f j)).toArray
theorem ql(f:Nat->Int)(h:j<n):(eR n f)[j]?=some (num (f j)):=by unfold eR;grind
def rG(n:Nat)(f:Nat->Int):(eR n f).size=n:=by unfold eR;simp
def vv (f:Nat->Int)(j:Nat)(w:Int):Nat->Int:=λq=>if q=j then w else f q
theorem AG(f:Nat->Int)(w:Int)(h:j<n):putAt (eR n f) j [num w]=eR n (vv f j w):=by
 apply Array.ext_getElem?;intro q;have b:((List.range n).map λj=>num (f j)).length=n:=iq
 have e:putAt (eR n f) j [num w]=(((List.range n).map λj=>num (f j)).set j (num w)).toArray:=by unfold putAt eR;grind
 rw[e,IE,List.getElem?_set,b];by_cases a:q<n
 .rw[ql _ a];by_cases U:j=q
  .subst U;rw[ip rfl,ip h];unfold vv;rw[ip rfl]
  .rw[iw U,List.getElem?_map,List.getElem?_range a];unfold vv;grind
 .have c:q>=(eR n (vv f j w)).size:=by rw[rG];omega
  grind
theorem GI(n:Nat):madeCells (num 0).cells (n*1)=eR n λ_=>0:=by
 apply Array.ext_getElem?;intro q;by_cases a:q<n
 .rw[ql _ a];unfold madeCells;rw[Array.getElem?_map,Nat.mul_one];simp[a,num,Value.cells,Nat.mod_one]
 .have h1:q>=(madeCells (num 0).cells (n*1)).size:=by rw[size_madeCells];omega
  have h2:q>=(eR n λ_=>0).size:=by rw[rG];omega
  grind
section
variable {ks:List Sk}{i p k:Nat}
def oC.take(h:oC ks):oC (ks.take i):=by
 intro j x h1 a;rw[Bu] at a;split at a
 .next b =>rw[List.take_take,Nat.min_eq_left oq];exact h j x h1 a
 .cases a
def OU(h:oC ks)(h0:ks[0]?=some (1,-1,me)):∀(n i:Nat),i<ks.length->KO ks n i<=i
 | 0,i,_=>jl _
 | n+1,i,hl=>lT (OU h h0 n _ (Nat.lt_of_le_of_lt (xO h h0 hl) hl)) (xO h h0 hl)
def mJ.up(h:oC ks)(b:ks[0]?=some (1,-1,me))(c:k<ks.length)(d:mJ ks k p)(e:p<k):mJ ks (jy ks k) p/\p<=jy ks k:=by
 have⟨n,a⟩:=d;cases n with
 | zero=>simp only[KO] at a;omega
 | succ n =>
  refine⟨⟨n,a⟩,?_⟩
  have:=OU h b n (jy ks k) (Nat.lt_of_le_of_lt (xO h b c) c);have a:KO ks n (jy ks k)=p:=a;omega
end
section
variable {s:AS}{pr:Prim}
theorem KV(a:pr 26=none)(h:aH nm dH=false):Ef pr 26 #[str nm] s (.bool false) s:=by
 have U:∀t∈dH,cw nm t=false:=λt b=>by unfold aH at h;grind
 unfold dH at U;exact EF.of a func26 rfl (zs (za s (EW.seq (zs (za s (EW.block (EW.seq (zr (zp (yb (str nm) (str [97,114,101,97]) (dP (U _ iq))) (zf (za s (zG (zr (zp (yb (str nm) (str [98,97,115,101]) (dP (U _ iq))) (zf (za s (zG (zr (zp (yb (str nm) (str xr) (dP (U _ iq))) (zf (za s (zG (zr (zp (yb (str nm) (str [99,111,108]) (dP (U _ iq))) (zf (za s (zG (zr (zp (yb (str nm) (str [101,109,98,101,100]) (dP (U _ iq))) (zf (za s (zG (zr (zp (yb (str nm) (str [104,114]) (dP (U _ iq))) (zf (za s (zG (zr (zp (yb (str nm) (str [105,109,103]) (dP (U _ iq))) (zf (za s (zG (zr (zp (yb (str nm) (str [105,110,112,117,116]) (dP (U _ iq))) (zf (za s (zG (zr (zp (yb (str nm) (str [108,105,110,107]) (dP (U _ iq))) (zf (za s (zG (zr (zp (yb (str nm) (str [109,101,116,97]) (dP (U _ iq))) (zf (za s (zG (zr (zp (yb (str nm) (str [115,111,117,114,99,101]) (dP (U _ iq))) (zf (za s (zG (zr (zp (yb (str nm) (str [116,114,97,99,107]) (dP (U _ iq))) (zf (za s (zG (zx (zp (yb (str nm) (str [119,98,114]) (dP (U _ iq))) (zf (za s (zF (zs yR)))))))))))))))))))))))))))))))))))))))))))))))))))))))))))))))))))))))))
end
end Go.Proofs.YtgcaionclkbehaaGreatDoor
