import Derived.Test.YtgcaionclkbehaaGreatDoorR4
import Derived.Lib.SliceRun
import Derived.Laws.BytesString
set_option linter.all false
set_option maxHeartbeats 4000000
set_option maxRecDepth 100000
namespace Go.Proofs.YtgcaionclkbehaaGreatDoor
open Go.Conc Go.RowKit Go.Lib Tryz
section
variable {j k:Nat}{e t:TypeId}{v:Value}{s:AS}{pr:Prim}{o:Oper}{ι:Type}{N0:ι->Nat}{M:ι->World->Nat->Prop}{R:ι->Wq}{D:ι->World->World->Array Event->Prop}{X:ι->Gq}{Hd:ι->Hq->World->Prop}{wr:Bq->Int->Bq}
variable {x y:Operand}{r:Int}{Mx acc c cy i n off sz:Nat}{bt t' ty:TypeId}{A B:Value}{w':World}{cs:Vq}{l nm tx:Bq}{args:Aq}{s':AS}{us:List Tok}{P:Program}{kt:TypeId->Bool}{a:TL}
def vw (cs:Vq)(n i:Nat):Vq:=(cs.take n).eraseIdx i++(num 0::cs.drop n)
section
variable {P:Program}{KT:TypeId->Prop}{O:ι->Nat->Prop}
variable {fn:FuncId}{Q:gY ι}{a:Act}{w:World}{i:ι}{l:Hq}{ops:Array Oper}{g:Nat}{rest:List Nat}{cs vR:Aq}
section
variable (Y:Cy P KT N0 M O R D X Hd)
def dt(ho:ops[j]?=some o)(hw:Region.wanted o (yielded ops a.tmps)=true)(h:iy P (execOp a.eval o)=some (.value v))(k:cP X fn ops rest i Q (a.put o.dst v) w):cP X fn ops (j::rest) i Q a w :=
 dQ Y.C Y.T ho hw λaK K hK=>by rw[(mE h aK #[]).1];exact hK _ k (mE h aK #[]).2
def zY(u:Hd i l w)(x:l[k]?=some (g,.cells cs t))(r:¬KT t)(D:ops[j]?=some o)(G:Region.wanted o (yielded ops a.tmps)=true)
 (d:∀b:World,b.heap[g]?=some (.cells cs t)->(execOp a.eval o).run P b=.ok (.value v) (b.setRow g vR)/\∀f∈(execOp a.eval o).events P b #[],∃e:Addr,f.loc=.cell e/\e.block=g)
 (H:∀z,Hd i (l.set k (g,.cells vR t)) z->cP X fn ops rest i Q (a.put o.dst v) z):cP X fn ops (j::rest) i Q a w:=by have Z:=Y.Z u;refine aM Y.C D G λb B K A=>?_;have c:=Z.rely u B;have⟨y,p⟩:=Z.own c<|mG x;have⟨F,n⟩:=d b p;rw[F];have m:Own KT (M i) b (b.setRow g vR):=Own.setRow p y r;refine A _ _ ⟨Z.env.kZ (Z.size c) m λf s=>?_,H _<|Z.BZ c k x m (by simp[World.setRow,LZ,p])<|λq E=>by simp[World.setRow,LZ,Ne.symm E]⟩;have s:=mem_listed s;have⟨e,I,J⟩:=n f s;exact .inl ⟨e,I,by rw[J];exact Z.env.mine m y⟩
end
def qe{lo hi g:Option Operand}{X:Value}{Lo Hi Mx:Option Value}{r:Value}(f:o.op=.slice t x lo hi g)(i:P.underlying t=some (.slice e))(j:a.eval x=X)(c:lo.map a.eval=Lo)(b:hi.map a.eval=Hi)(d:g.map a.eval=Mx)(h:iy P (Instr.slice t X Lo Hi Mx)=some r):iy P (execOp a.eval o)=some (.value r):=by simp only[execOp,f,Instr.sliceAt,dD,dW,i,yY,j,c,b,d,h,jL]
def tj{L H:Nat}{lo hi b:Option Value}(f:P.underlying t=some (.slice e))(a:cz P e=some 1)(d:iy P (Instr.sliceBounds true n c lo hi b)=some (L,H,Mx)):iy P (Instr.slice t (.slice (sq g) n c) lo hi b)=some (.slice (if Mx=L then some ⟨g,0,none⟩ else some ⟨g,L,none⟩) (H-L)<|Mx-L):=by simp only[Instr.slice,dD,dW,f,yY,d,n6,a,jL,Option.map_some,Addr.add_lit,Nat.mul_one,Nat.zero_add]
theorem CN(C:P.underlying t=some (.slice e))(hi:∃i,P.info? e=some i/\i.size=1){m:Nat}{ad:Addr}(r:w.heap[g]?=some (.cells cs e))(D:ad.block=g/\ad.spot=none)(A:∀q,q<m->ad.off+q<cs.size)(p:∀u∈(cs.toList.drop ad.off).take m,u.oneCell'=true)(B:n+m<=c)(z:n+m<=cs.size) :
  (Builtin.append_ #[t,t] ty #[.slice (sq g) n c,.slice (some ad) m cy]).run P w=.ok (.slice (sq g) (n+m) c) (w.setRow g (cs.toList.take n++(cs.toList.drop ad.off).take m++cs.toList.drop (n+m)).toArray)/\∀o∈(Builtin.append_ #[t,t] ty #[.slice (sq g) n c,.slice (some ad) m cy]).events P w #[],∃a:Addr,o.loc=.cell a/\a.block=g:=by
 have⟨s,hi,G⟩:=hi;have⟨f,d,sp⟩:=ad;have⟨h1,h2⟩:=D;simp only at h1 h2 A p;subst h1 h2;have l:((cs.toList.drop d).take m).length=m:=by
  rcases Nat.eq_zero_or_pos m with rfl|hm
  .simp
  .have:=A (m-1) oq;simp;omega
 have U:∀q u,((cs.toList.drop d).take m)[q]?=some u->w.cell? ((⟨f,d,none⟩:Addr).add q)=some u:=by
  intro q u j;rw[HA] at j;split at j
  .rw[LA] at j;have j:cs[d+q]?=some u:=gq
   rw[Addr.add_lit];simp[World.cell?,r,j]
  .cases j
 have y:=run_append_room (P:=P) w t ty e s C hi f n c cs r ⟨f,d,none⟩ m cy _ gq U p B gq;rw[G,Nat.mul_one,l] at y;refine⟨y,λo k=>?_⟩;have z:=run_firstCells_some (P:=P) w s.size m ⟨f,d,none⟩ m cy _ gq U;have x:=run_storeCells_at P f (n*s.size) e _ 0 cs w r gq p;have v:=events_storeCells_at (P:=P) f (n*s.size) e ((cs.toList.drop d).take m) 0 cs w;simp only[Nat.add_zero] at x;simp[Builtin.append_,run_underlying C,sizeOf,typeInfo,hi,Builtin.lenOf,B,z,Addr.add_lit] at k;rcases v _ r gq p o k with h|h
 .rcases events_firstCells_in (λb=>b=f) _ _ _ _ _ (λH J I E=>by
   cases E;refine⟨rfl,λq F=>?_⟩;have F:q<m:=gq
   have:=U q _<|gE gq;rw[this];rfl) o h with h|⟨ad,h1,h2,h3⟩
  .simp at h
  .exact⟨ad,h1,h3⟩
 .exact h
def P9(b:o.op=.call { callee:=.builtin .append,args:=#[x,y],argTypes:=#[t,t] })(c:a.eval x=A)(d:a.eval y=B)(h:(Builtin.append_ #[t,t] o.type #[A,B]).run P w=.ok v w'):(execOp a.eval o).run P w=.ok (.value v) w'/\(execOp a.eval o).events P w #[]=(Builtin.append_ #[t,t] o.type #[A,B]).events P w #[]:=by
 unfold execOp;constructor
 .simp only[b,resolve,invoke,builtin,Sem.run_bind,Sem.run_pure,Result.andThen_ok,List.map_toArray,rj,List.map_nil,c,d,h]
 .simp only[b,resolve,invoke,builtin,Sem.events_bind,Sem.run_pure,Sem.events_pure,Result.evThen_ok,List.map_toArray,rj,List.map_nil,c,d,h]
def Qa(b:o.op=.call { callee:=.builtin .clear,args:=#[x],argTypes:=#[t] })(c:a.eval x=A)(h:(Builtin.clear_ #[t] o.type #[A]).run P w=.ok v w'):(execOp a.eval o).run P w=.ok (.value v) w'/\(execOp a.eval o).events P w #[]=(Builtin.clear_ #[t] o.type #[A]).events P w #[]:=by
 unfold execOp;constructor
 .simp only[b,resolve,invoke,builtin,Sem.run_bind,Sem.run_pure,Result.andThen_ok,List.map_toArray,rj,List.map_nil,c,h]
 .simp only[b,resolve,invoke,builtin,Sem.events_bind,Sem.run_pure,Sem.events_pure,Result.evThen_ok,List.map_toArray,rj,List.map_nil,c,h]
section
variable (Y:Cy P KT N0 M O R D X Hd)
def JN(r:Hd i l w)(u:l[k]?=some (g,.cells cs e))(c:¬KT e)(z:ops[j]?=some o)(C:Region.wanted o (yielded ops a.tmps)=true)(d:o.op=.call { callee:=.builtin .append,args:=#[x,y],argTypes:=#[t,t] })(D:a.eval x=A)(E:a.eval y=B)
 (h:∀b:World,b.heap[g]?=some (.cells cs e)->∀m:TypeId,(Builtin.append_ #[t,t] m #[A,B]).run P b=.ok v (b.setRow g vR)/\∀p∈(Builtin.append_ #[t,t] m #[A,B]).events P b #[],∃f:Addr,p.loc=.cell f/\f.block=g)
 (F:∀n,Hd i (l.set k (g,.cells vR e)) n->cP X fn ops rest i Q (a.put o.dst v) n):cP X fn ops (j::rest) i Q a w:=by refine zY Y r u c z C (λb s=>?_) F;have⟨h1,h2⟩:=h b s o.type;have⟨h3,q⟩:=P9 d D E h1;exact⟨h3,by rw[q];exact h2⟩
def JQ(r:Hd i l w)(u:l[k]?=some (g,.cells cs e))(c:¬KT e)(y:ops[j]?=some o)(z:Region.wanted o (yielded ops a.tmps)=true)(d:o.op=.call { callee:=.builtin .clear,args:=#[x],argTypes:=#[t] })(B:a.eval x=A)
 (h:∀b:World,b.heap[g]?=some (.cells cs e)->∀m:TypeId,(Builtin.clear_ #[t] m #[A]).run P b=.ok v (b.setRow g vR)/\∀p∈(Builtin.clear_ #[t] m #[A]).events P b #[],∃f:Addr,p.loc=.cell f/\f.block=g)
 (C:∀n,Hd i (l.set k (g,.cells vR e)) n->cP X fn ops rest i Q (a.put o.dst v) n):cP X fn ops (j::rest) i Q a w:=by refine zY Y r u c y z (λb s=>?_) C;have⟨h1,h2⟩:=h b s o.type;have⟨h3,q⟩:=Qa d B h1;exact⟨h3,by rw[q];exact h2⟩
end
theorem Jg(i:P.underlying t=some (.slice e))(j:∀w,(zeroValue e).run P w=.ok (num 0) w)(l:∀w d,(zeroValue e).events P w d=d)(h:w.heap[g]?=some (.cells cs e))(n:off<cs.size) :
  (Builtin.clear_ #[t] ty #[.slice (some ⟨g,off,none⟩) 1 c]).run P w=.ok (.tuple #[]) (w.setRow g<|putAt cs off [num 0])/\∀f∈(Builtin.clear_ #[t] ty #[.slice (some ⟨g,off,none⟩) 1 c]).events P w #[],∃a:Addr,f.loc=.cell a/\a.block=g:=by
 have U:=run_storeCells_at P g off e [num 0] 0 cs w h gq (by simp[num,Value.oneCell']);have m:=events_storeCells_at (P:=P) g off e [num 0] 0 cs w #[] h gq (by simp[num,Value.oneCell']);have b:(Builtin.zeroCells (num 0).cells 1).toList=[num 0]:=by simp[Builtin.zeroCells,num,Value.cells]
 constructor
 .simp[Builtin.clear_,run_underlying i,j,b,U,putAt]
 .intro f k;simp[Builtin.clear_,underlying,i,j,l,b] at k;grind
end
variable {An:eN}
variable {O:ι->Nat->Prop}
def Jn(hi:i<n)(c:n<=cs.length):(putAt (cs.take i++(cs.drop<|i+1).take (n-(i+1))++cs.drop (i+(n-(i+1)))).toArray (n-1) [num 0]).toList=vw cs n i:=by
 unfold putAt vw;have e1:i+(n-(i+1))=n-1:=by omega
 have a:(cs.take i++(cs.drop<|i+1).take (n-(i+1))).length=n-1:=by simp;omega
 have b:(cs.take n).eraseIdx i=cs.take i++(cs.drop<|i+1).take (n-(i+1)):=by rw[List.eraseIdx_eq_take_drop_succ,List.take_take,Nat.min_eq_left<|by omega,List.drop_take]
 rw[b,e1];generalize cs.take i++(cs.drop<|i+1).take _=A at a |-;show(A++cs.drop (n-1)).take (n-1)++[num 0]++(A++cs.drop (n-1)).drop (n-1+1)=_;rw[List.take_append_of_le_length (by omega),tL<|by omega,List.drop_append,a,Jk<|by omega,List.nil_append,List.drop_drop,show n-1+(n-1+1-(n-1))=n by omega];simp
theorem Jm(Y:Cy prog fa N0 M O R D X Hd){ix:ι}{l:Hq}{w:World}{g:Nat}{cs:Aq}(j:Hd ix l w)(hk:l[k]?=some (g,.cells cs 3))(hi:i<n)(hn:n<=c)(hc:cs.size=c)(hm:c<=maxLen)(ae:∀u∈cs.toList.take n,u.oneCell'=true) :
  lP prog R D X 323 #[.slice (sq g) n c,num (i:Int),num<|(i:Int)+1] ix w λW v' s=>W=ix/\v'=.slice (sq g) (n-1) c/\Hd ix (l.set k (g,.cells (vw cs.toList n i).toArray 3)) s:=by
 refine⟨_,_,func323,by rfl,rfl,?_⟩;have H:cz prog 3=some 1:=kq
 have p:prog.underlying 25=some (.slice 3):=underlying25;simp only[ntmps323,bZ,Nat.reduceAdd,Nat.reduceSub];refine qp (f:=λx=>⟨#[.slice (sq g) n c,num (i:Int),num<|(i:Int)+1,x 3,x 4,x 5,x 6,x 7,x 8,x 9,x 10,x 11,x 12,x 13,x 14,x 15,x 16,x 17,x 18,x 19,x 20,x 21,x 22,x 23,x 24,x 25,x 26,x 27,x 28,x 29,x 30,x 31,x 32],[]⟩) kq ?_;intro x;refine cu Y.C Y.T<|bv Y.C Y.T ?_;simp only[jb];refine dt Y rfl kq (v:=.slice none 0 0) kq<|bO Y.C Y.T<|cu Y.C Y.T<|bv Y.C Y.T ?_;simp only[jb,Nat.reduceAdd];refine dt Y rfl kq (v:=.slice (sq g) n c) kq<|dt Y rfl kq (v:=num (i:Int)) kq<|dt Y rfl kq (v:=num<|(i:Int)+1) kq<|dt Y rfl kq (v:=.slice (sq g) n c) kq<|dt Y rfl kq (v:=num (n:Int)) kq<|dt Y rfl kq (v:=.slice (some ⟨g,i,none⟩) (i+1-i)<|n-i) ?_ ?_
 .have hb:iy prog (Instr.sliceBounds true n c (some<|num (i:Int)) (some<|num<|(i:Int)+1)<|some<|num (n:Int))=some (i,i+1,n):=by
   have h1:(0:Int)<=(n:Int)/\(n:Int)<=(c:Int):=oq
   have h2:(0:Int)<=(i:Int)+1/\(i:Int)+1<=(n:Int):=oq
   have h3:(0:Int)<=(i:Int)/\(i:Int)<=(i:Int)+1:=oq
   simp only[Instr.sliceBounds,Instr.sliceBound,num,asIntOf,dD,jL,yY,ip h1,yE,ip h2];have e:((i:Int)+1).toNat=i+1:=oq
   rw[e];have h3:(0:Int)<=(i:Int)/\(i:Int)<=((i+1:Nat):Int):=oq
   simp only[ip h3,jL,yY]
  have:=tj (g:=g) p H hb;rw[iw oq] at this;exact qe rfl p kq kq kq kq this
 refine bO Y.C Y.T<|qp (f:=λx=>⟨#[.slice (sq g) n c,num (i:Int),num<|(i:Int)+1,x 3,x 4,x 5,x 6,x 7,x 8,x 9,x 10,x 11,x 12,x 13,x 14,x 15,x 16,x 17,x 18,x 19,x 20,x 21,x 22,x 23,x 24,x 25,x 26,x 27,x 28,x 29,x 30,x 31,x 32],[]⟩) kq ?_;intro x;refine cu Y.C Y.T<|cu Y.C Y.T<|bv Y.C Y.T ?_;simp only[jb,Nat.reduceAdd];refine dt Y rfl kq (v:=num (i:Int)) kq<|dt Y rfl kq (v:=num<|(i:Int)+1) kq<|dt Y rfl kq (v:=.bool<|(i:Int)==(i:Int)+1) kq ?_;rw[show((i:Int)==(i:Int)+1)=false by rw[bF];omega];refine bO Y.C Y.T<|fT Y.C Y.T (t:=false) kq<|nP Y.C Y.T<|cu Y.C Y.T<|bv Y.C Y.T ?_;simp only[jb,Nat.reduceAdd];refine dt Y rfl kq (v:=.slice (sq g) n c) kq ?_;iterate 2 refine dt Y rfl kq (v:=num (n:Int)) kq ?_
 refine bO Y.C Y.T<|qp (f:=λx=>⟨#[.slice (sq g) n c,num (i:Int),num<|(i:Int)+1,x 3,x 4,x 5,x 6,num (n:Int),x 8,x 9,x 10,x 11,x 12,x 13,x 14,x 15,x 16,x 17,x 18,x 19,x 20,x 21,x 22,x 23,x 24,x 25,x 26,x 27,x 28,x 29,x 30,x 31,x 32],[]⟩) kq ?_;intro x;have Q:=(lJ (P:=prog) (sl:=true) (n:=n) (c:=c) (c':=c) (lo:=none) (hi:=some<|num (i:Int)) (l:=0) (h:=i) (by
  show(if (0:Int)<=(i:Int)/\(i:Int)<=(c:Int) then some (0,(i:Int).toNat) else none)=_;rw[ip oq,yE]) lr hn).1;have aa:=(lJ (P:=prog) (sl:=true) (n:=n) (c:=c) (c':=c) (lo:=some<|num<|(i:Int)+1) (hi:=none) (l:=i+1) (h:=n) (by
  show(if (0:Int)<=(i:Int)+1/\(i:Int)+1<=(n:Int) then some (((i:Int)+1).toNat,n) else none)=_;rw[ip oq,show((i:Int)+1).toNat=i+1 by omega]) lr hn).1;have ab:=(lJ (P:=prog) (sl:=true) (n:=n-1) (c:=c) (c':=c) (lo:=some<|num ((n-1:Nat):Int)) (hi:=some<|num (n:Int)) (l:=n-1) (h:=n) (by
  show(if (0:Int)<=(n:Int)/\(n:Int)<=(c:Int) then (if (0:Int)<=((n-1:Nat):Int)/\((n-1:Nat):Int)<=(n:Int) then some (((n-1:Nat):Int).toNat,(n:Int).toNat) else none) else none)=_;rw[ip oq,ip oq,yE,yE]) lr oq).1;have sA:=tj (g:=g) p H Q;rw[iw oq] at sA;have sB:=tj (g:=g) p H aa;have sC:=tj (g:=g) p H ab;rw[iw oq] at sC;obtain⟨ad,I⟩:∃ad:Addr,(if c=i+1 then some (⟨g,0,none⟩:Addr) else some ⟨g,i+1,none⟩)=some ad/\ad.block=g/\ad.spot=none/\(c=i+1\/ad.off=i+1):=by
  by_cases h:c=i+1
  .exact⟨_,ip h,rfl,rfl,.inl h⟩
  .exact⟨_,iw h,rfl,rfl,.inr rfl⟩
 have⟨I,a8,a9,a6⟩:=I;rw[I] at sB;have a3:∀b:World,b.heap[g]?=some (.cells cs 3)->∀ty:TypeId,(Builtin.append_ #[25,25] ty #[.slice (sq g) i c,.slice (some ad) (n-(i+1))<|c-(i+1)]).run prog b=.ok (.slice (sq g) (n-1) c) (b.setRow g (cs.toList.take i++(cs.toList.drop<|i+1).take (n-(i+1))++cs.toList.drop (i+(n-(i+1)))).toArray)/\∀ev∈(Builtin.append_ #[25,25] ty #[.slice (sq g) i c,.slice (some ad) (n-(i+1))<|c-(i+1)]).events prog b #[],∃a:Addr,ev.loc=.cell a/\a.block=g:=by
  intro b S ty;have⟨i0,o,_,V,_⟩:=info_parts (show(prog.info? 3).map (λi=>(i.zero,i.size,i.bytes))=some (some<|num 0,1,8) by kernel_rfl);have hd:(cs.toList.drop ad.off).take (n-(i+1))=(cs.toList.drop<|i+1).take (n-(i+1)):=by
   rcases a6 with h|h
   .rw[show n-(i+1)=0 by omega];simp
   .rw[h]
  have:=CN (P:=prog) (t:=25) (e:=3) (g:=g) (cs:=cs) (w:=b) (n:=i) (c:=c) (m:=n-(i+1)) (ad:=ad) (cy:=c-(i+1)) (ty:=ty) p ⟨i0,o,V⟩ S ⟨a8,a9⟩ (λq hq=>by rcases a6 with h|h<;>omega) (λu hu=>by rw[hd,<-List.drop_take] at hu;exact ae u<|List.mem_of_mem_drop<|by simpa[show i+1+(n-(i+1))=n by omega] using hu) oq oq;rw[hd,show i+(n-(i+1))=n-1 by omega] at this;rw[show i+(n-(i+1))=n-1 by omega];exact this
 generalize a4:(cs.toList.take i++(cs.toList.drop<|i+1).take (n-(i+1))++cs.toList.drop (i+(n-(i+1)))).toArray=vR at a3;refine cu Y.C Y.T<|ll Y.C (Y.Z j).env.CZ kq (n:=8) rfl kq (λJ W G s=>W=ix/\Hd ix (if J 6=true then l.set k (g,.cells vR 3) else l) s/\((J 2=true->J 0=true)/\(J 5=true->J 3=true)/\(J 6=true->J 2=true/\J 5=true)/\(J 7=true->J 6=true))/\G=⟨#[(if J 7=true then .slice (sq g) (n-1) c else .slice (sq g) n c),num (i:Int),num<|(i:Int)+1,x 3,x 4,x 5,x 6,num (n:Int),x 8,x 9,x 10,x 11,x 12,x 13,x 14,x 15,x 16,x 17,x 18,x 19,(if J 0=true then .slice (sq g) n c else x 20),(if J 1=true then num (i:Int) else x 21),(if J 2=true then .slice (sq g) (i-0) (c-0) else x 22),(if J 3=true then .slice (sq g) n c else x 23),(if J 4=true then num ((i:Int)+1) else x 24),(if J 5=true then .slice (some ad) (n-(i+1)) (c-(i+1)) else x 25),(if J 6=true then .slice (sq g) (n-1) c else x 26),x 27,x 28,x 29,x 30,x 31,x 32],[]⟩) (λb N=>⟨rfl,?_,by simp,rfl⟩) ?_ ?_ ?_
 .exact(Y.Z j).rely ((Y.Z j).rely j N) ((Y.Z j).env.wP _)
 .rintro J J' a7 G s d ⟨rfl,j,hj,rfl⟩;simp only[d 0 dq,d 1 dq,d 2 dq,d 3 dq,d 4 dq,d 5 dq,d 6 dq,d 7 dq] at j hj |-;exact⟨trivial,j,hj,trivial⟩
 .rintro J q a7 G s ⟨rfl,j,⟨j2,j5,j6,j7⟩,rfl⟩ hq d U rest r;match q,hq with
  | 0,_ =>
   have U:=U _ rfl;simp[Region.binds] at U;have L:J 7=false:=by
    cases h:J 7 with
    | false=>rfl
    | true=>rw[j2 (j6<|j7 h).1] at d;cases d
   refine dt Y rfl kq (v:=.slice (sq g) n c) (by show some (Next.value<|if J 7=true then .slice (sq g) (n-1) c else .slice (sq g) n c)=_;rw[L];rfl)<|r _ _ _ ⟨rfl,by simpa using j,by simp_all,by kernel_rfl⟩
  | 1,_ =>have U:=U _ rfl;simp[Region.binds] at U;refine dt Y rfl kq (v:=num (i:Int)) kq<|r _ _ _ ⟨rfl,by simpa using j,by simp_all,by kernel_rfl⟩
  | 2,_ =>have U:=U _ rfl;simp[Region.binds] at U;have⟨E,F⟩:=U;refine dt Y rfl kq (v:=.slice (sq g) (i-0)<|c-0) (qe rfl p (X:=.slice (sq g) n c) (Lo:=none) (Hi:=some<|num (i:Int)) (Mx:=none) (by show(if J 0=true then .slice (sq g) n c else x 20)=_;rw[ip E]) rfl (by show some (if J 1=true then num (i:Int) else x 21)=_;rw[ip F]) rfl sA)<|r _ _ _ ⟨rfl,by simpa using j,by simp_all,by kernel_rfl⟩
  | 3,_ =>
   have U:=U _ rfl;simp[Region.binds] at U;have L:J 7=false:=by
    cases h:J 7 with
    | false=>rfl
    | true=>rw[j5 (j6<|j7 h).2] at d;cases d
   refine dt Y rfl kq (v:=.slice (sq g) n c) (by show some (Next.value<|if J 7=true then .slice (sq g) (n-1) c else .slice (sq g) n c)=_;rw[L];rfl)<|r _ _ _ ⟨rfl,by simpa using j,by simp_all,by kernel_rfl⟩
  | 4,_ =>have U:=U _ rfl;simp[Region.binds] at U;refine dt Y rfl kq (v:=num<|(i:Int)+1) kq<|r _ _ _ ⟨rfl,by simpa using j,by simp_all,by kernel_rfl⟩
  | 5,_ =>have U:=U _ rfl;simp[Region.binds] at U;have⟨E,F⟩:=U;refine dt Y rfl kq (v:=.slice (some ad) (n-(i+1))<|c-(i+1)) (qe rfl p (X:=.slice (sq g) n c) (Lo:=some<|num<|(i:Int)+1) (Hi:=none) (Mx:=none) (by show(if J 3=true then .slice (sq g) n c else x 23)=_;rw[ip E]) (by show some (if J 4=true then num ((i:Int)+1) else x 24)=_;rw[ip F]) rfl rfl sB)<|r _ _ _ ⟨rfl,by simpa using j,by simp_all,by kernel_rfl⟩
  | 6,_ =>
   have U:=U _ rfl;simp[Region.binds] at U;have⟨E,F⟩:=U;rw[iw gq] at j;refine JN Y j hk (by simp[fa]) rfl kq (t:=25) (A:=.slice (sq g) i c) (B:=.slice (some ad) (n-(i+1))<|c-(i+1)) rfl (show(if J 2=true then .slice (sq g) (i-0) (c-0) else x 22)=.slice (sq g) i c from by rw[ip E];rfl) (show(if J 5=true then .slice (some ad) (n-(i+1)) (c-(i+1)) else x 25)=.slice (some ad) (n-(i+1)) (c-(i+1)) from by rw[ip F]) a3 λs z=>?_
   .refine r _ _ _ ⟨rfl,by simpa using z,by simp_all,by kernel_rfl⟩
  | 7,_ =>have U:=U _ rfl;simp[Region.binds] at U;refine dt Y rfl kq (v:=.slice (sq g) (n-1) c) (by show some (Next.value<|if J 6=true then .slice (sq g) (n-1) c else x 26)=_;rw[ip U.1])<|r _ _ _ ⟨rfl,by simpa using j,by simp_all,by kernel_rfl⟩
  | n+8,h=>exact absurd h oq
 .rintro J a7 G s d ⟨rfl,j,_,rfl⟩;simp only[d 0 dq,d 1 dq,d 2 dq,d 3 dq,d 4 dq,d 5 dq,d 6 dq,d 7 dq,if_true] at j |-;refine bO Y.C Y.T<|qp (f:=λx=>⟨#[.slice (sq g) (n-1) c,x 1,x 2,x 3,x 4,x 5,x 6,num (n:Int),x 8,x 9,x 10,x 11,x 12,x 13,x 14,x 15,x 16,x 17,x 18,x 19,x 20,x 21,x 22,x 23,x 24,x 25,x 26,x 27,x 28,x 29,x 30,x 31,x 32],[]⟩) kq ?_;intro x;refine cu Y.C Y.T<|bv Y.C Y.T ?_;simp only[jb,Nat.reduceAdd];iterate 2 refine dt Y rfl kq (v:=.slice (sq g) (n-1) c) kq ?_
  refine dt Y rfl kq (v:=num ((n-1:Nat):Int)) kq<|dt Y rfl kq (v:=num (n:Int)) kq<|dt Y rfl kq (v:=.slice (some ⟨g,n-1,none⟩) (n-(n-1))<|c-(n-1)) (qe rfl p kq kq kq kq sC) ?_;have ag:vR.size=cs.size:=by rw[<-a4];simp;omega
  have hz:∀w:World,(zeroValue 3).run prog w=.ok (num 0) w:=λw=>by have⟨i0,o,y,_,_⟩:=info_parts (show(prog.info? 3).map (λi=>(i.zero,i.size,i.bytes))=some (some<|num 0,1,8) by kernel_rfl);simp[zeroValue,typeInfo,o,y]
  have af:∀(w:World) (K:Array Event),(zeroValue 3).events prog w K=K:=λw K=>by have⟨i0,o,y,_,_⟩:=info_parts (show(prog.info? 3).map (λi=>(i.zero,i.size,i.bytes))=some (some<|num 0,1,8) by kernel_rfl);simp[zeroValue,typeInfo,o,y]
  refine JQ Y j (k:=k) (g:=g) (cs:=vR) (e:=3) gq (by simp[fa]) rfl kq (v:=.tuple #[]) (vR:=putAt vR (n-1) [num 0]) (t:=25) (A:=.slice (some ⟨g,n-1,none⟩) (n-(n-1))<|c-(n-1)) rfl kq (λb S ty=>by rw[show n-(n-1)=1 by omega];exact Jg p hz af S oq) λs z=>bO Y.C Y.T ?_;rw[List.set_set,show putAt vR (n-1) [num 0]=(vw cs.toList n i).toArray from by rw[<-a4];exact congrArg List.toArray<|Jn hi gq] at z;refine cu Y.C Y.T<|bv Y.C Y.T ?_;simp only[jb,Nat.reduceAdd];iterate 2 refine dt Y rfl kq (v:=.slice (sq g) (n-1) c) kq ?_
  refine bO Y.C Y.T<|qq Y.C Y.T ⟨.inr rfl,rfl,λb N=>⟨.slice (sq g) (n-1) c,?_,?_,rfl,rfl,(Y.Z z).rely z N⟩⟩
  .kernel_rfl
  .have he:∀(tm:Aq) (w:World),(results f323 tm).events prog w #[]=#[]:=λtm w=>by kernel_rfl
   rw[he];exact(Y.T _).idle _
def LG (args:Aq)(s:AS):Option (Value × AS):=match args.toList with
 | [.slice (some ⟨d,0,none⟩) n c,.int .i64 i,.int .i64 j]=>match s.get d with
  | some (.cells cs 3 fz)=>if (0<=i/\i<n/\j=i+1)/\n<=c/\n<=cs.toList.length/\(cs.toList.take n).all eW=true then some (.slice (some ⟨d,0,none⟩) (n-1) c,s.set d<|some<|.cells (vw cs.toList n i.toNat).toArray 3 fz) else none
  | _=>none
 | _=>none
def DX(pr:Prim):Prim:=λg=>if g.beq 323 then some LG else pr g
theorem wO(hi:i<n)(U:n<=cs.length):(vw cs n i).length=cs.length:=by unfold vw;grind
theorem Hj(hi:i<n)(U:n<=cs.length)(q:Nat):(vw cs n i)[q]?=if q<i then cs[q]? else if q<n-1 then cs[q+1]? else if q=n-1 then some (num 0) else cs[q]?:=by unfold vw;grind
def UQ:∀{y:Value},eW y=true->y.oneCell'=true:=by intro y h;unfold eW at h;split at h<;>first|rfl|cases h
def DY(d:∀f g a s v b,pr f=some g->g a s=some (v,b)->s.nx<=b.nx):∀f g a s v b,DX pr f=some g->g a s=some (v,b)->s.nx<=b.nx:=by
 intro f g a s v b c h;unfold DX at c;split at c
 .cases c;unfold LG at h;split at h
  .split at h
   .split at h
    .cases h;exact iz _
    .cases h
   .cases h
  .cases h
 .exact d _ _ _ _ _ _ c h
theorem Wx(Y:Cy prog fa N0 M O R D X Hd)(args:Aq)(v:Value)(s s':AS)(h:LG args s=some (v,s')):Sound prog fa An R D X Hd 323 args s v s':=by
 intro S l fr ix w a V T hA a8;unfold LG at h;split at h
 .next d n c i j ha =>
  split at h
  .next cs Q W =>
   split at h
   .next hc =>
    cases h;obtain⟨⟨c1,c2,c3⟩,c4,C,c6⟩:=hc;subst c3;have o:args=#[.slice (sq d) n c,.int .i64 i,.int .i64<|i+1]:=by rw[<-ha]
    subst o;obtain⟨k,rfl⟩:∃k:Nat,i=(k:Int):=⟨i.toNat,by omega⟩;have⟨h1,h2⟩:=hA;have a7:a.size=3:=gq
    obtain⟨x0,x1,x2,rfl⟩:∃x0 x1 x2,a=#[x0,x1,x2]:=⟨a[0],a[1],a[2],by
     apply Array.ext
     .simpa using a7
     .intro q r q2;match q,r with
      | 0,_=>rfl
      | 1,_=>rfl
      | 2,_=>rfl
      | q+3,r=>omega⟩;have v0:=h2 0 _ _ rfl rfl;have v1:=(h2 1 _ _ rfl rfl).sc rfl;have v2:=(h2 2 _ _ rfl rfl).sc rfl;subst v1 v2;obtain⟨g,z,e,P,r,rfl,q3,q4,q5,q6⟩:=v0.sl;have⟨kk,o',hk,H,G,I,N⟩:=V.at (fr:=fr) W r;obtain⟨B,rfl,hz,⟨Cn,F⟩,b⟩:=I;have E:e=1:=by have:=(N cs 3 Q rfl).1;cases this;rfl
    subst E;have a5:B.size=P:=oq
    have p:k<n:=oq
    have a9:cs.toList.length=cs.size:=iq
    have a3:∀u∈B.toList.take n,u.oneCell'=true/\∃y∈cs.toList.take n,u=y:=by
     intro u K;have⟨q,J⟩:=List.mem_iff_getElem?.1 K;rw[HA] at J;split at J
     .next a6 =>have x:cs[q]?=some (cs[q]'oq):=gF oq;have m:cs[q]'oq∈cs.toList.take n:=List.mem_iff_getElem?.2 ⟨q,by rw[HA,ip a6];simpa using x⟩;have Z:=aT.1 c6 _ m;have e:=(b q _ u x gq).sc Z;refine⟨?_,_,m,e⟩;rw[e];exact UQ Z
     .cases J
    have⟨t,cc,g1,g2,g3,g4⟩:=Jm Y (ix:=ix) (g:=g) (c:=P) (cs:=B) T G p oq a5 q5<|λu K=>(a3 u K).1;refine⟨t,cc,g1,g2,g3,nO g4 λi' e' a' w'=>?_⟩;rintro⟨r1,r2,r3⟩;refine⟨r1,r2,λA hR=>?_⟩;obtain⟨v',p1,p2,rfl,rfl,p5⟩:=r3 A hR;refine⟨_,p1,p2,S,l.set kk _,aQ S,λ_ _=>rfl,V.xX W r hk (Y.Bn T) ⟨_,rfl,?_,⟨?_,λhf=>?_⟩,λq y L f U=>?_⟩<|λcs1 t1 fz1 E=>?_,by rw[<-List.set_append_left _ _ H];exact p5,?_⟩
    .rw[List.size_toArray,wO p<|by simp;omega];simp;omega
    .rw[List.size_toArray,yE,wO p C];omega
    .rw[List.size_toArray,yE,wO p C];have:=F hf;omega
    .rw[LY] at f U;rw[show(k:Int).toNat=k from yE k,Hj p C] at f;rw[Hj p (by simp;omega)] at U;by_cases z1:q<k
     .rw[ip z1] at f U;exact b q y L gq gq
     .rw[iw z1] at f U;by_cases z2:q<n-1
      .rw[ip z2] at f U;exact b (q+1) y L gq gq
      .rw[iw z2] at f U;by_cases z3:q=n-1
       .rw[ip z3] at f U;cases f;cases U;exact bD rfl
       .rw[iw z3] at f U;exact b q y L gq gq
    .cases E;exact N cs 3 Q rfl
    .exact kD r oq oq q5 q6
   .cases h
  .cases h
 .cases h
def M5(Y:Cy prog fa N0 M O R D X Hd)(d:cR prog fa An R D X Hd pr):cR prog fa An R D X Hd (DX pr):=by
 refine⟨DY d.nx,λf g a s v e b h=>?_⟩;unfold DX at b;split at b
 .next c =>have c:=iC c;subst c;cases b;exact Wx Y a v s e h
 .exact d.sound _ _ _ _ _ _ b h
def mX{l:List FuncId}(h:(l.all λf=>(pr f).isNone)=true):∀f,f∈l->pr f=none:=λf a=>Option.isNone_iff_eq_none.1<|aT.1 h f a
def Bc(n:Nat):kg (1000+n)=false:=by
 unfold kg;rw[Bool.or_eq_false_iff];constructor
 .cases h:Nat.beq _ 177 with
  | false=>rfl
  | true=>have:=iC h;omega
 .cases h:Nat.beq _ 179 with
  | false=>rfl
  | true=>have:=iC h;omega
def MA (b:UInt8):UInt8:=if 65<=b.toNat/\b.toNat<=90 then UInt8.ofNat (b.toNat+32) else b
def oK (l:Bq):Bq:=l.map MA
theorem SF(h:128<=r)(d:Good r):∀b∈encodeRune r,128<=b.toNat:=by
 intro b U;obtain⟨x,a,rfl⟩:=List.mem_map.1 U;have c:128<=x/\x<=255:=by unfold encodeRuneZ at a;grind
 rw[UInt8.toNat_ofNat'];omega
theorem LL(a:Good r):encodeRune (eT r)=(encodeRune r).map MA:=by
 by_cases h:128<=r
 .have e1:eT r=r:=by unfold eT;rw[iw oq]
  rw[e1];refine((List.map_congr_left λb U=>?_).trans<|List.map_id _).symm
  have:=SF h a b U;unfold MA;grind
 .have c:0<=r:=by unfold Good at a;omega
  obtain⟨n,rfl⟩:=Int.eq_ofNat_of_zero_le c;have U:(UInt8.ofNat n).toNat=n:=by rw[UInt8.toNat_ofNat'];omega
  have e1:encodeRune n=[UInt8.ofNat n]:=by have:=WC (b:=UInt8.ofNat n) oq;grind
  rw[e1];unfold eT;show _=[MA _];unfold MA;rw[U];by_cases h1:65<=n/\n<=90
  .have d:(UInt8.ofNat<|n+32).toNat=n+32:=by rw[UInt8.toNat_ofNat'];omega
   have:=WC (b:=UInt8.ofNat<|n+32) oq;grind
  .grind
def Dt:∀{ls:Iq},(∀l∈ls,Good l)->aS (ls.map eT)=oK (aS ls)
 | [],_=>rfl
 | l::ls,h=>by
  have ih:=Dt λx b=>h x<|Dv _ b;have e1:aS (l::ls)=encodeRune l++aS ls:=by simp[aS]
  have a:aS ((l::ls).map eT)=encodeRune (eT l)++aS (ls.map eT):=by simp[aS]
  rw[e1,a,ih,LL<|h l<|List.mem_cons_self ..];unfold oK;rw[Bf]
def TxL (x:Bq):Prop:=∃ls:Iq,(∀l∈ls,Good l)/\ls.length<=100000/\x=aS ls
def vWr (rn:Nat)(args:Aq)(s:AS):Option Value:=match args.toList with
 | [.string x,.int .i64 k]=>match s.get 1 with
  | some (.cells cs 335 (0,0))=>if zj cs.toList=true/\rn+1<=s.nx/\1<=rn/\x.data.toList.length<=100000 then some (str<|KP x.data.toList k) else none
  | _=>none
 | _=>none
def Vk (args:Aq):Option Value:=match args.toList with
 | [.int .i32 l,.string st]=>if (-1<=l/\l<=1114111)/\(∀b∈st.data.toList,b.toNat<128) then some (.bool<|gL l st.data.toList) else none
 | _=>none
def Ze (all:Iq)(x:Bq):Bool:=(List.range<|all.length+1).any λi=>(List.range<|all.length+1).any λj=>cZ x<|ek all i j
theorem Vh(all:Iq)(i j:Nat):Ze all (ek all i j)=true:=by
 have e:ek all i j=ek all (min i all.length) (min j all.length):=by
  unfold ek;congr 1;by_cases a:all.length<=i
  .rw[Jk a,Nat.min_eq_right a,Jk lr];simp
  .rw[Nat.min_eq_left (show i<=all.length by omega)];by_cases U:all.length<=j
   .rw[Nat.min_eq_right U,tL gq,tL gq]
   .grind
 refine List.any_eq_true.2 ⟨min i all.length,List.mem_range.2 oq,List.any_eq_true.2 ⟨min j all.length,List.mem_range.2 oq,(dP _ _).2 e⟩⟩
def Zf{all:Iq}(a:∀l∈all,Good l)(c:all.length<=100000){x:Bq}(h:Ze all x=true):TxL x:=by have⟨i,_,h⟩:=List.any_eq_true.1 h;have⟨j,_,h⟩:=List.any_eq_true.1 h;refine⟨(all.drop i).take<|j-i,λl b=>a l<|List.mem_of_mem_drop<|List.mem_of_mem_take b,?_,(dP _ _).1 h⟩;simp;omega
def Vj (all:Iq)(args:Aq):Option Value:=match args.toList with
 | [.string x]=>if Ze all x.data.toList=true then some (str<|oK x.data.toList) else none
 | _=>none
def V0 (f:Bq->Bq)(args:Aq):Option Value:=match args.toList with
 | [.string x,.string y]=>if cZ y.data.toList KJ=true/\x.data.toList.length<=1000000 then some (str<|f x.data.toList) else none
 | _=>none
def P3 (rn:Nat)(all:Iq):Prim:=kR 382 Vl<|Nf<|DX<|jf rn all
section
variable (P:Program)
section
variable (rn:Nat)(all:Iq)
def Uw:Prim:=nH 157 (vWr rn) (ck P kg (P3 rn all) 0 157)<|P3 rn all
def Uy:Prim:=kR 328 Vk<|Uw P rn all
def UA:Prim:=kR 258 (Vj all)<|Uy P rn all
def UB:Prim:=kR 198 (V0 λx=>uC<|yP x)<|UA P rn all
def yK:Prim:=kR 316 (V0 uC)<|UB P rn all
end
end
variable {all:Iq}{rn:Nat}
theorem Sj{f:FuncId}{V:Aq->Option Value}(h:∀f g a s v b,pr f=some g->g a s=some (v,b)->s.nx<=b.nx):∀g k a s v b,kR f V pr g=some k->k a s=some (v,b)->s.nx<=b.nx:=by
 intro g k a s v b U c;unfold kR at U;split at U
 .grind
 .exact h g k a s v b U c
def D1:wA rn (P3 rn all) all:=⟨Sj<|Im<|DY<|te rn all,λY A a c d b=>by have⟨z,e,h1⟩:=a.1;exact yS (P5 Y h1<|M5 Y b)<|LC Y a c⟩
def Uv:QP (P3 rn all):=⟨mX kq,kq,λs t w h=>iK rq<|by simp only[h];rw[ip kq],Bc⟩
theorem M6:wA rn (Uw prog rn all) all:=by
 refine⟨Ju D1.1,λY A b q e o=>cR.forget Y ef cB cm e (D1.2 Y A b q e o) ?_⟩;intro a s v h;unfold vWr at h;split at h
 .next x k b =>
  split at h
  .next l p =>
   split at h
   .next n =>
    obtain⟨f,g,Z,i⟩:=n;cases h;have c:a=#[str x.data.toList,.int .i64 k]:=by apply wu.1; simp[b]
    subst c;have j:l=dy.toArray:=by apply wu.1; simp[wQ f]
    subst j;have U:(dy.toArray).toList.all (rM s.nx)=true:=by
     rw[List.all_eq_true];intro y u;have h1:dy.all eW=true:=kq
     have h2:=List.all_eq_true.1 h1 y gq;unfold rM;split<;>first|exact h2|cases h2
    refine⟨I,g,by simp[rM,eW],1,dy.toArray,335,(0,0),p,U,λw t d=>?_⟩;obtain⟨r,e1,m⟩:=Vs Uv x.data.toList i k ⟨oq,d⟩;exact⟨r,e1,(m.2 1 oq).trans d⟩
   .cases h
  .cases h
 .cases h
def Ux:Zw rn all (Uw prog rn all):=⟨kq,kq,kq,mX kq⟩
def M7:wA rn (Uy prog rn all) all:=M6.add (m:=1) (by
 intro b v a;unfold Vk at a;split at a
 .next l i e =>
  have c:b=#[.int .i32 l,str i.data.toList]:=by apply wu.1; simp[e]
  subst c;split at a
  .next d =>cases a;obtain⟨g,h⟩:=YB Ux kq d.1 d.2<|Bc _;exact⟨I,I,g,h⟩
  .cases a
 .cases a)
def Uz:PrM (Uy prog rn all):=⟨mX kq,kq,λs q=>by
 have e:encodeRune 65533=[239,191,189]:=kq
 exact LB kq (λq=>iK I I) q,Bc⟩
def My(f:PrM pr)(a:pr 258=none){ls:Iq}(c:∀l∈ls,Good l)(e:ls.length<=100000):∃b,Ef pr 258 #[str (aS ls)] s (str<|oK<|aS ls) b:=by have⟨b,d⟩:=Yl (s:=s) f c e;rw[Dt c] at d;exact⟨b,aH a func258 I<|zs<|zr<|zc 1 d<|zf yR⟩
section
variable (hg:∀l∈all,Good l)
section
variable (hl:all.length<=100000)
def M8:wA rn (UA prog rn all) all:=M7.add (m:=1) (by
 intro b v a;unfold Vj at a;split at a
 .next x d =>
  have c:b=#[str x.data.toList]:=by apply wu.1; simp[d]
  subst c;split at a
  .next e =>cases a;obtain⟨i,h1,h2,h3⟩:=Zf hg hl e;rw[h3];obtain⟨g,h⟩:=My Uz kq h1 h2;exact⟨I,I,g,h⟩
  .cases a
 .cases a)
def Ez{f:Bq->Bq}(h:V0 f args=some v):∃x:Bq,args=#[str x,str KJ]/\v=str (f x)/\x.length<=1000000:=by
 unfold V0 at h;split at h
 .next x y b =>
  split at h
  .next a =>cases h;have e:=(dP _ _).1 a.1;refine⟨x.data.toList,?_,I,a.2⟩;apply wu.1;rw[b,<-e]
  .cases h
 .cases h
def M9:wA rn (UB prog rn all) all:=(M8 hg hl).add (m:=1)<|by intro args v hv;obtain⟨x,rfl,rfl,hx⟩:=Ez hv;have⟨s1,h⟩:=Vg (pr:=UA prog rn all) (s:=⟨[],rn+1⟩) (mX kq) hx;exact⟨I,I,s1,h⟩
def Nc:wA rn (yK prog rn all) all:=(M9 hg hl).add (m:=1)<|by intro args v hv;obtain⟨x,rfl,rfl,hx⟩:=Ez hv;have⟨s1,h⟩:=QA (pr:=UB prog rn all) (s:=⟨[],rn+1⟩) (mX kq) hx;exact⟨I,I,s1,h⟩
end
end
def Nb(Z:1<=rn)(e:∀l∈all,Good l)(o:all.length<=20000):PrK rn all oK KP (λt=>Ze all t=true) (λt _=>t.length<=100000) (yK prog rn all) where
 j:={
  h:={
   g:={
    BC:=kq
    p92:=kq
    one:=λs l c h p=>by
     refine iK I ?_
     have m : -1<=l/\l<=1114111:=by
      rcases h with rfl|h
      .
       omega
      .
       have:=e l h;unfold Good at this;omega
     have:Vk #[.int .i32 l,str c]=some _:=ip<|show(-1<=l/\l<=1114111)/\(∀b∈c,b.toNat<128) from⟨m,p⟩
     simp only[this]
    no:=mX kq
    pos:=λl h=>by have:=e l h;unfold Good at this;omega
    len:=by omega }
   low:=λs t f=>by
    refine iK I ?_
    have:Vj all #[str t]=some _:=ip<|show Ze all t=true from f
    simp only[this]
   wrs:=λs t k f h1 m=>by
    refine iK I ?_
    have:vWr rn #[str t,num k] s=some (str<|KP t k):=by
     unfold vWr
     simp only[h1]
     exact ip<|show zj dy=true/\rn+1<=s.nx/\1<=rn/\t.length<=100000 from⟨kq,oq,Z,f⟩
    simp only[this] }
  fM:=kq
  Ud:=kq
  MD:=kq
  Yq:=kq
  Uf:=kq
  lv:=λl h=>by have:=e l h;unfold Good at this;omega }
 t:=⟨kq,kq,kq,kq⟩
 no:=mX kq
 a:={
  t:=λi j=>Vh all i j
  w:=λi j n=>by
   have:=jg<|(all.drop i).take<|j-i
   have h2:((all.drop i).take<|j-i).length<=all.length:=by simp;omega
   show(aS<|(all.drop i).take<|j-i).length<=100000
   omega
  l:=λi j n=>IW _ _ _ }
 len:=o
variable {lo:Bq->Bq}{T:Bq->Prop}{W:Bq->Int->Prop}
def pK(us:List Tok):TS:=(us.foldl TS.step TS.zero).cT
def Qz(c:GZ pr){g:List jm}(n:vr s v g)(l:j9 s g us)(m:∀u∈us,oX u)(q:jF us<=1000000)(r:us.length<=100000):(∃d w h,Ef pr 39 #[v] s w d/\nR d w h/\fK d h (pK us).nodes/\cL (λ_=>False) s d/\∀x,blk w x->s.nx<=x)/\Gv (jF us) (pK us)/\(pK us).w=2/\(pK us).nodes.length<=200000000:=by have⟨o,a,f⟩:=BV c us m Gv.zero oq (by show 1+_+_<_;omega);have f:(us.foldl TS.step TS.zero).nodes.length<=1+1703*us.length:=f;rw[Nat.zero_add] at a;have⟨i,j,p⟩:=a.cT;refine⟨Ve c.no n l oq o λs b k=>AH c.no c.xl c.fM k a.w3 (λe=>(a.jd e).2.2.1) (λe=>?_) a.wB oq,i,j,by unfold pK;omega⟩;have⟨g1,g2⟩:=a.jP e nodup_nil;exact(g1.jd g2).2.2.1
structure Sf(x:St):Prop where
 ok:∀u∈x.us,oX u
 tot:jF x.us+x.tx.length<=16*x.k
def pT(a b:List Tok):jF (a++b)=jF a+jF b:=by unfold jF;simp
theorem Hs(h:∀u∈us,oX u):(∀u∈jK tx us,oX u)/\jF (jK tx us)=jF us+tx.length:=by
 unfold jK;split
 .grind
 .next e =>
  refine⟨λu U=>?_,?_⟩
  .rcases List.mem_append.1 U with q|q
   .exact h u q
   .simp at q;subst q;exact⟨.inl I,λ_=>e,nodup_nil⟩
  .unfold jF;simp
def IE:∀(n k) {aY:kH} {r:kH × Bool × Bool × Nat},m9 aY->tz all lo wr n k aY=some r->m9 r.1
 | 0,_,_,_,_,h=>by cases h
 | n+1,k,aY,r,ha,h=>by
  unfold tz at h;split at h
  .cases h;exact nodup_nil
  .split at h
   .cases h;exact ha
   .exact IE n _ (Dk ha) h
theorem sY{u:Tok}(h:∀v∈us,oX v)(U:oX u):∀v∈us++[u],oX v:=λv a=>gq
def pU(u:Tok):jF [u]=u.text.length:=by unfold jF;simp
theorem NT(p:yu all wr T W)(x:St)(s:fF all x.k ≠ -1)(h:Sf x):Sf (lq all lo wr x):=by
 have v:=l6 s;have⟨e1,b⟩:=Hs (tx:=x.tx) h.ok;have q:=h.tot;have a:∀w,Sf (yH all w x):=λw=>by
  have h2:x.k+w<=ib all [62] (x.k+w):=by unfold ib;omega
  have d:=nM (all:=all) (x.k+w)<|ib all [62]<|x.k+w;refine⟨sY e1 ⟨i3<|.inl I,λe=>absurd (show(4:Int)=1 from e) dq,nodup_nil⟩,?_⟩;show jF (jK x.tx x.us++[_])+([]:Bq).length<=16*(ib all [62] (x.k+w)+1);rw[pT,pU,b];grind
 unfold lq;generalize u:tZ all x.k=n;rcases n with _|_|_|_|_|_|_|_|n
 .have y:=IU (all:=all) (k:=x.k);have o:=p.wl x.k (Kt all x.k) 0;refine⟨h.ok,?_⟩;grind
 .have⟨A,B,C⟩:=lO (lo:=lo) (wr:=wr) (k:=x.k+1) v;have y:=xa (all:=all) (nm:=fs all lo<|x.k+1) (k:=(fO all lo wr<|x.k+1).2.2.2);have o:=p.wl (fO all lo wr<|x.k+1).2.2.2 (pw all (fs all lo<|x.k+1) (fO all lo wr<|x.k+1).2.2.2) 0;have d:=nM (all:=all) (fO all lo wr<|x.k+1).2.2.2 (pw all (fs all lo<|x.k+1) (fO all lo wr<|x.k+1).2.2.2);have f:m9 (fO all lo wr (x.k+1)).1:=by
   unfold fO;cases h:tz all lo wr _ _ [] with
   | none=>exact nodup_nil
   | some r=>exact IE _ _ nodup_nil h
  show Sf (BN all lo wr x);have g:oX ⟨2,[],fs all lo<|x.k+1,(fO all lo wr<|x.k+1).1,(fO all lo wr<|x.k+1).2.1⟩:=⟨.inr<|.inl I,λe=>absurd (show(2:Int)=1 from e) dq,f⟩;unfold BN yF;generalize (fO all lo wr<|x.k+1).2.2.1=i;generalize TR (fs all lo<|x.k+1)=U;generalize aW (fs all lo<|x.k+1) gP=l;generalize pw all (fs all lo<|x.k+1) (fO all lo wr<|x.k+1).2.2.2=z at *;generalize (fO all lo wr<|x.k+1).2.2.2=c at *;cases i with
  | false =>refine⟨h.ok,?_⟩;grind
  | true =>refine⟨sY e1 g,?_⟩;show jF (jK x.tx x.us++[_])+(bif U then (bif l then _ else _) else _:Bq).length<=16*(bif true&&U then z else c);rw[pT,pU,b];cases U<;>cases l<;>simp<;>omega
 .have r:=l6 (by rw[AB u];decide);have⟨A,B,C⟩:=lO (lo:=lo) (wr:=wr) (k:=x.k+2) r;show Sf (OQ all lo wr x);unfold OQ;generalize (fO all lo wr<|x.k+2).2.2.1=i;generalize (fO all lo wr<|x.k+2).2.2.2=c at *;cases i with
  | false=>exact⟨h.ok,by show jF x.us+x.tx.length<=16*c;omega⟩
  | true =>refine⟨sY e1 ⟨.inr<|.inr<|.inl I,λe=>absurd (show(3:Int)=1 from e) dq,nodup_nil⟩,?_⟩;show jF (jK x.tx x.us++[_])+([]:Bq).length<=16*c;rw[pT,pU,b];grind
 .exact⟨h.ok,by show jF x.us+x.tx.length<=16*(x.k+3);omega⟩
 .exact a 2
 .have⟨m,h1,h2,h3,t⟩:=gD all (λj=>!(EP all j).isEmpty)<|x.k+2;change Jh all x.k=x.k+2+m at h1;have d:=nM (all:=all) (x.k+4)<|Jh all x.k;refine⟨sY e1 ⟨i3<|.inl I,λe=>absurd (show(4:Int)=1 from e) dq,nodup_nil⟩,?_⟩;show jF (jK x.tx x.us++[_])+([]:Bq).length<=16*(Jh all x.k+(EP all<|Jh all x.k).length);rw[pT,pU,b];grind
 .have t:x.k+9<=Fp all x.k:=by unfold Fp pP;omega
  have o:Fp all x.k<=yo all x.k:=by unfold yo ib;omega
  have d:yo all x.k<=ib all [62] (yo all x.k):=by unfold ib;omega
  refine⟨sY e1 ⟨i3<|.inr I,λe=>absurd (show(5:Int)=1 from e) dq,nodup_nil⟩,?_⟩;show jF (jK x.tx x.us++[_])+([]:Bq).length<=16*(ib all [62] (yo all x.k)+1);rw[pT,pU,b];grind
 .exact a 2
 .exact a 1
def Is(ht:yu all wr T W):∀(n:Nat) (x:St),Oz all x->Sf x->Sf (runK all lo wr n x)/\Oz all (runK all lo wr n x)
 | 0,x,hI,h=>⟨h,hI⟩
 | n+1,x,hI,h=>by
  unfold runK;split
  .exact⟨h,hI⟩
  .next hl =>obtain⟨a1,a2,a3,a4⟩:=Ep ht x hl hI.2.1 hI.2.2;exact Is ht n _ ⟨a2,a3,a4⟩<|NT ht x hl h
theorem IK(U:yu all wr T W)(d:all.length<=20000):(∀u∈xW all lo wr,oX u)/\jF (xW all lo wr)<=1000000/\(xW all lo wr).length<=100000:=by
 have⟨h1,h2⟩:=Is (lo:=lo) U (all.length+1) ⟨0,[],[]⟩ ⟨Nat.zero_le _,Nat.zero_le _,Nat.zero_le _⟩ ⟨(λu a=>by cases a),Nat.zero_le _⟩;unfold xW;generalize runK all lo wr _ ⟨0,[],[]⟩=y at *;have⟨e1,b⟩:=Hs (tx:=y.tx) h1.ok;have c:=C3 y.tx y.us
 have:=h1.tot;have⟨e,i2,i3⟩:=h2;grind
def oe(all:Iq):List Nd:=(pK<|xW all oK KP).nodes
def Jr{α β:Type}(f:α->β):∀(l:List α) i,(l.map f).eraseIdx i=(l.eraseIdx i).map f
 | [],i=>iq
 | x::l,0=>rfl
 | x::l,i+1=>by simp[Jr f l i]
def Na:GZ (yK prog rn all) where
 no:=mX kq
 nA:=mX kq
 xl:=kq
 Ym:=kq
 Yn:=kq
 Ue:=kq
 Yo:=kq
 Yp:=kq
 fM:=kq
 del:=by
  intro s v l i c b;rcases c with ⟨_,e⟩|⟨d,cp,cs,fz,rfl,h0,h1,h2,h3⟩
  .rw[e] at b;simp at b
  have U:cs.toList.take l.length=l.map λk=>num (k:Nat):=by apply List.ext_getElem?;grind
  have f:l.length<=cs.toList.length:=by have:=congrArg List.length U;grind
  refine⟨.slice (sq d) (l.length-1) cp,s.set d<|some<|.cells (vw cs.toList l.length i).toArray 3 fz,?_,I,I,.inr ⟨d,cp,(vw cs.toList l.length i).toArray,fz,?_,?_,h1,by rw[AS.aN,ip I],λq k j=>?_⟩,?_,λy a=>?_⟩
  .refine iK I ?_;unfold LG;simp only[h2];have g:(cs.toList.take l.length).all eW=true:=by rw[U,aT];intro y a;obtain⟨k,_,rfl⟩:=List.mem_map.1 a;rfl
   grind
  .grind
  .grind
  .unfold vw;grind
  .exact aL (aE s) (λ_=>eg _ _ _) _
  .have a:=dk a;rw[a];exact eg _ _ _
 tr:=λx a s=>by refine iK I ?_;have:V0 (λx=>uC<|yP x) #[str x,str KJ]=some _:=ip (show cZ KJ KJ=true/\x.length<=1000000 from⟨dq,a⟩);simp only[this]
 tl:=λx a s=>by refine iK I ?_;have:V0 uC #[str x,str KJ]=some _:=ip (show cZ KJ KJ=true/\x.length<=1000000 from⟨dq,a⟩);simp only[this]
structure G0(rn pg:Nat)(rN:Prim)(us:List Nd):Prop where
 run:∀s:AS,s.nx=rn+1->s.get 1=some (.cells dy.toArray 335)->s.get pg=some (.cells #[aO] 82)->∃s3 w xs,EW prog kg rN (match f38.body with|some c=>c|none=>.skip) ([aC rn 0,aC pg 0]++List.replicate 5 undef) s (λe _ s'=>(e=.normal\/e=.ret)/\s'=s3)/\Has s3 pg (.cells #[w] 82)/\nR s3 w xs/\fK s3 xs us/\cL (λx=>x=pg) s s3/\∀x,blk w x->rn+1<=x
def RG{pg:Nat}(Z1:4<=rn)(Z2:pg<=rn)(O:∀l∈all,Good l)(v:all.length<=20000):G0 rn pg (yK prog rn all) (oe all)/\(∃m,Gv m<|pK<|xW all oK KP)/\(pK<|xW all oK KP).w=2/\(oe all).length<=200000000:=by
 have u:=Nb (rn:=rn) oq O v;have⟨A,T,U⟩:=IK (lo:=oK) u.a v;have⟨_,S,y⟩:=BV (Na (all:=all) (rn:=rn)) _ A Gv.zero oq (by show 1+_+_<_;omega);have y:((xW all oK KP).foldl TS.step TS.zero).nodes.length<=1+1703*(xW all oK KP).length:=y;have⟨D,E,X⟩:=S.cT;refine⟨⟨λs P o h=>?_⟩,⟨_,D⟩,E,by unfold oe pK;omega⟩;have⟨W,V,B,e1,r,G,t,Z⟩:=PG u ⟨oq,o⟩ oq;obtain⟨⟨f,wv,k,H,I,J,L,M⟩,_⟩:=Qz (Na) r G A T U;have e:=t.trans L λ_ _ z=>z;have c:=Has.fr ⟨oq,h⟩ e id;obtain⟨vd,vc,p⟩:∃C F,V=.slice C B.length F:=by
  rcases r with ⟨rfl,rfl⟩|⟨d,N,rfl,_⟩
  .exact⟨none,0,rfl⟩
  .exact⟨_,_,rfl⟩
 subst p;have⟨j,i,Q,n,g⟩:=I;subst n;have b:cL (λx=>x=pg) f (f.set pg<|some<|.cells #[.slice (sq j) k.length (k.length+i)] 82):=aL (K:=λx=>x=pg) (aE f) (λ_=>rfl) _;refine⟨f.set pg<|some<|.cells _ 82,_,k,?_,c.put _,⟨j,i,Q,rfl,g.fr b<|g.ne c dq⟩,J.fk b λx Y N q=>q.ne c dq,(e.mono λ_ _ z=>z.elim).trans b<|λ_ _ z=>z,λx q=>?_⟩
 .exact zx<|zc 1 e1<|zc 0 H<|zg 1 f<|zp (ys pg 0 (.slice (sq j) k.length<|k.length+i) c.2 iq)<|am ⟨.inl rfl,kq⟩
 .have:=M x q
  have:=t.1;omega
theorem YC{c:gX}{bytes:Nat}{z:Value}(U:o.op=.makeSlice t x y)(h:P.underlying t=some (.slice e))(j:a.at x=num n)(k:a.at y=num n)(hi:(P.info? e).map (λi=>(i.zero,i.size,i.bytes))=some (some z,sz,bytes))(b:0<n)(g:n<=1000000000)(l:oJ P e=true)(f:kt e=false)(d:bytes<=1000):cf P kt c a o s=some (.slice (sq s.nx) n n,s.add<|.cells (madeCells z.cells<|n*sz) e):=by unfold cf;rw[ip (by rw[U];rfl)];unfold wR;grind
theorem Ul{c:gX}{b:Nat}{cs:Aq}{fz:Nat × Nat}(U:o.op=.call { callee:=.builtin .copy,args:=#[x,y],argTypes:=#[t,t'] })(p:a.at x=.slice (sq b) n k)(q:a.at y=str l)(m:P.underlying t=some (.slice e))(r:cz P e=some 1)(j:s.get b=some (.cells cs bt fz))(h:l.length=n)(v:cs.size=n):cf P kt c a o s=some (num l.length,s.set b<|some<|.cells (qY l) bt fz):=by
 have i:cI P a o=none:=by unfold cI;rw[U]
 have f:putAt cs 0 (strCells ⟨l.toArray⟩)=qY l:=by
  unfold putAt;have h1:(strCells ⟨l.toArray⟩).length=l.length:=by simp[strCells]
  grind
 have d:l7 l 0=l.length:=by
  have:∀(l:Bq) (n:Nat),l7 l n=n+l.length:=by
   intro l;induction l with
   | nil=>intro n;rfl
   | cons x l u=>intro n;rw[l7,u,lC];omega
  rw[this,Nat.zero_add]
 unfold cf;rw[iw (by rw[U];simp[fR])];rw[U];simp only;rw[i];simp;rw[p,q];unfold gl;simp only;rw[m,j];simp only;have g:(⟨l.toArray⟩:ByteArray).size=n:=by rw[<-h];rfl
 rw[ip ⟨r,g,oq⟩,f,d];rfl
def OI(e:pr 36=none)(f:pr 60=none)(j:l≠[])(p:l.length<=1000000):∃c,Ef pr 36 #[str l] s (str l) c:=by
 have a:0<l.length:=HU.2 j;have i:=aI s<|.cells (madeCells (Value.int .u8 0).cells<|l.length*1) 5;have o:=i.put<|.cells (qY l) 5;have g:(madeCells (Value.int .u8 0).cells<|l.length*1).size=l.length:=by rw[size_madeCells,Nat.mul_one]
 generalize m:s.add _=S at *;obtain⟨c,h⟩:∃c,Ef pr 60 #[str l] s (str l) c:=by refine⟨(S.set s.nx<|some<|.cells (qY l) 5).set s.nx none,aH f func60 I<|zs<|aB<|zr<|zk 1<|zp (dL (l:=l) I underlying9 kq)<|zp (yb (num l.length) (num 0)<|cW (b:=false)<|bF.2 oq)<|am<|za s<|zF<|zr<|zk 1<|zp (dL (l:=l) I underlying9 kq)<|zo s<|zp (YC (n:=l.length) (sz:=1) (bytes:=1) (z:=.int .u8 0) I underlying55 kq kq kq a oq kq kq dq) ?_⟩;rw[m];exact zf<|za S<|zr<|zk 2<|zo S<|zp (Ul (b:=s.nx) (n:=l.length) (k:=l.length) (l:=l) I kq kq underlying55 kq i.2 I g)<|am<|za (S.set s.nx<|some<|.cells (qY l) 5)<|zr<|zk 1<|zp (yi s.nx 0 l.length l.length 0 none .i64 0 1 oq oq oq)<|zk 2<|zo _<|zp (Bz (d:=s.nx) (l:=l) I kq kq kq o.2 kq a oq)<|zf yR
 exact⟨c,aH e func36 I<|zs<|zr<|zc 1 h<|zf yR⟩
end
section
variable {ι:Type}{N0:ι->Nat}{M:ι->World->Nat->Prop}{R:ι->Wq}{D:ι->World->World->Array Event->Prop}{X:ι->Gq}{Hd:ι->Hq->World->Prop}
variable {S:AS}{pr:Prim}{t:Bq}{q11 q12 Z7 q14 q15:Value}{hh bb i d k N:Nat}{xs:List bH}{x:Nq}
variable {us:List Nd}{fL:Nat->Int}
variable {s s1:AS}
def xt{b:Nat}{o:Obj}:∀{l:List Nat},b∈l->s.get b=some o->oL o=true->(s.only l).get b=some o
 | [],h,_,_=>by simp at h
 | c::l,h,hs,ho=>by
  unfold AS.only;by_cases hc:c=b
  .subst hc;rw[hs];simp only;rw[ip ho,AS.aN,ip Y]
  .have ih:=xt ((oc.1 h).resolve_left λe=>hc e.symm) hs ho;split
   .split
    .rw[AS.aN,iw<|λe=>hc e.symm];exact ih
    .exact ih
   .exact ih
def AS.all(s:AS):AS:=s.only<|List.range s.nx
def AS.Sn(s:AS):s.all.nx=s.nx:=(wm _ s).1
def Has.all{b:Nat}{o:Obj}(h:Has s b o)(a:oL o=true):Has s.all b o:=⟨by rw[AS.Sn];exact h.1,xt (List.mem_range.2 h.1) h.2 a⟩
def nR.all{v:Value}{xs:List bH}(h:nR s v xs):nR s.all v xs:=by have⟨d,c,a,e,h⟩:=h;exact⟨d,c,a,e,h.all Y⟩
def fK.all{xs:List bH}{b:List Nd}(h:fK s xs b):fK s.all xs b:=⟨h.1,λi x u g f=>by
 have⟨h1,h2,h3,d,a⟩:=h.2 i x u g f;refine⟨h1,h2,h3,d,?_⟩;rcases a with a|⟨ab,c,fz,e,q1,q2⟩
 .exact .inl a
 .have:=Has.all ⟨q1,q2⟩ Y;exact .inr ⟨ab,c,fz,e,this.1,this.2⟩⟩
abbrev uw(v:Value)(n:Nat)(b:Bool):Obj:=.cells #[v,num n,.bool b] 80
def YM (s:AS):AS:=s.add<|uw aO 0 false
def MF(a:pr 18=none):Ef pr 18 #[] s (aC s.nx 0) (YM s):=by
 refine aH a func18 Y ?_;iterate 2 refine zs ?_
 exact yR
variable {P:Program}{KT:TypeId->Prop}{An:eN}{kt:TypeId->Bool}
section
variable {O:ι->Nat->Prop}
variable {aA:TL}{K:TL->AS->Prop}{ops:Array Oper}{o:Oper}{v:Value}
def WI.I9{c:Code}{Q:Exit->TL->AS->Prop}(s':AS)(h:s=s')(kk:WI P KT An X Hd c aA s' Q):WI P KT An X Hd c aA s Q:=h▸kk
end
section
variable {O:ι->Nat->Prop}{Z6:Prim}
open Classical in
theorem oI(Y:Cy P KT N0 M O R D X Hd)(hm:P.follows .mixedOrders=true)(FH:∀ t,kt t=false->¬ KT t)(Jy:∀ (f:FuncId) (bL:Func),P.funcs[f]?=some bL->(bL.name == "runtime.NumGoroutine")=false){k m:Nat}(OY:∀ b,k<=b->An b=none)(hp0:cR P KT An R D X Hd Z6)(hp:cR P KT An R D X Hd pr)(f:FuncId):∃ V,cR P KT An R D X Hd (M3 f V pr)/\∀ args v s1,args.toList.all (gA m)=true->gA m v=true->EF P kt Z6 f args ⟨[],k⟩ v s1->V args=some v:=by
 refine⟨λargs=>if h:∃v s1,args.toList.all (gA m)=true/\gA m v=true/\EF P kt Z6 f args ⟨[],k⟩ v s1 then some (Classical.choose h) else none,⟨?_,?_⟩,?_⟩
 .intro g h args s v s' hf hh;unfold M3 at hf;split at hf
  .cases hf;unfold QV at hh;grind
  .exact hp.nx g h args s v s' hf hh
 .intro g h args s v s' hf hh;unfold M3 at hf;split at hf
  .next he =>
   have he:=iC he;subst he;cases hf;unfold QV at hh;split at hh
   .next v' hv =>
    cases hh;dsimp only at hv;split at hv
    .next hex =>cases hv;have⟨s1,h1,h2,n,h3⟩:=Classical.choose_spec hex;exact qO Y OY h1 h2<|(jM Y hm FH hp0 Jy n).2 _ _ _ _ _ h3
    .cases hv
   .cases hh
  .exact hp.sound g h args s v s' hf hh
 .intro args v s1 h1 h2 h3;have hex:∃v s1,args.toList.all (gA m)=true/\gA m v=true/\EF P kt Z6 f args ⟨[],k⟩ v s1:=⟨v,s1,h1,h2,h3⟩;simp only[dif_pos hex];have⟨s2,_,_,h4⟩:=Classical.choose_spec hex;rw[(EF.one h4 h3).1]
end
end
section
variable {pr:Prim}{s s':AS}{b o:Nat}{p q w:Value}{cs rL:Aq}{ty:TypeId}{xs:List bH}{x:bH}
theorem Ai:∀ l:List ByteArray,xQ (l.map Value.string)=some l
  | [] => rfl
  | s :: l => by
    show (match xQ _ with | some r => some _ | none => none)=_
    rw [Ai l]
theorem Ic {P:Program} {kt:TypeId->Bool} {c:gX} {a:TL} {s:AS} {o:Oper} {t:TypeId} {x y:Operand} {z} {i j r:Int} (lz:o.op=.binOp .add t x y z) (hx:a.at x=num i) (hy:a.at y=num j) (hr:i + j=r) (hs : -9223372036854775808<=r/\r<=9223372036854775807):cf P kt c a o s=some (num r,s):=by
  refine eG (by rw [lz]; rfl) (by rw [lz]; trivial) ?_
  unfold cI
  rw [lz]
  simp only
  rw [hx,hy]
  unfold dV
  simp only [if_pos]
  rw [hr,EH hs]
def vg (y:Int) (m:Int):Nat:=((if y<0 then -(y + 1) else y) % m).toNat
theorem M1 (y:Int) (m:Nat) (hm:0<m):vg y m<m:=by
  unfold vg
  have h1:=Int.emod_nonneg (if y<0 then -(y + 1) else y) (b:=m) oq
  have h2:=Int.emod_lt_of_pos (if y<0 then -(y + 1) else y) (b:=m) oq
  omega
def Ry (o:Option Obj):Prop:=∀ cs fz,o≠some (.cells cs 5 fz)
def j1 (b:Nat) (s s':AS):Prop:=s.nx<=s'.nx/\∀ k,k<s.nx->k≠b->Ry (s.get k)->s'.get k=s.get k
theorem j1.refl (b:Nat) (s:AS):j1 b s s:=⟨Nat.le_refl _,λ_ _ _ _ => O⟩
theorem j1.trans {b:Nat} {s s1 s2:AS} (h:j1 b s s1) (h':j1 b s1 s2):j1 b s s2:=⟨Nat.le_trans h.1 h'.1,λk hk hb h5 => by
  have e:=h.2 k hk hb h5
  rw [h'.2 k (by have:=h.1; omega) hb (by rw [e]; exact h5),e]⟩
abbrev m8 (nb k c:Nat):Value:=.slice (some ⟨nb,0,none⟩) k c
theorem j1.add (b:Nat) (s:AS) (o:Obj):j1 b s (s.add o):=⟨iq,λk hk _ _ => by rw [AS.aZ,if_neg oq]⟩
theorem jW {cs:Array Value} {t:TypeId} {fz:Nat × Nat} {o:Option Obj} (h:o=some (.cells cs t fz)) (ht:t≠5):Ry o:=λqG Oh e => by
  rw [h] at e
  injection e with q
  injection q with _ q2
  exact ht q2
def Ax (b wk:Nat) (s s':AS):Prop:=s.nx<=s'.nx/\∀ k,k<s.nx->k≠b->k≠wk->Ry (s.get k)->s'.get k=s.get k
theorem Ax.refl (b wk:Nat) (s:AS):Ax b wk s s:=⟨Nat.le_refl _,λ_ _ _ _ _ => O⟩
theorem Ax.trans {b wk:Nat} {s s1 s2:AS} (h:Ax b wk s s1) (h':Ax b wk s1 s2):Ax b wk s s2:=⟨Nat.le_trans h.1 h'.1,λk hk hb hw h5 => by
  have e:=h.2 k hk hb hw h5
  rw [h'.2 k (by have:=h.1; omega) hb hw (by rw [e]; exact h5),e]⟩
theorem j1.u {b wk:Nat} {s s1:AS} (h:j1 b s s1):Ax b wk s s1:=⟨h.1,λk hk hb _ h5 => h.2 k hk hb h5⟩
theorem Ax.Nv {b wk:Nat} {s:AS} {o:Option Obj}:Ax b wk s (s.set wk o):=⟨iq,λk hk hb hw h5 => by rw [AS.aN,if_neg hw]⟩
theorem pV {s:AS} {a b:Nat} {cs qG:Array Value} {t t':TypeId} {fz Oh:Nat × Nat} (h:s.get a=some (.cells cs t fz)) (h':s.get b=some (.cells qG t' Oh)) (ht:t≠t'):a≠b:=λe => by
  rw [e,h'] at h
  injection h with q
  injection q with _ q2
  exact ht q2.symm
def RN (wk:Nat) (p z:Int) (x:Nat->Value):TL:=[aC wk 0,num p,x 2,x 3,num z]++gG x 5 42
theorem rk {cs:Array Value} {t:TypeId} {fz:Nat × Nat} {o:Option Obj} (h:o=some (.cells cs t fz)) (ht:t≠3):Rx o:=λqG Oh e => by
  rw [h] at e
  injection e with q
  injection q with _ q2
  exact ht q2
def yw (b wk:Nat) (s s':AS):Prop:=s.nx<=s'.nx/\∀ k,k<s.nx->k≠b->k≠wk->Ry (s.get k)->Rx (s.get k)->s'.get k=s.get k
theorem yw.trans {b wk:Nat} {s s1 s2:AS} (h:yw b wk s s1) (h':yw b wk s1 s2):yw b wk s s2:=⟨Nat.le_trans h.1 h'.1,λk hk hb hw h5 h3 => by
  have e:=h.2 k hk hb hw h5 h3
  rw [h'.2 k (by have:=h.1; omega) hb hw (by rw [e]; exact h5) (by rw [e]; exact h3),e]⟩
theorem Ax.v {b wk:Nat} {s s1:AS} (h:Ax b wk s s1):yw b wk s s1:=⟨h.1,λk hk hb hw h5 _ => h.2 k hk hb hw h5⟩
def gk (p:Int) (lu:List Nat):List Nat:=(lu.reverse.dropWhile λk => decide (((k:Nat):Int)≠p)).reverse
def lj (p:Int) (lu:List Nat):List Nat:=(lu.reverse.takeWhile λk => decide (((k:Nat):Int)≠p)).reverse
theorem p8 (p:Int) (lu:List Nat):gk p lu++lj p lu=lu:=by
  unfold gk lj
  rw [<-List.reverse_append,List.takeWhile_append_dropWhile,List.reverse_reverse]
theorem N7 {α:Type} {p:α->Bool} {x:α}:∀ {l:List α},x∈l.takeWhile p->p x=true
  | [],h => by simp at h
  | a :: l,h => by
    rw [List.takeWhile_cons] at h
    split at h
    . next ha =>
      rcases List.mem_cons.1 h with rfl | h
      . exact ha
      . exact N7 h
    . simp at h
theorem P2 {p:Int} {lu:List Nat} {k:Nat} (h:k∈lj p lu):(k:Int)≠p:=by
  unfold lj at h
  rw [List.mem_reverse] at h
  have:=N7 h
  simpa using this
theorem Jb (p:Int) (lu:List Nat):gk p lu=[]\/∃ b0 k0,gk p lu=b0++[k0]/\((k0:Nat):Int)=p:=by
  unfold gk
  cases hd:lu.reverse.dropWhile λk => decide ((k:Nat)≠p) with
  | nil => exact .inl O
  | cons k r =>
    refine .inr ⟨r.reverse,k,by rw [List.reverse_cons],?_⟩
    have:=List.head?_dropWhile_not (λk => decide ((k:Nat)≠p)) lu.reverse
    rw [hd] at this
    simpa using this
theorem Ld {p:Int} {lu:List Nat} {k:Nat} (h:k∈gk p lu):k∈lu:=by
  rw [<-p8 p lu]
  exact List.mem_append_left _ h
theorem M2 {p:Int} {lu:List Nat} {k:Nat} (h:k∈lj p lu):k∈lu:=by
  rw [<-p8 p lu]
  exact List.mem_append_right _ h
theorem dB.add {s:AS} {v:Value} {lu:List Nat} (h:dB s v lu) (o:Obj):dB (s.add o) v lu:=by
  rcases h with h | ⟨ob,cp,cs,fz,e1,e2,e3,e4,e5⟩
  . exact .inl h
  . exact .inr ⟨ob,cp,cs,fz,e1,e2,by simp; omega,by rw [AS.aZ,if_neg oq]; exact e4,e5⟩
theorem dB.set {s:AS} {v:Value} {lu:List Nat} {k:Nat} {o:Option Obj} (h:dB s v lu) (h3:Rx (s.get k)):dB (s.set k o) v lu:=by
  rcases h with h | ⟨ob,cp,cs,fz,e1,e2,e3,e4,e5⟩
  . exact .inl h
  . exact .inr ⟨ob,cp,cs,fz,e1,e2,by simpa using e3,by rw [AS.aN,if_neg<|λe => by rw [e] at e4; exact h3 _ _ e4]; exact e4,e5⟩
theorem j1.v {b wk:Nat} {s s1:AS} (h:j1 b s s1):yw b wk s s1:=h.u.v
abbrev vp:Obj:=.cells #[.slice none 0 0,.slice none 0 0,.nilFunc] 209
theorem Gz{a:Aq}{o:Nat}{v:Value}(h:a[o]?=some v):putAt a o [v]=a:=by unfold putAt;apply wu.1;apply List.ext_getElem?;intro i;grind
section
variable {d:Value}{l:Bq}
def Jc (a:Aq)(b o:Nat)(q:Value):Aq:=putAt (putAt a o [aC b o]) (o+1) [q]
theorem ei{a:Aq}{o i:Nat}{v:Value}(h:o<a.size):(putAt a o [v])[i]?=if i=o then some v else a[i]?:=by unfold putAt;grind
def mh{a:Aq}{o:Nat}{v:Value}(h:o<a.size):(putAt a o [v]).size=a.size:=by unfold putAt;simp;omega
def YX{en:Bq}{c:Int}(t:pr 261=none)(r:pr 180=none)(i:Has s b (.cells cs ty))(Z:cs[o]?=some p)(G:cs[o+1]?=some q)(hp:p=.pointer none\/p=aC b o)(hl:liesAt prog prog.depth ty (cs.size / prog.cellsOf ty) o 119 1=true)(E:ty≠5)(Q:Cf s q l)
 (u:∀(s:AS) (sl:Value),qU s sl l->∃j,∃w,Ef pr 275 #[sl,.int .i32 c] s w j/\wz s sl l en j w) :
  ∃j v T,Ef pr 180 #[aC b o,.int .i32 c] s v j/\Has j b (.cells (Jc cs b o T) ty)/\Cf j T (l++en)/\cL (λx=>x=b\/blk q x) s j/\∀x,blk T x->s.nx<=x:=by
 have B:=(oF.1 Z).1;have Ts:=(oF.1 G).1;have M:Ef pr 261 #[aC b o] s (.tuple #[]) (s.set b<|some<|.cells (putAt cs o [aC b o]) ty):=by
  have c:=(oF.1 Z).1;refine aH t func261 O<|zr<|zg 3 s<|zp (yl b o p i.2 (i:=Z)) ?_;rcases hp with rfl|rfl
  .exact zf<|zH<|zx<|zg 2 s<|zp (ur O kq<|Lx (k:=1) kq underlying117 underlying244 i.2 kq c)<|EO.q kq kq<|zo s<|zp (ur O kq<|Ly (k:=1) kq underlying244 underlying117 i.2 kq hl)<|zg 2 s<|zp (ys b o (aC b o) i.2 c)<|am ⟨.inl O,kq,kq⟩
  .refine zf<|zG<|zr<|zg 3 s<|zp (yl b o _ i.2 (i:=Z))<|zg 1 s<|zp (DI (off:=o) (b:=b) (k:=1) O kq kq underlying117 kq)<|am<|zF ?_;rw[Gz Z];exact⟨.inl O,kq,(AS.xJ i.2).symm⟩
 have I:=i.put<|.cells (putAt cs o [aC b o]) ty;have c3:=Q.set i E<|some<|.cells (putAt cs o [aC b o]) ty;have c4:cL (λx=>x=b\/blk q x) s (s.set b<|some<|.cells (putAt cs o [aC b o]) ty):=aL (aE s) (λ_=>.inl rfl) _;have V:(putAt cs o [aC b o])[o+1]?=some q:=by rw[ei B,iw oq];exact G
 have c6:=mh (v:=aC b o) B;have cn:(s.set b<|some<|.cells (putAt cs o [aC b o]) ty).nx=s.nx:=rfl;generalize s.set b _=k at *;have D:qU k q l:=by
  rcases c3 with h|⟨d,J,e1,e2⟩
  .exact .inl h
  .exact .inr ⟨d,J,e1,e2.1,e2.2⟩
 have A:∃F m,q=.slice F l.length m:=by
  rcases Q with ⟨rfl,rfl⟩|⟨d,J,rfl,_⟩
  iterate 2
   .exact⟨_,_,rfl⟩
 have P:¬blk q b:=λz=>by have⟨qG,J,hz⟩:=Q.blk z;exact i.ne hz E rfl
 have C:∀x,¬blk q x->∀n m,q≠.slice (sq x) n m:=λx S n m e=>S ⟨0,none,n,m,e⟩;obtain⟨a,w,K,g,rfl,g1,g2,g3,Y⟩:=u k q D;have X:Has a b (.cells (putAt cs o [aC b o]) ty):=⟨by have:=i.1;omega,(Y b (by have:=i.1;omega)<|C b P).trans I.2⟩;have O:g≠b:=by have:=i.1;omega
 have N:cL (λx=>x=b\/blk q x) k a:=⟨oq,λx S hk=>Y x S<|C x λz=>hk<|.inr z⟩;have f:Has (a.set b<|some<|.cells (Jc cs b o<|.slice (sq g) (l++en).length (l++en).length) ty) b _:=X.put _;have R:Cf (a.set b<|some<|.cells (Jc cs b o<|.slice (sq g) (l++en).length (l++en).length) ty) (.slice (sq g) (l++en).length (l++en).length) (l++en):=.inr ⟨g,(1,1),rfl,Has.set ⟨g2,g3⟩ O _⟩;have y:cL (λx=>x=b\/blk q x) s (a.set b<|some<|.cells (Jc cs b o<|.slice (sq g) (l++en).length (l++en).length) ty):=aL (c4.trans N λ_ _ z=>z) (λ_=>.inl rfl) _;suffices hh:Ew pr (match f180.body with|some c=>c|none=>.skip) ((#[aC b o,.int .i32 c]:Aq).toList++List.replicate (f180.ntmps-(#[aC b o,.int .i32 c]:Aq).toList.length) undef) s (λe H U=>(e=.normal\/e=.ret)/\U=a.set b (some<|.cells (Jc cs b o<|.slice (sq g) (l++en).length (l++en).length) ty)/\∃w,di prog f180 H U=some w) by have⟨m,e,H,U,G,he,h2,w,h3⟩:=hh;subst h2;exact⟨_,w,_,aH r func180 rfl ⟨m,e,H,_,G,he,h3,rfl⟩,f,R,y,λx z=>by rw[dk z];omega⟩
 obtain⟨F,W,rfl⟩:=A;refine zs<|zr<|zc 1 M<|am<|zr<|zg 3 k<|zp (yl b (o+1) (.slice F l.length W) I.2 (i:=V))<|zf<|za k<|zr<|zg 4 k<|zp (yl b (o+1) (.slice F l.length W) I.2 (i:=V))<|zc 1 K<|zg 2 a ?_;have hL:(Jc cs b o<|.slice (sq g) (l++en).length (l++en).length)[o+1]?=some (.slice (sq g) (l++en).length (l++en).length):=by unfold Jc;rw[ei oq,ip rfl]
 have e6:=f.2;generalize (l++en).length=L at *;refine zp (ys b (o+1) (.slice (sq g) L L) X.2 oq)<|am<|za (a.set b<|some<|.cells (Jc cs b o<|.slice (sq g) L L) ty) ?_;generalize a.set b _=s4 at *;exact zr<|zg 3 s4<|zp (yl b (o+1) (.slice (sq g) L L) e6 (i:=hL))<|zf<|aD ⟨.inr rfl,kq,.tuple #[.int .i64 (eU .i64<|(L:Int)-(l.length:Int)),.nilIface],kq⟩
end
def Fl (s:AS)(b o:Nat)(ty:TypeId)(rL:Aq)(l:Bq)(d:Int):Prop:=∃cs p q,Has s b (.cells cs ty)/\cs.size=rL.size/\(∀i,i≠o->i≠o+1->i≠o+2->cs[i]?=rL[i]?)/\cs[o]?=some p/\(p=.pointer none\/p=aC b o)/\cs[o+1]?=some q/\cs[o+2]?=some (.int .i32 d)/\Cf s q l/\(l=[]->q=aO)
def R9 (o:Nat)(b:TypeId)(a:Aq):Prop:=liesAt prog prog.depth b (a.size / prog.cellsOf b) o 119 1=true/\b≠5
section
variable {l:Bq}{d:Int}
def j1.of{K:Nat->Prop}(h:cL K s s')(i:∀x,x<s.nx->K x->x=b\/∃c d,s.get x=some (.cells c 5 d)):j1 b s s':=⟨h.1,λk a g f=>h.2 k a λz=>by
 rcases i k a z with e|⟨c,d,e⟩
 .exact g e
 .exact f _ _ e⟩
def Fl.due(h:Fl s b o ty rL l d)(j:ty≠5)(f:Int):∃c,s.get b=some (.cells c ty)/\c[o+2]?=some (.int .i32 d)/\o+2<c.size/\Fl (s.set b<|some<|.cells (putAt c (o+2) [.int .i32 f]) ty) b o ty rL l f/\j1 b s (s.set b<|some<|.cells (putAt c (o+2) [.int .i32 f]) ty):=by have⟨c,p,q,g,n,r,t,u,v,k,w,y⟩:=h;have a:=(oF.1 k).1;exact⟨c,g.2,k,a,⟨_,p,q,g.put _,by rw[mh a];exact n,λi z A m=>by rw[ei a,iw m];exact r i z A m,by rw[ei a,iw oq];exact t,u,by rw[ei a,iw oq];exact v,by rw[ei a,ip O],w.set g j _,y⟩,(j1.of (aL (K:=λx=>x=b) (aE s) (λ_=>O) _) λx _ e=>.inl e)⟩
def IC(a:pr 161=none)(m:R9 o ty rL)(h:Fl s b o ty rL l d):∃f,Ef pr 161 #[aC b o] s (.tuple #[]) f/\Fl f b o ty rL l (if d=0 then 32 else d)/\j1 b s f:=by
 have⟨n,e,g,i,j,k⟩:=h.due m.2 32;by_cases c:d=0
 .rw[ip c];subst c;exact⟨_,(aH a func161 O<|zr<|zg 3 s<|zp (yl b (o+2) _ e (i:=g))<|zf<|za s<|zH<|zx<|zg 3 s<|zp (ys b (o+2) (.int .i32 32) e i)<|am ⟨.inl O,kq,kq⟩),j,k⟩
 .rw[iw c];exact⟨s,(aH a func161 O<|zr<|zg 3 s<|zp (yl b (o+2) _ e (i:=g))<|zp (yb (.int .i32 d) _<|dp (b:=false)<|by simpa using c)<|am<|zF ⟨.inl O,kq,kq⟩),h,j1.refl b s⟩
def AJ(a:pr 167=none)(j:R9 o ty rL)(h:Fl s b o ty rL l d):∃c,Ef pr 167 #[aC b o] s (.tuple #[]) c/\Fl c b o ty rL l 10/\j1 b s c:=by have⟨k,e,m,f,g,i⟩:=h.due j.2 10;exact⟨_,(aH a func167 O<|zx<|zg 3 s<|zp (ys b _ (.int .i32 10) e f)<|am ⟨.inl O,kq,kq⟩),g,i⟩
def Rc (l:Bq)(d r:Int):Bq:=(if d≠0/\0<l.length then l++encodeRune d else l)++encodeRune r
def Nr(j:pr 261=none)(g:pr 180=none)(k:pr 346=none)(a:pr 275=none)(C:R9 o ty rL)(h:Fl s b o ty rL l d){r:Int}(Q:Good r)(W:l.length<=900000000):∃m v,Ef pr 180 #[aC b o,.int .i32 r] s v m/\Fl m b o ty rL (l++encodeRune r) d/\j1 b s m:=by
 obtain⟨u,p,q,f,w,L,y,M,A,N,B,V⟩:=h;obtain⟨c,rfl,O,P⟩:=sv Q;have n:=(oF.1 y).1;have Y:=(oF.1 A).1;obtain⟨m,v,S,G,H,I,J,U⟩:=YX (en:=encodeRune (c:Int)) j g f y A M (by rw[w]; exact C.1) C.2 B (λs Z D=>by
  rw[P];unfold AQ;split
  .next f=>exact tV f D oq a
  .next f=>exact wC (O.resolve_left f) D oq k a);have T:=mh (v:=aC b o) n;refine⟨m,v,G,⟨_,aC b o,S,H,?_,λi E F R=>?_,?_,   .inr rfl,?_,?_,I,λz=>absurd (congrArg List.length z)<|by have:=(encodeRuneZ_length (c:Int)).1; simp only[List.length_append,encodeRune,List.length_map,List.length_nil]; omega⟩,j1.of J λx X t=>?_⟩
 .unfold Jc;rw[mh oq,T,w]
 .unfold Jc;rw[ei oq,if_neg F,ei n,if_neg E];exact L i E F R
 .unfold Jc;rw[ei oq,if_neg oq,ei n,if_pos rfl]
 .unfold Jc;rw[ei oq,if_pos rfl]
 .unfold Jc;rw[ei oq,if_neg oq,ei n,if_neg oq];exact N
 .rcases t with e|t
  .exact .inl e
  .obtain⟨u,K,z⟩:=B.blk t;exact .inr ⟨u,K,z.2⟩
end
def DD:List FuncId:=[77,158,161,162,167,180,261,275,346]
section
variable {l:Bq}{d:Int}
def lX(r:Int):(encodeRune r).length<=4:=by unfold encodeRune;rw[List.length_map];exact(encodeRuneZ_length r).2
def OU(l:Bq)(d r:Int):(Rc l d r).length<=l.length+8:=by have a:=lX d;have b:=lX r;unfold Rc;split<;>simp<;>omega
def Mt(a:∀f,f∈DD->pr f=none)(C:R9 o ty rL)(h:Fl s b o ty rL l d)(R:d=0\/Good d){r:Int}(S:Good r)(hl:l.length<=800000000):∃G,Ef pr 162 #[aC b o,.int .i32 r] s (.tuple #[]) G/\Fl G b o ty rL (Rc l d r) 0/\j1 b s G:=by
 have⟨X,n,p,Y,_,_⟩:=h.due C.2 0;have i:Ef pr 158 #[aC b o] s (num l.length) s:=by
  have⟨i,p,q,e,j,k,n,r,f,t,g,u⟩:=h;obtain⟨c,m,rfl⟩:∃c m,q=.slice c l.length m:=by
   rcases g with ⟨rfl,rfl⟩|⟨d,fz,rfl,_⟩
   iterate 2
    .exact⟨_,_,O⟩
  exact aH (a 158 dq) func158 O<|zs<|zr<|zg 3 s<|zp (yl b _ _ e.2 (i:=f))<|zf yR
 have k:∀(g:AS) (m:Bq),m.length<=900000000->Fl g b o ty rL m d->j1 b s g->∃j,∃e,∃v c,g.get b=some (.cells c ty)/\o+2<c.size/\g.set b (some<|.cells (putAt c (o+2) [.int .i32 0]) ty)=j/\Ef pr 180 #[aC b o,.int .i32 r] j v e/\Fl e b o ty rL (m++encodeRune r) 0/\j1 b s e:=by intro g m F Q D;have⟨c,I,Z,J,K,L⟩:=Q.due C.2 0;have⟨e,v,M,N,O⟩:=Nr (a 261 dq) (a 180 dq) (a 346 dq) (a 275 dq) C K S F;exact⟨_,e,v,c,I,J,rfl,M,N,(D.trans L).trans O⟩
 by_cases q:d=0
 .subst q;have⟨j,e,v,c,u,w,x,y,A,B⟩:=k s l oq h<|j1.refl b s;exact⟨e,(aH (a 162 dq) func162 rfl<|aB<|zr<|zg 3 s<|zp (yl b (o+2) (.int .i32 0) n (i:=p))<|zf<|za s<|zF<|zr<|zg 3 s<|zp (ys b (o+2) (.int .i32 0) u w)<|am<|fe j x<|zx<|zc 4 y<|am ⟨.inl rfl,kq,rfl⟩),by unfold Rc;rw[iw iq];exact A,B⟩
 .have E:=R.resolve_left q;by_cases H:0<l.length
  .have T:=Nr (a 261 dq) (a 180 dq) (a 346 dq) (a 275 dq) C h E oq;have⟨g,v1,U,V,W⟩:=T;have hq:=lX d;have⟨j,e,v,c,u,w,x,y,A,B⟩:=k g (l++encodeRune d) (by simp;omega) V W;exact⟨e,(aH (a 162 dq) func162 rfl<|aB<|zr<|zg 3 s<|zp (yl b (o+2) (.int .i32 d) n (i:=p))<|zp (yb (.int .i32 d) (.int .i32 0)<|cM (b:=true)<|by simpa using q)<|zc 4 i<|zp (yb (num l.length) (num 0)<|fA (b:=true)<|tD oq)<|zf<|za s<|zH (aP kq kq kq<|zq<|zq<|zq<|zq<|zq<|zq (zt s<|zu (yl b (o+2) (.int .i32 d) n (i:=p))<|yt U<|bq ⟨kN<|JG (gW 21 n (off:=o+2) p),_,_,_,_,_,_,rfl,rfl,(za g<|zr<|zg 3 g<|zp (ys b (o+2) (.int .i32 0) u w)<|am<|fe j x<|zx<|zc 4 y<|am ⟨.inl rfl,kq,rfl⟩)⟩))),by unfold Rc;rw[ip ⟨q,H⟩];exact A,B⟩
  .have⟨j,e,v,c,u,w,x,y,A,B⟩:=k s l oq h<|j1.refl b s;exact⟨e,(aH (a 162 dq) func162 rfl<|aB<|zr<|zg 3 s<|zp (yl b (o+2) (.int .i32 d) n (i:=p))<|zp (yb (.int .i32 d) (.int .i32 0)<|cM (b:=true)<|by simpa using q)<|zc 4 i<|zp (yb (num l.length) (num 0)<|fA (b:=false)<|fD oq)<|zf<|za s<|zF<|zr<|zg 3 s<|zp (ys b (o+2) (.int .i32 0) u w)<|am<|fe j x<|zx<|zc 4 y<|am ⟨.inl rfl,kq,rfl⟩),by unfold Rc;rw[iw λz=>H z.2];exact A,B⟩
end
abbrev Ct:Bq:=[9,10,12,13,32]
abbrev fZ(t:Bq)(pos:Nat):Nat × Nat:=Utf8.decode ⟨t.toArray⟩ pos
def VF (x:Bq × Int)(r:Int):Bq × Int:=if gL r Ct then (x.1,if x.2=0 then 32 else x.2) else (Rc x.1 x.2 r,0)
def EQ (t:Bq):Nat->Nat->Bq × Int->Bq × Int
 | 0,_,x=>x
 | n+1,pos,x=>if pos<t.length then EQ t n (pos+(fZ t pos).2) (VF x (fZ t pos).1) else x
def vT (d:Int):Prop:=d=0\/Good d
def Fz{x:Bq × Int}(h:vT x.2)(r:Int):vT (VF x r).2/\(VF x r).1.length<=x.1.length+8:=by
 unfold VF;split
 .refine⟨?_,iq⟩;split
  .exact .inr<|.inl ⟨oq,oq⟩
  .exact h
 .exact⟨.inl O,OU _ _ _⟩
def U1 (b o:Nat)(t:Bq)(it:Nat)(x:Nq):TL:=[aC b o,str t,x 2,x 3,x 4,x 5,str t,aC it 0]++gG x 8 10
section
variable {l:Bq}{d:Int}
def IV(B:∀f,f∈DD->pr f=none)(I:∀(r:Int) (s:AS),0<=r/\r<=1114111->Ef pr 160 #[str Ct,.int .i32 r] s (.bool<|gL r Ct) s)(hT:R9 o ty rL){t:Bq}(hg:∀pos,pos<t.length->Good ((fZ t pos).1:Int)/\1<=(fZ t pos).2)(ht:kg (1000+t.length)=false)(h:Fl s b o ty rL l d)(hd:vT d)(hl:l.length+8*t.length<=800000000) :
  ∃a,Ef pr 77 #[aC b o,str t] s (.tuple #[]) a/\(Fl a b o ty rL (EQ t t.length 0 (l,d)).1 (EQ t t.length 0 (l,d)).2/\vT (EQ t t.length 0 (l,d)).2/\j1 b s a):=by
 refine aX (B 77 dq) func77 rfl<|zr<|zg 1 s<|zp (zW (l:=t) rfl underlying9 kq ht)<|am ?_;have hF0:Fl (s.add<|.stringIter ⟨t.toArray⟩ 0) b o ty rL l d:=by have⟨F,p,q,H,Y,Z,h4,J,h6,h7,h8,h9⟩:=h;exact⟨F,p,q,H.add _,Y,Z,h4,J,h6,h7,h8.add _,h9⟩
 have hI0:=aI s<|.stringIter ⟨t.toArray⟩ 0;have M:j1 b s (s.add<|.stringIter ⟨t.toArray⟩ 0):=j1.of ((aE (K:=λ_=>False) s).add _) λ_ _ z=>z.elim;have L:b≠s.nx:=by have⟨F,p,q,H,_⟩:=h;have:=H.1;omega
 generalize s.add _=S0 at *;generalize Mc:s.nx=g at *;refine za S0<|aV (U1 b o t g) kq ?_;intro x0;generalize hr:EQ t t.length 0 (l,d)=i at *;refine aF<|bn (bw (Q:=λe E a=>e=.exit 0/\Fl a b o ty rL i.1 i.2/\vT i.2/\j1 b s a/\∃x,E=U1 b o t g x) (λm E a=>∃pos x,Has a g (.stringIter ⟨t.toArray⟩ pos)/\Fl a b o ty rL x.1 x.2/\vT x.2/\j1 b s a/\t.length<=pos+m/\EQ t m pos x=i/\x.1.length+8*m<=800000000/\∃y,E=U1 b o t g y) ?_ t.length _ _ ⟨0,(l,d),hI0,hF0,hd,M,oq,hr,hl,x0,rfl⟩) ?_
 .rintro m E a ⟨pos,⟨D,w⟩,S,i2,T,i4,i5,u,i7,y,rfl⟩;simp only at i2 T i7;by_cases P:pos<t.length
  .obtain⟨m,rfl⟩:∃m',m=m'+1:=⟨m-1,oq⟩;unfold EQ at u;rw[ip P] at u;have⟨g1,g2⟩:=hg pos P;have j:=Fz (x:=(D,w)) T (fZ t pos).1;have hrr:(0:Int)<=(fZ t pos).1/\((fZ t pos).1:Int)<=1114111:=by unfold Good at g1;omega
   have U:=S.put<|.stringIter ⟨t.toArray⟩<|pos+(fZ t pos).2;have j2:Fl (a.set g<|some<|.stringIter ⟨t.toArray⟩<|pos+(fZ t pos).2) b o ty rL D w:=by
    have⟨F,p,q,H,Y,Z,h4,J,h6,h7,h8,h9⟩:=i2;refine⟨F,p,q,H.set L _,Y,Z,h4,J,h6,h7,?_,h9⟩;rcases h8 with z|⟨d2,fz,z1,z2⟩
    .exact .inl z
    .exact .inr ⟨d2,fz,z1,z2.set (λe=>by subst e;have:=z2.2;rw[S.2] at this;cases this) _⟩
   have j3:j1 b s (a.set g<|some<|.stringIter ⟨t.toArray⟩<|pos+(fZ t pos).2):=⟨i4.1,λk hk hb J=>by rw[AS.aN,iw oq];exact i4.2 k hk hb J⟩;generalize hR:a.set g _=O at *;refine zr<|zp (MV (b:=g) (pos:=pos) (l:=t) rfl kq S.2 P ht) ?_;rw[hR];have n:∀v,j1 b O v->Has v g _:=λv hf=>⟨by have:=hf.1;have:=U.1;omega,(hf.2 g U.1 (Ne.symm L)<|by rw[U.2];intro F fz e;cases e).trans U.2⟩;have A:=I (fZ t pos).1 O hrr;have XP:=IC (B 161 dq) hT j2;have Cn:=Mt B hT j2 T g1 oq;have c:∀C,gL ((fZ t pos).1:Int) Ct=C->VF (D,w) (fZ t pos).1=if C then (D,if w=0 then 32 else w) else (Rc D w (fZ t pos).1,0):=λC e=>by unfold VF;rw[e]
   generalize (fZ t pos).2=W at *;generalize (fZ t pos).1=R at *;generalize hbb:gL (R:Int) Ct=C at *;have c:=c C rfl;refine zf<|za O<|aB<|zT<|aF<|zs<|za O<|zr<|zc 1 A<|am ?_;cases C with
   | true =>rw[ip rfl] at c;have⟨v,V,X,G⟩:=XP;exact zH<|zx<|zc 1 V<|am ⟨m,oq,pos+W,_,n v G,by rw[c];exact X,j.1,j3.trans G,oq,u,by have:=j.2;simp only at this;omega,bu kq⟩
   | false =>rw[iw iq] at c;have⟨v,V,X,G⟩:=Cn;exact zG<|zx<|zc 2 V<|am ⟨m,oq,pos+W,_,n v G,by rw[c];exact X,j.1,j3.trans G,oq,u,by have:=j.2;simp only at this;omega,bu kq⟩
  .have N:i=(D,w):=by
    cases m with
    | zero=>exact u.symm
    | succ m=>unfold EQ at u;rw[iw P] at u;exact u.symm
   subst N;exact zr<|zp (ut (b:=g) (pos:=pos) (l:=t) rfl kq S.2 oq)<|zf<|za a<|aB<|zG<|aR ⟨rfl,i2,T,i4,bu kq⟩
 .rintro e E a ⟨rfl,q1,q2,q3,x,rfl⟩;exact⟨.inl rfl,kq,q1,q2,q3⟩
end
def OT(p q:ByteArray):iy prog (Op.equal 47 (.agg #[.string p,.string q])<|.agg #[.string p,.string q])=some true:=by
 have a:∀(d:Nat) x,iy prog (Op.equalIn (d+1) 9 (.string x)<|.string x)=some true:=by
  intro d x;rw[Op.equalIn];have b:(x==x)=true:=by have⟨x⟩:=x;exact beq_self_eq_true x
  simp[underlying9,b]
 have c:∀x y,iy prog (part 9 #[.string x,.string y] 0)=some (.string x):=λx y=>by kernel_rfl
 have e:∀x y,iy prog (part 9 #[.string x,.string y] 1)=some (.string y):=λx y=>by kernel_rfl
 show iy prog (Op.equalIn (9999+1) 47 _ _)=_;rw[Op.equalIn];simp only[dD,dW,underlying47,yY];rw[show iy prog program=some prog from O];simp only[yY];rw[iw (by rw[show prog.stoodInHeld 47=false by kernel_rfl];decide)];rw[<-Array.forIn_toList];simp only[List.forIn_cons,List.forIn_nil,dD,c,e,a 9998,yY,ne_eq,String.reduceEq,not_false_eq_true,if_true,Bool.not_true,lI,if_false,jL]
def PQ{kt:TypeId->Bool}{c:gX}{a:TL}{o:Oper}{x y:Operand}{t:TypeId}{p q:Bq}(b:o.op=.binOp .neq 47 x y t)(e:a.at x=.agg #[str p,str q])(f:a.at y=.agg #[str p,str q]):cf prog kt c a o s=some (.bool false,s):=by
 refine eG (by rw[b];rfl) (by rw[b];trivial) ?_;have g:dV .neq (.agg #[str p,str q]) (.agg #[str p,str q])=none:=O;have j:pe prog .neq 47 (.agg #[str p,str q]) (.agg #[str p,str q])=none:=O;unfold cI;rw[b];simp only;rw[e,f,g];simp only;rw[j];simp only;unfold vA;have d:o.op.operands.toList=[x,y]:=by rw[b];rfl
 rw[d];have h:([x,y].all λz=>q9<|a.at z)=true:=by simp only[List.all_cons,List.all_nil,e,f];rfl
 rw[ip h];have k:iy prog (execOp a.at o)=some (.value<|.bool false):=by
  unfold execOp;rw[b];simp only[e,f,dD];have i:iy prog (eqGuard .neq 47 x y (.agg #[str p,str q])<|.agg #[str p,str q])=some ():=kq
  rw[i];simp only[yY,binOp,dD,OT,jL,Bool.not_true]
 rw[k];rfl
def zM(l:Bq):dV .neq (str l) (str l)=some (.bool false):=by unfold dV;simp only;rw[(dP l l).2 O];rfl
def UU (va vb:Value)(i:Nat)(x:Nq):TL:=[va,vb,x 2,x 3,.bool false,num i]++gG x 6 104
def Nz(va vb:Value)(i j:Nat)(x:Nq):TL:=[va,vb,x 2,x 3,.bool false,num i,num j]++gG x 7 103
section
variable {va vb:Value}{ys:List bH}{us:List Nd}
def UO(h22:pr 22=none)(hA:nR s va xs)(hB:nR s vb ys)(V:fK s xs us)(W:fK s ys us)(hu:∀u∈us,u.bC.length<=400000000)(hn:us.length<=400000000):Ef pr 22 #[va,vb] s (.bool true) s:=by
 obtain⟨a,k,f1,rfl,A⟩:=hA.old;obtain⟨d,B,f2,rfl,F⟩:=hB.old;rw[V.1,W.1];generalize hN:us.length=N at *;refine aH h22 func22 rfl<|zs<|aB<|zr<|zk 4<|zp (yb (num N) (num N)<|cM (b:=false)<|bne_self_eq_false _)<|am<|za s<|zF<|aB<|zs<|aV (UU (.slice (sq a) N k) (.slice (sq d) N B) 0) kq ?_;intro x0;refine za s<|aF<|bn (bw (Q:=λe C L=>e=.exit 0/\L=s/\∃x,C=UU (.slice (sq a) N k) (.slice (sq d) N B) N x) (λm C L=>L=s/\∃i,i+m=N/\∃x,C=UU (.slice (sq a) N k) (.slice (sq d) N B) i x) ?_ N _ _ ⟨rfl,0,oq,x0,rfl⟩) ?_
 .rintro m C S ⟨rfl,i,ZJ,x,rfl⟩;by_cases hi:i<N
  .have hU:us[i]?=some us[i]:=gE oq;have hul:=hu us[i] (zB _);generalize us[i]=u at hU hul;have J:xs[i]?=some (xs[i]'(by rw[V.1];omega)):=gE _;generalize (xs[i]'(by rw[V.1];omega))=X at J;have K:ys[i]?=some (ys[i]'(by rw[W.1];omega)):=gE _;generalize (ys[i]'(by rw[W.1];omega))=Y at K;have O:=V.2 i X u J hU;have R:=W.2 i Y u K hU;have tX:=O.2.2.2.2;have tY:=R.2.2.2.2;have⟨o,g,T⟩:=tX.len;have⟨E,w,U⟩:=tY.len;rw[T] at tX;rw[U] at tY;generalize H:u.bC.length=f at *;have T:=T.symm;have U:=U.symm;have a0:(bN xs)[i*5+0]?=some (num u.kind):=by rw[eu J 0 dq,<-O.1];rfl
   have b0:(bN ys)[i*5+0]?=some (num u.kind):=by rw[eu K 0 dq,<-R.1];rfl
   have a1:(bN xs)[i*5+1]?=some (num u.parent):=by rw[eu J 1 dq,<-O.2.1];rfl
   have b1:(bN ys)[i*5+1]?=some (num u.parent):=by rw[eu K 1 dq,<-R.2.1];rfl
   have a2:(bN xs)[i*5+2]?=some (str u.name):=by rw[eu J 2 dq,<-O.2.2.1];rfl
   have b2:(bN ys)[i*5+2]?=some (str u.name):=by rw[eu K 2 dq,<-R.2.2.1];rfl
   have a3:(bN xs)[i*5+3]?=some (str u.text):=by rw[eu J 3 dq,<-O.2.2.2.1];rfl
   have b3:(bN ys)[i*5+3]?=some (str u.text):=by rw[eu K 3 dq,<-R.2.2.2.1];rfl
   have M:(bN xs)[i*5+4]?=some (.slice o f g):=by rw[eu J 4 dq,T];rfl
   have b4:(bN ys)[i*5+4]?=some (.slice E f w):=by rw[eu K 4 dq,U];rfl
   have m0:=gW 3 A.2 a0;have n0:=gW 3 F.2 b0;have m1:=gW 3 A.2 a1;have n1:=gW 3 F.2 b1;have m2:=gW 9 A.2 a2;have n2:=gW 9 F.2 b2;have m3:=gW 9 A.2 a3;have n3:=gW 9 F.2 b3;have m4:=gW 42 A.2 M;have n4:=gW 42 F.2 b4;refine aB<|zr<|zk 3<|zp (yb (num i) (num N)<|bE (b:=true)<|tD oq)<|am<|za S<|zT<|aB<|aF ?_
   .refine aB<|aB<|aP kq kq kq<|zq<|zq<|zu (yi a 0 N k (i*5) none .i64 (i:Nat) 5 oq oq oq)<|zq<|zt S<|zu (yl a (i*5+0) (num u.kind) A.2 (i:=a0))<|zq<|zq<|zu (yi d 0 N B (i*5) none .i64 (i:Nat) 5 oq oq oq)<|zq<|zt S<|zu (yl d (i*5+0) (num u.kind) F.2 (i:=b0))<|zu (yb (num u.kind) (num u.kind)<|cM (b:=false)<|bne_self_eq_false _)<|zq<|zq<|zq<|zu (yi a 0 N k (i*5) none .i64 (i:Nat) 5 oq oq oq)<|zq<|zt S<|zu (yl a (i*5+1) (num u.parent) A.2 (i:=a1))<|zq<|zq<|zu (yi d 0 N B (i*5) none .i64 (i:Nat) 5 oq oq oq)<|zq<|zt S<|zu (yl d (i*5+1) (num u.parent) F.2 (i:=b1))<|zu (yb (num u.parent) (num u.parent)<|cM (b:=false)<|bne_self_eq_false _) ?_;iterate 2 refine zq ?_
    refine zq<|zq<|zu (yi a 0 N k (i*5) none .i64 (i:Nat) 5 oq oq oq)<|zq<|zt S<|zu (yl a (i*5+2) (str u.name) A.2 (i:=a2))<|zq<|zq<|zu (yi d 0 N B (i*5) none .i64 (i:Nat) 5 oq oq oq)<|zq<|zt S<|zu (yl d (i*5+2) (str u.name) F.2 (i:=b2))<|zu (yb (str u.name) (str u.name)<|zM u.name) ?_;iterate 2 refine zq ?_
    refine zq<|zq<|zu (yi a 0 N k (i*5) none .i64 (i:Nat) 5 oq oq oq)<|zq<|zt S<|zu (yl a (i*5+3) (str u.text) A.2 (i:=a3))<|zq<|zq<|zu (yi d 0 N B (i*5) none .i64 (i:Nat) 5 oq oq oq)<|zq<|zt S<|zu (yl d (i*5+3) (str u.text) F.2 (i:=b3))<|zu (yb (str u.text) (str u.text)<|zM u.text) ?_;iterate 2 refine zq ?_
    refine zq<|zq<|zu (yi a 0 N k (i*5) none .i64 (i:Nat) 5 oq oq oq)<|zq<|zt S<|zu (yl a (i*5+4) (.slice o f g) A.2 (i:=M))<|zq<|zq<|zq<|zu (yi d 0 N B (i*5) none .i64 (i:Nat) 5 oq oq oq) (zq (zt S (zu (yl d (i*5+4) (.slice E f w) F.2 (i:=b4)) (zq (zu (yb (num f) (num f)<|cM (b:=false)<|bne_self_eq_false _) (zq (bq ⟨kN<|HY m0<|HY n0<|HY m1<|HY n1<|HY m2<|HY n2<|HY m3<|HY n3<|HY m4 (HY n4 ldz<|by cases E<;>rfl)<|by cases o<;>rfl,_,_,_,_,_,_,rfl,rfl,(za S<|zF<|zs (aV (Nz (.slice (sq a) N k) (.slice (sq d) N B) i 0) kq ?_))⟩)))))));intro x1;refine za S<|aF<|bn (bw (Q:=λe C L=>e=.exit 2/\L=S/\∃x,C=Nz (.slice (sq a) N k) (.slice (sq d) N B) i f x) (λm C L=>L=S/\∃j,j+m=f/\∃x,C=Nz (.slice (sq a) N k) (.slice (sq d) N B) i j x) ?_ f _ _ ⟨rfl,0,oq,x1,rfl⟩) ?_
    .rintro m' C h ⟨rfl,j,hjm,x2,rfl⟩;by_cases hj:j<f
     .have hP:u.bC[j]?=some (u.bC[j]'oq):=gE _;generalize (u.bC[j]'oq)=p at hP;have⟨Z,z2⟩:=vP hP;obtain⟨l,fa1,rfl,y1⟩:∃G I,o=some ⟨G,0,none⟩/\h.get G=some (.cells (iW u.bC) 47 I):=by
       rcases tX with ⟨_,z⟩|⟨G,c,I,z,_,y⟩
       .rw[z] at H;simp at H;omega
       .cases z;exact⟨G,I,rfl,y⟩
      obtain⟨D,fa2,rfl,y2⟩:∃G I,E=some ⟨G,0,none⟩/\h.get G=some (.cells (iW u.bC) 47 I):=by
       rcases tY with ⟨_,z⟩|⟨G,c,I,z,_,y⟩
       .rw[z] at H;simp at H;omega
       .cases z;exact⟨G,I,rfl,y⟩
      have v1:=fX (P:=prog) (t:=47) (n:=2) underlying47 rfl kq y1 (off:=j*2) Z;have v2:=fX (P:=prog) (t:=47) (n:=2) underlying47 rfl kq y2 (off:=j*2) Z;rw[z2] at v1 v2;exact aB<|zr<|zk 3<|zp (yi a 0 N k (i*5) none .i64 (i:Nat) 5 oq oq oq)<|zg 1 h<|zp (yl a (i*5+4) (.slice (sq l) f g) A.2 (i:=M))<|zk 1<|zp (yb (num j) (num f)<|bE (b:=true)<|tD oq)<|am<|za h<|zT<|aB<|aF<|aB<|aP kq kq kq<|zq<|zq<|zu (yi a 0 N k (i*5) none .i64 (i:Nat) 5 oq oq oq)<|zq<|zt h<|zu (yl a (i*5+4) (.slice (sq l) f g) A.2 (i:=M))<|zq<|zu (yi l 0 f g (j*2) none .i64 (j:Nat) 2 oq oq oq)<|zt h<|zu (jq (b:=l) (off:=j*2) (n:=2) (r:=#[str p.1,str p.2]) rfl underlying47 rfl kq kq y1 Z z2)<|zq<|zq<|zu (yi d 0 N B (i*5) none .i64 (i:Nat) 5 oq oq oq)<|zq<|zt h<|zu (yl d (i*5+4) (.slice (sq D) f w) F.2 (i:=b4))<|zq<|zu (yi D 0 f w (j*2) none .i64 (j:Nat) 2 oq oq oq)<|zt h<|zu (jq (b:=D) (off:=j*2) (n:=2) (r:=#[str p.1,str p.2]) rfl underlying47 rfl kq kq y2 Z z2)<|zu (PQ (p:=p.1) (q:=p.2) rfl kq kq)<|bq ⟨kN<|HY m4<|HY v1<|HY n4<|HY v2 ldz,_,_,_,_,_,_,rfl,rfl,(za h<|zF<|zx<|zk 1<|zp (yp j 1 ((j+1:Nat):Int) oq oq)<|zf (⟨m'-1,oq,rfl,j+1,oq,bu kq⟩))⟩
     .obtain rfl:j=f:=oq
      exact aB<|zr<|zk 3<|zp (yi a 0 N k (i*5) none .i64 (i:Nat) 5 oq oq oq)<|zg 1 h<|zp (yl a (i*5+4) (.slice o j g) A.2 (i:=M))<|zk 1<|zp (yb (num j) (num j)<|bE (b:=false)<|fD oq)<|am<|za h<|zG<|aR ⟨rfl,rfl,bu kq⟩
    .rintro e C h ⟨rfl,rfl,x2,rfl⟩;exact zx<|zk 1<|zp (yp i 1 ((i+1:Nat):Int) oq oq)<|zf ⟨m-1,oq,rfl,i+1,oq,bu kq⟩
  .obtain rfl:i=N:=oq
   exact aB<|zr<|zk 3<|zp (yb (num i) (num i)<|bE (b:=false)<|fD oq)<|am<|za S<|zG<|aR ⟨rfl,rfl,bu kq⟩
 .rintro e C S ⟨rfl,rfl,x,rfl⟩;exact zs yR
end
section
variable {l:Bq}{d:Int}
def acL{e:Nat}{fz:Nat × Nat}(f:pr 84=none)(g:s.get b=some (.cells cs ty))(c:cs[o+1]?=some (.slice (sq e) l.length l.length))(i:s.get e=some (.cells (qY l) 5 fz))(h:l≠[])(k:l.length<=1000000000):Ef pr 84 #[aC b o] s (str l) (s.set e none):=by
 obtain⟨y,l,rfl⟩:∃y j,l=y::j:=by
  cases l with
  | nil=>exact absurd O h
  | cons y l=>exact⟨y,l,O⟩
 have a:=gW 55 g (off:=o+1) c;exact aH f func84 O<|zs<|aB<|aP kq kq kq<|zq<|zq<|zq<|zt s<|zu (yl b (o+1) _ g (i:=c))<|zq<|zq<|zq<|zq<|zt s<|zu (yl b (o+1) _ g (i:=c))<|zq<|zt s<|zu (Bz (d:=e) (l:=y::l) (e:=5) (fz:=fz) O kq kq kq i kq iq oq)<|zq<|bq ⟨kN<|jT a a O O,_,_,_,_,_,_,O,O,yR⟩
def Er(f:pr 78=none)(c:pr 84=none)(h:Fl s b o ty rL l d)(u:l.length<=1000000000):∃a,Ef pr 78 #[aC b o] s (str l) a/\j1 b s a:=by
 have⟨v,p,q,i,w,y,A,B,j,C,m,n⟩:=h;obtain⟨a,r,t⟩:∃a,Ef pr 84 #[aC b o] s (str l) a/\j1 b s a:=by
  rcases m with ⟨rfl,rfl⟩|⟨e,fz,rfl,z⟩
  .exact⟨s,(by
          have a:=gW 55 i.2 j;exact aH c func84 O<|zs<|aB<|aP kq kq kq<|zq<|zq<|zq<|zt s<|zu (yl b _ aO i.2 (i:=j))<|zq<|zq<|zq<|zq<|zt s<|zu (yl b _ aO i.2 (i:=j))<|zq<|zq<|zq<|bq ⟨kN<|jT a a O O,_,_,_,_,_,_,O,O,yR⟩),j1.refl b s⟩
  .by_cases g:l=[]
   .have:=n g;cases this
   .exact⟨_,acL c i.2 j z.2 g u,j1.of (aL (aE s) (λ_=>O) _) λx _ k=>.inr ⟨_,_,k▸z.2⟩⟩
 exact⟨a,(aH f func78 O<|zs<|zr<|zc 3 r<|zf yR),t⟩
end
abbrev KN(x:bH):Value:=.agg #[num x.kind,num x.parent,str x.name,str x.text,x.bC]
abbrev u6(x:bH):Obj:=.cells #[num x.kind,num x.parent,str x.name,str x.text,x.bC] 44
def mV (x:bH)(l:List (Bq)):Bool:=x.kind==1&&aW x.name l
section
variable {v:Value}{l:List (Bq)}
def xd(c:pr 76=none)(a:pr 127=bP 127)(f:gx s v l):Ef pr 76 #[KN x,v] s (.bool<|mV x l) (s.add<|u6 x):=by
 have e:=aI s<|u6 x;have d:gx (s.add<|u6 x) v l:=f.fk ((aE s).add _) λ_ _ _ _ z=>z;have g:=d.is a x.name;unfold mV;refine aH c func76 O<|zs<|za (s.add<|u6 x) ?_;generalize i:s.add (u6 x)=S at *;refine zr<|zg 1 S<|zp (yl s.nx 0 (num x.kind) e.2) ?_;cases hk:(x.kind==1) with
 | true =>exact zp (yb (num x.kind) (num 1)<|cW (b:=true) hk)<|zg 2 S<|zp (yl s.nx 2 (str x.name) e.2)<|zc 1 g<|zf yR
 | false =>exact zp (yb (num x.kind) (num 1)<|cW (b:=false) hk)<|zf yR
abbrev u7:List (Bq):=[[104,101,97,100],[115,99,114,105,112,116],[115,116,121,108,101],[116,101,120,116,97,114,101,97]]
abbrev qk:List (Bq):=[[116,105,116,108,101]]
def Rk(b:pr 165=none)(c:pr 76=none)(a:pr 127=bP 127):∃d,Ef pr 165 #[KN x] s (.bool<|mV x u7) d/\cL (λ_=>False) s d:=by have e:=bR (s.add<|u6 x) u7 4 O dq;have h:=xd (x:=x) c a e;have f:=aI s<|u6 x;refine⟨((s.add<|u6 x).add<|.cells (u7.map str).toArray 9).add<|u6 x,?_,(((aE s).add _).add _).add _⟩;refine aH b func165 O<|zs<|za (s.add<|u6 x) ?_;generalize s.add _=S at *;exact zr<|zp (yA s.nx 0 5 #[num x.kind,num x.parent,str x.name,str x.text,x.bC] f.2<|iz 5)<|zg 1 (S.add<|.cells (u7.map str).toArray 9)<|zc 0 h<|zf yR
def Qv(b:pr 75=none)(c:pr 76=none)(a:pr 127=bP 127):∃d,Ef pr 75 #[KN x] s (.bool<|mV x qk) d/\cL (λ_=>False) s d:=by have e:=bR (s.add<|u6 x) qk 1 O dq;have h:=xd (x:=x) c a e;have f:=aI s<|u6 x;refine⟨((s.add<|u6 x).add<|.cells (qk.map str).toArray 9).add<|u6 x,?_,(((aE s).add _).add _).add _⟩;refine aH b func75 O<|zs<|za (s.add<|u6 x) ?_;generalize s.add _=S at *;exact zr<|zp (yA s.nx 0 5 #[num x.kind,num x.parent,str x.name,str x.text,x.bC] f.2<|iz 5)<|zg 1 (S.add<|.cells (qk.map str).toArray 9)<|zc 0 h<|zf yR
end
abbrev PC:List (Bq):=[[108,105],[100,100],[100,116],[116,114]]
def un:List (Bq):=jV++PC
section
variable {v:Value}{l:List (Bq)}
def Mw(c:pr 166=none)(b:pr 133=none)(i:pr 76=none)(a:pr 127=bP 127)(q:bQ 20 (KN x)=true):∃t,Ef pr 166 #[KN x] s (.bool<|mV x un) t/\cL (λ_=>False) s t:=by have h:=aI s<|u6 x;have⟨T,u,v,r,w,y⟩:=La (s.add<|u6 x) jV PC 33 4 O O dq;have o:=xo (pr:=pr) (s:=s.add<|u6 x) b;have B:=xd (x:=x) i a v;have j:=h.fr r id;have e:=fX (off:=0) (n:=5) underlying44 O kq h.2 iq;have f:=fX (off:=0) (n:=5) underlying44 O kq j.2 iq;have l:=h.add<|.cells (jV.map str).toArray 9;have g:=fX (off:=0) (n:=5) underlying44 O kq l.2 iq;refine⟨T.add<|u6 x,?_,(((aE (K:=λ_=>False) s).add<|u6 x).trans r λ_ _ z=>z).add _⟩;have p:mV x un=mV x (jV++PC):=O;rw[p];refine aH c func166 O<|zs<|za (s.add<|u6 x) ?_;generalize s.add (u6 x)=S at *;exact aB<|aP kq kq kq<|zu (yA s.nx 0 5 #[num x.kind,num x.parent,str x.name,str x.text,x.bC] h.2<|iz 5)<|yt o<|zq<|zt _<|zu (iG (news:=PC.map str) (m:=4) (k:=4) (sz:=1) (z:=str []) (bytes:=16) O kq kq underlying62 kq O dq dq kq w.2 y dq dq O dq u)<|yt B<|zq<|bq ⟨kN<|vD e g f q q q,_,_,_,_,_,_,O,O,yR⟩
end
abbrev WQ:Value:=.func (.func 75) #[] #[]
def IJ:List bH->Nat->Int
 | [],_ => -1
 | y::ys,k=>if mV y qk=true then k else IJ ys (k+1)
def U0 (v:Value)(n i:Nat)(x:Nq):TL:=[v,WQ,x 2,x 3,num 0,x 5,v,num n,num i]++gG x 9 10
section
variable {v:Value}
def MH{i:Nat}{y:bH}(h:xs[i]?=some y):i*5+5<=(bN xs).size/\((bN xs).toList.drop (i*5) |>.take 5).toArray=#[num y.kind,num y.parent,str y.name,str y.text,y.bC]:=by
 have b:=λj a=>eu h j a;have c:=b 4 oq;have d:=(oF.1<|c.trans O).1;refine⟨oq,?_⟩;apply wu.1;apply List.ext_getElem?;intro j;simp only[HA,LA];by_cases a:j<5
 .rw[ip a]
  have:=b j a;rw[Array.getElem?_toList,this];rfl
 .rw[iw a];exact(List.getElem?_eq_none<|by simp;omega).symm
end
def AO(n a b c d:Nat):Good ((decodeN n a b c d).1:Int)/\1<=(decodeN n a b c d).2:=by
 unfold decodeN Good;repeat' split
 all_goals
  simp only
  omega
def vh(t:Bq){pos:Nat}(h:pos<t.length):Good ((fZ t pos).1:Int)/\1<=(fZ t pos).2:=by unfold fZ;rw[<-decodeL_drop,decodeL_N];exact AO _ _ _ _ _
end
section
variable {X:Type}{pr:Prim}{gB b nb:Nat}{tb:TypeId}{ns:List bH}{fB fE:X->Nat->X}{s s':AS}
abbrev SU(g b:Nat):Value:=.func (.func g) #[aC b 0] #[]
abbrev uF(nd v:Value)(g b:Nat):Obj:=.cells #[nd,v,SU g b] 209
structure EM{X:Type}(pr:Prim)(gB gE b:Nat)(tb:TypeId)(ns:List bH)(nb:Nat)(St:AS->X->Prop)(I:Nat->X->Prop)(fB fE:X->Nat->X):Prop where
 tt:tb≠5/\tb≠3/\tb≠209/\tb≠44
 ty:∀{s x},St s x->∃cs fz,Has s b (.cells cs tb fz)
 keep:∀{s s':AS} {x},St s x->s.nx<=s'.nx->s'.get b=s.get b->(∀k cs fz,k<s.nx->s.get k=some (.cells cs 5 fz)->s'.get k=s.get k)->St s' x
 beg:∀{s i x fz},i<ns.length->St s x->I i x->s.get nb=some (.cells (bN ns) 44 fz)->∃s',EF prog kg pr gB #[aC b 0,num i] s (.tuple #[]) s'/\St s' (fB x i)/\j1 b s s'
 en:∀{s i k x fz},k<ns.length->St s x->I i x->s.get nb=some (.cells (bN ns) 44 fz)->∃s',EF prog kg pr gE #[aC b 0,num k] s (.tuple #[]) s'/\St s' (fE x k)/\j1 b s s'
 iB:∀{i x},I i x->I (i+1) (fB x i)
 iE:∀{i x k},I i x->I i (fE x k)
section
variable {gE:Nat}{St:AS->X->Prop}{I:Nat->X->Prop}{x:X}
def EM.add(V:EM pr gB gE b tb ns nb St I fB fE)(h:St s x)(o:Obj):St (s.add o) x:=by have⟨a,c,d⟩:=V.ty h;exact V.keep h iq (by rw[AS.aZ,iw<|by have:=d.1;omega]) λk a c e _=>by rw[AS.aZ,iw oq]
def EM.set(V:EM pr gB gE b tb ns nb St I fB fE)(h:St s x){k:Nat}(d:k≠b)(c:Ry (s.get k))(o:Option Obj):St (s.set k o) x:=V.keep h iq (by rw[AS.aN,iw<|Ne.symm d]) λj f g _ a=>by rw[AS.aN,iw λe=>by rw[e] at a;exact c _ _ a]
def EM.fr3(V:EM pr gB gE b tb ns nb St I fB fE)(h:St s x)(i:s.nx<=s'.nx)(c:∀k,k<s.nx->Rx (s.get k)->s'.get k=s.get k):St s' x:=by have⟨d,e,a⟩:=V.ty h;exact V.keep h i (c b a.1<|rk a.2 V.tt.2.1) λk d e g f=>c k g<|rk f dq
def lm(fE:X->Nat->X)(x:X)(l:List Nat):X:=l.foldr (λk y=>fE y k) x
def EM.ends(V:EM pr gB gE b tb ns nb St I fB fE){i:Nat}(h:I i x):∀l,I i<|lm fE x l
 | []=>h
 | k::l=>V.iE<|V.ends h l
def zi(V:EM pr gB gE b tb ns nb St I fB fE)(Z:pr 163=none){c wk i0:Nat}{fz:Nat × Nat}{v:Value}{p:Int}{base iN:List Nat}(h:St s x)(hI:I i0 x)(hn:s.get nb=some (.cells (bN ns) 44 fz))(Tv:nb<s.nx)(Y:s.get wk=some (uF (m8 nb ns.length c) v gE b))(Rr:wk<s.nx)(hv:dB s v (base++iN))
 (abt:∀k∈iN,((k:Nat):Int)≠p/\k<ns.length)(R:base=[]\/∃D L,base=D++[L]/\((L:Nat):Int)=p)(XR:base.length+iN.length<=400000000) :
  ∃l,Ef pr 163 #[aC wk 0,num p] s (.tuple #[]) l/\St l (lm fE x iN)/\Ax b wk s l/\∃C,l.get wk=some (uF (m8 nb ns.length c) C gE b)/\dB l C base:=by
 have U:∃a0 cp,v=.slice a0 (base.length+iN.length) cp:=by
  rcases hv with ⟨e1,e2⟩|⟨d,cp,z,o,e1,_⟩
  .have hz:base.length+iN.length=0:=by have:=congrArg List.length e2; simpa using this
   exact⟨none,0,by rw[e1,hz]⟩
  .exact⟨_,cp,by rw[e1,List.length_append]⟩
 obtain⟨a0,cp0,hv0⟩:=U;refine aX Z func163 rfl<|zr<|zg 3 s<|zp (yl wk 1 v Y) ?_;rw[hv0];refine zk 1<|zp (gO (i:=((base.length+iN.length:Nat):Int)) (j:=1) (r:=((base.length+iN.length:Nat):Int)-1) rfl kq kq rfl oq)<|zf<|za s<|aV (RN wk p<|((base.length+iN.length:Nat):Int)-1) kq ?_;intro x0;clear hv0;refine aF<|bn (bw (Q:=λe a' l=>e=.exit 0/\St l (lm fE x iN)/\Ax b wk s l/\∃C,l.get wk=some (uF (m8 nb ns.length c) C gE b)/\dB l C base) (λm a' l=>m<=iN.length/\St l (lm fE x<|iN.drop m)/\Ax b wk s l/\(∃C,l.get wk=some (uF (m8 nb ns.length c) C gE b)/\dB l C (base++iN.take m))/\∃y,a'=RN wk p (((base.length+m:Nat):Int)-1) y) ?_ iN.length _ _ ⟨iz _,by simpa[lm] using h,Ax.refl b wk s,⟨v,Y,by simpa using hv⟩,x0,rfl⟩) ?_
 .rintro m a' l ⟨hml,O,S,⟨C,a,B⟩,y,rfl⟩;by_cases hm:0<m
  .obtain⟨m,rfl⟩:∃m',m=m'+1:=⟨m-1,by omega⟩;have W:m<iN.length:=oq
   have Rp:iN[m]?=some iN[m]:=List.getElem?_eq_getElem W;obtain⟨ZL,VP⟩:=abt _<|zB W;have Xl:iN.drop m=iN[m]::iN.drop (m+1):=List.drop_eq_getElem_cons W;have X:iN.take (m+1)=iN.take m++[iN[m]]:=by rw[List.take_add_one,Rp]; rfl
   generalize iN[m]=k at Rp ZL VP Xl X;have H:lm fE x (iN.drop m)=fE (lm fE x<|iN.drop<|m+1) k:=by rw[Xl]; rfl
   obtain⟨csb,fzb,hbs',E⟩:=V.ty O;obtain⟨csb0,fzb0,uV,ZQ⟩:=V.ty h;have hn':=(S.2 nb Tv (pV hn ZQ<|Ne.symm V.tt.2.2.2) (pV hn Y dq)<|jW hn dq).trans hn;have abK:wk<l.nx:=by have:=S.1; omega
   obtain⟨d,cp,z,o,rfl,hcp,hob,q,J⟩:∃d cp z o,C=.slice (sq d) (base.length+(m+1)) cp/\base.length+(m+1)<=cp/\d<l.nx/\l.get d=some (.cells z 3 o)/\∀i k:Nat,(base++iN.take (m+1))[i]?=some k->z[i]?=some (num (k:Nat)):=by
    have A:(base++iN.take (m+1)).length=base.length+(m+1):=by rw[List.length_append,List.length_take]; omega
    rcases B with ⟨_,e2⟩|⟨d,cp,z,o,e1,e2,e3,e4,e5⟩
    .rw[e2] at A; simp at A
    .exact⟨d,cp,z,o,by rw[e1,A],by omega,e3,e4,e5⟩
   have w:z[base.length+m]?=some (num (k:Nat)):=J _ _ (by rw[X,<-vt,EN (by rw[List.length_append,List.length_take]; omega),List.length_append,List.length_take,show base.length+m-(base.length+min m iN.length)=0 by omega];rfl);obtain⟨G,w5,Cm,K⟩:=V.en VP O (V.ends hI _) hn';rw[<-H] at Cm;have F:=(K.2 wk abK (pV a E<|Ne.symm V.tt.2.2.1)<|jW a dq).trans a;have N:=(K.2 d hob (pV q E<|Ne.symm V.tt.2.1)<|jW q dq).trans q;have hl0:=gW 133 a (off:=2) rfl;have hl1:=gW 25 a (off:=1) rfl;have Tp:=gW 3 q w;rw[show((base.length+(m+1):Nat):Int)-1=((base.length+m:Nat):Int) by omega];generalize hT:base.length+m=T at *;rw[show base.length+(m+1)=T+1 by omega] at *;generalize hNd:m8 nb ns.length c=M at *;refine aB<|zr<|zk 1<|zp (yb (num (T:Nat)) (num 0)<|fQ (b:=true)<|decide_eq_true oq)<|zg 4 l<|zp (yl wk 1 (.slice (sq d) (T+1) cp) a)<|zk 1<|zp (yi d 0 (T+1) cp T none .i64 (T:Nat) 1 oq oq oq)<|zo l<|zp (yl d T (num (k:Nat)) q (i:=w))<|zk 1<|zp (yb (num (k:Nat)) (num p)<|cM (b:=true)<|bne_iff_ne.2 ZL)<|zf<|za l<|zT<|aB<|aF<|aB<|aP kq kq kq<|zq<|zq<|zq<|zt l<|zu (yl wk 2 (SU gE b) a)<|zq<|zq<|zq<|zt l<|zu (yl wk 1 (.slice (sq d) (T+1) cp) a)<|zq<|zu (yi d 0 (T+1) cp T none .i64 (T:Nat) 1 oq oq oq)<|zt l<|zu (yl d T (num (k:Nat)) q (i:=w))<|zt l<|ET.call (f:=.tmp 29) (g:=gE) (first:=#[aC b 0]) (cap:=#[]) (args:=#[aC b 0,num (k:Nat)]) kq rfl rfl kq kq kq w5<|bq ⟨kN<|vD hl0 hl1 Tp,_,_,_,_,_,_,rfl,rfl,(za G<|zx<|zg 4 G<|zp (yl wk 1 (.slice (sq d) (T+1) cp) F)<|zg 1 G<|zp (me (b:=d) (off:=0) (n:=T+1) (cp:=cp) (i:=0) (j:=T) (sz:=1) rfl underlying25 kq N kq ((show _=bS (T+1) cp none (some<|num (T:Nat)) by kernel_rfl).trans<|(nV oq oq).trans<|by rw[yE]) oq)<|zg 2 G<|zp (ys wk 1 (.slice (sq d) T cp) F iq)<|am<|za (G.set wk<|some<|uF M (.slice (sq d) T cp) gE b) ?_)⟩;have VK:St (G.set wk<|some<|uF M (.slice (sq d) T cp) gE b) (lm fE x<|iN.drop m):=V.set Cm (pV a E<|Ne.symm V.tt.2.2.1) (jW F dq) _;have Mb:Ax b wk s (G.set wk<|some<|uF M (.slice (sq d) T cp) gE b):=(S.trans K.u).trans Ax.Nv;have JB:(G.set wk<|some<|uF M (.slice (sq d) T cp) gE b).get wk=some (uF M (.slice (sq d) T cp) gE b):=by rw[AS.aN,if_pos rfl]
   have abp:(G.set wk<|some<|uF M (.slice (sq d) T cp) gE b).get d=some (.cells z 3 o):=by rw[AS.aN,if_neg (pV q a dq)]; exact N
   have abq:d<(G.set wk<|some<|uF M (.slice (sq d) T cp) gE b).nx:=by have:=K.1; simp; omega
   generalize G.set wk (some<|uF M (.slice (sq d) T cp) gE b)=s3 at *;refine zx<|zk 1<|zp (gO (i:=(T:Nat)) (j:=1) (r:=((T:Nat):Int)-1) rfl kq kq rfl oq)<|zf ⟨m,Nat.lt_succ_self m,by omega,VK,Mb,⟨_,JB,.inr ⟨d,cp,z,o,by rw[List.length_append,List.length_take,show base.length+min m iN.length=T by omega],by rw[List.length_append,List.length_take]; omega,abq,abp,λi k' Oj=>J i k' ?_⟩⟩,bu kq⟩;rw[X,<-vt];have Rm:i<(base++iN.take m).length:=(List.getElem?_eq_some_iff.1 Oj).1;rw[Cg Rm];exact Oj
  .obtain rfl:m=0:=oq
   rw[List.take_zero,List.append_nil] at B;rw[List.drop_zero] at O;rcases R with rfl|⟨D,L,rfl,ZK⟩
   .exact aB<|zr<|zf<|za l<|zG<|aR ⟨rfl,O,S,C,a,B⟩
   .have TD:=B;obtain⟨d,cp,z,o,rfl,hcp,hob,q,J⟩:∃d cp z o,C=.slice (sq d) (D.length+1) cp/\D.length+1<=cp/\d<l.nx/\l.get d=some (.cells z 3 o)/\∀i k:Nat,(D++[L])[i]?=some k->z[i]?=some (num (k:Nat)):=by
     have A:(D++[L]).length=D.length+1:=iq
     rcases B with ⟨_,e2⟩|⟨d,cp,z,o,e1,e2,e3,e4,e5⟩
     .rw[e2] at A; simp at A
     .exact⟨d,cp,z,o,by rw[e1,A],by omega,e3,e4,e5⟩
    have w:z[D.length]?=some (num (L:Nat)):=J _ _ (by rw[EN (iz _),Nat.sub_self]; rfl);rw[show(((D++[L]).length+0:Nat):Int)-1=((D.length:Nat):Int) by simp];generalize hT:D.length=T at *;generalize hNd:m8 nb ns.length c=M at *;exact aB<|zr<|zk 1<|zp (yb (num (T:Nat)) (num 0)<|fQ (b:=true)<|decide_eq_true oq)<|zg 4 l<|zp (yl wk 1 (.slice (sq d) (T+1) cp) a)<|zk 1<|zp (yi d 0 (T+1) cp T none .i64 (T:Nat) 1 oq oq oq)<|zo l<|zp (yl d T (num (L:Nat)) q (i:=w))<|zk 1<|zp (yb (num (L:Nat)) (num p)<|cM (b:=false)<|by rw[ZK]; simp)<|zf<|za l<|zG<|aR ⟨rfl,O,S,_,a,TD⟩
 .rintro e a' l ⟨rfl,O,S,B⟩;exact⟨.inl rfl,by kernel_rfl,O,S,B⟩
end
def Pf (k:Int):Bool:=k==1||(k==2||k==3)
abbrev Bm:Bq:=[104,116,109,108]
def LS (x:bH)(a:List Nat)(i:Nat):Bool:=if i=0 then x.kind==1&&(cZ x.name Bm&&x.parent == -1) else decide (0<a.length)&&Pf x.kind
def SQ(k:pr 164=none)(l:pr 265=none){b nb c wk i g:Nat}{ns:List bH}{x:bH}{v:Value}{fz:Nat × Nat}(S:s.get nb=some (.cells (bN ns) 44 fz))(q:s.get wk=some (uF (m8 nb ns.length c) v g b))(V:wk<s.nx)(L:ns[i]?=some x)(p:x.cells.all Value.oneCell'=true)(T:ns.length<=400000000){a:List Nat}(U:dB s v a)(J:a.length<=400000000):∃M,Ef pr 164 #[aC wk 0,num i] s (.bool<|LS x a i) M/\cL (λ_=>False) s M:=by
 obtain⟨G,u,D⟩:∃G u,v=.slice G a.length u:=by
  rcases U with ⟨e1,e2⟩|⟨ob,u,cs,Oh,e1,_⟩
  .exact⟨none,0,by rw[e1,e2];rfl⟩
  .exact⟨_,u,e1⟩
 have Z:i<ns.length:=(gS.1 L).1;have⟨C,z⟩:=ko L;have E:(s.add dG).get s.nx=some dG:=by rw[AS.aZ,ip rfl]
 have d:((s.add dG).set s.nx<|some<|.cells x.cells.toArray 44).get s.nx=some (.cells x.cells.toArray 44):=by rw[AS.aN,ip rfl]
 have A:cL (λ_=>False) s ((s.add dG).set s.nx<|some<|.cells x.cells.toArray 44):=aL ((aE s).add _) (λh=>absurd h oq) _;have t:((s.add dG).set s.nx<|some<|.cells x.cells.toArray 44).get wk=some (uF (m8 nb ns.length c) v g b):=by rw[AS.aN,iw oq,AS.aZ,iw oq];exact q
 refine⟨_,(aH k func164 rfl<|zs<|zr<|zg 3 s<|zp (yl wk 0 (m8 nb ns.length c) q) ?_),A⟩;generalize Y:ns.length=K at *;refine zg 1 s<|zp (yi nb 0 K c (i*5) none .i64 (i:Nat) 5 oq oq oq)<|zo s<|zp (jq (b:=nb) (off:=i*5) (n:=5) rfl underlying44 rfl kq kq S C z)<|zg 1 (s.add dG)<|zp (eX (b:=s.nx) (off:=0) (w:=.agg x.cells.toArray) rfl kq kq rfl p kq E<|by simp[bH.cells])<|am<|za ((s.add dG).set s.nx<|some<|.cells x.cells.toArray 44) ?_;generalize (s.add dG).set s.nx _=e at *;generalize X:s.nx=B at *;have f:Ef pr 265 #[num x.kind] e (.bool<|Pf x.kind) e:=by
  refine aH l func265 O<|zs<|zr<|zg 1 e ?_;unfold Pf;cases h1:(x.kind==1) with
  | true =>exact zp (yb _ _<|cW h1)<|zf yR
  | false =>
   refine zp (yb _ _<|cW h1)<|zg 2 e ?_;cases h2:(x.kind==2) with
   | true =>exact zp (yb _ _<|cW h2)<|zf yR
   | false =>refine zp (yb _ _<|cW h2)<|zg 3 e ?_;generalize d:(x.kind==3)=c;exact zp (yb _ _<|cW d)<|zf yR
 have H:x.cells.toArray[0]?=some (num x.kind):=rfl;have O:x.cells.toArray[1]?=some (num x.parent):=rfl;have P:x.cells.toArray[2]?=some (str x.name):=rfl;generalize x.cells.toArray=xc at *;unfold LS;generalize x.kind=j at *;generalize x.parent=F at *;generalize x.name=y at *;generalize R:Pf j=W at *;refine aB<|zr ?_;by_cases m:i=0
 .rw[ip m];have o:(i:Int)=0:=oq
  refine zg 1 e<|zp (yb (num i) (num 0)<|cW (b:=true)<|by rw[o];rfl)<|am<|zH<|za e<|zr<|zg 1 e<|zp (yl B 0 (num j) d (i:=H)) ?_;cases h1:(j==1) with
  | false =>exact zp (yb (num j) (num 1)<|cW (b:=false) h1)<|zf<|aD ⟨.inr rfl,kq,kq⟩
  | true =>
   refine zp (yb (num j) (num 1)<|cW (b:=true) h1)<|zg 2 e<|zp (yl B 2 (str y) d (i:=P)) ?_;cases h2:cZ y Bm with
   | false =>exact zp (yb (str y) (str Bm)<|lw (b:=false) h2)<|zf<|aD ⟨.inr rfl,kq,kq⟩
   | true =>refine zp (yb (str y) (str Bm)<|lw (b:=true) h2)<|zg 3 e<|zp (yl B 1 (num F) d (i:=O)) ?_;generalize Q:(F == -1)=N;exact zp (yb (num F) (num<|-1)<|cW (b:=N) Q)<|zf<|aD ⟨.inr rfl,kq,kq⟩
 .rw[iw m];refine zk 1<|zp (yb (num i) (num 0)<|cW (b:=false)<|bF.2 oq)<|am<|zF<|za e<|zr<|zg 3 e<|zp (yl wk 1 v t) ?_;rw[D];refine zk 1 ?_;by_cases I:0<a.length
  .refine zp (yb (num a.length) (num 0)<|fA (b:=true)<|tD oq)<|zg 2 e<|zp (yl B 0 (num j) d (i:=H))<|zc 0 f<|zf ?_;rw[tD I];exact aD ⟨.inr rfl,kq,kq⟩
  .refine zp (yb (num a.length) (num 0)<|fA (b:=false)<|fD oq)<|zf ?_;rw[fD I];exact aD ⟨.inr rfl,kq,kq⟩
def xK(nd:Value)(gB gE b wk K i:Nat)(x:Nq):TL:=[nd,SU gB b,SU gE b,x 3,x 4,x 5,.bool false,aC wk 0,x 8,x 9,x 10,x 11,x 12,nd,num K,num i]++gG x 16 34
def Ow (y:bH)(i:Nat):List Nat:=if y.kind=1/\aW y.name eE=false then [i] else []
section
variable {gE:Nat}{St:AS->X->Prop}{I:Nat->X->Prop}{x:X}
def jB(ns:List bH)(fB fE:X->Nat->X)(i:Nat)(w:List Nat × X):Bool × List Nat × X:=match ns[i]? with
 | some y=>if LS y (gk y.parent w.1) i then (true,gk y.parent w.1++Ow y i,fB (lm fE w.2<|lj y.parent w.1) i) else (false,gk y.parent w.1,lm fE w.2<|lj y.parent w.1)
 | none=>(false,w)
def oM (ns:List bH)(fB fE:X->Nat->X):Nat->Nat->List Nat × X->Bool × List Nat × X
 | 0,_,w=>(true,w)
 | n+1,i,w=>if (jB ns fB fE i w).1 then oM ns fB fE n (i+1) (jB ns fB fE i w).2 else jB ns fB fE i w
def F6 (ns:List bH)(fB fE:X->Nat->X)(x:X):X:=if (oM ns fB fE ns.length 0 ([],x)).1 then lm fE (oM ns fB fE ns.length 0 ([],x)).2.2 (oM ns fB fE ns.length 0 ([],x)).2.1 else (oM ns fB fE ns.length 0 ([],x)).2.2
def EM.frF(V:EM pr gB gE b tb ns nb St I fB fE)(h:St s x)(a:cL (λ_=>False) s s'):St s' x:=by have⟨c,d,e⟩:=V.ty h;exact V.keep h a.1 (a.2 b e.1 id) λk c d f _=>a.2 k f id
def cL.t{b:Nat}(a:cL (λ_=>False) s s'):j1 b s s':=⟨a.1,λk c _ _=>a.2 k c id⟩
def iR:=@cL.t
def dB.frV{v:Value}{wk:Nat}{a:List Nat}{d:Aq}{e:Nat × Nat}(V:EM pr gB gE b tb ns nb St I fB fE)(h:dB s v a)(f:St s x)(i:s.get wk=some (.cells d 209 e))(c:Ax b wk s s'):dB s' v a:=by
 rcases h with h|⟨ob,cp,cs,fz,e1,e2,e3,e4,e5⟩
 .exact .inl h
 .have⟨j,k,_,g⟩:=V.ty f;exact .inr ⟨ob,cp,cs,fz,e1,e2,by have:=c.1;omega,(c.2 ob e3 (pV e4 g<|Ne.symm V.tt.2.1) (pV e4 i dq)<|jW e4 dq).trans e4,e5⟩
structure Vz(pr:Prim):Prop where
 YL:pr 163=none
 acu:pr 164=none
 acv:pr 265=none
 acs:pr 138=none
 p79:pr 79=none
 fM:pr 127=bP 127
theorem UD{v:Value}{C:List Nat}(h:dB s v C)(i:Nat)(o:C.length<=400000000):∃a b,ce prog 3 v [num i] 1 s=some (a,b)/\s.nx<=b.nx/\dB b a (C++[i])/\(∀k,k<s.nx->Rx (s.get k)->b.get k=s.get k)/\a.cells=#[a]/\a.oneCell'=true:=by
 rcases h with ⟨rfl,rfl⟩|⟨ob,cp,cs,fz,rfl,a2,a3,U,T⟩
 .exact Nj (.inl ⟨O,O⟩) i dq
 .have m:C.length<=cs.size:=by
   by_cases n:C.length=0
   .omega
   .have g:C.length-1<C.length:=oq
    have:=T _ _<|gE g
    have:=(oF.1 this).1;omega
  refine⟨_,_,im (sz:=1) dq U kq oq oq,iq,.inr ⟨s.nx,_,_,_,by rw[lA];rfl,by rw[lA];exact lr,iq,by rw[AS.aZ,ip iq],λj k R=>?_⟩,λk R d=>?_,O,O⟩
  .rw[Nat.mul_one,LY];have l:(cs.toList.take C.length).length=C.length:=by have c:cs.toList.length=cs.size:=KO;rw[List.length_take];omega
   by_cases f:j<C.length
   .rw[Cg f] at R;rw[Cg oq,List.getElem?_take_of_lt f]
    have:=T j k R;simpa using this
   .rw[EN oq] at R |-;rw[l];match c:j-C.length with
    | 0 =>rw[c] at R;simp only[OX,xH] at R;subst R;rfl
    | q+1=>rw[c] at R;simp at R
  .rw[AS.aZ,iw<|by simp;omega,AS.aN,iw<|λe=>by rw[e] at d;exact d _ _ U]
def P8(V:EM pr gB gE b tb ns nb St I fB fE)(hp:Vz pr){i c wk:Nat}{s0:AS}{v:Value}{y:Nq}{z:bH}{fz:Nat × Nat}{w:List Nat × X}{Q:Exit->TL->AS->Prop}(hfs:yw b wk s0 s)(hx:ns[i]?=some z)(O5:z.cells.all Value.oneCell'=true)(h:St s w.2)(hI:I i w.2)(ZN:s0.get nb=some (.cells (bN ns) 44 fz))(Tv:nb<s0.nx)(XA:nb≠b)(XW:nb≠wk)(ZT:s.get wk=some (uF (m8 nb ns.length c) v gE b))(Rr:wk<s.nx)(hv:dB s v w.1)(XD:ns.length<=400000000)(TI:∀k∈w.1,k<i)(XU:w.1.length<=i)
 (hq:∀s' v' y',(jB ns fB fE i w).1=true->yw b wk s0 s'->St s' (jB ns fB fE i w).2.2->I (i+1) (jB ns fB fE i w).2.2->s'.get wk=some (uF (m8 nb ns.length c) v' gE b)->wk<s'.nx->dB s' v' (jB ns fB fE i w).2.1->Q .normal (xK (m8 nb ns.length c) gB gE b wk ns.length (i+1) y') s')
 (hr:∀s' a',(jB ns fB fE i w).1=false->yw b wk s0 s'->St s' (jB ns fB fE i w).2.2->di prog f79 a' s'=some (.bool false)->Q .ret a' s'):∀cd,(match f79.body with|some (.seq _<|.seq _<|.seq (.seq _<|.block _<|.loop cd) _)=>cd|_=>.skip)=cd->Ew pr cd (xK (m8 nb ns.length c) gB gE b wk ns.length i y) s Q:=by
 rintro cd rfl;have hi:i<ns.length:=(gS.1 hx).1;have⟨vC,W5⟩:=ko hx;have w8:jB ns fB fE i w=if LS z (gk z.parent w.1) i then (true,gk z.parent w.1++Ow z i,fB (lm fE w.2<|lj z.parent w.1) i) else (false,gk z.parent w.1,lm fE w.2 (lj z.parent w.1)):=by unfold jB;rw[hx]
 rw[w8] at hq hr;have⟨lu,x0⟩:=w;simp only at h hI hv TI XU hq hr;clear w8;have hn:s.get nb=some (.cells (bN ns) 44 fz):=(hfs.2 nb Tv XA XW (jW ZN<|dq)<|rk ZN<|dq).trans ZN;have abl:nb<s.nx:=by have:=hfs.1;omega
 have⟨cb,fb,VL,ZQ⟩:=V.ty h;have JC:(s.add dG).get s.nx=some dG:=by rw[AS.aZ,ip O]
 have Rs:((s.add dG).set s.nx<|some<|.cells z.cells.toArray 44).get s.nx=some (.cells z.cells.toArray 44):=by rw[AS.aN,ip O]
 have Rj:cL (λ_=>False) s ((s.add dG).set s.nx<|some<|.cells z.cells.toArray 44):=aL ((aE s).add _) (λh=>absurd h<|oq) _;have hbz:=V.frF h Rj;have ZH:j1 b s ((s.add dG).set s.nx<|some<|.cells z.cells.toArray 44):=Rj.t;have hnz:s.nx<((s.add dG).set s.nx<|some<|.cells z.cells.toArray 44).nx:=iq
 have abJ:=(Rj.2 wk Rr id).trans ZT;have Xy:=(Rj.2 nb abl id).trans hn;have hv1:=hv.frV (wk:=wk) V h ZT ZH.u;refine zr<|zp (yb (num (i:Nat)) (num (ns.length:Nat))<|bE (b:=true)<|tD<|oq)<|am<|aB<|zT<|aB<|aF<|za s<|zr<|zg 1 s<|zp (yi nb 0 ns.length c (i*5) none .i64 (i:Nat) 5 oq oq<|oq)<|zo s<|zp (jq (b:=nb) (off:=i*5) (n:=5) (r:=z.cells.toArray) O underlying44 O kq kq hn vC W5)<|zg 2 (s.add dG)<|zp (eX (b:=s.nx) (off:=0) (w:=.agg z.cells.toArray) (ws:=z.cells) O kq kq O O5 kq JC<|by simp[bH.cells])<|am<|za ((s.add dG).set s.nx<|some<|.cells z.cells.toArray 44) ?_;generalize (s.add dG).set s.nx (some<|.cells z.cells.toArray 44)=s1 at *;generalize hB:s.nx=B at *;have hBb:B≠b:=oq
 have hBw:B≠wk:=oq
 have abL:wk<s1.nx:=oq
 have Xz:nb<s1.nx:=oq
 have hbp:=p8 z.parent lu;have aa5:=congrArg List.length hbp;rw[lA] at aa5;have⟨s2,hE,Cm,w6,v2,TG,TD⟩:=zi V hp.YL (p:=z.parent) (base:=gk z.parent lu) (iN:=lj z.parent lu) hbz hI Xy Xz abJ abL (by rw[hbp];exact hv1) (λk hk=>⟨P2 hk,by have:=TI k<|M2 hk;omega⟩) (Jb _ _) oq;have ZD:=V.ends hI<|lj z.parent lu;have aa6:=(w6.2 B oq hBb hBw<|jW Rs<|dq).trans Rs;have Tu:=(w6.2 nb Xz XA XW<|jW Xy<|dq).trans Xy;have XZ:wk<s2.nx:=by have:=w6.1;omega
 have⟨s3,hF,Mb⟩:=SQ (pr:=pr) (i:=i) hp.acu hp.acv Tu TG XZ hx O5 XD TD oq;have VK:=V.frF Cm Mb;have JB:=(Mb.2 wk XZ id).trans TG;have Xb:=(Mb.2 B (by have:=w6.1;omega) id).trans aa6;have abM:wk<s3.nx:=by have:=Mb.1;omega
 have hn3:=(Mb.2 nb (by have:=w6.1;omega) id).trans Tu;have hv3:=TD.frV (wk:=wk) V Cm TG (iR Mb).u;have Xm:yw b wk s0 s3:=((hfs.trans ZH.v).trans w6.v).trans (iR Mb).v;generalize hNd:m8 nb ns.length c=nd at *;refine zr<|zg 1 s1<|zp (yl B 1 (num z.parent) Rs)<|zc 0 hE<|am<|za s2<|aB<|zr ?_;generalize hfit:LS z (gk z.parent lu) i=ft at *;refine zc 1 hF<|zf<|za s3 ?_;cases ft with
 | false =>simp only[lI,if_false] at hr;exact zH<|zs<|za s3<|aD<|hr s3 _ trivial Xm VK kq
 | true =>
 simp only[if_true] at hq;have⟨s4,hG,hb4,VO⟩:=V.beg hi VK ZD hn3;have hI4:=V.iB ZD;have⟨cb3,fb3,hbs3,abz⟩:=V.ty VK;have XX:=(VO.2 wk abM (pV JB abz<|Ne.symm V.tt.2.2.1)<|jW JB<|dq).trans JB;have FE:=(VO.2 B (by have:=w6.1;have:=Mb.1;omega) hBb<|jW Xb<|dq).trans Xb;have abN:wk<s4.nx:=by have:=VO.1;omega
 have hB4:B<s4.nx:=by have:=w6.1;have:=Mb.1;have:=VO.1;omega
 have Xo:yw b wk s0 s4:=Xm.trans VO.v;have hv4:=hv3.frV (wk:=wk) V VK JB VO.u;have W9:(gk z.parent lu).length<=400000000:=oq
 generalize hK:ns.length=K at *;generalize uV:gk z.parent lu=bs at *;generalize fB (lm fE x0<|lj z.parent lu) i=xx at *;have w5:∀(a8:TL) (s8:AS) (v8:Value),(∃y',a8=xK nd gB gE b wk K i y')->yw b wk s0 s8->St s8 xx->s8.get wk=some (uF nd v8 gE b)->wk<s8.nx->dB s8 v8 (bs++Ow z i)->Ew pr (match f79.body with|some (.seq _<|.seq _<|.seq (.seq _<|.block _<|.loop<|.seq _<|.seq _<|.seq _ cd) _)=>cd|_=>.skip) a8 s8 Q:=by
  rintro a8 s8 v8 ⟨y',rfl⟩ q1 q2 q3 q4 q5;refine bn (Q:=λe a' Iu=>e=.normal/\Iu=s8/\∃y',a'=xK nd gB gE b wk K (i+1) y') ?_ ?_
  .exact zx<|zp (yp (i:Nat) 1 ((i+1:Nat):Int) oq<|oq)<|zf ⟨O,kq,bu kq⟩
  .rintro e a' Iu ⟨rfl,rfl,y2,rfl⟩;exact hq _ v8 y2 trivial q1 q2 hI4 q3 q4 q5
 refine zF<|zr<|zg 2 s3<|yc #[aC b 0] #[] hG<|am<|za s4 ?_;have Tp:=gW 9 FE (off:=2) O;by_cases O1:z.kind=1
 .have Xs:z.cells.toArray[0]?=some (num 1):=by show some (num z.kind)=_;rw[O1]
  have To:=gW 3 FE Xs;have hvd:=(bR s4 eE 13 O<|dq).is (pr:=pr) hp.fM z.name;have hvo:=xq (pr:=pr) (s:=s4) hp.acs;have aa7:(s4.add<|.cells (eE.map str).toArray 9).get B=some (.cells z.cells.toArray 44):=by rw[AS.aZ,iw oq];exact FE
  have hl5:=gW 9 aa7 (off:=2) (v:=str z.name) O;have O8:(s4.add<|.cells (eE.map str).toArray 9).get wk=some (uF nd v2 gE b):=by rw[AS.aZ,iw oq];exact XX
  have hb5:=V.add hb4<|.cells (eE.map str).toArray 9;have hv5:=hv4.add<|.cells (eE.map str).toArray 9;have hf5:yw b wk s0 (s4.add<|.cells (eE.map str).toArray 9):=Xo.trans (j1.add b s4 _).v;have abO:wk<(s4.add<|.cells (eE.map str).toArray 9).nx:=by simp;omega
  generalize hs5:s4.add (.cells (eE.map str).toArray 9)=s5 at *;have TE:Ow z i=if aW z.name eE=false then [i] else []:=by unfold Ow;simp only[O1,true_and]
  rw[TE] at w5;generalize hvv:aW z.name eE=vv at *;refine aB<|aP kq kq kq<|zq<|zt s4<|zu (kO (b:=B) (off:=0) (v:=num 1) O underlying3 O kq FE Xs)<|zq<|zq<|zq<|zt s4<|zu (yl B 2 (str z.name) FE)<|zt s4<|yt hvo<|yt hvd<|zq<|zq<|bq ⟨kN<|vD To Tp hl5 O O O,_,_,_,_,_,_,O,O,(za s5 ?_)⟩;cases vv with
  | true =>exact zF<|w5 _ _ v2 (bu<|kq) hf5 hb5 O8 abO<|by rw[iw iq,List.append_nil];exact hv5
  | false =>
   have hd6:(s5.add<|.cells #[num (i:Nat)] 3).get s5.nx=some (.cells #[num (i:Nat)] 3):=by rw[AS.aZ,ip O]
   have⟨v7,s7,ha7,hx7,hv7,hk7,hc7,ho7⟩:=UD (hv5.add<|.cells #[num (i:Nat)] 3) i oq;have XY:(s5.add<|.cells #[num (i:Nat)] 3).get wk=some (uF nd v2 gE b):=by rw[AS.aZ,iw oq];exact O8
   have abP:wk<(s5.add<|.cells #[num (i:Nat)] 3).nx:=by simp;omega
   have TH:=(hk7 wk abP<|rk XY<|dq).trans XY;have hb7:=V.fr3 (V.add hb5<|.cells #[num (i:Nat)] 3) hx7 hk7;have W7:ej v2 (some ⟨s5.nx,0,none⟩)=true:=by
    rcases hv5 with ⟨rfl,_⟩ | ⟨d,cp,cs,fz,rfl,_,q,_⟩
    . rfl
    . show (!d.beq s5.nx)=true
      cases hb:d.beq s5.nx
      . rfl
      . exact absurd (Nat.eq_of_beq_eq_true hb)<|oq
   have⟨cb5,fb5,_,abA⟩:=V.ty hb5;have hwb:wk≠b:=pV O8 abA<|Ne.symm V.tt.2.2.1;have abQ:s5.nx<=s7.nx:=lT iq hx7;have abd:yw b wk s5 s7:=by
    refine⟨abQ,λk hk _ _ _ h3=>?_⟩;have e:(s5.add<|.cells #[num (i:Nat)] 3).get k=s5.get k:=by rw[AS.aZ,iw oq]
    rw[hk7 k (by simp;omega) (by rw[e];exact h3),e]
   have hf7:yw b wk s0 s7:=hf5.trans abd;refine zH<|zx<|zg 1 s5<|zp (yl wk 1 v2 O8)<|zg 2 (s5.add<|.cells #[num (i:Nat)] 3)<|zp (Ig (sl:=v2) (z:=num 0) (w:=num (i:Nat)) (d:=s5.nx) (k:=1) (bytes:=8) O kq kq underlying25 kq O dq kq hd6 W7 O ha7)<|zg 1 s7<|zp (iH (b:=wk) (off:=1) (w:=v7) O kq kq hc7 ho7 kq TH<|iq)<|am<|w5 _ (s7.set wk<|some<|uF nd v7 gE b) v7 (bu<|kq) (hf7.trans Ax.Nv.v) (V.set hb7 hwb (jW TH<|dq) _) (by rw[AS.aN,ip O]) (by have:=hx7;simp;omega) ?_;rw[ip O];exact hv7.set<|rk TH<|dq
 .have To:=gW 3 FE (off:=0) (v:=num z.kind) O;have TE:Ow z i=[]:=by unfold Ow;simp only[O1,false_and,if_false]
  rw[TE,List.append_nil] at w5;refine aB<|aP kq kq kq<|zq<|zt s4<|zu (yl B 0 (num z.kind) FE)<|zu (yb (num z.kind) (num 1)<|cW (b:=false)<|bF.2 O1)<|zq ?_;iterate 5 refine qv kq ?_
  exact zq<|bq ⟨kN<|JG To,_,_,_,_,_,_,O,O,(za s4<|zF (w5 _ _ v2 (bu<|kq) Xo hb4 XX abN hv4))⟩
end
section
variable {gE:Nat}{St:AS->X->Prop}{I:Nat->X->Prop}{x:X}
def Vf(V:EM pr gB gE b tb ns nb St I fB fE)(hp:Vz pr){c:Nat}{fz:Nat × Nat}(h:St s x)(hI:I 0 x)(D:s.get nb=some (.cells (bN ns) 44 fz))(E:nb<s.nx)(XD:ns.length<=400000000)(F:∀z∈ns,z.cells.all Value.oneCell'=true) :
  ∃a r,Ef pr 79 #[m8 nb ns.length c,SU gB b,SU gE b] s (.bool r) a/\St a (F6 ns fB fE x)/\yw b s.nx s a:=by
 obtain⟨cb,fb,VL,ZQ⟩:=V.ty h;have o:nb≠b:=pV D ZQ<|Ne.symm V.tt.2.2.2;have JC:(s.add vp).get s.nx=some vp:=by rw[AS.aZ,if_pos rfl]
 have Rs:((s.add vp).set s.nx<|some<|uF (m8 nb ns.length c) (.slice none 0 0) gE b).get s.nx=some (uF (m8 nb ns.length c) (.slice none 0 0) gE b):=by rw[AS.aN,if_pos rfl]
 have C:cL (λ_=>False) s ((s.add vp).set s.nx<|some<|uF (m8 nb ns.length c) (.slice none 0 0) gE b):=aL ((aE s).add _) (λh=>absurd h oq) _;have S:=V.frF h C;have U:yw b s.nx s _:=(iR C).v;have hx1:s.nx<((s.add vp).set s.nx<|some<|uF (m8 nb ns.length c) (.slice none 0 0) gE b).nx:=iq
 have G:F6 ns fB fE x=if (oM ns fB fE ns.length 0 ([],x)).1 then lm fE (oM ns fB fE ns.length 0 ([],x)).2.2 (oM ns fB fE ns.length 0 ([],x)).2.1 else (oM ns fB fE ns.length 0 ([],x)).2.2:=rfl;rw[G];generalize H:oM ns fB fE ns.length 0 ([],x)=res at *;obtain⟨J,f,u⟩:=res;suffices hh:∃a,Ef pr 79 _ s (.bool<|J&&decide (0<ns.length)) a/\St a _/\yw b s.nx s a by obtain⟨a,e1,e2,e3⟩:=hh;exact⟨a,_,e1,e2,e3⟩
 refine aX hp.p79 func79 rfl<|zs<|zr<|zg 4 (s.add vp)<|zp (eX (b:=s.nx) (off:=0) (w:=.agg #[m8 nb ns.length c,.slice none 0 0,SU gE b]) rfl kq kq rfl rfl kq JC iq)<|am<|za ((s.add vp).set s.nx<|some<|uF (m8 nb ns.length c) (.slice none 0 0) gE b) ?_;generalize (s.add vp).set s.nx _=s1 at *;refine aB<|zs<|za s1<|aV (xK (m8 nb ns.length c) gB gE b s.nx ns.length 0) kq ?_;intro y0;refine aF<|bn (bw (Q:=λe A a=>(e=.exit 0/\J=true/\yw b s.nx s a/\St a u/\I ns.length u/\(∃q,a.get s.nx=some (uF (m8 nb ns.length c) q gE b)/\dB a q f)/\s.nx<a.nx/\(∀k∈f,k<ns.length)/\f.length<=ns.length/\∃y,A=xK (m8 nb ns.length c) gB gE b s.nx ns.length ns.length y)\/(e=.ret/\J=false/\yw b s.nx s a/\St a u/\di prog f79 A a=some (.bool false))) (λm A a=>∃i w,i+m=ns.length/\yw b s.nx s a/\St a w.2/\I i w.2/\(∃q,a.get s.nx=some (uF (m8 nb ns.length c) q gE b)/\dB a q w.1)/\s.nx<a.nx/\(∀k∈w.1,k<i)/\w.1.length<=i/\oM ns fB fE m i w=(J,f,u)/\∃y,A=xK (m8 nb ns.length c) gB gE b s.nx ns.length i y) ?_ ns.length _ _ ⟨0,([],x),oq,U,S,hI,⟨_,Rs,.inl ⟨rfl,rfl⟩⟩,hx1,(λk Y=>by cases Y),iz _,H,y0,rfl⟩) ?_
 .rintro m A a ⟨i,w,ZJ,n,B,j,⟨q,N,M⟩,O,g,l,d,y,rfl⟩;by_cases hm:0<m
  .obtain⟨m,rfl⟩:∃m',m=m'+1:=⟨m-1,oq⟩;have hi:i<ns.length:=oq
   have hxi:=List.getElem?_eq_getElem hi;obtain⟨g1,g2⟩:(∀k∈(jB ns fB fE i w).2.1,k<i+1)/\(jB ns fB fE i w).2.1.length<=i+1:=by
    unfold jB;cases hx:ns[i]? with
    | none=>exact⟨λk a=>by have:=g k a;omega,by show w.1.length<=_;omega⟩
    | some y =>
     have d:(gk y.parent w.1).length<=w.1.length:=by have:=congrArg List.length<|p8 y.parent w.1;rw[lA] at this;omega
     have c:∀k∈gk y.parent w.1,k<i+1:=λk a=>by have:=g k<|Ld a;omega
     simp only;split
     .refine⟨λk a=>?_,?_⟩
      .rcases List.mem_append.1 a with a|a
       .exact c k a
       .unfold Ow at a;split at a
        .rw[List.mem_singleton.1 a];omega
        .simp at a
      .show(gk y.parent w.1++Ow y i).length<=_;rw[lA];unfold Ow;split<;>simp<;>omega
     .exact⟨c,by show(gk y.parent w.1).length<=_;omega⟩
   unfold oM at d;refine P8 V hp n hxi (F _<|zB hi) B j D E o oq N O M XD g l (λR v2 y2 L q1 P q3 q4 q5 q6=>?_) (λR a2 L q1 P q3=>?_) _ rfl
   .rw[if_pos L] at d;exact⟨m,oq,i+1,_,oq,q1,P,q3,⟨v2,q4,q6⟩,q5,g1,g2,d,y2,rfl⟩
   .rw[if_neg (by rw[L]; simp)] at d;rw[d] at L P;exact .inr ⟨rfl,L,q1,P,q3⟩
  .obtain rfl:m=0:=oq
   obtain rfl:i=ns.length:=oq
   unfold oM at d;cases d;generalize hK:ns.length=K at *;generalize hNd:m8 nb K c=nd at *;exact zr<|zp (yb (num (K:Nat)) (num (K:Nat))<|bE (b:=false)<|decide_eq_false oq)<|am<|za a<|aB<|zG<|aR<|.inl ⟨rfl,rfl,n,B,j,⟨q,N,M⟩,O,g,l,bu kq⟩
 .rintro e A a (⟨rfl,rfl,n,B,j,⟨q,N,M⟩,O,g,l,y,rfl⟩|⟨rfl,rfl,n,B,hr⟩)
  .have Z:=(n.2 nb E o oq (jW D dq)<|rk D dq).trans D;obtain⟨R,hE,T,W,v2,XU,TD⟩:=zi V hp.YL (p := -1) (base:=[]) (iN:=f) B j Z (by have:=n.1; omega) N O (by simpa using M) (λk Y=>⟨oq,g k Y⟩) (.inl rfl) (by simp; omega);rw[if_pos rfl];generalize lm fE u f=xx at *;generalize hK:ns.length=K at *;generalize X:decide (0<K)=gt;exact zr<|zc 0 hE<|am<|za R<|zr<|zk 2<|zp (yb (num (K:Nat)) (num 0)<|fA (b:=gt)<|by rw[<-X]; exact decide_eq_decide.2 oq)<|zf<|za R<|aD ⟨.inr rfl,kq,T,n.trans W.v⟩
  .rw[if_neg iq];exact⟨.inr rfl,hr,B,n⟩
end
structure RX where
 l:Bq
 d:Int
 h:Int
abbrev rdC(nd:Value)(h:Int):Aq:=#[nd,aO,aO,aO,num h]
def Ce (b:Nat)(a:Value)(s:AS)(x:RX):Prop:=Fl s b 1 131 (rdC a x.h) x.l x.d/\vT x.d
abbrev FQ:List (Bq):=[[98,114],[104,114]]
abbrev JJ:List (Bq):=[[116,100],[116,104]]
def UE (z:bH)(x:RX):RX :=
 if (z.kind==2&&x.h==0)=true then { x with l:=(EQ z.text z.text.length 0 (x.l,x.d)).1,d:=(EQ z.text z.text.length 0 (x.l,x.d)).2 }
 else if mV z u7=true then { x with h:=eU .i64 (x.h+1) }
 else if (mV z un||mV z FQ)=true then { x with d:=10 }
 else if mV z JJ=true then { x with d:=if x.d=0 then 32 else x.d }
 else x
def UG (z:bH)(x:RX):RX :=
 if mV z u7=true then { x with h:=eU .i64 (x.h-1) }
 else if mV z un=true then { x with d:=10 }
 else x
def LJ:vT 10:=.inr<|.inl ⟨dq,dq⟩
def Bd(n:Nat):kg (1000+n)=false:=by
 have a:∀m,m<1000->Nat.beq _ m=false:=λm b=>by
  cases h:Nat.beq (1000+n) m with
  | false=>rfl
  | true=>have:=iC h;omega
 unfold kg;rw[Bool.or_eq_false_iff];exact⟨a 177 dq,a 179 dq⟩
structure Ay(pr:Prim):Prop where
 no:∀f,f∈DD->pr f=none
 n:∀f,f∈[80,81,76,133,165,166,78,84]->pr f=none
 fM:pr 127=bP 127
 YK:∀(r:Int) (s:AS),0<=r/\r<=1114111->EF prog kg pr 160 #[str Ct,.int .i32 r] s (.bool<|gL r Ct) s
section
variable {o:Nat}{l:Bq}{rL:Aq}{ty:TypeId}{d:Int}{x:RX}{nd:Value}{z:bH}
def Fl.keep(h:Fl s b o ty rL l d)(x:s.nx<=s'.nx)(w:s'.get b=s.get b)(n:∀k a c,k<s.nx->s.get k=some (.cells a 5 c)->s'.get k=s.get k):Fl s' b o ty rL l d:=by
 have⟨a,p,q,g,i,j,m,f,r,t,u,v⟩:=h;refine⟨a,p,q,⟨by have:=g.1;omega,w.trans g.2⟩,i,j,m,f,r,t,?_,v⟩;rcases u with z|⟨e,c,z1,z2⟩
 .exact .inl z
 .exact .inr ⟨e,c,z1,by have:=z2.1;omega,(n e _ _ z2.1 z2.2).trans z2.2⟩
def Ce.keep(h:Ce b nd s x)(f:s.nx<=s'.nx)(e:s'.get b=s.get b)(d:∀k a c,k<s.nx->s.get k=some (.cells a 5 c)->s'.get k=s.get k):Ce b nd s' x:=⟨h.1.keep f e d,h.2⟩
def Ce.cells(h:Ce b nd s x):∃a,Has s b (.cells a 131)/\a[0]?=some nd/\a[4]?=some (num x.h)/\4<a.size:=by have⟨a,p,q,d,e,c,_⟩:=h.1;exact⟨a,d,(c 0 dq dq dq).trans O,(c 4 dq dq dq).trans O,by rw[e];exact Nat.lt_succ_self 4⟩
def Ce.fk(h:Ce b nd s x)(a:cL (λ_=>False) s s'):Ce b nd s' x:=by have⟨c,d,_⟩:=h.cells;exact h.keep a.1 (a.2 b d.1 id) λk c f e _=>a.2 k e id
def Ce.hid(h:Ce b nd s x)(d:Int):∃c,s.get b=some (.cells c 131)/\c[4]?=some (num x.h)/\4<c.size/\Ce b nd (s.set b<|some<|.cells (putAt c 4 [num d]) 131) { x with h:=d }/\j1 b s (s.set b<|some<|.cells (putAt c 4 [num d]) 131):=by
 obtain⟨⟨c,p,q,f,g,j,k,l,m,n,o,r⟩,t⟩:=h;have a:4<c.size:=by rw[g];exact(by decide:4<5)
 refine⟨c,f.2,(j 4 dq dq dq).trans O,a,⟨⟨_,p,q,f.put _,by rw[mh a];exact g,λi u v w=>?_,by rw[ei a,iw dq];exact k,l,by rw[ei a,iw dq];exact m,by rw[ei a,iw dq];exact n,o.set f dq _,r⟩,t⟩,j1.of (aL (K:=λx=>x=b) (aE s) (λ_=>O) _) λx _ e=>.inl e⟩;rw[ei a];split
 .next e=>subst e;rfl
 .next e =>
  rw[j i u v w];match i with
  | 0=>rfl
  | 1=>rfl
  | 2=>rfl
  | 3=>rfl
  | 4=>exact absurd O e
  | i+5=>rfl
def wT(a:Value)(h:Int):R9 1 131 (rdC a h):=⟨kq,dq⟩
def WH(a:Ay pr){nb c i:Nat}{ns:List bH}{fz:Nat × Nat}(h:Ce b (m8 nb ns.length c) s x)(X:s.get nb=some (.cells (bN ns) 44 fz))(H:ns[i]?=some z)(j:z.cells.all Value.oneCell'=true)(q:bQ 20 (KN z)=true)(Y:ns.length<=400000000):∃A,Ef pr 81 #[aC b 0,num i] s (.tuple #[]) A/\Ce b (m8 nb ns.length c) A (UG z x)/\j1 b s A:=by
 have hi:=(gS.1 H).1;have⟨p,m⟩:=ko H;have⟨cs,U,o,V,W⟩:=h.cells;have u:(s.add dG).get s.nx=some dG:=by rw[AS.aZ,ip rfl]
 have d:((s.add dG).set s.nx<|some<|.cells z.cells.toArray 44).get s.nx=some (.cells z.cells.toArray 44):=by rw[AS.aN,ip rfl]
 have g:cL (λ_=>False) s ((s.add dG).set s.nx<|some<|.cells z.cells.toArray 44):=aL ((aE s).add _) (λh=>absurd h oq) _;have G:s.nx<((s.add dG).set s.nx<|some<|.cells z.cells.toArray 44).nx:=iq
 refine aX (a.n 81 dq) func81 rfl<|zr<|zg 3 s<|zp (yl b 0 _ U.2 (i:=o)) ?_;generalize hK:ns.length=K at *;refine zg 1 s<|zp (yi nb 0 K c (i*5) none .i64 (i:Nat) 5 oq oq oq)<|zo s<|zp (jq (b:=nb) (n:=5) rfl underlying44 rfl kq kq X p m)<|zg 1 (s.add dG)<|zp (eX (off:=0) (w:=.agg z.cells.toArray) rfl kq kq rfl j kq u<|by simp[bH.cells])<|am<|za ((s.add dG).set s.nx<|some<|.cells z.cells.toArray 44) ?_;have T:=h.fk g;generalize (s.add dG).set s.nx _=I at *;generalize hB:s.nx=B at *;have d:Has I B _:=⟨oq,d⟩;have⟨k,O,l⟩:=Rk (x:=z) (s:=I) (a.n 165 dq) (a.n 76 dq) a.fM;have E:=T.fk l;have y:=d.fr l id;have⟨J,P,C⟩:=Mw (x:=z) (s:=k) (a.n 166 dq) (a.n 133 dq) (a.n 76 dq) a.fM q;have F:=E.fk C;have e:j1 b s k:=(iR g).trans<|iR l;have f:=e.trans<|iR C;unfold UG;generalize mV z u7=L at *;generalize mV z un=M at *;refine aF<|zr<|zp (yA B 0 5 z.cells.toArray d.2<|iz 5)<|zc 0 O<|zf<|za k ?_;cases L with
 | true =>obtain⟨N,D,Q,g3,R,S⟩:=E.hid<|eU .i64<|x.h-1;rw[ip rfl];exact zH<|zx<|zg 3 k<|zp (yl b 4 (num x.h) D (i:=Q))<|zg 3 k<|zp (ys b 4 _ D oq)<|am ⟨.inl rfl,kq,R,e.trans S⟩
 | false =>
  rw[iw iq];refine zG<|zr<|zp (yA B 0 5 z.cells.toArray y.2<|iz 5)<|zc 0 P<|zf<|za J ?_;cases M with
  | true =>rw[ip rfl];have⟨s4,Z,k2,k3⟩:=AJ (a.no 167 dq) (wT _ _) F.1;exact zH<|zx<|zc 3 Z<|am ⟨.inl rfl,kq,⟨k2,LJ⟩,f.trans k3⟩
  | false =>rw[iw iq];exact zF ⟨.inl rfl,kq,F,f⟩
def Wr(a:Ay pr){nb c i:Nat}{ns:List bH}{fz:Nat × Nat}(h:Ce b (m8 nb ns.length c) s x)(hn:s.get nb=some (.cells (bN ns) 44 fz))(hx:ns[i]?=some z)(I:z.cells.all Value.oneCell'=true)(hve:bQ 20 (KN z)=true)(XD:ns.length<=400000000)(hl:x.l.length+8*z.text.length<=800000000):∃o,Ef pr 80 #[aC b 0,num i] s (.tuple #[]) o/\Ce b (m8 nb ns.length c) o (UE z x)/\j1 b s o:=by
 have hi:i<ns.length:=(gS.1 hx).1;have⟨vC,W⟩:=ko hx;have⟨cs,hb,Y,Xd,hcz⟩:=h.cells;have JC:(s.add dG).get s.nx=some dG:=by rw[AS.aZ,ip rfl]
 have g:((s.add dG).set s.nx<|some<|.cells z.cells.toArray 44).get s.nx=some (.cells z.cells.toArray 44):=by rw[AS.aN,ip rfl]
 have H:cL (λ_=>False) s ((s.add dG).set s.nx<|some<|.cells z.cells.toArray 44):=aL ((aE s).add _) (λh=>absurd h oq) _;have hnx1:s.nx<((s.add dG).set s.nx<|some<|.cells z.cells.toArray 44).nx:=iq
 refine aX (a.n 80 dq) func80 rfl<|zr<|zg 3 s<|zp (yl b 0 (m8 nb ns.length c) hb.2 (i:=Y)) ?_;generalize hK:ns.length=K at *;refine zg 1 s<|zp (yi nb 0 K c (i*5) none .i64 (i:Nat) 5 oq oq oq)<|zo s<|zp (jq (b:=nb) (off:=i*5) (n:=5) (r:=z.cells.toArray) rfl underlying44 rfl kq kq hn vC W)<|zg 1 (s.add dG)<|zp (eX (b:=s.nx) (off:=0) (w:=.agg z.cells.toArray) (ws:=z.cells) rfl kq kq rfl I kq JC<|by simp[bH.cells])<|am<|za ((s.add dG).set s.nx<|some<|.cells z.cells.toArray 44) ?_;have O:=h.fk H;generalize (s.add dG).set s.nx (some<|.cells z.cells.toArray 44)=k at *;generalize hB:s.nx=B at *;have g:Has k B (.cells z.cells.toArray 44):=⟨oq,g⟩;have⟨cs1,X,_,Z,_⟩:=O.cells;have⟨N,e1,T⟩:=Rk (x:=z) (s:=k) (a.n 165 dq) (a.n 76 dq) a.fM;have h2:=O.fk T;have L:=g.fr T id;have⟨m,e2,U⟩:=Mw (x:=z) (s:=N) (a.n 166 dq) (a.n 133 dq) (a.n 76 dq) a.fM hve;have h3:=h2.fk U;have M:=L.fr U id;have e3:=xd (x:=z) (a.n 76 dq) a.fM<|bR m FQ 2 rfl dq;have V:cL (λ_=>False) m ((m.add<|.cells (FQ.map str).toArray 9).add<|u6 z):=((aE m).add _).add _;have h4:=h3.fk V;have hz5:=M.fr V id;have hT3:(m.add<|.cells (FQ.map str).toArray 9).nx=m.nx+1:=rfl;have e4:=λS=>xd (x:=z) (a.n 76 dq) a.fM<|bR S JJ 2 rfl dq;have f4:∀S:AS,cL (λ_=>False) S ((S.add<|.cells (JJ.map str).toArray 9).add<|u6 z):=λS=>((aE S).add _).add _;have p:j1 b s k:=iR H;have q:j1 b s N:=p.trans<|iR T;have u:j1 b s m:=q.trans<|iR U;have A:=u.trans<|iR V;unfold UE;generalize mV z u7=b1 at *;generalize mV z un=b2 at *;generalize mV z FQ=b3 at *;generalize mV z JJ=b4 at *;have c0:z.cells.toArray[0]?=some (num z.kind):=rfl;have c3:z.cells.toArray[3]?=some (str z.text):=rfl;refine aF ?_;have j:∀R:TL,(∃y:Nq,R=[aC b 0,num i,y 2,y 3,aC B 0]++gG y 5 52)->Ew pr (match f80.body with|some (.seq _<|.block _<|.seq _<|.cond _ _ cd)=>cd|_=>.skip) R k (λe Q o=>e=.normal/\di prog f80 Q o=some (.tuple #[])/\Ce b (m8 nb K c) o (if b1=true then { x with h:=eU .i64 (x.h+1) } else if (b2||b3)=true then { x with d:=10 } else if b4=true then { x with d:=if x.d=0 then 32 else x.d } else x)/\j1 b s o):=by
  rintro R ⟨y,rfl⟩;refine zr<|zp (yA B 0 5 z.cells.toArray g.2<|iz 5)<|zc 0 e1<|zf<|za N ?_;cases b1 with
  | true =>obtain⟨vR,g1,g2,g3,g4,g5⟩:=h2.hid<|eU .i64<|x.h+1;rw[ip rfl];exact zH<|zx<|zg 3 N<|zp (yl b 4 (num x.h) g1 (i:=g2))<|zg 3 N<|zp (ys b 4 (num<|eU .i64<|x.h+1) g1 oq)<|am ⟨rfl,kq,g4,q.trans g5⟩
  | false =>
   rw[iw iq];refine zG<|aB<|zr<|zp (yA B 0 5 z.cells.toArray L.2<|iz 5)<|zc 0 e2<|zf<|za m ?_;cases b2 with
   | true =>rw[Bool.true_or,ip rfl];have⟨s4,D,E,F⟩:=AJ (a.no 167 dq) (wT _ _) h3.1;exact zT<|zH<|zx<|zc 3 D<|am ⟨rfl,kq,⟨E,LJ⟩,u.trans F⟩
   | false =>
    rw[Bool.false_or];refine zG<|zx<|zp (yA B 0 5 z.cells.toArray M.2<|iz 5)<|zg 1 (m.add<|.cells (FQ.map str).toArray 9)<|zc 0 e3<|zf ?_;generalize (m.add<|.cells (FQ.map str).toArray 9).add (u6 z)=G at *;refine za G ?_;cases b3 with
    | true =>rw[ip rfl];have⟨s4,D,E,F⟩:=AJ (a.no 167 dq) (wT _ _) h4.1;exact zH<|zx<|zc 3 D<|am ⟨rfl,kq,⟨E,LJ⟩,A.trans F⟩
    | false =>
     rw[iw iq];have e5:=e4 G;have f5:=f4 G;have h5:=h4.fk f5;have C:=A.trans<|iR f5;refine zG<|zr<|zp (yA B 0 5 z.cells.toArray hz5.2<|iz 5)<|zg 1 (G.add<|.cells (JJ.map str).toArray 9)<|zc 0 e5<|zf ?_;generalize (G.add<|.cells (JJ.map str).toArray 9).add (u6 z)=S5 at *;refine za S5 ?_;cases b4 with
     | true =>
      rw[ip rfl];have⟨s4,D,E,F⟩:=IC (a.no 161 dq) (wT _ _) h5.1;refine zH<|zx<|zc 3 D<|am ⟨rfl,kq,⟨E,?_⟩,C.trans F⟩;show vT (if x.d=0 then 32 else x.d);split
      .exact .inr<|.inl ⟨oq,oq⟩
      .exact h.2
     | false =>rw[iw iq];exact zF ⟨rfl,kq,h5,C⟩
 refine zr<|zg 1 k<|zp (yl B 0 (num z.kind) g.2 (i:=c0)) ?_;cases hk:(z.kind==2) with
 | false =>refine zp (yb (num z.kind) (num 2)<|cW (b:=false) hk)<|zf<|za k ?_;rw[Bool.false_and,iw iq];refine zG<|bn (j _<|bu kq) ?_;rintro e Q o ⟨rfl,q1,q2,q3⟩;exact⟨.inl rfl,q1,q2,q3⟩
 | true =>
  refine zp (yb (num z.kind) (num 2)<|cW (b:=true) hk)<|zg 4 k<|zp (yl b 4 (num x.h) X.2 (i:=Z)) ?_;cases hh:(x.h==0) with
  | false =>refine zp (yb (num x.h) (num 0)<|cW (b:=false) hh)<|zf<|za k ?_;rw[Bool.and_false,iw iq];refine zG<|bn (j _<|bu kq) ?_;rintro e Q o ⟨rfl,q1,q2,q3⟩;exact⟨.inl rfl,q1,q2,q3⟩
  | true =>
   refine zp (yb (num x.h) (num 0)<|cW (b:=true) hh)<|zf<|za k ?_;rw[Bool.and_true,ip rfl];have⟨s6,D,E,F,k4⟩:=IV a.no a.YK (wT _ _) (t:=z.text) (λpos J=>vh z.text J) (Bd _) O.1 O.2 hl;refine zH<|aP kq kq kq<|zq<|zq<|zq<|zq<|zt k<|zu (yl B 3 (str z.text) g.2 (i:=c3))<|yt D<|bq ⟨kN<|JG (gW 9 g.2 (off:=3) c3),_,_,_,_,_,_,rfl,rfl,(⟨.inl rfl,kq,⟨E,F⟩,p.trans k4⟩)⟩
end
def oN (l:List bH):Nat:=(l.map λu=>u.text.length).sum
def vF (ns:List bH)(x:RX)(i:Nat):RX:=match ns[i]? with
 | some z=>UE z x
 | none=>x
def xF (ns:List bH)(x:RX)(i:Nat):RX:=match ns[i]? with
 | some z=>UG z x
 | none=>x
def Se (ns:List bH)(i:Nat)(x:RX):Prop:=x.l.length+8*oN (ns.drop i)<=800000000
def xU(ns:List bH):Bq:=(F6 ns (vF ns) (xF ns) ⟨[],0,0⟩).l
def A6(t:Bq):∀(n pos:Nat) (x:Bq × Int),vT x.2->(EQ t n pos x).1.length<=x.1.length+8*n
 | 0,_,x,_=>iz _
 | n+1,pos,x,h=>by
  unfold EQ;split
  .have⟨h1,h2⟩:=Fz h (fZ t pos).1
   have:=A6 t n (pos+(fZ t pos).2) _ h1;omega
  .omega
section
variable {c:Nat}{x:RX}
def P6{z:bH}:(UG z x).l=x.l:=by
 unfold UG;repeat' split
 all_goals rfl
def aaM:vT 32:=.inr<|.inl ⟨dq,dq⟩
def UF{z:bH}(b:vT x.d):vT (UE z x).d:=by
 have c:∀t (n a) y,vT y.2->vT (EQ t n a y).2:=by
  intro t n;induction n with
  | zero=>intro a y h;exact h
  | succ n e =>
   intro a y h;unfold EQ;split
   .exact e _ _ (Fz h _).1
   .exact h
 unfold UE;repeat' split
 .exact c _ _ _ _ b
 .exact b
 .exact LJ
 .exact aaM
 .exact b
 .exact b
def UH{z:bH}(a:vT x.d):vT (UG z x).d:=by
 unfold UG;repeat' split
 .exact a
 .exact LJ
 .exact a
def Zl(o:Ay pr)(m:ns.length<=400000000)(f:∀z∈ns,z.cells.all Value.oneCell'=true/\bQ 20 (KN z)=true):EM pr 80 81 b 131 ns nb (Ce b<|m8 nb ns.length c) (λi x=>Se ns i x/\vT x.d) (vF ns) (xF ns) where
 tt:=dq
 ty:=λh=>by have⟨p,g,_⟩:=h.cells;exact⟨p,_,g⟩
 keep:=λh g l q=>h.keep g l q
 beg:=λ{s i x fz} e h a hn=>by
  have n:=gE e
  have⟨g,l⟩:=f _<|zB e
  have a:=a.1
  unfold Se oN at a
  rw[List.drop_eq_getElem_cons e,rj,List.sum_cons] at a
  unfold vF
  rw[n]
  exact Wr o h hn n g l m oq
 en:=λ{s i k x fz} e h a hn=>by
  have n:=gE e
  have⟨g,l⟩:=f _<|zB e
  unfold xF
  rw[n]
  exact WH o h hn n g l m
 iB:=λ{i x} h=>by
  have⟨a,j⟩:=h
  unfold vF Se at *
  by_cases e:i<ns.length
  .
   rw[gE e]
   refine⟨?_,UF j⟩
   unfold oN at *
   rw[List.drop_eq_getElem_cons e,rj,List.sum_cons] at a
   have:(UE (ns[i]) x).l.length<=x.l.length+8*(ns[i]).text.length:=by
    unfold UE;repeat' split
    .exact A6 _ _ _ _ j
    all_goals exact Nat.le_add_right _ _
   simp only
   omega
  .
   rw[List.getElem?_eq_none oq]
   refine⟨?_,j⟩
   rw[Jk oq] at a |-
   exact a
 iE:=λ{i x k} h=>by
  have⟨a,j⟩:=h
  unfold xF
  split
  .
   exact⟨by unfold Se at *;rw[P6];exact a,UH j⟩
  .
   exact⟨a,j⟩
abbrev mN:Obj:=.cells #[.slice none 0 0,.pointer none,.slice none 0 0,.int .i32 0,num 0] 131
def SJ{X:Type}{pr:Prim}{l m b:Nat}{q:TypeId}{ns:List bH}{nb:Nat}{k:AS->X->Prop}{I:Nat->X->Prop}{fB fE:X->Nat->X}(V:EM pr l m b q ns nb k I fB fE){x:X}(h:I 0 x):∃i,I i (F6 ns fB fE x):=by
 have c:∀i w,I i w.2->∃j,I j (jB ns fB fE i w).2.2/\((jB ns fB fE i w).1=true->j=i+1):=by
  intro i w a;unfold jB;split
  .split
   .exact⟨i+1,V.iB<|V.ends a _,λ_=>O⟩
   .exact⟨i,V.ends a _,λe=>by cases e⟩
  .exact⟨i,a,λe=>by cases e⟩
 have f:∀n i w,I i w.2->∃j,I j (oM ns fB fE n i w).2.2:=by
  intro n;induction n with
  | zero=>intro i w a;exact⟨i,a⟩
  | succ n p =>
   intro i w a;have⟨j,d,o⟩:=c i w a;unfold oM;split
   .next e=>rw[o e] at d;exact p _ _ d
   .exact⟨j,d⟩
 have⟨j,g⟩:=f ns.length 0 ([],x) h;unfold F6;split
 .exact⟨j,V.ends g _⟩
 .exact⟨j,g⟩
def N4(y:Ay pr)(M:Vz pr)(q:pr 44=none){v:Value}(N:nR s v ns)(o:ns.length<=400000000)(a:∀z∈ns,z.cells.all Value.oneCell'=true/\bQ 20 (KN z)=true)(Y:oN ns<=90000000):∃D,Ef pr 44 #[v] s (str<|xU ns) D/\s.nx<=D.nx/\∀k,k<s.nx->Ry (s.get k)->Rx (s.get k)->D.get k=s.get k:=by
 obtain⟨nb,c,U,rfl,x,L⟩:=N.old;have B:(s.add mN).get s.nx=some mN:=by rw[AS.aZ,ip rfl]
 have C:((s.add mN).set s.nx<|some<|.cells #[m8 nb ns.length c,.pointer none,.slice none 0 0,.int .i32 0,num 0] 131).get s.nx=some (.cells #[m8 nb ns.length c,.pointer none,.slice none 0 0,.int .i32 0,num 0] 131):=by rw[AS.aN,ip rfl]
 have A:((s.add mN).set s.nx<|some<|.cells #[m8 nb ns.length c,.pointer none,.slice none 0 0,.int .i32 0,num 0] 131).nx=s.nx+1:=rfl;have g:cL (λ_=>False) s ((s.add mN).set s.nx<|some<|.cells #[m8 nb ns.length c,.pointer none,.slice none 0 0,.int .i32 0,num 0] 131):=aL ((aE s).add _) (λh=>absurd h oq) _;have H:Ce s.nx (m8 nb ns.length c) ((s.add mN).set s.nx<|some<|.cells #[m8 nb ns.length c,.pointer none,.slice none 0 0,.int .i32 0,num 0] 131) ⟨[],0,0⟩:=by
  refine⟨⟨_,.pointer none,.slice none 0 0,⟨by rw[A];omega,C⟩,rfl,λi P Q R=>?_,rfl,.inl rfl,rfl,rfl,.inl ⟨rfl,rfl⟩,λ_=>rfl⟩,.inl rfl⟩;match i with
  | 0=>rfl
  | 1=>exact absurd rfl P
  | 2=>exact absurd rfl Q
  | 3=>exact absurd rfl R
  | 4=>rfl
  | i+5=>rfl
 refine aX q func44 rfl<|zs<|zr<|zg 3 (s.add mN)<|zp (eX (b:=s.nx) (off:=0) (w:=.agg #[m8 nb ns.length c,.pointer none,.slice none 0 0,.int .i32 0,num 0]) rfl kq kq rfl rfl kq B iq)<|am<|za ((s.add mN).set s.nx<|some<|.cells #[m8 nb ns.length c,.pointer none,.slice none 0 0,.int .i32 0,num 0] 131) ?_;have V:=Zl (pr:=pr) (b:=s.nx) (nb:=nb) (c:=c) y o a;have e:Se ns 0 ⟨[],0,0⟩/\vT (0:Int):=⟨by unfold Se;rw[List.drop_zero];show 0+8*oN ns<=_;omega,.inl rfl⟩;have⟨S,r,I,u,d⟩:=Vf V M (c:=c) H e ((g.2 nb x id).trans L) oq o<|λz O=>(a z O).1;have⟨j,J⟩:=SJ V e;have m:(F6 ns (vF ns) (xF ns) ⟨[],0,0⟩).l.length<=1000000000:=by have:=J.1;unfold Se at this;omega
 have⟨T,t,f⟩:=Er (y.n 78 dq) (y.n 84 dq) u.1 m;unfold xU;generalize W:s.nx=b at *;generalize ns.length=K at *;refine zr<|zc 3 I<|am<|za S<|zr<|zc 1 t<|zf<|za T<|aD ⟨.inr rfl,kq,by have:=d.1;have:=f.1;omega,λk X F G=>?_⟩;have p:=g.2 k oq id;have E:=d.2 k oq oq oq (by rw[p];exact F) (by rw[p];exact G);rw[f.2 k (by have:=d.1;omega) oq (by rw[E,p];exact F),E,p]
end
def N6 (k:Nat):List bH->Bq × Int->Bq × Int
 | [],x=>x
 | y::ys,x=>if y.parent<(k:Int) then x else N6 k ys (if y.kind=2 then EQ y.text y.text.length 0 x else x)
def rG(ns:List bH):Bq:=if IJ ns 0<0 then [] else (N6 (IJ ns 0).toNat (ns.drop<|(IJ ns 0).toNat+1) ([],0)).1
def N5:∀l k,IJ l k = -1\/∃j,IJ l k=(j:Nat)/\j<k+l.length
 | [],k=>.inl O
 | y::l,k=>by
  unfold IJ;split
  .exact .inr ⟨k,O,iq⟩
  .rcases N5 l _ with h|⟨j,h1,h2⟩
   .exact .inl h
   .exact .inr ⟨j,h1,by rw[lC];omega⟩
abbrev SR:Aq:=#[aO,aO,aO]
def SS:R9 0 128 SR:=⟨kq,dq⟩
def GM (v:Value)(k F:Nat)(rv:Value)(n i:Nat)(x:Nq):TL:=[v,x 1,str [],num k,aC F 0,x 5,x 6,x 7,x 8,x 9,x 10,x 11,x 12,x 13,rv,num n,num i]++gG x 17 15
def Fl.fr{b o:Nat}{e:TypeId}{a:Aq}{l:Bq}{d:Int}(h:Fl s b o e a l d)(c:cL (λ_=>False) s s'):Fl s' b o e a l d:=by
 have i:b<s.nx:=by have⟨f,p,q,g,_⟩:=h;exact g.1
 exact h.keep c.1 (c.2 b i id) λk f m j _=>c.2 k j id
def Kn(U:Ay pr)(h43:pr 43=none)(h74:pr 74=none)(h75:pr 75=none){v:Value}(hr:nR s v ns)(XD:ns.length<=400000000)(O5:∀z∈ns,z.cells.all Value.oneCell'=true/\bQ 20 (KN z)=true)(ht:oN ns<=90000000):∃f,Ef pr 43 #[v] s (str<|rG ns) f/\s.nx<=f.nx/\∀k,k<s.nx->Ry (s.get k)->f.get k=s.get k:=by
 have⟨q,e1,X⟩:∃F,Ef pr 74 #[v,WQ] s (num<|IJ ns 0) F/\cL (λ_=>False) s F:=by
  obtain⟨k,c,O,rfl,H⟩:=hr.old;refine aX h74 func74 Y<|zs<|za s<|aB<|zs<|za s<|aV (U0 (.slice (sq k) ns.length c) ns.length 0) kq ?_;intro N;generalize q:IJ ns 0=g at *;generalize J:ns.length=n at *;refine aF<|bn (bw (Q:=λe j d=>(e=.exit 0/\cL (λ_=>False) s d/\g = -1/\∃x,j=U0 (.slice (sq k) n c) n n x)\/(e=.ret/\cL (λ_=>False) s d/\di prog f74 j d=some (num g))) (λm j d=>∃i,i+m=n/\cL (λ_=>False) s d/\IJ (ns.drop i) i=g/\∃x,j=U0 (.slice (sq k) n c) n i x) ?_ n _ _ ⟨0,oq,aE s,q,N,Y⟩) ?_
  .rintro m j d ⟨i,I,f,a,x,rfl⟩;by_cases P:0<m
   .have p:i<ns.length:=oq
    have D:ns[i]?=some ns[i]:=gE p;have⟨L,E⟩:=MH D;rw[List.drop_eq_getElem_cons p] at a;generalize ns[i]=y at D E a;have A:=H.fr f id;have⟨M,C,B⟩:=Qv (x:=y) (s:=d) h75 (U.n 76 dq) U.fM;have o:cL (λ_=>False) s M:=f.trans B λ_ _ z=>z;unfold IJ at a;generalize mV y qk=G at a C;refine zr<|zp (yb (num i) (num n)<|bE (b:=true)<|tD oq)<|am<|aB<|zT<|aB<|aF<|zs<|za d<|zr<|zg 3 d<|zp (yi k 0 n c (i*5) none .i64 (i:Nat) 5 oq oq oq)<|zo d<|zp (jq (b:=k) (off:=i*5) (n:=5) (r:=#[num y.kind,num y.parent,str y.name,str y.text,y.bC]) Y underlying44 Y kq kq A.2 L E)<|yc #[] #[] C<|am ?_;cases G with
    | true =>rw[ip Y] at a;refine zH<|zs ?_;subst a;exact aD<|.inr ⟨Y,o,kq⟩
    | false =>rw[iw iq] at a;exact zF<|zx<|zp (yp i 1 ((i+1:Nat):Int) oq oq)<|zf ⟨m-1,oq,i+1,oq,o,a,bu kq⟩
   .obtain rfl:i=n:=oq
    rw[Jk oq] at a;exact zr<|zp (yb (num i) (num i)<|bE (b:=false)<|fD oq)<|am<|aB<|zG<|aR<|.inl ⟨Y,f,a.symm,bu kq⟩
  .rintro e j d (⟨rfl,f,rfl,x,rfl⟩|⟨rfl,f,h⟩)
   .exact zs<|aD ⟨.inr Y,kq,f⟩
   .exact⟨.inr Y,h,f⟩
 have XH:=hr.fk X λ_ _=>id;have hvv:∃H cp,v=.slice H ns.length cp:=by have⟨d,c,S,e,_⟩:=hr;exact⟨_,_,e⟩
 refine aX h43 func43 rfl<|zs<|zr<|zc 1 e1<|zf<|za q<|aB<|zr<|zg 1 q ?_;unfold rG;rcases N5 ns 0 with hti|⟨k,hti,Z⟩
 .rw[hti,ip dq];exact zp (yb (num<|-1) (num 0)<|bE (b:=true) dq)<|am<|za q<|zH<|zs<|za q<|aD ⟨.inr rfl,by kernel_rfl,X.1,λk Z _=>X.2 k Z id⟩
 .rw[Nat.zero_add] at Z;rw[hti,iw oq,yE];have⟨p,c,S,hv,Tv,hn⟩:=XH;subst hv;have hzz:(q.add<|.cells #[.pointer none,.slice none 0 0,.int .i32 0] 128).get q.nx=some (.cells #[.pointer none,.slice none 0 0,.int .i32 0] 128):=by rw[AS.aZ,ip rfl]
  have WV:Fl (q.add<|.cells #[.pointer none,.slice none 0 0,.int .i32 0] 128) q.nx 0 128 SR [] 0:=by
   refine⟨_,.pointer none,.slice none 0 0,⟨iq,hzz⟩,rfl,λi i1 i2 i3=>?_,rfl,.inl rfl,rfl,rfl,.inl ⟨rfl,rfl⟩,λ_=>rfl⟩;match i with
   | 0=>exact absurd rfl i1
   | 1=>exact absurd rfl i2
   | 2=>exact absurd rfl i3
   | i+3=>rfl
  have P:Has (q.add<|.cells #[.pointer none,.slice none 0 0,.int .i32 0] 128) p (.cells (bN ns) 44 S):=Has.add ⟨Tv,hn⟩ _;have w6:j1 q.nx s (q.add<|.cells #[.pointer none,.slice none 0 0,.int .i32 0] 128):=iR<|X.add _;have Tx:p≠q.nx:=oq
  have abD:oN (ns.drop (k+1))<=oN ns:=by have h:=congrArg oN<|List.take_append_drop (k+1) ns;unfold oN at *;rw[Bf,List.sum_append] at h;omega
  generalize TA:N6 k (ns.drop<|k+1) ([],0)=l;refine zp (yb (num (k:Nat)) (num 0)<|bE (b:=false)<|fD oq)<|am<|za q<|zF<|zs<|za (q.add<|.cells #[.pointer none,.slice none 0 0,.int .i32 0] 128) ?_;generalize q.add (.cells #[.pointer none,.slice none 0 0,.int .i32 0] 128)=s2 at *;generalize hFF:q.nx=F at *;refine aB<|zr<|zg 2 s2<|zp (yp (k:Nat) 1 ((k+1:Nat):Int) oq oq) ?_;obtain⟨H,cp,ZR,had⟩:∃H cp,(∀(a:TL) (o:Oper),o.op=.slice 38 (.tmp 11) (some<|.tmp 13) none none->a.at (.tmp 11)=.slice (sq p) ns.length (ns.length+c)->a.at (.tmp 13)=num ((k+1:Nat):Int)->cf prog kg (λ_ _ _=>none) a o s2=some (.slice H (ns.length-(k+1)) cp,s2))/\(0<ns.length-(k+1)->H=some ⟨p,(k+1)*5,none⟩):=by
   by_cases mH:k+1<ns.length+c
   .refine⟨some ⟨p,(k+1)*5,none⟩,ns.length+c-(k+1),λa o h1 h2 h3=>?_,λ_=>rfl⟩
    have:=me (kt:=kg) (c:=λ_ _ _=>none) (b:=p) (off:=0) (n:=ns.length) (cp:=ns.length+c) (i:=k+1) (j:=ns.length) (sz:=5) h1 underlying38 h2 P.2 kq (by show bS _ _ (some<|a.at<|.tmp 13) none=_;rw[h3];exact(ig oq oq).trans (by rw[yE])) mH;rw[Nat.zero_add] at this;exact this
   .refine⟨some ⟨p,0,some 0⟩,1,λa o h1 h2 h3=>?_,λh=>by omega⟩
    have:=F1 (kt:=kg) (c:=λ_ _ _=>none) (b:=p) (off:=0) (n:=ns.length) (cp:=ns.length+c) (i:=k+1) (sz:=5) h1 underlying38 h2 P.2 kq (by show bS _ _ (some<|a.at<|.tmp 13) none=_;rw[h3];exact(ig oq oq).trans (by rw[yE];congr 2;omega)) mH;rw[show ns.length-(k+1)=0 by omega];exact this
  refine zp (ZR _ _ rfl kq kq) ?_;clear ZR;generalize hN:ns.length-(k+1)=N at *;refine zf<|za s2 ?_;generalize hV:Value.slice (sq p) ns.length (ns.length+c)=v at *;refine aV (GM v k F (.slice H N cp) N 0) kq ?_;intro x0;refine aF<|bn (bw (Q:=λe C f=>e=.exit 0/\j1 F s f/\(Fl f F 0 128 SR l.1 l.2/\vT l.2)/\l.1.length<=800000000/\∃i x,C=GM v k F (.slice H N cp) N i x) (λm C f=>∃i w,i+m=N/\j1 F s f/\(Fl f F 0 128 SR w.1 w.2/\vT w.2)/\Has f p (.cells (bN ns) 44 S)/\w.1.length+8*oN (ns.drop<|k+1+i)<=800000000/\N6 k (ns.drop<|k+1+i) w=l/\∃x,C=GM v k F (.slice H N cp) N i x) ?_ N _ _ ⟨0,([],0),by omega,w6,⟨WV,.inl rfl⟩,P,by show 0+8*oN (ns.drop<|k+1)<=_;omega,TA,x0,rfl⟩) ?_
  .rintro m C f ⟨i,⟨W,w2⟩,ZJ,T,⟨Y,u⟩,J,y,g,x,rfl⟩;simp only at Y u y;by_cases hm:0<m
   .obtain rfl:=had oq;have hi:k+1+i<ns.length:=oq
    have hx:ns[k+1+i]?=some ns[k+1+i]:=gE hi;have Xl:=List.drop_eq_getElem_cons hi;have⟨ho1,ho2⟩:=O5 _<|zB hi;rw[Xl] at y g;generalize ns[k+1+i]=z at *;have⟨vC,W5⟩:=ko hx;have hsr:oN (z::ns.drop (k+1+i+1))=z.text.length+oN (ns.drop<|k+1+i+1):=by unfold oN;rw[rj,List.sum_cons]
    rw[hsr] at y;unfold N6 at g;have JC:(f.add dG).get f.nx=some dG:=by rw[AS.aZ,ip rfl]
    have R:((f.add dG).set f.nx<|some<|.cells z.cells.toArray 44).get f.nx=some (.cells z.cells.toArray 44):=by rw[AS.aN,ip rfl]
    have M:cL (λ_=>False) f ((f.add dG).set f.nx<|some<|.cells z.cells.toArray 44):=aL ((aE f).add _) (λh=>absurd h oq) _;have L:=Y.fr M;have D:=J.fr M id;have O:j1 F s ((f.add dG).set f.nx<|some<|.cells z.cells.toArray 44):=T.trans<|iR M;refine zr<|zp (yb (num (i:Nat)) (num (N:Nat))<|bE (b:=true)<|tD oq)<|am<|aB<|zT<|aB<|aF<|za f<|zr<|zp (yi p ((k+1)*5) N cp ((k+1+i)*5) none .i64 (i:Nat) 5 oq oq oq)<|zo f<|zp (jq (b:=p) (off:=(k+1+i)*5) (n:=5) (r:=z.cells.toArray) rfl underlying44 rfl kq kq J.2 vC W5)<|zg 1 (f.add dG)<|zp (eX (b:=f.nx) (off:=0) (w:=.agg z.cells.toArray) (ws:=z.cells) rfl kq kq rfl ho1 kq JC<|by simp[bH.cells])<|am<|za ((f.add dG).set f.nx<|some<|.cells z.cells.toArray 44) ?_;generalize (f.add dG).set f.nx (some<|.cells z.cells.toArray 44)=K at *;generalize hB:f.nx=B at *;have c0:z.cells.toArray[0]?=some (num z.kind):=rfl;have c1:z.cells.toArray[1]?=some (num z.parent):=rfl;have c3:z.cells.toArray[3]?=some (str z.text):=rfl;refine aB<|zr<|zg 1 K<|zp (yl B 1 (num z.parent) R (i:=c1))<|zg 1 K ?_;by_cases A:z.parent<(k:Int)
    .rw[ip A] at g;subst g;refine zp (yb (num z.parent) (num (k:Nat))<|bE (b:=true)<|tD A)<|am<|za K<|zH<|aR ?_;simp only[xV,E6,show ¬(0:Nat)=1 by decide,if_false];exact⟨trivial,O,⟨L,u⟩,by show W.length<=_;omega,i,bu kq⟩
    .rw[iw A] at g;have I:∀(a8:TL) (V:AS) (G:Bq × Int),(∃y',a8=GM v k F (.slice (some ⟨p,(k+1)*5,none⟩) N cp) N i y')->j1 F s V->Fl V F 0 128 SR G.1 G.2/\vT G.2->Has V p (.cells (bN ns) 44 S)->G.1.length+8*oN (ns.drop<|k+1+i+1)<=800000000->N6 k (ns.drop<|k+1+i+1) G=l->Ew pr (match f43.body with|some (.seq _<|.seq _<|.seq _<|.seq _<|.seq (.seq _<|.block _<|.loop<|.seq _<|.seq _<|.seq _ cd) _)=>cd|_=>.skip) a8 V (λe C f=>match e with|.normal=>∃m',m'<m/\∃i w,i+m'=N/\j1 F s f/\(Fl f F 0 128 SR w.1 w.2/\vT w.2)/\Has f p (.cells (bN ns) 44 S)/\w.1.length+8*oN (ns.drop<|k+1+i)<=800000000/\N6 k (ns.drop<|k+1+i) w=l/\∃x,C=GM v k F (.slice (some ⟨p,(k+1)*5,none⟩) N cp) N i x|e=>e=.exit 0/\j1 F s f/\(Fl f F 0 128 SR l.1 l.2/\vT l.2)/\l.1.length<=800000000/\∃i x,C=GM v k F (.slice (some ⟨p,(k+1)*5,none⟩) N cp) N i x):=by
      rintro a8 V G ⟨y',rfl⟩ q1 q2 q3 q4 q5;refine bn (Q:=λe C Iu=>e=.normal/\Iu=V/\∃y',C=GM v k F (.slice (some ⟨p,(k+1)*5,none⟩) N cp) N (i+1) y') ?_ ?_
      .exact zx<|zp (yp (i:Nat) 1 ((i+1:Nat):Int) oq oq)<|zf ⟨rfl,by kernel_rfl,bu kq⟩
      .rintro e C Iu ⟨rfl,rfl,y2,rfl⟩;exact⟨m-1,by omega,i+1,G,by omega,q1,q2,q3,q4,q5,y2,rfl⟩
     refine zp (yb (num z.parent) (num (k:Nat))<|bE (b:=false)<|fD A)<|am<|za K<|zF<|zr<|zg 1 K<|zp (yl B 0 (num z.kind) R (i:=c0)) ?_;by_cases E:z.kind=2
     .rw[ip E] at g;have⟨s6,k1,k2,k3,k4⟩:=IV U.no U.YK SS (t:=z.text) (λpos abu=>vh z.text abu) (Bd _) L u oq;have HF:=A6 z.text z.text.length 0 (W,w2) u;have abk:Has s6 p (.cells (bN ns) 44 S):=⟨by have:=D.1;have:=k4.1;omega,(k4.2 p D.1 Tx<|jW D.2 dq).trans D.2⟩;generalize EQ z.text z.text.length 0 (W,w2)=G at *;exact zp (yb (num z.kind) (num 2)<|cW (b:=true)<|by rw[E];rfl)<|am<|za K<|zH<|zx<|zg 1 K<|zp (yl B 3 (str z.text) R (i:=c3))<|zc 0 k1<|am<|za s6<|I _ _ G (bu kq) (O.trans k4) ⟨k2,k3⟩ abk (by simp only at HF;omega) g
     .rw[iw E] at g;exact zp (yb (num z.kind) (num 2)<|cW (b:=false)<|bF.2 E)<|am<|za K<|zF<|I _ _ (W,w2) (bu kq) O ⟨L,u⟩ D (by show W.length+_<=_;omega) g
   .obtain rfl:i=N:=oq
    rw[Jk oq] at g;unfold N6 at g;subst g;exact zr<|zp (yb (num (i:Nat)) (num (i:Nat))<|bE (b:=false)<|fD oq)<|am<|za f<|aB<|zG<|aR ⟨rfl,T,⟨Y,u⟩,by show W.length<=_;omega,i,bu kq⟩
  .rintro e C f ⟨rfl,T,⟨Y,u⟩,y,i,x,rfl⟩;have⟨s3,g1,g2⟩:=Er (U.n 78 dq) (U.n 84 dq) Y oq;generalize l.1=tx at *;refine zr<|zc 0 g1<|zf<|za s3<|aD ⟨.inr rfl,by kernel_rfl,by have:=T.1;have:=g2.1;omega,λk Z h5=>?_⟩;have hkF:k≠F:=by have:=X.1;omega
   have e2:=T.2 k Z hkF h5;rw[g2.2 k (by have:=T.1;omega) hkF (by rw[e2];exact h5),e2]
end
section
variable {pr:Prim}{s s':AS}{us:List Nd}{v:Value}{ι:Type}{P:Program}{KT:TypeId->Prop}{An:eN}{N0:ι->Nat}{M:ι->World->Nat->Prop}{D:ι->World->World->Array Event->Prop}{kt:TypeId->Bool}{aA:TL}{Post:Value->World->Prop}{Ex:Nat->Prop}{w₀:World}{px pb:Nat}{ps:List (Bq)}
def Ut{y:Int}{n:Nat}(d:pr 19=none)(f : -9223372036854775808<=y/\y<=9223372036854775807):Ef pr 19 #[num y,num ((n+1:Nat):Int)] s (num ((vg y ((n+1:Nat):Int):Nat):Int)) s:=by
 have c:∀z:Int,0<=z->z.tmod _=((z % (n+1:Nat)).toNat:Int):=λz e=>by rw[Int.tmod_eq_emod_of_nonneg e,Int.toNat_of_nonneg<|Int.emod_nonneg _ oq]
 refine aH d func19 Y<|zs<|aB<|zr<|zk 1 ?_;by_cases h:y<0
 .have a:(-(y+1)).tmod ((n+1:Nat):Int)=(vg y ((n+1:Nat):Int):Nat):=by unfold vg;rw[ip h];exact c _ oq
  exact zp (yb (num y) (num 0)<|bE<|tD h)<|am<|zH<|zx<|zk 1<|zp (Ic (j:=1) (r:=y+1) Y kq kq Y oq)<|zo s<|bU kq ((show _=some (num<|IntKind.i64.wrap<|0-(y+1),s) by kernel_rfl).trans<|by rw[R2 oq,Int.zero_sub])<|zf<|zr<|zk 2<|zo s<|bU kq ((show _=some (num<|(-(y+1)).tmod _,s) by kernel_rfl).trans<|by rw[a])<|zf yR
 .have a:y.tmod ((n+1:Nat):Int)=(vg y ((n+1:Nat):Int):Nat):=by unfold vg;rw[iw h];exact c _ oq
  exact zp (yb (num y) (num 0)<|bE (b:=false)<|fD h)<|am<|zF<|zr<|zk 2<|zo s<|bU (v:=num _) (s1:=s) kq ((show _=some (num<|y.tmod _,s) by kernel_rfl).trans<|by rw[a])<|zf yR
def Hg(a:pr 160=none){e:Bq}{r d:Int}{s1:AS}(c:Ef pr 264 #[str e,.int .i32 r] s (num d) s1):Ef pr 160 #[str e,.int .i32 r] s (.bool<|decide (0<=d)) s1:=by refine aH a func160 Y<|zs<|zr<|zc 2 c<|zp (yb (num d) (num 0)<|fQ Y) ?_;exact zf yR
def TQ(h:pr 264=none)(c:pr 334=none)(d:pr 373=bP 373){b:UInt8}(k:b.toNat<128)(a:Bq):Ef pr 264 #[str a,.int .i32 (b.toNat:Int)] s (num<|km b.toNat a 0) s:=by
 have c:Ef pr 334 #[str a,.int .u8 (b.toNat:Int)] s (num<|km b.toNat a 0) s:=by
  have d:Ef pr 373 #[str a,.int .u8 (b.toNat:Int)] s (num<|km b.toNat a 0) s:=by obtain⟨g,i⟩:∃g,bP 373=some g:=⟨_,Y⟩;have e:=iQ (P:=prog) (kt:=kg) (pr:=bP) (f:=373) (args:=#[str a,.int .u8 (b.toNat:Int)]) (s:=s) (v:=num<|km ((b.toNat:Int).toNat % 256) a 0) (s':=s) 1 kq;rw[toNat_mod] at e;have⟨m,e⟩:=e;refine gp (d.trans i) ?_;unfold ck at e;rw[i] at e;exact e
  exact aH c func334 Y<|zs<|zr<|zc 2 d<|zf<|aD ⟨.inr Y,by kernel_rfl,by kernel_rfl⟩
 exact aH h func264 Y<|zs<|aF<|zr<|zk 1<|zp (yb (.int .i32 0) (.int .i32 (b.toNat:Int))<|cx (b:=true)<|tD oq)<|zk 2<|zp (yb (.int .i32 (b.toNat:Int)) (.int .i32 128)<|eO (b:=true)<|tD oq)<|zf<|zH<|zr<|zg 2 s<|bU (s1:=s) kq ((show _=some (Value.int .u8<|IntKind.u8.wrap (b.toNat:Int),s) by kernel_rfl).trans<|by rw[IntKind.wrap_u8,show(b.toNat:Int) % 256=(b.toNat:Nat) by omega])<|zo s<|yf c<|zf<|aD ⟨.inr Y,by kernel_rfl,by kernel_rfl⟩
def OC(c:pr 160=none)(a:pr 264=none)(d:pr 334=none)(g:pr 335=none)(f:pr 373=bP 373){r:Int}(o:0<=r/\r<=1114111):∃i,Ef pr 160 #[str Ct,.int .i32 r] s (.bool<|gL r Ct) i:=by
 have j:I0 Ct:=by unfold I0;decide
 by_cases t:r<128
 .obtain⟨n,rfl⟩:=Int.eq_ofNat_of_zero_le o.1;have p:(UInt8.ofNat n).toNat=n:=by rw[UInt8.toNat_ofNat'];omega
  have:=Hg c<|TQ (s:=s) a d f (b:=UInt8.ofNat n) oq Ct;rw[p] at this;have e:gL n Ct=decide (0<=km n Ct 0):=by
   have q:n<128:=oq
   have k:∀m:_root_.Fin 128,gL m.1 Ct=decide (0<=km m.1 Ct 0):=by decide +kernel
   exact k ⟨n,q⟩
  rw[e];exact⟨s,this⟩
 .rw[v6 (.inr oq) j];obtain⟨i,h⟩:∃i,Ef pr 264 #[str Ct,.int .i32 r] s _ i:=by
   by_cases l:r=65533
   .subst l;exact⟨_,Mg a j<|Bd _⟩
   .exact⟨s,HO a g d f j ⟨oq,o.2⟩ l⟩
  exact⟨i,Hg c h⟩
def Sq{d e n k:Nat}(h:d<e):ej (.slice (sq d) n k) (sq e)=true:=by
 show(!Nat.beq d e)=true;cases hq:Nat.beq d e with
 | true=>have:=iC hq;omega
 | false=>rfl
def Ui{n m:Nat}(h:n<=m){x:Value}(a:rM n x=true):rM m x=true:=by
 have c:∀b,Nat.blt b n=true->Nat.blt b m=true:=λb d=>by rw[Nat.blt_eq] at d |-;omega
 unfold rM at a |-;split at a;iterate 2
  .exact c _ a
 .exact a
def Tm (s:AS):Prop:=∀b cs ty fz,s.get b=some (.cells cs ty fz)->cs.toList.all (rM s.nx)=true
def Tm.add(h:Tm s){f:Aq}{j:TypeId}{fz:Nat × Nat}(g:f.toList.all (rM<|s.nx+1)=true):Tm (s.add<|.cells f j fz):=by
 intro b c e d a;rw[AS.aZ] at a;split at a
 .cases a;exact g
 .exact aT.2 λz i=>Ui (Nat.le_succ _)<|aT.1 (h b c e d a) z i
def Tm.set(h:Tm s){k:Nat}{f:Aq}{i:TypeId}{fz:Nat × Nat}(g:f.toList.all (rM s.nx)=true):Tm (s.set k<|some<|.cells f i fz):=by
 intro b c e d a;rw[AS.aN] at a;split at a
 .cases a;exact g
 .exact h b c e d a
def Tm.none(h:Tm s){k:Nat}:Tm (s.set k none):=by
 intro b c e d a;rw[AS.aN] at a;split at a
 .cases a
 .exact h b c e d a
def Vy (s:AS)(pv:Value)(ps:List (Bq)):Prop:=(pv=aO/\ps=[])\/∃d fz,pv=.slice (some ⟨d,0,none⟩) ps.length ps.length/\Has s d (.cells (ps.map str).toArray 9 fz)
def QQ (s:AS)(pb:Nat)(ps:List (Bq))(n:Nat):Prop:=∃pv,Has s pb (uw pv n false)/\Vy s pv ps
def Oq (o:Option Obj):Prop:=∀cs fz,o≠some (.cells cs 9 fz)
def pF{a:Aq}{t:TypeId}{fz:Nat × Nat}{o:Option Obj}(h:o=some (.cells a t fz))(d:t≠9):Oq o:=λb c e=>by
 rw[h] at e;injection e with q
 injection q with _ q2
 exact d q2
def Wb (pb:Nat)(s s':AS):Prop:=s.nx<=s'.nx/\∀k,k<s.nx->k≠pb->Oq (s.get k)->s'.get k=s.get k
def Wb.refl(b:Nat)(s:AS):Wb b s s:=⟨lr,λ_ _ _ _=>Y⟩
def aaI{v:Value}{ps:List (Bq)}(h:Vy s v ps)(t:Bq)(g:ps.length<=400000000):∃w a,ce prog 9 v [str t] 1 s=some (w,a)/\w.cells=#[w]/\w.oneCell'=true/\Vy a w (ps++[t])/\s.nx<=a.nx/\(∀k,k<s.nx->Oq (s.get k)->a.get k=s.get k)/\(Tm s->Tm a)/\rM a.nx w=true:=by
 rcases h with ⟨rfl,rfl⟩|⟨d,fz,rfl,hd⟩
 .refine⟨_,_,kI dq,Y,Y,.inr ⟨s.nx,(1,1),Y,aI s _⟩,iq,λk f _=>by rw[AS.aZ,iw oq],λh=>h.add<|by simp[rM,eW],by show Nat.blt s.nx _=true;simp[Nat.blt_eq]⟩
 .have b:ps.length*1<=((ps.map str).toArray).size:=iq
  refine⟨_,_,im dq hd.2 kq b oq,Y,Y,.inr ⟨s.nx,(1,1),by rw[lA];rfl,?_⟩,iq,λk f c=>?_,λh=>?_,by show Nat.blt s.nx _=true;simp[Nat.blt_eq]⟩
  .have e:((ps.map str).toArray.toList.take (ps.length*1)++[str t]).toArray=((ps++[t]).map str).toArray:=by rw[Nat.mul_one,Bf,tL iq];rfl
   rw[e];exact aI _ _
  .rw[AS.aZ,iw<|by simp;omega,AS.aN,iw<|λe=>by rw[e] at c;exact c _ _ hd.2]
  .refine h.none.add ?_;rw[Nat.mul_one,tL iq,List.all_append,nU];exact⟨(by rw[aT];intro z a;obtain⟨t,i,rfl⟩:=List.mem_map.1 (by simpa using a);rfl),Y⟩
def LP{t:Bq}{g n:Nat}{ps:List (Bq)}(h:QQ s g ps n)(hn:n+t.length<=20000)(hp:ps.length<=20000):∃M,(∀p:Prim,p 20=none->(t≠[]->∀s,Ef p 36 #[str t] s (str t) s)->Ef p 20 #[aC g 0,str t] s (num 0) M)/\QQ M g (if t=[] then ps else ps++[t]) (n+t.length)/\Wb g s M/\(Tm s->Tm M):=by
 have⟨y,D,A⟩:=h;have o:∀(p:Prim) (Q:Exit->TL->AS->Prop),(∀a,(∃x:Nq,a=[aC g 0,str t,x 2,x 3,num 0]++gG x 5 37)->Ew p (match f20.body with|some (.seq _<|.seq (.block _<|.seq _<|.cond _ _<|.seq _<|.cond _ _ c) _)=>c|_=>.skip) a s Q)->Ew p (match f20.body with|some (.seq _<|.seq (.block _ c) _)=>c|_=>.skip) ([aC g 0,str t]++[undef,undef,num 0]++List.replicate 37 undef) s Q:=by intro p Q hQ;exact zr<|zg 3 s<|zp (yl g 2 (.bool false) D.2)<|zf<|za s<|zG<|zr<|zk 1<|zp (dL (l:=t) rfl underlying9 kq)<|zg 3 s<|zp (yl g 1 (num n) D.2)<|zp (gO (i:=20000) (j:=(n:Nat)) (r:=20000-(n:Int)) rfl kq kq rfl oq)<|zp (bz (u:=num t.length) (w:=num<|20000-(n:Int)) rfl kq kq<|fA (b:=false)<|fD oq)<|zf<|za s<|zG<|hQ _<|bu (f:=λx=>[aC g 0,str t,x 2,x 3,num 0]++gG x 5 37) kq
 by_cases L:t=[]
 .subst L;rw[ip rfl];refine⟨s,λp C E=>aH C func20 rfl<|zs<|za s<|aB<|aF<|o p _ λa ⟨x,T⟩=>?_,⟨y,D,A⟩,Wb.refl g s,id⟩;subst T;exact zs<|za s<|zF<|zs<|aD ⟨.inr rfl,kq,kq⟩
 .rw[iw L];have J:=D.add<|.cells #[str t] 9;have b1:=aI s<|.cells #[str t] 9;have H:Vy (s.add<|.cells #[str t] 9) y ps:=by
   rcases A with z|⟨d,q,z1,z2⟩
   .exact .inl z
   .exact .inr ⟨d,q,z1,z2.add _⟩
  have G:ej y (sq s.nx)=true:=by
   rcases A with ⟨rfl,_⟩|⟨d,q,rfl,z2⟩
   .rfl
   .exact Sq z2.1
  have⟨w,m,e1,e2,e3,e4,e5,V,e7,e8⟩:=aaI H t oq;have K:Has m g (uw y n false):=⟨by have:=J.1;omega,(V g J.1<|pF J.2 dq).trans J.2⟩;have U:=K.put<|uw w n false;have R:(m.set g<|some<|uw w n false).set g (some<|uw w (n+t.length) false)=m.set g (some<|uw w (n+t.length) false):=AS.set_set _ _ _ _;have a4:=K.put<|uw w (n+t.length) false;have S:∀d q,w=.slice (sq d) (ps++[t]).length (ps++[t]).length->Has m d (.cells ((ps++[t]).map str).toArray 9 q)->Has (m.set g<|some<|uw w (n+t.length) false) d (.cells ((ps++[t]).map str).toArray 9 q):=λd q _ Y=>Y.set (Y.ne K dq) _;have X:QQ (m.set g<|some<|uw w (n+t.length) false) g (ps++[t]) (n+t.length):=by
   refine⟨w,a4,?_⟩;rcases e4 with z|⟨d,q,z1,z2⟩
   .exact .inl z
   .exact .inr ⟨d,q,z1,S d q z1 z2⟩
  have W:Wb g s (m.set g<|some<|uw w (n+t.length) false):=by
   refine⟨by have:(s.add<|.cells #[str t] 9).nx=s.nx+1:=rfl;simp;omega,λk hk hb h9=>?_⟩;have e:(s.add<|.cells #[str t] 9).get k=s.get k:=by rw[AS.aZ,iw oq]
   rw[AS.aN,iw hb,V k (by show k<s.nx+1;omega)<|by rw[e];exact h9,e]
  have F:Tm s->Tm (m.set g<|some<|uw w (n+t.length) false):=λh=>(e7<|h.add rfl).set (by simp[e8];simp[rM,eW]);refine⟨_,λp C E=>?_,X,W,F⟩;have hc:=E L s;clear F X W;have Z:=gW 62 D.2 (off:=0) (v:=y) rfl;have B:bQ 20 y=true:=by
   rcases A with ⟨rfl,_⟩|⟨d,q,rfl,_⟩
   .rfl
   .rfl
  refine aH C func20 rfl<|zs<|za s<|aB<|aF<|o p _ λa ⟨x,T⟩=>?_;subst T;generalize N:s.add (.cells #[str t] 9)=S1 at *;generalize O:m.set g (some<|uw w n false)=I at *;generalize m.set g (some<|uw w (n+t.length) false)=S4 at *;exact zr<|zk 1<|zp (bz (u:=str t) (w:=str []) rfl kq kq<|by unfold dV;simp only;rw[p9 L])<|zf<|za s<|zH<|aB<|aP kq kq kq<|zq<|zq<|zq<|zq<|zt s<|zu (yl g 0 y D.2)<|zq<|zt s<|ET.y6 #[str t] kq rfl rfl kq kq hc<|zq<|ET.I9 S1 ((show _=s.add (.cells #[str t] 9) by kernel_rfl).trans N)<|zu (Ig (sl:=y) (d:=s.nx) (k:=1) (z:=str []) (w:=str t) (bytes:=16) rfl kq kq underlying62 kq rfl dq kq b1.2 G rfl e1)<|zq<|zq<|zt m<|zu (iH (b:=g) (off:=0) (w:=w) rfl kq kq e2 e3 kq K.2 iq)<|bq ⟨kN<|jT Z Z B B,_,_,_,_,_,_,rfl,rfl,(fe I ((show _=m.set g (some<|uw w n false) by kernel_rfl).trans O)<|zx<|zg 3 I<|zp (yl g 1 (num n) U.2)<|zk 1<|zp (dL (l:=t) rfl underlying9 kq)<|zp (jY (i:=(n:Nat)) (j:=(t.length:Nat)) (r:=((n+t.length:Nat):Int)) rfl kq kq oq oq)<|zg 2 I<|zp (iH (b:=g) (off:=1) (w:=num ((n+t.length:Nat):Int)) rfl kq kq rfl rfl kq U.2 iq)<|am<|fe S4 ((show _=I.set g (some<|uw w (n+t.length) false) by kernel_rfl).trans R)<|zs<|aD ⟨.inr rfl,kq,kq⟩)⟩
def wG:∀ps:List (Bq),(ps.map λt=>(⟨t.toArray⟩)).flatMap bytesOf=bytesOf ⟨ps.flatten.toArray⟩
 | []=>rfl
 | t::ps=>by rw[rj,List.flatMap_cons,wG ps];unfold bytesOf;simp
structure QN(pr:Prim)(pb:Nat)(s:AS)(us:List Nd):Prop where
 ex:∃s' wv xs,EF prog kg pr 21 #[aC pb 0] s (.tuple #[aC s.nx 0,num 0]) s'/\Has s' s.nx (.cells #[wv] 82)/\nR s' wv xs/\fK s' xs us/\(∀k o,k<s.nx->k≠pb->Oq (s.get k)->s.get k=some o->oL o=true->Has s' k o)/\∀k,k<s.nx->k≠pb->s.get k=none->s'.get k=none
section
variable {rN:Prim}
def Us{pv:Value}{ps:List (Bq)}(h:Vy s pv ps):∃a,DW pv s=some (ps.map λt=>(⟨t.toArray⟩:ByteArray),a)/\a.nx=s.nx/\∀b,Oq (s.get b)->a.get b=s.get b:=by
 rcases h with ⟨rfl,rfl⟩|⟨d,fz,rfl,hd⟩
 .exact⟨s,Y,Y,λ_ _=>Y⟩
 .refine⟨s.set d none,?_,Y,λb c=>by rw[AS.aN,iw<|λe=>by rw[e] at c;exact c _ _ hd.2]⟩;show(match s.get d with|some (.cells cs 9 _)=>_|_=>_)=_;rw[hd.2];simp only;have e:xQ (ps.map str)=some (ps.map λt=>(⟨t.toArray⟩)):=by have:=Ai<|ps.map λt=>(⟨t.toArray⟩);rw[List.map_map] at this;exact this
  rw[ip ⟨iq,hd.1⟩,tL iq,e]
def Q8{g n:Nat}{ps:List (Bq)}{t:Bq}(hP:QQ s g ps n)(ZP:ps.length<=20000)(h1:Has s 1 (.cells dy.toArray 335))(hT:Tm s)(hr:G0 (s.nx+1) s.nx rN us)(ht:ps.flatten=t) :
  ∃m,∀E:Prim,E 21=none->QN (mg prog m (s.nx+1) ⟨t.toArray⟩ AS.all rN E) g s us:=by
 have⟨pv,S,hpv⟩:=hP;have M:=S.add<|.cells #[aO] 82;have T:=aI s<|.cells #[aO] 82;have k1:=h1.add<|.cells #[aO] 82;have J:Tm (s.add<|.cells #[aO] 82):=hT.add rfl;have q:(s.add<|.cells #[aO] 82).nx=s.nx+1:=rfl;have u:Vy (s.add<|.cells #[aO] 82) pv ps:=by
  rcases hpv with z|⟨d,F,z1,z2⟩
  .exact .inl z
  .exact .inr ⟨d,F,z1,z2.add _⟩
 have r:∀k,k<s.nx->(s.add<|.cells #[aO] 82).get k=s.get k:=λk P=>by rw[AS.aZ,iw oq]
 have hpb:=S.1;generalize Z:s.add (.cells #[aO] 82)=v at M T k1 J q u r;have⟨sB,hpc,X,p⟩:=Us u;obtain⟨R,Y⟩:∃R:AS,R=⟨sB.hp,s.nx+1+1⟩:=⟨_,rfl⟩;have l:∀b,R.get b=sB.get b:=λb=>by rw[Y];rfl
 have rnx:R.nx=s.nx+1+1:=by rw[Y]
 have r1:=(l 1).trans<|(p 1<|pF k1.2 dq).trans k1.2;have rp:=(l _).trans<|(p _<|pF T.2 dq).trans T.2;have rpb:=(l _).trans<|(p _<|pF M.2 dq).trans M.2;have⟨i,wv,xs,N,e2,e3,e4,O,e6⟩:=hr.run R rnx r1 rp;have C:AS.keeps sB i=true:=by
  unfold AS.keeps;rw[aT];intro b hb;have hb:b<s.nx+1:=by have:=List.mem_range.1 hb;rw[X,q] at this;exact this
  rw[<-l b];by_cases H:b=s.nx
  .rw[H,e2.2];simp
  .rw[O.2 b oq H];cases R.get b<;>rfl
 have htm:v.Km=true:=by
  unfold AS.Km;rw[aT];intro b _;cases D:v.get b with
  | none=>rfl
  | some o=>cases o<;>first|rfl|exact J b _ _ _ D
 have⟨m,hm⟩:=Ng (str:=⟨t.toArray⟩) (r0:=s.nx+1) (pv:=pv) (sB:=sB) (vj:=AS.all) (rN:=rN) (s:=v) (s1:=i.all) (f:=38) (bL:=f38) (y:=#[aC s.nx 0]) hpc (by rw[wG,ht]) (by rw[List.length_map];omega) func38 rfl rfl q htm (by show(Nat.blt s.nx v.nx&&true)=true;rw[q];simp[Nat.blt_eq]) (by have N:=N;rw[Y] at N;rw[q];exact bn N λe a s' h=>⟨h.1,by rw[h.2];exact C,by rw[h.2]⟩);have I:Has R g (uw pv n false):=⟨oq,rpb⟩;have A:=(I.fr O oq).all rfl;refine⟨m,λE V=>⟨?_⟩⟩;have W:=hm E;have G:mg prog m (s.nx+1) ⟨t.toArray⟩ AS.all rN E 21=none:=by unfold mg;rw[iw dq];exact V
 have j:cL (λx=>x=g) i.all (i.all.set g<|some<|uw aO 0 true):=aL (K:=λx=>x=g) (aE _) (λ_=>rfl) _;have U:=(e2.all rfl).fr j oq;have gN:nR (i.all.set g<|some<|uw aO 0 true) wv xs:=by have⟨d,c,F,e,h⟩:=e3.all;exact⟨d,c,F,e,h.fr j<|h.ne A dq⟩
 have gM:=e4.all.fk j λx cs F hx=>hx.ne A dq;have gK:∀k o,k<s.nx->k≠g->Oq (s.get k)->s.get k=some o->oL o=true->Has _ k o:=λk o P B h9 D uX=>by have L:=r k P;have q2:Has R k o:=⟨oq,(l k).trans<|(p k<|by rw[L];exact h9).trans<|L.trans D⟩;exact((q2.fr O oq).all uX).fr j B
 have gZ:∀k,k<s.nx->k≠g->s.get k=none->(i.all.set g<|some<|uw aO 0 true).get k=none:=λk P B D=>by
  have L:=r k P;have q2:R.get k=none:=(l k).trans<|(p k<|by rw[L,D];intro cs F e;cases e).trans<|L.trans D;have q3:i.get k=none:=(O.2 k oq oq).trans q2;rw[AS.aN,iw B];cases h:i.all.get k with
  | none=>rfl
  | some o=>rw[((wm (List.range i.nx) i).2 k o h).1] at q3;cases q3
 refine⟨_,wv,xs,?_,U,gN,gM,gK,gZ⟩;have hpn:s.nx=s.nx:=rfl;generalize hpg:s.nx=pg at *;generalize hS6:i.all.set g (some<|uw aO 0 true)=S6 at *;generalize i.all=Q at *;refine aH G func21 rfl<|zs<|za s<|aB<|zr<|zg 3 s<|zp (yl g 2 (.bool false) S.2)<|am<|za s<|zF<|zr<|zk 1<|dY v ((show _=s.add (.cells #[aO] 82) by kernel_rfl).trans Z)<|am<|za v<|aV (λx=>[aC g 0,x 1,.pointer none,num 0,aC s.nx 0]++gG x 5 13) kq ?_;intro x;rw[hpg];exact zr<|zg 3 v<|zp (yl g 0 pv M.2)<|zc 1 W<|am<|za Q<|zr<|zg 3 Q<|zp (eX (b:=g) (off:=0) (w:=.agg #[aO,num 0,.bool true]) rfl kq kq rfl rfl kq A.2 iq)<|am<|fe S6 ((show _=Q.set g (some<|uw aO 0 true) by kernel_rfl).trans hS6)<|zs yR
structure RdP(pr:Prim)(t:Bq)(s:AS)(us:List Nd):Prop where
 ex:∃s' pg wv xs,EF prog kg pr 17 #[str t] s (aC pg 0) s'/\Has s' pg (.cells #[wv] 82)/\nR s' wv xs/\fK s' xs us/\(∀k o,k<s.nx->Oq (s.get k)->s.get k=some o->oL o=true->Has s' k o)/\(∀k,k<s.nx->s.get k=none->s'.get k=none)/\s.nx<=pg
def UJ{t:Bq}{J9:Nat->Prim}(hl:t.length<=20000)(F:Has s 1 (.cells dy.toArray 335))(T:Tm s)(X:∀r,s.nx<=r->G0 (r+1) r (J9<|r+1) us) :
  ∃m r,s.nx<=r/\∀d:Prim,(t≠[]->∀s,Ef d 36 #[str t] s (str t) s)->(∀f,f∈[17,18,20,21]->d f=none)->(∀s,t≠[]->Ef (mg prog m (r+1) ⟨t.toArray⟩ AS.all (J9<|r+1) d) 36 #[str t] s (str t) s)->RdP (mg prog m (r+1) ⟨t.toArray⟩ AS.all (J9<|r+1) d) t s us:=by
 have H:=aI s<|uw aO 0 false;have z:QQ _ s.nx [] 0:=⟨aO,H,.inl ⟨rfl,rfl⟩⟩;have A:Tm (s.add<|uw aO 0 false):=T.add rfl;have q:=F.add<|uw aO 0 false;have c:∀k,k<s.nx->(s.add<|uw aO 0 false).get k=s.get k:=λk n=>by rw[AS.aZ,iw oq]
 have W:(s.add<|uw aO 0 false).nx=s.nx+1:=rfl;have⟨a,O,P,h,Q⟩:=LP (t:=t) z oq iq;have Y:Has a 1 _:=⟨by have:=h.1;have:=q.1;omega,(h.2 1 q.1 (by have:=F.1;omega)<|pF q.2 dq).trans q.2⟩;have l:(if t=[] then ([]:List (Bq)) else []++[t]).length<=20000/\(if t=[] then ([]:List (Bq)) else []++[t]).flatten=t:=by
  split
  .next e=>subst e;exact⟨dq,rfl⟩
  .exact⟨iq,iq⟩
 have U:=h.1;have⟨m,V⟩:=Q8 P l.1 Y (Q A) (X a.nx oq) l.2;refine⟨m,a.nx,oq,λd S j i=>⟨?_⟩⟩;have⟨D,Z,xs,I,J,K,L,M,N⟩:=(V d<|j 21 iq).ex;have y:∀f,f∈[17,18,20]->mg prog m (a.nx+1) ⟨t.toArray⟩ AS.all (J9<|a.nx+1) d f=none:=λf B=>by
  have x:f≠37:=by rintro rfl;revert B;decide
  unfold mg;rw[iw (by simpa using x)];refine j f ?_;simp only[oc,zL,or_false] at B;rcases B with rfl|rfl|rfl<;>simp
 have v:=O _ (y 20 iq) λR s=>i s R;have b:=MF (s:=s)<|y 18 iq;have w:=y 17 iq;refine⟨D,a.nx,Z,xs,?_,J,K,L,λk o n G p C=>?_,λk n p=>?_,oq⟩
 .unfold YM at b;generalize s.add _=E at *;generalize a.nx=pg at *;generalize s.nx=pb at *;exact aH w func17 rfl<|zs<|zr<|zc 0 b<|zf<|za E<|aB<|zr<|zf<|za E<|zF<|zr<|zc 2 v<|zf<|za a<|zr<|zc 1 I<|zf<|za D<|aB<|zr<|zf<|za D<|zF<|zs yR
 .have g:=c k n;have u:=h.2 k oq oq (by rw[g];exact G);exact M k o oq oq (by rw[u,g];exact G) (by rw[u,g];exact p) C
 .have g:=c k n;have u:=h.2 k oq oq (by rw[g,p];intro cs fz e;cases e);exact N k oq oq<|by rw[u,g];exact p
end
def dE (l:List Nd):Nat:=(l.map λu=>u.text.length).sum
section
variable {σ:TS}{nm:Bq}{aY:kH}{u:Nd}
def Y7(l m:List Nd):dE (l++m)=dE l+dE m:=by unfold dE;simp
def xR:∀(l:List Nd) (k:Nat) (v:Nd),dE (l.set k v)+(l.getD k ⟨0,0,[],[],[]⟩).text.length<=dE l+v.text.length
 | [],k,v=>by simp[dE]
 | x::l,0,v=>by unfold dE;simp;omega
 | x::l,k+1,v=>by have:=xR l k v;unfold dE at this |-;simp only[List.set_cons_succ,rj,List.sum_cons,List.getD_cons_succ];omega
def Ip:dE (σ.put u).nodes=dE σ.nodes+u.text.length:=by unfold TS.put;simp[dE]
def rr:dE (σ.open_ nm aY).nodes=dE σ.nodes:=by show dE (σ.put ⟨1,0,nm,[],aY⟩).nodes=_;rw[Ip];rfl
def RU:dE (σ.fS nm aY).nodes=dE σ.nodes:=by
 unfold TS.fS;split
 .exact Ip
 .exact rr
def L1(i:Nat):dE (σ.give i aY).nodes<=dE σ.nodes:=by have:=xR σ.nodes (σ.row.getD i 0) { σ.mA (σ.row.getD i 0) with bC:=aY.foldl fc (σ.mA<|σ.row.getD i 0).bC };have e:(σ.nodes.getD _ ⟨0,0,[],[],[]⟩).text.length=(σ.mA<|σ.row.getD i 0).text.length:=Y;unfold TS.give TS.j8;simp only at this |-;omega
def FA{α:Type}{f:TS->α->TS}(h:∀τ a,dE (f τ a).nodes<=dE τ.nodes):∀(l:List α) τ,dE (l.foldl f τ).nodes<=dE τ.nodes
 | [],τ=>iz _
 | a::l,τ=>lT (FA h l<|f τ a)<|h τ a
def QW:dE σ.dZ.nodes<=dE σ.nodes:=FA (fun τ k=>Nat.le_of_eq rr) _ σ
def B5(a:Bq):dE (σ.words a).nodes<=dE σ.nodes+a.length:=by
 unfold TS.words;split
 .have:=xR σ.nodes (σ.nodes.length-1) { σ.mA (σ.nodes.length-1) with text:=(σ.mA<|σ.nodes.length-1).text++a };have e:(σ.nodes.getD _ ⟨0,0,[],[],[]⟩).text.length=(σ.mA<|σ.nodes.length-1).text.length:=Y;unfold TS.join;simp only[lA] at this |-;omega
 .exact Nat.le_of_eq Ip
def ni(j:Int):(σ.dx j).nodes=σ.nodes:=by unfold TS.dx;split<;>rfl
def Lf:dE σ.jd.nodes=dE σ.nodes:=by show dE ((σ.dx<|dg σ [lN]).open_ Cr []).nodes=_;rw[rr,ni]
def xb:dE σ.cT.nodes=dE σ.nodes:=by
 unfold TS.cT;split
 .rfl
 .split
  .rw[Lf];exact rr
  .exact Lf
def Ra(b a:Bq):dE (σ.fin b a).nodes<=dE σ.nodes+a.length:=by
 unfold TS.fin;split
 .exact B5 a
 .have:=B5 (σ:=σ.dZ) a
  have:=QW (σ:=σ);omega
def U9{c b:Bq->Bq}(a:Bq)(h:(b a).length<=a.length):dE (σ.text c b a).nodes<=dE σ.nodes+a.length:=by
 unfold TS.text;split
 .exact B5 a
 .split
  .exact Ra _ a
  .split
   .omega
   .have:=Ra (σ:=σ.cT) (c<|b a)<|b a;rw[xb] at this;omega
def Q2(l:List (Bq)):(σ.Hb l).nodes=σ.nodes:=by unfold TS.Hb;split<;>rfl
def Ur(a:List (List<|Bq)):dE (σ.part a).nodes<=dE σ.nodes:=by
 unfold TS.part;split
 .exact iz _
 .refine lT (FA (λb l=>Nat.le_of_eq rr) _ _) ?_;unfold TS.jp;split<;>exact iz _
def Q5(d:DC):dE (Jl nm aY σ d).1.nodes<=dE σ.nodes:=by
 unfold Jl;repeat' split
 .exact L1 _
 .exact Nat.le_of_eq<|congrArg dE<|Q2 _
 .exact iz _
 .exact Nat.le_of_eq<|congrArg dE<|ni _
 .exact Ur _
 .exact QW
 .exact iz _
def Fj:∀ds σ,dE (kY nm aY ds σ).1.nodes<=dE σ.nodes
 | [],σ=>iz _
 | d::ds,σ=>by
  unfold kY;split
  .exact lT (Fj ds _)<|Q5 d
  .exact Q5 d
def En:dE (σ.mm nm aY).nodes<=dE σ.nodes:=by
 unfold TS.mm;split
 .rw[RU];exact Fj _ σ
 .exact Fj _ σ
def BO:dE (σ.start nm aY).nodes<=dE σ.nodes:=by
 unfold TS.start;repeat' split
 .exact En
 .exact L1 _
 .exact Nat.le_of_eq rr
 .exact iz _
 .rw[RU];unfold TS.mU;split
  .exact Nat.le_of_eq rr
  .exact iz _
 .exact lT En<|Nat.le_of_eq xb
def Q4(d:DC):dE (KC nm σ d).1.nodes<=dE σ.nodes:=by
 unfold KC;split
 .exact iz _
 split
 .exact BO
 split
 .rw[ni];split
  .exact BO
  .exact iz _
 split
 .exact Nat.le_of_eq<|congrArg dE<|ni _
 split
 .split
  .exact Nat.le_of_eq<|congrArg dE (by unfold TS.forget;split<;>rfl)
  .exact Nat.le_of_eq<|congrArg dE<|ni _
 .exact Nat.le_of_eq<|congrArg dE<|ni _
def Fh:∀ds σ,dE (sg nm ds σ).1.nodes<=dE σ.nodes
 | [],σ=>iz _
 | d::ds,σ=>by
  unfold sg;split
  .exact lT (Fh ds _)<|Q4 d
  .exact Q4 d
def WJ:dE (σ.Ft nm).nodes<=dE σ.nodes:=by
 unfold TS.Ft;repeat' split
 .exact Fh _ σ
 .exact Nat.le_of_eq<|congrArg dE<|Q2 _
 .exact Nat.le_of_eq xb
 .exact lT (Fh _ _)<|Nat.le_of_eq xb
 .exact iz _
def Uq(us:List Tok):dE (pK us).nodes<=jF us:=by
 have a:∀us σ,dE (us.foldl TS.step σ).nodes<=dE σ.nodes+jF us:=by
  intro us;induction us with
  | nil=>intro σ;exact Nat.le_add_right _ _
  | cons u us b =>
   intro σ;have c:=b<|σ.step u;have d:dE (σ.step u).nodes<=dE σ.nodes+u.text.length:=by
    unfold TS.step;repeat' split
    .exact U9 _ (List.dropWhile_sublist Kl).length_le
    .exact lT BO<|Nat.le_add_right _ _
    .exact lT WJ<|Nat.le_add_right _ _
    .exact Nat.le_of_eq Ip
    .exact Nat.le_add_right _ _
   have e:jF (u::us)=u.text.length+jF us:=by unfold jF;rw[rj,List.sum_cons]
   rw[e,List.foldl_cons];omega
 unfold pK;rw[xb]
 have:=a us TS.zero;have e:dE TS.zero.nodes=0:=Y;omega
def PF{a:Iq}{wr T W}(c:yu a wr T W)(d:wr=KP)(b:a.length<=20000):dE (oe a)<=1000000:=by subst d;exact lT (Uq _) (IK c b).2.1
end
def Oo (x:bH):bH:=⟨x.kind,x.parent,x.name,x.text,aO⟩
def Z3 (u:Nd):bH:=⟨u.kind,u.parent,u.name,u.text,aO⟩
def RV:∀l k,IJ (l.map Oo) k=IJ l k
 | [],_=>rfl
 | y::l,k=>by rw[rj];unfold IJ;rw[RV l _];rfl
def RY(k:Nat):∀l x,N6 k (l.map Oo) x=N6 k l x
 | [],_=>rfl
 | y::l,x=>by rw[rj];unfold N6;rw[RY k l];rfl
def Qw(l:List bH):rG (l.map Oo)=rG l:=by unfold rG;rw[RV,<-List.map_drop,RY]
def U8(l:List bH):xU (l.map Oo)=xU l:=by
 have a:vF (l.map Oo)=vF l:=by funext x i;unfold vF;rw[List.getElem?_map];cases l[i]?<;>rfl
 have b:xF (l.map Oo)=xF l:=by funext x i;unfold xF;rw[List.getElem?_map];cases l[i]?<;>rfl
 have d:∀i w,jB (l.map Oo) (vF l) (xF l) i w=jB l (vF l) _ i w:=λi w=>by unfold jB;rw[List.getElem?_map];cases l[i]?<;>rfl
 have c:∀n i w,oM (l.map Oo) (vF l) (xF l) n i w=oM l (vF l) (xF l) n i w:=by
  intro n;induction n with
  | zero=>intro i w;rfl
  | succ n e =>intro i w;unfold oM;rw[d,e]
 unfold xU F6;rw[a,b,List.length_map,c]
def BU(us:List Nd):Bq:=rG<|us.map Z3
def IG(us:List Nd):Bq:=xU<|us.map Z3
def Kp (s s':AS):Prop:=∀k cs ty fz,(ty=44\/ty=47\/ty=82\/ty=335)->Has s k (.cells cs ty fz)->Has s' k (.cells cs ty fz)
def Pg (s:AS)(p:Nat)(us:List Nd):Prop:=∃v xs,Has s p (.cells #[v] 82)/\nR s v xs/\fK s xs us
section
variable {Iu:AS}{xs:List bH}{p:Nat}
def Kp.trans(h:Kp s s')(e:Kp s' Iu):Kp s Iu:=λk a d b c f=>e k a d b c<|h k a d b c f
def Kp.of(a:cL (λ_=>False) s s'):Kp s s':=λk c e d _ b=>b.fr a id
def At(e:s.nx<=s'.nx)(b:∀k,k<s.nx->Ry (s.get k)->Rx (s.get k)->s'.get k=s.get k):Kp s s':=λk c f d a h=>⟨by have:=h.1;omega,(b k h.1 (jW h.2<|by rintro rfl;revert a;decide)<|rk h.2<|by rintro rfl;revert a;decide).trans h.2⟩
def nR.kp(h:nR s v xs)(f:Kp s s'):nR s' v xs:=by have⟨d,c,a,e,b⟩:=h;exact⟨d,c,a,e,f _ _ _ _ (.inl Y) b⟩
def fK.kp(h:fK s xs us)(j:Kp s s'):fK s' xs us:=⟨h.1,λi x u l k=>by
 have⟨b,d,f,g,a⟩:=h.2 i x u l k;refine⟨b,d,f,g,?_⟩;rcases a with a|⟨ab,c,fz,e,q1,q2⟩
 .exact .inl a
 .have:=j _ _ _ _ (.inr<|.inl Y) ⟨q1,q2⟩;exact .inr ⟨ab,c,fz,e,this.1,this.2⟩⟩
def Pg.kp(h:Pg s p us)(a:Kp s s'):Pg s' p us:=by have⟨v,e,b,c,d⟩:=h;exact⟨v,e,a _ _ _ _ (.inr<|.inr<|.inl Y) b,c.kp a,d.kp a⟩
def fK.map(h:fK s xs us):xs.map Oo=us.map Z3:=by
 apply List.ext_getElem?;intro i;rw[List.getElem?_map,List.getElem?_map];by_cases a:i<xs.length
 .have b:i<us.length:=by rw[<-h.1];exact a
  rw[gE a,gE b];have⟨c,d,e,f,_⟩:=h.2 i _ _ (gE a)<|gE b;simp only[Option.map_some,Oo,Z3,c,d,e,f]
 .rw[List.getElem?_eq_none oq,List.getElem?_eq_none<|by rw[<-h.1];omega];rfl
def fK.Zd(h:fK s xs us):rG xs=BU us:=by unfold BU;rw[<-h.map,Qw]
def fK.text(h:fK s xs us):xU xs=IG us:=by unfold IG;rw[<-h.map,U8]
def fK.sum(h:fK s xs us):oN xs=dE us:=by have e:=congrArg (λl:List bH=>(l.map λu=>u.text.length).sum) h.map;simp[List.map_map] at e;exact e
def fK.cell1(h:fK s xs us):∀z∈xs,z.cells.all Value.oneCell'=true/\bQ 20 (KN z)=true:=by
 intro z j;have⟨i,f⟩:=List.mem_iff_getElem?.1 j;have⟨_,_,_,_,g⟩:=h.2 i z _ f (gE (by rw[<-h.1];exact ((gS.1 f).1)));have b:(z.bC=aO\/∃d n c,z.bC=.slice (sq d) n c):=by
  rcases g with ⟨e,_⟩|⟨ab,c,fz,e,_⟩
  .exact .inl e
  .exact .inr ⟨_,_,_,e⟩
 unfold bH.cells KN;rcases b with e|⟨d,n,c,e⟩<;>rw[e]<;>exact⟨rfl,rfl⟩
def Dz(c:pr 23=none)(d:pr 41=none)(e:pr 42=none)(h:Pg s p us)(q:∀u∈us,u.bC.length<=400000000)(n:us.length<=400000000)(o:0<us.length):∃a w b,Ef pr 23 #[aC p 0] s w a/\nR a w b/\fK a b us/\Kp s a:=by have⟨v,r,k,l,m⟩:=h;have⟨a,w,b,f,g,i,j⟩:=PE c d e k l m q n o;exact⟨a,w,b,f,g,i,Kp.of j⟩
def Et(r:Ay pr)(c:pr 24=none)(d:pr 43=none)(e:pr 74=none)(f:pr 75=none)(h:Pg s p us)(q:us.length<=400000000)(t:dE us<=90000000):∃b,Ef pr 24 #[aC p 0] s (str<|BU us) b/\Kp s b:=by have⟨v,u,l,m,a⟩:=h;have⟨b,g,i,j⟩:=Kn r d e f m (by rw[a.1];exact q) a.cell1 (by rw[a.sum];exact t);rw[a.Zd] at g;exact⟨b,(aH c func24 Y<|zs<|zr<|zg 3 s<|zp (yl p 0 v l.2)<|zc 0 g<|zf yR),At i λk o n _=>j k o n⟩
def IH(l:Ay pr)(m:Vz pr)(c:pr 25=none)(d:pr 44=none)(h:Pg s p us)(k:us.length<=400000000)(n:dE us<=90000000):∃b,Ef pr 25 #[aC p 0] s (str<|IG us) b/\Kp s b:=by have⟨v,o,i,j,a⟩:=h;have⟨b,e,f,g⟩:=N4 l m d j (by rw[a.1];exact k) a.cell1 (by rw[a.sum];exact n);rw[a.text] at e;exact⟨b,(aH c func25 Y<|zs<|zr<|zg 3 s<|zp (yl p 0 v i.2)<|zc 0 e<|zf yR),At f g⟩
end
section
variable {O:ι->Nat->Prop}{R:ι->World->World->Prop}{X:ι->Goroutine->World->Prop}{Hd:ι->List (Nat × Obj)->World->Prop}
variable {s1:AS}{K:TL->AS->Prop}{ops:Array Oper}{o:Oper}
theorem WI.fill {c:Code} {Q:Exit->TL->AS->Prop} (f:(Nat->Value)->TL) (h:aA=f (λi => aA.getD i undef)) (k:∀ x,WI P KT An X Hd c (f x) s Q):WI P KT An X Hd c aA s Q:=h ▸ k _
end
abbrev LQ(cs:Aq)(ty:TypeId)(fz:Nat × Nat):Obj:=.chan ty cs true fz.1 fz.2 true
def T1{P:Program}{t:TypeId}{d:TypeDesc}{b off:Nat}{s:AS}{a:Aq}{i:TypeId}{fz:Nat × Nat}{v:Value}(g:P.underlying t=some d)(e:d.isRow=false)(f:s.get b=some (LQ a i fz))(h:a[off]?=some v)(c:eW v=true):bV P t (aC b off) s=some v:=by unfold bV;simp only[aC,f,g,e,h,c,if_true,if_false,lI]
def Um{P:Program}{kt:TypeId->Bool}{c:FuncId->Aq->AS->Option (Value × AS)}{a:TL}{o:Oper}{s:AS}{v:Value}{t:TypeId}{x:Operand}{b off:Nat}{f:Aq}{m:TypeId}{fz:Nat × Nat}{d:TypeDesc}(e:o.op=.load t x)(j:P.underlying t=some d)(h:d.isRow=false)(l:a.at x=aC b off)(i:s.get b=some (LQ f m fz))(k:f[off]?=some v)(g:eW v=true):cf P kt c a o s=some (v,s):=by unfold cf;rw[iw (by rw[e];simp[fR]),e];simp only;rw[l,T1 j h i k g]
section
variable {Uu:Prim}
def gz.fewer{P:Program}{KT:TypeId->Prop}{S:eN}{s s1:AS}{l:Hq}(h:gz P KT An S s l)(hs:∀b o,s1.get b=some o->s.get b=some o)(hn:s.nx<=s1.nx):gz P KT An S s1 l :=
 ⟨λb o hb=>h.live b o<|hs b o hb,λb b' o o' x x' hb uU=>h.inj b b' o o' x x' (hs b o hb)<|hs b' o' uU,λb o hb=>lL (h.lt b o<|hs b o hb) hn,h.an⟩
def nJ{s:AS}{a b:Nat}{o:Obj}(h:(s.set a none).get b=some o):b≠a/\s.get b=some o:=by
 rw[AS.aN] at h;split at h
 .cases h
 .next e=>exact⟨e,h⟩
def Au{c:Code}{aA:TL}{s:AS}{Q:Exit->TL->AS->Prop}{p:Nat}{o:Option Obj}(ho:o=none\/(∃F t G,o=some (LQ F t G))/\An p≠none)(hs:s.get p=o)
 (h:WI prog fa An (λj:Zx=>ZI prog Post 0 j.1) (vK Ex w₀) c aA (s.set p none) (λe a u=>p<u.nx/\∀B,B.nx=u.nx->(∀b,b≠p->B.get b=u.get b)->B.get p=o->Q e a B)) :
  WI prog fa An (λj:Zx=>ZI prog Post 0 j.1) (vK Ex w₀) c aA s Q:=by
 intro fn S l V i w a Q' D hF hA hd L k;rcases ho with rfl|⟨⟨F,t,G,rfl⟩,OY⟩
 .refine h fn S l V i w a Q' (D.fewer (λb o d=>(nJ d).2) lr) hF hA hd L ?_;rintro e E u i' T X w' Z ⟨hn,hq⟩ q3 q4 q5 q6 q7;exact k e E (u.set p none) i' T X w' Z (hq _ rfl (λb d=>by rw[AS.aN,iw d])<|by rw[AS.aN,ip rfl]) (q3.fewer (λb o d=>(nJ d).2) lr) q4 q5 q6 q7
 .have⟨g,z,e,J,q1,q2,q3,q4⟩:=D.live p _ hs;have hgA:An p=some (g,z,e):=by
   cases v:An p with
   | none=>exact absurd v OY
   | some x=>rw[<-q1,D.an _ _ v]
  obtain⟨l1,l2,rfl⟩:=List.append_of_mem q2;have VG:vK Ex w₀ i _ w:=⟨hF.1,hF.2.perm<|List.perm_middle.trans<|(List.perm_middle.symm).append_right V⟩;refine h fn S (l1++l2) ((g,J)::V) i w a Q' ⟨λb A d=>?_,λb C o J x x' d r=>D.inj b C o J x x' (nJ d).2 (nJ r).2,λb o d=>D.lt b o (nJ d).2,D.an⟩ VG hA hd L ?_
  .have⟨ES,d⟩:=nJ d;have⟨W,Y,U,P,I,R,p3⟩:=D.live b A d;refine⟨W,Y,U,P,I,?_,p3⟩;rcases List.mem_append.1 R with m|m
   .exact List.mem_append.2<|.inl m
   .rcases oc.1 m with m|m
    .cases m;exact absurd (D.inj b p _ _ _ _ d hs I q1 rfl) ES
    .exact List.mem_append.2<|.inr m
  .rintro ex E u i' T X w' Z ⟨hn,hq⟩ K r4 r5 r6 r7;have H:=K.an _ _ hgA;have N:=r4.2.nodup;rw[Bf,List.nodup_append] at N;have eo:∀o2,(g,o2)∉X:=λo2 hm=>N.2.2 g (List.mem_map.2 ⟨_,hm,rfl⟩) g iq rfl;have n:∀b,b≠p->(u.set p<|some<|LQ F t G).get b=u.get b:=λb d=>by rw[AS.aN,iw d]
   have O:(u.set p<|some<|LQ F t G).get p=some (LQ F t G):=by rw[AS.aN,ip rfl]
   have M:∀b A x,b≠p->u.get b=some A->T b=some x->x.1=g->False:=λb A x d hs' v hg=>by have⟨W,Y,U,P,I,R,_⟩:=K.live b A hs';rw[v] at I;cases I;cases hg;exact eo _ R
   refine k ex E (u.set p<|some<|LQ F t G) i' T (X++[(g,J)]) w' Z (hq _ rfl n O) ⟨λb A d=>?_,λb C P o2 x x' d r v y he=>?_,λb A d=>?_,K.an⟩ (by rw[vt];exact r4) r5 r6 r7
   .by_cases f:b=p
    .subst f;rw[O] at d;cases d;exact⟨g,z,e,J,H,iq,q3,λF t G h=>by cases h⟩
    .rw[n b f] at d;have⟨W,Y,U,P,I,R,p3⟩:=K.live b A d;exact⟨W,Y,U,P,I,List.mem_append.2<|.inl R,p3⟩
   .by_cases f:b=p
    .by_cases q:C=p
     .rw[f,q]
     .subst f;rw[n C q] at r;rw[H] at v;cases v;exact(M C _ _ q r y he.symm).elim
    .by_cases q:C=p
     .subst q;rw[n b f] at d;rw[H] at y;cases y;exact(M b _ _ f d v he).elim
     .rw[n b f] at d;rw[n C q] at r;exact K.inj b C _ _ _ _ d r v y he
   .by_cases f:b=p
    .subst f;exact hn
    .rw[n b f] at d;exact K.lt b A d
end
section
variable {O:ι->Nat->Prop}{R:ι->Wq}{X:ι->Gq}{Hd:ι->Hq->World->Prop}
variable {s0:AS}{Q:Exit->TL->AS->Prop}{c:Code}
def Kz(m:AS)(f:∀b o,m.get b=some o->s.get b=some o)(z:s.nx<=m.nx)(h:WI P KT An X Hd c aA m Q):WI P KT An X Hd c aA s Q:=by intro r S l t i w a q e v u y j k;exact h r S l t i w a q ⟨λb o d=>e.live b o<|f b o d,λb n o p x A d g=>e.inj b n o p x A (f b o d)<|f n p g,λb o d=>lL (e.lt b o<|f b o d) z,e.an⟩ v u y (λb d=>j b oq) k
end
def VY (q:Bq)(pv:Value)(px pb:Nat)(rest:Bq)(i:Nat)(x:Nq):TL:=[str q,pv,x 2,x 3,.bool false,.bool true,aC px 0,aC pb 0,str rest,num i]++gG x 10 93
def R5 (o:Option Obj)(pv:Value)(pd:Iq):Prop:=∃ad cap,pv=.slice ad pd.length cap/\(pd≠[]->∃so cs ty fz,ad=some ⟨31,so,none⟩/\o=some (LQ cs ty fz)/\∀(i:Nat) (y:Int),pd[i]?=some y->(-9223372036854775808<=y/\y<=9223372036854775807)/\cs[so+i]?=some (num y))
structure Of(s:AS)(px pb:Nat)(us:List Nd)(o:Option Obj)(ps:List (Bq)):Prop where
 pg:Pg s px us
 tb:Has s 1 (.cells dy.toArray 335)
 pa:QQ s pb ps ps.flatten.length
 Yy:s.get 31=o
 Ug:31<s.nx/\31<pb
 len:ps.length<=ps.flatten.length
 tm:Tm s
section
variable {o:Option Obj}
def Of.WM(h:Of s px pb us o ps)(n:Oq o){t:Bq}(p:ps.flatten.length+t.length<=20000):∃c b,(∀g:Prim,g 20=none->(t≠[]->∀s,Ef g 36 #[str t] s (str t) s)->Ef g 20 #[aC pb 0,str t] s (num 0) c)/\Of c px pb us o b/\b.flatten=ps.flatten++t:=by
 have⟨c,j,k,d,l⟩:=LP (t:=t) h.pa oq (by have:=h.len;omega);have⟨q,m,_⟩:=h.pa;have i:Kp s c:=λk f i g r h=>⟨by have:=h.1;have:=d.1;omega,(d.2 k h.1 (h.ne m<|by rintro rfl;revert r;decide)<|pF h.2<|by rintro rfl;revert r;decide).trans h.2⟩;have f:=(d.2 31 h.Ug.1 (by have:=h.Ug.2;omega)<|by rw[h.Yy];exact n).trans h.Yy;have a:(if t=[] then ps else ps++[t]).flatten=ps.flatten++t:=by
  split
  .next e=>rw[e,List.append_nil]
  .simp
 refine⟨c,_,j,⟨h.pg.kp i,i _ _ _ _ (i3 Y) h.tb,by rw[a,lA];exact k,f,⟨by have:=d.1;have:=h.Ug.1;omega,h.Ug.2⟩,?_,l h.tm⟩,a⟩;rw[a,lA]
 have:=h.len;split
 .omega
 .next e =>have:=HU.2 e;simp only[lA,List.length_singleton];omega
def Po(h19:pr 19=none)(h20:pr 20=none)(Rd:∀t:Bq,t≠[]->t.length<=20000->∀s,Ef pr 36 #[str t] s (str t) s)(ho:Oq o){q t:Bq}(HK:t.length<=20000){pv:Value}{pd:Iq}(hc:R5 o pv pd)(KF:pd.length<=9223372036854775807)(h:Of s px pb us o []){Q:Exit->TL->AS->Prop}{x:Nq}
 (hq:∀s' ps rest y,Of s' px pb us o ps->ps.flatten++rest=t->Q .normal (VY q pv px pb rest pd.length y) s') :
  ∀cd,(match f6.body with|some (.seq _<|.seq _<|.seq _<|.seq _<|.seq _<|.seq _<|.seq _<|.seq cd _)=>cd|_=>.skip)=cd->Ew pr cd ([str q,pv,x 2,x 3,.bool false,.bool true,aC px 0,aC pb 0,str t]++gG x 9 94) s Q:=by
 rintro cd rfl;obtain⟨ad,cap,rfl,hc⟩:=hc;generalize hN:pd.length=N at *;refine zs<|za s<|aV (VY q (.slice ad N cap) px pb t 0) kq ?_;intro x0;refine aF<|bn (bw (Q:=λe a' s'=>e=.exit 0/\∃ps rest y,Of s' px pb us o ps/\ps.flatten++rest=t/\a'=VY q (.slice ad N cap) px pb rest N y) (λm a' s'=>∃i ps rest y,i+m=N/\Of s' px pb us o ps/\ps.flatten++rest=t/\a'=VY q (.slice ad N cap) px pb rest i y) ?_ N _ _ ⟨0,[],t,x0,by omega,h,Y,Y⟩) ?_
 .rintro m a' s' ⟨i,ps,rest,y,ZJ,hL,HF,rfl⟩;by_cases hm:0<m
  .have hi:i<pd.length:=oq
   obtain⟨so,cs,ty,fz,rfl,rfl,Oi⟩:=hc (by rintro rfl; simp at hi);obtain⟨hy,hcy⟩:=Oi i _<|List.getElem?_eq_getElem hi;generalize pd[i]=cy at hy hcy;have hrl:ps.flatten.length+rest.length=t.length:=by rw[<-HF,List.length_append]
   have Rp:=Ut (pr:=pr) (s:=s') (n:=rest.length) h19 hy;have hklt:=M1 cy (rest.length+1) oq;generalize hK:vg cy ((rest.length+1:Nat):Int)=k at *;have O7:(rest.take k).length<=rest.length:=by rw[List.length_take]; omega
   obtain⟨s2,ps2,f1,f2,f3⟩:=hL.WM ho (t:=rest.take k) oq;have hfd:=f1 pr h20<|λh0=>Rd _ h0 oq;have VJ:bS rest.length rest.length none (some<|num (k:Int))=some (0,k):=(nV oq oq).trans (by rw[yE]);have Cm:bS rest.length rest.length (some<|num (k:Int)) none=some (k,rest.length):=(ig oq oq).trans (by rw[yE]);have ZF:(rest.take rest.length).drop k=rest.drop k:=by rw[List.take_length]
   have abe:ps2.flatten++rest.drop k=t:=by rw[f3,vt,List.take_append_drop]; exact HF
   have ZB:=hL.Yy;have hrr:rest.length<=20000:=oq
   generalize hrt:rest.take k=rt at *;generalize Jz:rest.drop k=rd at *;refine aB<|zr<|zg 3 s'<|zp (yb (num i) (num N)<|bE (b:=true)<|decide_eq_true oq)<|am<|zT<|aB<|aF<|za s'<|zr<|zg 2 s'<|zp (yi 31 so N cap (so+i) none .i64 (i:Nat) 1 oq oq oq)<|zo s'<|zp (Um (b:=31) (off:=so+i) (v:=num cy) Y underlying3 Y kq ZB hcy Y)<|zg 1 s'<|zp (dL (l:=rest) Y underlying9 kq)<|zp (yp rest.length 1 ((rest.length+1:Nat):Int) oq oq)<|zc 0 Rp<|zf<|za s'<|aV (λy=>[str q,.slice (some ⟨31,so,none⟩) N cap,y 2,y 3,.bool false,.bool true,aC px 0,aC pb 0,str rest,num i,num k]++gG y 11 92) kq ?_;intro y1;refine zr<|zg 3 s'<|zp (jr (l:=rest) (m:=rt) (i:=0) (j:=k) Y underlying9 kq ((show _=bS rest.length rest.length none (some<|num (k:Int)) by kernel_rfl).trans VJ) hrt)<|zc 0 hfd<|zf<|za s2<|aB<|zs<|za s2<|zF<|zx<|zg 2 s2<|zp (jr (l:=rest) (m:=rd) (i:=k) (j:=rest.length) Y underlying9 kq ((show _=bS rest.length rest.length (some<|num (k:Int)) none by kernel_rfl).trans Cm) ZF)<|zf<|za s2<|zx<|zg 1 s2<|zp (Ic (i:=(i:Nat)) (j:=1) (r:=((i+1:Nat):Int)) Y kq kq oq oq)<|zf ?_;obtain⟨y2,hy2⟩:=bu (f:=VY q (.slice (some ⟨31,so,none⟩) N cap) px pb rd<|i+1) (a:=_) kq;exact⟨m-1,by omega,i+1,ps2,rd,y2,by omega,f2,abe,hy2⟩
  .obtain rfl:i=N:=oq
   refine aB<|zr<|zg 3 s'<|zp (yb (num i) (num i)<|bE (b:=false)<|decide_eq_false oq)<|am<|za s'<|zG<|aR ?_;obtain⟨y2,hy2⟩:=bu (f:=VY q (.slice ad i cap) px pb rest i) (a:=_) kq;exact⟨Y,ps,rest,y2,hL,HF,hy2⟩
 .rintro e a' s' ⟨rfl,ps,rest,y,hL,HF,rfl⟩;exact hq s' ps rest y hL HF
end
def wj{s:AS}{b:Nat}{o:Obj}:∀{l:List Nat},(s.only l).get b=some o->b∈l
 | [],h=>by simp only[AS.only] at h;unfold AS.get at h;simp at h
 | c::l,h=>by
  unfold AS.only at h;split at h
  .split at h
   .rw[AS.aN] at h;split at h
    .next e=>rw[e];simp
    .exact Dv _<|wj h
   .exact Dv _<|wj h
  .exact Dv _<|wj h
def Nl(a:List bH):List Nat:=a.flatMap λx=>match x.bC with|.slice (some ⟨b,_,_⟩) _ _=>[b]|_=>[]
section
variable {o:Option Obj}
def Le{a b:Nat}(h:a<b):Nat.blt a b=true:=by simpa[Nat.blt_eq] using h
def Qe (q:Bq)(pv:Value)(px pb:Nat)(x:Nq):TL:=[str q,pv,x 2,x 3,.bool false,.bool true,aC px 0,aC pb 0,x 8,x 9,x 10,x 11,num 0]++gG x 13 90
def NY(b:Option Code):Code:=match b with|some (.seq _<|.seq _<|.seq _<|.seq _<|.seq _<|.seq _<|.seq _<|.seq _<|.seq _ c)=>c|_=>.skip
def MI:List FuncId:=[22,23,41,42,24,43,74,75,25,44]
def Qo{n:Nat}(a:∀f,f∈MI->pr f=none)(v:Ay pr)(J:Vz pr)(hE:QN pr pb s us)(hP:QQ s pb ps n)(h1:Has s 1 (.cells dy.toArray 335))(B:Pg s px us)(ZB:31<s.nx)(C:∀u∈us,u.bC.length<=400000000)(i:us.length<=400000000)(I:0<us.length)(w:dE us<=90000000)(q:Bq)(pv:Value)(x:Nq) :
  Ew pr (NY f6.body) (Qe q pv px pb x) s (λe R P=>e=.ret/\R.getD 4 undef=.bool true/\P.get 1=some (.cells dy.toArray 335)/\31<P.nx):=by
 have⟨z,wv,xs,e1,e2,e3,e4,e5,_⟩:=hE.ex;have⟨pv0,hb,_⟩:=hP;have r:Kp s z:=λk cs ty H l h=>e5 k _ h.1 (h.ne hb<|by rintro rfl;revert l;decide) (pF h.2<|by rintro rfl;revert l;decide) h.2 (by rcases l with rfl|rfl|rfl|rfl<;>rfl);have y:Pg z s.nx us:=⟨wv,xs,e2,e3,e4⟩;have F:=B.kp r;have t1:=r _ _ _ _ (i3 rfl) h1;have⟨s2,w1,y1,n1,O,n3,K⟩:=Dz (a 23 dq) (a 41 dq) (a 42 dq) F C i I;have⟨Q,w2,y2,m1,N,m3,D⟩:=Dz (a 23 dq) (a 41 dq) (a 42 dq) (y.kp K) C i I;have j:=UO (s:=Q) (a 22 dq) (O.kp D) N (n3.kp D) m3 C i;have m:=K.trans D;have⟨s4,U,L⟩:=Et v (a 24 dq) (a 43 dq) (a 74 dq) (a 75 dq) (F.kp m) i w;have⟨s5,W,k5⟩:=Et v (a 24 dq) (a 43 dq) (a 74 dq) (a 75 dq) ((y.kp m).kp L) i w;have g:=(m.trans L).trans k5;have⟨s6,Y,E⟩:=IH v J (a 25 dq) (a 44 dq) (F.kp g) i w;have⟨t,Z,M⟩:=IH v J (a 25 dq) (a 44 dq) ((y.kp g).kp E) i w;have t7:=((g.trans E).trans M) _ _ _ _ (i3 rfl) t1;have p7:31<t.nx:=by
  have⟨v9,x9,q1,_⟩:=y.kp<|(g.trans E).trans M
  have:=q1.1;omega
 obtain⟨S,V,hw1⟩:∃A c,w1=.slice A y1.length c:=by have⟨d,c,H,e,_⟩:=O;exact⟨_,_,e⟩
 obtain⟨T,X,XU⟩:∃A c,w2=.slice A y2.length c:=by have⟨d,c,H,e,_⟩:=N;exact⟨_,_,e⟩
 generalize dy.toArray=E0 at *;generalize BU us=o at *;generalize IG us=p at *;generalize s.nx=G at *;refine zr<|zc 1 e1<|zf<|za z<|aB<|zr<|zf<|za z<|zF<|aV (λx=>[str q,pv,x 2,x 3,.bool false,.bool true,aC px 0,aC pb 0,x 8,x 9,x 10,x 11,x 12,aC G 0]++gG x 14 89) kq ?_;intro x1;refine zr<|zc 1 n1<|zc 1 m1<|zc 0 j<|zf<|za Q<|aV (λx=>[str q,pv,x 2,x 3,.bool false,.bool true,aC px 0,aC pb 0,x 8,x 9,x 10,x 11,x 12,aC G 0,x 14,.bool true]++gG x 16 87) kq ?_;intro x2;refine zr<|zc 1 U<|zf<|za s4<|zr<|zc 1 W<|zf<|za s5<|zr<|zc 1 Y<|zf<|za s6<|zr<|zc 1 Z<|zf<|za t<|aV (λx=>[str q,pv,x 2,x 3,.bool false,.bool true,aC px 0,aC pb 0,x 8,x 9,x 10,x 11,x 12,aC G 0,x 14,.bool true,str o,str o,str p,str p]++gG x 20 83) kq ?_;intro x3;exact zr<|zg 4 t<|zp (yb (str o) (str o)<|lw (b:=true)<|(dP o o).2 rfl)<|zg 4 t<|zp (yb (str p) (str p)<|lw (b:=true)<|(dP p p).2 rfl)<|zf<|za t<|aD ⟨rfl,kq,t7.2,p7⟩
end
abbrev Q6(o:Option Obj):Exit->TL->AS->Prop:=λe a' s'=>e=.ret/\a'.getD 4 undef=.bool true/\s'.get 1=some (.cells dy.toArray 335)/\s'.get 31=o
def X9{s s':AS}{o:Option Obj}(c:s.get 31=o)(e:∀a t fz,o≠some (.cells a t fz))(f:s.nx<=s'.nx)(d:∀b,b≠31->s'.get b=s.get b){k:Nat}{a:Aq}{t:TypeId}{fz:Nat × Nat}(h:Has s k (.cells a t fz)):Has s' k (.cells a t fz):=by
 have:k≠31:=by
  rintro rfl
  have:=h.2;rw[c] at this;exact e _ _ _ this
 exact⟨by have:=h.1;omega,(d k this).trans h.2⟩
def TZ(uX:cR prog fa An (λ_:Zx=>AtRel) (λj=>DZ j.1) (λj=>ZI prog Post 0 j.1) (vK Ex w₀) pr){o:Option Obj}(ho:o=none\/(∃cs t fz,o=some (LQ cs t fz))/\An 31≠none){q t:Bq}(ht:q.take 20000=t){pv:Value}{pd:Iq}(hc:R5 o pv pd)(KF:pd.length<=9223372036854775807){S0:AS}(h15:Ef pr 15 #[] S0 (.bool true) S0)(ZB:S0.get 31=o)(ZN:S0.nx=32)(eo:∀f,f∈[16,18,19,20]->pr f=none)(Rd:∀t:Bq,t≠[]->t.length<=20000->∀s,Ef pr 36 #[str t] s (str t) s){us:List Nd}
 (Md:∃Uu:Prim,cR prog fa An (λ_:Zx=>AtRel) (λj=>DZ j.1) (λj=>ZI prog Post 0 j.1) (vK Ex w₀) Uu/\∃s' px,Ef Uu 17 #[str t] (S0.set 31 none) (aC px 0) s'/\Pg s' px us/\Has s' 1 (.cells dy.toArray 335)/\31<s'.nx/\s'.get 31=none)
 (Me:∀s px pb ps,Of s px pb us o ps->ps.flatten=t->∃VW:Prim,cR prog fa An (λ_:Zx=>AtRel) (λj=>DZ j.1) (λj=>ZI prog Post 0 j.1) (vK Ex w₀) VW/\∀x,Ew VW (NY f6.body) (Qe t pv px pb x) (s.set 31 none)<|λe a' s'=>e=.ret/\a'.getD 4 undef=.bool true/\s'.get 1=some (.cells dy.toArray 335)/\31<s'.nx) :
  ∀c,(match f6.body with|some c=>c|_=>.skip)=c->WI prog fa An (λj:Zx=>ZI prog Post 0 j.1) (vK Ex w₀) c ([str q,pv]++List.replicate 101 undef) S0 (Q6 o):=by
 rintro c rfl;have w5:∀(e:Exit) (a':TL) (s':AS),(e=.ret/\a'.getD 4 undef=.bool true/\s'.get 1=some (.cells dy.toArray 335)/\31<s'.nx)->31<s'.nx/\∀Iu:AS,Iu.nx=s'.nx->(∀b,b≠31->Iu.get b=s'.get b)->Iu.get 31=o->Q6 o e a' Iu:=by rintro e a' s' ⟨q1,q2,q3,q4⟩;exact⟨q4,λIu _ k2 k3=>⟨q1,q2,(k2 1 dq).trans q3,k3⟩⟩
 have ho9:Oq o:=by intro cs fz e;rcases ho with rfl|⟨⟨_,_,_,rfl⟩,_⟩<;>cases e
 have hoc:∀cs t fz,o≠some (.cells cs t fz):=by intro cs t fz e;rcases ho with rfl|⟨⟨_,_,_,rfl⟩,_⟩<;>cases e
 have HK:t.length<=20000:=by rw[<-ht,List.length_take];omega
 have hs:Ef pr 16 #[str q,num 20000] S0 (str<|q.take 20000) S0:=by
  refine aH (eo 16 iq) func16 Y<|zs<|za S0<|aB<|zr<|zg 1 S0<|zp (dL (l:=q) Y underlying9 kq)<|zg 1 S0 ?_;by_cases h:20000<q.length
  .exact zp (yb (num q.length) (num 20000)<|fA<|tD oq)<|am<|za S0<|zH<|zr<|zg 2 S0<|zp (jr (j:=20000) Y underlying9 kq (by show(if 0<=20000/\(20000:Int)<=q.length then some _ else none)=_;rw[ip oq];rfl) Y)<|zf<|za S0<|aD ⟨.inr Y,kq,Y⟩
  .have e:q.take 20000=q:=tL oq;rw[e];exact zp (yb (num q.length) (num 20000)<|fA<|fD oq)<|am<|za S0<|zF<|zs<|za S0<|aD ⟨.inr Y,kq,Y⟩
 rw[ht] at hs;have⟨Uu,ok2,s1,px,h17,hpg,ZS,Xy,JC⟩:=Md;refine cU vS<|dM vS ef cB uX cm<|eJ 5 kq<|WI.I9 S0 kq<|cU vS<|dM vS ef cB uX cm<|zx<|zc 0 h15<|zf<|WI.I9 S0 kq<|cU vS<|dM vS ef cB uX cm<|zx<|zc 1 hs<|zf<|WI.I9 S0 kq<|cU vS<|Au ho ZB<|dM vS ef cB ok2 cm<|zx<|zc 1 h17<|zg 1 s1<|am ⟨Xy,λs2 g1 g2 g3=>?_⟩;have⟨s3,k1,k2,k3,k4,k5⟩:∃A:AS,A.nx=s1.nx/\Has A 1 (.cells dy.toArray 335)/\Pg A px us/\Tm A/\∀b o,A.get b=some o->s1.get b=some o:=by
  obtain⟨v,k,y,⟨d,c,m,rfl,C⟩,B⟩:=hpg;have r:∀x∈k,∃u,Zu s1 x u:=λx h=>by have⟨i,I⟩:=List.mem_iff_getElem?.1 h;have F:us[i]?=some (us[i]'(by rw[<-B.1];exact ((gS.1 I).1))):=gE _;exact⟨_,B.2 i x _ I F⟩
  have t:∀x∈k,∀j n c,x.bC=.slice (sq j) n c->j∈1::px::d::Nl k:=λx h j n c e=>by refine Dv _<|Dv _<|Dv _<|List.mem_flatMap.2 ⟨x,h,?_⟩;rw[e];simp
  have⟨E,w⟩:=wm (1::px::d::Nl k) s1;have f:∀{b o},b∈1::px::d::Nl k->Has s1 b o->oL o=true->Has _ b o:=λq g N=>⟨by rw[E];exact g.1,xt q g.2 N⟩;refine⟨s1.only _,E,f iq ZS Y,⟨_,k,f iq y Y,⟨d,c,m,Y,f iq C Y⟩,⟨B.1,λi x u h F=>?_⟩⟩,λb P Q m q=>?_,λb o q=>(w b o q).1⟩
  .have⟨J,K,L,M,l⟩:=B.2 i x u h F;refine⟨J,K,L,M,?_⟩;rcases l with l|⟨j,c,m,e,q1,q2⟩
   .exact .inl l
   .have:=f (t x (mG h) j _ _ e) ⟨q1,q2⟩ Y;exact .inr ⟨j,c,m,e,this.1,this.2⟩
  .rw[E];have g:=(w b _ q).1;rcases oc.1 (wj q) with rfl|KG
   .rw[ZS.2] at g;cases g;refine aT.2 λz a=>?_;have H:=aT.1 si z (by simpa using a);unfold rM;split<;>first|exact H|cases H
   rcases oc.1 KG with rfl|KG
   .rw[y.2] at g;cases g;show(Nat.blt d s1.nx&&true)=true;rw[Le C.1];rfl
   rcases oc.1 KG with rfl|KG
   .rw[C.2] at g;cases g;refine aT.2 λz a=>?_;have⟨x,h,a⟩:=List.mem_flatMap.1 a;have⟨u,_,_,_,_,l⟩:=r x h;simp only[bH.cells,oc,zL,or_false] at a;rcases a with rfl|rfl|rfl|rfl|rfl
    iterate 4
     .rfl
    .rcases l with ⟨e,_⟩|⟨j,c,m,e,q1,q2⟩
     .rw[e];rfl
     .rw[e];exact Le q1
   .have⟨x,h,a⟩:=List.mem_flatMap.1 KG;have⟨u,_,_,_,_,l⟩:=r x h;rcases l with ⟨e,_⟩|⟨j,c,m,e,q1,q2⟩
    .rw[e] at a;simp at a
    .rw[e] at a;simp only[List.mem_singleton] at a;subst a;rw[q2] at g;cases g;refine aT.2 λz a=>?_;have⟨p,_,a⟩:=List.mem_flatMap.1 a;simp only[oc,zL,or_false] at a;rcases a with rfl|rfl<;>rfl
 have X0:s3.get 31=none:=by
  cases h:s3.get 31 with
  | none=>rfl
  | some o=>rw[k5 31 o h] at JC;cases JC
 have hkk:Kp s3 (s3.set 31 o):=λk cs ty fz _ h=>X9 X0 (λ_ _ _ e=>by cases e) iq (λb hb=>by rw[AS.aN,iw hb]) h;have T4:=hkk _ _ _ _ (i3 Y) k2;have P4:=k3.kp hkk;have M4:Tm (s3.set 31 o):=by
  intro b cs ty fz hb;rw[AS.aN] at hb;split at hb
  .exact absurd hb<|hoc _ _ _
  .exact k4 b cs ty fz hb
 have hn4:(s3.set 31 o).nx=s1.nx:=by rw[AS.Uj,k1]
 have aa2:(s3.set 31 o).get 31=o:=by rw[AS.aN,ip Y]
 refine Kz (s3.set 31 o) (λb o' hb=>?_) (by rw[hn4,g1];exact lr) ?_
 .rw[AS.aN] at hb;split at hb
  .next e=>rw[e,g3];exact hb
  .next e=>rw[g2 b e];exact k5 b o' hb
 generalize s3.set 31 o=s4 at *;have abn:=MF (s:=s4)<|eo 18 iq;have hL:Of (YM s4) px s4.nx us o []:=by
  have hf:cL (λ_=>False) s4 (YM s4):=(aE s4).add _;refine⟨P4.kp<|Kp.of hf,T4.fr hf id,⟨aO,aI s4 _,.inl ⟨Y,Y⟩⟩,(hf.2 31 oq id).trans aa2,⟨?_,oq⟩,lr,M4.add Y⟩
  have:=hf.1;omega
 generalize hS5:YM s4=s5 at *;generalize hpb:s4.nx=pb at *;refine cU vS<|dM vS ef cB uX cm<|zx<|zc 0 abn<|zg 1 s5<|am<|cU vS<|dM vS ef cB uX cm<|zr<|zf<|za s5<|zF<|cU vS<|dM vS ef cB uX cm<|eJ 5 kq<|WI.I9 s5 kq<|WI.fill (λx=>[str t,pv,x 2,x 3,.bool false,.bool true,aC px 0,aC pb 0,str t]++gG x 9 94) kq λx=>(cU vS<|dM vS ef cB uX cm<|Po (eo 19 iq) (eo 20 iq) Rd ho9 HK hc KF hL (λs6 ps rest y hL6 HF=>?_) _ Y);have⟨s7,ps7,f1,f2,f3⟩:=hL6.WM ho9 (t:=rest) (by rw[<-lA,HF];exact HK);refine cU vS<|dM vS ef cB uX cm<|zx<|zc 2 (f1 pr (eo 20 iq)<|λh0=>Rd rest h0<|by have:=congrArg List.length HF;rw[lA] at this;omega)<|zg 1 s7<|am ?_;have⟨VW,ok3,abI⟩:=Me s7 px pb ps7 f2<|f3.trans HF;exact Au ho f2.Yy<|WI.fill (Qe t pv px pb) kq λx=>(dM vS ef cB ok3 cm<|bn (abI x) λe a' s' h=>w5 e a' s' h)
def acn:Value->Bool
 | .int .i64 _=>false
 | _=>true
def Jq:dy.all acn=true:=kq
def qc:dy.toArray.size=54:=by decide +kernel
def OA:G1 AS.all:=λs=>wm _ s
def RD{n r0:Nat}{a:ByteArray}{vj:AS->AS}{rN pr:Prim}{f:FuncId}(h:f≠37):mg prog n r0 a vj rN pr f=pr f:=by unfold mg;rw[iw (by simpa using h)]
def IY{n r0:Nat}{c:ByteArray}{vj:AS->AS}{rN pr:Prim}{f:FuncId}{V:Aq->Option Value}{args:Aq}{s:AS}{v:Value}(h:f≠37)(b:pr f=some (QV V))(a:V args=some v):Ef (mg prog n r0 c vj rN pr) f args s v s:=Ca ((RD h).trans b) a
def pM{W:World}(hG:W.heap[1]?=some (.cells dy.toArray 335))(W3:QT W){q:Bq}{pd:Iq}(KF:pd.length<=9223372036854775807){An:eN}{Pb:Nat}(hP2:Pb≠2)(WX:Pb≠3){o:Option Obj}{l:Hq}{pv av:Value}(R:An 1=some (1,54,54))(Te:An 2=some (2,0,0))(WT:An 3=some (3,0,0))(K:∀b,32<=b->An b=none)(hVR:VR An pv av)(Tj:R5 o pv pd)(ho:o=none\/(∃I t J,o=some (LQ I t J))/\An 31≠none)
 (aa3:gz prog fa An An (sA.set 31 o) l)(hHd:vK (λb=>b=1\/b=Pb) W ((λ_=>False),W.heap.size) (l++[]) W)(Dn:Pb≠1->∀(j:Zx) (S':eN) (s':AS) (l':Hq) (E:World),s'.get 31=o->gz prog fa An S' s' l'->vK (λb=>b=1\/b=Pb) W j l' E->E.heap[Pb]?=W.heap[Pb]?) :
  gj prog (ZI prog Post 0) 6 #[str q,av] (λ_=>False) W (λ_ x E=>x=.bool true/\Ext W E):=by
 have⟨n0,okA⟩:∃n,cR prog fa An (λ_:Zx=>AtRel) (λj=>DZ j.1) (λj=>ZI prog Post 0 j.1) (vK (λb=>b=1\/b=Pb) W) (J7 prog n):=by
  have⟨n,t⟩:=aco;obtain⟨o,⟨m,e⟩,l⟩:∃s',Ef (rz Tryz.prog n) 15 #[] sA (.bool true) s'/\s'.get 1=some (.cells dy.toArray 335):=by refine aX kq Tryz.func15 O<|zs<|zr<|dF #[.string qJ] kq O O kq kq (s1:=sH) (v:=aC 36 0) (by rw[show cS _=sA by kernel_rfl];exact UI t)<|zf<|bn (EW.Zz (n:=10000) kq) λe a' s' q=>?_;obtain⟨rfl,q1,q2⟩:=q;exact⟨.inr O,by rw[<-q1];rfl,q2⟩
  have d:cR prog fa An (λ_:Zx=>AtRel) (λj=>DZ j.1) (λj=>ZI prog Post 0 j.1) (vK (λb=>b=1\/b=Pb) W) (rz prog n):= Io R K oq (λ_=>⟨I,λ_ _ h=> AS.nq (λ_ _ h=>by unfold AS.get at h;simp at h) _ _ h⟩) ⟨te 37 L0,λ_ _ _ _ _ h=>Pn▸h⟩ dq (nG vS);refine⟨n,?_,?_⟩
  .intro f g a s v o U h;unfold J7 at U;split at U
   .grind
   .exact d.nx f g a s v o U h
  .intro f g a s v w U h;unfold J7 at U;split at U
   .next i =>
    have i:=iC i;subst i;cases U;simp only at h;split at h
    .next r =>
     have⟨q,u⟩:=r;cases h;have q:a=#[]:=gq
     subst q;exact ms (m:=1) vS R K si GA O l (uq u) O O ((jM vS ef cB d cm m).2 _ _ _ _ _ e).toW
    .cases h
   .exact d.sound f g a s v w U h
 have⟨V3,ok3,hV3⟩:=oI vS ef cB cm (k:=32) (m:=1) K okA okA 36;have⟨V4,ok4,hV4⟩:=oI vS ef cB cm (k:=32) (m:=1) K okA ok3 160;have v3:∀t:Bq,t≠[]->t.length<=20000->V3 #[str t]=some (str t):=λt O hl=>by have⟨z3,X0⟩:=OI (pr:=J7 prog n0) (s:=⟨[],32⟩) kq kq (l:=t) O oq;exact hV3 _ _ _ rfl rfl X0
 have v4:∀r:Int,0<=r/\r<=1114111->V4 #[str Ct,.int .i32 r]=some (.bool<|gL r Ct):=λr F=>by have⟨z4,hz4⟩:=OC (pr:=J7 prog n0) (s:=⟨[],32⟩) kq kq kq kq kq F;exact hV4 _ _ _ rfl rfl hz4
 obtain⟨A,C⟩:∃p,p=M3 160 V4 (M3 36 V3<|J7 prog n0):=⟨_,rfl⟩;have Z:∀f,f∈[16,17,18,19,20,21]++MI++DD++[80,81,76,133,165,166,78,84,163,164,265,138,79]->A f=none:=by rw[C];exact mX kq
 have kK:A 127=bP 127:=by rw[C];kernel_rfl
 have Rd:A 36=some (QV V3):=by rw[C];kernel_rfl
 have aaX:A 160=some (QV V4):=by rw[C];kernel_rfl
 have h15:Ef A 15 #[] (sA.set 31 o) (.bool true) (sA.set 31 o):=by rw[C];exact iQ 1 kq
 rw[<-C] at ok4;clear C hV3 hV4;obtain⟨t,ht⟩:∃t,t=q.take 20000:=⟨_,rfl⟩;have HK:t.length<=20000:=by rw[ht,List.length_take];omega
 have vC:(⟨t.toArray⟩:ByteArray).size<=20000:=HK;have⟨X,_⟩:=sO ⟨t.toArray⟩ vC;have Y:(cJ ⟨t.toArray⟩).length<=20000:=lT (uZ _) vC;have Jz:∀r,32<=r->G0 (r+1) r (yK prog (r+1)<|cJ ⟨t.toArray⟩) (oe<|cJ ⟨t.toArray⟩):=λr F=>(RG (rn:=r+1) (pg:=r) oq oq X Y).1;obtain⟨_,⟨acc,hgv⟩,XU,VS⟩:=RG (rn:=4) (pg:=4) oq oq X Y;have abD:dE (oe<|cJ ⟨t.toArray⟩)<=1000000:=PF (Nb (rn:=4) oq X Y).a rfl Y;have hu:∀u∈oe (cJ ⟨t.toArray⟩),u.bC.length<=400000000:=λu hu=>by have:=(hgv.pn u hu).1.1;omega
 have h00:0<(oe<|cJ ⟨t.toArray⟩).length:=by have O:=hgv.g.c.lt 0<|mG hgv.g.c.r0;rw[ml] at O;exact O
 have abc:∀r,32<=r->R8 An (VA (λb=>b=1\/b=Pb) W) r (yK prog r<|cJ ⟨t.toArray⟩) (cJ ⟨t.toArray⟩):=λr F=>(Nc (rn:=r) X oq).toA (An:=An) (p:=VA (λb=>b=1\/b=Pb) W) ⟨⟨_,_,R⟩,⟨_,_,Te⟩,_,_,WT⟩ ⟨oq,oq,W3⟩;have okT:∀n r,32<=r->cR prog fa An (λ_:Zx=>AtRel) (λj=>DZ j.1) (λj=>ZI prog Post 0 j.1) (vK (λb=>b=1\/b=Pb) W) (mg prog n r ⟨t.toArray⟩ AS.all (yK prog r<|cJ ⟨t.toArray⟩) A):=λn r F=>Io (Post:=Post) (Ex:=λb=>b=1\/b=Pb) (w₀:=W) R K (n:=n) (str:=⟨t.toArray⟩) (r0:=r) F (vj:=AS.all) OA (rN:=yK prog r<|cJ ⟨t.toArray⟩) (abc r F) (by rw[kF,Nat.zero_add];show t.length<=20000;omega) ok4;generalize oe (cJ ⟨t.toArray⟩)=us at *;generalize hpx:(λr=>yK prog r<|cJ ⟨t.toArray⟩)=J9 at *;have abx:∀r,yK prog r (cJ ⟨t.toArray⟩)=J9 r:=λr=>by rw[<-hpx]
 simp only[abx] at Jz okT;have hoc:∀I t J,o≠some (.cells I t J):=by intro I t J e;rcases ho with rfl|⟨⟨_,_,_,rfl⟩,_⟩<;>cases e
 have g0:∀b,((sA.set 31 o).set 31 none).get b=if b=1 then some (.cells dy.toArray 335) else none:=λb=>by
  rw[AS.aN];split
  .next e=>subst e;rfl
  .next e=>rw[AS.aN,iw e,GA]
 have T0:Has ((sA.set 31 o).set 31 none) 1 (.cells dy.toArray 335):=⟨by show 1<32;decide,by rw[g0];rfl⟩;have M0:Tm ((sA.set 31 o).set 31 none):=by
  intro b I ty J H;rw[g0] at H;split at H
  .cases H;refine aT.2 λz hz=>?_;have h2:=aT.1 si z (by simpa using hz);unfold rM;split<;>first|exact h2|cases h2
  .cases H
 have Md:∃Uu:Prim,cR prog fa An (λ_:Zx=>AtRel) (λj=>DZ j.1) (λj=>ZI prog Post 0 j.1) (vK (λb=>b=1\/b=Pb) W) Uu/\∃s' px,Ef Uu 17 #[str t] ((sA.set 31 o).set 31 none) (aC px 0) s'/\Pg s' px us/\Has s' 1 (.cells dy.toArray 335)/\31<s'.nx/\s'.get 31=none:=by
  have⟨m,r,F,hR⟩:=UJ (s:=(sA.set 31 o).set 31 none) (t:=t) (J9:=J9) HK T0 M0<|λr F=>Jz r F;have F:32<=r:=F;refine⟨_,okT m (r+1) oq,?_⟩;have⟨s',pg,wv,xs,e1,e2,e3,e4,e5,e6,e7⟩:=(hR A (λO s=>Ca (V:=V3) Rd<|v3 t O HK) (λf D=>Z f (by simp only[oc,zL,or_false] at D;rcases D with rfl|rfl|rfl|rfl<;>simp))<|λs O=>IY dq Rd<|v3 t O HK).ex;have t1:=e5 1 _ T0.1 (pF T0.2 dq) T0.2 rfl;refine⟨s',pg,e1,⟨wv,xs,e2,e3,e4⟩,t1,?_,e6 31 (by show 31<32;decide)<|by rw[g0];rfl⟩;have:32<=pg:=e7
  have:=e2.1;omega
 have Me:∀s px pb ps,Of s px pb us o ps->ps.flatten=t->∃VW:Prim,cR prog fa An (λ_:Zx=>AtRel) (λj=>DZ j.1) (λj=>ZI prog Post 0 j.1) (vK (λb=>b=1\/b=Pb) W) VW/\∀x,Ew VW (NY f6.body) (Qe t pv px pb x) (s.set 31 none) (λe G s'=>e=.ret/\G.getD 4 undef=.bool true/\s'.get 1=some (.cells dy.toArray 335)/\31<s'.nx):=by
  intro s px pb ps P HF;have M:∀{k:Nat} {I:Aq} {t:TypeId} {J:Nat × Nat},Has s k (.cells I t J)->Has (s.set 31 none) k (.cells I t J):=λh=>X9 P.Yy hoc iq (λb H=>by rw[AS.aN,iw H]) h;have hKp:Kp s (s.set 31 none):=λk I ty J _ h=>M h;have hPs:QQ (s.set 31 none) pb ps ps.flatten.length:=by
   have⟨pv,h1,h2⟩:=P.pa;refine⟨pv,M h1,?_⟩;rcases h2 with z|⟨d,J,z1,z2⟩
   .exact .inl z
   .exact .inr ⟨d,J,z1,M z2⟩
  have ZP:ps.length<=20000:=by have:=P.len;rw[HF] at this;omega
  have hn:(s.set 31 none).nx=s.nx:=rfl;have⟨m,hm⟩:=Q8 (s:=s.set 31 none) (t:=t) (rN:=J9<|s.nx+1) (us:=us) hPs ZP (M P.tb) P.tm.none (by rw[hn];exact Jz s.nx<|by have:=P.Ug.1;omega) HF;have hE:=hm A<|Z 21 iq;rw[hn] at hE;refine⟨_,okT m (s.nx+1)<|by have:=P.Ug.1;omega,λx=>?_⟩;have hP:∀f,f≠37->mg prog m (s.nx+1) ⟨t.toArray⟩ AS.all (J9<|s.nx+1) A f=A f:=λf D=>RD D;have B:∀f,f∈[16,17,18,19,20,21]++MI++DD++[80,81,76,133,165,166,78,84,163,164,265,138,79]->mg prog m (s.nx+1) ⟨t.toArray⟩ AS.all (J9<|s.nx+1) A f=none:=λf D=>(hP f<|by rintro rfl;revert D;decide).trans<|Z f D;have hRd:Ay (mg prog m (s.nx+1) ⟨t.toArray⟩ AS.all (J9<|s.nx+1) A):=⟨λf D=>B f<|by simp[D],λf D=>B f<|by simp only[List.mem_append];right;revert f;decide,(hP _ dq).trans kK,λr s F=>IY dq aaX<|v4 r F⟩;have hX:Vz (mg prog m (s.nx+1) ⟨t.toArray⟩ AS.all (J9<|s.nx+1) A):=⟨B _ iq,B _ iq,B _ iq,B _ iq,B _ iq,(hP _ dq).trans kK⟩;exact Qo (λf D=>B f<|by simp[D]) hRd hX hE hPs (M P.tb) (P.pg.kp hKp) P.Ug.1 hu oq h00 oq t pv x
 have N:=TZ (Post:=Post) (Ex:=λb=>b=1\/b=Pb) (w₀:=W) ok4 ho ht.symm Tj KF h15 (by rw[AS.aN,ip rfl]) rfl (λf D=>Z f (by simp only[oc,zL,or_false] at D;rcases D with rfl|rfl|rfl|rfl<;>simp)) (λt O hl s=>Ca (V:=V3) Rd<|v3 t O hl) Md Me;have hold:∀b,b<W.heap.size->b≠1->b≠Pb->∀j l w,vK (λb=>b=1\/b=Pb) W j l w->sU j.1 w b/\w.heap[b]?=W.heap[b]?:=by intro b H L U j l w hF;have hm:sU j.1 W b:=⟨H,λhj=>by have:=hF.1.2 b hj;omega⟩;exact⟨hF.2.kept.mine b hm,hF.2.kept.block b hm λh=>h.elim L U⟩
 obtain⟨cd,hcd⟩:∃c,f6.body=some c:=⟨_,rfl⟩;have N:=N cd (by rw[hcd]);refine⟨f6,cd,func6,by rfl,hcd,?_⟩;intro b k I H hk hc;have sw:AR (VR An) (([str q,pv]++List.replicate 101 undef:Vq)).toArray (#[str q,av]++Array.replicate (f6.ntmps-(#[str q,av]:Aq).size) undef):=by
  have e:(([str q,pv]++List.replicate 101 undef:Vq)).toArray=#[str q,pv]++Array.replicate 101 undef:=by apply wu.1;kernel_rfl
  rw[e];refine AR.append ⟨rfl,λi x y hx hy=>?_⟩<|AR.replicate 101 fx;match i with
  | 0=>cases hx;cases hy;exact bD rfl
  | 1=>cases hx;cases hy;exact hVR
  | i+2=>simp at hx
 have w5:∀(e:Exit) (Q:TL) (s':AS) (j:Zx) (S':eN) (l':Hq) (E:World) (G:Act),Q6 o e Q s'->gz prog fa An S' s' l'->vK (λb=>b=1\/b=Pb) W j (l'++[]) E->AR (VR S') Q.toArray G.tmps->G.defers=[]->(∀b,s'.nx<=b->S' b=none)->(e=.normal\/e=.ret)/\G.defers=[]/\∃v,ResultsC prog f6 G.tmps v/\v=.bool true/\Ext W E:=?_
 .generalize W4:(⟨#[str q,av]++Array.replicate (f6.ntmps-(#[str q,av]:Aq).size) undef,[]⟩:Act)=act;have T:AR (VR An) (([str q,pv]++List.replicate 101 undef:Vq)).toArray act.tmps:=by rw[<-W4];exact sw
  have abb:act.defers=[]:=by rw[<-W4]
  refine (N 6 An l [] ((λ_=>False),W.heap.size) W act (λj e G E=>(e=.normal\/e=.ret)/\G.defers=[]/\∃v,ResultsC prog f6 G.tmps v/\v=.bool true/\Ext W E) aa3 hHd T abb K w5) b k I H hk ?_;intro j e G E hQ
  have:=hc j.1 e G E hQ;cases e<;>exact this
 .rintro e Q s' j S' l' E G ⟨rfl,h6,hg1,abg⟩ q3 q4 q5 q6 q7;refine⟨.inr rfl,q6,_,resultsC_tmp rq _,?_,?_⟩
  .have:=pm q5 4;rw[show Q.toArray.toList.getD 4 undef=.bool true from h6] at this;exact this.sc rfl
  .rw[List.append_nil] at q4;refine⟨q4.2.kept.tape,q4.2.kept.os,q4.2.kept.output,q4.2.kept.grow,λb H=>?_⟩;by_cases L:b=1
   .subst L;have⟨g,z,e,o',r1,r2,r3,_⟩:=q3.live 1 _ hg1;rw[q3.an _ _ R] at r1;cases r1;obtain⟨qG,rfl,t1,_,t3⟩:=r3;have ER:qG=dy.toArray:=by exact AR.sc (S:=S') ⟨by rw[qc,t1],t3⟩ si
    subst ER;rw[(q4.2.own 1 _ r2).2.1,hG]
   .by_cases U:b=Pb
    .subst U;exact Dn L j S' s' l' E abg q3 q4
    .exact(hold b H L U j _ E q4).2
def xG(o:Option Obj)(b:Nat):(sA.set 31 o).get b=if b=31 then o else if b=1 then some (.cells dy.toArray 335) else none:=by rw[AS.aN,GA]
def BM{W:World}(A:W.heap[1]?=some (.cells dy.toArray 335)){An:eN}(j:An 1=some (1,54,54)){o:Option Obj}{Pb:Nat}{l:Hq}(q:(o=none/\l=[])\/∃d t f z e,o=some (LQ d t f)/\An 31=some (Pb,z,e)/\Pb≠1/\l=[(Pb,.cells d t f)]/\W.heap[Pb]?=some (.cells d t f)):gz prog fa An An (sA.set 31 o) ((1,.cells dy.toArray 335)::l)/\vK (λb=>b=1\/b=Pb) W ((λ_=>False),W.heap.size) (((1,.cells dy.toArray 335)::l)++[]) W:=by
 have u:=(oF.1 A).1;refine⟨⟨λb v c=>?_,λb w v D x E c a m g B=>?_,λb v c=>?_,aQ An⟩,⟨λb h=>h.elim,λb h=>h.elim⟩,Kept.refl W,lr,λb v k=>?_,?_⟩
 .rw[xG] at c;split at c
  .next e =>
   subst e;rcases q with ⟨rfl,_⟩|⟨d,t,f,z,e,rfl,h2,h3,rfl,h5⟩
   .cases c
   .cases c;exact⟨Pb,z,e,_,h2,iq,Y,λd t f h=>by cases h⟩
  .split at c
   .next e =>
    subst e;cases c;refine⟨1,54,54,_,j,iq,⟨dy.toArray,Y,qc,⟨by rw[qc];exact lr,λ_=>qc⟩,λi x y m C=>?_⟩,λd t f h=>?_⟩
    .rw[m] at C;cases C
     have:=si;rw[aT] at this;exact bD<|this x<|by simpa using Array.mem_of_getElem? m
    .cases h;exact⟨kq,cB 335 Y⟩
   .cases c
 .rw[xG] at c a;rcases q with ⟨rfl,_⟩|⟨d,t,f,z,e,rfl,h2,h3,rfl,h5⟩
  .split at c
   .cases c
   .split at a
    .cases a
    .split at c
     .next s =>
      split at a
      .next p=>rw[s,p]
      .cases a
     .cases c
  .by_cases r:b=31
   .by_cases n:w=31
    .rw[r,n]
    .rw[iw n] at a;split at a
     .next p =>subst r p;rw[h2] at m;rw[j] at g;cases m;cases g;exact absurd B h3
     .cases a
   .rw[iw r] at c;split at c
    .next s =>
     subst s;by_cases n:w=31
     .subst n;rw[h2] at g;rw[j] at m;cases m;cases g;exact absurd B.symm h3
     .rw[iw n] at a;split at a
      .next p=>rw[p]
      .cases a
    .cases c
 .rw[xG] at c;split at c
  .next e=>subst e;show 31<32;decide
  .split at c
   .next e=>subst e;show 1<32;decide
   .cases c
 .rw[List.append_nil] at k;rcases oc.1 k with k|k
  .cases k;exact⟨⟨u,λh=>h⟩,A,.inl<|.inl Y⟩
  .rcases q with ⟨_,rfl⟩|⟨d,t,f,z,e,rfl,h2,h3,rfl,h5⟩
   .cases k
   .cases List.mem_singleton.1 k;exact⟨⟨(oF.1 h5).1,λh=>h⟩,h5,.inl<|.inr Y⟩
 .rcases q with ⟨_,rfl⟩|⟨d,t,f,z,e,rfl,h2,h3,rfl,h5⟩
  .simp
  .simpa using h3.symm
