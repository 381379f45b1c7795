/-
 Proved: whatever text and list of parts are handed in, foliokeep.Again at the commit 6208ed2 returns true on every schedule, without a data race, all other goroutines ended or only leaving, and what was handed in reads as it did. Its conditions are those of the card alone: the listed tables read as the program's text lays them.
-/
import Derived.Test.YtgcaionclkbehaaGreatDoorRow6a
import Derived.Test.YtgcaionclkbehaaGreatDoorFacts6
set_option linter.all false
set_option maxHeartbeats 2000000
set_option maxRecDepth 100000
namespace Go.Proofs.YtgcaionclkbehaaGreatDoor
open Go.ChangeShapes Go.WideShapes Go.ChangeAt Go.RowKit Go.Conc
def GU(os:Os):laidMet Tryz.prog Rows.againRow.laid ((qn (World.holding Tryz.prog os ⟨#[],#[],[]⟩)).forCall (fun _ _=>0) ⟨#[],#[.string ⟨#[]⟩,.slice .none 0 0],[]⟩).memory :=
 laidMet_of_run' 8 kq kq
def KF(os:Os){H:Type}(enc:TypeId × Value→H):∃places,DataW.whole enc Tryz.prog ((qn (World.holding Tryz.prog os ⟨#[],#[],[]⟩)).forCall (fun _ _=>0) ⟨#[],#[.string ⟨#[]⟩,.slice .none 0 0],[]⟩).memory Tryz.f9.params.toList Rows.againSpec.vars false #[Value.string ⟨#[]⟩,.slice .none 0 0].toList 8=some ([.lit (.string []),.nil],[],places) :=
 ⟨[],kq⟩
def uE:Tryz.prog.cellsOf 92=4:=kq
def MV{n:Int}(h:(Lit.int .i64 n).wf=true) : -9223372036854775808≤n∧n≤9223372036854775807:=by simp only[Lit.wf,Bool.and_eq_true,decide_eq_true_eq] at h;exact h
def Bc{H:Type}{enc:TypeId × Value→H}{W:World}{base i:Nat}{b:Nat→Bool}{c:Bool}{cs:List Value}{x:DataW H × List MemPlace}(h:DataW.trod enc Tryz.prog W base b c i 92 cs=some x):∃p:gd,p.ok∧cs=[num p.kind,str p.s,str p.a,str p.v]:=by
 obtain⟨l,n,_,rfl,E,F,j⟩:=DataW.trod_struct Tryz.underlying92 h;rw[uE] at E;obtain⟨d,e,f,g,rfl⟩:∃d e f g,cs=[d,e,f,g]:=by
  rcases cs with _|⟨d,_|⟨e,_|⟨f,_|⟨g,_|⟨c4,cs⟩⟩⟩⟩⟩
  case cons.cons.cons.cons.nil=>exact⟨d,e,f,g,rfl⟩
  all_goals (simp only[List.length_cons,List.length_nil] at E; omega)
 have m:l.length=4:=by simpa using F
 obtain⟨o,q,r,t,rfl⟩:∃o q r t,l=[o,q,r,t]:=by
  rcases l with _|⟨d,_|⟨e,_|⟨f,_|⟨g,_|⟨c4,l⟩⟩⟩⟩⟩
  case cons.cons.cons.cons.nil=>exact⟨d,e,f,g,rfl⟩
  all_goals (simp only[List.length_cons,List.length_nil] at m; omega)
 have u:DataW.trod enc Tryz.prog W base b c n 3 (([d,e,f,g].drop 0).take (Tryz.prog.cellsOf 3))=some o:=j 0 _ rfl;have w:DataW.trod enc Tryz.prog W base b c n 9 (([d,e,f,g].drop 1).take (Tryz.prog.cellsOf 9))=some q:=j 1 _ rfl;have y:DataW.trod enc Tryz.prog W base b c n 9 (([d,e,f,g].drop 2).take (Tryz.prog.cellsOf 9))=some r:=j 2 _ rfl;have z:DataW.trod enc Tryz.prog W base b c n 9 (([d,e,f,g].drop 3).take (Tryz.prog.cellsOf 9))=some t:=j 3 _ rfl;rw[F6] at u;rw[xW] at w y z;have⟨k,D,_,G⟩:=DataW.trod_int Tryz.underlying3 u;have⟨A,h1,_,I⟩:=DataW.trod_string Tryz.underlying9 w;have⟨B,h2,_,J⟩:=DataW.trod_string Tryz.underlying9 y;have⟨C,h3,_,K⟩:=DataW.trod_string Tryz.underlying9 z;simp only[List.drop_zero,List.drop_succ_cons,List.take_succ_cons,List.take_zero,List.cons.injEq,and_true] at D h1 h2 h3;subst D h1 h2 h3;exact⟨⟨k,A.data.toList,B.data.toList,C.data.toList⟩,⟨MV G,I,J,K⟩,rfl⟩
def Hs{a:Nat}{P:Nat→gd→Prop}(h:∀i,i<a→∃p,P i p):∃c:List gd,c.length=a∧∀(i:Nat) (p:gd),c[i]?=some p→P i p:=by
 induction a with
 | zero=>exact⟨[],rfl,fun i p e=>by simp at e⟩
 | succ n g =>
  have⟨c,h1,h2⟩:=g fun i f=>h i oq;have⟨p,e⟩:=h n oq;refine⟨c++[p],by simp[h1],fun i q b=>?_⟩;by_cases f:i<c.length
  ·rw[List.getElem?_append_left f] at b;exact h2 i q b
  ·have d:i=n:=by have:=(List.getElem?_eq_some_iff.1 b).1;simp only[List.length_append,List.length_singleton] at this;omega
   subst d;rw[List.getElem?_append_right oq,h1,Nat.sub_self] at b;cases b;exact e
def vL(Z:Os)(y:Z.Started)(H:Type)(enc:TypeId × Value→H) :
  ReturnsInLeavingWide {} Tryz.checked Z 9 .any ((OpenSpec.ofChange Rows.againSpec).preRow enc Tryz.prog Tryz.f9 Rows.againRow.domain false Rows.againRow.laid) (Rows.againSpec.post enc Tryz.prog Tryz.f9 false true false false):=by
 have⟨places,B⟩:=KF Z enc;refine nY (C:=Tryz.checked) P9 y Tryz.func9
  (witness_row_at (enc:=enc) (C:=Tryz.checked) false (qn (World.holding Tryz.prog Z ⟨#[],#[],[]⟩)) #[.string ⟨#[]⟩,.slice .none 0 0] rfl kq kq kq
   (OpenSpec.preRow_of_cond 8 B kq (fun k hk=>by cases hk) kq (GU Z))) ?_;intro W O D ds gs before X r hW Y m;have hG:W.heap[1]?=some (.cells db.toArray 335):=K1 X m;clear Y m X;have g:∀(j:Nat) t v,Tryz.f9.params[j]?=some t→D[j]?=some v→Value.okWide Tryz.prog W .any O t v:=r;have I:=hW;obtain⟨p,q,R,hV,rfl,_,_⟩:=hW;have hA:DataW.TrodAll enc Tryz.prog W 0 (fun _=>true) true Tryz.f9.params.toList D.toList ds p:=R;rw[Tryz.params9] at hA g;obtain⟨v0,v1,d0,d1,p0,p1,rfl,rfl,rfl,h0,h1⟩:=trodAll_two hA;obtain⟨rfl,rfl⟩:=trodVars_none hV;have WQ:=h0;have WT:=h1;have⟨fuel,hf⟩:=h0;have⟨UZ,Q6⟩:=h1;clear R r;simp only[List.append_nil] at I;obtain⟨qs,rfl⟩:=okWide_string Tryz.underlying9 (g 0 9 v0 rfl rfl);obtain⟨N,f,d,rfl⟩:=okWide_slice Tryz.underlying48 (g 1 48 v1 rfl rfl);have E:=g 1 48 _ rfl rfl;have⟨qs',T,_,hq⟩:=DataW.trod_string Tryz.underlying9 hf;simp only[Value.cells,List.cons.injEq,and_true,Value.string.injEq] at T;subst T;have X6:qs.size≤9223372036854775807:=Nat.le_trans hq dq;have U:∀x∈p0++p1,x.block<W.heap.size:=fun x B=>by simpa using I.lt x B
 have Ye:∀(z:World),Below W.heap.size W z→DataW.Trod enc Tryz.prog z 0 (fun b=>decide (b<W.heap.size)) true 9 (.string qs) d0 p0 :=
  fun z hn=>Below.trod uX kq (of_decide_eq_true kq) WQ hn fun x B=>U x (by simp[B]);have Tp:∀(z:World),Below W.heap.size W z→DataW.Trod enc Tryz.prog z 0 (fun b=>decide (b<W.heap.size)) true 48 (.slice N f d) d1 p1 :=
  fun z hn=>Below.trod uX kq (of_decide_eq_true kq) WT hn fun x B=>U x (by simp[B]);have l:(∃F:List gd,F.length=f∧((N=none∧F=[]∧d=0)∨∃Sb so,N=some ⟨Sb,so,none⟩∧F.length≤d∧d≤maxLen∧(F≠[]→∃A t fz,W.heap[Sb]?=some (.cells A t fz)∧∀(i:Nat) (p:gd),F[i]?=some p→p.ok∧A[so+i*4]?=some (num p.kind)∧A[so+i*4+1]?=some (str p.s)∧A[so+i*4+2]?=some (str p.a)∧A[so+i*4+3]?=some (str p.v)))) →
   ∃M u o L t',runNT Tryz.checked.prog (M+1) (solo (G (Frame.enter Tryz.checked.prog 9 #[.string qs,.slice N f d] .normal) []) W) #[]=(.ended o L,t') ∧
    runN Tryz.checked.prog M (solo (G (Frame.enter Tryz.checked.prog 9 #[.string qs,.slice N f d] .normal) []) W)=.next u∧step Tryz.checked.prog u=.ended o L ∧
    Conc.Good Tryz.checked.prog (fun v z=>Rows.againSpec.post enc Tryz.checked.prog Tryz.f9 false true false false W #[.string qs,.slice N f d] v z) u o L t':=by
  rintro⟨F,rfl,ha⟩;refine ends_of_calls (P:=Tryz.prog) (Q:=fun v L=>v=.bool true∧Ext W L) kq ?_ (Jc hG X6 ha);rintro v L e ⟨rfl,S⟩;have J:Below W.heap.size W (L.at e):=⟨S.os,S.tape,S.output,S.size,S.block⟩;refine⟨_,_,_,[],p0++p1,[],I,?_,?_,rq,J.frame _,fun h=>by cases h⟩
  ·exact trodAll_mk1 (shut_bool Tryz.underlying4 true)
  ·exact trodAll_mk2 (Ye _ J) (Tp _ J)
 rcases DataW.trod_slice Tryz.underlying48 Q6 with ⟨B8,B⟩|⟨a,YE,Wu,elems,rest,n,_,B8,B,_,hl,hm,ZT,Pj,_,_⟩
 ·simp[Value.cells] at B8;obtain⟨rfl,rfl,rfl⟩:=B8;exact l ⟨[],rfl,.inl ⟨rfl,rfl,rfl⟩⟩
 ·simp[Value.cells] at B8;obtain⟨rfl,rfl,rfl⟩:=B8;have⟨b,w,spot⟩:=a;have K:spot=none:=by simp only[Value.okWide,Cell.okWide,Cell.ok,Tryz.underlying48,World.has] at E;exact E.2.2.2.1
  subst K;rw[uE] at Pj;have c:∀i,i<f→∃p:gd,p.ok∧W.cell? ⟨b,w+i*4,none⟩=some (num p.kind)∧W.cell? ⟨b,w+i*4+1,none⟩=some (str p.s)∧W.cell? ⟨b,w+i*4+2,none⟩=some (str p.a)∧W.cell? ⟨b,w+i*4+3,none⟩=some (str p.v):=by intro i hi;have hg:=Pj i hi;rw[List.getElem?_eq_getElem oq] at hg;have⟨A,g1,g2⟩:=Option.bind_eq_some_iff.1 hg;have⟨_,MM,c⟩:=World.cells?_some g1;obtain⟨p,hp,rfl⟩:=Bc g2;have c0:=c 0 oq;have c1:=c 1 oq;have c2:=c 2 oq;have c3:=c 3 oq;rw[addr_add,addr_add] at c0 c1 c2 c3;exact⟨p,hp,c0,c1,c2,c3⟩
  have⟨F,V,Ta⟩:=Hs c;refine l ⟨F,V,.inr ⟨b,w,rfl,oq,hm,fun I5=>?_⟩⟩;have h0:0<f:=by rw[← V];exact List.length_pos_iff.2 I5
  have⟨p,_,hy,_⟩:=c 0 h0;unfold World.cell? at hy;cases J:W.heap[b]? with
  | none=>simp[J] at hy
  | some o =>
   cases o with
   | cells A t fz =>
    have hc:∀k,W.cell? ⟨b,k,none⟩=A[k]?:=fun k=>by simp[World.cell?,J]
    refine⟨A,t,fz,rfl,fun i p hp=>?_⟩
    have:=Ta i p hp;simp only[hc] at this;exact this
   | _=>simp[J] at hy
def dg{a b:Bool}(c:a=true)(d:b=true):(a&&b)=true:=by rw[c,d];rfl
def xM:joinedFacts Tryz.pinned.checked.prog 9 Tryz.f9 Rows.againSpec Rows.againRow=true:=dg (dg (dg (dg (dg (dg (dg (dg (dg (dg (dg (dg (dg (dg (dg (dg (dg (dg (dg (dg (dg (dg (dg (dg (dg (dg (dg (dg (dg (dg (dg FC FD) FE) FF) FG) FH) FI) FJ) FK) FL) C5) C6) C7) C8) C9) Da) Db) Dc) Dd) De) Df) Dg) Dh) Di) Dj) Dk) Dl) Dm) Dn) Dp) Dq) Dr
def xN:Rows.AgainSaid :=
 OpenClaim.holds_of_wide_leaving 9 Tryz.f9 rfl rfl rfl rfl rfl rfl rfl ⟨rfl,rfl,rfl,rfl,rfl⟩ rfl rfl rfl rfl rfl kq Tryz.func9 xM
  (of_decide_eq_true kq) (by unfold Func.isWrapper; first|(rw[if_pos (by decide +kernel)]; kernel_rfl)|(rw[if_neg (by decide +kernel)]; exact⟨rfl,rfl⟩))
  (fun os started H enc _=>by rw[OpenClaim.pre_eq_preRow]; exact vL os started H enc)
def Kt(f:FuncId)(fn:Func)(c:Tryz.pinned.checked.prog.funcNamed Tryz.f9.name=some f)(a:Tryz.pinned.checked.prog.funcs[f]?=some fn) :
  false=Tryz.pinned.checked.prog.looks []∧∀(j:Nat) t,fn.params[j]?=some t→Tryz.pinned.checked.prog.wantsStandIn t=false:=by
 obtain rfl:f=9:=Option.some.inj ((show Tryz.prog.funcNamed Tryz.f9.name=some 9 by kernel_rfl).symm.trans c) |>.symm;obtain rfl:fn=Tryz.f9:=(Option.some.inj (Tryz.func9.symm.trans a)).symm;refine⟨kq,fun j t b=>?_⟩;rw[Tryz.params9] at b;have d:t=9∨t=48:=by simpa using Array.mem_of_getElem? b
 rcases d with rfl|rfl
 ·exact(show Tryz.prog.wantsStandIn 9=false by kernel_rfl)
 ·exact(show Tryz.prog.wantsStandIn 48=false by kernel_rfl)
theorem again_card:Rows.AgainCardSaid :=
 ⟨Claim7.tied_new_at .later [.data,.data,.pinned] true (Claim7.new_of_sixth xN _ _ rfl ⟨rfl,rfl⟩ kq rfl Kt) kq,(fun _ h=>by cases h),again_row_tie,(fun h=>by cases h),kq⟩
#print axioms again_card
end Go.Proofs.YtgcaionclkbehaaGreatDoor
