/-
 Proved: whatever bytes and cuts are handed in, foliokeep.Pieces at the commit 6208ed2 returns true on every schedule, without a data race, every other goroutine being ended or only leaving, and what was handed in reads as it did. Its conditions are those of the card alone: the listed tables read as the program's text lays them.
-/
import Derived.Test.YtgcaionclkbehaaGreatDoorRow8a
import Derived.Test.YtgcaionclkbehaaGreatDoorFacts8
set_option linter.all false
set_option maxHeartbeats 2000000
set_option maxRecDepth 100000
namespace Go.Proofs.YtgcaionclkbehaaGreatDoor
open Go.ChangeShapes Go.WideShapes Go.ChangeAt Go.RowKit Go.Conc
theorem Mp(os:Os):laidMet Tryz.prog Rows.piecesRow.laid ((uj<|World.holding Tryz.prog os ⟨#[],#[],[]⟩).forCall (λ_ _=>0) ⟨#[],#[.string ⟨#[]⟩,.slice .none 0 0],[]⟩).memory :=
 laidMet_of_run' 8 (by kernel_rfl) (by kernel_rfl)
theorem P7(os:Os){H:Type}(enc:TypeId × Value->H):∃places,DataW.whole enc Tryz.prog ((uj<|World.holding Tryz.prog os ⟨#[],#[],[]⟩).forCall (λ_ _=>0) ⟨#[],#[.string ⟨#[]⟩,.slice .none 0 0],[]⟩).memory Tryz.f6.params.toList Rows.piecesSpec.vars false #[Value.string ⟨#[]⟩,.slice .none 0 0].toList 8=some ([.lit (.string []),.nil],[],places) :=
 ⟨[],by kernel_rfl⟩
theorem TN{n:Int}(h:(Lit.int .i64 n).wf=true) : -9223372036854775808<=n/\n<=9223372036854775807:=by simp only[Lit.wf,Bool.and_eq_true,decide_eq_true_eq] at h;exact h
theorem Pe{len:Nat}{P:Nat->Int->Prop}(h:∀i,i<len->∃p,P i p):∃ps:List Int,ps.length=len/\∀(i:Nat) (p:Int),ps[i]?=some p->P i p:=by
 induction len with
 | zero=>exact⟨[],rfl,λi p hp=>by simp at hp⟩
 | succ n ih =>
  obtain⟨ps,h1,h2⟩:=ih λi hi=>h i (by omega);obtain⟨p,hp⟩:=h n (by omega);refine⟨ps++[p],by simp[h1],λi q hq=>?_⟩;by_cases hi:i<ps.length
  .rw[List.getElem?_append_left hi] at hq;exact h2 i q hq
  .have hin:i=n:=by have:=(List.getElem?_eq_some_iff.1 hq).1;simp only[List.length_append,List.length_singleton] at this;omega
   subst hin;rw[List.getElem?_append_right (by omega),h1,Nat.sub_self] at hq;cases hq;exact hp
theorem yJ(os:Os)(started:os.Started)(H:Type)(enc:TypeId × Value->H) :
  ReturnsInLeavingWide {} Tryz.checked os 6 .any ((OpenSpec.ofChange Rows.piecesSpec).preRow enc Tryz.prog Tryz.f6 Rows.piecesRow.domain false Rows.piecesRow.laid) (Rows.piecesSpec.post enc Tryz.prog Tryz.f6 false true false false):=by
 obtain⟨places,hx⟩:=P7 os enc;refine ri (C:=Tryz.checked) YI started Tryz.func6
  (witness_row_at (enc:=enc) (C:=Tryz.checked) false (uj<|World.holding Tryz.prog os ⟨#[],#[],[]⟩) #[.string ⟨#[]⟩,.slice .none 0 0] rfl (by kernel_rfl) (by kernel_rfl) (by kernel_rfl)
   (OpenSpec.preRow_of_cond 8 hx (by kernel_rfl) (λk hk=>by cases hk) (by kernel_rfl)<|Mp os)) ?_;intro W base args ds gs before EU Rq hW abE Rn;obtain⟨⟨hG,W3⟩,hN⟩:=Qn EU Rn;clear abE Rn EU;have JA:∀(j:Nat) t v,Tryz.f6.params[j]?=some t->args[j]?=some v->Value.okWide Tryz.prog W .any base t v:=Rq;have hW':=hW;obtain⟨p,q,ZC,hV,rfl,_,_⟩:=hW;have hA:DataW.TrodAll enc Tryz.prog W 0 (λ_=>true) true Tryz.f6.params.toList args.toList ds p:=ZC;rw[Tryz.params6] at hA JA;obtain⟨v0,v1,d0,d1,p0,p1,rfl,rfl,rfl,h0,h1⟩:=trodAll_two hA;obtain⟨rfl,rfl⟩:=trodVars_none hV;have h0k:=h0;have h1k:=h1;obtain⟨fuel,hf⟩:=h0;obtain⟨fuel1,Ri⟩:=h1;clear ZC Rq;simp only[List.append_nil] at hW';obtain⟨qs,rfl⟩:=okWide_string Tryz.underlying9<|JA 0 9 v0 rfl rfl;obtain⟨a0,len,cap,rfl⟩:=okWide_slice Tryz.underlying25<|JA 1 25 v1 rfl rfl;have XE:=JA 1 25 _ rfl rfl;obtain⟨qs',Rh,_,hq⟩:=DataW.trod_string Tryz.underlying9 hf;simp only[Value.cells,List.cons.injEq,and_true,Value.string.injEq] at Rh;subst Rh;have hqs:qs.size<=9223372036854775807:=Nat.le_trans hq (by decide);have mH:∀x∈p0++p1,x.block<W.heap.size:=λx hx=>by simpa using hW'.lt x hx
 have ht0:∀(W':World),Below W.heap.size W W'->DataW.Trod enc Tryz.prog W' 0 (λb=>decide (b<W.heap.size)) true 9 (.string qs) d0 p0 :=
  λW' hn=>Below.trod zJ (by kernel_rfl) (of_decide_eq_true<|by kernel_rfl) h0k hn λx hx=>mH x (by simp[hx]);have ht1:∀(W':World),Below W.heap.size W W'->DataW.Trod enc Tryz.prog W' 0 (λb=>decide (b<W.heap.size)) true 25 (.slice a0 len cap) d1 p1 :=
  λW' hn=>Below.trod zJ (by kernel_rfl) (of_decide_eq_true<|by kernel_rfl) h1k hn λx hx=>mH x (by simp[hx]);have close:(∃ps:List Int,ps.length=len/\((a0=none/\ps=[]/\cap=0)\/∃Sb so,a0=some ⟨Sb,so,none⟩/\ps.length<=cap/\cap<=maxLen/\(ps≠[]->∃cs t fz,W.heap[Sb]?=some (.cells cs t fz)/\∀(i:Nat) (y:Int),ps[i]?=some y->(-9223372036854775808<=y/\y<=9223372036854775807)/\cs[so+i]?=some (num y)))) ->
   ∃M last o w' t',runNT Tryz.checked.prog (M+1) (solo (G (Frame.enter Tryz.checked.prog 6 #[.string qs,.slice a0 len cap] .normal) []) W) #[]=(.ended o w',t') /\
    runN Tryz.checked.prog M (solo (G (Frame.enter Tryz.checked.prog 6 #[.string qs,.slice a0 len cap] .normal) []) W)=.next last/\step Tryz.checked.prog last=.ended o w' /\
    Conc.Good Tryz.checked.prog (λv W'=>Rows.piecesSpec.post enc Tryz.checked.prog Tryz.f6 false true false false W #[.string qs,.slice a0 len cap] v W') last o w' t':=by
  rintro⟨ps,rfl,ha⟩;refine ends_of_calls (P:=Tryz.prog) (Q:=λv w'=>v=.bool true/\Ext W w') (by kernel_rfl) ?_<|(by
   rcases ha with ⟨rfl,rfl,rfl⟩|⟨f,v,rfl,hlc,VN,W9⟩
   .obtain⟨d,a,p,r,s⟩:∃d:eN,d 1=some (1,54,54)/\d 2=some (2,0,0)/\d 3=some (3,0,0)/\(∀b,32<=b->d b=none):=by refine⟨λb=>if b=1 then some (1,54,54) else if b=2 then some (2,0,0) else if b=3 then some (3,0,0) else none,rfl,rfl,rfl,λb U=>?_⟩;show(if b=1 then _ else if b=2 then _ else if b=3 then _ else _)=_;rw[iw oq,iw oq,iw oq]
    have⟨E,D⟩:=BM hG a (o:=none) (Pb:=1) (l:=[])<|.inl ⟨rfl,rfl⟩;exact pM (Pb:=1) (pd:=[]) hG W3 iq dq dq a p r s (bD rfl) ⟨_,_,rfl,λh=>absurd rfl h⟩ (.inl rfl) E D λh=>absurd rfl h
   .obtain⟨d,a,p,r,c,s⟩:∃d:eN,d 1=some (1,54,54)/\d 2=some (2,0,0)/\d 3=some (3,0,0)/\d 31=some (f,v+cap*1,1)/\(∀b,32<=b->d b=none):=by refine⟨λb=>if b=1 then some (1,54,54) else if b=2 then some (2,0,0) else if b=3 then some (3,0,0) else if b=31 then some (f,v+cap*1,1) else none,rfl,rfl,rfl,rfl,λb U=>?_⟩;show(if b=1 then _ else if b=2 then _ else if b=3 then _ else if b=31 then _ else _)=_;rw[iw oq,iw oq,iw oq,iw oq]
    have P:=kD c hlc lr VN rfl;have H:=lT hlc VN;by_cases M:ps=[]
    .have⟨E,D⟩:=BM hG a (o:=none) (Pb:=1) (l:=[])<|.inl ⟨rfl,rfl⟩;exact pM (Pb:=1) hG W3 H dq dq a p r s P ⟨_,_,rfl,λh=>absurd M h⟩ (.inl rfl) E D λh=>absurd rfl h
    .have⟨m,t,n,C,Q⟩:=W9 M;obtain⟨Z,N⟩:∃y,ps[0]?=some y:=by
      cases ps with
      | nil=>exact absurd rfl M
      | cons y l=>exact⟨y,rfl⟩
     have B:=(Q 0 Z N).2;have L:f≠1:=by
      rintro rfl;rw[hG] at C;cases C;have V:=Array.mem_of_getElem? B
      have:=aT.1 Jq _ (by simpa using V);cases this
     have F:f≠2:=by rintro rfl;exact hN 2 (.inl rfl) _ _ _ C _ _ B
     have G:f≠3:=by rintro rfl;exact hN 3 (.inr rfl) _ _ _ C _ _ B
     have⟨E,D⟩:=BM hG a (Pb:=f)<|.inr ⟨m,t,n,_,_,rfl,c,L,rfl,C⟩;refine pM (Pb:=f) hG W3 H F G a p r s P ⟨_,_,rfl,λ_=>⟨v,m,t,n,rfl,rfl,Q⟩⟩ (.inr ⟨⟨m,t,n,rfl⟩,by rw[c];simp⟩) E D λ_ j S' s' l' S J u K=>?_;have⟨g,z,e,o',R,X,Y,_⟩:=u.live 31 _ J;rw[u.an _ _ c] at R;cases R;cases Y;rw[(K.2.own f _ X).2.1,C]);rintro v w' e ⟨rfl,hE⟩;have hb:Below W.heap.size W (w'.at e):=⟨hE.os,hE.tape,hE.output,hE.size,hE.block⟩;refine⟨_,_,_,[],p0++p1,[],hW',?_,?_,by rfl,hb.frame _,λh=>by cases h⟩
  .exact trodAll_mk1<|shut_bool Tryz.underlying4 true
  .exact trodAll_mk2 (ht0 _ hb)<|ht1 _ hb
 rcases DataW.trod_slice Tryz.underlying25 Ri with ⟨ER,hx⟩|⟨a,len',cap',elems,rest,n,_,ER,hx,_,hl,hm,ZG,Xp,_,_⟩
 .simp[Value.cells] at ER;obtain⟨rfl,rfl,rfl⟩:=ER;exact close ⟨[],rfl,.inl ⟨rfl,rfl,rfl⟩⟩
 .simp[Value.cells] at ER;obtain⟨rfl,rfl,rfl⟩:=ER;obtain⟨b,off,spot⟩:=a;have XQ:spot=none:=by simp only[Value.okWide,Cell.okWide,Cell.ok,Tryz.underlying25,World.has] at XE;exact XE.2.2.2.1
  subst XQ;rw[Lj] at Xp;have zC:∀i,i<len->∃y:Int,(-9223372036854775808<=y/\y<=9223372036854775807)/\W.cell? ⟨b,off+i,none⟩=some (num y):=by intro i hi;have hg:=Xp i hi;rw[List.getElem?_eq_getElem (by omega)] at hg;obtain⟨cs,g1,g2⟩:=Option.bind_eq_some_iff.1 hg;obtain⟨_,KF,zC⟩:=World.cells?_some g1;obtain⟨k,e0,_,w0⟩:=DataW.trod_int Tryz.underlying3 g2;subst e0;have c0:=zC 0 (by simp);rw[addr_add,addr_add] at c0;exact⟨k,TN w0,by simpa using c0⟩
  obtain⟨ps,Tz,ZP⟩:=Pe zC;refine close ⟨ps,Tz,.inr ⟨b,off,rfl,by omega,hm,λES=>?_⟩⟩;have h0:0<len:=by rw[<-Tz];exact List.length_pos_iff.2 ES
  obtain⟨p,_,hy⟩:=zC 0 h0;unfold World.cell? at hy;cases hb:W.heap[b]? with
  | none=>simp[hb] at hy
  | some o =>
   cases o with
   | cells cs t fz =>
    have hc:∀k,W.cell? ⟨b,k,none⟩=cs[k]?:=λk=>by simp[World.cell?,hb]
    refine⟨cs,t,fz,rfl,λi p hp=>?_⟩
    have:=ZP i p hp;simp only[hc] at this;exact this
   | _=>simp[hb] at hy
theorem ea{a b:Bool}(ha:a=true)(hb:b=true):(a&&b)=true:=by rw[ha,hb];rfl
theorem BD:joinedFacts Tryz.pinned.checked.prog 6 Tryz.f6 Rows.piecesSpec Rows.piecesRow=true:=ea (ea (ea (ea (ea (ea (ea (ea (ea (ea (ea (ea (ea (ea (ea (ea (ea (ea (ea (ea (ea (ea (ea (ea (ea (ea (ea (ea (ea (ea (ea JX JY) JZ) J0) J1) J2) J3) J4) J5) J6) F8) F9) Ga) Gb) Gd) Ge) Gf) Gg) Gh) Gi) Gj) Gk) Gl) Gm) Gn) Gp) Gr) Gt) Gu) Gw) Gx) Gy
theorem BE:Rows.PiecesSaid :=
 OpenClaim.holds_of_wide_leaving 6 Tryz.f6 rfl rfl rfl rfl rfl rfl rfl ⟨rfl,rfl,rfl,rfl,rfl⟩ rfl rfl rfl rfl rfl (by kernel_rfl) Tryz.func6 BD
  (of_decide_eq_true<|by kernel_rfl) (by unfold Func.isWrapper; first|(rw[if_pos (by decide +kernel)]; kernel_rfl)|(rw[if_neg (by decide +kernel)]; exact⟨rfl,rfl⟩))
  (λos started H enc _=>by rw[OpenClaim.pre_eq_preRow]; exact yJ os started H enc)
theorem P0(f:FuncId)(fn:Func)(hf:Tryz.pinned.checked.prog.funcNamed Tryz.f6.name=some f)(hfn:Tryz.pinned.checked.prog.funcs[f]?=some fn) :
  false=Tryz.pinned.checked.prog.looks []/\∀(j:Nat) t,fn.params[j]?=some t->Tryz.pinned.checked.prog.wantsStandIn t=false:=by
 obtain rfl:f=6:=Option.some.inj ((show Tryz.prog.funcNamed Tryz.f6.name=some 6 by kernel_rfl).symm.trans hf) |>.symm;obtain rfl:fn=Tryz.f6:=(Option.some.inj<|Tryz.func6.symm.trans hfn).symm;refine⟨by kernel_rfl,λj t ht=>?_⟩;rw[Tryz.params6] at ht;have hm:t=9\/t=25:=by simpa using Array.mem_of_getElem? ht
 rcases hm with rfl|rfl
 .exact(show Tryz.prog.wantsStandIn 9=false by kernel_rfl)
 .exact(show Tryz.prog.wantsStandIn 25=false by kernel_rfl)
theorem pieces_card:Rows.PiecesCardSaid :=
 ⟨Claim7.tied_new_at .later [.data,.data,.pinned] true (Claim7.new_of_sixth BE _ _ rfl ⟨rfl,rfl⟩ (by kernel_rfl) rfl P0)<|by kernel_rfl,(λ_ h=>by cases h),pieces_row_tie,(λh=>by cases h),by kernel_rfl⟩
#print axioms pieces_card
end Go.Proofs.YtgcaionclkbehaaGreatDoor
