import Derived.Test.YtgcaionclkbehaaGreatDoorRow9a
set_option linter.all false
set_option maxHeartbeats 0
set_option maxRecDepth 100000
namespace Go.Proofs.YtgcaionclkbehaaGreatDoor
open Go.ChangeShapes Go.WideShapes Go.ChangeAt Go.RowKit Go.Conc
theorem te:Tryz.prog.cellsOf 77=5:=by kernel_rfl
theorem HU:Tryz.prog.cellsOf 38=1:=by kernel_rfl
theorem Lz(os:Os):laidMet Tryz.prog Rows.tokenizedUptoRow.laid ((tF (World.holding Tryz.prog os ⟨#[],#[],[]⟩)).forCall (λ_ _=>0) ⟨#[],#[.slice .none 0 0],[]⟩).memory :=
 laidMet_of_run' 8 (by kernel_rfl) (by kernel_rfl)
theorem PX(os:Os){H:Type}(enc:TypeId × Value->H):∃places,DataW.whole enc Tryz.prog ((tF (World.holding Tryz.prog os ⟨#[],#[],[]⟩)).forCall (λ_ _=>0) ⟨#[],#[.slice .none 0 0],[]⟩).memory Tryz.f4.params.toList Rows.tokenizedSpec.vars false #[Value.slice .none 0 0].toList 8=some ([.nil],[],places) :=
 ⟨[],by kernel_rfl⟩
theorem oI{H:Type}(d:DataW H):1<=Rows.uptoBulk d:=by
 cases d with
 | lit l=>cases l<;>simp[Rows.uptoBulk]
 | _=>simp[Rows.uptoBulk]
theorem L6{H:Type}{enc:TypeId × Value->H}{W:World}{base fuel:Nat}{spare:Nat->Bool}{held:Bool}{cs:List Value}{x:DataW H × List MemPlace}(h:DataW.trod enc Tryz.prog W base spare held fuel 77 cs=some x) :
  ∃(kd on:Int) (A B:ByteArray) (p:Option Addr) (a b:Nat),cs=[num kd,num on,.string A,.string B,.slice p a b]/\A.size+6<=Rows.uptoBulk x.1:=by
 have⟨xs,n,_,hxe,hl,hx,hf⟩:=DataW.trod_struct Tryz.underlying77 h;rw[te] at hl;obtain⟨c0,c1,c2,c3,c4,rfl⟩:∃c0 c1 c2 c3 c4,cs=[c0,c1,c2,c3,c4]:=by
  rcases cs with _|⟨c0,_|⟨c1,_|⟨c2,_|⟨c3,_|⟨c4,_|⟨c5,cs⟩⟩⟩⟩⟩⟩
  case cons.cons.cons.cons.cons.nil=>exact⟨c0,c1,c2,c3,c4,rfl⟩
  all_goals (simp only[List.length_cons,List.length_nil] at hl;omega)
 have WW:xs.length=5:=by simpa using hx
 obtain⟨y0,y1,y2,y3,y4,rfl⟩:∃y0 y1 y2 y3 y4,xs=[y0,y1,y2,y3,y4]:=by
  rcases xs with _|⟨c0,_|⟨c1,_|⟨c2,_|⟨c3,_|⟨c4,_|⟨c5,cs⟩⟩⟩⟩⟩⟩
  case cons.cons.cons.cons.cons.nil=>exact⟨c0,c1,c2,c3,c4,rfl⟩
  all_goals (simp only[List.length_cons,List.length_nil] at WW;omega)
 have f0:DataW.trod enc Tryz.prog W base spare held n 3 (([c0,c1,c2,c3,c4].drop 0).take (Tryz.prog.cellsOf 3))=some y0:=hf 0 _ rfl;have f1:DataW.trod enc Tryz.prog W base spare held n 3 (([c0,c1,c2,c3,c4].drop 1).take (Tryz.prog.cellsOf 3))=some y1:=hf 1 _ rfl;have f2:DataW.trod enc Tryz.prog W base spare held n 9 (([c0,c1,c2,c3,c4].drop 2).take (Tryz.prog.cellsOf 9))=some y2:=hf 2 _ rfl;have f3:DataW.trod enc Tryz.prog W base spare held n 9 (([c0,c1,c2,c3,c4].drop 3).take (Tryz.prog.cellsOf 9))=some y3:=hf 3 _ rfl;have f4:DataW.trod enc Tryz.prog W base spare held n 38 (([c0,c1,c2,c3,c4].drop 4).take (Tryz.prog.cellsOf 38))=some y4:=hf 4 _ rfl;rw[Kn] at f0 f1;rw[BO] at f2 f3;rw[HU] at f4;have⟨kd,h0,_⟩:=DataW.trod_int Tryz.underlying3 f0;have⟨on,h1,_⟩:=DataW.trod_int Tryz.underlying3 f1;have⟨A,h2,e2,_⟩:=DataW.trod_string Tryz.underlying9 f2;have⟨B,h3,_⟩:=DataW.trod_string Tryz.underlying9 f3;have h4:∃p a b,c4=.slice p a b:=by
  rcases DataW.trod_slice Tryz.underlying38 f4 with ⟨z,_⟩|⟨a,len,cap,_,_,_,_,z,_⟩
  .simp only[List.drop_succ_cons,List.drop_zero,List.take_succ_cons,List.take_zero,List.cons.injEq,and_true] at z;exact⟨_,_,_,z⟩
  .simp only[List.drop_succ_cons,List.drop_zero,List.take_succ_cons,List.take_zero,List.cons.injEq,and_true] at z;exact⟨_,_,_,z⟩
 obtain⟨p,a,b,rfl⟩:=h4;simp only[List.drop_zero,List.drop_succ_cons,List.take_succ_cons,List.take_zero,List.cons.injEq,and_true] at h0 h1 h2 h3;refine⟨kd,on,A,B,p,a,b,by rw[h0,h1,h2,h3],?_⟩;subst hxe;have b0:=oI y0.1;have b1:=oI y1.1;have b3:=oI y3.1;have b4:=oI y4.1;have b2:Rows.uptoBulk y2.1=A.size+1:=by rw[e2];simp only[Rows.uptoBulk];rw[Array.length_toList];rfl
 simp only[Rows.uptoBulk,Rows.uptoBulkAll,List.map_cons,List.map_nil];omega
theorem HS{H:Type}(l:List (DataW H)):∀(i:Nat) (d:DataW H),l[i]?=some d->Rows.uptoBulkAll (l.take (i+1))=Rows.uptoBulkAll (l.take i)+Rows.uptoBulk d:=by
 induction l with
 | nil=>intro i d h;simp at h
 | cons x r ih =>
  intro i d h;cases i with
  | zero =>simp only[List.getElem?_cons_zero,Option.some.injEq] at h;subst h;simp[Rows.uptoBulkAll]
  | succ i =>have:=ih i d (by simpa using h);simp only[List.take_succ_cons,Rows.uptoBulkAll,this];omega
theorem Ot{H:Type}(l:List (DataW H)):∀i,Rows.uptoBulkAll (l.take i)<=Rows.uptoBulkAll l:=by
 induction l with
 | nil=>intro i;simp
 | cons x r ih =>
  intro i;cases i with
  | zero=>simp[Rows.uptoBulkAll]
  | succ i =>have:=ih i;simp only[List.take_succ_cons,Rows.uptoBulkAll];omega
theorem Kk{H:Type}(l:List (DataW H)):l.length<=Rows.uptoBulkAll l:=by
 induction l with
 | nil=>simp
 | cons x r ih =>have:=oI x;simp only[Rows.uptoBulkAll,List.length_cons];omega
theorem A1(os:Os)(started:os.Started)(H:Type)(enc:TypeId × Value->H) :
  ReturnsInLeavingWide {} Tryz.checked os 4 .any ((Rows.OpenSpec.upto Rows.tokenizedSpec).preRow enc Tryz.prog Tryz.f4 Rows.tokenizedUptoRow.domain false Rows.tokenizedUptoRow.laid) (Rows.tokenizedSpec.post enc Tryz.prog Tryz.f4 false true false false):=by
 haveI:Inhabited KC:=⟨⟨0⟩⟩;have⟨places,hx⟩:=PX os enc;refine qN (C:=Tryz.checked) (kk:=Rows.uptoSmall) Xo started Tryz.func4
  (witness_row_at (enc:=enc) (C:=Tryz.checked) false (tF (World.holding Tryz.prog os ⟨#[],#[],[]⟩)) #[.slice .none 0 0] rfl (by kernel_rfl) (by kernel_rfl) (by kernel_rfl)
   (OpenSpec.preRow_of_cond 8 hx (by kernel_rfl) (λk hk=>by cases hk;kernel_rfl) (by kernel_rfl) (Lz os))) ?_;intro W base args ds gs before Dx Rl hW hk Rf;have⟨hG,ZA⟩:=Qi Dx Rf;clear Rf Dx;have Lh:∀(j:Nat) t v,Tryz.f4.params[j]?=some t->args[j]?=some v->Value.okWide Tryz.prog W .any base t v:=Rl;have ZB:=hW;obtain⟨p,q,Zr,hV,rfl,_,_⟩:=hW;have hA:DataW.TrodAll enc Tryz.prog W 0 (λ_=>true) true Tryz.f4.params.toList args.toList ds p:=Zr;rw[Tryz.params4] at hA Lh;obtain⟨v0,d0,rfl,rfl,h0⟩:=trodAll_one hA;obtain⟨rfl,rfl⟩:=trodVars_none hV;obtain⟨a0,len,cap,rfl⟩:=okWide_slice Tryz.underlying22 (Lh 0 22 v0 rfl rfl);have WG:=Lh 0 22 _ rfl rfl;have h0k:=h0;have⟨fuel,hf⟩:=h0;clear Zr Rl;simp only[List.append_nil] at ZB hk;have hbd:Rows.uptoBulkAll [d0]<=1048576:=of_decide_eq_true hk;have iX:∀x∈p,x.block<W.heap.size:=λx hx=>by simpa using ZB.lt x hx
 have oV:∀(W':World),Below W.heap.size W W'->DataW.Trod enc Tryz.prog W' 0 (λb=>decide (b<W.heap.size)) true 22 (.slice a0 len cap) d0 p :=
  λW' hn=>Below.trod Iw (by kernel_rfl) (of_decide_eq_true (by kernel_rfl)) h0k hn iX;have close:∀(f:Nat->Int × Int × ByteArray × ByteArray × Value) (Bd:Nat->Nat),((a0=none/\len=0/\cap=0)\/∃Sb so,a0=some ⟨Sb,so,none⟩/\len<=cap/\cap<=maxLen/\(0<len->Sb<W.heap.size)/\∀i,i<len->(∃p a b,(f i).2.2.2.2=.slice p a b)/\W.rangeAt Sb (so+i*5) [num (f i).1,num (f i).2.1,.string (f i).2.2.1,.string (f i).2.2.2.1,(f i).2.2.2.2])->len<=100000000->300<=Bd 0->(∀i,i<len->Bd i+(2*(f i).2.2.1.size+42)<=Bd (i+1))->(∀i,i<=len->Bd i<=100000000) ->
   ∃M last o w' t',runNT Tryz.checked.prog (M+1) (solo (G (Frame.enter Tryz.checked.prog 4 #[.slice a0 len cap] .normal) []) W) #[]=(.ended o w',t') /\
    runN Tryz.checked.prog M (solo (G (Frame.enter Tryz.checked.prog 4 #[.slice a0 len cap] .normal) []) W)=.next last/\step Tryz.checked.prog last=.ended o w' /\
    Conc.Good Tryz.checked.prog (λv W'=>Rows.tokenizedSpec.post enc Tryz.checked.prog Tryz.f4 false true false false W #[.slice a0 len cap] v W') last o w' t':=by
  intro f Bd ha Et hB0 hB Gl;refine ends_of_calls (P:=Tryz.prog) (Q:=λv w'=>v=.bool true/\Ext W w') (by kernel_rfl) ?_ (@Dd ⟨⟨0⟩⟩ _ W hG ZA a0 len cap (λi=>(f i).1) (λi=>(f i).2.1) (λi=>(f i).2.2.1) (λi=>(f i).2.2.2.1) (λi=>(f i).2.2.2.2) ha Et Bd hB0 hB Gl);rintro v w' e ⟨rfl,hE⟩;have hb:Below W.heap.size W (w'.at e):=⟨hE.os,hE.tape,hE.output,hE.size,hE.block⟩;refine⟨_,_,_,[],p,[],ZB,?_,?_,by rfl,hb.frame _,λh=>by cases h⟩
  .exact trodAll_mk1 (shut_bool Tryz.underlying4 true)
  .exact trodAll_mk1 (oV _ hb)
 rcases DataW.trod_slice Tryz.underlying22 hf with ⟨Es,hx⟩|⟨a,len',cap',elems,rest,n,_,Es,hx,_,hl,hm,Wr,Ws,_,_⟩
 .simp[Value.cells] at Es;obtain⟨rfl,rfl,rfl⟩:=Es;exact close (λ_=>(0,0,⟨#[]⟩,⟨#[]⟩,undef)) (λ_=>300) (.inl ⟨rfl,rfl,rfl⟩) (by omega) (by omega) (λi h=>absurd h (by omega)) (λ_ _=>by omega)
 .simp[Value.cells] at Es;obtain⟨rfl,rfl,rfl⟩:=Es;simp only[Prod.mk.injEq] at hx;obtain⟨rfl,rfl⟩:=hx;have⟨b,off,spot⟩:=a;have WQ:spot=none:=by simp only[Value.okWide,Cell.okWide,Cell.ok,Tryz.underlying22,World.has] at WG;exact WG.2.2.2.1
  subst WQ;rw[te] at Ws;have hbe:Rows.uptoBulkAll (elems.map (·.1))<=1048576:=by simp only[Rows.uptoBulkAll,Rows.uptoBulk] at hbd;omega
  have yr:=Kk (elems.map (·.1));rw[List.length_map] at yr;have Ts:∀i,∃y:Int × Int × ByteArray × ByteArray × Value,i<len->(∃p a b,y.2.2.2.2=.slice p a b)/\W.rangeAt b (off+i*5) [num y.1,num y.2.1,.string y.2.2.1,.string y.2.2.2.1,y.2.2.2.2]/\∀d,(elems.map (·.1))[i]?=some d->y.2.2.1.size+6<=Rows.uptoBulk d:=by
   intro i;by_cases hi:i<len
   .have hg:=Ws i hi;rw[List.getElem?_eq_getElem (by omega)] at hg;have⟨cs,h1,h2⟩:=Option.bind_eq_some_iff.1 hg;have⟨_,O3,Ce⟩:=World.cells?_some h1;obtain⟨kd,on,A,B,lp,la,lb,rfl,hw⟩:=L6 h2;refine⟨(kd,on,A,B,.slice lp la lb),λ_=>⟨⟨_,_,_,rfl⟩,λj v hv=>?_,λd hd=>?_⟩⟩
    .have hj:j<5:=by have:=(List.getElem?_eq_some_iff.1 hv).1;simpa using this
     have:=Ce j hj;rw[addr_add,addr_add] at this;rw[this,<-hv]
    .rw[List.getElem?_map,List.getElem?_eq_getElem (by omega)] at hd;simp only[Option.map_some,Option.some.injEq] at hd;rw[<-hd];exact hw
   .exact⟨(0,0,⟨#[]⟩,⟨#[]⟩,undef),λh=>absurd h hi⟩
  have⟨f,oy⟩:=Classical.axiomOfChoice Ts;refine close f (λi=>300+7*Rows.uptoBulkAll ((elems.map (·.1)).take i)) (.inr ⟨b,off,rfl,hl,hm,λh=>?_,λi hi=>⟨(oy i hi).1,(oy i hi).2.1⟩⟩) (by omega) (by simp) (λi hi=>?_) (λi _=>?_)
  .exact iX (.cell b off) (List.mem_append_left _ (MemPlace.mem_row.2 ⟨0,by rw[te,Wr];omega,by simp⟩))
  .obtain⟨d,hd⟩:∃d,(elems.map (·.1))[i]?=some d:=⟨_,List.getElem?_eq_getElem (by rw[List.length_map];omega)⟩;have h1:=(oy i hi).2.2 d hd;have h2:=HS _ i d hd;simp only[h2];omega
  .have:=Ot (elems.map (·.1)) i;show 300+7*Rows.uptoBulkAll ((elems.map (·.1)).take i)<=100000000;omega
