import Derived.Test.YtgcaionclkbehaaGreatDoorRowIn
import Derived.Deep.MidRow
import Derived.Great.BuildSlice
import Derived.Lib.BufferWrite
set_option linter.all false
set_option maxHeartbeats 2000000
set_option maxRecDepth 100000
namespace Go.Proofs.YtgcaionclkbehaaGreatDoor
open Go.Conc Go.RowKit Go.Lib Tryz
variable {b c c' e g id len n off z:Nat}{cs:Vq}{a a' b' cur cur' p p' q q':Aq}{t ty:TypeId}{fz:Nat × Nat}{α:Type}{o':Obj}{ops:Array Oper}{rest:List Nat}{x:Operand}{d:TypeDesc}{v v':Value}{f:Fn}
section
variable {P:Program}{w:World}
theorem oh(w:World)(t u ty e:TypeId)(i:TypeInfo)(z:Value)(ht:P.underlying t=some (.slice e))(hu:P.underlying u=some .string)(hi:P.info? e=some i)(hz:i.zero=some z)(a8:i.size=1)(a9:i.bytes=1)
 (v:Value)(n:Nat)(xs:Vq)(a2:w.ownsRow 0 e 1 v n xs)(s:ByteArray)(ag:n+s.size≤maxLen)(ae:n+s.size≤140737488355328) :
  ∀U∈(Builtin.append_ #[t,u] ty #[v,.string s]).events P w #[],(∃ad,U.loc=.cell ad∧some ad.block=v.ownBlock)∨∃m,U=⟨.mark m,false,true⟩∧Conc.Neutral m:=by
 have af:n+s.size≤9223372036854775807:=by simp only[maxLen] at ag; omega
 let B:Nat→Prop:=fun g=>some g=v.ownBlock;let Q:Event→Prop:=fun e=>e.readsIn B∨∃m,e=⟨.mark m,false,true⟩∧Conc.Neutral m;have fin:∀U:Event,Q U→(∃ad,U.loc=.cell ad∧some ad.block=v.ownBlock)∨∃m,U=⟨.mark m,false,true⟩∧Conc.Neutral m :=
  fun U h=>h.elim (fun ⟨ad,a1,_,a3⟩=>.inl ⟨ad,a1,a3⟩) .inr;have Cd:∀e∈(#[]:Array Event),Q e:=by intro e he; simp at he
 have str:∀(w':World) (k sz:Nat) a' l' c',Value.string s=.slice (some a') l' c'→B a'.block∧∀j,j<k*sz→(w'.cell? (a'.add j)).isSome:=by intro _ _ _ _ _ _ e; cases e
 have nil:∀(w':World) (k sz Wz Ud:Nat) a' l' c',Value.slice none Wz Ud=.slice (some a') l' c'→B a'.block∧∀j,j<k*sz→(w'.cell? (a'.add j)).isSome:=by intro _ _ _ _ _ _ _ _ e; cases e
 intro U a0;rcases a2.2 with ⟨rfl,rfl⟩|⟨g,cap,cur,rfl,hbg,hg,hnc,Mr,sO,Yy⟩
 ·by_cases hm:s.size=0
  ·simp[Builtin.append_,run_underlying ht,run_underlying hu,sizeOf,typeInfo,hi,a8,Builtin.lenOf,hm] at a0;exact fin U ((events_firstCells_in B _ _ _ _ _ (by first|exact str _ _ _|exact nil _ _ _ _ _) U a0).elim (Cd U) .inl)
  ·have a5:¬(9223372036854775807<(s.size:Int)):=by omega
   have a4:¬(281474976710656<Builtin.nextslicecap s.size 0*i.bytes):=by rw[nextslicecap_zero (by omega),a9]; omega
   have hf:=run_firstCells_string (P:=P) w.drew i.size s;have H5:=run_firstCells_string (P:=P) w.drew 1 s;simp[Builtin.append_,run_underlying ht,run_underlying hu,sizeOf,typeInfo,zeroValue,hi,hz,Builtin.lenOf,hm,a5,a4,Question.forced,run_firstCells_none,hf,H5,newRow] at a0;refine fin U ((events_firstCells_in B _ _ _ _ _ (by first|exact str _ _ _|exact nil _ _ _ _ _) U a0).elim (fun h=>?_) .inl);refine(events_firstCells_in B _ _ _ _ _ (by first|exact str _ _ _|exact nil _ _ _ _ _) U h).elim (fun h2=>?_) .inl;exact(Conc.events_askRoom _ _ _ U h2).elim (Cd U) .inr
 ·have a6:∀j u,xs[j]?=some u→w.cell? ((⟨g,0,none⟩:Addr).add j)=some u:=a2.cells (g:=g) rfl;have own:∀(w':World),(∀ad,w'.cell? ad=w.cell? ad)→∀a' l' c',Value.slice (sq g) n cap=.slice (some a') l' c'→B a'.block∧∀j,j<n*i.size→(w'.cell? (a'.add j)).isSome:=by intro w' wK a' l' c' e;cases e;exact⟨by simp[B,Value.ownBlock],fun j hj=>by rw[wK]; exact isSome_of_list a6 (by rw[a2.1,← a8]; exact hj)⟩
  by_cases a7:n+s.size≤cap
  ·have aa:n+s.size≤cur.size:=by rw[sO]; omega
   have hf:=run_firstCells_string (P:=P) w 1 s;simp[Builtin.append_,run_underlying ht,run_underlying hu,sizeOf,typeInfo,hi,a8,Builtin.lenOf,a7,hf,Addr.add_lit] at a0;rcases events_storeCells_at (P:=P) g n e (strCells s) 0 cur w _ hg (by simpa[strCells_length] using aa) (strCells_oneCell s) U a0 with h|⟨ad,h2,h3⟩
   ·exact fin U ((events_firstCells_in B _ _ _ _ _ (str _ _ _) U h).elim (Cd U) .inl)
   ·exact .inl ⟨ad,h2,by simp[Value.ownBlock,h3]⟩
  ·have hn:¬(n+s.size≤cap):=a7;have a5:¬(9223372036854775807<((n:Int)+(s.size:Int))):=by omega
   have a4:¬(281474976710656<Builtin.nextslicecap (n+s.size) cap*i.bytes):=by have:=growslice_fits (need:=n+s.size) (old:=cap) (bytes:=i.bytes) (by omega) (by rw[a9]; omega); omega
   have hf:=run_firstCells_string (P:=P) w.drew i.size s;have hfo:=run_firstCells_some (P:=P) w.drew i.size n ⟨g,0,none⟩ n cap xs (by rw[a8]; exact a2.1) (by simpa using a6);simp[Builtin.append_,run_underlying ht,run_underlying hu,sizeOf,typeInfo,zeroValue,hi,hz,Builtin.lenOf,hn,a5,a4,Question.forced,hf,hfo,newRow] at a0;refine fin U ((events_firstCells_in B _ _ _ _ _ (by first|exact str _ _ _|exact own _ (fun _=>rfl)) U a0).elim (fun h=>?_) .inl);refine(events_firstCells_in B _ _ _ _ _ (by first|exact str _ _ _|exact own _ (fun _=>rfl)) U h).elim (fun h2=>?_) .inl;exact(Conc.events_askRoom _ _ _ U h2).elim (Cd U) .inr
theorem po{w':World}(t u ty e:TypeId)(i:TypeInfo)(z:Value)(ht:P.underlying t=some (.slice e))(hu:P.underlying u=some .string)(hi:P.info? e=some i)(hz:i.zero=some z)(a3:i.size=1)(a4:i.bytes=1)
 (v:Value)(n:Nat)(xs:Vq)(a0:w.ownsRow 0 e 1 v n xs)(s:ByteArray)(a7:n+s.size≤maxLen)(a5:n+s.size≤140737488355328)(U:(Builtin.append_ #[t,u] ty #[v,.string s]).run P w=.ok v' w') :
  (w'=w∨(∃g cs,v.ownBlock=some g∧w'=w.setRow g cs)∨∃cs,w'=w.drew.alloc (.cells cs e))∧(v'.ownBlock=v.ownBlock∨v'.ownBlock=some w.heap.size):=by
 have a6:n+s.size≤9223372036854775807:=by simp only[maxLen] at a7; omega
 rcases a0.2 with ⟨rfl,rfl⟩|⟨g,cap,cur,rfl,aa,hg,af,ae,a8,a9⟩
 ·by_cases hm:s.size=0
  ·have hf:=run_firstCells_string (P:=P) w 1 s;rw[hm] at hf;simp[Builtin.append_,run_underlying ht,run_underlying hu,sizeOf,typeInfo,hi,a3,Builtin.lenOf,hm,hf] at U;exact⟨.inl U.2.symm,.inl (by rw[← U.1])⟩
  ·have hr:=run_append_nil_string (P:=P) w t u ty e i z ht hu hi hz s (by omega) (by omega) (by rw[a4]; omega);rw[hr] at U;cases U;exact⟨.inr (.inr ⟨_,rfl⟩),.inr rfl⟩
 ·by_cases a2:n+s.size≤cap
  ·have hr:=run_append_room_string (P:=P) w t u ty e i ht hu hi a3 g n cap cur hg s a2 (by rw[a8]; omega);rw[hr] at U;cases U;exact⟨.inr (.inl ⟨g,_,rfl,rfl⟩),.inl rfl⟩
  ·have a1:∀j u,xs[j]?=some u→w.cell? ((⟨g,0,none⟩:Addr).add j)=some u:=a0.cells (g:=g) rfl;have hr:=run_append_grow_string (P:=P) w t u ty e i z ht hu hi hz ⟨g,0,none⟩ n cap xs (by rw[a3]; exact a0.1) a1 s (by omega) (by omega) (growslice_fits (by omega) (by rw[a4]; omega));rw[hr] at U;cases U;exact⟨.inr (.inr ⟨_,rfl⟩),.inr rfl⟩
end
section
variable {KT:TypeId→Prop}{N0:Nat}{M:World→Nat→Prop}{O:Nat→Prop}{R:Wq}{D:World→World→Array Event→Prop}{Ex:Nat→Prop}{w₀ w w':World}{l rl:Hq}{e:TypeId}{v:Value}{n:Nat}{xs:Vq}{P:Program}
theorem HL.zI(E:Env KT N0 M O R D)(he:¬KT e)(h:HL M O N0 Ex w₀ (rl++l) w)(hr:gT e 1 v n xs rl)(t u ty:TypeId)(ht:P.underlying t=some (.slice e))(hu:P.underlying u=some .string)(hi:(P.info? e).map (fun i=>(i.zero,i.size,i.bytes))=some (some (.int .u8 0),1,1))
 (s:ByteArray)(hn:n+s.size≤140737488355328) :
  ∃v' w' aa,(Builtin.append_ #[t,u] ty #[v,.string s]).run P w=.ok v' w'∧HL M O N0 Ex w₀ (aa++l) w'∧(gT e 1 v' (n+s.size) (xs++strCells s) aa∧(kX e 1 v n xs rl→kX e 1 v' (n+s.size) (xs++strCells s) aa))∧Own KT M w w'∧(∀b,b<w.heap.size→v.ownBlock≠some b→w'.heap[b]?=w.heap[b]?) ∧
   (∀k,v'.ownBlock=some k→v.ownBlock=some k∨w.heap.size≤k) ∧
   (∀ev∈(Builtin.append_ #[t,u] ty #[v,.string s]).events P w #[],uX (M w') ev):=by
 obtain⟨i0,hi,a7,a8,a9⟩:=info_parts hi;have MG:=hr.Rw h;have Ux:n+s.size≤maxLen:=by unfold maxLen; omega
 obtain⟨v',w',a3,ho,hg,ag⟩:=run_append_own_string (P:=P) w 0 t u ty e i0 ht hu hi a7 a8 a9 v n xs MG s Ux hn (Nat.zero_le _);obtain⟨aq,gC⟩:=po (P:=P) t u ty e i0 _ ht hu hi a7 a8 a9 v n xs MG s Ux hn a3;have ak:=oh (P:=P) w t u ty e i0 _ ht hu hi a7 a8 a9 v n xs MG s Ux hn;have hv:∀k,v.ownBlock=some k→M w k∧(Ex k∨w₀.heap.size≤k)∧∃cur,w.heap[k]?=some (.cells cur e):=by intro k hk;obtain⟨cur,Jo⟩:=hr.block hk;obtain⟨z1,z2,z3⟩:=h.own k _ (by rw[Jo]; simp:(k,Obj.cells cur e)∈rl++l);exact⟨z1,z3,cur,z2⟩
 have hO:Own KT M w w':=by
  rcases aq with rfl|⟨k,cs,hk,rfl⟩|⟨cs,rfl⟩
  ·exact Own.refl _
  ·obtain⟨z1,_,cur,a0⟩:=hv k hk;exact Own.setRow a0 z1 he
  ·have:=Own.alloc (KT:=KT) (M:=M) (w:=w.drew) (cs:=cs) (t:=e) he;exact⟨this.tape,this.os,this.output,this.grow,fun b hb hm=>heap_alloc_old w.drew _ b hb,fun b o' hh hk=>(this.kt b o' hh hk)⟩
 have U:∀b,b<w.heap.size→v.ownBlock≠some b→w'.heap[b]?=w.heap[b]?:=fun b hb hx=>hg.block b hb (fun e=>hx e.symm);have a4:∀k,v'.ownBlock=some k→v.ownBlock=some k∨w.heap.size≤k:=by
  intro k hk;rcases gC with gC|gC
  ·exact .inl (gC▸hk)
  ·rw[gC] at hk; cases hk; exact .inr (Nat.le_refl _)
 have a6:∀b o,(b,o)∈l→v.ownBlock≠some b:=by intro b o hm hk;obtain⟨cur',Jo⟩:=hr.block hk;exact h.nX (k:=b) (o:=.cells cur' e) (by rw[Jo]; simp) hm
 have a2:Kept M O Ex w₀ w':=h.kept.own E hO fun b jA hx=>U b (E.lt (h.kept.mine b jA)) fun hk=>by
  rcases(hv b hk).2.1 with z|z
  ·exact hx z
  ·have:=E.lt jA; omega
 have af:∀b o,(b,o)∈l→M w' b∧w'.heap[b]?=some o∧(Ex b∨w₀.heap.size≤b):=fun b o z=>by obtain⟨z1,z2,z3⟩:=h.own b o (List.mem_append_right _ z);exact⟨E.mine hO z1,(U b (E.lt z1) (a6 b o z)).trans z2,z3⟩
 have a5:∀ev∈(Builtin.append_ #[t,u] ty #[v,.string s]).events P w #[],uX (M w') ev:=fun ev ae=>by
  rcases ak ev ae with ⟨ad,z1,z2⟩|⟨mk,rfl,ao⟩
  ·exact .inl ⟨ad,z1,E.mine hO (hv _ z2.symm).1⟩
  ·obtain rfl:mk=.noRoom:=ao;exact .inr (.inr ⟨by simp[MemAct.ofEvent,MemAct.touch?],by simp,by simp,by simp[MemAct.ofEvent]⟩)
 obtain⟨a1,ai⟩:=ho;rcases ai with ⟨e1,e2⟩|⟨g,cap,cur,rfl,_,a0,Mp,H3,Ya,Yc⟩
 ·exact⟨v',w',[],a3,⟨a2,Nat.le_trans h.size hO.grow,fun b o hm=>af b o (by simpa using hm),by simpa using h.right.nodup⟩,⟨⟨a1,.inl ⟨e1,e2,rfl⟩⟩,fun _=>⟨a1,.inl ⟨e1,e2,rfl⟩⟩⟩,hO,U,a4,a5⟩
 have ah:kX e 1 v n xs rl→0<n+s.size:=fun hr=>by
  apply Classical.byContradiction;intro hp;have Qs:n=0:=by omega
  have ar:v=.slice Option.none 0 0:=by
   rcases hr.2 with ⟨z,_⟩|⟨_,_,_,_,_,z,_⟩
   ·exact z
   ·omega
  have:=ag.2 ⟨ar,by omega⟩;cases this
 have al:∀o,(g,o)∈l→False:=by
  intro o ho;rcases a4 g rfl with z|z
  ·exact a6 g o ho z
  ·have:=E.lt (h.own g o (List.mem_append_right _ ho)).1;omega
 have aj:M w' g:=by
  rcases a4 g rfl with z|z
  ·exact E.mine hO (hv g z).1
  ·exact E.new h.size hO z (Array.getElem?_eq_some_iff.1 a0).1
 refine⟨_,w',[(g,.cells cur e)],a3,⟨a2,Nat.le_trans h.size hO.grow,fun b o hm=>?_,?_⟩,⟨⟨a1,.inr ⟨g,cap,cur,rfl,rfl,Mp,H3,Ya,Yc⟩⟩,fun hr=>⟨a1,.inr ⟨g,cap,cur,rfl,rfl,ah hr,Mp,H3,Ya,Yc⟩⟩⟩,hO,U,a4,a5⟩
 ·rcases List.mem_append.1 hm with z|z
  ·rw[List.mem_singleton] at z;cases z;refine⟨aj,a0,?_⟩;rcases a4 g rfl with z|z
   ·exact(hv g z).2.1
   ·exact .inr (Nat.le_trans h.kept.grow z)
  ·exact af b o z
 ·refine List.nodup_cons.2 ⟨fun hm=>?_,h.right.nodup⟩;obtain⟨q,hq,e'⟩:=List.mem_map.1 hm;have e2:q.1=g:=e';exact al q.2 (by rw[← e2]; exact hq)
end
def jO(l:List (Nat × Obj))(b:Nat):Prop:=∃o,(b,o)∈l
section
variable {KT:TypeId→Prop}{N0:Nat}{M:World→Nat→Prop}{O:Nat→Prop}{R:Wq}{D:World→World→Array Event→Prop}{Ex:Nat→Prop}{w₀ w w':World}{l l1 Ld:Hq}
theorem HL.left(h:HL M O N0 Ex w₀ (l1++l) w):HL M O N0 Ex w₀ l1 w:=⟨h.kept,h.size,fun b o U=>h.own b o (List.mem_append_left _ U),by have:=h.nodup; rw[List.map_append] at this; exact(List.nodup_append.1 this).1⟩
theorem HL.kP(h:HL M O N0 Ex w₀ l w):HL M O N0 (jO l) w l w:=⟨Kept.refl w,h.size,fun b o U=>⟨(h.own b o U).1,(h.own b o U).2.1,.inl ⟨o,U⟩⟩,h.nodup⟩
theorem HL.call(E:Env KT N0 M O R D)(h:HL M O N0 Ex w₀ (l1++l) w)(U:HL M O N0 (jO l1) w Ld w'):HL M O N0 Ex w₀ (Ld++l) w':=by
 have hx:∀b,jO l1 b→Ex b∨w₀.heap.size≤b:=fun b ⟨o,hm⟩=>(h.own b o (List.mem_append_left _ hm)).2.2;have hl:∀b o,(b,o)∈l→¬jO l1 b:=fun b o hm ⟨o',Jk⟩=>h.nX Jk hm;refine⟨h.kept.trans E U.kept hx,U.size,fun b o hm=>?_,?_⟩
 ·rcases List.mem_append.1 hm with z|z
  ·obtain⟨z1,z2,z3⟩:=U.own b o z;exact⟨z1,z2,z3.elim (hx b) fun z=>.inr (Nat.le_trans h.kept.grow z)⟩
  ·obtain⟨z1,z2,z3⟩:=h.own b o (List.mem_append_right _ z);exact⟨U.kept.mine b z1,(U.kept.block b z1 (hl b o z)).trans z2,z3⟩
 ·rw[List.map_append];refine List.nodup_append.2 ⟨U.nodup,h.right.nodup,fun x a0 y hy e=>?_⟩;obtain⟨q,hq,rfl⟩:=List.mem_map.1 a0;obtain⟨q',Ys,e'⟩:=List.mem_map.1 hy;have e2:q.1=q'.1:=e.trans e'.symm;rcases(U.own q.1 q.2 hq).2.2 with z|z
  ·rw[e2] at z;exact hl q'.1 q'.2 Ys z
  ·have:=E.lt (h.own q'.1 q'.2 (List.mem_append_right _ Ys)).1;omega
end
section
variable {N Pb:Nat}{Shun:Loc→Prop}{val:Value}{B:Nat}{Mine:Loc→Prop}{Ex:Nat→Prop}{w₀ w w':World}{all:Iq}{Rb:Nat}{i:Ph}{l l1 Ld:Hq}
variable [Go.ConcR.Payload][Go.ConcX.Payload]
variable [Go.ConcX.Shy (Cfg.Wg (aC prog N Pb Shun val B Mine)) (Cfg.C (aC prog N Pb Shun val B Mine))]
theorem HX.call(F:Cfg.Fit (aC prog N Pb Shun val B Mine))(h:HX (aC prog N Pb Shun val B Mine) Ex w₀ all Rb i (l1++l) w)(h':HL (cH (aC prog N Pb Shun val B Mine)) (gx (aC prog N Pb Shun val B Mine)) (N+9) (jO l1) w Ld w'):HX (aC prog N Pb Shun val B Mine) Ex w₀ all Rb i (Ld++l) w':=by
 have E:=h.env F;obtain⟨v,tk,rest,en,h1,h2,h3,h4,h5⟩:=h.row;have vG:∀b,nN Rb v b→¬jO l1 b:=fun b U ⟨o,hm⟩=>h4 b o (List.mem_append_left _ hm) U;have hm:∀b,nN Rb v b→cH (aC prog N Pb Shun val B Mine) w b:=fun b U=>by
  rcases U with rfl|U
  ·exact h3.mr
  ·exact(h3.ro.own b U).1
 refine⟨h.hl.call E h',v,tk,rest,en,h1,h2,h3.still (fun b U=>h'.kept.block b (hm b U) (vG b U)) (fun b U=>h'.kept.mine b U) h'.size,fun b o pL=>?_,h5⟩;rcases List.mem_append.1 pL with z|z
 ·rcases(h'.own b o z).2.2 with ⟨o',y⟩|y
  ·exact h4 b o' (List.mem_append_left _ y)
  ·exact fun U=>by have:=h3.lt F b U; omega
 ·exact h4 b o (List.mem_append_right _ z)
end
section
variable {P:Program}
theorem sn{w:World}(U:w.heap[b]?=some (.cells cur t fz))(hc:∀j v,cs[j]?=some v→cur[off+j]?=some v):w.rangeAt b off cs:=fun j v hv=>by simp[World.cell?,U,hc j v hv]
theorem jz(w:World)(b off:Nat)(ty:TypeId)(cs:Vq)(d:TypeDesc)(hc:w.rangeAt b off cs)(hu:P.underlying ty=some d)(hd:d.isRow=true)(hi:(P.info? ty).map (·.size)=some cs.length) :
  ∀ev∈(Instr.loadAt ty (.pointer (some ⟨b,off,none⟩))).events P w #[],∃ad:Addr,ev.loc=.cell ad∧ad.block=b:=by
 intro ev a1;cases hq:P.info? ty with
 | none=>simp[hq] at hi
 | some i =>
  have hs:i.size=cs.length:=by simpa[hq] using hi
  have a0:(isAgg ty).run P w=.ok true w:=by unfold isAgg;rw[Sem.run_bind,run_underlying hu w];cases d<;>simp_all [TypeDesc.isRow]
  have U:∀es,(isAgg ty).events P w es=es:=fun es=>by unfold isAgg;simp only[Sem.events_bind,run_underlying hu w];cases d<;>simp[underlying,hu]
  simp[Instr.loadAt,Instr.sureAddr,loadVar,Sem.events_bind,a0,U,sizeOf,typeInfo,hq,hs] at a1;have hl:∀es,∀ev∈(loadCells ⟨b,off,none⟩ cs.length).events P w es,ev∈es∨ev.readsIn (fun g=>g=b):=fun es =>events_loadCellsFrom_at (P:=P) ⟨b,off,none⟩ (fun g=>g=b) rfl cs.length 0 #[] w es (fun j hj=>by have h:=hc j cs[j] (List.getElem?_eq_getElem hj);rw[Nat.zero_add,Addr.add_mid,h];rfl);rcases hl _ ev a1 with h|⟨ad,h1,_,h3⟩
  ·simp at h
  ·exact⟨ad,h1,h3⟩
end
structure Co(KT:TypeId→Prop)(N0:Nat)(M:World→Nat→Prop)(O:Nat→Prop)(R:World→World→Prop)(D:World→World→Array Event→Prop)(H:List (Nat × Obj)→World→Prop):Prop where
 env:Env KT N0 M O R D
 rely:∀{l w aB},H l w→R w aB→H l aB
 size:∀{l w},H l w→N0≤w.heap.size
 own:∀{l w b o},H l w→(b,o)∈l→M w b∧w.heap[b]?=some o
 nodup:∀{l w},H l w→(l.map Prod.fst).Nodup
 grown:∀{l w o},H l w→Own KT M w (w.alloc o)→H ((w.heap.size,o)::l) (w.alloc o)
 turn:∀{l w w' b o o'},H ((b,o)::l) w→Own KT M w w'→w'.heap[b]?=some o'→(∀k,k≠b→w'.heap[k]?=w.heap[k]?)→H ((b,o')::l) w'
 perm:∀{l l' w},H l w→l'.Perm l→H l' w
 drop:∀{x l w},H (x::l) w→H l w
 past:∀{l w w'},H l w→Kept M O (fun _=>False) w w'→N0≤w'.heap.size→H l w'
 call:∀{l1 Ld l w w'},H (l1++l) w→HL M O N0 (jO l1) w Ld w'→H (Ld++l) w'
section
variable {KT:TypeId→Prop}{N0:Nat}{M:World→Nat→Prop}{O:Nat→Prop}{R:Wq}{D:World→World→Array Event→Prop}{H:Hq→World→Prop}{Ex:Nat→Prop}{w₀ w w':World}{l l1:Hq}
theorem HL.co(E:Env KT N0 M O R D):Co KT N0 M O R D (HL M O N0 Ex w₀) where
 env:=E
 rely h r:=h.rely E r
 size h:=h.size
 own h hm:=⟨(h.own _ _ hm).1,(h.own _ _ hm).2.1⟩
 nodup h:=h.nodup
 grown h hO:=h.grown E hO
 turn h hO hb hk:=h.turn E hO hb hk
 perm h p:=h.perm p
 drop h:=h.drop
 past h k hs:=h.past E k hs
 call h h':=h.call E h'
theorem Co.hl(Z:Co KT N0 M O R D H)(h:H l w):HL M O N0 (jO l) w l w:=⟨Kept.refl w,Z.size h,fun b o U=>⟨(Z.own h U).1,(Z.own h U).2,.inl ⟨o,U⟩⟩,Z.nodup h⟩
theorem kN:∀{l:List α} {k:Nat} {x:α},l[k]?=some x→(x::l.eraseIdx k).Perm l
 | y::l,0,x,h=>by simp at h; subst h; exact .refl _
 | y::l,k+1,x,h=>((List.Perm.swap y x (l.eraseIdx k))).trans (.cons y (kN (by simpa using h)))
theorem si:∀{l:List α} {k:Nat} {x y:α},l[k]?=some x→(l.set k y).Perm (y::l.eraseIdx k)
 | z::l,0,x,y,h=>.refl _
 | z::l,k+1,x,y,h=>(List.Perm.cons z (si (x:=x) (by simpa using h))).trans (List.Perm.swap y z _)
theorem Co.front(Z:Co KT N0 M O R D H)(h:H l w)(k:Nat){o:Obj}(U:l[k]?=some (b,o)):H ((b,o)::l.eraseIdx k) w:=by exact Z.perm h (kN U)
theorem Co.Bf(Z:Co KT N0 M O R D H)(h:H l w)(k:Nat){o:Obj}(U:l[k]?=some (b,o))(hO:Own KT M w w')(hb:w'.heap[b]?=some o')(hx:∀k,k≠b→w'.heap[k]?=w.heap[k]?):H (l.set k (b,o')) w':=by exact Z.perm (Z.turn (Z.front h k U) hO hb hx) (si U)
end
def putAt(cur:Array Value)(off:Nat)(cs:List Value):Array Value:=(cur.toList.take off++cs++cur.toList.drop (off+cs.length)).toArray
section
variable {ι:Type}{P:Program}{R:ι→Wq}{D:ι→World→World→Array Event→Prop}{X:ι→Gq}{fn:FuncId}{Q:dK ι}{a:Act}{w:World}{vs:ι}{KT:TypeId→Prop}{N0:Nat}{M:World→Nat→Prop}{O:Nat→Prop}{H:Hq→World→Prop}{l:Hq}
theorem DU(C:aV P true R D X)(Z:Co KT N0 M O (R vs) (D vs) H){i:Nat}{o:Oper}{cs:Aq}(ho:ops[i]?=some o)(hw:Region.wanted o (yielded ops a.tmps)=true)(a0:o.op=.box t x)(hx:(a.eval x).cells=cs)(ht:¬KT t)
 (hF:H l w)(h:∀b w',H ((b,.cells cs t)::l) w'→bU X fn ops rest vs Q (a.put o.dst (.pointer (sq b))) w'):bU X fn ops (i::rest) vs Q a w:=by
 refine aD C ho hw fun U hR K hK=>?_;have ce:=Z.rely hF hR;have hO:Own KT M U (U.alloc (.cells cs t)):=Own.alloc ht;have hr:(execOp a.eval o).run P U=.ok (.value (.pointer (sq U.heap.size))) (U.alloc (.cells cs t)):=by simp[execOp,a0,vg,hx]
 have he:(execOp a.eval o).events P U #[]=#[]:=by simp[execOp,a0,vg,rE]
 rw[hr];refine hK _ _ ⟨?_,h _ _ (Z.grown ce hO)⟩;rw[listed_nil he];exact Z.env.jr (Z.size ce) hO (fun e he=>by simp at he)
theorem yD(C:aV P true R D X)(Z:Co KT N0 M O (R vs) (D vs) H){i:Nat}{o:Oper}{z:Value}{cs:Aq}(ho:ops[i]?=some o)(hw:Region.wanted o (yielded ops a.tmps)=true)(a0:o.op=.alloc t)(hz:∀w,(zeroValue t).run P w=.ok z w)(hx:z.cells=cs)(ht:¬KT t)
 (hF:H l w)(h:∀b w',H ((b,.cells cs t)::l) w'→bU X fn ops rest vs Q (a.put o.dst (.pointer (sq b))) w'):bU X fn ops (i::rest) vs Q a w:=by
 refine aD C ho hw fun U hR K hK=>?_;have ce:=Z.rely hF hR;have hO:Own KT M U (U.alloc (.cells cs t)):=Own.alloc ht;have hr:(execOp a.eval o).run P U=.ok (.value (.pointer (sq U.heap.size))) (U.alloc (.cells cs t)):=by simp[execOp,a0,mf hz,hx]
 have he:(execOp a.eval o).events P U #[]=#[]:=by simp[execOp,a0,mf hz,kv hz]
 rw[hr];refine hK _ _ ⟨?_,h _ _ (Z.grown ce hO)⟩;rw[listed_nil he];exact Z.env.jr (Z.size ce) hO (fun e he=>by simp at he)
theorem mz(U:P.underlying ty=some d)(hd:d.isRow=false)(w:World):(isAgg ty).run P w=.ok false w:=by unfold isAgg;rw[Sem.run_bind,run_underlying U w];cases d<;>simp_all [TypeDesc.isRow]
theorem ox(U:P.underlying ty=some d)(w:World)(es:Array Event):(isAgg ty).events P w es=es:=by unfold isAgg;simp only[Sem.events_bind,run_underlying U w];cases d<;>simp[underlying,U]
theorem kL(C:aV P true R D X)(Z:Co KT N0 M O (R vs) (D vs) H){i:Nat}{o:Oper}{cs:Aq}(k:Nat)(ho:ops[i]?=some o)(hw:Region.wanted o (yielded ops a.tmps)=true)(a0:o.op=.load ty x)(hx:a.eval x=.pointer (some ⟨b,off,none⟩))
 (hu:P.underlying ty=some d)(hd:d.isRow=false)(hF:H l w)(hk:l[k]?=some (b,.cells cs t fz))(hv:cs[off]?=some v)(h:∀w',H l w'→bU X fn ops rest vs Q (a.put o.dst v) w'):bU X fn ops (i::rest) vs Q a w:=by
 refine aD C ho hw fun aB hR K hK=>?_;have ce:=Z.rely hF hR;obtain⟨hm,hb⟩:=Z.own ce (List.mem_of_getElem? hk);have gr:aB.cell? ⟨b,off,none⟩=some v:=by simp[World.cell?,hb,hv]
 have hr:(execOp a.eval o).run P aB=.ok (.value v) aB:=by simp[execOp,a0,hx,Instr.loadAt,Instr.sureAddr,loadVar,mz hu hd,load,Sem.run,gr]
 have he:(execOp a.eval o).events P aB #[]=#[⟨.cell ⟨b,off,none⟩,false,false⟩]:=by simp[execOp,a0,hx,Instr.loadAt,Instr.sureAddr,loadVar,mz hu hd,ox hu,events_load,gr]
 rw[hr];refine hK _ _ ⟨Z.env.jr (Z.size ce) (Own.refl _) fun ev U=>?_,h aB ce⟩;have U:=mem_listed U;rw[he] at U;simp at U;subst U;exact .inl ⟨_,rfl,hm⟩
theorem tw(C:aV P true R D X)(Z:Co KT N0 M O (R vs) (D vs) H){i:Nat}{o:Oper}(k:Nat)(ho:ops[i]?=some o)(hw:Region.wanted o (yielded ops a.tmps)=true)(a0:o.op=.load ty x)(hx:a.eval x=.pointer (some ⟨b,off,none⟩))
 (hu:P.underlying ty=some d)(hd:d.isRow=true)(hi:(P.info? ty).map (·.size)=some cs.length)(hF:H l w)(hk:l[k]?=some (b,.cells cur t fz))(hc:∀j v,cs[j]?=some v→cur[off+j]?=some v)
 (h:∀w',H l w'→bU X fn ops rest vs Q (a.put o.dst (.agg cs.toArray)) w'):bU X fn ops (i::rest) vs Q a w:=by
 refine aD C ho hw fun U hR K hK=>?_;have ce:=Z.rely hF hR;obtain⟨hm,hb⟩:=Z.own ce (List.mem_of_getElem? hk);have Yd:=sn hb hc;have dZ:=run_loadAt_mid (P:=P) U b off ty cs d Yd hu hd hi;have MK:(execOp a.eval o).run P U=.ok (.value (.agg cs.toArray)) U:=by unfold execOp;simp only[a0,hx,Sem.run_bind,Sem.run_pure,Result.andThen_ok,dZ]
 have a1:(execOp a.eval o).events P U #[]=(Instr.loadAt ty (.pointer (some ⟨b,off,none⟩))).events P U #[]:=by unfold execOp;simp only[a0,hx,Sem.events_bind,dZ,Result.evThen_ok,Sem.events_pure]
 rw[MK];refine hK _ _ ⟨Z.env.jr (Z.size ce) (Own.refl _) fun ev hl=>?_,h U ce⟩;have hl:=mem_listed hl;rw[a1] at hl;obtain⟨ad,h1,h2⟩:=jz U b off ty cs d Yd hu hd hi ev hl;exact .inl ⟨ad,h1,by rw[h2]; exact hm⟩
theorem qw(C:aV P true R D X)(Z:Co KT N0 M O (R vs) (D vs) H){i:Nat}{o:Oper}{y:Operand}(k:Nat)(ho:ops[i]?=some o)(hw:Region.wanted o (yielded ops a.tmps)=true)(a2:o.op=.store ty x y)(hx:a.eval x=.pointer (some ⟨b,off,none⟩))(hy:(a.eval y).cells=cs.toArray)
 (hi:(P.info? ty).map (·.size)=some cs.length)(h1:∀v∈cs,v.oneCell'=true)(ht:¬KT t)(hF:H l w)(hk:l[k]?=some (b,.cells cur t))(a6:off+cs.length≤cur.size)(a1:putAt cur off cs=cur')
 (h:∀w',H (l.set k (b,.cells cur' t)) w'→bU X fn ops rest vs Q (a.put o.dst undef) w'):bU X fn ops (i::rest) vs Q a w:=by
 subst a1;refine aD C ho hw fun U hR K hK=>?_;have ce:=Z.rely hF hR;obtain⟨hm,hb⟩:=Z.own ce (List.mem_of_getElem? hk);cases hq:P.info? ty with
 | none=>simp[hq] at hi
 | some a5 =>
  have hs:a5.size=cs.length:=by simpa[hq] using hi
  have a0:=run_storeCells_at (P:=P) b off t cs 0 cur U hb (by omega) h1;have hse:=events_storeCells_at (P:=P) b off t cs 0 cur U #[] hb (by omega) h1;have a0:(storeCells ⟨b,off,none⟩ cs).run P U=.ok () (U.setRow b (putAt cur off cs)):=a0;have dZ:(Instr.storeAt ty (.pointer (some ⟨b,off,none⟩)) (a.eval y)).run P U=.ok () (U.setRow b (putAt cur off cs)):=by simp[Instr.storeAt,Instr.sureAddr,storeVar,sizeOf,typeInfo,hq,hs,hy,a0]
  have a4:(Instr.storeAt ty (.pointer (some ⟨b,off,none⟩)) (a.eval y)).events P U #[]=(storeCells ⟨b,off,none⟩ cs).events P U #[]:=by simp[Instr.storeAt,Instr.sureAddr,storeVar,sizeOf,typeInfo,hq,hs,hy]
  have hO:Own KT M U (U.setRow b (putAt cur off cs)):=Own.setRow hb hm ht;have MK:(execOp a.eval o).run P U=.ok .skip (U.setRow b (putAt cur off cs)):=by unfold execOp;simp only[a2,hx,Sem.run_bind,Sem.run_pure,Result.andThen_ok,dZ]
  have a3:(execOp a.eval o).events P U #[]=(Instr.storeAt ty (.pointer (some ⟨b,off,none⟩)) (a.eval y)).events P U #[]:=by unfold execOp;simp only[a2,hx,Sem.events_bind,dZ,Result.evThen_ok,Sem.events_pure]
  rw[MK];refine hK _ _ ⟨Z.env.jr (Z.size ce) hO fun ev hl=>?_,h _ (Z.Bf ce k hk hO ?_ fun k hk=>?_)⟩
  ·have hl:=mem_listed hl;rw[a3,a4] at hl;rcases hse ev hl with z|⟨ad,z1,z2⟩
   ·simp at z
   ·exact .inl ⟨ad,z1,by rw[z2]; exact Z.env.mine hO hm⟩
  ·simp[World.setRow,Array.getElem?_modify,hb]
  ·simp[World.setRow,Array.getElem?_modify,Ne.symm hk]
end
section
variable {N Pb:Nat}{Shun:Loc→Prop}{val:Value}{B:Nat}{Mine:Loc→Prop}{Ex:Nat→Prop}{w₀ w w':World}{all:Iq}{Rb:Nat}{i:Ph}{l l':Hq}
theorem HX.perm{K:Cfg}(h:HX K Ex w₀ all Rb i l w)(p:l'.Perm l):HX K Ex w₀ all Rb i l' w:=by obtain⟨v,tk,rest,en,h1,h2,h3,U,h5⟩:=h.row;exact⟨h.hl.perm p,v,tk,rest,en,h1,h2,h3,fun b o hm=>U b o (p.mem_iff.1 hm),h5⟩
variable [Go.ConcR.Payload][Go.ConcX.Payload]
variable [Go.ConcX.Shy (Cfg.Wg (aC prog N Pb Shun val B Mine)) (Cfg.C (aC prog N Pb Shun val B Mine))]
theorem HX.co(F:Cfg.Fit (aC prog N Pb Shun val B Mine))(h:HX (aC prog N Pb Shun val B Mine) Ex w₀ all Rb i l w):Co eS (N+9) (cH (aC prog N Pb Shun val B Mine)) (gx (aC prog N Pb Shun val B Mine)) (mL (aC prog N Pb Shun val B Mine) i) (rz (aC prog N Pb Shun val B Mine) i) (fun l w=>HX (aC prog N Pb Shun val B Mine) Ex w₀ all Rb i l w) where
 env:=h.env F
 rely h r:=h.rely F r
 size h:=h.hl.size
 own h hm:=⟨(h.hl.own _ _ hm).1,(h.hl.own _ _ hm).2.1⟩
 nodup h:=h.hl.nodup
 grown h hO:=h.grown F hO
 turn h hO hb hk:=h.turn F hO hb hk
 perm h p:=h.perm p
 drop h:=h.drop
 past h k hs:=h.past F k hs
 call h h':=h.call F h'
end
section
variable {ι:Type}{P:Program}{R:ι→Wq}{D:ι→World→World→Array Event→Prop}{X:ι→Gq}{fn:FuncId}{Q:dK ι}{a:Act}{w:World}{vs:ι}{KT:TypeId→Prop}{N0:Nat}{M:World→Nat→Prop}{O:Nat→Prop}{H:Hq→World→Prop}{l rl:Hq}
theorem n8(w:World)(t e:TypeId)(len:Nat)(parts:Array (Nat × Value))(cells:Aq)(ie:TypeInfo)(z:Value)
 (hu:P.underlying t=some (.slice e))(a1:P.info? e=some ie)(hz:ie.zero=some z)(U:¬len*ie.size>2 ^ 24)(a0:¬len*ie.size=0)
 (h:Instr.fill (fun i=>some (i*ie.size,ie.size)) ((Array.range (len*ie.size)).map (z.cells[· % z.cells.size]!)) parts.toList=some cells)(es:Array Event) :
  (Instr.buildSlice t len parts).events P w es=es:=by simp[Instr.buildSlice,run_underlying hu,sizeOf,typeInfo,zeroValue,a1,hz,U,a0,h,newRow]
theorem qG(w:World)(t e:TypeId)(len:Nat)(parts:Array (Nat × Value))(cells:Aq)(ie:TypeInfo)(z:Value)
 (hu:P.underlying t=some (.slice e))(a0:P.info? e=some ie)(hz:ie.zero=some z)(U:¬len*ie.size>2 ^ 24)
 (h:Instr.fill (fun i=>some (i*ie.size,ie.size)) ((Array.range (len*ie.size)).map (z.cells[· % z.cells.size]!)) parts.toList=some cells)(es:Array Event) :
  (Instr.buildSlice t len parts).run P w=.ok (.slice (sq w.heap.size) len len) (w.alloc (.cells cells e))∧(Instr.buildSlice t len parts).events P w es=es:=by
 by_cases h0:len*ie.size=0
 ·rw[h0] at h;have a1:Array.range 0=#[]:=rfl;have h':Instr.fill (fun i=>some (i*ie.size,ie.size)) #[] parts.toList=some cells:=by rw[a1] at h; simpa using h
  constructor;iterate 2
   ·simp[Instr.buildSlice,run_underlying hu,sizeOf,typeInfo,a0,h0,a1,h',newRow]
 ·exact⟨run_buildSlice w t e len parts cells ie z hu a0 hz U h0 h,n8 w t e len parts cells ie z hu a0 hz U h0 h es⟩
def sliced(P:Program)(e:TypeId)(len:Nat)(parts:List (Nat × Value)):Option (Array Value) :=
 match P.info? e with
 | some ie=>match ie.zero with
  | some z=>if len*ie.size>2 ^ 24 then none else Instr.fill (fun i=>some (i*ie.size,ie.size)) ((Array.range (len*ie.size)).map (z.cells[· % z.cells.size]!)) parts
  | none=>none
 | none=>none
theorem pX(C:aV P true R D X)(Z:Co KT N0 M O (R vs) (D vs) H){i:Nat}{o:Oper}{e:TypeId}{parts:Array (Nat × Operand)}{cells:Aq}(ho:ops[i]?=some o)(hw:Region.wanted o (yielded ops a.tmps)=true)(a0:o.op=.buildSlice t len parts)(hu:P.underlying t=some (.slice e))(ht:¬KT e)(U:sliced P e len (parts.map fun (i,x)=>(i,a.eval x)).toList=some cells)
 (hF:H l w)(h:∀b w',H ((b,.cells cells e)::l) w'→bU X fn ops rest vs Q (a.put o.dst (.slice (sq b) len len)) w'):bU X fn ops (i::rest) vs Q a w:=by
 refine aD C ho hw fun aB hR K hK=>?_;have ce:=Z.rely hF hR;unfold sliced at U;cases S9:P.info? e with
 | none=>simp[S9] at U
 | some ie =>
  cases hz:ie.zero with
  | none=>simp[S9,hz] at U
  | some z =>
   simp only[S9,hz] at U;split at U
   ·cases U
   ·rename_i hn
    have hq:=fun es=>qG (P:=P) aB t e len (parts.map fun (i,x)=>(i,a.eval x)) cells ie z hu S9 hz hn U es;have hO:Own KT M aB (aB.alloc (.cells cells e)):=Own.alloc ht;have hr:(execOp a.eval o).run P aB=.ok (.value (.slice (sq aB.heap.size) len len)) (aB.alloc (.cells cells e)):=by unfold execOp;simp only[a0,Sem.run_bind,(hq #[]).1,Result.andThen_ok,Sem.run_pure]
    have he:(execOp a.eval o).events P aB #[]=#[]:=by unfold execOp;simp only[a0,Sem.events_bind,(hq #[]).1,(hq _).2,Result.evThen_ok,Sem.events_pure]
    rw[hr];refine hK _ _ ⟨?_,h _ _ (Z.grown ce hO)⟩;rw[listed_nil he];exact Z.env.jr (Z.size ce) hO (fun e he=>by simp at he)
end
def fO(ops:Array Oper):Bool:=(List.range ops.size).all fun i=>((ops[i]?).map (·.after.all fun e=>!Region.binds .any e||decide (e.on<i))).getD false
theorem kz(h:fO ops=true){i:Nat}{o:Oper}(U:ops[i]?=some o){e:Edge}(he:e∈o.after)(hb:Region.binds .any e=true):e.on<i:=by
 unfold fO at h;rw[List.all_eq_true] at h;have hi:i<ops.size:=(Array.getElem?_eq_some_iff.1 U).1
 have:=h i (List.mem_range.2 hi);rw[U] at this;simp only[Option.map_some,Option.getD_some,Array.all_eq_true_iff_forall_mem] at this
 have:=this e he;rw[hb] at this;simpa using this
def kr(ops:Array Oper)(J:Nat→Bool)(i:Nat):Prop:=∀o,ops[i]?=some o→∀e∈o.after,Region.binds .any e=true→J e.on=true
section
variable {ι:Type}{P:Program}{main:Bool}{R:ι→Wq}{D:ι→World→World→Array Event→Prop}{X:ι→Gq}{fn:FuncId}{Q:dK ι}{a:Act}{w:World}{vs:ι}
theorem lg(C:aV P main R D X)(hd:LetsDraw (D vs))(hm:P.follows .mixedOrders=true)(hn:ops.size=n)(a4:fO ops=true)
 (Inv:(Nat→Bool)→ι→Act→World→Prop)(h0:∀aB,R vs w aB→Inv (fun _=>false) vs a { aB with drawn:=aB.drawn+1 })
 (a2:∀J J' vs a w,(∀k,k<n→J k=J' k)→Inv J vs a w→Inv J' vs a w)
 (a6:∀(J:Nat→Bool) (i:Nat) (vs:ι) (a:Act) (w:World),Inv J vs a w→i<n→J i=false→kr ops J i→∀rest,(∀eY a' w',Inv (fun k=>if k=i then true else J k) eY a' w'→bU X fn ops rest eY Q a' w')→bU X fn ops (i::rest) vs Q a w)
 (a1:∀(J:Nat→Bool) (vs:ι) (a:Act) (w:World),(∀k,k<n→J k=true)→Inv J vs a w→bU X fn ops [] vs Q a w):fx X fn (.region id ops true) vs Q a w:=by
 have key:∀(U t:Nat) (listed:Array Bool) (vs:ι) (a:Act) (w:World),listed.size=n→listed.toList.count false≤U→Inv (fun k=>listed.getD k false) vs a w→bU X fn ops (Region.linearise.go .any ops U t listed []) vs Q a w:=by
  intro U;induction U with
  | zero =>
   intro t listed vs a w hs hc hI;refine a1 _ vs a w (fun k hk=>?_) hI;have h:=List.count_eq_zero.1 (Nat.le_zero.1 hc);rw[Array.getD_eq_getD_getElem?,Array.getElem?_eq_getElem (by omega),Option.getD_some];cases e:listed[k]'(by omega) with
   | true=>rfl
   | false=>exact absurd (by rw[← e]; simp) h
  | succ U ih =>
   intro t listed vs a w hs hc hI;by_cases he:Region.ready .any ops listed=[]
   ·rw[Ah he];refine a1 _ vs a w (fun k hk=>?_) hI;induction k using Nat.strongRecOn with
    | _ k ah =>
     cases e:listed.getD k false with
     | true=>rfl
     | false =>
      exfalso;have a8:k<ops.size:=by omega
      have a0:k∈Region.ready .any ops listed:=by
       refine mem_ready.2 ⟨?_,ops[k],Array.getElem?_eq_getElem a8,fun ed a5 hb=>?_⟩
       ·rw[Array.getD_eq_getD_getElem?,Array.getElem?_eq_getElem (by omega),Option.getD_some] at e ⊢;exact e
       ·have ag:=kz a4 (Array.getElem?_eq_getElem a8) a5 hb;exact ah ed.on ag (by omega)
      rw[he] at a0;simp at a0
   ·have ae:0<(Region.ready .any ops listed).length:=List.length_pos_iff.2 he;obtain⟨i,hi⟩:∃i,(Region.ready .any ops listed)[t % (Region.ready .any ops listed).length]?=some i:=⟨_,List.getElem?_eq_getElem (Nat.mod_lt _ ae)⟩;have a0:=mem_ready.1 (List.mem_of_getElem? hi);obtain⟨hf,o,ho,a5⟩:=a0;have hin:i<n:=by rw[← hn]; exact(Array.getElem?_eq_some_iff.1 ho).1
    have a7:listed[i]?=some false:=by rw[Array.getD_eq_getD_getElem?,Array.getElem?_eq_getElem (by omega),Option.getD_some] at hf;rw[Array.getElem?_eq_getElem (by omega),hf]
    rw[qX hi];refine a6 _ i vs a w hI hin (by rw[Array.getD_eq_getD_getElem?,a7]; rfl) (fun o' aa e af hb=>?_) _ fun eY a' w' hI'=>ih _ _ eY a' w' (by simpa using hs) ?_ (a2 _ _ eY a' w' (fun k hk=>?_) hI')
    ·rw[ho] at aa;cases aa;exact a5 e af hb
    ·have a3:listed.toList[i]'(by simpa using(show i<listed.size by omega))=false:=by have:=(Array.getElem?_eq_some_iff.1 a7).2;simpa using this
     have a9:i<listed.toList.length:=by simpa using(show i<listed.size by omega)
     have a0:false∈listed.toList:=by rw[← a3]; exact List.getElem_mem _
     rw[Array.toList_setIfInBounds,List.count_set a9,a3,if_pos (by decide),if_neg (by decide)];omega
    ·by_cases e:k=i
     ·subst e;simp[Array.getElem?_setIfInBounds,show k<listed.size by omega]
     ·simp[Array.getD_eq_getD_getElem?,Array.getElem?_setIfInBounds,e,Ne.symm e]
 intro b k cs hb hk hc;refine C.step rfl fun aB aF=>?_;rw[stepG_region_draw];refine⟨hd _,?_⟩;simp only[Region.schedule,hm,Bool.true_or,if_true];have e:Region.linearise .any ops (aB.tape aB.drawn (.order b.fn id))=Region.linearise.go .any ops n (aB.tape aB.drawn (.order b.fn id)) (Array.replicate n false) []:=by unfold Region.linearise;rw[hn]
 rw[e];exact key n _ (Array.replicate n false) vs a _ (by simp) (by simp) (a2 _ _ vs a _ (fun k hk=>by simp[Array.getD_eq_getD_getElem?,hk]) (h0 aB aF)) b k cs hb hk hc
end
def fT {α:Type}(P:Program):Sem α→Option α
 | .pure a=>some a
 | .program k=>fT P (k P)
 | _=>none
def lS {α:Type}(d:α):Nat→List α→α→List α
 | 0,l,x=>x::l.tail
 | n+1,l,x=>l.headD d::lS d n l.tail x
structure AS where
 hp:List (List (Option Obj))
 nx:Nat
def AS.get(s:AS)(b:Nat):Option Obj:=(s.hp.getD (b / 16) []).getD (b % 16) none
def AS.set(s:AS)(b:Nat)(o:Option Obj):AS:=⟨lS [] (b / 16) s.hp (lS none (b % 16) (s.hp.getD (b / 16) []) o),s.nx⟩
def AS.add(s:AS)(o:Obj):AS:=⟨(s.set s.nx (some o)).hp,s.nx+1⟩
def dT:Value→Bool
 | .bool _|.int _ _|.string _|.pointer none|.slice none _ _|.nilFunc|.nilIface=>true
 | _=>false
def rX:Value→Bool
 | .agg cs=>cs.toList.all dT
 | v=>dT v
def am (b off:Nat):Value:=.pointer (some ⟨b,off,none⟩)
def bI(P:Program)(t:TypeId):Option Nat:=(P.info? t).map (·.size)
def lh(P:Program)(t:TypeId):Bool:=match P.info? t with
 | some i=>match i.zero with
  | some z=>z.cells.toList.all dT
  | none=>false
 | none=>false
def So:Option Go.Next→Option Value
 | some (.value v)=>some v
 | _=>none
def aE(P:Program)(t:TypeId)(x:Value)(s:AS):Option Value:=match x with
 | .pointer (some ⟨b,off,none⟩)=>match s.get b with
  | some (.cells cs _ _)=>match P.underlying t with
   | some d=>if d.isRow then match bI P t with
     | some n=>if off+n≤cs.size then some (.agg (cs.toList.drop off |>.take n).toArray) else none
     | none=>none
    else cs[off]?
   | none=>none
  | _=>none
 | _=>none
def iM(P:Program)(t:TypeId)(x y:Value)(s:AS):Option AS:=match x with
 | .pointer (some ⟨b,off,none⟩)=>match s.get b with
  | some (.cells cs ty fz) =>
   if bI P t=some y.cells.size∧off+y.cells.size≤cs.size∧y.cells.toList.all Value.oneCell'=true then some (s.set b (some (.cells (putAt cs off y.cells.toList) ty fz))) else none
  | _=>none
 | _=>none
def dQ(s:AS)(sz:Nat)(ad:Option Addr)(n:Nat):Option (List Value):=match ad with
 | none=>if n=0 then some [] else none
 | some ⟨b,off,_⟩=>match s.get b with
  | some (.cells cs _ _)=>if off+n*sz≤cs.size then some (cs.toList.drop off |>.take (n*sz)) else none
  | _=>none
def aZ(P:Program)(e:TypeId)(x:Value)(news:List Value)(m:Nat)(s:AS):Option (Value × AS):=match x with
 | .slice none 0 0=>if m=0 then some (x,s) else some (.slice (some ⟨s.nx,0,none⟩) m m,s.add (.cells news.toArray e (1,1)))
 | .slice (some ⟨b,0,none⟩) n _=>if m=0 then some (x,s) else match s.get b,bI P e with
  | some (.cells cs t _),some sz =>
   if t=e∧n*sz≤cs.size∧n+m≤1000000000 then some (.slice (some ⟨s.nx,0,none⟩) (n+m) (n+m),(s.set b none).add (.cells (cs.toList.take (n*sz)++news).toArray e (1,1))) else none
  | _,_=>none
 | .slice (some ⟨_,_,some _⟩) 0 0=>if m=0 then none else some (.slice (some ⟨s.nx,0,none⟩) m m,s.add (.cells news.toArray e (1,1)))
 | _=>none
def iB {α:Type}:List α→Nat→Nat
 | [],n=>n
 | _::l,n=>iB l (n+1)
def cJ:List UInt8→List UInt8→Bool
 | [],[]=>true
 | x::l,y::m=>if x.toNat.beq y.toNat then cJ l m else false
 | _,_=>false
def jG(k:IntKind)(r:Int):Int:=match k with
 | .i64|.i32=>if -2000000000≤r∧r≤2000000000 then r else k.wrap r
 | _=>k.wrap r
abbrev TL:=List Value
def TL.at:TL→Operand→Value
 | l,.tmp t=>l.getD t undef
 | _,.const v=>v
 | _,.global g=>.pointer (some ⟨g,0,none⟩)
 | _,.func f=>.func (.func f) #[] #[]
def yo:List Value→Nat→Value→List Value
 | [],_,_=>[]
 | _::l,0,v=>v::l
 | x::l,n+1,v=>x::yo l n v
def TL.put(a:TL)(d:Option Tmp)(v:Value):TL:=match d with
 | some t=>yo a t v
 | none=>a
def bB(ops:Array Oper)(a:TL)(j:Nat):Option Bool:=match ops.toList[j]? with
 | some o=>match o.dst with
  | some d=>match a[d]? with
   | some (.bool b)=>some b
   | _=>none
  | none=>none
 | none=>none
def yx:Operand→Bool
 | .tmp _|.func _=>true
 | .const v=>dT v
 | .global _=>false
def j8(ops:Array Oper):Bool:=ops.toList.all fun o=>o.op.operands.toList.all yx
def jy(l:List Value):Option (List UInt8):=match l with
 | []=>some []
 | .int .u8 x::r=>if 0≤x∧x<256 then match jy r with
   | some bs=>some (x.toNat.toUInt8::bs)
   | none=>none
  else none
 | _=>none
def dx:Value→Option Addr→Bool
 | .slice (some ⟨b,_,none⟩) _ _,some ⟨b',_,_⟩=>!b.beq b'
 | _,_=>true
def fG:Value→Bool
 | .slice (some ⟨_,_,some _⟩) _ _=>false
 | _=>true
def eB(P:Program)(kt:TypeId→Bool)(b:Builtin)(args:List Value)(ts:List TypeId)(s:AS):Option (Value × AS):=match b,args,ts with
 | .append,[x,.slice y m _],[t,t']=>if t=t' then match P.underlying t with
   | some (.slice e)=>match (P.info? e).map (fun i=>(i.zero,i.size,i.bytes)) with
    | some (some z,sz,bytes)=>match dQ s sz y m with
     | some news=>if z.cells.size=sz∧0<sz∧bytes≤1000∧m≤1000000000∧kt e=false∧dx x y=true∧news.all Value.oneCell'=true then aZ P e x news m s else none
     | none=>none
    | _=>none
   | _=>none
  else none
 | .append,[x,.string str],[t,t']=>match P.underlying t,P.underlying t' with
  | some (.slice e),some .string=>match (P.info? e).map (fun i=>(i.zero,i.size,i.bytes)) with
   | some (some (Value.int IntKind.u8 0),1,1)=>if str.size≤1000000000∧kt e=false∧fG x=true then aZ P e x (strCells str) str.size s else none
   | _=>none
  | _,_=>none
 | .copy,[.slice (some ⟨b,off,none⟩) n _,.string str],[t,_]=>match P.underlying t,s.get b with
  | some (.slice e),some (.cells cs bt fz)=>if bI P e=some 1∧str.size=n∧off+n≤cs.size then some (goInt (iB str.data.toList 0),s.set b (some (.cells (putAt cs off (strCells str)) bt fz))) else none
  | _,_=>none
 | .unsafeString,[.pointer (some ⟨b,0,none⟩),.int .i64 n],[pt,_]=>match P.underlying pt,s.get b with
  | some (.pointer e),some (.cells cs t _)=>if P.cellsOf e=1∧t=e∧0<n∧n≤1000000000∧n.toNat≤cs.size then match jy (cs.toList.take n.toNat) with
    | some bs=>some (.string ⟨bs.toArray⟩,s.set b none)
    | none=>none
   else none
  | _,_=>none
 | _,_,_=>none
def cX(op:BinOp)(x y:Value):Option Value:=match x,y with
 | .int k a,.int k' b=>if k=k' then match op with
   | .add=>some (.int k (jG k (a+b)))
   | .sub=>some (.int k (jG k (a-b)))
   | .eql=>some (.bool (a==b))
   | .neq=>some (.bool (a != b))
   | .lss=>some (.bool (decide (a<b)))
   | .leq=>some (.bool (decide (a≤b)))
   | .gtr=>some (.bool (decide (a>b)))
   | .geq=>some (.bool (decide (a≥b)))
   | _=>none
  else none
 | .string a,.string b=>match op with
  | .eql=>some (.bool (cJ a.data.toList b.data.toList))
  | .neq=>some (.bool (!cJ a.data.toList b.data.toList))
  | .add=>if iB a.data.toList 0+iB b.data.toList 0≤1000000000 then some (.string ⟨(a.data.toList++b.data.toList).toArray⟩) else none
  | _=>none
 | _,_=>none
def lC(P:Program)(op:BinOp)(t:TypeId)(x y:Value):Option Value:=match x,y,P.underlying t with
 | .pointer (some p),.pointer (some q),some (.pointer e)=>match bI P e with
  | some (_+1)=>if p.block=q.block then match op with
    | .eql=>some (.bool (p==q))
    | .neq=>some (.bool (!(p==q)))
    | _=>none
   else none
  | _=>none
 | .pointer (some _),.pointer none,some (.pointer _)|.pointer none,.pointer (some _),some (.pointer _)|.slice (some _) _ _,.slice none _ _,some (.slice _)|.slice none _ _,.slice (some _) _ _,some (.slice _)
 | .func _ _ _,.nilFunc,some (.func _ _ _)|.nilFunc,.func _ _ _,some (.func _ _ _)|.map (some (_+1)),.int .i64 0,_=>match op with
  | .eql=>some (.bool false)
  | .neq=>some (.bool true)
  | _=>none
 | _,_,_=>none
def rP (P:Program)(a:TL)(o:Oper):Option Value :=
 if o.op.operands.toList.all fun x=>rX (a.at x) then match So (fT P (execOp a.at o)) with
  | some v=>if rX v then some v else none
  | none=>none
 else none
def bF(n c:Nat)(lo hi:Option Value):Option (Nat × Nat):=match hi with
 | none=>match lo with
  | none=>some (0,n)
  | some (.int _ i)=>if 0≤i∧i≤n then some (i.toNat,n) else none
  | _=>none
 | some (.int _ k)=>if 0≤k∧k≤c then match lo with
   | none=>some (0,k.toNat)
   | some (.int _ i)=>if 0≤i∧i≤k then some (i.toNat,k.toNat) else none
   | _=>none
  else none
 | _=>none
def fP(P:Program)(t:TypeId)(x:Value)(lo hi mx:Option Value)(s:AS):Option Value:=match P.underlying t,x,mx with
 | some (.slice e),.slice (some ⟨b,off,none⟩) n c,none=>match bI P e,s.get b with
  | some sz,some (.cells _ bt _)=>if bt=e then match bF n c lo hi with
    | some (l,h)=>if l<c then some (.slice (some ⟨b,off+l*sz,none⟩) (h-l) (c-l)) else if l=h then some (.slice (some ⟨b,off,some 0⟩) 0 1) else none
    | none=>none
   else none
  | _,_=>none
 | some (.slice e),.slice (some ⟨b,off,none⟩) _ _,some (.int _ 0)=>match bI P e,lo,hi with
  | some _,none,some (.int _ 0)=>some (.slice (some ⟨b,off,some 0⟩) 0 0)
  | _,_,_=>none
 | some .string,.string str,none=>match bF (iB str.data.toList 0) (iB str.data.toList 0) lo hi with
  | some (l,h)=>some (.string ⟨((str.data.toList.take h).drop l).toArray⟩)
  | none=>none
 | some (.slice e),.slice none 0 0,none=>match bI P e,bF 0 0 lo hi with
  | some _,some _=>some (.slice none 0 0)
  | _,_=>none
 | _,_,_=>none
def bQ(P:Program)(a:TL)(o:Oper):Option Value:=match o.op with
 | .move x|.assign x=>some (a.at x)
 | .pick c x y=>match a.at c with
  | .bool b=>some (if b then a.at x else a.at y)
  | _=>none
 | .build t parts=>if lh P t=false then none else match P.built t (parts.map fun (i,x)=>(i,a.at x)).toList with
  | some c=>some (.agg c)
  | none=>none
 | .nilCheck x=>match a.at x with
  | .pointer (some p)=>some (.pointer (some p))
  | .func (.func f) x y=>some (.func (.func f) x y)
  | _=>none
 | .makeFunc (.func f) first cap=>some (.func (.func f) (first.map a.at) (cap.map a.at))
 | .extract t ix=>match a.at t with
  | .tuple vs=>vs[ix]?
  | _=>none
 | .fieldAddr t x f=>match P.underlying t,a.at x with
  | some (.struct fields),.pointer (some ⟨b,off,none⟩)=>match fields[f]? with
   | some g=>match bI P g.type with
    | some (_+1)=>some (am b (off+g.offset))
    | _=>none
   | none=>none
  | _,_=>none
 | .indexAddr t x ix=>match P.underlying t,a.at x,a.at ix with
  | some (.slice e),.slice (some ⟨b,off,_⟩) n _,.int _ i=>match bI P e with
   | some sz=>if 0≤i∧i<n then some (am b (off+i.toNat*sz)) else none
   | none=>none
  | some (.array n e),.pointer (some ⟨b,off,none⟩),.int _ i=>match bI P e with
   | some sz=>if 0≤i∧i<n then some (am b (off+i.toNat*sz)) else none
   | none=>none
  | _,_,_=>none
 | .binOp op t x y _=>match cX op (a.at x) (a.at y) with
  | some v=>some v
  | none=>match lC P op t (a.at x) (a.at y) with
   | some v=>some v
   | none=>rP P a o
 | .convert t u x=>match P.underlying t,P.underlying u,a.at x with
  | some _,some (.int k),.int _ n=>some (.int k (jG k n))
  | _,_,_=>rP P a o
 | .index t x i=>match P.underlying t,a.at x,a.at i with
  | some .string,.string str,.int _ n=>if 0≤n then match str.data.toList[n.toNat]? with
    | some b=>some (.int .u8 b.toNat)
    | none=>none
   else none
  | _,_,_=>rP P a o
 | .call c=>match c.callee,c.args.toList,c.argTypes.toList with
  | .builtin .len,[x],[t]=>match a.at x,P.underlying t with
   | .slice _ n _,some (.slice _)=>some (goInt n)
   | .string str,some .string=>some (goInt (iB str.data.toList 0))
   | _,_=>none
  | .builtin .unsafeSliceData,[x],_=>match a.at x with
   | .slice (some ⟨b,off,none⟩) _ (_+1)=>some (.pointer (some ⟨b,off,none⟩))
   | _=>rP P a o
  | .builtin .cap,[x],[t]=>match a.at x,P.underlying t with
   | .slice (some ⟨_,_,none⟩) _ c,some (.slice _)=>some (.map (some c))
   | _,_=>rP P a o
  | .builtin .min,_,_|.builtin .max,_,_|.builtin .unsafeString,_,_=>rP P a o
  | _,_,_=>none
 | .unOp _ _ _=>rP P a o
 | _=>none
def jh(P:Program):Operand→Bool
 | .func g=>match P.funcs[g]? with
  | some fn => fn.body.isNone && fn.name == "internal" ++ String.singleton (Char.ofNat 47) ++ "abi.NoEscape"
  | none=>false
 | _=>false
def fq(P:Program)(t u:TypeId)(x:Value)(s:AS):Option Value:=match P.underlying t,P.underlying u,x with
 | some (.pointer e),some .unsafePointer,.pointer (some ⟨b,off,none⟩)=>match s.get b,bI P e with
  | some (.cells cs _ _),some (_+1)=>if off<cs.size then some x else none
  | _,_=>none
 | some .unsafePointer,some (.pointer e),.pointer (some ⟨b,off,none⟩)=>match s.get b,bI P e with
  | some (.cells cs bt (0,0)),some (_+1)=>if liesAt P P.depth bt (cs.size / P.cellsOf bt) off e 1=true then some x else none
  | _,_=>none
 | _,_,_=>none
def ub(P:Program)(kt:TypeId→Bool)(a:TL)(o:Oper):Option (Obj × (Nat→Value)):=match o.op with
 | .alloc t=>if lh P t=false∨kt t=true∨bI P t=none then none else match (P.info? t).map (·.zero) with
  | some (some z)=>some (.cells z.cells t,fun b=>am b 0)
  | _=>none
 | .box t x=>if kt t=true∨bI P t=none then none else some (.cells (a.at x).cells t,fun b=>am b 0)
 | .buildSlice t len parts=>match P.underlying t with
  | some (.slice e)=>if lh P e=false∨kt e=true∨1000000000<len then none else match sliced P e len (parts.map fun (i,x)=>(i,a.at x)).toList with
   | some c=>some (.cells c e,fun b=>.slice (some ⟨b,0,none⟩) len len)
   | none=>none
  | _=>none
 | .range t x=>match P.underlying t,a.at x with
  | some .string,.string str=>if kt (1000+str.size)=true then none else some (.stringIter str 0,fun b=>am b 0)
  | _,_=>none
 | .makeSlice t x y=>match P.underlying t,a.at x,a.at y with
  | some (.slice e),.int .i64 n,.int .i64 m=>match (P.info? e).map (fun i=>(i.zero,i.size,i.bytes)) with
   | some (some z,sz,bytes)=>if n=m∧0<n∧n≤1000000∧lh P e=true∧kt e=false∧bytes≤1000 then some (.cells (madeCells z.cells (n.toNat*sz)) e,fun b=>.slice (some ⟨b,0,none⟩) n.toNat n.toNat) else none
   | _=>none
  | _,_,_=>none
 | _=>none
def eV:Op→Bool
 | .alloc _|.box _ _|.buildSlice _ _ _|.range _ _|.makeSlice _ _ _=>true
 | _=>false
def bK (P:Program)(kt:TypeId→Bool)(call:FuncId→Array Value→AS→Option (Value × AS))(a:TL)(o:Oper)(s:AS):Option (Value × AS) :=
 if eV o.op then match ub P kt a o with
  | some (ob,mk)=>some (mk s.nx,s.add ob)
  | none=>none
 else match o.op with
 | .load t x=>match aE P t (a.at x) s with
  | some v=>some (v,s)
  | none=>none
 | .store t x y=>match iM P t (a.at x) (a.at y) s with
  | some s'=>some (undef,s')
  | none=>none
 | .slice t x lo hi mx=>match fP P t (a.at x) (lo.map a.at) (hi.map a.at) (mx.map a.at) s with
  | some v=>some (v,s)
  | none=>none
 | .next it true=>match a.at it with
  | .pointer (some ⟨b,0,none⟩)=>match s.get b with
   | some (.stringIter str pos) =>
    if pos<str.size then if kt (1000+str.size)=true then none else some (.tuple #[.bool true,goInt pos,.int .i32 (Utf8.decode str pos).1],s.set b (some (.stringIter str (pos+(Utf8.decode str pos).2))))
    else some (.tuple #[.bool false],s)
   | _=>none
  | _=>none
 | .call c=>match c.callee with
  | .value f=>if jh P f=true then match c.args.toList with
    | [x]=>some (a.at x,s)
    | _=>none
   else match a.at f with
   | .func (.func g) first cap=>call g (first++c.args.map a.at++cap) s
   | _=>none
  | .builtin b=>match bQ P a o with
   | some v=>some (v,s)
   | none=>eB P kt b (c.args.toList.map a.at) c.argTypes.toList s
  | _=>none
 | .convert t u x=>match bQ P a o with
  | some v=>some (v,s)
  | none=>match fq P t u (a.at x) s with
   | some v=>some (v,s)
   | none=>none
 | _=>match bQ P a o with
  | some v=>some (v,s)
  | none=>none
def cD(P:Program)(kt:TypeId→Bool)(call:FuncId→Array Value→AS→Option (Value × AS))(ops:Array Oper):List Oper→TL→AS→Option (TL × AS)
 | [],a,s=>some (a,s)
 | o::rest,a,s =>
  if Region.wanted o (bB ops a) then
   match bK P kt call a o s with
   | some (v,s')=>cD P kt call ops rest (a.put o.dst v) s'
   | none=>none
  else cD P kt call ops rest (a.put o.dst undef) s
def vA(P:Program)(kt:TypeId→Bool)(call:FuncId→Array Value→AS→Option (Value × AS))(ops:Array Oper)(a:TL)(s:AS):Option (TL × AS):=cD P kt call ops ops.toList a s
def og (P:Program)(kt:TypeId→Bool)(call:FuncId→Array Value→AS→Option (Value × AS))(ops:Array Oper):List Oper→TL→AS→Option (List (TL × Value × AS))
 | [],_,_=>some []
 | o::rest,a,s =>
  if Region.wanted o (bB ops a) then
   match bK P kt call a o s with
   | some (v,s')=>match og P kt call ops rest (a.put o.dst v) s' with
    | some tr=>some ((a,v,s')::tr)
    | none=>none
   | none=>none
  else match og P kt call ops rest (a.put o.dst undef) s with
   | some tr=>some ((a,undef,s)::tr)
   | none=>none
def kindOf(P:Program)(o:Oper):Nat :=
 if eV o.op then 2 else match o.op with
  | .load _ _=>1
  | .store _ _ _|.next _ _=>3
  | .slice t _ _ _ _=>match P.underlying t with
   | some .string=>0
   | _=>3
  | .convert t u _=>match P.underlying t,P.underlying u with
   | some .unsafePointer,_|_,some .unsafePointer=>3
   | _,_=>0
  | .call c=>match c.callee with
   | .builtin .len|.builtin .min|.builtin .max|.builtin .cap|.builtin .unsafeSliceData=>0
   | _=>3
  | _=>0
def xf(acc:List Nat)(o:Oper):Nat:=o.after.toList.foldl (fun m e=>if Region.binds .any e then m ||| (1 <<< e.on ||| acc.getD e.on 0) else m) 0
def eO:List Oper→List Nat→List Nat
 | [],acc=>acc
 | o::rest,acc=>eO rest (acc++[xf acc o])
def na:Nat→Value→Value→Bool
 | 0,_,_=>false
 | n+1,x,y=>match x,y with
  | .bool a,.bool b=>a==b
  | .int k a,.int k' b=>k==k'&&a==b
  | .string a,.string b=>cJ a.data.toList b.data.toList
  | .pointer a,.pointer b=>a==b
  | .slice a n c,.slice a' n' c'=>a==a'&&n.beq n'&&c.beq c'
  | .func f x y,.func f' x' y'=>f==f'&&x.toList.length.beq x'.toList.length&&y.toList.length.beq y'.toList.length&&(x.toList.zip x'.toList).all (fun p=>na n p.1 p.2)&&(y.toList.zip y'.toList).all (fun p=>na n p.1 p.2)
  | .agg x,.agg x'=>x.toList.length.beq x'.toList.length&&(x.toList.zip x'.toList).all (fun p=>na n p.1 p.2)
  | .nilFunc,.nilFunc=>true
  | .nilIface,.nilIface=>true
  | _,_=>false
def tmpsOf(o:Oper):List Nat:=o.op.operands.toList.filterMap fun x=>match x with
 | .tmp t=>some t
 | _=>none
def AP(P:Program)(ops:List Oper)(pF:List Nat)(q:Nat):Bool :=
 let n:=ops.length
 let has:=fun i j=>(pF.getD i 0).testBit j
 let ks:=ops.map (kindOf P)
 (List.range n).all (fun i=>decide (i<q)||(List.range i).all (has i)) &&
 (List.range q).all (fun i=>match ops[i]? with
  | some o=>(tmpsOf o).all (fun t=>(List.range q).all fun j=>((ops[j]?).bind (·.dst) != some t)||has i j) &&
   (match o.guard with|some (j,_)=>has i j&&decide (j<q)|none=>true) &&
   (List.range q).all (fun j=>(i==j)||o.dst==none||(ops[j]?).bind (·.dst) != o.dst)
  | none=>false) &&
 (List.range q).all (fun i=>(ks.getD i 0 != 3)||(List.range i).all fun j=>(ks.getD j 0).blt 2||has i j)
def iq(pF:List Nat):Nat→Nat
 | 0=>0
 | n+1=>if (List.range n).all (fun j=>(pF.getD n 0).testBit j) then iq pF n else n+1
def gI(tr:List (TL × Value × AS))(s:AS)(m:Nat):AS:=match m with
 | 0=>s
 | m+1=>match tr[m]? with
  | some (_,_,s')=>s'
  | none=>s
def oF(P:Program)(ops:Array Oper)(pF:List Nat)(q:Nat)(tr:List (TL × Value × AS))(s:AS):Bool :=
 let has:=fun i j=>(pF.getD i 0).testBit j
 let es:=(List.range q).filter fun i=>(match ops.toList[i]? with|some o=>kindOf P o|none=>0)==3
 (List.range q).all fun r=>match ops.toList[r]?,tr[r]? with
  | some o,some (a,v,_)=>match o.op with
   | .load t x=>(0::es.map (·+1)).all fun p =>
    (es.any fun e=>(e.blt p&&has e r)||(!e.blt p&&has r e)) ||
    (match aE P t (a.at x) (gI tr s p) with
     | some v'=>na 20 v' v
     | none=>false)||!(Region.wanted o (bB ops a))
   | _=>true
  | _,_=>false
def jM(P:Program)(kt:TypeId→Bool)(call:FuncId→Array Value→AS→Option (Value × AS))(ops:Array Oper)(a:TL)(s:AS):Option (TL × AS) :=
 let pF:=eO ops.toList []
 let q:=iq pF ops.toList.length
 if fO ops=false∨AP P ops.toList pF q=false then none else
 match og P kt call ops ops.toList a s with
 | some tr=>if oF P ops pF q tr s=false then none else match tr.reverse,ops.toList.reverse with
  | (a',v,s')::_,o::_=>some (a'.put o.dst v,s')
  | _,_=>none
 | none=>none
def lG(P:Program)(tmps:TL)(s:AS):ResultVar→Option Value
 | .tmp t=>some (tmps.getD t undef)
 | .cell t ty=>aE P ty (tmps.getD t undef) s
def dA(P:Program)(fn:Func)(tmps:TL)(s:AS):Option Value :=
 match fn.results.toList with
 | [r]=>lG P tmps s r
 | rs=>match rs.mapM (lG P tmps s) with
  | some vs=>some (.tuple vs.toArray)
  | none=>none
abbrev Prim:=FuncId→Option (Array Value→AS→Option (Value × AS))
def eJ (P:Program)(kt:TypeId→Bool)(pr:Prim):Nat→Code→TL→AS→Option (Exit × TL × AS)
 | 0,_,_,_=>none
 | n+1,c,a,s=>match c with
  | .skip=>some (.normal,a,s)
  | .ret=>some (.ret,a,s)
  | .exit id=>some (.exit id,a,s)
  | .label _=>some (.normal,a,s)
  | .seq x y=>match eJ P kt pr n x a s with
   | some (.normal,a',s')=>eJ P kt pr n y a' s'
   | r=>r
  | .cond x y z=>match a.at x with
   | .bool true=>eJ P kt pr n y a s
   | .bool false=>eJ P kt pr n z a s
   | _=>none
  | .block id x=>match eJ P kt pr n x a s with
   | some (.exit k,a',s')=>if k=id then some (.normal,a',s') else some (.exit k,a',s')
   | r=>r
  | .loop x=>match eJ P kt pr n x a s with
   | some (.normal,a',s')=>eJ P kt pr n (.loop x) a' s'
   | r=>r
  | .scope x=>eJ P kt pr n x a s
  | .region _ ops draw=>if j8 ops=false then none else
   match (if draw then jM P kt else vA P kt) (fun f args s=>match pr f with
    | some g=>g args s
    | none=>match P.funcs[f]? with
     | some fn=>match fn.body with
      | some b=>match eJ P kt pr n b (args.toList++List.replicate (fn.ntmps-args.toList.length) undef) s with
       | some (e,a',s')=>match e with
        | .normal|.ret=>(dA P fn a' s').map (·,s')
        | _=>none
       | none=>none
      | none=>none
     | none=>none) ops a s with
   | some (a',s')=>some (.normal,a',s')
   | none=>none
  | _=>none
def br(P:Program)(kt:TypeId→Bool)(pr:Prim)(n:Nat)(f:FuncId)(args:Array Value)(s:AS):Option (Value × AS) :=
 match pr f with
 | some g=>g args s
 | none=>match P.funcs[f]? with
  | some fn=>match fn.body with
   | some b=>match eJ P kt pr n b (args.toList++List.replicate (fn.ntmps-args.toList.length) undef) s with
    | some (e,a',s')=>match e with
     | .normal|.ret=>(dA P fn a' s').map (·,s')
     | _=>none
    | none=>none
   | none=>none
  | none=>none
theorem ms(d:α):∀(n:Nat) (l:List α) (x:α) (m:Nat),(lS d n l x).getD m d=if m=n then x else l.getD m d
 | 0,l,x,0=>by simp[lS]
 | 0,l,x,m+1=>by cases l<;>simp[lS]
 | n+1,l,x,0=>by cases l<;>simp[lS]
 | n+1,l,x,m+1=>by have:=ms d n l.tail x m;cases l<;>simp_all [lS]
theorem AS.aK(s:AS)(b b':Nat)(o:Option Obj):(s.set b o).get b'=if b'=b then o else s.get b':=by
 unfold AS.get AS.set;rw[ms];by_cases h:b' / 16=b / 16
 ·rw[if_pos h,ms];by_cases h2:b' % 16=b % 16
  ·have:b'=b:=by omega
   simp[h2,this]
  ·have:b'≠b:=fun e=>h2 (by rw[e]);simp[h2,this,h]
 ·have:b'≠b:=fun e=>h (by rw[e]);simp[h,this]
theorem AS.aH(s:AS)(b':Nat)(o:Obj):(s.add o).get b'=if b'=s.nx then some o else s.get b':=by have:(s.add o).get b'=(s.set s.nx (some o)).get b':=rfl;rw[this,AS.aK]
@[simp] theorem AS.Xg (s:AS) (b:Nat) (o:Option Obj):(s.set b o).nx=s.nx:=rfl
@[simp] theorem AS.Xf (s:AS) (o:Obj):(s.add o).nx=s.nx+1:=rfl
abbrev bC:=Nat→Option (Nat × Nat × Nat)
def bC.le(S S':bC):Prop:=∀b x,S b=some x→S' b=some x
theorem bC.le_refl(S:bC):S.le S:=fun _ _ h=>h
theorem bC.le_trans{S S' U:bC}(h:S.le S')(h':S'.le U):S.le U:=fun b x e=>h' b x (h b x e)
def AR (R:Value→Value→Prop)(a b:Array Value):Prop:=a.size=b.size∧∀(i:Nat) (x y:Value),a[i]?=some x→b[i]?=some y→R x y
def VD (S:bC):Nat→Value→Value→Prop
 | 0,_,_=>False
 | d+1,x,v=>match x with
  | .pointer (some ⟨b,off,none⟩)=>∃g z e,S b=some (g,z,e)∧v=.pointer (some ⟨g,off,none⟩)
  | .slice (some ⟨b,off,none⟩) n c=>∃g z e c',S b=some (g,z,e)∧v=.slice (some ⟨g,off,none⟩) n c'∧n≤c∧c≤c'∧c'≤maxLen∧off+c'*e=z
  | .slice (some ⟨b,_,some _⟩) n c=>∃g z e o' c',S b=some (g,z,e)∧v=.slice (some ⟨g,o',none⟩) 0 c'∧n=0∧(c=0→c'=0)∧c'≤maxLen
  | .map (some k)=>∃m:Nat,v=goInt m∧k≤m
  | .func f x y=>∃x' y',v=.func f x' y'∧AR (VD S d) x x'∧AR (VD S d) y y'
  | .agg x=>∃x',v=.agg x'∧AR (VD S d) x x'
  | .tuple x=>∃x',v=.tuple x'∧AR (VD S d) x x'
  | x=>dT x=true∧v=x
def VR (S:bC)(x v:Value):Prop:=∃d,VD S d x v
theorem AR.imp{R U:Value→Value→Prop}{b:Aq}(h:AR R a b)(i:∀x y,R x y→U x y):AR U a b:=⟨h.1,fun k x y hx hy=>i x y (h.2 k x y hx hy)⟩
theorem VD.imp{S S':bC}(U:S.le S'):∀{d d':Nat} {x v:Value},VD S d x v→d≤d'→VD S' d' x v
 | 0,_,_,_,h,_=>h.elim
 | d+1,0,_,_,_,h=>absurd h (by omega)
 | d+1,d'+1,x,v,h,hd=>by
  have ih:∀x y,VD S d x y→VD S' d' x y:=fun x y h=>VD.imp U h (by omega);unfold VD at h ⊢;split at h
  ·obtain⟨g,z,e,h1,h2⟩:=h; exact⟨g,z,e,U _ _ h1,h2⟩
  ·obtain⟨g,z,e,c,h1,h2⟩:=h; exact⟨g,z,e,c,U _ _ h1,h2⟩
  ·obtain⟨g,z,e,o',c',h1,h2⟩:=h; exact⟨g,z,e,o',c',U _ _ h1,h2⟩
  ·exact h
  ·obtain⟨x',y',h1,h2,h3⟩:=h; exact⟨x',y',h1,h2.imp ih,h3.imp ih⟩
  iterate 2
   ·obtain⟨x',h1,h2⟩:=h; exact⟨x',h1,h2.imp ih⟩
  ·exact h
theorem VR.mono{S S':bC}{x:Value}(h:VR S x v)(U:S.le S'):VR S' x v:=h.elim fun d h=>⟨d,h.imp U (Nat.le_refl d)⟩
theorem AR.mono{S S':bC}{b:Aq}(h:AR (VR S) a b)(U:S.le S'):AR (VR S') a b:=h.imp fun _ _ h=>h.mono U
section
variable {S:bC}{x v:Value}
theorem VR.sc(U:dT x=true)(h:VR S x v):v=x:=by
 obtain⟨d,h⟩:=h;cases d with
 | zero=>exact h.elim
 | succ d =>unfold VD at h;split at h<;>first|exact h.2|(simp[dT] at U)
theorem VR.fl(U:rX x=true)(h:VR S x v):v=x:=by
 unfold rX at U;split at U
 ·next cs =>
  obtain⟨d,h⟩:=h;match d,h with
  | 0,h=>exact h.elim
  | d+1,h =>
   unfold VD at h;obtain⟨x',rfl,h1,h2⟩:=h;congr 1;apply Array.ext_getElem?;intro i;by_cases hi:i<cs.size
   ·have e1:cs[i]?=some cs[i]:=Array.getElem?_eq_getElem hi;have e2:x'[i]?=some (x'[i]'(by omega)):=Array.getElem?_eq_getElem (by omega);have hc:dT cs[i]=true:=List.all_eq_true.1 U _ (by simp);rw[e1,e2,VR.sc hc ⟨d,h2 i _ _ e1 e2⟩]
   ·rw[Array.getElem?_eq_none (by omega),Array.getElem?_eq_none (by omega)]
 ·exact VR.sc U h
theorem VR.dr(U:dT x=true):VR S x x:=by refine⟨1,?_⟩;unfold VD;split<;>first|exact⟨U,rfl⟩|(simp[dT] at U)
theorem VR.mp{p:Option Nat}(h:VR S (.map p) v):∃k m:Nat,p=some k∧v=goInt m∧k≤m:=by
 obtain⟨d,h⟩:=h;cases d with
 | zero=>exact h.elim
 | succ d=>cases p with
  | none=>exact absurd h.1 (by simp[dT])
  | some k=>obtain⟨m,h1,h2⟩:=h; exact⟨k,m,rfl,h1,h2⟩
theorem VR.ptr(h:VR S (.pointer (some ⟨b,off,none⟩)) v):∃g z e,S b=some (g,z,e)∧v=.pointer (some ⟨g,off,none⟩):=by
 obtain⟨d,h⟩:=h;cases d with
 | zero=>exact h.elim
 | succ d=>exact h
theorem VR.gl(h:S b=some (g,z,e)):VR S (.pointer (some ⟨b,off,none⟩)) (.pointer (some ⟨g,off,none⟩)):=⟨1,g,z,e,h,rfl⟩
theorem VR.iu{p:Addr}(h:VR S (.pointer (some p)) v):p.spot=none:=by
 obtain⟨d,h⟩:=h;obtain⟨b,off,sp⟩:=p;cases sp with
 | none=>rfl
 | some q=>cases d with
  | zero=>exact h.elim
  | succ d=>exact absurd h.1 (by simp[dT])
theorem VR.sl(h:VR S (.slice (some ⟨b,off,none⟩) n c) v):∃g z e c',S b=some (g,z,e)∧v=.slice (some ⟨g,off,none⟩) n c'∧n≤c∧c≤c'∧c'≤maxLen∧off+c'*e=z:=by
 obtain⟨d,h⟩:=h;cases d with
 | zero=>exact h.elim
 | succ d=>exact h
theorem VR.Cg(h:S b=some (g,z,e))(h1:n≤c)(h2:c≤c')(h3:c'≤maxLen)(U:off+c'*e=z):VR S (.slice (some ⟨b,off,none⟩) n c) (.slice (some ⟨g,off,none⟩) n c'):=⟨1,g,z,e,c',h,rfl,h1,h2,h3,U⟩
theorem VR.jR{ad:Addr}(h:VR S (.slice (some ad) n c) v):∃g z e o' c',S ad.block=some (g,z,e)∧v=.slice (some ⟨g,o',none⟩) n c'∧n≤c'∧c'≤maxLen∧(n=0∨o'=ad.off):=by
 obtain⟨d,h⟩:=h;obtain⟨b,off,sp⟩:=ad;cases d with
 | zero=>exact h.elim
 | succ d =>
  cases sp with
  | none=>obtain⟨g,z,e,c',h1,h2,h3,h4,U,_⟩:=h; exact⟨g,z,e,off,c',h1,h2,by omega,U,.inr rfl⟩
  | some q=>obtain⟨g,z,e,o',c',h1,h2,h3,h4,U⟩:=h; subst h3; exact⟨g,z,e,o',c',h1,h2,by omega,U,.inl rfl⟩
theorem VR.Kj{q}(h:VR S (.slice (some ⟨b,off,some q⟩) n c) v):∃g z e o' c',S b=some (g,z,e)∧v=.slice (some ⟨g,o',none⟩) 0 c'∧n=0∧(c=0→c'=0)∧c'≤maxLen:=by
 obtain⟨d,h⟩:=h;cases d with
 | zero=>exact h.elim
 | succ d=>exact h
theorem VR.Ce{o':Nat}{q}(h:S b=some (g,z,e))(h1:c=0→c'=0)(h2:c'≤maxLen):VR S (.slice (some ⟨b,off,some q⟩) 0 c) (.slice (some ⟨g,o',none⟩) 0 c'):=⟨1,g,z,e,o',c',h,rfl,rfl,h1,h2⟩
theorem VR.fn(h:VR S (.func f p q) v):∃p' q',v=.func f p' q'∧AR (VR S) p p'∧AR (VR S) q q':=by
 obtain⟨d,h⟩:=h;cases d with
 | zero=>exact h.elim
 | succ d=>obtain⟨p',q',h1,h2,h3⟩:=h; exact⟨p',q',h1,h2.imp fun _ _ h=>⟨d,h⟩,h3.imp fun _ _ h=>⟨d,h⟩⟩
theorem VR.ag(h:VR S (.agg p) v):∃p',v=.agg p'∧AR (VR S) p p':=by
 obtain⟨d,h⟩:=h;cases d with
 | zero=>exact h.elim
 | succ d=>obtain⟨p',h1,h2⟩:=h; exact⟨p',h1,h2.imp fun _ _ h=>⟨d,h⟩⟩
theorem VR.tu(h:VR S (.tuple p) v):∃p',v=.tuple p'∧AR (VR S) p p':=by
 obtain⟨d,h⟩:=h;cases d with
 | zero=>exact h.elim
 | succ d=>obtain⟨p',h1,h2⟩:=h; exact⟨p',h1,h2.imp fun _ _ h=>⟨d,h⟩⟩
theorem qf:∀(a b:Vq),(∀(i:Nat) (x y:Value),a[i]?=some x→b[i]?=some y→VR S x y)→∃d,∀(i:Nat) (x y:Value),a[i]?=some x→b[i]?=some y→VD S d x y
 | [],b,_=>⟨0,fun i x y h=>by simp at h⟩
 | x::a,[],_=>⟨0,fun i x y _ h=>by simp at h⟩
 | x::a,y::b,h=>by
  obtain⟨d,hd⟩:=qf a b fun i x y U hy=>h (i+1) x y (by simpa using U) (by simpa using hy);obtain⟨d',Om⟩:=h 0 x y rfl rfl;refine⟨max d d',fun i x' y' U hy=>?_⟩;cases i with
  | zero=>simp at U hy; subst U hy; exact Om.imp (bC.le_refl S) (Nat.le_max_right _ _)
  | succ i=>exact(hd i x' y' (by simpa using U) (by simpa using hy)).imp (bC.le_refl S) (Nat.le_max_left _ _)
theorem AR.vp{b:Aq}(h:AR (VR S) a b):∃d,AR (VD S d) a b:=by obtain⟨d,hd⟩:=qf (S:=S) a.toList b.toList fun i x y hx hy=>h.2 i x y (by simpa using hx) (by simpa using hy);exact⟨d,h.1,fun i x y hx hy=>hd i x y (by simpa using hx) (by simpa using hy)⟩
theorem VR.yv(h:AR (VR S) p p'):VR S (.agg p) (.agg p'):=by obtain⟨d,hd⟩:=h.vp;exact⟨d+1,p',rfl,hd⟩
theorem VR.sa(h:AR (VR S) p p'):VR S (.tuple p) (.tuple p'):=by obtain⟨d,hd⟩:=h.vp;exact⟨d+1,p',rfl,hd⟩
theorem VR.yw(h:AR (VR S) p p')(U:AR (VR S) q q'):VR S (.func f p q) (.func f p' q'):=by obtain⟨d,hd⟩:=h.vp;obtain⟨d',Om⟩:=U.vp;exact⟨max d d'+1,p',q',rfl,hd.imp fun _ _ h=>h.imp (bC.le_refl S) (Nat.le_max_left _ _),Om.imp fun _ _ h=>h.imp (bC.le_refl S) (Nat.le_max_right _ _)⟩
theorem AR.nil:AR (VR S) #[] #[]:=⟨rfl,fun i x y h=>by simp at h⟩
theorem AR.one(h:VR S x v):AR (VR S) #[x] #[v]:=⟨rfl,fun i x' y' U hy=>by
 cases i with
 | zero=>simp at U hy; subst U hy; exact h
 | succ i=>simp at U⟩
theorem AR.append{b:Aq}(h:AR (VR S) a b)(h':AR (VR S) a' b'):AR (VR S) (a++a') (b++b'):=by
 refine⟨by simp[h.1,h'.1],fun i x y hx U=>?_⟩;rw[Array.getElem?_append] at hx U;rw[← h.1] at U;split at hx
 ·rw[if_pos (by assumption)] at U;exact h.2 i x y hx U
 ·rw[if_neg (by assumption)] at U;exact h'.2 _ x y hx U
theorem AR.replicate(n:Nat)(hx:VR S x v):AR (VR S) (Array.replicate n x) (Array.replicate n v):=by refine⟨by simp,fun i a b U hb=>?_⟩;simp[Array.getElem?_replicate] at U hb;rw[← U.2,← hb.2];exact hx
theorem VR.undef:VR S undef undef:=VR.sa AR.nil
theorem VR.cells(h:VR S x v):AR (VR S) x.cells v.cells:=by
 cases x with
 | agg p=>obtain⟨p',rfl,U⟩:=h.ag; exact U
 | tuple p=>obtain⟨p',rfl,U⟩:=h.tu; exact AR.one (VR.sa U)
 | map p=>obtain⟨k,m,rfl,rfl,U⟩:=h.mp; exact AR.one h
 | func f p q=>obtain⟨p',q',rfl,h1,h2⟩:=h.fn; exact AR.one (VR.yw h1 h2)
 | pointer p =>
  cases p with
  | none=>rw[h.sc rfl]; exact AR.one (VR.dr rfl)
  | some p =>
   obtain⟨b,off,sp⟩:=p
   have:=h.iu;simp at this;subst this;obtain⟨g,z,e,h1,rfl⟩:=h.ptr;exact AR.one (VR.gl h1)
 | slice p n c =>
  cases p with
  | none=>rw[h.sc rfl]; exact AR.one (VR.dr rfl)
  | some p =>obtain⟨g,z,e,o',c',h1,rfl,h2⟩:=h.jR;exact AR.one h
 | bool b=>rw[h.sc rfl]; exact AR.one (VR.dr rfl)
 | int k n=>rw[h.sc rfl]; exact AR.one (VR.dr rfl)
 | string s=>rw[h.sc rfl]; exact AR.one (VR.dr rfl)
 | nilFunc=>rw[h.sc rfl]; exact AR.one (VR.dr rfl)
 | nilIface=>rw[h.sc rfl]; exact AR.one (VR.dr rfl)
 | _=>obtain⟨d,h⟩:=h; cases d with
  | zero=>exact h.elim
  | succ d=>exact absurd h.1 (by simp[dT])
theorem VR.Ci(h:VR S x v):v.oneCell'=x.oneCell':=by
 cases x with
 | agg p=>obtain⟨p',rfl,U⟩:=h.ag; rfl
 | tuple p=>obtain⟨p',rfl,U⟩:=h.tu; rfl
 | map p=>obtain⟨k,m,rfl,rfl,U⟩:=h.mp; rfl
 | func f p q=>obtain⟨p',q',rfl,h1,h2⟩:=h.fn; rfl
 | pointer p =>
  cases p with
  | none=>rw[h.sc rfl]
  | some p =>
   obtain⟨b,off,sp⟩:=p
   have:=h.iu;simp at this;subst this;obtain⟨g,z,e,h1,rfl⟩:=h.ptr;rfl
 | slice p n c =>
  cases p with
  | none=>rw[h.sc rfl]
  | some p=>obtain⟨g,z,e,o',c',h1,rfl,h2⟩:=h.jR; rfl
 | bool b=>rw[h.sc rfl]
 | int k n=>rw[h.sc rfl]
 | string s=>rw[h.sc rfl]
 | nilFunc=>rw[h.sc rfl]
 | nilIface=>rw[h.sc rfl]
 | _=>obtain⟨d,h⟩:=h; cases d with
  | zero=>exact h.elim
  | succ d=>exact absurd h.1 (by simp[dT])
end
def OR (S:bC)(z:Nat):Obj→Obj→Prop
 | .cells cs t fz,o'=>∃gU,o'=.cells gU t∧gU.size=z∧(cs.size≤z∧(fz=(0,0)→cs.size=z))∧∀(i:Nat) (x y:Value),cs[i]?=some x→gU[i]?=some y→VR S x y
 | .stringIter s p,o'=>o'=.stringIter s p
 | _,_=>False
theorem OR.mono{S S':bC}(hS:S.le S'){o:Obj}(h:OR S z o o'):OR S' z o o':=by
 unfold OR at h ⊢;split at h
 ·obtain⟨U,h1,h2,h3,h4⟩:=h; exact⟨U,h1,h2,h3,fun i x y hx hy=>(h4 i x y hx hy).mono hS⟩
 ·exact h
 ·exact h.elim
structure eK(P:Program)(KT:TypeId→Prop)(An:bC)(S:bC)(s:AS)(l:List (Nat × Obj)):Prop where
 live:∀b o,s.get b=some o→∃g z e o',S b=some (g,z,e)∧(g,o')∈l∧OR S z o o'∧∀cs t fz,o=.cells cs t fz→bI P t=some e∧¬KT t
 inj:∀b b' o o' x x',s.get b=some o→s.get b'=some o'→S b=some x→S b'=some x'→x.1=x'.1→b=b'
 lt:∀b o,s.get b=some o→b<s.nx
 an:An.le S
section
variable {P:Program}{KT:TypeId→Prop}{An:bC}{S S':bC}{s:AS}{l:Hq}
def bC.put(S:bC)(b:Nat)(x:Nat × Nat × Nat):bC:=fun k=>if k=b then some x else S k
theorem bC.jP{x:Nat × Nat × Nat}(h:S b=none):S.le (S.put b x):=fun k y U=>by unfold bC.put;rw[if_neg (by rintro rfl; rw[h] at U; cases U)];exact U
theorem bC.iv{x:Nat × Nat × Nat}:S.put b x b=some x:=by simp[bC.put]
theorem eK.grown(h:eK P KT An S s l){o:Obj}(hn:S s.nx=none)(hg:∀o,(g,o)∉l)(ho:OR (S.put s.nx (g,z,e)) z o o')(ht:∀cs t fz,o=.cells cs t fz→bI P t=some e∧¬KT t):eK P KT An (S.put s.nx (g,z,e)) (s.add o) ((g,o')::l) where
 live b ob hb:=by
  rw[AS.aH] at hb
  split at hb
  ·
   next e' =>
   subst e'
   cases hb
   exact⟨g,z,e,o',bC.iv,List.mem_cons_self ..,ho,ht⟩
  ·
   obtain⟨g',z',e',zm,h1,h2,h3,h4⟩:=h.live b ob hb
   exact⟨g',z',e',zm,bC.jP hn _ _ h1,List.mem_cons_of_mem _ h2,h3.mono (bC.jP hn),h4⟩
 inj b b' o1 o2 x x' hb jA hx U he:=by
  rw[AS.aH] at hb jA
  unfold bC.put at hx U
  split at hb<;>split at jA
  ·
   omega
  ·
   next e1 e2 =>
   rw[if_pos e1] at hx
   rw[if_neg e2] at U
   cases hx
   obtain⟨g',z',e',zm,h1,h2,_⟩:=h.live b' o2 jA
   rw[h1] at U
   cases U
   simp at he
   subst he
   exact absurd h2 (hg _)
  ·
   next e1 e2 =>
   rw[if_neg e1] at hx
   rw[if_pos e2] at U
   cases U
   obtain⟨g',z',e',zm,h1,h2,_⟩:=h.live b o1 hb
   rw[h1] at hx
   cases hx
   simp at he
   subst he
   exact absurd h2 (hg _)
  ·
   next e1 e2 =>
   rw[if_neg e1] at hx
   rw[if_neg e2] at U
   exact h.inj b b' o1 o2 x x' hb jA hx U he
 lt b ob hb:=by
  rw[AS.aH] at hb
  split at hb
  ·
   next e'=>simp[e']
  ·
   have:=h.lt b ob hb; simp; omega
 an:=bC.le_trans h.an (bC.jP hn)
end
end Go.Proofs.YtgcaionclkbehaaGreatDoor
