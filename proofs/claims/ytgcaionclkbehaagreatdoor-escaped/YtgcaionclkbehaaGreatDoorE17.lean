import Derived.Test.YtgcaionclkbehaaGreatDoorBack
set_option linter.all false
set_option maxHeartbeats 2000000
set_option maxRecDepth 100000
namespace Go.Proofs.YtgcaionclkbehaaGreatDoor
open Go.Conc Go.RowKit Go.Lib Tryz
variable {args args' cap rG cr cs tm:Aq}{t:TypeId}{e:Exit}{b bp c0 n z1:Nat}{A F Fw:World→Prop}{I:Nat→World→Prop}{f fr:FuncId}{l:Iq}{pr:Prim}{aJ:Func}{c:Code}{iF:TL}{w:World}
structure He(w₀:World)(pT:List Obj)(w:World):Prop where
 tape:w.tape=w₀.tape
 os:w.os=w₀.os
 output:w.output=w₀.output
 old:∀b,b<w₀.heap.size→w.heap[b]?=w₀.heap[b]?
 size:w.heap.size=w₀.heap.size+pT.length
 blocks:∀j o,pT[j]?=some o→w.heap[w₀.heap.size+j]?=some o
section
variable {w₀ w aB:World}{pT:List Obj}{Post:Value→World→Prop}{S:Nat→Prop}
theorem He.rely(h:He w₀ pT w)(r:AtRel w aB):He w₀ pT aB:=by obtain⟨e,rfl⟩:=r;exact⟨h.tape,h.os,h.output,h.old,h.size,h.blocks⟩
theorem He.alloc(h:He w₀ pT w)(o:Obj):He w₀ (pT++[o]) (w.alloc o):=by
 have hs:=h.size;refine⟨h.tape,h.os,h.output,fun b hb=>(Below.heap_alloc _ _ _ (by omega)).trans (h.old b hb),by simp[World.size_alloc,hs]; omega,fun j x hj=>?_⟩;rcases Nat.lt_or_ge j pT.length with h1|h1
 ·rw[List.getElem?_append_left h1] at hj;exact(Below.heap_alloc _ _ _ (by omega)).trans (h.blocks j x hj)
 ·rw[List.getElem?_append_right h1] at hj;obtain⟨a0,rfl⟩:j-pT.length=0∧o=x:=by
   cases U:j-pT.length with
   | zero=>rw[U] at hj; simp at hj; exact⟨rfl,hj⟩
   | succ m=>rw[U] at hj; simp at hj
  have:w₀.heap.size+j=w.heap.size:=by omega
  rw[this];exact heap_alloc_new w o
theorem He.set(h:He w₀ pT w){j o:Nat}(U:pT[j]?=some (.cells cs t))(v:Value):He w₀ (pT.set j (.cells (cs.setIfInBounds o v) t)) (w.setCell ⟨w₀.heap.size+j,o,none⟩ v):=by
 refine⟨h.tape,h.os,h.output,fun b hb=>(HC.gd w _ (by omega)).trans (h.old b hb),by simpa[World.setCell] using h.size,fun i x hi=>?_⟩;by_cases e:i=j
 ·subst e;have hl:=(List.getElem?_eq_some_iff.1 U).1;rw[List.getElem?_set_self hl] at hi;obtain rfl:=Option.some.inj hi;exact cZ (h.blocks i _ U) v
 ·rw[List.getElem?_set_ne (Ne.symm e)] at hi;exact(HC.gd w _ (by omega)).trans (h.blocks i x hi)
theorem Af{e:Event}{ad:Addr}(hS:∀b,S b→b<w₀.heap.size)(he:e.loc=.cell ad)(hb:w₀.heap.size≤ad.block):EvS S e:=by
 obtain⟨l,wr,sy⟩:=e;obtain rfl:l=.cell ad:=he;refine⟨fun x hx a' U hs=>?_,by simp,by simp⟩;have hl:x.loc=.cell ad:=by cases wr<;>cases sy<;>(simp[MemAct.ofEvent,MemAct.touch?] at hx; rw[← hx])
 rw[hl] at U;cases U
 have:=hS _ hs;omega
theorem BL{v:Value}(h:w.heap[b]?=some (.cells #[v] t)):w.frozen? ⟨b,0,none⟩=false:=by simp[World.frozen?,h]
theorem fN(w:World):DZ S w w #[]:=fun e U=>by simp at U
def tO:Obj:=.chan 0 #[] false 0 0 false
end
section
variable {w₀ w aB:World}{Post:Value→World→Prop}{S:Nat→Prop}{N Pb:Nat}{val nv:Value}{tC:TypeId}
def oE(N:Nat)(val:Value)(tC:TypeId)(nv:Value):List Obj:=[.cells #[val] tC,.cells #[nv] 110,tO,.cells #[.chan (some (N+2))] 158,tO,.cells #[.chan (some (N+4))] 159,.cells #[.int .u64 4294967296,.int .u32 0] 169,.cells #[.pointer (some ⟨N+6,0,none⟩)] 240,.cells #[fv N] 1]
structure wT(w₀:World)(N Pb:Nat)(S:Nat→Prop):Prop where
 size:w₀.heap.size=N
 plo:Pb<N∨Pb=N+1
 sh:∀b,S b→b<N∧b≠Pb
def fJ(N:Nat)(Shun:Loc→Prop)(l:Loc):Prop:=Shun l∨∃ad:Addr,l=.cell ad∧ad.block=N+6
def SE (N:Nat)(S:Nat→Prop)(b:Nat):Prop:=S b∨b=N+6
structure Client(K:Cfg)(N:Nat)(l:List Int)(f:FuncId)(cap:Array Value)(A F:World→Prop)(I:Nat→World→Prop):Prop where
 hA:∀w aB,RM K w aB→A w→A aB
 Of:∀w cs,A w→A (w.alloc (.cells cs 175))
 next:∀[Go.ConcR.Payload] [Go.ConcX.Payload] [Go.ConcX.Shy K.Wg K.C] (AW:Goroutine→World→Prop) (Rb:Nat) (w:World),N≤Rb→A w→HW K (nN Rb lT) w Rb lT lT [] false w→ew prog (XM K AW) f (#[.pointer (some ⟨Rb,0,none⟩)]++cap) (.front (V l)) w (fun i' _ w'=>∃Ex w₀ v' Kz oL IZ,Kz++oL=l∧En oL IZ i'∧HW K Ex w₀ Rb v' v' Kz IZ w'∧(∀b,nN Rb v' b→N≤b)∧I Rb w')
 hI1:∀Rb w aB,RM K w aB→I Rb w→I Rb aB
 hI2:∀Rb Ex w₀ v tk en w w',HW K Ex w₀ Rb v v tk en w→(∀b,nN Rb v b→N≤b)→Kept (cH K) (gx K) (nN Rb v) w w'→I Rb w→I Rb w'
 hIF:∀Rb w,I Rb w→F w
theorem Pw(H:wT w₀ N Pb S){Shun:Loc→Prop}(U:∀l,Shun l→∃ad:Addr,l=.cell ad∧S ad.block):Cfg.Fit (aC prog N Pb (fJ N Shun) val (N+9) (fun _=>False)):=by
 have hp:=H.plo;have hs:∀ad:Addr,fJ N Shun (.cell ad)→(ad.block<N∧ad.block≠Pb)∨ad.block=N+6:=by
  rintro ad (h|⟨a,e,h⟩)
  ·obtain⟨a,e,h⟩:=U _ h;cases e;exact .inl (H.sh _ h)
  ·cases e; exact .inr h
 constructor
 ·show N+2≠N+4; omega
 ·show N+2≠N+6; omega
 ·show N+4≠N+6; omega
 ·show ¬(N+2=N); omega
 ·show ¬(N+4=N); omega
 ·show ¬(N+6=N); omega
 ·show N+2<N+9; omega
 ·show N+4<N+9; omega
 ·show N+6<N+9; omega
 ·show ¬(N+2=N+1∨N+2=N+3∨N+2=N+5∨N+2=N+7∨N+2=N+8∨N+2=Pb); omega
 ·show ¬(N+4=N+1∨N+4=N+3∨N+4=N+5∨N+4=N+7∨N+4=N+8∨N+4=Pb); omega
 ·show ¬(N+6=N+1∨N+6=N+3∨N+6=N+5∨N+6=N+7∨N+6=N+8∨N+6=Pb); omega
 ·intro b h;have h':b=N+1∨b=N+3∨b=N+5∨b=N+7∨b=N+8∨b=Pb:=h;show b<N+9; omega
 ·intro b h;have h':b=N:=h;show b<N+9; omega
 ·intro b h1 h2;have PC:b=N:=h1;have h2':b=N+1∨b=N+3∨b=N+5∨b=N+7∨b=N+8∨b=Pb:=h2;omega
 ·exact rfl
 ·exact fun a h=>.inr ⟨a,rfl,h⟩
 ·intro l h;have:∃a,l=.cell a:=by
   rcases h with h|⟨a,e,_⟩
   ·obtain⟨a,e,_⟩:=U _ h; exact⟨a,e⟩
   ·exact⟨a,e⟩
  obtain⟨a,rfl⟩:=this;refine⟨a,rfl,?_⟩;show a.block<N+9;rcases hs a h with z|z<;>omega
 ·intro a h hh;have h':a.block=N:=h;rcases hs a hh with z|z<;>omega
 ·intro a h hh;have h':a.block=N+1∨a.block=N+3∨a.block=N+5∨a.block=N+7∨a.block=N+8∨a.block=Pb:=h;rcases hs a hh with z|z<;>omega
 ·show N+6<N+9; omega
 ·show N<N+9; omega
theorem L8(H:wT w₀ N Pb S)(hF:He w₀ (oE N val tC nv) w)(hn:l.length≤1000000){b:Frame}{k:List Item}{cs:List Frame}(hb:b.fn=61)(hk:b.kind≠.early){g:Goroutine}(hs:g.status=.running)
 (a5:∀e,stepG prog true g (w.at e)=.spawn (G ((base 111).at ⟨tm,[]⟩ [.inRegion (Rq Tryz.f111.body) []]) (b.at ⟨t47 N nv (.func (.func f) #[] cap) undef,[]⟩ (.inRegion (eW Tryz.f61.body 4) [1]::.code (.seq (.region 5 (eW Tryz.f61.body 5) false) (.seq (.region 6 (eW Tryz.f61.body 6) false) (.seq (.region 7 (eW Tryz.f61.body 7) false) (.region 8 (eW Tryz.f61.body 8) false))))::k)::cs)) (born prog (jK N)) (w.at e) #[])
 (a2:∀(Shun:Loc→Prop) (e:Nat) [Go.ConcR.Payload] [Go.ConcX.Payload],XK (aC prog N Pb (fJ N Shun) val (N+9) (fun _=>False)) (true,V l) (born prog (jK N)) (w.at e))
 (a4:∀Shun:Loc→Prop,(∀l,Shun l→∃ad:Addr,l=.cell ad∧S ad.block)→Client (aC prog N Pb (fJ N Shun) val (N+9) (fun _=>False)) N l f cap A F I)(a3:∀e,A (w.at e))(U:∀w aB,Go.ConcX.Aside2 N (N+6) w aB→F w→F aB)
 (a1:∀(a:Act) (w:World),a.defers=[]→F w→w.heap[N+6]?=some (.cells #[.int .u64 0,.int .u32 0] 169)→ZI prog Post 0 (SE N S) (G (b.at (a.put (some 21) (.tuple #[])) (.inRegion (eW Tryz.f61.body 8) []::k)) cs) w) :
  ZI prog Post 0 S g w:=by
 letI IR:Go.ConcR.Payload:=⟨tC⟩;letI IX:Go.ConcX.Payload:=⟨tC⟩;refine ZI.fork hs a5 fun e Shun UH=>?_;have tg:=Pw (val:=val) H UH;have hC:=a4 Shun UH;obtain rfl:=H.size;have mw:He w₀ (oE w₀.heap.size val tC nv) (w.at e):=hF.rely ⟨e,rfl⟩;refine⟨aC prog w₀.heap.size Pb (fJ w₀.heap.size Shun) val (w₀.heap.size+9) (fun _=>False),IX,IR,yQ _ tg (ZI prog Post 0 (SE w₀.heap.size S)),
  @wO (aC prog w₀.heap.size Pb (fJ w₀.heap.size Shun) val (w₀.heap.size+9) (fun _=>False)) IX (yQ _ tg (ZI prog Post 0 (SE w₀.heap.size S))) F b k cs,fun _ _=>True,V l,fun b=>¬SE w₀.heap.size S b,w₀.heap.size+7,?_⟩;have kH:(w.at e).heap.size=w₀.heap.size+9:=mw.size;constructor
 ·rfl
 ·exact tg
 ·rfl
 ·exact Kf _ tg _
 ·rintro g w ⟨a,_,T,rfl,_⟩; rfl
 ·rintro L hL g w ⟨a,a0,h⟩;obtain⟨m,hm⟩:=@Go.ConcX.Gen.waitRound IX link (fun _=>False) (w₀.heap.size+6) w₀.heap.size L (yQ _ tg (ZI prog Post 0 (SE w₀.heap.size S))) [val] (fun _ _=>True) F b a (eW Tryz.f61.body 8) 0 [] k cs 0 prog sK (by omega) (fun _ _ r h=>U _ _ r h) (fun w UB hW _ aB aF=>⟨rfl,ZI.closed.rely (a1 a w a0 UB hW) aF⟩) g w h;exact⟨m,Go.ConcN.goes_mono (fun g w h=>@CO IR IX (aC prog w₀.heap.size Pb (fJ w₀.heap.size Shun) val (w₀.heap.size+9) (fun _=>False)) (yQ _ tg (ZI prog Post 0 (SE w₀.heap.size S))) L _ _ _ (fun _ _ h=>⟨a,a0,h⟩) g w h) hm⟩
 ·exact fun l hl=>.inl hl
 ·intro l hl;obtain⟨ad,rfl,eH⟩:=tg.jo l hl;rcases hl with h|⟨a,e,h⟩
  ·obtain⟨a,e,h⟩:=UH _ h;cases e;exact⟨ad,rfl,by have:=(H.sh _ h).1; omega,fun hn=>hn (.inl h)⟩
  ·cases e;exact⟨ad,rfl,by omega,fun hn=>hn (.inr h)⟩
 ·exact a2 Shun e
 ·exact @M6 w₀.heap.size Pb _ _ _ _ _ IR IX (yQ _ tg (ZI prog Post 0 (SE w₀.heap.size S))) A F I b k cs tm f cap nv tg hb hk l hn hC.hA hC.Of (@Client.next _ _ _ _ _ _ _ _ hC IR IX (yQ _ tg (ZI prog Post 0 (SE w₀.heap.size S)))) hC.hI1 hC.hI2 hC.hIF U ⟨mw.blocks 3 _ rfl,mw.blocks 5 _ rfl,by omega,a3 e⟩
 ·show w₀.heap.size+9≤_; omega
 ·exact mw.blocks 6 _ rfl
 ·exact mw.blocks 2 _ rfl
 ·exact mw.blocks 4 _ rfl
 ·exact⟨_,mw.blocks 0 _ rfl,rfl⟩
 ·exact fun a w h=>h _
end
section
variable {w₀ w aB:World}{Post:Value→World→Prop}{S:Nat→Prop}
def uy(N:Nat)(val:Value)(tC:TypeId)(nv:Value):List Obj:=[.cells #[val] tC,.cells #[nv] 110,tO,.cells #[.chan (some (N+2))] 158,tO,.cells #[.chan (some (N+4))] 159,.cells #[.int .u64 0,.int .u32 0] 169]
theorem D8(val nx:Value)(fr:FuncId)(cr:Aq)(tC:TypeId)(U:He w₀ [.cells #[val] tC] w)(hS:∀b,S b→b<w₀.heap.size)(Q:dK (Nat→Prop))(c:Code)
 (a3:∀w,He w₀ (uy w₀.heap.size val tC (.func (.func fr) #[] cr)) w→fx (ZI prog Post 0) 61 c S Q ⟨#[(.func (.func fr) #[] cr),nx,.pointer (sq (w₀.heap.size+1)),undef,.pointer (sq (w₀.heap.size+3)),.pointer (sq (w₀.heap.size+5)),.pointer (sq (w₀.heap.size+6)),undef,.chan (some (w₀.heap.size+2)),.chan (some (w₀.heap.size+4)),undef,undef,undef,undef,undef,undef,undef,undef,undef,undef,undef,undef],[]⟩ w) :
  ∀r0 r1 r2 r3,Tryz.f61.body=some (.seq r0 (.seq r1 (.seq r2 (.seq r3 c))))→fx (ZI prog Post 0) 61 (.seq r0 (.seq r1 (.seq r2 (.seq r3 c)))) S Q ⟨#[(.func (.func fr) #[] cr),nx,undef,undef,undef,undef,undef,undef,undef,undef,undef,undef,undef,undef,undef,undef,undef,undef,undef,undef,undef,undef],[]⟩ w:=by
 intro r0 r1 r2 r3 a2;simp only[Tryz.f61,Option.some.injEq,Code.seq.injEq] at a2;obtain⟨rfl,rfl,rfl,rfl,rfl⟩:=a2;have C:aV prog true (fun _:Nat→Prop=>AtRel) DZ (ZI prog Post 0):=ZI.closed;have T:∀S,Terms AtRel (DZ S):=sJ;obtain⟨i1,Yj,my⟩:=Option.map_eq_some_iff.1 (show(prog.info? 21).map (·.bytes)=some 4 by kernel_rfl);obtain⟨i2,Yk,iN⟩:=Option.map_eq_some_iff.1 (show(prog.info? 160).map (·.bytes)=some 0 by kernel_rfl);have mc1:=fun w=>run_makeChan (P:=prog) (w:=w) underlying158 Yj .i64 0 (by decide) (by simp[my]);have mc2:=fun w=>run_makeChan (P:=prog) (w:=w) underlying159 Yk .i64 0 (by decide) (by simp[iN]);have me1:=fun w es=>events_makeChan (P:=prog) (w:=w) underlying158 Yj .i64 0 (by decide) (by simp[my]) es;have me2:=fun w es=>events_makeChan (P:=prog) (w:=w) underlying159 Yk .i64 0 (by decide) (by simp[iN]) es;simp only[Int.ofNat_zero,Int.cast_ofNat_Int] at mc1 mc2 me1 me2;refine bS C T ?_;refine aP C T ?_;simp only[ia,Nat.reduceAdd];refine aD C rfl (by rfl) fun _ hR Kx a0=>?_;replace U:=He.rely U hR;clear hR;go_simp;try (unfold stored; go_simp)
 refine a0 _ _ ⟨?_,?_⟩
 ·intro e he;have hm:=mem_listed he;simp[go_sem, *] at hm
 clear a0 Kx;try walk_nrm
 have a1:=U.size;simp only[List.length_cons,List.length_nil,Nat.reduceAdd,Nat.add_zero,Nat.zero_add] at a1;simp only[a1];clear a1;replace U:=U.alloc (.cells #[(.func (.func fr) #[] cr)] 110);simp only[List.cons_append,List.nil_append] at U;refine aS C T ?_;show fx _ _ _ _ _ _ _;refine bS C T ?_;refine aP C T ?_;simp only[ia,Nat.reduceAdd];refine aD C rfl (by rfl) fun _ hR Kx a0=>?_;replace U:=He.rely U hR;clear hR;go_simp;try (unfold stored; go_simp)
 refine a0 _ _ ⟨?_,?_⟩
 ·intro e he;have hm:=mem_listed he;simp[go_sem, *] at hm
 clear a0 Kx;try walk_nrm
 have a1:=U.size;simp only[List.length_cons,List.length_nil,Nat.reduceAdd,Nat.add_zero,Nat.zero_add] at a1;simp only[a1];clear a1;replace U:=U.alloc (tO);simp only[List.cons_append,List.nil_append] at U;refine aD C rfl (by rfl) fun _ hR Kx a0=>?_;replace U:=He.rely U hR;clear hR;go_simp;try (unfold stored; go_simp)
 refine a0 _ _ ⟨?_,?_⟩
 ·intro e he;have hm:=mem_listed he;simp[go_sem, *] at hm
 clear a0 Kx;try walk_nrm
 have a1:=U.size;simp only[List.length_cons,List.length_nil,Nat.reduceAdd,Nat.add_zero,Nat.zero_add] at a1;simp only[a1];clear a1;replace U:=U.alloc (.cells #[.chan none] 158);simp only[List.cons_append,List.nil_append] at U;refine aD C rfl (by rfl) fun _ hR Kx a0=>?_;replace U:=He.rely U hR;clear hR;have hb:=U.blocks 3 _ rfl;have hc:=cell1 hb;have wI:World.frozen? _ ⟨w₀.heap.size+3,0,none⟩=false:=BL hb;go_simp;try (unfold stored; go_simp)
 refine a0 _ _ ⟨?_,?_⟩
 ·intro e he;have hm:=mem_listed he;simp[go_sem, *] at hm;subst hm;exact Af (w₀:=w₀) hS rfl (by simp)
 clear a0 Kx;try walk_nrm
 clear hb hc wI;replace U:=U.set (j:=3) (o:=0) rfl (.chan (some (w₀.heap.size+2)));simp only[List.set,List.setIfInBounds_toArray] at U;refine aS C T ?_;show fx _ _ _ _ _ _ _;refine bS C T ?_;refine aP C T ?_;simp only[ia,Nat.reduceAdd];refine aD C rfl (by rfl) fun _ hR Kx a0=>?_;replace U:=He.rely U hR;clear hR;go_simp;try (unfold stored; go_simp)
 refine a0 _ _ ⟨?_,?_⟩
 ·intro e he;have hm:=mem_listed he;simp[go_sem, *] at hm
 clear a0 Kx;try walk_nrm
 have a1:=U.size;simp only[List.length_cons,List.length_nil,Nat.reduceAdd,Nat.add_zero,Nat.zero_add] at a1;simp only[a1];clear a1;replace U:=U.alloc (tO);simp only[List.cons_append,List.nil_append] at U;refine aD C rfl (by rfl) fun _ hR Kx a0=>?_;replace U:=He.rely U hR;clear hR;go_simp;try (unfold stored; go_simp)
 refine a0 _ _ ⟨?_,?_⟩
 ·intro e he;have hm:=mem_listed he;simp[go_sem, *] at hm
 clear a0 Kx;try walk_nrm
 have a1:=U.size;simp only[List.length_cons,List.length_nil,Nat.reduceAdd,Nat.add_zero,Nat.zero_add] at a1;simp only[a1];clear a1;replace U:=U.alloc (.cells #[.chan none] 159);simp only[List.cons_append,List.nil_append] at U;refine aD C rfl (by rfl) fun _ hR Kx a0=>?_;replace U:=He.rely U hR;clear hR;have hb:=U.blocks 5 _ rfl;have hc:=cell1 hb;have wI:World.frozen? _ ⟨w₀.heap.size+5,0,none⟩=false:=BL hb;go_simp;try (unfold stored; go_simp)
 refine a0 _ _ ⟨?_,?_⟩
 ·intro e he;have hm:=mem_listed he;simp[go_sem, *] at hm;subst hm;exact Af (w₀:=w₀) hS rfl (by simp)
 clear a0 Kx;try walk_nrm
 clear hb hc wI;replace U:=U.set (j:=5) (o:=0) rfl (.chan (some (w₀.heap.size+4)));simp only[List.set,List.setIfInBounds_toArray] at U;refine aS C T ?_;show fx _ _ _ _ _ _ _;refine bS C T ?_;refine aP C T ?_;simp only[ia,Nat.reduceAdd];refine aD C rfl (by rfl) fun _ hR Kx a0=>?_;replace U:=He.rely U hR;clear hR;go_simp;try (unfold stored; go_simp)
 refine a0 _ _ ⟨?_,?_⟩
 ·intro e he;have hm:=mem_listed he;simp[go_sem, *] at hm
 clear a0 Kx;try walk_nrm
 have a1:=U.size;simp only[List.length_cons,List.length_nil,Nat.reduceAdd,Nat.add_zero,Nat.zero_add] at a1;simp only[a1];clear a1;replace U:=U.alloc (.cells #[.int .u64 0,.int .u32 0] 169);simp only[List.cons_append,List.nil_append] at U;refine aS C T ?_;show fx _ _ _ _ _ _ _;exact a3 _ U
end
section
variable {w₀ w aB:World}{Post:Value→World→Prop}{S:Nat→Prop}{N Pb:Nat}{val:Value}{tC:TypeId}
theorem G1(H:wT w₀ N Pb S)(hF:He w₀ (uy N val tC (.func (.func fr) #[] cr)) w)(hn:l.length≤1000000){Q:dK (Nat→Prop)}
 (a1:∀(Shun:Loc→Prop) (w:World) [Go.ConcR.Payload] [Go.ConcX.Payload],He w₀ (oE N val tC (.func (.func fr) #[] cr)) w→XK (aC prog N Pb (fJ N Shun) val (N+9) (fun _=>False)) (true,V l) (born prog (jK N)) w)
 (a5:∀Shun:Loc→Prop,(∀l,Shun l→∃ad:Addr,l=.cell ad∧S ad.block)→Client (aC prog N Pb (fJ N Shun) val (N+9) (fun _=>False)) N l f cap A F I)(a3:∀w,He w₀ (oE N val tC (.func (.func fr) #[] cr)) w→A w)(a4:∀w aB,Go.ConcX.Aside2 N (N+6) w aB→F w→F aB)
 (hq:∀(a:Act) (w:World),a.defers=[]→F w→w.heap[N+6]?=some (.cells #[.int .u64 0,.int .u32 0] 169)→Q (SE N S) .normal a w) :
  fx (ZI prog Post 0) 61 (qe Tryz.f61.body) S Q ⟨#[(.func (.func fr) #[] cr),(.func (.func f) #[] cap),.pointer (sq (N+1)),undef,.pointer (sq (N+3)),.pointer (sq (N+5)),.pointer (sq (N+6)),undef,.chan (some (N+2)),.chan (some (N+4)),undef,undef,undef,undef,undef,undef,undef,undef,undef,undef,undef,undef],[]⟩ w:=by
 have C:aV prog true (fun _:Nat→Prop=>AtRel) DZ (ZI prog Post 0):=ZI.closed;have UG:∀b,S b→b<w₀.heap.size:=fun b h=>by rw[H.size]; exact(H.sh b h).1
 have a8:∀w es,(Instr.makeFunc (Fn.func 112) #[] #[Value.pointer (sq (N+5)),Value.pointer (sq (N+1)),Value.pointer (sq (N+3))]).events prog w es=es:=fun w es=>by simp[Instr.makeFunc]
 have a9:∀w es,(Instr.makeFunc (Fn.func 200) #[] #[Value.pointer (sq (N+7)),Value.pointer (sq (N+8))]).events prog w es=es:=fun w es=>by simp[Instr.makeFunc]
 intro b k cs hb hk hc;have PW:(qe Tryz.f61.body)=.seq (.region 4 (eW Tryz.f61.body 4) false) (.seq (.region 5 (eW Tryz.f61.body 5) false) (.seq (.region 6 (eW Tryz.f61.body 6) false) (.seq (.region 7 (eW Tryz.f61.body 7) false) (.region 8 (eW Tryz.f61.body 8) false)))):=by rfl
 rw[PW];obtain rfl:=H.size;refine C.step rfl fun _ U=>?_;replace hF:=hF.rely U;clear U;rw[stepG_seq];simp only[goes_go];refine⟨fN _,?_⟩;refine C.step rfl fun _ U=>?_;replace hF:=hF.rely U;clear U;rw[stepG_region];simp only[goes_go];refine⟨fN _,?_⟩;have hr4:List.range (eW Tryz.f61.body 4).size=[0,1]:=by rfl
 rw[hr4];obtain⟨o,ho,a2,a6,a7⟩:∃o,(eW Tryz.f61.body 4)[0]?=some o∧o.op=.makeFunc (.func 112) #[] #[.tmp 5,.tmp 2,.tmp 4]∧o.dst=some 10∧o.guard=none:=⟨_,rfl,rfl,rfl,rfl⟩;refine C.step rfl fun aB U=>?_;replace hF:=hF.rely U;clear U;rw[stepG_value (v:=fv w₀.heap.size) (w':=aB) ho (by simp[Region.wanted,a7]) hk (by unfold execOp; simp[a2,Instr.makeFunc,Act.eval,fv]),listed_nil (by unfold execOp; simp[a2,Instr.makeFunc,Act.eval])];simp only[goes_go];refine⟨fN _,?_⟩;rw[a6];have Jq:(⟨#[(.func (.func fr) #[] cr),(.func (.func f) #[] cap),.pointer (sq (w₀.heap.size+1)),undef,.pointer (sq (w₀.heap.size+3)),.pointer (sq (w₀.heap.size+5)),.pointer (sq (w₀.heap.size+6)),undef,.chan (some (w₀.heap.size+2)),.chan (some (w₀.heap.size+4)),undef,undef,undef,undef,undef,undef,undef,undef,undef,undef,undef,undef],[]⟩:Act).put (some 10) (fv w₀.heap.size)=⟨t47 w₀.heap.size (.func (.func fr) #[] cr) (.func (.func f) #[] cap) undef,[]⟩:=by rfl
 rw[Jq];refine C.step rfl fun _ U=>?_;replace hF:=hF.rely U;clear U;refine goes_call (b:=b) (a:=⟨t47 w₀.heap.size (.func (.func fr) #[] cr) (.func (.func f) #[] cap) undef,[]⟩) (ops:=eW Tryz.f61.body 4) (i:=1) (args:=#[.tmp 6,.tmp 10]) (ats:=#[169,1]) rfl rfl hk rfl func111 (by rfl) rfl ⟨fN _,?_⟩;have Jr:(#[Operand.tmp 6,Operand.tmp 10].map (Act.eval ⟨t47 w₀.heap.size (.func (.func fr) #[] cr) (.func (.func f) #[] cap) undef,[]⟩))++Array.replicate (Tryz.f111.ntmps-(#[Operand.tmp 6,Operand.tmp 10].map (Act.eval ⟨t47 w₀.heap.size (.func (.func fr) #[] cr) (.func (.func f) #[] cap) undef,[]⟩)).size) undef=#[.pointer (sq (w₀.heap.size+6)),fv w₀.heap.size,undef,undef,undef,undef,undef]:=by simp[Act.eval,t47,Tryz.f111,Array.replicate_succ]
 rw[Jr];refine C.step rfl fun _ U=>?_;replace hF:=hF.rely U;clear U;rw[stepG_seq];simp only[goes_go];refine⟨fN _,?_⟩;refine C.step rfl fun _ U=>?_;replace hF:=hF.rely U;clear U;rw[stepG_region];simp only[goes_go,List.size_toArray,List.length_cons,List.length_nil,Nat.reduceAdd,Nat.zero_add,List.range,List.range.loop];refine⟨fN _,?_⟩;refine C.step rfl fun _ U=>?_;replace hF:=hF.rely U;clear U;refine goes_oper_k rfl rfl (by decide) (fun Kx js=>?_);go_simp;refine js _ _ ⟨?_,?_⟩
 ·intro e he;have hm:=mem_listed he;simp[go_sem, *] at hm
 clear js Kx;try walk_nrm
 have a0:=hF.size;simp only[uy,List.length_cons,List.length_nil,Nat.reduceAdd,Nat.add_zero,Nat.zero_add] at a0;simp only[a0];clear a0;replace hF:=hF.alloc (.cells #[.pointer (sq (w₀.heap.size+6))] 240);simp only[uy,List.cons_append,List.nil_append] at hF;refine C.step rfl fun _ U=>?_;replace hF:=hF.rely U;clear U;refine goes_oper_k rfl rfl (by decide) (fun Kx js=>?_);go_simp;refine js _ _ ⟨?_,?_⟩
 ·intro e he;have hm:=mem_listed he;simp[go_sem, *] at hm
 clear js Kx;try walk_nrm
 have a0:=hF.size;simp only[uy,List.length_cons,List.length_nil,Nat.reduceAdd,Nat.add_zero,Nat.zero_add] at a0;simp only[a0];clear a0;replace hF:=hF.alloc (.cells #[fv w₀.heap.size] 1);simp only[uy,List.cons_append,List.nil_append] at hF;refine C.step rfl fun _ U=>?_;replace hF:=hF.rely U;clear U;rw[stepG_region_end];simp only[goes_go];refine⟨fN _,?_⟩;refine C.step rfl fun _ U=>?_;replace hF:=hF.rely U;clear U;rw[stepG_seq];simp only[goes_go];refine⟨fN _,?_⟩;refine C.step rfl fun _ U=>?_;replace hF:=hF.rely U;clear U;rw[stepG_region];simp only[goes_go,List.size_toArray,List.length_cons,List.length_nil,Nat.reduceAdd,Nat.zero_add,List.range,List.range.loop];refine⟨fN _,?_⟩;refine C.step rfl fun _ U=>?_;replace hF:=hF.rely U;clear U;refine goes_oper_k rfl rfl (by decide) (fun Kx js=>?_);have H4:=cell1 (hF.blocks 7 _ rfl);go_simp;refine js _ _ ⟨?_,?_⟩
 ·intro e he;have hm:=mem_listed he;simp[go_sem, *] at hm;subst hm; exact Af (w₀:=w₀) UG rfl (by simp)
 clear js Kx;try walk_nrm
 clear H4;refine C.step rfl fun _ U=>?_;replace hF:=hF.rely U;clear U;refine goes_call rfl rfl (by decide) rfl sK.f_add (Go.ConcX.Gen.nm_add link) rfl ⟨fN _,?_⟩;walk_nrmf Go.Conc.Lib.addFn;have hA:=@Pa Post S (w₀.heap.size+6) w₀.heap.size;simp only[Go.ConcX.Gen.body_add,Go.Conc.Lib.addFn,Option.getD_some] at hA;refine hA (fun h=>by have:=UG _ h; omega) (fun h=>by have:=UG _ h; omega) (hF.blocks 6 _ rfl) ?_;replace hF:=hF.set (j:=6) (o:=0) rfl (.int .u64 4294967296);simp only[List.set,List.setIfInBounds_toArray] at hF;try walk_nrm
 refine C.step rfl fun _ U=>?_;replace hF:=hF.rely U;clear U;rw[stepG_region_end];simp only[goes_go];refine⟨fN _,?_⟩;refine C.step rfl fun _ U=>?_;replace hF:=hF.rely U;clear U;rw[stepG_region];simp only[goes_go,List.size_toArray,List.length_cons,List.length_nil,Nat.reduceAdd,Nat.zero_add,List.range,List.range.loop];refine⟨fN _,?_⟩;refine C.step rfl fun _ U=>?_;replace hF:=hF.rely U;clear U;refine goes_oper_k rfl rfl (by decide) (fun Kx js=>?_);go_simp;refine js _ _ ⟨?_,?_⟩
 ·intro e he;have hm:=mem_listed he;simp[go_sem, *] at hm
 clear js Kx;try walk_nrm
 refine L8 (A:=A) (F:=F) (I:=I) (k:=k) (cs:=cs) (tm:=#[.pointer (sq (w₀.heap.size+6)),fv w₀.heap.size,.pointer (sq (w₀.heap.size+7)),.pointer (sq (w₀.heap.size+8)),.pointer (sq (w₀.heap.size+6)),.tuple #[],.func (.func 200) #[] #[.pointer (sq (w₀.heap.size+7)),.pointer (sq (w₀.heap.size+8))]]) H hF hn hb hk rfl (fun e=>?_) (fun Shun e _ _=>a1 Shun _ (hF.rely ⟨e,rfl⟩)) a5 (fun e=>a3 _ (hF.rely ⟨e,rfl⟩)) a4 (fun a w UL UB hW=>?_)
 ·rw[stepG_spawn (d:=jK w₀.heap.size) rfl rfl (by decide) (by simp[execOp,go_sem,resolve,Deferred.ofValue,jK,Act.eval]; rfl) rfl,listed_nil (by simp[execOp,go_sem,resolve,Deferred.ofValue,Act.eval])];rfl
 ·refine C.step rfl fun aB U=>?_;rw[stepG_region_end];simp only[goes_go];exact⟨fN _,C.rely (hc _ _ (a.put (some 21) (.tuple #[])) _ (hq _ w UL UB hW)) U⟩
theorem R9(H:wT w₀ N Pb S)(hF:He w₀ [.cells #[val] tC] w)(hn:l.length≤1000000)
 (U:∀(Shun:Loc→Prop) (w:World) [Go.ConcR.Payload] [Go.ConcX.Payload],He w₀ (oE N val tC (.func (.func fr) #[] cr)) w→XK (aC prog N Pb (fJ N Shun) val (N+9) (fun _=>False)) (true,V l) (born prog (jK N)) w)
 (a2:∀Shun:Loc→Prop,(∀l,Shun l→∃ad:Addr,l=.cell ad∧S ad.block)→Client (aC prog N Pb (fJ N Shun) val (N+9) (fun _=>False)) N l f cap A F I)(a0:∀w,He w₀ (oE N val tC (.func (.func fr) #[] cr)) w→A w)(a1:∀w aB,Go.ConcX.Aside2 N (N+6) w aB→F w→F aB) :
  ew prog (ZI prog Post 0) 61 #[(.func (.func fr) #[] cr),(.func (.func f) #[] cap)] S w (fun S' _ w'=>S'=SE N S∧F w'∧w'.heap[N+6]?=some (.cells #[.int .u64 0,.int .u32 0] 169)):=by refine gn func61 (by rfl) (c:=.seq _ (.seq _ (.seq _ (.seq _ (qe Tryz.f61.body))))) rfl ?_;simp only[ntmps61,List.size_toArray,List.length_cons,List.length_nil,Nat.reduceAdd,Nat.reduceSub,Array.replicate_succ,Array.replicate_zero,List.push_toArray,List.append_toArray,List.nil_append,List.cons_append];have hN:=H.size;refine D8 val (.func (.func f) #[] cap) fr cr tC hF (fun b h=>by rw[hN]; exact(H.sh b h).1) _ (qe Tryz.f61.body) (fun w hF=>?_) _ _ _ _ rfl;rw[hN] at hF ⊢;refine G1 H hF hn U a2 a0 a1 fun a w UL h1 h2=>?_;exact⟨.inl rfl,UL,_,resultsC_none (by rfl) _,rfl,h1,h2⟩
end
theorem Nl(l x:Nat)(hl:l<32768)(U:x<64):bits .or .i32 ((l*64:Nat):Int) (x:Int)=((l*64+x:Nat):Int):=by
 have h1:(BitVec.ofInt 32 ((l*64:Nat):Int)).toNat=l*64:=by rw[BitVec.ofInt_natCast,BitVec.toNat_ofNat]; exact Nat.mod_eq_of_lt (by omega)
 have h2:(BitVec.ofInt 32 (x:Int)).toNat=x:=by rw[BitVec.ofInt_natCast,BitVec.toNat_ofNat]; exact Nat.mod_eq_of_lt (by omega)
 show IntKind.i32.wrap ((BitVec.ofInt 32 ((l*64:Nat):Int) ||| BitVec.ofInt 32 (x:Int)).toNat:Int)=_;have h3:l*64 ||| x=l*64+x:=by have:=Nat.shiftLeft_add_eq_or_of_lt (i:=6) (b:=x) (by simpa using U) l;rw[Nat.shiftLeft_eq] at this;exact this.symm
 rw[BitVec.toNat_or,h1,h2,h3,IntKind.wrap_i32];omega
theorem kD(l b:Int)(h0:0≤l)(h1:l<32768)(h2:0≤b)(h3:b<256):c8 l b=l*64+b % 64:=by
 have e1:IntKind.i32.wrap (l*64)=l*64:=by rw[IntKind.wrap_i32]; omega
 have e2:IntKind.i32.wrap (b % 64)=b % 64:=by rw[IntKind.wrap_i32]; omega
 unfold c8;rw[KZ b h2 h3,e1,e2]
 have:=Nl l.toNat (b % 64).toNat (by omega) (by omega);have a1:((l.toNat*64:Nat):Int)=l*64:=by omega
 have U:((b % 64).toNat:Int)=b % 64:=by omega
 rw[a1,U] at this;rw[this];omega
theorem rZ(b k:Int)(h0:0≤b)(h1:b<256)(hk:k=31∨k=15∨k=7):eL b k=b % (k+1):=by
 have h:∀n:_root_.Fin 256,bits .and .u8 (n.val:Int) 31=(n.val:Int) % 32∧bits .and .u8 (n.val:Int) 15=(n.val:Int) % 16∧bits .and .u8 (n.val:Int) 7=(n.val:Int) % 8:=by decide +kernel
 have U:=h ⟨b.toNat,by omega⟩;simp only[Int.toNat_of_nonneg h0] at U;unfold eL;rcases hk with rfl|rfl|rfl
 ·rw[U.1,IntKind.wrap_i32]; omega
 ·rw[U.2.1,IntKind.wrap_i32]; omega
 ·rw[U.2.2,IntKind.wrap_i32]; omega
def zw (d:DS):Prop :=
 d.missing=0 ∨
 (d.missing=1∧d.low=128∧d.high=191∧((2≤d.letter∧d.letter≤863)∨(896≤d.letter∧d.letter≤17407))) ∨
 (d.missing=2∧0≤d.letter∧d.letter≤15∧d.low=(jS (224+d.letter)).1∧d.high=(jS (224+d.letter)).2) ∨
 (d.missing=2∧16≤d.letter∧d.letter≤271∧d.low=128∧d.high=191) ∨
 (d.missing=3∧0≤d.letter∧d.letter≤4∧d.low=(jS (240+d.letter)).1∧d.high=(jS (240+d.letter)).2)
theorem tL(d:DS)(b:Int)(h0:0≤b)(h1:b<256)(hd:d.missing=0):zw (cK d b).1∧(∀r∈(cK d b).2,Good r)∧(cK d b).2.length≤1:=by
 unfold cK;by_cases U:b<128
 ·simp only[if_pos U];refine⟨.inl hd,fun r hr=>?_,by simp⟩;have:IntKind.i32.wrap b=b:=by rw[IntKind.wrap_i32]; omega
  simp only[this,List.mem_singleton] at hr;exact .inl (by omega)
 by_cases c2:b<194
 ·simp only[if_neg U,if_pos c2];exact⟨.inl hd,fun r hr=>by simp only[List.mem_singleton] at hr; exact .inr (by omega),by simp⟩
 by_cases c3:b>244
 ·simp only[if_neg U,if_neg c2,if_pos c3];exact⟨.inl hd,fun r hr=>by simp only[List.mem_singleton] at hr; exact .inr (by omega),by simp⟩
 by_cases c4:b<224
 ·simp only[if_neg U,if_neg c2,if_neg c3,if_pos c4];refine⟨.inr (.inl ⟨rfl,?_,?_,?_⟩),by simp,by simp⟩
  ·show(jS b).1=128;rw[jS,if_neg (by omega),if_neg (by omega),if_neg (by omega),if_neg (by omega)]
  ·show(jS b).2=191;rw[jS,if_neg (by omega),if_neg (by omega),if_neg (by omega),if_neg (by omega)]
  ·show(2≤eL b 31∧eL b 31≤863)∨(896≤eL b 31∧eL b 31≤17407);rw[rZ b 31 h0 h1 (by simp)];omega
 by_cases c5:b<240
 ·simp only[if_neg U,if_neg c2,if_neg c3,if_neg c4,if_pos c5];have e:eL b 15=b-224:=by rw[rZ b 15 h0 h1 (by simp)]; omega
  have e2:224+eL b 15=b:=by omega
  exact⟨.inr (.inr (.inl ⟨rfl,by show 0≤eL b 15; omega,by show eL b 15≤15; omega,by show _=(jS (224+eL b 15)).1; rw[e2],by show _=(jS (224+eL b 15)).2; rw[e2]⟩)),by simp,by simp⟩
 ·simp only[if_neg U,if_neg c2,if_neg c3,if_neg c4,if_neg c5];have e:eL b 7=b-240:=by rw[rZ b 7 h0 h1 (by simp)]; omega
  have e2:240+eL b 7=b:=by omega
  exact⟨.inr (.inr (.inr (.inr ⟨rfl,by show 0≤eL b 7; omega,by show eL b 7≤4; omega,by show _=(jS (240+eL b 7)).1; rw[e2],by show _=(jS (240+eL b 7)).2; rw[e2]⟩))),by simp,by simp⟩
theorem Ag(d:DS)(b:Int)(hd:zw d)(hm:0<d.missing)(hl:d.low≤b)(hh:b≤d.high):zw (cG d b).1∧(∀r∈(cG d b).2,Good r)∧(cG d b).2.length≤1:=by
 have a1:∀x:Int,128≤(jS x).1∧(jS x).2≤191:=by intro x; unfold jS; (repeat' split)<;>exact⟨by decide,by decide⟩
 have U:(cG d b).2.length≤1:=by unfold cG; split<;>simp
 have a0:∀m:Int,1≤m→m≤3→IntKind.i64.wrap (m-1)=m-1:=fun m _ _=>by rw[IntKind.wrap_i64]; omega
 rcases hd with h|⟨h,h1,h2,h3⟩|⟨h,h1,h2,h3,h4⟩|⟨h,h1,h2,h3,h4⟩|⟨h,h1,h2,h3,h4⟩
 ·omega
 ·have hf:=kD d.letter b (by omega) (by omega) (by omega) (by omega);refine⟨.inl ?_,fun r hr=>?_,U⟩
  ·show IntKind.i64.wrap (d.missing-1)=0;rw[a0 _ (by omega) (by omega)]; omega
  ·have:(cG d b).2=[c8 d.letter b]:=by unfold cG; rw[a0 _ (by omega) (by omega)]; simp[h]
   rw[this,List.mem_singleton] at hr;subst hr;rw[hf];unfold Good;omega
 ·have hb:=a1 (224+d.letter);have hf:=kD d.letter b (by omega) (by omega) (by omega) (by omega);have K9:IntKind.i64.wrap (d.missing-1)=1:=by rw[a0 _ (by omega) (by omega)]; omega
  refine⟨.inr (.inl ⟨K9,rfl,rfl,?_⟩),fun r hr=>?_,U⟩
  ·show(2≤c8 d.letter b∧c8 d.letter b≤863)∨(896≤c8 d.letter b∧c8 d.letter b≤17407);rw[hf];by_cases e0:d.letter=0
   ·have:(jS (224+d.letter)).1=160:=by rw[e0]; rfl
    omega
   ·by_cases a2:d.letter=13
    ·have:(jS (224+d.letter)).2=159:=by rw[a2]; rfl
     omega
    ·omega
  ·have:(cG d b).2=[]:=by unfold cG; rw[K9]; simp
   rw[this] at hr; simp at hr
 ·have hf:=kD d.letter b (by omega) (by omega) (by omega) (by omega);have K9:IntKind.i64.wrap (d.missing-1)=1:=by rw[a0 _ (by omega) (by omega)]; omega
  refine⟨.inr (.inl ⟨K9,rfl,rfl,?_⟩),fun r hr=>?_,U⟩
  ·show(2≤c8 d.letter b∧c8 d.letter b≤863)∨(896≤c8 d.letter b∧c8 d.letter b≤17407);rw[hf];omega
  ·have:(cG d b).2=[]:=by unfold cG; rw[K9]; simp
   rw[this] at hr; simp at hr
 ·have hb:=a1 (240+d.letter);have hf:=kD d.letter b (by omega) (by omega) (by omega) (by omega);have K9:IntKind.i64.wrap (d.missing-1)=2:=by rw[a0 _ (by omega) (by omega)]; omega
  refine⟨.inr (.inr (.inr (.inl ⟨K9,?_,?_,rfl,rfl⟩))),fun r hr=>?_,U⟩
  ·show 16≤c8 d.letter b;rw[hf];by_cases e0:d.letter=0
   ·have:(jS (240+d.letter)).1=144:=by rw[e0]; rfl
    omega
   ·omega
  ·show c8 d.letter b≤271;rw[hf];by_cases e4:d.letter=4
   ·have:(jS (240+d.letter)).2=143:=by rw[e4]; rfl
    omega
   ·omega
  ·have:(cG d b).2=[]:=by unfold cG; rw[K9]; simp
   rw[this] at hr; simp at hr
theorem BF(d:DS)(hd:zw d):(gk d).1.missing=0∧(∀r∈(gk d).2,Good r)∧(gk d).2.length≤1:=by
 unfold gk;split
 ·exact⟨rfl,fun r U=>by simp only[List.mem_singleton] at U; exact .inr (by omega),by simp⟩
 ·refine⟨?_,by simp,by simp⟩;rcases hd with h|⟨h,_⟩|⟨h,_⟩|⟨h,_⟩|⟨h,_⟩<;>first|exact h|(exfalso; omega)
theorem HA(d:DS)(b:Int)(U:0≤b)(h1:b<256)(hd:zw d):zw (cT d b).1∧(∀r∈(cT d b).2,Good r)∧(cT d b).2.length≤2:=by
 unfold cT;split
 ·rename_i hm
  split
  ·rename_i h
   obtain⟨a,c,e⟩:=Ag d b hd hm h.1 h.2;exact⟨a,c,by omega⟩
  ·obtain⟨a,c,e⟩:=BF d hd;obtain⟨a',c',e'⟩:=tL (gk d).1 b U h1 a;refine⟨a',fun r hr=>?_,by simp; omega⟩;rcases List.mem_append.1 hr with z|z
   ·exact c r z
   ·exact c' r z
 ·rename_i hm
  have hz:d.missing=0:=by rcases hd with h|⟨h,_⟩|⟨h,_⟩|⟨h,_⟩|⟨h,_⟩<;>first|exact h|(exfalso; omega)
  obtain⟨a,c,e⟩:=tL d b U h1 hz;exact⟨a,c,by omega⟩
theorem rJ(c:CS)(l:Iq)(h:∀r∈l,Good r):(∀r∈(aI c l).2,Good r)∧(aI c l).2.length≤l.length:=by
 induction l generalizing c with
 | nil=>simp[aI]
 | cons r l ih =>
  obtain⟨h1,h2⟩:=ih (eh c r).1 fun x U=>h x (by simp[U]);have hr:=h r (by simp);have h3:(∀x∈(eh c r).2,Good x)∧(eh c r).2.length≤1:=by
   simp only[eh];repeat' split
   ·simp
   ·simp
   ·exact⟨fun x U=>by simp only[List.mem_singleton] at U; exact .inl (by omega),by simp⟩
   ·exact⟨fun x U=>by simp only[List.mem_singleton] at U; exact .inr (by omega),by simp⟩
   ·exact⟨fun x U=>by simp only[List.mem_singleton] at U; rw[U]; exact hr,by simp⟩
  refine⟨fun x U=>?_,by simp[aI]; omega⟩;simp only[aI,List.mem_append] at U;exact U.elim (h3.1 x) (h1 x)
theorem Da(l:Iq)(U:∀b∈l,0≤b∧b<256):∀(c:CS) (d:DS),zw d→(∀r∈bq c d l,Good r)∧(bq c d l).length≤2*l.length+1:=by
 induction l with
 | nil =>intro c d hd;rw[gh];obtain⟨_,h2,h3⟩:=BF d hd;obtain⟨h4,h5⟩:=rJ c _ h2;exact⟨h4,by simp; omega⟩
 | cons b l ih =>intro c d hd;rw[dN];obtain⟨h1,h2,h3⟩:=HA d b (U b (by simp)).1 (U b (by simp)).2 hd;obtain⟨h4,h5⟩:=rJ c _ h2;obtain⟨h6,h7⟩:=ih (fun x hx=>U x (by simp[hx])) (aI c (cT d b).2).1 _ h1;refine⟨fun r hr=>(List.mem_append.1 hr).elim (h4 r) (h6 r),by simp; omega⟩
theorem vN(s:ByteArray)(U:s.size≤20000):(∀r∈bV s,Good r)∧4*(bV s).length≤1000000:=by
 obtain⟨h1,h2⟩:=Da (bytesOf s) (fun b hb=>by
  simp only[bytesOf,List.mem_map] at hb;obtain⟨x,_,rfl⟩:=hb
  have:=x.toNat_lt;omega) ⟨false,false⟩ ⟨0,0,0,0⟩ (.inl rfl);refine⟨h1,?_⟩;have h3:(bytesOf s).length=s.size:=by simp[bytesOf]
 unfold bV;omega
def begun(d:DS):Nat:=if 0<d.missing then 1 else 0
theorem Fb(d:DS):begun d≤1:=by unfold begun; split<;>omega
theorem tP(c:CS)(l:Iq):(aI c l).2.length≤l.length:=by
 induction l generalizing c with
 | nil=>simp[aI]
 | cons r l U =>
  have h2:=U (eh c r).1;have h3:(eh c r).2.length≤1:=by
   simp only[eh];repeat' split
   all_goals simp
  simp[aI]; omega
theorem tM(d:DS)(b:Int)(h:¬0<d.missing):(cK d b).2.length+begun (cK d b).1≤1:=by
 have U:begun d=0:=by unfold begun; rw[if_neg h]
 unfold cK;repeat' split
 all_goals first
  | (simp[U]; done)
  | (simp[begun]; done)
theorem BG(d:DS):(gk d).2.length≤begun d∧¬0<(gk d).1.missing:=by
 unfold gk begun;split
 ·simp
 ·rename_i h; exact⟨by simp,h⟩
theorem HD(d:DS)(b:Int):(cT d b).2.length+begun (cT d b).1≤begun d+1:=by
 unfold cT;split
 ·rename_i U
  have h1:begun d=1:=by unfold begun; rw[if_pos U]
  split
  ·have h2:=Fb (cG d b).1;have h3:(cG d b).2.length≤1:=by simp only[cG]; split<;>simp
   omega
  ·have h2:=BG d;have h3:=tM (gk d).1 b h2.2;simp only[List.length_append];omega
 ·rename_i U
  have:=tM d b U;omega
theorem FN(l:Iq):∀(c:CS) (d:DS),(bq c d l).length≤l.length+begun d:=by
 induction l with
 | nil =>
  intro c d;rw[gh]
  have:=tP c (gk d).2
  have:=(BG d).1;simp; omega
 | cons b l U =>intro c d;rw[dN];have h1:=tP c (cT d b).2;have h2:=HD d b;have h3:=U (aI c (cT d b).2).1 (cT d b).1;simp only[List.length_append,List.length_cons];omega
theorem ym(s:ByteArray):(bV s).length≤s.size:=by
 have h:=FN (bytesOf s) ⟨false,false⟩ ⟨0,0,0,0⟩;have h3:(bytesOf s).length=s.size:=by simp[bytesOf]
 have U:begun ⟨0,0,0,0⟩=0:=by simp[begun]
 unfold bV;omega
section
variable {N Pb:Nat}{Shun:Loc→Prop}{val:Value}{B:Nat}{Mine:Loc→Prop}{Ex:Nat→Prop}{w₀ w aB:World}{AnchW:Gq}{u v:Value}{tk rest:Iq}{en:Bool}{Rb:Nat}
variable {Tb Yb:Nat}{x:Value}{s:ByteArray}{l:Iq}
theorem vO(U:b<N):gx (aC prog N Pb Shun val B Mine) b:=⟨by show b<N+9; omega,by show ¬(b=N); omega,by show ¬(b=N+2∨b=N+4∨b=N+6); omega⟩
theorem Gx(hb:b<N)(hp:b≠Pb)(U:∀ad:Addr,ad.block=b→¬Shun (.cell ad))(hz:N+9≤w.heap.size):cH (aC prog N Pb Shun val B Mine) w b:=by
 refine⟨by omega,?_,?_,?_,U⟩
 ·rintro(z|⟨z,_⟩)
  ·have z':b=N:=z;omega
  ·have z':N+9≤b:=z;omega
 ·show ¬(b=N+1∨b=N+3∨b=N+5∨b=N+7∨b=N+8∨b=Pb); omega
 ·show ¬(b=N+2∨b=N+4∨b=N+6); omega
variable [Go.ConcR.Payload][Go.ConcX.Payload]
variable [Go.ConcX.Shy (Cfg.Wg (aC prog N Pb Shun val B Mine)) (Cfg.C (aC prog N Pb Shun val B Mine))]
end
section
variable {w₀ w aB:World}{Post:Value→World→Prop}{S:Nat→Prop}{N Pb Yb Tb:Nat}{s:ByteArray}
theorem He.start(w₀:World):He w₀ [] w₀:=⟨rfl,rfl,rfl,fun _ _=>rfl,by simp,fun j o h=>by simp at h⟩
end
def nz:Obj→Bool
 | .cells _ t _=>!(t.beq 175)&&!(t.beq 21)
 | _=>true
section
variable {P:Program}{KT:TypeId→Prop}{An:bC}{S:bC}{s s1:AS}{l:Hq}
theorem eK.Ns(h:eK P KT An S s l)(U:∀b o,s1.get b=some o→s.get b=some o∧nz o=true)(hn:s.nx≤s1.nx):eK P KT An S s1 (l.filter fun x=>nz x.2) where
 live b o hb:=by
  obtain⟨h1,h2⟩:=U b o hb
  obtain⟨g,z,e,o',q1,q2,q3,q4⟩:=h.live b o h1
  refine⟨g,z,e,o',q1,List.mem_filter.2 ⟨q2,?_⟩,q3,q4⟩
  unfold OR at q3
  split at q3
  ·
   obtain⟨a0,rfl,_⟩:=q3; exact h2
  ·
   subst q3; rfl
  ·
   exact q3.elim
 inj b b' o o' x x' hb jA:=h.inj b b' o o' x x' (U b o hb).1 (U b' o' jA).1
 lt b o hb:=Nat.lt_of_lt_of_le (h.lt b o (U b o hb).1) hn
 an:=h.an
end
structure XN(w₀:World)(N Pb:Nat)(Sh:Nat→Prop)(sR:AS)(S0 An:bC)(l0:List (Nat × Obj)):Prop where
 size:w₀.heap.size=N
 tB:eK prog eS An S0 sR l0
 own:∀b o,(b,o)∈l0→b<N∧b≠Pb∧¬Sh b∧w₀.heap[b]?=some o
 nd:(l0.map Prod.fst).Nodup
 tight:∀b o,(b,o)∈l0→∃nm ob z e,sR.get nm=some ob∧S0 nm=some (b,z,e)
structure ko(w₀:World)(N:Nat)(Ek:Nat→Prop)(w:World):Prop where
 tape:w.tape=w₀.tape
 os:w.os=w₀.os
 output:w.output=w₀.output
 size:N+9≤w.heap.size
 old:∀b,b<N→¬Ek b→w.heap[b]?=w₀.heap[b]?
section
variable {N Pb:Nat}{Shun:Loc→Prop}{val:Value}{B:Nat}{Mine:Loc→Prop}{Ex Ek:Nat→Prop}{w₀ w aB w':World}{all:Iq}{Rb:Nat}{l l0:Hq}{sR s' s1:AS}{S0 An:bC}{Sh:Nat→Prop}
theorem ko.low(h:ko w₀ N Ek w)(h1:w'.tape=w.tape)(h2:w'.os=w.os)(h3:w'.output=w.output)(h4:w.heap.size≤w'.heap.size)(hb:∀b,b<N→¬Ek b→w'.heap[b]?=w.heap[b]?):ko w₀ N Ek w' :=
 ⟨h1.trans h.tape,h2.trans h.os,h3.trans h.output,Nat.le_trans h.size h4,fun b U h6=>(hb b U h6).trans (h.old b U h6)⟩
theorem ko.rm(F:Cfg.Fit (aC prog N Pb Shun val B Mine))(h:ko w₀ N Ek w)(r:RM (aC prog N Pb Shun val B Mine) w aB):ko w₀ N Ek aB:=h.low r.tape r.os r.output r.size fun b U _=>(xl F).JY r (vO U) (by have:=h.size; omega)
theorem ko.kept(h:ko w₀ N Ek w)(hx:∀b,Ex b→N≤b)(k:Kept (cH (aC prog N Pb Shun val B Mine)) (gx (aC prog N Pb Shun val B Mine)) Ex w w'):ko w₀ N Ek w':=h.low k.tape k.os k.output k.grow fun b U _=>k.low b (vO U) (by have:=h.size; omega) fun z=>by have:=hx b z; omega
theorem ko.aside(h:ko w₀ N Ek w)(r:Go.ConcX.Aside2 N (N+6) w aB):ko w₀ N Ek aB:=h.low r.tape r.os r.output (by rw[r.size]; exact Nat.le_refl _) fun b U _=>r.block b (by omega) (by omega)
theorem ko.alloc(h:ko w₀ N Ek w)(o:Obj):ko w₀ N Ek (w.alloc o):=h.low rfl rfl rfl (by simp[World.size_alloc]) fun b U _=>Below.heap_alloc _ _ _ (by have:=h.size; omega)
def lP(l0:List (Nat × Obj))(b:Nat):Prop:=∃o,(b,o)∈l0
def OL(K:Cfg)(w₀:World)(N:Nat)(sR s1:AS)(S0:bC)(l0:List (Nat × Obj))(Rb:Nat)(w:World):Prop :=
 ∃S' l',eK prog eS S0 S' s1 l'∧(∀b,b<sR.nx∨s1.nx≤b→S' b=S0 b)∧(l'.map Prod.fst).Nodup∧(∀b o,(b,o)∈l'→cH K w b∧w.heap[b]?=some o∧nz o=true∧(b<N→lP l0 b))∧ko w₀ N (lP l0) w
def KR(w₀:World)(N:Nat)(Sh:Nat→Prop)(sR s1:AS)(S0:bC)(l0:List (Nat × Obj))(w:World):Prop :=
 ∃S' l',eK prog eS S0 S' s1 l'∧(∀b,b<sR.nx∨s1.nx≤b→S' b=S0 b)∧(l'.map Prod.fst).Nodup∧(∀b o,(b,o)∈l'→b<w.heap.size∧b≠N∧b≠N+6∧(b<N→lP l0 b)∧w.heap[b]?=some o)∧ko w₀ N (lP l0) w
theorem zQ(hx:∀{ι:Type} {N0:ι→Nat} {M:ι→World→Nat→Prop} {O:ι→Nat→Prop} {R:ι→Wq} {D:ι→World→World→Array Event→Prop} {X:ι→Gq} {Hd:ι→Hq→World→Prop} (_:Cy prog eS N0 M O R D X Hd) (A:bC),(∀b,sR.nx+1≤b→A b=S0 b)→ck prog eS A R D X Hd (cR sR.nx all)→ck prog eS A R D X Hd pr)(H:wT w₀ N Pb Sh)(Hr:XN w₀ N Pb Sh sR S0 An l0)(a1:∀b,sR.nx≤b→b<s'.nx→S0 b=none)(ah:sR.nx<s'.nx){e1:Nat}(h1:S0 1=some (1,z1,e1))(a2:1<sR.nx)(hg:∀r∈all,Good r)(hn:4*all.length≤1000000)
 (a8:prog.funcs[f]?=some aJ)(a6:aJ.body=some c)(a9:aJ.results=#[])(a3:AR (VR S0) rG cap)
 (ae:eJ prog mB pr n c ((am sR.nx 0::rG.toList)++List.replicate (aJ.ntmps-(rG.size+1)) undef) ⟨sR.hp,sR.nx+1⟩=some (e,iF,s'))(he:e=.normal∨e=.ret)
 (a7:∀nm ob,sR.get nm=some ob→∃zm,s'.get nm=some zm)(aj:∀b o,s1.get b=some o→s'.get b=some o∧nz o=true)(ag:s'.nx≤s1.nx)(a4:∀l,Shun l→∃ad:Addr,l=.cell ad∧Sh ad.block) :
  Client (aC prog N Pb (fJ N Shun) val (N+9) (fun _=>False)) N all f cap (ko w₀ N (fun _=>False)) (KR w₀ N Sh sR s1 S0 l0) (OL (aC prog N Pb (fJ N (fun l=>∃ad:Addr,l=.cell ad∧Sh ad.block)) val (N+9) (fun _=>False)) w₀ N sR s1 S0 l0):=by
 have up:∀{w:World} {b:Nat},cH (aC prog N Pb (fJ N Shun) val (N+9) (fun _=>False)) w b→¬Sh b→cH (aC prog N Pb (fJ N (fun l=>∃ad:Addr,l=.cell ad∧Sh ad.block)) val (N+9) (fun _=>False)) w b:=fun {w b} h U=>⟨h.1,h.2.1,h.2.2.1,h.2.2.2.1,fun ad ha hs=>by
  rcases hs with ⟨a,e,z⟩|⟨a,e,z⟩
  ·cases e; exact U (ha▸z)
  ·exact h.2.2.2.2 ad ha (.inr ⟨a,e,z⟩)⟩;have dn:∀{w:World} {b:Nat},cH (aC prog N Pb (fJ N (fun l=>∃ad:Addr,l=.cell ad∧Sh ad.block)) val (N+9) (fun _=>False)) w b→cH (aC prog N Pb (fJ N Shun) val (N+9) (fun _=>False)) w b∧¬Sh b:=fun {w b} h=>⟨⟨h.1,h.2.1,h.2.2.1,h.2.2.2.1,fun ad ha hs=>by
  rcases hs with z|⟨a,e,z⟩
  ·exact h.2.2.2.2 ad ha (.inl (a4 _ z))
  ·exact h.2.2.2.2 ad ha (.inr ⟨a,e,z⟩)⟩,fun U=>h.2.2.2.2 ⟨b,0,none⟩ rfl (.inl ⟨_,rfl,U⟩)⟩;have F:=Pw (val:=val) H a4;have rV:∀b,b<N→¬Sh b→∀ad:Addr,ad.block=b→¬fJ N Shun (.cell ad):=by
  rintro b U hS ad rfl (h|⟨a,e,h⟩)
  ·obtain⟨a,e,h⟩:=a4 _ h;cases e;exact hS h
  ·cases e; omega
 constructor
 ·exact fun w aB r h=>h.rm F r
 ·exact fun w cs h=>h.alloc _
 ·intro _ _ _ AW Rb w aa hA hW;have Qn:∀b o,(b,o)∈l0→cH (aC prog N Pb (fJ N Shun) val (N+9) (fun _=>False)) w b∧w.heap[b]?=some o:=fun b o hm=>by obtain⟨q1,q2,q3,q4⟩:=Hr.own b o hm;exact⟨Gx q1 q2 (rV b q1 q3) hA.size,(hA.old b q1 id).trans q4⟩
  have hX:HX (aC prog N Pb (fJ N Shun) val (N+9) (fun _=>False)) (fun b=>lP l0 b∨N≤b) w all Rb (.front (V all)) (l0++[]) w:=by
   rw[List.append_nil];refine⟨⟨Kept.refl w,hA.size,fun b o hm=>⟨(Qn b o hm).1,(Qn b o hm).2,.inl (.inl ⟨o,hm⟩)⟩,Hr.nd⟩,lT,[],all,false,rfl,.inl ⟨rfl,.inl rfl⟩,hW,fun b o hm hx=>?_,fun b hx=>?_⟩
   ·have:=(Hr.own b o hm).1;rcases hx with rfl|hx
    ·omega
    ·cases hx
   ·rcases hx with rfl|hx
    ·exact .inl (.inr aa)
    ·cases hx
  have ai:S0 sR.nx=none:=a1 _ (Nat.le_refl _) ah;have wJ:S0.le (S0.put sR.nx (Rb,0,0)):=bC.jP ai;have VY:eK prog eS (S0.put sR.nx (Rb,0,0)) (S0.put sR.nx (Rb,0,0)) ⟨sR.hp,sR.nx+1⟩ l0:=by
   refine⟨fun b o U=>?_,fun b b' o o' x x' U a5 hx jB QR=>?_,fun b o U=>?_,bC.le_refl _⟩
   ·obtain⟨g,z,e,o',q1,q2,q3,q4⟩:=Hr.tB.live b o U;exact⟨g,z,e,o',wJ _ _ q1,q2,q3.mono wJ,q4⟩
   ·obtain⟨g,z,e,o3,q1,_⟩:=Hr.tB.live b o U;obtain⟨g',z',e',o4,q2,_⟩:=Hr.tB.live b' o' a5;rw[wJ _ _ q1] at hx;rw[wJ _ _ q2] at jB;cases hx;cases jB;exact Hr.tB.inj b b' o o' _ _ U a5 q1 q2 QR
   ·have:=Hr.tB.lt b o U;show b<sR.nx+1;omega
  have a0:=GO (AnchW:=AW) (Ex:=fun b=>lP l0 b∨N≤b) (w₀:=w) (An:=S0.put sR.nx (Rb,0,0)) (Rb:=Rb) F hg hn (rn:=sR.nx) bC.iv (wJ _ _ h1) a2;have Y:=Uc (AnchW:=AW) (Ex:=fun b=>lP l0 b∨N≤b) (w₀:=w) (all:=all) (Rb:=Rb) F;have a0:=hx Y _ (fun b U=>by unfold bC.put; rw[if_neg (by omega)]) a0;refine⟨aJ,c,a8,cI f aJ a8,a6,?_⟩;refine((gH Y (by kernel_rfl) dq a0 cI n).1 c f _ iF _ s' e _ l0 [] (.front (V all)) w _ _ ae VY hX ?_ rfl (fun b b1 b2=>?_) ?_).1
  ·have ao:rG.size=cap.size:=a3.1;have h2:AR (VR (S0.put sR.nx (Rb,0,0))) (#[am sR.nx 0]++rG) (#[.pointer (sq Rb)]++cap):=(AR.one (VR.gl bC.iv)).append (a3.mono wJ);have h3:=h2.append (AR.replicate (S:=S0.put sR.nx (Rb,0,0)) (x:=undef) (v:=undef) (aJ.ntmps-(rG.size+1)) VR.undef);have e1:((am sR.nx 0::rG.toList)++List.replicate (aJ.ntmps-(rG.size+1)) undef).toArray=(#[am sR.nx 0]++rG)++Array.replicate (aJ.ntmps-(rG.size+1)) undef:=by apply Array.toList_inj.1;simp
   rw[e1];have e2:aJ.ntmps-(#[Value.pointer (sq Rb)]++cap).size=aJ.ntmps-(rG.size+1):=by simp; omega
   rw[e2];exact h3
  ·have a5:sR.nx+1≤b:=b1;unfold bC.put;rw[if_neg (by omega)];exact a1 b (by omega) b2
  ·intro i' S' l' w' a' r1 r2 r3 r4 r5 r6;rw[List.append_nil] at r4;obtain⟨v',Kz,oL,IZ,k1,k2,k3,k4,k5⟩:=r4.row;have Oo:∀b,nN Rb v' b→N≤b:=fun b U=>by
    rcases k5 b U with (⟨o,hm⟩|z)|z
    ·obtain⟨nm,ob,zz,ee,q1,q2⟩:=Hr.tight b o hm;obtain⟨zm,q3⟩:=a7 nm ob q1;obtain⟨g,z3,e3,o3,q4,q5,_⟩:=r3.live nm zm q3;have q6:=r1 _ _ (wJ _ _ q2);rw[q6] at q4;cases q4;exact absurd U (k4 _ o3 q5)
    ·exact z
    ·have:=hA.size; omega
   refine⟨he,r6,_,resultsC_none a9 _,_,_,v',Kz,oL,IZ,k1,k2,k3,Oo,S',l'.filter (fun x=>nz x.2),?_,fun b U=>?_,?_,fun b o hm=>?_,?_⟩
   ·have:=r3.Ns aj ag;exact⟨this.live,this.inj,this.lt,bC.le_trans wJ r1⟩
   ·rw[r2 b (U.imp (fun U=>by show b<sR.nx+1; omega) (fun U=>by omega))];unfold bC.put;rw[if_neg (by omega)]
   ·exact(List.filter_sublist.map Prod.fst).nodup r4.hl.nodup
   ·obtain⟨m1,m2⟩:=List.mem_filter.1 hm;obtain⟨q1,q2,q3⟩:=r4.hl.own b o m1;have Qh:b<N→lP l0 b:=fun hbN=>by
     rcases q3 with (z|z)|z
     ·exact z
     ·omega
     ·have:=hA.size; omega
    refine⟨up q1 fun U=>?_,q2,m2,Qh⟩;obtain⟨o2,Qp⟩:=Qh (H.sh b U).1;exact(Hr.own b o2 Qp).2.2.1 U
   ·have kp:=r4.hl.kept;exact⟨kp.tape.trans hA.tape,kp.os.trans hA.os,kp.output.trans hA.output,Nat.le_trans hA.size kp.grow,fun b U hk=>(kp.low b (vO U) (by have:=hA.size; omega) (fun z=>z.elim hk (by omega))).trans (hA.old b U id)⟩
 ·rintro Rb w aB r ⟨S',l',q1,q2,q3,q4,q5⟩;refine⟨S',l',q1,q2,q3,fun b o hm=>?_,q5.rm F r⟩;obtain⟨m1,m2,m3,m4⟩:=q4 b o hm;obtain⟨m1,m5⟩:=dn m1;exact⟨up ((xl F).stay r m1) m5,((xl F).keep r m1).trans m2,m3,m4⟩
 ·rintro Rb ak aq v tk en w w' hW hx k ⟨S',l',q1,q2,q3,q4,q5⟩;refine⟨S',l',q1,q2,q3,fun b o hm=>?_,q5.kept hx k⟩;obtain⟨m1,m2,m3,m4⟩:=q4 b o hm;have VB:¬nN Rb v b:=by
   rintro(rfl|U)
   ·rw[hW.rb] at m2;cases m2;simp[nz] at m3
   ·rcases hW.ro.row.2 with ⟨z,_⟩|⟨g,cp,al,z,_,af,_⟩
    ·rw[z] at U; cases U
    ·rw[z] at U;cases U;rw[af] at m2;cases m2;simp[nz] at m3
  obtain⟨m1,m5⟩:=dn m1;exact⟨up (k.mine b m1) m5,(k.block b m1 VB).trans m2,m3,m4⟩
 ·rintro Rb w ⟨S',l',q1,q2,q3,q4,q5⟩;refine⟨S',l',q1,q2,q3,fun b o hm=>?_,q5⟩;obtain⟨m1,m2,m3,m4⟩:=q4 b o hm;refine⟨m1.1,fun e=>m1.2.1 (.inl e),fun e=>m1.2.2.2.1 (.inr (.inr e)),m4,m2⟩
end
abbrev nC(Pb cp:Nat):Value:=.slice (some ⟨Pb,0,none⟩) 1 cp
section
variable {w₀ w aB:World}{Post:Value→World→Prop}{S:Nat→Prop}{N Pb cp:Nat}{s:ByteArray}
theorem Jz(H:wT w₀ N Pb S)(a0:Pb<N)(a1:w₀.cell? ⟨Pb,0,none⟩=some (.string s))(a2:s.size≤20000)(Shun:Loc→Prop)(w:World)[Go.ConcR.Payload][Go.ConcX.Payload](U:He w₀ (oE N (nC Pb cp) 62 (zM N)) w):XK (aC prog N Pb (fJ N Shun) (nC Pb cp) (N+9) (fun _=>False)) (true,V (bV s)) (born prog (jK N)) w:=by
 obtain rfl:=H.size;have hB:HB w₀.heap.size (zM w₀.heap.size) w:=⟨U.blocks 1 _ rfl,U.blocks 3 _ rfl,U.blocks 5 _ rfl,U.blocks 7 _ rfl,U.blocks 8 _ rfl⟩;have hQ:HQ w₀.heap.size Pb cp s w:=⟨U.blocks 0 _ rfl,(World.cell?_of_block (U.old Pb a0)).trans a1,a0⟩;refine Q3 hB fun aB r=>?_
 have:=AN (Shun:=fJ w₀.heap.size Shun) (B:=w₀.heap.size+9) (Mine:=fun _=>False) (hB.rc r) (hQ.rc r) (by omega);simpa using this
theorem AO(H:wT w₀ N Pb S)(a5:Pb<N)(a6:w₀.cell? ⟨Pb,0,none⟩=some (.string s))(a7:s.size≤20000)
 (a4:∀Shun:Loc→Prop,(∀l,Shun l→∃ad:Addr,l=.cell ad∧S ad.block)→Client (aC prog N Pb (fJ N Shun) (nC Pb cp) (N+9) (fun _=>False)) N (bV s) f cap A Fw I)(a2:∀w,He w₀ (oE N (nC Pb cp) 62 (zM N)) w→A w)(a3:∀w aB,Go.ConcX.Aside2 N (N+6) w aB→Fw w→Fw aB) :
  ew prog (ZI prog Post 0) 37 #[nC Pb cp,.func (.func f) #[] cap] S w₀ (fun S' x w'=>x=.tuple #[]∧S'=SE N S∧Fw w'∧w'.heap[N+6]?=some (.cells #[.int .u64 0,.int .u32 0] 169)):=by
 have C:aV prog true (fun _:Nat→Prop=>AtRel) DZ (ZI prog Post 0):=ZI.closed;have T:∀S,Terms AtRel (DZ S):=sJ;have mk:∀w es,(Instr.makeFunc (Fn.func 62) #[] #[Value.pointer (sq N)]).events prog w es=es:=fun w es=>by simp[Instr.makeFunc]
 obtain rfl:=H.size;have hF:=He.start w₀;refine gn func37 (by rfl) rfl ?_;simp only[ntmps37,List.size_toArray,List.length_cons,List.length_nil,Nat.reduceAdd,Nat.reduceSub,Array.replicate_succ,Array.replicate_zero,List.push_toArray,List.append_toArray,List.nil_append,List.cons_append];refine bS C T ?_;refine aP C T ?_;simp only[ia,Nat.reduceAdd];refine aD C rfl (by rfl) fun _ hR Kx U=>?_;replace hF:=He.rely hF hR;clear hR;go_simp;try (unfold stored; go_simp)
 refine U _ _ ⟨?_,?_⟩
 ·intro e he;have hm:=mem_listed he;simp[go_sem, *] at hm
 clear U Kx;try walk_nrm
 have a0:=hF.size;simp only[List.length_cons,List.length_nil,Nat.reduceAdd,Nat.add_zero,Nat.zero_add] at a0;simp only[a0];clear a0;replace hF:=hF.alloc (.cells #[nC Pb cp] 62);simp only[List.cons_append,List.nil_append] at hF;refine aS C T ?_;show fx _ _ _ _ _ _ _;refine aP C T ?_;simp only[ia,Nat.reduceAdd];refine aD C rfl (by rfl) fun _ hR Kx U=>?_;replace hF:=He.rely hF hR;clear hR;go_simp;try (unfold stored; go_simp)
 refine U _ _ ⟨?_,?_⟩
 ·co_still (T _)
 clear U Kx;try walk_nrm
 refine aD C rfl (by rfl) fun _ hR Kx U=>?_;replace hF:=He.rely hF hR;clear hR;go_simp;try (unfold stored; go_simp)
 refine U _ _ ⟨?_,?_⟩
 ·co_quiet (T _)
 clear U Kx;try walk_nrm
 have a1:=R9 (Post:=Post) (f:=f) (fr:=62) (cap:=cap) (cr:=#[.pointer (sq w₀.heap.size)]) (l:=bV s) H hF (by have:=ym s; omega) (fun Shun w _ _ h=>Jz H a5 a6 a7 Shun w h) a4 a2 a3;refine jl C T rfl (by rfl) rfl rfl (by simp[Act.eval]) rfl a1 ?_;rintro _ _ _ ⟨rfl,h1,h2⟩;refine aS C T ?_;exact⟨.inl rfl,rfl,_,resultsC_none (by rfl) _,rfl,rfl,h1,h2⟩
end
section
variable {KT:TypeId→Prop}{N0:Nat}{M:World→Nat→Prop}{O:Nat→Prop}{R:Wq}{D:World→World→Array Event→Prop}{H:Hq→World→Prop}{p:Prop}
theorem Co.with(U:p)(Z:Co KT N0 M O R D H):Co KT N0 M O R D (fun l w=>p∧H l w) where
 env:=Z.env
 rely h r:=⟨U,Z.rely h.2 r⟩
 size h:=Z.size h.2
 own h hm:=Z.own h.2 hm
 nodup h:=Z.nodup h.2
 grown h hO:=⟨U,Z.grown h.2 hO⟩
 turn h hO hb hk:=⟨U,Z.turn h.2 hO hb hk⟩
 perm h q:=⟨U,Z.perm h.2 q⟩
 drop h:=⟨U,Z.drop h.2⟩
 past h k hs:=⟨U,Z.past h.2 k hs⟩
 call h h':=⟨U,Z.call h.2 h'⟩
end
abbrev Zx:=(Nat→Prop) × Nat
def Bl (Ex:Nat→Prop)(w₀:World)(j:Zx)(l:List (Nat × Obj))(w:World):Prop:=((∀b,j.1 b→b<j.2)∧∀b,j.1 b→w₀.heap.size≤b)∧HL (ut j.1) (fun _=>False) j.2 Ex w₀ l w
section
variable {Post:Value→World→Prop}{Ex:Nat→Prop}{w₀ w:World}{An:bC}
theorem qh:Cy prog eS (fun j:Zx=>j.2) (fun j=>ut j.1) (fun _ _=>False) (fun _=>AtRel) (fun j=>DZ j.1) (fun j=>ZI prog Post 0 j.1) (Bl Ex w₀) where
 C:=⟨fun h r=>(ZI.closed (P:=prog) (Post:=Post)).rely h r,fun hs h=>(ZI.closed (P:=prog) (Post:=Post)).step hs h⟩
 T j:=sJ j.1
 ne:=Cb
 Z h:=Co.with h.1 (HL.co (Pv h.1.1))
end
def Li:Option Addr→List Nat
 | some ad=>[ad.block]
 | none=>[]
def yK:Nat→Value→List Nat
 | 0,_=>[]
 | n+1,v=>match v with
  | .pointer p=>Li p
  | .slice p _ _=>Li p
  | .func _ x y=>x.toList.flatMap (yK n)++y.toList.flatMap (yK n)
  | .agg x=>x.toList.flatMap (yK n)
  | .tuple x=>x.toList.flatMap (yK n)
  | _=>[]
def RU:Obj→List Nat
 | .cells cs _ _=>cs.toList.flatMap (yK 5)
 | _=>[]
def AS.reach(s:AS):Nat→List Nat→AS→AS
 | 0,_,r=>r
 | _+1,[],r=>r
 | n+1,b::l,r=>match r.get b with
  | some _=>s.reach n l r
  | none=>match s.get b with
   | some o=>if nz o then s.reach n (RU o++l) (r.set b (some o)) else s.reach n l r
   | none=>s.reach n l r
theorem AS.jZ{s:AS}:∀{n:Nat} {l:List Nat} {r:AS},(∀b o,r.get b=some o→s.get b=some o∧nz o=true)→∀b o,(s.reach n l r).get b=some o→s.get b=some o∧nz o=true
 | 0,l,r,h=>h
 | n+1,[],r,h=>h
 | n+1,c::l,r,h=>by
  unfold AS.reach;split
  ·exact AS.jZ h
  ·split
   ·next o hc =>
    split
    ·next hk =>
     refine AS.jZ fun b o' U=>?_;rw[AS.aK] at U;split at U
     ·next e=>subst e; cases U; exact⟨hc,hk⟩
     ·exact h b o' U
    ·exact AS.jZ h
   ·exact AS.jZ h
def AS.tidy(m:Nat)(s:AS):AS:=⟨(s.reach 5000 (List.range m) ⟨[],0⟩).hp,s.nx⟩
theorem AS.FO{m:Nat}{s:AS}{o:Obj}(h:(s.tidy m).get b=some o):s.get b=some o∧nz o=true :=
 AS.jZ (n:=5000) (l:=List.range m) (r:=⟨[],0⟩) (fun b o h=>by unfold AS.get at h; simp at h) b o h
def AS.keeps(s s':AS):Bool:=(List.range s.nx).all fun b=>(s.get b).isNone||(s'.get b).isSome
section
variable {Post:Value→World→Prop}{Ex:Nat→Prop}{w₀:World}{An:bC}
theorem sY{S:Nat→Prop}{U:(Nat→Prop)→Value→World→Prop}{P2:Zx→Value→World→Prop}(h:ew prog (ZI prog Post 0) f args S w U)(hv:∀S' v w',U S' v w'→∃n',∀aB,AtRel w' aB→P2 (S',n') v aB) :
  jI prog (fun _:Zx=>AtRel) (fun j=>DZ j.1) (fun j=>ZI prog Post 0 j.1) f args (S,n) w P2:=by
 obtain⟨aJ,c,h1,h2,h3,h4⟩:=h;refine⟨aJ,c,h1,h2,h3,fun b k cs hb hk hc=>h4 b k cs hb hk fun S' e a' w' q=>?_⟩;obtain⟨q1,q2,v,q3,q4⟩:=q;obtain⟨n',Dj⟩:=hv S' v w' q4
 have:=hc (S',n') e a' w' ⟨q1,q2,fun aB r=>⟨v,(q3 aB).1,by rw[(q3 aB).2]; exact(sJ S').idle _,Dj aB r⟩⟩;cases e<;>exact this
def wV(sS:AS→AS):Prop:=∀s:AS,(sS s).nx=s.nx∧∀b o,(sS s).get b=some o→s.get b=some o∧nz o=true
theorem Ky(m:Nat):wV (AS.tidy m):=fun _=>⟨rfl,fun _ _ h=>AS.FO h⟩
open Classical in
theorem Ro{e1:Nat}(h1:An 1=some (1,z1,e1)){s s2:AS}(b4:1<s.nx){y:Aq}{fz:Nat × Nat}(hb:s.get bp=some (.cells cs 9 fz))(hf:prog.funcs[f]?=some aJ){str:ByteArray}{rest:Vq}(au:cs.toList=.string str::rest)(ae:aJ.body=some c)(ai:aJ.results.toList.isEmpty=true)(aj:iB str.data.toList 0≤20000){S:bC}
 (b3:∀{ι:Type} {N0:ι→Nat} {M:ι→World→Nat→Prop} {O:ι→Nat→Prop} {R:ι→Wq} {D:ι→World→World→Array Event→Prop} {X:ι→Gq} {Hd:ι→Hq→World→Prop} (_:Cy prog eS N0 M O R D X Hd) (A:bC),(∀b,s.nx+1≤b→A b=S b)→ck prog eS A R D X Hd (cR s.nx (bV str))→ck prog eS A R D X Hd pr){sS:AS→AS}(aa:wV sS)(av:eJ prog mB pr n c ((am s.nx 0::y.toList)++List.replicate (aJ.ntmps-(y.size+1)) undef) ⟨(s.set bp none).hp,s.nx+1⟩=some (e,iF,s2))(b6:s.nx+1≤s2.nx)(a7:AS.keeps (s.set bp none) s2=true)(he:e=.normal∨e=.ret)
 {l fr:Hq}{j:Zx}(hS:eK prog eS An S s l)(hF:Bl Ex w₀ j (l++fr) w)(hA:AR (VR S) #[.slice (sq bp) 1 c0,.func (.func f) #[] y] args')(aw:∀b,s.nx≤b→b<s2.nx→S b=none) :
  jI prog (fun _:Zx=>AtRel) (fun j=>DZ j.1) (fun j=>ZI prog Post 0 j.1) 37 args' j w fun i' v' w'=>∃S' l',S.le S'∧(∀b,b<s.nx∨(sS s2).nx≤b→S' b=S b)∧eK prog eS An S' (sS s2) l'∧Bl Ex w₀ i' (l'++fr) w'∧VR S' (.tuple #[]) v':=by
 have ak:str.size≤20000:=by rw[iO,Nat.zero_add,Array.length_toList] at aj; exact aj
 have af:aJ.results=#[]:=by apply Array.toList_inj.1; simpa using ai
 obtain⟨a0,a1,rfl,v0,v1⟩:=K0 hA;obtain⟨Pb,zP,eP,cp,X9,rfl,_,_,_,_⟩:=v0.sl;obtain⟨p',cap,rfl,Ox,U0⟩:=v1.fn;have VF:p'=#[]:=by apply Array.toList_inj.1; have:=Ox.1; simp at this; exact List.eq_nil_of_length_eq_zero (by simpa using this.symm)
 subst VF;obtain⟨⟨hj,ax⟩,U⟩:=hF;obtain⟨kk,oP,hk,eH,kG,BQ,MP⟩:=hS.at (fr:=fr) hb X9;obtain⟨ag,rfl,hzP,⟨hleP,_⟩,Mq⟩:=BQ;have Qr:(Pb,Obj.cells ag 9)∈l++fr:=List.mem_of_getElem? kG;obtain⟨Vw,hgP,_⟩:=U.own _ _ Qr;have hps:w.cell? ⟨Pb,0,none⟩=some (.string str):=by
  have h0:cs[0]?=some (.string str):=by
   have:cs.toList[0]?=some (.string str):=by rw[au]; rfl
   simpa using this
  have a9:0<ag.size:=by have:=(Array.getElem?_eq_some_iff.1 h0).1; omega
  have:=(Mq 0 _ _ h0 (Array.getElem?_eq_getElem a9)).sc rfl;simp[World.cell?,hgP,this,a9]
 let a2:Nat × Obj→Prop:=fun q=>∃nm ob z e,(s.set bp none).get nm=some ob∧S nm=some (q.1,z,e);have hH:wT w w.heap.size Pb j.1:=⟨rfl,.inl Vw.1,fun b jA=>⟨Nat.lt_of_lt_of_le (hj b jA) U.size,fun e'=>Vw.2 (e'▸jA)⟩⟩;have Am:∀nm ob,(s.set bp none).get nm=some ob→nm≠bp∧s.get nm=some ob:=fun nm ob hq=>by
  rw[AS.aK] at hq;split at hq
  ·cases hq
  ·next az=>exact⟨az,hq⟩
 have ao:XN w w.heap.size Pb j.1 (s.set bp none) S An (l.filter fun q=>decide (a2 q)):=by
  refine⟨rfl,⟨fun b o a4=>?_,fun b b' o o' q q' a4 UT=>hS.inj b b' o o' q q' (Am b o a4).2 (Am b' o' UT).2,fun b o a4=>hS.lt b o (Am b o a4).2,hS.an⟩,fun b o hm=>?_,?_,fun b o hm=>?_⟩
  ·obtain⟨g,z,e,o',q1,q2,q3,q4⟩:=hS.live b o (Am b o a4).2;exact⟨g,z,e,o',q1,List.mem_filter.2 ⟨q2,decide_eq_true ⟨b,o,z,e,a4,q1⟩⟩,q3,q4⟩
  ·obtain⟨m1,m2⟩:=List.mem_filter.1 hm;obtain⟨nm,ob,z,e,q1,q2⟩:=of_decide_eq_true m2;obtain⟨m3,m4,_⟩:=U.own b o (List.mem_append_left _ m1);refine⟨m3.1,fun e'=>?_,m3.2,m4⟩
   have:=hS.inj nm bp ob _ _ _ (Am nm ob q1).2 hb q2 X9 e';exact(Am nm ob q1).1 this
  ·have a8:=U.nodup;rw[List.map_append] at a8;exact(List.filter_sublist.map Prod.fst).nodup (List.nodup_append.1 a8).1
  ·obtain⟨m1,m2⟩:=List.mem_filter.1 hm;exact of_decide_eq_true m2
 obtain⟨hg,ay⟩:=vN str ak;have My:∀nm ob,(s.set bp none).get nm=some ob→∃zm,s2.get nm=some zm:=fun nm ob hq=>by
  unfold AS.keeps at a7
  have:=dW a7 (i:=nm) (hS.lt nm ob (Am nm ob hq).2);rw[hq] at this;simp only[Option.isNone_some,Bool.false_or] at this;exact Option.isSome_iff_exists.1 this
 have ar:=fun (Shun:Loc→Prop) (aq:∀l,Shun l→∃ad:Addr,l=.cell ad∧j.1 ad.block) =>zQ (pr:=pr) (sR:=s.set bp none) (all:=bV str) (fun Y A hA hp=>b3 Y A hA hp) (val:=nC Pb cp) (s':=s2) (s1:=sS s2) hH ao (fun b b1 b2=>aw b b1 b2) (by show s.nx<s2.nx; omega) (hS.an _ _ h1) b4 hg ay hf ae af U0 av he My (aa s2).2 (Nat.le_of_eq (aa s2).1.symm) aq;have hof:=AO (Post:=Post) (cp:=cp) (A:=ko w w.heap.size (fun _=>False)) (Fw:=KR w w.heap.size j.1 (s.set bp none) (sS s2) S (l.filter fun q=>decide (a2 q))) hH Vw.1 hps ak ar (fun w1 QK=>⟨QK.tape,QK.os,QK.output,by rw[QK.size]; simp[oE],fun b jA _=>QK.old b jA⟩) (fun w1 w2 r hq=>by obtain⟨S',l',q1,q2,q3,q4,q5⟩:=hq;refine⟨S',l',q1,q2,q3,fun b o hm=>?_,q5.aside r⟩;obtain⟨m1,m2,m3,m4,m5⟩:=q4 b o hm;exact⟨by rw[r.size]; exact m1,m2,m3,m4,(r.block b m2 m3).trans m5⟩);refine sY (n:=j.2) hof ?_;rintro S' v w' ⟨rfl,rfl,⟨S2,l',q1,q2,q3,q4,q5⟩,q6⟩;have a8:=U.nodup;rw[List.map_append,List.nodup_append] at a8;obtain⟨hnd1,Ga,Qu⟩:=a8;have Mz:∀b,lP (l.filter fun q=>decide (a2 q)) b→∃o,(b,o)∈l:=fun b ⟨o,hm⟩=>⟨o,(List.mem_filter.1 hm).1⟩;have F7:w.heap.size≤w'.heap.size:=by have:=q5.size; omega
 have al:HL (ut (SE w.heap.size j.1)) (fun _=>False) (w.heap.size+7) Ex w₀ (l'++fr) w':=by
  refine⟨⟨q5.tape.trans U.kept.tape,q5.os.trans U.kept.os,q5.output.trans U.kept.output,Nat.le_trans U.kept.grow F7,fun b a3 ah=>?_,fun b a3=>⟨Nat.lt_of_lt_of_le a3.1 (Nat.le_trans U.kept.grow F7),a3.2⟩,fun b z=>z.elim⟩,by have:=q5.size; omega,fun b o hm=>?_,?_⟩
  ·have a6:b<w.heap.size:=Nat.lt_of_lt_of_le a3.1 U.kept.grow;have Qv:¬lP (l.filter fun q=>decide (a2 q)) b:=fun z=>by
    obtain⟨o,hm⟩:=Mz b z;rcases(U.own b o (List.mem_append_left _ hm)).2.2 with z|z
    ·exact ah z
    ·have:=a3.1; omega
   exact(q5.old b a6 Qv).trans (U.kept.block b ⟨a3.1,fun z=>a3.2 (.inl z)⟩ ah)
  ·rcases List.mem_append.1 hm with hm|hm
   ·obtain⟨m1,m2,m3,m4,m5⟩:=q4 b o hm;by_cases a6:b<w.heap.size
    ·obtain⟨o2,a5⟩:=Mz b (m4 a6);obtain⟨r1,r2,r3⟩:=U.own b o2 (List.mem_append_left _ a5);exact⟨⟨m1,fun z=>z.elim r1.2 m3⟩,m5,r3⟩
    ·refine⟨⟨m1,fun z=>z.elim (fun z=>?_) m3⟩,m5,.inr (by have:=U.kept.grow; omega)⟩
     have:=hj b z
     have:=U.size;omega
   ·obtain⟨r1,r2,r3⟩:=U.own b o (List.mem_append_right _ hm);have Qv:¬lP (l.filter fun q=>decide (a2 q)) b:=fun z=>by obtain⟨o2,a5⟩:=Mz b z;exact Qu b (List.mem_map.2 ⟨_,a5,rfl⟩) b (List.mem_map.2 ⟨_,hm,rfl⟩) rfl
    refine⟨⟨Nat.lt_of_lt_of_le r1.1 F7,fun z=>z.elim r1.2 (fun z=>?_)⟩,(q5.old b r1.1 Qv).trans r2,r3⟩
    have:=r1.1;omega
  ·rw[List.map_append,List.nodup_append];refine⟨q3,Ga,fun x hx y hy b5=>?_⟩;subst b5;obtain⟨⟨b,o⟩,hm,rfl⟩:=List.mem_map.1 hx;obtain⟨⟨b2,o2⟩,a5,e2⟩:=List.mem_map.1 hy;have e2:b2=b:=e2;subst e2;have a6:=(U.own b2 o2 (List.mem_append_right _ a5)).1.1;obtain⟨o3,hm3⟩:=Mz b2 ((q4 b2 o hm).2.2.2.1 a6);exact Qu b2 (List.mem_map.2 ⟨_,hm3,rfl⟩) b2 (List.mem_map.2 ⟨_,a5,rfl⟩) rfl
 refine⟨w.heap.size+7,fun aB r=>⟨S2,l',q1.an,q2,⟨q1.live,q1.inj,q1.lt,bC.le_trans hS.an q1.an⟩,⟨⟨fun b z=>?_,fun b z=>?_⟩,al.rely (Pv (KT:=eS) (fun b z=>?_)) r⟩,?_⟩⟩
 ·rcases z with z|z
  ·have:=hj b z; have:=U.size; omega
  ·omega
 ·rcases z with z|z
  ·exact ax b z
  ·have:=U.kept.grow; omega
 ·rcases z with z|z
  ·have:=hj b z; have:=U.size; omega
  ·omega
 ·exact VR.sa AR.nil
end
end Go.Proofs.YtgcaionclkbehaaGreatDoor
