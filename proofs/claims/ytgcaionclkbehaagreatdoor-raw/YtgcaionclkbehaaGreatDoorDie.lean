import Derived.Test.YtgcaionclkbehaaGreatDoorRead
set_option linter.all false
namespace Go.Proofs.YtgcaionclkbehaaGreatDoor
open Tryz
section
open Go.Conc
section
variable {P : Program} {main : Bool} {b : Frame} {a : Act} {k : List Item} {cs : List Frame} {w : World} {ops : Array Oper} {i : Nat} {rest : List Nat} {o : Oper}
theorem stepG_deferX {d : Deferred} (ho : ops[i]? = some o) (hw : Region.wanted o (yielded ops a.tmps) = true) (hk : b.kind ≠ .early) (hr : (execOp a.eval o).run P w = .ok (.defer d) w) (he : (execOp a.eval o).events P w #[] = #[]) :
  stepG P main (G (b.at a (.inRegion ops (i :: rest) :: k)) cs) w = .go (G (b.at (Act.put ⟨a.tmps,d :: a.defers⟩ o.dst undef) (.inRegion ops rest :: k)) cs) w #[] := by
 have hfin : (b.at ⟨a.tmps,d :: a.defers⟩ (.inRegion ops (i :: rest) :: k)).finish undef = b.at (Act.put ⟨a.tmps,d :: a.defers⟩ o.dst undef) (.inRegion ops rest :: k) := by rw [Frame.finish_at,ho]; rfl
 have hk' : (b.kind == CallKind.early) = false := by simpa using hk
 rw [stepG_oper ho hw, ← hfin]
 simp [stepG.apply,hr,he,G,Frame.at,hk',GStep.after,seen_none]
theorem stepG_recover {c : Frame} (ho : ops[i]? = some o) (hw : Region.wanted o (yielded ops a.tmps) = true) (hk : b.kind = .deferred) (hro : b.roundOf = none) (hc : c.mode = .returning) (hr : (execOp a.eval o).run P w = .ok .recover w) (he : (execOp a.eval o).events P w #[] = #[]) :
  stepG P main (G (b.at a (.inRegion ops (i :: rest) :: k)) (c :: cs)) w = .go (G (b.at (a.put o.dst .nilIface) (.inRegion ops rest :: k)) (c :: cs)) w #[] := by
 have hfin : (b.at a (.inRegion ops (i :: rest) :: k)).finish .nilIface = b.at (a.put o.dst .nilIface) (.inRegion ops rest :: k) := by rw [Frame.finish_at,ho]; rfl
 rw [stepG_oper ho hw, ← hfin]
 simp [stepG.apply,hr,he,G,Frame.at,hk,hro,tryRecover,hc,GStep.after,seen_none]
variable {todo : List Item} {ds : List Deferred} {f : FuncId} {fn : Func} {args cap : Array Value}
theorem stepG_unwind_closure {c : Code} (hd : a.defers = { target := .fn (.func f) cap, args := args } :: ds) (hf : P.funcs[f]? = some fn) (hname : (fn.name == "runtime.NumGoroutine") = false) (hb : fn.body = some c) :
  stepG P main (G { b.at a todo with mode := .returning } cs) w =
   .go (G ((baseD f).at { tmps := (args ++ cap) ++ Array.replicate (fn.ntmps - (args ++ cap).size) undef,defers := [] } [.code c]) ({ b.at ⟨a.tmps,ds⟩ todo with mode := .returning } :: cs)) w #[] := by
 have h1 : ¬ fn.name = "runtime.NumGoroutine" := by simpa using hname
 rw [← enter_atD (args ++ cap) hf hb]
 simp [G,stepG,unwind,callDeferred,Frame.at,hd,invoke,callFunc,hf,h1,hb,GStep.after,seen_none]
theorem stepG_unwind_close {ats : Array TypeId} {ty : TypeId} {cn : Array Bool} {r cap s rc : Nat} {buf : Array Value} {tm : Bool} (hd : a.defers = { target := .builtin .close ats ty cn,args := #[.chan (some r)] } :: ds)
  (h : w.heap[r]? = some (.chan cap buf false s rc tm)) (hq : (P.funcs[b.fn]?).any (·.norace) = false) :
  stepG P main (G { b.at a todo with mode := .returning } cs) w = .go (G { b.at ⟨a.tmps,ds⟩ todo with mode := .returning } cs) (w.setChan r cap buf true s rc tm) (closeEvents r) := by
 have hr : (builtin .close ats ty cn #[.chan (some r)]).run P w = .ok (.value (.tuple #[])) (w.setChan r cap buf true s rc tm) := by
  simp [go_sem,run_close_open _ _ h,World.setChan]
 have he : (builtin .close ats ty cn #[.chan (some r)]).events P w #[] = closeEvents r := by
  simp [go_sem,events_close_open _ _ h,closeEvents]
 have hs : seen P b.fn (closeEvents r) = closeEvents r := seen_eq hq (by intro e he f; simp only [closeEvents,List.mem_toArray,List.mem_cons,List.not_mem_nil,or_false] at he; rcases he with rfl | rfl <;> simp)
 simp [G,stepG,unwind,callDeferred,Frame.at,hd,invoke,hr,he,hs,GStep.after]
end
end
set_option maxRecDepth 100000
set_option maxHeartbeats 2000000
section
open Go.Conc Go.RowKit
structure HB (N : Nat) (nv : Value) (w : World) : Prop where
 nx : w.heap[N + 1]? = some (.cells #[nv] 110)
 lv : w.heap[N + 3]? = some (.cells #[.chan (some (N + 2))] 158)
 ev : w.heap[N + 5]? = some (.cells #[.chan (some (N + 4))] 159)
 wb : w.heap[N + 7]? = some (.cells #[.pointer (some ⟨N + 6,0,none⟩)] 240)
 fb : w.heap[N + 8]? = some (.cells #[.func (.func 112) #[] #[.pointer (some ⟨N + 5,0,none⟩), .pointer (some ⟨N + 1,0,none⟩), .pointer (some ⟨N + 3,0,none⟩)]] 1)
structure HE (N : Nat) (val : Value) (w : World) : Prop where
 pc : ∃ t,w.heap[N]? = some (.cells #[val] t)
 wb : w.heap[N + 7]? = some (.cells #[.pointer (some ⟨N + 6,0,none⟩)] 240)
 bf : ∃ o,w.heap[N + 8]? = some o
structure HQ (N Pb cp : Nat) (s : ByteArray) (w : World) : Prop where
 pc : w.heap[N]? = some (.cells #[.slice (some ⟨Pb,0,none⟩) 1 cp] 62)
 ps : w.cell? ⟨Pb,0,none⟩ = some (.string s)
 lo : Pb < N
def closeD (N : Nat) : Deferred := { target := .builtin .close #[159] 0 #[false],args := #[.chan (some (N + 4))] }
section
variable {N Pb cp : Nat} {Shun : Loc → Prop} {val nv : Value} {B : Nat} {Mine : Loc → Prop} {w w₁ : World}
theorem cell1 {b : Nat} {v : Value} {t : TypeId} (h : w.heap[b]? = some (.cells #[v] t)) : w.cell? ⟨b,0,none⟩ = some v := by simp [World.cell?,h]
variable [Go.ConcR.Payload] [Go.ConcX.Payload]
variable {s : ByteArray}
theorem HB.rc (h : HB N nv w) (r : RC (kcfg prog N Pb Shun val B Mine) w w₁) : HB N nv w₁ :=
 ⟨(r _ (.inr (.inl rfl))).trans h.nx,(r _ (.inr (.inr (.inl rfl)))).trans h.lv,(r _ (.inr (.inr (.inr (.inl rfl))))).trans h.ev,(r _ (.inr (.inr (.inr (.inr (.inl rfl)))))).trans h.wb,(r _ (.inr (.inr (.inr (.inr (.inr (.inl rfl))))))).trans h.fb⟩
theorem HB.rely {i : Ix} (h : HB N nv w) (r : RKd (kcfg prog N Pb Shun val B Mine) i w w₁) : HB N nv w₁ := h.rc r.rc
theorem HB.size (h : HB N nv w) : N + 9 ≤ w.heap.size := by
 have := (Array.getElem?_eq_some_iff.1 h.fb).1
 omega
theorem HE.size (h : HE N val w) : N + 9 ≤ w.heap.size := by
 obtain ⟨o,ho⟩ := h.bf
 have := (Array.getElem?_eq_some_iff.1 ho).1
 omega
theorem HQ.rc (h : HQ N Pb cp s w) (r : RC (kcfg prog N Pb Shun val B Mine) w w₁) : HQ N Pb cp s w₁ := by
 refine ⟨(r _ (.inl (.inl rfl))).trans h.pc,?_,h.lo⟩
 have := r Pb (.inr (.inr (.inr (.inr (.inr (.inr rfl))))))
 rw [← h.ps]; unfold World.cell?; rw [this]
theorem HQ.rely {i : Ix} (h : HQ N Pb cp s w) (r : RKd (kcfg prog N Pb Shun val B Mine) i w w₁) : HQ N Pb cp s w₁ := h.rc r.rc
theorem HB.hp (h : HB N nv w) (q : HQ N Pb cp s w) : HP N Pb cp s 0 0 0 #[] #[] w := ⟨h.lv,q.ps,q.lo,⟨_,h.fb⟩,fun h => absurd h (by omega),fun h => absurd h (by omega),fun h => absurd h (by omega),fun h => absurd h (by omega),q.pc,h.wb⟩
theorem dk_look {K : Cfg} {es : Array Event} (h : ∀ e ∈ es,EvK K w e) : DK K w w es :=
 ⟨rfl,rfl,rfl,fun _ _ _ => rfl,fun _ h => h,fun _ h1 h2 => absurd h1 (by omega),rfl,Nat.le_refl _,h⟩
theorem evl_still {o : Nat} {b : Nat} (hb : b = N + 1 ∨ b = N + 3 ∨ b = N + 5 ∨ b = N + 7 ∨ b = N + 8 ∨ b = Pb) : EvK (kcfg prog N Pb Shun val B Mine) w ⟨.cell ⟨b,o,none⟩,false,false⟩ := .inl ⟨_,_,rfl, .inr ⟨hb,rfl⟩⟩
theorem evl_kid {o : Nat} {wr : Bool} : EvK (kcfg prog N Pb Shun val B Mine) w ⟨.cell ⟨N,o,none⟩,wr,false⟩ := .inl ⟨_,_,rfl, .inl (.inl rfl)⟩
theorem opsX_defer {ι : Type} {P : Program} {main : Bool} {R : ι → World → World → Prop} {D : World → World → Array Event → Prop} {X : ι → Goroutine → World → Prop} {fn : FuncId} {Q : PostX ι} {a : Act} {w : World} {vs : ι} (C : Closed P main R D X) (T : ∀ i,Terms (R i) D)
  {ops : Array Oper} {i : Nat} {rest : List Nat} {o : Oper} {d : Deferred} (ho : ops[i]? = some o) (hw : Region.wanted o (yielded ops a.tmps) = true) (hr : ∀ w,(execOp a.eval o).run P w = .ok (.defer d) w) (he : ∀ w,(execOp a.eval o).events P w #[] = #[])
  (h : OpsX X fn ops rest vs Q (Act.put ⟨a.tmps,d :: a.defers⟩ o.dst undef) w) : OpsX X fn ops (i :: rest) vs Q a w := fun b k cs hb hk hc => C.step rfl fun w₁ h₁ => by
 rw [stepG_deferX ho hw hk (hr w₁) (he w₁)]
 exact ⟨(T vs).idle _,C.rely (h b k cs hb hk hc) h₁⟩
def bytesV (N : Nat) : Value := .func (.func 62) #[] #[.pointer (some ⟨N,0,none⟩)]
theorem ofbytes1_x (hF : HB N nv w) (hQ : HQ N Pb cp s w) (hz : s.size ≤ 9223372036854775806) :
  zj8 prog (XK (kcfg prog N Pb Shun (.slice (some ⟨Pb,0,none⟩) 1 cp) B Mine)) 62 #[sendV N, .pointer (some ⟨N,0,none⟩)] (true,V (zd0 s)) w (fun i' _ w' => i'.2 = [] ∧ HE N (.slice (some ⟨Pb,0,none⟩) 1 cp) w') := by
 have C : Closed prog false (RKd (kcfg prog N Pb Shun (.slice (some ⟨Pb,0,none⟩) 1 cp) B Mine)) (DK (kcfg prog N Pb Shun (.slice (some ⟨Pb,0,none⟩) 1 cp) B Mine)) (XK (kcfg prog N Pb Shun (.slice (some ⟨Pb,0,none⟩) 1 cp) B Mine)) := XK.closed (K := (kcfg prog N Pb Shun (.slice (some ⟨Pb,0,none⟩) 1 cp) B Mine))
 have T := zm6 (K := (kcfg prog N Pb Shun (.slice (some ⟨Pb,0,none⟩) 1 cp) B Mine))
 have Tq := T (true, [])
 refine zf5 func62 (by rfl) rfl ?_
 simp only [ntmps62,List.size_toArray,List.length_cons,List.length_nil,Nat.reduceAdd,Nat.reduceSub,Array.replicate_succ,Array.replicate_zero,List.push_toArray,List.append_toArray,List.nil_append,List.cons_append]
 refine zb2 C T ?_
 simp only [szR,Nat.reduceAdd]
 refine za4 C rfl (by rfl) fun _ hR Kx hKx => ?_
 replace hF := HB.rely hF hR
 replace hQ := HQ.rely hQ hR
 clear hR
 have hc := cell1 hQ.pc
 go_simp
 try (unfold stored; go_simp)
 refine hKx _ _ ⟨?_,?_⟩
 ·
  refine dk_look ?_
  co_evs (exact evl_kid)
 clear hKx Kx
 try walk_nrm
 clear hc
 refine za4 C rfl (by rfl) fun _ hR Kx hKx => ?_
 replace hF := HB.rely hF hR
 replace hQ := HQ.rely hQ hR
 clear hR
 go_simp
 try (unfold stored; go_simp)
 refine hKx _ _ ⟨?_,?_⟩
 ·
  co_quiet Tq
 clear hKx Kx
 try walk_nrm
 refine zb4 C T rfl (by rfl) rfl rfl (by simp [Act.eval]) (by rw [List.append_nil]) (read_x (hF.hp hQ) hz []) ?_
 rintro _ _ _ ⟨rfl,c1,c2,c,d,hF⟩
 refine zb6 C T ?_
 exact ⟨.inl rfl,rfl,_,resultsC_none (by rfl) _,rfl,⟨_,hF.pc⟩,hF.wb,⟨_,Array.getElem?_eq_getElem (i := N + 8) (by have := hF.size; omega)⟩⟩
theorem run1_x {f : FuncId} {cap : Array Value} {ls : List Value} (hF : HB N (.func (.func f) #[] cap) w)
  (hn : ∀ w₁,RC (kcfg prog N Pb Shun val B Mine) w w₁ → zj8 prog (XK (kcfg prog N Pb Shun val B Mine)) f (#[sendV N] ++ cap) (true,ls) w₁ (fun i' _ w' => i'.2 = [] ∧ HE N val w')) :
  ∃ c,Tryz.f112.body = some c ∧ wpX (XK (kcfg prog N Pb Shun val B Mine)) 112 c (true,ls) (fun i e a' w' => e = .normal ∧ i.2 = [] ∧ a'.defers = [closeD N] ∧ HE N val w') ⟨#[.pointer (some ⟨N + 5,0,none⟩), .pointer (some ⟨N + 1,0,none⟩), .pointer (some ⟨N + 3,0,none⟩),undef,undef,undef,undef], []⟩ w := by
 have C : Closed prog false (RKd (kcfg prog N Pb Shun val B Mine)) (DK (kcfg prog N Pb Shun val B Mine)) (XK (kcfg prog N Pb Shun val B Mine)) := XK.closed (K := (kcfg prog N Pb Shun val B Mine))
 have T := zm6 (K := (kcfg prog N Pb Shun val B Mine))
 have Tq := T (true, [])
 have mk : ∀ w es,(Instr.makeFunc (Fn.func 113) #[] #[Value.pointer (some ⟨N + 3,0,none⟩)]).events prog w es = es := fun w es => by simp [Instr.makeFunc]
 refine ⟨_,rfl,?_⟩
 refine zf6 C T ?_
 refine zb2 C T ?_
 simp only [szR,Nat.reduceAdd]
 refine za4 C rfl (by rfl) fun _ hR Kx hKx => ?_
 replace hF := HB.rely hF hR
 replace hn := fun w₁ h₁ => hn w₁ (RC.trans hR.rc h₁)
 clear hR
 have hc := cell1 hF.ev
 go_simp
 try (unfold stored; go_simp)
 refine hKx _ _ ⟨?_,?_⟩
 ·
  refine dk_look ?_
  co_evs (exact evl_still (.inr (.inr (.inl rfl))))
 clear hKx Kx
 try walk_nrm
 clear hc
 refine opsX_defer C T (d := closeD N) rfl (by rfl) (fun w => by simp [execOp,go_sem,resolve,closeD,Act.eval]) (fun w => by simp [execOp,go_sem,resolve,Act.eval]) ?_
 try walk_nrm
 refine zb6 C T ?_
 show wpX _ _ _ _ _ _ _
 refine zb2 C T ?_
 simp only [szR,Nat.reduceAdd]
 refine za4 C rfl (by rfl) fun _ hR Kx hKx => ?_
 replace hF := HB.rely hF hR
 replace hn := fun w₁ h₁ => hn w₁ (RC.trans hR.rc h₁)
 clear hR
 have hc := cell1 hF.nx
 go_simp
 try (unfold stored; go_simp)
 refine hKx _ _ ⟨?_,?_⟩
 ·
  refine dk_look ?_
  co_evs (exact evl_still (.inl rfl))
 clear hKx Kx
 try walk_nrm
 clear hc
 refine za4 C rfl (by rfl) fun _ hR Kx hKx => ?_
 replace hF := HB.rely hF hR
 replace hn := fun w₁ h₁ => hn w₁ (RC.trans hR.rc h₁)
 clear hR
 go_simp
 try (unfold stored; go_simp)
 refine hKx _ _ ⟨?_,?_⟩
 ·
  co_still Tq
 clear hKx Kx
 try walk_nrm
 refine zb4 C T rfl (by rfl) rfl rfl (by simp [Act.eval]; rfl) rfl (hn _ (RC.refl _)) ?_
 rintro i _ _ ⟨hi,hF⟩
 refine zb6 C T ?_
 exact ⟨rfl,hi,rfl,hF⟩
end
end
set_option maxRecDepth 100000
section
open Go.Conc Go.ConcN Go.RowKit Go.Conc.Lib Go.ConcR.Gen Go.ConcN.Gen
open Go.ConcR (KK wgBlock WgAt stA smA rd wr mk Payload Aside2 DC0)
variable [Payload] {L : WgLink}
theorem doneX {P : Program} (H : WgLib P L) {Own Rd : Nat → Loc → Prop} {Wg C n Low k : Nat} {val : Value} {b₀ : Frame} {a₀ : Act} {ops₀ : Array Oper} {i₀ : Nat} {rest₀ : List Nat} {k₀ : List Item} {cs : List Frame} {qt : Nat}
  (hT : QuitsD P qt 0 (G (b₀.at (a₀.put ((ops₀[i₀]?).bind (·.dst)) (.tuple #[])) (.inRegion ops₀ rest₀ :: k₀)) cs)) (w : World) (hK : WgLive L.tWg Wg w ∧ Has C (k - 1) val w) :
  Goes P false (RW L.tWg Wg C n Low (k - 1)) (DWs Wg Own Rd C n k) (AtR0 P L.tWg Wg C n Low k val) 23 (G ((base L.done).at ⟨#[.pointer (some ⟨Wg,0,none⟩),undef,undef,undef], []⟩ [.code (body_done L)]) (b₀.at a₀ (.inRegion ops₀ (i₀ :: rest₀) :: k₀) :: cs)) w := by
 lib_facts
 have hA := @addNegN _ L P H Own Rd Wg C n Low k val
 simp only [body_done,body_add,doneFn,addFn,Option.getD_some] at hA ⊢
 u_reg kn_rely hK
 u_op kn_rely hK
 u_in kn_rely hK
 refine goes_call rfl rfl (by k_ne) rfl H.f_add (nm_add L) rfl ⟨by u_nil,?_⟩
 walk_nrmf addFn
 refine hA (qt := qt + 3) ?_ _ hK
 q_c stepG_region_end
 q_c stepG_end
 exact QuitsD.leave0 rfl rfl H.f_done rfl hT
end
set_option maxRecDepth 100000
set_option maxHeartbeats 2000000
section
open Go.Conc Go.RowKit
def bot (P : Program) : Frame := { (default : Frame) with fn := P.funcs.size,defers := [],mode := .panicking [goexitEntry] }
def dGo (N : Nat) : Deferred := { target := .fn (.func 201) #[.pointer (some ⟨N + 7,0,none⟩)],args := #[] }
def zh3 (N : Nat) : Value := .func (.func 112) #[] #[.pointer (some ⟨N + 5,0,none⟩), .pointer (some ⟨N + 1,0,none⟩), .pointer (some ⟨N + 3,0,none⟩)]
def opsGo (b : Option Code) : Array Oper := match b with | some (.seq _ (.region _ ops _)) => ops | _ => #[]
def frGo (b : Option Code) (N : Nat) : Frame := (baseD 200).at ⟨#[.pointer (some ⟨N + 7,0,none⟩), .pointer (some ⟨N + 8,0,none⟩), .func (.func 201) #[] #[.pointer (some ⟨N + 7,0,none⟩)],zh3 N,undef], [dGo N]⟩ [.inRegion (opsGo b) [1]]
theorem Way.closed {P : Program} {main : Bool} {R : World → World → Prop} {D : World → World → Array Event → Prop} {Stop : Goroutine → World → Prop} (trans : ∀ a b c,R a b → R b c → R a c) : Closed P main (fun _ : Unit => R) D (fun _ => Way P main R D Stop) where
 rely := fun {_ _ _ _} h hr => Way.rely trans h hr
 step := by
  intro i g w hs h
  refine Way.step hs fun w₁ h₁ => ?_
  have hw := h w₁ h₁
  cases e : stepG P main g w₁ with
  | go g' w' es => rw [e,goes_go] at hw; exact ⟨g',w',es,rfl,hw.1,hw.2⟩
  | _ => rw [e] at hw; exact hw.elim
section
variable {N Pb : Nat} {Shun : Loc → Prop} {val : Value} {B : Nat} {Mine : Loc → Prop} {S : Nat → Prop} {w w₁ : World}
variable [Go.ConcR.Payload] [Go.ConcX.Payload]
variable {s : ByteArray}
structure HJ (N : Nat) (val : Value) (w : World) : Prop where
 pc : ∃ t,w.heap[N]? = some (.cells #[val] t)
 wb : w.heap[N + 7]? = some (.cells #[.pointer (some ⟨N + 6,0,none⟩)] 240)
 live : Go.ConcN.WgLive 169 (N + 6) w
theorem HJ.rely (hS : S N) (h : HJ N val w) (r : RJ (kcfg prog N Pb Shun val B Mine) S w w₁) : HJ N val w₁ := ⟨h.pc.imp fun _ z => (r.rc _ (.inl hS)).trans z,(r.rc _ (.inr (.inr (.inr (.inr (.inl rfl)))))).trans h.wb,r.live h.live⟩
theorem dj_same (hS : S N) {es : Array Event} (h : ∀ e ∈ es,EvB N Pb N N e) : DJ (kcfg prog N Pb Shun val B Mine) S w w es := by
 refine ⟨⟨rfl,rfl,rfl,rfl,fun _ _ => rfl,id,fun _ _ => rfl⟩,fun e he => ?_⟩
 obtain ⟨a,wr,rfl,ha⟩ := h e he
 refine ⟨fun fn pos => ⟨rfl,fun x hx => ?_⟩,by simp,by simp,by simp⟩
 have hx' : x = ⟨.cell a,wr, .plain⟩ := by
  simp only [MemAct.ofEvent,MemAct.touch?] at hx
  cases wr <;> simpa using hx.symm
 subst hx'
 rcases ha with h | ⟨h,rfl⟩
 ·
  exact .inr (.inl (.inl ⟨a,rfl,by rw [show a.block = N by omega]; exact hS⟩))
 ·
  exact .inr (.inr ⟨⟨a,rfl,h⟩,rfl⟩)
theorem zg9 (hS : S N) (w : World) : DJ (kcfg prog N Pb Shun val B Mine) S w w #[] := dj_same (Pb := Pb) hS (by simp)
theorem die_x (hS : S N) (hF : HJ N val w) (tm : Array Value) :
  Way prog false (RJ (kcfg prog N Pb Shun val B Mine) S) (DJ (kcfg prog N Pb Shun val B Mine) S) (AtR0k (kcfg prog N Pb Shun val B Mine)) (G { (base 112).at ⟨tm, []⟩ [] with mode := .returning } [frGo Tryz.f200.body N,(bot prog)]) w := by
 have CJ := Way.closed (P := prog) (main := false) (R := RJ (kcfg prog N Pb Shun val B Mine) S) (D := DJ (kcfg prog N Pb Shun val B Mine) S) (Stop := AtR0k (kcfg prog N Pb Shun val B Mine)) (fun _ _ _ => RJ.trans (K := (kcfg prog N Pb Shun val B Mine)))
 refine CJ.step (vs := ()) rfl fun _ h₁ => ?_
 replace hF := hF.rely hS h₁
 clear h₁
 rw [stepG_leave (b := base 112) rfl rfl func112 (results_none rfl _ _ _) (events_results_none rfl _ _)]
 simp only [goes_go]
 refine ⟨zg9 hS _,?_⟩
 unfold frGo
 rw [Frame.finish_at]
 simp only [opsGo,Tryz.f200]
 try walk_nrm
 refine CJ.step (vs := ()) rfl fun _ h₁ => ?_
 replace hF := hF.rely hS h₁
 clear h₁
 rw [stepG_region_end]
 simp only [goes_go]
 refine ⟨zg9 hS _,?_⟩
 refine CJ.step (vs := ()) rfl fun _ h₁ => ?_
 replace hF := hF.rely hS h₁
 clear h₁
 rw [stepG_end]
 simp only [goes_go]
 refine ⟨zg9 hS _,?_⟩
 refine CJ.step (vs := ()) rfl fun _ h₁ => ?_
 replace hF := hF.rely hS h₁
 clear h₁
 rw [stepG_unwind_closure (f := 201) rfl func201 (by rfl) rfl]
 simp only [goes_go]
 refine ⟨zg9 hS _,?_⟩
 simp only [ntmps201,List.size_toArray,List.length_cons,List.length_nil,Nat.reduceAdd,Nat.reduceSub,Array.replicate_succ,Array.replicate_zero,List.push_toArray,List.append_toArray,List.nil_append,List.cons_append]
 iterate 2
  refine CJ.step (vs := ()) rfl fun _ h₁ => ?_
  replace hF := hF.rely hS h₁
  clear h₁
  rw [stepG_seq]
  simp only [goes_go]
  refine ⟨zg9 hS _,?_⟩
 refine CJ.step (vs := ()) rfl fun _ h₁ => ?_
 replace hF := hF.rely hS h₁
 clear h₁
 rw [stepG_region]
 simp only [goes_go,List.size_toArray,List.length_cons,List.length_nil,Nat.reduceAdd,Nat.zero_add,List.range,List.range.loop]
 refine ⟨zg9 hS _,?_⟩
 refine CJ.step (vs := ()) rfl fun _ h₁ => ?_
 replace hF := hF.rely hS h₁
 clear h₁
 rw [stepG_recover rfl (by rfl) rfl rfl rfl (by simp [execOp,go_sem]) (by simp [execOp,go_sem])]
 simp only [goes_go]
 refine ⟨zg9 hS _,?_⟩
 try walk_nrm
 refine CJ.step (vs := ()) rfl fun _ h₁ => ?_
 replace hF := hF.rely hS h₁
 clear h₁
 refine goes_oper_k rfl rfl (by decide) (fun Kx hKx => ?_)
 skip
 go_simp
 refine hKx _ _ ⟨?_,?_⟩
 ·
  refine dj_same hS ?_
  co_evs (skip)
 clear hKx Kx
 try walk_nrm
 refine CJ.step (vs := ()) rfl fun _ h₁ => ?_
 replace hF := hF.rely hS h₁
 clear h₁
 rw [stepG_region_end]
 simp only [goes_go]
 refine ⟨zg9 hS _,?_⟩
 refine CJ.step (vs := ()) rfl fun _ h₁ => ?_
 replace hF := hF.rely hS h₁
 clear h₁
 rw [stepG_seq]
 simp only [goes_go]
 refine ⟨zg9 hS _,?_⟩
 refine CJ.step (vs := ()) rfl fun _ h₁ => ?_
 replace hF := hF.rely hS h₁
 clear h₁
 rw [stepG_region]
 simp only [goes_go,List.size_toArray,List.length_cons,List.length_nil,Nat.reduceAdd,Nat.zero_add,List.range,List.range.loop]
 refine ⟨zg9 hS _,?_⟩
 refine CJ.step (vs := ()) rfl fun _ h₁ => ?_
 replace hF := hF.rely hS h₁
 clear h₁
 refine goes_oper_k rfl rfl (by decide) (fun Kx hKx => ?_)
 skip
 go_simp
 refine hKx _ _ ⟨?_,?_⟩
 ·
  refine dj_same hS ?_
  co_evs (skip)
 clear hKx Kx
 try walk_nrm
 refine CJ.step (vs := ()) rfl fun _ h₁ => ?_
 replace hF := hF.rely hS h₁
 clear h₁
 refine goes_oper_k rfl rfl (by decide) (fun Kx hKx => ?_)
 have bo : ∀ w es,(binOp .neq 20 .nilIface .nilIface).events prog w es = es := fun w es => by rw [show binOp .neq 20 Value.nilIface Value.nilIface = (do pure (.bool (!(← Op.equal 20 .nilIface .nilIface)))) from rfl,show Op.equal 20 Value.nilIface Value.nilIface = Op.equalIn (9999 + 1) 20 .nilIface .nilIface from rfl,Op.equalIn]; simp [Tryz.runUnderlying20,go_sem,underlying,underlying20]
 go_simp
 refine hKx _ _ ⟨?_,?_⟩
 ·
  refine dj_same hS ?_
  co_evs (skip)
 clear hKx Kx
 try walk_nrm
 refine CJ.step (vs := ()) rfl fun _ h₁ => ?_
 replace hF := hF.rely hS h₁
 clear h₁
 rw [stepG_region_end]
 simp only [goes_go]
 refine ⟨zg9 hS _,?_⟩
 refine CJ.step (vs := ()) rfl fun _ h₁ => ?_
 replace hF := hF.rely hS h₁
 clear h₁
 rw [stepG_cond (t := false) rfl]
 simp only [goes_go,if_true,if_false,Bool.false_eq_true, ↓reduceIte]
 refine ⟨zg9 hS _,?_⟩
 refine CJ.step (vs := ()) rfl fun _ h₁ => ?_
 replace hF := hF.rely hS h₁
 clear h₁
 rw [stepG_skip]
 simp only [goes_go]
 refine ⟨zg9 hS _,?_⟩
 refine CJ.step (vs := ()) rfl fun _ h₁ => ?_
 replace hF := hF.rely hS h₁
 clear h₁
 rw [stepG_region]
 simp only [goes_go,List.size_toArray,List.length_cons,List.length_nil,Nat.reduceAdd,Nat.zero_add,List.range,List.range.loop]
 refine ⟨zg9 hS _,?_⟩
 refine CJ.step (vs := ()) rfl fun _ h₁ => ?_
 replace hF := hF.rely hS h₁
 clear h₁
 refine goes_oper_k rfl rfl (by decide) (fun Kx hKx => ?_)
 have hc := cell1 hF.wb
 go_simp
 refine hKx _ _ ⟨?_,?_⟩
 ·
  refine dj_same hS ?_
  co_evs (exact evk_still (.inr (.inr (.inr (.inl rfl)))))
 clear hKx Kx
 try walk_nrm
 clear hc
 refine CJ.step (vs := ()) rfl fun _ h₁ => ?_
 replace hF := hF.rely hS h₁
 clear h₁
 refine goes_call rfl rfl (by decide) rfl wgLib.f_done (Go.ConcR.Gen.nm_done link) rfl ⟨zg9 hS _,?_⟩
 walk_nrmf Go.Conc.Lib.doneFn
 have hD := fun {b₀ : Frame} {a₀ : Act} {ops₀ : Array Oper} {i₀ : Nat} {rest₀ : List Nat} {k₀ : List Item} {cs : List Frame} {qt : Nat} hT w hK => @doneX _ link prog wgLib (OwnK (kcfg prog N Pb Shun val B Mine) S) (RdK (kcfg prog N Pb Shun val B Mine)) (N + 6) N 1 0 1 val b₀ a₀ ops₀ i₀ rest₀ k₀ cs qt hT w hK
 simp only [Go.ConcR.Gen.body_done,Go.Conc.Lib.doneFn,Option.getD_some] at hD
 refine Way.weaken (fun _ _ h => RJ.rw (K := (kcfg prog N Pb Shun val B Mine)) hS h) (fun _ _ _ h => h) (fun _ _ h => h) (zc5 (hD (qt := 5) ?_ _ ⟨hF.live,by obtain ⟨_,hp⟩ := hF.pc; simp [Go.ConcN.Has,World.cell?,hp]⟩))
 refine QuitsD.ctl rfl (fun _ => stepG_region_end) ?_
 refine QuitsD.ctl rfl (fun _ => stepG_end) ?_
 refine QuitsD.leaveD rfl rfl func201 rfl rfl ?_
 refine QuitsD.ctl (g' := G (bot prog) []) rfl (fun w => ?_) ?_
 ·
  simp [G,stepG,unwind,doReturn,results,Frame.at,baseD,bot,func200,Tryz.f200,seen,GStep.after,goexitEntry]
 refine QuitsD.ctl (g' := { G (bot prog) [] with status := .finished }) rfl (fun w => ?_) ⟨rfl,rfl⟩
 simp [G,stepG,unwind,bot,goexitEntry,Frame.catches]
 rfl
end
end
end Go.Proofs.YtgcaionclkbehaaGreatDoor
