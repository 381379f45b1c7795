import Derived.Test.YtgcaionclkbehaaGreatDoorDie
import Derived.Conc.FxGenLone
import Derived.Conc.CrowdMono
set_option linter.all false
set_option maxRecDepth 100000
set_option maxHeartbeats 2000000
namespace Go.Proofs.YtgcaionclkbehaaGreatDoor
open Tryz
section
open Go.Conc Go.RowKit
def callGo (N : Nat) : Deferred := { target := .fn (.func 200) #[.pointer (some ⟨N + 7,0,none⟩), .pointer (some ⟨N + 8,0,none⟩)],args := #[] }
section
variable {N Pb : Nat} {Shun : Loc → Prop} {val : Value} {B : Nat} {Mine : Loc → Prop} {w w₁ : World}
variable [Go.ConcR.Payload] [Go.ConcX.Payload]
variable {s : ByteArray}
theorem close_x (hF : HE N val w) (tm : Array Value) : AtClose (kcfg prog N Pb Shun val B Mine) (G { (base 112).at ⟨tm, [closeD N]⟩ [] with mode := .returning } [frGo Tryz.f200.body N,(bot prog)]) w := by
 refine ⟨rfl,hF.size,rfl,G { (base 112).at ⟨tm, []⟩ [] with mode := .returning } [frGo Tryz.f200.body N,(bot prog)],rfl,fun h => ?_,fun w₁ h₁ hl => ?_⟩
 ·
  exact stepG_unwind_close (b := base 112) (a := ⟨tm, [closeD N]⟩) rfl h (by kernel_rfl)
 ·
  exact die_x (.inl rfl) ⟨hF.pc.imp fun _ z => (h₁ _ (.inl (.inl rfl))).trans z,(h₁ _ (.inr (.inr (.inr (.inr (.inl rfl)))))).trans hF.wb,hl⟩ tm
theorem HE.rely {i : Ix} (h : HE N val w) (r : RKd (kcfg prog N Pb Shun val B Mine) i w w₁) : HE N val w₁ := ⟨h.pc.imp fun _ z => (r.rc _ (.inl (.inl rfl))).trans z,(r.rc _ (.inr (.inr (.inr (.inr (.inl rfl)))))).trans h.wb,h.bf.imp fun _ z => (r.rc _ (.inr (.inr (.inr (.inr (.inr (.inl rfl))))))).trans z⟩
theorem born_step (N : Nat) (w : World) : stepG prog false (born prog (callGo N)) w =
  .go (G ((baseD 200).at ⟨#[.pointer (some ⟨N + 7,0,none⟩), .pointer (some ⟨N + 8,0,none⟩),undef,undef,undef], []⟩ [.code (Tryz.f200.body.getD .skip)]) [(bot prog)]) w #[] := by
 simp [born,callGo,stepG,unwind,callDeferred,invoke,callFunc,func200,Tryz.f200,seen,GStep.after,G,Frame.enter,Frame.at,baseD,bot]
theorem goes_call_val {P : Program} {main : Bool} {b : Frame} {a : Act} {k : List Item} {cs : List Frame} {w : World} {ops : Array Oper} {i : Nat} {rest : List Nat} {o : Oper} {K : Goroutine → World → Array Event → Prop} {x : Operand} {f : FuncId} {f₀ : Func} {c : Code} {first cap : Array Value} {args : Array Operand} {ats : Array TypeId}
  (ho : ops[i]? = some o) (hw : Region.wanted o (yielded ops a.tmps) = true) (hk : b.kind ≠ .early) (hop : o.op = .call { callee := .value x,args,argTypes := ats }) (hx : a.eval x = .func (.func f) first cap)
  (hf : P.funcs[f]? = some f₀) (hname : (f₀.name == "runtime.NumGoroutine") = false) (hb : f₀.body = some c)
  (h : K (G ((base f).at { tmps := (first ++ args.map a.eval ++ cap) ++ Array.replicate (f₀.ntmps - (first ++ args.map a.eval ++ cap).size) undef,defers := [] } [.code c]) (b.at a (.inRegion ops (i :: rest) :: k) :: cs)) w #[]) :
  (stepG P main (G (b.at a (.inRegion ops (i :: rest) :: k)) cs) w).goes K := by
 obtain ⟨hr,he⟩ := zl4 (P := P) (w := w) hop hx hf hname (by rw [hb]; rfl)
 rw [stepG_enter ho hw hk hr,enter_at _ hf hb]
 have hl : listed P b.fn a o w = #[] := listed_nil he
 rw [hl]
 exact h
theorem dk_idle (w : World) : DK (kcfg prog N Pb Shun val B Mine) w w #[] := dk_look (by simp)
theorem kid_x {f : FuncId} {cap : Array Value} {ls : List Value} (hF : HB N (.func (.func f) #[] cap) w)
  (hn : ∀ w₁,RC (kcfg prog N Pb Shun val B Mine) w w₁ → zj8 prog (XK (kcfg prog N Pb Shun val B Mine)) f (#[sendV N] ++ cap) (true,ls) w₁ (fun i' _ w' => i'.2 = [] ∧ HE N val w')) : XK (kcfg prog N Pb Shun val B Mine) (true,ls) (born prog (callGo N)) w := by
 have C : Closed prog false (RKd (kcfg prog N Pb Shun val B Mine)) (DK (kcfg prog N Pb Shun val B Mine)) (XK (kcfg prog N Pb Shun val B Mine)) := XK.closed (K := (kcfg prog N Pb Shun val B Mine))
 have mk : ∀ w es,(Instr.makeFunc (Fn.func 201) #[] #[Value.pointer (some ⟨N + 7,0,none⟩)]).events prog w es = es := fun w es => by simp [Instr.makeFunc]
 refine C.step rfl fun _ h₁ => ?_
 replace hF := hF.rely h₁
 replace hn := fun w₂ h₂ => hn w₂ (RC.trans h₁.rc h₂)
 clear h₁
 rw [born_step]
 simp only [goes_go]
 refine ⟨dk_idle _,?_⟩
 simp only [Tryz.f200,Option.getD_some]
 refine C.step rfl fun _ h₁ => ?_
 replace hF := hF.rely h₁
 replace hn := fun w₂ h₂ => hn w₂ (RC.trans h₁.rc h₂)
 clear h₁
 rw [stepG_seq]
 simp only [goes_go]
 refine ⟨dk_idle _,?_⟩
 refine C.step rfl fun _ h₁ => ?_
 replace hF := hF.rely h₁
 replace hn := fun w₂ h₂ => hn w₂ (RC.trans h₁.rc h₂)
 clear h₁
 rw [stepG_region]
 simp only [goes_go,List.size_toArray,List.length_cons,List.length_nil,Nat.reduceAdd,Nat.zero_add,List.range,List.range.loop]
 refine ⟨dk_idle _,?_⟩
 refine C.step rfl fun _ h₁ => ?_
 replace hF := hF.rely h₁
 replace hn := fun w₂ h₂ => hn w₂ (RC.trans h₁.rc h₂)
 clear h₁
 refine goes_oper_k rfl rfl (by decide) (fun Kx hKx => ?_)
 skip
 go_simp
 refine hKx _ _ ⟨?_,?_⟩
 ·
  refine dk_look ?_
  co_evs (skip)
 clear hKx Kx
 try walk_nrm
 refine C.step rfl fun _ h₁ => ?_
 replace hF := hF.rely h₁
 replace hn := fun w₂ h₂ => hn w₂ (RC.trans h₁.rc h₂)
 clear h₁
 rw [stepG_deferX (d := dGo N) rfl (by rfl) (by decide) (by simp [execOp,go_sem,resolve,Deferred.ofValue,dGo,Act.eval]) (by simp [execOp,go_sem,resolve,Deferred.ofValue,Act.eval])]
 simp only [goes_go]
 refine ⟨dk_idle _,?_⟩
 try walk_nrm
 refine C.step rfl fun _ h₁ => ?_
 replace hF := hF.rely h₁
 replace hn := fun w₂ h₂ => hn w₂ (RC.trans h₁.rc h₂)
 clear h₁
 rw [stepG_region_end]
 simp only [goes_go]
 refine ⟨dk_idle _,?_⟩
 refine C.step rfl fun _ h₁ => ?_
 replace hF := hF.rely h₁
 replace hn := fun w₂ h₂ => hn w₂ (RC.trans h₁.rc h₂)
 clear h₁
 rw [stepG_region]
 simp only [goes_go,List.size_toArray,List.length_cons,List.length_nil,Nat.reduceAdd,Nat.zero_add,List.range,List.range.loop]
 refine ⟨dk_idle _,?_⟩
 refine C.step rfl fun _ h₁ => ?_
 replace hF := hF.rely h₁
 replace hn := fun w₂ h₂ => hn w₂ (RC.trans h₁.rc h₂)
 clear h₁
 refine goes_oper_k rfl rfl (by decide) (fun Kx hKx => ?_)
 have hc := cell1 hF.fb
 go_simp
 refine hKx _ _ ⟨?_,?_⟩
 ·
  refine dk_look ?_
  co_evs (exact evl_still (.inr (.inr (.inr (.inr (.inl rfl))))))
 clear hKx Kx
 try walk_nrm
 clear hc
 refine C.step rfl fun _ h₁ => ?_
 replace hF := hF.rely h₁
 replace hn := fun w₂ h₂ => hn w₂ (RC.trans h₁.rc h₂)
 clear h₁
 refine goes_call_val rfl rfl (by decide) rfl rfl func112 (by rfl) rfl ⟨dk_idle _,?_⟩
 simp only [ntmps112,Act.eval,List.map_toArray,List.map_nil,List.size_toArray,List.length_cons,List.length_nil,Nat.reduceAdd,Nat.reduceSub,Array.replicate_succ,Array.replicate_zero,List.push_toArray,List.append_toArray,List.nil_append,List.cons_append]
 obtain ⟨c74,hc74,hW⟩ := run1_x hF hn
 obtain rfl := Option.some.inj hc74
 refine hW (base 112) [] _ rfl (by decide) ?_
 rintro ⟨fr,vs⟩ e a w ⟨rfl,hvs,hd,hF⟩
 obtain rfl : vs = [] := hvs
 show XK (kcfg prog N Pb Shun val B Mine) _ _ _
 refine C.step rfl fun _ h₁ => ?_
 replace hF := hF.rely h₁
 clear h₁
 rw [stepG_end]
 simp only [goes_go]
 refine ⟨dk_idle _,?_⟩
 refine Way.stop fun w₁ h₁ => ?_
 replace hF := HE.rely hF h₁
 obtain ⟨tm,ds⟩ := a
 obtain rfl : ds = [closeD N] := hd
 exact close_x hF tm
end
end
set_option maxRecDepth 100000
set_option maxHeartbeats 2000000
section
open Go.Conc
abbrev shyN (Wg C : Nat) : Go.ConcX.Shy Wg C where
 ok := fun act => ∀ x,act.touch? = some x → ∀ ad : Addr,x.loc = .cell ad → ad.block = Wg ∨ ad.block = C
 atomicWg := fun a wr h x hx ad e => by simp only [MemAct.touch?,Option.some.injEq] at hx; subst hx; cases e; exact .inl h
 readWg := fun a h x hx ad e => by simp only [MemAct.touch?,Option.some.injEq] at hx; subst hx; cases e; exact .inl h
 writeWg := fun a h x hx ad e => by simp only [MemAct.touch?,Option.some.injEq] at hx; subst hx; cases e; exact .inl h
 theirs := fun a wr h x hx ad e => by simp only [MemAct.touch?,Option.some.injEq] at hx; subst hx; cases e; exact .inr h
 disable := fun x hx => (by cases hx)
 enable := fun x hx => (by cases hx)
 relMerge := fun x hx => (by cases hx)
 acquire := fun x hx => (by cases hx)
 go1 := fun x hx => (by cases hx)
 start := fun x hx => (by cases hx)
 stop := fun _ _ => True
theorem add_x {Post : Value → World → Prop} {S : Nat → Prop} {Wg C : Nat} {b₀ : Frame} {a₀ : Act} {ops₀ : Array Oper} {i₀ : Nat} {rest₀ : List Nat} {k₀ : List Item} {cs : List Frame} {w : World} (h1 : ¬ S Wg) (h2 : ¬ S C) (hw : w.heap[Wg]? = some (.cells #[.int .u64 0, .int .u32 0] 169))
  (hn : ZI prog Post 0 S (G (b₀.at (a₀.put ((ops₀[i₀]?).bind (·.dst)) (.tuple #[])) (.inRegion ops₀ rest₀ :: k₀)) cs) (w.setCell ⟨Wg,0,none⟩ (.int .u64 4294967296))) :
  ZI prog Post 0 S (G ((base 199).at ⟨#[.pointer (some ⟨Wg,0,none⟩), .int .i64 1,undef,undef,undef,undef,undef,undef,undef,undef,undef,undef,undef,undef,undef,undef,undef,undef,undef,undef,undef,undef,undef,undef,undef,undef,undef,undef,undef,undef,undef,undef,undef,undef,undef,undef,undef,undef,undef,undef,undef,undef,undef,undef,undef,undef,undef,undef,undef,undef,undef,undef,undef,undef,undef,undef,undef,undef,undef,undef,undef,undef,undef,undef,undef,undef,undef,undef,undef,undef,undef,undef,undef,undef,undef,undef,undef,undef,undef,undef,undef,undef,undef,undef,undef,undef,undef,undef,undef,undef,undef,undef,undef,undef,undef,undef,undef,undef,undef,undef,undef,undef,undef,undef,undef,undef,undef,undef,undef,undef,undef,undef,undef,undef,undef,undef,undef], []⟩ [.code (Go.ConcX.Gen.body_add link)]) (b₀.at a₀ (.inRegion ops₀ (i₀ :: rest₀) :: k₀) :: cs)) w := by
 have hA := @Go.ConcX.Gen.addPos link Wg C (shyN Wg C) b₀ a₀ ops₀ i₀ rest₀ k₀ cs (ZI prog Post 0 S) 0 prog wgLib w hw (fun w₁ h₁ => ZI.closed.rely hn h₁)
 have hev : ∀ e, @Go.ConcX.EvS Wg C (shyN Wg C) e → EvS S e := by
  intro e he
  refine ⟨fun x hx ad ha hs => ?_,fun h => ?_,fun h => ?_⟩
  ·
   rcases he.2.2.2.2.2 x hx ad ha with z | z
   ·
    exact h1 (z ▸ hs)
   ·
    exact h2 (z ▸ hs)
  ·
   exact he.2.2.2.1 (Go.ConcX.ofEvent_loc_mark h)
  ·
   exact he.2.2.2.2.1 (Go.ConcX.ofEvent_loc_mark h)
 refine ZI.goes hev (fun g w h => ?_) hA
 refine ZI.atMark (m := .disable) (d' := 1) rfl rfl (fun g w hN => ?_) h
 obtain ⟨n,hN⟩ := hN
 refine ZI.goes hev (fun g w h => ?_) hN
 refine ZI.atMark (m := .enable) (d' := 0) rfl rfl (fun g w hN => ?_) h
 obtain ⟨n,hN⟩ := hN
 exact ZI.goes hev (fun g w h => h w (atRel_refl w)) hN
end
set_option maxRecDepth 100000
set_option maxHeartbeats 2000000
section
open Go.Conc Go.RowKit
def codeR (b : Option Code) : Code := match b with | some (.seq _ (.seq _ (.seq _ (.seq _ c)))) => c | _ => .skip
def opsR (b : Option Code) (n : Nat) : Array Oper := match codeR b with | .seq (.region _ o4 _) (.seq (.region _ o5 _) (.seq (.region _ o6 _) (.seq (.region _ o7 _) (.region _ o8 _)))) => if n = 4 then o4 else if n = 5 then o5 else if n = 6 then o6 else if n = 7 then o7 else o8 | _ => #[]
section
variable {N Pb : Nat} {Shun : Loc → Prop} {val : Value} {B : Nat} {Mine : Loc → Prop} {w w₁ : World}
variable [Go.ConcR.Payload] [Go.ConcX.Payload]
variable [Go.ConcX.Shy (Cfg.Wg (kcfg prog N Pb Shun val B Mine)) (Cfg.C (kcfg prog N Pb Shun val B Mine))]
theorem atKd_mono {K : Cfg} [Go.ConcX.Shy K.Wg K.C] {L : Nat} {A A' : Goroutine → World → Prop} (h : ∀ g w,A g w → A' g w) (g : Goroutine) (w : World) : AtKdk K L A g w → AtKdk K L A' g w := fun ⟨h1,g',h2,m,h3⟩ => ⟨h1,g',h2,m,Go.ConcN.goes_mono h h3⟩
theorem atW1_mono {K : Cfg} [Go.ConcX.Shy K.Wg K.C] {L : Nat} {A A' : Goroutine → World → Prop} {Post : Value → World → Prop} (h : ∀ g w,A g w → A' g w) (g : Goroutine) (w : World) : AtW1k K L A Post g w → AtW1k K L A' Post g w := fun ⟨h1,g',h2,h3,h4⟩ =>
 ⟨h1,g',h2,fun z => (h3 z).imp fun _ q => Go.ConcN.goes_mono (fun _ _ ⟨a1,a2,a3⟩ => ⟨a1,a2,fun z => (a3 z).imp fun _ q => ⟨q.1,q.2.imp fun _ q => Go.ConcN.goes_mono h q⟩⟩) q,h4⟩
def AnchR (K : Cfg) [Go.ConcX.Payload] [Go.ConcX.Shy K.Wg K.C] (F : World → Prop) (b : Frame) (k : List Item) (cs : List Frame) (g : Goroutine) (w : World) : Prop :=
 ∃ a : Act,a.defers = [] ∧ Go.ConcX.Gen.AnchW7 link F K.Wg K.C [K.val] (b.at a (.inRegion (opsR Tryz.f61.body 8) [0] :: k)) cs g w
theorem wait_x {F : World → Prop} {L : Nat} (hFa : ∀ w w₁,Go.ConcX.Aside2 N (N + 6) w w₁ → F w → F w₁) {b : Frame} {a : Act} {k : List Item} {cs : List Frame} (hk : b.kind ≠ .early) (hd : a.defers = []) (ha : a.eval (.tmp 6) = .pointer (some ⟨N + 6,0,none⟩)) (hF : F w) (ka : KPak (kcfg prog N Pb Shun val B Mine) w) :
  XM (kcfg prog N Pb Shun val B Mine) (AnchR (kcfg prog N Pb Shun val B Mine) F b k cs) (.join L) (G (b.at a (.code (.region 8 (opsR Tryz.f61.body 8) false) :: k)) cs) w := by
 have C : ClosedI prog true (RMd (kcfg prog N Pb Shun val B Mine)) (DMd (kcfg prog N Pb Shun val B Mine)) (XM (kcfg prog N Pb Shun val B Mine) (AnchR (kcfg prog N Pb Shun val B Mine) F b k cs)) := XM.closed (K := (kcfg prog N Pb Shun val B Mine))
 have T := termsM (K := (kcfg prog N Pb Shun val B Mine))
 have hR : ∀ {w w₁},RMd (kcfg prog N Pb Shun val B Mine) (.join L) w w₁ → F w ∧ KPak (kcfg prog N Pb Shun val B Mine) w → F w₁ ∧ KPak (kcfg prog N Pb Shun val B Mine) w₁ := fun {w w₁} r h => by
  have r' : RPak (kcfg prog N Pb Shun val B Mine) w w₁ := r
  exact ⟨hFa _ _ r'.aside h.1,r'.ka h.2⟩
 have hF2 : F w ∧ KPak (kcfg prog N Pb Shun val B Mine) w := ⟨hF,ka⟩
 clear hF ka
 refine C.step rfl fun _ h₁ => ?_
 replace hF2 := hR h₁ hF2
 clear h₁
 rw [stepG_region]
 simp only [goes_go]
 refine ⟨(T (.join L)).idle _,?_⟩
 have hr : List.range (opsR Tryz.f61.body 8).size = [0] := by rfl
 rw [hr]
 refine C.step rfl fun w₁ h₁ => ?_
 replace hF2 := hR h₁ hF2
 clear h₁
 refine goes_call (b := b) (a := a) (args := #[.tmp 6]) (ats := #[169]) (i := 0) (ops := opsR Tryz.f61.body 8) rfl rfl hk rfl wgLib.f_wait (Go.ConcX.Gen.nm_wait link) rfl ⟨(T (.join L)).idle _,?_⟩
 have hW := Go.ConcX.Gen.waitStart (L := link) (P := prog) (Wg := Cfg.Wg (kcfg prog N Pb Shun val B Mine)) (C := Cfg.C (kcfg prog N Pb Shun val B Mine)) (Low := L) (Mine := Mine) (vals := [val]) (F := F) (b₀ := b) (a₀ := a) (ops₀ := opsR Tryz.f61.body 8) (i₀ := 0) (rest₀ := []) (k₀ := k) (cs := cs) wgLib (fun _ _ r h => hFa _ _ r h) w₁ hF2
 have ht : (#[Operand.tmp 6].map a.eval) = #[Value.pointer (some ⟨N + 6,0,none⟩)] := by simp [ha]
 rw [ht]
 simp only [Go.ConcX.Gen.body_wait,Go.Conc.Lib.waitFn,Option.getD_some] at hW
 walk_nrmf Go.Conc.Lib.waitFn
 exact Way.weaken (fun _ _ h => h) (fun _ _ _ h => h) (fun g w h => atKd_mono (K := (kcfg prog N Pb Shun val B Mine)) (fun _ _ h => ⟨a,hd,h⟩) g w h) (zc5 hW)
end
end
set_option maxRecDepth 100000
set_option maxHeartbeats 400000
section
open Go.Conc Go.RowKit
def t47 (N : Nat) (nv nx x11 : Value) : Array Value := #[nv,nx, .pointer (some ⟨N + 1,0,none⟩),undef, .pointer (some ⟨N + 3,0,none⟩), .pointer (some ⟨N + 5,0,none⟩), .pointer (some ⟨N + 6,0,none⟩),undef, .chan (some (N + 2)), .chan (some (N + 4)),zh3 N,x11,undef,undef,undef,undef,undef,undef,undef,undef,undef,undef]
def opsG (b : Option Code) : Array Oper := match b with | some (.seq _ (.seq _ (.region _ o _))) => o | _ => #[]
abbrev nilS : Value := .slice none 0 0
section
variable {N Pb : Nat} {Shun : Loc → Prop} {val : Value} {B : Nat} {Mine : Loc → Prop} {Ex : Nat → Prop} {w₀ w w₁ : World} {AnchW : Goroutine → World → Prop} {u v : Value} {tk rest : List Int} {en : Bool} {Rb : Nat}
structure HG (N : Nat) (A : World → Prop) (w : World) : Prop where
 lv : w.heap[N + 3]? = some (.cells #[.chan (some (N + 2))] 158)
 ev : w.heap[N + 5]? = some (.cells #[.chan (some (N + 4))] 159)
 size : N + 9 ≤ w.heap.size
 a : A w
theorem HG.rm {A : World → Prop} (hA : ∀ w w₁,RM (kcfg prog N Pb Shun val B Mine) w w₁ → A w → A w₁) (h : HG N A w) (r : RM (kcfg prog N Pb Shun val B Mine) w w₁) : HG N A w₁ := by
 have hs := h.size
 have hb : ∀ b,b = N + 3 ∨ b = N + 5 → w₁.heap[b]? = w.heap[b]? := fun b hb => r.block b (by omega) (fun z => by
  rcases z with z | ⟨z,_⟩
  ·
   have z' : b = N := z
   omega
  ·
   have z' : N + 9 ≤ b := z
   omega) (by show ¬ (b = N + 2 ∨ b = N + 4 ∨ b = N + 6); omega)
 exact ⟨(hb _ (.inl rfl)).trans h.lv,(hb _ (.inr rfl)).trans h.ev,Nat.le_trans hs r.size,hA _ _ r h.a⟩
theorem evm_still {K : Cfg} (F : K.Fit) {b o : Nat} (hs : K.Still b) (hn : K.N0 ≤ w.heap.size) : EvM K w ⟨.cell ⟨b,o,none⟩,false,false⟩ := by
 refine ⟨fun x hx => ?_,by simp,by simp,by simp [MemAct.ofEvent]⟩
 have hx' : x = ⟨.cell ⟨b,o,none⟩,false, .plain⟩ := by simpa [MemAct.ofEvent,MemAct.touch?] using hx.symm
 subst hx'
 refine ⟨⟨?_,fun _ => rfl,fun h => absurd h (F.sh ⟨b,o,none⟩ hs)⟩,fun ad e => ?_,fun ad e => ?_⟩
 ·
  rintro (⟨a,e,h⟩ | e | ⟨a,e,h⟩)
  ·
   cases e
   exact F.ks w _ h hs
  ·
   cases e
  ·
   cases e
 ·
  cases e
  exact Nat.lt_of_lt_of_le (F.s0 b hs) hn
 ·
  cases e
theorem dm_look {K : Cfg} {es : Array Event} (h : ∀ e ∈ es,EvM K w e) : DM K w w es := ⟨fun _ _ => rfl,fun _ h => h,Nat.le_refl _,h⟩
theorem rmd_rm {K : Cfg} [Go.ConcX.Payload] {i : Ph} (hi : i.early) (h : RMd K i w w₁) : RM K w w₁ := by
 cases i using Ph.casesT with
 | join => exact hi.elim
 | _ => exact h
def zh7 (N : Nat) : Array Value := #[.chan (some (N + 2)), .chan (some (N + 4)),nilS, .bool false]
theorem HW.start (F : Cfg.Fit (kcfg prog N Pb Shun val B Mine)) (hs : N + 9 ≤ w.heap.size) : HW (kcfg prog N Pb Shun val B Mine) (exR w.heap.size nilS) (w.alloc (.cells (zh7 N) 175)) w.heap.size nilS nilS [] false (w.alloc (.cells (zh7 N) 175)) := by
 have o : Own KTs (mineM (kcfg prog N Pb Shun val B Mine)) w (w.alloc (.cells (zh7 N) 175)) := Own.alloc (by simp [KTs])
 exact ⟨heap_alloc_new w _,(envM F).new hs o (Nat.le_refl _) (by simp [World.size_alloc]), .inl (.inl rfl),RowO.none _ _ _ _ _,by simp [World.size_alloc]; show N + 9 ≤ _; omega,Kept.refl _⟩
variable [Go.ConcR.Payload] [Go.ConcX.Payload]
variable [Go.ConcX.Shy (Cfg.Wg (kcfg prog N Pb Shun val B Mine)) (Cfg.C (kcfg prog N Pb Shun val B Mine))]
theorem main_x {A F : World → Prop} {I : Nat → World → Prop} {b : Frame} {k : List Item} {cs : List Frame} {tm : Array Value} {f : FuncId} {cap : Array Value} {nv : Value} (Fi : Cfg.Fit (kcfg prog N Pb Shun val B Mine)) (hb : b.fn = 61) (hk : b.kind ≠ .early) (l : List Int) (hn : l.length ≤ 1000000)
  (hA : ∀ w w₁,RM (kcfg prog N Pb Shun val B Mine) w w₁ → A w → A w₁) (hA2 : ∀ w cs,A w → A (w.alloc (.cells cs 175)))
  (hnext : ∀ AW Rb w,N ≤ Rb → A w → HW (kcfg prog N Pb Shun val B Mine) (exR Rb nilS) w Rb nilS nilS [] false w → CallsI prog (XM (kcfg prog N Pb Shun val B Mine) AW) f (#[.pointer (some ⟨Rb,0,none⟩)] ++ cap) (.front (V l)) w (fun i' _ w' => ∃ Ex w₀ v' tk' rest' en',tk' ++ rest' = l ∧ AtP rest' en' i' ∧ HW (kcfg prog N Pb Shun val B Mine) Ex w₀ Rb v' v' tk' en' w' ∧ (∀ b,exR Rb v' b → N ≤ b) ∧ I Rb w'))
  (hI1 : ∀ Rb w w₁,RM (kcfg prog N Pb Shun val B Mine) w w₁ → I Rb w → I Rb w₁) (hI2 : ∀ Rb Ex w₀ v tk en w w',HW (kcfg prog N Pb Shun val B Mine) Ex w₀ Rb v v tk en w → (∀ b,exR Rb v b → N ≤ b) → Kept (mineM (kcfg prog N Pb Shun val B Mine)) (outM (kcfg prog N Pb Shun val B Mine)) (exR Rb v) w w' → I Rb w → I Rb w') (hIF : ∀ Rb w,I Rb w → F w) (hFa : ∀ w w₁,Go.ConcX.Aside2 N (N + 6) w w₁ → F w → F w₁) (hF : HG N A w) :
  XM (kcfg prog N Pb Shun val B Mine) (AnchR (kcfg prog N Pb Shun val B Mine) F b k cs) (.front (V l)) (G ((base 111).at ⟨tm, []⟩ [.inRegion (opsG Tryz.f111.body) []]) (b.at ⟨t47 N nv (.func (.func f) #[] cap) undef, []⟩ (.inRegion (opsR Tryz.f61.body 4) [1] :: .code (.seq (.region 5 (opsR Tryz.f61.body 5) false) (.seq (.region 6 (opsR Tryz.f61.body 6) false) (.seq (.region 7 (opsR Tryz.f61.body 7) false) (.region 8 (opsR Tryz.f61.body 8) false)))) :: k) :: cs)) w := by
 generalize hAW : AnchR (kcfg prog N Pb Shun val B Mine) F b k cs = AW
 have C : ClosedI prog true (RMd (kcfg prog N Pb Shun val B Mine)) (DMd (kcfg prog N Pb Shun val B Mine)) (XM (kcfg prog N Pb Shun val B Mine) AW) := XM.closed (K := (kcfg prog N Pb Shun val B Mine))
 have T := termsM (K := (kcfg prog N Pb Shun val B Mine))
 have E : Env KTs (N + 9) (mineM (kcfg prog N Pb Shun val B Mine)) (outM (kcfg prog N Pb Shun val B Mine)) (RMd (kcfg prog N Pb Shun val B Mine) (.front (V l))) (DMd (kcfg prog N Pb Shun val B Mine) (.front (V l))) := envP (K := (kcfg prog N Pb Shun val B Mine)) Fi trivial
 have rl : ∀ {w w₁},HG N A w → RMd (kcfg prog N Pb Shun val B Mine) (.front (V l)) w w₁ → HG N A w₁ := fun h r => HG.rm hA h r
 refine C.step rfl fun _ h₁ => ?_
 replace hF := rl hF h₁
 clear h₁
 rw [stepG_region_end]
 simp only [goes_go]
 refine ⟨(T (.front (V l))).idle _,?_⟩
 refine C.step rfl fun _ h₁ => ?_
 replace hF := rl hF h₁
 clear h₁
 rw [stepG_end]
 simp only [goes_go]
 refine ⟨(T (.front (V l))).idle _,?_⟩
 refine C.step rfl fun _ h₁ => ?_
 replace hF := rl hF h₁
 clear h₁
 rw [stepG_leave (b := base 111) rfl rfl func111 (results_none rfl _ _ _) (events_results_none rfl _ _)]
 simp only [goes_go]
 refine ⟨(T (.front (V l))).idle _,?_⟩
 rw [Frame.finish_at]
 have hop : ((opsR Tryz.f61.body 4)[1]?).bind (·.dst) = some 11 := by rfl
 rw [hop]
 have ht : (⟨t47 N nv (.func (.func f) #[] cap) undef, []⟩ : Act).put (some 11) (.tuple #[]) = ⟨t47 N nv (.func (.func f) #[] cap) (.tuple #[]), []⟩ := by rfl
 rw [ht]
 refine C.step rfl fun _ h₁ => ?_
 replace hF := rl hF h₁
 clear h₁
 rw [stepG_region_end]
 simp only [goes_go]
 refine ⟨(T (.front (V l))).idle _,?_⟩
 refine C.step rfl fun _ h₁ => ?_
 replace hF := rl hF h₁
 clear h₁
 rw [stepG_seq]
 simp only [goes_go]
 refine ⟨(T (.front (V l))).idle _,?_⟩
 have h5 : ∀ w,HG N A w → wpI (XM (kcfg prog N Pb Shun val B Mine) AW) 61 (.region 5 (opsR Tryz.f61.body 5) false) (.front (V l)) (fun i e a w => e = .normal ∧ i = .front (V l) ∧ ∃ Rb,a = ⟨#[nv, .func (.func f) #[] cap, .pointer (some ⟨N + 1,0,none⟩),undef, .pointer (some ⟨N + 3,0,none⟩), .pointer (some ⟨N + 5,0,none⟩), .pointer (some ⟨N + 6,0,none⟩), .pointer (some ⟨Rb,0,none⟩), .chan (some (N + 2)), .chan (some (N + 4)),zh3 N, .tuple #[], .chan (some (N + 2)), .chan (some (N + 4)), .agg (zh7 N), .pointer (some ⟨Rb,0,none⟩),undef,undef,undef,undef,undef,undef], []⟩ ∧ N ≤ Rb ∧ A w ∧ HW (kcfg prog N Pb Shun val B Mine) (exR Rb nilS) w Rb nilS nilS [] false w) ⟨t47 N nv (.func (.func f) #[] cap) (.tuple #[]), []⟩ w := by
  have bd := fun w => run_build (P := prog) w 175 #[(0, .chan (some (N + 2))),(1, .chan (some (N + 4)))] (zh7 N) (by kernel_rfl)
  have be := fun w es => zj3 (P := prog) w 175 #[(0, .chan (some (N + 2))),(1, .chan (some (N + 4)))] (zh7 N) (by kernel_rfl) es
  have bx := fun w t v => box_run prog w t v
  have bxe := fun w t v es => zk2 prog w t v es
  intro w hF
  simp only [opsR,codeR,Tryz.f61,t47]
  refine za2 C T ?_
  simp only [Nat.reduceEqDiff,if_true,if_false,reduceIte,List.size_toArray,List.length_cons,List.length_nil,Nat.reduceAdd,Nat.zero_add,List.range,List.range.loop]
  refine za0 C rfl (by rfl) fun _ hR Kx hKx => ?_
  replace hF := rl hF hR
  clear hR
  have hc := cell1 hF.lv
  go_simp
  try (unfold stored; go_simp)
  refine hKx _ _ ⟨?_,?_⟩
  ·
   refine dm_look ?_
   co_evs (exact evm_still (K := (kcfg prog N Pb Shun val B Mine)) Fi (.inr (.inl rfl)) hF.size)
  clear hKx Kx
  try walk_nrm
  clear hc
  refine za0 C rfl (by rfl) fun _ hR Kx hKx => ?_
  replace hF := rl hF hR
  clear hR
  have hc := cell1 hF.ev
  go_simp
  try (unfold stored; go_simp)
  refine hKx _ _ ⟨?_,?_⟩
  ·
   refine dm_look ?_
   co_evs (exact evm_still (K := (kcfg prog N Pb Shun val B Mine)) Fi (.inr (.inr (.inl rfl))) hF.size)
  clear hKx Kx
  try walk_nrm
  clear hc
  refine za0 C rfl (by rfl) fun _ hR Kx hKx => ?_
  replace hF := rl hF hR
  clear hR
  go_simp
  try (unfold stored; go_simp)
  refine hKx _ _ ⟨?_,?_⟩
  ·
   co_still (T _)
  clear hKx Kx
  try walk_nrm
  refine za0 C rfl (by rfl) fun _ hR Kx hKx => ?_
  replace hF := rl hF hR
  clear hR
  go_simp
  try (unfold stored; go_simp)
  refine hKx _ _ ⟨?_,?_⟩
  ·
   refine dm_own E hF.size (Own.alloc (by simp [KTs])) ?_
   co_evs (skip)
  clear hKx Kx
  try walk_nrm
  have hW := HW.start (w := _) Fi hF.size
  have hRb := Nat.le_trans (Nat.le_add_right N 9) hF.size
  replace hF := hA2 _ (zh7 N) hF.a
  refine za0 C rfl (by rfl) fun _ hR Kx hKx => ?_
  replace hF := hA _ _ (show RM (kcfg prog N Pb Shun val B Mine) _ _ from hR) hF
  replace hW := (HW.toRM (i := .over) Fi hW (show RM (kcfg prog N Pb Shun val B Mine) _ _ from hR)).rebase
  clear hR
  go_simp
  refine hKx _ _ ⟨?_,?_⟩
  ·
   co_quiet (T _)
  clear hKx Kx
  try walk_nrm
  refine za3 C T ?_
  exact ⟨rfl,rfl,_,rfl,hRb,hF,hW⟩
 refine h5 _ hF b (.code (.seq (.region 6 (opsR Tryz.f61.body 6) false) (.seq (.region 7 (opsR Tryz.f61.body 7) false) (.region 8 (opsR Tryz.f61.body 8) false))) :: k) cs hb hk ?_
 clear hF h5
 rintro i e a w ⟨rfl,rfl,Rb,rfl,hRb,hF,hW⟩
 show XM (kcfg prog N Pb Shun val B Mine) AW (.front (V l)) _ _
 refine C.step rfl fun _ h₁ => ?_
 replace hF := hA _ _ (show RM (kcfg prog N Pb Shun val B Mine) _ _ from h₁) hF
 replace hW := (HW.toRM (i := .over) Fi hW (show RM (kcfg prog N Pb Shun val B Mine) _ _ from h₁)).rebase
 clear h₁
 rw [stepG_seq]
 simp only [goes_go]
 refine ⟨(T (.front (V l))).idle _,?_⟩
 have h6 : ∀ w,A w → HW (kcfg prog N Pb Shun val B Mine) (exR Rb nilS) w Rb nilS nilS [] false w → wpI (XM (kcfg prog N Pb Shun val B Mine) AW) 61 (.region 6 (opsR Tryz.f61.body 6) false) (.front (V l)) (fun i e a w => e = .normal ∧ ∃ x18 Ex w₀ v tk rest en,a = ⟨#[nv, .func (.func f) #[] cap, .pointer (some ⟨N + 1,0,none⟩),undef, .pointer (some ⟨N + 3,0,none⟩), .pointer (some ⟨N + 5,0,none⟩), .pointer (some ⟨N + 6,0,none⟩), .pointer (some ⟨Rb,0,none⟩), .chan (some (N + 2)), .chan (some (N + 4)),zh3 N, .tuple #[], .chan (some (N + 2)), .chan (some (N + 4)), .agg (zh7 N), .pointer (some ⟨Rb,0,none⟩), .func (.func f) #[] cap, .pointer (some ⟨Rb,0,none⟩),x18,undef,undef,undef], []⟩ ∧ tk ++ rest = l ∧ AtP rest en i ∧ HW (kcfg prog N Pb Shun val B Mine) Ex w₀ Rb v v tk en w ∧ (∀ b,exR Rb v b → N ≤ b) ∧ I Rb w) ⟨#[nv, .func (.func f) #[] cap, .pointer (some ⟨N + 1,0,none⟩),undef, .pointer (some ⟨N + 3,0,none⟩), .pointer (some ⟨N + 5,0,none⟩), .pointer (some ⟨N + 6,0,none⟩), .pointer (some ⟨Rb,0,none⟩), .chan (some (N + 2)), .chan (some (N + 4)),zh3 N, .tuple #[], .chan (some (N + 2)), .chan (some (N + 4)), .agg (zh7 N), .pointer (some ⟨Rb,0,none⟩),undef,undef,undef,undef,undef,undef], []⟩ w := by
  intro w hF hW
  simp only [opsR,codeR,Tryz.f61]
  refine za2 C T ?_
  simp only [Nat.reduceEqDiff,if_true,if_false,reduceIte,List.size_toArray,List.length_cons,List.length_nil,Nat.reduceAdd,Nat.zero_add,List.range,List.range.loop]
  iterate 2
   refine za0 C rfl (by rfl) fun _ h₁ Kx hKx => ?_
   replace hF := hA _ _ (show RM (kcfg prog N Pb Shun val B Mine) _ _ from h₁) hF
   replace hW := (HW.toRM (i := .over) Fi hW (show RM (kcfg prog N Pb Shun val B Mine) _ _ from h₁)).rebase
   clear h₁
   go_simp
   try (unfold stored; go_simp)
   refine hKx _ _ ⟨?_,?_⟩
   ·
    co_quiet (T _)
   clear hKx Kx
   try walk_nrm
  have hcall := hnext AW Rb _ hRb hF hW
  refine zd6 (f := f) (first := #[]) (cap := cap) (vs₀ := .front (V l)) C T rfl (by rfl) rfl rfl (by simp [Act.eval]) rfl hcall ?_
  rintro i x18 w ⟨Ex,w₀,v,tk,rest,en,h1,h2,h3,h5,h4⟩
  refine za3 C T ?_
  exact ⟨rfl,x18,Ex,w₀,v,tk,rest,en,rfl,h1,h2,h3,h5,h4⟩
 refine h6 _ hF hW b (.code (.seq (.region 7 (opsR Tryz.f61.body 7) false) (.region 8 (opsR Tryz.f61.body 8) false)) :: k) cs hb hk ?_
 clear hF hW h6 E rl
 rintro i e a w ⟨rfl,x18,Ex,w₀,v,tk,rest,en,rfl,hall,hat,hW,hex,hI⟩
 show XM (kcfg prog N Pb Shun val B Mine) AW i _ _
 refine C.step rfl fun _ h₁ => ?_
 replace hI := hI1 _ _ _ (rmd_rm hat.early h₁) hI
 replace hW := HW.toRM (i := .over) Fi hW (rmd_rm hat.early h₁)
 clear h₁
 rw [stepG_seq]
 simp only [goes_go]
 refine ⟨(T i).idle _,?_⟩
 have h7 : ∀ w,HW (kcfg prog N Pb Shun val B Mine) Ex w₀ Rb v v tk en w → I Rb w → wpI (XM (kcfg prog N Pb Shun val B Mine) AW) 61 (.region 7 (opsR Tryz.f61.body 7) false) i (fun i e a w => e = .normal ∧ i = .over ∧ ∃ x20,a = ⟨#[nv, .func (.func f) #[] cap, .pointer (some ⟨N + 1,0,none⟩),undef, .pointer (some ⟨N + 3,0,none⟩), .pointer (some ⟨N + 5,0,none⟩), .pointer (some ⟨N + 6,0,none⟩), .pointer (some ⟨Rb,0,none⟩), .chan (some (N + 2)), .chan (some (N + 4)),zh3 N, .tuple #[], .chan (some (N + 2)), .chan (some (N + 4)), .agg (zh7 N), .pointer (some ⟨Rb,0,none⟩), .func (.func f) #[] cap, .pointer (some ⟨Rb,0,none⟩),x18, .pointer (some ⟨Rb,0,none⟩),x20,undef], []⟩ ∧ I Rb w) ⟨#[nv, .func (.func f) #[] cap, .pointer (some ⟨N + 1,0,none⟩),undef, .pointer (some ⟨N + 3,0,none⟩), .pointer (some ⟨N + 5,0,none⟩), .pointer (some ⟨N + 6,0,none⟩), .pointer (some ⟨Rb,0,none⟩), .chan (some (N + 2)), .chan (some (N + 4)),zh3 N, .tuple #[], .chan (some (N + 2)), .chan (some (N + 4)), .agg (zh7 N), .pointer (some ⟨Rb,0,none⟩), .func (.func f) #[] cap, .pointer (some ⟨Rb,0,none⟩),x18,undef,undef,undef], []⟩ w := by
  intro w hW hI
  simp only [opsR,codeR,Tryz.f61]
  refine za2 C T ?_
  simp only [Nat.reduceEqDiff,if_true,if_false,reduceIte,List.size_toArray,List.length_cons,List.length_nil,Nat.reduceAdd,Nat.zero_add,List.range,List.range.loop]
  refine za0 C rfl (by rfl) fun _ h₁ Kx hKx => ?_
  replace hI := hI1 _ _ _ (rmd_rm hat.early h₁) hI
  replace hW := HW.toRM (i := .over) Fi hW (rmd_rm hat.early h₁)
  clear h₁
  go_simp
  try (unfold stored; go_simp)
  refine hKx _ _ ⟨?_,?_⟩
  ·
   co_quiet (T _)
  clear hKx Kx
  try walk_nrm
  refine zd6 C T rfl (by rfl) rfl rfl (by simp [Act.eval]) rfl (drain_x Fi l hall hn hW.rebase hat) ?_
  rintro _ x20 w ⟨rfl,v2,hD⟩
  refine za3 C T ?_
  exact ⟨rfl,rfl,x20,rfl,hI2 _ _ _ _ _ _ _ _ hW hex hD.old hI⟩
 refine h7 _ hW hI b (.code (.region 8 (opsR Tryz.f61.body 8) false) :: k) cs hb hk ?_
 clear hW hI h7 hat
 rintro i e a w ⟨rfl,rfl,x20,rfl,hI⟩
 show XM (kcfg prog N Pb Shun val B Mine) AW .over _ _
 subst hAW
 refine XM.joins rfl fun w₁ h₁ hka L hL => ?_
 exact wait_x hFa hk rfl rfl (hIF _ _ (hI1 _ _ _ h₁ hI)) hka
end
end
end Go.Proofs.YtgcaionclkbehaaGreatDoor
