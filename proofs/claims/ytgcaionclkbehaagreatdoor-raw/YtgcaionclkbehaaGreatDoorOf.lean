import Derived.Test.YtgcaionclkbehaaGreatDoorBack
set_option linter.all false
set_option maxRecDepth 100000
set_option maxHeartbeats 400000
namespace Go.Proofs.YtgcaionclkbehaaGreatDoor
open Tryz
section
open Go.Conc Go.RowKit
structure He (w₀ : World) (objs : List Obj) (w : World) : Prop where
 tape : w.tape = w₀.tape
 os : w.os = w₀.os
 output : w.output = w₀.output
 old : ∀ b,b < w₀.heap.size → w.heap[b]? = w₀.heap[b]?
 size : w.heap.size = w₀.heap.size + objs.length
 blocks : ∀ j o,objs[j]? = some o → w.heap[w₀.heap.size + j]? = some o
section
variable {w₀ w w₁ : World} {objs : List Obj} {Post : Value → World → Prop} {S : Nat → Prop}
theorem He.rely (h : He w₀ objs w) (r : AtRel w w₁) : He w₀ objs w₁ := by
 obtain ⟨e,rfl⟩ := r
 exact ⟨h.tape,h.os,h.output,h.old,h.size,h.blocks⟩
theorem He.alloc (h : He w₀ objs w) (o : Obj) : He w₀ (objs ++ [o]) (w.alloc o) := by
 have hs := h.size
 refine ⟨h.tape,h.os,h.output,fun b hb => (Below.heap_alloc _ _ _ (by omega)).trans (h.old b hb),by simp [World.size_alloc,hs]; omega,fun j x hj => ?_⟩
 rcases Nat.lt_or_ge j objs.length with h1 | h1
 ·
  rw [List.getElem?_append_left h1] at hj
  exact (Below.heap_alloc _ _ _ (by omega)).trans (h.blocks j x hj)
 ·
  rw [List.getElem?_append_right h1] at hj
  obtain ⟨hj0,rfl⟩ : j - objs.length = 0 ∧ o = x := by
   cases hjj : j - objs.length with
   | zero => rw [hjj] at hj; simp at hj; exact ⟨rfl,hj⟩
   | succ m => rw [hjj] at hj; simp at hj
  have : w₀.heap.size + j = w.heap.size := by omega
  rw [this]
  exact heap_alloc_new w o
theorem He.set (h : He w₀ objs w) {j o : Nat} {cs : Array Value} {t : TypeId} (hj : objs[j]? = some (.cells cs t)) (v : Value) : He w₀ (objs.set j (.cells (cs.setIfInBounds o v) t)) (w.setCell ⟨w₀.heap.size + j,o,none⟩ v) := by
 refine ⟨h.tape,h.os,h.output,fun b hb => (HC.off' w _ (by omega)).trans (h.old b hb),by simpa [World.setCell] using h.size,fun i x hi => ?_⟩
 by_cases e : i = j
 ·
  subst e
  have hl := (List.getElem?_eq_some_iff.1 hj).1
  rw [List.getElem?_set_self hl] at hi
  obtain rfl := Option.some.inj hi
  exact zd3 (h.blocks i _ hj) v
 ·
  rw [List.getElem?_set_ne (Ne.symm e)] at hi
  exact (HC.off' w _ (by omega)).trans (h.blocks i x hi)
theorem evs_at {e : Event} {ad : Addr} (hS : ∀ b,S b → b < w₀.heap.size) (he : e.loc = .cell ad) (hb : w₀.heap.size ≤ ad.block) : EvS S e := by
 obtain ⟨l,wr,sy⟩ := e
 obtain rfl : l = .cell ad := he
 refine ⟨fun x hx a' ha' hs => ?_,by simp,by simp⟩
 have hl : x.loc = .cell ad := by cases wr <;> cases sy <;> (simp [MemAct.ofEvent,MemAct.touch?] at hx; rw [← hx])
 rw [hl] at ha'
 cases ha'
 have := hS _ hs
 omega
theorem frozen1 {b : Nat} {v : Value} {t : TypeId} (h : w.heap[b]? = some (.cells #[v] t)) : w.frozen? ⟨b,0,none⟩ = false := by simp [World.frozen?,h]
theorem zi8 (w : World) : DZ S w w #[] := fun e he => by simp at he
def chan0 : Obj := .chan 0 #[] false 0 0 false
end
section
variable {w₀ w w₁ : World} {Post : Value → World → Prop} {S : Nat → Prop} {N Pb : Nat} {val nv : Value} {tC : TypeId}
def objs9 (N : Nat) (val : Value) (tC : TypeId) (nv : Value) : List Obj := [.cells #[val] tC, .cells #[nv] 110,chan0, .cells #[.chan (some (N + 2))] 158,chan0, .cells #[.chan (some (N + 4))] 159, .cells #[.int .u64 4294967296, .int .u32 0] 169, .cells #[.pointer (some ⟨N + 6,0,none⟩)] 240, .cells #[zh3 N] 1]
structure HRun (w₀ : World) (N Pb : Nat) (S : Nat → Prop) : Prop where
 size : w₀.heap.size = N
 plo : Pb < N ∨ Pb = N + 1
 sh : ∀ b,S b → b < N ∧ b ≠ Pb
def shunE (N : Nat) (Shun : Loc → Prop) (l : Loc) : Prop := Shun l ∨ ∃ ad : Addr,l = .cell ad ∧ ad.block = N + 6
def SE (N : Nat) (S : Nat → Prop) (b : Nat) : Prop := S b ∨ b = N + 6
structure Client (K : Cfg) (N : Nat) (l : List Int) (f : FuncId) (cap : Array Value) (A F : World → Prop) (I : Nat → World → Prop) : Prop where
 hA : ∀ w w₁,RM K w w₁ → A w → A w₁
 hA2 : ∀ w cs,A w → A (w.alloc (.cells cs 175))
 next : ∀ [Go.ConcR.Payload] [Go.ConcX.Payload] [Go.ConcX.Shy K.Wg K.C] (AW : Goroutine → World → Prop) (Rb : Nat) (w : World),N ≤ Rb → A w → HW K (exR Rb nilS) w Rb nilS nilS [] false w → CallsI prog (XM K AW) f (#[.pointer (some ⟨Rb,0,none⟩)] ++ cap) (.front (V l)) w (fun i' _ w' => ∃ Ex w₀ v' tk' rest' en',tk' ++ rest' = l ∧ AtP rest' en' i' ∧ HW K Ex w₀ Rb v' v' tk' en' w' ∧ (∀ b,exR Rb v' b → N ≤ b) ∧ I Rb w')
 hI1 : ∀ Rb w w₁,RM K w w₁ → I Rb w → I Rb w₁
 hI2 : ∀ Rb Ex w₀ v tk en w w',HW K Ex w₀ Rb v v tk en w → (∀ b,exR Rb v b → N ≤ b) → Kept (mineM K) (outM K) (exR Rb v) w w' → I Rb w → I Rb w'
 hIF : ∀ Rb w,I Rb w → F w
theorem fitE (H : HRun w₀ N Pb S) {Shun : Loc → Prop} (hSh : ∀ l,Shun l → ∃ ad : Addr,l = .cell ad ∧ S ad.block) : Cfg.Fit (kcfg prog N Pb (shunE N Shun) val (N + 9) (fun _ => False)) := by
 have hp := H.plo
 have hs : ∀ ad : Addr,shunE N Shun (.cell ad) → (ad.block < N ∧ ad.block ≠ Pb) ∨ ad.block = N + 6 := by
  rintro ad (h | ⟨a,e,h⟩)
  ·
   obtain ⟨a,e,h⟩ := hSh _ h
   cases e
   exact .inl (H.sh _ h)
  ·
   cases e; exact .inr h
 constructor
 ·
  show N + 2 ≠ N + 4; omega
 ·
  show N + 2 ≠ N + 6; omega
 ·
  show N + 4 ≠ N + 6; omega
 ·
  show ¬ (N + 2 = N); omega
 ·
  show ¬ (N + 4 = N); omega
 ·
  show ¬ (N + 6 = N); omega
 ·
  show N + 2 < N + 9; omega
 ·
  show N + 4 < N + 9; omega
 ·
  show N + 6 < N + 9; omega
 ·
  show ¬ (N + 2 = N + 1 ∨ N + 2 = N + 3 ∨ N + 2 = N + 5 ∨ N + 2 = N + 7 ∨ N + 2 = N + 8 ∨ N + 2 = Pb); omega
 ·
  show ¬ (N + 4 = N + 1 ∨ N + 4 = N + 3 ∨ N + 4 = N + 5 ∨ N + 4 = N + 7 ∨ N + 4 = N + 8 ∨ N + 4 = Pb); omega
 ·
  show ¬ (N + 6 = N + 1 ∨ N + 6 = N + 3 ∨ N + 6 = N + 5 ∨ N + 6 = N + 7 ∨ N + 6 = N + 8 ∨ N + 6 = Pb); omega
 ·
  intro b h
  have h' : b = N + 1 ∨ b = N + 3 ∨ b = N + 5 ∨ b = N + 7 ∨ b = N + 8 ∨ b = Pb := h
  show b < N + 9; omega
 ·
  intro b h
  have h' : b = N := h
  show b < N + 9; omega
 ·
  intro b h1 h2
  have h1' : b = N := h1
  have h2' : b = N + 1 ∨ b = N + 3 ∨ b = N + 5 ∨ b = N + 7 ∨ b = N + 8 ∨ b = Pb := h2
  omega
 ·
  exact rfl
 ·
  exact fun a h => .inr ⟨a,rfl,h⟩
 ·
  intro l h
  have : ∃ a,l = .cell a := by
   rcases h with h | ⟨a,e,_⟩
   ·
    obtain ⟨a,e,_⟩ := hSh _ h; exact ⟨a,e⟩
   ·
    exact ⟨a,e⟩
  obtain ⟨a,rfl⟩ := this
  refine ⟨a,rfl,?_⟩
  show a.block < N + 9
  rcases hs a h with z | z <;> omega
 ·
  intro a h hh
  have h' : a.block = N := h
  rcases hs a hh with z | z <;> omega
 ·
  intro a h hh
  have h' : a.block = N + 1 ∨ a.block = N + 3 ∨ a.block = N + 5 ∨ a.block = N + 7 ∨ a.block = N + 8 ∨ a.block = Pb := h
  rcases hs a hh with z | z <;> omega
 ·
  show N + 6 < N + 9; omega
 ·
  show N < N + 9; omega
theorem fork_x {A F : World → Prop} {I : Nat → World → Prop} {f : FuncId} {cap : Array Value} {l : List Int} (H : HRun w₀ N Pb S) (hF : He w₀ (objs9 N val tC nv) w) (hn : l.length ≤ 1000000) {b : Frame} {k : List Item} {cs : List Frame} (hb : b.fn = 61) (hk : b.kind ≠ .early) {g : Goroutine} {tm : Array Value} (hs : g.status = .running)
  (hsp : ∀ e,stepG prog true g (w.at e) = .spawn (G ((base 111).at ⟨tm, []⟩ [.inRegion (opsG Tryz.f111.body) []]) (b.at ⟨t47 N nv (.func (.func f) #[] cap) undef, []⟩ (.inRegion (opsR Tryz.f61.body 4) [1] :: .code (.seq (.region 5 (opsR Tryz.f61.body 5) false) (.seq (.region 6 (opsR Tryz.f61.body 6) false) (.seq (.region 7 (opsR Tryz.f61.body 7) false) (.region 8 (opsR Tryz.f61.body 8) false)))) :: k) :: cs)) (born prog (callGo N)) (w.at e) #[])
  (hkid : ∀ (Shun : Loc → Prop) (e : Nat) [Go.ConcR.Payload] [Go.ConcX.Payload],XK (kcfg prog N Pb (shunE N Shun) val (N + 9) (fun _ => False)) (true,V l) (born prog (callGo N)) (w.at e))
  (hcl : ∀ Shun : Loc → Prop,(∀ l,Shun l → ∃ ad : Addr,l = .cell ad ∧ S ad.block) → Client (kcfg prog N Pb (shunE N Shun) val (N + 9) (fun _ => False)) N l f cap A F I) (hA0 : ∀ e,A (w.at e)) (hFa : ∀ w w₁,Go.ConcX.Aside2 N (N + 6) w w₁ → F w → F w₁)
  (hfin : ∀ (a : Act) (w : World),a.defers = [] → F w → w.heap[N + 6]? = some (.cells #[.int .u64 0, .int .u32 0] 169) → ZI prog Post 0 (SE N S) (G (b.at (a.put (some 21) (.tuple #[])) (.inRegion (opsR Tryz.f61.body 8) [] :: k)) cs) w) :
  ZI prog Post 0 S g w := by
 letI IR : Go.ConcR.Payload := ⟨tC⟩
 letI IX : Go.ConcX.Payload := ⟨tC⟩
 refine ZI.fork hs hsp fun e Shun hSh => ?_
 have hfit := fitE (val := val) H hSh
 have hC := hcl Shun hSh
 obtain rfl := H.size
 have hF' : He w₀ (objs9 w₀.heap.size val tC nv) (w.at e) := hF.rely ⟨e,rfl⟩
 refine ⟨kcfg prog w₀.heap.size Pb (shunE w₀.heap.size Shun) val (w₀.heap.size + 9) (fun _ => False),IX,IR,shyK _ hfit (ZI prog Post 0 (SE w₀.heap.size S)),
  @AnchR (kcfg prog w₀.heap.size Pb (shunE w₀.heap.size Shun) val (w₀.heap.size + 9) (fun _ => False)) IX (shyK _ hfit (ZI prog Post 0 (SE w₀.heap.size S))) F b k cs,fun _ _ => True,V l,fun b => ¬ SE w₀.heap.size S b,w₀.heap.size + 7,?_⟩
 have hsz : (w.at e).heap.size = w₀.heap.size + 9 := hF'.size
 constructor
 ·
  rfl
 ·
  exact hfit
 ·
  rfl
 ·
  exact shyK_ok _ hfit _
 ·
  rintro g w ⟨a,_,T,rfl,_⟩; rfl
 ·
  rintro L hL g w ⟨a,had,h⟩
  obtain ⟨m,hm⟩ := @Go.ConcX.Gen.waitRound IX link (fun _ => False) (w₀.heap.size + 6) w₀.heap.size L (shyK _ hfit (ZI prog Post 0 (SE w₀.heap.size S))) [val] (fun _ _ => True) F b a (opsR Tryz.f61.body 8) 0 [] k cs 0 prog wgLib (by omega) (fun _ _ r h => hFa _ _ r h) (fun w hFw hW _ w₁ h₁ => ⟨rfl,ZI.closed.rely (hfin a w had hFw hW) h₁⟩) g w h
  exact ⟨m,Go.ConcN.goes_mono (fun g w h => @atW1_mono IR IX (kcfg prog w₀.heap.size Pb (shunE w₀.heap.size Shun) val (w₀.heap.size + 9) (fun _ => False)) (shyK _ hfit (ZI prog Post 0 (SE w₀.heap.size S))) L _ _ _ (fun _ _ h => ⟨a,had,h⟩) g w h) hm⟩
 ·
  exact fun l hl => .inl hl
 ·
  intro l hl
  obtain ⟨ad,rfl,hlt⟩ := hfit.shunCell l hl
  rcases hl with h | ⟨a,e,h⟩
  ·
   obtain ⟨a,e,h⟩ := hSh _ h
   cases e
   exact ⟨ad,rfl,by have := (H.sh _ h).1; omega,fun hn => hn (.inl h)⟩
  ·
   cases e
   exact ⟨ad,rfl,by omega,fun hn => hn (.inr h)⟩
 ·
  exact hkid Shun e
 ·
  exact @main_x w₀.heap.size Pb _ _ _ _ _ IR IX (shyK _ hfit (ZI prog Post 0 (SE w₀.heap.size S))) A F I b k cs tm f cap nv hfit hb hk l hn hC.hA hC.hA2 (@Client.next _ _ _ _ _ _ _ _ hC IR IX (shyK _ hfit (ZI prog Post 0 (SE w₀.heap.size S)))) hC.hI1 hC.hI2 hC.hIF hFa ⟨hF'.blocks 3 _ rfl,hF'.blocks 5 _ rfl,by omega,hA0 e⟩
 ·
  show w₀.heap.size + 9 ≤ _; omega
 ·
  exact hF'.blocks 6 _ rfl
 ·
  exact hF'.blocks 2 _ rfl
 ·
  exact hF'.blocks 4 _ rfl
 ·
  exact ⟨_,hF'.blocks 0 _ rfl,rfl⟩
 ·
  exact fun a w h => h _
end
end
set_option maxRecDepth 100000
set_option maxHeartbeats 2000000
section
open Go.Conc Go.RowKit
section
variable {w₀ w w₁ : World} {Post : Value → World → Prop} {S : Nat → Prop}
def objs7 (N : Nat) (val : Value) (tC : TypeId) (nv : Value) : List Obj := [.cells #[val] tC, .cells #[nv] 110,chan0, .cells #[.chan (some (N + 2))] 158,chan0, .cells #[.chan (some (N + 4))] 159, .cells #[.int .u64 0, .int .u32 0] 169]
theorem run_front (val nx : Value) (fr : FuncId) (cr : Array Value) (tC : TypeId) (hF : He w₀ [.cells #[val] tC] w) (hS : ∀ b,S b → b < w₀.heap.size) (Q : PostI (Nat → Prop)) (c : Code)
  (hnext : ∀ w,He w₀ (objs7 w₀.heap.size val tC (.func (.func fr) #[] cr)) w → wpI (ZI prog Post 0) 61 c S Q ⟨#[(.func (.func fr) #[] cr),nx, .pointer (some ⟨w₀.heap.size + 1,0,none⟩),undef, .pointer (some ⟨w₀.heap.size + 3,0,none⟩), .pointer (some ⟨w₀.heap.size + 5,0,none⟩), .pointer (some ⟨w₀.heap.size + 6,0,none⟩),undef, .chan (some (w₀.heap.size + 2)), .chan (some (w₀.heap.size + 4)),undef,undef,undef,undef,undef,undef,undef,undef,undef,undef,undef,undef], []⟩ w) :
  ∀ r0 r1 r2 r3,Tryz.f61.body = some (.seq r0 (.seq r1 (.seq r2 (.seq r3 c)))) → wpI (ZI prog Post 0) 61 (.seq r0 (.seq r1 (.seq r2 (.seq r3 c)))) S Q ⟨#[(.func (.func fr) #[] cr),nx,undef,undef,undef,undef,undef,undef,undef,undef,undef,undef,undef,undef,undef,undef,undef,undef,undef,undef,undef,undef], []⟩ w := by
 intro r0 r1 r2 r3 hbody
 simp only [Tryz.f61,Option.some.injEq,Code.seq.injEq] at hbody
 obtain ⟨rfl,rfl,rfl,rfl,rfl⟩ := hbody
 have C : ClosedI prog true (fun _ : Nat → Prop => AtRel) DZ (ZI prog Post 0) := ZI.closed
 have T : ∀ S,Terms AtRel (DZ S) := termsS
 have al1 := fun w => zi1 (w := w) Tryz.zeroValue158
 have ae1 := fun w es => zf3 (w := w) Tryz.zeroValue158 es
 have al2 := fun w => zi1 (w := w) Tryz.zeroValue159
 have ae2 := fun w es => zf3 (w := w) Tryz.zeroValue159 es
 have al3 := fun w => zi1 (w := w) Tryz.zeroValue169
 have ae3 := fun w es => zf3 (w := w) Tryz.zeroValue169 es
 obtain ⟨i1,hi1,hb1⟩ := Option.map_eq_some_iff.1 (show (prog.info? 21).map (·.bytes) = some 4 by kernel_rfl)
 obtain ⟨i2,hi2,hb2⟩ := Option.map_eq_some_iff.1 (show (prog.info? 160).map (·.bytes) = some 0 by kernel_rfl)
 have mc1 := fun w => run_makeChan (P := prog) (w := w) underlying158 hi1 .i64 0 (by decide) (by simp [hb1])
 have mc2 := fun w => run_makeChan (P := prog) (w := w) underlying159 hi2 .i64 0 (by decide) (by simp [hb2])
 have me1 := fun w es => events_makeChan (P := prog) (w := w) underlying158 hi1 .i64 0 (by decide) (by simp [hb1]) es
 have me2 := fun w es => events_makeChan (P := prog) (w := w) underlying159 hi2 .i64 0 (by decide) (by simp [hb2]) es
 simp only [Int.ofNat_zero,Int.cast_ofNat_Int] at mc1 mc2 me1 me2
 have bx := fun w v => box_run prog w 110 v
 have be := fun w v es => zk2 prog w 110 v es
 refine za5 C T ?_
 refine za2 C T ?_
 simp only [szR,Nat.reduceAdd]
 refine za0 C rfl (by rfl) fun _ hR Kx hKx => ?_
 replace hF := He.rely hF hR
 clear hR
 go_simp
 try (unfold stored; go_simp)
 refine hKx _ _ ⟨?_,?_⟩
 ·
  intro e he
  have hm := mem_listed he
  simp [go_sem, *] at hm
 clear hKx Kx
 try walk_nrm
 have hsz := hF.size
 simp only [List.length_cons,List.length_nil,Nat.reduceAdd,Nat.add_zero,Nat.zero_add] at hsz
 simp only [hsz]
 clear hsz
 replace hF := hF.alloc (.cells #[(.func (.func fr) #[] cr)] 110)
 simp only [List.cons_append,List.nil_append] at hF
 refine za3 C T ?_
 show wpI _ _ _ _ _ _ _
 refine za5 C T ?_
 refine za2 C T ?_
 simp only [szR,Nat.reduceAdd]
 refine za0 C rfl (by rfl) fun _ hR Kx hKx => ?_
 replace hF := He.rely hF hR
 clear hR
 go_simp
 try (unfold stored; go_simp)
 refine hKx _ _ ⟨?_,?_⟩
 ·
  intro e he
  have hm := mem_listed he
  simp [go_sem, *] at hm
 clear hKx Kx
 try walk_nrm
 have hsz := hF.size
 simp only [List.length_cons,List.length_nil,Nat.reduceAdd,Nat.add_zero,Nat.zero_add] at hsz
 simp only [hsz]
 clear hsz
 replace hF := hF.alloc (chan0)
 simp only [List.cons_append,List.nil_append] at hF
 refine za0 C rfl (by rfl) fun _ hR Kx hKx => ?_
 replace hF := He.rely hF hR
 clear hR
 go_simp
 try (unfold stored; go_simp)
 refine hKx _ _ ⟨?_,?_⟩
 ·
  intro e he
  have hm := mem_listed he
  simp [go_sem, *] at hm
 clear hKx Kx
 try walk_nrm
 have hsz := hF.size
 simp only [List.length_cons,List.length_nil,Nat.reduceAdd,Nat.add_zero,Nat.zero_add] at hsz
 simp only [hsz]
 clear hsz
 replace hF := hF.alloc (.cells #[.chan none] 158)
 simp only [List.cons_append,List.nil_append] at hF
 refine za0 C rfl (by rfl) fun _ hR Kx hKx => ?_
 replace hF := He.rely hF hR
 clear hR
 have hb := hF.blocks 3 _ rfl
 have hc := cell1 hb
 have hfz : World.frozen? _ ⟨w₀.heap.size + 3,0,none⟩ = false := frozen1 hb
 go_simp
 try (unfold stored; go_simp)
 refine hKx _ _ ⟨?_,?_⟩
 ·
  intro e he
  have hm := mem_listed he
  simp [go_sem, *] at hm
  subst hm
  exact evs_at (w₀ := w₀) hS rfl (by simp)
 clear hKx Kx
 try walk_nrm
 clear hb hc hfz
 replace hF := hF.set (j := 3) (o := 0) rfl (.chan (some (w₀.heap.size + 2)))
 simp only [List.set,List.setIfInBounds_toArray] at hF
 refine za3 C T ?_
 show wpI _ _ _ _ _ _ _
 refine za5 C T ?_
 refine za2 C T ?_
 simp only [szR,Nat.reduceAdd]
 refine za0 C rfl (by rfl) fun _ hR Kx hKx => ?_
 replace hF := He.rely hF hR
 clear hR
 go_simp
 try (unfold stored; go_simp)
 refine hKx _ _ ⟨?_,?_⟩
 ·
  intro e he
  have hm := mem_listed he
  simp [go_sem, *] at hm
 clear hKx Kx
 try walk_nrm
 have hsz := hF.size
 simp only [List.length_cons,List.length_nil,Nat.reduceAdd,Nat.add_zero,Nat.zero_add] at hsz
 simp only [hsz]
 clear hsz
 replace hF := hF.alloc (chan0)
 simp only [List.cons_append,List.nil_append] at hF
 refine za0 C rfl (by rfl) fun _ hR Kx hKx => ?_
 replace hF := He.rely hF hR
 clear hR
 go_simp
 try (unfold stored; go_simp)
 refine hKx _ _ ⟨?_,?_⟩
 ·
  intro e he
  have hm := mem_listed he
  simp [go_sem, *] at hm
 clear hKx Kx
 try walk_nrm
 have hsz := hF.size
 simp only [List.length_cons,List.length_nil,Nat.reduceAdd,Nat.add_zero,Nat.zero_add] at hsz
 simp only [hsz]
 clear hsz
 replace hF := hF.alloc (.cells #[.chan none] 159)
 simp only [List.cons_append,List.nil_append] at hF
 refine za0 C rfl (by rfl) fun _ hR Kx hKx => ?_
 replace hF := He.rely hF hR
 clear hR
 have hb := hF.blocks 5 _ rfl
 have hc := cell1 hb
 have hfz : World.frozen? _ ⟨w₀.heap.size + 5,0,none⟩ = false := frozen1 hb
 go_simp
 try (unfold stored; go_simp)
 refine hKx _ _ ⟨?_,?_⟩
 ·
  intro e he
  have hm := mem_listed he
  simp [go_sem, *] at hm
  subst hm
  exact evs_at (w₀ := w₀) hS rfl (by simp)
 clear hKx Kx
 try walk_nrm
 clear hb hc hfz
 replace hF := hF.set (j := 5) (o := 0) rfl (.chan (some (w₀.heap.size + 4)))
 simp only [List.set,List.setIfInBounds_toArray] at hF
 refine za3 C T ?_
 show wpI _ _ _ _ _ _ _
 refine za5 C T ?_
 refine za2 C T ?_
 simp only [szR,Nat.reduceAdd]
 refine za0 C rfl (by rfl) fun _ hR Kx hKx => ?_
 replace hF := He.rely hF hR
 clear hR
 go_simp
 try (unfold stored; go_simp)
 refine hKx _ _ ⟨?_,?_⟩
 ·
  intro e he
  have hm := mem_listed he
  simp [go_sem, *] at hm
 clear hKx Kx
 try walk_nrm
 have hsz := hF.size
 simp only [List.length_cons,List.length_nil,Nat.reduceAdd,Nat.add_zero,Nat.zero_add] at hsz
 simp only [hsz]
 clear hsz
 replace hF := hF.alloc (.cells #[.int .u64 0, .int .u32 0] 169)
 simp only [List.cons_append,List.nil_append] at hF
 refine za3 C T ?_
 show wpI _ _ _ _ _ _ _
 exact hnext _ hF
end
end
set_option maxRecDepth 100000
set_option maxHeartbeats 2000000
section
open Go.Conc Go.RowKit
section
variable {w₀ w w₁ : World} {Post : Value → World → Prop} {S : Nat → Prop} {N Pb : Nat} {val : Value} {tC : TypeId}
theorem run_back {A F : World → Prop} {I : Nat → World → Prop} {f fr : FuncId} {cap cr : Array Value} {l : List Int} (H : HRun w₀ N Pb S) (hF : He w₀ (objs7 N val tC (.func (.func fr) #[] cr)) w) (hn : l.length ≤ 1000000) {Q : PostI (Nat → Prop)}
  (hkid : ∀ (Shun : Loc → Prop) (w : World) [Go.ConcR.Payload] [Go.ConcX.Payload],He w₀ (objs9 N val tC (.func (.func fr) #[] cr)) w → XK (kcfg prog N Pb (shunE N Shun) val (N + 9) (fun _ => False)) (true,V l) (born prog (callGo N)) w)
  (hcl : ∀ Shun : Loc → Prop,(∀ l,Shun l → ∃ ad : Addr,l = .cell ad ∧ S ad.block) → Client (kcfg prog N Pb (shunE N Shun) val (N + 9) (fun _ => False)) N l f cap A F I) (hA0 : ∀ w,He w₀ (objs9 N val tC (.func (.func fr) #[] cr)) w → A w) (hFa : ∀ w w₁,Go.ConcX.Aside2 N (N + 6) w w₁ → F w → F w₁)
  (hq : ∀ (a : Act) (w : World),a.defers = [] → F w → w.heap[N + 6]? = some (.cells #[.int .u64 0, .int .u32 0] 169) → Q (SE N S) .normal a w) :
  wpI (ZI prog Post 0) 61 (codeR Tryz.f61.body) S Q ⟨#[(.func (.func fr) #[] cr),(.func (.func f) #[] cap), .pointer (some ⟨N + 1,0,none⟩),undef, .pointer (some ⟨N + 3,0,none⟩), .pointer (some ⟨N + 5,0,none⟩), .pointer (some ⟨N + 6,0,none⟩),undef, .chan (some (N + 2)), .chan (some (N + 4)),undef,undef,undef,undef,undef,undef,undef,undef,undef,undef,undef,undef], []⟩ w := by
 have C : ClosedI prog true (fun _ : Nat → Prop => AtRel) DZ (ZI prog Post 0) := ZI.closed
 have hSN : ∀ b,S b → b < w₀.heap.size := fun b h => by rw [H.size]; exact (H.sh b h).1
 have hmk1 : ∀ w es,(Instr.makeFunc (Fn.func 112) #[] #[Value.pointer (some ⟨N + 5,0,none⟩),Value.pointer (some ⟨N + 1,0,none⟩),Value.pointer (some ⟨N + 3,0,none⟩)]).events prog w es = es := fun w es => by simp [Instr.makeFunc]
 have hmk2 : ∀ w es,(Instr.makeFunc (Fn.func 200) #[] #[Value.pointer (some ⟨N + 7,0,none⟩),Value.pointer (some ⟨N + 8,0,none⟩)]).events prog w es = es := fun w es => by simp [Instr.makeFunc]
 have bx := fun w t v => box_run prog w t v
 have be := fun w t v es => zk2 prog w t v es
 intro b k cs hb hk hc
 have hcode : (codeR Tryz.f61.body) = .seq (.region 4 (opsR Tryz.f61.body 4) false) (.seq (.region 5 (opsR Tryz.f61.body 5) false) (.seq (.region 6 (opsR Tryz.f61.body 6) false) (.seq (.region 7 (opsR Tryz.f61.body 7) false) (.region 8 (opsR Tryz.f61.body 8) false)))) := by rfl
 rw [hcode]
 obtain rfl := H.size
 refine C.step rfl fun _ h₁ => ?_
 replace hF := hF.rely h₁
 clear h₁
 rw [stepG_seq]
 simp only [goes_go]
 refine ⟨zi8 _,?_⟩
 refine C.step rfl fun _ h₁ => ?_
 replace hF := hF.rely h₁
 clear h₁
 rw [stepG_region]
 simp only [goes_go]
 refine ⟨zi8 _,?_⟩
 have hr4 : List.range (opsR Tryz.f61.body 4).size = [0,1] := by rfl
 rw [hr4]
 obtain ⟨o,ho,hop,hod,hog⟩ : ∃ o,(opsR Tryz.f61.body 4)[0]? = some o ∧ o.op = .makeFunc (.func 112) #[] #[.tmp 5, .tmp 2, .tmp 4] ∧ o.dst = some 10 ∧ o.guard = none := ⟨_,rfl,rfl,rfl,rfl⟩
 refine C.step rfl fun w₁ h₁ => ?_
 replace hF := hF.rely h₁
 clear h₁
 rw [stepG_value (v := zh3 w₀.heap.size) (w' := w₁) ho (by simp [Region.wanted,hog]) hk (by unfold execOp; simp [hop,Instr.makeFunc,Act.eval,zh3]),listed_nil (by unfold execOp; simp [hop,Instr.makeFunc,Act.eval])]
 simp only [goes_go]
 refine ⟨zi8 _,?_⟩
 rw [hod]
 have ht1 : (⟨#[(.func (.func fr) #[] cr),(.func (.func f) #[] cap), .pointer (some ⟨w₀.heap.size + 1,0,none⟩),undef, .pointer (some ⟨w₀.heap.size + 3,0,none⟩), .pointer (some ⟨w₀.heap.size + 5,0,none⟩), .pointer (some ⟨w₀.heap.size + 6,0,none⟩),undef, .chan (some (w₀.heap.size + 2)), .chan (some (w₀.heap.size + 4)),undef,undef,undef,undef,undef,undef,undef,undef,undef,undef,undef,undef], []⟩ : Act).put (some 10) (zh3 w₀.heap.size) = ⟨t47 w₀.heap.size (.func (.func fr) #[] cr) (.func (.func f) #[] cap) undef, []⟩ := by rfl
 rw [ht1]
 refine C.step rfl fun _ h₁ => ?_
 replace hF := hF.rely h₁
 clear h₁
 refine goes_call (b := b) (a := ⟨t47 w₀.heap.size (.func (.func fr) #[] cr) (.func (.func f) #[] cap) undef, []⟩) (ops := opsR Tryz.f61.body 4) (i := 1) (args := #[.tmp 6, .tmp 10]) (ats := #[169,1]) rfl rfl hk rfl func111 (by rfl) rfl ⟨zi8 _,?_⟩
 have ht2 : (#[Operand.tmp 6,Operand.tmp 10].map (Act.eval ⟨t47 w₀.heap.size (.func (.func fr) #[] cr) (.func (.func f) #[] cap) undef, []⟩)) ++ Array.replicate (Tryz.f111.ntmps - (#[Operand.tmp 6,Operand.tmp 10].map (Act.eval ⟨t47 w₀.heap.size (.func (.func fr) #[] cr) (.func (.func f) #[] cap) undef, []⟩)).size) undef = #[.pointer (some ⟨w₀.heap.size + 6,0,none⟩),zh3 w₀.heap.size,undef,undef,undef,undef,undef] := by simp [Act.eval,t47,Tryz.f111,Array.replicate_succ]
 rw [ht2]
 refine C.step rfl fun _ h₁ => ?_
 replace hF := hF.rely h₁
 clear h₁
 rw [stepG_seq]
 simp only [goes_go]
 refine ⟨zi8 _,?_⟩
 refine C.step rfl fun _ h₁ => ?_
 replace hF := hF.rely h₁
 clear h₁
 rw [stepG_region]
 simp only [goes_go,List.size_toArray,List.length_cons,List.length_nil,Nat.reduceAdd,Nat.zero_add,List.range,List.range.loop]
 refine ⟨zi8 _,?_⟩
 refine C.step rfl fun _ h₁ => ?_
 replace hF := hF.rely h₁
 clear h₁
 refine goes_oper_k rfl rfl (by decide) (fun Kx hKx => ?_)
 skip
 go_simp
 refine hKx _ _ ⟨?_,?_⟩
 ·
  intro e he
  have hm := mem_listed he
  simp [go_sem, *] at hm
 clear hKx Kx
 try walk_nrm
 have hsz := hF.size
 simp only [objs7,List.length_cons,List.length_nil,Nat.reduceAdd,Nat.add_zero,Nat.zero_add] at hsz
 simp only [hsz]
 clear hsz
 replace hF := hF.alloc (.cells #[.pointer (some ⟨w₀.heap.size + 6,0,none⟩)] 240)
 simp only [objs7,List.cons_append,List.nil_append] at hF
 refine C.step rfl fun _ h₁ => ?_
 replace hF := hF.rely h₁
 clear h₁
 refine goes_oper_k rfl rfl (by decide) (fun Kx hKx => ?_)
 skip
 go_simp
 refine hKx _ _ ⟨?_,?_⟩
 ·
  intro e he
  have hm := mem_listed he
  simp [go_sem, *] at hm
 clear hKx Kx
 try walk_nrm
 have hsz := hF.size
 simp only [objs7,List.length_cons,List.length_nil,Nat.reduceAdd,Nat.add_zero,Nat.zero_add] at hsz
 simp only [hsz]
 clear hsz
 replace hF := hF.alloc (.cells #[zh3 w₀.heap.size] 1)
 simp only [objs7,List.cons_append,List.nil_append] at hF
 refine C.step rfl fun _ h₁ => ?_
 replace hF := hF.rely h₁
 clear h₁
 rw [stepG_region_end]
 simp only [goes_go]
 refine ⟨zi8 _,?_⟩
 refine C.step rfl fun _ h₁ => ?_
 replace hF := hF.rely h₁
 clear h₁
 rw [stepG_seq]
 simp only [goes_go]
 refine ⟨zi8 _,?_⟩
 refine C.step rfl fun _ h₁ => ?_
 replace hF := hF.rely h₁
 clear h₁
 rw [stepG_region]
 simp only [goes_go,List.size_toArray,List.length_cons,List.length_nil,Nat.reduceAdd,Nat.zero_add,List.range,List.range.loop]
 refine ⟨zi8 _,?_⟩
 refine C.step rfl fun _ h₁ => ?_
 replace hF := hF.rely h₁
 clear h₁
 refine goes_oper_k rfl rfl (by decide) (fun Kx hKx => ?_)
 have hcc := cell1 (hF.blocks 7 _ rfl)
 go_simp
 refine hKx _ _ ⟨?_,?_⟩
 ·
  intro e he
  have hm := mem_listed he
  simp [go_sem, *] at hm
  subst hm; exact evs_at (w₀ := w₀) hSN rfl (by simp)
 clear hKx Kx
 try walk_nrm
 clear hcc
 refine C.step rfl fun _ h₁ => ?_
 replace hF := hF.rely h₁
 clear h₁
 refine goes_call rfl rfl (by decide) rfl wgLib.f_add (Go.ConcX.Gen.nm_add link) rfl ⟨zi8 _,?_⟩
 walk_nrmf Go.Conc.Lib.addFn
 have hA := @add_x Post S (w₀.heap.size + 6) w₀.heap.size
 simp only [Go.ConcX.Gen.body_add,Go.Conc.Lib.addFn,Option.getD_some] at hA
 refine hA (fun h => by have := hSN _ h; omega) (fun h => by have := hSN _ h; omega) (hF.blocks 6 _ rfl) ?_
 replace hF := hF.set (j := 6) (o := 0) rfl (.int .u64 4294967296)
 simp only [List.set,List.setIfInBounds_toArray] at hF
 try walk_nrm
 refine C.step rfl fun _ h₁ => ?_
 replace hF := hF.rely h₁
 clear h₁
 rw [stepG_region_end]
 simp only [goes_go]
 refine ⟨zi8 _,?_⟩
 refine C.step rfl fun _ h₁ => ?_
 replace hF := hF.rely h₁
 clear h₁
 rw [stepG_region]
 simp only [goes_go,List.size_toArray,List.length_cons,List.length_nil,Nat.reduceAdd,Nat.zero_add,List.range,List.range.loop]
 refine ⟨zi8 _,?_⟩
 refine C.step rfl fun _ h₁ => ?_
 replace hF := hF.rely h₁
 clear h₁
 refine goes_oper_k rfl rfl (by decide) (fun Kx hKx => ?_)
 skip
 go_simp
 refine hKx _ _ ⟨?_,?_⟩
 ·
  intro e he
  have hm := mem_listed he
  simp [go_sem, *] at hm
 clear hKx Kx
 try walk_nrm
 refine fork_x (A := A) (F := F) (I := I) (k := k) (cs := cs) (tm := #[.pointer (some ⟨w₀.heap.size + 6,0,none⟩),zh3 w₀.heap.size, .pointer (some ⟨w₀.heap.size + 7,0,none⟩), .pointer (some ⟨w₀.heap.size + 8,0,none⟩), .pointer (some ⟨w₀.heap.size + 6,0,none⟩), .tuple #[], .func (.func 200) #[] #[.pointer (some ⟨w₀.heap.size + 7,0,none⟩), .pointer (some ⟨w₀.heap.size + 8,0,none⟩)]]) H hF hn hb hk rfl (fun e => ?_) (fun Shun e _ _ => hkid Shun _ (hF.rely ⟨e,rfl⟩)) hcl (fun e => hA0 _ (hF.rely ⟨e,rfl⟩)) hFa (fun a w had hFw hW => ?_)
 ·
  rw [stepG_spawn (d := callGo w₀.heap.size) rfl rfl (by decide) (by simp [execOp,go_sem,resolve,Deferred.ofValue,callGo,Act.eval]; rfl) rfl,listed_nil (by simp [execOp,go_sem,resolve,Deferred.ofValue,Act.eval])]
  rfl
 ·
  refine C.step rfl fun w₁ h₁ => ?_
  rw [stepG_region_end]
  simp only [goes_go]
  exact ⟨zi8 _,C.rely (hc _ _ (a.put (some 21) (.tuple #[])) _ (hq _ w had hFw hW)) h₁⟩
theorem run_x {A F : World → Prop} {I : Nat → World → Prop} {f fr : FuncId} {cap cr : Array Value} {l : List Int} (H : HRun w₀ N Pb S) (hF : He w₀ [.cells #[val] tC] w) (hn : l.length ≤ 1000000)
  (hkid : ∀ (Shun : Loc → Prop) (w : World) [Go.ConcR.Payload] [Go.ConcX.Payload],He w₀ (objs9 N val tC (.func (.func fr) #[] cr)) w → XK (kcfg prog N Pb (shunE N Shun) val (N + 9) (fun _ => False)) (true,V l) (born prog (callGo N)) w)
  (hcl : ∀ Shun : Loc → Prop,(∀ l,Shun l → ∃ ad : Addr,l = .cell ad ∧ S ad.block) → Client (kcfg prog N Pb (shunE N Shun) val (N + 9) (fun _ => False)) N l f cap A F I) (hA0 : ∀ w,He w₀ (objs9 N val tC (.func (.func fr) #[] cr)) w → A w) (hFa : ∀ w w₁,Go.ConcX.Aside2 N (N + 6) w w₁ → F w → F w₁) :
  CallsI prog (ZI prog Post 0) 61 #[(.func (.func fr) #[] cr),(.func (.func f) #[] cap)] S w (fun S' _ w' => S' = SE N S ∧ F w' ∧ w'.heap[N + 6]? = some (.cells #[.int .u64 0, .int .u32 0] 169)) := by
 refine zc2 func61 (by rfl) (c := .seq _ (.seq _ (.seq _ (.seq _ (codeR Tryz.f61.body))))) rfl ?_
 simp only [ntmps61,List.size_toArray,List.length_cons,List.length_nil,Nat.reduceAdd,Nat.reduceSub,Array.replicate_succ,Array.replicate_zero,List.push_toArray,List.append_toArray,List.nil_append,List.cons_append]
 have hN := H.size
 refine run_front val (.func (.func f) #[] cap) fr cr tC hF (fun b h => by rw [hN]; exact (H.sh b h).1) _ (codeR Tryz.f61.body) (fun w hF => ?_) _ _ _ _ rfl
 rw [hN] at hF ⊢
 refine run_back H hF hn hkid hcl hA0 hFa fun a w had h1 h2 => ?_
 exact ⟨.inl rfl,had,_,resultsC_none (by rfl) _,rfl,h1,h2⟩
end
end
section
open Go.RowKit
theorem or_i32 (l x : Nat) (hl : l < 32768) (hx : x < 64) : bits .or .i32 ((l * 64 : Nat) : Int) (x : Int) = ((l * 64 + x : Nat) : Int) := by
 have h1 : (BitVec.ofInt 32 ((l * 64 : Nat) : Int)).toNat = l * 64 := by
  rw [BitVec.ofInt_natCast,BitVec.toNat_ofNat]; exact Nat.mod_eq_of_lt (by omega)
 have h2 : (BitVec.ofInt 32 (x : Int)).toNat = x := by
  rw [BitVec.ofInt_natCast,BitVec.toNat_ofNat]; exact Nat.mod_eq_of_lt (by omega)
 show IntKind.i32.wrap ((BitVec.ofInt 32 ((l * 64 : Nat) : Int) ||| BitVec.ofInt 32 (x : Int)).toNat : Int) = _
 have h3 : l * 64 ||| x = l * 64 + x := by
  have := Nat.shiftLeft_add_eq_or_of_lt (i := 6) (b := x) (by simpa using hx) l
  rw [Nat.shiftLeft_eq] at this
  exact this.symm
 rw [BitVec.toNat_or,h1,h2,h3,IntKind.wrap_i32]
 omega
theorem followL_eq (l b : Int) (h0 : 0 ≤ l) (h1 : l < 32768) (h2 : 0 ≤ b) (h3 : b < 256) : ze5 l b = l * 64 + b % 64 := by
 have e1 : IntKind.i32.wrap (l * 64) = l * 64 := by rw [IntKind.wrap_i32]; omega
 have e2 : IntKind.i32.wrap (b % 64) = b % 64 := by rw [IntKind.wrap_i32]; omega
 unfold ze5
 rw [and63 b h2 h3,e1,e2]
 have := or_i32 l.toNat (b % 64).toNat (by omega) (by omega)
 have a1 : ((l.toNat * 64 : Nat) : Int) = l * 64 := by omega
 have a2 : ((b % 64).toNat : Int) = b % 64 := by omega
 rw [a1,a2] at this
 rw [this]
 omega
theorem leadL_eq (b k : Int) (h0 : 0 ≤ b) (h1 : b < 256) (hk : k = 31 ∨ k = 15 ∨ k = 7) : leadL b k = b % (k + 1) := by
 have h : ∀ n : _root_.Fin 256,bits .and .u8 (n.val : Int) 31 = (n.val : Int) % 32 ∧ bits .and .u8 (n.val : Int) 15 = (n.val : Int) % 16 ∧ bits .and .u8 (n.val : Int) 7 = (n.val : Int) % 8 := by decide +kernel
 have hb := h ⟨b.toNat,by omega⟩
 simp only [Int.toNat_of_nonneg h0] at hb
 unfold leadL
 rcases hk with rfl | rfl | rfl
 ·
  rw [hb.1,IntKind.wrap_i32]; omega
 ·
  rw [hb.2.1,IntKind.wrap_i32]; omega
 ·
  rw [hb.2.2,IntKind.wrap_i32]; omega
def DInv (d : DS) : Prop :=
 d.missing = 0 ∨
 (d.missing = 1 ∧ d.low = 128 ∧ d.high = 191 ∧ ((2 ≤ d.letter ∧ d.letter ≤ 863) ∨ (896 ≤ d.letter ∧ d.letter ≤ 17407))) ∨
 (d.missing = 2 ∧ 0 ≤ d.letter ∧ d.letter ≤ 15 ∧ d.low = (fbS (224 + d.letter)).1 ∧ d.high = (fbS (224 + d.letter)).2) ∨
 (d.missing = 2 ∧ 16 ≤ d.letter ∧ d.letter ≤ 271 ∧ d.low = 128 ∧ d.high = 191) ∨
 (d.missing = 3 ∧ 0 ≤ d.letter ∧ d.letter ≤ 4 ∧ d.low = (fbS (240 + d.letter)).1 ∧ d.high = (fbS (240 + d.letter)).2)
theorem begin_inv (d : DS) (b : Int) (h0 : 0 ≤ b) (h1 : b < 256) (hd : d.missing = 0) : DInv (ze8 d b).1 ∧ (∀ r ∈ (ze8 d b).2,Good r) ∧ (ze8 d b).2.length ≤ 1 := by
 unfold ze8
 by_cases c1 : b < 128
 ·
  simp only [if_pos c1]
  refine ⟨.inl hd,fun r hr => ?_,by simp⟩
  have : IntKind.i32.wrap b = b := by rw [IntKind.wrap_i32]; omega
  simp only [this,List.mem_singleton] at hr
  exact .inl (by omega)
 by_cases c2 : b < 194
 ·
  simp only [if_neg c1,if_pos c2]
  exact ⟨.inl hd,fun r hr => by simp only [List.mem_singleton] at hr; exact .inr (by omega),by simp⟩
 by_cases c3 : b > 244
 ·
  simp only [if_neg c1,if_neg c2,if_pos c3]
  exact ⟨.inl hd,fun r hr => by simp only [List.mem_singleton] at hr; exact .inr (by omega),by simp⟩
 by_cases c4 : b < 224
 ·
  simp only [if_neg c1,if_neg c2,if_neg c3,if_pos c4]
  refine ⟨.inr (.inl ⟨rfl,?_,?_,?_⟩),by simp,by simp⟩
  ·
   show (fbS b).1 = 128
   rw [fbS,if_neg (by omega),if_neg (by omega),if_neg (by omega),if_neg (by omega)]
  ·
   show (fbS b).2 = 191
   rw [fbS,if_neg (by omega),if_neg (by omega),if_neg (by omega),if_neg (by omega)]
  ·
   show (2 ≤ leadL b 31 ∧ leadL b 31 ≤ 863) ∨ (896 ≤ leadL b 31 ∧ leadL b 31 ≤ 17407)
   rw [leadL_eq b 31 h0 h1 (by simp)]
   omega
 by_cases c5 : b < 240
 ·
  simp only [if_neg c1,if_neg c2,if_neg c3,if_neg c4,if_pos c5]
  have e : leadL b 15 = b - 224 := by rw [leadL_eq b 15 h0 h1 (by simp)]; omega
  have e2 : 224 + leadL b 15 = b := by omega
  exact ⟨.inr (.inr (.inl ⟨rfl,by show 0 ≤ leadL b 15; omega,by show leadL b 15 ≤ 15; omega,by show _ = (fbS (224 + leadL b 15)).1; rw [e2],by show _ = (fbS (224 + leadL b 15)).2; rw [e2]⟩)),by simp,by simp⟩
 ·
  simp only [if_neg c1,if_neg c2,if_neg c3,if_neg c4,if_neg c5]
  have e : leadL b 7 = b - 240 := by rw [leadL_eq b 7 h0 h1 (by simp)]; omega
  have e2 : 240 + leadL b 7 = b := by omega
  exact ⟨.inr (.inr (.inr (.inr ⟨rfl,by show 0 ≤ leadL b 7; omega,by show leadL b 7 ≤ 4; omega,by show _ = (fbS (240 + leadL b 7)).1; rw [e2],by show _ = (fbS (240 + leadL b 7)).2; rw [e2]⟩))),by simp,by simp⟩
theorem follow_inv (d : DS) (b : Int) (hd : DInv d) (hm : 0 < d.missing) (hl : d.low ≤ b) (hh : b ≤ d.high) : DInv (zd9 d b).1 ∧ (∀ r ∈ (zd9 d b).2,Good r) ∧ (zd9 d b).2.length ≤ 1 := by
 have hfb : ∀ x : Int,128 ≤ (fbS x).1 ∧ (fbS x).2 ≤ 191 := by intro x; unfold fbS; (repeat' split) <;> exact ⟨by decide,by decide⟩
 have hlen : (zd9 d b).2.length ≤ 1 := by unfold zd9; split <;> simp
 have hw1 : ∀ m : Int,1 ≤ m → m ≤ 3 → IntKind.i64.wrap (m - 1) = m - 1 := fun m _ _ => by rw [IntKind.wrap_i64]; omega
 rcases hd with h | ⟨h,h1,h2,h3⟩ | ⟨h,h1,h2,h3,h4⟩ | ⟨h,h1,h2,h3,h4⟩ | ⟨h,h1,h2,h3,h4⟩
 ·
  omega
 ·
  have hf := followL_eq d.letter b (by omega) (by omega) (by omega) (by omega)
  refine ⟨.inl ?_,fun r hr => ?_,hlen⟩
  ·
   show IntKind.i64.wrap (d.missing - 1) = 0
   rw [hw1 _ (by omega) (by omega)]; omega
  ·
   have : (zd9 d b).2 = [ze5 d.letter b] := by unfold zd9; rw [hw1 _ (by omega) (by omega)]; simp [h]
   rw [this,List.mem_singleton] at hr
   subst hr
   rw [hf]
   unfold Good
   omega
 ·
  have hb := hfb (224 + d.letter)
  have hf := followL_eq d.letter b (by omega) (by omega) (by omega) (by omega)
  have hmm : IntKind.i64.wrap (d.missing - 1) = 1 := by rw [hw1 _ (by omega) (by omega)]; omega
  refine ⟨.inr (.inl ⟨hmm,rfl,rfl,?_⟩),fun r hr => ?_,hlen⟩
  ·
   show (2 ≤ ze5 d.letter b ∧ ze5 d.letter b ≤ 863) ∨ (896 ≤ ze5 d.letter b ∧ ze5 d.letter b ≤ 17407)
   rw [hf]
   by_cases e0 : d.letter = 0
   ·
    have : (fbS (224 + d.letter)).1 = 160 := by rw [e0]; rfl
    omega
   ·
    by_cases e13 : d.letter = 13
    ·
     have : (fbS (224 + d.letter)).2 = 159 := by rw [e13]; rfl
     omega
    ·
     omega
  ·
   have : (zd9 d b).2 = [] := by unfold zd9; rw [hmm]; simp
   rw [this] at hr; simp at hr
 ·
  have hf := followL_eq d.letter b (by omega) (by omega) (by omega) (by omega)
  have hmm : IntKind.i64.wrap (d.missing - 1) = 1 := by rw [hw1 _ (by omega) (by omega)]; omega
  refine ⟨.inr (.inl ⟨hmm,rfl,rfl,?_⟩),fun r hr => ?_,hlen⟩
  ·
   show (2 ≤ ze5 d.letter b ∧ ze5 d.letter b ≤ 863) ∨ (896 ≤ ze5 d.letter b ∧ ze5 d.letter b ≤ 17407)
   rw [hf]
   omega
  ·
   have : (zd9 d b).2 = [] := by unfold zd9; rw [hmm]; simp
   rw [this] at hr; simp at hr
 ·
  have hb := hfb (240 + d.letter)
  have hf := followL_eq d.letter b (by omega) (by omega) (by omega) (by omega)
  have hmm : IntKind.i64.wrap (d.missing - 1) = 2 := by rw [hw1 _ (by omega) (by omega)]; omega
  refine ⟨.inr (.inr (.inr (.inl ⟨hmm,?_,?_,rfl,rfl⟩))),fun r hr => ?_,hlen⟩
  ·
   show 16 ≤ ze5 d.letter b
   rw [hf]
   by_cases e0 : d.letter = 0
   ·
    have : (fbS (240 + d.letter)).1 = 144 := by rw [e0]; rfl
    omega
   ·
    omega
  ·
   show ze5 d.letter b ≤ 271
   rw [hf]
   by_cases e4 : d.letter = 4
   ·
    have : (fbS (240 + d.letter)).2 = 143 := by rw [e4]; rfl
    omega
   ·
    omega
  ·
   have : (zd9 d b).2 = [] := by unfold zd9; rw [hmm]; simp
   rw [this] at hr; simp at hr
theorem end_inv (d : DS) (hd : DInv d) : (endS d).1.missing = 0 ∧ (∀ r ∈ (endS d).2,Good r) ∧ (endS d).2.length ≤ 1 := by
 unfold endS
 split
 ·
  exact ⟨rfl,fun r hr => by simp only [List.mem_singleton] at hr; exact .inr (by omega),by simp⟩
 ·
  refine ⟨?_,by simp,by simp⟩
  rcases hd with h | ⟨h,_⟩ | ⟨h,_⟩ | ⟨h,_⟩ | ⟨h,_⟩ <;> first | exact h | (exfalso; omega)
theorem take_inv (d : DS) (b : Int) (h0 : 0 ≤ b) (h1 : b < 256) (hd : DInv d) : DInv (takeS d b).1 ∧ (∀ r ∈ (takeS d b).2,Good r) ∧ (takeS d b).2.length ≤ 2 := by
 unfold takeS
 split
 ·
  rename_i hm
  split
  ·
   rename_i h
   obtain ⟨a,c,e⟩ := follow_inv d b hd hm h.1 h.2
   exact ⟨a,c,by omega⟩
  ·
   obtain ⟨a,c,e⟩ := end_inv d hd
   obtain ⟨a',c',e'⟩ := begin_inv (endS d).1 b h0 h1 a
   refine ⟨a',fun r hr => ?_,by simp; omega⟩
   rcases List.mem_append.1 hr with z | z
   ·
    exact c r z
   ·
    exact c' r z
 ·
  rename_i hm
  have hz : d.missing = 0 := by rcases hd with h | ⟨h,_⟩ | ⟨h,_⟩ | ⟨h,_⟩ | ⟨h,_⟩ <;> first | exact h | (exfalso; omega)
  obtain ⟨a,c,e⟩ := begin_inv d b h0 h1 hz
  exact ⟨a,c,by omega⟩
theorem clean_good (c : CS) (l : List Int) (h : ∀ r ∈ l,Good r) : (∀ r ∈ (zb3 c l).2,Good r) ∧ (zb3 c l).2.length ≤ l.length := by
 induction l generalizing c with
 | nil => simp [zb3]
 | cons r l ih =>
  obtain ⟨h1,h2⟩ := ih (zj7 c r).1 fun x hx => h x (by simp [hx])
  have hr := h r (by simp)
  have h3 : (∀ x ∈ (zj7 c r).2,Good x) ∧ (zj7 c r).2.length ≤ 1 := by
   simp only [zj7]
   repeat' split
   ·
    simp
   ·
    simp
   ·
    exact ⟨fun x hx => by simp only [List.mem_singleton] at hx; exact .inl (by omega),by simp⟩
   ·
    exact ⟨fun x hx => by simp only [List.mem_singleton] at hx; exact .inr (by omega),by simp⟩
   ·
    exact ⟨fun x hx => by simp only [List.mem_singleton] at hx; rw [hx]; exact hr,by simp⟩
  refine ⟨fun x hx => ?_,by simp [zb3]; omega⟩
  simp only [zb3,List.mem_append] at hx
  exact hx.elim (h3.1 x) (h1 x)
theorem from_good (l : List Int) (hl : ∀ b ∈ l,0 ≤ b ∧ b < 256) : ∀ (c : CS) (d : DS),DInv d → (∀ r ∈ zd7 c d l,Good r) ∧ (zd7 c d l).length ≤ 2 * l.length + 1 := by
 induction l with
 | nil =>
  intro c d hd
  rw [zk9]
  obtain ⟨_,h2,h3⟩ := end_inv d hd
  obtain ⟨h4,h5⟩ := clean_good c _ h2
  exact ⟨h4,by simp; omega⟩
 | cons b l ih =>
  intro c d hd
  rw [zj6]
  obtain ⟨h1,h2,h3⟩ := take_inv d b (hl b (by simp)).1 (hl b (by simp)).2 hd
  obtain ⟨h4,h5⟩ := clean_good c _ h2
  obtain ⟨h6,h7⟩ := ih (fun x hx => hl x (by simp [hx])) (zb3 c (takeS d b).2).1 _ h1
  refine ⟨fun r hr => (List.mem_append.1 hr).elim (h4 r) (h6 r),by simp; omega⟩
theorem letters_good (s : ByteArray) (hs : s.size ≤ 20000) : (∀ r ∈ zd0 s,Good r) ∧ 4 * (zd0 s).length ≤ 1000000 := by
 obtain ⟨h1,h2⟩ := from_good (bytesOf s) (fun b hb => by
  simp only [bytesOf,List.mem_map] at hb
  obtain ⟨x,_,rfl⟩ := hb
  have := x.toNat_lt
  omega) ⟨false,false⟩ ⟨0,0,0,0⟩ (.inl rfl)
 refine ⟨h1,?_⟩
 have h3 : (bytesOf s).length = s.size := by simp [bytesOf]
 unfold zd0
 omega
end
section
def begun (d : DS) : Nat := if 0 < d.missing then 1 else 0
theorem begun_le (d : DS) : begun d ≤ 1 := by unfold begun; split <;> omega
theorem clean_len (c : CS) (l : List Int) : (zb3 c l).2.length ≤ l.length := by
 induction l generalizing c with
 | nil => simp [zb3]
 | cons r l ih =>
  have h2 := ih (zj7 c r).1
  have h3 : (zj7 c r).2.length ≤ 1 := by
   simp only [zj7]
   repeat' split
   all_goals simp
  simp [zb3]; omega
theorem begin_len (d : DS) (b : Int) (h : ¬ 0 < d.missing) : (ze8 d b).2.length + begun (ze8 d b).1 ≤ 1 := by
 have h0 : begun d = 0 := by unfold begun; rw [if_neg h]
 unfold ze8
 repeat' split
 all_goals first
  | (simp [h0]; done)
  | (simp [begun]; done)
theorem end_len (d : DS) : (endS d).2.length ≤ begun d ∧ ¬ 0 < (endS d).1.missing := by
 unfold endS begun
 split
 ·
  simp
 ·
  rename_i h; exact ⟨by simp,h⟩
theorem take_len (d : DS) (b : Int) : (takeS d b).2.length + begun (takeS d b).1 ≤ begun d + 1 := by
 unfold takeS
 split
 ·
  rename_i hm
  have h1 : begun d = 1 := by unfold begun; rw [if_pos hm]
  split
  ·
   have h2 := begun_le (zd9 d b).1
   have h3 : (zd9 d b).2.length ≤ 1 := by simp only [zd9]; split <;> simp
   omega
  ·
   have h2 := end_len d
   have h3 := begin_len (endS d).1 b h2.2
   simp only [List.length_append]
   omega
 ·
  rename_i hm
  have := begin_len d b hm
  omega
theorem from_len (l : List Int) : ∀ (c : CS) (d : DS),(zd7 c d l).length ≤ l.length + begun d := by
 induction l with
 | nil =>
  intro c d
  rw [zk9]
  have := clean_len c (endS d).2
  have := (end_len d).1
  simp; omega
 | cons b l ih =>
  intro c d
  rw [zj6]
  have h1 := clean_len c (takeS d b).2
  have h2 := take_len d b
  have h3 := ih (zb3 c (takeS d b).2).1 (takeS d b).1
  simp only [List.length_append,List.length_cons]
  omega
theorem letters_len (s : ByteArray) : (zd0 s).length ≤ s.size := by
 have h := from_len (bytesOf s) ⟨false,false⟩ ⟨0,0,0,0⟩
 have h3 : (bytesOf s).length = s.size := by simp [bytesOf]
 have h4 : begun ⟨0,0,0,0⟩ = 0 := by simp [begun]
 unfold zd0
 omega
end
section
open Go.Conc Go.RowKit
section
variable {N Pb : Nat} {Shun : Loc → Prop} {val : Value} {B : Nat} {Mine : Loc → Prop} {Ex : Nat → Prop} {w₀ w w₁ : World} {AnchW : Goroutine → World → Prop} {u v : Value} {tk rest : List Int} {en : Bool} {Rb : Nat}
variable {Tb Yb : Nat} {x : Value} {s : ByteArray} {l : List Int}
theorem low_out {b : Nat} (hb : b < N) : outM (kcfg prog N Pb Shun val B Mine) b := ⟨by show b < N + 9; omega,by show ¬ (b = N); omega,by show ¬ (b = N + 2 ∨ b = N + 4 ∨ b = N + 6); omega⟩
theorem mine_low {b : Nat} (hb : b < N) (hp : b ≠ Pb) (hs : ∀ ad : Addr,ad.block = b → ¬ Shun (.cell ad)) (hz : N + 9 ≤ w.heap.size) : mineM (kcfg prog N Pb Shun val B Mine) w b := by
 refine ⟨by omega,?_,?_,?_,hs⟩
 ·
  rintro (z | ⟨z,_⟩)
  ·
   have z' : b = N := z
   omega
  ·
   have z' : N + 9 ≤ b := z
   omega
 ·
  show ¬ (b = N + 1 ∨ b = N + 3 ∨ b = N + 5 ∨ b = N + 7 ∨ b = N + 8 ∨ b = Pb); omega
 ·
  show ¬ (b = N + 2 ∨ b = N + 4 ∨ b = N + 6); omega
variable [Go.ConcR.Payload] [Go.ConcX.Payload]
variable [Go.ConcX.Shy (Cfg.Wg (kcfg prog N Pb Shun val B Mine)) (Cfg.C (kcfg prog N Pb Shun val B Mine))]
end
end
section
open Go.Conc Go.RowKit
section
variable {w₀ w w₁ : World} {Post : Value → World → Prop} {S : Nat → Prop} {N Pb Yb Tb : Nat} {s : ByteArray}
theorem He.start (w₀ : World) : He w₀ [] w₀ := ⟨rfl,rfl,rfl,fun _ _ => rfl,by simp,fun j o h => by simp at h⟩
end
end
end Go.Proofs.YtgcaionclkbehaaGreatDoor
