/-
  letters.run: the go statement, the letters and the join, for any reading and any reader.
-/
import Derived.Test.YtgcaionclkbehaaGreatDoorBack
import Derived.Test.YtgcaionclkbehaaGreatDoorZ
import Derived.Conc.FxGenLone
set_option linter.all false
set_option linter.unusedSectionVars false
set_option linter.unusedSimpArgs false
namespace Go.Proofs.YtgcaionclkbehaaGreatDoor
open Go.Conc Go.RowKit
/-- The blocks that a call has made since it began in world w₀. -/
structure He (w₀ : World) (objs : List Obj) (w : World) : Prop where
  tape : w.tape = w₀.tape
  os : w.os = w₀.os
  output : w.output = w₀.output
  old : ∀ b, b < w₀.heap.size → w.heap[b]? = w₀.heap[b]?
  size : w.heap.size = w₀.heap.size + objs.length
  blocks : ∀ j o, objs[j]? = some o → w.heap[w₀.heap.size + j]? = some o
section
variable {w₀ w w₁ : World} {objs : List Obj} {Post : Value → World → Prop} {S : Nat → Prop}
theorem He.rely (h : He w₀ objs w) (r : AtRel w w₁) : He w₀ objs w₁ := by
  obtain ⟨e, rfl⟩ := r
  exact ⟨h.tape, h.os, h.output, h.old, h.size, h.blocks⟩
theorem He.alloc (h : He w₀ objs w) (o : Obj) : He w₀ (objs ++ [o]) (w.alloc o) := by
  have hs := h.size
  refine ⟨h.tape, h.os, h.output, fun b hb => (Below.heap_alloc _ _ _ (by omega)).trans (h.old b hb), by simp [World.size_alloc, hs]; omega, fun j x hj => ?_⟩
  rcases Nat.lt_or_ge j objs.length with h1 | h1
  · rw [List.getElem?_append_left h1] at hj
    exact (Below.heap_alloc _ _ _ (by omega)).trans (h.blocks j x hj)
  · rw [List.getElem?_append_right h1] at hj
    obtain ⟨hj0, rfl⟩ : j - objs.length = 0 ∧ o = x := by
      cases hjj : j - objs.length with
      | zero => rw [hjj] at hj; simp at hj; exact ⟨rfl, hj⟩
      | succ m => rw [hjj] at hj; simp at hj
    have : w₀.heap.size + j = w.heap.size := by omega
    rw [this]
    exact heap_alloc_new w o
theorem He.set (h : He w₀ objs w) {j o : Nat} {cs : Array Value} {t : TypeId} (hj : objs[j]? = some (.cells cs t)) (v : Value) : He w₀ (objs.set j (.cells (cs.setIfInBounds o v) t)) (w.setCell ⟨w₀.heap.size + j, o, none⟩ v) := by
  refine ⟨h.tape, h.os, h.output, fun b hb => (HC.off' w _ (by omega)).trans (h.old b hb), by simpa [World.setCell] using h.size, fun i x hi => ?_⟩
  by_cases e : i = j
  · subst e
    have hl := (List.getElem?_eq_some_iff.1 hj).1
    rw [List.getElem?_set_self hl] at hi
    obtain rfl := Option.some.inj hi
    exact setCell_block (h.blocks i _ hj) v
  · rw [List.getElem?_set_ne (Ne.symm e)] at hi
    exact (HC.off' w _ (by omega)).trans (h.blocks i x hi)
theorem evs_at {e : Event} {ad : Addr} (hS : ∀ b, S b → b < w₀.heap.size) (he : e.loc = .cell ad) (hb : w₀.heap.size ≤ ad.block) : EvS S e := by
  obtain ⟨l, wr, sy⟩ := e
  obtain rfl : l = .cell ad := he
  refine ⟨fun x hx a' ha' hs => ?_, by simp, by simp⟩
  have hl : x.loc = .cell ad := by cases wr <;> cases sy <;> (simp [MemAct.ofEvent, MemAct.touch?] at hx; rw [← hx])
  rw [hl] at ha'
  cases ha'
  have := hS _ hs
  omega
theorem frozen1 {b : Nat} {v : Value} {t : TypeId} (h : w.heap[b]? = some (.cells #[v] t)) : w.frozen? ⟨b, 0, none⟩ = false := by simp [World.frozen?, h]
theorem ds_idle (w : World) : DZ S w w #[] := fun e he => by simp at he
def chan0 : Obj := .chan 0 #[] false 0 0 false
end
section
variable {w₀ w w₁ : World} {Post : Value → World → Prop} {S : Nat → Prop} {N Pb : Nat} {val nv : Value} {tC : TypeId}
/-- The blocks at the go statement. -/
def objs9 (N : Nat) (val : Value) (tC : TypeId) (nv : Value) : List Obj := [.cells #[val] tC, .cells #[nv] 110, chan0, .cells #[.chan (some (N + 2))] 158, chan0, .cells #[.chan (some (N + 4))] 159, .cells #[.int .u64 4294967296, .int .u32 0] 169, .cells #[.pointer (some ⟨N + 6, 0, none⟩)] 240, .cells #[fnChild N] 1]
/-- What is asked of the world in which it all begins. -/
structure HRun (w₀ : World) (N Pb : Nat) (S : Nat → Prop) : Prop where
  size : w₀.heap.size = N
  plo : Pb < N ∨ Pb = N + 1
  sh : ∀ b, S b → b < N ∧ b ≠ Pb
def shunE (N : Nat) (Shun : Loc → Prop) (l : Loc) : Prop := Shun l ∨ ∃ ad : Addr, l = .cell ad ∧ ad.block = N + 6
def SE (N : Nat) (S : Nat → Prop) (b : Nat) : Prop := S b ∨ b = N + 6
/-- What the reader of the Row brings. -/
structure Client (K : Cfg) (N : Nat) (l : List Int) (f : FuncId) (cap : Array Value) (A F : World → Prop) (I : Nat → World → Prop) : Prop where
  hA : ∀ w w₁, RM K w w₁ → A w → A w₁
  hA2 : ∀ w cs, A w → A (w.alloc (.cells cs 175))
  next : ∀ [Go.ConcR.Payload] [Go.ConcX.Payload] [Go.ConcX.Shy K.Wg K.C] (AW : Goroutine → World → Prop) (Rb : Nat) (w : World), N ≤ Rb → A w → HW K (exR Rb nilS) w Rb nilS nilS [] false w → CallsI Tryz.prog (XM K AW) f (#[.pointer (some ⟨Rb, 0, none⟩)] ++ cap) (.front (V l)) w (fun i' _ w' => ∃ Ex w₀ v' tk' rest' en', tk' ++ rest' = l ∧ AtP rest' en' i' ∧ HW K Ex w₀ Rb v' v' tk' en' w' ∧ (∀ b, exR Rb v' b → N ≤ b) ∧ I Rb w')
  hI1 : ∀ Rb w w₁, RM K w w₁ → I Rb w → I Rb w₁
  hI2 : ∀ Rb Ex w₀ v tk en w w', HW K Ex w₀ Rb v v tk en w → (∀ b, exR Rb v b → N ≤ b) → Kept (mineM K) (outM K) (exR Rb v) w w' → I Rb w → I Rb w'
  hIF : ∀ Rb w, I Rb w → F w
theorem fitE (H : HRun w₀ N Pb S) {Shun : Loc → Prop} (hSh : ∀ l, Shun l → ∃ ad : Addr, l = .cell ad ∧ S ad.block) : Cfg.Fit (kcfg Tryz.prog N Pb (shunE N Shun) val (N + 9) (fun _ => False)) := by
  have hp := H.plo
  have hs : ∀ ad : Addr, shunE N Shun (.cell ad) → (ad.block < N ∧ ad.block ≠ Pb) ∨ ad.block = N + 6 := by
    rintro ad (h | ⟨a, e, h⟩)
    · obtain ⟨a, e, h⟩ := hSh _ h
      cases e
      exact .inl (H.sh _ h)
    · cases e; exact .inr h
  constructor
  · show N + 2 ≠ N + 4; omega
  · show N + 2 ≠ N + 6; omega
  · show N + 4 ≠ N + 6; omega
  · show ¬ (N + 2 = N); omega
  · show ¬ (N + 4 = N); omega
  · show ¬ (N + 6 = N); omega
  · show N + 2 < N + 9; omega
  · show N + 4 < N + 9; omega
  · show N + 6 < N + 9; omega
  · show ¬ (N + 2 = N + 1 ∨ N + 2 = N + 3 ∨ N + 2 = N + 5 ∨ N + 2 = N + 7 ∨ N + 2 = N + 8 ∨ N + 2 = Pb); omega
  · show ¬ (N + 4 = N + 1 ∨ N + 4 = N + 3 ∨ N + 4 = N + 5 ∨ N + 4 = N + 7 ∨ N + 4 = N + 8 ∨ N + 4 = Pb); omega
  · show ¬ (N + 6 = N + 1 ∨ N + 6 = N + 3 ∨ N + 6 = N + 5 ∨ N + 6 = N + 7 ∨ N + 6 = N + 8 ∨ N + 6 = Pb); omega
  · intro b h
    have h' : b = N + 1 ∨ b = N + 3 ∨ b = N + 5 ∨ b = N + 7 ∨ b = N + 8 ∨ b = Pb := h
    show b < N + 9; omega
  · intro b h
    have h' : b = N := h
    show b < N + 9; omega
  · intro b h1 h2
    have h1' : b = N := h1
    have h2' : b = N + 1 ∨ b = N + 3 ∨ b = N + 5 ∨ b = N + 7 ∨ b = N + 8 ∨ b = Pb := h2
    omega
  · exact rfl
  · exact fun a h => .inr ⟨a, rfl, h⟩
  · intro l h
    have : ∃ a, l = .cell a := by
      rcases h with h | ⟨a, e, _⟩
      · obtain ⟨a, e, _⟩ := hSh _ h; exact ⟨a, e⟩
      · exact ⟨a, e⟩
    obtain ⟨a, rfl⟩ := this
    refine ⟨a, rfl, ?_⟩
    show a.block < N + 9
    rcases hs a h with z | z <;> omega
  · intro a h hh
    have h' : a.block = N := h
    rcases hs a hh with z | z <;> omega
  · intro a h hh
    have h' : a.block = N + 1 ∨ a.block = N + 3 ∨ a.block = N + 5 ∨ a.block = N + 7 ∨ a.block = N + 8 ∨ a.block = Pb := h
    rcases hs a hh with z | z <;> omega
  · show N + 6 < N + 9; omega
  · show N < N + 9; omega
set_option maxRecDepth 100000 in
set_option maxHeartbeats 400000 in
theorem fork_x {A F : World → Prop} {I : Nat → World → Prop} {f : FuncId} {cap : Array Value} {l : List Int} (H : HRun w₀ N Pb S) (hF : He w₀ (objs9 N val tC nv) w) (hn : l.length ≤ 1000000) {b : Frame} {k : List Item} {cs : List Frame} (hb : b.fn = 61) (hk : b.kind ≠ .early) {g : Goroutine} {tm : Array Value} (hs : g.status = .running)
    (hsp : ∀ e, stepG Tryz.prog true g (w.at e) = .spawn (G ((base 111).at ⟨tm, []⟩ [.inRegion (opsG Tryz.f111.body) []]) (b.at ⟨t47 N nv (.func (.func f) #[] cap) undef, []⟩ (.inRegion (opsR Tryz.f61.body 4) [1] :: .code (.seq (.region 5 (opsR Tryz.f61.body 5) false) (.seq (.region 6 (opsR Tryz.f61.body 6) false) (.seq (.region 7 (opsR Tryz.f61.body 7) false) (.region 8 (opsR Tryz.f61.body 8) false)))) :: k) :: cs)) (born Tryz.prog (callGo N)) (w.at e) #[])
    (hkid : ∀ (Shun : Loc → Prop) (e : Nat) [Go.ConcR.Payload] [Go.ConcX.Payload], XK (kcfg Tryz.prog N Pb (shunE N Shun) val (N + 9) (fun _ => False)) (true, V l) (born Tryz.prog (callGo N)) (w.at e))
    (hcl : ∀ Shun : Loc → Prop, (∀ l, Shun l → ∃ ad : Addr, l = .cell ad ∧ S ad.block) → Client (kcfg Tryz.prog N Pb (shunE N Shun) val (N + 9) (fun _ => False)) N l f cap A F I) (hA0 : ∀ e, A (w.at e)) (hFa : ∀ w w₁, Go.ConcX.Aside2 N (N + 6) w w₁ → F w → F w₁)
    (hfin : ∀ (a : Act) (w : World), a.defers = [] → F w → w.heap[N + 6]? = some (.cells #[.int .u64 0, .int .u32 0] 169) → ZI Tryz.prog Post 0 (SE N S) (G (b.at (a.put (some 21) (.tuple #[])) (.inRegion (opsR Tryz.f61.body 8) [] :: k)) cs) w) :
    ZI Tryz.prog Post 0 S g w := by
  letI IR : Go.ConcR.Payload := ⟨tC⟩
  letI IX : Go.ConcX.Payload := ⟨tC⟩
  refine ZI.fork hs hsp fun e Shun hSh => ?_
  have hfit := fitE (val := val) H hSh
  have hC := hcl Shun hSh
  obtain rfl := H.size
  have hF' : He w₀ (objs9 w₀.heap.size val tC nv) (w.at e) := hF.rely ⟨e, rfl⟩
  refine ⟨kcfg Tryz.prog w₀.heap.size Pb (shunE w₀.heap.size Shun) val (w₀.heap.size + 9) (fun _ => False), IX, IR, shyK _ hfit (ZI Tryz.prog Post 0 (SE w₀.heap.size S)),
    @AnchR (kcfg Tryz.prog w₀.heap.size Pb (shunE w₀.heap.size Shun) val (w₀.heap.size + 9) (fun _ => False)) IX (shyK _ hfit (ZI Tryz.prog Post 0 (SE w₀.heap.size S))) F b k cs, fun _ _ => True, V l, fun b => ¬ SE w₀.heap.size S b, w₀.heap.size + 7, ?_⟩
  have hsz : (w.at e).heap.size = w₀.heap.size + 9 := hF'.size
  constructor
  · rfl
  · exact hfit
  · rfl
  · exact shyK_ok _ hfit _
  · rintro g w ⟨a, _, T, rfl, _⟩; rfl
  · rintro L hL g w ⟨a, had, h⟩
    obtain ⟨m, hm⟩ := @Go.ConcX.Gen.waitRound IX link (fun _ => False) (w₀.heap.size + 6) w₀.heap.size L (shyK _ hfit (ZI Tryz.prog Post 0 (SE w₀.heap.size S))) [val] (fun _ _ => True) F b a (opsR Tryz.f61.body 8) 0 [] k cs 0 Tryz.prog wgLib (by omega) (fun _ _ r h => hFa _ _ r h) (fun w hFw hW _ w₁ h₁ => ⟨rfl, ZI.closed.rely (hfin a w had hFw hW) h₁⟩) g w h
    exact ⟨m, Go.ConcN.goes_mono (fun g w h => @atW1_mono IR IX (kcfg Tryz.prog w₀.heap.size Pb (shunE w₀.heap.size Shun) val (w₀.heap.size + 9) (fun _ => False)) (shyK _ hfit (ZI Tryz.prog Post 0 (SE w₀.heap.size S))) L _ _ _ (fun _ _ h => ⟨a, had, h⟩) g w h) hm⟩
  · exact fun l hl => .inl hl
  · intro l hl
    obtain ⟨ad, rfl, hlt⟩ := hfit.shunCell l hl
    rcases hl with h | ⟨a, e, h⟩
    · obtain ⟨a, e, h⟩ := hSh _ h
      cases e
      exact ⟨ad, rfl, by have := (H.sh _ h).1; omega, fun hn => hn (.inl h)⟩
    · cases e
      exact ⟨ad, rfl, by omega, fun hn => hn (.inr h)⟩
  · exact hkid Shun e
  · exact @main_x w₀.heap.size Pb _ _ _ _ _ IR IX (shyK _ hfit (ZI Tryz.prog Post 0 (SE w₀.heap.size S))) A F I b k cs tm f cap nv hfit hb hk l hn hC.hA hC.hA2 (@Client.next _ _ _ _ _ _ _ _ hC IR IX (shyK _ hfit (ZI Tryz.prog Post 0 (SE w₀.heap.size S)))) hC.hI1 hC.hI2 hC.hIF hFa ⟨hF'.blocks 3 _ rfl, hF'.blocks 5 _ rfl, by omega, hA0 e⟩
  · show w₀.heap.size + 9 ≤ _; omega
  · exact hF'.blocks 6 _ rfl
  · exact hF'.blocks 2 _ rfl
  · exact hF'.blocks 4 _ rfl
  · exact ⟨_, hF'.blocks 0 _ rfl, rfl⟩
  · exact fun a w h => h _
end
end Go.Proofs.YtgcaionclkbehaaGreatDoor
