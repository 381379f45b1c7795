/-
  letters.Each: the go statement, the letters and the join.
-/
import Derived.Test.YtmabfdpfegbfkaaGreatBack
import Derived.Test.YtmabfdpfegbfkaaGreatEach
set_option linter.all false
set_option linter.unusedSectionVars false
set_option linter.unusedSimpArgs false
namespace Go.Proofs.YtmabfdpfegbfkaaGreat
open Go.Conc Go.RowKit
section
variable {w₀ w w₁ : World} {Post : Value → World → Prop} {S : Nat → Prop} {N Pb Bb : Nat} {s : ByteArray}
/-- The blocks at the go statement. -/
def objs8 (N Pb : Nat) : List Obj := [.cells #[pieceV Pb] 29, chan0, .cells #[.chan (some (N + 1))] 103, chan0, .cells #[.chan (some (N + 3))] 104, .cells #[.int .u64 4294967296, .int .u32 0] 114, .cells #[.pointer (some ⟨N + 5, 0, none⟩)] 137, .cells #[fn48 N] 1]
/-- What is asked of the world in which letters.Each is called. -/
structure HEach (w₀ : World) (N Pb Bb : Nat) (s : ByteArray) (S : Nat → Prop) : Prop where
  size : w₀.heap.size = N
  bd : w₀.heap[Bb]? = some (.cells #[.pointer none, .slice none 0 0] 69)
  ps : w₀.cell? ⟨Pb, 0, none⟩ = some (.string s)
  np : Bb ≠ Pb
  plo : Pb < N
  lo : Bb < N
  sh : ∀ b, S b → b < N ∧ b ≠ Bb ∧ b ≠ Pb
  small : s.size ≤ 20000
  good : ∀ r ∈ lettersOf s, Good r
  few : 4 * (lettersOf s).length ≤ 1000000
def shunE (N : Nat) (Shun : Loc → Prop) (l : Loc) : Prop := Shun l ∨ ∃ ad : Addr, l = .cell ad ∧ ad.block = N + 5
def SE (N : Nat) (S : Nat → Prop) (b : Nat) : Prop := S b ∨ b = N + 5
theorem fitE (H : HEach w₀ N Pb Bb s S) {Shun : Loc → Prop} (hSh : ∀ l, Shun l → ∃ ad : Addr, l = .cell ad ∧ S ad.block) : Cfg.Fit (kcfg Tryz.prog N Pb (shunE N Shun) (pieceV Pb) (N + 10) (N + 10) (fun _ => False)) := by
  have hp := H.plo
  have hs : ∀ ad : Addr, shunE N Shun (.cell ad) → (ad.block < N ∧ ad.block ≠ Bb ∧ ad.block ≠ Pb) ∨ ad.block = N + 5 := by
    rintro ad (h | ⟨a, e, h⟩)
    · obtain ⟨a, e, h⟩ := hSh _ h
      cases e
      exact .inl (H.sh _ h)
    · cases e; exact .inr h
  constructor
  · show N + 1 ≠ N + 3; omega
  · show N + 1 ≠ N + 5; omega
  · show N + 3 ≠ N + 5; omega
  · show ¬ (N + 1 = N ∨ N + 1 = N + 8 ∨ N + 1 = N + 9); omega
  · show ¬ (N + 3 = N ∨ N + 3 = N + 8 ∨ N + 3 = N + 9); omega
  · show ¬ (N + 5 = N ∨ N + 5 = N + 8 ∨ N + 5 = N + 9); omega
  · show ¬ (N + 1 = N + 2 ∨ N + 1 = N + 4 ∨ N + 1 = N + 6 ∨ N + 1 = N + 7 ∨ N + 1 = Pb); omega
  · show ¬ (N + 3 = N + 2 ∨ N + 3 = N + 4 ∨ N + 3 = N + 6 ∨ N + 3 = N + 7 ∨ N + 3 = Pb); omega
  · show ¬ (N + 5 = N + 2 ∨ N + 5 = N + 4 ∨ N + 5 = N + 6 ∨ N + 5 = N + 7 ∨ N + 5 = Pb); omega
  · intro b h1 h2
    have h1' : b = N ∨ b = N + 8 ∨ b = N + 9 := h1
    have h2' : b = N + 2 ∨ b = N + 4 ∨ b = N + 6 ∨ b = N + 7 ∨ b = Pb := h2
    omega
  · exact .inl rfl
  · exact fun a h => .inr ⟨a, rfl, h⟩
  · rintro l (h | ⟨a, e, _⟩)
    · obtain ⟨a, e, _⟩ := hSh _ h; exact ⟨a, e⟩
    · exact ⟨a, e⟩
  · intro a h hh
    have h' : a.block = N ∨ a.block = N + 8 ∨ a.block = N + 9 := h
    rcases hs a hh with z | z <;> omega
  · intro a h hh
    have h' : a.block = N + 2 ∨ a.block = N + 4 ∨ a.block = N + 6 ∨ a.block = N + 7 ∨ a.block = Pb := h
    rcases hs a hh with z | z <;> omega
  · rintro b (h | h | h)
    · have h' : b = N ∨ b = N + 8 ∨ b = N + 9 := h
      show b < N + 10; omega
    · have h' : b = N + 2 ∨ b = N + 4 ∨ b = N + 6 ∨ b = N + 7 ∨ b = Pb := h
      show b < N + 10; omega
    · have h' : b = N + 1 ∨ b = N + 3 ∨ b = N + 5 := h
      show b < N + 10; omega
  · show N + 5 < N + 10; omega
  · show N < N + 10; omega
set_option maxRecDepth 100000 in
set_option maxHeartbeats 2000000 in
theorem fork_x (H : HEach w₀ N Pb Bb s S) (hF : He w₀ (objs8 N Pb) w) {b : Frame} {k : List Item} {cs : List Frame} (hb : b.fn = 18) (hk : b.kind ≠ .early) {g : Goroutine} {tm : Array Value} (hs : g.status = .running)
    (hsp : ∀ e, stepG Tryz.prog true g (w.at e) = .spawn (G ((base 47).at ⟨tm, []⟩ [.inRegion (ops47 Tryz.f47.body) []]) (b.at ⟨t18go N Pb Bb, []⟩ (.inRegion (ops18 Tryz.f18.body 4) [1] :: .code (.seq (.region 5 (ops18 Tryz.f18.body 5) false) (.region 6 (ops18 Tryz.f18.body 6) false)) :: k) :: cs)) (born Tryz.prog (call73 N)) (w.at e) #[])
    (hfin : ∀ w, FW w₀ N Pb Bb (cellsOf (lettersOf s)).length (cellsOf (lettersOf s)) w → w.heap[N + 5]? = some (.cells #[.int .u64 0, .int .u32 0] 114) → ZI Tryz.prog Post 0 (SE N S) (G (b.at ((⟨t18wait N Pb Bb, []⟩ : Act).put (some 15) (.tuple #[])) (.inRegion (ops18 Tryz.f18.body 6) [] :: k)) cs) w) :
    ZI Tryz.prog Post 0 S g w := by
  letI IR : Go.ConcR.Payload := ⟨29⟩
  letI IX : Go.ConcX.Payload := ⟨29⟩
  refine ZI.fork hs hsp fun e Shun hSh => ?_
  have hfit := fitE H hSh
  obtain rfl := H.size
  have hF' : He w₀ (objs8 w₀.heap.size Pb) (w.at e) := hF.rely ⟨e, rfl⟩
  refine ⟨kcfg Tryz.prog w₀.heap.size Pb (shunE w₀.heap.size Shun) (pieceV Pb) (w₀.heap.size + 10) (w₀.heap.size + 10) (fun _ => False), IX, IR, shyK _ hfit (ZI Tryz.prog Post 0 (SE w₀.heap.size S)),
    @Go.ConcX.Gen.AnchW7 IX link (FW w₀ w₀.heap.size Pb Bb (cellsOf (lettersOf s)).length (cellsOf (lettersOf s))) (w₀.heap.size + 5) w₀.heap.size (shyK _ hfit (ZI Tryz.prog Post 0 (SE w₀.heap.size S))) [pieceV Pb] (b.at ⟨t18wait w₀.heap.size Pb Bb, []⟩ (.inRegion (ops18 Tryz.f18.body 6) [0] :: k)) cs, fun _ _ => True, V (lettersOf s), fun b => ¬ SE w₀.heap.size S b, w₀.heap.size + 6, ?_⟩
  have hlo := H.lo
  have hplo := H.plo
  have hold : (w.at e).heap[Bb]? = w₀.heap[Bb]? := hF'.old Bb hlo
  have hs' : ∀ ad : Addr, shunE w₀.heap.size Shun (.cell ad) → (ad.block < w₀.heap.size ∧ ad.block ≠ Bb ∧ ad.block ≠ Pb ∧ S ad.block) ∨ ad.block = w₀.heap.size + 5 := by
    rintro ad (h | ⟨a, e, h⟩)
    · obtain ⟨a, e, h⟩ := hSh _ h
      cases e
      exact .inl ⟨(H.sh _ h).1, (H.sh _ h).2.1, (H.sh _ h).2.2, h⟩
    · cases e; exact .inr h
  have hclear : Clear w₀.heap.size Bb (shunE w₀.heap.size Shun) := fun ad had h => by rcases hs' ad h with z | z <;> omega
  have hHM0 : HM0 w₀ w₀.heap.size Pb Bb (w.at e) := ⟨hold.trans H.bd, hlo, H.np, hplo, hF'.tape, hF'.os, hF'.output, fun b h1 _ => hF'.old b h1⟩
  have hps : (w.at e).cell? ⟨Pb, 0, none⟩ = some (.string s) := (World.cell?_of_block (hF'.old Pb hplo)).trans H.ps
  have hHB : HB w₀.heap.size Pb s (w.at e) := ⟨hF'.blocks 0 _ rfl, hF'.blocks 2 _ rfl, hF'.blocks 4 _ rfl, hF'.blocks 6 _ rfl, hF'.blocks 7 _ rfl, hps, hplo, hF'.size⟩
  constructor
  · rfl
  · exact hfit
  · rfl
  · exact shyK_ok _ hfit _
  · rintro g w ⟨T, rfl, _⟩; rfl
  · intro g w h
    exact @Go.ConcX.Gen.waitRound IX link (fun _ => False) (w₀.heap.size + 5) w₀.heap.size (w₀.heap.size + 10) (shyK _ hfit (ZI Tryz.prog Post 0 (SE w₀.heap.size S))) [pieceV Pb] (fun _ _ => True) (FW w₀ w₀.heap.size Pb Bb (cellsOf (lettersOf s)).length (cellsOf (lettersOf s))) b ⟨t18wait w₀.heap.size Pb Bb, []⟩ (ops18 Tryz.f18.body 6) 0 [] k cs 0 Tryz.prog wgLib (by omega) (fun _ _ r h => fw_aside h r) (fun w hFw hW _ w₁ h₁ => ⟨rfl, ZI.closed.rely (hfin w hFw hW) h₁⟩) g w h
  · exact fun l hl => .inl hl
  · intro l hl
    obtain ⟨ad, rfl⟩ := hfit.shunCell l hl
    rcases hs' ad hl with z | z
    · exact ⟨ad, rfl, by omega, fun hn => hn (.inl z.2.2.2)⟩
    · exact ⟨ad, rfl, by omega, fun hn => hn (.inr z)⟩
  · exact kid_x hHB (by have := H.small; omega) hfit
  · exact @main_x w₀.heap.size Pb Bb _ _ _ _ w₀ _ IR IX (shyK _ hfit (ZI Tryz.prog Post 0 (SE w₀.heap.size S))) b k cs tm hb hk hclear (fun o b hb h => by rcases hs' ⟨b, o, none⟩ h with z | z <;> simp only at z <;> omega) (lettersOf s) H.good H.few ⟨hF'.blocks 2 _ rfl, hF'.blocks 4 _ rfl, hHM0⟩
  · exact hF'.blocks 5 _ rfl
  · exact hF'.blocks 1 _ rfl
  · exact hF'.blocks 3 _ rfl
  · exact ⟨_, hF'.blocks 0 _ rfl, rfl⟩
  · exact fun a w h => h _
end
end Go.Proofs.YtmabfdpfegbfkaaGreat
