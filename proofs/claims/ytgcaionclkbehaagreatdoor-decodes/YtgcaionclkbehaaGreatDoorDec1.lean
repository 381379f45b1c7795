/-
  There are no more letters than bytes.
-/
import Derived.Test.YtgcaionclkbehaaGreatDoorPure
import Derived.Test.YtgcaionclkbehaaGreatDoorRun
import Derived.Test.YtgcaionclkbehaaGreatDoorText
set_option linter.all false
namespace Go.Proofs.YtgcaionclkbehaaGreatDoor
/-- A letter is begun. -/
def begun (d : DS) : Nat := if 0 < d.missing then 1 else 0
theorem begun_le (d : DS) : begun d ≤ 1 := by unfold begun; split <;> omega
theorem clean_len (c : CS) (l : List Int) : (cleanAll c l).2.length ≤ l.length := by
  induction l generalizing c with
  | nil => simp [cleanAll]
  | cons r l ih =>
    have h2 := ih (cleanS c r).1
    have h3 : (cleanS c r).2.length ≤ 1 := by
      simp only [cleanS]
      repeat' split
      all_goals simp
    simp [cleanAll]; omega
theorem begin_len (d : DS) (b : Int) (h : ¬ 0 < d.missing) : (beginS d b).2.length + begun (beginS d b).1 ≤ 1 := by
  have h0 : begun d = 0 := by unfold begun; rw [if_neg h]
  unfold beginS
  repeat' split
  all_goals first
    | (simp [h0]; done)
    | (simp [begun]; done)
theorem end_len (d : DS) : (endS d).2.length ≤ begun d ∧ ¬ 0 < (endS d).1.missing := by
  unfold endS begun
  split
  · simp
  · rename_i h; exact ⟨by simp, h⟩
theorem take_len (d : DS) (b : Int) : (takeS d b).2.length + begun (takeS d b).1 ≤ begun d + 1 := by
  unfold takeS
  split
  · rename_i hm
    have h1 : begun d = 1 := by unfold begun; rw [if_pos hm]
    split
    · have h2 := begun_le (followS d b).1
      have h3 : (followS d b).2.length ≤ 1 := by simp only [followS]; split <;> simp
      omega
    · have h2 := end_len d
      have h3 := begin_len (endS d).1 b h2.2
      simp only [List.length_append]
      omega
  · rename_i hm
    have := begin_len d b hm
    omega
theorem from_len (l : List Int) : ∀ (c : CS) (d : DS), (lettersFrom c d l).length ≤ l.length + begun d := by
  induction l with
  | nil =>
    intro c d
    rw [lettersFrom_nil]
    have := clean_len c (endS d).2
    have := (end_len d).1
    simp; omega
  | cons b l ih =>
    intro c d
    rw [lettersFrom_cons]
    have h1 := clean_len c (takeS d b).2
    have h2 := take_len d b
    have h3 := ih (cleanAll c (takeS d b).2).1 (takeS d b).1
    simp only [List.length_append, List.length_cons]
    omega
theorem letters_len (s : ByteArray) : (lettersOf s).length ≤ s.size := by
  have h := from_len (bytesOf s) ⟨false, false⟩ ⟨0, 0, 0, 0⟩
  have h3 : (bytesOf s).length = s.size := by simp [bytesOf]
  have h4 : begun ⟨0, 0, 0, 0⟩ = 0 := by simp [begun]
  unfold lettersOf
  omega
end Go.Proofs.YtgcaionclkbehaaGreatDoor
/-
  Goroutine 0 beside the child: the reader of folio.Decode.
-/
set_option linter.unusedSectionVars false
set_option linter.unusedSimpArgs false
namespace Go.Proofs.YtgcaionclkbehaaGreatDoor
open Go.Conc Go.RowKit
/-- What lay below N stands, but that block Tb holds x. -/
structure LowA (w₀ : World) (N Tb : Nat) (x : Value) (w : World) : Prop where
  tape : w.tape = w₀.tape
  os : w.os = w₀.os
  output : w.output = w₀.output
  size : N + 9 ≤ w.heap.size
  old : ∀ b, b < N → b ≠ Tb → w.heap[b]? = w₀.heap[b]?
  tx : w.heap[Tb]? = some (.cells #[x] 9)
section
variable {N Pb : Nat} {Shun : Loc → Prop} {val : Value} {B : Nat} {Mine : Loc → Prop} {Ex : Nat → Prop} {w₀ w w₁ : World} {AnchW : Goroutine → World → Prop} {u v : Value} {tk rest : List Int} {en : Bool} {Rb : Nat}
variable {Tb Yb : Nat} {x : Value} {s : ByteArray} {l : List Int}
theorem low_out {b : Nat} (hb : b < N) : outM (kcfg Tryz.prog N Pb Shun val B Mine) b := ⟨by show b < N + 9; omega, by show ¬ (b = N); omega, by show ¬ (b = N + 2 ∨ b = N + 4 ∨ b = N + 6); omega⟩
theorem LowA.low (hT : Tb < N) {w' : World} (h : LowA w₀ N Tb x w) (h1 : w'.tape = w.tape) (h2 : w'.os = w.os) (h3 : w'.output = w.output) (h4 : w.heap.size ≤ w'.heap.size) (hb : ∀ b, b < N → w'.heap[b]? = w.heap[b]?) : LowA w₀ N Tb x w' :=
  ⟨h1.trans h.tape, h2.trans h.os, h3.trans h.output, Nat.le_trans h.size h4, fun b h5 h6 => (hb b h5).trans (h.old b h5 h6), (hb Tb hT).trans h.tx⟩
theorem LowA.rm (F : Cfg.Fit (kcfg Tryz.prog N Pb Shun val B Mine)) (hT : Tb < N) (h : LowA w₀ N Tb x w) (r : RM (kcfg Tryz.prog N Pb Shun val B Mine) w w₁) : LowA w₀ N Tb x w₁ := h.low hT r.tape r.os r.output r.size fun b hb => (envM F).outR r (low_out hb) (by have := h.size; omega)
theorem LowA.kept (hT : Tb < N) {w' : World} (h : LowA w₀ N Tb x w) (hx : ∀ b, Ex b → N ≤ b) (k : Kept (mineM (kcfg Tryz.prog N Pb Shun val B Mine)) (outM (kcfg Tryz.prog N Pb Shun val B Mine)) Ex w w') : LowA w₀ N Tb x w' := h.low hT k.tape k.os k.output k.grow fun b hb => k.low b (low_out hb) (by have := h.size; omega) fun z => by have := hx b z; omega
theorem LowA.aside (hT : Tb < N) (h : LowA w₀ N Tb x w) (r : Go.ConcX.Aside2 N (N + 6) w w₁) : LowA w₀ N Tb x w₁ := h.low hT r.tape r.os r.output (by rw [r.size]; exact Nat.le_refl _) fun b hb => r.block b (by omega) (by omega)
theorem LowA.alloc (hT : Tb < N) (h : LowA w₀ N Tb x w) (o : Obj) : LowA w₀ N Tb x (w.alloc o) := h.low hT rfl rfl rfl (by simp [World.size_alloc]) fun b hb => Below.heap_alloc _ _ _ (by have := h.size; omega)
theorem mine_low {b : Nat} (hb : b < N) (hp : b ≠ Pb) (hs : ∀ ad : Addr, ad.block = b → ¬ Shun (.cell ad)) (hz : N + 9 ≤ w.heap.size) : mineM (kcfg Tryz.prog N Pb Shun val B Mine) w b := by
  refine ⟨by omega, ?_, ?_, ?_, hs⟩
  · rintro (z | ⟨z, _⟩)
    · have z' : b = N := z
      omega
    · have z' : N + 9 ≤ b := z
      omega
  · show ¬ (b = N + 1 ∨ b = N + 3 ∨ b = N + 5 ∨ b = N + 7 ∨ b = N + 8 ∨ b = Pb); omega
  · show ¬ (b = N + 2 ∨ b = N + 4 ∨ b = N + 6); omega
theorem HW.anew {K : Cfg} {w' : World} (h : HW K Ex w₀ Rb u v tk en w) (hb : w'.heap[Rb]? = w.heap[Rb]?) (hm : ∀ b, mineM K w b → mineM K w' b) (ho : ∀ k, v.ownBlock = some k → w'.heap[k]? = w.heap[k]?) (hs : K.N0 ≤ w'.heap.size) : HW K (fun _ => True) w' Rb u v tk en w' :=
  ⟨hb.trans h.rb, hm _ h.mr, .inl trivial, ⟨(h.ro.same (w' := w') fun k hk => ⟨ho k hk, hm _ (h.ro.own k hk).1⟩).row, fun k hk => ⟨hm _ (h.ro.own k hk).1, .inl trivial⟩, h.ro.nil⟩, hs, Kept.refl _⟩
variable [Go.ConcR.Payload] [Go.ConcX.Payload]
variable [Go.ConcX.Shy (Cfg.Wg (kcfg Tryz.prog N Pb Shun val B Mine)) (Cfg.C (kcfg Tryz.prog N Pb Shun val B Mine))]
set_option maxRecDepth 100000 in
set_option maxHeartbeats 2000000 in
theorem decode1_x (Fi : Cfg.Fit (kcfg Tryz.prog N Pb Shun val B Mine)) (hYN : Yb < N) (hYP : Yb ≠ Pb) (hYS : ∀ ad : Addr, ad.block = Yb → ¬ Shun (.cell ad)) (hTN : Tb < N) (hTP : Tb ≠ Pb) (hTS : ∀ ad : Addr, ad.block = Tb → ¬ Shun (.cell ad)) (hYT : Yb ≠ Tb) (hY : w₀.heap[Yb]? = some (.cells #[.string s] 9)) (hsz : s.size ≤ 20000)
    (hg : ∀ r ∈ l, Good r) (hn : 4 * l.length ≤ 1000000) (hl : l.length ≤ s.size) (hRb : N ≤ Rb) (hA : LowA w₀ N Tb (.string ⟨#[]⟩) w) (hW : HW (kcfg Tryz.prog N Pb Shun val B Mine) (exR Rb nilS) w Rb nilS nilS [] false w) :
    CallsI Tryz.prog (XM (kcfg Tryz.prog N Pb Shun val B Mine) AnchW) 91 #[.pointer (some ⟨Rb, 0, none⟩), .pointer (some ⟨Yb, 0, none⟩), .pointer (some ⟨Tb, 0, none⟩)] (.front (V l)) w (fun i' _ w' => ∃ Ex w₀' v' tk' rest' en', tk' ++ rest' = l ∧ AtP rest' en' i' ∧ HW (kcfg Tryz.prog N Pb Shun val B Mine) Ex w₀' Rb v' v' tk' en' w' ∧ (∀ b, exR Rb v' b → N ≤ b) ∧ LowA w₀ N Tb (.string ⟨(utf8Of l).toArray⟩) w') := by
  have C : ClosedI Tryz.prog true (RMd (kcfg Tryz.prog N Pb Shun val B Mine)) (DMd (kcfg Tryz.prog N Pb Shun val B Mine)) (XM (kcfg Tryz.prog N Pb Shun val B Mine) AnchW) := XM.closed (K := (kcfg Tryz.prog N Pb Shun val B Mine))
  have T := termsM (K := (kcfg Tryz.prog N Pb Shun val B Mine))
  have evp : ∀ (w : World) (es : Array Event) (a : Addr) (m : Mode) (x : Option Addr), (store a (.pointer x) m).events Tryz.prog w es = storedEv Tryz.prog w es a (.pointer x) m := fun w es a m x => events_store Tryz.prog w es a _ m rfl
  have evl : ∀ (w : World) (es : Array Event) (a : Addr) (m : Mode) (x : Option Addr) (l c : Nat), (store a (.slice x l c) m).events Tryz.prog w es = storedEv Tryz.prog w es a (.slice x l c) m := fun w es a m x l c => events_store Tryz.prog w es a _ m rfl
  have evb : ∀ (w : World) (es : Array Event) (a : Addr) (m : Mode) (x : Bool), (store a (.bool x) m).events Tryz.prog w es = storedEv Tryz.prog w es a (.bool x) m := fun w es a m x => events_store Tryz.prog w es a _ m rfl
  have evst : ∀ (w : World) (es : Array Event) (a : Addr) (m : Mode) (x : ByteArray), (store a (.string x) m).events Tryz.prog w es = storedEv Tryz.prog w es a (.string x) m := fun w es a m x => events_store Tryz.prog w es a _ m rfl
  have ln : ∀ w es, (Builtin.len_ #[9] 3 #[.string s]).events Tryz.prog w es = es := fun w es => by simp [Builtin.len_, go_sem]
  have E : Env KTs (N + 9) (mineM (kcfg Tryz.prog N Pb Shun val B Mine)) (outM (kcfg Tryz.prog N Pb Shun val B Mine)) (RMd (kcfg Tryz.prog N Pb Shun val B Mine) (.front (V l))) (DMd (kcfg Tryz.prog N Pb Shun val B Mine) (.front (V l))) := envP (K := (kcfg Tryz.prog N Pb Shun val B Mine)) Fi trivial
  have rl : ∀ {w w₁ x}, LowA w₀ N Tb x w → RM (kcfg Tryz.prog N Pb Shun val B Mine) w w₁ → LowA w₀ N Tb x w₁ := fun h r => h.rm Fi hTN r
  refine callsI_of Tryz.func91 (by rfl) rfl ?_
  simp only [Tryz.ntmps91, List.size_toArray, List.length_cons, List.length_nil, Nat.reduceAdd, Nat.reduceSub, Array.replicate_succ, Array.replicate_zero, List.push_toArray, List.append_toArray, List.nil_append, List.cons_append]
  refine wpI_region C T ?_
  simp only [List.size_toArray, List.length_cons, List.length_nil, Nat.reduceAdd, Nat.zero_add, List.range, List.range.loop]
  refine opsI_cons C rfl (by rfl) fun _ hR Kx hKx => ?_
  replace hA := rl hA (rmd_rm (i := .front (V l)) trivial hR)
  replace hW := (HW.toRM (i := .over) Fi hW (rmd_rm (i := .front (V l)) trivial hR)).rebase
  clear hR
  go_simp
  try (unfold stored; go_simp)
  refine hKx _ _ ⟨?_, ?_⟩
  · co_quiet (T _)
  clear hKx Kx
  try walk_nrm
  refine opsI_cons C rfl (by rfl) fun _ hR Kx hKx => ?_
  replace hA := rl hA (rmd_rm (i := .front (V l)) trivial hR)
  replace hW := (HW.toRM (i := .over) Fi hW (rmd_rm (i := .front (V l)) trivial hR)).rebase
  clear hR
  have hc := cell1 ((hA.old Yb hYN hYT).trans hY)
  go_simp
  try (unfold stored; go_simp)
  refine hKx _ _ ⟨?_, ?_⟩
  · refine dm_read E hA.size ?_
    co_evs (exact evo_at rfl (mine_low hYN hYP hYS hA.size))
  clear hKx Kx
  try walk_nrm
  clear hc
  refine opsI_cons C rfl (by rfl) fun _ hR Kx hKx => ?_
  replace hA := rl hA (rmd_rm (i := .front (V l)) trivial hR)
  replace hW := (HW.toRM (i := .over) Fi hW (rmd_rm (i := .front (V l)) trivial hR)).rebase
  clear hR
  go_simp
  try (unfold stored; go_simp)
  refine hKx _ _ ⟨?_, ?_⟩
  · co_still (T _)
  clear hKx Kx
  try walk_nrm
  have hz : (s.size : Int) = ((s.size : Nat) : Int) := rfl
  refine opsI_callX C T rfl (by rfl) rfl rfl (args' := #[.pointer (some ⟨Rb, 0, none⟩), .int .i64 ((0 : Nat) : Int), .int .i64 ((s.size : Nat) : Int)]) (by simp [Act.eval]) rfl (text_x Fi l 0 s.size (by omega) (List.nil_append l) hg hn hW (.inl ⟨rfl, .inl rfl⟩)) ?_
  rintro i _ w2 ⟨rfl, v2, tk2, rest2, en2, hall, hat, hW2⟩
  have hex : ∀ b, exR Rb v2 b → N ≤ b := fun b hb => by
    rcases hW2.exs b hb with (z | z) | z
    · omega
    · cases z
    · have := hA.size; omega
  replace hA := hA.kept hTN (Ex := exR Rb nilS) (fun b hb => by rcases hb with z | z; omega; cases z) hW2.old
  clear hW E
  have hW := hW2
  clear hW2
  have hu : (l.drop 0).take (s.size - 0) = l := by rw [List.drop_zero, Nat.sub_zero]; exact List.take_of_length_le hl
  rw [hu]
  have E : Env KTs (N + 9) (mineM (kcfg Tryz.prog N Pb Shun val B Mine)) (outM (kcfg Tryz.prog N Pb Shun val B Mine)) (RMd (kcfg Tryz.prog N Pb Shun val B Mine) i) (DMd (kcfg Tryz.prog N Pb Shun val B Mine) i) := envP (K := (kcfg Tryz.prog N Pb Shun val B Mine)) Fi hat.early
  try walk_nrm
  refine opsI_cons C rfl (by rfl) fun _ hR Kx hKx => ?_
  replace hA := rl hA (rmd_rm hat.early hR)
  replace hW := HW.toRM (i := .over) Fi hW (rmd_rm hat.early hR)
  clear hR
  have hc := cell1 hA.tx
  have hfz := frozen1 hA.tx
  go_simp
  try (unfold stored; go_simp)
  have hO : ∀ x, Own KTs (mineM (kcfg Tryz.prog N Pb Shun val B Mine)) _ (World.setCell _ ⟨Tb, 0, none⟩ x) := fun x => Own.setCell hA.tx (mine_low hTN hTP hTS hA.size) (by simp [KTs])
  refine hKx _ _ ⟨?_, ?_⟩
  · refine dm_own E hA.size (hO _) ?_
    co_evs (exact evo_at rfl (mine_low hTN hTP hTS hA.size))
  clear hKx Kx
  try walk_nrm
  refine opsI_nil C T ?_
  refine ⟨.inl rfl, rfl, _, resultsC_none (by rfl) _, _, _, v2, tk2, rest2, en2, hall, hat, hW.anew (HC.off' _ _ ?_) (fun b hb => E.mine (hO _) hb) (fun k hk => HC.off' _ _ ?_) (by simpa [World.setCell] using hW.size), hex, ⟨hA.tape, hA.os, hA.output, by simpa [World.setCell] using hA.size, fun b h1 h2 => (HC.off' _ _ h2).trans (hA.old b h1 h2), ?_⟩⟩
  · omega
  · have := hex k (.inr hk); omega
  · exact (setCell_block hA.tx _).trans (by rfl)
end
end Go.Proofs.YtgcaionclkbehaaGreatDoor
