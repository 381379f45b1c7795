/-
  letters.OfBytes, as folio.Decode calls it, whole.
-/
import Derived.Test.YtgcaionclkbehaaGreatDoorDec1
set_option linter.all false
set_option linter.unusedSectionVars false
set_option linter.unusedSimpArgs false
namespace Go.Proofs.YtgcaionclkbehaaGreatDoor
open Go.Conc Go.RowKit
abbrev pieceV (Pb : Nat) : Value := .slice (some ⟨Pb, 0, none⟩) 1 1
section
variable {w₀ w w₁ : World} {Post : Value → World → Prop} {S : Nat → Prop} {N Pb Yb Tb : Nat} {s : ByteArray}
/-- What is asked of the world in which folio.Decode calls letters.OfBytes. -/
structure HOf (w₀ : World) (N Pb Yb Tb : Nat) (s : ByteArray) (S : Nat → Prop) : Prop where
  size : w₀.heap.size = N
  ps : w₀.cell? ⟨Pb, 0, none⟩ = some (.string s)
  yb : w₀.heap[Yb]? = some (.cells #[.string s] 9)
  tb : w₀.heap[Tb]? = some (.cells #[.string ⟨#[]⟩] 9)
  plo : Pb < N
  ylo : Yb < N
  tlo : Tb < N
  yp : Yb ≠ Pb
  tp : Tb ≠ Pb
  yt : Yb ≠ Tb
  sh : ∀ b, S b → b < N ∧ b ≠ Pb ∧ b ≠ Yb ∧ b ≠ Tb
  small : s.size ≤ 20000
theorem HOf.run (H : HOf w₀ N Pb Yb Tb s S) : HRun w₀ N Pb S := ⟨H.size, .inl H.plo, fun b h => ⟨(H.sh b h).1, (H.sh b h).2.1⟩⟩
theorem kid_of (H : HOf w₀ N Pb Yb Tb s S) (Shun : Loc → Prop) (w : World) [Go.ConcR.Payload] [Go.ConcX.Payload] (hF : He w₀ (objs9 N (pieceV Pb) 62 (bytesV N)) w) : XK (kcfg Tryz.prog N Pb (shunE N Shun) (pieceV Pb) (N + 9) (fun _ => False)) (true, V (lettersOf s)) (born Tryz.prog (callGo N)) w := by
  obtain rfl := H.size
  have hB : HB w₀.heap.size (bytesV w₀.heap.size) w := ⟨hF.blocks 1 _ rfl, hF.blocks 3 _ rfl, hF.blocks 5 _ rfl, hF.blocks 7 _ rfl, hF.blocks 8 _ rfl⟩
  have hQ : HQ w₀.heap.size Pb s w := ⟨hF.blocks 0 _ rfl, (World.cell?_of_block (hF.old Pb H.plo)).trans H.ps, H.plo⟩
  refine kid_x hB fun w₁ r => ?_
  have := ofbytes1_x (Shun := shunE w₀.heap.size Shun) (B := w₀.heap.size + 9) (Mine := fun _ => False) (hB.rc r) (hQ.rc r) (by have := H.small; omega)
  simpa using this
theorem client_of (H : HOf w₀ N Pb Yb Tb s S) (Shun : Loc → Prop) (hSh : ∀ l, Shun l → ∃ ad : Addr, l = .cell ad ∧ S ad.block) : Client (kcfg Tryz.prog N Pb (shunE N Shun) (pieceV Pb) (N + 9) (fun _ => False)) N (lettersOf s) 91 #[.pointer (some ⟨Yb, 0, none⟩), .pointer (some ⟨Tb, 0, none⟩)]
    (LowA w₀ N Tb (.string ⟨#[]⟩)) (LowA w₀ N Tb (.string ⟨(utf8Of (lettersOf s)).toArray⟩)) (fun _ => LowA w₀ N Tb (.string ⟨(utf8Of (lettersOf s)).toArray⟩)) := by
  have F := fitE (val := pieceV Pb) H.run hSh
  have hs : ∀ b, b < N → ¬ S b → ∀ ad : Addr, ad.block = b → ¬ shunE N Shun (.cell ad) := by
    rintro b hb hS ad rfl (h | ⟨a, e, h⟩)
    · obtain ⟨a, e, h⟩ := hSh _ h
      cases e
      exact hS h
    · cases e; omega
  obtain ⟨hg, hn⟩ := letters_good s H.small
  constructor
  · exact fun w w₁ r h => h.rm F H.tlo r
  · exact fun w cs h => h.alloc H.tlo _
  · intro _ _ _ AW Rb w hRb hA hW
    have := decode1_x (AnchW := AW) F H.ylo H.yp (hs Yb H.ylo fun z => (H.sh _ z).2.2.1 rfl) H.tlo H.tp (hs Tb H.tlo fun z => (H.sh _ z).2.2.2 rfl) H.yt H.yb H.small hg hn (letters_len s) hRb hA hW
    simpa using this
  · exact fun _ w w₁ r h => h.rm F H.tlo r
  · exact fun Rb Ex w₀ v tk en w w' _ hx k h => h.kept H.tlo hx k
  · exact fun _ w h => h
theorem He.start (w₀ : World) : He w₀ [] w₀ := ⟨rfl, rfl, rfl, fun _ _ => rfl, by simp, fun j o h => by simp at h⟩
theorem low_of (H : HOf w₀ N Pb Yb Tb s S) (hF : He w₀ (objs9 N (pieceV Pb) 62 (bytesV N)) w) : LowA w₀ N Tb (.string ⟨#[]⟩) w := by
  obtain rfl := H.size
  exact ⟨hF.tape, hF.os, hF.output, by rw [hF.size]; exact Nat.le_refl _, fun b h _ => hF.old b h, (hF.old Tb H.tlo).trans H.tb⟩
set_option maxRecDepth 100000 in
set_option maxHeartbeats 2000000 in
/-- ████ letters.OfBytes. ████ -/
theorem ofbytes_x (H : HOf w₀ N Pb Yb Tb s S) :
    CallsI Tryz.prog (ZI Tryz.prog Post 0) 37 #[pieceV Pb, .func (.func 91) #[] #[.pointer (some ⟨Yb, 0, none⟩), .pointer (some ⟨Tb, 0, none⟩)]] S w₀ (fun S' _ w' => S' = SE N S ∧ LowA w₀ N Tb (.string ⟨(utf8Of (lettersOf s)).toArray⟩) w' ∧ w'.heap[N + 6]? = some (.cells #[.int .u64 0, .int .u32 0] 169)) := by
  have C : ClosedI Tryz.prog true (fun _ : Nat → Prop => AtRel) DZ (ZI Tryz.prog Post 0) := ZI.closed
  have T : ∀ S, Terms AtRel (DZ S) := termsS
  have bx := fun w v => box_run Tryz.prog w 62 v
  have be := fun w v es => box_events Tryz.prog w 62 v es
  have mk : ∀ w es, (Instr.makeFunc (Fn.func 62) #[] #[Value.pointer (some ⟨N, 0, none⟩)]).events Tryz.prog w es = es := fun w es => by simp [Instr.makeFunc]
  obtain rfl := H.size
  have hF := He.start w₀
  refine callsI_of Tryz.func37 (by rfl) rfl ?_
  simp only [Tryz.ntmps37, List.size_toArray, List.length_cons, List.length_nil, Nat.reduceAdd, Nat.reduceSub, Array.replicate_succ, Array.replicate_zero, List.push_toArray, List.append_toArray, List.nil_append, List.cons_append]
  refine wpI_seq C T ?_
  refine wpI_region C T ?_
  simp only [List.size_toArray, List.length_cons, List.length_nil, Nat.reduceAdd, Nat.zero_add, List.range, List.range.loop]
  refine opsI_cons C rfl (by rfl) fun _ hR Kx hKx => ?_
  replace hF := He.rely hF hR
  clear hR
  go_simp
  try (unfold stored; go_simp)
  refine hKx _ _ ⟨?_, ?_⟩
  · intro e he
    have hm := mem_listed he
    simp [go_sem, *] at hm
  clear hKx Kx
  try walk_nrm
  have hsz := hF.size
  simp only [List.length_cons, List.length_nil, Nat.reduceAdd, Nat.add_zero, Nat.zero_add] at hsz
  simp only [hsz]
  clear hsz
  replace hF := hF.alloc (.cells #[pieceV Pb] 62)
  simp only [List.cons_append, List.nil_append] at hF
  refine opsI_nil C T ?_
  show wpI _ _ _ _ _ _ _
  refine wpI_region C T ?_
  simp only [List.size_toArray, List.length_cons, List.length_nil, Nat.reduceAdd, Nat.zero_add, List.range, List.range.loop]
  refine opsI_cons C rfl (by rfl) fun _ hR Kx hKx => ?_
  replace hF := He.rely hF hR
  clear hR
  go_simp
  try (unfold stored; go_simp)
  refine hKx _ _ ⟨?_, ?_⟩
  · co_still (T _)
  clear hKx Kx
  try walk_nrm
  refine opsI_cons C rfl (by rfl) fun _ hR Kx hKx => ?_
  replace hF := He.rely hF hR
  clear hR
  go_simp
  try (unfold stored; go_simp)
  refine hKx _ _ ⟨?_, ?_⟩
  · co_quiet (T _)
  clear hKx Kx
  try walk_nrm
  have hrun := run_x (Post := Post) (f := 91) (fr := 62) (cap := #[.pointer (some ⟨Yb, 0, none⟩), .pointer (some ⟨Tb, 0, none⟩)]) (cr := #[.pointer (some ⟨w₀.heap.size, 0, none⟩)]) (l := lettersOf s) H.run hF (by have := letters_len s; have := H.small; omega) (fun Shun w _ _ h => kid_of H Shun w h) (client_of H) (fun w h => low_of H h) (fun w w₁ r h => h.aside H.tlo r)
  refine opsI_callX C T rfl (by rfl) rfl rfl (by simp [Act.eval]) rfl hrun ?_
  rintro _ _ _ ⟨rfl, h1, h2⟩
  refine opsI_nil C T ?_
  exact ⟨.inl rfl, rfl, _, resultsC_none (by rfl) _, rfl, h1, h2⟩
end
end Go.Proofs.YtgcaionclkbehaaGreatDoor
