/-
  Proved: whatever script is handed in, foliolaw.Decodes at the commit 6208ed2 returns true on every schedule, without a data race, every other goroutine being ended or only leaving, and the script reads as it did. Its conditions are those of the card alone: the listed tables read as the program's text lays them.
-/
import Derived.Test.YtgcaionclkbehaaGreatDoorFacts
import Derived.Test.YtgcaionclkbehaaGreatDoorRows
import Derived.Test.YtgcaionclkbehaaGreatDoorCards
import Derived.Test.YtgcaionclkbehaaGreatDoorTie
import Derived.Deep.DeepHandedRow
import Derived.Conc.LeavingOf
set_option linter.all false
namespace Go.Proofs.YtgcaionclkbehaaGreatDoor
open Go.ChangeShapes Go.WideShapes Go.ChangeAt Go.RowKit Go.Conc

theorem own_x : ownKnob Tryz.prog.godebug = none := by kernel_rfl
theorem laidOut_x : laidOutB Tryz.prog = true := by kernel_rfl
theorem cells38_x : Tryz.prog.cellsOf 77 = 5 := by kernel_rfl
theorem cells3_x : Tryz.prog.cellsOf 3 = 1 := by kernel_rfl
theorem cells9_x : Tryz.prog.cellsOf 9 = 1 := by kernel_rfl
theorem bytes38_x : Tryz.prog.bytesOf 77 = 72 := by kernel_rfl

theorem addr_add (b off n : Nat) : Addr.add ⟨b, off, none⟩ n = ⟨b, off + n, none⟩ := by
  unfold Addr.add
  split <;> simp_all
set_option maxRecDepth 100000 in
/-- A step of a script, as it lies in memory. -/
theorem op_cells {H : Type} {enc : TypeId × Value → H} {W : World} {base fuel : Nat} {spare : Nat → Bool} {held : Bool} {cs : List Value} {x : DataW H × List MemPlace} (h : DataW.trod enc Tryz.prog W base spare held fuel 77 cs = some x) :
    ∃ (kd on : Int) (A B : ByteArray) (L : Value), cs = [.int .i64 kd, .int .i64 on, .string A, .string B, L] := by
  obtain ⟨xs, n, _, _, hl, hx, hf⟩ := DataW.trod_struct Tryz.underlying77 h
  rw [cells38_x] at hl
  obtain ⟨c0, c1, c2, c3, c4, rfl⟩ : ∃ c0 c1 c2 c3 c4, cs = [c0, c1, c2, c3, c4] := by
    rcases cs with _ | ⟨c0, _ | ⟨c1, _ | ⟨c2, _ | ⟨c3, _ | ⟨c4, _ | ⟨c5, cs⟩⟩⟩⟩⟩⟩
    case cons.cons.cons.cons.cons.nil => exact ⟨c0, c1, c2, c3, c4, rfl⟩
    all_goals (simp only [List.length_cons, List.length_nil] at hl; omega)
  have hxl : xs.length = 5 := by simpa using hx
  have get : ∀ i, i < 5 → ∃ y, xs[i]? = some y := fun i hi => ⟨xs[i], List.getElem?_eq_getElem (by omega)⟩
  have f0 : DataW.trod enc Tryz.prog W base spare held n 3 (([c0, c1, c2, c3, c4].drop 0).take (Tryz.prog.cellsOf 3)) = xs[0]? := hf 0 _ rfl
  have f1 : DataW.trod enc Tryz.prog W base spare held n 3 (([c0, c1, c2, c3, c4].drop 1).take (Tryz.prog.cellsOf 3)) = xs[1]? := hf 1 _ rfl
  have f2 : DataW.trod enc Tryz.prog W base spare held n 9 (([c0, c1, c2, c3, c4].drop 2).take (Tryz.prog.cellsOf 9)) = xs[2]? := hf 2 _ rfl
  have f3 : DataW.trod enc Tryz.prog W base spare held n 9 (([c0, c1, c2, c3, c4].drop 3).take (Tryz.prog.cellsOf 9)) = xs[3]? := hf 3 _ rfl
  rw [cells3_x] at f0 f1
  rw [cells9_x] at f2 f3
  obtain ⟨y0, e0⟩ := get 0 (by omega)
  obtain ⟨y1, e1⟩ := get 1 (by omega)
  obtain ⟨y2, e2⟩ := get 2 (by omega)
  obtain ⟨y3, e3⟩ := get 3 (by omega)
  rw [e0] at f0
  rw [e1] at f1
  rw [e2] at f2
  rw [e3] at f3
  obtain ⟨kd, h0, _⟩ := DataW.trod_int Tryz.underlying3 f0
  obtain ⟨on, h1, _⟩ := DataW.trod_int Tryz.underlying3 f1
  obtain ⟨A, h2, _⟩ := DataW.trod_string Tryz.underlying9 f2
  obtain ⟨B, h3, _⟩ := DataW.trod_string Tryz.underlying9 f3
  simp only [List.drop_zero, List.drop_succ_cons, List.take_succ_cons, List.take_zero, List.cons.injEq, and_true] at h0 h1 h2 h3
  exact ⟨kd, on, A, B, c4, by rw [h0, h1, h2, h3]⟩

section
variable {H : Type} {enc : TypeId × Value → H}
/-- From one good run at every start to a row that lists tables and says 'leaving'. -/
theorem leavingWide_of_row {a : Assume} {C : Checked} {os : Os} {f : FuncId} {fn : Func} {s : ChangeSpec} {conds : List PathCond} {apart fresh handsOn again : Bool} {laid : List (String × DataW Unit)}
    (own : ownKnob C.prog.godebug = .none) (started : os.Started) (hfn : C.prog.funcs[f]? = some fn)
    (witness : ∃ (w : World) (tape : Tape) (i : Input), w.os = os ∧ (w.forCall tape i).Shaped C.prog ∧ i.vars = [] ∧ Input.okWide C.prog (w.forCall tape i) .any w.heap.size f i ∧
      (OpenSpec.ofChange s).preRow enc C.prog fn conds apart laid (w.forCall tape i).memory i.args ∧ a.holds C.prog (lone (Frame.enter C.prog f i.args .normal) [] (w.forCall tape i)))
    (runs : ∀ (W : World) (base : Nat) (args : Array Value) (ds gs : List (DataW H)) (before : List MemPlace),
      (∀ (j : Nat) t v, fn.params[j]? = some t → args[j]? = some v → Value.okWide C.prog W .any base t v) →
      DataW.Whole enc C.prog fn.params.toList s.vars apart W args.toList ds gs before →
      (DataW.weightsEach C.prog (fn.params.toList ++ s.plain.varTypes C.prog) (ds ++ gs)).all (· ≤ reachBytes) = true →
      laidMetH C.prog laid W →
      ∃ M last o w' t', runNT C.prog (M + 1) (solo (G (Frame.enter C.prog f args .normal) []) W) #[] = (.ended o w', t') ∧ runN C.prog M (solo (G (Frame.enter C.prog f args .normal) []) W) = .next last ∧
        step C.prog last = .ended o w' ∧ Conc.Good C.prog (fun v W' => s.post enc C.prog fn apart fresh handsOn again W args v W') last o w' t') :
    ReturnsInLeavingWide a C os f .any ((OpenSpec.ofChange s).preRow enc C.prog fn conds apart laid) (s.post enc C.prog fn apart fresh handsOn again) := by
  refine returnsInLeavingWide_of_good own started witness ?_
  intro w tape i _ _ _ hok hpre hholds
  obtain ⟨_, _, _, fn', hfn', _, _, _, _, hval⟩ := hok
  have e : fn' = fn := Option.some.inj (hfn'.symm.trans hfn)
  subst e
  obtain ⟨⟨hp, hl⟩, hz⟩ := hpre
  obtain ⟨ds, gs, before, hw, _, _⟩ := OpenSpec.pre_parts hp
  have hw' := DataW.Whole.of_heap (w' := w.forCall tape i) (by rfl) hw
  obtain ⟨M, last, o, w', t', h1, h2, h3, h4⟩ := runs (w.forCall tape i) w.heap.size i.args ds gs before hval hw' (hz.weights hw) (hl.of_heap (by rfl))
  exact ⟨M, last, o, w', t', h1, h2, h3, h4.mono fun v hp => ChangeSpec.post_blind hp⟩
end
/-- A table's cells, of what it reads as. -/
def litCell : DataW Unit → List Value
  | .lit (.int k i) => [.int k i]
  | .lit (.string b) => [.string ⟨b.toArray⟩]
  | .lit (.bool b) => [.bool b]
  | _ => []
def tabRow : DataW Unit → List Value
  | .agg ds => ds.flatMap litCell
  | d => litCell d
def tableCells : DataW Unit → Array Value
  | .agg ds => (ds.flatMap tabRow).toArray
  | _ => #[]
def putCells (cs : Array Value) : Obj → Obj
  | .cells _ t frozen => .cells cs t frozen
  | o => o
/-- A world for the witness: the one that is handed in, the tables laid in it. -/
def layTables (w : World) : World :=
  { w with heap := ((w.heap.modify 1 (putCells (tableCells Rows.laid_folio_tokens_entities))).modify 2 (putCells (tableCells Rows.laid_unicode_utf8_first))).modify 3 (putCells (tableCells Rows.laid_unicode_utf8_acceptRanges)) }
set_option maxRecDepth 100000 in
theorem laid_met (os : Os) : laidMet Tryz.prog Rows.decodesRow.laid ((layTables (World.holding Tryz.prog os ⟨#[], #[], []⟩)).forCall (fun _ _ => 0) ⟨#[], #[.slice .none 0 0], []⟩).memory :=
  laidMet_of_run' 8 (by kernel_rfl) (by kernel_rfl)
set_option maxRecDepth 100000 in
theorem reads_x (os : Os) {H : Type} (enc : TypeId × Value → H) : ∃ places, DataW.whole enc Tryz.prog ((layTables (World.holding Tryz.prog os ⟨#[], #[], []⟩)).forCall (fun _ _ => 0) ⟨#[], #[.slice .none 0 0], []⟩).memory Tryz.f3.params.toList Rows.decodesSpec.vars false #[Value.slice .none 0 0].toList 8 = some ([.nil], [], places) :=
  ⟨[], by kernel_rfl⟩
set_option maxRecDepth 100000 in
theorem decodes_lifted (os : Os) (started : os.Started) (H : Type) (enc : TypeId × Value → H) :
    ReturnsInLeavingWide {} Tryz.checked os 3 .any ((OpenSpec.ofChange Rows.decodesSpec).preRow enc Tryz.prog Tryz.f3 Rows.decodesRow.domain false Rows.decodesRow.laid) (Rows.decodesSpec.post enc Tryz.prog Tryz.f3 false true false false) := by
  obtain ⟨places, hx⟩ := reads_x os enc
  refine leavingWide_of_row (C := Tryz.checked) own_x started Tryz.func3
    (witness_row_at (enc := enc) (C := Tryz.checked) false (layTables (World.holding Tryz.prog os ⟨#[], #[], []⟩)) #[.slice .none 0 0] rfl (by kernel_rfl) (by kernel_rfl) (by kernel_rfl)
      (OpenSpec.preRow_of_cond 8 hx (by kernel_rfl) (fun k hk => by cases hk) (by kernel_rfl) (laid_met os))) ?_
  intro W base args ds gs before hval0 hW hsz0 _
  have hsz : (DataW.weightsEach Tryz.prog (Tryz.f3.params.toList ++ Rows.decodesSpec.plain.varTypes Tryz.prog) (ds ++ gs)).all (· ≤ reachBytes) = true := hsz0
  clear hsz0
  have hval : ∀ (j : Nat) t v, Tryz.f3.params[j]? = some t → args[j]? = some v → Value.okWide Tryz.prog W .any base t v := hval0
  have hW' := hW
  obtain ⟨p, q, hA0, hV, rfl, _, _⟩ := hW
  have hA : DataW.TrodAll enc Tryz.prog W 0 (fun _ => true) true Tryz.f3.params.toList args.toList ds p := hA0
  rw [Tryz.params3] at hA hval hsz
  obtain ⟨v0, d0, rfl, rfl, h0⟩ := trodAll_one hA
  obtain ⟨rfl, rfl⟩ := trodVars_none hV
  obtain ⟨a0, len, cap, rfl⟩ := okWide_slice Tryz.underlying22 (hval 0 22 v0 rfl rfl)
  have h0k := h0
  obtain ⟨fuel, hf⟩ := h0
  clear hA0 hval0
  simp only [List.append_nil] at hW'
  have hlt : ∀ x ∈ p, x.block < W.heap.size := fun x hx => by simpa using hW'.lt x hx
  have hargs : ∀ (W' : World), Below W.heap.size W W' → DataW.Trod enc Tryz.prog W' 0 (fun b => decide (b < W.heap.size)) true 22 (.slice a0 len cap) d0 p :=
    fun W' hn => Below.trod laidOut_x (by kernel_rfl) (of_decide_eq_true (by kernel_rfl)) h0k hn hlt
  have close : ∀ (Sb so : Nat) (f : Nat → Int × Int × ByteArray × ByteArray × Value), len ≤ 140737488355328 → (0 < len → a0 = some ⟨Sb, so, none⟩) → (0 < len → Sb < W.heap.size) →
      (∀ i, i < len → ∀ j v, (opV (f i).1 (f i).2.1 (f i).2.2.1 (f i).2.2.2.1 (f i).2.2.2.2)[j]? = some v → W.cell? ⟨Sb, so + i * 5 + j, none⟩ = some v) →
      ∃ M last o w' t', runNT Tryz.checked.prog (M + 1) (solo (G (Frame.enter Tryz.checked.prog 3 #[.slice a0 len cap] .normal) []) W) #[] = (.ended o w', t') ∧
        runN Tryz.checked.prog M (solo (G (Frame.enter Tryz.checked.prog 3 #[.slice a0 len cap] .normal) []) W) = .next last ∧ step Tryz.checked.prog last = .ended o w' ∧
        Conc.Good Tryz.checked.prog (fun v W' => Rows.decodesSpec.post enc Tryz.checked.prog Tryz.f3 false true false false W #[.slice a0 len cap] v W') last o w' t' := by
    intro Sb so f hlen ha hSb hscr
    refine ends_of_calls (P := Tryz.prog) (Q := fun v w' => v = .bool true ∧ Ext W w') (by kernel_rfl) ?_ (decodes_x a0 len cap Sb so (fun i => (f i).1) (fun i => (f i).2.1) (fun i => (f i).2.2.1) (fun i => (f i).2.2.2.1) (fun i => (f i).2.2.2.2) hlen (fun b h => h) ha hSb hscr)
    rintro v w' e ⟨rfl, hE⟩
    have hb : Below W.heap.size W (w'.at e) := ⟨hE.os, hE.tape, hE.output, hE.size, hE.block⟩
    refine ⟨_, _, _, [], p, [], hW', ?_, ?_, by rfl, hb.frame _, fun h => by cases h⟩
    · exact trodAll_mk1 (shut_bool Tryz.underlying4 true)
    · exact trodAll_mk1 (hargs _ hb)
  rcases DataW.trod_slice Tryz.underlying22 hf with ⟨hcs, hx⟩ | ⟨a, len', cap', elems, rest, n, _, hcs, hx, _, hl, hm, hel, hget, _, _⟩
  · simp [Value.cells] at hcs
    obtain ⟨rfl, rfl, rfl⟩ := hcs
    exact close 0 0 (fun _ => (0, 0, ⟨#[]⟩, ⟨#[]⟩, undef)) (by omega) (fun h => absurd h (by omega)) (fun h => absurd h (by omega)) (fun i hi => absurd hi (by omega))
  · simp [Value.cells] at hcs
    obtain ⟨rfl, rfl, rfl⟩ := hcs
    simp only [Prod.mk.injEq] at hx
    obtain ⟨rfl, rfl⟩ := hx
    have hreach : len * 72 ≤ 140737488355328 := by
      have := sized_slice hsz (j := 0) (t := 22) (e := 77) rfl rfl Tryz.underlying22
      rw [bytes38_x] at this
      simp only [List.length_map, hel, reachBytes] at this
      have h2 : len * 72 ≤ (len + rest.length) * 72 := Nat.mul_le_mul_right _ (by omega)
      omega
    rw [cells38_x] at hget
    have hrow : ∀ i, ∃ y : Int × Int × ByteArray × ByteArray × Value, i < len → ∀ j v, (opV y.1 y.2.1 y.2.2.1 y.2.2.2.1 y.2.2.2.2)[j]? = some v → W.cell? ((a.add (i * 5)).add j) = some v := by
      intro i
      by_cases hi : i < len
      · have hg := hget i hi
        rw [List.getElem?_eq_getElem (by omega)] at hg
        obtain ⟨cs, h1, h2⟩ := Option.bind_eq_some_iff.1 hg
        obtain ⟨_, hcl, hcell⟩ := World.cells?_some h1
        obtain ⟨kd, on, A, B, L, rfl⟩ := op_cells h2
        refine ⟨(kd, on, A, B, L), fun _ j v hv => ?_⟩
        have hj : j < 5 := by
          have := (Array.getElem?_eq_some_iff.1 hv).1
          simpa using this
        rw [hcell j hj, ← hv]
        simp
      · exact ⟨(0, 0, ⟨#[]⟩, ⟨#[]⟩, undef), fun h => absurd h hi⟩
    obtain ⟨f, hfr⟩ := Classical.axiomOfChoice hrow
    obtain ⟨b, off, spot⟩ := a
    have hspot : 0 < len → spot = none := fun h => by
      have := hfr 0 h 0 _ rfl
      cases spot with
      | none => rfl
      | some z => simp [World.cell?, Addr.add] at this; split at this <;> simp at this
    refine close b off f (by omega) (fun h => by rw [hspot h]) (fun h => ?_) (fun i hi j v hv => ?_)
    · exact hlt (.cell b off) (List.mem_append_left _ (MemPlace.mem_row.2 ⟨0, by rw [cells38_x, hel]; omega, by simp⟩))
    · have := hfr i hi j v hv
      rw [hspot (by omega)] at this
      rwa [addr_add, addr_add] at this

theorem and2_x {a b : Bool} (ha : a = true) (hb : b = true) : (a && b) = true := by
  rw [ha, hb]
  rfl
set_option maxRecDepth 100000 in
theorem decodes_facts : joinedFacts Tryz.pinned.checked.prog 3 Tryz.f3 Rows.decodesSpec Rows.decodesRow = true := and2_x (and2_x (and2_x (and2_x (and2_x (and2_x (and2_x (and2_x (and2_x (and2_x (and2_x (and2_x (and2_x (and2_x (and2_x (and2_x (and2_x (and2_x (and2_x (and2_x (and2_x (and2_x (and2_x (and2_x (and2_x (and2_x (and2_x (and2_x (and2_x (and2_x (and2_x decodes_k0 decodes_k1) decodes_k2) decodes_k3) decodes_k4) decodes_k5) decodes_k6) decodes_k7) decodes_k8) decodes_k9) decodes_k10) decodes_k11) decodes_k12) decodes_k13) decodes_k14) decodes_k15) decodes_k16) decodes_k17) decodes_k18) decodes_k19) decodes_k20) decodes_k21) decodes_k22) decodes_k23) decodes_k24) decodes_k25) decodes_k26) decodes_k27) decodes_k28) decodes_k29) decodes_k30) decodes_k31
theorem decodes_holds : Rows.DecodesSaid :=
  OpenClaim.holds_of_wide_leaving 3 Tryz.f3 rfl rfl rfl rfl rfl rfl rfl ⟨rfl, rfl, rfl, rfl, rfl⟩ rfl rfl rfl rfl rfl (by kernel_rfl) Tryz.func3 decodes_facts
    (of_decide_eq_true (by kernel_rfl)) (by unfold Func.isWrapper; first | (rw [if_pos (by decide +kernel)]; kernel_rfl) | (rw [if_neg (by decide +kernel)]; exact ⟨rfl, rfl⟩))
    (fun os started H enc _ => by rw [OpenClaim.pre_eq_preRow]; exact decodes_lifted os started H enc)

theorem plain_x (f : FuncId) (fn : Func) (hf : Tryz.pinned.checked.prog.funcNamed Tryz.f3.name = some f) (hfn : Tryz.pinned.checked.prog.funcs[f]? = some fn) :
    false = Tryz.pinned.checked.prog.looks [] ∧ ∀ (j : Nat) t, fn.params[j]? = some t → Tryz.pinned.checked.prog.wantsStandIn t = false := by
  obtain rfl : f = 3 := Option.some.inj ((show Tryz.prog.funcNamed Tryz.f3.name = some 3 by kernel_rfl).symm.trans hf) |>.symm
  obtain rfl : fn = Tryz.f3 := (Option.some.inj (Tryz.func3.symm.trans hfn)).symm
  refine ⟨by kernel_rfl, fun j t ht => ?_⟩
  rw [Tryz.params3] at ht
  obtain rfl : t = 22 := by simpa using Array.mem_of_getElem? ht
  exact (show Tryz.prog.wantsStandIn 22 = false by kernel_rfl)
/-- ████ THE CARD ████ -/
theorem decodes_card : Rows.DecodesCardSaid :=
  ⟨Claim7.tied_new_at .later [.data, .data, .pinned] true (Claim7.new_of_sixth decodes_holds _ _ rfl ⟨rfl, rfl⟩ (by kernel_rfl) rfl plain_x) (by kernel_rfl), (fun _ h => by cases h), decodes_row_tie, (fun h => by cases h), by kernel_rfl⟩

#print axioms decodes_card
end Go.Proofs.YtgcaionclkbehaaGreatDoor
