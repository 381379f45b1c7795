/-
  The child of letters.Each, on: (*decoder).follow and take.
-/
import Derived.Test.YtgcaionclkbehaaGreatDoorDec
set_option linter.all false
set_option linter.unusedSectionVars false
set_option linter.unusedSimpArgs false
namespace Go.Proofs.YtgcaionclkbehaaGreatDoor
open Go.Conc Go.RowKit
/-- What a follower makes of the letter. -/
def followL (l b : Int) : Int := bits .or .i32 (IntKind.i32.wrap (l * 64)) (IntKind.i32.wrap (bits .and .u8 b 63))
def followS (d : DS) (b : Int) : DS × List Int :=
  (⟨followL d.letter b, IntKind.i64.wrap (d.missing - 1), 128, 191⟩, if IntKind.i64.wrap (d.missing - 1) = 0 then [followL d.letter b] else [])
section
variable {N Pb c1 c2 : Nat} {Shun : Loc → Prop} {val : Value} {B : Nat} {Mine : Loc → Prop} {c : CS} {d : DS} {w w₁ : World}
variable [Go.ConcR.Payload] [Go.ConcX.Payload]
set_option maxRecDepth 100000 in
set_option maxHeartbeats 2000000 in
theorem follow_x (hF : HC N Pb c1 c2 c d w) (fr : Bool) (b : Int) (vs : List Value) :
    CallsX Tryz.prog (XK (kcfg Tryz.prog N Pb Shun val B Mine)) 214 #[.pointer (some ⟨c2, 0, none⟩), .int .u8 b] (fr, V (cleanAll c (followS d b).2).2 ++ vs) w (fun i' _ w' => i' = (fr && (cleanAll c (followS d b).2).2.isEmpty, vs) ∧ HC N Pb c1 c2 (cleanAll c (followS d b).2).1 (followS d b).1 w') := by
  have C : Closed Tryz.prog false (RKd (kcfg Tryz.prog N Pb Shun val B Mine)) (DK (kcfg Tryz.prog N Pb Shun val B Mine)) (XK (kcfg Tryz.prog N Pb Shun val B Mine)) := XK.closed (K := (kcfg Tryz.prog N Pb Shun val B Mine))
  have T := termsK (K := (kcfg Tryz.prog N Pb Shun val B Mine))
  have Tq := T (true, [])
  have evb : ∀ (w : World) (es : Array Event) (a : Addr) (m : Mode) (x : Bool), (store a (.bool x) m).events Tryz.prog w es = storedEv Tryz.prog w es a (.bool x) m := fun w es a m x => events_store Tryz.prog w es a _ m rfl
  have hdr : ∀ w : World, RKd (kcfg Tryz.prog N Pb Shun val B Mine) (true, []) w { w with drawn := w.drawn + 1 } := ownDrawK
  refine callsX_of Tryz.func214 (by rfl) rfl ?_
  simp only [Tryz.ntmps214, List.size_toArray, List.length_cons, List.length_nil, Nat.reduceAdd, Nat.reduceSub, Array.replicate_succ, Array.replicate_zero, List.push_toArray, List.append_toArray, List.nil_append, List.cons_append]
  co_apply wpX_seqC C T (RKd.refl _)
  co_reg (T _)
  co_op HC.rely hF (co_quiet Tq)
  co_op HC.rely hF (co_quiet Tq)
  co_opw HC.rely hF (skip) (co_still Tq)
  co_opw HC.rely hF (skip) (co_still Tq)
  co_opw HC.rely hF (have hc := hF.cells_de) (refine dk_read hF ?_; co_evs (exact evk_kid (.inr (.inr rfl))))
  clear hc
  co_op HC.rely hF (co_quiet Tq)
  co_op HC.rely hF (co_quiet Tq)
  co_op HC.rely hF (co_quiet Tq)
  co_op HC.rely hF (co_quiet Tq)
  co_op HC.rely hF (co_quiet Tq)
  co_opw HC.rely hF (skip) (co_still Tq)
  co_opw HC.rely hF (skip) (co_still Tq)
  co_opw HC.rely hF (have hc := hF.cells_de) (exact dk_write hF (.inr rfl) (by co_evs (exact evk_kid (.inr (.inr rfl)))))
  replace hF := hF.setLetter (followL d.letter b)
  clear hc
  co_apply opsC_nil (T _)
  co_then
  co_apply wpX_seqC C T (RKd.refl _)
  co_reg (T _)
  co_op HC.rely hF (co_quiet Tq)
  co_opw HC.rely hF (skip) (co_still Tq)
  co_opw HC.rely hF (skip) (co_still Tq)
  co_opw HC.rely hF (have hc := hF.cells_de) (refine dk_read hF ?_; co_evs (exact evk_kid (.inr (.inr rfl))))
  clear hc
  co_op HC.rely hF (co_quiet Tq)
  co_opw HC.rely hF (skip) (co_still Tq)
  co_opw HC.rely hF (skip) (co_still Tq)
  co_opw HC.rely hF (have hc := hF.cells_de) (exact dk_write hF (.inr rfl) (by co_evs (exact evk_kid (.inr (.inr rfl)))))
  replace hF := hF.setMissing (IntKind.i64.wrap (d.missing - 1))
  clear hc
  co_apply opsC_nil (T _)
  co_then
  co_apply wpX_seqC C T (RKd.refl _)
  co_reg (T _)
  co_op HC.rely hF (co_quiet Tq)
  co_op HC.rely hF (co_quiet Tq)
  co_opw HC.rely hF (skip) (co_still Tq)
  co_opw HC.rely hF (skip) (co_still Tq)
  co_opw HC.rely hF (have hc := hF.cells_de) (exact dk_write hF (.inr rfl) (by co_evs (exact evk_kid (.inr (.inr rfl)))))
  replace hF := hF.setLow 128
  clear hc
  co_opw HC.rely hF (skip) (co_still Tq)
  co_opw HC.rely hF (skip) (co_still Tq)
  co_opw HC.rely hF (have hc := hF.cells_de) (exact dk_write hF (.inr rfl) (by co_evs (exact evk_kid (.inr (.inr rfl)))))
  replace hF := hF.setHigh 191
  clear hc
  co_apply opsC_nil (T _)
  co_then
  co_apply wpX_seqC C T (RKd.refl _)
  co_reg (T _)
  co_op HC.rely hF (co_quiet Tq)
  co_opw HC.rely hF (skip) (co_still Tq)
  co_opw HC.rely hF (skip) (co_still Tq)
  co_opw HC.rely hF (have hc := hF.cells_de) (refine dk_read hF ?_; co_evs (exact evk_kid (.inr (.inr rfl))))
  clear hc
  co_op HC.rely hF (co_quiet Tq)
  co_apply opsC_nil (T _)
  co_then
  by_cases hmz : IntKind.i64.wrap (d.missing - 1) = 0
  · have hmb : (IntKind.i64.wrap (d.missing - 1) == 0) = true := by simp [hmz]
    try simp only [hmb]
    clear hmb
    refine wpX_cond C T (t := true) rfl ?_
    simp only [if_true, if_false, reduceIte, Bool.false_eq_true]
    refine wpX_region_last C T (n := 8) (S := HC N Pb c1 c2 c ⟨followL d.letter b, IntKind.i64.wrap (d.missing - 1), 128, 191⟩) (K := fun a' w' => (a'.eval (.tmp 37) = putV c1 ∧ a'.eval (.tmp 41) = .int .i32 (followL d.letter b) ∧ a'.defers = []) ∧ HC N Pb c1 c2 c ⟨followL d.letter b, IntKind.i64.wrap (d.missing - 1), 128, 191⟩ w') drawK (by first | kernel_rfl | rfl) rfl (fun l => (!l.getD 1 false || l.getD 0 false) && (!l.getD 2 false || l.getD 1 false) && (!l.getD 3 false || l.getD 2 false) && (!l.getD 5 false || l.getD 4 false) && (!l.getD 6 false || l.getD 5 false) && (!l.getD 7 false || l.getD 6 false)) rfl ?hdn ?hord (fun w₁ hR => ?any) ?last
    case hord =>
      intro listed hs hl
      obtain ⟨l⟩ := listed
      match l, hs, hl with
      | [b0, b1, b2, b3, b4, b5, b6, b7, b8], hs, hl =>
        clear hs
        simp only [List.getElem?_toArray, List.getElem?_cons_succ, List.getElem?_cons_zero, Option.some.injEq] at hl
        subst hl
        clear hF hmz
        revert b0 b1 b2 b3 b4 b5 b6 b7
        decide +kernel
    case hdn =>
      intro listed hs hl
      obtain ⟨l⟩ := listed
      match l, hs, hl with
      | [b0, b1, b2, b3, b4, b5, b6, b7, b8], hs, hl =>
        clear hs
        simp only [List.getElem?_toArray, List.getElem?_cons_succ, List.getElem?_cons_zero, Option.some.injEq] at hl
        subst hl
        clear hF hmz
        revert b0 b1 b2 b3 b4 b5 b6 b7
        decide +kernel
    case any =>
      replace hF := HC.rely (HC.rely hF hR) (hdr _)
      clear hR
      co_applyP anyCH_take (T _) (fun _ _ h r => HC.rely h r) (fun _ _ _ h r => ⟨h.1, h.2.1, HC.rely h.2.2 r⟩) (i := 0) rfl (by first | kernel_rfl | decide +kernel) (by first | kernel_rfl | decide +kernel) (by first | kernel_rfl | decide +kernel) (.inl ⟨by rfl, fun _ hw => ⟨run_eq_of ?run0, ?guar0⟩⟩) hF ?rest0
      case run0 =>
        intro Kx hKx
        skip
        go_simp
        exact hKx
      case guar0 =>
        skip
        co_quiet Tq
      try walk_nrm
      co_applyP anyCH_take (T _) (fun _ _ h r => HC.rely h r) (fun _ _ _ h r => ⟨h.1, h.2.1, HC.rely h.2.2 r⟩) (i := 1) rfl (by first | kernel_rfl | decide +kernel) (by first | kernel_rfl | decide +kernel) (by first | kernel_rfl | decide +kernel) (.inl ⟨by rfl, fun _ hw => ⟨run_eq_of ?run1, ?guar1⟩⟩) hF ?rest1
      case run1 =>
        intro Kx hKx
        skip
        go_simp
        exact hKx
      case guar1 =>
        skip
        co_still Tq
      try walk_nrm
      co_applyP anyCH_take (T _) (fun _ _ h r => HC.rely h r) (fun _ _ _ h r => ⟨h.1, h.2.1, HC.rely h.2.2 r⟩) (i := 2) rfl (by first | kernel_rfl | decide +kernel) (by first | kernel_rfl | decide +kernel) (by first | kernel_rfl | decide +kernel) (.inl ⟨by rfl, fun _ hw => ⟨run_eq_of ?run2, ?guar2⟩⟩) hF ?rest2
      case run2 =>
        intro Kx hKx
        skip
        go_simp
        exact hKx
      case guar2 =>
        skip
        co_still Tq
      try walk_nrm
      co_applyP anyCH_take (T _) (fun _ _ h r => HC.rely h r) (fun _ _ _ h r => ⟨h.1, h.2.1, HC.rely h.2.2 r⟩) (i := 3) rfl (by first | kernel_rfl | decide +kernel) (by first | kernel_rfl | decide +kernel) (by first | kernel_rfl | decide +kernel) (.inl ⟨by rfl, fun _ hw => ⟨run_eq_of ?run3, ?guar3⟩⟩) hF ?rest3
      case run3 =>
        intro Kx hKx
        have hc := hw.cells_de
        go_simp
        exact hKx
      case guar3 =>
        have hc := hw.cells_de
        refine dk_read hw ?_; co_evs (exact evk_kid (.inr (.inr rfl)))
      try walk_nrm
      co_applyP anyCH_take (T _) (fun _ _ h r => HC.rely h r) (fun _ _ _ h r => ⟨h.1, h.2.1, HC.rely h.2.2 r⟩) (i := 4) rfl (by first | kernel_rfl | decide +kernel) (by first | kernel_rfl | decide +kernel) (by first | kernel_rfl | decide +kernel) (.inl ⟨by rfl, fun _ hw => ⟨run_eq_of ?run4, ?guar4⟩⟩) hF ?rest4
      case run4 =>
        intro Kx hKx
        skip
        go_simp
        exact hKx
      case guar4 =>
        skip
        co_quiet Tq
      try walk_nrm
      co_applyP anyCH_take (T _) (fun _ _ h r => HC.rely h r) (fun _ _ _ h r => ⟨h.1, h.2.1, HC.rely h.2.2 r⟩) (i := 5) rfl (by first | kernel_rfl | decide +kernel) (by first | kernel_rfl | decide +kernel) (by first | kernel_rfl | decide +kernel) (.inl ⟨by rfl, fun _ hw => ⟨run_eq_of ?run5, ?guar5⟩⟩) hF ?rest5
      case run5 =>
        intro Kx hKx
        skip
        go_simp
        exact hKx
      case guar5 =>
        skip
        co_still Tq
      try walk_nrm
      co_applyP anyCH_take (T _) (fun _ _ h r => HC.rely h r) (fun _ _ _ h r => ⟨h.1, h.2.1, HC.rely h.2.2 r⟩) (i := 6) rfl (by first | kernel_rfl | decide +kernel) (by first | kernel_rfl | decide +kernel) (by first | kernel_rfl | decide +kernel) (.inl ⟨by rfl, fun _ hw => ⟨run_eq_of ?run6, ?guar6⟩⟩) hF ?rest6
      case run6 =>
        intro Kx hKx
        skip
        go_simp
        exact hKx
      case guar6 =>
        skip
        co_still Tq
      try walk_nrm
      co_applyP anyCH_take (T _) (fun _ _ h r => HC.rely h r) (fun _ _ _ h r => ⟨h.1, h.2.1, HC.rely h.2.2 r⟩) (i := 7) rfl (by first | kernel_rfl | decide +kernel) (by first | kernel_rfl | decide +kernel) (by first | kernel_rfl | decide +kernel) (.inl ⟨by rfl, fun _ hw => ⟨run_eq_of ?run7, ?guar7⟩⟩) hF ?rest7
      case run7 =>
        intro Kx hKx
        have hc := hw.cells_de
        go_simp
        exact hKx
      case guar7 =>
        have hc := hw.cells_de
        refine dk_read hw ?_; co_evs (exact evk_kid (.inr (.inr rfl)))
      try walk_nrm
      exact anyCH_done (by first | kernel_rfl | decide +kernel) ⟨rfl, ⟨rfl, rfl, rfl⟩, hF⟩ _
    case last =>
      rintro a' w' ⟨⟨ha1, ha2, ha3⟩, hF⟩
      have hfs : followS d b = (⟨followL d.letter b, IntKind.i64.wrap (d.missing - 1), 128, 191⟩, [followL d.letter b]) := by simp only [followS, if_pos hmz]
      refine opsX_callX C T rfl (by rfl) rfl ha1 (by simp only [List.map_toArray, List.map_cons, List.map_nil, ha2]; rfl) (by rw [hfs]; simp only [cleanAll_one]) (put_x hF fr (followL d.letter b) vs) ?_
      rintro _ _ _ ⟨rfl, hF⟩
      refine opsX_nil C T ?_
      exact ⟨.inl rfl, ha3, _, resultsC_none (by rfl) _, by simp [hfs, cleanAll_one], by rw [hfs, cleanAll_one]; exact hF⟩
  · have hmb : (IntKind.i64.wrap (d.missing - 1) == 0) = false := by simp [hmz]
    try simp only [hmb]
    refine wpX_cond C T (t := false) rfl ?_
    simp only [if_true, if_false, reduceIte, Bool.false_eq_true]
    refine wpX_skip C T ?_
    have hfs : followS d b = (⟨followL d.letter b, IntKind.i64.wrap (d.missing - 1), 128, 191⟩, []) := by simp only [followS, if_neg hmz]
    exact ⟨.inl rfl, rfl, _, resultsC_none (by rfl) _, by simp [hfs, cleanAll, V], by rw [hfs]; exact hF⟩
end
end Go.Proofs.YtgcaionclkbehaaGreatDoor
