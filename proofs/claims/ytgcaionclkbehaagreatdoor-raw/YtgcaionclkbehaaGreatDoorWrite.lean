import Derived.Test.YtgcaionclkbehaaGreatDoorLast2
set_option linter.all false
set_option maxRecDepth 100000
set_option maxHeartbeats 2000000
namespace Go.Proofs.YtgcaionclkbehaaGreatDoor
open Tryz
section
open Go.Conc Go.RowKit
section
variable {ι : Type} {R : ι → World → World → Prop} {D : ι → World → World → Array Event → Prop} {X : ι → Goroutine → World → Prop} {i : ι} {M : World → Nat → Prop} {O : Nat → Prop} {N0 : Nat} {Ex : Nat → Prop} {w₀ w w₁ : World} {Bb : Nat} {p u v : Value} {n : Nat} {xs : List Value}
variable {r : Int}
theorem uponK_ustr {P : Program} {o : Oper} {a : Act} {K : Act → World → Prop} {w w' : World} {q r v' : Value} (ho : o.op = .call { callee := .builtin .unsafeString,args := #[.tmp 7, .tmp 12],argTypes := #[157,3] }) (h7 : a.eval (.tmp 7) = q) (h12 : a.eval (.tmp 12) = r)
  (hr : (Builtin.unsafeString_ #[157,3] o.type #[q,r]).run P w = .ok v' w') (h : K (a.put o.dst v') w') : uponK o a K ((execOp a.eval o).run P w) := by
 unfold execOp
 simp only [ho,resolve,invoke,builtin,Sem.run_bind,Sem.run_pure,Result.andThen_ok,List.map_toArray,List.map_cons,List.map_nil,h7,h12,hr]
 exact h
theorem events_ustr {P : Program} {o : Oper} {a : Act} {w : World} {q r : Value} (ho : o.op = .call { callee := .builtin .unsafeString,args := #[.tmp 7, .tmp 12],argTypes := #[157,3] }) (h7 : a.eval (.tmp 7) = q) (h12 : a.eval (.tmp 12) = r) (es : Array Event) :
  (execOp a.eval o).events P w es = (Builtin.unsafeString_ #[157,3] o.type #[q,r]).events P w es := by
 unfold execOp
 simp only [ho,resolve,invoke,builtin,Sem.events_bind,Sem.run_pure,Sem.events_pure,Result.evThen_ok,List.map_toArray,List.map_cons,List.map_nil,h7,h12]
 cases (Builtin.unsafeString_ #[157,3] o.type #[q,r]).run P w <;> rfl
theorem string_x (l : List UInt8) (C : ClosedI prog true R D X) (T : ∀ i,Terms (R i) (D i)) (E : Env KTs N0 M O (R i) (D i)) (hF : HM M O N0 Ex w₀ Bb p v v l.length (Lib.byteCells l) w) (hn : l.length ≤ 1000000) :
  CallsI prog X 84 #[.pointer (some ⟨Bb,0,none⟩)] i w (fun i' x w' => i' = i ∧ x = .string ⟨l.toArray⟩ ∧ N0 ≤ w'.heap.size ∧ Kept M O Ex w₀ w') := by
 have hdw : LetsDraw (D i) := E.drawD
 have hdr := E.drawR
 obtain ⟨q,cap,hvq,hcase⟩ : ∃ q cap,v = .slice q l.length cap ∧ ((q = none ∧ l = []) ∨ (∃ g,q = some ⟨g,0,none⟩ ∧ l ≠ [] ∧ cap ≠ 0)) := by
  by_cases hl : l = []
  ·
   have := hF.nil (by simp [hl])
   exact ⟨none,0,by rw [this,hl]; rfl, .inl ⟨rfl,hl⟩⟩
  ·
   rcases hF.row.2 with ⟨_,z⟩ | ⟨g,cap,cur,z,_,_,hc,_⟩
   ·
    exact absurd (List.eq_nil_of_length_eq_zero z) hl
   ·
    refine ⟨_,cap,z, .inr ⟨g,rfl,hl,fun e => hl (List.eq_nil_of_length_eq_zero (by omega))⟩⟩
 have hsd : ∀ w,(Builtin.unsafeSliceData_ #[55] 157 #[.slice q l.length cap]).run prog w = .ok (.pointer q) w := by
  intro w
  rcases hcase with ⟨rfl,_⟩ | ⟨g,rfl,_,hc⟩
  ·
   exact Lib.run_unsafeSliceData_nil w _ _ _ _
  ·
   exact Lib.run_unsafeSliceData_row w _ _ _ _ _ hc
 have hse : ∀ w es,(Builtin.unsafeSliceData_ #[55] 157 #[.slice q l.length cap]).events prog w es = es := by
  intro w es
  rcases hcase with ⟨rfl,_⟩ | ⟨g,rfl,_,hc⟩
  ·
   exact events_sliceData_nil w _ _ _ _ _
  ·
   exact events_sliceData_row w _ _ _ _ _ hc _
 subst hvq
 refine zc2 func84 (by rfl) rfl ?_
 simp only [ntmps84,List.size_toArray,List.length_cons,List.length_nil,Nat.reduceAdd,Nat.reduceSub,Array.replicate_succ,Array.replicate_zero,List.push_toArray,List.append_toArray,List.nil_append,List.cons_append]
 refine za5 C T ?_
 refine za2 C T ?_
 simp only [szR,Nat.reduceAdd]
 refine za0 C rfl (by rfl) fun _ hR Kx hKx => ?_
 replace hF := HM.rely E hF hR
 clear hR
 go_simp
 try (unfold stored; go_simp)
 refine hKx _ _ ⟨?_,?_⟩
 ·
  co_quiet (T _)
 clear hKx Kx
 try walk_nrm
 refine za3 C T ?_
 show wpI _ _ _ _ _ _ _
 refine za5 C T ?_
 refine wpI_region_last2 C T (n := 10) (S := HM M O N0 Ex w₀ Bb p (.slice q l.length cap) (.slice q l.length cap) l.length (Lib.byteCells l)) (K := fun a' w' => (a'.eval (.tmp 7) = .pointer q ∧ a'.eval (.tmp 12) = .int .i64 l.length ∧ a'.defers = [] ∧ a'.tmps.size = 14) ∧ HM M O N0 Ex w₀ Bb p (.slice q l.length cap) (.slice q l.length cap) l.length (Lib.byteCells l) w') hdw (by first | kernel_rfl | rfl) rfl (fun l => (!l.getD 1 false || l.getD 0 false) && (!l.getD 2 false || l.getD 1 false) && (!l.getD 3 false || l.getD 2 false) && (!l.getD 4 false || l.getD 3 false) && (!l.getD 6 false || l.getD 5 false) && (!l.getD 7 false || l.getD 6 false) && (!l.getD 8 false || l.getD 7 false) && (!l.getD 9 false || l.getD 8 false)) rfl ?hdn ?hord ?hord2 (fun w₁ hR => ?any) ?last
 case hdn =>
  intro listed hs hl hl1
  obtain ⟨ll⟩ := listed
  match ll,hs,hl,hl1 with
  | [b0,b1,b2,b3,b4,b5,b6,b7,b8,b9,b10,b11],hs,hl,hl1 =>
   clear hs
   simp only [List.getElem?_toArray,List.getElem?_cons_succ,List.getElem?_cons_zero,Option.some.injEq] at hl hl1
   subst hl hl1
   clear hF hcase hsd hse hn hdw hdr E C T
   revert b0 b1 b2 b3 b4 b5 b6 b7 b8 b9
   decide +kernel
 case hord =>
  intro listed hs hl hl1
  obtain ⟨ll⟩ := listed
  match ll,hs,hl,hl1 with
  | [b0,b1,b2,b3,b4,b5,b6,b7,b8,b9,b10,b11],hs,hl,hl1 =>
   clear hs
   simp only [List.getElem?_toArray,List.getElem?_cons_succ,List.getElem?_cons_zero,Option.some.injEq] at hl hl1
   subst hl hl1
   clear hF hcase hsd hse hn hdw hdr E C T
   revert b0 b1 b2 b3 b4 b5 b6 b7 b8 b9
   decide +kernel
 case hord2 =>
  intro listed hs hl hl1
  obtain ⟨ll⟩ := listed
  match ll,hs,hl,hl1 with
  | [b0,b1,b2,b3,b4,b5,b6,b7,b8,b9,b10,b11],hs,hl,hl1 =>
   clear hs
   simp only [List.getElem?_toArray,List.getElem?_cons_succ,List.getElem?_cons_zero,Option.some.injEq] at hl hl1
   subst hl hl1
   clear hF hcase hsd hse hn hdw hdr E C T
   revert b0 b1 b2 b3 b4 b5 b6 b7 b8 b9
   decide +kernel
 case any =>
  replace hF := HM.rely E (HM.rely E hF hR) (hdr _)
  clear hR
  co_applyP anyCH_take (T _) (fun _ _ h r => HM.rely E h r) (fun _ _ _ h r => ⟨h.1,h.2.1,HM.rely E h.2.2 r⟩) (i := 0) rfl (by first | kernel_rfl | decide +kernel) (by first | kernel_rfl | decide +kernel) (by first | kernel_rfl | decide +kernel) (.inl ⟨by rfl,fun _ hw => ⟨run_eq_of ?run0,?guar0⟩⟩) hF ?rest0
  case run0 =>
   intro Kx hKx
   skip
   go_simp
   exact hKx
  case guar0 =>
   skip
   co_quiet (T _)
  try walk_nrm
  co_applyP anyCH_take (T _) (fun _ _ h r => HM.rely E h r) (fun _ _ _ h r => ⟨h.1,h.2.1,HM.rely E h.2.2 r⟩) (i := 1) rfl (by first | kernel_rfl | decide +kernel) (by first | kernel_rfl | decide +kernel) (by first | kernel_rfl | decide +kernel) (.inl ⟨by rfl,fun _ hw => ⟨run_eq_of ?run1,?guar1⟩⟩) hF ?rest1
  case run1 =>
   intro Kx hKx
   skip
   go_simp
   exact hKx
  case guar1 =>
   skip
   co_still (T _)
  try walk_nrm
  co_applyP anyCH_take (T _) (fun _ _ h r => HM.rely E h r) (fun _ _ _ h r => ⟨h.1,h.2.1,HM.rely E h.2.2 r⟩) (i := 2) rfl (by first | kernel_rfl | decide +kernel) (by first | kernel_rfl | decide +kernel) (by first | kernel_rfl | decide +kernel) (.inl ⟨by rfl,fun _ hw => ⟨run_eq_of ?run2,?guar2⟩⟩) hF ?rest2
  case run2 =>
   intro Kx hKx
   skip
   go_simp
   exact hKx
  case guar2 =>
   skip
   co_still (T _)
  try walk_nrm
  co_applyP anyCH_take (T _) (fun _ _ h r => HM.rely E h r) (fun _ _ _ h r => ⟨h.1,h.2.1,HM.rely E h.2.2 r⟩) (i := 3) rfl (by first | kernel_rfl | decide +kernel) (by first | kernel_rfl | decide +kernel) (by first | kernel_rfl | decide +kernel) (.inl ⟨by rfl,fun _ hw => ⟨run_eq_of ?run3,?guar3⟩⟩) hF ?rest3
  case run3 =>
   intro Kx hKx
   have hc := hw.cells
   go_simp
   exact hKx
  case guar3 =>
   have hc := hw.cells
   refine zd2 E hw.size fun e he => ?_
   have hm := mem_listed he; simp [go_sem, *] at hm; subst hm; exact ze2 rfl hw.mb
  try walk_nrm
  co_applyP anyCH_take (T _) (fun _ _ h r => HM.rely E h r) (fun _ _ _ h r => ⟨h.1,h.2.1,HM.rely E h.2.2 r⟩) (i := 4) rfl (by first | kernel_rfl | decide +kernel) (by first | kernel_rfl | decide +kernel) (by first | kernel_rfl | decide +kernel) (.inl ⟨by rfl,fun _ hw => ⟨run_eq_of ?run4,?guar4⟩⟩) hF ?rest4
  case run4 =>
   intro Kx hKx
   skip
   go_simp
   exact hKx
  case guar4 =>
   skip
   co_still (T _)
  try walk_nrm
  co_applyP anyCH_take (T _) (fun _ _ h r => HM.rely E h r) (fun _ _ _ h r => ⟨h.1,h.2.1,HM.rely E h.2.2 r⟩) (i := 5) rfl (by first | kernel_rfl | decide +kernel) (by first | kernel_rfl | decide +kernel) (by first | kernel_rfl | decide +kernel) (.inl ⟨by rfl,fun _ hw => ⟨run_eq_of ?run5,?guar5⟩⟩) hF ?rest5
  case run5 =>
   intro Kx hKx
   skip
   go_simp
   exact hKx
  case guar5 =>
   skip
   co_quiet (T _)
  try walk_nrm
  co_applyP anyCH_take (T _) (fun _ _ h r => HM.rely E h r) (fun _ _ _ h r => ⟨h.1,h.2.1,HM.rely E h.2.2 r⟩) (i := 6) rfl (by first | kernel_rfl | decide +kernel) (by first | kernel_rfl | decide +kernel) (by first | kernel_rfl | decide +kernel) (.inl ⟨by rfl,fun _ hw => ⟨run_eq_of ?run6,?guar6⟩⟩) hF ?rest6
  case run6 =>
   intro Kx hKx
   skip
   go_simp
   exact hKx
  case guar6 =>
   skip
   co_still (T _)
  try walk_nrm
  co_applyP anyCH_take (T _) (fun _ _ h r => HM.rely E h r) (fun _ _ _ h r => ⟨h.1,h.2.1,HM.rely E h.2.2 r⟩) (i := 7) rfl (by first | kernel_rfl | decide +kernel) (by first | kernel_rfl | decide +kernel) (by first | kernel_rfl | decide +kernel) (.inl ⟨by rfl,fun _ hw => ⟨run_eq_of ?run7,?guar7⟩⟩) hF ?rest7
  case run7 =>
   intro Kx hKx
   skip
   go_simp
   exact hKx
  case guar7 =>
   skip
   co_still (T _)
  try walk_nrm
  co_applyP anyCH_take (T _) (fun _ _ h r => HM.rely E h r) (fun _ _ _ h r => ⟨h.1,h.2.1,HM.rely E h.2.2 r⟩) (i := 8) rfl (by first | kernel_rfl | decide +kernel) (by first | kernel_rfl | decide +kernel) (by first | kernel_rfl | decide +kernel) (.inl ⟨by rfl,fun _ hw => ⟨run_eq_of ?run8,?guar8⟩⟩) hF ?rest8
  case run8 =>
   intro Kx hKx
   have hc := hw.cells
   go_simp
   exact hKx
  case guar8 =>
   have hc := hw.cells
   refine zd2 E hw.size fun e he => ?_
   have hm := mem_listed he; simp [go_sem, *] at hm; subst hm; exact ze2 rfl hw.mb
  try walk_nrm
  co_applyP anyCH_take (T _) (fun _ _ h r => HM.rely E h r) (fun _ _ _ h r => ⟨h.1,h.2.1,HM.rely E h.2.2 r⟩) (i := 9) rfl (by first | kernel_rfl | decide +kernel) (by first | kernel_rfl | decide +kernel) (by first | kernel_rfl | decide +kernel) (.inl ⟨by rfl,fun _ hw => ⟨run_eq_of ?run9,?guar9⟩⟩) hF ?rest9
  case run9 =>
   intro Kx hKx
   skip
   go_simp
   exact hKx
  case guar9 =>
   skip
   co_still (T _)
  try walk_nrm
  exact anyCH_done (by first | kernel_rfl | decide +kernel) ⟨rfl,⟨rfl,rfl,rfl,rfl⟩,hF⟩ _
 case last =>
  rintro a' w' ⟨⟨h7,h12,hd,hsz⟩,hF⟩
  refine za0 C rfl (by rfl) fun w₁ hR Kx hKx => ?_
  replace hF := HM.rely E hF hR
  clear hR
  obtain ⟨w₂,hrun,hO,h2,hev⟩ : ∃ w₂,(Builtin.unsafeString_ #[157,3] 9 #[.pointer q, .int .i64 l.length]).run prog w₁ = .ok (.string ⟨l.toArray⟩) w₂ ∧ Own KTs M w₁ w₂ ∧ Kept M O Ex w₀ w₂ ∧ ∀ ev ∈ (Builtin.unsafeString_ #[157,3] 9 #[.pointer q, .int .i64 l.length]).events prog w₁ #[],EvO (M w₁) ev ∧ ∀ m,ev.loc ≠ .mark m := by
   rcases hcase with ⟨rfl,rfl⟩ | ⟨g,rfl,hl,hc⟩
   ·
    refine ⟨w₁,Lib.run_unsafeString_none w₁ _ _ _ _,Own.refl _,hF.old,fun ev h => ?_⟩
    rw [show ((([] : List UInt8).length : Nat) : Int) = 0 from rfl,zm4 w₁] at h
    simp at h
   ·
    have hrow := hF.row
    have hog := hF.ro.own g rfl
    obtain ⟨hlen,z | ⟨g',cap',cur,hv,hb,hg,hnc,hcm,hcs,htk⟩⟩ := hrow
    ·
     cases z.1
    cases hv
    have hsh : w₁.shape? g = some (5,cur.size) := by simp [World.shape?,hg]
    have hcell : ∀ j x,l[j]? = some x → w₁.cell? ((⟨g,0,none⟩ : Addr).add j) = some (.int .u8 x.toNat) := fun j x hj => hF.row.cells (g := g) rfl j _ (by simp [Lib.byteCells,hj])
    have hO : Own KTs M w₁ (w₁.freeze ⟨g,0,none⟩ l.length) := Own.freeze hg hog.1 (by simp [KTs]) _
    refine ⟨_,Lib.run_unsafeString_row w₁ 157 3 9 5 underlying157 (by kernel_rfl) g cur.size hsh l hl (by omega) (by omega) hcell,hO,hF.old.own E hO fun b hbm hx => freeze_ne _ ?_,fun ev h => ?_⟩
    ·
     rintro rfl
     rcases hog.2 with z | z
     ·
      exact hx z
     ·
      have := E.lt hbm; omega
    obtain ⟨ad,h1,h2⟩ := zh6 w₁ 157 3 9 5 underlying157 (by kernel_rfl) g cur.size hsh l hl (by omega) (by omega) hcell ev h
    exact ⟨ze2 h1 (by rw [h2]; exact hog.1),fun f => by rw [h1]; simp⟩
  have hz := Nat.le_trans hF.size hO.grow
  refine uponK_ustr rfl h7 h12 hrun (hKx _ _ ⟨?_,?_⟩)
  ·
   have hsn := seen_eq (P := prog) (fn := 84) (by kernel_rfl) (fun ev h f => (hev ev h).2 _)
   unfold listed
   rw [events_ustr rfl h7 h12]
   exact (congrArg (D _ _ _) hsn).mpr (dm_own E hF.size hO fun ev h => (hev ev h).1)
  obtain ⟨tm,ds⟩ := a'
  obtain rfl : ds = [] := hd
  refine za0 C rfl (by rfl) fun w₃ hR Kx hKx => ?_
  replace h2 := h2.rely E hR
  replace hz := Nat.le_trans hz (E.size hR)
  go_simp
  refine hKx _ _ ⟨?_,?_⟩
  ·
   co_quiet (T _)
  refine za3 C T ?_
  show wpI _ _ _ _ _ _ _
  refine zc3 C T ?_
  refine ⟨.inr rfl,rfl,_,resultsC_tmp (t := 2) (by rfl) _,rfl,?_,hz,h2⟩
  have hs14 : tm.size = 14 := hsz
  simp [Act.put,Array.getD_eq_getD_getElem?,hs14]
end
end
section
open Go.RowKit
theorem and63 (x : Int) (h0 : 0 ≤ x) (h1 : x < 256) : bits .and .u8 x 63 = x % 64 := by
 have h : ∀ n : _root_.Fin 256,bits .and .u8 (n.val : Int) 63 = (n.val : Int) % 64 := by decide +kernel
 have := h ⟨x.toNat,by omega⟩
 simpa [Int.toNat_of_nonneg h0] using this
theorem or192 (x : Int) (h0 : 0 ≤ x) (h1 : x < 32) : bits .or .u8 192 x = 192 + x := by
 have h : ∀ n : _root_.Fin 32,bits .or .u8 192 (n.val : Int) = 192 + (n.val : Int) := by decide +kernel
 have := h ⟨x.toNat,by omega⟩
 simpa [Int.toNat_of_nonneg h0] using this
theorem or128 (x : Int) (h0 : 0 ≤ x) (h1 : x < 64) : bits .or .u8 128 x = 128 + x := by
 have h : ∀ n : _root_.Fin 64,bits .or .u8 128 (n.val : Int) = 128 + (n.val : Int) := by decide +kernel
 have := h ⟨x.toNat,by omega⟩
 simpa [Int.toNat_of_nonneg h0] using this
theorem or224 (x : Int) (h0 : 0 ≤ x) (h1 : x < 16) : bits .or .u8 224 x = 224 + x := by
 have h : ∀ n : _root_.Fin 16,bits .or .u8 224 (n.val : Int) = 224 + (n.val : Int) := by decide +kernel
 have := h ⟨x.toNat,by omega⟩
 simpa [Int.toNat_of_nonneg h0] using this
theorem or240 (x : Int) (h0 : 0 ≤ x) (h1 : x < 8) : bits .or .u8 240 x = 240 + x := by
 have h : ∀ n : _root_.Fin 8,bits .or .u8 240 (n.val : Int) = 240 + (n.val : Int) := by decide +kernel
 have := h ⟨x.toNat,by omega⟩
 simpa [Int.toNat_of_nonneg h0] using this
theorem tail8 (x : Int) : bits .or .u8 128 (bits .and .u8 (IntKind.u8.wrap x) 63) = 128 + x % 64 := by
 have hw : IntKind.u8.wrap x = x % 256 := by rw [IntKind.wrap_u8]
 rw [hw,and63 _ (by omega) (by omega),or128 _ (by omega) (by omega)]
 omega
end
set_option maxRecDepth 100000
set_option maxHeartbeats 2000000
section
open Go.Conc Go.RowKit
def Good (r : Int) : Prop := (0 ≤ r ∧ r < 55296) ∨ (57343 < r ∧ r ≤ 1114111)
section
variable {ι : Type} {R : ι → World → World → Prop} {D : ι → World → World → Array Event → Prop} {X : ι → Goroutine → World → Prop} {i : ι} {M : World → Nat → Prop} {O : Nat → Prop} {N0 : Nat} {Ex : Nat → Prop} {w₀ w w₁ : World} {Bb : Nat} {p u v : Value} {n : Nat} {xs : List Value}
variable {r : Int}
theorem nonAscii_x (C : ClosedI prog true R D X) (T : ∀ i,Terms (R i) (D i)) (E : Env KTs N0 M O (R i) (D i)) (hF : HM M O N0 Ex w₀ Bb p u v n xs w) (hg : Good r) (hr : 128 ≤ r) (hn : n ≤ 1000000) :
  CallsI prog X 346 #[v, .int .i32 r] i w (fun i' x w' => i' = i ∧ HM M O N0 Ex w₀ Bb p u x (n + (Lib.runeCells r).length) (xs ++ Lib.runeCells r) w') := by
 have evp : ∀ (w : World) (es : Array Event) (a : Addr) (m : Mode) (x : Option Addr),(store a (.pointer x) m).events prog w es = storedEv prog w es a (.pointer x) m := fun w es a m x => events_store prog w es a _ m rfl
 have evl : ∀ (w : World) (es : Array Event) (a : Addr) (m : Mode) (x : Option Addr) (l c : Nat),(store a (.slice x l c) m).events prog w es = storedEv prog w es a (.slice x l c) m := fun w es a m x l c => events_store prog w es a _ m rfl
 have hg' : r ≤ 1114111 := by rcases hg with h | h <;> omega
 have hu : IntKind.u32.wrap r = r := by rw [IntKind.wrap_u32]; omega
 refine zc2 func346 (by rfl) rfl ?_
 simp only [ntmps346,List.size_toArray,List.length_cons,List.length_nil,Nat.reduceAdd,Nat.reduceSub,Array.replicate_succ,Array.replicate_zero,List.push_toArray,List.append_toArray,List.nil_append,List.cons_append]
 refine za5 C T ?_
 refine za2 C T ?_
 simp only [szR,Nat.reduceAdd]
 refine za0 C rfl (by rfl) fun _ hR Kx hKx => ?_
 replace hF := HM.rely E hF hR
 clear hR
 go_simp
 try (unfold stored; go_simp)
 refine hKx _ _ ⟨?_,?_⟩
 ·
  co_quiet (T i)
 clear hKx Kx
 try walk_nrm
 refine za3 C T ?_
 show wpI _ _ _ _ _ _ _
 refine za5 C T ?_
 refine za2 C T ?_
 simp only [szR,Nat.reduceAdd]
 iterate 3
  refine za0 C rfl (by rfl) fun _ hR Kx hKx => ?_
  replace hF := HM.rely E hF hR
  clear hR
  go_simp
  try (unfold stored; go_simp)
  refine hKx _ _ ⟨?_,?_⟩
  ·
   co_quiet (T i)
  clear hKx Kx
  try walk_nrm
 refine za3 C T ?_
 show wpI _ _ _ _ _ _ _
 refine ze3 C T ?_
 refine za5 C T ?_
 refine za2 C T ?_
 simp only [szR,Nat.reduceAdd]
 iterate 3
  refine za0 C rfl (by rfl) fun _ hR Kx hKx => ?_
  replace hF := HM.rely E hF hR
  clear hR
  go_simp
  try (unfold stored; go_simp)
  refine hKx _ _ ⟨?_,?_⟩
  ·
   co_quiet (T i)
  clear hKx Kx
  try walk_nrm
 refine za3 C T ?_
 show wpI _ _ _ _ _ _ _
 by_cases h2 : r ≤ 2047
 ·
  have hb2 : decide (r ≤ 2047) = true := decide_eq_true h2
  try simp only [hb2]
  refine zc0 C T (t := true) rfl ?_
  simp only [if_true,if_false,reduceIte,Bool.false_eq_true]
  refine za5 C T ?_
  refine za2 C T ?_
  simp only [szR,Nat.reduceAdd]
  iterate 9
   refine za0 C rfl (by rfl) fun _ hR Kx hKx => ?_
   replace hF := HM.rely E hF hR
   clear hR
   go_simp
   try (unfold stored; go_simp)
   refine hKx _ _ ⟨?_,?_⟩
   ·
    co_quiet (T i)
   clear hKx Kx
   try walk_nrm
  have e1 : bits BinOp.or IntKind.u8 192 (IntKind.u8.wrap (r / 64)) = 192 + r / 64 := by rw [show IntKind.u8.wrap (r / 64) = r / 64 by rw [IntKind.wrap_u8]; omega]; exact or192 _ (by omega) (by omega)
  simp only [e1,tail8 r]
  have hrc : Lib.runeCells r = [.int .u8 (192 + r / 64), .int .u8 (128 + r % 64)] := by simp [Lib.runeCells,Lib.encodeRuneZ_two hr h2]
  refine za0 C rfl (by rfl) fun _ hR Kx hKx => ?_
  replace hF := HM.rely E hF hR
  clear hR
  go_simp
  refine hKx _ _ ⟨?_,?_⟩
  ·
   refine dm_alloc E (by simp [KTs]) hF.size ?_
   co_evs (skip)
  clear hKx Kx
  try walk_nrm
  replace hF := hF.built E [.int .u8 (192 + r / 64), .int .u8 (128 + r % 64)]
  refine za0 C rfl (by rfl) fun _ hR Kx hKx => ?_
  replace hF := HA.rely E hF hR
  clear hR
  obtain ⟨v₂,w₂,hrun,hF₂,hD,hne⟩ := append_m E hF (by simp [Value.oneCell']) (by simp; omega) 55
  refine uponK_append (Operand.tmp 14) (Operand.tmp 23) 55 rfl rfl rfl hrun (hKx _ _ ⟨?_,?_⟩)
  ·
   have hsn := seen_eq (P := prog) (fn := 346) (by kernel_rfl) (fun e he f h => by cases hne e he _ h)
   unfold listed
   rw [events_append_op (Operand.tmp 14) (Operand.tmp 23) 55 rfl rfl rfl]
   exact (congrArg (D i _ _) hsn).mpr hD
  clear hKx Kx hrun hD hne
  replace hF := hF₂
  try walk_nrm
  refine za0 C rfl (by rfl) fun _ hR Kx hKx => ?_
  replace hF := HM.rely E hF hR
  clear hR
  go_simp
  try (unfold stored; go_simp)
  refine hKx _ _ ⟨?_,?_⟩
  ·
   co_quiet (T i)
  clear hKx Kx
  try walk_nrm
  refine za3 C T ?_
  show wpI _ _ _ _ _ _ _
  refine zc3 C T ?_
  exact ⟨.inr rfl,rfl,_,resultsC_tmp (by rfl) _,rfl,by rw [hrc]; exact hF⟩
 ·
  have hb2 : decide (r ≤ 2047) = false := decide_eq_false h2
  try simp only [hb2]
  refine zc0 C T (t := false) rfl ?_
  simp only [if_true,if_false,reduceIte,Bool.false_eq_true]
  iterate 2
   refine za5 C T ?_
  refine za2 C T ?_
  simp only [szR,Nat.reduceAdd]
  iterate 3
   refine za0 C rfl (by rfl) fun _ hR Kx hKx => ?_
   replace hF := HM.rely E hF hR
   clear hR
   go_simp
   try (unfold stored; go_simp)
   refine hKx _ _ ⟨?_,?_⟩
   ·
    co_quiet (T i)
   clear hKx Kx
   try walk_nrm
  refine za3 C T ?_
  show wpI _ _ _ _ _ _ _
  by_cases h3 : r < 55296
  ·
   have hb3 : decide (r < 55296) = true := decide_eq_true h3
   try simp only [hb3]
   refine zc0 C T (t := true) rfl ?_
   simp only [if_true,if_false,reduceIte,Bool.false_eq_true]
   refine ze0 C T ?_
   show wpI _ _ _ _ _ _ _
   refine zc0 C T (t := true) rfl ?_
   simp only [if_true,if_false,reduceIte,Bool.false_eq_true]
   refine za5 C T ?_
   refine za2 C T ?_
   simp only [szR,Nat.reduceAdd]
   iterate 14
    refine za0 C rfl (by rfl) fun _ hR Kx hKx => ?_
    replace hF := HM.rely E hF hR
    clear hR
    go_simp
    try (unfold stored; go_simp)
    refine hKx _ _ ⟨?_,?_⟩
    ·
     co_quiet (T i)
    clear hKx Kx
    try walk_nrm
   have e1 : bits BinOp.or IntKind.u8 224 (IntKind.u8.wrap (r / 4096)) = 224 + r / 4096 := by rw [show IntKind.u8.wrap (r / 4096) = r / 4096 by rw [IntKind.wrap_u8]; omega]; exact or224 _ (by omega) (by omega)
   simp only [e1,tail8 r,tail8 (r / 64)]
   have hrc : Lib.runeCells r = [.int .u8 (224 + r / 4096), .int .u8 (128 + r / 64 % 64), .int .u8 (128 + r % 64)] := by simp [Lib.runeCells,Lib.encodeRuneZ_three (.inl ⟨by omega,h3⟩)]
   refine za0 C rfl (by rfl) fun _ hR Kx hKx => ?_
   replace hF := HM.rely E hF hR
   clear hR
   go_simp
   refine hKx _ _ ⟨?_,?_⟩
   ·
    refine dm_alloc E (by simp [KTs]) hF.size ?_
    co_evs (skip)
   clear hKx Kx
   try walk_nrm
   replace hF := hF.built E [.int .u8 (224 + r / 4096), .int .u8 (128 + r / 64 % 64), .int .u8 (128 + r % 64)]
   refine za0 C rfl (by rfl) fun _ hR Kx hKx => ?_
   replace hF := HA.rely E hF hR
   clear hR
   obtain ⟨v₂,w₂,hrun,hF₂,hD,hne⟩ := append_m E hF (by simp [Value.oneCell']) (by simp; omega) 55
   refine uponK_append (Operand.tmp 34) (Operand.tmp 48) 55 rfl rfl rfl hrun (hKx _ _ ⟨?_,?_⟩)
   ·
    have hsn := seen_eq (P := prog) (fn := 346) (by kernel_rfl) (fun e he f h => by cases hne e he _ h)
    unfold listed
    rw [events_append_op (Operand.tmp 34) (Operand.tmp 48) 55 rfl rfl rfl]
    exact (congrArg (D i _ _) hsn).mpr hD
   clear hKx Kx hrun hD hne
   replace hF := hF₂
   try walk_nrm
   refine za0 C rfl (by rfl) fun _ hR Kx hKx => ?_
   replace hF := HM.rely E hF hR
   clear hR
   go_simp
   try (unfold stored; go_simp)
   refine hKx _ _ ⟨?_,?_⟩
   ·
    co_quiet (T i)
   clear hKx Kx
   try walk_nrm
   refine za3 C T ?_
   show wpI _ _ _ _ _ _ _
   refine zc3 C T ?_
   exact ⟨.inr rfl,rfl,_,resultsC_tmp (by rfl) _,rfl,by rw [hrc]; exact hF⟩
  ·
   have hb3 : decide (r < 55296) = false := decide_eq_false h3
   have hb4 : decide (57343 < r) = true := decide_eq_true (by rcases hg with h | h <;> omega)
   try simp only [hb3]
   refine zc0 C T (t := false) rfl ?_
   simp only [if_true,if_false,reduceIte,Bool.false_eq_true]
   refine za2 C T ?_
   simp only [szR,Nat.reduceAdd]
   iterate 2
    refine za0 C rfl (by rfl) fun _ hR Kx hKx => ?_
    replace hF := HM.rely E hF hR
    clear hR
    go_simp
    try (unfold stored; go_simp)
    refine hKx _ _ ⟨?_,?_⟩
    ·
     co_quiet (T i)
    clear hKx Kx
    try walk_nrm
   try simp only [hb4]
   iterate 3
    refine za0 C rfl (by rfl) fun _ hR Kx hKx => ?_
    replace hF := HM.rely E hF hR
    clear hR
    go_simp
    try (unfold stored; go_simp)
    refine hKx _ _ ⟨?_,?_⟩
    ·
     co_quiet (T i)
    clear hKx Kx
    try walk_nrm
   by_cases h5 : r ≤ 65535
   ·
    have hb5 : decide (r ≤ 65535) = true := decide_eq_true h5
    try simp only [hb5]
    iterate 2
     refine za0 C rfl (by rfl) fun _ hR Kx hKx => ?_
     replace hF := HM.rely E hF hR
     clear hR
     go_simp
     try (unfold stored; go_simp)
     refine hKx _ _ ⟨?_,?_⟩
     ·
      co_quiet (T i)
     clear hKx Kx
     try walk_nrm
    refine za3 C T ?_
    show wpI _ _ _ _ _ _ _
    refine zc0 C T (t := true) rfl ?_
    simp only [if_true,if_false,reduceIte,Bool.false_eq_true]
    refine za5 C T ?_
    refine za2 C T ?_
    simp only [szR,Nat.reduceAdd]
    iterate 14
     refine za0 C rfl (by rfl) fun _ hR Kx hKx => ?_
     replace hF := HM.rely E hF hR
     clear hR
     go_simp
     try (unfold stored; go_simp)
     refine hKx _ _ ⟨?_,?_⟩
     ·
      co_quiet (T i)
     clear hKx Kx
     try walk_nrm
    have e1 : bits BinOp.or IntKind.u8 224 (IntKind.u8.wrap (r / 4096)) = 224 + r / 4096 := by rw [show IntKind.u8.wrap (r / 4096) = r / 4096 by rw [IntKind.wrap_u8]; omega]; exact or224 _ (by omega) (by omega)
    simp only [e1,tail8 r,tail8 (r / 64)]
    have hrc : Lib.runeCells r = [.int .u8 (224 + r / 4096), .int .u8 (128 + r / 64 % 64), .int .u8 (128 + r % 64)] := by simp [Lib.runeCells,Lib.encodeRuneZ_three (.inr ⟨by rcases hg with h | h <;> omega,h5⟩)]
    refine za0 C rfl (by rfl) fun _ hR Kx hKx => ?_
    replace hF := HM.rely E hF hR
    clear hR
    go_simp
    refine hKx _ _ ⟨?_,?_⟩
    ·
     refine dm_alloc E (by simp [KTs]) hF.size ?_
     co_evs (skip)
    clear hKx Kx
    try walk_nrm
    replace hF := hF.built E [.int .u8 (224 + r / 4096), .int .u8 (128 + r / 64 % 64), .int .u8 (128 + r % 64)]
    refine za0 C rfl (by rfl) fun _ hR Kx hKx => ?_
    replace hF := HA.rely E hF hR
    clear hR
    obtain ⟨v₂,w₂,hrun,hF₂,hD,hne⟩ := append_m E hF (by simp [Value.oneCell']) (by simp; omega) 55
    refine uponK_append (Operand.tmp 34) (Operand.tmp 48) 55 rfl rfl rfl hrun (hKx _ _ ⟨?_,?_⟩)
    ·
     have hsn := seen_eq (P := prog) (fn := 346) (by kernel_rfl) (fun e he f h => by cases hne e he _ h)
     unfold listed
     rw [events_append_op (Operand.tmp 34) (Operand.tmp 48) 55 rfl rfl rfl]
     exact (congrArg (D i _ _) hsn).mpr hD
    clear hKx Kx hrun hD hne
    replace hF := hF₂
    try walk_nrm
    refine za0 C rfl (by rfl) fun _ hR Kx hKx => ?_
    replace hF := HM.rely E hF hR
    clear hR
    go_simp
    try (unfold stored; go_simp)
    refine hKx _ _ ⟨?_,?_⟩
    ·
     co_quiet (T i)
    clear hKx Kx
    try walk_nrm
    refine za3 C T ?_
    show wpI _ _ _ _ _ _ _
    refine zc3 C T ?_
    exact ⟨.inr rfl,rfl,_,resultsC_tmp (by rfl) _,rfl,by rw [hrc]; exact hF⟩
   ·
    have hb5 : decide (r ≤ 65535) = false := decide_eq_false h5
    have hb6 : decide (65535 < r) = true := decide_eq_true (by omega)
    have hb7 : decide (r ≤ 1114111) = true := decide_eq_true hg'
    try simp only [hb5]
    iterate 2
     refine za0 C rfl (by rfl) fun _ hR Kx hKx => ?_
     replace hF := HM.rely E hF hR
     clear hR
     go_simp
     try (unfold stored; go_simp)
     refine hKx _ _ ⟨?_,?_⟩
     ·
      co_quiet (T i)
     clear hKx Kx
     try walk_nrm
    refine za3 C T ?_
    show wpI _ _ _ _ _ _ _
    refine zc0 C T (t := false) rfl ?_
    simp only [if_true,if_false,reduceIte,Bool.false_eq_true]
    refine za5 C T ?_
    refine za2 C T ?_
    simp only [szR,Nat.reduceAdd]
    iterate 2
     refine za0 C rfl (by rfl) fun _ hR Kx hKx => ?_
     replace hF := HM.rely E hF hR
     clear hR
     go_simp
     try (unfold stored; go_simp)
     refine hKx _ _ ⟨?_,?_⟩
     ·
      co_quiet (T i)
     clear hKx Kx
     try walk_nrm
    try simp only [hb6]
    iterate 3
     refine za0 C rfl (by rfl) fun _ hR Kx hKx => ?_
     replace hF := HM.rely E hF hR
     clear hR
     go_simp
     try (unfold stored; go_simp)
     refine hKx _ _ ⟨?_,?_⟩
     ·
      co_quiet (T i)
     clear hKx Kx
     try walk_nrm
    try simp only [hb7]
    iterate 2
     refine za0 C rfl (by rfl) fun _ hR Kx hKx => ?_
     replace hF := HM.rely E hF hR
     clear hR
     go_simp
     try (unfold stored; go_simp)
     refine hKx _ _ ⟨?_,?_⟩
     ·
      co_quiet (T i)
     clear hKx Kx
     try walk_nrm
    refine za3 C T ?_
    show wpI _ _ _ _ _ _ _
    refine zc0 C T (t := true) rfl ?_
    simp only [if_true,if_false,reduceIte,Bool.false_eq_true]
    refine za5 C T ?_
    refine za2 C T ?_
    simp only [szR,Nat.reduceAdd]
    iterate 19
     refine za0 C rfl (by rfl) fun _ hR Kx hKx => ?_
     replace hF := HM.rely E hF hR
     clear hR
     go_simp
     try (unfold stored; go_simp)
     refine hKx _ _ ⟨?_,?_⟩
     ·
      co_quiet (T i)
     clear hKx Kx
     try walk_nrm
    have e1 : bits BinOp.or IntKind.u8 240 (IntKind.u8.wrap (r / 262144)) = 240 + r / 262144 := by rw [show IntKind.u8.wrap (r / 262144) = r / 262144 by rw [IntKind.wrap_u8]; omega]; exact or240 _ (by omega) (by omega)
    simp only [e1,tail8 r,tail8 (r / 64),tail8 (r / 4096)]
    have hrc : Lib.runeCells r = [.int .u8 (240 + r / 262144), .int .u8 (128 + r / 4096 % 64), .int .u8 (128 + r / 64 % 64), .int .u8 (128 + r % 64)] := by simp [Lib.runeCells,Lib.encodeRuneZ_four (show 65536 ≤ r by omega) hg']
    refine za0 C rfl (by rfl) fun _ hR Kx hKx => ?_
    replace hF := HM.rely E hF hR
    clear hR
    go_simp
    refine hKx _ _ ⟨?_,?_⟩
    ·
     refine dm_alloc E (by simp [KTs]) hF.size ?_
     co_evs (skip)
    clear hKx Kx
    try walk_nrm
    replace hF := hF.built E [.int .u8 (240 + r / 262144), .int .u8 (128 + r / 4096 % 64), .int .u8 (128 + r / 64 % 64), .int .u8 (128 + r % 64)]
    refine za0 C rfl (by rfl) fun _ hR Kx hKx => ?_
    replace hF := HA.rely E hF hR
    clear hR
    obtain ⟨v₂,w₂,hrun,hF₂,hD,hne⟩ := append_m E hF (by simp [Value.oneCell']) (by simp; omega) 55
    refine uponK_append (Operand.tmp 57) (Operand.tmp 76) 55 rfl rfl rfl hrun (hKx _ _ ⟨?_,?_⟩)
    ·
     have hsn := seen_eq (P := prog) (fn := 346) (by kernel_rfl) (fun e he f h => by cases hne e he _ h)
     unfold listed
     rw [events_append_op (Operand.tmp 57) (Operand.tmp 76) 55 rfl rfl rfl]
     exact (congrArg (D i _ _) hsn).mpr hD
    clear hKx Kx hrun hD hne
    replace hF := hF₂
    try walk_nrm
    refine za0 C rfl (by rfl) fun _ hR Kx hKx => ?_
    replace hF := HM.rely E hF hR
    clear hR
    go_simp
    try (unfold stored; go_simp)
    refine hKx _ _ ⟨?_,?_⟩
    ·
     co_quiet (T i)
    clear hKx Kx
    try walk_nrm
    refine za3 C T ?_
    show wpI _ _ _ _ _ _ _
    refine zc3 C T ?_
    exact ⟨.inr rfl,rfl,_,resultsC_tmp (by rfl) _,rfl,by rw [hrc]; exact hF⟩
end
end
end Go.Proofs.YtgcaionclkbehaaGreatDoor
