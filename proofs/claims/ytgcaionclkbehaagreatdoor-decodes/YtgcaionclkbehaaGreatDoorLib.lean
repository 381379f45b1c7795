/-
  (*sync.WaitGroup).Done, CALLED (not deferred) by a worker: the library's walk 'doneN' for that case. It knows no program.
-/
import Derived.Conc.WgGenN2
import Derived.Test.YtgcaionclkbehaaGreatDoorChecked
import Derived.Conc.WgGenN3
import Derived.KernelRfl
set_option linter.all false
namespace Go.Proofs.YtgcaionclkbehaaGreatDoor
open Go.Conc Go.ConcN Go.RowKit Go.Conc.Lib Go.ConcR.Gen Go.ConcN.Gen
open Go.ConcR (KK wgBlock WgAt stA smA rd wr mk Payload Aside2 DC0)
variable [Payload] {L : WgLink}

set_option maxRecDepth 100000 in
theorem doneX {P : Program} (H : WgLib P L) {Own Rd : Nat → Loc → Prop} {Wg C n Low k : Nat} {val : Value} {b₀ : Frame} {a₀ : Act} {ops₀ : Array Oper} {i₀ : Nat} {rest₀ : List Nat} {k₀ : List Item} {cs : List Frame} {qt : Nat}
    (hT : QuitsD P qt 0 (G (b₀.at (a₀.put ((ops₀[i₀]?).bind (·.dst)) (.tuple #[])) (.inRegion ops₀ rest₀ :: k₀)) cs)) (w : World) (hK : WgLive L.tWg Wg w ∧ Has C (k - 1) val w) :
    Goes P false (RW L.tWg Wg C n Low (k - 1)) (DWs Wg Own Rd C n k) (AtR0 P L.tWg Wg C n Low k val) 23 (G ((base L.done).at ⟨#[.pointer (some ⟨Wg, 0, none⟩), undef, undef, undef], []⟩ [.code (body_done L)]) (b₀.at a₀ (.inRegion ops₀ (i₀ :: rest₀) :: k₀) :: cs)) w := by
  lib_facts
  have hA := @addNegN _ L P H Own Rd Wg C n Low k val
  simp only [body_done, body_add, doneFn, addFn, Option.getD_some] at hA ⊢
  u_reg kn_rely hK
  u_op kn_rely hK
  u_in kn_rely hK
  refine goes_call rfl rfl (by k_ne) rfl H.f_add (nm_add L) rfl ⟨by u_nil, ?_⟩
  walk_nrmf addFn
  refine hA (qt := qt + 3) ?_ _ hK
  q_c stepG_region_end
  q_c stepG_end
  exact QuitsD.leave0 rfl rfl H.f_done rfl hT
end Go.Proofs.YtgcaionclkbehaaGreatDoor
/-
  The WaitGroup's functions and types in this program.
-/
namespace Go.Proofs.YtgcaionclkbehaaGreatDoor
abbrev link : Go.Conc.Lib.WgLink := { add := 199, done := 202, wait := 115, relMerge := 303, disable := 204, enable := 206, inBubble := 212, associate := 304, fatal := 305, uOr := 306, uAdd := 307, raceRead := 308, uLoad := 205, uStore := 309, disassociate := 210, semrelease := 310, acquire := 207, isAssociated := 208, uCas := 209, raceWrite := 211, semacquire := 213, orU64 := 359, addU64 := 360, loadU64 := 311, storeU64 := 361, casU64 := 312, tWgP := 240, tUP := 244, tAssoc := 290, tWg := 169, tAU := 166, tU64 := 164, tUint := 242, tU32 := 167, tPU32 := 248, tPAU := 295, tPU64 := 297, tNoCopy := 161, tANoCopy := 162, tAlign64 := 163 }
theorem wgLib : Go.Conc.Lib.WgLib Tryz.prog link :=
  ⟨Tryz.func199, Tryz.func202, Tryz.func115, Tryz.func303, Tryz.func204, Tryz.func206, Tryz.func212, Tryz.func304, Tryz.func305, Tryz.func306, Tryz.func307, Tryz.func308, Tryz.func205, Tryz.func309, Tryz.func210, Tryz.func310, Tryz.func207, Tryz.func208, Tryz.func209, Tryz.func211, Tryz.func213, Tryz.func359, Tryz.func360, Tryz.func311, Tryz.func361, Tryz.func312, Tryz.underlying240, Tryz.runUnderlying240, Tryz.sizeOf240, Tryz.isAgg240, Tryz.zeroValue240, Tryz.underlying244, Tryz.runUnderlying244, Tryz.sizeOf244, Tryz.isAgg244, Tryz.zeroValue244, Tryz.underlying290, Tryz.runUnderlying290, Tryz.sizeOf290, Tryz.isAgg290, Tryz.zeroValue290, Tryz.underlying169, Tryz.runUnderlying169, Tryz.sizeOf169, Tryz.isAgg169, Tryz.zeroValue169, Tryz.underlying166, Tryz.runUnderlying166, Tryz.sizeOf166, Tryz.isAgg166, Tryz.zeroValue166, Tryz.underlying164, Tryz.runUnderlying164, Tryz.sizeOf164, Tryz.isAgg164, Tryz.zeroValue164, Tryz.underlying242, Tryz.runUnderlying242, Tryz.sizeOf242, Tryz.isAgg242, Tryz.zeroValue242, Tryz.underlying167, Tryz.runUnderlying167, Tryz.sizeOf167, Tryz.isAgg167, Tryz.zeroValue167, Tryz.underlying248, Tryz.runUnderlying248, Tryz.sizeOf248, Tryz.isAgg248, Tryz.zeroValue248, Tryz.underlying295, Tryz.runUnderlying295, Tryz.sizeOf295, Tryz.isAgg295, Tryz.zeroValue295, Tryz.underlying297, Tryz.runUnderlying297, Tryz.sizeOf297, Tryz.isAgg297, Tryz.zeroValue297, Tryz.underlying0, Tryz.runUnderlying0, Tryz.sizeOf0, Tryz.isAgg0, Tryz.zeroValue0, Tryz.underlying3, Tryz.runUnderlying3, Tryz.sizeOf3, Tryz.isAgg3, Tryz.zeroValue3, Tryz.underlying4, Tryz.runUnderlying4, Tryz.sizeOf4, Tryz.isAgg4, Tryz.zeroValue4, Tryz.underlying9, Tryz.runUnderlying9, Tryz.sizeOf9, Tryz.isAgg9, Tryz.zeroValue9, Tryz.underlying20, Tryz.runUnderlying20, Tryz.sizeOf20, Tryz.isAgg20, Tryz.zeroValue20, Tryz.underlying21, Tryz.runUnderlying21, Tryz.sizeOf21, Tryz.isAgg21, Tryz.zeroValue21, (by kernel_rfl), (by kernel_rfl)⟩
end Go.Proofs.YtgcaionclkbehaaGreatDoor
