/-
  (*sync.WaitGroup).Done, CALLED (not deferred) by a worker: the library's walk 'doneN' for that case. It knows no program.
-/
import Derived.Conc.WgGenN2
import Derived.Test.YtjhbohlockgfnaaGreatDoorChecked
import Derived.Conc.WgGenN3
import Derived.KernelRfl
set_option linter.all false
namespace Go.Proofs.YtjhbohlockgfnaaGreatDoor
open Go.Conc Go.ConcN Go.RowKit Go.Conc.Lib Go.ConcR.Gen Go.ConcN.Gen
open Go.ConcR (KK wgBlock WgAt stA smA rd wr mk Payload Aside2 DC0)
variable [Payload] {L : WgLink}

set_option maxRecDepth 100000 in
theorem doneX {P : Program} (H : WgLib P L) {Own Rd : Nat → Loc → Prop} {Wg C n Low k : Nat} {val : Value} {b₀ : Frame} {a₀ : Act} {ops₀ : Array Oper} {i₀ : Nat} {rest₀ : List Nat} {k₀ : List Item} {cs : List Frame} {qt : Nat}
    (hT : QuitsD P qt 0 (G (b₀.at (a₀.put ((ops₀[i₀]?).bind (·.dst)) (.tuple #[])) (.inRegion ops₀ rest₀ :: k₀)) cs)) (w : World) (hK : WgLive L.tWg Wg w ∧ Has C (k - 1) val w) :
    Goes P false (RW L.tWg Wg C n Low (k - 1)) (DWs Wg Own Rd C n k) (AtR0 P L.tWg Wg C n Low k val) 23 (G ((base L.done).at ⟨#[.pointer (some ⟨Wg, 0, none⟩), undef, undef, undef], []⟩ [.code (body_done L)]) (b₀.at a₀ (.inRegion ops₀ (i₀ :: rest₀) :: k₀) :: cs)) w := by
  lib_facts
  have hA := @addNegN _ L P H Own Rd Wg C n Low k val
  simp only [body_done, body_add, doneFn, addFn, Option.getD_some] at hA ⊢
  u_reg kn_rely hK
  u_op kn_rely hK
  u_in kn_rely hK
  refine goes_call rfl rfl (by k_ne) rfl H.f_add (nm_add L) rfl ⟨by u_nil, ?_⟩
  walk_nrmf addFn
  refine hA (qt := qt + 3) ?_ _ hK
  q_c stepG_region_end
  q_c stepG_end
  exact QuitsD.leave0 rfl rfl H.f_done rfl hT
end Go.Proofs.YtjhbohlockgfnaaGreatDoor
/-
  The WaitGroup's functions and types in this program.
-/
namespace Go.Proofs.YtjhbohlockgfnaaGreatDoor
abbrev link : Go.Conc.Lib.WgLink := { add := 109, done := 112, wait := 77, relMerge := 149, disable := 113, enable := 115, inBubble := 121, associate := 150, fatal := 151, uOr := 152, uAdd := 153, raceRead := 154, uLoad := 114, uStore := 155, disassociate := 119, semrelease := 156, acquire := 116, isAssociated := 117, uCas := 118, raceWrite := 120, semacquire := 122, orU64 := 179, addU64 := 180, loadU64 := 157, storeU64 := 181, casU64 := 158, tWgP := 171, tUP := 176, tAssoc := 195, tWg := 141, tAU := 138, tU64 := 136, tUint := 174, tU32 := 139, tPU32 := 180, tPAU := 200, tPU64 := 202, tNoCopy := 133, tANoCopy := 134, tAlign64 := 135 }
theorem wgLib : Go.Conc.Lib.WgLib Tryz.prog link :=
  ⟨Tryz.func109, Tryz.func112, Tryz.func77, Tryz.func149, Tryz.func113, Tryz.func115, Tryz.func121, Tryz.func150, Tryz.func151, Tryz.func152, Tryz.func153, Tryz.func154, Tryz.func114, Tryz.func155, Tryz.func119, Tryz.func156, Tryz.func116, Tryz.func117, Tryz.func118, Tryz.func120, Tryz.func122, Tryz.func179, Tryz.func180, Tryz.func157, Tryz.func181, Tryz.func158, Tryz.underlying171, Tryz.runUnderlying171, Tryz.sizeOf171, Tryz.isAgg171, Tryz.zeroValue171, Tryz.underlying176, Tryz.runUnderlying176, Tryz.sizeOf176, Tryz.isAgg176, Tryz.zeroValue176, Tryz.underlying195, Tryz.runUnderlying195, Tryz.sizeOf195, Tryz.isAgg195, Tryz.zeroValue195, Tryz.underlying141, Tryz.runUnderlying141, Tryz.sizeOf141, Tryz.isAgg141, Tryz.zeroValue141, Tryz.underlying138, Tryz.runUnderlying138, Tryz.sizeOf138, Tryz.isAgg138, Tryz.zeroValue138, Tryz.underlying136, Tryz.runUnderlying136, Tryz.sizeOf136, Tryz.isAgg136, Tryz.zeroValue136, Tryz.underlying174, Tryz.runUnderlying174, Tryz.sizeOf174, Tryz.isAgg174, Tryz.zeroValue174, Tryz.underlying139, Tryz.runUnderlying139, Tryz.sizeOf139, Tryz.isAgg139, Tryz.zeroValue139, Tryz.underlying180, Tryz.runUnderlying180, Tryz.sizeOf180, Tryz.isAgg180, Tryz.zeroValue180, Tryz.underlying200, Tryz.runUnderlying200, Tryz.sizeOf200, Tryz.isAgg200, Tryz.zeroValue200, Tryz.underlying202, Tryz.runUnderlying202, Tryz.sizeOf202, Tryz.isAgg202, Tryz.zeroValue202, Tryz.underlying0, Tryz.runUnderlying0, Tryz.sizeOf0, Tryz.isAgg0, Tryz.zeroValue0, Tryz.underlying3, Tryz.runUnderlying3, Tryz.sizeOf3, Tryz.isAgg3, Tryz.zeroValue3, Tryz.underlying4, Tryz.runUnderlying4, Tryz.sizeOf4, Tryz.isAgg4, Tryz.zeroValue4, Tryz.underlying9, Tryz.runUnderlying9, Tryz.sizeOf9, Tryz.isAgg9, Tryz.zeroValue9, Tryz.underlying20, Tryz.runUnderlying20, Tryz.sizeOf20, Tryz.isAgg20, Tryz.zeroValue20, Tryz.underlying21, Tryz.runUnderlying21, Tryz.sizeOf21, Tryz.isAgg21, Tryz.zeroValue21, (by kernel_rfl), (by kernel_rfl)⟩
end Go.Proofs.YtjhbohlockgfnaaGreatDoor
