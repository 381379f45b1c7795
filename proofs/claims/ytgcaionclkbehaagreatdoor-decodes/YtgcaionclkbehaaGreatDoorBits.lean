/-
  Bits of bytes, by number.
-/
import Derived.Test.YtgcaionclkbehaaGreatDoorRune
set_option linter.all false
namespace Go.Proofs.YtgcaionclkbehaaGreatDoor
open Go.RowKit
theorem and63 (x : Int) (h0 : 0 ≤ x) (h1 : x < 256) : bits .and .u8 x 63 = x % 64 := by
  have h : ∀ n : _root_.Fin 256, bits .and .u8 (n.val : Int) 63 = (n.val : Int) % 64 := by decide +kernel
  have := h ⟨x.toNat, by omega⟩
  simpa [Int.toNat_of_nonneg h0] using this
theorem or192 (x : Int) (h0 : 0 ≤ x) (h1 : x < 32) : bits .or .u8 192 x = 192 + x := by
  have h : ∀ n : _root_.Fin 32, bits .or .u8 192 (n.val : Int) = 192 + (n.val : Int) := by decide +kernel
  have := h ⟨x.toNat, by omega⟩
  simpa [Int.toNat_of_nonneg h0] using this
theorem or128 (x : Int) (h0 : 0 ≤ x) (h1 : x < 64) : bits .or .u8 128 x = 128 + x := by
  have h : ∀ n : _root_.Fin 64, bits .or .u8 128 (n.val : Int) = 128 + (n.val : Int) := by decide +kernel
  have := h ⟨x.toNat, by omega⟩
  simpa [Int.toNat_of_nonneg h0] using this
theorem or224 (x : Int) (h0 : 0 ≤ x) (h1 : x < 16) : bits .or .u8 224 x = 224 + x := by
  have h : ∀ n : _root_.Fin 16, bits .or .u8 224 (n.val : Int) = 224 + (n.val : Int) := by decide +kernel
  have := h ⟨x.toNat, by omega⟩
  simpa [Int.toNat_of_nonneg h0] using this
theorem or240 (x : Int) (h0 : 0 ≤ x) (h1 : x < 8) : bits .or .u8 240 x = 240 + x := by
  have h : ∀ n : _root_.Fin 8, bits .or .u8 240 (n.val : Int) = 240 + (n.val : Int) := by decide +kernel
  have := h ⟨x.toNat, by omega⟩
  simpa [Int.toNat_of_nonneg h0] using this
/-- The last six bits of a part of a letter, as a byte that follows. -/
theorem tail8 (x : Int) : bits .or .u8 128 (bits .and .u8 (IntKind.u8.wrap x) 63) = 128 + x % 64 := by
  have hw : IntKind.u8.wrap x = x % 256 := by rw [IntKind.wrap_u8]
  rw [hw, and63 _ (by omega) (by omega), or128 _ (by omega) (by omega)]
  omega
end Go.Proofs.YtgcaionclkbehaaGreatDoor
