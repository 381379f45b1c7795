import Derived.Test.YtgcaionclkbehaaGreatDoorW3
set_option linter.all false
namespace Go.Proofs.YtgcaionclkbehaaGreatDoor
open Go.Conc Go.RowKit Go.Lib
theorem awake_e {n : Nat} (h : prOf Tryz.prog n #[.slice (some ⟨35,0,none⟩) 1 1, .func (.func 38) #[] #[aptr 36 0]] sC = some (.tuple #[],sG)) : ∃ s',EF Tryz.prog ktB (prLone Tryz.prog n) 15 #[] sA (.bool true) s' ∧ s'.get 1 = some (.cells entC.toArray 335) := by
 refine EF.ofE (by kernel_rfl) Tryz.func15 rfl ?_
 refine EW.seq (EW.go 50 (by kernel_rfl) (EW.seq (EW.region (by kernel_rfl) ?_)))
 refine EO.callF #[.string pageB] (by kernel_rfl) rfl rfl (by kernel_rfl) (by kernel_rfl) (s1 := sH) (v := aptr 36 0) (by rw [show cS _ = sA by kernel_rfl]; exact read_e h) (EO.fin 50 (by kernel_rfl) ?_)
 refine EW.mono (EW.awk (n := 10000) (by kernel_rfl)) fun e a' s' q => ?_
 obtain ⟨rfl,q1,q2⟩ := q
 exact ⟨.inr rfl,by rw [← q1]; rfl,q2⟩
end Go.Proofs.YtgcaionclkbehaaGreatDoor
