/- The document's own lines and words. -/
import Derived.Test.YtoegnnhnfkecoaaDoorLWords
import Derived.BigQuiet
namespace Go.Proofs.YtoegnnhnfkecoaaDoor
open Go.RowKit

section
variable (w : World)
set_option maxHeartbeats 1000000
theorem blank_c (x : UInt8) : Calls Tryd.prog 47 #[.int .u8 x.toNat] w fun e w' => e = .returned (.bool (blanks.contains x)) ∧ w = w' := by
  by_cases h1 : x = 32
  · subst h1
    go_enter Tryd.func47, Tryd.ntmps47
    go_wp2
    go_ret
    exact ⟨rfl, rfl⟩
  · by_cases h2 : x = 9
    · subst h2
      go_enter Tryd.func47, Tryd.ntmps47
      go_wp2
      go_ret
      exact ⟨rfl, rfl⟩
    · have e1 : ((x.toNat : Int) == 32) = false := beq_eq_false_iff_ne.2 (fun e => h1 (UInt8.toNat_inj.1 (by show x.toNat = 32; omega)))
      have e2 : ((x.toNat : Int) == 9) = false := beq_eq_false_iff_ne.2 (fun e => h2 (UInt8.toNat_inj.1 (by show x.toNat = 9; omega)))
      have h3 : blanks.contains x = false := by simp [blanks, h1, h2]
      rw [h3]
      go_enter Tryd.func47, Tryd.ntmps47
      go_wp2
      go_ret
      exact ⟨rfl, rfl⟩
end
end Go.Proofs.YtoegnnhnfkecoaaDoor
