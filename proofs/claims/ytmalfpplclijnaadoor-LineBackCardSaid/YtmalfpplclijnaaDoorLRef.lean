/- The document's own lines and words. -/
import Derived.Test.YtmalfpplclijnaaDoorLWords
import Derived.BigQuiet
namespace Go.Proofs.YtmalfpplclijnaaDoor
open Go.RowKit

section
variable (w : World)
set_option maxHeartbeats 1000000
theorem blank_c (x : UInt8) : Calls Tryd.prog 23 #[.int .u8 x.toNat] w fun e w' => e = .returned (.bool (blanks.contains x)) ∧ w = w' := by
  by_cases h1 : x = 32
  · subst h1
    go_enter Tryd.func23, Tryd.ntmps23
    go_wp2
    go_ret
    exact ⟨rfl, rfl⟩
  · by_cases h2 : x = 9
    · subst h2
      go_enter Tryd.func23, Tryd.ntmps23
      go_wp2
      go_ret
      exact ⟨rfl, rfl⟩
    · have e1 : ((x.toNat : Int) == 32) = false := beq_eq_false_iff_ne.2 (fun e => h1 (UInt8.toNat_inj.1 (by show x.toNat = 32; omega)))
      have e2 : ((x.toNat : Int) == 9) = false := beq_eq_false_iff_ne.2 (fun e => h2 (UInt8.toNat_inj.1 (by show x.toNat = 9; omega)))
      have h3 : blanks.contains x = false := by simp [blanks, h1, h2]
      rw [h3]
      go_enter Tryd.func23, Tryd.ntmps23
      go_wp2
      go_ret
      exact ⟨rfl, rfl⟩
/-- Two slices of the same strings. -/
theorem same_strs {v1 v2 : Value} {l : List (List UInt8)} (h1 : Strs w v1 l) (h2 : Strs w v2 l) (hl : l.length ≤ 65536) : Calls Tryd.prog 9 #[v1, v2] w fun e w' => e = .returned (.bool true) ∧ ∃ k, w' = w.drewN k := by
  obtain ⟨A1, c1, rfl, _, p1⟩ := h1
  obtain ⟨A2, c2, rfl, _, p2⟩ := h2
  go_enter Tryd.func9, Tryd.ntmps9
  go_wp2_with fail
  go_loopw [5] (fun i wr => ∃ (k : Nat), k ≤ l.length ∧ i = .int .i64 k ∧ ∃ q, wr = w.drewN q) (fun i _ => l.length - (intOf i).toNat)
  case atStart => exact ⟨0, Nat.zero_le _, rfl, 0, rfl⟩
  case round =>
    obtain ⟨k, hk, rfl, q, rfl⟩ := hrel
    by_cases hlt : k < l.length
    · obtain ⟨g1, o1, rfl, _, j1⟩ := p1 (by omega)
      obtain ⟨g2, o2, rfl, _, j2⟩ := p2 (by omega)
      have e1 := j1 k hlt
      have e2 := j2 k hlt
      clear j1 j2
      unfold sv at e1 e2
      generalize l.getD k [] = x at *
      go_wp2_with fail
      go_quiet (fail)
      go_wp2_with fail
      go_roundw
      case rel => exact ⟨k + 1, by omega, by go_num, _, rfl⟩
      case measure => simp [intOf]; omega
    · obtain rfl : k = l.length := by omega
      go_wp2_with fail
      go_ret
      exact ⟨rfl, q, rfl⟩
end
end Go.Proofs.YtmalfpplclijnaaDoor
