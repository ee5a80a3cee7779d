/- What each call of package field, and of the document's own field, comes to: numbers of the word's parts; the world stays. -/
import Derived.Test.YtpekgmpedieipaaFBits
import Derived.Test.YtpekgmpedieipaaMem
import Derived.Test.YtpekgmpedieipaaProg
import Derived.WalkKit
import Derived.WalkSpells
import Derived.Laws.Shifts
import Derived.BigQuiet
import Derived.Deep.QuietTactic
import Derived.Outline
namespace Go.Proofs.Ytpekgmpedieipaa
open Go.RowKit

section
variable (w : Int) (W : World)
set_option maxHeartbeats 400000

theorem index_c (h : I64 w) : Calls Try.prog 8 #[.int .i64 w] W fun e W' => e = .returned (.int .i64 (idx w)) ∧ W = W' := by
  have hb := index_bits h
  go_enter Try.func8, Try.ntmps8
  go_wp2
  go_ret
  exact ⟨rfl, rfl⟩
theorem number_c (h : I64 w) : Calls Try.prog 10 #[.int .i64 w] W fun e W' => e = .returned (.int .i64 (num w)) ∧ W = W' := by
  have hb := number_bits h
  go_enter Try.func10, Try.ntmps10
  go_wp2
  go_ret
  exact ⟨rfl, rfl⟩
theorem marked_c (h : I64 w) : Calls Try.prog 12 #[.int .i64 w] W fun e W' => e = .returned (.bool (neg w)) ∧ W = W' := by
  have hb := mark_bits h
  go_enter Try.func12, Try.ntmps12
  go_wp2
  go_ret
  exact ⟨rfl, rfl⟩
theorem mark_on (h : I64 w) : Calls Try.prog 14 #[.int .i64 w, .bool true] W fun e W' => e = .returned (.int .i64 (on w)) ∧ W = W' := by
  have hb := on_bits h
  go_enter Try.func14, Try.ntmps14
  go_wp2
  go_ret
  exact ⟨rfl, rfl⟩
theorem mark_off (h : I64 w) : Calls Try.prog 14 #[.int .i64 w, .bool false] W fun e W' => e = .returned (.int .i64 (off w)) ∧ W = W' := by
  have hb := off_bits h
  go_enter Try.func14, Try.ntmps14
  go_wp2
  go_ret
  exact ⟨rfl, rfl⟩
theorem rplain_c (h : I64 w) : Calls Try.prog 17 #[.int .i64 w] W fun e W' => e = .returned (.int .i64 (off w)) ∧ W = W' := by
  obtain ⟨h1, h2⟩ := h
  by_cases hw : w < 0
  · have e : off w = w + 9223372036854775807 + 1 := by unfold off; rw [if_pos hw]; omega
    rw [e]
    go_enter Try.func17, Try.ntmps17
    go_wp2
    go_ret
    exact ⟨rfl, rfl⟩
  · have e : off w = w := by unfold off; rw [if_neg hw]
    rw [e]
    go_enter Try.func17, Try.ntmps17
    go_wp2
    go_ret
    exact ⟨rfl, rfl⟩
theorem rindex_c (h : I64 w) : Calls Try.prog 9 #[.int .i64 w] W fun e W' => e = .returned (.int .i64 (idx w)) ∧ W = W' := by
  obtain ⟨o1, o2⟩ := off_range h
  have H := hide (idx_off w)
  go_enter Try.func9, Try.ntmps9
  go_wp2_with fail
  refine (rplain_c w W h).mono ?_
  rintro e w' ⟨rfl, rfl⟩
  go_wp2_with fail
  go_ret
  exact ⟨by rw [← H.out]; rfl, rfl⟩
theorem rnumber_c (h : I64 w) : Calls Try.prog 11 #[.int .i64 w] W fun e W' => e = .returned (.int .i64 (num w)) ∧ W = W' := by
  obtain ⟨o1, o2⟩ := off_range h
  have e1 : num (off w) = off w / 65536 := by unfold num; omega
  have H := hide ((num_off w).symm.trans e1)
  clear e1
  go_enter Try.func11, Try.ntmps11
  go_wp2_with fail
  refine (rplain_c w W h).mono ?_
  rintro e w' ⟨rfl, rfl⟩
  go_wp2_with fail
  go_ret
  exact ⟨by rw [H.out]; rfl, rfl⟩
theorem rmarked_c : Calls Try.prog 13 #[.int .i64 w] W fun e W' => e = .returned (.bool (neg w)) ∧ W = W' := by
  go_enter Try.func13, Try.ntmps13
  go_wp2
  go_ret
  exact ⟨rfl, rfl⟩
theorem rmark_on (h : I64 w) : Calls Try.prog 15 #[.int .i64 w, .bool true] W fun e W' => e = .returned (.int .i64 (on w)) ∧ W = W' := by
  obtain ⟨o1, o2⟩ := off_range h
  have e1 : on w = off w - 9223372036854775807 - 1 := by unfold on off; split <;> omega
  rw [e1]
  clear e1
  go_enter Try.func15, Try.ntmps15
  go_wp2_with fail
  refine (rplain_c w W h).mono ?_
  rintro e w' ⟨rfl, rfl⟩
  go_wp2_with fail
  go_ret
  exact ⟨rfl, rfl⟩
theorem rmark_off (h : I64 w) : Calls Try.prog 15 #[.int .i64 w, .bool false] W fun e W' => e = .returned (.int .i64 (off w)) ∧ W = W' := by
  go_enter Try.func15, Try.ntmps15
  go_wp2_with fail
  refine (rplain_c w W h).mono ?_
  rintro e w' ⟨rfl, rfl⟩
  go_wp2_with fail
  go_ret
  exact ⟨rfl, rfl⟩
end

/-- May these two be an index and a number? -/
def May (i n : Int) : Prop := 0 ≤ i ∧ i ≤ 65535 ∧ 0 ≤ n ∧ n ≤ 140737488355327

section
variable (i n : Int) (W : World)
set_option maxHeartbeats 400000
theorem pack_yes (h : May i n) : Calls Try.prog 6 #[.int .i64 i, .int .i64 n] W fun e W' => e = .returned (.tuple #[.int .i64 (n * 65536 + i), .int .i64 0]) ∧ W = W' := by
  obtain ⟨h1, h2, h3, h4⟩ := h
  have hb := pack_bits h1 h2 h3 h4
  go_enter Try.func6, Try.ntmps6
  go_wp2
  go_ret2
  exact ⟨rfl, rfl⟩
theorem pack_no (h : ¬ May i n) : Calls Try.prog 6 #[.int .i64 i, .int .i64 n] W fun e W' => e = .returned (.tuple #[.int .i64 0, .int .i64 1]) ∧ W = W' := by
  unfold May at h
  by_cases h1 : i < 0
  · clear h
    go_enter Try.func6, Try.ntmps6
    go_wp2
    go_ret2
    exact ⟨rfl, rfl⟩
  by_cases h2 : 65535 < i
  · clear h
    go_enter Try.func6, Try.ntmps6
    go_wp2
    go_ret2
    exact ⟨rfl, rfl⟩
  by_cases h3 : n < 0
  · clear h
    go_enter Try.func6, Try.ntmps6
    go_wp2
    go_ret2
    exact ⟨rfl, rfl⟩
  have h4 : 140737488355327 < n := by omega
  clear h
  go_enter Try.func6, Try.ntmps6
  go_wp2
  go_ret2
  exact ⟨rfl, rfl⟩
theorem rpack_yes (h : May i n) : Calls Try.prog 7 #[.int .i64 i, .int .i64 n] W fun e W' => e = .returned (.tuple #[.int .i64 (n * 65536 + i), .int .i64 0]) ∧ W = W' := by
  obtain ⟨h1, h2, h3, h4⟩ := h
  go_enter Try.func7, Try.ntmps7
  go_wp2
  go_ret2
  exact ⟨rfl, rfl⟩
theorem rpack_no (h : ¬ May i n) : Calls Try.prog 7 #[.int .i64 i, .int .i64 n] W fun e W' => e = .returned (.tuple #[.int .i64 0, .int .i64 1]) ∧ W = W' := by
  unfold May at h
  by_cases h1 : i < 0
  · clear h
    go_enter Try.func7, Try.ntmps7
    go_wp2
    go_ret2
    exact ⟨rfl, rfl⟩
  by_cases h2 : 65535 < i
  · clear h
    go_enter Try.func7, Try.ntmps7
    go_wp2
    go_ret2
    exact ⟨rfl, rfl⟩
  by_cases h3 : n < 0
  · clear h
    go_enter Try.func7, Try.ntmps7
    go_wp2
    go_ret2
    exact ⟨rfl, rfl⟩
  have h4 : 140737488355327 < n := by omega
  clear h
  go_enter Try.func7, Try.ntmps7
  go_wp2
  go_ret2
  exact ⟨rfl, rfl⟩
end
end Go.Proofs.Ytpekgmpedieipaa
