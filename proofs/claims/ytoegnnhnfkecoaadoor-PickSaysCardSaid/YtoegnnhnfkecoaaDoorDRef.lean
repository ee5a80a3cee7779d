/- Contracts of the document's own texts of numbers: Text, digit. -/
import Derived.Test.YtoegnnhnfkecoaaDoorDTxt
import Derived.Test.YtoegnnhnfkecoaaDoorMem
import Derived.Test.YtoegnnhnfkecoaaDoorProg
namespace Go.Proofs.YtoegnnhnfkecoaaDoor
open Go.RowKit

theorem joined (a b : List UInt8) : (⟨a.toArray⟩ : ByteArray) ++ ⟨b.toArray⟩ = ⟨(a ++ b).toArray⟩ := by
  apply ByteArray.ext
  simp
theorem ret_str {s t : ByteArray} (h : s = t) : Ending.returned (.string s) = .returned (.string t) := by rw [h]

section
variable (n : Int) (w : World)
set_option maxHeartbeats 400000
theorem rtext_small (h0 : 0 ≤ n) (h1 : n < 10) : Calls Tryd.prog 23 #[.int .i64 n] w fun e w' => e = .returned (.string ⟨(txt n).toArray⟩) ∧ w = w' := by
  have ht : txt n = [dg n.natAbs] := by rw [txt_pos h0, nt_small (by omega)]
  rw [ht]
  clear ht
  have hc : n = 0 ∨ n = 1 ∨ n = 2 ∨ n = 3 ∨ n = 4 ∨ n = 5 ∨ n = 6 ∨ n = 7 ∨ n = 8 ∨ n = 9 := by omega
  rcases hc with rfl | rfl | rfl | rfl | rfl | rfl | rfl | rfl | rfl | rfl
  all_goals
    go_enter Tryd.func23, Tryd.ntmps23
    go_wp2
    go_ret
    exact ⟨rfl, rfl⟩
theorem rtext_minus (h0 : -10 < n) (h1 : n < 0) : Calls Tryd.prog 23 #[.int .i64 n] w fun e w' => e = .returned (.string ⟨(txt n).toArray⟩) ∧ w = w' := by
  have c := fun w => rtext_small (-n) w (by omega) (by omega)
  have hl := txt_len (n := -n) (by unfold InR; omega)
  have ht : (txt n) = [45] ++ txt (-n) := by rw [txt_neg h1, txt_pos (by omega), Int.natAbs_neg]; rfl
  have hj := hide ((joined [45] (txt (-n))).trans (by rw [ht] : _ = (⟨(txt n).toArray⟩ : ByteArray)))
  clear ht
  go_enter Tryd.func23, Tryd.ntmps23
  go_wp2_with (go_at_call 23; refine (c _).mono ?_; rintro e w' ⟨rfl, rfl⟩)
  go_ret
  exact ⟨ret_str hj.out, rfl⟩
theorem rtext_c (n : Int) (h : InR n) (w : World) : Calls Tryd.prog 23 #[.int .i64 n] w fun e w' => e = .returned (.string ⟨(txt n).toArray⟩) ∧ w = w' := by
  obtain ⟨k, hk⟩ : ∃ k, k = n.natAbs := ⟨_, rfl⟩
  induction k using Nat.strongRecOn generalizing n with
  | ind k ih =>
    by_cases hs : 0 ≤ n ∧ n < 10
    · exact rtext_small n w hs.1 hs.2
    by_cases hm : -10 < n ∧ n < 0
    · exact rtext_minus n w hm.1 hm.2
    have ht : txt n = txt (n.tdiv 10) ++ txt (n.natAbs % 10 : Nat) := by
      have hd := natAbs_tdiv n
      have e1 : txt (n.natAbs % 10 : Nat) = [dg n.natAbs] := by
        rw [txt_pos (by omega), nt_small (by omega)]
        rw [Int.natAbs_natCast]
        unfold dg
        rw [Nat.mod_mod]
      have e2 := nt_step (n := n.natAbs) (by omega)
      rw [e1]
      by_cases hn : n < 0
      · have hq : n.tdiv 10 < 0 := by
          have := Int.tdiv_eq_ediv_of_nonneg (a := -n) (b := 10) (by omega)
          rw [Int.neg_tdiv] at this
          omega
        rw [txt_neg hn, txt_neg hq, hd, e2]
        rfl
      · have hq : 0 ≤ n.tdiv 10 := by
          rw [Int.tdiv_eq_ediv_of_nonneg (by omega)]
          omega
        rw [txt_pos (by omega), txt_pos hq, hd, e2]
    have hd := natAbs_tdiv n
    have hir : ∀ q : Int, q.natAbs ≤ 922337203685477580 → InR q := fun q hq => by unfold InR; omega
    unfold InR at h
    have hin := hir (n.tdiv 10) (by omega)
    have c1 := ih (n.tdiv 10).natAbs (by omega) (n.tdiv 10) hin rfl
    have l1 := txt_len hin
    obtain ⟨m, hmod⟩ : ∃ m, m = n.natAbs % 10 := ⟨_, rfl⟩
    rw [← hmod] at ht
    have hm9 : m ≤ 9 := by omega
    have c2 := rtext_small (m : Int) w (by omega) (by omega)
    have l2 := txt_len (n := (m : Int)) (by unfold InR; omega)
    have hj := hide ((joined (txt (n.tdiv 10)) (txt m)).trans (by rw [ht] : _ = (⟨(txt n).toArray⟩ : ByteArray)))
    have hm2 := tmod_two n
    rw [← hmod] at hm2
    clear ht hd ih hk hin hmod
    by_cases hn : n < 0
    · have e : n.tmod 10 = -(m : Int) := by omega
      clear hm2
      rcases Nat.eq_zero_or_pos m with h0 | h0
      · subst h0
        have e0 : n.tmod 10 = 0 := by simpa using e
        clear e
        have c2 := rtext_small 0 w (by omega) (by omega)
        have l2 := txt_len (n := 0) (by unfold InR; omega)
        go_enter Tryd.func23, Tryd.ntmps23
        go_wp2_with fail
        refine c1.mono ?_
        rintro e w' ⟨rfl, rfl⟩
        go_wp2_with fail
        refine c2.mono ?_
        rintro e w' ⟨rfl, rfl⟩
        go_wp2_with fail
        go_ret
        exact ⟨ret_str hj.out, rfl⟩
      · go_enter Tryd.func23, Tryd.ntmps23
        go_wp2_with fail
        refine c1.mono ?_
        rintro e w' ⟨rfl, rfl⟩
        go_wp2_with fail
        refine c2.mono ?_
        rintro e w' ⟨rfl, rfl⟩
        go_wp2_with fail
        go_ret
        exact ⟨ret_str hj.out, rfl⟩
    · have e : n % 10 = (m : Int) := by rw [← Int.tmod_eq_emod_of_nonneg (by omega)]; omega
      have hq : n.tdiv 10 = n / 10 := Int.tdiv_eq_ediv_of_nonneg (by omega)
      rw [hq] at c1 l1 hj
      clear hm2 hq
      have hn0 : 0 ≤ n := by omega
      go_enter Tryd.func23, Tryd.ntmps23
      go_wp2_with fail
      refine c1.mono ?_
      rintro e w' ⟨rfl, rfl⟩
      go_wp2_with fail
      refine c2.mono ?_
      rintro e w' ⟨rfl, rfl⟩
      go_wp2_with fail
      go_ret
      exact ⟨ret_str hj.out, rfl⟩
theorem digit_c (c : UInt8) : Calls Tryd.prog 37 #[.int .u8 c.toNat] w fun e w' => e = .returned (.int .i64 (if isD c then (c.toNat : Int) - 48 else -1)) ∧ w = w' := by
  have h256 : c.toNat < 256 := c.toNat_lt
  unfold isD
  go_enter Tryd.func37, Tryd.ntmps37
  go_wp2
  all_goals
    go_ret
    exact ⟨rfl, rfl⟩
end
end Go.Proofs.YtoegnnhnfkecoaaDoor
