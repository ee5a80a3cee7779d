/- Contracts of package dec: digits. -/
import Derived.Test.YtoegnnhnfkecoaaDoorDDig
import Derived.Test.YtoegnnhnfkecoaaDoorMem
import Derived.Test.YtoegnnhnfkecoaaDoorProg
namespace Go.Proofs.YtoegnnhnfkecoaaDoor
open Go.RowKit

theorem tdiv_two (a : Int) : (0 ≤ a ∧ a.tdiv 10 = a / 10) ∨ (a < 0 ∧ a.tdiv 10 = -((-a) / 10)) := by
  by_cases h : 0 ≤ a
  · exact .inl ⟨h, Int.tdiv_eq_ediv_of_nonneg h⟩
  · refine .inr ⟨by omega, ?_⟩
    have := Int.tdiv_eq_ediv_of_nonneg (a := -a) (b := 10) (by omega)
    rw [Int.neg_tdiv] at this
    omega
/-- A digit more goes round, or not. -/
theorem step_fits {v d : Int} (hv : InR v) (hd : (0 ≤ v ∧ 0 ≤ d ∧ d ≤ 9) ∨ (v ≤ 0 ∧ d ≤ 0 ∧ -9 ≤ d)) (h : InR (10 * v + d)) : wrap64 (wrap64 (10 * v) + d) = 10 * v + d ∧ wrap64 ((10 * v + d).tdiv 10) = v := by
  unfold InR at *
  have := tdiv_two (10 * v + d)
  unfold wrap64
  omega
theorem step_over {v d : Int} (hv : InR v) (hd : (0 ≤ v ∧ 0 ≤ d ∧ d ≤ 9) ∨ (v ≤ 0 ∧ d ≤ 0 ∧ -9 ≤ d)) (h : ¬ InR (10 * v + d)) : wrap64 ((wrap64 (wrap64 (10 * v) + d)).tdiv 10) ≠ v := by
  unfold InR at *
  have h2 := tdiv_two (wrap64 (wrap64 (10 * v) + d))
  generalize hx : (wrap64 (wrap64 (10 * v) + d)).tdiv 10 = x at h2
  unfold wrap64 at *
  omega
theorem Dig.sign {s : List UInt8} {g : Int} {k : Nat} {n : Int} (h : Dig s g k n) (hg : g = 1 ∨ g = -1) : (g = 1 ∧ 0 ≤ n) ∨ (g = -1 ∧ n ≤ 0) := by
  have := h.val
  rcases hg with rfl | rfl <;> omega

section
variable {s : ByteArray} {g v : Int} {k : Nat}
/-- The four ways out of a round, and the way on. -/
theorem way_over (hg : g = 1 ∨ g = -1) (h : Dig s.data.toList g k v) (hk : k < s.size) (h1 : 48 ≤ (s[k].toNat : Int)) (h2 : (s[k].toNat : Int) ≤ 57) (ht : wrap64 ((wrap64 (wrap64 (10 * v) + g * ((s[k].toNat : Int) - 48))).tdiv 10) ≠ v) : NoMore s.data.toList g k := by
  refine NoMore.over hg h (by simpa using hk) fun hr => ?_
  have hs := h.sign hg
  have hr' : InR (10 * v + g * ((s[k].toNat : Int) - 48)) := hr
  have := step_fits h.rng (by rcases hs with ⟨rfl, q⟩ | ⟨rfl, q⟩ <;> omega) hr'
  rw [this.1] at ht
  exact ht this.2
theorem way_next (hg : g = 1 ∨ g = -1) (h : Dig s.data.toList g k v) (hk : k < s.size) (h1 : 48 ≤ (s[k].toNat : Int)) (h2 : (s[k].toNat : Int) ≤ 57) (h0 : k = 0 ∨ v ≠ 0) (ht : wrap64 ((wrap64 (wrap64 (10 * v) + g * ((s[k].toNat : Int) - 48))).tdiv 10) = v) :
    Dig s.data.toList g (k + 1) (wrap64 (wrap64 (10 * v) + g * ((s[k].toNat : Int) - 48))) := by
  have hs := h.sign hg
  have hd : (0 ≤ v ∧ 0 ≤ g * ((s[k].toNat : Int) - 48) ∧ g * ((s[k].toNat : Int) - 48) ≤ 9) ∨ (v ≤ 0 ∧ g * ((s[k].toNat : Int) - 48) ≤ 0 ∧ -9 ≤ g * ((s[k].toNat : Int) - 48)) := by
    rcases hs with ⟨rfl, q⟩ | ⟨rfl, q⟩ <;> omega
  by_cases hr : InR (10 * v + g * ((s[k].toNat : Int) - 48))
  · rw [(step_fits h.rng hd hr).1]
    exact h.next hg (by simpa using hk) ⟨by show 48 ≤ s[k].toNat; omega, by show s[k].toNat ≤ 57; omega⟩ h0 hr
  · exact absurd ht (step_over h.rng hd hr)
theorem way_other (hk : k < s.size) (hd : (s[k].toNat : Int) < 48 ∨ 57 < (s[k].toNat : Int)) : NoMore s.data.toList g k := by
  refine NoMore.other (by simpa using hk) fun h => ?_
  have h1 : 48 ≤ s[k].toNat := h.1
  have h2 : s[k].toNat ≤ 57 := h.2
  omega
theorem way_end (h : Dig s.data.toList g k v) (hk : ¬ k < s.size) : NoMore s.data.toList g k := by
  have hl := h.le
  intro j h1 h2
  simp at hl h2
  omega
end

section
variable (s : ByteArray) (w : World)
set_option maxHeartbeats 400000
def Digits (s : ByteArray) (g : Int) (w : World) (e : Ending) (w' : World) : Prop := ∃ (k : Nat) (n : Int), e = .returned (.tuple #[.int .i64 n, .int .i64 k]) ∧ Dig s.data.toList g k n ∧ NoMore s.data.toList g k ∧ w = w'
theorem digits_pos (hs : s.size ≤ maxLen) : Calls Tryd.prog 46 #[.string s, .int .i64 1] w (Digits s 1 w) := by
  unfold maxLen at hs
  go_enter Tryd.func46, Tryd.ntmps46
  go_wp2
  go_loop [6, 7] (fun n i => ∃ (k : Nat) (v : Int), k ≤ s.size ∧ i = .int .i64 k ∧ n = .int .i64 v ∧ Dig s.data.toList 1 k v ∧ (k = 0 ∨ v ≠ 0)) (fun _ i => s.size - (intOf i).toNat)
  case atStart => exact ⟨0, 0, Nat.zero_le _, rfl, rfl, Dig.start _ _, .inl rfl⟩
  case round =>
    obtain ⟨k, v, hk, rfl, rfl, hd, h0⟩ := hrel
    by_cases hlt : k < s.size
    · have H := hide (And.intro hd h0)
      clear hd h0
      go_wp2
      · have h1 : 48 ≤ (s[k].toNat : Int) := by assumption
        have h2 : (s[k].toNat : Int) ≤ 57 := by assumption
        have h3 : (wrap64 ((wrap64 (wrap64 (10 * v) + ((s[k].toNat : Int) - 48))).tdiv 10) != v) = true := by assumption
        go_ret2
        exact ⟨k, v, rfl, H.out.1, way_over (.inl rfl) H.out.1 hlt h1 h2 (by simpa using h3), rfl⟩
      · have h1 : 48 ≤ (s[k].toNat : Int) := by assumption
        have h2 : (s[k].toNat : Int) ≤ 57 := by assumption
        have h3 : (wrap64 ((wrap64 (wrap64 (10 * v) + ((s[k].toNat : Int) - 48))).tdiv 10) != v) = false := by assumption
        have h4 : (wrap64 (wrap64 (10 * v) + ((s[k].toNat : Int) - 48)) == 0) = true := by assumption
        have h5 := way_next (.inl rfl) H.out.1 hlt h1 h2 H.out.2 (by simpa using h3)
        rw [Int.one_mul] at h5
        go_ret2
        exact ⟨k + 1, _, rfl, h5, (NoMore.zero h5 (by omega) (by simpa using h4) (.inl rfl)).1, rfl⟩
      · have h1 : 48 ≤ (s[k].toNat : Int) := by assumption
        have h2 : (s[k].toNat : Int) ≤ 57 := by assumption
        have h3 : (wrap64 ((wrap64 (wrap64 (10 * v) + ((s[k].toNat : Int) - 48))).tdiv 10) != v) = false := by assumption
        have h4 : (wrap64 (wrap64 (10 * v) + ((s[k].toNat : Int) - 48)) == 0) = false := by assumption
        have h5 := way_next (.inl rfl) H.out.1 hlt h1 h2 H.out.2 (by simpa using h3)
        rw [Int.one_mul] at h5
        go_round
        case rel => exact ⟨k + 1, _, by omega, by go_num, rfl, h5, .inr (by simpa using h4)⟩
        case measure => simp [intOf]; omega
      · have h1 : 57 < (s[k].toNat : Int) := by assumption
        go_ret2
        exact ⟨k, v, rfl, H.out.1, way_other hlt (.inr h1), rfl⟩
      · have h1 : (s[k].toNat : Int) < 48 := by assumption
        go_ret2
        exact ⟨k, v, rfl, H.out.1, way_other hlt (.inl h1), rfl⟩
    · have H := hide hd
      clear hd h0
      go_wp2
      go_ret2
      exact ⟨k, v, rfl, H.out, way_end H.out hlt, rfl⟩
theorem digits_neg (hs : s.size ≤ maxLen) : Calls Tryd.prog 46 #[.string s, .int .i64 (-1)] w (Digits s (-1) w) := by
  unfold maxLen at hs
  go_enter Tryd.func46, Tryd.ntmps46
  go_wp2
  go_loop [6, 7] (fun n i => ∃ (k : Nat) (v : Int), k ≤ s.size ∧ i = .int .i64 k ∧ n = .int .i64 v ∧ Dig s.data.toList (-1) k v ∧ (k = 0 ∨ v ≠ 0)) (fun _ i => s.size - (intOf i).toNat)
  case atStart => exact ⟨0, 0, Nat.zero_le _, rfl, rfl, Dig.start _ _, .inl rfl⟩
  case round =>
    obtain ⟨k, v, hk, rfl, rfl, hd, h0⟩ := hrel
    by_cases hlt : k < s.size
    · have H := hide (And.intro hd h0)
      clear hd h0
      go_wp2
      · have h1 : 48 ≤ (s[k].toNat : Int) := by assumption
        have h2 : (s[k].toNat : Int) ≤ 57 := by assumption
        have h3 : (wrap64 ((wrap64 (wrap64 (10 * v) + -((s[k].toNat : Int) - 48))).tdiv 10) != v) = true := by assumption
        go_ret2
        exact ⟨k, v, rfl, H.out.1, way_over (.inr rfl) H.out.1 hlt h1 h2 (by rw [Int.neg_one_mul]; simpa using h3), rfl⟩
      · have h1 : 48 ≤ (s[k].toNat : Int) := by assumption
        have h2 : (s[k].toNat : Int) ≤ 57 := by assumption
        have h3 : (wrap64 ((wrap64 (wrap64 (10 * v) + -((s[k].toNat : Int) - 48))).tdiv 10) != v) = false := by assumption
        have h4 : (wrap64 (wrap64 (10 * v) + -((s[k].toNat : Int) - 48)) == 0) = true := by assumption
        have h5 := way_next (.inr rfl) H.out.1 hlt h1 h2 H.out.2 (by rw [Int.neg_one_mul]; simpa using h3)
        rw [Int.neg_one_mul] at h5
        go_ret2
        exact ⟨k + 1, _, rfl, h5, (NoMore.zero h5 (by omega) (by simpa using h4) (.inr rfl)).1, rfl⟩
      · have h1 : 48 ≤ (s[k].toNat : Int) := by assumption
        have h2 : (s[k].toNat : Int) ≤ 57 := by assumption
        have h3 : (wrap64 ((wrap64 (wrap64 (10 * v) + -((s[k].toNat : Int) - 48))).tdiv 10) != v) = false := by assumption
        have h4 : (wrap64 (wrap64 (10 * v) + -((s[k].toNat : Int) - 48)) == 0) = false := by assumption
        have h5 := way_next (.inr rfl) H.out.1 hlt h1 h2 H.out.2 (by rw [Int.neg_one_mul]; simpa using h3)
        rw [Int.neg_one_mul] at h5
        go_round
        case rel => exact ⟨k + 1, _, by omega, by go_num, rfl, h5, .inr (by simpa using h4)⟩
        case measure => simp [intOf]; omega
      · have h1 : 57 < (s[k].toNat : Int) := by assumption
        go_ret2
        exact ⟨k, v, rfl, H.out.1, way_other hlt (.inr h1), rfl⟩
      · have h1 : (s[k].toNat : Int) < 48 := by assumption
        go_ret2
        exact ⟨k, v, rfl, H.out.1, way_other hlt (.inl h1), rfl⟩
    · have H := hide hd
      clear hd h0
      go_wp2
      go_ret2
      exact ⟨k, v, rfl, H.out, way_end H.out hlt, rfl⟩
end
end Go.Proofs.YtoegnnhnfkecoaaDoor
