/- How long anybody waits, whether all is in order, how many there are, plain. It speaks of no program. -/
import Derived.Test.YtefcjlacjafnoaaYMore
namespace Go.Proofs.Ytefcjlacjafnoaa

/-- The place until which a stay waits. -/
def yun (n : Int) (s : Sy) : Int := if s.e = -1 then n else s.e
/-- The longest time that anybody waits. -/
def ylo (n : Int) (S : List Sy) : Int := S.foldl (fun m s => if m < yun n s - s.a then yun n s - s.a else m) 0
/-- Of two stays the one that asked later entered, and ahead of the other one. -/
def Ypas (S : List Sy) (a b : Nat) : Prop := 0 ≤ (S.getD b s0).e ∧ ((S.getD a s0).e < 0 ∨ (S.getD b s0).e < (S.getD a s0).e)
instance {S : List Sy} {a b : Nat} : Decidable (Ypas S a b) := inferInstanceAs (Decidable (_ ∧ _))
/-- Do all enter in the order in which they asked? -/
def yfi (S : List Sy) : Bool := decide (∀ b, b < S.length → ∀ a, a < b → ¬ Ypas S a b)
/-- How many stays have a place. -/
def ymn (p : Sy → Int) (S : List Sy) : Nat := S.countP fun s => decide (p s ≠ -1)
/-- What is known of the stays' places. -/
def Ysm (n : Int) (S : List Sy) : Prop := ∀ k, k < S.length → 0 ≤ (S.getD k s0).a ∧ (S.getD k s0).a < n ∧ -1 ≤ (S.getD k s0).e ∧ (S.getD k s0).e < n ∧ -1 ≤ (S.getD k s0).x ∧ (S.getD k s0).x < n ∧ -1 ≤ (S.getD k s0).z ∧ (S.getD k s0).z < n
section
variable {S : List Sy} {l : List Ev} {v : Ev} {s : Sy} {i j k : Nat} {n : Int} {p : Sy → Int}
theorem ysm_all : Ysm l.length (yof l) := by
  intro k hk
  obtain ⟨⟨a1, a2, _⟩, h2, h3, h4⟩ := ygd_at hk
  generalize (yof l).getD k s0 = s at *
  have e1 : -1 ≤ s.e ∧ s.e < l.length := by rcases h2 with h | ⟨h, h5, _⟩ <;> omega
  have x1 : -1 ≤ s.x ∧ s.x < l.length := by rcases h3 with h | ⟨_, h, h5, _⟩ <;> omega
  have z1 : -1 ≤ s.z ∧ s.z < l.length := by rcases h4 with h | ⟨_, h, h5, _⟩ <;> omega
  omega
theorem sy_take (h : k < S.length) : S.take (k + 1) = S.take k ++ [S.getD k s0] := by
  rw [List.take_succ_eq_append_getElem h]
  simp [List.getD, h]
theorem ylo_nil : ylo n [] = 0 := rfl
theorem ylo_take (h : k < S.length) : ylo n (S.take (k + 1)) = if ylo n (S.take k) < yun n (S.getD k s0) - (S.getD k s0).a then yun n (S.getD k s0) - (S.getD k s0).a else ylo n (S.take k) := by
  rw [sy_take h]
  unfold ylo
  rw [List.foldl_append]
  rfl
theorem yfi_iff : yfi S = true ↔ ∀ b, b < S.length → ∀ a, a < b → ¬ Ypas S a b := by unfold yfi; rw [decide_eq_true_eq]
theorem yfi_false {a b : Nat} (hb : b < S.length) (ha : a < b) (h : Ypas S a b) : yfi S = false := by
  unfold yfi
  rw [decide_eq_false_iff_not]
  exact fun z => z b hb a ha h
theorem yun_in (h : Ysm n S) (hk : k < S.length) : 0 ≤ yun n (S.getD k s0) ∧ yun n (S.getD k s0) ≤ n := by
  have := h k hk
  unfold yun
  split <;> omega
/-- Where the one ahead waits until. -/
def ylst (n : Int) (S : List Sy) : Nat → Int
  | 0 => -1
  | k + 1 => yun n (S.getD k s0)
/-- So far all wait until later and later places. -/
def Yup (n : Int) (S : List Sy) (k : Nat) : Prop := ∀ j, j < k → ylst n S j ≤ ylst n S (j + 1)
theorem yup_zero : Yup n S 0 := fun j h => absurd h (by omega)
theorem yup_next (h : Yup n S k) (h2 : ¬ yun n (S.getD k s0) < ylst n S k) : Yup n S (k + 1) := by
  intro j hj
  by_cases e : j = k
  · subst e
    show _ ≤ yun n (S.getD j s0)
    omega
  · exact h j (by omega)
theorem yup_mono (h : Yup n S k) (hj : i ≤ j) (hk : j ≤ k) : ylst n S i ≤ ylst n S j := by
  induction j with
  | zero =>
    obtain rfl : i = 0 := by omega
    exact Int.le_refl _
  | succ j ih =>
    by_cases e : i = j + 1
    · rw [e]; exact Int.le_refl _
    · exact Int.le_trans (ih (by omega) (by omega)) (h j (by omega))
theorem yup_true (hs : Ysm n S) (h : Yup n S S.length) : yfi S = true := by
  rw [yfi_iff]
  rintro b hb a ha ⟨h1, h2⟩
  have h3 := yup_mono h (i := a + 1) (j := b + 1) (by omega) (by omega)
  have h3 : yun n (S.getD a s0) ≤ yun n (S.getD b s0) := h3
  have ha2 := hs a (by omega)
  have hb2 := hs b hb
  unfold yun at h3
  split at h3
  · split at h3 <;> omega
  · split at h3 <;> omega
theorem yup_false (hs : Ysm n S) (hk : k < S.length) (h : yun n (S.getD k s0) < ylst n S k) : yfi S = false := by
  cases k with
  | zero =>
    have h : yun n (S.getD 0 s0) < -1 := h
    have := yun_in hs hk
    omega
  | succ k =>
    have h : yun n (S.getD (k + 1) s0) < yun n (S.getD k s0) := h
    refine yfi_false hk (Nat.lt_succ_self k) ?_
    have h1 := hs k (by omega)
    have h2 := hs (k + 1) hk
    unfold yun at h
    unfold Ypas
    split at h
    · split at h <;> omega
    · split at h <;> omega
theorem ymn_nil : ymn p [] = 0 := rfl
theorem ymn_take (h : k < S.length) : ymn p (S.take (k + 1)) = ymn p (S.take k) + if p (S.getD k s0) = -1 then 0 else 1 := by
  rw [sy_take h]
  unfold ymn
  rw [List.countP_append, List.countP_singleton]
  congr 1
  generalize S.getD k s0 = s
  by_cases e : p s = -1
  · rw [if_pos e, if_neg (by simp [e])]
  · rw [if_neg e, if_pos (by simp [e])]
theorem ymn_le : ymn p S ≤ S.length := List.countP_le_length
end
end Go.Proofs.Ytefcjlacjafnoaa
