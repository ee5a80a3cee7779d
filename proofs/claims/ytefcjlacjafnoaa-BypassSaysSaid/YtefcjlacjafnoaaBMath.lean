/- Who passes whom, plain. It speaks of no program. -/
import Derived.Test.YtefcjlacjafnoaaEMath
import Derived.Test.YtefcjlacjafnoaaYCount
namespace Go.Proofs.Ytefcjlacjafnoaa

/-- An entry of another thread of the same node. -/
def psS (N : List Int) (t : Int) (e : Ev) : Bool := decide (e.k = 2 ∧ e.t ≠ t ∧ nd N e.t = nd N t)
/-- An entry of another thread of another node. -/
def psO (N : List Int) (t : Int) (e : Ev) : Bool := decide (e.k = 2 ∧ e.t ≠ t ∧ nd N e.t ≠ nd N t)
/-- How many of the first n places are just so. -/
def ctb (p : Nat → Bool) : Nat → Nat
  | 0 => 0
  | n + 1 => ctb p n + (if p n = true then 1 else 0)
/-- Is a place above one and below another, and its event just so? -/
def wnp (q : Ev → Bool) (l : List Ev) (f t : Int) (n : Nat) : Bool := decide (f < (n : Int) ∧ (n : Int) < t) && q (l.getD n e0)
/-- How many others of the same node enter between two places. -/
def frS (N : List Int) (t f g : Int) (l : List Ev) : Nat := ctb (wnp (psS N t) l f g) l.length
/-- How many others of other nodes. -/
def frO (N : List Int) (t f g : Int) (l : List Ev) : Nat := ctb (wnp (psO N t) l f g) l.length
/-- The place until which a stay is passed. -/
def yto (n : Nat) (s : Sy) : Int := if s.e < 0 then n else s.e

section
variable {p q r : Nat → Bool} {n i : Nat} {l : List Ev} {S : List Sy} {N : List Int}
theorem ctb_le : ctb p n ≤ n := by
  induction n with
  | zero => exact Nat.le_refl _
  | succ n ih => unfold ctb; split <;> omega
theorem ctb_congr (h : ∀ k, k < n → p k = q k) : ctb p n = ctb q n := by
  induction n with
  | zero => rfl
  | succ n ih =>
    unfold ctb
    rw [ih (fun k hk => h k (by omega)), h n (by omega)]
theorem ctb_zero (h : ∀ k, k < n → p k = false) : ctb p n = 0 := by
  induction n with
  | zero => rfl
  | succ n ih =>
    unfold ctb
    rw [ih (fun k hk => h k (by omega)), h n (by omega)]
    rfl
theorem ctb_add {p q r s : Nat → Bool} (h : ∀ k, k < n → (if p k = true then 1 else 0) + (if q k = true then 1 else 0) + (if r k = true then 1 else 0) = (if s k = true then 1 else 0)) : ctb p n + ctb q n + ctb r n = ctb s n := by
  induction n with
  | zero => rfl
  | succ n ih =>
    have h1 := ih (fun k hk => h k (by omega))
    have h2 := h n (by omega)
    unfold ctb
    omega
theorem ctb_or (h : ∀ k, k < n → p k = true → q k = true ∨ r k = true) : ctb p n ≤ ctb q n + ctb r n := by
  induction n with
  | zero => exact Nat.zero_le _
  | succ n ih =>
    have h1 := ih (fun k hk => h k (by omega))
    have h2 := h n (by omega)
    unfold ctb
    by_cases hp : p n = true
    · rcases h2 hp with h3 | h3
      · rw [if_pos hp, if_pos h3]
        split <;> omega
      · rw [if_pos hp, if_pos h3]
        split <;> omega
    · rw [if_neg hp]
      split <;> split <;> omega
theorem ctb_one (x : Int) : ctb (fun k => decide (x = (k : Int))) n ≤ 1 := by
  induction n with
  | zero => exact Nat.zero_le _
  | succ n ih =>
    unfold ctb
    by_cases h : x = (n : Int)
    · have h0 : ctb (fun k => decide (x = (k : Int))) n = 0 := ctb_zero (fun k hk => by rw [decide_eq_false_iff_not]; omega)
      rw [h0]
      split <;> omega
    · rw [if_neg (by simpa using h)]
      omega
/-- As many places are entries of the first i stays as there are such stays, at most. -/
theorem ctb_hit : ctb (fun k => decide (∃ j, j < i ∧ (S.getD j s0).e = (k : Int))) n ≤ i := by
  induction i with
  | zero =>
    rw [ctb_zero (fun k _ => by rw [decide_eq_false_iff_not]; rintro ⟨j, h, _⟩; omega)]
    exact Nat.le_refl _
  | succ i ih =>
    have h1 := ctb_or (n := n) (p := fun k => decide (∃ j, j < i + 1 ∧ (S.getD j s0).e = (k : Int))) (q := fun k => decide (∃ j, j < i ∧ (S.getD j s0).e = (k : Int))) (r := fun k => decide ((S.getD i s0).e = (k : Int))) (fun k _ h => by
      rw [decide_eq_true_eq] at h
      obtain ⟨j, hj, h2⟩ := h
      rcases Nat.lt_or_ge j i with h3 | h3
      · exact .inl (decide_eq_true ⟨j, h3, h2⟩)
      · obtain rfl : j = i := by omega
        exact .inr (decide_eq_true h2))
    have h2 := ctb_one (n := n) (S.getD i s0).e
    omega
/-- From place to place. -/
theorem wnp_add {a b c : Int} {g : Ev → Bool} (h : a < b ∧ b < c) : ctb (wnp g l a b) n + ctb (wnp g l b c) n + ctb (wnp g l (b - 1) (b + 1)) n = ctb (wnp g l a c) n := by
  refine ctb_add fun k _ => ?_
  unfold wnp
  cases g (l.getD k e0) with
  | false => simp
  | true =>
    simp only [Bool.and_true, decide_eq_true_eq]
    split <;> split <;> split <;> split <;> omega
theorem wnp_add0 {a b c : Int} {g : Ev → Bool} (hab : a ≤ b) (hbc : b ≤ c) (h : a = b ∨ b = c) : ctb (wnp g l a b) n + ctb (wnp g l b c) n = ctb (wnp g l a c) n := by
  have h3 := ctb_add (n := n) (p := wnp g l a b) (q := wnp g l b c) (r := fun _ => false) (s := wnp g l a c) (fun k _ => by
    unfold wnp
    cases g (l.getD k e0) with
    | false => simp
    | true =>
      simp only [Bool.and_true, decide_eq_true_eq, Bool.false_eq_true, if_false]
      split <;> split <;> split <;> omega)
  rw [ctb_zero (p := fun _ => false) (fun _ _ => rfl)] at h3
  omega
/-- The entry of a place is none of any stay. -/
def stry (S : List Sy) (k : Nat) : Bool := decide (∀ j, j < S.length → (S.getD j s0).e ≠ (k : Int))
/-- In order: who is passed, is passed by who asked ahead, or by who did not ask. -/
theorem fifo_pass (hf : yfi S = true) (hi : i < S.length) (g : Ev → Bool) (hg : ∀ e, g e = true → e.k = 2) :
    ctb (wnp g l (S.getD i s0).a (yto l.length (S.getD i s0))) l.length ≤ i + ctb (fun k => decide ((l.getD k e0).k = 2) && stry S k) l.length := by
  have h1 := ctb_or (n := l.length) (p := wnp g l (S.getD i s0).a (yto l.length (S.getD i s0))) (q := fun k => decide (∃ j, j < i ∧ (S.getD j s0).e = (k : Int))) (r := fun k => decide ((l.getD k e0).k = 2) && stry S k) (fun k hk h => by
    unfold wnp at h
    rw [Bool.and_eq_true, decide_eq_true_eq] at h
    obtain ⟨⟨h2, h3⟩, h4⟩ := h
    by_cases hst : stry S k = true
    · exact .inr (by rw [hst, hg _ h4]; rfl)
    · refine .inl (decide_eq_true ?_)
      unfold stry at hst
      rw [decide_eq_true_eq, Classical.not_forall] at hst
      obtain ⟨j, hj⟩ := hst
      rw [Classical.not_imp, Classical.not_not] at hj
      obtain ⟨hj, hje⟩ := hj
      refine ⟨j, ?_, hje⟩
      rcases Nat.lt_trichotomy j i with h5 | h5 | h5
      · exact h5
      · subst h5
        unfold yto at h3
        rw [if_neg (by omega)] at h3
        omega
      · have hp := yfi_iff.1 hf j hj i h5
        unfold Ypas at hp
        rw [hje] at hp
        have he : ¬ ((S.getD i s0).e < 0 ∨ (k : Int) < (S.getD i s0).e) := fun z => hp ⟨by omega, z⟩
        unfold yto at h3
        rw [if_neg (fun z => he (.inl z))] at h3
        exact absurd (.inr h3) he)
  have h2 := ctb_hit (S := S) (i := i) (n := l.length)
  omega
end
end Go.Proofs.Ytefcjlacjafnoaa
