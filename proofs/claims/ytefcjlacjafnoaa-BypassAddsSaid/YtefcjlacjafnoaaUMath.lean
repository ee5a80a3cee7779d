/- The automaton of a lock, plain: events, what each thread is at, who is in, what an event is told. It speaks of no program. -/
import Derived.Test.YtefcjlacjafnoaaMem
namespace Go.Proofs.Ytefcjlacjafnoaa

/-- An event. -/
structure Ev where
  k : Int
  t : Int
  r : Bool
  c : Int
def e0 : Ev := ⟨0, 0, false, 0⟩
/-- How many threads there are, of as many. -/
def um (t : Int) : Nat := if t < 0 then 0 else if 32 < t then 32 else t.toNat
theorem um_le {t : Int} : um t ≤ 32 := by unfold um; split <;> (try split) <;> omega
/-- What an event makes of its thread's state. -/
def stp (k a : Int) : Int := if k = 1 then 1 else if k = 2 then 2 else if k = 3 then 3 else if k = 4 then 0 else a
/-- What a thread is at behind events. -/
def st (l : List Ev) (t : Int) : Int := l.foldl (fun a e => if e.t = t then stp e.k a else a) 0
/-- What all are at. -/
def ats (n : Nat) (l : List Ev) : List Int := (List.range n).map fun (i : Nat) => st l i
/-- What a thread is at behind an event of a kind. -/
def aft (k : Int) : Int := if k = 4 then 0 else k
/-- Who is in. -/
def hol : List Int → Int
  | [] => -1
  | a :: t => if a = 2 then 0 else if hol t < 0 then -1 else hol t + 1
/-- Why an event of a thread there is may not be. -/
def why (A : List Int) (k t : Int) : Int :=
  if k = 1 then (if A.getD t.toNat 0 = 0 then 0 else 5) else if A.getD t.toNat 0 ≠ k - 1 then 6 else if k = 2 ∧ 0 ≤ hol A then 5 else 0
/-- What an event is told. -/
def dof (A : List Int) (e : Ev) : Int :=
  if e.r = true ∨ e.k < 0 ∨ 5 < e.k then 7 else if e.k = 0 ∨ e.k = 5 then 0 else if e.t < 0 ∨ (A.length : Int) ≤ e.t then 4 else why A e.k e.t
/-- What all are at behind it. -/
def mov (A : List Int) (e : Ev) : List Int := if dof A e = 0 ∧ 1 ≤ e.k ∧ e.k ≤ 4 then A.set e.t.toNat (aft e.k) else A
/-- What one thread is at. -/
def sta (A : List Int) (t : Int) : Int := if 0 ≤ t ∧ t < A.length then A.getD t.toNat 0 else 0
/-- The place of the first event that may not be, and why. -/
def run : List Int → List Ev → Nat → Int × Int
  | _, [], i => (i, 0)
  | A, e :: l, i => if dof A e = 0 then run (mov A e) l (i + 1) else (i, dof A e)
/-- Nobody is in, or just one. -/
def Ex (A : List Int) : Prop := ∀ i j, i < A.length → j < A.length → A.getD i 0 = 2 → A.getD j 0 = 2 → i = j

/-- A list by its last one. -/
theorem by_last {P : List Ev → Prop} (h0 : P []) (h : ∀ l e, P l → P (l ++ [e])) (l : List Ev) : P l := by
  have key : ∀ m : List Ev, P m.reverse := by
    intro m
    induction m with
    | nil => exact h0
    | cons e m ih =>
      rw [List.reverse_cons]
      exact h _ _ ih
  have := key l.reverse
  rwa [List.reverse_reverse] at this
section
variable {A : List Int} {l : List Ev} {e : Ev} {n k : Nat} {t : Int}
theorem st_snoc : st (l ++ [e]) t = if e.t = t then stp e.k (st l t) else st l t := by
  unfold st
  rw [List.foldl_append]
  rfl
theorem ev_take (h : k < l.length) : l.take (k + 1) = l.take k ++ [l.getD k e0] := by
  rw [List.take_succ_eq_append_getElem h]
  simp [List.getD, h]
theorem ev_drop (h : k < l.length) : l.drop k = l.getD k e0 :: l.drop (k + 1) := by
  rw [List.drop_eq_getElem_cons h]
  simp [List.getD, h]
theorem st_nil : st [] t = 0 := rfl
theorem st_in : 0 ≤ st l t ∧ st l t ≤ 3 := by
  refine by_last (P := fun l => 0 ≤ st l t ∧ st l t ≤ 3) ⟨Int.le_refl _, by rw [st_nil]; decide⟩ (fun l e ih => ?_) l
  show 0 ≤ st (l ++ [e]) t ∧ st (l ++ [e]) t ≤ 3
  rw [st_snoc]
  unfold stp
  repeat' split
  all_goals omega
theorem ats_len : (ats n l).length = n := by unfold ats; rw [List.length_map, List.length_range]
theorem ats_nil : ats n [] = List.replicate n 0 := by
  unfold ats
  apply List.ext_getElem
  · simp
  · intro i _ _
    simp [st_nil]
theorem ats_at (h : k < n) : (ats n l).getD k 0 = st l k := by
  unfold ats
  simp [List.getD, h]
theorem ats_set (h0 : 0 ≤ e.t) (_ : e.t < n) (hk : 1 ≤ e.k ∧ e.k ≤ 4) : ats n (l ++ [e]) = (ats n l).set e.t.toNat (aft e.k) := by
  unfold ats
  apply List.ext_getElem
  · simp
  · intro i h2 h3
    simp only [List.getElem_map, List.getElem_range, List.getElem_set]
    rw [st_snoc]
    have h2 : i < n := by simpa using h2
    by_cases hi : e.t.toNat = i
    · rw [if_pos hi, if_pos (by omega)]
      unfold stp aft
      repeat' split
      all_goals omega
    · rw [if_neg hi, if_neg (by omega)]
theorem ats_same (hk : e.k = 0 ∨ e.k = 5) : ats n (l ++ [e]) = ats n l := by
  unfold ats
  apply List.map_congr_left
  intro i _
  rw [st_snoc]
  unfold stp
  repeat' split
  all_goals omega
theorem sta_at (h : k < A.length) : sta A k = A.getD k 0 := by
  unfold sta
  rw [if_pos (by omega), Int.toNat_natCast]
theorem sta_out (h : ¬ (0 ≤ t ∧ t < A.length)) : sta A t = 0 := if_neg h
theorem st_out (h : ∀ e ∈ l, e.t ≠ t) : st l t = 0 := by
  revert h
  refine by_last (P := fun l => (∀ e ∈ l, e.t ≠ t) → st l t = 0) (fun _ => rfl) (fun l e ih h => ?_) l
  rw [st_snoc, if_neg (h e (by simp)), ih (fun x hx => h x (by simp [hx]))]
theorem sta_ats (h : ∀ e ∈ l, 0 ≤ e.t ∧ e.t < n) : sta (ats n l) t = st l t := by
  by_cases ht : 0 ≤ t ∧ t < n
  · unfold sta
    rw [ats_len, if_pos ht, ats_at (by omega)]
    congr 1
    omega
  · rw [sta_out (by rw [ats_len]; exact ht), st_out (fun e he => by have := h e he; omega)]
theorem dof_kind (h : e.r = true ∨ e.k < 0 ∨ 5 < e.k) : dof A e = 7 := if_pos h
theorem dof_ok (hr : e.r = false) (h : e.k = 0 ∨ e.k = 5) : dof A e = 0 := by
  unfold dof
  rw [if_neg (by rw [hr]; simp; omega), if_pos h]
theorem dof_none (hr : e.r = false) (h : 1 ≤ e.k ∧ e.k ≤ 4) (ht : e.t < 0 ∨ (A.length : Int) ≤ e.t) : dof A e = 4 := by
  unfold dof
  rw [if_neg (by rw [hr]; simp; omega), if_neg (by omega), if_pos ht]
theorem dof_why (hr : e.r = false) (h : 1 ≤ e.k ∧ e.k ≤ 4) (ht : 0 ≤ e.t ∧ e.t < A.length) : dof A e = why A e.k e.t := by
  unfold dof
  rw [if_neg (by rw [hr]; simp; omega), if_neg (by omega), if_neg (by omega)]
theorem mov_err (h : dof A e ≠ 0) : mov A e = A := if_neg (fun z => h z.1)
theorem mov_still (h : ¬ (1 ≤ e.k ∧ e.k ≤ 4)) : mov A e = A := if_neg (fun z => h z.2)
theorem mov_yes (h : dof A e = 0) (hk : 1 ≤ e.k ∧ e.k ≤ 4) : mov A e = A.set e.t.toNat (aft e.k) := if_pos ⟨h, hk⟩
theorem mov_len : (mov A e).length = A.length := by
  unfold mov
  split
  · rw [List.length_set]
  · rfl
/-- What may be is of a kind, of no reader, of a thread there is. -/
theorem dof_in (h : dof A e = 0) : (e.k = 0 ∨ e.k = 5) ∨ (1 ≤ e.k ∧ e.k ≤ 4 ∧ 0 ≤ e.t ∧ e.t < A.length ∧ why A e.k e.t = 0) := by
  unfold dof at h
  split at h
  · omega
  · rename_i h1
    split at h
    · rename_i h2
      exact .inl h2
    · split at h
      · omega
      · exact .inr ⟨by omega, by omega, by omega, by omega, h⟩
theorem mov_ats (h : dof (ats n l) e = 0) : mov (ats n l) e = ats n (l ++ [e]) := by
  rcases dof_in h with h1 | ⟨h1, h2, h3, h4, _⟩
  · rw [mov_still (by omega), ats_same h1]
  · rw [mov_yes h ⟨h1, h2⟩, ats_set h3 (by rw [ats_len] at h4; exact h4) ⟨h1, h2⟩]
theorem run_err (h : dof A e ≠ 0) : run A (e :: l) k = ((k : Int), dof A e) := if_neg h
theorem run_ok (h : dof A e = 0) : run A (e :: l) k = run (mov A e) l (k + 1) := if_pos h

/-- Who is in, by what it is. -/
theorem hol_cases (A : List Int) : (hol A = -1 ∧ ∀ j, j < A.length → A.getD j 0 ≠ 2) ∨ ∃ k : Nat, hol A = k ∧ k < A.length ∧ A.getD k 0 = 2 ∧ ∀ j, j < k → A.getD j 0 ≠ 2 := by
  induction A with
  | nil => exact .inl ⟨rfl, fun j h => by simp at h⟩
  | cons a l ih =>
    unfold hol
    by_cases ha : a = 2
    · subst ha
      exact .inr ⟨0, by simp, by simp, rfl, fun j h => by omega⟩
    · rw [if_neg ha]
      rcases ih with ⟨h1, h2⟩ | ⟨k, h1, h2, h3, h4⟩
      · refine .inl ⟨by rw [h1]; rfl, fun j hj => ?_⟩
        cases j with
        | zero => exact ha
        | succ j => exact h2 j (by simpa using hj)
      · refine .inr ⟨k + 1, by rw [h1, if_neg (by omega)]; omega, by simpa using h2, h3, fun j hj => ?_⟩
        cases j with
        | zero => exact ha
        | succ j => exact h4 j (by omega)
theorem hol_hit (h : k < A.length) (h2 : A.getD k 0 = 2) (hn : ∀ j, j < k → A.getD j 0 ≠ 2) : hol A = k := by
  rcases hol_cases A with ⟨_, h4⟩ | ⟨m, h3, h4, h5, h6⟩
  · exact absurd h2 (h4 k h)
  · rw [h3]
    rcases Nat.lt_trichotomy k m with x | x | x
    · exact absurd h2 (h6 k x)
    · rw [x]
    · exact absurd h5 (hn m x)
theorem hol_miss (hn : ∀ j, j < A.length → A.getD j 0 ≠ 2) : hol A = -1 := by
  rcases hol_cases A with ⟨h3, _⟩ | ⟨m, _, h4, h5, _⟩
  · exact h3
  · exact absurd h5 (hn m h4)
theorem hol_in : -1 ≤ hol A ∧ hol A < A.length := by
  rcases hol_cases A with ⟨h1, _⟩ | ⟨m, h1, h2, _⟩ <;> omega
theorem hol_one (hx : Ex A) (h : k < A.length) : A.getD k 0 = 2 ↔ hol A = k := by
  rcases hol_cases A with ⟨h1, h2⟩ | ⟨m, h1, h2, h3, _⟩
  · exact ⟨fun z => absurd z (h2 k h), fun z => by omega⟩
  · constructor
    · intro z
      rw [h1, hx m k h2 h h3 z]
    · intro z
      have : m = k := by omega
      rw [← this]
      exact h3
theorem ex_zero : Ex (List.replicate n 0) := by
  intro i j hi _ h _
  rw [List.length_replicate] at hi
  simp [List.getD, hi] at h
theorem getD_set {i : Nat} {x : Int} (h : k < A.length) : (A.set i x).getD k 0 = if i = k then x else A.getD k 0 := by
  simp only [List.getD_eq_getElem?_getD, List.getElem?_set]
  split
  · rename_i hik
    subst hik
    rw [if_pos h]
    rfl
  · rfl
theorem ex_mov (hx : Ex A) : Ex (mov A e) := by
  by_cases h : dof A e = 0 ∧ 1 ≤ e.k ∧ e.k ≤ 4
  · obtain ⟨h0, hk⟩ := h
    rw [mov_yes h0 hk]
    rcases dof_in h0 with h1 | ⟨_, _, ht0, ht1, hw⟩
    · omega
    · intro i j hi hj
      rw [List.length_set] at hi hj
      rw [getD_set hi, getD_set hj]
      by_cases h2 : e.k = 2
      · rw [h2] at hw ⊢
        have hn : ∀ j, j < A.length → A.getD j 0 ≠ 2 := by
          unfold why at hw
          rw [if_neg (by omega)] at hw
          split at hw
          · omega
          · split at hw
            · omega
            · rename_i hh
              rcases hol_cases A with ⟨_, h4⟩ | ⟨m, h3, _⟩
              · exact h4
              · exact absurd ⟨rfl, by omega⟩ hh
        intro hi2 hj2
        split at hi2
        · split at hj2
          · omega
          · exact absurd hj2 (hn j hj)
        · exact absurd hi2 (hn i hi)
      · have ha : aft e.k ≠ 2 := by unfold aft; split <;> omega
        intro hi2 hj2
        split at hi2
        · exact absurd hi2 ha
        · split at hj2
          · exact absurd hj2 ha
          · exact hx i j hi hj hi2 hj2
  · unfold mov
    rw [if_neg h]
    exact hx
/-- Who enters is coming. -/
theorem enters (h : dof A e = 0) (hk : e.k = 2) : sta A e.t = 1 := by
  rcases dof_in h with h1 | ⟨_, _, ht0, ht1, hw⟩
  · omega
  · unfold sta
    rw [if_pos ⟨ht0, ht1⟩]
    rw [hk] at hw
    unfold why at hw
    rw [if_neg (by omega)] at hw
    split at hw
    · omega
    · rename_i z
      omega
theorem why_ask {a : Int} (ha : A.getD t.toNat 0 = a) : why A 1 t = if a = 0 then 0 else 5 := by
  subst ha
  unfold why
  rw [if_pos rfl]
theorem why_enter {a : Int} (ha : A.getD t.toNat 0 = a) : why A 2 t = if a = 1 then (if 0 ≤ hol A then 5 else 0) else 6 := by
  subst ha
  unfold why
  rw [if_neg (by decide)]
  by_cases h : A.getD t.toNat 0 = 1
  · rw [if_neg (by omega), if_pos h]
    by_cases h2 : 0 ≤ hol A
    · rw [if_pos ⟨rfl, h2⟩, if_pos h2]
    · rw [if_neg (fun z => h2 z.2), if_neg h2]
  · rw [if_pos (by omega), if_neg h]
theorem why_exit {a : Int} (ha : A.getD t.toNat 0 = a) : why A 3 t = if a = 2 then 0 else 6 := by
  subst ha
  unfold why
  rw [if_neg (by decide)]
  by_cases h : A.getD t.toNat 0 = 2
  · rw [if_neg (by omega), if_pos h, if_neg (by omega)]
  · rw [if_pos (by omega), if_neg h]
theorem why_rest {a : Int} (ha : A.getD t.toNat 0 = a) : why A 4 t = if a = 3 then 0 else 6 := by
  subst ha
  unfold why
  rw [if_neg (by decide)]
  by_cases h : A.getD t.toNat 0 = 3
  · rw [if_neg (by omega), if_pos h, if_neg (by omega)]
  · rw [if_pos (by omega), if_neg h]
end
end Go.Proofs.Ytefcjlacjafnoaa
