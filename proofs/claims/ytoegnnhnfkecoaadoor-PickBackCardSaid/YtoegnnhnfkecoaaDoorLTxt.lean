/- Lines and words of a text, as lists of bytes. It speaks of no program. -/
import Derived.Lib.IndexAny
import Derived.Lib.Strings
namespace Go.Proofs.YtoegnnhnfkecoaaDoor

/-- What is ahead of the first byte that is among cs. -/
def fst (cs l : List UInt8) : List UInt8 := l.takeWhile fun c => !cs.contains c
/-- From that byte on. -/
def rst (cs l : List UInt8) : List UInt8 := l.dropWhile fun c => !cs.contains c
/-- Without the bytes of cs with which it begins. -/
def trim (cs l : List UInt8) : List UInt8 := l.dropWhile fun c => cs.contains c

section
variable (cs l : List UInt8)
theorem fst_rst : fst cs l ++ rst cs l = l := List.takeWhile_append_dropWhile
theorem fst_len : (fst cs l).length ≤ l.length := by
  have := congrArg List.length (fst_rst cs l)
  rw [List.length_append] at this
  omega
theorem rst_len : (rst cs l).length = l.length - (fst cs l).length := by
  have := congrArg List.length (fst_rst cs l)
  rw [List.length_append] at this
  omega
theorem take_fst : l.take (fst cs l).length = fst cs l := by
  conv => lhs; arg 2; rw [← fst_rst cs l]
  exact List.take_left
theorem drop_fst : l.drop (fst cs l).length = rst cs l := by
  conv => lhs; arg 2; rw [← fst_rst cs l]
  exact List.drop_left
theorem trim_len : (trim cs l).length ≤ l.length := by
  unfold trim
  induction l with
  | nil => simp
  | cons c t ih =>
    rw [List.dropWhile_cons]
    split
    · exact Nat.le_succ_of_le ih
    · exact Nat.le_refl _
theorem fst_clean : ∀ c ∈ fst cs l, cs.contains c = false := by
  unfold fst
  induction l with
  | nil => intro c hc; cases hc
  | cons d t ih =>
    intro c hc
    rw [List.takeWhile_cons] at hc
    cases hd : cs.contains d with
    | true => rw [hd] at hc; cases hc
    | false =>
      rw [hd] at hc
      rcases List.mem_cons.1 hc with h | h
      · rw [h, hd]
      · exact ih c h
end

section
variable {cs : List UInt8}
theorem fst_nil : fst cs [] = [] := rfl
theorem rst_nil : rst cs [] = [] := rfl
theorem fst_hit {c : UInt8} {t : List UInt8} (h : cs.contains c = true) : fst cs (c :: t) = [] := by
  unfold fst
  rw [List.takeWhile_cons, h]
  rfl
theorem rst_hit {c : UInt8} {t : List UInt8} (h : cs.contains c = true) : rst cs (c :: t) = c :: t := by
  unfold rst
  rw [List.dropWhile_cons, h]
  rfl
theorem fst_miss {c : UInt8} {t : List UInt8} (h : cs.contains c = false) : fst cs (c :: t) = c :: fst cs t := by
  unfold fst
  rw [List.takeWhile_cons, h]
  rfl
theorem rst_miss {c : UInt8} {t : List UInt8} (h : cs.contains c = false) : rst cs (c :: t) = rst cs t := by
  unfold rst
  rw [List.dropWhile_cons, h]
  rfl
theorem trim_hit {c : UInt8} {t : List UInt8} (h : cs.contains c = true) : trim cs (c :: t) = trim cs t := by
  unfold trim
  rw [List.dropWhile_cons, h]
  rfl
theorem trim_miss {c : UInt8} {t : List UInt8} (h : cs.contains c = false) : trim cs (c :: t) = c :: t := by
  unfold trim
  rw [List.dropWhile_cons, h]
  rfl
/-- What is behind the first part begins with a byte that parts, or is nothing. -/
theorem rst_form (l : List UInt8) : rst cs l = [] ∨ ∃ c t, rst cs l = c :: t ∧ cs.contains c = true := by
  induction l with
  | nil => exact .inl rfl
  | cons c t ih =>
    cases h : cs.contains c with
    | true => exact .inr ⟨c, t, rst_hit h, h⟩
    | false => rw [rst_miss h]; exact ih
/-- Where the library's search finds the first byte of cs. -/
theorem index_two (l : List UInt8) : (Lib.indexAny l cs = -1 ∧ fst cs l = l) ∨ (Lib.indexAny l cs = ((fst cs l).length : Int)) := by
  induction l with
  | nil => exact .inl ⟨rfl, rfl⟩
  | cons c t ih =>
    rw [Lib.indexAny]
    cases h : cs.contains c with
    | true => rw [fst_hit h]; exact .inr rfl
    | false =>
      rw [fst_miss h]
      simp only [Bool.false_eq_true, if_false]
      rcases ih with ⟨h1, h2⟩ | h1
      · rw [h1]
        exact .inl ⟨rfl, by rw [h2]⟩
      · rw [h1, if_neg (by intro e; have := beq_iff_eq.1 e; omega)]
        exact .inr (by simp)
end

/-! ## Words -/
def blanks : List UInt8 := [32, 9]
def hw (l : List UInt8) : List UInt8 := fst blanks (trim blanks l)
def hr (l : List UInt8) : List UInt8 := rst blanks (trim blanks l)
theorem hr_lt {l : List UInt8} (h : hw l ≠ []) : (hr l).length < l.length := by
  have h1 := rst_len blanks (trim blanks l)
  have h2 := trim_len blanks l
  have h3 := List.length_pos_iff.2 h
  have h4 := fst_len blanks (trim blanks l)
  unfold hr
  unfold hw at h3
  omega
theorem hr_le (l : List UInt8) : (hr l).length ≤ l.length := by
  have h1 := rst_len blanks (trim blanks l)
  have h2 := trim_len blanks l
  unfold hr
  omega
theorem hw_le (l : List UInt8) : (hw l).length ≤ l.length := by
  have h2 := trim_len blanks l
  have h4 := fst_len blanks (trim blanks l)
  unfold hw
  omega
def wds (l : List UInt8) : List (List UInt8) := if _h : hw l = [] then [] else hw l :: wds (hr l)
  termination_by l.length
  decreasing_by exact hr_lt _h
theorem wds_nil {l : List UInt8} (h : hw l = []) : wds l = [] := by rw [wds, dif_pos h]
theorem wds_cons {l : List UInt8} (h : hw l ≠ []) : wds l = hw l :: wds (hr l) := by rw [wds, dif_neg h]
theorem wds_len (l : List UInt8) : (wds l).length ≤ l.length := by
  obtain ⟨n, hn⟩ : ∃ n, n = l.length := ⟨_, rfl⟩
  induction n using Nat.strongRecOn generalizing l with
  | ind n ih =>
    by_cases h : hw l = []
    · rw [wds_nil h]; simp
    · have := hr_lt h
      have := ih _ (by omega) (hr l) rfl
      rw [wds_cons h]
      simp
      omega

/-! ## Lines -/
def lns : List UInt8 → List (List UInt8)
  | [] => []
  | c :: t => if c = 10 then [] :: lns t else match lns t with
    | [] => [[c]]
    | a :: u => (c :: a) :: u
theorem ten_hit : ([10] : List UInt8).contains 10 = true := rfl
theorem ten_miss {c : UInt8} (h : c ≠ 10) : ([10] : List UInt8).contains c = false := by simpa using h
theorem lns_step {l : List UInt8} (h : l ≠ []) : lns l = fst [10] l :: lns ((rst [10] l).drop 1) := by
  induction l with
  | nil => exact absurd rfl h
  | cons c t ih =>
    by_cases hc : c = 10
    · subst hc
      rw [fst_hit ten_hit, rst_hit ten_hit]
      simp [lns]
    · rw [fst_miss (ten_miss hc), rst_miss (ten_miss hc), lns, if_neg hc]
      cases t with
      | nil => rfl
      | cons d u => rw [ih (by simp)]
theorem lns_cut {a : List UInt8} (h : (10 : UInt8) ∉ a) (t : List UInt8) : lns (a ++ 10 :: t) = a :: lns t := by
  induction a with
  | nil => simp [lns]
  | cons c u ih =>
    simp at h
    show lns (c :: (u ++ 10 :: t)) = _
    rw [lns, if_neg (by intro e; exact h.1 e.symm), ih h.2]
theorem lns_one {a : List UInt8} (h : (10 : UInt8) ∉ a) (h0 : a ≠ []) : lns a = [a] := by
  induction a with
  | nil => exact absurd rfl h0
  | cons c u ih =>
    simp at h
    rw [lns, if_neg (by intro e; exact h.1 e.symm)]
    cases u with
    | nil => rfl
    | cons d v => rw [ih h.2 (by simp)]
theorem lns_len (l : List UInt8) : (lns l).length ≤ l.length := by
  induction l with
  | nil => simp [lns]
  | cons c t ih =>
    rw [lns]
    split
    · simp; omega
    · cases h : lns t with
      | nil => simp
      | cons a u =>
        rw [h] at ih
        simp at ih ⊢
        omega
/-- The text of lines. -/
def ltext : List (List UInt8) → List UInt8
  | [] => []
  | a :: u => a ++ 10 :: ltext u
theorem lns_ltext {l : List (List UInt8)} (h : ∀ a ∈ l, (10 : UInt8) ∉ a) : lns (ltext l) = l := by
  induction l with
  | nil => rfl
  | cons a u ih =>
    rw [ltext, lns_cut (h a (by simp)), ih (fun x hx => h x (by simp [hx]))]
theorem ltext_snoc (l : List (List UInt8)) (a : List UInt8) : ltext (l ++ [a]) = ltext l ++ (a ++ [10]) := by
  induction l with
  | nil => simp [ltext]
  | cons b u ih => simp [ltext, ih]
theorem ltext_next (l : List (List UInt8)) {k : Nat} (h : k < l.length) : ltext (l.take (k + 1)) = ltext (l.take k) ++ (l.getD k [] ++ [10]) := by
  rw [List.take_succ_eq_append_getElem h, ltext_snoc]
  simp [List.getD, h]
theorem ltext_len (l : List (List UInt8)) (n : Nat) (h : ∀ a ∈ l, a.length ≤ n) : (ltext l).length ≤ (n + 1) * l.length := by
  induction l with
  | nil => simp [ltext]
  | cons a u ih =>
    have h1 := h a (by simp)
    have h2 := ih (fun x hx => h x (by simp [hx]))
    simp only [ltext, List.length_append, List.length_cons, Nat.mul_add]
    omega
theorem drop_ten (l : List UInt8) : Lib.trimPrefix (rst [10] l) [10] = (rst [10] l).drop 1 := by
  rcases rst_form (cs := [10]) l with h | ⟨c, t, h, hc⟩
  · rw [h]; rfl
  · rw [h]
    have : c = 10 := by simpa using hc
    subst this
    simp [Lib.trimPrefix, Lib.hasPrefix, List.isPrefixOf]
end Go.Proofs.YtoegnnhnfkecoaaDoor
