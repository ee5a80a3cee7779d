/- Texts of numbers as lists of bytes: digits, values, the longest beginning that is a text, lists with a comma between two. It speaks of no program. -/
namespace Go.Proofs.YtoegnnhnfkecoaaDoor

/-- The last digit of a number. -/
def dg (n : Nat) : UInt8 := UInt8.ofNat (48 + n % 10)
/-- The decimal digits of a number. -/
def nt (n : Nat) : List UInt8 := if n < 10 then [dg n] else nt (n / 10) ++ [dg n]
  termination_by n
  decreasing_by omega
/-- A number's text. -/
def txt (n : Int) : List UInt8 := if n < 0 then 45 :: nt n.natAbs else nt n.natAbs
def isD (c : UInt8) : Prop := 48 ≤ c.toNat ∧ c.toNat ≤ 57
instance (c : UInt8) : Decidable (isD c) := by unfold isD; infer_instance
/-- What digits come to. -/
def nv (l : List UInt8) : Nat := l.foldl (fun a c => 10 * a + (c.toNat - 48)) 0

theorem dg_nat (n : Nat) : (dg n).toNat = 48 + n % 10 := by
  unfold dg
  rw [UInt8.toNat_ofNat']
  omega
theorem dg_isD (n : Nat) : isD (dg n) := by
  unfold isD
  rw [dg_nat]
  omega
theorem nt_small {n : Nat} (h : n < 10) : nt n = [dg n] := by rw [nt, if_pos h]
theorem nt_step {n : Nat} (h : 10 ≤ n) : nt n = nt (n / 10) ++ [dg n] := by rw [nt, if_neg (by omega)]
theorem nt_isD (n : Nat) : ∀ c ∈ nt n, isD c := by
  induction n using Nat.strongRecOn with
  | ind n ih =>
    intro c hc
    rcases Nat.lt_or_ge n 10 with h | h
    · rw [nt_small h] at hc
      simp at hc
      subst hc
      exact dg_isD n
    · rw [nt_step h] at hc
      rcases List.mem_append.1 hc with h1 | h1
      · exact ih _ (by omega) c h1
      · simp at h1
        subst h1
        exact dg_isD n
theorem nt_ne (n : Nat) : nt n ≠ [] := by
  rcases Nat.lt_or_ge n 10 with h | h
  · rw [nt_small h]; simp
  · rw [nt_step h]; simp
theorem nv_nil : nv [] = 0 := rfl
theorem nv_snoc (l : List UInt8) (c : UInt8) : nv (l ++ [c]) = 10 * nv l + (c.toNat - 48) := by
  unfold nv
  rw [List.foldl_append]
  rfl
theorem nv_nt (n : Nat) : nv (nt n) = n := by
  induction n using Nat.strongRecOn with
  | ind n ih =>
    rcases Nat.lt_or_ge n 10 with h | h
    · rw [nt_small h]
      show 10 * 0 + ((dg n).toNat - 48) = n
      rw [dg_nat]
      omega
    · rw [nt_step h, nv_snoc, ih _ (by omega), dg_nat]
      omega
theorem nt_inj {a b : Nat} (h : nt a = nt b) : a = b := by rw [← nv_nt a, h, nv_nt]
theorem nv_append_le (l t : List UInt8) : nv l ≤ nv (l ++ t) := by
  induction t generalizing l with
  | nil => simp
  | cons c t ih =>
    have := ih (l ++ [c])
    rw [nv_snoc] at this
    rw [List.append_assoc] at this
    simp at this
    omega
theorem nv_take_le (l : List UInt8) {j k : Nat} (h : j ≤ k) : nv (l.take j) ≤ nv (l.take k) := by
  have : l.take k = l.take j ++ (l.take k).drop j := by
    have := (List.take_append_drop j (l.take k)).symm
    rwa [List.take_take, Nat.min_eq_left h] at this
  rw [this]
  exact nv_append_le _ _
theorem dg_of {c : UInt8} (h : isD c) (q : Nat) : dg (10 * q + (c.toNat - 48)) = c := by
  unfold isD at h
  apply UInt8.toNat_inj.1
  rw [dg_nat]
  omega
theorem nt_one {c : UInt8} (h : isD c) : nt (c.toNat - 48) = [c] := by
  have := dg_of h 0
  unfold isD at h
  rw [nt_small (by omega)]
  simp at this
  rw [this]
theorem nt_grow {v : Nat} {c : UInt8} (h0 : 0 < v) (h : isD c) : nt (10 * v + (c.toNat - 48)) = nt v ++ [c] := by
  have hc := dg_of h v
  unfold isD at h
  rw [nt_step (by omega), hc, show (10 * v + (c.toNat - 48)) / 10 = v by omega]
theorem nt_zero : nt 0 = [48] := by rw [nt_small (by omega)]; rfl
theorem nt_len {k : Nat} (n : Nat) (h : n < 10 ^ (k + 1)) : (nt n).length ≤ k + 1 := by
  induction k generalizing n with
  | zero => rw [nt_small (by simpa using h)]; simp
  | succ k ih =>
    rcases Nat.lt_or_ge n 10 with h1 | h1
    · rw [nt_small h1]; simp
    · rw [nt_step h1, List.length_append]
      have := ih (n / 10) (by rw [Nat.pow_succ] at h; omega)
      simp
      omega
theorem nt_len19 {n : Nat} (h : n ≤ 9223372036854775808) : (nt n).length ≤ 19 := nt_len (k := 18) n (by omega)
/-- No 0 is ahead of other digits. -/
theorem nt_head {n : Nat} {t : List UInt8} (h : nt n = 48 :: t) : n = 0 ∧ t = [] := by
  induction n using Nat.strongRecOn generalizing t with
  | ind n ih =>
    rcases Nat.lt_or_ge n 10 with h1 | h1
    · rw [nt_small h1] at h
      injection h with h2 h3
      have := dg_nat n
      rw [h2] at this
      have e : (48 : UInt8).toNat = 48 := rfl
      rw [e] at this
      exact ⟨by omega, h3.symm⟩
    · rw [nt_step h1] at h
      cases e : nt (n / 10) with
      | nil => exact absurd e (nt_ne _)
      | cons a u =>
        rw [e] at h
        injection h with h2 h3
        subst h2
        have := (ih _ (by omega) e).1
        omega

theorem txt_neg {n : Int} (h : n < 0) : txt n = 45 :: nt n.natAbs := if_pos h
theorem txt_pos {n : Int} (h : 0 ≤ n) : txt n = nt n.natAbs := if_neg (by omega)
theorem not_isD_minus : ¬ isD 45 := by decide
theorem nt_no_minus {n : Nat} {t : List UInt8} : nt n ≠ 45 :: t := by
  intro h
  exact not_isD_minus (nt_isD n 45 (by rw [h]; simp))
theorem txt_ne (n : Int) : txt n ≠ [] := by
  unfold txt
  split
  · simp
  · exact nt_ne _
theorem txt_inj {a b : Int} (h : txt a = txt b) : a = b := by
  unfold txt at h
  split at h <;> split at h
  · injection h with _ h
    have := nt_inj h
    omega
  · exact absurd h.symm nt_no_minus
  · exact absurd h nt_no_minus
  · have := nt_inj h
    omega
/-- The ints. -/
def InR (n : Int) : Prop := -9223372036854775808 ≤ n ∧ n ≤ 9223372036854775807
theorem txt_len {n : Int} (h : InR n) : (txt n).length ≤ 20 := by
  unfold InR at h
  have := nt_len19 (n := n.natAbs) (by omega)
  unfold txt
  split <;> simp <;> omega
theorem txt_bytes (n : Int) : ∀ c ∈ txt n, isD c ∨ c = 45 := by
  intro c hc
  unfold txt at hc
  split at hc
  · rcases List.mem_cons.1 hc with h | h
    · exact .inr h
    · exact .inl (nt_isD _ c h)
  · exact .inl (nt_isD _ c hc)
theorem txt_no_comma (n : Int) : (44 : UInt8) ∉ txt n := by
  intro h
  rcases txt_bytes n 44 h with h | h
  · exact absurd h (by decide)
  · exact absurd h (by decide)

/-- A number and its text. -/
def Num (n : Int) (s : List UInt8) : Prop := InR n ∧ txt n = s
theorem Num.inj {a b : Int} {s : List UInt8} (h : Num a s) (k : Num b s) : a = b := txt_inj (h.2.trans k.2.symm)
theorem Num.ne {a : Int} (h : Num a []) : False := txt_ne a h.2
theorem Num.len {a : Int} {s : List UInt8} (h : Num a s) : s.length ≤ 20 := h.2 ▸ txt_len h.1
theorem Num.comma {a : Int} {s : List UInt8} (h : Num a s) : (44 : UInt8) ∉ s := h.2 ▸ txt_no_comma a

open Classical in
/-- The number of a text; 0: there is none. -/
noncomputable def pn (s : List UInt8) : Int := if h : ∃ n, Num n s then choose h else 0
open Classical in
/-- What is wrong with it. -/
noncomputable def pe (s : List UInt8) : Int := if ∃ n, Num n s then 0 else 2
theorem pn_yes {n : Int} {s : List UInt8} (h : Num n s) : pn s = n := by
  unfold pn
  rw [dif_pos ⟨n, h⟩]
  exact (Classical.choose_spec (⟨n, h⟩ : ∃ n, Num n s)).inj h
theorem pe_yes {n : Int} {s : List UInt8} (h : Num n s) : pe s = 0 := if_pos ⟨n, h⟩
theorem pn_no {s : List UInt8} (h : ∀ n, ¬ Num n s) : pn s = 0 := dif_neg fun ⟨n, k⟩ => h n k
theorem pe_no {s : List UInt8} (h : ∀ n, ¬ Num n s) : pe s = 2 := if_neg fun ⟨n, k⟩ => h n k
theorem pe_cases (s : List UInt8) : (∃ n, Num n s ∧ pn s = n ∧ pe s = 0) ∨ ((∀ n, ¬ Num n s) ∧ pn s = 0 ∧ pe s = 2) := by
  by_cases h : ∃ n, Num n s
  · obtain ⟨n, h⟩ := h
    exact .inl ⟨n, h, pn_yes h, pe_yes h⟩
  · have h' : ∀ n, ¬ Num n s := fun n k => h ⟨n, k⟩
    exact .inr ⟨h', pn_no h', pe_no h'⟩
theorem pe_zero {s : List UInt8} (h : pe s = 0) : Num (pn s) s := by
  rcases pe_cases s with ⟨n, h1, h2, _⟩ | ⟨_, _, h3⟩
  · rwa [h2]
  · rw [h] at h3
    cases h3

/-- The longest beginning that is a number's text. -/
structure Longest (s : List UInt8) (k : Nat) (n : Int) : Prop where
  le : k ≤ s.length
  here : (k = 0 ∧ n = 0) ∨ (0 < k ∧ Num n (s.take k))
  most : ∀ j, k < j → j ≤ s.length → ∀ m, ¬ Num m (s.take j)
theorem Longest.same {s : List UInt8} {k j : Nat} {n m : Int} (h : Longest s k n) (h' : Longest s j m) : k = j ∧ n = m := by
  have e : k = j := by
    rcases Nat.lt_trichotomy k j with c | c | c
    · rcases h'.here with ⟨e, _⟩ | ⟨_, q⟩
      · omega
      · exact absurd q (h.most j c h'.le m)
    · exact c
    · rcases h.here with ⟨e, _⟩ | ⟨_, q⟩
      · omega
      · exact absurd q (h'.most k c h.le n)
  subst e
  refine ⟨rfl, ?_⟩
  rcases h.here with ⟨e, e1⟩ | ⟨e, q⟩ <;> rcases h'.here with ⟨d, d1⟩ | ⟨d, r⟩
  · rw [e1, d1]
  · omega
  · omega
  · exact q.inj r
theorem longest_some (s : List UInt8) : ∃ k n, Longest s k n := by
  have key : ∀ b, b ≤ s.length → (∀ j, b < j → j ≤ s.length → ∀ m, ¬ Num m (s.take j)) → ∃ k n, Longest s k n := by
    intro b
    induction b with
    | zero => exact fun h1 h2 => ⟨0, 0, h1, .inl ⟨rfl, rfl⟩, h2⟩
    | succ b ih =>
      intro h1 h2
      by_cases h : ∃ n, Num n (s.take (b + 1))
      · obtain ⟨n, h⟩ := h
        exact ⟨b + 1, n, h1, .inr ⟨by omega, h⟩, h2⟩
      · refine ih (by omega) fun j hj hl m hm => ?_
        rcases Nat.lt_or_ge (b + 1) j with c | c
        · exact h2 j c hl m hm
        · obtain rfl : j = b + 1 := by omega
          exact h ⟨m, hm⟩
  exact key s.length (Nat.le_refl _) fun j h1 h2 => by omega
noncomputable def tk (s : List UInt8) : Nat := Classical.choose (longest_some s)
noncomputable def tn (s : List UInt8) : Int := Classical.choose (Classical.choose_spec (longest_some s))
theorem tk_spec (s : List UInt8) : Longest s (tk s) (tn s) := Classical.choose_spec (Classical.choose_spec (longest_some s))
theorem Longest.is {s : List UInt8} {k : Nat} {n : Int} (h : Longest s k n) : tk s = k ∧ tn s = n := (tk_spec s).same h
/-- A text is a number's just if its longest beginning that is one is all of it. -/
theorem whole_yes {s : List UInt8} (h0 : tk s ≠ 0) (h1 : tk s = s.length) : pn s = tn s ∧ pe s = 0 := by
  have h := tk_spec s
  rcases h.here with ⟨e, _⟩ | ⟨_, q⟩
  · exact absurd e h0
  · rw [h1, List.take_length] at q
    exact ⟨pn_yes q, pe_yes q⟩
theorem whole_no {s : List UInt8} (h : tk s = 0 ∨ tk s < s.length) : pn s = 0 ∧ pe s = 2 := by
  have h' : ∀ n, ¬ Num n s := by
    intro n hn
    have hs := tk_spec s
    by_cases hl : s.length = 0
    · have : s = [] := List.eq_nil_of_length_eq_zero hl
      subst this
      exact hn.ne
    · refine hs.most s.length (by omega) (Nat.le_refl _) n ?_
      rwa [List.take_length]
  exact ⟨pn_no h', pe_no h'⟩

/-- A text, and then one that is no digit: the text is the longest beginning that is one. -/
theorem longest_then {n : Int} (h : InR n) {c : UInt8} (hc : ¬ isD c) (hm : c ≠ 45) (t : List UInt8) : Longest (txt n ++ c :: t) (txt n).length n := by
  refine ⟨by simp, .inr ⟨List.length_pos_iff.2 (txt_ne n), h, ?_⟩, ?_⟩
  · simp
  · intro j h1 _ m hk
    have : c ∈ (txt n ++ c :: t).take j := by
      rw [List.take_append]
      obtain ⟨i, hi⟩ : ∃ i, j - (txt n).length = i + 1 := ⟨j - (txt n).length - 1, by omega⟩
      rw [hi]
      simp
    rw [← hk.2] at this
    rcases txt_bytes m c this with e | e
    · exact hc e
    · exact hm e

/-! ## Lists -/

/-- Texts with a comma between two. -/
def join : List (List UInt8) → List UInt8
  | [] => []
  | [a] => a
  | a :: b :: t => a ++ 44 :: join (b :: t)
/-- What stands between commas. -/
def cut : List UInt8 → List (List UInt8)
  | [] => [[]]
  | c :: t => if c = 44 then [] :: cut t else match cut t with
    | [] => [[c]]
    | a :: u => (c :: a) :: u
theorem cut_ne (s : List UInt8) : cut s ≠ [] := by
  cases s with
  | nil => simp [cut]
  | cons c t =>
    unfold cut
    split
    · simp
    · split <;> simp
theorem join_cut (s : List UInt8) : join (cut s) = s := by
  induction s with
  | nil => rfl
  | cons c t ih =>
    unfold cut
    cases h : cut t with
    | nil => exact absurd h (cut_ne t)
    | cons a u =>
      rw [h] at ih
      split
      · rename_i e
        subst e
        show [] ++ 44 :: join (a :: u) = _
        rw [ih]
        rfl
      · cases u with
        | nil =>
          show c :: a = _
          rw [show a = t from ih]
        | cons b u =>
          show (c :: a) ++ 44 :: join (b :: u) = _
          have : a ++ 44 :: join (b :: u) = t := ih
          rw [← this]
          rfl
theorem cut_plain {a : List UInt8} (h : (44 : UInt8) ∉ a) : cut a = [a] := by
  induction a with
  | nil => rfl
  | cons c t ih =>
    simp at h
    unfold cut
    rw [if_neg (by intro e; exact h.1 e.symm), ih h.2]
theorem cut_comma {a : List UInt8} (h : (44 : UInt8) ∉ a) (t : List UInt8) : cut (a ++ 44 :: t) = a :: cut t := by
  induction a with
  | nil => simp [cut]
  | cons c u ih =>
    simp at h
    show cut (c :: (u ++ 44 :: t)) = _
    rw [cut, if_neg (by intro e; exact h.1 e.symm), ih h.2]
theorem cut_join {l : List (List UInt8)} (hl : l ≠ []) (h : ∀ a ∈ l, (44 : UInt8) ∉ a) : cut (join l) = l := by
  induction l with
  | nil => exact absurd rfl hl
  | cons a t ih =>
    cases t with
    | nil => exact cut_plain (h a (by simp))
    | cons b u =>
      show cut (a ++ 44 :: join (b :: u)) = _
      rw [cut_comma (h a (by simp)), ih (by simp) (fun x hx => h x (by simp at hx ⊢; exact .inr hx))]
/-- The text of numbers. -/
def ltxt (l : List Int) : List UInt8 := join (l.map txt)
open Classical in
/-- The numbers of a text; none: there is something wrong. -/
noncomputable def lnum (s : List UInt8) : List Int := if s = [] then [] else if ∀ p ∈ cut s, pe p = 0 then (cut s).map pn else []
open Classical in
noncomputable def lerr (s : List UInt8) : Int := if s = [] then 0 else if ∀ p ∈ cut s, pe p = 0 then 0 else 2
theorem lnum_nil : lnum [] = [] := if_pos rfl
theorem lerr_nil : lerr [] = 0 := if_pos rfl
theorem lnum_yes {s : List UInt8} (h0 : s ≠ []) (h : ∀ p ∈ cut s, pe p = 0) : lnum s = (cut s).map pn ∧ lerr s = 0 := by
  unfold lnum lerr
  rw [if_neg h0, if_pos h, if_neg h0, if_pos h]
  exact ⟨rfl, rfl⟩
theorem lnum_no {s : List UInt8} (h0 : s ≠ []) {p : List UInt8} (hp : p ∈ cut s) (h : pe p ≠ 0) : lnum s = [] ∧ lerr s = 2 := by
  unfold lnum lerr
  rw [if_neg h0, if_neg (fun k => h (k p hp)), if_neg h0, if_neg (fun k => h (k p hp))]
  exact ⟨rfl, rfl⟩
theorem lerr_cases (s : List UInt8) : lerr s = 0 ∨ lerr s = 2 := by
  unfold lerr
  split
  · exact .inl rfl
  · split
    · exact .inl rfl
    · exact .inr rfl
theorem ltxt_nil : ltxt [] = [] := rfl
theorem ltxt_ne {l : List Int} (h : l ≠ []) : ltxt l ≠ [] := by
  cases l with
  | nil => exact absurd rfl h
  | cons a t =>
    cases t with
    | nil => exact txt_ne a
    | cons b u =>
      show txt a ++ 44 :: join (txt b :: u.map txt) ≠ []
      simp
/-- Numbers come back from their text. -/
theorem lnum_ltxt {l : List Int} (h : ∀ n ∈ l, InR n) : lnum (ltxt l) = l ∧ lerr (ltxt l) = 0 := by
  by_cases hl : l = []
  · subst hl
    exact ⟨lnum_nil, lerr_nil⟩
  · have hc : cut (ltxt l) = l.map txt := cut_join (by simpa using hl) (fun a ha => by
      obtain ⟨n, _, rfl⟩ := List.mem_map.1 ha
      exact txt_no_comma n)
    have hp : ∀ p ∈ cut (ltxt l), pe p = 0 := by
      rw [hc]
      intro p hp
      obtain ⟨n, hn, rfl⟩ := List.mem_map.1 hp
      exact pe_yes ⟨h n hn, rfl⟩
    obtain ⟨h1, h2⟩ := lnum_yes (ltxt_ne hl) hp
    refine ⟨?_, h2⟩
    rw [h1, hc, List.map_map]
    have : ∀ n ∈ l, (pn ∘ txt) n = n := fun n hn => pn_yes ⟨h n hn, rfl⟩
    rw [List.map_congr_left this, List.map_id'' (fun _ => rfl)]
/-- A text comes back from its numbers. -/
theorem ltxt_lnum {s : List UInt8} (h : lerr s = 0) : ltxt (lnum s) = s ∧ ∀ n ∈ lnum s, InR n := by
  by_cases h0 : s = []
  · subst h0
    rw [lnum_nil]
    exact ⟨rfl, by simp⟩
  · by_cases hp : ∀ p ∈ cut s, pe p = 0
    · rw [(lnum_yes h0 hp).1]
      refine ⟨?_, ?_⟩
      · unfold ltxt
        rw [List.map_map]
        have : ∀ p ∈ cut s, (txt ∘ pn) p = p := fun p hp' => (pe_zero (hp p hp')).2
        rw [List.map_congr_left this, List.map_id'' (fun _ => rfl)]
        exact join_cut s
      · intro n hn
        obtain ⟨p, hp', rfl⟩ := List.mem_map.1 hn
        exact (pe_zero (hp p hp')).1
    · obtain ⟨p, hp⟩ := Classical.not_forall.1 hp
      obtain ⟨hp1, hp2⟩ := Classical.not_imp.1 hp
      rw [(lnum_no h0 hp1 hp2).2] at h
      cases h
/-! ## Division that goes to 0 -/
theorem tmod_two (n : Int) : (0 ≤ n ∧ n.tmod 10 = (n.natAbs % 10 : Nat)) ∨ (n < 0 ∧ n.tmod 10 = -((n.natAbs % 10 : Nat) : Int)) := by
  by_cases h : 0 ≤ n
  · refine .inl ⟨h, ?_⟩
    rw [Int.tmod_eq_emod_of_nonneg h]
    omega
  · refine .inr ⟨by omega, ?_⟩
    have h2 := Int.tmod_eq_emod_of_nonneg (a := -n) (b := 10) (by omega)
    rw [Int.neg_tmod] at h2
    omega

theorem natAbs_tdiv (r : Int) : (r.tdiv 10).natAbs = r.natAbs / 10 := by
  rw [Int.natAbs_tdiv]
  rfl
end Go.Proofs.YtoegnnhnfkecoaaDoor
