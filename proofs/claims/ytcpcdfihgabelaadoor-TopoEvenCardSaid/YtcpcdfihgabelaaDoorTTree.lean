/- Topologies as lists of numbers: leaves, depths, what may be. Plain: no program. -/
import Derived.WalkKit
namespace Go.Proofs.YtcpcdfihgabelaaDoor

/-- Is place v nobody's parent? -/
def lfB (P : List Int) (v : Nat) : Bool := !P.contains (v : Int)
/-- The leaves below k. -/
def lfk (P : List Int) (k : Nat) : List Int := ((List.range k).filter (lfB P)).map Int.ofNat
/-- The leaves. -/
def lf (P : List Int) : List Int := lfk P P.length
/-- Does place v stand behind its parent? -/
def formAt (P : List Int) (v : Nat) : Bool := if v = 0 then P.getD 0 0 == -1 else decide (0 ≤ P.getD v 0) && decide (P.getD v 0 < (v : Int))
def formB (P : List Int) : Bool := (List.range P.length).all (formAt P)
/-- The depths of the first k places. -/
def dl (P : List Int) : Nat → List Int
  | 0 => []
  | k + 1 => dl P k ++ [if P.getD k 0 = -1 then 1 else 1 + (dl P k).getD (P.getD k 0).toNat 0]
/-- How deep place v is. -/
def dv (P : List Int) (v : Nat) : Int := (dl P (v + 1)).getD v 0
/-- How deep the first leaf is. -/
def d0 (P : List Int) : Int := dv P ((lf P).headD 0).toNat
def evenB (P : List Int) : Bool := decide (d0 P ≤ 5) && (lf P).all fun l => dv P l.toNat == d0 P
def treeB (P : List Int) : Bool := formB P && evenB P
/-- Why a topology may not be. -/
def chk (P T : List Int) : Int := if ¬ (1 ≤ P.length ∧ P.length ≤ 32 ∧ 1 ≤ T.length ∧ T.length ≤ 32) then 8 else if treeB P = false then 9 else if (T.all fun t => (lf P).contains t) = false then 4 else 0

section
variable {P T : List Int} {k v : Nat}

theorem dl_len : (dl P k).length = k := by
  induction k with
  | zero => rfl
  | succ k ih => simp [dl, ih]
theorem dl_at (h : v < k) : (dl P k).getD v 0 = dv P v := by
  induction k with
  | zero => omega
  | succ k ih =>
    rcases Nat.lt_or_ge v k with h1 | h1
    · rw [← ih h1, dl]
      simp only [List.getD_eq_getElem?_getD]
      rw [List.getElem?_append_left (by rw [dl_len]; exact h1)]
    · obtain rfl : v = k := by omega
      rfl
theorem dv_eq : dv P v = if P.getD v 0 = -1 then 1 else 1 + (dl P v).getD (P.getD v 0).toNat 0 := by
  have h := @dl_len P v
  unfold dv
  rw [dl]
  simp only [List.getD_eq_getElem?_getD]
  rw [List.getElem?_append_right (by omega), h, Nat.sub_self]
  rfl
theorem formB_at (h : formB P = true) (hv : v < P.length) : formAt P v = true := List.all_eq_true.1 h v (List.mem_range.2 hv)
theorem form_root (h : formB P = true) (hv : 0 < P.length) : P.getD 0 0 = -1 := by
  have := formB_at h hv
  simpa [formAt] using this
theorem form_par (h : formB P = true) (hv : v < P.length) (h0 : 0 < v) : 0 ≤ P.getD v 0 ∧ P.getD v 0 < (v : Int) := by
  have := formB_at h hv
  unfold formAt at this
  rw [if_neg (by omega)] at this
  simpa using this
theorem form_bad (hv : v < P.length) (h : formAt P v = false) : formB P = false := by
  cases hf : formB P with
  | false => rfl
  | true => rw [formB_at hf hv] at h; cases h
theorem form_ok (h : ∀ v, v < P.length → formAt P v = true) : formB P = true := List.all_eq_true.2 fun v hv => h v (List.mem_range.1 hv)
theorem dv_root (h : formB P = true) (hv : 0 < P.length) : dv P 0 = 1 := by rw [dv_eq, if_pos (form_root h hv)]
theorem dv_par (h : formB P = true) (hv : v < P.length) (h0 : 0 < v) : dv P v = 1 + dv P (P.getD v 0).toNat := by
  have := form_par h hv h0
  rw [dv_eq, if_neg (by omega), dl_at (by omega)]
theorem dv_bound (h : formB P = true) : ∀ v, v < P.length → 1 ≤ dv P v ∧ dv P v ≤ (v : Int) + 1 := by
  intro v
  induction v using Nat.strongRecOn with
  | ind v ih =>
    intro hv
    rcases Nat.eq_zero_or_pos v with h0 | h0
    · subst h0
      rw [dv_root h hv]
      omega
    · have h1 := form_par h hv h0
      have h2 := ih (P.getD v 0).toNat (by omega) (by omega)
      rw [dv_par h hv h0]
      omega

theorem lfk_succ : lfk P (k + 1) = lfk P k ++ if lfB P k = true then [(k : Int)] else [] := by
  unfold lfk
  rw [List.range_succ, List.filter_append, List.map_append]
  congr 1
  cases h : lfB P k <;> simp [h]
theorem lfk_yes (h : lfB P k = true) : lfk P (k + 1) = lfk P k ++ [(k : Int)] := by rw [lfk_succ, if_pos h]
theorem lfk_no (h : lfB P k = false) : lfk P (k + 1) = lfk P k := by rw [lfk_succ, if_neg (by simp [h]), List.append_nil]
theorem mem_lfk {x : Int} : x ∈ lfk P k ↔ ∃ v, v < k ∧ x = (v : Int) ∧ (v : Int) ∉ P := by
  simp [lfk, lfB]
  constructor
  · rintro ⟨v, ⟨h1, h2⟩, rfl⟩
    exact ⟨v, h1, rfl, h2⟩
  · rintro ⟨v, h1, rfl, h2⟩
    exact ⟨v, ⟨h1, h2⟩, rfl⟩
theorem lfk_len : (lfk P k).length ≤ k := by
  unfold lfk
  rw [List.length_map]
  have := List.length_filter_le (lfB P) (List.range k)
  simpa using this
theorem mem_lf {x : Int} : x ∈ lf P ↔ (0 ≤ x ∧ x < P.length ∧ x ∉ P) := by
  unfold lf
  rw [mem_lfk]
  constructor
  · rintro ⟨v, h1, rfl, h2⟩
    exact ⟨by omega, by omega, h2⟩
  · rintro ⟨h1, h2, h3⟩
    exact ⟨x.toNat, by omega, by omega, by rwa [show (x.toNat : Int) = x by omega]⟩
theorem lfk_pre {m : Nat} (h : k ≤ m) : ∃ R, lfk P m = lfk P k ++ R := by
  induction m with
  | zero =>
    obtain rfl : k = 0 := by omega
    exact ⟨[], by simp⟩
  | succ m ih =>
    rcases Nat.lt_or_ge m k with h1 | h1
    · obtain rfl : k = m + 1 := by omega
      exact ⟨[], by simp⟩
    · obtain ⟨R, hR⟩ := ih h1
      rw [lfk_succ, hR]
      exact ⟨_, List.append_assoc _ _ _⟩
theorem lf_ne (h : formB P = true) (h0 : 0 < P.length) : lf P ≠ [] := by
  intro e
  have : ((P.length - 1 : Nat) : Int) ∈ lf P := by
    rw [mem_lf]
    refine ⟨by omega, by omega, fun hm => ?_⟩
    obtain ⟨j, hj, he⟩ := List.getElem_of_mem hm
    have hg : P.getD j 0 = ((P.length - 1 : Nat) : Int) := by simp [List.getD, hj, he]
    rcases Nat.eq_zero_or_pos j with hz | hz
    · subst hz
      rw [form_root h h0] at hg
      omega
    · have := form_par h hj hz
      omega
  rw [e] at this
  cases this
/-- The first leaf is the first one that is met. -/
theorem d0_first (hk : k < P.length) (he : lfk P k = []) (hl : lfB P k = true) : d0 P = dv P k := by
  obtain ⟨R, hR⟩ := @lfk_pre P (k + 1) P.length hk
  rw [lfk_yes hl, he, List.nil_append] at hR
  unfold d0 lf
  rw [hR]
  rfl
theorem lfk_mem (hk : k < P.length) (hl : lfB P k = true) : (k : Int) ∈ lf P := by
  rw [mem_lf]
  refine ⟨by omega, by omega, fun hm => ?_⟩
  unfold lfB at hl
  rw [List.contains_iff_mem.2 hm] at hl
  cases hl
theorem even_bad {x : Int} (hx : x ∈ lf P) (h : dv P x.toNat ≠ d0 P) : evenB P = false := by
  cases he : evenB P with
  | false => rfl
  | true =>
    unfold evenB at he
    rw [Bool.and_eq_true] at he
    have := List.all_eq_true.1 he.2 x hx
    exact absurd (by simpa using this) h
theorem even_deep (h : ¬ d0 P ≤ 5) : evenB P = false := by unfold evenB; simp [h]
theorem even_ok (h5 : d0 P ≤ 5) (h : ∀ x ∈ lf P, dv P x.toNat = d0 P) : evenB P = true := by
  unfold evenB
  rw [Bool.and_eq_true]
  exact ⟨by simpa using h5, List.all_eq_true.2 fun x hx => by simpa using h x hx⟩
theorem even_at (h : evenB P = true) {x : Int} (hx : x ∈ lf P) : dv P x.toNat = d0 P := by
  unfold evenB at h
  rw [Bool.and_eq_true] at h
  simpa using List.all_eq_true.1 h.2 x hx
theorem even_five (h : evenB P = true) : d0 P ≤ 5 := by
  unfold evenB at h
  rw [Bool.and_eq_true] at h
  simpa using h.1

theorem chk_many (h : ¬ (1 ≤ P.length ∧ P.length ≤ 32 ∧ 1 ≤ T.length ∧ T.length ≤ 32)) : chk P T = 8 := by unfold chk; rw [if_pos h]
theorem chk_tree (h : 1 ≤ P.length ∧ P.length ≤ 32 ∧ 1 ≤ T.length ∧ T.length ≤ 32) (ht : treeB P = false) : chk P T = 9 := by
  unfold chk
  rw [if_neg (by simpa using h), if_pos ht]
theorem chk_none (h : 1 ≤ P.length ∧ P.length ≤ 32 ∧ 1 ≤ T.length ∧ T.length ≤ 32) (ht : treeB P = true) {x : Int} (hx : x ∈ T) (hn : x ∉ lf P) : chk P T = 4 := by
  unfold chk
  rw [if_neg (by simpa using h), if_neg (by simp [ht]), if_pos]
  rw [List.all_eq_false]
  exact ⟨x, hx, by simpa using hn⟩
theorem chk_ok (h : 1 ≤ P.length ∧ P.length ≤ 32 ∧ 1 ≤ T.length ∧ T.length ≤ 32) (ht : treeB P = true) (hx : ∀ x ∈ T, x ∈ lf P) : chk P T = 0 := by
  unfold chk
  rw [if_neg (by simpa using h), if_neg (by simp [ht]), if_neg]
  simp
  exact hx
theorem chk_cases (P T : List Int) : chk P T = 8 ∨ chk P T = 9 ∨ chk P T = 4 ∨ chk P T = 0 := by
  unfold chk
  split
  · exact .inl rfl
  · split
    · exact .inr (.inl rfl)
    · split
      · exact .inr (.inr (.inl rfl))
      · exact .inr (.inr (.inr rfl))
theorem chk_zero (h : chk P T = 0) : (1 ≤ P.length ∧ P.length ≤ 32 ∧ 1 ≤ T.length ∧ T.length ≤ 32) ∧ formB P = true ∧ evenB P = true ∧ ∀ x ∈ T, x ∈ lf P := by
  unfold chk at h
  split at h
  · cases h
  · next h1 =>
    split at h
    · cases h
    · next h2 =>
      split at h
      · cases h
      · next h3 =>
        have ht : treeB P = true := by simpa using h2
        unfold treeB at ht
        rw [Bool.and_eq_true] at ht
        refine ⟨by simpa using h1, ht.1, ht.2, ?_⟩
        simpa using h3
end
end Go.Proofs.YtcpcdfihgabelaaDoor
