/- How fair scripts are, plain: runs without a thread, the least number, how often, rounds. No program. -/
namespace Go.Proofs.Ythbldljdalcgcaa

section
variable {a : Nat → Int} {t : Int} {len n k m f : Nat}
/-- The longest run without t, and the run at the end, of the first m things of a. -/
def gapN (a : Nat → Int) (t : Int) : Nat → Nat × Nat
  | 0 => (0, 0)
  | m + 1 => if a m = t then ((gapN a t m).1, 0) else (max (gapN a t m).1 ((gapN a t m).2 + 1), (gapN a t m).2 + 1)
/-- A run without t. -/
def Lk (a : Nat → Int) (t : Int) (f m : Nat) : Prop := ∀ i, f ≤ i → i < f + m → a i ≠ t
theorem gap_hit (h : a m = t) : gapN a t (m + 1) = ((gapN a t m).1, 0) := by rw [gapN, if_pos h]
theorem gap_miss (h : a m ≠ t) : gapN a t (m + 1) = (max (gapN a t m).1 ((gapN a t m).2 + 1), (gapN a t m).2 + 1) := by rw [gapN, if_neg h]
theorem gap_spec (a : Nat → Int) (t : Int) (n : Nat) : (∀ f m, f + m ≤ n → Lk a t f m → m ≤ (gapN a t n).1) ∧ (∃ f, f + (gapN a t n).1 ≤ n ∧ Lk a t f (gapN a t n).1) ∧
    ((gapN a t n).2 ≤ n ∧ Lk a t (n - (gapN a t n).2) (gapN a t n).2) ∧ (∀ m, m ≤ n → Lk a t (n - m) m → m ≤ (gapN a t n).2) := by
  induction n with
  | zero => exact ⟨fun f m h _ => by omega, ⟨0, by simp [gapN], fun i h1 h2 => by simp [gapN] at h2⟩, ⟨Nat.zero_le _, fun i h1 h2 => by simp [gapN] at h2⟩, fun m h _ => by omega⟩
  | succ n ih =>
    obtain ⟨h1, ⟨f0, h2, h3⟩, ⟨h4, h5⟩, h6⟩ := ih
    by_cases h : a n = t
    · rw [gap_hit h]
      refine ⟨fun f m hf hl => ?_, ⟨f0, by show f0 + (gapN a t n).1 ≤ n + 1; omega, h3⟩, ⟨Nat.zero_le _, fun i _ hi => by simp at hi; omega⟩, fun m hm hl => ?_⟩
      · rcases Nat.lt_or_ge n (f + m) with hlt | hle
        · rcases Nat.eq_zero_or_pos m with rfl | hp
          · exact Nat.zero_le _
          · exact absurd h (hl n (by omega) hlt)
        · exact h1 f m hle hl
      · rcases Nat.eq_zero_or_pos m with rfl | hp
        · exact Nat.zero_le _
        · exact absurd h (hl n (by omega) (by omega))
    · rw [gap_miss h]
      have hrun : Lk a t (n - (gapN a t n).2) ((gapN a t n).2 + 1) := by
        intro i hi1 hi2
        rcases Nat.lt_or_ge i n with hlt | hge
        · exact h5 i hi1 (by omega)
        · obtain rfl : i = n := by omega
          exact h
      refine ⟨fun f m hf hl => ?_, ?_, ⟨by show _ + 1 ≤ n + 1; omega, by show Lk a t (n + 1 - ((gapN a t n).2 + 1)) ((gapN a t n).2 + 1); rw [Nat.add_sub_add_right]; exact hrun⟩, fun m hm hl => ?_⟩
      · rcases Nat.lt_or_ge n (f + m) with hlt | hle
        · rcases m with _ | m
          · exact Nat.zero_le _
          · have := h6 m (by omega) (fun i hi1 hi2 => hl i (by omega) (by omega))
            exact Nat.le_trans (Nat.succ_le_succ this) (Nat.le_max_right _ _)
        · exact Nat.le_trans (h1 f m hle hl) (Nat.le_max_left _ _)
      · rcases Nat.lt_or_ge (gapN a t n).1 ((gapN a t n).2 + 1) with hlt | hge
        · rw [show max (gapN a t n).1 ((gapN a t n).2 + 1) = (gapN a t n).2 + 1 by omega]
          exact ⟨n - (gapN a t n).2, by omega, hrun⟩
        · rw [show max (gapN a t n).1 ((gapN a t n).2 + 1) = (gapN a t n).1 by omega]
          exact ⟨f0, by omega, h3⟩
      · rcases m with _ | m
        · exact Nat.zero_le _
        · have := h6 m (by omega) (fun i hi1 hi2 => hl i (by omega) (by omega))
          exact Nat.succ_le_succ this
theorem gap_le : (gapN a t n).1 ≤ n := by
  obtain ⟨_, ⟨f, h, _⟩, _⟩ := gap_spec a t n
  omega
theorem gap2_le : (gapN a t n).2 ≤ n := (gap_spec a t n).2.2.1.1
theorem gap_lt : (gapN a t n).1 < k ↔ ∀ f, f + k ≤ n → ¬ Lk a t f k := by
  obtain ⟨h1, ⟨f0, h2, h3⟩, _⟩ := gap_spec a t n
  constructor
  · intro h f hf hl
    have := h1 f k hf hl
    omega
  · intro h
    rcases Nat.lt_or_ge (gapN a t n).1 k with hlt | hge
    · exact hlt
    · exact absurd (fun i hi1 hi2 => h3 i hi1 (by omega)) (h f0 (by omega))

/-- The longest run without one of the threads 0 to n - 1. -/
def lsN (a : Nat → Int) (len : Nat) : Nat → Nat
  | 0 => 0
  | n + 1 => max (lsN a len n) (gapN a n len).1
/-- Least. -/
def lst (a : Nat → Int) (len n : Nat) : Nat := lsN a len n + 1
theorem ls_lt : 0 < k → (lsN a len n < k ↔ ∀ t : Nat, t < n → (gapN a t len).1 < k) := by
  intro hk
  induction n with
  | zero => simp [lsN, hk]
  | succ n ih =>
    rw [lsN, Nat.max_lt, ih]
    constructor
    · rintro ⟨h1, h2⟩ t ht
      rcases Nat.lt_or_ge t n with h | h
      · exact h1 t h
      · obtain rfl : t = n := by omega
        exact h2
    · exact fun h => ⟨fun t ht => h t (by omega), h n (by omega)⟩
theorem ls_le : lsN a len n ≤ len := by
  induction n with
  | zero => exact Nat.zero_le _
  | succ n ih => rw [lsN]; exact Nat.max_le.2 ⟨ih, gap_le⟩
theorem lst_le : lst a len n ≤ len + 1 := Nat.succ_le_succ ls_le
theorem lst_pos : 0 < lst a len n := Nat.succ_pos _
theorem lst_none : lst a len 0 = 1 := rfl
/-- Each of the threads is among the k picks from f on. -/
def Has (a : Nat → Int) (n f k : Nat) : Prop := ∀ t : Nat, t < n → ∃ i, f ≤ i ∧ i < f + k ∧ a i = t
theorem lst_iff (hk : 0 < k) : lst a len n ≤ k ↔ ∀ f, f + k ≤ len → Has a n f k := by
  unfold lst
  rw [show lsN a len n + 1 ≤ k ↔ lsN a len n < k from Iff.rfl, ls_lt hk]
  constructor
  · intro h f hf t ht
    have := gap_lt.1 (h t ht) f hf
    apply Classical.byContradiction
    intro hne
    exact this fun i h1 h2 h3 => hne ⟨i, h1, h2, h3⟩
  · intro h t ht
    refine gap_lt.2 fun f hf hl => ?_
    obtain ⟨i, h1, h2, h3⟩ := h f hf t ht
    exact hl i h1 h2 h3
/-- Fair. -/
def fb (a : Nat → Int) (len n : Nat) (k : Int) : Bool := decide (n = 0 ∨ (lst a len n : Int) ≤ k)
theorem fb_none {k : Int} : fb a len 0 k = true := by simp [fb]
theorem fb_some {k : Int} (h : 0 < n) : fb a len n k = decide ((lst a len n : Int) ≤ k) := by
  unfold fb
  have : ¬ n = 0 := by omega
  simp [this]
theorem fb_low {k : Int} (h : k < 1) : fb a len n k = decide (n = 0) := by
  unfold fb
  have := @lst_pos a len n
  have : ¬ (lst a len n : Int) ≤ k := by omega
  simp [this]
theorem fb_high {k : Int} (h : 1 ≤ k) : fb a len n k = decide ((lst a len n : Int) ≤ k) := by
  rcases Nat.eq_zero_or_pos n with rfl | hp
  · rw [fb_none, lst_none]
    simp [h]
  · exact fb_some hp
theorem fb_more {k j : Int} (h : fb a len n k = true) (hj : k ≤ j) : fb a len n j = true := by
  unfold fb at h ⊢
  have h := of_decide_eq_true h
  apply decide_eq_true
  omega
theorem fb_yes {k : Nat} (hk : 0 < k) (h : ∀ f, f + k ≤ len → Has a n f k) : fb a len n k = true := by
  rw [fb_high (by omega)]
  have := (lst_iff (a := a) (n := n) (len := len) hk).2 h
  simp
  omega
theorem fb_no {k : Nat} (hk : 0 < k) (hf : f + k ≤ len) (h : ¬ Has a n f k) : fb a len n k = false := by
  rw [fb_high (by omega)]
  have := mt (fun h => (lst_iff (a := a) (n := n) (len := len) hk).1 h f hf) h
  simp
  omega

/-- How often t is among the first m. -/
def cntN (a : Nat → Int) (t : Int) : Nat → Nat
  | 0 => 0
  | m + 1 => cntN a t m + if a m = t then 1 else 0
theorem cntN_hit (h : a m = t) : cntN a t (m + 1) = cntN a t m + 1 := by rw [cntN, if_pos h]
theorem cntN_miss (h : a m ≠ t) : cntN a t (m + 1) = cntN a t m := by rw [cntN, if_neg h]; rfl
theorem cntN_le : cntN a t m ≤ m := by
  induction m with
  | zero => exact Nat.le_refl _
  | succ m ih => rw [cntN]; split <;> omega
theorem cntN_mono {m j : Nat} (h : m ≤ j) : cntN a t m ≤ cntN a t j := by
  induction h with
  | refl => exact Nat.le_refl _
  | step _ ih => exact Nat.le_trans ih (by rw [cntN]; omega)
/-- Among so many times as many picks each thread is as often at least. -/
theorem cnt_often {t : Nat} (ht : t < n) (hm : m * lst a len n ≤ len) : m ≤ cntN a t (m * lst a len n) := by
  induction m with
  | zero => exact Nat.zero_le _
  | succ m ih =>
    rw [Nat.succ_mul] at hm ⊢
    have h1 := ih (by omega)
    obtain ⟨i, h2, h3, h4⟩ := (lst_iff (a := a) (n := n) (len := len) lst_pos).1 (Nat.le_refl _) _ hm t ht
    have h5 := @cntN_mono a t _ _ h2
    have h6 := @cntN_mono a t _ _ (show i + 1 ≤ m * lst a len n + lst a len n from h3)
    rw [cntN_hit h4] at h6
    omega
end

/-! ## Rounds -/
/-- Pick i of a round that x tells. -/
def rv (n : Nat) (x : Int) (i : Nat) : Int := if x.tmod 2 = 0 then (x + i) % n else (x - i) % n
/-- The first k picks of a round. -/
def rdk (n : Nat) (x : Int) (k : Nat) : List Int := (List.range k).map (rv n x)
/-- The first j rounds. -/
def rdj (n : Nat) (how : List Int) (j : Nat) : List Int := (how.take j).flatMap fun x => rdk n x n
/-- Rounds. -/
def rds (n : Nat) (how : List Int) : List Int := rdj n how (4000 / n)
/-- Robin. -/
def rob (n r : Nat) : List Int := rds n (List.replicate r 0)
section
variable {n k j : Nat} {x : Int} {how : List Int}
theorem rdk_len : (rdk n x k).length = k := by simp [rdk]
theorem rdk_zero : rdk n x 0 = [] := rfl
theorem rdk_next : rdk n x (k + 1) = rdk n x k ++ [rv n x k] := by unfold rdk; rw [List.range_succ, List.map_append]; rfl
theorem rdj_zero : rdj n how 0 = [] := by simp [rdj]
theorem rdj_next (h : j < how.length) : rdj n how (j + 1) = rdj n how j ++ rdk n (how.getD j 0) n := by
  unfold rdj
  rw [List.take_succ_eq_append_getElem h, List.flatMap_append]
  simp [List.getD, h]
theorem rdj_len (h : j ≤ how.length) : (rdj n how j).length = j * n := by
  induction j with
  | zero => simp [rdj_zero]
  | succ j ih => rw [rdj_next (by omega), List.length_append, ih (by omega), rdk_len, Nat.succ_mul]
theorem rdj_past (h : how.length ≤ j) : rdj n how j = rdj n how how.length := by unfold rdj; rw [List.take_of_length_le h, List.take_length]
theorem rds_short (h : how.length ≤ 4000 / n) : rds n how = rdj n how how.length := rdj_past h
theorem rds_len : (rds n how).length ≤ 4000 := by
  unfold rds
  rcases Nat.le_total (4000 / n) how.length with h | h
  · rw [rdj_len h]; exact Nat.div_mul_le_self _ _
  · rw [rdj_past h, rdj_len (Nat.le_refl _)]
    exact Nat.le_trans (Nat.mul_le_mul_right n h) (Nat.div_mul_le_self _ _)
theorem rds_none : rds 0 how = [] := by unfold rds; rw [Nat.div_zero, rdj_zero]
theorem more_no (hn : 0 < n) (h : j * n + n ≤ 4000) : j < 4000 / n := by
  have : (j + 1) * n ≤ 4000 := by rw [Nat.succ_mul]; exact h
  exact (Nat.le_div_iff_mul_le hn).2 this
theorem more_yes (hn : 0 < n) (h : 4000 < j * n + n) : 4000 / n ≤ j := by
  apply Classical.byContradiction
  intro hc
  have := (Nat.le_div_iff_mul_le hn).1 (show j + 1 ≤ 4000 / n by omega)
  rw [Nat.succ_mul] at this
  omega
theorem rdj_at (hn : 0 < n) (hj : j ≤ how.length) {p : Nat} (hp : p < j * n) : (rdj n how j).getD p 0 = rv n (how.getD (p / n) 0) (p % n) := by
  induction j with
  | zero => omega
  | succ j ih =>
    rw [rdj_next (by omega), List.getD_eq_getElem?_getD]
    have hl := rdj_len (n := n) (how := how) (j := j) (by omega)
    rcases Nat.lt_or_ge p (j * n) with h | h
    · rw [List.getElem?_append_left (by omega), ← List.getD_eq_getElem?_getD]
      exact ih (by omega) h
    · rw [Nat.succ_mul] at hp
      have e : p = (p - j * n) + j * n := by omega
      have e1 : p / n = j := by
        rw [e, Nat.add_mul_div_right _ _ hn, Nat.div_eq_of_lt (by omega), Nat.zero_add]
      have e2 : p % n = p - j * n := by
        rw [e, Nat.add_mul_mod_self_right, Nat.mod_eq_of_lt (by omega)]
        omega
      rw [List.getElem?_append_right (by omega), hl, e1, e2]
      unfold rdk
      rw [List.getElem?_map, List.getElem?_range (by omega)]
      rfl
theorem rds_form : ∃ J, J ≤ how.length ∧ rds n how = rdj n how J := by
  rcases Nat.le_total (4000 / n) how.length with h | h
  · exact ⟨_, h, rfl⟩
  · exact ⟨_, Nat.le_refl _, rdj_past h⟩
theorem rv_some {t : Nat} (ht : t < n) : ∃ r, r < n ∧ rv n x r = t := by
  have hn : (0 : Int) < n := by omega
  have ht2 : (t : Int) % n = t := Int.emod_eq_of_lt (by omega) (by omega)
  unfold rv
  split
  · have h1 := Int.emod_nonneg ((t : Int) - x) (show (n : Int) ≠ 0 by omega)
    have h2 := Int.emod_lt_of_pos ((t : Int) - x) hn
    refine ⟨(((t : Int) - x) % n).toNat, by omega, ?_⟩
    rw [Int.toNat_of_nonneg h1, Int.add_emod_emod, show x + ((t : Int) - x) = t by omega, ht2]
  · have h1 := Int.emod_nonneg (x - (t : Int)) (show (n : Int) ≠ 0 by omega)
    have h2 := Int.emod_lt_of_pos (x - (t : Int)) hn
    refine ⟨((x - (t : Int)) % n).toNat, by omega, ?_⟩
    rw [Int.toNat_of_nonneg h1, Int.sub_emod, Int.emod_emod_of_dvd _ (Int.dvd_refl _), ← Int.sub_emod, show x - (x - (t : Int)) = t by omega, ht2]
theorem rv_zero {i : Nat} (h : i < n) : rv n 0 i = i := by
  unfold rv
  rw [if_pos (by decide), Int.zero_add]
  exact Int.emod_eq_of_lt (by omega) (by omega)
/-- Robin is fair by how many threads there are. -/
theorem rob_fair {r : Nat} : fb (fun i => (rob n r).getD i 0) (rob n r).length n (max 1 n : Nat) = true := by
  rcases Nat.eq_zero_or_pos n with rfl | hn
  · exact fb_none
  rw [show max 1 n = n by omega]
  refine fb_yes hn fun f hf t ht => ?_
  obtain ⟨J, hJ, e⟩ := rds_form (n := n) (how := List.replicate r 0)
  have hl : (rob n r).length = J * n := by unfold rob; rw [e, rdj_len hJ]
  have hm := Nat.mod_lt f hn
  have hr := Nat.mod_lt (t + n - f % n) hn
  refine ⟨f + (t + n - f % n) % n, by omega, by omega, ?_⟩
  show (rob n r).getD _ 0 = _
  unfold rob
  rw [e, rdj_at hn hJ (by omega), show ∀ q, (List.replicate r (0 : Int)).getD q 0 = 0 from fun q => by simp [List.getD, List.getElem?_replicate]; split <;> rfl]
  rw [rv_zero (Nat.mod_lt _ hn), Nat.add_mod_mod]
  have h1 := Nat.div_add_mod f n
  have h2 : f + (t + n - f % n) = t + n * (f / n + 1) := by rw [Nat.mul_add]; omega
  rw [h2, Nat.add_mul_mod_self_left, Nat.mod_eq_of_lt ht]
/-- Rounds are fair by twice as many less one. -/
theorem rds_fair : fb (fun i => (rds n how).getD i 0) (rds n how).length n (max 1 (2 * (n : Int) - 1)) = true := by
  rcases Nat.eq_zero_or_pos n with rfl | hn
  · exact fb_none
  rw [show max 1 (2 * (n : Int) - 1) = ((2 * n - 1 : Nat) : Int) by omega]
  refine fb_yes (by omega) fun f hf t ht => ?_
  obtain ⟨J, hJ, e⟩ := rds_form (n := n) (how := how)
  have hl : (rds n how).length = J * n := by rw [e, rdj_len hJ]
  have h1 := Nat.div_add_mod (f + n - 1) n
  have h2 := Nat.mod_lt (f + n - 1) hn
  obtain ⟨r, hr, hv⟩ := rv_some (x := how.getD ((f + n - 1) / n) 0) ht
  refine ⟨n * ((f + n - 1) / n) + r, by omega, by omega, ?_⟩
  show (rds n how).getD _ 0 = _
  have hd : (n * ((f + n - 1) / n) + r) / n = (f + n - 1) / n := by rw [Nat.mul_add_div hn, Nat.div_eq_of_lt hr, Nat.add_zero]
  have hm : (n * ((f + n - 1) / n) + r) % n = r := by rw [Nat.mul_add_mod, Nat.mod_eq_of_lt hr]
  rw [e, rdj_at hn hJ (by omega), hd, hm]
  exact hv
end
end Go.Proofs.Ythbldljdalcgcaa
