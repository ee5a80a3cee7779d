/- The document's stays, by definition, plain: they are those that events make. It speaks of no program. -/
import Derived.Test.YtefcjlacjafnoaaYCount
namespace Go.Proofs.Ytefcjlacjafnoaa

/-- The place of the first event of a kind and a thread, from a place on. -/
def nxA (k t : Int) : List Ev → Nat → Int
  | [], _ => -1
  | v :: r, i => if v.k = k ∧ v.t = t then i else nxA k t r (i + 1)
def nx (l : List Ev) (p : Nat) (k t : Int) : Int := nxA k t (l.drop p) p
/-- The place of the first one behind a place. -/
def bh (l : List Ev) (at_ k t : Int) : Int := if at_ < 0 then -1 else nx l (at_.toNat + 1) k t
/-- The stay that an ask begins. -/
def yst (l : List Ev) (i : Nat) : Sy :=
  ⟨(l.getD i e0).t, (l.getD i e0).r, i, bh l i 2 (l.getD i e0).t, bh l (bh l i 2 (l.getD i e0).t) 3 (l.getD i e0).t, bh l (bh l (bh l i 2 (l.getD i e0).t) 3 (l.getD i e0).t) 4 (l.getD i e0).t,
    if 0 ≤ bh l i 2 (l.getD i e0).t then (l.getD (bh l i 2 (l.getD i e0).t).toNat e0).c else 0⟩
def yfinA : List Ev → Nat → Sy → Sy
  | [], _, s => s
  | v :: r, i, s => yfinA r (i + 1) (yupd i v s)
/-- What a stay is at the end. -/
def yfin (l : List Ev) (i : Nat) (s : Sy) : Sy := yfinA (l.drop i) i s
/-- The document's stays that are asked for ahead of a place. -/
def yrf (l : List Ev) (i : Nat) : List Sy := (yof (l.take i)).map (yfin l i)
/-- Does a stay of the document's hold a thread at a place? -/
def yhold (t : Int) (i : Nat) (s : Sy) : Bool := decide (s.t = t ∧ (s.z < 0 ∨ (i : Int) < s.z))

section
variable {S : List Sy} {l : List Ev} {v : Ev} {s : Sy} {i j : Nat} {k t : Int}
theorem nx_end (h : ¬ i < l.length) : nx l i k t = -1 := by
  unfold nx
  rw [List.drop_eq_nil_of_le (by omega)]
  rfl
theorem nx_step (h : i < l.length) : nx l i k t = if (l.getD i e0).k = k ∧ (l.getD i e0).t = t then (i : Int) else nx l (i + 1) k t := by
  unfold nx
  rw [ev_drop h]
  rfl
theorem nx_in {i : Nat} : nx l i k t = -1 ∨ (i : Int) ≤ nx l i k t ∧ nx l i k t < l.length := by
  by_cases h : i < l.length
  · rw [nx_step h]
    split
    · exact .inr ⟨Int.le_refl _, by omega⟩
    · have ih := nx_in (i := i + 1)
      omega
  · exact .inl (nx_end h)
termination_by l.length - i
theorem bh_neg {a : Int} (h : a < 0) : bh l a k t = -1 := if_pos h
theorem bh_at : bh l (i : Int) k t = nx l (i + 1) k t := by unfold bh; rw [if_neg (by omega), Int.toNat_natCast]
theorem bh_in {a : Int} : bh l a k t = -1 ∨ a < bh l a k t ∧ bh l a k t < l.length := by
  by_cases h : a < 0
  · exact .inl (bh_neg h)
  · unfold bh
    rw [if_neg h]
    have := nx_in (l := l) (i := a.toNat + 1) (k := k) (t := t)
    omega
theorem fin_end (h : ¬ i < l.length) : yfin l i s = s := by
  unfold yfin
  rw [List.drop_eq_nil_of_le (by omega)]
  rfl
theorem fin_step (h : i < l.length) : yfin l i s = yfin l (i + 1) (yupd i (l.getD i e0) s) := by
  unfold yfin
  rw [ev_drop h]
  rfl
/-- A stay that is over stays as it is. -/
theorem fin_done {i : Nat} (h : s.z ≠ -1) : yfin l i s = s := by
  by_cases hi : i < l.length
  · rw [fin_step hi, upd_out (fun z => h z.2)]
    exact fin_done h
  · exact fin_end hi
termination_by l.length - i
theorem fin_four {i : Nat} {t a e x c : Int} {r : Bool} (he : e ≠ -1) (hx : x ≠ -1) : yfin l i ⟨t, r, a, e, x, -1, c⟩ = ⟨t, r, a, e, x, nx l i 4 t, c⟩ := by
  by_cases hi : i < l.length
  · rw [fin_step hi, nx_step hi]
    by_cases h : (l.getD i e0).k = 4 ∧ (l.getD i e0).t = t
    · rw [if_pos h, upd_four h.2.symm rfl h.1 hx]
      exact fin_done (by show (i : Int) ≠ -1; omega)
    · rw [if_neg h, upd_miss (by unfold yhit; rw [decide_eq_false_iff_not]; rintro ⟨h1, _, h2⟩; have h1 : t = (l.getD i e0).t := h1; have h2 : _ ∧ e = -1 ∨ _ ∧ e ≠ -1 ∧ x = -1 ∨ _ ∧ x ≠ -1 := h2; omega)]
      exact fin_four he hx
  · rw [fin_end hi, nx_end hi]
termination_by l.length - i
theorem fin_three {i : Nat} {t a e c : Int} {r : Bool} (he : e ≠ -1) : yfin l i ⟨t, r, a, e, -1, -1, c⟩ = ⟨t, r, a, e, nx l i 3 t, bh l (nx l i 3 t) 4 t, c⟩ := by
  by_cases hi : i < l.length
  · rw [fin_step hi, nx_step hi]
    by_cases h : (l.getD i e0).k = 3 ∧ (l.getD i e0).t = t
    · rw [if_pos h, upd_three h.2.symm rfl h.1 he rfl, bh_at]
      exact fin_four he (by omega)
    · rw [if_neg h, upd_miss (by unfold yhit; rw [decide_eq_false_iff_not]; rintro ⟨h1, _, h2⟩; have h1 : t = (l.getD i e0).t := h1; have h2 : _ ∧ e = -1 ∨ _ ∧ e ≠ -1 ∧ (-1 : Int) = -1 ∨ _ ∧ (-1 : Int) ≠ -1 := h2; omega)]
      exact fin_three he
  · rw [fin_end hi, nx_end hi, bh_neg (by omega)]
termination_by l.length - i
theorem fin_two {i : Nat} {t a c : Int} {r : Bool} : yfin l i ⟨t, r, a, -1, -1, -1, c⟩ = ⟨t, r, a, nx l i 2 t, bh l (nx l i 2 t) 3 t, bh l (bh l (nx l i 2 t) 3 t) 4 t, if 0 ≤ nx l i 2 t then (l.getD (nx l i 2 t).toNat e0).c else c⟩ := by
  by_cases hi : i < l.length
  · rw [fin_step hi, nx_step hi]
    by_cases h : (l.getD i e0).k = 2 ∧ (l.getD i e0).t = t
    · rw [if_pos h, upd_two h.2.symm rfl h.1 rfl, bh_at, if_pos (by omega), Int.toNat_natCast]
      exact fin_three (by omega)
    · rw [if_neg h, upd_miss (by unfold yhit; rw [decide_eq_false_iff_not]; rintro ⟨h1, _, h2⟩; have h1 : t = (l.getD i e0).t := h1; have h2 : _ ∧ (-1 : Int) = -1 ∨ _ ∧ (-1 : Int) ≠ -1 ∧ _ ∨ _ ∧ (-1 : Int) ≠ -1 := h2; omega)]
      exact fin_two
  · rw [fin_end hi, nx_end hi, bh_neg (by omega), bh_neg (by omega), if_neg (by omega)]
termination_by l.length - i
theorem yst_fin : yst l i = yfin l (i + 1) (ynew i (l.getD i e0)) := by
  unfold yst ynew
  rw [fin_two, bh_at]
theorem fin_t {i : Nat} {s : Sy} : (yfin l i s).t = s.t := by
  by_cases hi : i < l.length
  · rw [fin_step hi, fin_t, upd_t]
  · rw [fin_end hi]
termination_by l.length - i
theorem fin_z {i : Nat} {s : Sy} (h : s.z = -1) : (yfin l i s).z = -1 ∨ (i : Int) ≤ (yfin l i s).z := by
  by_cases hi : i < l.length
  · rw [fin_step hi]
    rcases upd_z (i := i) (v := l.getD i e0) (s := s) with h1 | ⟨_, _, h1⟩
    · have := fin_z (i := i + 1) (h1.trans h)
      omega
    · rw [fin_done (by omega), h1]
      exact .inr (Int.le_refl _)
  · rw [fin_end hi]
    exact .inl h
termination_by l.length - i
theorem yrf_zero : yrf l 0 = [] := rfl
theorem yrf_end : yrf l l.length = yof l := by
  unfold yrf
  rw [List.take_length]
  exact (List.map_congr_left (g := id) (fun s _ => fin_end (by omega))).trans (List.map_id _)
theorem yrf_len (h : i ≤ l.length) : (yrf l i).length ≤ i := by
  unfold yrf
  rw [List.length_map]
  exact Nat.le_trans yof_len (by rw [List.length_take]; omega)
/-- What an event adds to the document's stays. -/
theorem yrf_step (h : i < l.length) : yrf l (i + 1) = yrf l i ++ if (l.getD i e0).k = 1 ∧ yfr (yof (l.take i)) (l.getD i e0).t = true then [yst l i] else [] := by
  unfold yrf
  rw [yof_take h]
  unfold ystp
  rw [List.map_append, List.map_map]
  congr 1
  · exact List.map_congr_left fun s _ => (fin_step h).symm
  · split
    · rw [yst_fin]
      rfl
    · rfl
/-- A thread is free, or it is not, by the document's stays, too. -/
theorem yrf_free (h : i < l.length) (hk : (l.getD i e0).k = 1) : yfr (yof (l.take i)) t = (yrf l i).all fun s => !yhold t i s := by
  unfold yrf yfr
  rw [List.all_map, Bool.eq_iff_iff, List.all_eq_true, List.all_eq_true]
  refine forall_congr' fun s => forall_congr' fun hs => ?_
  have hg := ygd_all s hs
  have hle : ((l.take i).length : Int) ≤ i := by rw [List.length_take]; omega
  simp only [Function.comp_apply, Bool.not_eq_true', yhold, decide_eq_false_iff_not, fin_t]
  by_cases hz : s.z = -1
  · have : (yfin l i s).z < 0 ∨ (i : Int) < (yfin l i s).z := by
      rw [fin_step h, upd_ask hk]
      have := fin_z (l := l) (i := i + 1) hz
      omega
    constructor
    · exact fun z y => z ⟨y.1, hz⟩
    · exact fun z y => z ⟨y.1, this⟩
  · rw [fin_done hz]
    have : ¬ (s.z < 0 ∨ (i : Int) < s.z) := by
      rcases hg.rest with h1 | ⟨h1, h2, h3, _⟩
      · exact absurd h1 hz
      · rcases hg.exit with h4 | ⟨h4, h5, _⟩
        · exact absurd h4 h1
        · rcases hg.enter with h6 | ⟨h6, _⟩
          · exact absurd h6 h4
          · have := hg.ask.1
            omega
    constructor
    · exact fun _ y => this y.2
    · exact fun _ y => hz y.2
end
end Go.Proofs.Ytefcjlacjafnoaa
