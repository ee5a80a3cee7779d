/- Traces as stays, plain: what a stay becomes by an event; the stays of a trace; the document's, by definition; who enters; counts. It speaks of no program. -/
import Derived.Test.YtefcjlacjafnoaaUMath
namespace Go.Proofs.Ytefcjlacjafnoaa

/-- A stay. -/
structure Sy where
  t : Int
  r : Bool
  a : Int
  e : Int
  x : Int
  z : Int
  c : Int
def s0 : Sy := ⟨0, false, 0, 0, 0, 0, 0⟩
/-- What a stay becomes by an event at a place. -/
def yupd (i : Nat) (v : Ev) (s : Sy) : Sy :=
  if s.t = v.t ∧ s.z = -1 then
    (if v.k = 2 ∧ s.e = -1 then ⟨s.t, s.r, s.a, i, s.x, s.z, v.c⟩
    else if v.k = 3 ∧ s.e ≠ -1 ∧ s.x = -1 then ⟨s.t, s.r, s.a, s.e, i, s.z, s.c⟩
    else if v.k = 4 ∧ s.x ≠ -1 then ⟨s.t, s.r, s.a, s.e, s.x, i, s.c⟩
    else s)
  else s
/-- Has a thread no stay that is under way? -/
def yfr (S : List Sy) (t : Int) : Bool := S.all fun s => !decide (s.t = t ∧ s.z = -1)
def ynew (i : Nat) (v : Ev) : Sy := ⟨v.t, v.r, i, -1, -1, -1, 0⟩
/-- What all stays become by an event. -/
def ystp (S : List Sy) (i : Nat) (v : Ev) : List Sy := S.map (yupd i v) ++ if v.k = 1 ∧ yfr S v.t = true then [ynew i v] else []
/-- Is an event this stay's? -/
def yhit (v : Ev) (s : Sy) : Bool := decide (s.t = v.t ∧ s.z = -1 ∧ (v.k = 2 ∧ s.e = -1 ∨ v.k = 3 ∧ s.e ≠ -1 ∧ s.x = -1 ∨ v.k = 4 ∧ s.x ≠ -1))
/-- Is it anyone's? -/
def ytk (S : List Sy) (v : Ev) : Bool := decide (v.k = 1 ∧ yfr S v.t = true) || S.any (yhit v)
def yofA : List Sy → Nat → List Ev → List Sy
  | S, _, [] => S
  | S, i, v :: r => yofA (ystp S i v) (i + 1) r
/-- The stays of a trace. -/
def yof (l : List Ev) : List Sy := yofA [] 0 l

section
variable {S : List Sy} {l r : List Ev} {v : Ev} {s : Sy} {i j k : Nat} {t : Int}
theorem yofA_snoc : yofA S i (l ++ [v]) = ystp (yofA S i l) (i + l.length) v := by
  induction l generalizing S i with
  | nil => rfl
  | cons a l ih =>
    show yofA (ystp S i a) (i + 1) (l ++ [v]) = _
    rw [ih]
    show ystp (yofA (ystp S i a) (i + 1) l) (i + 1 + l.length) v = ystp (yofA (ystp S i a) (i + 1) l) (i + (l.length + 1)) v
    rw [show i + 1 + l.length = i + (l.length + 1) by omega]
theorem yof_snoc : yof (l ++ [v]) = ystp (yof l) l.length v := by
  unfold yof
  rw [yofA_snoc, Nat.zero_add]
theorem yof_take (h : k < l.length) : yof (l.take (k + 1)) = ystp (yof (l.take k)) k (l.getD k e0) := by
  rw [ev_take h, yof_snoc, List.length_take, Nat.min_eq_left (by omega)]
theorem yfr_iff : yfr S t = true ↔ ∀ s ∈ S, ¬ (s.t = t ∧ s.z = -1) := by
  unfold yfr
  rw [List.all_eq_true]
  simp only [Bool.not_eq_true', decide_eq_false_iff_not]

/-! ### what an event makes of one stay -/
theorem upd_out (h : ¬ (s.t = v.t ∧ s.z = -1)) : yupd i v s = s := if_neg h
theorem upd_two (ht : s.t = v.t) (hz : s.z = -1) (hk : v.k = 2) (he : s.e = -1) : yupd i v s = ⟨s.t, s.r, s.a, i, s.x, s.z, v.c⟩ := by
  unfold yupd
  rw [if_pos ⟨ht, hz⟩, if_pos ⟨hk, he⟩]
theorem upd_three (ht : s.t = v.t) (hz : s.z = -1) (hk : v.k = 3) (he : s.e ≠ -1) (hx : s.x = -1) : yupd i v s = ⟨s.t, s.r, s.a, s.e, i, s.z, s.c⟩ := by
  unfold yupd
  rw [if_pos ⟨ht, hz⟩, if_neg (by omega), if_pos ⟨hk, he, hx⟩]
theorem upd_four (ht : s.t = v.t) (hz : s.z = -1) (hk : v.k = 4) (hx : s.x ≠ -1) : yupd i v s = ⟨s.t, s.r, s.a, s.e, s.x, i, s.c⟩ := by
  unfold yupd
  rw [if_pos ⟨ht, hz⟩, if_neg (by omega), if_neg (by omega), if_pos ⟨hk, hx⟩]
theorem upd_miss (h : yhit v s = false) : yupd i v s = s := by
  unfold yhit at h
  rw [decide_eq_false_iff_not] at h
  unfold yupd
  split
  · split
    · exact absurd ⟨by omega, by omega, .inl (by omega)⟩ h
    · split
      · exact absurd ⟨by omega, by omega, .inr (.inl (by omega))⟩ h
      · split
        · exact absurd ⟨by omega, by omega, .inr (.inr (by omega))⟩ h
        · rfl
  · rfl
theorem upd_ask (h : v.k = 1) : yupd i v s = s := upd_miss (by unfold yhit; rw [decide_eq_false_iff_not]; omega)
theorem upd_t : (yupd i v s).t = s.t := by
  unfold yupd
  repeat' split
  all_goals rfl
theorem upd_a : (yupd i v s).a = s.a := by
  unfold yupd
  repeat' split
  all_goals rfl
theorem upd_e : (yupd i v s).e = s.e ∨ s.e = -1 ∧ (yupd i v s).e = i := by
  unfold yupd
  split
  · split
    · exact .inr ⟨by omega, rfl⟩
    · repeat' split
      all_goals exact .inl rfl
  · exact .inl rfl
theorem upd_z : (yupd i v s).z = s.z ∨ s.z = -1 ∧ v.k = 4 ∧ (yupd i v s).z = i := by
  unfold yupd
  split
  · split
    · exact .inl rfl
    · split
      · exact .inl rfl
      · split
        · exact .inr ⟨by omega, by omega, rfl⟩
        · exact .inl rfl
  · exact .inl rfl
theorem map_ask (h : v.k = 1) : S.map (yupd i v) = S := by
  rw [show yupd i v = id from funext fun s => upd_ask h, List.map_id]

/-! ### a stay's places -/
/-- A stay's places rise, and are its events'. -/
structure Ygd (l : List Ev) (s : Sy) : Prop where
  ask : 0 ≤ s.a ∧ s.a < l.length ∧ (l.getD s.a.toNat e0).k = 1 ∧ (l.getD s.a.toNat e0).t = s.t
  enter : s.e = -1 ∨ s.a < s.e ∧ s.e < l.length ∧ (l.getD s.e.toNat e0).k = 2 ∧ (l.getD s.e.toNat e0).t = s.t
  exit : s.x = -1 ∨ s.e ≠ -1 ∧ s.e < s.x ∧ s.x < l.length ∧ (l.getD s.x.toNat e0).k = 3 ∧ (l.getD s.x.toNat e0).t = s.t
  rest : s.z = -1 ∨ s.x ≠ -1 ∧ s.x < s.z ∧ s.z < l.length ∧ (l.getD s.z.toNat e0).k = 4 ∧ (l.getD s.z.toNat e0).t = s.t
theorem getD_old {p : Int} (h0 : 0 ≤ p) (h : p < l.length) : (l ++ [v]).getD p.toNat e0 = l.getD p.toNat e0 := by
  rw [List.getD_eq_getElem?_getD, List.getD_eq_getElem?_getD, List.getElem?_append_left (by omega)]
theorem getD_new : (l ++ [v]).getD ((l.length : Int)).toNat e0 = v := by
  rw [Int.toNat_natCast]
  simp [List.getD]
theorem Ygd.more (h : Ygd l s) : Ygd (l ++ [v]) s := by
  have hl : ((l ++ [v]).length : Int) = l.length + 1 := by simp
  obtain ⟨⟨a1, a2, a3, a4⟩, h2, h3, h4⟩ := h
  refine ⟨⟨a1, by omega, by rw [getD_old a1 a2]; exact a3, by rw [getD_old a1 a2]; exact a4⟩, ?_, ?_, ?_⟩
  · rcases h2 with h | ⟨h, h1, h5⟩
    · exact .inl h
    · exact .inr ⟨h, by omega, by rw [getD_old (by omega) h1]; exact h5⟩
  · rcases h3 with h | ⟨h, h0, h1, h5⟩
    · exact .inl h
    · exact .inr ⟨h, h0, by omega, by rw [getD_old (by omega) h1]; exact h5⟩
  · rcases h4 with h | ⟨h, h0, h1, h5⟩
    · exact .inl h
    · exact .inr ⟨h, h0, by omega, by rw [getD_old (by omega) h1]; exact h5⟩
theorem Ygd.upd (h : Ygd l s) : Ygd (l ++ [v]) (yupd l.length v s) := by
  have hl : ((l ++ [v]).length : Int) = l.length + 1 := by simp
  have hm := h.more (v := v)
  obtain ⟨⟨_, a2, _⟩, g2, g3, _⟩ := h
  obtain ⟨h1, h2, h3, h4⟩ := hm
  by_cases ho : s.t = v.t ∧ s.z = -1
  · by_cases hk2 : v.k = 2 ∧ s.e = -1
    · rw [upd_two ho.1 ho.2 hk2.1 hk2.2]
      have hx : s.x = -1 := by rcases h3 with h | ⟨h, _⟩ <;> omega
      exact ⟨h1, .inr ⟨by simpa using a2, by show (l.length : Int) < _; omega, by simp only [getD_new]; omega, by simp only [getD_new]; omega⟩, .inl hx, .inl ho.2⟩
    · by_cases hk3 : v.k = 3 ∧ s.e ≠ -1 ∧ s.x = -1
      · rw [upd_three ho.1 ho.2 hk3.1 hk3.2.1 hk3.2.2]
        exact ⟨h1, h2, .inr ⟨hk3.2.1, by rcases g2 with h | ⟨_, h, _⟩ <;> simp only [] <;> omega, by show (l.length : Int) < _; omega, by simp only [getD_new]; omega, by simp only [getD_new]; omega⟩, .inl ho.2⟩
      · by_cases hk4 : v.k = 4 ∧ s.x ≠ -1
        · rw [upd_four ho.1 ho.2 hk4.1 hk4.2]
          exact ⟨h1, h2, h3, .inr ⟨hk4.2, by rcases g3 with h | ⟨_, _, h, _⟩ <;> simp only [] <;> omega, by show (l.length : Int) < _; omega, by simp only [getD_new]; omega, by simp only [getD_new]; omega⟩⟩
        · rw [upd_miss (by unfold yhit; rw [decide_eq_false_iff_not]; omega)]
          exact ⟨h1, h2, h3, h4⟩
  · rw [upd_out ho]
    exact ⟨h1, h2, h3, h4⟩
theorem ygd_all : ∀ s ∈ yof l, Ygd l s := by
  refine by_last (P := fun l => ∀ s ∈ yof l, Ygd l s) (fun s h => by cases h) (fun l v ih s h => ?_) l
  rw [yof_snoc] at h
  rcases List.mem_append.1 h with h | h
  · obtain ⟨s', h1, rfl⟩ := List.mem_map.1 h
    exact (ih _ h1).upd
  · split at h
    · rename_i hk
      rw [List.mem_singleton] at h
      subst h
      exact ⟨⟨by simp [ynew], by simp only [ynew, List.length_append, List.length_singleton]; omega, by simp only [ynew, getD_new]; exact hk.1, by simp only [ynew, getD_new]⟩, .inl rfl, .inl rfl, .inl rfl⟩
    · cases h
theorem ygd_at (h : k < (yof l).length) : Ygd l ((yof l).getD k s0) := by
  refine ygd_all _ ?_
  rw [show (yof l).getD k s0 = (yof l)[k] by simp [List.getD, h]]
  exact List.getElem_mem h

/-! ### a thread's stays do not overlap -/
/-- One stay is asked for ahead of another one; of one thread, it is over by then. -/
def Yor (S : List Sy) : Prop := S.Pairwise fun a b => a.a < b.a ∧ (a.t = b.t → 0 ≤ a.z ∧ a.z < b.a)
theorem yor_all : Yor (yof l) := by
  refine by_last (P := fun l => Yor (yof l)) List.Pairwise.nil (fun l v ih => ?_) l
  show Yor (yof (l ++ [v]))
  have hg : ∀ s ∈ yof l, Ygd l s := ygd_all
  rw [yof_snoc]
  unfold ystp Yor
  rw [List.pairwise_append]
  refine ⟨?_, ?_, ?_⟩
  · rw [List.pairwise_map]
    refine List.Pairwise.imp (fun {a b} h => ?_) ih
    rw [upd_a, upd_a, upd_t, upd_t]
    refine ⟨h.1, fun ht => ?_⟩
    have := h.2 ht
    rcases upd_z (i := l.length) (v := v) (s := a) with h1 | ⟨h1, _⟩
    · rw [h1]; exact this
    · omega
  · split
    · exact List.pairwise_singleton _ _
    · exact List.Pairwise.nil
  · intro a ha b hb
    split at hb
    · rename_i hk
      rw [List.mem_singleton] at hb
      subst hb
      rw [map_ask hk.1] at ha
      have h1 := hg a ha
      have h2 := yfr_iff.1 hk.2 a ha
      have h3 := h1.ask
      refine ⟨by simp only [ynew]; omega, fun ht => ?_⟩
      simp only [ynew] at ht ⊢
      rcases h1.rest with h | ⟨h, h4, h5, _⟩
      · exact absurd ⟨ht, h⟩ h2
      · rcases h1.exit with h6 | ⟨_, h6, _⟩
        · omega
        · rcases h1.enter with h7 | ⟨h7, _⟩ <;> omega
    · cases hb
theorem yor_at (h : Yor S) (hjk : j < k) (hk : k < S.length) : (S.getD j s0).a < (S.getD k s0).a ∧ ((S.getD j s0).t = (S.getD k s0).t → 0 ≤ (S.getD j s0).z ∧ (S.getD j s0).z < (S.getD k s0).a) := by
  have := List.pairwise_iff_getElem.1 h j k (by omega) hk hjk
  rw [show S.getD j s0 = S[j] by simp [List.getD, show j < S.length by omega], show S.getD k s0 = S[k] by simp [List.getD, hk]]
  exact this
/-- A thread has one stay under way at most. -/
theorem yor_one (h : Yor S) (hj : j < S.length) (hk : k < S.length) (h1 : (S.getD j s0).t = t ∧ (S.getD j s0).z = -1) (h2 : (S.getD k s0).t = t ∧ (S.getD k s0).z = -1) : j = k := by
  rcases Nat.lt_trichotomy j k with h3 | h3 | h3
  · have := (yor_at h h3 hk).2 (by omega)
    omega
  · exact h3
  · have := (yor_at h h3 hj).2 (by omega)
    omega

/-! ### the stays under way, by their threads -/
/-- A thread's stay is found at a place from now on; is not found any more. -/
def fput (f : Int → Option Nat) (t : Int) (k : Nat) : Int → Option Nat := fun u => if u = t then some k else f u
def fdel (f : Int → Option Nat) (t : Int) : Int → Option Nat := fun u => if u = t then none else f u
theorem fput_same {f : Int → Option Nat} : fput f t k t = some k := if_pos rfl
theorem fput_other {f : Int → Option Nat} {u : Int} (h : u ≠ t) : fput f t k u = f u := if_neg h
theorem fdel_same {f : Int → Option Nat} : fdel f t t = none := if_pos rfl
theorem fdel_other {f : Int → Option Nat} {u : Int} (h : u ≠ t) : fdel f t u = f u := if_neg h
/-- Where the stay of a thread is that is under way. -/
def Yix (f : Int → Option Nat) (S : List Sy) : Prop := ∀ t k, f t = some k ↔ k < S.length ∧ (S.getD k s0).t = t ∧ (S.getD k s0).z = -1
theorem yix_nil : Yix (fun _ => none) [] := fun t k => ⟨fun h => (by cases h), fun h => absurd h.1 (by simp)⟩
section
variable {f : Int → Option Nat}
theorem sy_mem (h : s ∈ S) : ∃ k, k < S.length ∧ S.getD k s0 = s := by
  obtain ⟨k, hk, e⟩ := List.mem_iff_getElem.1 h
  exact ⟨k, hk, by rw [← e]; simp [List.getD, hk]⟩
theorem sy_at (h : k < S.length) : S.getD k s0 ∈ S := by
  rw [show S.getD k s0 = S[k] by simp [List.getD, h]]
  exact List.getElem_mem h
theorem sy_set (h : j < S.length) : (S.set k s).getD j s0 = if k = j then s else S.getD j s0 := by
  simp only [List.getD_eq_getElem?_getD, List.getElem?_set]
  split
  · rename_i hik
    subst hik
    rw [if_pos h]
    rfl
  · rfl
theorem yix_free (h : Yix f S) (hn : f t = none) : yfr S t = true := by
  rw [yfr_iff]
  intro s hs ho
  obtain ⟨k, hk, e⟩ := sy_mem hs
  have := (h t k).2 ⟨hk, by rw [e]; exact ho⟩
  rw [hn] at this
  cases this
theorem yix_any (h : Yix f S) (hn : f v.t = none) : S.any (yhit v) = false := by
  rw [List.any_eq_false]
  intro s hs ho
  have := yfr_iff.1 (yix_free h hn) s hs
  unfold yhit at ho
  rw [decide_eq_true_eq] at ho
  exact this ⟨ho.1, ho.2.1⟩
theorem yix_still (h : Yix f S) (hn : f v.t = none) : S.map (yupd i v) = S := by
  have := yfr_iff.1 (yix_free h hn)
  exact (List.map_congr_left (g := id) (fun s hs => upd_out (this s hs))).trans (List.map_id _)
theorem free_ask (h : Yix f S) (hn : f v.t = none) (hk : v.k = 1) : ystp S i v = S ++ [ynew i v] ∧ ytk S v = true := by
  refine ⟨?_, ?_⟩
  · unfold ystp
    rw [map_ask hk, if_pos ⟨hk, yix_free h hn⟩]
  · unfold ytk
    rw [decide_eq_true ⟨hk, yix_free h hn⟩, Bool.true_or]
theorem free_not (h : Yix f S) (hn : f v.t = none) (hk : v.k ≠ 1) : ystp S i v = S ∧ ytk S v = false := by
  refine ⟨?_, ?_⟩
  · unfold ystp
    rw [yix_still h hn, if_neg (fun z => hk z.1), List.append_nil]
  · unfold ytk
    rw [yix_any h hn, decide_eq_false (fun z => hk z.1)]
    rfl
theorem open_at (h : Yix f S) (hs : f v.t = some k) : ystp S i v = S.set k (yupd i v (S.getD k s0)) ∧ ytk S v = yhit v (S.getD k s0) := by
  obtain ⟨hk, ht, hz⟩ := (h v.t k).1 hs
  have hone : ∀ j, j < S.length → j ≠ k → ¬ ((S.getD j s0).t = v.t ∧ (S.getD j s0).z = -1) := fun j hj hne ho => by
    have := (h v.t j).2 ⟨hj, ho⟩
    rw [hs] at this
    injection this with this
    exact hne this.symm
  have hfr : ¬ (v.k = 1 ∧ yfr S v.t = true) := fun z => yfr_iff.1 z.2 _ (sy_at hk) ⟨ht, hz⟩
  refine ⟨?_, ?_⟩
  · unfold ystp
    rw [if_neg hfr, List.append_nil]
    apply List.ext_getElem
    · simp
    · intro j h1 h2
      have hj : j < S.length := by simpa using h1
      rw [List.getElem_map, List.getElem_set]
      by_cases hjk : k = j
      · subst hjk
        rw [if_pos rfl]
        simp [List.getD, hk]
      · rw [if_neg hjk]
        have := hone j hj (fun z => hjk z.symm)
        rw [show S.getD j s0 = S[j] by simp [List.getD, hj]] at this
        exact upd_out this
  · unfold ytk
    rw [decide_eq_false hfr, Bool.false_or]
    cases hh : yhit v (S.getD k s0)
    · rw [List.any_eq_false]
      intro s hs' ho
      obtain ⟨j, hj, e⟩ := sy_mem hs'
      by_cases hjk : j = k
      · subst hjk
        rw [e] at hh
        rw [hh] at ho
        cases ho
      · have := hone j hj hjk
        rw [e] at this
        unfold yhit at ho
        rw [decide_eq_true_eq] at ho
        exact this ⟨ho.1, ho.2.1⟩
    · rw [List.any_eq_true]
      exact ⟨_, sy_at hk, hh⟩
theorem set_same (h : k < S.length) : S.set k (S.getD k s0) = S := by
  apply List.ext_getElem
  · simp
  · intro j h1 h2
    rw [List.getElem_set]
    split
    · rename_i e
      subst e
      simp [List.getD, h]
    · rfl
/-- A thread's stay is under way from now on. -/
theorem yix_ask (h : Yix f S) (hn : f v.t = none) : Yix (fput f v.t S.length) (S ++ [ynew i v]) := by
  intro t k
  by_cases hk : k = S.length
  · subst hk
    rw [show (S ++ [ynew i v]).getD S.length s0 = ynew i v by simp [List.getD]]
    show (if t = v.t then some S.length else f t) = some S.length ↔ _
    constructor
    · intro h1
      split at h1
      · rename_i e
        exact ⟨by simp, e.symm, rfl⟩
      · have := ((h t _).1 h1).1
        omega
    · rintro ⟨_, h1, _⟩
      exact if_pos h1.symm
  · have hg : k < S.length → (S ++ [ynew i v]).getD k s0 = S.getD k s0 := fun h1 => by simp only [List.getD_eq_getElem?_getD]; rw [List.getElem?_append_left h1]
    show (if t = v.t then some S.length else f t) = some k ↔ _
    constructor
    · intro h1
      split at h1
      · injection h1 with h1
        exact absurd h1.symm hk
      · have h2 := (h t k).1 h1
        exact ⟨by simp; omega, by rw [hg h2.1]; exact h2.2⟩
    · rintro ⟨h1, h2⟩
      have h3 : k < S.length := by simp at h1; omega
      rw [hg h3] at h2
      have h4 := (h t k).2 ⟨h3, h2⟩
      rw [if_neg (fun e => by rw [e, hn] at h4; cases h4)]
      exact h4
/-- A stay goes on. -/
theorem yix_on (h : Yix f S) (ht : s.t = (S.getD k s0).t) (hz : s.z = (S.getD k s0).z) : Yix f (S.set k s) := by
  intro t j
  rw [h t j, List.length_set]
  constructor
  · rintro ⟨h1, h2⟩
    refine ⟨h1, ?_⟩
    rw [sy_set h1]
    split
    · rename_i e
      subst e
      omega
    · exact h2
  · rintro ⟨h1, h2⟩
    refine ⟨h1, ?_⟩
    rw [sy_set h1] at h2
    split at h2
    · rename_i e
      subst e
      omega
    · exact h2
/-- A stay is over. -/
theorem yix_over (h : Yix f S) (hs : f t = some k) (hz : s.z ≠ -1) : Yix (fdel f t) (S.set k s) := by
  obtain ⟨hk, h2, h3⟩ := (h t k).1 hs
  intro u j
  show (if u = t then none else f u) = some j ↔ _
  rw [List.length_set]
  constructor
  · intro h1
    split at h1
    · cases h1
    · rename_i hne
      obtain ⟨h4, h5, h6⟩ := (h u j).1 h1
      refine ⟨h4, ?_⟩
      rw [sy_set h4, if_neg (fun e => hne (by rw [← h5, ← e, h2]))]
      exact ⟨h5, h6⟩
  · rintro ⟨h4, h5⟩
    rw [sy_set h4] at h5
    split at h5
    · exact absurd h5.2 hz
    · rename_i hne
      have h6 := (h u j).2 ⟨h4, h5⟩
      rw [if_neg (fun e => hne (by rw [e, hs] at h6; injection h6))]
      exact h6
end
end
end Go.Proofs.Ytefcjlacjafnoaa
