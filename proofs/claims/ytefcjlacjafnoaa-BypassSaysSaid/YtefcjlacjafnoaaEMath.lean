/- Plain: the tenures of a trace. -/
import Derived.Test.YtefcjlacjafnoaaUMath
namespace Go.Proofs.Ytefcjlacjafnoaa

/-- A tenure: a node, the place of its first entry, how many it has. -/
structure Rn where
  n : Int
  f : Nat
  m : Nat
def r0 : Rn := ⟨0, 0, 0⟩
/-- A thread's node. -/
def nd (N : List Int) (t : Int) : Int := if 0 ≤ t ∧ t < N.length then N.getD t.toNat 0 else -1
/-- The entries of a trace. -/
def ens (l : List Ev) : List Ev := l.filter (fun e => e.k == 2)
/-- The last tenure. -/
def lst (R : List Rn) : Rn := R.getD (R.length - 1) r0
/-- Does an entry go on with the last tenure? -/
def gon (N : List Int) (R : List Rn) (e : Ev) : Prop := 0 < R.length ∧ (lst R).n = nd N e.t ∧ e.c = (lst R).m + 1
instance (N : List Int) (R : List Rn) (e : Ev) : Decidable (gon N R e) := by unfold gon; infer_instance
/-- One more entry of the last tenure. -/
def bump (R : List Rn) : List Rn := R.set (R.length - 1) ⟨(lst R).n, (lst R).f, (lst R).m + 1⟩
/-- The tenures, entry by entry, from place n on; and whether each entry is in one. -/
def rgo (N : List Int) : List Rn → Nat → List Ev → List Rn × Bool
  | R, _, [] => (R, true)
  | R, n, e :: t => if gon N R e then rgo N (bump R) (n + 1) t else if e.c = 1 then rgo N (R ++ [⟨nd N e.t, n, 1⟩]) (n + 1) t else (R, false)
/-- The tenures of a trace. -/
def tns (N : List Int) (l : List Ev) : List Rn × Bool := rgo N [] 0 (ens l)
/-- How many entries a tenure of node a has, that has m ahead of these. -/
def thr (N : List Int) (a : Int) : Nat → List Ev → Nat
  | m, [] => m
  | m, e :: t => if e.c = m + 1 ∧ nd N e.t = a then thr N a (m + 1) t else m

theorem ens_len (l : List Ev) : (ens l).length ≤ l.length := List.length_filter_le _ _
theorem ens_one (e : Ev) (t : List Ev) : ens (e :: t) = (if e.k = 2 then [e] else []) ++ ens t := by
  unfold ens
  by_cases h2 : e.k = 2
  · rw [if_pos h2]
    simp [h2]
  · rw [if_neg h2]
    simp [h2]
theorem ens_take {l : List Ev} {k : Nat} (h : k < l.length) : ens (l.take (k + 1)) = ens (l.take k) ++ (if (l.getD k e0).k = 2 then [l.getD k e0] else []) := by
  rw [ev_take h]
  unfold ens
  rw [List.filter_append]
  congr 1
  have := ens_one (l.getD k e0) []
  unfold ens at this
  rw [this]
  simp
theorem ens_drop {l : List Ev} {k : Nat} (h : k < l.length) : ens (l.drop k) = (if (l.getD k e0).k = 2 then [l.getD k e0] else []) ++ ens (l.drop (k + 1)) := by
  rw [ev_drop h, ens_one]
theorem ens_drop_len {l : List Ev} {k : Nat} : (ens (l.drop k)).length ≤ l.length - k := by
  refine Nat.le_trans (ens_len _) ?_
  rw [List.length_drop]
  exact Nat.le_refl _
theorem nd_in {N : List Int} {k : Nat} (h : k < N.length) : nd N k = N.getD k 0 := by
  unfold nd
  rw [if_pos ⟨by omega, by omega⟩]
  rfl
theorem nd_out {N : List Int} {t : Int} (h : ¬ (0 ≤ t ∧ t < N.length)) : nd N t = -1 := if_neg h

theorem lst_snoc (R : List Rn) (r : Rn) : lst (R ++ [r]) = r := by
  unfold lst
  rw [List.length_append, List.getD_eq_getElem?_getD]
  simp
theorem bump_snoc (R : List Rn) (r : Rn) : bump (R ++ [r]) = R ++ [⟨r.n, r.f, r.m + 1⟩] := by
  unfold bump
  rw [lst_snoc, List.length_append]
  simp [List.set_append_right]
theorem gon_snoc {N : List Int} {R : List Rn} {r : Rn} {e : Ev} : gon N (R ++ [r]) e ↔ r.n = nd N e.t ∧ e.c = r.m + 1 := by
  unfold gon
  rw [lst_snoc]
  simp
theorem gon_nil {N : List Int} {e : Ev} : ¬ gon N [] e := fun h => absurd h.1 (by simp)
theorem bump_len (R : List Rn) : (bump R).length = R.length := by simp [bump]
theorem snoc_of {R : List Rn} (h : 0 < R.length) : ∃ Q, R = Q ++ [lst R] := by
  refine ⟨R.take (R.length - 1), ?_⟩
  have h1 := List.take_append_drop (R.length - 1) R
  rw [List.drop_eq_getElem_cons (by omega), List.drop_eq_nil_of_le (by omega)] at h1
  unfold lst
  rw [List.getD_eq_getElem?_getD, List.getElem?_eq_getElem (by omega)]
  exact h1.symm

theorem rgo_on {N : List Int} {R : List Rn} {n : Nat} {e : Ev} {t : List Ev} (h : gon N R e) : rgo N R n (e :: t) = rgo N (bump R) (n + 1) t := by
  show (if gon N R e then _ else _) = _
  rw [if_pos h]
theorem rgo_new {N : List Int} {R : List Rn} {n : Nat} {e : Ev} {t : List Ev} (h : ¬ gon N R e) (h1 : e.c = 1) : rgo N R n (e :: t) = rgo N (R ++ [⟨nd N e.t, n, 1⟩]) (n + 1) t := by
  show (if gon N R e then _ else _) = _
  rw [if_neg h, if_pos h1]
theorem rgo_end {N : List Int} {R : List Rn} {n : Nat} {e : Ev} {t : List Ev} (h : ¬ gon N R e) (h1 : ¬ e.c = 1) : rgo N R n (e :: t) = (R, false) := by
  show (if gon N R e then _ else _) = _
  rw [if_neg h, if_neg h1]

theorem thr_ge (N : List Int) (a : Int) : ∀ (t : List Ev) (m : Nat), m ≤ thr N a m t ∧ thr N a m t - m ≤ t.length
  | [], m => by simp [thr]
  | e :: t, m => by
    unfold thr
    by_cases h : e.c = m + 1 ∧ nd N e.t = a
    · rw [if_pos h]
      have := thr_ge N a t (m + 1)
      simp
      omega
    · rw [if_neg h]
      simp
/-- A tenure goes on as far as it goes. -/
theorem thr_go (N : List Int) (a : Int) (R : List Rn) (f : Nat) : ∀ (t : List Ev) (m n : Nat),
    rgo N (R ++ [⟨a, f, m⟩]) n t = rgo N (R ++ [⟨a, f, thr N a m t⟩]) (n + (thr N a m t - m)) (t.drop (thr N a m t - m)) ∧
      ∀ e, (t.drop (thr N a m t - m)).head? = some e → ¬ gon N (R ++ [⟨a, f, thr N a m t⟩]) e
  | [], m, n => by simp [thr]
  | e :: t, m, n => by
    unfold thr
    by_cases h : e.c = m + 1 ∧ nd N e.t = a
    · rw [if_pos h]
      have hg : gon N (R ++ [⟨a, f, m⟩]) e := gon_snoc.2 ⟨h.2.symm, h.1⟩
      have hi := thr_go N a R f t (m + 1) (n + 1)
      have hl := (thr_ge N a t (m + 1)).1
      have h1 : thr N a (m + 1) t - m = (thr N a (m + 1) t - (m + 1)) + 1 := by omega
      rw [rgo_on hg, bump_snoc, h1, List.drop_succ_cons]
      refine ⟨?_, hi.2⟩
      rw [hi.1]
      congr 1
      omega
    · rw [if_neg h]
      simp only [Nat.sub_self, Nat.add_zero, List.drop_zero, List.head?_cons, true_and]
      intro e' he
      injection he with he
      subst he
      intro hg
      have := gon_snoc.1 hg
      exact h ⟨this.2, this.1.symm⟩

/-- How many entries some tenures have. -/
def pre : List Rn → Nat
  | [] => 0
  | r :: t => r.m + pre t
theorem pre_append (A B : List Rn) : pre (A ++ B) = pre A + pre B := by
  induction A with
  | nil => simp [pre]
  | cons a t ih => show a.m + pre (t ++ B) = a.m + pre t + pre B; omega
theorem rn_take {R : List Rn} {k : Nat} (h : k < R.length) : R.take (k + 1) = R.take k ++ [R.getD k r0] := by
  rw [List.take_add_one, List.getElem?_eq_getElem h, List.getD_eq_getElem?_getD, List.getElem?_eq_getElem h]
  rfl
theorem pre_take {R : List Rn} {k : Nat} (h : k < R.length) : pre (R.take (k + 1)) = pre (R.take k) + (R.getD k r0).m := by
  rw [rn_take h, pre_append]
  rfl
/-- How often the next tenure is of another node. -/
def tur (R : List Rn) : Nat → Nat
  | 0 => 0
  | k + 1 => tur R k + (if 0 < k ∧ (R.getD k r0).n ≠ (R.getD (k - 1) r0).n then 1 else 0)
/-- The greatest number of entries. -/
def lng : List Rn → Nat
  | [] => 0
  | r :: t => max r.m (lng t)
theorem lng_append (A B : List Rn) : lng (A ++ B) = max (lng A) (lng B) := by
  induction A with
  | nil => simp [lng]
  | cons a t ih => show max a.m (lng (t ++ B)) = max (max a.m (lng t)) (lng B); omega
theorem lng_take {R : List Rn} {k : Nat} (h : k < R.length) : lng (R.take (k + 1)) = max (lng (R.take k)) (R.getD k r0).m := by
  rw [rn_take h, lng_append]
  simp [lng]
theorem lng_pre (R : List Rn) : lng R ≤ pre R := by
  induction R with
  | nil => exact Nat.le_refl _
  | cons a t ih => show max a.m (lng t) ≤ a.m + pre t; omega
theorem tur_le (R : List Rn) (k : Nat) : tur R k ≤ k := by
  induction k with
  | zero => exact Nat.le_refl _
  | succ k ih => unfold tur; split <;> omega

/-- The tenures R are those of the first n of the entries E. -/
structure Laid (N : List Int) (E : List Ev) (R : List Rn) (n : Nat) : Prop where
  at_ : ∀ i, i < R.length → (R.getD i r0).f = pre (R.take i) ∧ 1 ≤ (R.getD i r0).m ∧ ∀ k, k < (R.getD i r0).m → (E.getD (pre (R.take i) + k) e0).c = k + 1 ∧ nd N (E.getD (pre (R.take i) + k) e0).t = (R.getD i r0).n
  all : pre R = n
  le : n ≤ E.length
theorem Laid.nil (N : List Int) (E : List Ev) : Laid N E [] 0 := ⟨fun i h => absurd h (by simp), rfl, Nat.zero_le _⟩
theorem Laid.snoc {N : List Int} {E : List Ev} {R : List Rn} {n m : Nat} {a : Int} (h : Laid N E R n) (hm : 1 ≤ m) (hn : n + m ≤ E.length) (he : ∀ k, k < m → (E.getD (n + k) e0).c = k + 1 ∧ nd N (E.getD (n + k) e0).t = a) : Laid N E (R ++ [⟨a, n, m⟩]) (n + m) := by
  refine ⟨fun i hi => ?_, by rw [pre_append, h.all]; rfl, hn⟩
  rw [List.length_append] at hi
  simp at hi
  rcases Nat.lt_or_ge i R.length with h1 | h1
  · rw [show (R ++ [(⟨a, n, m⟩ : Rn)]).getD i r0 = R.getD i r0 by simp only [List.getD_eq_getElem?_getD]; rw [List.getElem?_append_left h1], List.take_append_of_le_length (by omega)]
    exact h.at_ i h1
  · obtain rfl : i = R.length := by omega
    rw [show (R ++ [(⟨a, n, m⟩ : Rn)]).getD R.length r0 = ⟨a, n, m⟩ by simp [List.getD], List.take_left, h.all]
    exact ⟨rfl, hm, he⟩
theorem Laid.back {N : List Int} {E : List Ev} {Q : List Rn} {r : Rn} {n : Nat} (h : Laid N E (Q ++ [r]) n) : Laid N E Q (pre Q) ∧ r.f = pre Q ∧ pre Q + r.m = n ∧ 1 ≤ r.m ∧ ∀ k, k < r.m → (E.getD (pre Q + k) e0).c = k + 1 ∧ nd N (E.getD (pre Q + k) e0).t = r.n := by
  have ha := h.all
  rw [pre_append] at ha
  have hl := h.at_ Q.length (by simp)
  rw [show (Q ++ [r]).getD Q.length r0 = r by simp [List.getD], List.take_left] at hl
  have hpr : pre [r] = r.m := rfl
  refine ⟨⟨fun i hi => ?_, rfl, by have := h.le; omega⟩, hl.1, by omega, hl.2⟩
  have hi2 := h.at_ i (by simp; omega)
  rw [show (Q ++ [r]).getD i r0 = Q.getD i r0 by simp only [List.getD_eq_getElem?_getD]; rw [List.getElem?_append_left hi], List.take_append_of_le_length (by omega)] at hi2
  exact hi2
theorem rgo_laid {N : List Int} {E : List Ev} : ∀ (t : List Ev) (R : List Rn) (n : Nat), E.drop n = t → Laid N E R n → Laid N E (rgo N R n t).1 (pre (rgo N R n t).1) ∧ ((rgo N R n t).2 = true ↔ pre (rgo N R n t).1 = E.length)
  | [], R, n, ht, h => by
    have hn : E.length ≤ n := by
      have := congrArg List.length ht
      rw [List.length_drop] at this
      simp at this
      omega
    have := h.all
    have hl := h.le
    refine ⟨by show Laid N E R (pre R); rw [this]; exact h, ?_⟩
    show true = true ↔ pre R = E.length
    simp
    omega
  | e :: t, R, n, ht, h => by
    have hn : n < E.length := by
      rcases Nat.lt_or_ge n E.length with h1 | h1
      · exact h1
      · rw [List.drop_eq_nil_of_le h1] at ht
        cases ht
    have ht2 := ht
    rw [ev_drop hn] at ht2
    injection ht2 with he ht2
    by_cases hg : gon N R e
    · rw [rgo_on hg]
      obtain ⟨Q, hQ⟩ := snoc_of hg.1
      refine rgo_laid t (bump R) (n + 1) ht2 ?_
      have hg2 := hg.2
      generalize lst R = r at *
      subst hQ
      obtain ⟨hb, hf, hr, hm, hk⟩ := h.back
      have := hb.snoc (m := r.m + 1) (a := r.n) (by omega) (by omega) (fun k hk2 => by
        rcases Nat.lt_or_ge k r.m with h1 | h1
        · exact hk k h1
        · obtain rfl : k = r.m := by omega
          rw [hr, he]
          exact ⟨hg2.2, hg2.1.symm⟩)
      rw [bump_snoc, hf]
      rw [show n + 1 = pre Q + (r.m + 1) by omega]
      exact this
    · by_cases h1 : e.c = 1
      · rw [rgo_new hg h1]
        refine rgo_laid t _ (n + 1) ht2 (h.snoc (by omega) (by omega) (fun k hk => ?_))
        obtain rfl : k = 0 := by omega
        rw [Nat.add_zero, he]
        exact ⟨by rw [h1]; rfl, rfl⟩
      · rw [rgo_end hg h1]
        have ha := h.all
        refine ⟨by show Laid N E R (pre R); rw [ha]; exact h, ?_⟩
        show false = true ↔ pre R = E.length
        simp
        omega
theorem tns_laid (N : List Int) (l : List Ev) : Laid N (ens l) (tns N l).1 (pre (tns N l).1) ∧ ((tns N l).2 = true ↔ pre (tns N l).1 = (ens l).length) := rgo_laid _ _ _ rfl (Laid.nil _ _)
/-- As many tenures as entries, at most. -/
theorem rgo_len {N : List Int} : ∀ (t : List Ev) (R : List Rn) (n : Nat), (rgo N R n t).1.length ≤ R.length + t.length
  | [], R, n => by simp [rgo]
  | e :: t, R, n => by
    by_cases hg : gon N R e
    · rw [rgo_on hg]
      have := rgo_len (N := N) t (bump R) (n + 1)
      rw [bump_len] at this
      simp
      omega
    · by_cases h1 : e.c = 1
      · rw [rgo_new hg h1]
        have := rgo_len (N := N) t (R ++ [⟨nd N e.t, n, 1⟩]) (n + 1)
        rw [List.length_append] at this
        simp at this ⊢
        omega
      · rw [rgo_end hg h1]
        simp
theorem tns_len (N : List Int) (l : List Ev) : (tns N l).1.length ≤ l.length := by
  have := rgo_len (N := N) (ens l) [] 0
  have h2 := ens_len l
  simp at this
  unfold tns
  omega
theorem tns_pre (N : List Int) (l : List Ev) : pre (tns N l).1 ≤ l.length := Nat.le_trans (tns_laid N l).1.le (ens_len l)
theorem Laid.m_le {N : List Int} {E : List Ev} {R : List Rn} {n i : Nat} (h : Laid N E R n) (hi : i < R.length) : pre (R.take i) + (R.getD i r0).m ≤ n := by
  rw [← pre_take hi, ← h.all]
  have := congrArg pre (List.take_append_drop (i + 1) R)
  rw [pre_append] at this
  omega
end Go.Proofs.Ytefcjlacjafnoaa
