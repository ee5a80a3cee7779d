/- Who enters, by the document's definition, plain: it is who enters by the events. It speaks of no program. -/
import Derived.Test.YtnipgafogkbobaaYRefM
namespace Go.Proofs.Ytnipgafogkbobaa

/-- The threads of the stays that enter at a place. -/
def yenr (F : List Sy) (j : Nat) : List Int := (F.filter fun s => decide (s.e = (j : Int))).map Sy.t
/-- Those that enter ahead of a place. -/
def yenrs (F : List Sy) (n : Nat) : List Int := (List.range n).flatMap (yenr F)
section
variable {S : List Sy} {l : List Ev} {v : Ev} {s : Sy} {i j k n : Nat} {t : Int}
theorem yenrs_zero : yenrs S 0 = [] := rfl
theorem yenrs_step : yenrs S (n + 1) = yenrs S n ++ yenr S n := by
  unfold yenrs
  rw [List.range_succ, List.flatMap_append, List.flatMap_singleton]
theorem yenr_take (h : k < S.length) : yenr (S.take (k + 1)) j = yenr (S.take k) j ++ if (S.getD k s0).e = (j : Int) then [(S.getD k s0).t] else [] := by
  rw [sy_take h]
  unfold yenr
  rw [List.filter_append, List.map_append]
  congr 1
  generalize S.getD k s0 = s
  by_cases e : s.e = (j : Int)
  · rw [if_pos e]
    simp [e]
  · rw [if_neg e]
    simp [e]
theorem upd_e2 : (yupd i v s).e = s.e ∨ v.k = 2 ∧ s.t = v.t ∧ s.z = -1 ∧ s.e = -1 ∧ (yupd i v s).e = i := by
  unfold yupd
  split
  · split
    · exact .inr ⟨by omega, by omega, by omega, by omega, rfl⟩
    · repeat' split
      all_goals exact .inl rfl
  · exact .inl rfl
theorem yenr_map (f : Sy → Sy) (ht : ∀ s, (f s).t = s.t) : yenr (S.map f) j = (S.filter fun s => decide ((f s).e = (j : Int))).map Sy.t := by
  unfold yenr
  rw [List.filter_map, List.map_map]
  exact List.map_congr_left fun s _ => ht s
theorem yenr_old (hj : j < n) : yenr (ystp S n v) j = yenr S j := by
  unfold ystp
  have h1 : yenr (if v.k = 1 ∧ yfr S v.t = true then [ynew n v] else []) j = [] := by
    split
    · unfold yenr
      rw [List.filter_cons_of_neg (by rw [decide_eq_true_eq]; show ¬ (-1 : Int) = j; omega)]
      rfl
    · rfl
  have h2 : yenr (S.map (yupd n v)) j = yenr S j := by
    rw [yenr_map _ (fun _ => upd_t)]
    unfold yenr
    congr 1
    refine List.filter_congr fun s _ => ?_
    rcases upd_e2 (i := n) (v := v) (s := s) with h | ⟨_, _, _, h3, h4⟩
    · rw [h]
    · rw [h4, h3, decide_eq_false (by omega), decide_eq_false (by omega)]
  show (List.map Sy.t (List.filter _ (_ ++ _))) = _
  rw [List.filter_append, List.map_append]
  show yenr _ j ++ yenr _ j = _
  rw [h1, h2, List.append_nil]
theorem one_filter {p : Sy → Bool} (h : S.Pairwise fun a b => ¬ (p a = true ∧ p b = true)) : S.filter p = [] ∨ ∃ s, S.filter p = [s] ∧ p s = true := by
  have h2 := h.filter p
  have h3 : ∀ s ∈ S.filter p, p s = true := fun s hs => (List.mem_filter.1 hs).2
  generalize S.filter p = F at *
  match F, h2, h3 with
  | [], _, _ => exact .inl rfl
  | [s], _, h3 => exact .inr ⟨s, rfl, h3 s (by simp)⟩
  | a :: b :: r, h2, h3 => exact absurd ⟨h3 a (by simp), h3 b (by simp)⟩ ((List.pairwise_cons.1 h2).1 b (by simp))
theorem yenr_new (hs : ∀ s ∈ S, s.e < (n : Int)) (ho : Yor S) : yenr (ystp S n v) n = if v.k = 2 ∧ ytk S v = true then [v.t] else [] := by
  by_cases hk : v.k = 2
  · have e1 : ystp S n v = S.map (yupd n v) := by
      unfold ystp
      rw [if_neg (by omega), List.append_nil]
    have e2 : ytk S v = S.any (yhit v) := by
      unfold ytk
      rw [decide_eq_false (by omega), Bool.false_or]
    rw [e1, e2, yenr_map _ (fun _ => upd_t)]
    have e3 : (S.filter fun s => decide ((yupd n v s).e = (n : Int))) = S.filter (yhit v) := by
      refine List.filter_congr fun s hm => ?_
      have := hs s hm
      rw [Bool.eq_iff_iff, decide_eq_true_eq]
      unfold yhit
      rw [decide_eq_true_eq]
      rcases upd_e2 (i := n) (v := v) (s := s) with h | ⟨h1, h2, h3, h4, h5⟩
      · rw [h]
        constructor
        · intro z
          omega
        · rintro ⟨z1, z2, z3⟩
          rw [upd_two z1 z2 hk (by omega)] at h
          have h : (n : Int) = s.e := h
          omega
      · exact ⟨fun _ => ⟨h2, h3, .inl ⟨h1, h4⟩⟩, fun _ => h5⟩
    rw [e3]
    have hp : S.Pairwise fun a b => ¬ (yhit v a = true ∧ yhit v b = true) := by
      refine List.Pairwise.imp (fun {a b} h => ?_) ho
      rintro ⟨h1, h2⟩
      unfold yhit at h1 h2
      rw [decide_eq_true_eq] at h1 h2
      have := h.2 (by omega)
      omega
    rcases one_filter hp with h | ⟨s, h, h2⟩
    · rw [h, if_neg]
      · rfl
      · rintro ⟨_, z⟩
        obtain ⟨s, hm, z⟩ := List.any_eq_true.1 z
        have := List.mem_filter.2 ⟨hm, z⟩
        rw [h] at this
        cases this
    · rw [h, if_pos ⟨hk, List.any_eq_true.2 ⟨s, (List.mem_filter.1 (by rw [h]; simp)).1, h2⟩⟩]
      unfold yhit at h2
      rw [decide_eq_true_eq] at h2
      show [s.t] = _
      rw [h2.1]
  · rw [if_neg (fun z => hk z.1)]
    unfold ystp yenr
    rw [List.filter_eq_nil_iff.2]
    · rfl
    · intro s hm
      rw [decide_eq_true_eq]
      rcases List.mem_append.1 hm with h | h
      · obtain ⟨s', h1, rfl⟩ := List.mem_map.1 h
        have := hs s' h1
        rcases upd_e2 (i := n) (v := v) (s := s') with h2 | ⟨h2, _⟩
        · omega
        · exact absurd h2 hk
      · split at h
        · rw [List.mem_singleton] at h
          subst h
          show (-1 : Int) ≠ n
          omega
        · cases h
theorem yenrs_old (hn : n ≤ i) : yenrs (ystp S i v) n = yenrs S n := by
  unfold yenrs
  have : ∀ m, m ≤ n → (List.range m).flatMap (yenr (ystp S i v)) = (List.range m).flatMap (yenr S) := by
    intro m
    induction m with
    | zero => exact fun _ => rfl
    | succ m ih =>
      intro hm
      rw [List.range_succ, List.flatMap_append, List.flatMap_append, ih (by omega), List.flatMap_singleton, List.flatMap_singleton, yenr_old (by omega)]
  exact this n (Nat.le_refl _)
/-- The document's entries are those of the events. -/
theorem yenrs_yen : yenrs (yof l) l.length = yen l := by
  refine by_last (P := fun l => yenrs (yof l) l.length = yen l) rfl (fun l v ih => ?_) l
  show yenrs (yof (l ++ [v])) (l ++ [v]).length = yenA [] 0 (l ++ [v])
  have hs : ∀ s ∈ yof l, s.e < (l.length : Int) := fun s h => by
    rcases (ygd_all s h).enter with h1 | ⟨_, h1, _⟩ <;> omega
  rw [yenA_snoc, yof_snoc, List.length_append, List.length_singleton, yenrs_step, yenrs_old (Nat.le_refl _), yenr_new hs yor_all, ih]
  rfl
end
end Go.Proofs.Ytnipgafogkbobaa
