/- Lists of numbers as texts: what the library's Join and Split come to; how a list grows. It speaks of no program. -/
import Derived.Test.YtcpcdfihgabelaaDoorDTxt
import Derived.Lib.SplitLaws
import Derived.Lib.Join
namespace Go.Proofs.YtcpcdfihgabelaaDoor

theorem join_lib (l : List (List UInt8)) : Lib.join l [44] = join l := by
  induction l with
  | nil => rfl
  | cons a t ih =>
    cases t with
    | nil => rw [Lib.join_one]; rfl
    | cons b u =>
      rw [Lib.join_cons] at ih ⊢
      show a ++ Lib.joinTail [44] (b :: u) = a ++ 44 :: join (b :: u)
      rw [← ih]
      simp [Lib.joinTail]
theorem join_snoc (l : List (List UInt8)) (a : List UInt8) (h : l ≠ []) : join (l ++ [a]) = join l ++ 44 :: a := by
  induction l with
  | nil => exact absurd rfl h
  | cons b t ih =>
    cases t with
    | nil => rfl
    | cons c u =>
      show b ++ 44 :: join (c :: u ++ [a]) = (b ++ 44 :: join (c :: u)) ++ 44 :: a
      rw [ih (by simp)]
      simp
theorem ltxt_first (l : List Int) (h : 0 < l.length) : ltxt (l.take 1) = ltxt (l.take 0) ++ txt (l.getD 0 0) := by
  cases l with
  | nil => simp at h
  | cons a t => simp [ltxt, join]
theorem ltxt_next (l : List Int) {k : Nat} (h0 : 0 < k) (h : k < l.length) : ltxt (l.take (k + 1)) = (ltxt (l.take k) ++ [44]) ++ txt (l.getD k 0) := by
  unfold ltxt
  have e : l.take (k + 1) = l.take k ++ [l.getD k 0] := by
    rw [List.take_succ_eq_append_getElem h]
    simp [List.getD, h]
  rw [e, List.map_append, List.map_singleton, join_snoc _ _ (by
    intro hn
    have := congrArg List.length hn
    rw [List.length_map, List.length_take, List.length_nil] at this
    omega)]
  simp
theorem join_len (l : List (List UInt8)) (h : ∀ a ∈ l, a.length ≤ 20) : (join l).length ≤ 21 * l.length := by
  induction l with
  | nil => simp [join]
  | cons a t ih =>
    have ha := h a (by simp)
    have ih := ih (fun x hx => h x (by simp [hx]))
    cases t with
    | nil => simp [join]; omega
    | cons b u =>
      show (a ++ 44 :: join (b :: u)).length ≤ _
      simp at ih ⊢
      omega
theorem ltxt_len (l : List Int) (h : ∀ n ∈ l, InR n) : (ltxt l).length ≤ 21 * l.length := by
  have := join_len (l.map txt) (fun a ha => by
    obtain ⟨n, hn, rfl⟩ := List.mem_map.1 ha
    exact txt_len (h n hn))
  simpa [ltxt] using this

/-- Cut at the first comma, or not at all. -/
theorem first_comma (s : List UInt8) : (44 : UInt8) ∉ s ∨ ∃ a t, (44 : UInt8) ∉ a ∧ s = a ++ 44 :: t := by
  induction s with
  | nil => exact .inl (by simp)
  | cons c s ih =>
    by_cases hc : c = 44
    · exact .inr ⟨[], s, by simp, by rw [hc]; rfl⟩
    · rcases ih with h | ⟨a, t, h, e⟩
      · exact .inl (by simp [h]; exact fun e => hc e.symm)
      · exact .inr ⟨c :: a, t, by simp [h]; exact fun e => hc e.symm, by rw [e]; rfl⟩
theorem index_comma (a t : List UInt8) (h : (44 : UInt8) ∉ a) : Lib.index (a ++ 44 :: t) [44] = (a.length : Int) := by
  induction a with
  | nil =>
    show Lib.index (44 :: t) [44] = 0
    rw [Lib.index]
    simp [List.isPrefixOf]
  | cons c u ih =>
    simp at h
    have ih := ih h.2
    show Lib.index (c :: (u ++ 44 :: t)) [44] = _
    rw [Lib.index, ih, if_neg (by simp [List.isPrefixOf]; exact fun e => h.1 e), if_neg (by simp)]
    simp
theorem index_no (s : List UInt8) (h : (44 : UInt8) ∉ s) : Lib.index s [44] = -1 := by
  induction s with
  | nil => simp [Lib.index]
  | cons c u ih =>
    simp at h
    rw [Lib.index, ih h.2, if_neg (by simp [List.isPrefixOf]; exact fun e => h.1 e)]
    rfl
theorem split_cut (s : List UInt8) : Lib.splitK [44] 0 (Lib.count s [44]) s = cut s := by
  obtain ⟨n, hn⟩ : ∃ n, n = s.length := ⟨_, rfl⟩
  induction n using Nat.strongRecOn generalizing s with
  | ind n ih =>
    rcases first_comma s with h | ⟨a, t, h, rfl⟩
    · rw [Lib.count_miss (index_no s h), cut_plain h]
      rfl
    · have hi := index_comma a t h
      have hd : (a ++ 44 :: t).drop (a.length + [(44 : UInt8)].length) = t := by simp
      rw [Lib.count_hit (by simp) hi, hd, cut_comma h, Nat.add_comm, Lib.splitK, hi, if_neg (by simp)]
      simp
      exact ih t.length (by simp at hn; omega) t rfl
theorem splitB_cut (s : ByteArray) : (Lib.splitB ⟨#[44]⟩ 0 (Lib.countB s ⟨#[44]⟩) s).map (·.data.toList) = cut s.data.toList := by
  rw [Lib.splitB_data]
  exact split_cut s.data.toList
theorem cut_length (s : List UInt8) : (cut s).length ≤ s.length + 1 := by
  induction s with
  | nil => simp [cut]
  | cons c t ih =>
    unfold cut
    split
    · simp; omega
    · cases h : cut t with
      | nil => simp
      | cons a u =>
        rw [h] at ih
        simp at ih ⊢
        omega
theorem cut_part (s : List UInt8) : ∀ p ∈ cut s, p.length ≤ s.length := by
  induction s with
  | nil => simp [cut]
  | cons c t ih =>
    unfold cut
    split
    · intro p hp
      simp at hp
      rcases hp with rfl | hp
      · simp
      · have := ih p hp
        simp
        omega
    · cases h : cut t with
      | nil => simp
      | cons a u =>
        rw [h] at ih
        intro p hp
        simp at hp
        rcases hp with rfl | hp
        · have := ih a (by simp)
          simp
          omega
        · have := ih p (by simp [hp])
          simp
          omega
end Go.Proofs.YtcpcdfihgabelaaDoor
