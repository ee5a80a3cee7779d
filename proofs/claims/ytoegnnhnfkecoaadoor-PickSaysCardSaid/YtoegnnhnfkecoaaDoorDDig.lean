/- Reading digits one by one: what holds at each head of the loop, and why it may stop. It speaks of no program. -/
import Derived.Test.YtoegnnhnfkecoaaDoorDTxt
namespace Go.Proofs.YtoegnnhnfkecoaaDoor

/-- k digits have been read, of a text that is a number's. g: the sign. -/
structure Dig (s : List UInt8) (g : Int) (k : Nat) (n : Int) : Prop where
  le : k ≤ s.length
  val : n = g * nv (s.take k)
  rng : InR n
  dig : 0 < k → nt (nv (s.take k)) = s.take k
/-- No longer beginning is a text of an int. -/
def NoMore (s : List UInt8) (g : Int) (k : Nat) : Prop := ∀ j, k < j → j ≤ s.length → ∀ m : Nat, InR (g * m) → nt m ≠ s.take j

section
variable {s : List UInt8} {g : Int} {k : Nat} {n : Int}
theorem Dig.start (s : List UInt8) (g : Int) : Dig s g 0 0 := ⟨Nat.zero_le _, by simp [nv_nil], by unfold InR; omega, fun h => absurd h (by omega)⟩
theorem take_next (hk : k < s.length) : s.take (k + 1) = s.take k ++ [s[k]] := by
  rw [List.take_succ_eq_append_getElem hk]
theorem Dig.next (hg : g = 1 ∨ g = -1) (h : Dig s g k n) (hk : k < s.length) (hd : isD s[k]) (h0 : k = 0 ∨ n ≠ 0) (hr : InR (10 * n + g * (s[k].toNat - 48))) : Dig s g (k + 1) (10 * n + g * (s[k].toNat - 48)) := by
  have hv : nv (s.take (k + 1)) = 10 * nv (s.take k) + (s[k].toNat - 48) := by rw [take_next hk, nv_snoc]
  refine ⟨hk, ?_, hr, fun _ => ?_⟩
  · have hv2 := h.val
    have h48 := hd.1
    rw [hv]
    have e : ((10 * nv (s.take k) + (s[k].toNat - 48) : Nat) : Int) = 10 * (nv (s.take k) : Int) + ((s[k].toNat : Int) - 48) := by omega
    rw [e, hv2]
    rcases hg with rfl | rfl <;> omega
  · rw [hv, take_next hk]
    rcases Nat.eq_zero_or_pos k with rfl | hp
    · simp only [List.take_zero, nv_nil, Nat.mul_zero, Nat.zero_add, List.nil_append]
      exact nt_one hd
    · have hn : 0 < nv (s.take k) := by
        rcases Nat.eq_zero_or_pos (nv (s.take k)) with e | e
        · have := h.val
          rw [e] at this
          simp at this
          rcases h0 with h0 | h0
          · omega
          · exact absurd this h0
        · exact e
      rw [nt_grow hn hd, h.dig hp]
theorem nt_take {m j : Nat} (h : nt m = s.take j) (hkj : k < j) (hj : j ≤ s.length) : isD (s[k]'(by omega)) := by
  refine nt_isD m _ ?_
  rw [h]
  exact List.mem_take_iff_getElem.2 ⟨k, by omega, rfl⟩
theorem NoMore.atEnd : NoMore s g s.length := fun j h1 h2 => by omega
theorem NoMore.other (hk : k < s.length) (hd : ¬ isD s[k]) : NoMore s g k := fun _ h1 h2 _ _ h => hd (nt_take h h1 h2)
theorem NoMore.over (hg : g = 1 ∨ g = -1) (h : Dig s g k n) (hk : k < s.length) (hr : ¬ InR (10 * n + g * (s[k].toNat - 48))) : NoMore s g k := by
  intro j h1 h2 m hm e
  apply hr
  have hd := nt_take e h1 h2
  have hv : nv (s.take (k + 1)) = 10 * nv (s.take k) + (s[k].toNat - 48) := by rw [take_next hk, nv_snoc]
  have hle : nv (s.take (k + 1)) ≤ nv (s.take j) := nv_take_le s h1
  rw [← e, nv_nt, hv] at hle
  have hv2 := h.val
  have h48 := hd.1
  unfold InR at hm ⊢
  rw [hv2]
  rcases hg with rfl | rfl <;> omega
theorem NoMore.zero (h : Dig s g k n) (hp : 0 < k) (hn : n = 0) (hg : g = 1 ∨ g = -1) : NoMore s g k ∧ k = 1 := by
  have h0 : nv (s.take k) = 0 := by
    have := h.val
    rcases hg with rfl | rfl <;> omega
  have ht : s.take k = [48] := by
    rw [← h.dig hp, h0, nt_zero]
  have hk1 : k = 1 := by
    have := congrArg List.length ht
    have hl := h.le
    simp at this
    omega
  refine ⟨?_, hk1⟩
  subst hk1
  intro j h1 h2 m _ e
  cases s with
  | nil => simp at h2; omega
  | cons c t =>
    obtain ⟨i, rfl⟩ : ∃ i, j = i + 1 + 1 := ⟨j - 2, by omega⟩
    simp at ht
    subst ht
    cases t with
    | nil => simp at h2
    | cons d u =>
      simp only [List.take_succ_cons] at e
      have := (nt_head e).2
      cases this

/-- What the digits of a text that does not begin with a minus come to. -/
theorem longest_pos (h : Dig s 1 k n) (hm : NoMore s 1 k) (hs : ∀ t, s ≠ 45 :: t) : Longest s k n := by
  refine ⟨h.le, ?_, ?_⟩
  · rcases Nat.eq_zero_or_pos k with rfl | hp
    · exact .inl ⟨rfl, by have := h.val; simpa [nv_nil] using this⟩
    · refine .inr ⟨hp, h.rng, ?_⟩
      have hv := h.val
      rw [Int.one_mul] at hv
      rw [txt_pos (by omega), hv, Int.natAbs_natCast]
      exact h.dig hp
  · intro j h1 h2 m hn
    by_cases hneg : m < 0
    · have e := hn.2
      rw [txt_neg hneg] at e
      cases s with
      | nil => simp at h2; omega
      | cons c t =>
        obtain ⟨i, rfl⟩ : ∃ i, j = i + 1 := ⟨j - 1, by omega⟩
        rw [List.take_succ_cons] at e
        injection e with e1 _
        exact hs t (by rw [← e1])
    · have e := hn.2
      rw [txt_pos (by omega)] at e
      exact hm j h1 h2 m.natAbs (by have := hn.1; unfold InR at this ⊢; omega) e
/-- .. and of one that does. -/
theorem longest_neg {t : List UInt8} (h : Dig t (-1) k n) (hm : NoMore t (-1) k) (hn : n ≠ 0) : Longest (45 :: t) (k + 1) n := by
  have hv := h.val
  have hp : 0 < k := by
    rcases Nat.eq_zero_or_pos k with rfl | hp
    · simp [nv_nil] at hv
      exact absurd hv hn
    · exact hp
  refine ⟨by simpa using h.le, .inr ⟨by omega, h.rng, ?_⟩, ?_⟩
  · rw [txt_neg (by omega), List.take_succ_cons, show n.natAbs = nv (t.take k) by omega, h.dig hp]
  · intro j h1 h2 m hnum
    obtain ⟨i, rfl⟩ : ∃ i, j = i + 1 := ⟨j - 1, by omega⟩
    have e := hnum.2
    rw [List.take_succ_cons] at e
    by_cases hneg : m < 0
    · rw [txt_neg hneg] at e
      injection e with _ e
      exact hm i (by omega) (by simpa using h2) m.natAbs (by have := hnum.1; unfold InR at this ⊢; omega) e
    · rw [txt_pos (by omega)] at e
      exact nt_no_minus e
theorem longest_neg0 {t : List UInt8} (h : Dig t (-1) k n) (hm : NoMore t (-1) k) (hn : n = 0) : Longest (45 :: t) 0 0 := by
  refine ⟨by simp, .inl ⟨rfl, rfl⟩, ?_⟩
  intro j h1 h2 m hnum
  obtain ⟨i, rfl⟩ : ∃ i, j = i + 1 := ⟨j - 1, by omega⟩
  have e := hnum.2
  rw [List.take_succ_cons] at e
  by_cases hneg : m < 0
  · rw [txt_neg hneg] at e
    injection e with _ e
    have hi : i ≤ t.length := by simpa using h2
    rcases Nat.lt_or_ge k i with c | c
    · exact hm i c hi m.natAbs (by have := hnum.1; unfold InR at this ⊢; omega) e
    · have i0 : 0 < i := by
        rcases Nat.eq_zero_or_pos i with rfl | q
        · exact absurd e (nt_ne _)
        · exact q
      obtain ⟨_, k1⟩ := NoMore.zero h (by omega) hn (.inr rfl)
      obtain rfl : i = k := by omega
      have h0 : nv (t.take i) = 0 := by have := h.val; omega
      rw [← e, nv_nt] at h0
      omega
  · rw [txt_pos (by omega)] at e
    exact nt_no_minus e
end
end Go.Proofs.YtoegnnhnfkecoaaDoor
