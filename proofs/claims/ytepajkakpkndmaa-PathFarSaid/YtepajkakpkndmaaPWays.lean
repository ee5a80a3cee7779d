/- How far two threads of a tree that may be are apart: the same both ways, none within a leaf, and no way longer than both others. Plain: no program. -/
import Derived.Test.YtepajkakpkndmaaPMath
namespace Go.Proofs.Ytepajkakpkndmaa

section
variable {P T : List Int} {u v x : Nat} {i j k : Nat}

theorem anc_same (h : anc P u i = anc P v i) : ∀ m, i ≤ m → anc P u m = anc P v m := by
  intro m
  induction m with
  | zero => intro hm; have : i = 0 := by omega
            subst this; exact h
  | succ m ih =>
    intro hm
    rcases Nat.lt_or_ge m i with h1 | h1
    · obtain rfl : i = m + 1 := by omega
      exact h
    · show (P.getD (anc P u m) 0).toNat = (P.getD (anc P v m) 0).toNat
      rw [ih h1]
theorem mem_ups {y : Int} : y ∈ ups P v ↔ ∃ j, j < dn P v ∧ (anc P v j : Int) = y := by
  unfold ups upk
  rw [List.mem_map]
  constructor
  · rintro ⟨j, h1, h2⟩
    exact ⟨j, List.mem_range.1 h1, h2⟩
  · rintro ⟨j, h1, h2⟩
    exact ⟨j, List.mem_range.2 h1, h2⟩
theorem in_ups (hf : formB P = true) (hu : u < P.length) (hv : v < P.length) (hd : dn P u = dn P v) (hi : i < dn P u) : (ups P v).contains (anc P u i : Int) = true ↔ anc P u i = anc P v i := by
  rw [List.contains_iff_mem, mem_ups]
  constructor
  · rintro ⟨j, hj, e⟩
    have e2 : anc P v j = anc P u i := by omega
    have h1 := (anc_ok hf hv j hj).2
    have h2 := (anc_ok hf hu i hi).2
    have h3 := (dn_pos hf hu).2.1
    have h4 := (dn_pos hf hv).2.1
    rw [e2] at h1
    have : i = j := by omega
    subst this
    exact e2.symm
  · intro e
    exact ⟨i, by omega, by rw [e]⟩
/-- How far up two places of one depth meet. -/
def Meets (P : List Int) (u v k : Nat) : Prop := k < dn P u ∧ anc P u k = anc P v k ∧ ∀ l, l < k → anc P u l ≠ anc P v l
theorem meets_at (hf : formB P = true) (hu : u < P.length) (hv : v < P.length) (hd : dn P u = dn P v) : ∃ k : Nat, fidx (fun y => (ups P v).contains y) (ups P u) = (k : Int) ∧ Meets P u v k := by
  have h0 := dn_pos hf hu
  rcases fidx_fst (fun y => (ups P v).contains y) (ups P u) with ⟨_, h⟩ | ⟨k, h, hk, hq, hn⟩
  · exfalso
    have h1 : (anc P u (dn P u - 1) : Int) ∈ ups P u := mem_ups.2 ⟨_, by omega, rfl⟩
    have h2 := h _ h1
    have h3 := (in_ups hf hu hv hd (i := dn P u - 1) (by omega)).2 (by rw [anc_top hf hu (by omega), anc_top hf hv (by omega)])
    exact Bool.noConfusion (h3.symm.trans h2)
  · rw [ups_len] at hk
    refine ⟨k, h, hk, ?_, fun l hl e => ?_⟩
    · rw [ups_at hk] at hq
      exact (in_ups hf hu hv hd hk).1 hq
    · have h1 : (anc P u l : Int) ∈ (ups P u).take k := by
        rw [List.mem_take_iff_getElem]
        exact ⟨l, by rw [ups_len]; omega, by simp [ups, upk]⟩
      have h2 := hn _ h1
      have h3 := (in_ups hf hu hv hd (i := l) (by omega)).2 e
      exact Bool.noConfusion (h3.symm.trans h2)
theorem Meets.eq {k2 : Nat} (h : Meets P u v k) (h2 : Meets P v u k2) : k = k2 := by
  rcases Nat.lt_trichotomy k k2 with h3 | h3 | h3
  · exact absurd h.2.1.symm (h2.2.2 k h3)
  · exact h3
  · exact absurd h2.2.1.symm (h.2.2 k2 h3)
theorem Meets.zero (h : Meets P u v k) : k = 0 ↔ u = v := by
  constructor
  · rintro rfl
    exact h.2.1
  · rintro rfl
    rcases Nat.eq_zero_or_pos k with h1 | h1
    · exact h1
    · exact absurd rfl (h.2.2 0 h1)
theorem Meets.far {k2 k3 : Nat} (h1 : Meets P u v k) (h2 : Meets P v x k2) (h3 : Meets P u x k3) : k3 ≤ max k k2 := by
  rcases Nat.lt_or_ge (max k k2) k3 with h | h
  · have e1 := anc_same h1.2.1 (max k k2) (by omega)
    have e2 := anc_same h2.2.1 (max k k2) (by omega)
    exact absurd (e1.trans e2) (h3.2.2 _ h)
  · exact h

/-- A thread's leaf, as a place. -/
theorem leaf_of (hz : chk P T = 0) (hi : i < T.length) : ∃ u : Nat, T.getD i 0 = u ∧ u < P.length ∧ dn P u = (d0 P).toNat ∧ upT P T i = ups P u := by
  have hzz := chk_zero hz
  have hm0 : T.getD i 0 ∈ T := by simp [List.getD, hi]
  have hml := hzz.2.2.2 _ hm0
  have hm := mem_lf.1 hml
  refine ⟨(T.getD i 0).toNat, by omega, by omega, ?_, upT_yes hi⟩
  unfold dn
  rw [even_at hzz.2.2.1 hml]
theorem far_of (hz : chk P T = 0) (hi : i < T.length) (hj : j < T.length) : ∃ u v k : Nat, T.getD i 0 = u ∧ T.getD j 0 = v ∧ farT P T i j = (k : Int) ∧ Meets P u v k ∧ meetT P T i j = (anc P u k : Int) := by
  obtain ⟨u, hu, hul, hud, huu⟩ := leaf_of hz hi
  obtain ⟨v, hv, hvl, hvd, hvu⟩ := leaf_of hz hj
  have hf := (chk_zero hz).2.1
  obtain ⟨k, hk, hm⟩ := meets_at hf hul hvl (hud.trans hvd.symm)
  have hfar : farT P T i j = (k : Int) := by unfold farT; rw [huu, hvu]; exact hk
  refine ⟨u, v, k, hu, hv, hfar, hm, ?_⟩
  unfold meetT
  rw [hfar, if_neg (by omega), huu, Int.toNat_natCast, ups_at hm.1]
/-- All that the law asks. -/
theorem ways (hz : chk P T = 0) (hi : i < T.length) (hj : j < T.length) (hk : k < T.length) : ∃ a b c m : Int, farT P T i j = a ∧ farT P T j k = b ∧ farT P T i k = c ∧ farT P T j i = a ∧ meetT P T i j = m ∧ meetT P T j i = m ∧
    (a = 0 ↔ T.getD i 0 = T.getD j 0) ∧ 0 ≤ a ∧ 0 ≤ b ∧ 0 ≤ c ∧ (c ≤ a ∨ c ≤ b) := by
  obtain ⟨u, v, k1, hu, hv, h1, m1, e1⟩ := far_of hz hi hj
  obtain ⟨v2, x, k2, hv2, hx, h2, m2, _⟩ := far_of hz hj hk
  obtain ⟨u2, x2, k3, hu2, hx2, h3, m3, _⟩ := far_of hz hi hk
  obtain ⟨v3, u3, k4, hv3, hu3, h4, m4, e4⟩ := far_of hz hj hi
  obtain rfl : v = v2 := by omega
  obtain rfl : v = v3 := by omega
  obtain rfl : u = u2 := by omega
  obtain rfl : u = u3 := by omega
  obtain rfl : x = x2 := by omega
  obtain rfl := m1.eq m4
  refine ⟨k1, k2, k3, anc P u k1, h1, h2, h3, h4, e1, by rw [e4, m1.2.1], ?_, by omega, by omega, by omega, ?_⟩
  · rw [hu, hv]
    have := m1.zero
    omega
  · have := m1.far m2 m3
    omega
end
end Go.Proofs.Ytepajkakpkndmaa
