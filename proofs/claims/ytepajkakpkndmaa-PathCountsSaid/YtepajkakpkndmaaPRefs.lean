/- The document's Has, Node, Slot, Mates, Up, Far, Meet. -/
import Derived.Test.YtepajkakpkndmaaPClimb
import Derived.Test.YtepajkakpkndmaaTRMore
namespace Go.Proofs.Ytepajkakpkndmaa
open Go.RowKit
set_option maxRecDepth 100000

theorem lf_nodup (P : List Int) : (lf P).Nodup := by
  unfold lf lfk
  refine List.Pairwise.map _ ?_ (List.Pairwise.filter _ List.nodup_range)
  intro a b h e
  exact h (by injection e)
theorem lf_inj {P : List Int} {i j : Nat} (hi : i < (lf P).length) (hj : j < (lf P).length) (h : (lf P).getD i 0 = (lf P).getD j 0) : i = j := by
  have h2 : (lf P)[i] = (lf P)[j] := by simpa [List.getD, hi, hj] using h
  have hp := List.pairwise_iff_getElem.1 (lf_nodup P)
  rcases Nat.lt_trichotomy i j with h3 | h3 | h3
  · exact absurd h2 (hp i j hi hj h3)
  · exact h3
  · exact absurd h2.symm (hp j i hj hi h3)
/-- The node of a thread that there is. -/
theorem node_at {P T : List Int} {k : Nat} (hz : chk P T = 0) (hk : k < T.length) : ∃ i : Nat, nodeT (lf P) T k = (i : Int) ∧ i < (lf P).length ∧ (lf P).getD i 0 = T.getD k 0 := by
  have hm := (chk_zero hz).2.2.2 _ (getD_in hk)
  unfold nodeT
  rw [if_pos (by omega), Int.toNat_natCast]
  rcases fidx_fst (fun y => y == T.getD k 0) (lf P) with ⟨_, h⟩ | ⟨i, h, h1, h2, _⟩
  · have := h _ hm
    simp at this
  · exact ⟨i, h, h1, by simpa using h2⟩
/-- How many of the first k threads are at node n. -/
def mt (L T : List Int) (n : Int) (k : Nat) : Nat := if 0 ≤ n ∧ n < L.length then cnt (T.take k) (L.getD n.toNat 0) else 0
theorem mt_zero {L T : List Int} {n : Int} : mt L T n 0 = 0 := by unfold mt; split <;> rfl
theorem mt_all {L T : List Int} {n : Int} : (mt L T n T.length : Int) = matesT L T n := by
  unfold mt matesT
  rw [List.take_length]
  split <;> rfl
theorem mt_le {L T : List Int} {n : Int} {k : Nat} : mt L T n k ≤ T.length := by
  unfold mt
  split
  · exact Nat.le_trans cnt_le (by simp; omega)
  · exact Nat.zero_le _
theorem mt_next {P T : List Int} {n : Int} {k : Nat} (hz : chk P T = 0) (hk : k < T.length) : mt (lf P) T n (k + 1) = mt (lf P) T n k + if nodeT (lf P) T k = n then 1 else 0 := by
  obtain ⟨i, hi, hil, hv⟩ := node_at hz hk
  rw [hi]
  unfold mt
  by_cases h : 0 ≤ n ∧ n < (lf P).length
  · rw [if_pos h, if_pos h]
    obtain ⟨j, rfl⟩ : ∃ j : Nat, n = j := ⟨n.toNat, by omega⟩
    rw [Int.toNat_natCast]
    by_cases he : (i : Int) = j
    · have : i = j := by omega
      subst this
      rw [if_pos rfl, hv, cnt_yes hk rfl]
    · rw [if_neg he, cnt_no hk (fun e => he (by rw [lf_inj hil (by omega) (hv.trans e)]))]
      rfl
  · rw [if_neg h, if_neg h, if_neg (by omega)]

section
variable {w : World} {v : Value} {P T : List Int}
set_option maxHeartbeats 2000000
theorem r7has_c {b0 : Bool} (a : Int) (hb : (decide (0 ≤ a) && decide (a < (T.length : Int))) = b0) (hv : Topo w v P T) : Calls Try.prog 43 #[v, .int .i64 a] w fun e w' => e = .returned (.bool b0) ∧ Kept Nil w w' := by
  have HB := hide hb
  obtain ⟨va, vb, rfl, ha, hb2⟩ := hv
  obtain ⟨A0, c0, rfl, -⟩ := id ha
  obtain ⟨A1, c1, rfl, -⟩ := id hb2
  have hk := hide ((Kept.refl Nil w).alloc (.cells #[.slice A0 P.length c0, .slice A1 T.length c1] 24))
  clear ha hb2 hb
  by_cases h1 : 0 ≤ a
  · by_cases h2 : a < (T.length : Int)
    · have HM : Hid ((decide (0 ≤ a) && decide (a < (T.length : Int))) = true) := hide (by simp [h1, h2])
      go_enter Try.func43, Try.ntmps43
      go_wp2_with fail
      go_ret
      exact ⟨ret_yes HM.out HB.out, hk.out⟩
    · have HM : Hid ((decide (0 ≤ a) && decide (a < (T.length : Int))) = false) := hide (by simp [h2])
      have h3 : decide (a < (T.length : Int)) = false := by simpa using h2
      clear h2
      go_enter Try.func43, Try.ntmps43
      go_wp2_with fail
      go_ret
      exact ⟨ret_no HM.out HB.out, hk.out⟩
  · have HM : Hid ((decide (0 ≤ a) && decide (a < (T.length : Int))) = false) := hide (by simp [h1])
    have h3 : decide (0 ≤ a) = false := by simpa using h1
    clear h1
    go_enter Try.func43, Try.ntmps43
    go_wp2_with fail
    go_ret
    exact ⟨ret_no HM.out HB.out, hk.out⟩
theorem r7has_yes {k : Nat} (hv : Topo w v P T) (hk : k < T.length) : Calls Try.prog 43 #[v, .int .i64 k] w fun e w' => e = .returned (.bool true) ∧ Kept Nil w w' := r7has_c k (by simp; omega) hv
theorem r7has_no {a : Int} (hv : Topo w v P T) (ha : ¬ (0 ≤ a ∧ a < T.length)) : Calls Try.prog 43 #[v, .int .i64 a] w fun e w' => e = .returned (.bool false) ∧ Kept Nil w w' := r7has_c a (by
  by_cases h1 : 0 ≤ a
  · have h2 : ¬ a < (T.length : Int) := fun z => ha ⟨h1, z⟩
    simp [h2]
  · simp [h1]) hv

/-- A topology's box, as a callee lays it. -/
structure Bo (w W : World) (A0 : Option Addr) (c0 : Nat) (A1 : Option Addr) (c1 : Nat) (P T : List Int) : Prop where
  is_ : Is W w.heap.size 24 #[.slice A0 P.length c0, .slice A1 T.length c1]
  kept : Kept Nil w W
  topo : Topo W (.agg #[.slice A0 P.length c0, .slice A1 T.length c1]) P T
theorem Bo.later {W W' : World} {A0 A1 : Option Addr} {c0 c1 : Nat} (h : Bo w W A0 c0 A1 c1 P T) (k : Kept Nil W W') : Bo w W' A0 c0 A1 c1 P T := ⟨h.is_.kept k (fun z => z), h.kept.trans k (fun _ _ z => z), h.topo.kept k⟩
theorem Bo.at0 {W : World} {A0 A1 : Option Addr} {c0 c1 : Nat} (h : Bo w W A0 c0 A1 c1 P T) : W.cell? ⟨w.heap.size, 0, none⟩ = some (.slice A0 P.length c0) := h.is_.cell 0
theorem Bo.at1 {W : World} {A0 A1 : Option Addr} {c0 c1 : Nat} (h : Bo w W A0 c0 A1 c1 P T) : W.cell? ⟨w.heap.size, 1, none⟩ = some (.slice A1 T.length c1) := h.is_.cell 1
theorem Bo.nums {W : World} {A0 A1 : Option Addr} {c0 c1 : Nat} (h : Bo w W A0 c0 A1 c1 P T) : Nums W (.slice A0 P.length c0) P ∧ Nums W (.slice A1 T.length c1) T := by
  obtain ⟨a, b, e, h0, h1⟩ := h.topo
  injection e with e
  injection e with e
  injection e with e1 e
  injection e with e2 _
  subst e1 e2
  exact ⟨h0, h1⟩
theorem Bo.open (hv : Topo w v P T) : ∃ A0 c0 A1 c1 W, v = .agg #[.slice A0 P.length c0, .slice A1 T.length c1] ∧ w.alloc (.cells #[.slice A0 P.length c0, .slice A1 T.length c1] 24) = W ∧ Bo w W A0 c0 A1 c1 P T := by
  obtain ⟨va, vb, rfl, ha, hb⟩ := hv
  obtain ⟨A0, c0, rfl, -⟩ := id ha
  obtain ⟨A1, c1, rfl, -⟩ := id hb
  have hk := (Kept.refl Nil w).alloc (.cells #[.slice A0 P.length c0, .slice A1 T.length c1] 24)
  exact ⟨A0, c0, A1, c1, _, rfl, rfl, ⟨Is.new _ _ _, hk, _, _, rfl, ha.kept hk, hb.kept hk⟩⟩

/-- Node. -/
theorem rnode_c {m : Int} (a : Int) (hz : chk P T = 0) (hm : nodeT (lf P) T a = m) (hv : Topo w v P T) : Calls Try.prog 20 #[v, .int .i64 a] w fun e w' => e = .returned (.int .i64 m) ∧ Kept Nil w w' := by
  have HM := hide hm
  have hz2 := (chk_zero hz).1
  have hll : (lf P).length ≤ P.length := lfk_len
  obtain ⟨A0, c0, A1, c1, w0, rfl, hw0, hB⟩ := Bo.open hv
  have HB0 := hide hB
  have q0 := hB.at0
  have q1 := hB.at1
  by_cases ha : 0 ≤ a ∧ a < T.length
  · obtain ⟨k, rfl⟩ : ∃ k : Nat, a = k := ⟨a.toNat, by omega⟩
    have hk : k < T.length := by omega
    have ch := r7has_yes hB.topo hk
    have HR : Hid (fidx (fun y => y == T.getD k 0) (lf P) = m) := hide (by rw [← HM.out]; unfold nodeT; rw [if_pos ha, Int.toNat_natCast])
    obtain ⟨x, hx⟩ : ∃ x, T.getD k 0 = x := ⟨_, rfl⟩
    rw [hx] at HR
    have HX := hide hx
    have HZ := hide hz
    clear ha hm hv hB hz hx
    go_enter Try.func20, Try.ntmps20
    go_wp2_with fail
    refine ch.mono ?_
    rintro e w1 ⟨rfl, hk1⟩
    have HB1 := hide (HB0.out.later hk1)
    have q0 := HB1.out.at0
    have q1 := HB1.out.at1
    have cl := rleaves_c (L0 := lf P) (by rw [if_pos HZ.out]) HB1.out.topo
    clear hk1
    go_wp2_with fail
    refine cl.mono ?_
    rintro e w2 ⟨v2, rfl, hv2, hk2⟩
    obtain ⟨A2, c2, rfl, p2⟩ := hv2
    have HB2 := hide (HB1.out.later hk2)
    have HP2 := hide p2
    have HLL := hide (And.intro hll hz2)
    obtain ⟨L, hL⟩ : ∃ L, lf P = L := ⟨_, rfl⟩
    rw [hL] at HP2 HR HLL
    rw [hL]
    have q0 := HB2.out.at0
    have q1 := HB2.out.at1
    obtain ⟨A1', c1', e1, p1⟩ := HB2.out.nums.2
    injection e1 with e1 _ e3
    subst e1 e3
    obtain ⟨g1, o1, rfl, hg1, j1⟩ := p1 (by omega)
    have d1 := j1 k hk
    rw [HX.out] at d1
    have hk0 : (k : Int) < (T.length : Int) := by omega
    have hL32 : L.length ≤ 32 := by have := HLL.out; omega
    clear hk2 p1 j1 p2 cl ch hll hz2 hL
    go_wp2_with fail
    go_loopw [6] (fun i wr => ∃ j : Nat, j ≤ L.length ∧ i = .int .i64 j ∧ (∀ y ∈ L.take j, (fun y => y == x) y = false) ∧ ∃ q, wr = w2.drewN q) (fun i _ => L.length - (intOf i).toNat)
    case atStart => exact ⟨0, Nat.zero_le _, rfl, by simp, 0, rfl⟩
    case round =>
      obtain ⟨j, hj, rfl, hn, q, rfl⟩ := hrel
      have HN := hide hn
      clear hn
      by_cases hlt : j < L.length
      · obtain ⟨g2, o2, rfl, _, j2⟩ := HP2.out (by omega)
        have d2 := j2 j hlt
        clear j2
        have HY := hide (fun h => all_not (q := fun y => y == x) hlt HN.out h)
        have HI := hide (fun h => Fst.hit hlt HN.out h)
        generalize L.getD j 0 = y at *
        by_cases hxy : y = x
        · subst hxy
          have HQ := hide (HI.out (by simp))
          clear HY HI HN
          go_wp2_with fail
          go_quiet (fail)
          go_wp2_with fail
          go_ret
          exact ⟨by rw [← HR.out, ← HQ.out]; rfl, (HB2.out.kept.drewN _).drewN _⟩
        · have HQ := hide (HY.out (by simpa using hxy))
          have hne : (y == x) = false := by simpa using hxy
          clear HY HI hxy
          go_wp2_with fail
          go_quiet (fail)
          go_wp2_with fail
          go_roundw
          case rel => exact ⟨j + 1, by omega, by go_num, HQ.out, _, rfl⟩
          case measure => simp [intOf]; omega
      · obtain rfl : j = L.length := by omega
        have HQ := hide (Fst.none HN.out)
        go_wp2_with fail
        go_ret
        exact ⟨by rw [← HR.out, ← HQ.out]; rfl, HB2.out.kept.drewN _⟩
  · have ch := r7has_no hB.topo ha
    have HR : Hid (m = -1) := hide (by rw [← HM.out]; unfold nodeT; rw [if_neg ha])
    clear ha hm hv hB hz hz2 hll
    go_enter Try.func20, Try.ntmps20
    go_wp2_with fail
    refine ch.mono ?_
    rintro e w1 ⟨rfl, hk1⟩
    have HK := hide (HB0.out.kept.trans hk1 (fun _ _ z => z))
    clear hk1
    go_wp2_with fail
    go_ret
    exact ⟨by rw [HR.out]; rfl, HK.out⟩
end
end Go.Proofs.Ytepajkakpkndmaa
