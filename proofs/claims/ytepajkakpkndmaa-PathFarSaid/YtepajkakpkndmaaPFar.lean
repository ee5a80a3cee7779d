/- The law PathFar, walked. -/
import Derived.Test.YtepajkakpkndmaaPAwake
import Derived.Test.YtepajkakpkndmaaPWays
namespace Go.Proofs.Ytepajkakpkndmaa
open Go.RowKit
set_option maxRecDepth 100000

section
variable {w : World} {v : Value} {P T : List Int}
theorem le_max2 {a b c : Int} (h : c ≤ a ∨ c ≤ b) : c ≤ if a < b then b else a := by split <;> omega
/-- A byte modulo the number of threads. -/
theorem mod_of {x : Int} {n : Nat} (hx : 0 ≤ x ∧ x ≤ 255) (hn : 0 < n) : ∃ i : Nat, i < n ∧ Int.tmod x n = (i : Int) := by
  refine ⟨(Int.tmod x n).toNat, ?_, ?_⟩
  · have h1 := Int.tmod_lt_of_pos x (b := (n : Int)) (by omega)
    have h2 := Int.tmod_nonneg (n : Int) hx.1
    omega
  · have h2 := Int.tmod_nonneg (n : Int) hx.1
    omega

set_option maxHeartbeats 8000000
theorem far_walk {x y z : Int} (hx : 0 ≤ x ∧ x ≤ 255) (hy : 0 ≤ y ∧ y ≤ 255) (hz3 : 0 ≤ z ∧ z ≤ 255) (hv : Topo w v P T) : Calls Try.prog 4 #[v, .agg #[.int .u8 x, .int .u8 y, .int .u8 z]] w fun e w' => e = .returned (.bool true) ∧ Kept Nil w w' := by
  obtain ⟨A0, c0, A1, c1, w0, rfl, hw0, hB⟩ := Bo.open hv
  obtain ⟨w1, hw1⟩ : ∃ w1, w0.alloc (.cells #[.int .u8 x, .int .u8 y, .int .u8 z] 33) = w1 := ⟨_, rfl⟩
  have k1 : Kept Nil w0 w1 := by rw [← hw1]; exact (Kept.refl _ _).alloc _
  have i1 : Is w1 w0.heap.size 33 #[.int .u8 x, .int .u8 y, .int .u8 z] := by rw [← hw1]; exact Is.new _ _ _
  have H1 := hide (And.intro (hB.later k1) i1)
  have q0 := H1.out.1.at0
  have q1 := H1.out.1.at1
  clear hv hB k1 i1
  by_cases hz : chk P T = 0
  · have HZ := hide hz
    have hzz := (chk_zero hz).1
    have hn1 : 1 ≤ T.length ∧ T.length ≤ 32 := by omega
    have HF : Hid ((decide ((P.length : Int) ≤ 60) && decide ((T.length : Int) ≤ 60)) = true) := hide (by simp; omega)
    obtain ⟨i, hi, ei⟩ := mod_of hx (n := T.length) (by omega)
    obtain ⟨j, hj, ej⟩ := mod_of hy (n := T.length) (by omega)
    obtain ⟨k, hk, ek⟩ := mod_of hz3 (n := T.length) (by omega)
    obtain ⟨a, b, c, m, e1, e2, e3, e4, e5, e6, e7, ha, hb, hc, hmax⟩ := ways hz hi hj hk
    have HW := hide (And.intro e1 (And.intro e2 (And.intro e3 (And.intro e4 (And.intro e5 e6)))))
    have cn := newA H1.out.1.topo HZ.out
    have hn0 : ¬ (T.length : Int) = 0 := by omega
    clear hzz e1 e2 e3 e4 e5 e6 hz
    go_enter Try.func4, Try.ntmps4
    go_wp2_with fail
    refine cn.mono ?_
    rintro e w2 ⟨bb, rfl, h2⟩
    have H2 := hide (And.intro h2 (And.intro (H1.out.1.later h2.kept) (H1.out.2.kept h2.kept (fun z => z))))
    have q0 := H2.out.2.1.at0
    have q1 := H2.out.2.1.at1
    have cf := few_c HF.out H2.out.2.1.topo
    clear h2 cn
    go_wp2_with fail
    refine cf.mono ?_
    rintro e w3 ⟨rfl, hk3⟩
    have H3 := hide (H2.out.1.later hk3)
    have HB := hide fun (W : World) (h : Lw w1 W bb P T) => And.intro (H1.out.1.later h.kept) (H1.out.2.kept h.kept (fun z => z))
    clear hk3 cf
    go_wp2_with fail
    refine (threadsL rfl H3.out).mono ?_
    rintro e w4 ⟨rfl, h4⟩
    have H4 := hide h4
    have q0 := (HB.out w4 h4).1.at0
    have q1 := (HB.out w4 h4).1.at1
    have p0 : w4.cell? ⟨w0.heap.size, 0, none⟩ = some (.int .u8 x) := (HB.out w4 h4).2.cell 0
    have p1 : w4.cell? ⟨w0.heap.size, 1, none⟩ = some (.int .u8 y) := (HB.out w4 h4).2.cell 1
    have p2 : w4.cell? ⟨w0.heap.size, 2, none⟩ = some (.int .u8 z) := (HB.out w4 h4).2.cell 2
    clear h4 H3
    go_wp2_with fail
    go_quiet (fail)
    go_wp2_with fail
    have H5 := hide (H4.out.later ((Kept.refl Nil w4).drewN nq))
    refine (farL (i : Int) (j : Int) HW.out.1 H5.out).mono ?_
    rintro e w6 ⟨rfl, h6⟩
    have H6 := hide h6
    clear h6 H5 p0 p1 p2 q0 q1 ei ej ek
    go_wp2_with fail
    refine (farL (j : Int) (k : Int) HW.out.2.1 H6.out).mono ?_
    rintro e w7 ⟨rfl, h7⟩
    have H7 := hide h7
    clear h7 H6
    go_wp2_with fail
    refine (farL (i : Int) (k : Int) HW.out.2.2.1 H7.out).mono ?_
    rintro e w8 ⟨rfl, h8⟩
    obtain ⟨A1', c1', e1, p1⟩ := H1.out.1.nums.2
    injection e1 with e1 _ e3
    subst e1 e3
    obtain ⟨g1, o1, rfl, hg1, j1⟩ := p1 (by omega)
    have d1 := j1 i hi
    have d2 := j1 j hj
    obtain ⟨pp, hpp⟩ : ∃ pp, T.getD i 0 = pp := ⟨_, rfl⟩
    obtain ⟨qq, hqq⟩ : ∃ qq, T.getD j 0 = qq := ⟨_, rfl⟩
    rw [hpp] at d1 e7
    rw [hqq] at d2 e7
    obtain ⟨tt, t1, t2⟩ : ∃ tt, (a == 0) = tt ∧ (pp == qq) = tt := by
      by_cases h : pp = qq
      · exact ⟨true, by simpa using e7.2 h, by simpa using h⟩
      · exact ⟨false, by simpa using fun z => h (e7.1 z), by simpa using h⟩
    obtain ⟨M, hM⟩ : ∃ M, (if a < b then b else a) = M := ⟨_, rfl⟩
    have hcM : decide (c ≤ M) = true := by
      have := le_max2 hmax
      rw [hM] at this
      simpa using this
    have hge : decide (0 ≤ a) = true := by simpa using ha
    have hK : Lw w1 w8.drew bb P T := h8.later (Kept.refl _ _).drew
    have CELLS := hide fun (W : World) (h : Lw w1 W bb P T) => And.intro (HB.out W h).1.at1 (And.intro ((h.kept.cell (p := ⟨g1, o1 + i, none⟩) hg1 (fun z => z)).trans d1) ((h.kept.cell (p := ⟨g1, o1 + j, none⟩) hg1 (fun z => z)).trans d2))
    have cF := hide fun (W : World) (h : Lw w1 W bb P T) => farL (j : Int) (i : Int) HW.out.2.2.2.1 h
    have cA := hide fun (W : World) (h : Lw w1 W bb P T) => meetL (i : Int) (j : Int) HW.out.2.2.2.2.1 h
    have cB := hide fun (W : World) (h : Lw w1 W bb P T) => meetL (j : Int) (i : Int) HW.out.2.2.2.2.2 h
    have cW := hide fun (W : World) (h : Lw w1 W bb P T) => (awake_c W).mono (R' := fun e w' => e = .returned (.bool true) ∧ Lw w1 w' bb P T) fun e w' ⟨h1, h2⟩ => ⟨h1, h.later h2⟩
    have hi0 : (0 : Int) ≤ (i : Int) := Int.natCast_nonneg _
    have hj0 : (0 : Int) ≤ (j : Int) := Int.natCast_nonneg _
    have hi2 : (i : Int) < (T.length : Int) := by omega
    have hj2 : (j : Int) < (T.length : Int) := by omega
    have HK1 := hide H1.out.1.kept
    clear h8 H7 p1 j1 d1 d2 hpp hqq e7 ha hb hc hmax hn1 hn0 hx hy hz3 hk hi hj
    go_wp2_with fail
    go_region_held3 (fun W => W.cell? ⟨w.heap.size, 1, none⟩ = some (.slice (some ⟨g1, o1, none⟩) T.length c1) ∧ W.cell? ⟨g1, o1 + i, none⟩ = some (.int .i64 pp) ∧ W.cell? ⟨g1, o1 + j, none⟩ = some (.int .i64 qq))
      (exact CELLS.out _ (by assumption))
      ((first
        | (go_at_call 15; refine (cF.out _ (by assumption)).mono ?_; rintro e v1 ⟨rfl, g1⟩)
        | (go_at_call 16; with_reducible refine (cA.out _ (by assumption)).mono ?_; rintro e v2 ⟨rfl, g2⟩)
        | (go_at_call 16; with_reducible refine (cB.out _ (by assumption)).mono ?_; rintro e v3 ⟨rfl, g3⟩)
        | (go_at_call 9; refine (cW.out _ (by assumption)).mono ?_; rintro e v4 ⟨rfl, g4⟩)))
    all_goals have HE := hide (HK1.out.trans g4.kept (fun _ _ z => z))
    all_goals go_wp2_with fail
    all_goals go_ret
    all_goals exact ⟨rfl, HE.out⟩
  · obtain ⟨zz, hzz⟩ : ∃ zz, chk P T = zz := ⟨_, rfl⟩
    rw [hzz] at hz
    have HZ := hide (And.intro hzz hz)
    have hne : (zz != 0) = true := by simpa using hz
    obtain ⟨fb, hfb⟩ : ∃ fb, (decide ((P.length : Int) ≤ 60) && decide ((T.length : Int) ≤ 60)) = fb := ⟨_, rfl⟩
    have HF := hide hfb
    have cn := newB H1.out.1.topo HZ.out.1 HZ.out.2
    clear hzz hz hfb hx hy hz3
    go_enter Try.func4, Try.ntmps4
    go_wp2_with fail
    refine cn.mono ?_
    rintro e w3 ⟨rfl, hk3⟩
    have H3 := hide (H1.out.1.later hk3)
    have q0 := H3.out.at0
    have q1 := H3.out.at1
    have cf := few_c HF.out H3.out.topo
    clear hk3 cn
    go_wp2_with fail
    refine cf.mono ?_
    rintro e w4 ⟨rfl, hk4⟩
    have H4 := hide (H3.out.later hk4)
    clear hk4 cf
    cases fb
    all_goals go_wp2_with fail
    all_goals refine (awake_c w4).mono ?_
    all_goals rintro e w5 ⟨rfl, hk5⟩
    all_goals have H5 := hide (H4.out.kept.trans hk5 (fun _ _ z => z))
    all_goals clear hk5
    all_goals go_wp2_with fail
    all_goals go_ret
    all_goals exact ⟨rfl, H5.out⟩
end
end Go.Proofs.Ytepajkakpkndmaa
