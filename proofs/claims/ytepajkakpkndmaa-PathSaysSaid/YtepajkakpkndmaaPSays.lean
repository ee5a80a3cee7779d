/- The law PathSays, walked. -/
import Derived.Test.YtepajkakpkndmaaPAwake
namespace Go.Proofs.Ytepajkakpkndmaa
open Go.RowKit
set_option maxRecDepth 100000

section
variable {w : World} {v : Value} {P T : List Int}
theorem Lw.drew {W : World} {b : Nat} (h : Lw w W b P T) : Lw w W.drew b P T := h.later (Kept.refl _ _).drew
/-- What the law's memory holds while it runs: its argument's box, its two threads' box. -/
structure Pt (w W : World) (A0 : Option Addr) (c0 : Nat) (A1 : Option Addr) (c1 : Nat) (P T : List Int) (x y : Int) : Prop where
  bo : Bo w W A0 c0 A1 c1 P T
  two : Is W (w.heap.size + 1) 55 #[.int .i64 x, .int .i64 y]
theorem Pt.later {W W' : World} {A0 A1 : Option Addr} {c0 c1 : Nat} {x y : Int} (h : Pt w W A0 c0 A1 c1 P T x y) (k : Kept Nil W W') : Pt w W' A0 c0 A1 c1 P T x y := ⟨h.bo.later k, h.two.kept k (fun z => z)⟩
theorem Pt.x {W : World} {A0 A1 : Option Addr} {c0 c1 : Nat} {x y : Int} (h : Pt w W A0 c0 A1 c1 P T x y) : W.cell? ⟨w.heap.size + 1, 0, none⟩ = some (.int .i64 x) := h.two.cell 0
theorem Pt.y {W : World} {A0 A1 : Option Addr} {c0 c1 : Nat} {x y : Int} (h : Pt w W A0 c0 A1 c1 P T x y) : W.cell? ⟨w.heap.size + 1, 1, none⟩ = some (.int .i64 y) := h.two.cell 1
theorem few_no {P T : List Int} (h : ¬ (P.length ≤ 60 ∧ T.length ≤ 60)) : (decide ((P.length : Int) ≤ 60) && decide ((T.length : Int) ≤ 60)) = false := by
  by_cases h1 : P.length ≤ 60
  · have h2 : ¬ T.length ≤ 60 := fun z => h ⟨h1, z⟩
    simp
    omega
  · simp
    omega
theorem few_yes {P T : List Int} (h : P.length ≤ 60 ∧ T.length ≤ 60) : (decide ((P.length : Int) ≤ 60) && decide ((T.length : Int) ≤ 60)) = true := by
  simp
  omega

set_option maxHeartbeats 8000000
theorem says_walk (x y n : Int) (hv : Topo w v P T) : Calls Try.prog 6 #[v, .agg #[.int .i64 x, .int .i64 y], .int .i64 n] w fun e w' => e = .returned (.bool true) ∧ Kept Nil w w' := by
  obtain ⟨A0, c0, A1, c1, w0, rfl, hw0, hB⟩ := Bo.open hv
  obtain ⟨w1, hw1⟩ : ∃ w1, w0.alloc (.cells #[.int .i64 x, .int .i64 y] 55) = w1 := ⟨_, rfl⟩
  have s0 : w0.heap.size = w.heap.size + 1 := by rw [← hw0]; simp
  have hP1 : Pt w w1 A0 c0 A1 c1 P T x y := ⟨hB.later (by rw [← hw1]; exact (Kept.refl _ _).alloc _), by rw [← hw1, ← s0]; exact Is.new _ _ _⟩
  have HS0 := hide s0
  have H1 := hide hP1
  have q0 := hP1.bo.at0
  have q1 := hP1.bo.at1
  clear hv hB hP1 s0
  by_cases hfew : P.length ≤ 60 ∧ T.length ≤ 60
  · have cf := few_c (few_yes hfew) H1.out.bo.topo
    clear hfew
    by_cases hz : chk P T = 0
    · have HZ := hide hz
      go_enter Try.func6, Try.ntmps6
      go_wp2_with fail
      refine cf.mono ?_
      rintro e w2 ⟨rfl, hk2⟩
      have H2 := hide (H1.out.later hk2)
      have q0 := H2.out.bo.at0
      have q1 := H2.out.bo.at1
      have cn := newA H2.out.bo.topo HZ.out
      clear hk2 cf
      go_wp2_with fail
      refine cn.mono ?_
      rintro e w3 ⟨b, rfl, h3⟩
      have H3 := hide (And.intro h3 (H2.out.later h3.kept))
      have q0 := H3.out.2.bo.at0
      have q1 := H3.out.2.bo.at1
      have cc := rcheck_c H3.out.2.bo.topo
      rw [HZ.out] at cc
      clear h3 cn
      go_wp2_with fail
      refine cc.mono ?_
      rintro e w4 ⟨rfl, hk4⟩
      have H4 := hide (H3.out.1.later hk4)
      have hK : Lw w2 w4.drew b P T := H4.out.later (Kept.refl _ _).drew
      obtain ⟨m1, e1⟩ : ∃ m, nodeT (lf P) T x = m := ⟨_, rfl⟩
      obtain ⟨m2, e2⟩ : ∃ m, slotT T x = m := ⟨_, rfl⟩
      obtain ⟨m3, e3⟩ : ∃ m, matesT (lf P) T n = m := ⟨_, rfl⟩
      obtain ⟨U, e4⟩ : ∃ U, upT P T x = U := ⟨_, rfl⟩
      obtain ⟨m5, e5⟩ : ∃ m, farT P T x y = m := ⟨_, rfl⟩
      obtain ⟨m6, e6⟩ : ∃ m, meetT P T x y = m := ⟨_, rfl⟩
      have hUs : U.length ≤ 65536 := by have := upT_small (a := x) hz; rw [e4] at this; omega
      have hPs : P.length ≤ 65536 ∧ T.length ≤ 65536 := by have := (chk_zero hz).1; omega
      have D := hide fun (W : World) (h : Lw w2 W b P T) => H2.out.later h.kept
      have CELLS := hide fun (W : World) (h : Lw w2 W b P T) => And.intro (D.out W h).bo.at0 (And.intro (D.out W h).bo.at1 (And.intro (show W.cell? ⟨w0.heap.size, 0, none⟩ = some (.int .i64 x) by rw [HS0.out]; exact (D.out W h).x) (show W.cell? ⟨w0.heap.size, 1, none⟩ = some (.int .i64 y) by rw [HS0.out]; exact (D.out W h).y)))
      have c13 := hide fun (W : World) (h : Lw w2 W b P T) => nodeL x e1 h
      have c20 := hide fun (W : World) (h : Lw w2 W b P T) => (rnode_c x hz e1 (D.out W h).bo.topo).mono (R' := fun e w' => e = .returned (.int .i64 m1) ∧ Lw w2 w' b P T) fun e w' ⟨h1, h2⟩ => ⟨h1, h.later h2⟩
      have c12 := hide fun (W : World) (h : Lw w2 W b P T) => slotL x e2 h
      have c21 := hide fun (W : World) (h : Lw w2 W b P T) => (rslot_c x hz e2 (D.out W h).bo.topo).mono (R' := fun e w' => e = .returned (.int .i64 m2) ∧ Lw w2 w' b P T) fun e w' ⟨h1, h2⟩ => ⟨h1, h.later h2⟩
      have c11 := hide fun (W : World) (h : Lw w2 W b P T) => matesL n e3 h
      have c22 := hide fun (W : World) (h : Lw w2 W b P T) => (rmates_c n hz e3 (D.out W h).bo.topo).mono (R' := fun e w' => e = .returned (.int .i64 m3) ∧ Lw w2 w' b P T) fun e w' ⟨h1, h2⟩ => ⟨h1, h.later h2⟩
      have c17 := hide fun (W : World) (h : Lw w2 W b P T) => upL x e4 h
      have c24 := hide fun (W : World) (h : Lw w2 W b P T) => (rup_c x hz e4 (D.out W h).bo.topo).mono (R' := fun e w' => ∃ A c, e = .returned (.slice A U.length c) ∧ Nums w' (.slice A U.length c) U ∧ Kept Nil W w' ∧ Lw w2 w' b P T) fun e w' ⟨A, c, h1, h2, h3⟩ => ⟨A, c, h1, h2, h3, h.later h3⟩
      have c23 := hide fun (W : World) (h : Lw w2 W b P T) (u1 u2 : Value) (k1 : Nums W u1 U) (k2 : Nums W u2 U) => (rsame_c (b := true) (by simp) k1 k2 hUs hUs).mono (R' := fun e w' => e = .returned (.bool true) ∧ Lw w2 w' b P T) fun e w' ⟨h1, q, h2⟩ => ⟨h1, by rw [h2]; exact h.later ((Kept.refl Nil W).drewN q)⟩
      have c15 := hide fun (W : World) (h : Lw w2 W b P T) => farL x y e5 h
      have c25 := hide fun (W : World) (h : Lw w2 W b P T) => (rfar_c x y hz e5 (D.out W h).bo.topo).mono (R' := fun e w' => e = .returned (.int .i64 m5) ∧ Lw w2 w' b P T) fun e w' ⟨h1, h2⟩ => ⟨h1, h.later h2⟩
      have c16 := hide fun (W : World) (h : Lw w2 W b P T) => meetL x y e6 h
      have c26 := hide fun (W : World) (h : Lw w2 W b P T) => (rmeet_c x y hz e6 (D.out W h).bo.topo).mono (R' := fun e w' => e = .returned (.int .i64 m6) ∧ Lw w2 w' b P T) fun e w' ⟨h1, h2⟩ => ⟨h1, h.later h2⟩
      obtain ⟨m7, e7⟩ : ∃ m, (lf P).length = m := ⟨_, rfl⟩
      have c10 := hide fun (W : World) (h : Lw w2 W b P T) => nodesL (m := (m7 : Int)) (by rw [e7]) h
      have c27 := hide fun (W : World) (h : Lw w2 W b P T) => (rleaves_c (L0 := lf P) (by rw [if_pos hz]) (D.out W h).bo.topo).mono (R' := fun e w' => ∃ A c, e = .returned (.slice A m7 c) ∧ Lw w2 w' b P T) fun e w' ⟨v', h1, h2, h3⟩ => by
        obtain ⟨A, c, e8, _⟩ := h2
        exact ⟨A, c, by rw [h1, e8, e7], h.later h3⟩
      have c14 := hide fun (W : World) (h : Lw w2 W b P T) => threadsL (m := (T.length : Int)) rfl h
      have c18 := hide fun (W : World) (h : Lw w2 W b P T) => topologyL h
      have c28 := hide fun (W : World) (h : Lw w2 W b P T) (u : Value) (k : Topo W u P T) => (rtsame_c (b := true) (by simp) k (D.out W h).bo.topo hPs.1 hPs.2 hPs.1 hPs.2).mono (R' := fun e w' => e = .returned (.bool true) ∧ Lw w2 w' b P T) fun e w' ⟨h1, h2⟩ => ⟨h1, h.later h2⟩
      have c9 := hide fun (W : World) (h : Lw w2 W b P T) => (awake_c W).mono (R' := fun e w' => e = .returned (.bool true) ∧ Lw w2 w' b P T) fun e w' ⟨h1, h2⟩ => ⟨h1, h.later h2⟩
      have HK2 := hide H2.out.bo.kept
      clear e1 e2 e3 e4 e5 e6 e7 hz hUs hPs hk4 cc q0 q1
      go_wp2_with fail
      go_region_held3 (fun W => W.cell? ⟨w.heap.size, 0, none⟩ = some (.slice A0 P.length c0) ∧ W.cell? ⟨w.heap.size, 1, none⟩ = some (.slice A1 T.length c1) ∧ W.cell? ⟨w0.heap.size, 0, none⟩ = some (.int .i64 x) ∧ W.cell? ⟨w0.heap.size, 1, none⟩ = some (.int .i64 y))
        (exact CELLS.out _ (by assumption))
        (fail)
      have hK2 := hK.drew
      clear hK
      go_wp2_with fail
      simp only [List.append_eq, List.cons_append, List.nil_append]
      go_region_held3 (fun W => W.cell? ⟨w.heap.size, 0, none⟩ = some (.slice A0 P.length c0) ∧ W.cell? ⟨w.heap.size, 1, none⟩ = some (.slice A1 T.length c1) ∧ W.cell? ⟨w0.heap.size, 0, none⟩ = some (.int .i64 x) ∧ W.cell? ⟨w0.heap.size, 1, none⟩ = some (.int .i64 y))
        (first | exact CELLS.out _ (by assumption) | exact CELLS.out _ (Lw.drew (by assumption)))
        ((first
          | (go_at_call 13; refine (c13.out _ (by assumption)).mono ?_; rintro e v1 ⟨rfl, g1⟩)
          | (go_at_call 20; refine (c20.out _ (by assumption)).mono ?_; rintro e v2 ⟨rfl, g2⟩)
          | (go_at_call 12; refine (c12.out _ (by assumption)).mono ?_; rintro e v3 ⟨rfl, g3⟩)
          | (go_at_call 21; refine (c21.out _ (by assumption)).mono ?_; rintro e v4 ⟨rfl, g4⟩)
          | (go_at_call 11; refine (c11.out _ (by assumption)).mono ?_; rintro e v5 ⟨rfl, g5⟩)
          | (go_at_call 22; refine (c22.out _ (by assumption)).mono ?_; rintro e v6 ⟨rfl, g6⟩)
          | (go_at_call 17; refine (c17.out _ (by assumption)).mono ?_; rintro e v7 ⟨A7, c7, rfl, n7, g7⟩)
          | (go_at_call 24; refine (c24.out _ (by assumption)).mono ?_; rintro e v8 ⟨A8, c8, rfl, n8, k8, g8⟩; have n78 := n7.kept k8)
          | (go_at_call 23; refine (c23.out _ (by assumption) _ _ n78 n8).mono ?_; rintro e v9 ⟨rfl, g9⟩)
          | (go_at_call 15; refine (c15.out _ (by assumption)).mono ?_; rintro e v10 ⟨rfl, g10⟩)
          | (go_at_call 25; refine (c25.out _ (by assumption)).mono ?_; rintro e v11 ⟨rfl, g11⟩)
          | (go_at_call 16; refine (c16.out _ (by assumption)).mono ?_; rintro e v12 ⟨rfl, g12⟩)
          | (go_at_call 26; refine (c26.out _ (by assumption)).mono ?_; rintro e v13 ⟨rfl, g13⟩)
          | (go_at_call 10; refine (c10.out _ (by assumption)).mono ?_; rintro e v14 ⟨rfl, g14⟩)
          | (go_at_call 27; refine (c27.out _ (by assumption)).mono ?_; rintro e v15 ⟨A15, c15, rfl, g15⟩)
          | (go_at_call 14; refine (c14.out _ (by assumption)).mono ?_; rintro e v16 ⟨rfl, g16⟩)
          | (go_at_call 18; refine (c18.out _ (by assumption)).mono ?_; rintro e v17 ⟨A17, c17, B17, d17, rfl, t17, g17⟩)
          | (go_at_call 28; refine (c28.out _ (by assumption) _ t17).mono ?_; rintro e v18 ⟨rfl, g18⟩)
          | (go_at_call 9; refine (c9.out _ (by assumption)).mono ?_; rintro e v19 ⟨rfl, g19⟩)))
      have HE := hide (HK2.out.trans g19.kept (fun _ _ z => z))
      clear g1 g2 g3 g4 g5 g6 g7 g8 g9 g10 g11 g12 g13 g14 g15 g16 g17 g18 g19
      go_wp2_with fail
      go_ret
      exact ⟨rfl, HE.out⟩
    · obtain ⟨z, hzz⟩ : ∃ z, chk P T = z := ⟨_, rfl⟩
      rw [hzz] at hz
      have HZ := hide (And.intro hzz hz)
      have hne : (z != 0) = true := by simpa using hz
      clear hzz hz
      go_enter Try.func6, Try.ntmps6
      go_wp2_with fail
      refine cf.mono ?_
      rintro e w2 ⟨rfl, hk2⟩
      have H2 := hide (H1.out.later hk2)
      have q0 := H2.out.bo.at0
      have q1 := H2.out.bo.at1
      have cn := newB H2.out.bo.topo HZ.out.1 HZ.out.2
      clear hk2 cf
      go_wp2_with fail
      refine cn.mono ?_
      rintro e w3 ⟨rfl, hk3⟩
      have H3 := hide (H2.out.later hk3)
      have q0 := H3.out.bo.at0
      have q1 := H3.out.bo.at1
      have cc := rcheck_c H3.out.bo.topo
      rw [HZ.out.1] at cc
      clear hk3 cn
      go_wp2_with fail
      refine cc.mono ?_
      rintro e w4 ⟨rfl, hk4⟩
      have H4 := hide (H3.out.later hk4)
      clear hk4 cc
      go_wp2_with fail
      refine (awake_c w4).mono ?_
      rintro e w5 ⟨rfl, hk5⟩
      have H5 := hide (H4.out.bo.kept.trans hk5 (fun _ _ z => z))
      clear hk5
      go_wp2_with fail
      go_ret
      exact ⟨rfl, H5.out⟩
  · have cf := few_c (few_no hfew) H1.out.bo.topo
    clear hfew
    go_enter Try.func6, Try.ntmps6
    go_wp2_with fail
    refine cf.mono ?_
    rintro e w2 ⟨rfl, hk2⟩
    have H2 := hide (H1.out.later hk2)
    clear hk2 cf
    go_wp2_with fail
    refine (awake_c w2).mono ?_
    rintro e w5 ⟨rfl, hk5⟩
    have H5 := hide (H2.out.bo.kept.trans hk5 (fun _ _ z => z))
    clear hk5
    go_wp2_with fail
    go_ret
    exact ⟨rfl, H5.out⟩
end
end Go.Proofs.Ytepajkakpkndmaa
