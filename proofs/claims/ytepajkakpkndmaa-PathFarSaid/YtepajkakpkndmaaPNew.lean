/- clone, New, Topology. -/
import Derived.Test.YtepajkakpkndmaaPTab
import Derived.Deep.RegionWith
import Derived.Deep.RegionHeld3
namespace Go.Proofs.Ytepajkakpkndmaa
open Go.RowKit
set_option maxRecDepth 100000

theorem results_one {fn : Func} {p : Tmp} {w : World} {b : Nat} {va vb : Value} (h : fn.results = #[.cell p 24]) (tmps : Array Value) (hp : tmps.getD p undef = .pointer (some ⟨b, 0, none⟩))
    (h0 : w.cell? ⟨b, 0, none⟩ = some va) (h1 : w.cell? ⟨b, 1, none⟩ = some vb) : (results fn tmps).run Try.prog w = .ok (.agg #[va, vb]) w := by
  have e : (results fn tmps).run Try.prog w = ((asAddr (tmps.getD p undef)).run Try.prog w).andThen fun a w₁ => (loadVar 24 a).run Try.prog w₁ := by
    simp only [results, h]
    simp [Sem.run_bind, Result.andThen]
  rw [e, hp]
  go_simp
theorem pair_noInt (A0 A1 : Option Addr) (n0 c0 n1 c1 : Nat) : NoInt #[.slice A0 n0 c0, .slice A1 n1 c1] := by
  intro i x h
  have : i = 0 ∨ i = 1 ∨ 2 ≤ i := by omega
  rcases this with e | e | e
  all_goals first
    | (subst e; simp at h)
    | (rw [Array.getElem?_eq_none (by simpa using e)] at h; cases h)
/-- A topology's value, with room told. -/
def TopoC (w : World) (v : Value) (P T : List Int) : Prop := ∃ A0 c0 A1 c1, v = .agg #[.slice A0 P.length c0, .slice A1 T.length c1] ∧ T.length ≤ c1 ∧ Nums w (.slice A0 P.length c0) P ∧ Nums w (.slice A1 T.length c1) T
theorem TopoC.topo {w : World} {v : Value} {P T : List Int} (h : TopoC w v P T) : Topo w v P T := by
  obtain ⟨A0, c0, A1, c1, e, _, h0, h1⟩ := h
  exact ⟨_, _, e, h0, h1⟩

section
variable {w : World} {v : Value} {P T : List Int}
set_option maxHeartbeats 2000000
/-- clone. -/
theorem pclone_c (hv : Topo w v P T) (hP : P.length ≤ 65536) (hT : T.length ≤ 65536) : Calls Try.prog 30 #[v] w fun e w' => ∃ v', e = .returned v' ∧ TopoC w' v' P T ∧ Kept Nil w w' := by
  obtain ⟨va, vb, rfl, ha, hb⟩ := hv
  obtain ⟨A0, c0, rfl, -⟩ := id ha
  obtain ⟨A1, c1, rfl, -⟩ := id hb
  obtain ⟨w1, hw1⟩ : ∃ w1, (w.alloc (.cells #[.slice A0 P.length c0, .slice A1 T.length c1] 24)).alloc (.cells #[.slice none 0 0, .slice none 0 0] 24) = w1 := ⟨_, rfl⟩
  have hi0 : Is w1 w.heap.size 24 #[.slice A0 P.length c0, .slice A1 T.length c1] := by rw [← hw1]; exact (Is.new w _ _).alloc _
  have hi1 : Is w1 (w.heap.size + 1) 24 #[.slice none 0 0, .slice none 0 0] := by
    have := Is.new (w.alloc (.cells #[.slice A0 P.length c0, .slice A1 T.length c1] 24)) 24 #[.slice none 0 0, .slice none 0 0]
    rw [← hw1]
    simpa using this
  have hk1 : Kept Nil w w1 := by rw [← hw1]; exact ((Kept.refl _ w).alloc _).alloc _
  have H1 := hide (And.intro hi0 (And.intro hi1 hk1))
  have cP := hide fun (W : World) (k : Kept Nil w1 W) => (sclone_c ((ha.kept hk1).kept k) hP).mono (R' := fun e w' => ∃ A c, e = .returned (.slice A P.length c) ∧ Nums w' (.slice A P.length c) P ∧ Kept Nil w1 w') (fun e w' ⟨A, c, h1, _, h3, h4⟩ => ⟨A, c, h1, h3, k.trans h4 (fun _ _ z => z)⟩)
  have cT := hide fun (W : World) (k : Kept Nil w1 W) => (sclone_c ((hb.kept hk1).kept k) hT).mono (R' := fun e w' => ∃ A c, e = .returned (.slice A T.length c) ∧ T.length ≤ c ∧ Nums w' (.slice A T.length c) T ∧ Kept Nil W w' ∧ Kept Nil w1 w') (fun e w' ⟨A, c, h1, h2, h3, h4⟩ => ⟨A, c, h1, h2, h3, h4, k.trans h4 (fun _ _ z => z)⟩)
  have CELLS := hide fun (W : World) (k : Kept Nil w1 W) => And.intro (show W.cell? ⟨w.heap.size, 0, none⟩ = some (.slice A0 P.length c0) from (H1.out.1.kept k (fun z => z)).cell 0) (And.intro (show W.cell? ⟨w.heap.size, 1, none⟩ = some (.slice A1 T.length c1) from (H1.out.1.kept k (fun z => z)).cell 1)
    (And.intro (show W.cell? ⟨w.heap.size + 1, 0, none⟩ = some (.slice none 0 0) from (H1.out.2.1.kept k (fun z => z)).cell 0) (And.intro (show W.cell? ⟨w.heap.size + 1, 1, none⟩ = some (.slice none 0 0) from (H1.out.2.1.kept k (fun z => z)).cell 1)
    (And.intro ((H1.out.2.1.kept k (fun z => z)).free 0) ((H1.out.2.1.kept k (fun z => z)).free 1)))))
  have hK : Kept Nil w1 w1.drew := (Kept.refl _ w1).drew
  clear hi0 hi1 hk1 ha hb
  go_enter Try.func30, Try.ntmps30
  go_wp2_with fail
  obtain ⟨q0, q1, q2, q3, q4, q5⟩ := CELLS.out _ hK
  go_region_with (first
    | (go_at_call 40; with_reducible refine (cP.out _ (by assumption)).mono ?_; rintro e w5 ⟨A5, c5, rfl, hn5, hk5⟩; obtain ⟨q0, q1, q2, q3, q4, q5⟩ := CELLS.out _ hk5)
    | (go_at_call 40; with_reducible refine (cT.out _ (by assumption)).mono ?_; rintro e w6 ⟨A6, c6, rfl, hc6, hn6, hk7, hk6⟩; obtain ⟨q0, q1, q2, q3, q4, q5⟩ := CELLS.out _ hk6))
  all_goals go_wp2_with fail
  all_goals
    have i6 := H1.out.2.1.kept hk6 (fun z => z)
    have i7 := (i6.set 0 (.slice A5 P.length c5)).set 1 (.slice A6 T.length c6)
    have hs := ((Kept.refl (fun i => i = w.heap.size + 1) w6).set (p := ⟨w.heap.size + 1, 0, none⟩) (fun _ => rfl) (.slice A5 P.length c5)).set (p := ⟨w.heap.size + 1, 1, none⟩) (fun _ => rfl) (.slice A6 T.length c6)
    have hk8 := ((H1.out.2.2.trans hk6 (fun _ _ z => z)).set (p := ⟨w.heap.size + 1, 0, none⟩) (fun h => absurd h (by simp)) (.slice A5 P.length c5)).set (p := ⟨w.heap.size + 1, 1, none⟩) (fun h => absurd h (by simp)) (.slice A6 T.length c6)
    exact bodyPost_ret (results_one rfl _ rfl (i7.cell 0) (i7.cell 1)) rfl ⟨_, rfl, ⟨A5, c5, A6, c6, rfl, hc6, (hn5.kept hk7).apart i6 (pair_noInt _ _ _ _ _ _) hs, hn6.apart i6 (pair_noInt _ _ _ _ _ _) hs⟩, hk8⟩

/-- Topology. -/
theorem topology_c {L : List Int} (h : PTab w v P T L) : Calls Try.prog 18 #[v] w fun e w' => ∃ v', e = .returned v' ∧ TopoC w' v' P T ∧ Kept Nil w w' := by
  have ho := h.okay.small
  have hi0 := Is.new w 24 #[.slice none 0 0, .slice none 0 0]
  have hk0 := (Kept.refl Nil w).alloc (.cells #[.slice none 0 0, .slice none 0 0] 24)
  have H0 := hide (And.intro hi0 hk0)
  rcases h with ⟨rfl, rfl, rfl, rfl⟩ | ⟨b, rfl, A0, A1, A2, c0, c1, c2, d, x6, h⟩
  · have hi1 := (hi0.set 0 (.slice none 0 0)).set 1 (.slice none 0 0)
    have hk1 := (hk0.set (p := ⟨w.heap.size, 0, none⟩) (fun h => absurd h (Nat.lt_irrefl _)) (.slice none 0 0)).set (p := ⟨w.heap.size, 1, none⟩) (fun h => absurd h (Nat.lt_irrefl _)) (.slice none 0 0)
    have H1 := hide (And.intro hi1 hk1)
    have q0 := hi0.cell 0
    have q1 := hi0.cell 1
    clear hi0 hk0 hi1 hk1
    go_enter Try.func18, Try.ntmps18
    go_wp2_with fail
    first
      | exact bodyPost_ret (results_one rfl _ rfl (H1.out.1.cell 0) (H1.out.1.cell 1)) rfl ⟨_, rfl, ⟨none, 0, none, 0, rfl, Nat.le_refl _, Nums.nil _ _ _, Nums.nil _ _ _⟩, H1.out.2⟩
      | exact bodyPost_ret (results_one rfl _ rfl (H0.out.1.cell 0) (H0.out.1.cell 1)) rfl ⟨_, rfl, ⟨none, 0, none, 0, rfl, Nat.le_refl _, Nums.nil _ _ _, Nums.nil _ _ _⟩, H0.out.2⟩
  · have HC := hide (h.keep hk0)
    have q0 := HC.out.at0
    have q1 := HC.out.at1
    have hb := h.is_.lt
    have cc := pclone_c (w := w.alloc (.cells #[.slice none 0 0, .slice none 0 0] 24)) (v := .agg #[.slice A0 P.length c0, .slice A1 T.length c1]) ⟨_, _, rfl, HC.out.n0, HC.out.n1⟩ (by omega) (by omega)
    have z0 := h.at0
    have z1 := h.at1
    clear hi0 hk0 h
    go_enter Try.func18, Try.ntmps18
    go_wp2_with fail
    refine cc.mono ?_
    rintro e w6 ⟨v', rfl, ⟨A5, c5, A6, c6, rfl, hc6, hn5, hn6⟩, hk6⟩
    have i6 := H0.out.1.kept hk6 (fun z => z)
    have HN := hide (And.intro i6 (And.intro hc6 (And.intro hn5 (And.intro hn6 (H0.out.2.trans hk6 (fun _ _ z => z))))))
    have q2 : w6.cell? ⟨w.heap.size, 0, none⟩ = some (.slice none 0 0) := i6.cell 0
    have q3 : w6.cell? ⟨w.heap.size, 1, none⟩ = some (.slice none 0 0) := i6.cell 1
    have q4 := i6.free 0
    have q5 := i6.free 1
    clear i6 hc6 hn5 hn6 hk6 q0 q1 z0 z1
    go_wp2_with fail
    have i6 := HN.out.1
    have i7 := (i6.set 0 (.slice A5 P.length c5)).set 1 (.slice A6 T.length c6)
    have hs := ((Kept.refl (fun i => i = w.heap.size) w6).set (p := ⟨w.heap.size, 0, none⟩) (fun _ => rfl) (.slice A5 P.length c5)).set (p := ⟨w.heap.size, 1, none⟩) (fun _ => rfl) (.slice A6 T.length c6)
    have hk8 := (HN.out.2.2.2.2.set (p := ⟨w.heap.size, 0, none⟩) (fun h => absurd h (Nat.lt_irrefl _)) (.slice A5 P.length c5)).set (p := ⟨w.heap.size, 1, none⟩) (fun h => absurd h (Nat.lt_irrefl _)) (.slice A6 T.length c6)
    exact bodyPost_ret (results_one rfl _ rfl (i7.cell 0) (i7.cell 1)) rfl ⟨_, rfl, ⟨A5, c5, A6, c6, rfl, HN.out.2.1, HN.out.2.2.1.apart i6 (pair_noInt _ _ _ _ _ _) hs, HN.out.2.2.2.1.apart i6 (pair_noInt _ _ _ _ _ _) hs⟩, hk8⟩

/-- New. -/
theorem new_c (hv : Topo w v P T) : Calls Try.prog 7 #[v] w fun e w' => ∃ p, e = .returned (.tuple #[p, .int .i64 (chk P T)]) ∧ Kept Nil w w' ∧
    ((chk P T = 0 ∧ ∃ b, p = .pointer (some ⟨b, 0, none⟩) ∧ w.heap.size ≤ b ∧ Tab w' b P T (lf P)) ∨ (chk P T ≠ 0 ∧ p = .pointer none)) := by
  obtain ⟨va, vb, rfl, ha, hb⟩ := hv
  obtain ⟨A0, c0, rfl, -⟩ := id ha
  obtain ⟨A1, c1, rfl, -⟩ := id hb
  obtain ⟨w0, hw0⟩ : ∃ w0, w.alloc (.cells #[.slice A0 P.length c0, .slice A1 T.length c1] 24) = w0 := ⟨_, rfl⟩
  have hi0 : Is w0 w.heap.size 24 #[.slice A0 P.length c0, .slice A1 T.length c1] := by rw [← hw0]; exact Is.new w _ _
  have hk0 : Kept Nil w w0 := by rw [← hw0]; exact (Kept.refl _ w).alloc _
  have ht0 : Topo w0 (.agg #[.slice A0 P.length c0, .slice A1 T.length c1]) P T := ⟨_, _, rfl, ha.kept hk0, hb.kept hk0⟩
  have H0 := hide (And.intro hi0 (And.intro hk0 ht0))
  have cc := tcheck_c ht0
  have q0 : w0.cell? ⟨w.heap.size, 0, none⟩ = some (.slice A0 P.length c0) := hi0.cell 0
  have q1 : w0.cell? ⟨w.heap.size, 1, none⟩ = some (.slice A1 T.length c1) := hi0.cell 1
  clear hi0 hk0 ht0 ha hb
  go_enter Try.func7, Try.ntmps7
  go_wp2_with fail
  refine cc.mono ?_
  rintro e w1 ⟨rfl, hk1⟩
  have H1 := hide (And.intro (H0.out.1.kept hk1 (fun z => z)) (And.intro (H0.out.2.1.trans hk1 (fun _ _ z => z)) (H0.out.2.2.kept hk1)))
  clear hk1 q0 q1
  by_cases h0 : chk P T = 0
  · have hlen := (chk_zero h0).1
    have HZ := hide h0
    have cP := hide fun (W : World) (k : Kept Nil w1 W) => (pclone_c (H1.out.2.2.kept k) (by omega) (by omega)).mono (R' := fun e w' => ∃ A0 c0 A1 c1, e = .returned (.agg #[.slice A0 P.length c0, .slice A1 T.length c1]) ∧ T.length ≤ c1 ∧ Nums w' (.slice A0 P.length c0) P ∧ Nums w' (.slice A1 T.length c1) T ∧ Kept Nil w1 w')
      (fun e w' ⟨v', h1, ⟨A0, c0, A1, c1, h2, h3, h4, h5⟩, h6⟩ => ⟨A0, c0, A1, c1, by rw [h1, h2], h3, h4, h5, k.trans h6 (fun _ _ z => z)⟩)
    have cL := hide fun (W : World) (k : Kept Nil w1 W) => (leaves_c (L := lf P) (by rw [if_pos h0]) (H1.out.2.2.kept k)).mono (R' := fun e w' => ∃ A2 c2, e = .returned (.slice A2 (lf P).length c2) ∧ Nums w' (.slice A2 (lf P).length c2) (lf P) ∧ Kept Nil W w' ∧ Kept Nil w1 w')
      (fun e w' ⟨v', h1, h2, h3⟩ => by
        obtain ⟨A2, c2, e2, h4⟩ := id h2
        exact ⟨A2, c2, by rw [h1, e2], by rw [← e2]; exact h2, h3, k.trans h3 (fun _ _ z => z)⟩)
    have CELLS := hide fun (W : World) (k : Kept Nil w1 W) => And.intro (show W.cell? ⟨w.heap.size, 0, none⟩ = some (.slice A0 P.length c0) from (H1.out.1.kept k (fun z => z)).cell 0) (show W.cell? ⟨w.heap.size, 1, none⟩ = some (.slice A1 T.length c1) from (H1.out.1.kept k (fun z => z)).cell 1)
    have hK : Kept Nil w1 w1.drew := (Kept.refl _ w1).drew
    rw [h0]
    clear h0 hlen
    go_wp2_with fail
    obtain ⟨q0, q1⟩ := CELLS.out _ hK
    go_region_with (first
      | (go_at_call 30; refine (cP.out _ (by assumption)).mono ?_; rintro e w5 ⟨A5, c5, A6, c6, rfl, hc6, hn5, hn6, hk5⟩; obtain ⟨q0, q1⟩ := CELLS.out _ hk5)
      | (go_at_call 31; refine (cL.out _ (by assumption)).mono ?_; rintro e w7 ⟨A7, c7, rfl, hn7, hk6, hk7⟩; obtain ⟨q0, q1⟩ := CELLS.out _ hk7))
    all_goals go_wp2_with fail
    all_goals
      have hT := Is.new w7 50 (tcells (.slice A5 P.length c5) (.slice A6 T.length c6) (.slice A7 (lf P).length c7) 0 0 (.slice none 0 0))
      have hka := (Kept.refl Nil w7).alloc (.cells (tcells (.slice A5 P.length c5) (.slice A6 T.length c6) (.slice A7 (lf P).length c7) 0 0 (.slice none 0 0)) 50)
      have hk8 := H1.out.2.1.trans hk7 (fun _ _ z => z)
      go_ret2
      exact ⟨_, by rw [HZ.out]; rfl, hk8.alloc _, .inl ⟨HZ.out, w7.heap.size, rfl, hk8.size, ⟨A5, A6, A7, c5, c6, c7, 0, .slice none 0 0, ⟨hT, (hn5.kept hk6).kept hka, (hn6.kept hk6).kept hka, hn7.kept hka, .inr ⟨HZ.out, rfl⟩, hc6, .inl ⟨rfl, rfl⟩⟩⟩⟩⟩
  · have HZ := hide h0
    have hne : (chk P T != 0) = true := by simpa using h0
    clear h0
    go_wp2_with fail
    go_ret2
    exact ⟨_, rfl, H1.out.2.1, .inr ⟨HZ.out, rfl⟩⟩
end
end Go.Proofs.Ytepajkakpkndmaa
