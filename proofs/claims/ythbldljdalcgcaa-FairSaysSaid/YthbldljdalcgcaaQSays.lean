/- The law FairSays, walked. -/
import Derived.Test.YthbldljdalcgcaaQLaws
import Derived.Deep.RegionHeld3
namespace Go.Proofs.Ythbldljdalcgcaa
open Go.RowKit
set_option maxRecDepth 100000

section
variable {w : World} {v : Value} {l : List Int}
set_option maxHeartbeats 4000000
theorem qsays_short (n0 n1 p0 p1 : Int) (hv : NumsC w v l) (hn : 60 < l.length) : Calls Try.prog 5 #[v, .agg #[.int .i64 n0, .int .i64 n1], .agg #[.int .i64 p0, .int .i64 p1]] w fun e w' => e = .returned (.bool true) ∧ Kept Nil w w' := by
  obtain ⟨A, c, rfl, hx1, hx2⟩ := hv
  clear hx1 hx2
  have HK := hide (((Kept.refl Nil w).alloc (.cells #[.int .i64 n0, .int .i64 n1] 35)).alloc (.cells #[.int .i64 p0, .int .i64 p1] 35))
  go_enter Try.func5, Try.ntmps5
  go_wp2_with fail
  refine (qawake_c _).mono ?_
  rintro e w1 ⟨rfl, k1⟩
  have HE := hide (HK.out.trans k1 (fun _ _ z => z))
  clear k1
  go_wp2_with fail
  go_ret
  exact ⟨rfl, HE.out⟩
theorem qsays_long (n0 n1 p0 p1 : Int) (hv : NumsC w v l) (hn : l.length ≤ 60) : Calls Try.prog 5 #[v, .agg #[.int .i64 n0, .int .i64 n1], .agg #[.int .i64 p0, .int .i64 p1]] w fun e w' => e = .returned (.bool true) ∧ Kept Nil w w' := by
  have hlen : decide (60 < (l.length : Int)) = false := by simp; omega
  obtain ⟨b, hb⟩ : ∃ b, fb (av l) l.length (sm n0) n1 = b := ⟨_, rfl⟩
  obtain ⟨m, hm⟩ : ∃ m : Nat, min (max p1 0) (l.length : Int) = m := ⟨(min (max p1 0) (l.length : Int)).toNat, by
    generalize hz : max p1 0 = z
    have : 0 ≤ z := by omega
    omega⟩
  obtain ⟨w0, hw0⟩ : ∃ w0, (w.alloc (.cells #[.int .i64 n0, .int .i64 n1] 35)).alloc (.cells #[.int .i64 p0, .int .i64 p1] 35) = w0 := ⟨_, rfl⟩
  have hK0 : Kept Nil w w0 := by rw [← hw0]; exact ((Kept.refl Nil w).alloc _).alloc _
  have hb1 : Is w0 w.heap.size 35 #[.int .i64 n0, .int .i64 n1] := by rw [← hw0]; exact (Is.new _ _ _).alloc _
  have hb2 : Is w0 (w.heap.size + 1) 35 #[.int .i64 p0, .int .i64 p1] := by
    rw [← hw0]
    have := Is.new (w.alloc (.cells #[.int .i64 n0, .int .i64 n1] 35)) 35 #[.int .i64 p0, .int .i64 p1]
    simpa using this
  have hv0 := hv.kept hK0
  have c1 := hide fun W (k : Kept Nil w0 W) => (fair_c n0 n1 hb (hv0.kept k).nums (by omega)).mono (R' := fun e w' => e = .returned (.bool b) ∧ Kept Nil w0 w') fun e w' ⟨h1, h2⟩ => ⟨h1, by rw [← h2]; exact k⟩
  have c2 := hide fun W (k : Kept Nil w0 W) => (rfair_c n0 n1 hb (hv0.kept k) (by omega)).mono (R' := fun e w' => e = .returned (.bool b) ∧ Kept Nil w0 w') fun e w' ⟨h1, h2⟩ => ⟨h1, by rw [← h2]; exact k⟩
  have c3 := hide fun W (k : Kept Nil w0 W) => (least_c n0 (hv0.kept k).nums (by omega)).mono (R' := fun e w' => e = .returned (.int .i64 (lst (av l) l.length (sm n0))) ∧ Kept Nil w0 w') fun e w' ⟨h1, h2⟩ => ⟨h1, by rw [← h2]; exact k⟩
  have c4 := hide fun W (k : Kept Nil w0 W) => (rleast_c n0 (hv0.kept k) (by omega)).mono (R' := fun e w' => e = .returned (.int .i64 (lst (av l) l.length (sm n0))) ∧ Kept Nil w0 w') fun e w' ⟨h1, h2⟩ => ⟨h1, by rw [← h2]; exact k⟩
  have c5 := hide fun W (k : Kept Nil w0 W) => (own_c p0 m p1 hm (hv0.kept k).nums (by omega)).mono (R' := fun e w' => e = .returned (.int .i64 (cntN (av l) p0 m)) ∧ Kept Nil w0 w') fun e w' ⟨h1, h2⟩ => ⟨h1, by rw [← h2]; exact k⟩
  have c6 := hide fun W (k : Kept Nil w0 W) => (rown_c p0 m p1 hm (hv0.kept k).nums (by omega)).mono (R' := fun e w' => e = .returned (.int .i64 (cntN (av l) p0 m)) ∧ Kept Nil w0 w') fun e w' ⟨h1, h2⟩ => ⟨h1, by rw [← h2]; exact k⟩
  have c7 := hide fun W (k : Kept Nil w0 W) => (qawake_c W).mono (R' := fun e w' => e = .returned (.bool true) ∧ Kept Nil w0 w') fun e w' ⟨h1, h2⟩ => ⟨h1, k.trans h2 (fun _ _ z => z)⟩
  have CELLS := hide fun W (k : Kept Nil w0 W) => show W.cell? ⟨w.heap.size, 0, none⟩ = some (.int .i64 n0) ∧ W.cell? ⟨w.heap.size, 1, none⟩ = some (.int .i64 n1) ∧ W.cell? ⟨w.heap.size + 1, 0, none⟩ = some (.int .i64 p0) ∧ W.cell? ⟨w.heap.size + 1, 1, none⟩ = some (.int .i64 p1) from
    ⟨(hb1.kept k (fun c => c)).cell 0, (hb1.kept k (fun c => c)).cell 1, (hb2.kept k (fun c => c)).cell 0, (hb2.kept k (fun c => c)).cell 1⟩
  generalize lst (av l) l.length (sm n0) = ls at *
  generalize cntN (av l) p0 m = q at *
  have HK0 := hide hK0
  have hK : Kept Nil w0 w0.drew := (Kept.refl _ w0).drew
  obtain ⟨A, c, rfl, hx1, hx2⟩ := hv
  clear hx1 hx2
  clear hb hm hK0 hb1 hb2 hv0
  go_enter Try.func5, Try.ntmps5
  go_wp2_with fail
  go_region_held3 (fun W => W.cell? ⟨w.heap.size, 0, none⟩ = some (.int .i64 n0) ∧ W.cell? ⟨w.heap.size, 1, none⟩ = some (.int .i64 n1) ∧ W.cell? ⟨w.heap.size + 1, 0, none⟩ = some (.int .i64 p0) ∧ W.cell? ⟨w.heap.size + 1, 1, none⟩ = some (.int .i64 p1))
    (first | exact CELLS.out _ (by assumption) | exact CELLS.out _ (Kept.drew (by assumption)))
    (first
      | (go_at_call 8; refine (c1.out _ (by assumption)).mono ?_; rintro e v1 ⟨rfl, g1⟩)
      | (go_at_call 16; refine (c2.out _ (by assumption)).mono ?_; rintro e v2 ⟨rfl, g2⟩)
      | (go_at_call 7; refine (c3.out _ (by assumption)).mono ?_; rintro e v3 ⟨rfl, g3⟩)
      | (go_at_call 17; refine (c4.out _ (by assumption)).mono ?_; rintro e v4 ⟨rfl, g4⟩)
      | (go_at_call 10; refine (c5.out _ (by assumption)).mono ?_; rintro e v5 ⟨rfl, g5⟩)
      | (go_at_call 18; refine (c6.out _ (by assumption)).mono ?_; rintro e v6 ⟨rfl, g6⟩)
      | (go_at_call 6; refine (c7.out _ (by assumption)).mono ?_; rintro e v7 ⟨rfl, g7⟩))
  all_goals have HE := hide (HK0.out.trans g7 (fun _ _ z => z))
  all_goals go_wp2_with fail
  all_goals go_ret
  all_goals exact ⟨rfl, HE.out⟩
theorem qsays_c (n0 n1 p0 p1 : Int) (hv : NumsC w v l) : Calls Try.prog 5 #[v, .agg #[.int .i64 n0, .int .i64 n1], .agg #[.int .i64 p0, .int .i64 p1]] w fun e w' => e = .returned (.bool true) ∧ Kept Nil w w' := by
  rcases Nat.lt_or_ge 60 l.length with h | h
  · exact qsays_short n0 n1 p0 p1 hv h
  · exact qsays_long n0 n1 p0 p1 hv h
end
end Go.Proofs.Ythbldljdalcgcaa
