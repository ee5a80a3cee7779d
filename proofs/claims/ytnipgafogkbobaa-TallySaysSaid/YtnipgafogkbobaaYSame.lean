/- Stays compared; arrays of four ints compared. -/
import Derived.Test.YtnipgafogkbobaaYRow
import Derived.ChangeKeysEq
namespace Go.Proofs.Ytnipgafogkbobaa
open Go.RowKit
set_option maxRecDepth 100000

theorem stay_fields : ∃ a b c d e f g : Field, (Try.prog.fieldsOf 36).toList = [a, b, c, d, e, f, g] ∧
    (a.name = "Thread" ∧ a.type = 3 ∧ a.offset = 0) ∧ (b.name = "Read" ∧ b.type = 4 ∧ b.offset = 1) ∧ (c.name = "Ask" ∧ c.type = 3 ∧ c.offset = 2) ∧ (d.name = "Enter" ∧ d.type = 3 ∧ d.offset = 3) ∧
    (e.name = "Exit" ∧ e.type = 3 ∧ e.offset = 4) ∧ (f.name = "Rest" ∧ f.type = 3 ∧ f.offset = 5) ∧ (g.name = "Count" ∧ g.type = 3 ∧ g.offset = 6) := by
  have hm : (Try.prog.fieldsOf 36).toList.map (fun f => (f.name, f.type, f.offset)) = [("Thread", 3, 0), ("Read", 4, 1), ("Ask", 3, 2), ("Enter", 3, 3), ("Exit", 3, 4), ("Rest", 3, 5), ("Count", 3, 6)] := by kernel_rfl
  generalize (Try.prog.fieldsOf 36).toList = fs at hm
  rcases fs with _ | ⟨a, _ | ⟨b, _ | ⟨c, _ | ⟨d, _ | ⟨e, _ | ⟨f, _ | ⟨g, _ | ⟨x, t⟩⟩⟩⟩⟩⟩⟩⟩
  all_goals first
    | (simp at hm; done)
    | (simp at hm
       obtain ⟨h1, h2, h3, h4, h5, h6, h7⟩ := hm
       exact ⟨a, b, c, d, e, f, g, rfl, h1, h2, h3, h4, h5, h6, h7⟩)
theorem eq_stay (W : World) (a b c d e f : Int) (r : Bool) : (Op.equalIn 10000 36 (.agg #[.int .i64 a, .bool r, .int .i64 b, .int .i64 c, .int .i64 d, .int .i64 e, .int .i64 f]) (.agg #[.int .i64 a, .bool r, .int .i64 b, .int .i64 c, .int .i64 d, .int .i64 e, .int .i64 f])).run Try.prog W = .ok true W := by
  rw [run_equalIn_agg W 9999 _ _ _ (by kernel_rfl) (by kernel_rfl)]
  obtain ⟨f1, f2, f3, f4, f5, f6, f7, hf, ⟨n1, t1, o1⟩, ⟨n2, t2, o2⟩, ⟨n3, t3, o3⟩, ⟨n4, t4, o4⟩, ⟨n5, t5, o5⟩, ⟨n6, t6, o6⟩, ⟨n7, t7, o7⟩⟩ := stay_fields
  rw [hf]
  simp [go_sem, n1, t1, o1, n2, t2, o2, n3, t3, o3, n4, t4, o4, n5, t5, o5, n6, t6, o6, n7, t7, o7]
theorem eq_stay_guard (a b c d e f : Int) (r : Bool) (x y : Operand) (W : World) : (eqGuard .eql 36 x y (.agg #[.int .i64 a, .bool r, .int .i64 b, .int .i64 c, .int .i64 d, .int .i64 e, .int .i64 f]) (.agg #[.int .i64 a, .bool r, .int .i64 b, .int .i64 c, .int .i64 d, .int .i64 e, .int .i64 f])).run Try.prog W = .ok () W :=
  run_eqGuard_agg W .eql _ x y _ _ (by kernel_rfl)
theorem eq_four (a b c d : Int) (w : World) : (Op.equalIn 10000 28 (.agg #[.int .i64 a, .int .i64 b, .int .i64 c, .int .i64 d]) (.agg #[.int .i64 a, .int .i64 b, .int .i64 c, .int .i64 d])).run Try.prog w = .ok true w := by
  have hp : ∀ (i : Nat) (v : Int), #[Value.int .i64 a, .int .i64 b, .int .i64 c, .int .i64 d][i]? = some (.int .i64 v) → (part 3 #[.int .i64 a, .int .i64 b, .int .i64 c, .int .i64 d] i).run Try.prog w = .ok (.int .i64 v) w := by
    intro i v h
    have h1 : (isAgg 3).run Try.prog w = .ok false w := by kernel_rfl
    unfold part
    simp [h1, Sem.run_bind, h]
  have hc : Try.prog.cellsOf 3 = 1 := by kernel_rfl
  obtain ⟨i3, hi3⟩ : ∃ i, Try.prog.info? 3 = some i := Option.isSome_iff_exists.1 (by kernel_rfl)
  rw [run_equalIn_array (n := 4) (e := 3) w 9999 _ _ Try.underlying28 hi3]
  have e1 : ∀ x y : Int, (Op.equalIn 9999 3 (.int .i64 x) (.int .i64 y)).run Try.prog w = .ok (x == y) w := fun x y => run_equalIn_int w 9998 _ _ _ x y Try.underlying3
  simp only [hc, List.range, List.range.loop, Op.eqItems, Sem.run_bind]
  rw [hp (0 * 1) a rfl]
  simp only [Result.andThen_ok]
  rw [hp (0 * 1) a rfl]
  simp only [Result.andThen_ok, e1, beq_self_eq_true, Bool.not_true, Bool.false_eq_true, if_false, Sem.run_bind]
  rw [hp (1 * 1) b rfl]
  simp only [Result.andThen_ok]
  rw [hp (1 * 1) b rfl]
  simp only [Result.andThen_ok, e1, beq_self_eq_true, Bool.not_true, Bool.false_eq_true, if_false, Sem.run_bind]
  rw [hp (2 * 1) c rfl]
  simp only [Result.andThen_ok]
  rw [hp (2 * 1) c rfl]
  simp only [Result.andThen_ok, e1, beq_self_eq_true, Bool.not_true, Bool.false_eq_true, if_false, Sem.run_bind]
  rw [hp (3 * 1) d rfl]
  simp only [Result.andThen_ok]
  rw [hp (3 * 1) d rfl]
  simp [Result.andThen_ok, e1]
theorem eq_four_guard (a b c d : Int) (x y : Operand) (W : World) : (eqGuard .eql 28 x y (.agg #[.int .i64 a, .int .i64 b, .int .i64 c, .int .i64 d]) (.agg #[.int .i64 a, .int .i64 b, .int .i64 c, .int .i64 d])).run Try.prog W = .ok () W :=
  run_eqGuard_agg W .eql _ x y _ _ (by kernel_rfl)
section
variable {w : World} {S : List Sy}
set_option maxHeartbeats 1000000
/-- Two slices of the same stays. -/
theorem same_stays {v1 v2 : Value} (h1 : Stays w v1 S) (h2 : Stays w v2 S) (hl : S.length ≤ 65536) : Calls Try.prog 11 #[v1, v2] w fun e w' => e = .returned (.bool true) ∧ ∃ k, w' = w.drewN k := by
  obtain ⟨A1, c1, rfl, _, p1⟩ := h1
  obtain ⟨A2, c2, rfl, _, p2⟩ := h2
  go_enter Try.func11, Try.ntmps11
  go_wp2_with fail
  go_loopw [5] (fun i wr => ∃ (k : Nat), k ≤ S.length ∧ i = .int .i64 k ∧ ∃ q, wr = w.drewN q) (fun i _ => S.length - (intOf i).toNat)
  case atStart => exact ⟨0, Nat.zero_le _, rfl, 0, rfl⟩
  case round =>
    obtain ⟨k, hk, rfl, q, rfl⟩ := hrel
    by_cases hlt : k < S.length
    · obtain ⟨g1, o1, rfl, _, j1⟩ := p1 (by omega)
      obtain ⟨g2, o2, rfl, _, j2⟩ := p2 (by omega)
      obtain ⟨a1, a2, a3, a4, a5, a6, a7⟩ := j1 k hlt
      obtain ⟨b1, b2, b3, b4, b5, b6, b7⟩ := j2 k hlt
      generalize S.getD k s0 = s at *
      obtain ⟨st, sr, sa, se, sx, sz, sc⟩ := s
      have a1 : w.cell? ⟨g1, o1 + k * 7, none⟩ = some (.int .i64 st) := a1
      have a2 : w.cell? ⟨g1, o1 + k * 7 + 1, none⟩ = some (.bool sr) := a2
      have a3 : w.cell? ⟨g1, o1 + k * 7 + 2, none⟩ = some (.int .i64 sa) := a3
      have a4 : w.cell? ⟨g1, o1 + k * 7 + 3, none⟩ = some (.int .i64 se) := a4
      have a5 : w.cell? ⟨g1, o1 + k * 7 + 4, none⟩ = some (.int .i64 sx) := a5
      have a6 : w.cell? ⟨g1, o1 + k * 7 + 5, none⟩ = some (.int .i64 sz) := a6
      have a7 : w.cell? ⟨g1, o1 + k * 7 + 6, none⟩ = some (.int .i64 sc) := a7
      have b1 : w.cell? ⟨g2, o2 + k * 7, none⟩ = some (.int .i64 st) := b1
      have b2 : w.cell? ⟨g2, o2 + k * 7 + 1, none⟩ = some (.bool sr) := b2
      have b3 : w.cell? ⟨g2, o2 + k * 7 + 2, none⟩ = some (.int .i64 sa) := b3
      have b4 : w.cell? ⟨g2, o2 + k * 7 + 3, none⟩ = some (.int .i64 se) := b4
      have b5 : w.cell? ⟨g2, o2 + k * 7 + 4, none⟩ = some (.int .i64 sx) := b5
      have b6 : w.cell? ⟨g2, o2 + k * 7 + 5, none⟩ = some (.int .i64 sz) := b6
      have b7 : w.cell? ⟨g2, o2 + k * 7 + 6, none⟩ = some (.int .i64 sc) := b7
      have heq := fun W => eq_stay W st sa se sx sz sc sr
      clear j1 j2
      go_wp2_with fail
      go_quiet (fail)
      go_wp2_with fail
      go_roundw
      case rel => exact ⟨k + 1, by omega, by go_num, _, rfl⟩
      case measure => simp [intOf]; omega
    · obtain rfl : k = S.length := by omega
      go_wp2_with fail
      go_ret
      exact ⟨rfl, q, rfl⟩
end
end Go.Proofs.Ytnipgafogkbobaa
