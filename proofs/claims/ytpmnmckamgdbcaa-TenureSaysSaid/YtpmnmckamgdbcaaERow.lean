/- Rows of tenures: any slice that reads as tenures; one that a call grows, and into which it stores. -/
import Derived.Test.YtpmnmckamgdbcaaEMath
import Derived.Test.YtpmnmckamgdbcaaUEv
import Derived.ChangeKeysEq
namespace Go.Proofs.Ytpmnmckamgdbcaa
open Go.RowKit
set_option maxRecDepth 100000

theorem info_run : (Try.prog.info? 31).map (fun i => (i.zero, i.size, i.bytes)) = some (some (.agg #[.int .i64 0, .int .i64 0, .int .i64 0]), 3, 24) := by kernel_rfl
/-- A tenure's cells. -/
def rcs (r : Rn) : List Value := [.int .i64 r.n, .int .i64 (r.f : Nat), .int .i64 (r.m : Nat)]
def rcells (R : List Rn) : List Value := R.flatMap rcs
theorem rcells_len (R : List Rn) : (rcells R).length = R.length * 3 := by
  induction R with
  | nil => rfl
  | cons a t ih =>
    show (rcs a ++ rcells t).length = _
    rw [List.length_append, ih]
    simp [rcs]
    omega
/-- The three cells of a tenure. -/
structure Three (c : Nat → Option Value) (o : Nat) (r : Rn) : Prop where
  n : c o = some (.int .i64 r.n)
  f : c (o + 1) = some (.int .i64 (r.f : Nat))
  m : c (o + 2) = some (.int .i64 (r.m : Nat))
theorem rcells_at {R : List Rn} {k : Nat} (h : k < R.length) : Three (fun i => (rcells R)[i]?) (k * 3) (R.getD k r0) := by
  induction R generalizing k with
  | nil => simp at h
  | cons a t ih =>
    cases k with
    | zero => exact ⟨rfl, rfl, rfl⟩
    | succ k =>
      have := ih (k := k) (by simpa using h)
      rw [show (k + 1) * 3 = k * 3 + 1 + 1 + 1 by omega]
      exact ⟨this.n, this.f, this.m⟩
theorem rcells_snoc (R : List Rn) (r : Rn) : rcells (R ++ [r]) = rcells R ++ [.int .i64 r.n, .int .i64 (r.f : Nat), .int .i64 (r.m : Nat)] := by
  unfold rcells
  rw [List.flatMap_append]
  rfl
/-- One cell of one tenure is laid down anew. -/
theorem rcells_set {R : List Rn} {k j : Nat} {r : Rn} {v : Value} (hk : k < R.length) (hj : j < 3) (h : (rcs (R.getD k r0)).set j v = rcs r) : (rcells R).set (k * 3 + j) v = rcells (R.set k r) := by
  induction R generalizing k with
  | nil => simp at hk
  | cons a t ih =>
    cases k with
    | zero =>
      show (rcs a ++ rcells t).set (0 * 3 + j) v = rcs r ++ rcells t
      have h : (rcs a).set j v = rcs r := h
      rw [Nat.zero_mul, Nat.zero_add, List.set_append_left _ _ (by show j < 3; exact hj), h]
    | succ k =>
      show (rcs a ++ rcells t).set ((k + 1) * 3 + j) v = rcs a ++ rcells (t.set k r)
      rw [List.set_append_right _ _ (by show 3 ≤ _; omega), ← ih (k := k) (by simpa using hk) h]
      congr 2
      show (k + 1) * 3 + j - 3 = _
      omega
/-- The slice v reads as the tenures R. -/
def Runs (w : World) (v : Value) (R : List Rn) : Prop := ∃ A c, v = .slice A R.length c ∧ R.length ≤ c ∧ (0 < R.length → ∃ g o, A = some ⟨g, o, none⟩ ∧ g < w.heap.size ∧ ∀ k, k < R.length → Three (fun i => w.cell? ⟨g, i, none⟩) (o + k * 3) (R.getD k r0))

section
variable {w0 w w' : World} {c : Nat} {A : Option Addr} {R : List Rn} {v : Value}
theorem Three.kept {g o : Nat} {r : Rn} (h : Three (fun i => w.cell? ⟨g, i, none⟩) o r) (hg : g < w.heap.size) (k : Kept Nil w w') : Three (fun i => w'.cell? ⟨g, i, none⟩) o r := by
  have hc : ∀ i, w'.cell? ⟨g, i, none⟩ = w.cell? ⟨g, i, none⟩ := fun i => k.cell (p := ⟨g, i, none⟩) hg (fun c => c)
  obtain ⟨h1, h2, h3⟩ := h
  exact ⟨(hc _).trans h1, (hc _).trans h2, (hc _).trans h3⟩
theorem Runs.kept (h : Runs w v R) (k : Kept Nil w w') : Runs w' v R := by
  obtain ⟨A, c, e, hlc, hp⟩ := h
  refine ⟨A, c, e, hlc, fun h0 => ?_⟩
  obtain ⟨g, o, e1, hg, hc⟩ := hp h0
  exact ⟨g, o, e1, Nat.lt_of_lt_of_le hg k.size, fun j hj => (hc j hj).kept hg k⟩
theorem Runs.nil (w : World) (A : Option Addr) (c : Nat) : Runs w (.slice A 0 c) [] := ⟨A, c, rfl, Nat.zero_le _, fun h => absurd h (by simp)⟩
theorem Is.runs {g : Nat} (h : Is w g 31 (rcells R).toArray) : Runs w (.slice (some ⟨g, 0, none⟩) R.length R.length) R := by
  refine ⟨_, _, rfl, Nat.le_refl _, fun _ => ⟨g, 0, rfl, h.lt, fun k hk => ?_⟩⟩
  have q := rcells_at hk
  have hc : ∀ i, w.cell? ⟨g, i, none⟩ = (rcells R)[i]? := fun i => by rw [h.cell, List.getElem?_toArray]
  rw [Nat.zero_add]
  obtain ⟨h1, h2, h3⟩ := q
  exact ⟨(hc _).trans h1, (hc _).trans h2, (hc _).trans h3⟩
/-- Where a grown row lies. -/
theorem Gw.at3 (h : Gw 31 3 w0 w A c R.length (rcells R)) {k : Nat} (hk : k < R.length) : ∃ g, A = some ⟨g, 0, none⟩ ∧ g < w.heap.size ∧ w0.heap.size ≤ g ∧ R.length ≤ c ∧ Three (fun i => w.cell? ⟨g, i, none⟩) (k * 3) (R.getD k r0) ∧ ∀ i, w.frozen? ⟨g, i, none⟩ = false := by
  have hown := h.own
  have hrow := h.row
  rcases hrow.2 with ⟨e, h0⟩ | ⟨g, cap, cur, e, _, hh, hc, _⟩
  · omega
  · injection e with e1 e2 e3
    subst e1 e3
    have hc3 : ∀ j, j < 3 → w.cell? ⟨g, k * 3 + j, none⟩ = (rcells R)[k * 3 + j]? := fun j hj => World.ownsRow.cellAt hrow (k * 3 + j) (by omega)
    obtain ⟨h1, h2, h3⟩ := rcells_at hk
    exact ⟨g, rfl, Is.lt (w := w) hh, hown g rfl, hc, ⟨(hc3 0 (by omega)).trans h1, (hc3 1 (by omega)).trans h2, (hc3 2 (by omega)).trans h3⟩, fun i => Is.free (w := w) hh i⟩
theorem Gw.runs (h : Gw 31 3 w0 w A c R.length (rcells R)) : Runs w (.slice A R.length c) R := by
  rcases h.row.2 with ⟨e, h0⟩ | ⟨g, cap, cur, e, _, hh, hc, _⟩
  · injection e with e1 e2 e3
    have : R = [] := List.eq_nil_of_length_eq_zero h0
    subst this e1 e3
    exact Runs.nil _ _ _
  · injection e with e1 e2 e3
    subst e1 e3
    refine ⟨_, _, rfl, hc, fun _ => ⟨g, 0, rfl, Is.lt (w := w) hh, fun k hk => ?_⟩⟩
    obtain ⟨g', e, _, _, _, h3, _⟩ := h.at3 hk
    injection e with e
    injection e with e
    subst e
    rw [Nat.zero_add]
    exact h3
/-- A grown row behind a store into one of its tenures. -/
theorem Gw.store3 {g k j : Nat} {r : Rn} (h : Gw 31 3 w0 w (some ⟨g, 0, none⟩) c R.length (rcells R)) (hk : k < R.length) (hj : j < 3) (he : (rcs (R.getD k r0)).set j v = rcs r) : Gw 31 3 w0 (w.setCell ⟨g, k * 3 + j, none⟩ v) (some ⟨g, 0, none⟩) c (R.set k r).length (rcells (R.set k r)) := by
  have hg := h.own g rfl
  refine ⟨?_, h.kept.set (p := ⟨g, k * 3 + j, none⟩) (fun z => ?_) v, h.own⟩
  · rw [← rcells_set hk hj he, List.length_set]
    exact (World.ownsRow.stored h.row (k * 3 + j) v).1
  · have z : g < w0.heap.size := z
    omega
end

theorem run_fields : ∃ a b c : Field, (Try.prog.fieldsOf 31).toList = [a, b, c] ∧
    (a.name = "Node" ∧ a.type = 3 ∧ a.offset = 0) ∧ (b.name = "From" ∧ b.type = 3 ∧ b.offset = 1) ∧ (c.name = "Many" ∧ c.type = 3 ∧ c.offset = 2) := by
  have hm : (Try.prog.fieldsOf 31).toList.map (fun f => (f.name, f.type, f.offset)) = [("Node", 3, 0), ("From", 3, 1), ("Many", 3, 2)] := by kernel_rfl
  generalize (Try.prog.fieldsOf 31).toList = fs at hm
  rcases fs with _ | ⟨a, _ | ⟨b, _ | ⟨c, _ | ⟨x, t⟩⟩⟩⟩
  all_goals first
    | (simp at hm; done)
    | (simp at hm
       obtain ⟨h1, h2, h3⟩ := hm
       exact ⟨a, b, c, rfl, h1, h2, h3⟩)
theorem eq_run (W : World) (a b c : Int) : (Op.equalIn 10000 31 (.agg #[.int .i64 a, .int .i64 b, .int .i64 c]) (.agg #[.int .i64 a, .int .i64 b, .int .i64 c])).run Try.prog W = .ok true W := by
  rw [run_equalIn_agg W 9999 _ _ _ (by kernel_rfl) (by kernel_rfl)]
  obtain ⟨f1, f2, f3, hf, ⟨n1, t1, o1⟩, ⟨n2, t2, o2⟩, ⟨n3, t3, o3⟩⟩ := run_fields
  rw [hf]
  simp [go_sem, n1, t1, o1, n2, t2, o2, n3, t3, o3]
theorem eq_run_guard (a b c : Int) (x y : Operand) (W : World) : (eqGuard .eql 31 x y (.agg #[.int .i64 a, .int .i64 b, .int .i64 c]) (.agg #[.int .i64 a, .int .i64 b, .int .i64 c])).run Try.prog W = .ok () W :=
  run_eqGuard_agg W .eql _ x y _ _ (by kernel_rfl)
section
variable {w : World} {R : List Rn}
set_option maxHeartbeats 1000000
/-- Two slices of the same tenures. -/
theorem same_runs {v1 v2 : Value} (h1 : Runs w v1 R) (h2 : Runs w v2 R) (hl : R.length ≤ 65536) : Calls Try.prog 11 #[v1, v2] w fun e w' => e = .returned (.bool true) ∧ ∃ k, w' = w.drewN k := by
  obtain ⟨A1, c1, rfl, _, p1⟩ := h1
  obtain ⟨A2, c2, rfl, _, p2⟩ := h2
  go_enter Try.func11, Try.ntmps11
  go_wp2_with fail
  go_loopw [5] (fun i wr => ∃ (k : Nat), k ≤ R.length ∧ i = .int .i64 k ∧ ∃ q, wr = w.drewN q) (fun i _ => R.length - (intOf i).toNat)
  case atStart => exact ⟨0, Nat.zero_le _, rfl, 0, rfl⟩
  case round =>
    obtain ⟨k, hk, rfl, q, rfl⟩ := hrel
    by_cases hlt : k < R.length
    · obtain ⟨g1, o1, rfl, _, j1⟩ := p1 (by omega)
      obtain ⟨g2, o2, rfl, _, j2⟩ := p2 (by omega)
      obtain ⟨a1, a2, a3⟩ := j1 k hlt
      obtain ⟨b1, b2, b3⟩ := j2 k hlt
      generalize R.getD k r0 = r at *
      obtain ⟨rn, rf, rm⟩ := r
      have a1 : w.cell? ⟨g1, o1 + k * 3, none⟩ = some (.int .i64 rn) := a1
      have a2 : w.cell? ⟨g1, o1 + k * 3 + 1, none⟩ = some (.int .i64 rf) := a2
      have a3 : w.cell? ⟨g1, o1 + k * 3 + 2, none⟩ = some (.int .i64 rm) := a3
      have b1 : w.cell? ⟨g2, o2 + k * 3, none⟩ = some (.int .i64 rn) := b1
      have b2 : w.cell? ⟨g2, o2 + k * 3 + 1, none⟩ = some (.int .i64 rf) := b2
      have b3 : w.cell? ⟨g2, o2 + k * 3 + 2, none⟩ = some (.int .i64 rm) := b3
      have heq := fun W => eq_run W rn rf rm
      have hgd := fun x y W => eq_run_guard rn rf rm x y W
      clear j1 j2
      go_wp2_with fail
      go_quiet (fail)
      go_wp2_with fail
      go_roundw
      case rel => exact ⟨k + 1, by omega, by go_num, _, rfl⟩
      case measure => simp [intOf]; omega
    · obtain rfl : k = R.length := by omega
      go_wp2_with fail
      go_ret
      exact ⟨rfl, q, rfl⟩
end
end Go.Proofs.Ytpmnmckamgdbcaa
