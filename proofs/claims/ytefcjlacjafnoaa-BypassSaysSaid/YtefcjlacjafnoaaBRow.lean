/- Rows of passes: any slice that reads as passes; one that a call grows; a block of passes; structs of two ints compared; a boxed result of two ints. -/
import Derived.Test.YtefcjlacjafnoaaBCnt
import Derived.Test.YtefcjlacjafnoaaUEv
import Derived.Test.YtefcjlacjafnoaaYRow
import Derived.ChangeKeysEq
namespace Go.Proofs.Ytefcjlacjafnoaa
open Go.RowKit
set_option maxRecDepth 100000

theorem info_pass : (Try.prog.info? 27).map (fun i => (i.zero, i.size, i.bytes)) = some (some (.agg #[.int .i64 0, .int .i64 0]), 2, 16) := by kernel_rfl
/-- A pass' cells. -/
def pcs (r : Ps) : List Value := [.int .i64 r.s, .int .i64 r.o]
def psv (r : Ps) : Value := .agg #[.int .i64 r.s, .int .i64 r.o]
def pcells (R : List Ps) : List Value := R.flatMap pcs
theorem pcells_len (R : List Ps) : (pcells R).length = R.length * 2 := by
  induction R with
  | nil => rfl
  | cons a t ih =>
    show (pcs a ++ pcells t).length = _
    rw [List.length_append, ih]
    simp [pcs]
    omega
/-- The two cells of a pass. -/
structure Two (c : Nat → Option Value) (o : Nat) (r : Ps) : Prop where
  s : c o = some (.int .i64 r.s)
  o : c (o + 1) = some (.int .i64 r.o)
theorem pcells_at {R : List Ps} {k : Nat} (h : k < R.length) : Two (fun i => (pcells R)[i]?) (k * 2) (R.getD k p0) := by
  induction R generalizing k with
  | nil => simp at h
  | cons a t ih =>
    cases k with
    | zero => exact ⟨rfl, rfl⟩
    | succ k =>
      have := ih (k := k) (by simpa using h)
      rw [show (k + 1) * 2 = k * 2 + 1 + 1 by omega]
      exact ⟨this.s, this.o⟩
theorem pcells_snoc (R : List Ps) (r : Ps) : pcells (R ++ [r]) = pcells R ++ [.int .i64 r.s, .int .i64 r.o] := by
  unfold pcells
  rw [List.flatMap_append]
  rfl
/-- One cell of one pass is laid down anew. -/
theorem pcells_set {R : List Ps} {k j : Nat} {r : Ps} {v : Value} (hk : k < R.length) (hj : j < 2) (h : (pcs (R.getD k p0)).set j v = pcs r) : (pcells R).set (k * 2 + j) v = pcells (R.set k r) := by
  induction R generalizing k with
  | nil => simp at hk
  | cons a t ih =>
    cases k with
    | zero =>
      show (pcs a ++ pcells t).set (0 * 2 + j) v = pcs r ++ pcells t
      have h : (pcs a).set j v = pcs r := h
      rw [Nat.zero_mul, Nat.zero_add, List.set_append_left _ _ (by show j < 2; exact hj), h]
    | succ k =>
      show (pcs a ++ pcells t).set ((k + 1) * 2 + j) v = pcs a ++ pcells (t.set k r)
      rw [List.set_append_right _ _ (by show 2 ≤ _; omega), ← ih (k := k) (by simpa using hk) h]
      congr 2
      show (k + 1) * 2 + j - 2 = _
      omega
theorem pcells_zeros (n : Nat) : pcells (List.replicate n p0) = List.replicate (n * 2) (Value.int .i64 0) := by
  induction n with
  | zero => rfl
  | succ n ih =>
    rw [show (n + 1) * 2 = n * 2 + 1 + 1 by omega, List.replicate_succ, List.replicate_succ, List.replicate_succ, ← ih]
    rfl
/-- The slice v reads as the passes R. -/
def Pss (w : World) (v : Value) (R : List Ps) : Prop := ∃ A c, v = .slice A R.length c ∧ R.length ≤ c ∧ (0 < R.length → ∃ g o, A = some ⟨g, o, none⟩ ∧ g < w.heap.size ∧ ∀ k, k < R.length → Two (fun i => w.cell? ⟨g, i, none⟩) (o + k * 2) (R.getD k p0))

section
variable {w0 w w' : World} {c : Nat} {A : Option Addr} {R : List Ps} {v : Value}
theorem Two.kept {g o : Nat} {r : Ps} (h : Two (fun i => w.cell? ⟨g, i, none⟩) o r) (hg : g < w.heap.size) (k : Kept Nil w w') : Two (fun i => w'.cell? ⟨g, i, none⟩) o r := by
  have hc : ∀ i, w'.cell? ⟨g, i, none⟩ = w.cell? ⟨g, i, none⟩ := fun i => k.cell (p := ⟨g, i, none⟩) hg (fun c => c)
  obtain ⟨h1, h2⟩ := h
  exact ⟨(hc _).trans h1, (hc _).trans h2⟩
theorem Pss.kept (h : Pss w v R) (k : Kept Nil w w') : Pss w' v R := by
  obtain ⟨A, c, e, hlc, hp⟩ := h
  refine ⟨A, c, e, hlc, fun h0 => ?_⟩
  obtain ⟨g, o, e1, hg, hc⟩ := hp h0
  exact ⟨g, o, e1, Nat.lt_of_lt_of_le hg k.size, fun j hj => (hc j hj).kept hg k⟩
theorem Pss.nil (w : World) (A : Option Addr) (c : Nat) : Pss w (.slice A 0 c) [] := ⟨A, c, rfl, Nat.zero_le _, fun h => absurd h (by simp)⟩
theorem Is.two {g : Nat} (h : Is w g 27 (pcells R).toArray) {k : Nat} (hk : k < R.length) : Two (fun i => w.cell? ⟨g, i, none⟩) (k * 2) (R.getD k p0) := by
  have q := pcells_at hk
  have hc : ∀ i, w.cell? ⟨g, i, none⟩ = (pcells R)[i]? := fun i => by rw [h.cell, List.getElem?_toArray]
  obtain ⟨h1, h2⟩ := q
  exact ⟨(hc _).trans h1, (hc _).trans h2⟩
theorem Is.pss {g : Nat} (h : Is w g 27 (pcells R).toArray) : Pss w (.slice (some ⟨g, 0, none⟩) R.length R.length) R :=
  ⟨_, _, rfl, Nat.le_refl _, fun _ => ⟨g, 0, rfl, h.lt, fun k hk => by rw [Nat.zero_add]; exact h.two hk⟩⟩
/-- A block of passes behind a store of one of them. -/
theorem Is.lay {g k : Nat} {r : Ps} (h : Is w g 27 (pcells R).toArray) (hk : k < R.length) : Is ((w.setCell ⟨g, k * 2, none⟩ (.int .i64 r.s)).setCell ⟨g, k * 2 + 1, none⟩ (.int .i64 r.o)) g 27 (pcells (R.set k r)).toArray := by
  have h1 := h.set (k * 2) (.int .i64 r.s)
  have h2 := h1.set (k * 2 + 1) (.int .i64 r.o)
  have e1 := pcells_set (R := R) (k := k) (j := 0) (r := ⟨r.s, (R.getD k p0).o⟩) (v := .int .i64 r.s) hk (by decide) rfl
  have hk2 : k < (R.set k ⟨r.s, (R.getD k p0).o⟩).length := by rw [List.length_set]; exact hk
  have e2 := pcells_set (R := R.set k ⟨r.s, (R.getD k p0).o⟩) (k := k) (j := 1) (r := r) (v := .int .i64 r.o) hk2 (by decide) (by
    rw [show (R.set k ⟨r.s, (R.getD k p0).o⟩).getD k p0 = ⟨r.s, (R.getD k p0).o⟩ by simp [List.getD, hk]]
    rfl)
  rw [List.set_set] at e2
  rw [← e2, ← e1]
  simpa using h2
/-- What append leaves, in a region that draws. -/
theorem Gw.lies {e : TypeId} {sz n m g cap : Nat} {xs news : List Value} {wx : World} (h : Gw e sz w0 w A c n xs) (kx : Kept Nil w wx) (hr : w'.ownsRow 0 e sz (.slice (some ⟨g, 0, none⟩) (n + m) cap) (n + m) (xs ++ news)) (hg : wx.grownBy w' (Value.slice A n c).ownBlock)
    (hat : (Value.slice A n c).ownBlock = some g ∨ g = wx.heap.size) : Gw e sz w0 w' (some ⟨g, 0, none⟩) cap (n + m) (xs ++ news) := by
  obtain ⟨A', c', e1, h2⟩ := h.push kx hr hg (hat.elim (fun z => .inl z.symm) (fun z => .inr (by rw [z]; rfl)))
  injection e1 with e1 _ e3
  subst e1 e3
  exact h2
/-- Where a grown row lies. -/
theorem Gw.at2 (h : Gw 27 2 w0 w A c R.length (pcells R)) {k : Nat} (hk : k < R.length) : ∃ g, A = some ⟨g, 0, none⟩ ∧ g < w.heap.size ∧ w0.heap.size ≤ g ∧ R.length ≤ c ∧ Two (fun i => w.cell? ⟨g, i, none⟩) (k * 2) (R.getD k p0) := by
  have hown := h.own
  have hrow := h.row
  rcases hrow.2 with ⟨e, h0⟩ | ⟨g, cap, cur, e, _, hh, hc, _⟩
  · omega
  · injection e with e1 e2 e3
    subst e1 e3
    have hc2 : ∀ j, j < 2 → w.cell? ⟨g, k * 2 + j, none⟩ = (pcells R)[k * 2 + j]? := fun j hj => World.ownsRow.cellAt hrow (k * 2 + j) (by omega)
    obtain ⟨h1, h2⟩ := pcells_at hk
    exact ⟨g, rfl, Is.lt (w := w) hh, hown g rfl, hc, ⟨(hc2 0 (by omega)).trans h1, (hc2 1 (by omega)).trans h2⟩⟩
theorem Gw.pss (h : Gw 27 2 w0 w A c R.length (pcells R)) : Pss w (.slice A R.length c) R := by
  rcases h.row.2 with ⟨e, h0⟩ | ⟨g, cap, cur, e, _, hh, hc, _⟩
  · injection e with e1 e2 e3
    have : R = [] := List.eq_nil_of_length_eq_zero h0
    subst this e1 e3
    exact Pss.nil _ _ _
  · injection e with e1 e2 e3
    subst e1 e3
    refine ⟨_, _, rfl, hc, fun _ => ⟨g, 0, rfl, Is.lt (w := w) hh, fun k hk => ?_⟩⟩
    obtain ⟨g', e, _, _, _, h3⟩ := h.at2 hk
    injection e with e
    injection e with e
    subst e
    rw [Nat.zero_add]
    exact h3
end

theorem pass_fields : ∃ a b : Field, (Try.prog.fieldsOf 27).toList = [a, b] ∧
    (a.name = "Same" ∧ a.type = 3 ∧ a.offset = 0) ∧ (b.name = "Other" ∧ b.type = 3 ∧ b.offset = 1) := by
  have hm : (Try.prog.fieldsOf 27).toList.map (fun f => (f.name, f.type, f.offset)) = [("Same", 3, 0), ("Other", 3, 1)] := by kernel_rfl
  generalize (Try.prog.fieldsOf 27).toList = fs at hm
  rcases fs with _ | ⟨a, _ | ⟨b, _ | ⟨x, t⟩⟩⟩
  all_goals first
    | (simp at hm; done)
    | (simp at hm
       obtain ⟨h1, h2⟩ := hm
       exact ⟨a, b, rfl, h1, h2⟩)
theorem eq_pass (W : World) (a b : Int) : (Op.equalIn 10000 27 (.agg #[.int .i64 a, .int .i64 b]) (.agg #[.int .i64 a, .int .i64 b])).run Try.prog W = .ok true W := by
  rw [run_equalIn_agg W 9999 _ _ _ (by kernel_rfl) (by kernel_rfl)]
  obtain ⟨f1, f2, hf, ⟨n1, t1, o1⟩, ⟨n2, t2, o2⟩⟩ := pass_fields
  rw [hf]
  simp [go_sem, n1, t1, o1, n2, t2, o2]
theorem eq_pass_guard (a b : Int) (x y : Operand) (W : World) : (eqGuard .eql 27 x y (.agg #[.int .i64 a, .int .i64 b]) (.agg #[.int .i64 a, .int .i64 b])).run Try.prog W = .ok () W :=
  run_eqGuard_agg W .eql _ x y _ _ (by kernel_rfl)
theorem results_pass {fn : Func} {p : Tmp} {w : World} {b : Nat} {va vb : Value} (h : fn.results = #[.cell p 27]) (tmps : Array Value) (hp : tmps.getD p undef = .pointer (some ⟨b, 0, none⟩))
    (h0 : w.cell? ⟨b, 0, none⟩ = some va) (h1 : w.cell? ⟨b, 1, none⟩ = some vb) : (results fn tmps).run Try.prog w = .ok (.agg #[va, vb]) w := by
  have e : (results fn tmps).run Try.prog w = ((asAddr (tmps.getD p undef)).run Try.prog w).andThen fun a w₁ => (loadVar 27 a).run Try.prog w₁ := by
    simp only [results, h]
    simp [Sem.run_bind, Result.andThen]
  rw [e, hp]
  go_simp
section
variable {w : World} {R : List Ps}
set_option maxHeartbeats 1000000
/-- Two slices of the same passes. -/
theorem same_pss {v1 v2 : Value} (h1 : Pss w v1 R) (h2 : Pss w v2 R) (hl : R.length ≤ 65536) : Calls Try.prog 12 #[v1, v2] w fun e w' => e = .returned (.bool true) ∧ ∃ k, w' = w.drewN k := by
  obtain ⟨A1, c1, rfl, _, p1⟩ := h1
  obtain ⟨A2, c2, rfl, _, p2⟩ := h2
  go_enter Try.func12, Try.ntmps12
  go_wp2_with fail
  go_loopw [5] (fun i wr => ∃ (k : Nat), k ≤ R.length ∧ i = .int .i64 k ∧ ∃ q, wr = w.drewN q) (fun i _ => R.length - (intOf i).toNat)
  case atStart => exact ⟨0, Nat.zero_le _, rfl, 0, rfl⟩
  case round =>
    obtain ⟨k, hk, rfl, q, rfl⟩ := hrel
    by_cases hlt : k < R.length
    · obtain ⟨g1, o1, rfl, _, j1⟩ := p1 (by omega)
      obtain ⟨g2, o2, rfl, _, j2⟩ := p2 (by omega)
      obtain ⟨a1, a2⟩ := j1 k hlt
      obtain ⟨b1, b2⟩ := j2 k hlt
      generalize R.getD k p0 = r at *
      obtain ⟨rs, ro⟩ := r
      have a1 : w.cell? ⟨g1, o1 + k * 2, none⟩ = some (.int .i64 rs) := a1
      have a2 : w.cell? ⟨g1, o1 + k * 2 + 1, none⟩ = some (.int .i64 ro) := a2
      have b1 : w.cell? ⟨g2, o2 + k * 2, none⟩ = some (.int .i64 rs) := b1
      have b2 : w.cell? ⟨g2, o2 + k * 2 + 1, none⟩ = some (.int .i64 ro) := b2
      have heq := fun W => eq_pass W rs ro
      have hgd := fun x y W => eq_pass_guard rs ro x y W
      clear j1 j2
      go_wp2_with fail
      go_quiet (fail)
      go_wp2_with fail
      go_roundw
      case rel => exact ⟨k + 1, by omega, by go_num, _, rfl⟩
      case measure => simp [intOf]; omega
    · obtain rfl : k = R.length := by omega
      go_wp2_with fail
      go_ret
      exact ⟨rfl, q, rfl⟩
end
end Go.Proofs.Ytefcjlacjafnoaa
