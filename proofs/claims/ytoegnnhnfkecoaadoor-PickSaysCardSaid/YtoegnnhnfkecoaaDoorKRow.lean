/- Rows of picks: any slice that reads as picks; the document's Same. -/
import Derived.Test.YtoegnnhnfkecoaaDoorKTxt
import Derived.Test.YtoegnnhnfkecoaaDoorNums
import Derived.Test.YtoegnnhnfkecoaaDoorGw
import Derived.Laws.StructEq
namespace Go.Proofs.YtoegnnhnfkecoaaDoor
open Go.RowKit

theorem info_pick : (Tryd.prog.info? 37).map (fun i => (i.zero, i.size, i.bytes)) = some (some (.agg #[.int .i64 0, .int .i64 0]), 2, 16) := by kernel_rfl
/-- A pick's cells; a pick. -/
def pcs (p : Pk) : List Value := [.int .i64 p.1, .int .i64 p.2]
def pv (p : Pk) : Value := .agg #[.int .i64 p.1, .int .i64 p.2]
def pcells (l : List Pk) : List Value := l.flatMap pcs
theorem pcells_len (l : List Pk) : (pcells l).length = l.length * 2 := by
  induction l with
  | nil => rfl
  | cons a t ih =>
    show (pcs a ++ pcells t).length = _
    rw [List.length_append, ih]
    simp [pcs]
    omega
theorem pcells_at {l : List Pk} {k : Nat} (h : k < l.length) : (pcells l)[k * 2]? = some (.int .i64 (l.getD k (0, 0)).1) ∧ (pcells l)[k * 2 + 1]? = some (.int .i64 (l.getD k (0, 0)).2) := by
  induction l generalizing k with
  | nil => simp at h
  | cons a t ih =>
    cases k with
    | zero => exact ⟨rfl, rfl⟩
    | succ k =>
      have := ih (k := k) (by simpa using h)
      rw [show (k + 1) * 2 = k * 2 + 1 + 1 by omega]
      exact this
theorem pcells_snoc (l : List Pk) (p : Pk) : pcells (l ++ [p]) = pcells l ++ [.int .i64 p.1, .int .i64 p.2] := by
  unfold pcells
  rw [List.flatMap_append]
  rfl

/-- The slice v reads as the picks l. -/
def Picks (w : World) (v : Value) (l : List Pk) : Prop := ∃ A c, v = .slice A l.length c ∧ l.length ≤ c ∧ (0 < l.length → ∃ g o, A = some ⟨g, o, none⟩ ∧ g < w.heap.size ∧ ∀ k, k < l.length → w.cell? ⟨g, o + k * 2, none⟩ = some (.int .i64 (l.getD k (0, 0)).1) ∧ w.cell? ⟨g, o + k * 2 + 1, none⟩ = some (.int .i64 (l.getD k (0, 0)).2))
section
variable {w0 w wx w' : World} {e : TypeId} {sz n m c : Nat} {A : Option Addr} {xs news : List Value} {l : List Pk} {v : Value}
theorem Picks.kept (h : Picks w v l) (k : Kept Nil w w') : Picks w' v l := by
  obtain ⟨A, c, e, hlc, hp⟩ := h
  refine ⟨A, c, e, hlc, fun h0 => ?_⟩
  obtain ⟨g, o, e1, hg, hc⟩ := hp h0
  exact ⟨g, o, e1, Nat.lt_of_lt_of_le hg k.size, fun j hj => ⟨(k.cell (p := ⟨g, o + j * 2, none⟩) hg (fun c => c)).trans (hc j hj).1, (k.cell (p := ⟨g, o + j * 2 + 1, none⟩) hg (fun c => c)).trans (hc j hj).2⟩⟩
theorem Picks.nil (w : World) (A : Option Addr) (c : Nat) : Picks w (.slice A 0 c) [] := ⟨A, c, rfl, Nat.zero_le _, fun h => absurd h (by simp)⟩
theorem Is.picks {g : Nat} (h : Is w g 37 (pcells l).toArray) : Picks w (.slice (some ⟨g, 0, none⟩) l.length l.length) l := by
  refine ⟨_, _, rfl, Nat.le_refl _, fun _ => ⟨g, 0, rfl, h.lt, fun k hk => ?_⟩⟩
  rw [Nat.zero_add, h.cell, h.cell, List.getElem?_toArray, List.getElem?_toArray]
  exact pcells_at hk
theorem new_picks (w : World) (l : List Pk) : Picks (w.alloc (.cells (pcells l).toArray 37)) (.slice (some ⟨w.heap.size, 0, none⟩) l.length l.length) l := Is.picks (Is.new w _ _)

theorem Gw.picks (h : Gw 37 2 w0 w A c l.length (pcells l)) : Picks w (.slice A l.length c) l := by
  rcases h.row.2 with ⟨e, h0⟩ | ⟨g, cap, cur, e, _, hh, hc, _⟩
  · injection e with e1 e2 e3
    have : l = [] := List.eq_nil_of_length_eq_zero h0
    subst this e1 e3
    exact Picks.nil _ _ _
  · injection e with e1 e2 e3
    subst e1 e3
    refine ⟨_, _, rfl, hc, fun _ => ⟨g, 0, rfl, Is.lt (w := w) hh, fun k hk => ?_⟩⟩
    have h1 := World.ownsRow.cellAt h.row (k * 2) (by omega)
    have h2 := World.ownsRow.cellAt h.row (k * 2 + 1) (by omega)
    rw [Nat.zero_add, h1, h2]
    exact pcells_at hk

theorem pick_fields : ∃ a b : Field, (Tryd.prog.fieldsOf 37).toList = [a, b] ∧ a.name = "Thread" ∧ b.name = "Want" ∧ a.type = 3 ∧ b.type = 3 ∧ a.offset = 0 ∧ b.offset = 1 := by
  have hm : (Tryd.prog.fieldsOf 37).toList.map (fun f => (f.name, f.type, f.offset)) = [("Thread", 3, 0), ("Want", 3, 1)] := by kernel_rfl
  generalize (Tryd.prog.fieldsOf 37).toList = fs at hm
  rcases fs with _ | ⟨a, _ | ⟨b, _ | ⟨d, t⟩⟩⟩
  · simp at hm
  · simp at hm
  · simp at hm
    exact ⟨a, b, rfl, hm.1.1, hm.2.1, hm.1.2.1, hm.2.2.1, hm.1.2.2, hm.2.2.2⟩
  · simp at hm
theorem same_pick (p : Pk) (W : World) : (Op.equalIn 10000 37 (.agg #[.int .i64 p.1, .int .i64 p.2]) (.agg #[.int .i64 p.1, .int .i64 p.2])).run Tryd.prog W = .ok true W := by
  rw [run_equalIn_agg W 9999 _ _ _ (by kernel_rfl) (by kernel_rfl)]
  obtain ⟨a, b, hf, n1, n2, t1, t2, o1, o2⟩ := pick_fields
  rw [hf]
  simp [go_sem, n1, n2, t1, t2, o1, o2]
set_option maxHeartbeats 400000
/-- Two slices of the same picks. -/
theorem same_picks {v1 v2 : Value} (h1 : Picks w v1 l) (h2 : Picks w v2 l) (hl : l.length ≤ 65536) : Calls Tryd.prog 8 #[v1, v2] w fun e w' => e = .returned (.bool true) ∧ ∃ k, w' = w.drewN k := by
  obtain ⟨A1, c1, rfl, _, p1⟩ := h1
  obtain ⟨A2, c2, rfl, _, p2⟩ := h2
  go_enter Tryd.func8, Tryd.ntmps8
  go_wp2_with fail
  go_loopw [5] (fun i wr => ∃ (k : Nat), k ≤ l.length ∧ i = .int .i64 k ∧ ∃ q, wr = w.drewN q) (fun i _ => l.length - (intOf i).toNat)
  case atStart => exact ⟨0, Nat.zero_le _, rfl, 0, rfl⟩
  case round =>
    obtain ⟨k, hk, rfl, q, rfl⟩ := hrel
    by_cases hlt : k < l.length
    · obtain ⟨g1, o1, rfl, _, j1⟩ := p1 (by omega)
      obtain ⟨g2, o2, rfl, _, j2⟩ := p2 (by omega)
      obtain ⟨a1, a2⟩ := j1 k hlt
      obtain ⟨b1, b2⟩ := j2 k hlt
      have heq := same_pick (l.getD k (0, 0))
      generalize (l.getD k (0, 0)).1 = x at *
      generalize (l.getD k (0, 0)).2 = y at *
      clear j1 j2
      go_wp2_with fail
      go_quiet (fail)
      go_wp2_with fail
      go_roundw
      case rel => exact ⟨k + 1, by omega, by go_num, _, rfl⟩
      case measure => simp [intOf]; omega
    · obtain rfl : k = l.length := by omega
      go_wp2_with fail
      go_ret
      exact ⟨rfl, q, rfl⟩
end
end Go.Proofs.YtoegnnhnfkecoaaDoor
