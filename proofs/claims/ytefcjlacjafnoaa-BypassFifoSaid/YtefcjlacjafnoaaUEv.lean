/- Rows of events: any slice that reads as events; one that the law itself grows. -/
import Derived.Test.YtefcjlacjafnoaaUMath
import Derived.Test.YtefcjlacjafnoaaGw
import Derived.Deep.QuietTactic
import Derived.BigQuiet
namespace Go.Proofs.Ytefcjlacjafnoaa
open Go.RowKit

theorem info_event : (Try.prog.info? 36).map (fun i => (i.zero, i.size, i.bytes)) = some (some (.agg #[.int .i64 0, .int .i64 0, .bool false, .int .i64 0]), 4, 32) := by kernel_rfl
/-- An event's cells; an event. -/
def ecs (e : Ev) : List Value := [.int .i64 e.k, .int .i64 e.t, .bool e.r, .int .i64 e.c]
def evv (e : Ev) : Value := .agg #[.int .i64 e.k, .int .i64 e.t, .bool e.r, .int .i64 e.c]
def ecells (l : List Ev) : List Value := l.flatMap ecs
theorem ecells_len (l : List Ev) : (ecells l).length = l.length * 4 := by
  induction l with
  | nil => rfl
  | cons a t ih =>
    show (ecs a ++ ecells t).length = _
    rw [List.length_append, ih]
    simp [ecs]
    omega
/-- The four cells of an event. -/
def Four (c : Nat → Option Value) (o : Nat) (e : Ev) : Prop := c o = some (.int .i64 e.k) ∧ c (o + 1) = some (.int .i64 e.t) ∧ c (o + 2) = some (.bool e.r) ∧ c (o + 3) = some (.int .i64 e.c)
theorem ecells_at {l : List Ev} {k : Nat} (h : k < l.length) : Four (fun i => (ecells l)[i]?) (k * 4) (l.getD k e0) := by
  induction l generalizing k with
  | nil => simp at h
  | cons a t ih =>
    cases k with
    | zero => exact ⟨rfl, rfl, rfl, rfl⟩
    | succ k =>
      have := ih (k := k) (by simpa using h)
      rw [show (k + 1) * 4 = k * 4 + 1 + 1 + 1 + 1 by omega]
      exact this
theorem ecells_snoc (l : List Ev) (e : Ev) : ecells (l ++ [e]) = ecells l ++ [.int .i64 e.k, .int .i64 e.t, .bool e.r, .int .i64 e.c] := by
  unfold ecells
  rw [List.flatMap_append]
  rfl
/-- The slice v reads as the events l. -/
def Evs (w : World) (v : Value) (l : List Ev) : Prop := ∃ A c, v = .slice A l.length c ∧ l.length ≤ c ∧ (0 < l.length → ∃ g o, A = some ⟨g, o, none⟩ ∧ g < w.heap.size ∧ ∀ k, k < l.length → Four (fun i => w.cell? ⟨g, i, none⟩) (o + k * 4) (l.getD k e0))

section
variable {w0 w w' : World} {c : Nat} {A : Option Addr} {l : List Ev} {v : Value}
theorem Four.kept {g o : Nat} {e : Ev} (h : Four (fun i => w.cell? ⟨g, i, none⟩) o e) (hg : g < w.heap.size) (k : Kept Nil w w') : Four (fun i => w'.cell? ⟨g, i, none⟩) o e :=
  ⟨(k.cell (p := ⟨g, o, none⟩) hg (fun c => c)).trans h.1, (k.cell (p := ⟨g, o + 1, none⟩) hg (fun c => c)).trans h.2.1, (k.cell (p := ⟨g, o + 2, none⟩) hg (fun c => c)).trans h.2.2.1, (k.cell (p := ⟨g, o + 3, none⟩) hg (fun c => c)).trans h.2.2.2⟩
theorem Evs.kept (h : Evs w v l) (k : Kept Nil w w') : Evs w' v l := by
  obtain ⟨A, c, e, hlc, hp⟩ := h
  refine ⟨A, c, e, hlc, fun h0 => ?_⟩
  obtain ⟨g, o, e1, hg, hc⟩ := hp h0
  exact ⟨g, o, e1, Nat.lt_of_lt_of_le hg k.size, fun j hj => (hc j hj).kept hg k⟩
theorem Evs.nil (w : World) (A : Option Addr) (c : Nat) : Evs w (.slice A 0 c) [] := ⟨A, c, rfl, Nat.zero_le _, fun h => absurd h (by simp)⟩
theorem Is.evs {g : Nat} (h : Is w g 36 (ecells l).toArray) : Evs w (.slice (some ⟨g, 0, none⟩) l.length l.length) l := by
  refine ⟨_, _, rfl, Nat.le_refl _, fun _ => ⟨g, 0, rfl, h.lt, fun k hk => ?_⟩⟩
  have := ecells_at hk
  unfold Four at this ⊢
  simp only [Nat.zero_add, h.cell, List.getElem?_toArray]
  exact this
theorem Gw.evs (h : Gw 36 4 w0 w A c l.length (ecells l)) : Evs w (.slice A l.length c) l := by
  rcases h.row.2 with ⟨e, h0⟩ | ⟨g, cap, cur, e, _, hh, hc, _⟩
  · injection e with e1 e2 e3
    have : l = [] := List.eq_nil_of_length_eq_zero h0
    subst this e1 e3
    exact Evs.nil _ _ _
  · injection e with e1 e2 e3
    subst e1 e3
    refine ⟨_, _, rfl, hc, fun _ => ⟨g, 0, rfl, Is.lt (w := w) hh, fun k hk => ?_⟩⟩
    have h1 := World.ownsRow.cellAt h.row (k * 4) (by omega)
    have h2 := World.ownsRow.cellAt h.row (k * 4 + 1) (by omega)
    have h3 := World.ownsRow.cellAt h.row (k * 4 + 2) (by omega)
    have h4 := World.ownsRow.cellAt h.row (k * 4 + 3) (by omega)
    have := ecells_at hk
    unfold Four at this ⊢
    simp only [Nat.zero_add, h1, h2, h3, h4]
    exact this
/-- The first ones. -/
theorem evs_take {g o c k : Nat} (hk : k < l.length) (hlc : l.length ≤ c) (hg : g < w.heap.size) (hc : ∀ k, k < l.length → Four (fun i => w.cell? ⟨g, i, none⟩) (o + k * 4) (l.getD k e0)) : Evs w (.slice (some ⟨g, o, none⟩) k c) (l.take k) := by
  have hlen : (l.take k).length = k := by rw [List.length_take]; omega
  refine ⟨some ⟨g, o, none⟩, c, by rw [hlen], by omega, fun _ => ⟨g, o, rfl, hg, fun j hj => ?_⟩⟩
  rw [hlen] at hj
  have h := hc j (by omega)
  rw [show (l.take k).getD j e0 = l.getD j e0 by simp [List.getD, hj]]
  exact h
end
end Go.Proofs.Ytefcjlacjafnoaa
