/- Rows of stays: any slice that reads as stays; one that a call grows, and into which it stores. -/
import Derived.Test.YtefcjlacjafnoaaYMath
import Derived.Test.YtefcjlacjafnoaaUEv
namespace Go.Proofs.Ytefcjlacjafnoaa
open Go.RowKit

theorem info_stay : (Try.prog.info? 50).map (fun i => (i.zero, i.size, i.bytes)) = some (some (.agg #[.int .i64 0, .bool false, .int .i64 0, .int .i64 0, .int .i64 0, .int .i64 0, .int .i64 0]), 7, 56) := by kernel_rfl
/-- A stay's cells; a stay. -/
def scs (s : Sy) : List Value := [.int .i64 s.t, .bool s.r, .int .i64 s.a, .int .i64 s.e, .int .i64 s.x, .int .i64 s.z, .int .i64 s.c]
def syv (s : Sy) : Value := .agg #[.int .i64 s.t, .bool s.r, .int .i64 s.a, .int .i64 s.e, .int .i64 s.x, .int .i64 s.z, .int .i64 s.c]
def ycells (S : List Sy) : List Value := S.flatMap scs
theorem ycells_len (S : List Sy) : (ycells S).length = S.length * 7 := by
  induction S with
  | nil => rfl
  | cons a t ih =>
    show (scs a ++ ycells t).length = _
    rw [List.length_append, ih]
    simp [scs]
    omega
/-- The seven cells of a stay. -/
structure Seven (c : Nat → Option Value) (o : Nat) (s : Sy) : Prop where
  t : c o = some (.int .i64 s.t)
  r : c (o + 1) = some (.bool s.r)
  a : c (o + 2) = some (.int .i64 s.a)
  e : c (o + 3) = some (.int .i64 s.e)
  x : c (o + 4) = some (.int .i64 s.x)
  z : c (o + 5) = some (.int .i64 s.z)
  c : c (o + 6) = some (.int .i64 s.c)
theorem ycells_at {S : List Sy} {k : Nat} (h : k < S.length) : Seven (fun i => (ycells S)[i]?) (k * 7) (S.getD k s0) := by
  induction S generalizing k with
  | nil => simp at h
  | cons a t ih =>
    cases k with
    | zero => exact ⟨rfl, rfl, rfl, rfl, rfl, rfl, rfl⟩
    | succ k =>
      have := ih (k := k) (by simpa using h)
      rw [show (k + 1) * 7 = k * 7 + 1 + 1 + 1 + 1 + 1 + 1 + 1 by omega]
      exact ⟨this.t, this.r, this.a, this.e, this.x, this.z, this.c⟩
theorem ycells_snoc (S : List Sy) (s : Sy) : ycells (S ++ [s]) = ycells S ++ [.int .i64 s.t, .bool s.r, .int .i64 s.a, .int .i64 s.e, .int .i64 s.x, .int .i64 s.z, .int .i64 s.c] := by
  unfold ycells
  rw [List.flatMap_append]
  rfl
/-- One cell of one stay is laid down anew. -/
theorem ycells_set {S : List Sy} {k j : Nat} {s : Sy} {v : Value} (hk : k < S.length) (hj : j < 7) (h : (scs (S.getD k s0)).set j v = scs s) : (ycells S).set (k * 7 + j) v = ycells (S.set k s) := by
  induction S generalizing k with
  | nil => simp at hk
  | cons a t ih =>
    cases k with
    | zero =>
      show (scs a ++ ycells t).set (0 * 7 + j) v = scs s ++ ycells t
      have h : (scs a).set j v = scs s := h
      rw [Nat.zero_mul, Nat.zero_add, List.set_append_left _ _ (by show j < 7; exact hj), h]
    | succ k =>
      show (scs a ++ ycells t).set ((k + 1) * 7 + j) v = scs a ++ ycells (t.set k s)
      rw [List.set_append_right _ _ (by show 7 ≤ _; omega), ← ih (k := k) (by simpa using hk) h]
      congr 2
      show (k + 1) * 7 + j - 7 = _
      omega
/-- The slice v reads as the stays S. -/
def Stays (w : World) (v : Value) (S : List Sy) : Prop := ∃ A c, v = .slice A S.length c ∧ S.length ≤ c ∧ (0 < S.length → ∃ g o, A = some ⟨g, o, none⟩ ∧ g < w.heap.size ∧ ∀ k, k < S.length → Seven (fun i => w.cell? ⟨g, i, none⟩) (o + k * 7) (S.getD k s0))

section
variable {w0 w w' : World} {c : Nat} {A : Option Addr} {S : List Sy} {v : Value}
theorem Seven.kept {g o : Nat} {s : Sy} (h : Seven (fun i => w.cell? ⟨g, i, none⟩) o s) (hg : g < w.heap.size) (k : Kept Nil w w') : Seven (fun i => w'.cell? ⟨g, i, none⟩) o s := by
  have hc : ∀ i, w'.cell? ⟨g, i, none⟩ = w.cell? ⟨g, i, none⟩ := fun i => k.cell (p := ⟨g, i, none⟩) hg (fun c => c)
  obtain ⟨h1, h2, h3, h4, h5, h6, h7⟩ := h
  exact ⟨(hc _).trans h1, (hc _).trans h2, (hc _).trans h3, (hc _).trans h4, (hc _).trans h5, (hc _).trans h6, (hc _).trans h7⟩
theorem Stays.kept (h : Stays w v S) (k : Kept Nil w w') : Stays w' v S := by
  obtain ⟨A, c, e, hlc, hp⟩ := h
  refine ⟨A, c, e, hlc, fun h0 => ?_⟩
  obtain ⟨g, o, e1, hg, hc⟩ := hp h0
  exact ⟨g, o, e1, Nat.lt_of_lt_of_le hg k.size, fun j hj => (hc j hj).kept hg k⟩
theorem Stays.nil (w : World) (A : Option Addr) (c : Nat) : Stays w (.slice A 0 c) [] := ⟨A, c, rfl, Nat.zero_le _, fun h => absurd h (by simp)⟩
theorem Is.stays {g : Nat} (h : Is w g 50 (ycells S).toArray) : Stays w (.slice (some ⟨g, 0, none⟩) S.length S.length) S := by
  refine ⟨_, _, rfl, Nat.le_refl _, fun _ => ⟨g, 0, rfl, h.lt, fun k hk => ?_⟩⟩
  have q := ycells_at hk
  have hc : ∀ i, w.cell? ⟨g, i, none⟩ = (ycells S)[i]? := fun i => by rw [h.cell, List.getElem?_toArray]
  rw [Nat.zero_add]
  obtain ⟨h1, h2, h3, h4, h5, h6, h7⟩ := q
  exact ⟨(hc _).trans h1, (hc _).trans h2, (hc _).trans h3, (hc _).trans h4, (hc _).trans h5, (hc _).trans h6, (hc _).trans h7⟩
/-- Where a grown row lies. -/
theorem Gw.at7 (h : Gw 50 7 w0 w A c S.length (ycells S)) {k : Nat} (hk : k < S.length) : ∃ g, A = some ⟨g, 0, none⟩ ∧ g < w.heap.size ∧ w0.heap.size ≤ g ∧ S.length ≤ c ∧ Seven (fun i => w.cell? ⟨g, i, none⟩) (k * 7) (S.getD k s0) ∧ ∀ i, w.frozen? ⟨g, i, none⟩ = false := by
  have hown := h.own
  have hrow := h.row
  rcases hrow.2 with ⟨e, h0⟩ | ⟨g, cap, cur, e, _, hh, hc, _⟩
  · omega
  · injection e with e1 e2 e3
    subst e1 e3
    have hc7 : ∀ j, j < 7 → w.cell? ⟨g, k * 7 + j, none⟩ = (ycells S)[k * 7 + j]? := fun j hj => World.ownsRow.cellAt hrow (k * 7 + j) (by omega)
    obtain ⟨h1, h2, h3, h4, h5, h6, h7⟩ := ycells_at hk
    exact ⟨g, rfl, Is.lt (w := w) hh, hown g rfl, hc, ⟨(hc7 0 (by omega)).trans h1, (hc7 1 (by omega)).trans h2, (hc7 2 (by omega)).trans h3, (hc7 3 (by omega)).trans h4, (hc7 4 (by omega)).trans h5, (hc7 5 (by omega)).trans h6, (hc7 6 (by omega)).trans h7⟩, fun i => Is.free (w := w) hh i⟩
theorem Gw.stays (h : Gw 50 7 w0 w A c S.length (ycells S)) : Stays w (.slice A S.length c) S := by
  rcases h.row.2 with ⟨e, h0⟩ | ⟨g, cap, cur, e, _, hh, hc, _⟩
  · injection e with e1 e2 e3
    have : S = [] := List.eq_nil_of_length_eq_zero h0
    subst this e1 e3
    exact Stays.nil _ _ _
  · injection e with e1 e2 e3
    subst e1 e3
    refine ⟨_, _, rfl, hc, fun _ => ⟨g, 0, rfl, Is.lt (w := w) hh, fun k hk => ?_⟩⟩
    obtain ⟨g', e, _, _, _, h7, _⟩ := h.at7 hk
    injection e with e
    injection e with e
    subst e
    rw [Nat.zero_add]
    exact h7
/-- A grown row behind a store into one of its stays. -/
theorem Gw.store7 {g k j : Nat} {s : Sy} (h : Gw 50 7 w0 w (some ⟨g, 0, none⟩) c S.length (ycells S)) (hk : k < S.length) (hj : j < 7) (he : (scs (S.getD k s0)).set j v = scs s) : Gw 50 7 w0 (w.setCell ⟨g, k * 7 + j, none⟩ v) (some ⟨g, 0, none⟩) c (S.set k s).length (ycells (S.set k s)) := by
  have hg := h.own g rfl
  refine ⟨?_, h.kept.set (p := ⟨g, k * 7 + j, none⟩) (fun z => ?_) v, h.own⟩
  · rw [← ycells_set hk hj he, List.length_set]
    exact (World.ownsRow.stored h.row (k * 7 + j) v).1
  · have z : g < w0.heap.size := z
    omega
end
end Go.Proofs.Ytefcjlacjafnoaa
