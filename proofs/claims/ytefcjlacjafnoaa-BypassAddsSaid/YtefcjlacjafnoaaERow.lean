/- Rows of tenures: any slice that reads as tenures; one that a call grows, and into which it stores. -/
import Derived.Test.YtefcjlacjafnoaaEMath
import Derived.Test.YtefcjlacjafnoaaUEv
import Derived.ChangeKeysEq
namespace Go.Proofs.Ytefcjlacjafnoaa
open Go.RowKit
set_option maxRecDepth 100000

/-- A tenure's cells. -/
def rcs (r : Rn) : List Value := [.int .i64 r.n, .int .i64 (r.f : Nat), .int .i64 (r.m : Nat)]
def rcells (R : List Rn) : List Value := R.flatMap rcs
theorem rcells_len (R : List Rn) : (rcells R).length = R.length * 3 := by
  induction R with
  | nil => rfl
  | cons a t ih =>
    show (rcs a ++ rcells t).length = _
    rw [List.length_append, ih]
    simp [rcs]
    omega
/-- The three cells of a tenure. -/
structure Three (c : Nat → Option Value) (o : Nat) (r : Rn) : Prop where
  n : c o = some (.int .i64 r.n)
  f : c (o + 1) = some (.int .i64 (r.f : Nat))
  m : c (o + 2) = some (.int .i64 (r.m : Nat))
theorem rcells_at {R : List Rn} {k : Nat} (h : k < R.length) : Three (fun i => (rcells R)[i]?) (k * 3) (R.getD k r0) := by
  induction R generalizing k with
  | nil => simp at h
  | cons a t ih =>
    cases k with
    | zero => exact ⟨rfl, rfl, rfl⟩
    | succ k =>
      have := ih (k := k) (by simpa using h)
      rw [show (k + 1) * 3 = k * 3 + 1 + 1 + 1 by omega]
      exact ⟨this.n, this.f, this.m⟩
theorem rcells_snoc (R : List Rn) (r : Rn) : rcells (R ++ [r]) = rcells R ++ [.int .i64 r.n, .int .i64 (r.f : Nat), .int .i64 (r.m : Nat)] := by
  unfold rcells
  rw [List.flatMap_append]
  rfl
/-- One cell of one tenure is laid down anew. -/
theorem rcells_set {R : List Rn} {k j : Nat} {r : Rn} {v : Value} (hk : k < R.length) (hj : j < 3) (h : (rcs (R.getD k r0)).set j v = rcs r) : (rcells R).set (k * 3 + j) v = rcells (R.set k r) := by
  induction R generalizing k with
  | nil => simp at hk
  | cons a t ih =>
    cases k with
    | zero =>
      show (rcs a ++ rcells t).set (0 * 3 + j) v = rcs r ++ rcells t
      have h : (rcs a).set j v = rcs r := h
      rw [Nat.zero_mul, Nat.zero_add, List.set_append_left _ _ (by show j < 3; exact hj), h]
    | succ k =>
      show (rcs a ++ rcells t).set ((k + 1) * 3 + j) v = rcs a ++ rcells (t.set k r)
      rw [List.set_append_right _ _ (by show 3 ≤ _; omega), ← ih (k := k) (by simpa using hk) h]
      congr 2
      show (k + 1) * 3 + j - 3 = _
      omega
/-- The slice v reads as the tenures R. -/
def Runs (w : World) (v : Value) (R : List Rn) : Prop := ∃ A c, v = .slice A R.length c ∧ R.length ≤ c ∧ (0 < R.length → ∃ g o, A = some ⟨g, o, none⟩ ∧ g < w.heap.size ∧ ∀ k, k < R.length → Three (fun i => w.cell? ⟨g, i, none⟩) (o + k * 3) (R.getD k r0))

section
variable {w0 w w' : World} {c : Nat} {A : Option Addr} {R : List Rn} {v : Value}
theorem Three.kept {g o : Nat} {r : Rn} (h : Three (fun i => w.cell? ⟨g, i, none⟩) o r) (hg : g < w.heap.size) (k : Kept Nil w w') : Three (fun i => w'.cell? ⟨g, i, none⟩) o r := by
  have hc : ∀ i, w'.cell? ⟨g, i, none⟩ = w.cell? ⟨g, i, none⟩ := fun i => k.cell (p := ⟨g, i, none⟩) hg (fun c => c)
  obtain ⟨h1, h2, h3⟩ := h
  exact ⟨(hc _).trans h1, (hc _).trans h2, (hc _).trans h3⟩
theorem Runs.kept (h : Runs w v R) (k : Kept Nil w w') : Runs w' v R := by
  obtain ⟨A, c, e, hlc, hp⟩ := h
  refine ⟨A, c, e, hlc, fun h0 => ?_⟩
  obtain ⟨g, o, e1, hg, hc⟩ := hp h0
  exact ⟨g, o, e1, Nat.lt_of_lt_of_le hg k.size, fun j hj => (hc j hj).kept hg k⟩
theorem Runs.nil (w : World) (A : Option Addr) (c : Nat) : Runs w (.slice A 0 c) [] := ⟨A, c, rfl, Nat.zero_le _, fun h => absurd h (by simp)⟩
end

section
variable {w : World} {R : List Rn}
set_option maxHeartbeats 1000000
end
end Go.Proofs.Ytefcjlacjafnoaa
