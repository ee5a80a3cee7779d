/- A slice of ints that the program itself has built. -/
import Derived.Test.YtefcjlacjafnoaaMem
import Derived.Test.YtefcjlacjafnoaaProg
import Derived.Maps.AppendAt
namespace Go.Proofs.Ytefcjlacjafnoaa
open Go.RowKit

theorem info_int : (Try.prog.info? 3).map (fun i => (i.zero, i.size, i.bytes)) = some (some (.int .i64 0), 1, 8) := by kernel_rfl

/-- The slice v holds just the numbers l, in a row of the program's own. -/
def Row (w : World) (v : Value) (l : List Int) : Prop := w.ownsRow 0 3 1 v l.length (l.map (Value.int .i64))
/-- The block of a slice. -/
def In (A : Option Addr) : Nat → Prop := fun k => (A.map (·.block)) = some k

section
variable {w w' : World} {v : Value} {l : List Int} {A : Option Addr} {n c : Nat} {S : Nat → Prop}

theorem Row.empty (w : World) : Row w (.slice none 0 0) [] := World.ownsRow_nil w 0 _ 1
theorem Row.form (h : Row w v l) : ∃ A c, v = .slice A l.length c ∧ l.length ≤ c ∧ (0 < l.length → ∃ g cur, A = some ⟨g, 0, none⟩ ∧ Is w g 3 cur) := by
  rcases h.2 with ⟨rfl, h0⟩ | ⟨g, cap, cur, rfl, _, hh, hc, _⟩
  · exact ⟨none, 0, by rw [h0], by omega, fun hp => by omega⟩
  · exact ⟨_, cap, rfl, hc, fun _ => ⟨g, cur, rfl, hh⟩⟩
theorem Row.len (h : Row w (.slice A n c) l) : n = l.length := by
  obtain ⟨_, _, e, _⟩ := h.form
  injection e
theorem Row.block (h : Row w (.slice A n c) l) {g : Nat} (hg : In A g) : ∃ cur, Is w g 3 cur ∧ A = some ⟨g, 0, none⟩ := by
  rcases h.2 with ⟨e, _⟩ | ⟨g', cap, cur, e, _, hh, _⟩
  · injection e with e; subst e; cases hg
  · injection e with e; subst e
    injection hg with hg
    subst hg
    exact ⟨cur, hh, rfl⟩
theorem Row.kept (h : Row w (.slice A n c) l) (k : Kept S w w') (hs : ∀ g, In A g → ¬ S g) : Row w' (.slice A n c) l := by
  refine ⟨h.1, ?_⟩
  rcases h.2 with h2 | ⟨g, cap, cur, e, hb, hh, r⟩
  · exact .inl h2
  · refine .inr ⟨g, cap, cur, e, hb, ?_, r⟩
    injection e with e
    subst e
    exact Is.kept (S := S) (w := w) hh k (hs g rfl)
theorem Row.cell (h : Row w (.slice A n c) l) {k : Nat} (hk : k < l.length) : ∃ g, A = some ⟨g, 0, none⟩ ∧ w.cell? ⟨g, k, none⟩ = some (.int .i64 (l.getD k 0)) ∧ w.frozen? ⟨g, k, none⟩ = false := by
  have hn := h.len
  subst hn
  obtain ⟨A', c', e, _, hp⟩ := h.form
  injection e with e1 e2 e3
  subst e1
  obtain ⟨g, cur, rfl, hi⟩ := hp (by omega)
  refine ⟨g, rfl, ?_, hi.free k⟩
  rw [World.ownsRow.cellAt h k (by omega), List.getElem?_map]
  simp [List.getD, hk]
theorem Row.store {g : Nat} (h : Row w (.slice (some ⟨g, 0, none⟩) n c) l) (k : Nat) (x : Int) : Row (w.setCell ⟨g, k, none⟩ (.int .i64 x)) (.slice (some ⟨g, 0, none⟩) n c) (l.set k x) := by
  have hn := h.len
  subst hn
  have := World.ownsRow.stored h k (.int .i64 x)
  unfold Row
  rw [List.length_set, List.map_set]
  exact this.1
theorem Row.ne {g : Nat} {t : TypeId} {cs : Array Value} (h : Row w (.slice A n c) l) (hi : Is w g t cs) (ht : t ≠ 3) : ¬ In A g := by
  intro hg
  obtain ⟨cur, hc, _⟩ := h.block hg
  exact hi.ne hc ht rfl
theorem Row.lt (h : Row w (.slice A n c) l) {g : Nat} (hg : In A g) : g < w.heap.size := by
  obtain ⟨cur, hc, _⟩ := h.block hg
  exact hc.lt
theorem Row.drewN (h : Row w v l) (k : Nat) : Row (w.drewN k) v l := h
theorem Row.alloc (h : Row w v l) (o : Obj) : Row (w.alloc o) v l := World.ownsRow.alloc h o
end
end Go.Proofs.Ytefcjlacjafnoaa
