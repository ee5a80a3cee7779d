/- A row of ints that a call has grown since a world; the leaves and the depths of a list of parents. -/
import Derived.Test.YthbldljdalcgcaaTSlices
import Derived.Test.YthbldljdalcgcaaTTree
import Derived.RegionTactic
import Derived.BigRegion
namespace Go.Proofs.Ythbldljdalcgcaa
open Go.RowKit
set_option maxRecDepth 100000

/-- The row L in a slice of the call's own; nothing older than w0 has turned. -/
structure Gr (w0 w : World) (A : Option Addr) (c : Nat) (L : List Int) : Prop where
  row : Row w (.slice A L.length c) L
  kept : Kept Nil w0 w
  own : ∀ g, In A g → w0.heap.size ≤ g

section
variable {w0 w w' : World} {A : Option Addr} {c : Nat} {L : List Int}
theorem Gr.start (w0 : World) : Gr w0 w0 none 0 [] := ⟨Row.empty _, Kept.refl _ _, fun g hg => by cases hg⟩
theorem Gr.keep (h : Gr w0 w A c L) (k : Kept Nil w w') : Gr w0 w' A c L := ⟨h.row.kept k (fun _ _ z => z), h.kept.trans k (fun _ _ z => z), h.own⟩
theorem Gr.since {w1 : World} (h : Gr w0 w A c L) (k : Kept Nil w1 w0) : Gr w1 w A c L := ⟨h.row, k.trans h.kept (fun _ _ z => z), fun g hg => Nat.le_trans k.size (h.own g hg)⟩
theorem Gr.set (h : Gr w0 w A c L) {p : Addr} (hp : w0.heap.size ≤ p.block) (hn : ¬ In A p.block) (v : Value) : Gr w0 (w.setCell p v) A c L :=
  ⟨h.row.kept (S := fun g => g = p.block) ((Kept.refl (fun g => g = p.block) w).set (p := p) (fun _ => rfl) v) (fun g hg e => hn (e ▸ hg)), h.kept.set (fun hl => absurd hl (by omega)) v, h.own⟩
theorem Gr.push {v' : Value} {x : Int} {o : Obj} (h : Gr w0 w A c L) (hr : w'.ownsRow 0 3 1 v' (L.length + 1) (L.map (Value.int .i64) ++ [.int .i64 x])) (hg : (w.alloc o).grownBy w' (Value.slice A L.length c).ownBlock)
    (hat : v'.ownBlock = (Value.slice A L.length c).ownBlock ∨ v'.ownBlock = some (w.alloc o).heap.size) : ∃ A' c', v' = .slice A' (L.length + 1) c' ∧ Gr w0 w' A' c' (L ++ [x]) := by
  obtain ⟨A2, c2, rfl, hrow, hk, hin⟩ := Row.push (w := w.alloc o) (w' := w') (l := L) (A := A) (c := c) (v' := v') (x := x) hr hg hat
  have h1 := h.kept.size
  refine ⟨A2, c2, rfl, by simpa using hrow, (h.kept.alloc o).trans hk (fun i hi hz => absurd (h.own i hz) (by omega)), fun g hg2 => ?_⟩
  rcases hin g hg2 with e | e
  · exact h.own g e
  · simp at e
    omega
end

/-- The cells of a row of n ints. -/
def slotCells (c : Nat) (V : Nat → Int) : Array Value := ((List.range c).map fun k => Value.int .i64 (V k)).toArray
theorem slotCells_at {c : Nat} {V : Nat → Int} {k : Nat} (h : k < c) : (slotCells c V)[k]? = some (.int .i64 (V k)) := by
  unfold slotCells
  rw [List.getElem?_toArray, List.getElem?_map, List.getElem?_range h]
  rfl
theorem slotCells_set {c : Nat} {V : Nat → Int} {k : Nat} (x : Int) : (slotCells c V).setIfInBounds k (.int .i64 x) = slotCells c (fun p => if p = k then x else V p) := by
  unfold slotCells
  apply Array.ext'
  simp only [Array.toList_setIfInBounds]
  apply List.ext_getElem
  · simp
  · intro i h1 h2
    simp [List.getElem_set]
    by_cases e : i = k
    · subst e; simp
    · have : ¬ k = i := fun z => e z.symm
      simp [e, this]
theorem slotCells_ext {c : Nat} {V U : Nat → Int} (h : ∀ k, k < c → V k = U k) : slotCells c V = slotCells c U := by
  unfold slotCells
  congr 1
  exact List.map_congr_left fun k hk => by rw [h k (List.mem_range.1 hk)]
theorem slot_zeros (n : Nat) : (List.replicate n (Value.int .i64 0)).toArray = slotCells n (fun _ => 0) := by
  unfold slotCells
  congr 1
  apply List.ext_getElem
  · simp
  · intro i h1 h2
    simp
theorem make_row (n : Nat) (hn : n ≤ 1048576) (w : World) : (Instr.makeSlice 22 (.int .i64 (n : Int)) (.int .i64 (n : Int))).run Try.prog w = .ok (.slice (some ⟨w.heap.size, 0, none⟩) n n) (w.alloc (.cells (slotCells n fun _ => 0) 3)) := by
  obtain ⟨i0, hi, hz0, hz1, hz2⟩ := info_parts info_int
  have h := run_make (P := Try.prog) w 22 3 i0 _ Try.underlying22 hi hz0 .i64 .i64 n n (by omega) (Int.le_refl _) (by rw [hz2]; omega) (by omega)
  rw [hz1, Int.toNat_natCast, Nat.mul_one] at h
  rw [← slot_zeros, ← made_zeros]
  exact h

section
variable {w : World} {v : Value} {P : List Int}
set_option maxHeartbeats 1000000
end
end Go.Proofs.Ythbldljdalcgcaa
