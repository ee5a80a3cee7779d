/- Memory words for this seat's proofs: a block that is known whole, and what a call leaves as it was. They speak of no program. -/
import Derived.WalkKit
import Derived.WalkSpells
import Derived.Deep.QuietTactic
namespace Go.Proofs.Ytefcjlacjafnoaa
open Go.RowKit

/-- Block g holds just these cells, of element type t; none of them is frozen. -/
def Is (w : World) (g : Nat) (t : TypeId) (cs : Array Value) : Prop := w.heap[g]? = some (.cells cs t (0, 0))

/-- From w to w' no block that was there has turned, but those of S. -/
structure Kept (S : Nat → Prop) (w w' : World) : Prop where
  os : w'.os = w.os
  tape : w'.tape = w.tape
  output : w'.output = w.output
  size : w.heap.size ≤ w'.heap.size
  block : ∀ k, k < w.heap.size → ¬ S k → w'.heap[k]? = w.heap[k]?

/-- No block at all. -/
def Nil : Nat → Prop := fun _ => False

section
variable {w w' w1 : World} {g : Nat} {t : TypeId} {cs : Array Value} {S S' : Nat → Prop}

theorem Is.lt (h : Is w g t cs) : g < w.heap.size := by
  rcases Nat.lt_or_ge g w.heap.size with h1 | h1
  · exact h1
  · unfold Is at h
    rw [Array.getElem?_eq_none h1] at h
    cases h
theorem Is.cell (h : Is w g t cs) (i : Nat) : w.cell? ⟨g, i, none⟩ = cs[i]? := by
  unfold Is at h
  simp [World.cell?, h]
theorem Is.free (h : Is w g t cs) (i : Nat) : w.frozen? ⟨g, i, none⟩ = false := by
  unfold Is at h
  simp [World.frozen?, h]
theorem Is.new (w : World) (t : TypeId) (cs : Array Value) : Is (w.alloc (.cells cs t)) w.heap.size t cs := by
  show (w.heap.push _)[w.heap.size]? = _
  simp
theorem Is.drew (h : Is w g t cs) : Is w.drew g t cs := h
theorem Is.drewN (h : Is w g t cs) (n : Nat) : Is (w.drewN n) g t cs := h
theorem Is.alloc (h : Is w g t cs) (o : Obj) : Is (w.alloc o) g t cs := (Below.heap_alloc w o g h.lt).trans h
theorem Is.set (h : Is w g t cs) (i : Nat) (v : Value) : Is (w.setCell ⟨g, i, none⟩ v) g t (cs.setIfInBounds i v) := by
  unfold Is at h ⊢
  simp [World.setCell, Array.getElem?_modify, h]
theorem Is.other (h : Is w g t cs) {p : Addr} (hp : g ≠ p.block) (v : Value) : Is (w.setCell p v) g t cs := (Below.heap_setCell w p v g hp).trans h
theorem Is.kept (h : Is w g t cs) (k : Kept S w w') (hg : ¬ S g) : Is w' g t cs := (k.block g h.lt hg).trans h
/-- Blocks of two element types are two. -/
theorem Is.ne {g' : Nat} {t' : TypeId} {cs' : Array Value} (h : Is w g t cs) (h' : Is w g' t' cs') (hn : t ≠ t') : g ≠ g' := by
  rintro rfl
  unfold Is at h h'
  rw [h] at h'
  injection h' with h'
  injection h' with _ h2
  exact hn h2
/-- Two blocks of one number hold the same. -/
theorem Is.same {cs' : Array Value} {t' : TypeId} (h : Is w g t cs) (h' : Is w g t' cs') : cs = cs' := by
  unfold Is at h h'
  rw [h] at h'
  injection h' with h'
  injection h' with h2

theorem Kept.refl (S : Nat → Prop) (w : World) : Kept S w w := ⟨rfl, rfl, rfl, Nat.le_refl _, fun _ _ _ => rfl⟩
theorem Kept.trans (h : Kept S w w1) (k : Kept S' w1 w') (hs : ∀ i, i < w.heap.size → S' i → S i) : Kept S w w' :=
  ⟨k.os.trans h.os, k.tape.trans h.tape, k.output.trans h.output, Nat.le_trans h.size k.size, fun i hi hn => (k.block i (Nat.lt_of_lt_of_le hi h.size) (fun c => hn (hs i hi c))).trans (h.block i hi hn)⟩
theorem Kept.more (h : Kept S w w') (hs : ∀ i, i < w.heap.size → S i → S' i) : Kept S' w w' := ⟨h.os, h.tape, h.output, h.size, fun i hi hn => h.block i hi fun c => hn (hs i hi c)⟩
theorem Kept.drew (h : Kept S w w') : Kept S w w'.drew := ⟨h.os, h.tape, h.output, h.size, h.block⟩
theorem Kept.drewN (h : Kept S w w') (n : Nat) : Kept S w (w'.drewN n) := ⟨h.os, h.tape, h.output, h.size, h.block⟩
theorem Kept.alloc (h : Kept S w w') (o : Obj) : Kept S w (w'.alloc o) :=
  ⟨h.os, h.tape, h.output, Nat.le_trans h.size (by simp), fun i hi hn => (Below.heap_alloc w' o i (Nat.lt_of_lt_of_le hi h.size)).trans (h.block i hi hn)⟩
theorem Kept.set (h : Kept S w w') {p : Addr} (hp : p.block < w.heap.size → S p.block) (v : Value) : Kept S w (w'.setCell p v) :=
  ⟨h.os, h.tape, h.output, by simpa [World.setCell] using h.size, fun i hi hn => (Below.heap_setCell w' p v i (by rintro rfl; exact hn (hp hi))).trans (h.block i hi hn)⟩
theorem Kept.of_grown {row : Option Nat} (h : w.grownBy w' row) : Kept (fun k => row = some k) w w' := ⟨h.os, h.tape, h.output, h.size, fun i hi hn => h.block i hi fun e => hn e.symm⟩
theorem Kept.to_grown (h : Kept Nil w w') (row : Option Nat) : w.grownBy w' row := ⟨h.os, h.tape, h.output, h.size, fun i hi _ => h.block i hi fun c => c⟩
theorem Kept.below {B : Nat} {W : World} (h : Below B W w) (k : Kept S w w') (hB : B ≤ w.heap.size) (hs : ∀ i, i < B → ¬ S i) : Below B W w' :=
  ⟨k.os.trans h.os, k.tape.trans h.tape, k.output.trans h.output, Nat.le_trans h.size k.size, fun i hi => (k.block i (Nat.lt_of_lt_of_le hi hB) (hs i hi)).trans (h.block i hi)⟩
theorem Below.kept {W : World} (h : Below W.heap.size W w) : Kept Nil W w := ⟨h.os, h.tape, h.output, h.size, fun i hi _ => h.block i hi⟩
theorem Kept.toBelow (k : Kept Nil w w') : Below w.heap.size w w' := ⟨k.os, k.tape, k.output, k.size, fun i hi => k.block i hi fun c => c⟩
/-- A cell of old memory. -/
theorem Kept.cell (k : Kept S w w') {p : Addr} (hp : p.block < w.heap.size) (hn : ¬ S p.block) : w'.cell? p = w.cell? p := World.cell?_of_block (w := w) (k.block p.block hp hn)
end

/-- A row of zeros. -/
theorem made_zeros (n : Nat) : madeCells #[Value.int .i64 0] n = (List.replicate n (Value.int .i64 0)).toArray := by
  unfold madeCells
  apply Array.ext'
  simp [Nat.mod_one, List.map_const']

/-- A fact kept from the walk. -/
theorem hide {p : Prop} (h : p) : Hid p := h

end Go.Proofs.Ytefcjlacjafnoaa
