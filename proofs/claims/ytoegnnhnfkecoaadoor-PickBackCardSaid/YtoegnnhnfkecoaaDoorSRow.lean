/- Slices of strings: those that the program itself has built, and those from anywhere. A string is told as the list of its bytes. -/
import Derived.Test.YtoegnnhnfkecoaaDoorMem
import Derived.Test.YtoegnnhnfkecoaaDoorProg
import Derived.Maps.AppendAt
namespace Go.Proofs.YtoegnnhnfkecoaaDoor
open Go.RowKit

/-- The string of these bytes. -/
def sv (l : List UInt8) : Value := .string ⟨l.toArray⟩
theorem info_str : (Tryd.prog.info? 9).map (fun i => (i.zero, i.size, i.bytes)) = some (some (.string ⟨#[]⟩), 1, 16) := by kernel_rfl

/-- The slice v holds just the strings l, in a row of the program's own. -/
def SRow (w : World) (v : Value) (l : List (List UInt8)) : Prop := w.ownsRow 0 9 1 v l.length (l.map sv)
/-- The block of a slice. -/
def SIn (A : Option Addr) : Nat → Prop := fun k => (A.map (·.block)) = some k
/-- The slice v reads as the strings l. -/
def Strs (w : World) (v : Value) (l : List (List UInt8)) : Prop := ∃ A c, v = .slice A l.length c ∧ l.length ≤ c ∧ (0 < l.length → ∃ g o, A = some ⟨g, o, none⟩ ∧ g < w.heap.size ∧ ∀ k, k < l.length → w.cell? ⟨g, o + k, none⟩ = some (sv (l.getD k [])))

section
variable {w w' : World} {v : Value} {l : List (List UInt8)} {A : Option Addr} {n c : Nat} {S : Nat → Prop}

theorem SRow.empty (w : World) : SRow w (.slice none 0 0) [] := World.ownsRow_nil w 0 _ 1
theorem SRow.form (h : SRow w v l) : ∃ A c, v = .slice A l.length c ∧ l.length ≤ c ∧ (0 < l.length → ∃ g cur, A = some ⟨g, 0, none⟩ ∧ Is w g 9 cur) := by
  rcases h.2 with ⟨rfl, h0⟩ | ⟨g, cap, cur, rfl, _, hh, hc, _⟩
  · exact ⟨none, 0, by rw [h0], by omega, fun hp => by omega⟩
  · exact ⟨_, cap, rfl, hc, fun _ => ⟨g, cur, rfl, hh⟩⟩
theorem SRow.len (h : SRow w (.slice A n c) l) : n = l.length := by
  obtain ⟨_, _, e, _⟩ := h.form
  injection e
theorem SRow.block (h : SRow w (.slice A n c) l) {g : Nat} (hg : SIn A g) : ∃ cur, Is w g 9 cur ∧ A = some ⟨g, 0, none⟩ := by
  rcases h.2 with ⟨e, _⟩ | ⟨g', cap, cur, e, _, hh, _⟩
  · injection e with e; subst e; cases hg
  · injection e with e; subst e
    injection hg with hg
    subst hg
    exact ⟨cur, hh, rfl⟩
theorem SRow.kept (h : SRow w (.slice A n c) l) (k : Kept S w w') (hs : ∀ g, SIn A g → ¬ S g) : SRow w' (.slice A n c) l := by
  refine ⟨h.1, ?_⟩
  rcases h.2 with h2 | ⟨g, cap, cur, e, hb, hh, r⟩
  · exact .inl h2
  · refine .inr ⟨g, cap, cur, e, hb, ?_, r⟩
    injection e with e
    subst e
    exact Is.kept (S := S) (w := w) hh k (hs g rfl)
theorem SRow.keep (h : SRow w (.slice A n c) l) (k : Kept Nil w w') : SRow w' (.slice A n c) l := h.kept k (fun _ _ c => c)
theorem SRow.cell (h : SRow w (.slice A n c) l) {k : Nat} (hk : k < l.length) : ∃ g, A = some ⟨g, 0, none⟩ ∧ w.cell? ⟨g, k, none⟩ = some (sv (l.getD k [])) ∧ w.frozen? ⟨g, k, none⟩ = false := by
  have hn := h.len
  subst hn
  obtain ⟨A', c', e, _, hp⟩ := h.form
  injection e with e1 e2 e3
  subst e1
  obtain ⟨g, cur, rfl, hi⟩ := hp (by omega)
  refine ⟨g, rfl, ?_, hi.free k⟩
  rw [World.ownsRow.cellAt h k (by omega), List.getElem?_map]
  simp [List.getD, hk]
theorem SRow.drewN (h : SRow w v l) (k : Nat) : SRow (w.drewN k) v l := h
theorem SRow.alloc (h : SRow w v l) (o : Obj) : SRow (w.alloc o) v l := World.ownsRow.alloc h o

theorem Strs.kept (h : Strs w v l) (k : Kept Nil w w') : Strs w' v l := by
  obtain ⟨A, c, e, hlc, hp⟩ := h
  refine ⟨A, c, e, hlc, fun h0 => ?_⟩
  obtain ⟨g, o, e1, hg, hc⟩ := hp h0
  exact ⟨g, o, e1, Nat.lt_of_lt_of_le hg k.size, fun j hj => (k.cell (p := ⟨g, o + j, none⟩) hg (fun c => c)).trans (hc j hj)⟩
theorem Strs.nil (w : World) (A : Option Addr) (c : Nat) : Strs w (.slice A 0 c) [] := ⟨A, c, rfl, Nat.zero_le _, fun h => absurd h (by simp)⟩
theorem SRow.strs (h : SRow w v l) : Strs w v l := by
  obtain ⟨A, c, e, hlc, hp⟩ := h.form
  subst e
  refine ⟨A, c, rfl, hlc, fun h0 => ?_⟩
  obtain ⟨g, cur, e1, hi⟩ := hp h0
  refine ⟨g, 0, e1, hi.lt, fun k hk => ?_⟩
  obtain ⟨g', e2, hc, _⟩ := h.cell hk
  rw [e1] at e2
  injection e2 with e2
  injection e2 with e2
  subst e2
  rw [Nat.zero_add]
  exact hc
/-- One more string behind those of a slice: what append leaves. -/
theorem SRow.push {v' : Value} {x : List UInt8} (h : w'.ownsRow 0 9 1 v' (l.length + 1) (l.map sv ++ [sv x])) (hg : w.grownBy w' (Value.slice A l.length c).ownBlock)
    (hat : v'.ownBlock = (Value.slice A l.length c).ownBlock ∨ v'.ownBlock = some w.heap.size) :
    ∃ A' c', v' = .slice A' (l.length + 1) c' ∧ SRow w' (.slice A' (l.length + 1) c') (l ++ [x]) ∧ Kept (SIn A) w w' ∧ (∀ g, SIn A' g → SIn A g ∨ g = w.heap.size) := by
  have hr : SRow w' v' (l ++ [x]) := by
    unfold SRow
    rw [List.length_append, List.map_append]
    exact h
  obtain ⟨A', c', e, _, _⟩ := hr.form
  rw [List.length_append] at e
  have hob : ∀ (B : Option Addr) (n m : Nat), (Value.slice B n m).ownBlock = B.map (·.block) := fun B n m => by cases B <;> rfl
  subst e
  refine ⟨A', c', rfl, hr, ?_, ?_⟩
  · have := Kept.of_grown hg
    refine this.more fun i _ hi => ?_
    rw [hob] at hi
    exact hi
  · intro g hg2
    rw [hob, hob] at hat
    unfold SIn at hg2 ⊢
    rw [hg2] at hat
    rcases hat with hat | hat
    · exact .inl hat.symm
    · injection hat with hat
      exact .inr hat
/-- A slice of strings but for the first one. -/
theorem Strs.tail {x : List UInt8} (h : Strs w (.slice A n c) (x :: l)) : ∃ g o, A = some ⟨g, o, none⟩ ∧ n = l.length + 1 ∧ n ≤ c ∧ w.cell? ⟨g, o, none⟩ = some (sv x) ∧ Strs w (.slice (some ⟨g, o + 1, none⟩) l.length (c - 1)) l := by
  obtain ⟨A1, c1, e, hlc, hp⟩ := h
  injection e with e1 e2 e3
  subst e1 e2 e3
  obtain ⟨g, o, rfl, hg, hc⟩ := hp (by simp)
  simp at hlc
  refine ⟨g, o, rfl, by simp, by simpa using hlc, by simpa using hc 0 (by simp), ⟨_, _, rfl, by omega, fun h0 => ⟨g, o + 1, rfl, hg, fun k hk => ?_⟩⟩⟩
  have := hc (k + 1) (by simp; omega)
  rw [show o + 1 + k = o + (k + 1) by omega]
  simpa using this
end
end Go.Proofs.YtoegnnhnfkecoaaDoor
