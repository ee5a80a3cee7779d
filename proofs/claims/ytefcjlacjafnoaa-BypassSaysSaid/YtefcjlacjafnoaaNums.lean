/- Slices of ints, from wherever they come: read, compared (the document's Same), lengthened by one. -/
import Derived.Test.YtefcjlacjafnoaaRow
import Derived.Deep.QuietTactic
import Derived.BigQuiet
namespace Go.Proofs.Ytefcjlacjafnoaa
open Go.RowKit

/-- The slice v reads as the numbers l. -/
def Nums (w : World) (v : Value) (l : List Int) : Prop := ∃ A c, v = .slice A l.length c ∧ (0 < l.length → ∃ g o, A = some ⟨g, o, none⟩ ∧ g < w.heap.size ∧ ∀ k, k < l.length → w.cell? ⟨g, o + k, none⟩ = some (.int .i64 (l.getD k 0)))

section
variable {w w' : World} {v : Value} {l : List Int}
theorem Nums.kept (h : Nums w v l) (k : Kept Nil w w') : Nums w' v l := by
  obtain ⟨A, c, e, hp⟩ := h
  refine ⟨A, c, e, fun h0 => ?_⟩
  obtain ⟨g, o, e1, hg, hc⟩ := hp h0
  exact ⟨g, o, e1, Nat.lt_of_lt_of_le hg k.size, fun j hj => (k.cell (p := ⟨g, o + j, none⟩) hg (fun c => c)).trans (hc j hj)⟩
theorem Nums.nil (w : World) (A : Option Addr) (c : Nat) : Nums w (.slice A 0 c) [] := ⟨A, c, rfl, fun h => absurd h (by simp)⟩
theorem Row.nums (h : Row w v l) : Nums w v l := by
  obtain ⟨A, c, e, _, hp⟩ := h.form
  subst e
  refine ⟨A, c, rfl, fun h0 => ?_⟩
  obtain ⟨g, cur, e1, hi⟩ := hp h0
  refine ⟨g, 0, e1, hi.lt, fun k hk => ?_⟩
  obtain ⟨g', e2, hc, _⟩ := h.cell hk
  rw [e1] at e2
  injection e2 with e2
  injection e2 with e2
  subst e2
  rw [Nat.zero_add]
  exact hc
/-- One more number behind those of a slice: what append leaves. -/
theorem Row.push {A : Option Addr} {c : Nat} {v' : Value} {x : Int} (h : w'.ownsRow 0 3 1 v' (l.length + 1) (l.map (Value.int .i64) ++ [.int .i64 x])) (hg : w.grownBy w' (Value.slice A l.length c).ownBlock)
    (hat : v'.ownBlock = (Value.slice A l.length c).ownBlock ∨ v'.ownBlock = some w.heap.size) :
    ∃ A' c', v' = .slice A' (l.length + 1) c' ∧ Row w' (.slice A' (l.length + 1) c') (l ++ [x]) ∧ Kept (In A) w w' ∧ (∀ g, In A' g → In A g ∨ g = w.heap.size) := by
  have hr : Row w' v' (l ++ [x]) := by
    unfold Row
    rw [List.length_append, List.map_append]
    exact h
  obtain ⟨A', c', e, _, _⟩ := hr.form
  rw [List.length_append] at e
  have hob : ∀ (B : Option Addr) (n m : Nat), (Value.slice B n m).ownBlock = B.map (·.block) := fun B n m => by cases B <;> rfl
  subst e
  refine ⟨A', c', rfl, hr, ?_, ?_⟩
  · have := Kept.of_grown hg
    refine this.more fun i _ hi => ?_
    rw [hob] at hi
    exact hi
  · intro g hg2
    rw [hob, hob] at hat
    unfold In at hg2 ⊢
    rw [hg2] at hat
    rcases hat with hat | hat
    · exact .inl hat.symm
    · injection hat with hat
      exact .inr hat

set_option maxHeartbeats 400000
end
end Go.Proofs.Ytefcjlacjafnoaa
