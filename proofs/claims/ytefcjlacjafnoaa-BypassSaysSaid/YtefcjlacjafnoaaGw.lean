/- A row that a call grows, of elements of any type and size: `Gw`; one law of append. -/
import Derived.Test.YtefcjlacjafnoaaRow
namespace Go.Proofs.Ytefcjlacjafnoaa
open Go.RowKit

/-- A row of the call's own, grown since w0; nothing older than w0 has turned. -/
structure Gw (e : TypeId) (sz : Nat) (w0 w : World) (A : Option Addr) (c n : Nat) (xs : List Value) : Prop where
  row : w.ownsRow 0 e sz (.slice A n c) n xs
  kept : Kept Nil w0 w
  own : ∀ g, In A g → w0.heap.size ≤ g

section
variable {w0 w wx w' : World} {e : TypeId} {sz n m c : Nat} {A : Option Addr} {xs news : List Value}
theorem owns_keep (h : w.ownsRow 0 e sz (.slice A n c) n xs) {S : Nat → Prop} (k : Kept S w w') (hs : ∀ g, In A g → ¬ S g) : w'.ownsRow 0 e sz (.slice A n c) n xs := by
  refine ⟨h.1, ?_⟩
  rcases h.2 with h2 | ⟨g, cap, cur, e, hb, hh, r⟩
  · exact .inl h2
  · refine .inr ⟨g, cap, cur, e, hb, ?_, r⟩
    injection e with e
    subst e
    exact Is.kept (S := S) (w := w) hh k (hs g rfl)
theorem Gw.start (e : TypeId) (sz : Nat) (w0 : World) : Gw e sz w0 w0 none 0 0 [] := ⟨World.ownsRow_nil w0 0 _ sz, Kept.refl _ _, fun g hg => by cases hg⟩
theorem Gw.from (e : TypeId) (sz : Nat) (k : Kept Nil w0 w) : Gw e sz w0 w none 0 0 [] := ⟨World.ownsRow_nil w 0 _ sz, k, fun g hg => by cases hg⟩
theorem Gw.keep (h : Gw e sz w0 w A c n xs) (k : Kept Nil w w') : Gw e sz w0 w' A c n xs := ⟨owns_keep h.row k (fun _ _ z => z), h.kept.trans k (fun _ _ z => z), h.own⟩
/-- What append leaves. -/
theorem Gw.push {v' : Value} (h : Gw e sz w0 w A c n xs) (kx : Kept Nil w wx) (hr : w'.ownsRow 0 e sz v' (n + m) (xs ++ news)) (hg : wx.grownBy w' (Value.slice A n c).ownBlock)
    (hat : v'.ownBlock = (Value.slice A n c).ownBlock ∨ v'.ownBlock = some wx.heap.size) : ∃ A' c', v' = .slice A' (n + m) c' ∧ Gw e sz w0 w' A' c' (n + m) (xs ++ news) := by
  have hob : ∀ (B : Option Addr) (n m : Nat), (Value.slice B n m).ownBlock = B.map (·.block) := fun B n m => by cases B <;> rfl
  have h1 := (h.kept.trans kx (fun _ _ z => z) : Kept Nil w0 wx)
  have hv : ∃ A' c', v' = .slice A' (n + m) c' := by
    rcases hr.2 with ⟨e, h0⟩ | ⟨g, cap, cur, e, _⟩
    · exact ⟨none, 0, by rw [e, h0]⟩
    · exact ⟨_, _, e⟩
  obtain ⟨A', c', rfl⟩ := hv
  refine ⟨A', c', rfl, hr, ?_, fun g hg2 => ?_⟩
  · refine h1.trans (Kept.of_grown hg) (fun i hi hz => ?_)
    rw [hob] at hz
    exact absurd (h.own i hz) (by omega)
  · rw [hob, hob] at hat
    unfold In at hg2
    rw [hg2] at hat
    rcases hat with hat | hat
    · exact h.own g hat.symm
    · injection hat with hat
      rw [hat]
      exact h1.size
end
end Go.Proofs.Ytefcjlacjafnoaa
