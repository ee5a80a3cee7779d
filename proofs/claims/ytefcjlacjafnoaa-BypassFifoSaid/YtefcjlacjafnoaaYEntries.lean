/- Entries. -/
import Derived.Test.YtefcjlacjafnoaaYOf
namespace Go.Proofs.Ytefcjlacjafnoaa
open Go.RowKit
set_option maxRecDepth 100000

section
variable {w0 w w1 w' : World} {p c : Nat} {A : Option Addr} {S : List Sy} {v : Value} {l : List Ev}
/-- A tally stays while blocks of other things turn. -/
theorem Tly.far {T : Nat → Prop} (h : Tly w0 w p S) (k : Kept T w w') (hs : ∀ i, T i → w0.heap.size ≤ i ∧ ∃ t cs, Is w i t cs ∧ t ≠ 57 ∧ t ≠ 50) : Tly w0 w' p S := by
  obtain ⟨m, A, c, f, h⟩ := h
  refine ⟨m, A, c, f, h.box.kept k (fun z => ?_), ⟨owns_keep h.row.row k (fun i hi z => ?_), h.row.kept.trans k (fun i hi z => ?_), h.row.own⟩, h.und.kept k (fun z => ?_), h.ix, h.pn, h.mn⟩
  · obtain ⟨_, t, cs, h1, h2, _⟩ := hs p z
    exact h1.ne h.box h2 rfl
  · obtain ⟨cur, hc⟩ := h.row.block hi
    obtain ⟨_, t, cs, h1, _, h2⟩ := hs i z
    exact h1.ne hc h2 rfl
  · have := (hs i z).1
    omega
  · obtain ⟨_, t, cs, h1, _⟩ := hs m z
    exact h.und.ne h1 rfl
/-- A row of ints that is built beside a tally. -/
def Ints (w0 w : World) (R : Option Addr) (c : Nat) (L : List Int) : Prop := Gw 3 1 w0 w R c L.length (L.map (Value.int .i64))
theorem Ints.push {R : Option Addr} {c : Nat} {L : List Int} {x : Int} {wx : World} {v' : Value} (h : Ints w0 w R c L) (kx : Kept Nil w wx) (hr : w'.ownsRow 0 3 1 v' (L.length + 1) (L.map (Value.int .i64) ++ [.int .i64 x])) (hg : wx.grownBy w' (Value.slice R L.length c).ownBlock)
    (hat : v'.ownBlock = (Value.slice R L.length c).ownBlock ∨ v'.ownBlock = some wx.heap.size) : ∃ R' c', v' = .slice R' (L.length + 1) c' ∧ Ints w0 w' R' c' (L ++ [x]) ∧ ∀ p S, Tly w0 w p S → Tly w0 w' p S := by
  obtain ⟨R', c', e, h2⟩ := Gw.push h kx hr hg hat
  refine ⟨R', c', e, by unfold Ints; rw [List.length_append, List.map_append]; exact h2, fun p S ht => (ht.keep kx).far (T := In R) ((Kept.of_grown hg).more (fun i _ z => by rw [own_in] at z; exact z)) (fun i hi => ⟨Gw.own h i hi, ?_⟩)⟩
  obtain ⟨cur, hc⟩ := Gw.block h hi
  exact ⟨_, _, hc.kept kx (fun z => z), by decide, by decide⟩
/-- What Entries hands back. -/
def Ins (w : World) (L : List Int) (e : Ending) (w' : World) : Prop := ∃ R c, e = .returned (.slice R L.length c) ∧ Ints w w' R c L
set_option maxHeartbeats 1000000
end
end Go.Proofs.Ytefcjlacjafnoaa
