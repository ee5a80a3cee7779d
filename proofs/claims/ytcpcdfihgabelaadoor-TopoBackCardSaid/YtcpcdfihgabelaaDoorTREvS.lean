/- The document's Even while it grows: a topology in a box whose rows grow, beside the result's box. -/
import Derived.Test.YtcpcdfihgabelaaDoorTEven
namespace Go.Proofs.YtcpcdfihgabelaaDoor
open Go.RowKit
set_option maxRecDepth 100000

/-- The parents grow. -/
structure EvP (w W : World) (b bt : Nat) (A : Option Addr) (c : Nat) (L : List Int) : Prop where
  row : Gr w W A c L
  ib : Is W b 24 #[.slice none 0 0, .slice none 0 0]
  it : Is W bt 24 #[.slice A L.length c, .slice none 0 0]
  hb : w.heap.size ≤ b
  hbt : w.heap.size ≤ bt
  ne : b ≠ bt
/-- The threads grow. -/
structure EvT (w W : World) (b bt : Nat) (A1 : Option Addr) (c1 : Nat) (P : List Int) (A : Option Addr) (c : Nat) (L : List Int) : Prop where
  par : Gr w W A1 c1 P
  row : Gr w W A c L
  ib : Is W b 24 #[.slice none 0 0, .slice none 0 0]
  it : Is W bt 24 #[.slice A1 P.length c1, .slice A L.length c]
  hb : w.heap.size ≤ b
  hbt : w.heap.size ≤ bt
  ne : b ≠ bt
  dis : ∀ g, In A1 g → ¬ In A g

section
variable {w W w' : World} {b bt : Nat} {A A1 : Option Addr} {c c1 : Nat} {L P : List Int} {v' : Value} {x : Int} {o : Obj}
theorem EvP.push (h : EvP w W b bt A c L) (hr : w'.ownsRow 0 3 1 v' (L.length + 1) (L.map (Value.int .i64) ++ [.int .i64 x])) (hg : (W.alloc o).grownBy w' (Value.slice A L.length c).ownBlock)
    (hat : v'.ownBlock = (Value.slice A L.length c).ownBlock ∨ v'.ownBlock = some (W.alloc o).heap.size) :
    ∃ A' c', v' = .slice A' (L.length + 1) c' ∧ Is w' bt 24 #[.slice A L.length c, .slice none 0 0] ∧ Is w' b 24 #[.slice none 0 0, .slice none 0 0] ∧ EvP w (w'.setCell ⟨bt, 0, none⟩ (.slice A' (L.length + 1) c')) b bt A' c' (L ++ [x]) := by
  obtain ⟨A2, c2, e2, hgr⟩ := h.row.push hr hg hat
  obtain ⟨A3, c3, e3, _, hk, hin⟩ := Row.push (w := W.alloc o) (w' := w') (l := L) (A := A) (c := c) (v' := v') (x := x) hr hg hat
  rw [e2] at e3
  injection e3 with e3 _ e5
  subst e3 e5
  have nb := h.row.row.ne h.ib (by decide)
  have nt := h.row.row.ne h.it (by decide)
  have i1 := (h.ib.alloc o).kept hk nb
  have i2 := (h.it.alloc o).kept hk nt
  have lt := h.it.lt
  refine ⟨A2, c2, e2, i2, i1, ⟨hgr.set (p := ⟨bt, 0, none⟩) h.hbt (fun hz => ?_) _, i1.other (p := ⟨bt, 0, none⟩) h.ne _, ?_, h.hb, h.hbt, h.ne⟩⟩
  · rcases hin bt hz with e | e
    · exact nt e
    · simp at e
      omega
  · have := i2.set 0 (.slice A2 (L.length + 1) c2)
    rw [show (L ++ [x]).length = L.length + 1 by simp]
    exact this
theorem EvT.push (h : EvT w W b bt A1 c1 P A c L) (hr : w'.ownsRow 0 3 1 v' (L.length + 1) (L.map (Value.int .i64) ++ [.int .i64 x])) (hg : (W.alloc o).grownBy w' (Value.slice A L.length c).ownBlock)
    (hat : v'.ownBlock = (Value.slice A L.length c).ownBlock ∨ v'.ownBlock = some (W.alloc o).heap.size) :
    ∃ A' c', v' = .slice A' (L.length + 1) c' ∧ Is w' bt 24 #[.slice A1 P.length c1, .slice A L.length c] ∧ Is w' b 24 #[.slice none 0 0, .slice none 0 0] ∧ EvT w (w'.setCell ⟨bt, 1, none⟩ (.slice A' (L.length + 1) c')) b bt A1 c1 P A' c' (L ++ [x]) := by
  obtain ⟨A2, c2, e2, hgr⟩ := h.row.push hr hg hat
  obtain ⟨A3, c3, e3, _, hk, hin⟩ := Row.push (w := W.alloc o) (w' := w') (l := L) (A := A) (c := c) (v' := v') (x := x) hr hg hat
  rw [e2] at e3
  injection e3 with e3 _ e5
  subst e3 e5
  have nb := h.row.row.ne h.ib (by decide)
  have nt := h.row.row.ne h.it (by decide)
  have np := h.par.row.ne h.it (by decide)
  have i1 := (h.ib.alloc o).kept hk nb
  have i2 := (h.it.alloc o).kept hk nt
  have lt := h.it.lt
  have hpar : Gr w w' A1 c1 P := ⟨(h.par.row.alloc o).kept hk h.dis, hgr.kept, h.par.own⟩
  refine ⟨A2, c2, e2, i2, i1, ⟨hpar.set (p := ⟨bt, 1, none⟩) h.hbt np _, hgr.set (p := ⟨bt, 1, none⟩) h.hbt (fun hz => ?_) _, i1.other (p := ⟨bt, 1, none⟩) h.ne _, ?_, h.hb, h.hbt, h.ne, fun g h1 h2 => ?_⟩⟩
  · rcases hin bt hz with e | e
    · exact nt e
    · simp at e
      omega
  · have := i2.set 1 (.slice A2 (L.length + 1) c2)
    rw [show (L ++ [x]).length = L.length + 1 by simp]
    exact this
  · rcases hin g h2 with e | e
    · exact h.dis g h1 e
    · have := h.par.row.lt h1
      simp at e
      omega
theorem EvP.start {w0 : World} {b : Nat} (hb : w.heap.size ≤ b) (hi : Is w0 b 24 #[.slice none 0 0, .slice none 0 0]) (hk : Kept Nil w w0) (x : Int) :
    EvP w ((w0.alloc (.cells #[.int .i64 x] 3)).alloc (.cells #[.slice (some ⟨w0.heap.size, 0, none⟩) 1 1, .slice none 0 0] 24)) b (w0.heap.size + 1) (some ⟨w0.heap.size, 0, none⟩) 1 [x] := by
  have hlt := hi.lt
  have hs := hk.size
  refine ⟨((Gr.one w0 x).since hk).keep ((Kept.refl _ _).alloc _), (hi.alloc _).alloc _, ?_, hb, by omega, by omega⟩
  have := Is.new (w0.alloc (.cells #[.int .i64 x] 3)) 24 #[.slice (some ⟨w0.heap.size, 0, none⟩) 1 1, .slice none 0 0]
  simpa using this
theorem EvP.threads (h : EvP w W b bt A c L) : EvT w W b bt A c L none 0 [] := ⟨h.row, ⟨Row.empty _, h.row.kept, fun g hg => by cases hg⟩, h.ib, h.it, h.hb, h.hbt, h.ne, fun g _ hg => by cases hg⟩
end
end Go.Proofs.YtcpcdfihgabelaaDoor
