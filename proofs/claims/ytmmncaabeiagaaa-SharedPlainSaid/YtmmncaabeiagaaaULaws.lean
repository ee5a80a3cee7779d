/- The laws of layer 10: a lock and a row of events beside it; awake. -/
import Derived.Test.YtmmncaabeiagaaaUCheck
namespace Go.Proofs.Ytmmncaabeiagaaa
open Go.RowKit
set_option maxRecDepth 100000

/-- A lock of the law's own, laid since w0; nothing older than w0 has turned. -/
structure Uf (w0 w : World) (p : Option Addr) (g : Nat) (A : List Int) : Prop where
  lk : Lk w p g A
  kept : Kept Nil w0 w
  own : w0.heap.size ≤ g

section
variable {w0 w w' : World} {p : Option Addr} {g n c : Nat} {A : List Int} {R : Option Addr} {xs : List Value}
theorem Uf.keep (h : Uf w0 w p g A) (k : Kept Nil w w') : Uf w0 w' p g A := ⟨h.lk.keep k, h.kept.trans k (fun _ _ z => z), h.own⟩
/-- A row of events lies beside a lock. -/
theorem row_beside (h : w.ownsRow 0 29 4 (.slice R n c) n xs) {i : Nat} (hi : In R i) : ¬ OfL w i := by
  rintro ⟨t, cs, h1, h2⟩
  rcases h.2 with ⟨e, _⟩ | ⟨g', cap, cur', e, _, hh, _⟩
  · injection e with e1 _ _
    subst e1
    cases hi
  · injection e with e1 _ _
    subst e1
    injection hi with hi
    have hi : g' = i := hi
    subst hi
    have hh : Is w g' 29 cur' := hh
    rcases h2 with rfl | rfl
    · exact hh.ne h1 (by decide) rfl
    · exact hh.ne h1 (by decide) rfl
/-- A lock behind an append to a row of events. -/
theorem Uf.push (h : Uf w0 w p g A) (hr : Gw 29 4 w0 w R c n xs) (hg : w.grownBy w' (Value.slice R n c).ownBlock) : Uf w0 w' p g A := by
  have hob : ∀ (B : Option Addr) (n m : Nat), (Value.slice B n m).ownBlock = B.map (·.block) := fun B n m => by cases B <;> rfl
  refine ⟨h.lk.kept (Kept.of_grown hg) (fun i hi z => ?_), h.kept.trans (Kept.of_grown hg) (fun i hi z => ?_), h.own⟩
  · rw [hob] at z
    exact row_beside hr.row z hi
  · rw [hob] at z
    have := hr.own i z
    omega
set_option maxHeartbeats 1000000
theorem unewF (k : Kept Nil w0 w) (t : Int) : Calls Try.prog 14 #[.int .i64 t] w fun e w' => ∃ p g, e = .returned (.pointer p) ∧ Uf w0 w' p g (List.replicate (um t) 0) :=
  (unew_c w t).mono fun _ _ ⟨p, g, h1, h2, h3, h4⟩ => ⟨p, g, h1, h2, k.trans h3 (fun _ _ z => z), Nat.le_trans k.size h4⟩
theorem udoF (e : Ev) (h : Uf w0 w p g A) (hl : A.length ≤ 65536) : Calls Try.prog 15 #[.pointer p, .agg #[.int .i64 e.k, .int .i64 e.t, .bool e.r, .int .i64 e.c]] w fun x w' => x = .returned (.int .i64 (dof A e)) ∧ Uf w0 w' p g (mov A e) ∧ ∀ R c n xs, Gw 29 4 w0 w R c n xs → Gw 29 4 w0 w' R c n xs := by
  refine (udo_c e h.lk hl).mono ?_
  rintro x w' ⟨h1, h2, h3⟩
  have hk : Kept Nil w0 w' := h.kept.trans (S := Nil) h3 (fun i hi z => by have := h.own; omega)
  refine ⟨h1, ⟨h2, hk, h.own⟩, fun R c n xs hr => ⟨owns_keep hr.row h3 (fun i hi z => ?_), hk, hr.own⟩⟩
  obtain ⟨rfl, z⟩ := z
  rcases h.lk with ⟨_, rfl⟩ | ⟨b, q, cp, _, _, h5⟩
  · simp at z
  · exact row_beside hr.row hi ⟨_, _, (h5 z).2, .inr rfl⟩
theorem udoA {e : Ev} {x : Int} {B : List Int} (h : Uf w0 w p g A) (hl : A.length ≤ 65536) (hd : dof A e = x) (hm : mov A e = B) : Calls Try.prog 15 #[.pointer p, .agg #[.int .i64 e.k, .int .i64 e.t, .bool e.r, .int .i64 e.c]] w fun z w' => z = .returned (.int .i64 x) ∧ Uf w0 w' p g B :=
  (udoF e h hl).mono fun z w' ⟨h1, h2, _⟩ => ⟨by rw [h1, hd], by rw [← hm]; exact h2⟩
theorem uevs (w : World) : Evs (w.alloc (.cells #[.int .i64 1, .int .i64 0, .bool false, .int .i64 0, .int .i64 3, .int .i64 0, .bool false, .int .i64 0] 29)) (.slice (some ⟨w.heap.size, 0, none⟩) 2 2) [⟨1, 0, false, 0⟩, ⟨3, 0, false, 0⟩] :=
  Is.evs (l := [⟨1, 0, false, 0⟩, ⟨3, 0, false, 0⟩]) (Is.new w _ _)
end
end Go.Proofs.Ytmmncaabeiagaaa
