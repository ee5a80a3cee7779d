/- The document's Do and Check. -/
import Derived.Test.YtmmncaabeiagaaaURef
import Derived.Deep.RegionHeld3
namespace Go.Proofs.Ytmmncaabeiagaaa
open Go.RowKit
set_option maxRecDepth 100000

section
variable {w : World} {v : Value} {l : List Ev} {k t c : Int} {r : Bool}
/-- What the document's Do owes. -/
def RDone (n : Int) (l : List Ev) (e : Ev) (w : World) (x : Ending) (w' : World) : Prop := x = .returned (.int .i64 (dof (ats (um n) l) e)) ∧ Kept Nil w w'
theorem RDone.tell {n x : Int} {l : List Ev} {e : Ev} {w w' : World} (h : dof (ats (um n) l) e = x) (k : Kept Nil w w') : RDone n l e w (.returned (.int .i64 x)) w' := ⟨by rw [h], k⟩
theorem quiet_some {n : Int} {w : World} {q : Nat} (h : ∀ W, Calls Try.prog 27 #[.int .i64 n] W fun e w' => e = .returned (.int .i64 (um n)) ∧ W = w') :
    Calls Try.prog 27 #[.int .i64 n] (w.drewN q) fun e w' => e = .returned (.int .i64 (um n)) ∧ ∃ m, w' = w.drewN m := (h _).mono fun _ _ ⟨h1, h2⟩ => ⟨h1, q, h2.symm⟩
set_option maxHeartbeats 1000000
end
end Go.Proofs.Ytmmncaabeiagaaa
