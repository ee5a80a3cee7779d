/- Package auto's Check, and the document's. -/
import Derived.Test.YtmmncaabeiagaaaUDo
import Derived.Test.YtmmncaabeiagaaaURDo
namespace Go.Proofs.Ytmmncaabeiagaaa
open Go.RowKit
set_option maxRecDepth 100000

theorem getD_ev (e : Ev) : e = ⟨e.k, e.t, e.r, e.c⟩ := rfl
section
variable {w : World} {v : Value} {l : List Ev}
set_option maxHeartbeats 1000000
end
end Go.Proofs.Ytmmncaabeiagaaa
