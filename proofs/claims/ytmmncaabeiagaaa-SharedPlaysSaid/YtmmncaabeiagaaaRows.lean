/-
  No cell of these rows narrows 'for every input' (looked for: loops, veiled, ifaces, maps, wideKeys, modest, calm, conditions, laid).
  DERIVED. THE GIVEN ROWS OF THIS SEAT. 4 by the template 'for every input the law returns true; each argument reads behind the call as it read before'; 0 by the template 'total and deterministic' (their statements: YtmmncaabeiagaaaTotals.lean).
  GIVEN WITH THE SEED: the statements are not yours to turn. If you find one false, say at which input.
  Laid BY PROGRAM, IN A SANDBOX (cutbox-rows.mjs): the forced cells as the released guide's own fill.sh prints them over the translation 927751de592a0771… (all of the seat's roots in one cut). By AI agents, Wed Nov 11 2026. No macro, syntax, notation, axiom, sorry.
-/
import Derived.Test.YtmmncaabeiagaaaChecked
import GoSem.Claim
import GoSem.ClaimJoined
import GoSem.ClaimMapViews
import Derived.JoinedTies
import Derived.KernelRfl
namespace Go.Proofs.Ytmmncaabeiagaaa
/- THE CELL 'sum', in the pinned program and in every row, IS THE sha256 OF THE DUMP (.gsa) THAT YtmmncaabeiagaaaProg.lean LOADS. Nothing in Lean hashes anything: it is a label: what it is worth is what the hold of that sum in a sandbox is worth. -/
noncomputable def Try.pinned : Pinned := { name := "ytmmncaabeiagaaa", sum := "927751de592a07717a83b090f856b927a50be565efd5625309dcc8339844684b", checked := Try.checked }
namespace Rows
def none {H : Type} : Left H := { results := [], args := [] }

/-- 'kissgatelaw11.SharedAlone': WHATEVER THE INPUT: true; the input reads as it did. -/
def sharedAloneSpec : ChangeSpec := { name := "sharedAlone", fn := fun _ => fun
  | [d1, d2] => { results := [.lit (.bool true)], args := [d1, d2] }
  | _ => none }
def sharedAloneRow : OpenClaim := { program := "ytmmncaabeiagaaa", sum := "927751de592a07717a83b090f856b927a50be565efd5625309dcc8339844684b", func := "kissgate/kissgatelaw11.SharedAlone", spec := "sharedAlone", apart := false }
def SharedAloneSaid : Prop := sharedAloneRow.holds Try.pinned (OpenSpec.ofChange sharedAloneSpec)

/-- ITS FALSE NEIGHBOUR: 'it returns false'. Refute it at one input. -/
def sharedAloneWrong : ChangeSpec := { name := "sharedAlone", fn := fun _ => fun
  | [d1, d2] => { results := [.lit (.bool false)], args := [d1, d2] }
  | _ => none }
def SharedAloneWrongFalsely : Prop := sharedAloneRow.holds Try.pinned (OpenSpec.ofChange sharedAloneWrong)

/-- 'kissgatelaw11.SharedNone': WHATEVER THE INPUT: true; the input reads as it did. -/
def sharedNoneSpec : ChangeSpec := { name := "sharedNone", fn := fun _ => fun
  | [d1, d2] => { results := [.lit (.bool true)], args := [d1, d2] }
  | _ => none }
def sharedNoneRow : OpenClaim := { program := "ytmmncaabeiagaaa", sum := "927751de592a07717a83b090f856b927a50be565efd5625309dcc8339844684b", func := "kissgate/kissgatelaw11.SharedNone", spec := "sharedNone", apart := false }
def SharedNoneSaid : Prop := sharedNoneRow.holds Try.pinned (OpenSpec.ofChange sharedNoneSpec)

/-- ITS FALSE NEIGHBOUR: 'it returns false'. Refute it at one input. -/
def sharedNoneWrong : ChangeSpec := { name := "sharedNone", fn := fun _ => fun
  | [d1, d2] => { results := [.lit (.bool false)], args := [d1, d2] }
  | _ => none }
def SharedNoneWrongFalsely : Prop := sharedNoneRow.holds Try.pinned (OpenSpec.ofChange sharedNoneWrong)

/-- 'kissgatelaw11.SharedPlain': WHATEVER THE INPUT: true; the input reads as it did. -/
def sharedPlainSpec : ChangeSpec := { name := "sharedPlain", fn := fun _ => fun
  | [d1, d2] => { results := [.lit (.bool true)], args := [d1, d2] }
  | _ => none }
def sharedPlainRow : OpenClaim := { program := "ytmmncaabeiagaaa", sum := "927751de592a07717a83b090f856b927a50be565efd5625309dcc8339844684b", func := "kissgate/kissgatelaw11.SharedPlain", spec := "sharedPlain", apart := false }
def SharedPlainSaid : Prop := sharedPlainRow.holds Try.pinned (OpenSpec.ofChange sharedPlainSpec)

/-- ITS FALSE NEIGHBOUR: 'it returns false'. Refute it at one input. -/
def sharedPlainWrong : ChangeSpec := { name := "sharedPlain", fn := fun _ => fun
  | [d1, d2] => { results := [.lit (.bool false)], args := [d1, d2] }
  | _ => none }
def SharedPlainWrongFalsely : Prop := sharedPlainRow.holds Try.pinned (OpenSpec.ofChange sharedPlainWrong)

/-- 'kissgatelaw11.SharedPlays': WHATEVER THE INPUT: true; the input reads as it did. -/
def sharedPlaysSpec : ChangeSpec := { name := "sharedPlays", fn := fun _ => fun
  | [d1, d2, d3] => { results := [.lit (.bool true)], args := [d1, d2, d3] }
  | _ => none }
def sharedPlaysRow : OpenClaim := { program := "ytmmncaabeiagaaa", sum := "927751de592a07717a83b090f856b927a50be565efd5625309dcc8339844684b", func := "kissgate/kissgatelaw11.SharedPlays", spec := "sharedPlays", apart := false }
def SharedPlaysSaid : Prop := sharedPlaysRow.holds Try.pinned (OpenSpec.ofChange sharedPlaysSpec)

/-- ITS FALSE NEIGHBOUR: 'it returns false'. Refute it at one input. -/
def sharedPlaysWrong : ChangeSpec := { name := "sharedPlays", fn := fun _ => fun
  | [d1, d2, d3] => { results := [.lit (.bool false)], args := [d1, d2, d3] }
  | _ => none }
def SharedPlaysWrongFalsely : Prop := sharedPlaysRow.holds Try.pinned (OpenSpec.ofChange sharedPlaysWrong)

/- THE SECOND FORM. 'bulk': how many values and letters a reading holds, each counted each time it is reached (what is shared counts as often as it is met; a slice's spare places count too). A statement '..UptoSaid' is the law's where the arguments, and the package variables that the reading takes, are together of bulk at most 1048576: NARROWER than '..Said'. Prove '..Said' where nothing that the law and all that it calls make is longer than what came in: it says more and counts as full. Else prove '..UptoSaid'. A law counts once. -/
mutual
def uptoBulk {H : Type} : DataW H → Nat
  | .lit (.string bytes) => bytes.length + 1
  | .lit _ => 1
  | .nil => 1
  | .ptr d => uptoBulk d + 1
  | .slice elems spare => uptoBulkAll elems + uptoBulkAll spare + 1
  | .agg parts => uptoBulkAll parts + 1
  | .iface _ d => uptoBulk d + 1
  | .map entries => uptoBulkEntries entries + 1
  | .held _ => 1
def uptoBulkAll {H : Type} : List (DataW H) → Nat
  | [] => 0
  | d :: r => uptoBulk d + uptoBulkAll r
def uptoBulkEntries {H : Type} : List (Lit × DataW H) → Nat
  | [] => 0
  | x :: r => uptoBulkEntry x + uptoBulkEntries r
def uptoBulkEntry {H : Type} : Lit × DataW H → Nat
  | (.string bytes, d) => bytes.length + uptoBulk d + 1
  | (_, d) => uptoBulk d + 1
 end
def uptoSmall : (H : Type) → List (DataW H) → Bool := fun _ ds => decide (uptoBulkAll ds ≤ 1048576)
def OpenSpec.upto (s : _root_.Go.ChangeSpec) : _root_.Go.OpenSpec := { _root_.Go.OpenSpec.ofChange s with cond := some uptoSmall }

/-- 'kissgatelaw11.SharedAlone', WHERE WHAT IT READS IS OF BULK AT MOST 1048576: true; the input reads as it did. -/
def sharedAloneUptoRow : OpenClaim := { program := "ytmmncaabeiagaaa", sum := "927751de592a07717a83b090f856b927a50be565efd5625309dcc8339844684b", func := "kissgate/kissgatelaw11.SharedAlone", spec := "sharedAlone", apart := false, narrowed := true }
def SharedAloneUptoSaid : Prop := sharedAloneUptoRow.holds Try.pinned (OpenSpec.upto sharedAloneSpec)

/-- 'kissgatelaw11.SharedNone', WHERE WHAT IT READS IS OF BULK AT MOST 1048576: true; the input reads as it did. -/
def sharedNoneUptoRow : OpenClaim := { program := "ytmmncaabeiagaaa", sum := "927751de592a07717a83b090f856b927a50be565efd5625309dcc8339844684b", func := "kissgate/kissgatelaw11.SharedNone", spec := "sharedNone", apart := false, narrowed := true }
def SharedNoneUptoSaid : Prop := sharedNoneUptoRow.holds Try.pinned (OpenSpec.upto sharedNoneSpec)

/-- 'kissgatelaw11.SharedPlain', WHERE WHAT IT READS IS OF BULK AT MOST 1048576: true; the input reads as it did. -/
def sharedPlainUptoRow : OpenClaim := { program := "ytmmncaabeiagaaa", sum := "927751de592a07717a83b090f856b927a50be565efd5625309dcc8339844684b", func := "kissgate/kissgatelaw11.SharedPlain", spec := "sharedPlain", apart := false, narrowed := true }
def SharedPlainUptoSaid : Prop := sharedPlainUptoRow.holds Try.pinned (OpenSpec.upto sharedPlainSpec)

/-- 'kissgatelaw11.SharedPlays', WHERE WHAT IT READS IS OF BULK AT MOST 1048576: true; the input reads as it did. -/
def sharedPlaysUptoRow : OpenClaim := { program := "ytmmncaabeiagaaa", sum := "927751de592a07717a83b090f856b927a50be565efd5625309dcc8339844684b", func := "kissgate/kissgatelaw11.SharedPlays", spec := "sharedPlays", apart := false, narrowed := true }
def SharedPlaysUptoSaid : Prop := sharedPlaysUptoRow.holds Try.pinned (OpenSpec.upto sharedPlaysSpec)

end Rows
end Go.Proofs.Ytmmncaabeiagaaa
