/-
  No cell of these rows narrows 'for every input' (looked for: loops, veiled, ifaces, maps, wideKeys, modest, calm, conditions, laid).
  DERIVED. THE GIVEN ROWS OF THIS SEAT. 3 by the template 'for every input the law returns true; each argument reads behind the call as it read before'; 0 by the template 'total and deterministic' (their statements: YtefcjlacjafnoaaTotals.lean).
  GIVEN WITH THE SEED: the statements are not yours to turn. If you find one false, say at which input.
  Laid BY PROGRAM, IN A SANDBOX (cutbox-rows.mjs): the forced cells as the released guide's own fill.sh prints them over the translation 512c0686ab7f424e… (all of the seat's roots in one cut). By AI agents, Wed Nov 11 2026. No macro, syntax, notation, axiom, sorry.
-/
import Derived.Test.YtefcjlacjafnoaaChecked
import GoSem.Claim
import GoSem.ClaimJoined
import GoSem.ClaimMapViews
import Derived.JoinedTies
import Derived.KernelRfl
namespace Go.Proofs.Ytefcjlacjafnoaa
/- THE CELL 'sum', in the pinned program and in every row, IS THE sha256 OF THE DUMP (.gsa) THAT YtefcjlacjafnoaaProg.lean LOADS. Nothing in Lean hashes anything: it is a label: what it is worth is what the hold of that sum in a sandbox is worth. -/
noncomputable def Try.pinned : Pinned := { name := "ytefcjlacjafnoaa", sum := "512c0686ab7f424e50538d2fe113c5ed70eeee7d94e91b29575130360522ebe8", checked := Try.checked }
namespace Rows
def none {H : Type} : Left H := { results := [], args := [] }

/-- 'kissgatelaw14.BypassAdds': WHATEVER THE INPUT: true; the input reads as it did. -/
def bypassAddsSpec : ChangeSpec := { name := "bypassAdds", fn := fun _ => fun
  | [d1, d2, d3] => { results := [.lit (.bool true)], args := [d1, d2, d3] }
  | _ => none }
def bypassAddsRow : OpenClaim := { program := "ytefcjlacjafnoaa", sum := "512c0686ab7f424e50538d2fe113c5ed70eeee7d94e91b29575130360522ebe8", func := "kissgate/kissgatelaw14.BypassAdds", spec := "bypassAdds", unfollowed := true, recurses := true, apart := false }
def BypassAddsSaid : Prop := bypassAddsRow.holds Try.pinned (OpenSpec.ofChange bypassAddsSpec)

/-- ITS FALSE NEIGHBOUR: 'it returns false'. Refute it at one input. -/
def bypassAddsWrong : ChangeSpec := { name := "bypassAdds", fn := fun _ => fun
  | [d1, d2, d3] => { results := [.lit (.bool false)], args := [d1, d2, d3] }
  | _ => none }
def BypassAddsWrongFalsely : Prop := bypassAddsRow.holds Try.pinned (OpenSpec.ofChange bypassAddsWrong)

/-- 'kissgatelaw14.BypassFifo': WHATEVER THE INPUT: true; the input reads as it did. -/
def bypassFifoSpec : ChangeSpec := { name := "bypassFifo", fn := fun _ => fun
  | [d] => { results := [.lit (.bool true)], args := [d] }
  | _ => none }
def bypassFifoRow : OpenClaim := { program := "ytefcjlacjafnoaa", sum := "512c0686ab7f424e50538d2fe113c5ed70eeee7d94e91b29575130360522ebe8", func := "kissgate/kissgatelaw14.BypassFifo", spec := "bypassFifo", unfollowed := true, recurses := true, apart := false }
def BypassFifoSaid : Prop := bypassFifoRow.holds Try.pinned (OpenSpec.ofChange bypassFifoSpec)

/-- ITS FALSE NEIGHBOUR: 'it returns false'. Refute it at one input. -/
def bypassFifoWrong : ChangeSpec := { name := "bypassFifo", fn := fun _ => fun
  | [d] => { results := [.lit (.bool false)], args := [d] }
  | _ => none }
def BypassFifoWrongFalsely : Prop := bypassFifoRow.holds Try.pinned (OpenSpec.ofChange bypassFifoWrong)

/-- 'kissgatelaw14.BypassSays': WHATEVER THE INPUT: true; the input reads as it did. -/
def bypassSaysSpec : ChangeSpec := { name := "bypassSays", fn := fun _ => fun
  | [d1, d2, d3] => { results := [.lit (.bool true)], args := [d1, d2, d3] }
  | _ => none }
def bypassSaysRow : OpenClaim := { program := "ytefcjlacjafnoaa", sum := "512c0686ab7f424e50538d2fe113c5ed70eeee7d94e91b29575130360522ebe8", func := "kissgate/kissgatelaw14.BypassSays", spec := "bypassSays", unfollowed := true, recurses := true, apart := false }
def BypassSaysSaid : Prop := bypassSaysRow.holds Try.pinned (OpenSpec.ofChange bypassSaysSpec)

/-- ITS FALSE NEIGHBOUR: 'it returns false'. Refute it at one input. -/
def bypassSaysWrong : ChangeSpec := { name := "bypassSays", fn := fun _ => fun
  | [d1, d2, d3] => { results := [.lit (.bool false)], args := [d1, d2, d3] }
  | _ => none }
def BypassSaysWrongFalsely : Prop := bypassSaysRow.holds Try.pinned (OpenSpec.ofChange bypassSaysWrong)

/- THE SECOND FORM. 'bulk': how many values and letters a reading holds, each counted each time it is reached (what is shared counts as often as it is met; a slice's spare places count too). A statement '..UptoSaid' is the law's where the arguments, and the package variables that the reading takes, are together of bulk at most 1048576: NARROWER than '..Said'. Prove '..Said' where nothing that the law and all that it calls make is longer than what came in: it says more and counts as full. Else prove '..UptoSaid'. A law counts once. -/
mutual
def uptoBulk {H : Type} : DataW H → Nat
  | .lit (.string bytes) => bytes.length + 1
  | .lit _ => 1
  | .nil => 1
  | .ptr d => uptoBulk d + 1
  | .slice elems spare => uptoBulkAll elems + uptoBulkAll spare + 1
  | .agg parts => uptoBulkAll parts + 1
  | .iface _ d => uptoBulk d + 1
  | .map entries => uptoBulkEntries entries + 1
  | .held _ => 1
def uptoBulkAll {H : Type} : List (DataW H) → Nat
  | [] => 0
  | d :: r => uptoBulk d + uptoBulkAll r
def uptoBulkEntries {H : Type} : List (Lit × DataW H) → Nat
  | [] => 0
  | x :: r => uptoBulkEntry x + uptoBulkEntries r
def uptoBulkEntry {H : Type} : Lit × DataW H → Nat
  | (.string bytes, d) => bytes.length + uptoBulk d + 1
  | (_, d) => uptoBulk d + 1
 end
def uptoSmall : (H : Type) → List (DataW H) → Bool := fun _ ds => decide (uptoBulkAll ds ≤ 1048576)
def OpenSpec.upto (s : _root_.Go.ChangeSpec) : _root_.Go.OpenSpec := { _root_.Go.OpenSpec.ofChange s with cond := some uptoSmall }

/-- 'kissgatelaw14.BypassAdds', WHERE WHAT IT READS IS OF BULK AT MOST 1048576: true; the input reads as it did. -/
def bypassAddsUptoRow : OpenClaim := { program := "ytefcjlacjafnoaa", sum := "512c0686ab7f424e50538d2fe113c5ed70eeee7d94e91b29575130360522ebe8", func := "kissgate/kissgatelaw14.BypassAdds", spec := "bypassAdds", unfollowed := true, recurses := true, apart := false, narrowed := true }
def BypassAddsUptoSaid : Prop := bypassAddsUptoRow.holds Try.pinned (OpenSpec.upto bypassAddsSpec)

/-- 'kissgatelaw14.BypassFifo', WHERE WHAT IT READS IS OF BULK AT MOST 1048576: true; the input reads as it did. -/
def bypassFifoUptoRow : OpenClaim := { program := "ytefcjlacjafnoaa", sum := "512c0686ab7f424e50538d2fe113c5ed70eeee7d94e91b29575130360522ebe8", func := "kissgate/kissgatelaw14.BypassFifo", spec := "bypassFifo", unfollowed := true, recurses := true, apart := false, narrowed := true }
def BypassFifoUptoSaid : Prop := bypassFifoUptoRow.holds Try.pinned (OpenSpec.upto bypassFifoSpec)

/-- 'kissgatelaw14.BypassSays', WHERE WHAT IT READS IS OF BULK AT MOST 1048576: true; the input reads as it did. -/
def bypassSaysUptoRow : OpenClaim := { program := "ytefcjlacjafnoaa", sum := "512c0686ab7f424e50538d2fe113c5ed70eeee7d94e91b29575130360522ebe8", func := "kissgate/kissgatelaw14.BypassSays", spec := "bypassSays", unfollowed := true, recurses := true, apart := false, narrowed := true }
def BypassSaysUptoSaid : Prop := bypassSaysUptoRow.holds Try.pinned (OpenSpec.upto bypassSaysSpec)

end Rows
end Go.Proofs.Ytefcjlacjafnoaa
