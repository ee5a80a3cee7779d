/- What the statements of layer 8 share: a world with the two tables of unicode/utf8, an argument that is a row of picks. -/
import Derived.Test.YtoegnnhnfkecoaaDoorCards
import Derived.Test.YtoegnnhnfkecoaaDoorTie
import Derived.Test.YtoegnnhnfkecoaaDoorShell
import Derived.Test.YtoegnnhnfkecoaaDoorKRow
import Derived.Deep.DeepHandedRow
import Derived.Lay
import Derived.LaidOnce
import Derived.ChangeMaps5
import Derived.SevenTiedAt
namespace Go.Proofs.YtoegnnhnfkecoaaDoor
open Go.ChangeShapes Go.WideShapes Go.ChangeAt Go.RowKit Go.Deep

theorem cells_int : Tryd.prog.cellsOf 3 = 1 := by kernel_rfl

/-- A world for the witnesses: the two tables hold what the library lays. -/
noncomputable def laidWorld (os : Os) : World := World.laidAll Tryd.prog os Rows.pickSaysRow.laid
theorem witness_at {H : Type} {enc : TypeId × Value → H} {os : Os} {f : FuncId} {fn : Func} {s : OpenSpec} {laid : List (String × DataW Unit)} (args : Array Value)
    (hsh : ((laidWorld os).forCall (fun _ _ => 0) ⟨#[], args, []⟩).Shaped Tryd.checked.prog)
    (hok : Input.okWideB Tryd.checked.prog ((laidWorld os).forCall (fun _ _ => 0) ⟨#[], args, []⟩) f ⟨#[], args, []⟩ = true)
    (hrow : s.preRow enc Tryd.checked.prog fn [] false laid ((laidWorld os).forCall (fun _ _ => 0) ⟨#[], args, []⟩).memory args) :
    ∃ (w : World) (tape : Tape) (i : Input), w.os = os ∧ (w.forCall tape i).Shaped Tryd.checked.prog ∧ i.vars = [] ∧ Input.okWide Tryd.checked.prog (w.forCall tape i) .any w.heap.size f i ∧
      s.preRow enc Tryd.checked.prog fn [] false laid (w.forCall tape i).memory i.args ∧ ({ modest := false } : Assume).holds Tryd.checked.prog (lone (Frame.enter Tryd.checked.prog f i.args .normal) [] (w.forCall tape i)) :=
  ⟨laidWorld os, fun _ _ => 0, ⟨#[], args, []⟩, World.laidAll_os _ _ _, hsh, (Input.okWide_of_okWideB (base := 0) hok).1, (Input.okWide_of_okWideB hok).2, hrow, by
    simp only [Assume.holds]
    exact ⟨by simp, by simp, by simp, by simp, by simp⟩⟩

section
variable {H : Type} {enc : TypeId × Value → H} {P : Program} {W W' : World}
/-- A slice of structs whose fields are ints, each of one cell: field j of element i holds F i j. -/
theorem open_structs_cap {t e : TypeId} {fs : Array Field} {v : Value} {d : DataW H} {ps : List MemPlace} (ht : P.underlying t = some (.slice e)) (he : P.underlying e = some (.struct fs)) (hone : oneCellFields P fs = true) (hC : P.cellsOf e = fs.size) (h0 : 0 < fs.size)
    (hint : intFields P fs = true) (hv : Value.okWide P W .any 0 t v) (h : DataW.Trod enc P W 0 (fun _ => true) true t v d ps) :
    ∃ (A : Option Addr) (len cap : Nat) (F : Nat → Nat → Int), v = .slice A len cap ∧ len ≤ cap ∧ (0 < len → ∃ b o, A = some ⟨b, o, none⟩ ∧ b < W.heap.size ∧ ∀ i, i < len → ∀ j, j < fs.size → W.cell? ⟨b, o + (i * fs.size + j), none⟩ = some (.int .i64 (F i j)) ∧ (Lit.int .i64 (F i j)).wf = true) := by
  obtain ⟨A, len, cap, rfl⟩ := okWide_slice ht hv
  obtain ⟨fuel, hf⟩ := h
  rcases open_slice ht hf with ⟨hcs, _⟩ | ⟨a, len', cap', m, n, D, Pl, hcs, _, hl, _, hm, _, hi⟩
  · simp [Value.cells] at hcs
    obtain ⟨rfl, rfl, rfl⟩ := hcs
    exact ⟨none, 0, 0, fun _ _ => 0, rfl, Nat.le_refl _, fun h => absurd h (by omega)⟩
  · simp [Value.cells] at hcs
    obtain ⟨rfl, rfl, rfl⟩ := hcs
    simp only [if_true] at hm
    rw [hm] at hi
    have key : ∀ x : Nat × Nat, ∃ y : Int, x.1 < len → x.2 < fs.size → W.cell? (a.add (x.1 * fs.size + x.2)) = some (.int .i64 y) ∧ (Lit.int .i64 y).wf = true := by
      rintro ⟨i, j⟩
      by_cases hij : i < len ∧ j < fs.size
      · obtain ⟨hil, hjl⟩ := hij
        obtain ⟨cs', hc, ht'⟩ := hi i (by omega)
        rw [hC] at hc
        obtain ⟨ys, n', _, _, hlen, hyl, hfd⟩ := DataW.trod_struct he ht'
        obtain ⟨_, hcl, hat⟩ := World.cells?_some hc
        have hj : fs[j]? = some fs[j] := Array.getElem?_eq_getElem hjl
        obtain ⟨ho, hk⟩ := hone_of hone j _ hj
        have h1 := hfd j _ hj
        rw [ho, hk, List.drop_eq_getElem_cons (by omega), List.take_succ_cons, List.take_zero, List.getElem?_eq_getElem (by omega)] at h1
        obtain ⟨y, hy, _, hw⟩ := DataW.trod_int (int_of hint j _ hj) h1
        injection hy with hy
        refine ⟨y, fun _ _ => ⟨?_, hw⟩⟩
        rw [← Go.Deep.add_add, hat j hjl, List.getElem?_eq_getElem (by omega), hy]
      · exact ⟨0, fun h1 h2 => absurd ⟨h1, h2⟩ hij⟩
    obtain ⟨F, hF⟩ := Classical.skolem.1 key
    refine ⟨some a, len, cap, fun i j => F (i, j), rfl, hl, fun hp => ?_⟩
    obtain ⟨b, o, sp⟩ := a
    have hs : sp = none := by simpa [Addr.add] using World.cell?_spot (hF (0, 0) hp h0).1
    subst hs
    refine ⟨b, o, rfl, ?_, fun i hi j hj => ?_⟩
    · have := World.block_lt_of_cell? _ _ (hF (0, 0) hp h0).1
      simpa [Addr.add] using this
    · have := hF (i, j) hi hj
      rw [add_plain] at this
      exact this
end
theorem int_inr {n : Int} (h : (Lit.int .i64 n).wf = true) : InR n := by
  simp [Lit.wf, IntKind.min, IntKind.max, IntKind.signed, IntKind.bits] at h
  unfold InR
  omega
theorem byte_of {m : Int} (h : (Lit.int .u8 m).wf = true) : ∃ c : UInt8, m = c.toNat := by
  simp [Lit.wf, IntKind.min, IntKind.max, IntKind.signed, IntKind.bits] at h
  refine ⟨UInt8.ofNat m.toNat, ?_⟩
  rw [UInt8.toNat_ofNat']
  omega
set_option maxRecDepth 100000 in
/-- An argument that is a row of picks. -/
theorem picks_of {H : Type} {enc : TypeId × Value → H} {W : World} {v : Value} {d : DataW H} {ps : List MemPlace} (hv : Value.okWide Tryd.prog W .any 0 22 v) (h : DataW.Trod enc Tryd.prog W 0 (fun _ => true) true 22 v d ps) :
    ∃ l : List Pk, Picks W v l ∧ ∀ p ∈ l, InR p.1 := by
  obtain ⟨A, len, cap, F, rfl, hlc, hF⟩ := open_structs_cap Tryd.underlying22 Tryd.underlying37 (by kernel_rfl) (by kernel_rfl) (by decide) (by kernel_rfl) hv h
  have hlen : ((List.range len).map fun i => ((F i 0, F i 1) : Pk)).length = len := by simp
  have hat : ∀ i, i < len → ((List.range len).map fun i => ((F i 0, F i 1) : Pk)).getD i (0, 0) = (F i 0, F i 1) := fun i hi => by simp [List.getD, hi]
  refine ⟨(List.range len).map fun i => (F i 0, F i 1), ⟨A, cap, by rw [hlen], by rw [hlen]; exact hlc, fun hp => ?_⟩, fun p hp => ?_⟩
  · rw [hlen] at hp
    obtain ⟨b, o, rfl, hb, hc⟩ := hF hp
    refine ⟨b, o, rfl, hb, fun i hi => ?_⟩
    rw [hlen] at hi
    rw [hat i hi]
    exact ⟨(hc i hi 0 (by decide)).1, by have := (hc i hi 1 (by decide)).1; rw [Nat.add_assoc]; exact this⟩
  · obtain ⟨i, hi, rfl⟩ := List.mem_map.1 hp
    have hi := List.mem_range.1 hi
    obtain ⟨b, o, _, _, hc⟩ := hF (by omega)
    exact int_inr (hc i hi 0 (by decide)).2

end Go.Proofs.YtoegnnhnfkecoaaDoor
