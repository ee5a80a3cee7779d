/- What the four statements of layer 6 share. -/
import Derived.Test.YtcpcdfihgabelaaDoorCards
import Derived.Test.YtcpcdfihgabelaaDoorTie
import Derived.Test.YtcpcdfihgabelaaDoorShell
import Derived.Test.YtcpcdfihgabelaaDoorOpens
import Derived.Test.YtcpcdfihgabelaaDoorDNumbers
import Derived.Test.YtcpcdfihgabelaaDoorTIsTree
import Derived.Lib.SmallJoins
import Derived.Deep.DeepHandedRow
import Derived.Lay
import Derived.LaidOnce
import Derived.ChangeMaps5
import Derived.SevenTiedAt
namespace Go.Proofs.YtcpcdfihgabelaaDoor
open Go.ChangeShapes Go.WideShapes Go.ChangeAt Go.RowKit Go.Deep Go.Joins

theorem cells_int : Tryd.prog.cellsOf 3 = 1 := by kernel_rfl
theorem maxl_of {W : World} (h : W.ShapedOpen Tryd.prog) : MaxL W := Tryd.laysM146.s1_3 W h

/-- A world for the witnesses: the two tables hold what the library lays. -/
noncomputable def laidWorld (os : Os) : World := World.laidAll Tryd.prog os Rows.topoEvenRow.laid
theorem witness_at {H : Type} {enc : TypeId × Value → H} {os : Os} {f : FuncId} {fn : Func} {s : OpenSpec} {laid : List (String × DataW Unit)} (args : Array Value)
    (hsh : ((laidWorld os).forCall (fun _ _ => 0) ⟨#[], args, []⟩).Shaped Tryd.checked.prog)
    (hok : Input.okWideB Tryd.checked.prog ((laidWorld os).forCall (fun _ _ => 0) ⟨#[], args, []⟩) f ⟨#[], args, []⟩ = true)
    (hrow : s.preRow enc Tryd.checked.prog fn [] false laid ((laidWorld os).forCall (fun _ _ => 0) ⟨#[], args, []⟩).memory args) :
    ∃ (w : World) (tape : Tape) (i : Input), w.os = os ∧ (w.forCall tape i).Shaped Tryd.checked.prog ∧ i.vars = [] ∧ Input.okWide Tryd.checked.prog (w.forCall tape i) .any w.heap.size f i ∧
      s.preRow enc Tryd.checked.prog fn [] false laid (w.forCall tape i).memory i.args ∧ ({ modest := false } : Assume).holds Tryd.checked.prog (lone (Frame.enter Tryd.checked.prog f i.args .normal) [] (w.forCall tape i)) :=
  ⟨laidWorld os, fun _ _ => 0, ⟨#[], args, []⟩, World.laidAll_os _ _ _, hsh, (Input.okWide_of_okWideB (base := 0) hok).1, (Input.okWide_of_okWideB hok).2, hrow, by
    simp only [Assume.holds]
    exact ⟨by simp, by simp, by simp, by simp, by simp⟩⟩

/-- A field that is a slice of ints. -/
theorem open_nums_field {H : Type} {enc : TypeId × Value → H} {P : Program} {W : World} {t e : TypeId} {v : Value} {n : Nat} {y : DataW H × List MemPlace} (ht : P.underlying t = some (.slice e)) (he : P.underlying e = some (.int .i64)) (hce : P.cellsOf e = 1)
    (hf : DataW.trod enc P W 0 (fun _ => true) true n t [v] = some y) : ∃ l : List Int, Nums W v l ∧ ∀ n ∈ l, InR n := by
  obtain ⟨d, ps⟩ := y
  rcases open_ints ht he hce hf with ⟨hcs, _⟩ | ⟨a, len, cap, zs, hcs, _, hl, _, hz, _, hc, hw⟩
  · simp at hcs
    subst hcs
    exact ⟨[], Nums.nil _ _ _, by simp⟩
  · simp at hcs
    subst hcs
    simp only [if_true] at hz
    refine ⟨zs.take len, ?_, fun n hn => inr_of (hw n (List.mem_of_mem_take hn))⟩
    have hlen : (zs.take len).length = len := by rw [List.length_take]; omega
    refine ⟨some a, cap, by rw [hlen], fun hp => ?_⟩
    rw [hlen] at hp
    have h0 := hc 0 (by omega)
    obtain ⟨b, o, sp⟩ := a
    have hs : sp = none := by simpa [Addr.add] using World.cell?_spot h0
    subst hs
    refine ⟨b, o, rfl, ?_, fun k hk => ?_⟩
    · have := World.block_lt_of_cell? _ _ h0
      simpa [Addr.add] using this
    · rw [hlen] at hk
      have := hc k (by omega)
      rw [add_plain] at this
      rw [this]
      simp [List.getD, hk]
set_option maxRecDepth 100000 in
/-- An argument that is a topology. -/
theorem topo_of {H : Type} {enc : TypeId × Value → H} {W : World} {v : Value} {d : DataW H} {ps : List MemPlace} (hv : Value.okWide Tryd.prog W .any 0 24 v) (h : DataW.Trod enc Tryd.prog W 0 (fun _ => true) true 24 v d ps) :
    ∃ P T : List Int, Topo W v P T ∧ (∀ n ∈ P, InR n) ∧ ∀ n ∈ T, InR n := by
  obtain ⟨v0, v1, y0, y1, n, rfl, _, _, h0, h1⟩ := open_agg2 Tryd.underlying24 (by kernel_rfl) (by kernel_rfl) hv h
  obtain ⟨P, hP, rP⟩ := open_nums_field Tryd.underlying22 Tryd.underlying3 cells_int h0
  obtain ⟨T, hT, rT⟩ := open_nums_field Tryd.underlying22 Tryd.underlying3 cells_int h1
  exact ⟨P, T, ⟨v0, v1, rfl, hP, hT⟩, rP, rT⟩

end Go.Proofs.YtcpcdfihgabelaaDoor
