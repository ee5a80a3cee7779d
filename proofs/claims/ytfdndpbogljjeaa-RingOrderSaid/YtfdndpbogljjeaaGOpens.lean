/- Arguments of the laws of layer 5: slices of ints, of bytes, of acts. -/
import Derived.Test.YtfdndpbogljjeaaShell
import Derived.Test.YtfdndpbogljjeaaGOrder
import Derived.Lib.SmallJoins
namespace Go.Proofs.Ytfdndpbogljjeaa
open Go.ChangeShapes Go.WideShapes Go.ChangeAt Go.RowKit Go.Deep

section
variable {H : Type} {enc : TypeId × Value → H} {P : Program} {W : World}
/-- A slice of numbers of one kind. -/
theorem open_row {t e : TypeId} {k : IntKind} {v : Value} {d : DataW H} {ps : List MemPlace} (ht : P.underlying t = some (.slice e)) (he : P.underlying e = some (.int k)) (hce : P.cellsOf e = 1)
    (hv : Value.okWide P W .any 0 t v) (h : DataW.Trod enc P W 0 (fun _ => true) true t v d ps) :
    ∃ (l : List Int) (A : Option Addr) (c : Nat), v = .slice A l.length c ∧ (∀ n ∈ l, (Lit.int k n).wf = true) ∧ (0 < l.length → ∃ g o, A = some ⟨g, o, none⟩ ∧ g < W.heap.size ∧ ∀ j, j < l.length → W.cell? ⟨g, o + j, none⟩ = some (.int k (l.getD j 0))) := by
  obtain ⟨A, len, cap, rfl⟩ := okWide_slice ht hv
  obtain ⟨fuel, hf⟩ := h
  rcases open_ints ht he hce hf with ⟨hcs, _⟩ | ⟨a, len', cap', zs, hcs, _, hl, _, hz, _, hc, hw⟩
  · simp [Value.cells] at hcs
    obtain ⟨rfl, rfl, rfl⟩ := hcs
    exact ⟨[], none, 0, rfl, by simp, fun h => absurd h (by simp)⟩
  · simp [Value.cells] at hcs
    obtain ⟨rfl, rfl, rfl⟩ := hcs
    simp only [if_true] at hz
    have hlen : (zs.take len).length = len := by rw [List.length_take]; omega
    refine ⟨zs.take len, some a, cap, by rw [hlen], fun n hn => hw n (List.mem_of_mem_take hn), fun hp => ?_⟩
    rw [hlen] at hp
    have h0 := hc 0 (by omega)
    obtain ⟨b, o, sp⟩ := a
    have hs : sp = none := by simpa [Addr.add] using World.cell?_spot h0
    subst hs
    refine ⟨b, o, rfl, ?_, fun j hj => ?_⟩
    · have := World.block_lt_of_cell? _ _ h0
      simpa [Addr.add] using this
    · rw [hlen] at hj
      have := hc j (by omega)
      rw [add_plain] at this
      rw [this]
      simp [List.getD, hj]
/-- A byte. -/
theorem u8_of {n : Int} (h : (Lit.int .u8 n).wf = true) : 0 ≤ n ∧ n ≤ 255 := by
  simp [Lit.wf, IntKind.min, IntKind.max, IntKind.signed, IntKind.bits] at h
  exact h
end

section
variable {H : Type} {enc : TypeId × Value → H} {W : World} {v : Value} {d : DataW H} {ps : List MemPlace}
theorem ints_arg (hv : Value.okWide Try.prog W .any 0 23 v) (h : DataW.Trod enc Try.prog W 0 (fun _ => true) true 23 v d ps) : ∃ (l : List Int) (A : Option Addr) (c : Nat), v = .slice A l.length c ∧ Nums W (.slice A l.length c) l := by
  obtain ⟨l, A, c, rfl, _, hc⟩ := open_row Try.underlying23 Try.underlying3 (by kernel_rfl) hv h
  exact ⟨l, A, c, rfl, A, c, rfl, hc⟩
theorem bytes_arg (hv : Value.okWide Try.prog W .any 0 39 v) (h : DataW.Trod enc Try.prog W 0 (fun _ => true) true 39 v d ps) : ∃ (l : List Int) (A : Option Addr) (c : Nat), v = .slice A l.length c ∧ Bytes W (.slice A l.length c) l := by
  obtain ⟨l, A, c, rfl, hw, hc⟩ := open_row Try.underlying39 Try.underlying5 (by kernel_rfl) hv h
  refine ⟨l, A, c, rfl, A, c, rfl, fun hp => ?_⟩
  obtain ⟨g, o, e, hg, hj⟩ := hc hp
  refine ⟨g, o, e, hg, fun k hk => ⟨hj k hk, ?_⟩⟩
  have hm : l.getD k 0 ∈ l := by
    rw [List.getD_eq_getElem?_getD, List.getElem?_eq_getElem hk]
    exact List.getElem_mem hk
  exact u8_of (hw _ hm)
end
end Go.Proofs.Ytfdndpbogljjeaa
