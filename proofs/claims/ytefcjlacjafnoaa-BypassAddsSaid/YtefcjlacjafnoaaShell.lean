/- What every law's proof shares: the arguments read behind the call as before it; arguments opened. -/
import Derived.Test.YtefcjlacjafnoaaRows
import Derived.Test.YtefcjlacjafnoaaMem
import Derived.ProofKit
import Derived.OpenShut
import Derived.SizedLaws
import Derived.Carry
import Derived.Deep.Slices
import Derived.Deep.Fields
namespace Go.Proofs.Ytefcjlacjafnoaa
open Go.ChangeShapes Go.WideShapes Go.ChangeAt Go.RowKit Go.Deep

theorem own : ownKnob Try.prog.godebug = none := by kernel_rfl
theorem laidOut : laidOutB Try.prog = true := by kernel_rfl

/-- Every field is an int. -/
def intFields (P : Program) (fs : Array Field) : Bool := (List.range fs.size).all fun i => match fs[i]? with
  | some f => (match P.underlying f.type with
    | some (.int .i64) => true
    | _ => false)
  | none => false
theorem int_of {P : Program} {fs : Array Field} (h : intFields P fs = true) : ∀ (j : Nat) (f : Field), fs[j]? = some f → P.underlying f.type = some (.int .i64) := by
  intro j f hj
  have hlt : j < fs.size := (Array.getElem?_eq_some_iff.1 hj).1
  have := List.all_eq_true.1 h j (List.mem_range.2 hlt)
  simp only [hj] at this
  split at this
  · assumption
  · cases this

section
variable {H : Type} {enc : TypeId × Value → H} {P : Program} {W W' : World}

/-- The arguments read behind the call as before it. -/
theorem all_stay (hl : laidOutB P = true) (hb : Below W.heap.size W W') : ∀ {ts : List TypeId} {vs : List Value} {ds : List (DataW H)} {ps : List MemPlace}, (∀ t ∈ ts, P.readableRec t = true ∧ t < P.types.size) →
    DataW.TrodAll enc P W 0 (fun _ => true) true ts vs ds ps → (∀ x ∈ ps, x.block < W.heap.size) → DataW.TrodAll enc P W' 0 (fun b => decide (b < W.heap.size)) true ts vs ds ps
  | [], _, _, _, _, h, _ => by
    obtain ⟨rfl, rfl, rfl⟩ := trodAll_nil h
    exact trodAll_mk0
  | _ :: _, _, _, _, ht, h, hx => by
    obtain ⟨v, vs1, d, ds1, a, b, rfl, rfl, rfl, h1, h2⟩ := trodAll_cons h
    have t1 := ht _ (List.mem_cons_self ..)
    exact ⟨a, b, Below.trod hl t1.1 t1.2 h1 hb (fun x hm => hx x (List.mem_append.2 (.inl hm))), all_stay hl hb (fun t hm => ht t (List.mem_cons_of_mem _ hm)) h2 (fun x hm => hx x (List.mem_append.2 (.inr hm))), rfl⟩

/-- WHAT A LAW OWES, ONCE IT HAS RETURNED true AND LEFT OLD MEMORY ALONE. -/
theorem law_post {f : Func} {s : ChangeSpec} {args : Array Value} {ds gs : List (DataW H)} {before : List MemPlace} (hl : laidOutB P = true)
    (hW : DataW.Whole enc P f.params.toList s.vars false W args.toList ds gs before) (hv : s.vars = []) (hr : f.resultTypes = #[4]) (hB : P.underlying 4 = some .bool)
    (hts : ∀ t ∈ f.params.toList, P.readableRec t = true ∧ t < P.types.size) (hs : s.fn H (ds ++ []) = { results := [.lit (.bool true)], args := ds }) (hb : Below W.heap.size W W') :
    s.post enc P f false true false false W args (.bool true) W' := by
  have hW2 := hW
  obtain ⟨p, q, hA, hV, rfl, _, _⟩ := hW
  rw [hv] at hV
  obtain ⟨rfl, rfl⟩ := trodVars_none hV
  refine ⟨ds, [], p ++ [], [], p, [], hW2, ?_, ?_, ?_, hb.frame _, fun h => by cases h⟩
  · rw [hs, hr]
    exact trodAll_mk1 (shut_bool hB _)
  · rw [hs]
    exact all_stay hl hb hts hA (fun x hx => hW2.lt x (List.mem_append.2 (.inl hx)))
  · rw [hs, hv]
    rfl

/-- A slice of structs whose fields are ints, each of one cell: field j of element i holds F i j. -/
theorem open_int_structs {t e : TypeId} {fs : Array Field} {v : Value} {d : DataW H} {ps : List MemPlace} (ht : P.underlying t = some (.slice e)) (he : P.underlying e = some (.struct fs)) (hone : oneCellFields P fs = true) (hC : P.cellsOf e = fs.size) (h0 : 0 < fs.size)
    (hint : intFields P fs = true) (hv : Value.okWide P W .any 0 t v) (h : DataW.Trod enc P W 0 (fun _ => true) true t v d ps) :
    ∃ (A : Option Addr) (len cap : Nat) (F : Nat → Nat → Int), v = .slice A len cap ∧ (0 < len → ∃ b o, A = some ⟨b, o, none⟩ ∧ b < W.heap.size ∧ ∀ i, i < len → ∀ j, j < fs.size → W.cell? ⟨b, o + (i * fs.size + j), none⟩ = some (.int .i64 (F i j)) ∧ (Lit.int .i64 (F i j)).wf = true) := by
  obtain ⟨A, len, cap, rfl⟩ := okWide_slice ht hv
  obtain ⟨fuel, hf⟩ := h
  rcases open_slice ht hf with ⟨hcs, _⟩ | ⟨a, len', cap', m, n, D, Pl, hcs, _, hl, _, hm, _, hi⟩
  · simp [Value.cells] at hcs
    obtain ⟨rfl, rfl, rfl⟩ := hcs
    exact ⟨none, 0, 0, fun _ _ => 0, rfl, fun h => absurd h (by omega)⟩
  · simp [Value.cells] at hcs
    obtain ⟨rfl, rfl, rfl⟩ := hcs
    simp only [if_true] at hm
    rw [hm] at hi
    have key : ∀ x : Nat × Nat, ∃ y : Int, x.1 < len → x.2 < fs.size → W.cell? (a.add (x.1 * fs.size + x.2)) = some (.int .i64 y) ∧ (Lit.int .i64 y).wf = true := by
      rintro ⟨i, j⟩
      by_cases hij : i < len ∧ j < fs.size
      · obtain ⟨hil, hjl⟩ := hij
        obtain ⟨cs', hc, ht'⟩ := hi i (by omega)
        rw [hC] at hc
        obtain ⟨ys, n', _, _, hlen, hyl, hfd⟩ := DataW.trod_struct he ht'
        obtain ⟨_, hcl, hat⟩ := World.cells?_some hc
        have hj : fs[j]? = some fs[j] := Array.getElem?_eq_getElem hjl
        obtain ⟨ho, hk⟩ := hone_of hone j _ hj
        have h1 := hfd j _ hj
        rw [ho, hk, List.drop_eq_getElem_cons (by omega), List.take_succ_cons, List.take_zero, List.getElem?_eq_getElem (by omega)] at h1
        obtain ⟨y, hy, _, hw⟩ := DataW.trod_int (int_of hint j _ hj) h1
        injection hy with hy
        refine ⟨y, fun _ _ => ⟨?_, hw⟩⟩
        rw [← Go.Deep.add_add, hat j hjl, List.getElem?_eq_getElem (by omega), hy]
      · exact ⟨0, fun h1 h2 => absurd ⟨h1, h2⟩ hij⟩
    obtain ⟨F, hF⟩ := Classical.skolem.1 key
    refine ⟨some a, len, cap, fun i j => F (i, j), rfl, fun hp => ?_⟩
    obtain ⟨b, o, sp⟩ := a
    have hs : sp = none := by simpa [Addr.add] using World.cell?_spot (hF (0, 0) hp h0).1
    subst hs
    refine ⟨b, o, rfl, ?_, fun i hi j hj => ?_⟩
    · have := World.block_lt_of_cell? _ _ (hF (0, 0) hp h0).1
      simpa [Addr.add] using this
    · have := hF (i, j) hi hj
      rw [add_plain] at this
      exact this
end
end Go.Proofs.Ytefcjlacjafnoaa
