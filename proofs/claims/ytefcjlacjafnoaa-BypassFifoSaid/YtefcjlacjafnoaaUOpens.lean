/- Arguments of the laws of layer 10: an event, a slice of events. -/
import Derived.Test.YtefcjlacjafnoaaShell
import Derived.Test.YtefcjlacjafnoaaUEv
import Derived.Lib.SmallJoins
namespace Go.Proofs.Ytefcjlacjafnoaa
open Go.ChangeShapes Go.WideShapes Go.ChangeAt Go.RowKit Go.Deep Go.Joins

section
variable {H : Type} {enc : TypeId × Value → H} {P : Program} {W : World}
/-- A slice of structs whose fields are of one cell each: field j of element i holds F i j, and G tells what that may be. -/
theorem open_structs_any {t e : TypeId} {fs : Array Field} {v : Value} {d : DataW H} {ps : List MemPlace} {G : Nat → Value → Prop} (ht : P.underlying t = some (.slice e)) (he : P.underlying e = some (.struct fs)) (hone : oneCellFields P fs = true) (hC : P.cellsOf e = fs.size) (h0 : 0 < fs.size)
    (hG : ∀ (j : Nat) (f : Field), fs[j]? = some f → ∀ n cs y, DataW.trod enc P W 0 (fun _ => true) true n f.type cs = some y → ∃ u, cs = [u] ∧ G j u) (hv : Value.okWide P W .any 0 t v) (h : DataW.Trod enc P W 0 (fun _ => true) true t v d ps) :
    ∃ (A : Option Addr) (len cap : Nat) (F : Nat → Nat → Value), v = .slice A len cap ∧ len ≤ cap ∧ (0 < len → ∃ b o, A = some ⟨b, o, none⟩ ∧ b < W.heap.size ∧ ∀ i, i < len → ∀ j, j < fs.size → W.cell? ⟨b, o + (i * fs.size + j), none⟩ = some (F i j) ∧ G j (F i j)) := by
  obtain ⟨A, len, cap, rfl⟩ := okWide_slice ht hv
  obtain ⟨fuel, hf⟩ := h
  rcases open_slice ht hf with ⟨hcs, _⟩ | ⟨a, len', cap', m, n, D, Pl, hcs, _, hl, _, hm, _, hi⟩
  · simp [Value.cells] at hcs
    obtain ⟨rfl, rfl, rfl⟩ := hcs
    exact ⟨none, 0, 0, fun _ _ => .int .i64 0, rfl, Nat.le_refl _, fun h => absurd h (by omega)⟩
  · simp [Value.cells] at hcs
    obtain ⟨rfl, rfl, rfl⟩ := hcs
    simp only [if_true] at hm
    rw [hm] at hi
    have key : ∀ x : Nat × Nat, ∃ y : Value, x.1 < len → x.2 < fs.size → W.cell? (a.add (x.1 * fs.size + x.2)) = some y ∧ G x.2 y := by
      rintro ⟨i, j⟩
      by_cases hij : i < len ∧ j < fs.size
      · obtain ⟨hil, hjl⟩ := hij
        obtain ⟨cs', hc, ht'⟩ := hi i (by omega)
        rw [hC] at hc
        obtain ⟨ys, n', _, _, hlen, hyl, hfd⟩ := DataW.trod_struct he ht'
        obtain ⟨_, hcl, hat⟩ := World.cells?_some hc
        have hj : fs[j]? = some fs[j] := Array.getElem?_eq_getElem hjl
        obtain ⟨ho, hk⟩ := hone_of hone j _ hj
        have h1 := hfd j _ hj
        rw [ho, hk, List.drop_eq_getElem_cons (by omega), List.take_succ_cons, List.take_zero, List.getElem?_eq_getElem (by omega)] at h1
        obtain ⟨y, hy, hw⟩ := hG j _ hj _ _ _ h1
        injection hy with hy
        refine ⟨y, fun _ _ => ⟨?_, hw⟩⟩
        rw [← Go.Deep.add_add, hat j hjl, List.getElem?_eq_getElem (by omega), hy]
      · exact ⟨.int .i64 0, fun h1 h2 => absurd ⟨h1, h2⟩ hij⟩
    obtain ⟨F, hF⟩ := Classical.skolem.1 key
    refine ⟨some a, len, cap, fun i j => F (i, j), rfl, hl, fun hp => ?_⟩
    obtain ⟨b, o, sp⟩ := a
    have hs : sp = none := by simpa [Addr.add] using World.cell?_spot (hF (0, 0) hp h0).1
    subst hs
    refine ⟨b, o, rfl, ?_, fun i hi j hj => ?_⟩
    · have := World.block_lt_of_cell? _ _ (hF (0, 0) hp h0).1
      simpa [Addr.add] using this
    · have := hF (i, j) hi hj
      rw [add_plain] at this
      exact this
end
/-- What a field of an event may hold. -/
def EvCell (j : Nat) (u : Value) : Prop := if j = 2 then ∃ b, u = .bool b else ∃ n, u = .int .i64 n
theorem ev_of (F : Nat → Value) (h : ∀ j, j < 4 → EvCell j (F j)) : ∃ e : Ev, F 0 = .int .i64 e.k ∧ F 1 = .int .i64 e.t ∧ F 2 = .bool e.r ∧ F 3 = .int .i64 e.c := by
  obtain ⟨k, h0⟩ : ∃ n, F 0 = .int .i64 n := h 0 (by decide)
  obtain ⟨t, h1⟩ : ∃ n, F 1 = .int .i64 n := h 1 (by decide)
  obtain ⟨r, h2⟩ : ∃ b, F 2 = .bool b := h 2 (by decide)
  obtain ⟨c, h3⟩ : ∃ n, F 3 = .int .i64 n := h 3 (by decide)
  exact ⟨⟨k, t, r, c⟩, h0, h1, h2, h3⟩
set_option maxRecDepth 100000 in
/-- An argument that is a slice of events. -/
theorem evs_of {H : Type} {enc : TypeId × Value → H} {W : World} {v : Value} {d : DataW H} {ps : List MemPlace} (hv : Value.okWide Try.prog W .any 0 23 v) (h : DataW.Trod enc Try.prog W 0 (fun _ => true) true 23 v d ps) : ∃ l : List Ev, Evs W v l := by
  obtain ⟨A, len, cap, F, rfl, hlc, hF⟩ := open_structs_any (G := EvCell) Try.underlying23 Try.underlying36 (by kernel_rfl) (by kernel_rfl) (by decide) (fun j f hj n cs y hy => by
    match j, hj with
    | 0, hj => simp at hj; subst hj; obtain ⟨z, h1, _⟩ := DataW.trod_int Try.underlying3 hy; exact ⟨_, h1, z, rfl⟩
    | 1, hj => simp at hj; subst hj; obtain ⟨z, h1, _⟩ := DataW.trod_int Try.underlying3 hy; exact ⟨_, h1, z, rfl⟩
    | 2, hj => simp at hj; subst hj; obtain ⟨z, h1, _⟩ := DataW.trod_bool Try.underlying4 hy; exact ⟨_, h1, z, rfl⟩
    | 3, hj => simp at hj; subst hj; obtain ⟨z, h1, _⟩ := DataW.trod_int Try.underlying3 hy; exact ⟨_, h1, z, rfl⟩
    | j + 4, hj => simp at hj) hv h
  rcases Nat.eq_zero_or_pos len with h0 | hp
  · subst h0
    exact ⟨[], Evs.nil _ _ _⟩
  obtain ⟨b, o, rfl, hb, hc⟩ := hF hp
  have key : ∀ i, ∃ e : Ev, i < len → (F i 0 = .int .i64 e.k ∧ F i 1 = .int .i64 e.t ∧ F i 2 = .bool e.r ∧ F i 3 = .int .i64 e.c) := by
    intro i
    by_cases hi : i < len
    · obtain ⟨e, he⟩ := ev_of (F i) (fun j hj => (hc i hi j hj).2)
      exact ⟨e, fun _ => he⟩
    · exact ⟨e0, fun z => absurd z hi⟩
  obtain ⟨E, hE⟩ := Classical.skolem.1 key
  have hlen : ((List.range len).map E).length = len := by simp
  refine ⟨(List.range len).map E, some ⟨b, o, none⟩, cap, by rw [hlen], by rw [hlen]; exact hlc, fun _ => ⟨b, o, rfl, hb, fun i hi => ?_⟩⟩
  rw [hlen] at hi
  rw [show ((List.range len).map E).getD i e0 = E i by simp [List.getD, hi]]
  obtain ⟨h0, h1, h2, h3⟩ := hE i hi
  have c0 := (hc i hi 0 (by decide)).1
  have c1 := (hc i hi 1 (by decide)).1
  have c2 := (hc i hi 2 (by decide)).1
  have c3 := (hc i hi 3 (by decide)).1
  rw [h0] at c0
  rw [h1] at c1
  rw [h2] at c2
  rw [h3] at c3
  exact ⟨c0, c1, c2, c3⟩
set_option maxRecDepth 100000 in
/-- An argument that is an event. -/
theorem ev_arg {H : Type} {enc : TypeId × Value → H} {W : World} {v : Value} {d : DataW H} {ps : List MemPlace} (hv : Value.okWide Try.prog W .any 0 36 v) (h : DataW.Trod enc Try.prog W 0 (fun _ => true) true 36 v d ps) : ∃ e : Ev, v = evv e := by
  obtain ⟨v0, v1, v2, v3, y0, y1, y2, y3, n, rfl, _, _, h0, h1, h2, h3⟩ := open_agg4 Try.underlying36 (by kernel_rfl) (by kernel_rfl) hv h
  obtain ⟨k, hk, _⟩ := DataW.trod_int Try.underlying3 h0
  obtain ⟨t, ht, _⟩ := DataW.trod_int Try.underlying3 h1
  obtain ⟨r, hr, _⟩ := DataW.trod_bool Try.underlying4 h2
  obtain ⟨c, hc, _⟩ := DataW.trod_int Try.underlying3 h3
  injection hk with hk
  injection ht with ht
  injection hr with hr
  injection hc with hc
  subst hk ht hr hc
  exact ⟨⟨k, t, r, c⟩, rfl⟩
end Go.Proofs.Ytefcjlacjafnoaa
