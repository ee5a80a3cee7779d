/- An argument that is a slice of events, whose threads are ints. -/
import Derived.Test.YtefcjlacjafnoaaUOpens
import Derived.Test.YtefcjlacjafnoaaYOf
namespace Go.Proofs.Ytefcjlacjafnoaa
open Go.ChangeShapes Go.WideShapes Go.ChangeAt Go.RowKit Go.Deep Go.Joins

/-- What a field of an event may hold, with room told. -/
def EvCellW (j : Nat) (u : Value) : Prop := if j = 2 then ∃ b, u = .bool b else ∃ n, u = .int .i64 n ∧ (Lit.int .i64 n).wf = true
theorem ev_of_w (F : Nat → Value) (h : ∀ j, j < 4 → EvCellW j (F j)) : ∃ e : Ev, (F 0 = .int .i64 e.k ∧ F 1 = .int .i64 e.t ∧ F 2 = .bool e.r ∧ F 3 = .int .i64 e.c) ∧ (Lit.int .i64 e.t).wf = true := by
  obtain ⟨k, h0, _⟩ : ∃ n, F 0 = .int .i64 n ∧ (Lit.int .i64 n).wf = true := h 0 (by decide)
  obtain ⟨t, h1, ht⟩ : ∃ n, F 1 = .int .i64 n ∧ (Lit.int .i64 n).wf = true := h 1 (by decide)
  obtain ⟨r, h2⟩ : ∃ b, F 2 = .bool b := h 2 (by decide)
  obtain ⟨c, h3, _⟩ : ∃ n, F 3 = .int .i64 n ∧ (Lit.int .i64 n).wf = true := h 3 (by decide)
  exact ⟨⟨k, t, r, c⟩, ⟨h0, h1, h2, h3⟩, ht⟩
set_option maxRecDepth 100000 in
/-- An argument that is a slice of events. -/
theorem evs_of_w {H : Type} {enc : TypeId × Value → H} {W : World} {v : Value} {d : DataW H} {ps : List MemPlace} (hv : Value.okWide Try.prog W .any 0 23 v) (h : DataW.Trod enc Try.prog W 0 (fun _ => true) true 23 v d ps) : ∃ l : List Ev, Evs W v l ∧ Ywf l := by
  obtain ⟨A, len, cap, F, rfl, hlc, hF⟩ := open_structs_any (G := EvCellW) Try.underlying23 Try.underlying36 (by kernel_rfl) (by kernel_rfl) (by decide) (fun j f hj n cs y hy => by
    match j, hj with
    | 0, hj => simp at hj; subst hj; obtain ⟨z, h1, _, hw⟩ := DataW.trod_int Try.underlying3 hy; exact ⟨_, h1, z, rfl, hw⟩
    | 1, hj => simp at hj; subst hj; obtain ⟨z, h1, _, hw⟩ := DataW.trod_int Try.underlying3 hy; exact ⟨_, h1, z, rfl, hw⟩
    | 2, hj => simp at hj; subst hj; obtain ⟨z, h1, _⟩ := DataW.trod_bool Try.underlying4 hy; exact ⟨_, h1, z, rfl⟩
    | 3, hj => simp at hj; subst hj; obtain ⟨z, h1, _, hw⟩ := DataW.trod_int Try.underlying3 hy; exact ⟨_, h1, z, rfl, hw⟩
    | j + 4, hj => simp at hj) hv h
  rcases Nat.eq_zero_or_pos len with h0 | hp
  · subst h0
    exact ⟨[], Evs.nil _ _ _, fun k hk => absurd hk (by simp)⟩
  obtain ⟨b, o, rfl, hb, hc⟩ := hF hp
  have key : ∀ i, ∃ e : Ev, i < len → (F i 0 = .int .i64 e.k ∧ F i 1 = .int .i64 e.t ∧ F i 2 = .bool e.r ∧ F i 3 = .int .i64 e.c) ∧ (Lit.int .i64 e.t).wf = true := by
    intro i
    by_cases hi : i < len
    · obtain ⟨e, he⟩ := ev_of_w (F i) (fun j hj => (hc i hi j hj).2)
      exact ⟨e, fun _ => he⟩
    · exact ⟨e0, fun z => absurd z hi⟩
  obtain ⟨E, hE⟩ := Classical.skolem.1 key
  have hlen : ((List.range len).map E).length = len := by simp
  refine ⟨(List.range len).map E, ⟨some ⟨b, o, none⟩, cap, by rw [hlen], by rw [hlen]; exact hlc, fun _ => ⟨b, o, rfl, hb, fun i hi => ?_⟩⟩, fun i hi => ?_⟩
  · rw [hlen] at hi
    rw [show ((List.range len).map E).getD i e0 = E i by simp [List.getD, hi]]
    obtain ⟨⟨h0, h1, h2, h3⟩, _⟩ := hE i hi
    have c0 := (hc i hi 0 (by decide)).1
    have c1 := (hc i hi 1 (by decide)).1
    have c2 := (hc i hi 2 (by decide)).1
    have c3 := (hc i hi 3 (by decide)).1
    rw [h0] at c0
    rw [h1] at c1
    rw [h2] at c2
    rw [h3] at c3
    exact ⟨c0, c1, c2, c3⟩
  · rw [hlen] at hi
    rw [show ((List.range len).map E).getD i e0 = E i by simp [List.getD, hi]]
    exact (hE i hi).2
end Go.Proofs.Ytefcjlacjafnoaa
