/- The map of a tally: where the stay of a thread is that is under way. -/
import Derived.Test.YtefcjlacjafnoaaYRow
import Derived.Maps.OwnSet
namespace Go.Proofs.Ytefcjlacjafnoaa
open Go.RowKit Go.Maps

theorem mlaw : Keyed Try.prog 3 := int_keyed Try.underlying3
theorem mzero (w : World) : (zeroValue 3).run Try.prog w = .ok (.int .i64 0) w := by kernel_rfl
/-- Block m is a map of at most n entries that tells f. -/
def Und (w : World) (m n : Nat) (f : Int → Option Nat) : Prop :=
  ∃ D : DataW Unit, w.ownsMap Try.prog 3 (plainElem Try.prog 3) m n D ∧ ∀ t, (Lit.int .i64 t).wf = true → Maps.has D (.int .i64 t) = (f t).isSome ∧ ∀ k, f t = some k → D.atKey (.int .i64 t) (.lit (.int .i64 0)) = .lit (.int .i64 (k : Nat))
section
variable {w w' : World} {m n : Nat} {f : Int → Option Nat} {t : Int} {S : Nat → Prop}
theorem Und.new (w : World) : Und (w.alloc (.map #[] 0)) w.heap.size 0 (fun _ => none) :=
  ⟨.map [], World.ownsMap_made w _ _ _, fun t _ => ⟨rfl, fun k h => (by cases h)⟩⟩
theorem Und.lt (h : Und w m n f) : m < w.heap.size := h.choose_spec.1.lt
theorem Und.kept (h : Und w m n f) (k : Kept S w w') (hs : ¬ S m) : Und w' m n f := by
  have hlt := h.lt
  obtain ⟨D, ⟨es, clock, hb, r⟩, hD⟩ := h
  exact ⟨D, ⟨es, clock, (k.block m hlt hs).trans hb, r⟩, hD⟩
/-- A map's block holds no cells. -/
theorem Und.ne (h : Und w m n f) {g : Nat} {e : TypeId} {cs : Array Value} (hi : Is w g e cs) : g ≠ m := by
  rintro rfl
  obtain ⟨D, ⟨es, clock, hb, r⟩, hD⟩ := h
  unfold Is at hi
  rw [hb] at hi
  injection hi with hi
  cases hi
theorem Und.none_ (h : Und w m n f) (ht : (Lit.int .i64 t).wf = true) (hf : f t = none) : (Instr.lookup 55 (.map (some m)) (.int .i64 t) true).run Try.prog w = .ok (.tuple #[.int .i64 0, .bool false]) w := by
  obtain ⟨D, hown, hD⟩ := h
  obtain ⟨v, ps, hrun, hv⟩ := hown.look_ok mlaw Try.underlying55 (mzero w) (plainElem_int Try.underlying3 (by decide)) (keyOf_int_mk Try.underlying3 ht)
  obtain ⟨c, rfl, hc, _⟩ := plainElem_int_inv Try.underlying3 hv
  have h1 := (hD t ht).1
  rw [hf] at h1
  have h1 : Maps.has D (.int .i64 t) = false := h1
  rw [h1] at hrun
  rw [atKey_of_not_has h1] at hc
  have hc := congrArg Prod.fst hc
  injection hc with hc
  injection hc with _ hc
  rw [← hc] at hrun
  exact hrun
theorem Und.some_ (h : Und w m n f) (ht : (Lit.int .i64 t).wf = true) {k : Nat} (hf : f t = some k) : (Instr.lookup 55 (.map (some m)) (.int .i64 t) true).run Try.prog w = .ok (.tuple #[.int .i64 k, .bool true]) w := by
  obtain ⟨D, hown, hD⟩ := h
  obtain ⟨v, ps, hrun, hv⟩ := hown.look_ok mlaw Try.underlying55 (mzero w) (plainElem_int Try.underlying3 (by decide)) (keyOf_int_mk Try.underlying3 ht)
  obtain ⟨c, rfl, hc, _⟩ := plainElem_int_inv Try.underlying3 hv
  obtain ⟨h1, h2⟩ := hD t ht
  rw [hf] at h1
  have h1 : Maps.has D (.int .i64 t) = true := h1
  rw [h1] at hrun
  rw [h2 k hf] at hc
  have hc := congrArg Prod.fst hc
  injection hc with hc
  injection hc with _ hc
  rw [← hc] at hrun
  exact hrun
theorem lit_ne {u : Int} (h : u ≠ t) : (Lit.int .i64 u) ≠ (Lit.int .i64 t) := fun e => h (by injection e)
theorem Und.put (h : Und w m n f) (hn : n < maxLen) (ht : (Lit.int .i64 t).wf = true) (k : Nat) (hk : (Lit.int .i64 (k : Int)).wf = true) : ∃ w', (Instr.mapUpdate 55 (.map (some m)) (.int .i64 t) (.int .i64 k)).run Try.prog w = .ok () w' ∧
    Und w' m (n + 1) (fput f t k) ∧ Kept (fun i => i = m) w w' := by
  obtain ⟨D, hown, hD⟩ := h
  have hkey := keyOf_int_mk Try.underlying3 ht
  have hK := mlaw.key hkey
  have hI := hown.isMap
  obtain ⟨w', hrun, hown', hturn⟩ := hown.store mlaw Try.underlying55 hn hkey (plainElem_int Try.underlying3 hk)
  refine ⟨w', hrun, ⟨_, hown', fun u hu => ?_⟩, (Kept.of_grown hturn.grown).more (fun i _ e => by injection e with e; exact e.symm)⟩
  by_cases e : u = t
  · subst e
    refine ⟨by rw [has_put_same hI hK, fput_same]; rfl, fun j hj => ?_⟩
    rw [fput_same] at hj
    injection hj with hj
    rw [atKey_put_same hI hK, hj]
  · have e2 := lit_ne e
    refine ⟨by rw [has_put_other e2, fput_other e]; exact (hD u hu).1, fun j hj => ?_⟩
    rw [fput_other e] at hj
    rw [atKey_put_other e2]
    exact (hD u hu).2 j hj
theorem Und.del (h : Und w m n f) (ht : (Lit.int .i64 t).wf = true) (ty : TypeId) : ∃ w', (Builtin.delete_ #[55, 3] ty #[.map (some m), .int .i64 t]).run Try.prog w = .ok (.tuple #[]) w' ∧
    Und w' m n (fdel f t) ∧ Kept (fun i => i = m) w w' := by
  obtain ⟨D, hown, hD⟩ := h
  have hkey := keyOf_int_mk Try.underlying3 ht
  obtain ⟨w', hrun, hown', hturn⟩ := hown.drop mlaw Try.underlying55 hkey ty
  refine ⟨w', hrun, ⟨_, hown', fun u hu => ?_⟩, (Kept.of_grown hturn.grown).more (fun i _ e => by injection e with e; exact e.symm)⟩
  by_cases e : u = t
  · subst e
    refine ⟨by rw [has_del_same, fdel_same]; rfl, fun j hj => ?_⟩
    rw [fdel_same] at hj
    cases hj
  · have e2 := lit_ne e
    refine ⟨by rw [has_del_other e2, fdel_other e]; exact (hD u hu).1, fun j hj => ?_⟩
    rw [fdel_other e] at hj
    rw [atKey_del_other e2]
    exact (hD u hu).2 j hj
end

/-- A tally of the call's own, laid since w0; nothing older than w0 has turned. -/
structure Ty (w0 w : World) (p m : Nat) (A : Option Addr) (c : Nat) (S : List Sy) (f : Int → Option Nat) : Prop where
  box : Is w p 57 #[.slice A S.length c, .map (some m)]
  row : Gw 50 7 w0 w A c S.length (ycells S)
  und : Und w m S.length f
  ix : Yix f S
  pn : w0.heap.size ≤ p
  mn : w0.heap.size ≤ m
/-- What a tally's functions may write. -/
def TyS (w : World) (m : Nat) : Nat → Prop := fun i => i = m ∨ ∃ t cs, Is w i t cs ∧ (t = 57 ∨ t = 50)
section
variable {w0 w w' : World} {p m c : Nat} {A : Option Addr} {S : List Sy} {f : Int → Option Nat}
theorem Ty.keep (h : Ty w0 w p m A c S f) (k : Kept Nil w w') : Ty w0 w' p m A c S f := ⟨h.box.kept k (fun z => z), h.row.keep k, h.und.kept k (fun z => z), h.ix, h.pn, h.mn⟩
end
end Go.Proofs.Ytefcjlacjafnoaa
