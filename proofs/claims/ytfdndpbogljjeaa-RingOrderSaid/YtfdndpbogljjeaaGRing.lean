/- Package ring: a row of ints in a list that goes round; a thing by its place. -/
import Derived.Test.YtfdndpbogljjeaaRow
import Derived.Deep.QuietTactic
import Derived.BigQuiet
import Derived.RegionTactic
namespace Go.Proofs.Ytfdndpbogljjeaa
open Go.RowKit

/-- The slots of a list. -/
def slotCells (c : Nat) (V : Nat → Int) : Array Value := ((List.range c).map fun k => Value.int .i64 (V k)).toArray
theorem slotCells_at {c : Nat} {V : Nat → Int} {k : Nat} (h : k < c) : (slotCells c V)[k]? = some (.int .i64 (V k)) := by
  unfold slotCells
  rw [List.getElem?_toArray, List.getElem?_map, List.getElem?_range h]
  rfl
theorem slotCells_set {c : Nat} {V : Nat → Int} {k : Nat} (x : Int) : (slotCells c V).setIfInBounds k (.int .i64 x) = slotCells c (fun p => if p = k then x else V p) := by
  unfold slotCells
  apply Array.ext'
  simp only [Array.toList_setIfInBounds]
  apply List.ext_getElem
  · simp
  · intro i h1 h2
    simp [List.getElem_set]
    by_cases e : i = k
    · subst e; simp
    · have : ¬ k = i := fun z => e z.symm
      simp [e, this]

/-- Places of a list that goes round. -/
theorem place_inj {f c a b : Nat} (ha : a < c) (hb : b < c) (h : (f + a) % c = (f + b) % c) : a = b := by
  have key : ∀ x y : Nat, x ≤ y → y < c → (f + x) % c = (f + y) % c → x = y := by
    intro x y hxy hy e
    have h1 : (f + y) = (f + x) + (y - x) := by omega
    rw [h1, Nat.add_mod (f + x) (y - x) c] at e
    have hd : (y - x) % c = y - x := Nat.mod_eq_of_lt (by omega)
    rw [hd] at e
    have hm := Nat.mod_lt (f + x) (show 0 < c by omega)
    generalize (f + x) % c = m at *
    rcases Nat.lt_or_ge (m + (y - x)) c with hl | hl
    · rw [Nat.mod_eq_of_lt hl] at e; omega
    · rw [Nat.mod_eq_sub_mod hl, Nat.mod_eq_of_lt (by omega)] at e; omega
  rcases Nat.le_total a b with hab | hab
  · exact key a b hab hb h
  · exact (key b a hab ha h.symm).symm
theorem place_next (f c k : Nat) : ((f + 1) % c + k) % c = (f + (k + 1)) % c := by
  rw [Nat.mod_add_mod]
  congr 1
  omega

/-- The row at block a: its list at A has c slots, its first thing is at slot f. -/
structure RingAt (w : World) (a : Nat) (A : Option Addr) (c f : Nat) (V : Nat → Int) (xs : List Int) : Prop where
  own : Is w a 25 #[.slice A c c, .int .i64 f, .int .i64 xs.length]
  slots : (A = none ∧ c = 0) ∨ ∃ b, A = some ⟨b, 0, none⟩ ∧ Is w b 3 (slotCells c V) ∧ f < c
  fits : xs.length ≤ c
  small : c ≤ 1048576
  at_ : ∀ i, i < xs.length → V ((f + i) % c) = xs.getD i 0
/-- The row at block a. -/
def Ring (w : World) (a : Nat) (A : Option Addr) (xs : List Int) : Prop := ∃ c f V, RingAt w a A c f V xs
/-- Its blocks. -/
def OfG (a : Nat) (A : Option Addr) : Nat → Prop := fun k => k = a ∨ A = some ⟨k, 0, none⟩

section
variable {w w' : World} {a : Nat} {A : Option Addr} {c f : Nat} {V : Nat → Int} {xs : List Int} {S : Nat → Prop}

theorem RingAt.have (h : RingAt w a A c f V xs) (hp : 0 < xs.length) : ∃ b, A = some ⟨b, 0, none⟩ ∧ Is w b 3 (slotCells c V) ∧ f < c := by
  rcases h.slots with ⟨_, h0⟩ | h1
  · have := h.fits; omega
  · exact h1
theorem RingAt.kept (h : RingAt w a A c f V xs) (k : Kept S w w') (hs : ∀ g, OfG a A g → ¬ S g) : RingAt w' a A c f V xs :=
  ⟨h.own.kept k (hs a (.inl rfl)), h.slots.imp id (fun ⟨b, e, hb, hf⟩ => ⟨b, e, hb.kept k (hs b (.inr e)), hf⟩), h.fits, h.small, h.at_⟩
theorem RingAt.keptNil (h : RingAt w a A c f V xs) (k : Kept Nil w w') : RingAt w' a A c f V xs := h.kept k (fun _ _ c => c)
theorem Ring.kept (h : Ring w a A xs) (k : Kept S w w') (hs : ∀ g, OfG a A g → ¬ S g) : Ring w' a A xs := by
  obtain ⟨c, f, V, h⟩ := h
  exact ⟨c, f, V, h.kept k hs⟩
theorem Ring.keptNil (h : Ring w a A xs) (k : Kept Nil w w') : Ring w' a A xs := h.kept k (fun _ _ c => c)
theorem Ring.lt (h : Ring w a A xs) {g : Nat} (hg : OfG a A g) : g < w.heap.size := by
  obtain ⟨c, f, V, h⟩ := h
  rcases hg with rfl | e
  · exact h.own.lt
  · rcases h.slots with ⟨e2, _⟩ | ⟨b, e2, hb, _⟩
    · rw [e] at e2; cases e2
    · rw [e] at e2
      injection e2 with e2; injection e2 with e2
      subst e2
      exact hb.lt
/-- No block of another kind is a row's. -/
theorem Ring.other (h : Ring w a A xs) {g : Nat} {t : TypeId} {cs : Array Value} (hi : Is w g t cs) (h1 : t ≠ 25) (h2 : t ≠ 3) : ¬ OfG a A g := by
  obtain ⟨c, f, V, h⟩ := h
  rintro (e | e)
  · subst e
    exact hi.ne h.own h1 rfl
  · rcases h.slots with ⟨e2, _⟩ | ⟨b, e2, hb, _⟩
    · rw [e] at e2; cases e2
    · rw [e] at e2
      injection e2 with e2; injection e2 with e2
      subst e2
      exact hi.ne hb h2 rfl
end

/-- A call that draws, in a region that draws. -/
theorem quiet_drew {P : Program} {f : FuncId} {args : Array Value} {w : World} {n : Nat} {v : Value}
    (h : Calls P f args (w.drewN n) fun e w' => e = .returned v ∧ ∃ m, w' = (w.drewN n).drewN m) : Calls P f args (w.drewN n) fun e w' => e = .returned v ∧ ∃ m, w' = w.drewN m :=
  h.mono fun _ _ ⟨he, m, hm⟩ => ⟨he, n + m, hm.trans (World.drewN_drewN w n m)⟩

section
variable {w : World} {a : Nat} {A : Option Addr} {c f : Nat} {V : Nat → Int} {xs : List Int}
set_option maxHeartbeats 400000

theorem rlen_c (h : Ring w a A xs) : Calls Try.prog 10 #[.pointer (some ⟨a, 0, none⟩)] w fun e w' => e = .returned (.int .i64 xs.length) ∧ w = w' := by
  obtain ⟨c, f, V, h⟩ := h
  have g2 : w.cell? ⟨a, 2, none⟩ = some (.int .i64 xs.length) := h.own.cell 2
  go_enter Try.func10, Try.ntmps10
  go_wp2
  go_ret
  exact ⟨rfl, rfl⟩
theorem rlen_nil : Calls Try.prog 10 #[.pointer none] w fun e w' => e = .returned (.int .i64 0) ∧ w = w' := by
  go_enter Try.func10, Try.ntmps10
  go_wp2
  go_ret
  exact ⟨rfl, rfl⟩
/-- Where in the list a place is. -/
theorem slot_c {m : Value} (i : Nat) (h : Is w a 25 #[.slice A c c, .int .i64 f, m]) (hf : f < c) (hi : i ≤ c) (hc : c ≤ 1048576) :
    Calls Try.prog 21 #[.pointer (some ⟨a, 0, none⟩), .int .i64 i] w fun e w' => e = .returned (.int .i64 ((f + i) % c : Nat)) ∧ ∃ n, w' = w.drewN n := by
  have g0 : w.cell? ⟨a, 0, none⟩ = some (.slice A c c) := h.cell 0
  have g1 : w.cell? ⟨a, 1, none⟩ = some (.int .i64 f) := h.cell 1
  have hz : ¬ (c : Int) = 0 := by omega
  go_enter Try.func21, Try.ntmps21
  go_wp2
  go_quiet (fail)
  go_wp2
  go_ret
  exact ⟨rfl, _, rfl⟩
end
end Go.Proofs.Ytfdndpbogljjeaa
