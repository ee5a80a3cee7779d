/- What an op leaves of an arena: its own word may have turned, no other. -/
import Derived.Test.YtgljgdnnpmaigaaArenaWords
namespace Go.Proofs.Ytgljgdnnpmaigaa
open Go.RowKit

/-- From s to t by an op of a kind at word p. -/
structure After (s t : St) (kind p : Int) : Prop where
  len : t.ws.length = s.ws.length
  room : t.room = s.room
  yes : s.has p = true → t.ops = s.ops + 1 ∧ t.p = p ∧ t.k = kind ∧ ∀ j, t.ws.getD j 0 ≠ s.ws.getD j 0 → (j : Int) + 1 = p ∧ t.wr = true
  no : s.has p = false → t.ops = s.ops ∧ t.ws = s.ws

theorem set_other (l : List Int) (i j : Nat) (v : Int) (h : (l.set i v).getD j 0 ≠ l.getD j 0) : j = i := by
  by_cases e : j = i
  · exact e
  · exfalso
    apply h
    simp only [List.getD]
    rw [List.getElem?_set_ne (fun x => e x.symm)]
theorem put_other {s : St} {p v : Int} {j : Nat} (hp : s.has p = true) (h : (s.put p v).ws.getD j 0 ≠ s.ws.getD j 0) : (j : Int) + 1 = p := by
  have hb := has_true hp
  have := set_other _ _ _ _ h
  omega
theorem after_load (s : St) (p : Int) : After s (s.load p) 1 p := by
  unfold St.load
  cases hp : s.has p with
  | true => exact ⟨rfl, rfl, fun _ => ⟨rfl, rfl, rfl, fun j h => absurd rfl h⟩, fun h => by cases hp.symm.trans h⟩
  | false => exact ⟨rfl, rfl, fun h => by (cases hp.symm.trans h), fun _ => ⟨rfl, rfl⟩⟩
theorem after_put (s : St) (kind p v : Int) : After s (if s.has p then (s.put p v).note kind p true else s) kind p := by
  cases hp : s.has p with
  | true => exact ⟨by simp [St.put, St.note], rfl, fun _ => ⟨rfl, rfl, rfl, fun j h => ⟨put_other hp h, rfl⟩⟩, fun h => by cases hp.symm.trans h⟩
  | false => exact ⟨rfl, rfl, fun h => by (cases hp.symm.trans h), fun _ => ⟨rfl, rfl⟩⟩
theorem after_cas (s : St) (p o v : Int) : After s (s.cas p o v) 4 p := by
  unfold St.cas
  cases hp : s.has p with
  | true =>
    by_cases h : s.get p = o
    · simp only [if_pos h, decide_eq_true h]
      exact ⟨by simp [St.put, St.note], rfl, fun _ => ⟨rfl, rfl, rfl, fun j h => ⟨put_other hp h, rfl⟩⟩, fun h => by cases hp.symm.trans h⟩
    · simp only [if_neg h, decide_eq_false h]
      exact ⟨rfl, rfl, fun _ => ⟨rfl, rfl, rfl, fun j h => absurd rfl h⟩, fun h => by cases hp.symm.trans h⟩
  | false => exact ⟨rfl, rfl, fun h => by (cases hp.symm.trans h), fun _ => ⟨rfl, rfl⟩⟩

section
variable {a : Nat} {A : Option Addr} {s : St} {w w' : World} {S : Nat → Prop}
theorem Ints.keepBut {v : Value} {l : List Int} (h : Ints w v l) (k : Kept S w w') (hn : ∀ g cs, Is w g 3 cs → ¬ S g) : Ints w' v l := by
  obtain ⟨A, c, e, h1⟩ := h
  exact ⟨A, c, e, fun hp => by obtain ⟨g, cs, e2, hi, hc⟩ := h1 hp; exact ⟨g, cs, e2, hi.kept k (hn g cs hi), hc⟩⟩
theorem take_any (n : Int) (h : ArenaAt w a A s) : Calls Try.prog 15 #[.pointer (some ⟨a, 0, none⟩), .int .i64 n] w fun e w' => ∃ v s', e = .returned v ∧ ArenaAt w' a A s' ∧ s'.ops = s.ops ∧ Kept (Of a A) w w' := by
  rcases Int.lt_or_le n 0 with h0 | h0
  · refine (take_neg _ n h0).mono ?_
    rintro e w' ⟨rfl, rfl⟩
    exact ⟨_, s, rfl, h, rfl, Kept.refl _ _⟩
  · rcases Int.lt_or_le ((s.room : Int) - s.ws.length) n with h1 | h1
    · refine (take_full n h h0 h1).mono ?_
      rintro e w' ⟨rfl, k, rfl⟩
      exact ⟨_, s, rfl, h.drewN k, rfl, (Kept.refl _ w).drewN k⟩
    · obtain ⟨m, rfl⟩ := Int.eq_ofNat_of_zero_le h0
      have hf := h.fits
      rcases Nat.eq_zero_or_pos m with hm | hm
      · subst hm
        refine (take_zero h).mono ?_
        rintro e w' ⟨rfl, k, rfl⟩
        exact ⟨_, s, rfl, h.drewN k, rfl, (Kept.refl _ w).drewN k⟩
      · refine (take_some m h hm (by omega)).mono ?_
        rintro e w' ⟨rfl, h2, k⟩
        exact ⟨_, s.take m, rfl, h2, rfl, k.more fun i _ hi => .inl hi⟩
end
end Go.Proofs.Ytgljgdnnpmaigaa
