/- An arena that may be nil: a nil one is as one without room. -/
import Derived.Test.YtgljgdnnpmaigaaArenaWords
namespace Go.Proofs.Ytgljgdnnpmaigaa
open Go.RowKit

/-- At q stands an arena, or q is nil, and what is told is told of one without room. -/
def AnyAt (w : World) (q A : Option Addr) (s : St) : Prop := (q = none ∧ A = none ∧ s = fresh 0) ∨ ∃ a, q = some ⟨a, 0, none⟩ ∧ ArenaAt w a A s
def OfQ (q A : Option Addr) : Nat → Prop := fun k => q = some ⟨k, 0, none⟩ ∨ A = some ⟨k, 0, none⟩

theorem of_to (a : Nat) (A : Option Addr) : ∀ i, Of a A i → OfQ (some ⟨a, 0, none⟩) A i := by
  rintro i (e | e)
  · exact .inl (by rw [e])
  · exact .inr e
theorem to_of (a : Nat) (A : Option Addr) : ∀ i, OfQ (some ⟨a, 0, none⟩) A i → Of a A i := by
  rintro i (e | e)
  · injection e with e; injection e with e; exact .inl e.symm
  · exact .inr e

section
variable {q A : Option Addr} {s : St} {w w' : World} {S : Nat → Prop}
set_option maxHeartbeats 400000

theorem AnyAt.of {a : Nat} (h : ArenaAt w a A s) : AnyAt w (some ⟨a, 0, none⟩) A s := .inr ⟨a, rfl, h⟩
theorem AnyAt.at_ {a : Nat} (h : AnyAt w (some ⟨a, 0, none⟩) A s) : ArenaAt w a A s := by
  rcases h with ⟨e, _⟩ | ⟨b, e, h⟩
  · cases e
  · injection e with e; injection e with e
    subst e
    exact h
theorem AnyAt.kept (h : AnyAt w q A s) (k : Kept S w w') (hn : ∀ i cs t, Is w i t cs → OfQ q A i → ¬ S i) : AnyAt w' q A s := by
  rcases h with h | ⟨a, rfl, h⟩
  · exact .inl h
  · exact .inr ⟨a, rfl, h.kept k (hn _ _ _ h.own (.inl rfl)) (fun b cs e hi => hn _ _ _ hi (.inr e))⟩
theorem AnyAt.keptNil (h : AnyAt w q A s) (k : Kept Nil w w') : AnyAt w' q A s := h.kept k (fun _ _ _ _ _ x => x)
theorem AnyAt.other (h : AnyAt w q A s) {g : Nat} {t : TypeId} {cs : Array Value} (hi : Is w g t cs) (h1 : t ≠ 37) (h2 : t ≠ 58) : ¬ OfQ q A g := by
  rcases h with ⟨rfl, rfl, _⟩ | ⟨a, rfl, h⟩
  · rintro (e | e) <;> cases e
  · exact fun x => h.other hi h1 h2 (to_of a A g x)
theorem AnyAt.fits (h : AnyAt w q A s) : s.ws.length ≤ s.room ∧ s.room ≤ 4096 := by
  rcases h with ⟨_, _, rfl⟩ | ⟨a, _, h⟩
  · exact ⟨Nat.le_refl _, by decide⟩
  · exact ⟨h.fits, h.small⟩

theorem none_has (p : Int) : (fresh 0).has p = false := by
  unfold St.has fresh
  simp
  omega
theorem none_get (p : Int) : (fresh 0).get p = 0 := by unfold St.get; rw [none_has]; rfl

theorem len_q (h : AnyAt w q A s) : Calls Try.prog 11 #[.pointer q] w fun e w' => e = .returned (.int .i64 s.ws.length) ∧ w = w' := by
  rcases h with ⟨rfl, rfl, rfl⟩ | ⟨a, rfl, h⟩
  · exact len_nil
  · exact len_c h
theorem ops_q (h : AnyAt w q A s) : Calls Try.prog 12 #[.pointer q] w fun e w' => e = .returned (.int .i64 s.ops) ∧ w = w' := by
  rcases h with ⟨rfl, rfl, rfl⟩ | ⟨a, rfl, h⟩
  · exact ops_nil
  · exact ops_c h
theorem last_q (h : AnyAt w q A s) : Calls Try.prog 14 #[.pointer q] w fun e w' => e = .returned (.agg #[.int .i64 s.k, .int .i64 s.p, .bool s.wr]) ∧ Kept Nil w w' := by
  rcases h with ⟨rfl, rfl, rfl⟩ | ⟨a, rfl, h⟩
  · exact last_nil
  · exact last_c h
theorem words_q (h : AnyAt w q A s) : Calls Try.prog 13 #[.pointer q] w fun e w' => ∃ v, e = .returned v ∧ Ints w' v s.ws ∧ Kept Nil w w' := by
  rcases h with ⟨rfl, rfl, rfl⟩ | ⟨a, rfl, h⟩
  · refine words_nil.mono ?_
    rintro e w' ⟨rfl, rfl⟩
    exact ⟨_, rfl, ⟨none, 0, rfl, fun hp => absurd hp (by decide)⟩, Kept.refl _ _⟩
  · exact words_c h

theorem load_nil (p : Int) : Calls Try.prog 16 #[.pointer none, .int .i64 p] w fun e w' => e = .returned (.int .i64 0) ∧ w = w' := by
  have hh := hide (has_nil (w := w) p)
  go_enter Try.func16, Try.ntmps16
  go_wp2_with fail
  refine hh.out.mono ?_
  rintro e w' ⟨rfl, rfl⟩
  go_wp2_with fail
  go_ret
  exact ⟨rfl, rfl⟩
theorem store_nil (p v : Int) : Calls Try.prog 17 #[.pointer none, .int .i64 p, .int .i64 v] w fun e w' => e = .returned (.tuple #[]) ∧ w = w' := by
  have hh := hide (has_nil (w := w) p)
  go_enter Try.func17, Try.ntmps17
  go_wp2_with fail
  refine hh.out.mono ?_
  rintro e w' ⟨rfl, rfl⟩
  go_wp2_with fail
  refine bodyPost_ret (results_none rfl _ _ _) rfl ?_
  exact ⟨rfl, rfl⟩
theorem swap_nil (p v : Int) : Calls Try.prog 18 #[.pointer none, .int .i64 p, .int .i64 v] w fun e w' => e = .returned (.int .i64 0) ∧ w = w' := by
  have hh := hide (has_nil (w := w) p)
  go_enter Try.func18, Try.ntmps18
  go_wp2_with fail
  refine hh.out.mono ?_
  rintro e w' ⟨rfl, rfl⟩
  go_wp2_with fail
  go_ret
  exact ⟨rfl, rfl⟩
theorem cas_nil (p o v : Int) : Calls Try.prog 19 #[.pointer none, .int .i64 p, .int .i64 o, .int .i64 v] w fun e w' => e = .returned (.bool false) ∧ w = w' := by
  have hh := hide (has_nil (w := w) p)
  go_enter Try.func19, Try.ntmps19
  go_wp2_with fail
  refine hh.out.mono ?_
  rintro e w' ⟨rfl, rfl⟩
  go_wp2_with fail
  go_ret
  exact ⟨rfl, rfl⟩
theorem add_nil (p v : Int) : Calls Try.prog 20 #[.pointer none, .int .i64 p, .int .i64 v] w fun e w' => e = .returned (.int .i64 0) ∧ w = w' := by
  have hh := hide (has_nil (w := w) p)
  go_enter Try.func20, Try.ntmps20
  go_wp2_with fail
  refine hh.out.mono ?_
  rintro e w' ⟨rfl, rfl⟩
  go_wp2_with fail
  go_ret
  exact ⟨rfl, rfl⟩

theorem load_q (p : Int) (h : AnyAt w q A s) (hn : s.ops < 4611686018427387904) : Calls Try.prog 16 #[.pointer q, .int .i64 p] w fun e w' => e = .returned (.int .i64 (s.get p)) ∧ AnyAt w' q A (s.load p) ∧ Kept (OfQ q A) w w' := by
  rcases h with ⟨rfl, rfl, rfl⟩ | ⟨a, rfl, h⟩
  · refine (load_nil p).mono ?_
    rintro e w' ⟨rfl, rfl⟩
    exact ⟨by rw [none_get], .inl ⟨rfl, rfl, by simp [St.load, none_has]⟩, Kept.refl _ _⟩
  · exact (load_c p h hn).mono fun _ _ ⟨h1, h2, h3⟩ => ⟨h1, .of h2, h3.more fun i _ => of_to a A i⟩
theorem store_q (p v : Int) (h : AnyAt w q A s) (hn : s.ops < 4611686018427387904) : Calls Try.prog 17 #[.pointer q, .int .i64 p, .int .i64 v] w fun e w' => e = .returned (.tuple #[]) ∧ AnyAt w' q A (s.store p v) ∧ Kept (OfQ q A) w w' := by
  rcases h with ⟨rfl, rfl, rfl⟩ | ⟨a, rfl, h⟩
  · refine (store_nil p v).mono ?_
    rintro e w' ⟨rfl, rfl⟩
    exact ⟨rfl, .inl ⟨rfl, rfl, by simp [St.store, none_has]⟩, Kept.refl _ _⟩
  · exact (store_c p v h hn).mono fun _ _ ⟨h1, h2, h3⟩ => ⟨h1, .of h2, h3.more fun i _ => of_to a A i⟩
theorem swap_q (p v : Int) (h : AnyAt w q A s) (hn : s.ops < 4611686018427387904) : Calls Try.prog 18 #[.pointer q, .int .i64 p, .int .i64 v] w fun e w' => e = .returned (.int .i64 (s.get p)) ∧ AnyAt w' q A (s.swap p v) ∧ Kept (OfQ q A) w w' := by
  rcases h with ⟨rfl, rfl, rfl⟩ | ⟨a, rfl, h⟩
  · refine (swap_nil p v).mono ?_
    rintro e w' ⟨rfl, rfl⟩
    exact ⟨by rw [none_get], .inl ⟨rfl, rfl, by simp [St.swap, none_has]⟩, Kept.refl _ _⟩
  · exact (swap_c p v h hn).mono fun _ _ ⟨h1, h2, h3⟩ => ⟨h1, .of h2, h3.more fun i _ => of_to a A i⟩
theorem cas_q (p o v : Int) (h : AnyAt w q A s) (hn : s.ops < 4611686018427387904) : Calls Try.prog 19 #[.pointer q, .int .i64 p, .int .i64 o, .int .i64 v] w fun e w' => e = .returned (.bool (s.hits p o)) ∧ AnyAt w' q A (s.cas p o v) ∧ Kept (OfQ q A) w w' := by
  rcases h with ⟨rfl, rfl, rfl⟩ | ⟨a, rfl, h⟩
  · refine (cas_nil p o v).mono ?_
    rintro e w' ⟨rfl, rfl⟩
    exact ⟨by simp [St.hits, none_has], .inl ⟨rfl, rfl, by simp [St.cas, none_has]⟩, Kept.refl _ _⟩
  · exact (cas_c p o v h hn).mono fun _ _ ⟨h1, h2, h3⟩ => ⟨h1, .of h2, h3.more fun i _ => of_to a A i⟩
theorem add_q (p v : Int) (h : AnyAt w q A s) (hn : s.ops < 4611686018427387904) : Calls Try.prog 20 #[.pointer q, .int .i64 p, .int .i64 v] w fun e w' => e = .returned (.int .i64 (s.sum p v)) ∧ AnyAt w' q A (s.add p v) ∧ Kept (OfQ q A) w w' := by
  rcases h with ⟨rfl, rfl, rfl⟩ | ⟨a, rfl, h⟩
  · refine (add_nil p v).mono ?_
    rintro e w' ⟨rfl, rfl⟩
    exact ⟨by simp [St.sum, none_has], .inl ⟨rfl, rfl, by simp [St.add, none_has]⟩, Kept.refl _ _⟩
  · exact (add_c p v h hn).mono fun _ _ ⟨h1, h2, h3⟩ => ⟨h1, .of h2, h3.more fun i _ => of_to a A i⟩
theorem take_full_q (n : Int) (h : AnyAt w q A s) (h0 : 0 ≤ n) (hn : (s.room : Int) - s.ws.length < n) : Calls Try.prog 15 #[.pointer q, .int .i64 n] w fun e w' => e = .returned (.tuple #[.int .i64 0, .int .i64 3]) ∧ ∃ k, w' = w.drewN k := by
  rcases h with ⟨rfl, rfl, rfl⟩ | ⟨a, rfl, h⟩
  · refine (take_full_nil n (by have e : (fresh 0).room = 0 ∧ (fresh 0).ws = [] := ⟨rfl, rfl⟩; rw [e.1, e.2] at hn; simp at hn; omega)).mono ?_
    rintro e w' ⟨rfl, rfl⟩
    exact ⟨rfl, 0, rfl⟩
  · exact take_full n h h0 hn
theorem take_q (n : Nat) (h : AnyAt w q A s) (hn : s.ws.length + n ≤ s.room) : Calls Try.prog 15 #[.pointer q, .int .i64 n] w fun e w' => e = .returned (.tuple #[.int .i64 ((s.ws.length : Int) + 1), .int .i64 0]) ∧ AnyAt w' q A (s.take n) ∧ Kept (OfQ q A) w w' := by
  rcases h with ⟨rfl, rfl, rfl⟩ | ⟨a, rfl, h⟩
  · have e : (fresh 0).room = 0 ∧ (fresh 0).ws = [] := ⟨rfl, rfl⟩
    rw [e.1] at hn
    obtain rfl : n = 0 := by omega
    refine take_zero_nil.mono ?_
    rintro e w' ⟨rfl, rfl⟩
    exact ⟨rfl, .inl ⟨rfl, rfl, rfl⟩, Kept.refl _ _⟩
  · rcases Nat.eq_zero_or_pos n with h0 | h0
    · subst h0
      refine (take_zero h).mono ?_
      rintro e w' ⟨rfl, k, rfl⟩
      exact ⟨rfl, .of (by simpa [St.take] using h.drewN k), (Kept.refl _ w).drewN k⟩
    · refine (take_some n h h0 hn).mono ?_
      rintro e w' ⟨rfl, h1, k⟩
      exact ⟨rfl, .of h1, k.more fun i _ hi => .inl (by rw [hi])⟩
end
end Go.Proofs.Ytgljgdnnpmaigaa
