/- What each call of package arena does, said of the arena's two blocks: its own and that of its words. -/
import Derived.Test.YtgljgdnnpmaigaaMem
import Derived.Test.YtgljgdnnpmaigaaProg
import Derived.BigQuiet
import Derived.RegionTactic
import Derived.LaidEqlPtr
namespace Go.Proofs.Ytgljgdnnpmaigaa
open Go.RowKit

theorem i64_add (x y : Int) (w : World) : (Op.intArith .add .i64 x y).run Try.prog w = .ok (.int .i64 (wrap64 (x + y))) w := by
  simp [go_sem, wrap64, IntKind.wrap_i64]

/-- sync/atomic's own functions. -/
theorem at_load {a : Addr} {x : Int} {w : World} (hc : w.cell? a = some (.int .i64 x)) : (callFunc 38 #[.pointer (some a)]).run Try.prog w = .ok (.value (.int .i64 x)) w :=
  run_call_load Try.func38 (by kernel_rfl) (by kernel_rfl) (by kernel_rfl) .i64 (by kernel_rfl) hc
theorem at_store {a : Addr} {y : Int} {u : Value} {w : World} (hc : w.cell? a = some u) (hz : w.frozen? a = false) : (callFunc 39 #[.pointer (some a), .int .i64 y]).run Try.prog w = .ok (.value (.tuple #[])) (w.setCell a (.int .i64 y)) :=
  run_call_store Try.func39 (by kernel_rfl) (by kernel_rfl) (by kernel_rfl) (by kernel_rfl) hc hz
theorem at_swap {a : Addr} {x y : Int} {w : World} (hc : w.cell? a = some (.int .i64 x)) (hz : w.frozen? a = false) : (callFunc 40 #[.pointer (some a), .int .i64 y]).run Try.prog w = .ok (.value (.int .i64 x)) (w.setCell a (.int .i64 y)) := by
  rw [run_callFunc_extern (P := Try.prog) Try.func40 (by kernel_rfl) (by kernel_rfl) (by kernel_rfl) (show Extern.find _ = some (Extern.Atomic.swapT (.int .i64)) by kernel_rfl)]
  change (Sem.run Try.prog (do
    let a' ← asAddr (.pointer (some a))
    let old ← Extern.Atomic.read (.int .i64) a'
    store a' (.int .i64 y) .atomic
    pure old) w).andThen _ = _
  simp [Extern.Atomic.read, asAddr, hc, hz, run_store Try.prog w a (.int .i64 y) .atomic rfl, Result.andThen]
theorem at_add {a : Addr} {x y : Int} {w : World} (hc : w.cell? a = some (.int .i64 x)) (hz : w.frozen? a = false) : (callFunc 42 #[.pointer (some a), .int .i64 y]).run Try.prog w = .ok (.value (.int .i64 (wrap64 (x + y)))) (w.setCell a (.int .i64 (wrap64 (x + y)))) :=
  run_call_add Try.func42 (by kernel_rfl) (by kernel_rfl) (by kernel_rfl) .i64 (by kernel_rfl) hc hz (i64_add x y w)
theorem at_hit {a : Addr} {x y : Int} {w : World} (hc : w.cell? a = some (.int .i64 x)) (hz : w.frozen? a = false) : (callFunc 41 #[.pointer (some a), .int .i64 x, .int .i64 y]).run Try.prog w = .ok (.value (.bool true)) (w.setCell a (.int .i64 y)) :=
  run_call_cas_hit Try.func41 (by kernel_rfl) (by kernel_rfl) (by kernel_rfl) .i64 (by kernel_rfl) hc hz
theorem at_miss {a : Addr} {x o y : Int} {w : World} (hc : w.cell? a = some (.int .i64 x)) (hz : w.frozen? a = false) (hn : ¬ x = o) : (callFunc 41 #[.pointer (some a), .int .i64 o, .int .i64 y]).run Try.prog w = .ok (.value (.bool false)) w :=
  run_call_cas_miss Try.func41 (by kernel_rfl) (by kernel_rfl) (by kernel_rfl) .i64 (by kernel_rfl) hc hz hn

section
variable {a : Addr} {x y : Int} {w : World}
set_option maxHeartbeats 400000
theorem word_load (hc : w.cell? a = some (.int .i64 x)) : Calls Try.prog 28 #[.pointer (some a)] w fun e w' => e = .returned (.int .i64 x) ∧ w = w' := by
  have h := at_load hc
  go_enter Try.func28, Try.ntmps28
  go_wp2
  go_ret
  exact ⟨rfl, rfl⟩
theorem word_store (hc : w.cell? a = some (.int .i64 x)) (hz : w.frozen? a = false) : Calls Try.prog 32 #[.pointer (some a), .int .i64 y] w fun e w' => e = .returned (.tuple #[]) ∧ w.setCell a (.int .i64 y) = w' := by
  have h := at_store (y := y) hc hz
  go_enter Try.func32, Try.ntmps32
  go_wp2
  go_end0
  exact ⟨rfl, rfl⟩
theorem word_swap (hc : w.cell? a = some (.int .i64 x)) (hz : w.frozen? a = false) : Calls Try.prog 33 #[.pointer (some a), .int .i64 y] w fun e w' => e = .returned (.int .i64 x) ∧ w.setCell a (.int .i64 y) = w' := by
  have h := at_swap (y := y) hc hz
  go_enter Try.func33, Try.ntmps33
  go_wp2
  go_ret
  exact ⟨rfl, rfl⟩
theorem word_add (hc : w.cell? a = some (.int .i64 x)) (hz : w.frozen? a = false) : Calls Try.prog 35 #[.pointer (some a), .int .i64 y] w fun e w' => e = .returned (.int .i64 (wrap64 (x + y))) ∧ w.setCell a (.int .i64 (wrap64 (x + y))) = w' := by
  have h := at_add (y := y) hc hz
  go_enter Try.func35, Try.ntmps35
  go_wp2
  go_ret
  exact ⟨rfl, rfl⟩
theorem word_hit (hc : w.cell? a = some (.int .i64 x)) (hz : w.frozen? a = false) : Calls Try.prog 34 #[.pointer (some a), .int .i64 x, .int .i64 y] w fun e w' => e = .returned (.bool true) ∧ w.setCell a (.int .i64 y) = w' := by
  have h := at_hit (y := y) hc hz
  go_enter Try.func34, Try.ntmps34
  go_wp2
  go_ret
  exact ⟨rfl, rfl⟩
theorem word_miss {o : Int} (hc : w.cell? a = some (.int .i64 x)) (hz : w.frozen? a = false) (hn : ¬ x = o) : Calls Try.prog 34 #[.pointer (some a), .int .i64 o, .int .i64 y] w fun e w' => e = .returned (.bool false) ∧ w = w' := by
  have h := at_miss (y := y) hc hz hn
  go_enter Try.func34, Try.ntmps34
  go_wp2
  go_ret
  exact ⟨rfl, rfl⟩
theorem word_cas {o : Int} (hc : w.cell? a = some (.int .i64 x)) (hz : w.frozen? a = false) : Calls Try.prog 34 #[.pointer (some a), .int .i64 o, .int .i64 y] w fun e w' => e = .returned (.bool (decide (x = o))) ∧ (if x = o then w.setCell a (.int .i64 y) else w) = w' := by
  by_cases h : x = o
  · subst h
    refine (word_hit hc hz).mono ?_
    rintro e w' ⟨rfl, rfl⟩
    exact ⟨by simp, by simp⟩
  · refine (word_miss hc hz h).mono ?_
    rintro e w' ⟨rfl, rfl⟩
    exact ⟨by simp [h], by simp [h]⟩
end

/-- What an arena is: its words, how many there may be, how many ops there were, and the last one. -/
structure St where
  ws : List Int
  room : Nat
  ops : Nat
  k : Int
  p : Int
  wr : Bool

def St.row (s : St) (A : Option Addr) : Array Value := #[.slice A s.room s.room, .int .i64 s.ws.length, .int .i64 s.ops, .int .i64 s.k, .int .i64 s.p, .bool s.wr]
def St.vals (s : St) : List Int := s.ws ++ List.replicate (s.room - s.ws.length) 0
def St.cells (s : St) : Array Value := (s.vals.map (Value.int .i64)).toArray
def St.note (s : St) (k p : Int) (wr : Bool) : St := { s with ops := s.ops + 1, k := k, p := p, wr := wr }
def St.has (s : St) (at_ : Int) : Bool := decide (1 ≤ at_ ∧ at_ ≤ s.ws.length)
def St.get (s : St) (at_ : Int) : Int := if s.has at_ then s.ws.getD (at_.toNat - 1) 0 else 0
def St.put (s : St) (at_ v : Int) : St := { s with ws := s.ws.set (at_.toNat - 1) v }
/-- An op on word p, if there is such a word. -/
def St.load (s : St) (p : Int) : St := if s.has p then s.note 1 p false else s
def St.store (s : St) (p v : Int) : St := if s.has p then (s.put p v).note 2 p true else s
def St.swap (s : St) (p v : Int) : St := if s.has p then (s.put p v).note 3 p true else s
def St.hits (s : St) (p o : Int) : Bool := s.has p && decide (s.get p = o)
def St.cas (s : St) (p o v : Int) : St := if s.has p then (if s.get p = o then s.put p v else s).note 4 p (decide (s.get p = o)) else s
def St.sum (s : St) (p d : Int) : Int := if s.has p then wrap64 (s.get p + d) else 0
def St.add (s : St) (p d : Int) : St := if s.has p then (s.put p (wrap64 (s.get p + d))).note 5 p true else s
def St.take (s : St) (n : Nat) : St := { s with ws := s.ws ++ List.replicate n 0 }

/-- The arena at block a, its words at A. -/
structure ArenaAt (w : World) (a : Nat) (A : Option Addr) (s : St) : Prop where
  own : Is w a 37 (s.row A)
  words : (A = none ∧ s.room = 0) ∨ ∃ b, A = some ⟨b, 0, none⟩ ∧ Is w b 58 s.cells
  fits : s.ws.length ≤ s.room
  small : s.room ≤ 4096

theorem ArenaAt.wb {w : World} {a : Nat} {A : Option Addr} {s : St} (h : ArenaAt w a A s) (hr : 0 < s.room) : ∃ b, A = some ⟨b, 0, none⟩ ∧ Is w b 58 s.cells := by
  rcases h.words with ⟨_, h0⟩ | h1
  · omega
  · exact h1

/-- The blocks of an arena. -/
def Of (a : Nat) (A : Option Addr) : Nat → Prop := fun k => k = a ∨ A = some ⟨k, 0, none⟩

theorem ArenaAt.kept {w w' : World} {a : Nat} {A : Option Addr} {s : St} {S : Nat → Prop} (h : ArenaAt w a A s) (k : Kept S w w') (ha : ¬ S a) (hA : ∀ b cs, A = some ⟨b, 0, none⟩ → Is w b 58 cs → ¬ S b) : ArenaAt w' a A s :=
  ⟨h.own.kept k ha, h.words.imp id (fun ⟨b, e, hb⟩ => ⟨b, e, hb.kept k (hA b _ e hb)⟩), h.fits, h.small⟩
/-- No block of another kind is one of an arena's. -/
theorem ArenaAt.other {w : World} {a : Nat} {A : Option Addr} {s : St} (h : ArenaAt w a A s) {g : Nat} {t : TypeId} {cs : Array Value} (hi : Is w g t cs) (h1 : t ≠ 37) (h2 : t ≠ 58) : ¬ Of a A g := by
  rintro (e | e)
  · subst e
    exact hi.ne h.own h1 rfl
  · rcases h.words with ⟨e2, _⟩ | ⟨b, e2, hb⟩
    · rw [e] at e2; cases e2
    · rw [e] at e2
      injection e2 with e2; injection e2 with e2
      subst e2
      exact hi.ne hb h2 rfl
theorem ArenaAt.ge {w : World} {a : Nat} {A : Option Addr} {s : St} (h : ArenaAt w a A s) {g : Nat} (hg : Of a A g) : g < w.heap.size := by
  rcases hg with e | e
  · subst e; exact h.own.lt
  · rcases h.words with ⟨e2, _⟩ | ⟨b, e2, hb⟩
    · rw [e] at e2; cases e2
    · rw [e] at e2
      injection e2 with e2; injection e2 with e2
      subst e2
      exact hb.lt
theorem ArenaAt.keptNil {w w' : World} {a : Nat} {A : Option Addr} {s : St} (h : ArenaAt w a A s) (k : Kept Nil w w') : ArenaAt w' a A s := h.kept k (fun c => c) (fun _ _ _ _ c => c)

section
variable {a : Nat} {A : Option Addr} {s : St} {w : World}
set_option maxHeartbeats 400000

/-- The cells of an arena's own block. -/
theorem ArenaAt.c0 (h : ArenaAt w a A s) : w.cell? ⟨a, 0, none⟩ = some (.slice A s.room s.room) := h.own.cell 0
theorem ArenaAt.c1 (h : ArenaAt w a A s) : w.cell? ⟨a, 1, none⟩ = some (.int .i64 s.ws.length) := h.own.cell 1
theorem ArenaAt.c2 (h : ArenaAt w a A s) : w.cell? ⟨a, 2, none⟩ = some (.int .i64 s.ops) := h.own.cell 2
theorem ArenaAt.c3 (h : ArenaAt w a A s) : w.cell? ⟨a, 3, none⟩ = some (.int .i64 s.k) := h.own.cell 3
theorem ArenaAt.c4 (h : ArenaAt w a A s) : w.cell? ⟨a, 4, none⟩ = some (.int .i64 s.p) := h.own.cell 4
theorem ArenaAt.c5 (h : ArenaAt w a A s) : w.cell? ⟨a, 5, none⟩ = some (.bool s.wr) := h.own.cell 5

theorem len_c (h : ArenaAt w a A s) : Calls Try.prog 11 #[.pointer (some ⟨a, 0, none⟩)] w fun e w' => e = .returned (.int .i64 s.ws.length) ∧ w = w' := by
  have g1 := h.c1
  go_enter Try.func11, Try.ntmps11
  go_wp2
  go_ret
  exact ⟨rfl, rfl⟩
theorem len_nil : Calls Try.prog 11 #[.pointer none] w fun e w' => e = .returned (.int .i64 0) ∧ w = w' := by
  go_enter Try.func11, Try.ntmps11
  go_wp2
  go_ret
  exact ⟨rfl, rfl⟩
theorem ops_c (h : ArenaAt w a A s) : Calls Try.prog 12 #[.pointer (some ⟨a, 0, none⟩)] w fun e w' => e = .returned (.int .i64 s.ops) ∧ w = w' := by
  have g1 := h.c2
  go_enter Try.func12, Try.ntmps12
  go_wp2
  go_ret
  exact ⟨rfl, rfl⟩
theorem ops_nil : Calls Try.prog 12 #[.pointer none] w fun e w' => e = .returned (.int .i64 0) ∧ w = w' := by
  go_enter Try.func12, Try.ntmps12
  go_wp2
  go_ret
  exact ⟨rfl, rfl⟩
theorem left_c (h : ArenaAt w a A s) : Calls Try.prog 29 #[.pointer (some ⟨a, 0, none⟩)] w fun e w' => e = .returned (.int .i64 ((s.room : Int) - s.ws.length)) ∧ ∃ n, w' = w.drewN n := by
  have g0 := h.c0
  have g1 := h.c1
  have f1 := h.fits
  have f2 := h.small
  go_enter Try.func29, Try.ntmps29
  go_wp2
  go_quiet (fail)
  go_wp2
  go_ret
  exact ⟨rfl, _, rfl⟩
theorem left_nil : Calls Try.prog 29 #[.pointer none] w fun e w' => e = .returned (.int .i64 0) ∧ w = w' := by
  go_enter Try.func29, Try.ntmps29
  go_wp2
  go_ret
  exact ⟨rfl, rfl⟩
end
end Go.Proofs.Ytgljgdnnpmaigaa
