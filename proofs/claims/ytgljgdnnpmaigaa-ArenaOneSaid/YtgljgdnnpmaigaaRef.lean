/- What the calls of the document's own arena do. -/
import Derived.Test.YtgljgdnnpmaigaaRow
import Derived.Test.YtgljgdnnpmaigaaArenaWords
namespace Go.Proofs.Ytgljgdnnpmaigaa
open Go.RowKit

/-- The document's arena at block b, its words in the slice (A, c). -/
structure RefAt (w : World) (b : Nat) (A : Option Addr) (c : Nat) (s : St) : Prop where
  own : Is w b 53 #[.int .i64 s.room, .slice A s.ws.length c, .int .i64 s.ops, .int .i64 s.k, .int .i64 s.p, .bool s.wr]
  row : Row w (.slice A s.ws.length c) s.ws
  fits : s.ws.length ≤ s.room
  small : s.room ≤ 4096

/-- Its blocks. -/
def OfR (b : Nat) (A : Option Addr) : Nat → Prop := fun k => k = b ∨ In A k

def St.op (s : St) (k p v : Int) (wr : Bool) : St := if s.has p then (if wr then (s.put p v).note k p true else s.note k p false) else s

section
variable {b c : Nat} {A : Option Addr} {s : St} {w w' : World} {S : Nat → Prop}

theorem RefAt.kept (h : RefAt w b A c s) (k : Kept S w w') (hb : ¬ S b) (hA : ∀ g, In A g → ¬ S g) : RefAt w' b A c s :=
  ⟨h.own.kept k hb, h.row.kept k hA, h.fits, h.small⟩
theorem RefAt.keptNil (h : RefAt w b A c s) (k : Kept Nil w w') : RefAt w' b A c s := h.kept k (fun x => x) (fun _ _ x => x)
theorem RefAt.drewN (h : RefAt w b A c s) (n : Nat) : RefAt (w.drewN n) b A c s := h.keptNil ((Kept.refl _ w).drewN n)
theorem RefAt.c0 (h : RefAt w b A c s) : w.cell? ⟨b, 0, none⟩ = some (.int .i64 s.room) := h.own.cell 0
theorem RefAt.c1 (h : RefAt w b A c s) : w.cell? ⟨b, 1, none⟩ = some (.slice A s.ws.length c) := h.own.cell 1
theorem RefAt.c2 (h : RefAt w b A c s) : w.cell? ⟨b, 2, none⟩ = some (.int .i64 s.ops) := h.own.cell 2
theorem RefAt.c3 (h : RefAt w b A c s) : w.cell? ⟨b, 3, none⟩ = some (.int .i64 s.k) := h.own.cell 3
theorem RefAt.c4 (h : RefAt w b A c s) : w.cell? ⟨b, 4, none⟩ = some (.int .i64 s.p) := h.own.cell 4
theorem RefAt.c5 (h : RefAt w b A c s) : w.cell? ⟨b, 5, none⟩ = some (.bool s.wr) := h.own.cell 5

/-- The word that is there. -/
theorem RefAt.word (h : RefAt w b A c s) {p : Int} (hp : s.has p = true) : ∃ g, A = some ⟨g, 0, none⟩ ∧ w.cell? ⟨g, p.toNat - 1, none⟩ = some (.int .i64 (s.get p)) ∧ w.frozen? ⟨g, p.toNat - 1, none⟩ = false ∧ g ≠ b := by
  have hb := has_true hp
  obtain ⟨g, hA, hc, hf⟩ := h.row.cell (k := p.toNat - 1) (by omega)
  refine ⟨g, hA, ?_, hf, ?_⟩
  · unfold St.get
    rw [if_pos hp]
    exact hc
  · rintro rfl
    exact h.row.ne h.own (by decide) (by rw [hA]; rfl)
theorem RefAt.put {g : Nat} {v : Int} (h : RefAt w b (some ⟨g, 0, none⟩) c s) {p : Int} : RefAt (w.setCell ⟨g, p.toNat - 1, none⟩ (.int .i64 v)) b (some ⟨g, 0, none⟩) c (s.put p v) := by
  have hne : b ≠ g := by
    rintro rfl
    exact h.row.ne h.own (by decide) rfl
  refine ⟨?_, ?_, by simpa [St.put] using h.fits, h.small⟩
  · have := h.own.other (p := ⟨g, p.toNat - 1, none⟩) hne (.int .i64 v)
    simpa [St.put] using this
  · have := h.row.store (p.toNat - 1) v
    simpa [St.put] using this
/-- An op is counted. -/
theorem RefAt.note (h : RefAt w b A c s) (k p : Int) (wr : Bool) :
    RefAt ((((w.setCell ⟨b, 2, none⟩ (.int .i64 ((s.ops : Int) + 1))).setCell ⟨b, 3, none⟩ (.int .i64 k)).setCell ⟨b, 4, none⟩ (.int .i64 p)).setCell ⟨b, 5, none⟩ (.bool wr)) b A c (s.note k p wr) := by
  have hk : Kept (fun i => i = b) w ((((w.setCell ⟨b, 2, none⟩ (.int .i64 ((s.ops : Int) + 1))).setCell ⟨b, 3, none⟩ (.int .i64 k)).setCell ⟨b, 4, none⟩ (.int .i64 p)).setCell ⟨b, 5, none⟩ (.bool wr)) :=
    ((((Kept.refl (fun i => i = b) w).set (p := ⟨b, 2, none⟩) (fun _ => rfl) _).set (p := ⟨b, 3, none⟩) (fun _ => rfl) _).set (p := ⟨b, 4, none⟩) (fun _ => rfl) _).set (p := ⟨b, 5, none⟩) (fun _ => rfl) _
  refine ⟨?_, ?_, h.fits, h.small⟩
  · have := (((h.own.set 2 (.int .i64 ((s.ops : Int) + 1))).set 3 (.int .i64 k)).set 4 (.int .i64 p)).set 5 (.bool wr)
    simpa [St.note] using this
  · refine h.row.kept hk fun g hg e => ?_
    subst e
    exact h.row.ne h.own (by decide) hg

set_option maxHeartbeats 400000

theorem rnew_c (room : Int) (w : World) : Calls Try.prog 8 #[.int .i64 room] w fun e w' => e = .returned (.pointer (some ⟨w.heap.size, 0, none⟩)) ∧ RefAt w' w.heap.size none 0 (fresh room) ∧ Kept Nil w w' := by
  obtain ⟨n, hn⟩ : ∃ n : Nat, n = (min (max room 0) 4096).toNat := ⟨_, rfl⟩
  have hfin : RefAt (w.alloc (.cells #[.int .i64 n, .slice none 0 0, .int .i64 0, .int .i64 0, .int .i64 0, .bool false] 53)) w.heap.size none 0 (fresh room) := by
    refine ⟨?_, (Row.empty w).alloc _, Nat.zero_le _, by show (min (max room 0) 4096).toNat ≤ 4096; omega⟩
    have := Is.new w 53 #[.int .i64 n, .slice none 0 0, .int .i64 0, .int .i64 0, .int .i64 0, .bool false]
    rw [show (fresh room).room = n from hn.symm]
    exact this
  rcases (show room < 0 ∨ (0 ≤ room ∧ room ≤ 4096) ∨ 4096 < room by omega) with h | ⟨h, h'⟩ | h
  · rw [show (n : Int) = 0 by omega] at hfin
    have Hf := hide hfin
    clear hfin hn
    go_enter Try.func8, Try.ntmps8
    go_wp2_with fail
    go_ret
    exact ⟨rfl, Hf.out, (Kept.refl _ w).alloc _⟩
  · rw [show (n : Int) = room by omega] at hfin
    have Hf := hide hfin
    clear hfin hn
    go_enter Try.func8, Try.ntmps8
    go_wp2_with fail
    go_ret
    exact ⟨rfl, Hf.out, (Kept.refl _ w).alloc _⟩
  · rw [show (n : Int) = 4096 by omega] at hfin
    have Hf := hide hfin
    clear hfin hn
    go_enter Try.func8, Try.ntmps8
    go_wp2_with fail
    go_ret
    exact ⟨rfl, Hf.out, (Kept.refl _ w).alloc _⟩

theorem rop_c (k p v : Int) (wr : Bool) (h : RefAt w b A c s) (hn : s.ops < 4611686018427387904) : Calls Try.prog 36 #[.pointer (some ⟨b, 0, none⟩), .int .i64 k, .int .i64 p, .int .i64 v, .bool wr] w fun e w' =>
    e = .returned (.tuple #[.int .i64 (s.get p), .bool (s.has p)]) ∧ RefAt w' b A c (s.op k p v wr) ∧ Kept (OfR b A) w w' := by
  have g1 := h.c1
  have f1 := h.fits
  have f2 := h.small
  by_cases hp : s.has p = true
  · have hb := has_true hp
    have g2 := h.c2
    have g3 := h.c3
    have g4 := h.c4
    have g5 := h.c5
    have z2 := h.own.free 2
    have z3 := h.own.free 3
    have z4 := h.own.free 4
    have z5 := h.own.free 5
    obtain ⟨g, rfl, hc, hf, hne⟩ := h.word hp
    have e1 : ¬ p < 1 := by omega
    have hret : s.has p = true := hp
    cases wr with
    | true =>
      have hfin := (h.note k p true).put (p := p) (v := v)
      have hst : s.op k p v true = (s.note k p true).put p v := by simp [St.op, hp]; rfl
      rw [← hst] at hfin
      have Hf := hide hfin
      have Hk := hide (((((Kept.refl (OfR b (some ⟨g, 0, none⟩)) w).set (p := ⟨b, 2, none⟩) (fun _ => .inl rfl) (.int .i64 ((s.ops : Int) + 1))).set (p := ⟨b, 3, none⟩) (fun _ => .inl rfl) (.int .i64 k)).set (p := ⟨b, 4, none⟩) (fun _ => .inl rfl) (.int .i64 p)).set (p := ⟨b, 5, none⟩) (fun _ => .inl rfl) (.bool true) |>.set (p := ⟨g, p.toNat - 1, none⟩) (fun _ => .inr rfl) (.int .i64 v))
      have Hp := hide hp
      clear hfin hst hp hret
      go_enter Try.func36, Try.ntmps36
      go_wp2_with fail
      go_ret2
      exact ⟨by rw [Hp.out]; rfl, Hf.out, Hk.out⟩
    | false =>
      have hfin := h.note k p false
      have hst : s.op k p v false = s.note k p false := by simp [St.op, hp]
      rw [← hst] at hfin
      have Hf := hide hfin
      have Hk := hide (((((Kept.refl (OfR b (some ⟨g, 0, none⟩)) w).set (p := ⟨b, 2, none⟩) (fun _ => .inl rfl) (.int .i64 ((s.ops : Int) + 1))).set (p := ⟨b, 3, none⟩) (fun _ => .inl rfl) (.int .i64 k)).set (p := ⟨b, 4, none⟩) (fun _ => .inl rfl) (.int .i64 p)).set (p := ⟨b, 5, none⟩) (fun _ => .inl rfl) (.bool false))
      have Hp := hide hp
      clear hfin hst hp hret
      go_enter Try.func36, Try.ntmps36
      go_wp2_with fail
      go_ret2
      exact ⟨by rw [Hp.out]; rfl, Hf.out, Hk.out⟩
  · have hp' : s.has p = false := by simpa using hp
    have Hf := hide (show s.get p = 0 ∧ s.has p = false ∧ s.op k p v wr = s by simp [St.get, St.op, hp'])
    have hd := has_false hp'
    clear hp hp'
    rcases Int.lt_or_le p 1 with e1 | e1
    · go_enter Try.func36, Try.ntmps36
      go_wp2_with fail
      go_ret2
      exact ⟨by rw [Hf.out.1, Hf.out.2.1]; rfl, by rw [Hf.out.2.2]; exact h, Kept.refl _ _⟩
    · have e2 : (s.ws.length : Int) < p := by omega
      have e3 : decide (p < 1) = false := by simp; omega
      go_enter Try.func36, Try.ntmps36
      go_wp2_with fail
      go_ret2
      exact ⟨by rw [Hf.out.1, Hf.out.2.1]; rfl, by rw [Hf.out.2.2]; exact h, Kept.refl _ _⟩
end
end Go.Proofs.Ytgljgdnnpmaigaa
