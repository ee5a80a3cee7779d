/- What the ops of an arena do. -/
import Derived.Test.YtgljgdnnpmaigaaArena
namespace Go.Proofs.Ytgljgdnnpmaigaa
open Go.RowKit

theorem has_true {s : St} {p : Int} (h : s.has p = true) : 1 ≤ p ∧ p ≤ s.ws.length := by unfold St.has at h; exact of_decide_eq_true h
theorem has_false {s : St} {p : Int} (h : s.has p = false) : p < 1 ∨ (s.ws.length : Int) < p := by unfold St.has at h; have := of_decide_eq_false h; omega

section
variable {a : Nat} {A : Option Addr} {s : St} {w : World}
set_option maxHeartbeats 400000

theorem has_c (p : Int) (h : ArenaAt w a A s) : Calls Try.prog 30 #[.pointer (some ⟨a, 0, none⟩), .int .i64 p] w fun e w' => e = .returned (.bool (s.has p)) ∧ w = w' := by
  have hl := hide (len_c h)
  by_cases h1 : 1 ≤ p
  · go_enter Try.func30, Try.ntmps30
    go_wp2_with (go_at_call 11; refine hl.out.mono ?_; rintro e w' ⟨rfl, rfl⟩)
    go_ret
    exact ⟨by simp [St.has, h1], rfl⟩
  · have h2 : decide (1 ≤ p) = false := by simpa using h1
    go_enter Try.func30, Try.ntmps30
    go_wp2_with fail
    go_ret
    exact ⟨by simp [St.has]; omega, rfl⟩
theorem has_nil (p : Int) : Calls Try.prog 30 #[.pointer none, .int .i64 p] w fun e w' => e = .returned (.bool false) ∧ w = w' := by
  by_cases h1 : 1 ≤ p
  · go_enter Try.func30, Try.ntmps30
    go_wp2_with (go_at_call 11; refine len_nil.mono ?_; rintro e w' ⟨rfl, rfl⟩)
    go_ret
    exact ⟨by simp; omega, rfl⟩
  · have h2 : decide (1 ≤ p) = false := by simpa using h1
    go_enter Try.func30, Try.ntmps30
    go_wp2_with fail
    go_ret
    exact ⟨rfl, rfl⟩

/-- An op is counted. -/
theorem note_any {u0 u1 u2 u3 u4 : Value} {n : Nat} {wr : Bool} (k p : Int) (h : Is w a 37 #[u0, u1, .int .i64 n, u2, u3, u4]) (hn : n < 4611686018427387904) :
    Calls Try.prog 31 #[.pointer (some ⟨a, 0, none⟩), .int .i64 k, .int .i64 p, .bool wr] w fun e w' => e = .returned (.tuple #[]) ∧ Is w' a 37 #[u0, u1, .int .i64 (n + 1 : Nat), .int .i64 k, .int .i64 p, .bool wr] ∧ Kept (fun i => i = a) w w' := by
  have g2 := h.cell 2
  have g3 := h.cell 3
  have g4 := h.cell 4
  have g5 := h.cell 5
  have f2 := h.free 2
  have f3 := h.free 3
  have f4 := h.free 4
  have f5 := h.free 5
  simp at g2 g3 g4 g5
  have hfin : Is ((((w.setCell ⟨a, 2, none⟩ (.int .i64 ((n : Int) + 1))).setCell ⟨a, 3, none⟩ (.int .i64 k)).setCell ⟨a, 4, none⟩ (.int .i64 p)).setCell ⟨a, 5, none⟩ (.bool wr)) a 37 #[u0, u1, .int .i64 (n + 1 : Nat), .int .i64 k, .int .i64 p, .bool wr] := by
    have := (((h.set 2 (.int .i64 ((n : Int) + 1))).set 3 (.int .i64 k)).set 4 (.int .i64 p)).set 5 (.bool wr)
    simpa using this
  have hfin2 : Kept (fun i => i = a) w ((((w.setCell ⟨a, 2, none⟩ (.int .i64 ((n : Int) + 1))).setCell ⟨a, 3, none⟩ (.int .i64 k)).setCell ⟨a, 4, none⟩ (.int .i64 p)).setCell ⟨a, 5, none⟩ (.bool wr)) :=
    ((((Kept.refl (fun i => i = a) w).set (p := ⟨a, 2, none⟩) (fun _ => rfl) _).set (p := ⟨a, 3, none⟩) (fun _ => rfl) _).set (p := ⟨a, 4, none⟩) (fun _ => rfl) _).set (p := ⟨a, 5, none⟩) (fun _ => rfl) _
  go_enter Try.func31, Try.ntmps31
  go_wp2
  go_end0
  exact ⟨rfl, hfin, hfin2⟩
theorem note_c {wr : Bool} (k p : Int) (h : ArenaAt w a A s) (hn : s.ops < 4611686018427387904) :
    Calls Try.prog 31 #[.pointer (some ⟨a, 0, none⟩), .int .i64 k, .int .i64 p, .bool wr] w fun e w' => e = .returned (.tuple #[]) ∧ ArenaAt w' a A (s.note k p wr) ∧ Kept (fun i => i = a) w w' := by
  refine (note_any k p h.own hn).mono ?_
  rintro e w' ⟨rfl, h1, h2⟩
  exact ⟨rfl, ⟨h1, h.words.imp id (fun ⟨b, e, hb⟩ => ⟨b, e, hb.kept h2 (fun c => h.own.ne hb (by decide) c.symm)⟩), h.fits, h.small⟩, h2⟩

/-- The word that is there. -/
theorem word_at (h : ArenaAt w a A s) {p : Int} (hp : s.has p = true) : ∃ b, A = some ⟨b, 0, none⟩ ∧ Is w b 58 s.cells ∧ w.cell? ⟨b, (p.toNat - 1), none⟩ = some (.int .i64 (s.get p)) ∧ w.frozen? ⟨b, (p.toNat - 1), none⟩ = false ∧ (p.toNat - 1) < s.ws.length := by
  obtain ⟨h1, h2⟩ := has_true hp
  have hf := h.fits
  obtain ⟨b, e, hb⟩ := h.wb (by omega)
  have hlt : (p.toNat - 1) < s.ws.length := by omega
  refine ⟨b, e, hb, ?_, hb.free _, hlt⟩
  rw [hb.cell]
  unfold St.cells St.vals St.get
  rw [if_pos hp]
  rw [List.getElem?_toArray, List.getElem?_map, List.getElem?_append_left hlt, List.getElem?_eq_getElem hlt]
  simp only [Option.map_some, List.getD, List.getElem?_eq_getElem hlt, Option.getD_some]
/-- The words behind a store. -/
theorem put_cells {v : Int} {p : Nat} (hlt : p < s.ws.length) : s.cells.setIfInBounds p (.int .i64 v) = (({ s with ws := s.ws.set p v } : St)).cells := by
  unfold St.cells St.vals
  apply Array.ext'
  simp only [Array.toList_setIfInBounds, List.length_set]
  rw [← List.map_set, List.set_append_left _ _ hlt]
theorem put_at {v : Int} {b : Nat} {p : Int} (h : ArenaAt w a (some ⟨b, 0, none⟩) s) (hb : Is w b 58 s.cells) (hp : s.has p = true) : ArenaAt (w.setCell ⟨b, (p.toNat - 1), none⟩ (.int .i64 v)) a (some ⟨b, 0, none⟩) (s.put p v) := by
  have hlt : (p.toNat - 1) < s.ws.length := by have := has_true hp; omega
  refine ⟨?_, .inr ⟨b, rfl, ?_⟩, by simpa [St.put] using h.fits, h.small⟩
  · have := h.own.other (p := ⟨b, (p.toNat - 1), none⟩) (h.own.ne hb (by decide)) (.int .i64 v)
    simpa [St.row, St.put] using this
  · have := hb.set (p.toNat - 1) (.int .i64 v)
    rw [put_cells hlt] at this
    exact this

theorem note_put (v : Int) {k p : Int} : (s.note k p true).put p v = (s.put p v).note k p true := rfl
theorem get_note {k p q : Int} {wr : Bool} : (s.note k p wr).get q = s.get q := rfl
theorem has_note {k p q : Int} {wr : Bool} : (s.note k p wr).has q = s.has q := rfl


theorem load_c (p : Int) (h : ArenaAt w a A s) (hn : s.ops < 4611686018427387904) : Calls Try.prog 16 #[.pointer (some ⟨a, 0, none⟩), .int .i64 p] w fun e w' =>
    e = .returned (.int .i64 (s.get p)) ∧ ArenaAt w' a A (s.load p) ∧ Kept (Of a A) w w' := by
  have hh := hide (has_c p h)
  by_cases hp : s.has p = true
  · have hm := hide (note_c (wr := false) 1 p h hn)
    have hb := has_true hp
    rw [hp] at hh
    have hr := h.fits
    have hs := h.small
    obtain ⟨b, rfl, hb0, _, _, _⟩ := word_at h hp
    go_enter Try.func16, Try.ntmps16
    go_wp2_with fail
    refine hh.out.mono ?_
    rintro e w' ⟨rfl, rfl⟩
    go_wp2_with fail
    refine hm.out.mono ?_
    rintro e w1 ⟨rfl, h1, k1⟩
    have hc := h1.c0
    obtain ⟨b', e', hb1, hcell, _, _⟩ := word_at h1 (p := p) hp
    obtain rfl : b' = b := by injection e' with e'; injection e' with e'; exact e'.symm
    have hl := hide (word_load hcell)
    have hroom : (s.note 1 p false).room = s.room := rfl
    rw [hroom] at hc
    clear hroom e'
    go_wp2_with fail
    refine hl.out.mono ?_
    rintro e w2 ⟨rfl, rfl⟩
    go_wp2_with fail
    go_ret
    exact ⟨rfl, by unfold St.load; rw [if_pos hp]; exact h1, k1.more (fun i _ hi => .inl hi)⟩
  · have hp' : s.has p = false := by simpa using hp
    rw [hp'] at hh
    have hfin : s.get p = 0 ∧ s.load p = s := by simp [St.get, St.load, hp']
    have Hf := hide hfin
    clear hfin
    go_enter Try.func16, Try.ntmps16
    go_wp2_with fail
    refine hh.out.mono ?_
    rintro e w' ⟨rfl, rfl⟩
    go_wp2_with fail
    go_ret
    exact ⟨by rw [Hf.out.1]; rfl, by rw [Hf.out.2]; exact h, Kept.refl _ _⟩

theorem store_c (p v : Int) (h : ArenaAt w a A s) (hn : s.ops < 4611686018427387904) : Calls Try.prog 17 #[.pointer (some ⟨a, 0, none⟩), .int .i64 p, .int .i64 v] w fun e w' =>
    e = .returned (.tuple #[]) ∧ ArenaAt w' a A (s.store p v) ∧ Kept (Of a A) w w' := by
  have hh := hide (has_c p h)
  by_cases hp : s.has p = true
  · have hm := hide (note_c (wr := true) 2 p h hn)
    have hb := has_true hp
    rw [hp] at hh
    have hr := h.fits
    have hs := h.small
    obtain ⟨b, rfl, hb0, _, _, _⟩ := word_at h hp
    have hfin : (0:Int) = 0 ∧ s.store p v = (s.put p (v)).note 2 p true := by simp [St.store, hp]
    have Hf := hide hfin
    clear hfin
    go_enter Try.func17, Try.ntmps17
    go_wp2_with fail
    refine hh.out.mono ?_
    rintro e w' ⟨rfl, rfl⟩
    go_wp2_with fail
    refine hm.out.mono ?_
    rintro e w1 ⟨rfl, h1, k1⟩
    have hc := h1.c0
    obtain ⟨b', e', hb1, hcell, hfree, _⟩ := word_at h1 (p := p) hp
    obtain rfl : b' = b := by injection e' with e'; injection e' with e'; exact e'.symm
    have hl := hide (word_store (y := v) hcell hfree)
    have hroom : (s.note 2 p true).room = s.room := rfl
    rw [hroom] at hc
    clear hroom e' hcell hfree
    go_wp2_with fail
    refine hl.out.mono ?_
    rintro e w2 ⟨rfl, rfl⟩
    go_wp2_with fail
    go_end0
    exact ⟨rfl, by rw [Hf.out.2]; exact put_at h1 hb1 hp, (k1.more (fun i _ hi => .inl hi)).set (p := ⟨b', p.toNat - 1, none⟩) (fun _ => .inr rfl) _⟩
  · have hp' : s.has p = false := by simpa using hp
    rw [hp'] at hh
    have hfin : s.store p v = s := by simp [St.store, hp']
    have Hf := hide hfin
    clear hfin
    go_enter Try.func17, Try.ntmps17
    go_wp2_with fail
    refine hh.out.mono ?_
    rintro e w' ⟨rfl, rfl⟩
    go_wp2_with fail
    refine bodyPost_ret (results_none rfl _ _ _) rfl ?_
    exact ⟨rfl, by rw [Hf.out]; exact h, Kept.refl _ _⟩

theorem swap_c (p v : Int) (h : ArenaAt w a A s) (hn : s.ops < 4611686018427387904) : Calls Try.prog 18 #[.pointer (some ⟨a, 0, none⟩), .int .i64 p, .int .i64 v] w fun e w' =>
    e = .returned (.int .i64 (s.get p)) ∧ ArenaAt w' a A (s.swap p v) ∧ Kept (Of a A) w w' := by
  have hh := hide (has_c p h)
  by_cases hp : s.has p = true
  · have hm := hide (note_c (wr := true) 3 p h hn)
    have hb := has_true hp
    rw [hp] at hh
    have hr := h.fits
    have hs := h.small
    obtain ⟨b, rfl, hb0, _, _, _⟩ := word_at h hp
    have hfin : s.swap p v = (s.put p (v)).note 3 p true := by simp [St.swap, hp]
    have Hf := hide hfin
    clear hfin
    go_enter Try.func18, Try.ntmps18
    go_wp2_with fail
    refine hh.out.mono ?_
    rintro e w' ⟨rfl, rfl⟩
    go_wp2_with fail
    refine hm.out.mono ?_
    rintro e w1 ⟨rfl, h1, k1⟩
    have hc := h1.c0
    obtain ⟨b', e', hb1, hcell, hfree, _⟩ := word_at h1 (p := p) hp
    obtain rfl : b' = b := by injection e' with e'; injection e' with e'; exact e'.symm
    have hl := hide (word_swap (y := v) hcell hfree)
    have hroom : (s.note 3 p true).room = s.room := rfl
    rw [hroom] at hc
    clear hroom e' hcell hfree
    go_wp2_with fail
    refine hl.out.mono ?_
    rintro e w2 ⟨rfl, rfl⟩
    go_wp2_with fail
    go_ret
    exact ⟨rfl, by rw [Hf.out]; exact put_at h1 hb1 hp, (k1.more (fun i _ hi => .inl hi)).set (p := ⟨b', p.toNat - 1, none⟩) (fun _ => .inr rfl) _⟩
  · have hp' : s.has p = false := by simpa using hp
    rw [hp'] at hh
    have hfin : s.get p = 0 ∧ s.swap p v = s := by simp [St.get, St.swap, hp']
    have Hf := hide hfin
    clear hfin
    go_enter Try.func18, Try.ntmps18
    go_wp2_with fail
    refine hh.out.mono ?_
    rintro e w' ⟨rfl, rfl⟩
    go_wp2_with fail
    go_ret
    exact ⟨by rw [Hf.out.1]; rfl, by rw [Hf.out.2]; exact h, Kept.refl _ _⟩

theorem add_c (p v : Int) (h : ArenaAt w a A s) (hn : s.ops < 4611686018427387904) : Calls Try.prog 20 #[.pointer (some ⟨a, 0, none⟩), .int .i64 p, .int .i64 v] w fun e w' =>
    e = .returned (.int .i64 (s.sum p v)) ∧ ArenaAt w' a A (s.add p v) ∧ Kept (Of a A) w w' := by
  have hh := hide (has_c p h)
  by_cases hp : s.has p = true
  · have hm := hide (note_c (wr := true) 5 p h hn)
    have hb := has_true hp
    rw [hp] at hh
    have hr := h.fits
    have hs := h.small
    obtain ⟨b, rfl, hb0, _, _, _⟩ := word_at h hp
    have hfin : s.sum p v = wrap64 (s.get p + v) ∧ s.add p v = (s.put p (wrap64 (s.get p + v))).note 5 p true := by simp [St.sum, St.add, hp]
    have Hf := hide hfin
    clear hfin
    go_enter Try.func20, Try.ntmps20
    go_wp2_with fail
    refine hh.out.mono ?_
    rintro e w' ⟨rfl, rfl⟩
    go_wp2_with fail
    refine hm.out.mono ?_
    rintro e w1 ⟨rfl, h1, k1⟩
    have hc := h1.c0
    obtain ⟨b', e', hb1, hcell, hfree, _⟩ := word_at h1 (p := p) hp
    obtain rfl : b' = b := by injection e' with e'; injection e' with e'; exact e'.symm
    have hl := hide (word_add (y := v) hcell hfree)
    have hroom : (s.note 5 p true).room = s.room := rfl
    rw [hroom] at hc
    clear hroom e' hcell hfree
    go_wp2_with fail
    refine hl.out.mono ?_
    rintro e w2 ⟨rfl, rfl⟩
    go_wp2_with fail
    go_ret
    exact ⟨by rw [Hf.out.1]; rfl, by rw [Hf.out.2]; exact put_at h1 hb1 hp, (k1.more (fun i _ hi => .inl hi)).set (p := ⟨b', p.toNat - 1, none⟩) (fun _ => .inr rfl) _⟩
  · have hp' : s.has p = false := by simpa using hp
    rw [hp'] at hh
    have hfin : s.sum p v = 0 ∧ s.add p v = s := by simp [St.sum, St.add, hp']
    have Hf := hide hfin
    clear hfin
    go_enter Try.func20, Try.ntmps20
    go_wp2_with fail
    refine hh.out.mono ?_
    rintro e w' ⟨rfl, rfl⟩
    go_wp2_with fail
    go_ret
    exact ⟨by rw [Hf.out.1]; rfl, by rw [Hf.out.2]; exact h, Kept.refl _ _⟩

theorem cas_c (p o v : Int) (h : ArenaAt w a A s) (hn : s.ops < 4611686018427387904) : Calls Try.prog 19 #[.pointer (some ⟨a, 0, none⟩), .int .i64 p, .int .i64 o, .int .i64 v] w fun e w' =>
    e = .returned (.bool (s.hits p o)) ∧ ArenaAt w' a A (s.cas p o v) ∧ Kept (Of a A) w w' := by
  have hh := hide (has_c p h)
  by_cases hp : s.has p = true
  · have hb := has_true hp
    rw [hp] at hh
    have hr := h.fits
    have hs := h.small
    have hc := h.c0
    obtain ⟨b, rfl, hb0, hcell, hfree, _⟩ := word_at h hp
    by_cases hg : s.get p = o
    · have hl := hide (word_hit (y := v) hcell hfree)
      have hfin : s.hits p o = true ∧ s.cas p o v = (s.put p v).note 4 p true := by simp [St.hits, St.cas, hp, hg]
      have Hf := hide hfin
      have hput := put_at (v := v) h hb0 hp
      have hm := hide (note_c (wr := true) 4 p hput hn)
      rw [hg] at hl
      clear hfin hg hcell hfree hput
      go_enter Try.func19, Try.ntmps19
      go_wp2_with fail
      refine hh.out.mono ?_
      rintro e w' ⟨rfl, rfl⟩
      go_wp2_with fail
      refine hl.out.mono ?_
      rintro e w1 ⟨rfl, rfl⟩
      go_wp2_with fail
      refine hm.out.mono ?_
      rintro e w2 ⟨rfl, h2, k2⟩
      go_wp2_with fail
      go_ret
      exact ⟨by rw [Hf.out.1]; rfl, by rw [Hf.out.2]; exact h2, ((Kept.refl (Of a (some ⟨b, 0, none⟩)) w).set (p := ⟨b, p.toNat - 1, none⟩) (fun _ => .inr rfl) (.int .i64 v)).trans k2 (fun i _ hi => .inl hi)⟩
    · have hl := hide (word_miss (y := v) hcell hfree hg)
      have hfin : s.hits p o = false ∧ s.cas p o v = s.note 4 p false := by simp [St.hits, St.cas, hp, hg]
      have Hf := hide hfin
      have hm := hide (note_c (wr := false) 4 p h hn)
      clear hfin hg hcell hfree
      go_enter Try.func19, Try.ntmps19
      go_wp2_with fail
      refine hh.out.mono ?_
      rintro e w' ⟨rfl, rfl⟩
      go_wp2_with fail
      refine hl.out.mono ?_
      rintro e w1 ⟨rfl, rfl⟩
      go_wp2_with fail
      refine hm.out.mono ?_
      rintro e w2 ⟨rfl, h2, k2⟩
      go_wp2_with fail
      go_ret
      exact ⟨by rw [Hf.out.1]; rfl, by rw [Hf.out.2]; exact h2, k2.more (fun i _ hi => .inl hi)⟩
  · have hp' : s.has p = false := by simpa using hp
    rw [hp'] at hh
    have hfin : s.hits p o = false ∧ s.cas p o v = s := by simp [St.hits, St.cas, hp']
    have Hf := hide hfin
    clear hfin
    go_enter Try.func19, Try.ntmps19
    go_wp2_with fail
    refine hh.out.mono ?_
    rintro e w' ⟨rfl, rfl⟩
    go_wp2_with fail
    go_ret
    exact ⟨by rw [Hf.out.1]; rfl, by rw [Hf.out.2]; exact h, Kept.refl _ _⟩
end
end Go.Proofs.Ytgljgdnnpmaigaa
