/- Taking words; all words; the last op; a new arena. -/
import Derived.Test.YtgljgdnnpmaigaaArenaOps
import Derived.LoopTactic
namespace Go.Proofs.Ytgljgdnnpmaigaa
open Go.RowKit

theorem info_int : (Try.prog.info? 3).map (fun i => (i.zero, i.size, i.bytes)) = some (some (.int .i64 0), 1, 8) := by kernel_rfl
theorem info_word : (Try.prog.info? 58).map (fun i => (i.zero, i.size, i.bytes)) = some (some (.agg #[.int .i64 0]), 1, 8) := by kernel_rfl

/-- make([]int, n), make([]atomic.Int64, n). -/
theorem make_ints (n : Nat) (hn : n ≤ 4096) (w : World) : (Instr.makeSlice 40 (.int .i64 (n : Int)) (.int .i64 (n : Int))).run Try.prog w = .ok (.slice (some ⟨w.heap.size, 0, none⟩) n n) (w.alloc (.cells (List.replicate n (Value.int .i64 0)).toArray 3)) := by
  obtain ⟨i0, hi, hz0, hz1, hz2⟩ := info_parts info_int
  have h := run_make (P := Try.prog) w 40 3 i0 _ Try.underlying40 hi hz0 .i64 .i64 n n (by omega) (Int.le_refl _) (by rw [hz2]; omega) (by omega)
  rw [hz1, Int.toNat_natCast, Nat.mul_one] at h
  rw [← made_zeros]
  exact h
theorem make_words (n : Nat) (hn : n ≤ 4096) (w : World) : (Instr.makeSlice 33 (.int .i64 (n : Int)) (.int .i64 (n : Int))).run Try.prog w = .ok (.slice (some ⟨w.heap.size, 0, none⟩) n n) (w.alloc (.cells (List.replicate n (Value.int .i64 0)).toArray 58)) := by
  obtain ⟨i0, hi, hz0, hz1, hz2⟩ := info_parts info_word
  have h := run_make (P := Try.prog) w 33 58 i0 _ Try.underlying33 hi hz0 .i64 .i64 n n (by omega) (Int.le_refl _) (by rw [hz2]; omega) (by omega)
  rw [hz1, Int.toNat_natCast, Nat.mul_one] at h
  rw [← made_zeros]
  exact h

/-- A slice of ints: its numbers. -/
def Ints (w : World) (v : Value) (l : List Int) : Prop := ∃ A c, v = .slice A l.length c ∧ (0 < l.length → ∃ g cs, A = some ⟨g, 0, none⟩ ∧ Is w g 3 cs ∧ ∀ k, k < l.length → cs[k]? = some (.int .i64 (l.getD k 0)))
theorem Ints.kept {w w' : World} {v : Value} {l : List Int} (h : Ints w v l) (k : Kept Nil w w') : Ints w' v l := by
  obtain ⟨A, c, e, h1⟩ := h
  exact ⟨A, c, e, fun hp => by obtain ⟨g, cs, e2, hi, hc⟩ := h1 hp; exact ⟨g, cs, e2, hi.kept k (fun x => x), hc⟩⟩
theorem ints_of {w : World} {g : Nat} {l : List Int} (h : Is w g 3 (l.map (Value.int .i64)).toArray) (c : Nat) : Ints w (.slice (some ⟨g, 0, none⟩) l.length c) l :=
  ⟨_, c, rfl, fun _ => ⟨g, _, rfl, h, fun k hk => by simp [List.getD, hk]⟩⟩

section
variable {a : Nat} {A : Option Addr} {s : St} {w : World}
set_option maxHeartbeats 400000

theorem ArenaAt.drewN (h : ArenaAt w a A s) (n : Nat) : ArenaAt (w.drewN n) a A s := h.kept (S := Nil) ((Kept.refl _ w).drewN n) (fun c => c) (fun _ _ _ _ c => c)
theorem ArenaAt.alloc (h : ArenaAt w a A s) (o : Obj) : ArenaAt (w.alloc o) a A s := h.kept (S := Nil) ((Kept.refl _ w).alloc o) (fun c => c) (fun _ _ _ _ c => c)

/-- The last op, by value; its own block is new. -/
theorem last_c (h : ArenaAt w a A s) : Calls Try.prog 14 #[.pointer (some ⟨a, 0, none⟩)] w fun e w' => e = .returned (.agg #[.int .i64 s.k, .int .i64 s.p, .bool s.wr]) ∧ Kept Nil w w' := by
  have g3 := h.c3
  have g4 := h.c4
  have g5 := h.c5
  have hlt := h.own.lt
  go_enter Try.func14, Try.ntmps14
  go_wp2
  exact bodyPost_ret (v := .agg #[.int .i64 s.k, .int .i64 s.p, .bool s.wr]) (by simp [results, Try.results14, go_sem]) rfl ⟨rfl, (Kept.refl _ _).alloc _⟩
theorem last_nil : Calls Try.prog 14 #[.pointer none] w fun e w' => e = .returned (.agg #[.int .i64 0, .int .i64 0, .bool false]) ∧ Kept Nil w w' := by
  go_enter Try.func14, Try.ntmps14
  go_wp2
  exact bodyPost_ret (v := .agg #[.int .i64 0, .int .i64 0, .bool false]) (by simp [results, Try.results14, go_sem]) rfl ⟨rfl, (Kept.refl _ _).alloc _⟩

theorem take_neg (q : Option Addr) (n : Int) (hn : n < 0) : Calls Try.prog 15 #[.pointer q, .int .i64 n] w fun e w' => e = .returned (.tuple #[.int .i64 0, .int .i64 1]) ∧ w = w' := by
  go_enter Try.func15, Try.ntmps15
  go_wp2_with fail
  go_ret2
  exact ⟨rfl, rfl⟩
theorem take_full (n : Int) (h : ArenaAt w a A s) (h0 : 0 ≤ n) (hn : (s.room : Int) - s.ws.length < n) : Calls Try.prog 15 #[.pointer (some ⟨a, 0, none⟩), .int .i64 n] w fun e w' => e = .returned (.tuple #[.int .i64 0, .int .i64 3]) ∧ ∃ k, w' = w.drewN k := by
  have hl := hide (left_c h)
  go_enter Try.func15, Try.ntmps15
  go_wp2_with fail
  refine hl.out.mono ?_
  rintro e w' ⟨rfl, nq, rfl⟩
  go_wp2_with fail
  go_ret2
  exact ⟨rfl, nq, rfl⟩
theorem take_full_nil (n : Int) (hn : 0 < n) : Calls Try.prog 15 #[.pointer none, .int .i64 n] w fun e w' => e = .returned (.tuple #[.int .i64 0, .int .i64 3]) ∧ w = w' := by
  go_enter Try.func15, Try.ntmps15
  go_wp2_with fail
  refine left_nil.mono ?_
  rintro e w' ⟨rfl, rfl⟩
  go_wp2_with fail
  go_ret2
  exact ⟨rfl, rfl⟩
theorem take_zero_nil : Calls Try.prog 15 #[.pointer none, .int .i64 0] w fun e w' => e = .returned (.tuple #[.int .i64 1, .int .i64 0]) ∧ w = w' := by
  go_enter Try.func15, Try.ntmps15
  go_wp2_with fail
  refine left_nil.mono ?_
  rintro e w' ⟨rfl, rfl⟩
  go_wp2_with fail
  refine len_nil.mono ?_
  rintro e w' ⟨rfl, rfl⟩
  go_wp2_with fail
  go_ret2
  exact ⟨rfl, rfl⟩
theorem take_zero (h : ArenaAt w a A s) : Calls Try.prog 15 #[.pointer (some ⟨a, 0, none⟩), .int .i64 0] w fun e w' => e = .returned (.tuple #[.int .i64 ((s.ws.length : Int) + 1), .int .i64 0]) ∧ ∃ k, w' = w.drewN k := by
  have hl := hide (left_c h)
  have hd := hide fun k => len_c (h.drewN k)
  have f1 := h.fits
  have f2 := h.small
  go_enter Try.func15, Try.ntmps15
  go_wp2_with fail
  refine hl.out.mono ?_
  rintro e w' ⟨rfl, nq, rfl⟩
  go_wp2_with fail
  refine (hd.out nq).mono ?_
  rintro e w' ⟨rfl, rfl⟩
  go_wp2_with fail
  go_ret2
  exact ⟨rfl, nq, rfl⟩
theorem take_some (n : Nat) (h : ArenaAt w a A s) (h0 : 0 < n) (hn : s.ws.length + n ≤ s.room) : Calls Try.prog 15 #[.pointer (some ⟨a, 0, none⟩), .int .i64 n] w fun e w' => e = .returned (.tuple #[.int .i64 ((s.ws.length : Int) + 1), .int .i64 0]) ∧ ArenaAt w' a A (s.take n) ∧ Kept (fun i => i = a) w w' := by
  have hl := hide (left_c h)
  have hd := hide fun k => len_c (h.drewN k)
  have f1 := h.fits
  have f2 := h.small
  have g1 : ∀ k, (w.drewN k).cell? ⟨a, 1, none⟩ = some (.int .i64 s.ws.length) := fun k => (h.drewN k).c1
  have z1 : ∀ k, (w.drewN k).frozen? ⟨a, 1, none⟩ = false := fun k => (h.drewN k).own.free 1
  have hfin : ∀ k, ArenaAt ((w.drewN k).setCell ⟨a, 1, none⟩ (.int .i64 ((s.ws.length : Int) + n))) a A (s.take n) := by
    intro k
    refine ⟨?_, ?_, ?_, h.small⟩
    · have := (h.drewN k).own.set 1 (.int .i64 ((s.ws.length : Int) + n))
      simpa [St.row, St.take] using this
    · refine (h.drewN k).words.imp id ?_
      rintro ⟨b, e, hb⟩
      refine ⟨b, e, ?_⟩
      have hb2 := hb.other (p := ⟨a, 1, none⟩) ((h.drewN k).own.ne hb (by decide)).symm (.int .i64 ((s.ws.length : Int) + n))
      have e3 : (s.take n).cells = s.cells := by
        unfold St.cells St.vals St.take
        simp only [List.length_append, List.length_replicate, List.append_assoc, List.replicate_append_replicate]
        rw [show n + (s.room - (s.ws.length + n)) = s.room - s.ws.length by omega]
      rw [e3]
      exact hb2
    · simp only [St.take, List.length_append, List.length_replicate]
      exact hn
  have Hf := hide hfin
  clear hfin
  go_enter Try.func15, Try.ntmps15
  go_wp2_with fail
  refine hl.out.mono ?_
  rintro e w' ⟨rfl, nq, rfl⟩
  go_wp2_with fail
  refine (hd.out nq).mono ?_
  rintro e w' ⟨rfl, rfl⟩
  go_wp2_with fail
  go_ret2
  exact ⟨rfl, Hf.out nq, ((Kept.refl (fun i => i = a) w).drewN nq).set (p := ⟨a, 1, none⟩) (fun _ => rfl) _⟩

theorem words_none (h : ArenaAt w a A s) (h0 : s.ws = []) : Calls Try.prog 13 #[.pointer (some ⟨a, 0, none⟩)] w fun e w' => e = .returned (.slice none 0 0) ∧ w = w' := by
  have hl := len_c h
  rw [h0] at hl
  have hl := hide hl
  clear h0
  go_enter Try.func13, Try.ntmps13
  go_wp2_with fail
  refine hl.out.mono ?_
  rintro e w' ⟨rfl, rfl⟩
  go_wp2_with fail
  go_ret
  exact ⟨rfl, rfl⟩
theorem words_nil : Calls Try.prog 13 #[.pointer none] w fun e w' => e = .returned (.slice none 0 0) ∧ w = w' := by
  go_enter Try.func13, Try.ntmps13
  go_wp2_with fail
  refine len_nil.mono ?_
  rintro e w' ⟨rfl, rfl⟩
  go_wp2_with fail
  go_ret
  exact ⟨rfl, rfl⟩
end
end Go.Proofs.Ytgljgdnnpmaigaa
