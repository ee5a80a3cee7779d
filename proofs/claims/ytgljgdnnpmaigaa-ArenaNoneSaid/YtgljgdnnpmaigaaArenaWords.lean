/- All words of an arena, as a new slice; a new arena. -/
import Derived.Test.YtgljgdnnpmaigaaArenaMore
namespace Go.Proofs.Ytgljgdnnpmaigaa
open Go.RowKit

/-- The first k numbers, and zeros behind them. -/
def part (l : List Int) (k : Nat) : Array Value := ((l.take k ++ List.replicate (l.length - k) 0).map (Value.int .i64)).toArray
theorem part_size (l : List Int) (k : Nat) (hk : k ≤ l.length) : (part l k).size = l.length := by
  simp [part]; omega
theorem part_at (l : List Int) (k : Nat) (hk : k < l.length) : (part l k)[k]? = some (.int .i64 0) := by
  unfold part
  have hl : (l.take k).length = k := by simp; omega
  obtain ⟨d, hd⟩ : ∃ d, l.length - k = d + 1 := ⟨l.length - k - 1, by omega⟩
  rw [List.getElem?_toArray, List.getElem?_map, List.getElem?_append_right (by omega), hl, Nat.sub_self, hd, List.replicate_succ]
  rfl
theorem part_set (l : List Int) (k : Nat) (hk : k < l.length) : (part l k).setIfInBounds k (.int .i64 (l.getD k 0)) = part l (k + 1) := by
  unfold part
  apply Array.ext'
  simp only [Array.toList_setIfInBounds]
  rw [← List.map_set]
  congr 1
  obtain ⟨d, hd⟩ : ∃ d, l.length - k = d + 1 := ⟨l.length - k - 1, by omega⟩
  have hl : (l.take k).length = k := by simp; omega
  rw [hd, show l.length - (k + 1) = d by omega, List.replicate_succ, List.set_append_right _ _ (by omega), hl, Nat.sub_self, List.set_cons_zero,
    List.take_succ_eq_append_getElem hk, List.append_assoc]
  simp [List.getD, hk]
theorem part_all (l : List Int) : part l l.length = (l.map (Value.int .i64)).toArray := by simp [part]
theorem part_zero (l : List Int) : part l 0 = (List.replicate l.length (Value.int .i64 0)).toArray := by simp [part]

section
variable {a : Nat} {A : Option Addr} {s : St} {w : World}
set_option maxHeartbeats 400000

theorem word_k (h : ArenaAt w a A s) {k : Nat} (hk : k < s.ws.length) {b : Nat} (hA : A = some ⟨b, 0, none⟩) : w.cell? ⟨b, k, none⟩ = some (.int .i64 (s.ws.getD k 0)) := by
  have hp : s.has ((k : Int) + 1) = true := by unfold St.has; exact decide_eq_true ⟨by omega, by omega⟩
  obtain ⟨b', e, _, hc, _, _⟩ := word_at h hp
  obtain rfl : b' = b := by rw [hA] at e; injection e with e; injection e with e; exact e.symm
  unfold St.get at hc
  rw [if_pos hp] at hc
  have e1 : ((k : Int) + 1).toNat - 1 = k := by omega
  rw [e1] at hc
  exact hc

theorem words_some (h : ArenaAt w a A s) (h0 : 0 < s.ws.length) : Calls Try.prog 13 #[.pointer (some ⟨a, 0, none⟩)] w fun e w' =>
    e = .returned (.slice (some ⟨w.heap.size, 0, none⟩) s.ws.length s.ws.length) ∧ Is w' w.heap.size 3 (s.ws.map (Value.int .i64)).toArray ∧ Kept Nil w w' := by
  have hl := hide (len_c h)
  have f1 := h.fits
  have f2 := h.small
  obtain ⟨b, hA, hb⟩ := h.wb (by omega)
  subst hA
  have hmk := make_ints s.ws.length (by omega)
  have hne : ((s.ws.length : Int) == 0) = false := by simp; intro e; rw [e] at h0; simp at h0
  have h1 := h.alloc (.cells (List.replicate s.ws.length (Value.int .i64 0)).toArray 3)
  have hi0 := Is.new w 3 (List.replicate s.ws.length (Value.int .i64 0)).toArray
  have H1 := hide (And.intro h1 hi0)
  clear h1 hi0
  go_enter Try.func13, Try.ntmps13
  go_wp2_with fail
  refine hl.out.mono ?_
  rintro e w' ⟨rfl, rfl⟩
  go_wp2_with fail
  refine hl.out.mono ?_
  rintro e w' ⟨rfl, rfl⟩
  go_wp2_with fail
  go_loopw [4, 13] (fun _ i wr => ∃ k : Nat, k ≤ s.ws.length ∧ i = .int .i64 k ∧ ArenaAt wr a (some ⟨b, 0, none⟩) s ∧ Is wr w.heap.size 3 (part s.ws k) ∧ Kept Nil w wr) (fun _ i _ => s.ws.length - (intOf i).toNat)
  case atStart => exact ⟨0, Nat.zero_le _, rfl, H1.out.1, by rw [part_zero]; exact H1.out.2, (Kept.refl _ w).alloc _⟩
  case round =>
    obtain ⟨k, hk, rfl, ha, hi, hkp⟩ := hrel
    by_cases hlt : k < s.ws.length
    · have c0 := ha.c0
      have hw := hide (word_load (word_k ha hlt rfl))
      have cg : wr.cell? ⟨w.heap.size, k, none⟩ = some (.int .i64 0) := (hi.cell k).trans (part_at s.ws k hlt)
      have fg : wr.frozen? ⟨w.heap.size, k, none⟩ = false := hi.free k
      have hnx := hi.set k (.int .i64 (s.ws.getD k 0))
      rw [part_set s.ws k hlt] at hnx
      have hax : ArenaAt (wr.setCell ⟨w.heap.size, k, none⟩ (.int .i64 (s.ws.getD k 0))) a (some ⟨b, 0, none⟩) s :=
        ha.kept (S := fun i => i = w.heap.size) ((Kept.refl (fun i => i = w.heap.size) wr).set (p := ⟨w.heap.size, k, none⟩) (fun _ => rfl) _) (by intro e; have := h.own.lt; omega) (fun b' cs e hb' e2 => by
          injection e with e; injection e with e; have := hb.lt; omega)
      have e5 : s.ws.getD k 0 = s.ws[k] := by simp [List.getD, hlt]
      rw [e5] at hnx hax
      have HX := hide (And.intro hnx hax)
      clear hnx hax e5
      go_wp2_with fail
      refine hw.out.mono ?_
      rintro e w' ⟨rfl, rfl⟩
      go_wp2_with fail
      go_roundw
      case rel => exact ⟨k + 1, by omega, by go_num, HX.out.2, HX.out.1, hkp.set (p := ⟨w.heap.size, k, none⟩) (fun c => absurd c (Nat.lt_irrefl _)) _⟩
      case measure => simp [intOf]; omega
    · obtain rfl : k = s.ws.length := by omega
      go_wp2_with fail
      go_ret
      exact ⟨rfl, by rw [← part_all]; exact hi, hkp⟩

theorem words_c (h : ArenaAt w a A s) : Calls Try.prog 13 #[.pointer (some ⟨a, 0, none⟩)] w fun e w' =>
    ∃ v, e = .returned v ∧ Ints w' v s.ws ∧ Kept Nil w w' := by
  rcases Nat.eq_zero_or_pos s.ws.length with h0 | h0
  · have h1 : s.ws = [] := List.eq_nil_of_length_eq_zero h0
    refine (words_none h h1).mono ?_
    rintro e w' ⟨rfl, rfl⟩
    exact ⟨_, rfl, ⟨none, 0, by rw [h1]; rfl, fun hp => by omega⟩, Kept.refl _ _⟩
  · refine (words_some h h0).mono ?_
    rintro e w' ⟨rfl, hi, k⟩
    exact ⟨_, rfl, ints_of hi _, k⟩

/-- A new arena: its words stand in the block behind which its own one stands. -/
def fresh (room : Int) : St := { ws := [], room := (min (max room 0) 4096).toNat, ops := 0, k := 0, p := 0, wr := false }
theorem fresh_at (room : Int) (w : World) (n : Nat) (hn : n = (min (max room 0) 4096).toNat) :
    ArenaAt ((w.alloc (.cells (List.replicate n (Value.int .i64 0)).toArray 58)).alloc (.cells #[.slice (some ⟨w.heap.size, 0, none⟩) n n, .int .i64 0, .int .i64 0, .int .i64 0, .int .i64 0, .bool false] 37)) (w.heap.size + 1) (some ⟨w.heap.size, 0, none⟩) (fresh room) := by
  have h1 := Is.new w 58 (List.replicate n (Value.int .i64 0)).toArray
  have h2 := Is.new (w.alloc (.cells (List.replicate n (Value.int .i64 0)).toArray 58)) 37 #[.slice (some ⟨w.heap.size, 0, none⟩) n n, .int .i64 0, .int .i64 0, .int .i64 0, .int .i64 0, .bool false]
  rw [World.size_alloc] at h2
  refine ⟨?_, .inr ⟨_, rfl, ?_⟩, Nat.zero_le _, by show (min (max room 0) 4096).toNat ≤ 4096; omega⟩
  · unfold St.row fresh
    rw [← hn]
    exact h2
  · have e : (fresh room).cells = (List.replicate n (Value.int .i64 0)).toArray := by
      unfold St.cells St.vals fresh
      rw [← hn]
      simp
    rw [e]
    exact h1.alloc _
theorem new_at (room : Int) (w : World) (n : Nat) (hn : n = (min (max room 0) 4096).toNat) (hmk : ∀ w : World, (Instr.makeSlice 33 (.int .i64 (min (max room 0) 4096)) (.int .i64 (min (max room 0) 4096))).run Try.prog w = .ok (.slice (some ⟨w.heap.size, 0, none⟩) n n) (w.alloc (.cells (List.replicate n (Value.int .i64 0)).toArray 58))) :
    Calls Try.prog 7 #[.int .i64 room] w fun e w' =>
    e = .returned (.pointer (some ⟨w.heap.size + 1, 0, none⟩)) ∧ ArenaAt w' (w.heap.size + 1) (some ⟨w.heap.size, 0, none⟩) (fresh room) ∧ Kept Nil w w' := by
  have Hf := hide (fresh_at room w n hn)
  have hn2 := hide hn
  clear hn
  rcases (show room < 0 ∨ (0 ≤ room ∧ room ≤ 4096) ∨ 4096 < room by omega) with h | ⟨h, h'⟩ | h
  · rw [show min (max room 0) 4096 = 0 by omega] at hmk
    go_enter Try.func7, Try.ntmps7
    go_wp2_with fail
    go_ret
    exact ⟨rfl, Hf.out, ((Kept.refl _ w).alloc _).alloc _⟩
  · rw [show min (max room 0) 4096 = room by omega] at hmk
    go_enter Try.func7, Try.ntmps7
    go_wp2_with fail
    go_ret
    exact ⟨rfl, Hf.out, ((Kept.refl _ w).alloc _).alloc _⟩
  · rw [show min (max room 0) 4096 = 4096 by omega] at hmk
    go_enter Try.func7, Try.ntmps7
    go_wp2_with fail
    go_ret
    exact ⟨rfl, Hf.out, ((Kept.refl _ w).alloc _).alloc _⟩
theorem new_c (room : Int) (w : World) : Calls Try.prog 7 #[.int .i64 room] w fun e w' =>
    e = .returned (.pointer (some ⟨w.heap.size + 1, 0, none⟩)) ∧ ArenaAt w' (w.heap.size + 1) (some ⟨w.heap.size, 0, none⟩) (fresh room) ∧ Kept Nil w w' := by
  obtain ⟨n, hn⟩ : ∃ n : Nat, n = (min (max room 0) 4096).toNat := ⟨_, rfl⟩
  refine new_at room w n hn ?_
  rw [show min (max room 0) 4096 = (n : Int) by omega]
  exact make_words n (by omega)
end
end Go.Proofs.Ytgljgdnnpmaigaa
