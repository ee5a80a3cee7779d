/- Package pick's Threads and Decode, and the document's Decode. -/
import Derived.Test.YtoegnnhnfkecoaaDoorKRow
import Derived.Test.YtoegnnhnfkecoaaDoorKLet
import Derived.Test.YtoegnnhnfkecoaaDoorLTrim
namespace Go.Proofs.YtoegnnhnfkecoaaDoor
open Go.RowKit

/-- The first k of a list, and then zeros. -/
def zl {α : Type} (d : α) (l : List α) (k : Nat) : List α := l.take k ++ List.replicate (l.length - k) d
section
variable {α : Type} {d : α} {l : List α} {k : Nat}
theorem zl_len (h : k ≤ l.length) : (zl d l k).length = l.length := by
  unfold zl
  rw [List.length_append, List.length_take, List.length_replicate]
  omega
theorem zl_zero : zl d l 0 = List.replicate l.length d := rfl
theorem zl_all : zl d l l.length = l := by
  unfold zl
  rw [List.take_length, Nat.sub_self]
  exact List.append_nil l
theorem zl_at (h : k < l.length) : (zl d l k).getD k d = d := by
  unfold zl
  rw [List.getD_eq_getElem?_getD, List.getElem?_append_right (by rw [List.length_take]; omega)]
  rw [List.length_take, Nat.min_eq_left (by omega), Nat.sub_self, List.getElem?_replicate, if_pos (by omega)]
  rfl
theorem zl_set (h : k < l.length) (x : α) (hx : l.getD k d = x) : (zl d l k).set k x = zl d l (k + 1) := by
  have hx : l[k] = x := by rw [← hx]; simp [List.getD, h]
  unfold zl
  obtain ⟨m, hm⟩ : ∃ m, l.length - k = m + 1 := ⟨l.length - k - 1, by omega⟩
  rw [hm, List.replicate_succ, List.set_append_right k x (by rw [List.length_take]; omega), List.length_take, Nat.min_eq_left (by omega), Nat.sub_self, List.set_cons_zero, List.take_succ_eq_append_getElem h, hx, show l.length - (k + 1) = m by omega]
  simp
end
theorem pcells_set1 (l : List Pk) (k : Nat) (x : Int) : (pcells l).set (k * 2) (.int .i64 x) = pcells (l.set k (x, (l.getD k (0, 0)).2)) := by
  induction l generalizing k with
  | nil => rfl
  | cons a t ih =>
    cases k with
    | zero => rfl
    | succ k =>
      rw [show (k + 1) * 2 = k * 2 + 1 + 1 by omega]
      show pcs a ++ (pcells t).set (k * 2) (.int .i64 x) = pcs a ++ pcells _
      rw [ih]
      rfl
theorem pcells_set2 (l : List Pk) (k : Nat) (x : Int) : (pcells l).set (k * 2 + 1) (.int .i64 x) = pcells (l.set k ((l.getD k (0, 0)).1, x)) := by
  induction l generalizing k with
  | nil => rfl
  | cons a t ih =>
    cases k with
    | zero => rfl
    | succ k =>
      rw [show (k + 1) * 2 + 1 = k * 2 + 1 + 1 + 1 by omega]
      show pcs a ++ (pcells t).set (k * 2 + 1) (.int .i64 x) = pcs a ++ pcells _
      rw [ih]
      rfl
section
variable {w w' : World} {g k : Nat} {l : List Pk}
theorem set1 (h : Is w g 37 (pcells l).toArray) (x : Int) : Is (w.setCell ⟨g, k * 2, none⟩ (.int .i64 x)) g 37 (pcells (l.set k (x, (l.getD k (0, 0)).2))).toArray := by
  have := h.set (k * 2) (.int .i64 x)
  rw [← pcells_set1]
  simpa using this
theorem set2 (h : Is w g 37 (pcells l).toArray) (x : Int) : Is (w.setCell ⟨g, k * 2 + 1, none⟩ (.int .i64 x)) g 37 (pcells (l.set k ((l.getD k (0, 0)).1, x))).toArray := by
  have := h.set (k * 2 + 1) (.int .i64 x)
  rw [← pcells_set2]
  simpa using this
end
theorem put_at {L : List Pk} {k : Nat} {q : Int} (h : k < L.length) : (L.set k (q, 0)).getD k (0, 0) = (q, 0) := by simp [List.getD, h]
theorem put_both {L : List Pk} {k : Nat} {q r : Int} (h : k < L.length) : (L.set k (q, 0)).set k (((L.set k (q, 0)).getD k (0, 0)).1, r) = L.set k (q, r) := by rw [put_at h, List.set_set]
theorem pick_zeros (n : Nat) : madeCells #[Value.int .i64 0, Value.int .i64 0] (n * 2) = (pcells (List.replicate n (0, 0))).toArray := by
  unfold madeCells
  apply Array.ext'
  rw [show (pcells (List.replicate n (0, 0))).toArray.toList = pcells (List.replicate n (0, 0)) by simp]
  have h : pcells (List.replicate n (0, 0)) = List.replicate (n * 2) (Value.int .i64 0) := by
    induction n with
    | zero => rfl
    | succ n ih =>
      rw [List.replicate_succ]
      show pcs (0, 0) ++ pcells _ = _
      rw [ih, show (n + 1) * 2 = n * 2 + 1 + 1 by omega]
      rfl
  rw [h]
  apply List.ext_getElem
  · simp
  · intro i h1 h2
    simp
    have : i % 2 < 2 := Nat.mod_lt _ (by decide)
    rcases Nat.lt_or_ge (i % 2) 1 with e | e
    · have : i % 2 = 0 := by omega
      simp [this]
    · have : i % 2 = 1 := by omega
      simp [this]
theorem make_picks (n : Nat) (hn : n ≤ 65536) (w : World) : (Instr.makeSlice 22 (.int .i64 (n : Int)) (.int .i64 (n : Int))).run Tryd.prog w = .ok (.slice (some ⟨w.heap.size, 0, none⟩) n n) (w.alloc (.cells (pcells (List.replicate n (0, 0))).toArray 37)) := by
  obtain ⟨i0, hi, hz0, hz1, hz2⟩ := info_parts info_pick
  have h := run_make (P := Tryd.prog) w 22 37 i0 _ Tryd.underlying22 hi hz0 .i64 .i64 n n (by omega) (Int.le_refl _) (by rw [hz2]; omega) (by omega)
  rw [hz1, Int.toNat_natCast] at h
  rw [← pick_zeros]
  exact h
theorem make_nums (n : Nat) (hn : n ≤ 65536) (w : World) : (Instr.makeSlice 34 (.int .i64 (n : Int)) (.int .i64 (n : Int))).run Tryd.prog w = .ok (.slice (some ⟨w.heap.size, 0, none⟩) n n) (w.alloc (.cells ((List.replicate n (0 : Int)).map (Value.int .i64)).toArray 3)) := by
  obtain ⟨i0, hi, hz0, hz1, hz2⟩ := info_parts info_int
  have h := run_make (P := Tryd.prog) w 34 3 i0 _ Tryd.underlying34 hi hz0 .i64 .i64 n n (by omega) (Int.le_refl _) (by rw [hz2]; omega) (by omega)
  rw [hz1, Int.toNat_natCast, Nat.mul_one] at h
  rw [List.map_replicate, ← made_zeros]
  exact h

theorem Is.nums {w : World} {g : Nat} {l : List Int} (h : Is w g 3 (l.map (Value.int .i64)).toArray) : Nums w (.slice (some ⟨g, 0, none⟩) l.length l.length) l := by
  refine ⟨_, _, rfl, fun _ => ⟨g, 0, rfl, h.lt, fun j hj => ?_⟩⟩
  rw [Nat.zero_add, h.cell j, List.getElem?_toArray, List.getElem?_map, List.getElem?_eq_getElem hj]
  simp [List.getD, hj]

section
variable (w : World)
set_option maxHeartbeats 400000
/-- Threads. -/
theorem threads_c {v : Value} {l : List Pk} (hv : Picks w v l) (hl : l.length ≤ 65536) : Calls Tryd.prog 13 #[v] w fun e w' => ∃ v', e = .returned v' ∧ Nums w' v' (l.map (·.1)) ∧ Kept Nil w w' := by
  obtain ⟨A, c, rfl, _, hp⟩ := hv
  have HP := hide hp
  have hmk := make_nums l.length hl
  clear hp
  go_enter Tryd.func13, Tryd.ntmps13
  go_wp2
  go_loopw [11] (fun i wr => ∃ k : Nat, k ≤ l.length ∧ i = .int .i64 k ∧ Is wr w.heap.size 3 ((zl 0 (l.map (·.1)) k).map (Value.int .i64)).toArray ∧ Kept Nil w wr) (fun i _ => l.length - (intOf i).toNat)
  case atStart => exact ⟨0, Nat.zero_le _, rfl, by rw [zl_zero, List.length_map]; simpa using Is.new w 3 ((List.replicate l.length (0 : Int)).map (Value.int .i64)).toArray, (Kept.refl _ w).alloc _⟩
  case round =>
    obtain ⟨k, hk, rfl, hi, hb⟩ := hrel
    by_cases hlt : k < l.length
    · obtain ⟨g, o, rfl, hg, hc⟩ := HP.out (by omega)
      have c1 := (hb.cell (p := ⟨g, o + k * 2, none⟩) hg (fun c => c)).trans (hc k hlt).1
      have c2 := (hb.cell (p := ⟨g, o + k * 2 + 1, none⟩) hg (fun c => c)).trans (hc k hlt).2
      clear hc
      have hlm : k < (l.map (·.1)).length := by rw [List.length_map]; exact hlt
      have hx : (l.map (·.1)).getD k 0 = (l.getD k (0, 0)).1 := by simp [List.getD, hlt]
      have HX := hide hx
      generalize (l.getD k (0, 0)).1 = x at *
      generalize (l.getD k (0, 0)).2 = y at *
      have HZ := hide (zl_set hlm x hx)
      have hne : wr.heap.size ≠ w.heap.size := by have := hi.lt; omega
      have hi2 := hi.alloc (.cells #[.int .i64 x, .int .i64 y] 37)
      have d1 := hi2.free k
      have d2 := hi2.cell k
      rw [List.getElem?_toArray, List.getElem?_map, show (zl 0 (l.map (·.1)) k)[k]? = some 0 by
        have := zl_at (d := 0) hlm
        rw [List.getD_eq_getElem?_getD] at this
        have h2 := zl_len (d := (0 : Int)) (Nat.le_of_lt hlm)
        rw [List.getElem?_eq_getElem (by omega)] at this ⊢
        simpa using this] at d2
      have d2 : (wr.alloc (.cells #[.int .i64 x, .int .i64 y] 37)).cell? ⟨w.heap.size, k, none⟩ = some (.int .i64 0) := d2
      have hs := hi2.set k (.int .i64 x)
      have HS := hide hs
      have HK := hide ((hb.alloc (.cells #[.int .i64 x, .int .i64 y] 37)).set (p := ⟨w.heap.size, k, none⟩) (fun h => absurd h (Nat.lt_irrefl _)) (.int .i64 x))
      clear hi hi2 hs hx hb
      go_wp2_with fail
      go_roundw
      case rel => exact ⟨k + 1, by omega, by go_num, by have := HS.out; rw [← HZ.out]; simpa using this, HK.out⟩
      case measure => simp [intOf]; omega
    · obtain rfl : k = l.length := by omega
      have HI := hide hi
      have HK := hide hb
      clear hi hb
      go_wp2_with fail
      go_ret
      refine ⟨_, rfl, ?_, HK.out⟩
      have hi := HI.out
      rw [show zl 0 (l.map (·.1)) l.length = l.map (·.1) by have := zl_all (d := (0 : Int)) (l := l.map (·.1)); rwa [List.length_map] at this] at hi
      have := Is.nums hi
      rw [List.length_map] at this
      exact this
/-- A pick for each byte. -/
theorem decode_c (s : ByteArray) (hs : s.size ≤ 4000) : Calls Tryd.prog 14 #[.string s] w fun e w' => ∃ v', e = .returned v' ∧ Picks w' v' (dpk s.data.toList) ∧ Kept Nil w w' := by
  have hsl := dlen s
  have hmk := make_picks s.size (by omega)
  have hex : s.extract 0 s.size = s := by simp
  have hmin : min (s.size : Int) 4000 = (s.size : Int) := by omega
  have hdl : (dpk s.data.toList).length = s.size := by unfold dpk; rw [List.length_map, hsl]
  have HD := hide hdl
  clear hsl hdl
  go_enter Tryd.func14, Tryd.ntmps14
  go_wp2
  go_loopw [18] (fun i wr => ∃ k : Nat, k ≤ s.size ∧ i = .int .i64 k ∧ Is wr w.heap.size 37 (pcells (zl (0, 0) (dpk s.data.toList) k)).toArray ∧ Kept Nil w wr) (fun i _ => s.size - (intOf i).toNat)
  case atStart => exact ⟨0, Nat.zero_le _, rfl, by rw [zl_zero, HD.out]; exact Is.new w 37 _, (Kept.refl _ w).alloc _⟩
  case round =>
    obtain ⟨k, hk, rfl, hi, hb⟩ := hrel
    by_cases hlt : k < s.size
    · obtain ⟨x, hx⟩ : ∃ x, s[k]'hlt = x := ⟨_, rfl⟩
      have hxd : s.data.toList[k]? = some x := by
        rw [List.getElem?_eq_getElem (by rw [dlen]; exact hlt), ← hx]
        rfl
      have hdx : (dpk s.data.toList).getD k (0, 0) = d1 x := by
        unfold dpk
        rw [List.getD_eq_getElem?_getD, List.getElem?_map, hxd]
        rfl
      have hlm : k < (dpk s.data.toList).length := by rw [HD.out]; exact hlt
      have hz := zl_set hlm _ hdx
      have ha := zl_at (d := ((0, 0) : Pk)) hlm
      have hln := zl_len (d := ((0, 0) : Pk)) (Nat.le_of_lt hlm)
      clear hxd hdx hlm
      generalize zl (0, 0) (dpk s.data.toList) k = L at *
      have hkL : k < L.length := by rw [hln, HD.out]; exact hlt
      have c1 : wr.cell? ⟨w.heap.size, k * 2, none⟩ = some (.int .i64 (L.getD k (0, 0)).1) := (hi.cell (k * 2)).trans (by rw [List.getElem?_toArray]; exact (pcells_at hkL).1)
      have f1 := hi.free (k * 2)
      have hi1 := set1 (k := k) hi ((x.toNat : Int) / 8)
      rw [ha] at hi1
      have hk1 := hb.set (p := ⟨w.heap.size, k * 2, none⟩) (fun h => absurd h (Nat.lt_irrefl _)) (.int .i64 ((x.toNat : Int) / 8))
      have HI1 := hide hi1
      have HK1 := hide hk1
      have hxl := x.toNat_lt
      have HZ := hide hz
      have HA := hide (put_at (q := (x.toNat : Int) / 8) hkL)
      have HB := hide (put_both (q := (x.toNat : Int) / 8) (r := (x.toNat : Int) % 8) hkL)
      have HL := hide hkL
      clear hi hb hi1 hk1 hln hz ha hkL
      go_wp2_with fail
      by_cases hr : (x.toNat : Int) % 8 ≤ 4
      · have HD1 : Hid (d1 x = ((x.toNat : Int) / 8, (x.toNat : Int) % 8)) := hide (by unfold d1; rw [if_pos hr])
        refine (letter_yes _ _ (decide_eq_true (by omega))).mono ?_
        rintro e w2 ⟨rfl, hk2⟩
        have hi2 := HI1.out.kept hk2 (fun c => c)
        have c2 : w2.cell? ⟨w.heap.size, k * 2 + 1, none⟩ = some (.int .i64 0) := (hi2.cell _).trans (by rw [List.getElem?_toArray, (pcells_at (l := L.set k ((x.toNat : Int) / 8, 0)) (by rw [List.length_set]; exact HL.out)).2, HA.out])
        have f2 := hi2.free (k * 2 + 1)
        have hi3 := set2 (k := k) hi2 ((x.toNat : Int) % 8)
        rw [HB.out] at hi3
        have HI3 := hide hi3
        have HK3 := hide ((HK1.out.trans hk2 (fun _ _ c => c)).set (p := ⟨w.heap.size, k * 2 + 1, none⟩) (fun h => absurd h (Nat.lt_irrefl _)) (.int .i64 ((x.toNat : Int) % 8)))
        clear hi2 hi3 hk2 hr
        go_wp2_with fail
        go_roundw
        case rel => exact ⟨k + 1, by omega, by go_num, by rw [← HZ.out, HD1.out]; exact HI3.out, HK3.out⟩
        case measure => simp [intOf]; omega
      · have HD1 : Hid (d1 x = ((x.toNat : Int) / 8, 0)) := hide (by unfold d1; rw [if_neg hr])
        refine (letter_no _ _ (decide_eq_false (by omega))).mono ?_
        rintro e w2 ⟨rfl, hk2⟩
        have HI3 := hide (HI1.out.kept hk2 (fun c => c))
        have HK3 := hide (HK1.out.trans hk2 (fun _ _ c => c))
        clear hk2 hr
        go_wp2_with fail
        go_roundw
        case rel => exact ⟨k + 1, by omega, by go_num, by rw [← HZ.out, HD1.out]; exact HI3.out, HK3.out⟩
        case measure => simp [intOf]; omega
    · obtain rfl : k = s.size := by omega
      have HI := hide hi
      have HK := hide hb
      clear hi hb
      go_wp2_with fail
      go_ret
      refine ⟨_, rfl, ?_, HK.out⟩
      have hi := HI.out
      rw [show zl (0, 0) (dpk s.data.toList) s.size = dpk s.data.toList by have := zl_all (d := ((0, 0) : Pk)) (l := dpk s.data.toList); rwa [HD.out] at this] at hi
      have := hi.picks
      rw [HD.out] at this
      exact this
end
end Go.Proofs.YtoegnnhnfkecoaaDoor
