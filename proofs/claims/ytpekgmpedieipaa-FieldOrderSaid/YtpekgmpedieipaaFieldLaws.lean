/- The laws of layer 2, walked: all but the order of words. -/
import Derived.Test.YtpekgmpedieipaaField
namespace Go.Proofs.Ytpekgmpedieipaa
open Go.RowKit

/-- A word with the mark, or without it. -/
def mk (w : Int) : Bool → Int
  | true => on w
  | false => off w
theorem idx_mk (w : Int) : ∀ b, idx (mk w b) = idx w
  | true => idx_on w
  | false => idx_off w
theorem num_mk (w : Int) : ∀ b, num (mk w b) = num w
  | true => num_on w
  | false => num_off w
theorem mk_range {w : Int} (h : I64 w) : ∀ b, I64 (mk w b)
  | true => by have := on_range h; unfold I64; show _ ≤ on w ∧ on w ≤ _; omega
  | false => by have := off_range h; unfold I64; show _ ≤ off w ∧ off w ≤ _; omega
theorem neg_mk {w : Int} (h : I64 w) : ∀ b, neg (mk w b) = b
  | true => by have := on_range h; show decide (on w < 0) = true; exact decide_eq_true (by omega)
  | false => by have := off_range h; show decide (off w < 0) = false; exact decide_eq_false (by omega)
theorem mk_back {w : Int} (h : I64 w) : mk (off w) (neg w) = w := by
  obtain ⟨h1, h2⟩ := h
  by_cases c : w < 0
  · rw [show neg w = true from decide_eq_true c]
    show on (off w) = w
    unfold on off
    rw [if_pos c, if_neg (by omega)]
    omega
  · rw [show neg w = false from decide_eq_false c]
    show off (off w) = w
    unfold off
    rw [if_neg c, if_neg c]

section
variable (w : Int) (W : World)
set_option maxHeartbeats 800000
theorem mark_c (h : I64 w) : ∀ b, Calls Try.prog 14 #[.int .i64 w, .bool b] W fun e W' => e = .returned (.int .i64 (mk w b)) ∧ W = W'
  | true => mark_on w W h
  | false => mark_off w W h
theorem rmark_c (h : I64 w) : ∀ b, Calls Try.prog 15 #[.int .i64 w, .bool b] W fun e W' => e = .returned (.int .i64 (mk w b)) ∧ W = W'
  | true => rmark_on w W h
  | false => rmark_off w W h

theorem k1 : I64 131075 := by unfold I64; omega
theorem kon : on 131075 = -9223372036854644733 := by decide
theorem k2 : I64 (-9223372036854644733) := by unfold I64; omega
theorem k3 : May 3 2 := by unfold May; omega
theorem k4 : ¬ May 65536 0 := by unfold May; omega
theorem k5 : ¬ May 0 140737488355328 := by unfold May; omega

theorem aw1 : Calls Try.prog 6 #[.int .i64 3, .int .i64 2] W fun e W' => e = .returned (.tuple #[.int .i64 131075, .int .i64 0]) ∧ W = W' := pack_yes 3 2 W k3
theorem aw2 : Calls Try.prog 14 #[.int .i64 131075, .bool true] W fun e W' => e = .returned (.int .i64 (-9223372036854644733)) ∧ W = W' := by
  have := mark_on 131075 W k1
  rwa [kon] at this
theorem aw3 : Calls Try.prog 8 #[.int .i64 (-9223372036854644733)] W fun e W' => e = .returned (.int .i64 3) ∧ W = W' := index_c _ W k2
theorem aw4 : Calls Try.prog 10 #[.int .i64 (-9223372036854644733)] W fun e W' => e = .returned (.int .i64 2) ∧ W = W' := number_c _ W k2
theorem aw5 : Calls Try.prog 12 #[.int .i64 (-9223372036854644733)] W fun e W' => e = .returned (.bool true) ∧ W = W' := marked_c _ W k2
theorem aw6 : Calls Try.prog 12 #[.int .i64 131075] W fun e W' => e = .returned (.bool false) ∧ W = W' := marked_c _ W k1
theorem aw7 : Calls Try.prog 14 #[.int .i64 (-9223372036854644733), .bool false] W fun e W' => e = .returned (.int .i64 131075) ∧ W = W' := mark_off _ W k2

theorem awake_c : Calls Try.prog 16 #[] W fun e W' => e = .returned (.bool true) ∧ W = W' := by
  go_enter Try.func16, Try.ntmps16
  go_wp2_with fail
  refine (aw1 W).mono ?_
  rintro e w' ⟨rfl, rfl⟩
  go_wp2_with fail
  refine (pack_no 65536 0 _ k4).mono ?_
  rintro e w' ⟨rfl, rfl⟩
  go_wp2_with fail
  refine (pack_no 0 140737488355328 _ k5).mono ?_
  rintro e w' ⟨rfl, rfl⟩
  go_wp2_with fail
  refine (aw2 W).mono ?_
  rintro e w' ⟨rfl, rfl⟩
  go_wp2_with fail
  refine (aw3 W).mono ?_
  rintro e w' ⟨rfl, rfl⟩
  go_wp2_with fail
  refine (aw4 W).mono ?_
  rintro e w' ⟨rfl, rfl⟩
  go_wp2_with fail
  refine (aw5 W).mono ?_
  rintro e w' ⟨rfl, rfl⟩
  go_wp2_with fail
  refine (aw6 W).mono ?_
  rintro e w' ⟨rfl, rfl⟩
  go_wp2_with fail
  refine (aw7 W).mono ?_
  rintro e w' ⟨rfl, rfl⟩
  go_wp2_with fail
  go_ret
  exact ⟨rfl, rfl⟩

/-- What Pack comes to, as its two answers. -/
def pw (i n : Int) : Int := if 0 ≤ i ∧ i ≤ 65535 ∧ 0 ≤ n ∧ n ≤ 140737488355327 then n * 65536 + i else 0
def pe (i n : Int) : Int := if 0 ≤ i ∧ i ≤ 65535 ∧ 0 ≤ n ∧ n ≤ 140737488355327 then 0 else 1
theorem pack_c (i n : Int) : Calls Try.prog 6 #[.int .i64 i, .int .i64 n] W fun e W' => e = .returned (.tuple #[.int .i64 (pw i n), .int .i64 (pe i n)]) ∧ W = W' := by
  by_cases h : May i n
  · rw [show pw i n = n * 65536 + i from if_pos h, show pe i n = 0 from if_pos h]
    exact pack_yes i n W h
  · rw [show pw i n = 0 from if_neg h, show pe i n = 1 from if_neg h]
    exact pack_no i n W h
theorem rpack_c (i n : Int) : Calls Try.prog 7 #[.int .i64 i, .int .i64 n] W fun e W' => e = .returned (.tuple #[.int .i64 (pw i n), .int .i64 (pe i n)]) ∧ W = W' := by
  by_cases h : May i n
  · rw [show pw i n = n * 65536 + i from if_pos h, show pe i n = 0 from if_pos h]
    exact rpack_yes i n W h
  · rw [show pw i n = 0 from if_neg h, show pe i n = 1 from if_neg h]
    exact rpack_no i n W h

theorem says (p q : Int) (h : I64 w) (b : Bool) : Calls Try.prog 3 #[.int .i64 w, .agg #[.int .i64 p, .int .i64 q], .bool b] W fun e W' => e = .returned (.bool true) ∧ Kept Nil W W' := by
  go_enter Try.func3, Try.ntmps3
  go_wp2_with fail
  refine (pack_c _ p q).mono ?_
  rintro e w' ⟨rfl, rfl⟩
  go_wp2_with fail
  refine (rpack_c _ p q).mono ?_
  rintro e w' ⟨rfl, rfl⟩
  go_wp2_with fail
  refine (index_c w _ h).mono ?_
  rintro e w' ⟨rfl, rfl⟩
  go_wp2_with fail
  refine (rindex_c w _ h).mono ?_
  rintro e w' ⟨rfl, rfl⟩
  go_wp2_with fail
  refine (number_c w _ h).mono ?_
  rintro e w' ⟨rfl, rfl⟩
  go_wp2_with fail
  refine (rnumber_c w _ h).mono ?_
  rintro e w' ⟨rfl, rfl⟩
  go_wp2_with fail
  refine (marked_c w _ h).mono ?_
  rintro e w' ⟨rfl, rfl⟩
  go_wp2_with fail
  refine (rmarked_c w _).mono ?_
  rintro e w' ⟨rfl, rfl⟩
  go_wp2_with fail
  refine (mark_c w _ h b).mono ?_
  rintro e w' ⟨rfl, rfl⟩
  go_wp2_with fail
  refine (rmark_c w _ h b).mono ?_
  rintro e w' ⟨rfl, rfl⟩
  go_wp2_with fail
  refine (awake_c _).mono ?_
  rintro e w' ⟨rfl, rfl⟩
  go_wp2_with fail
  go_ret
  exact ⟨rfl, (Kept.refl _ _).alloc _⟩

theorem bk1 (h : I64 w) : Calls Try.prog 6 #[.int .i64 (idx w), .int .i64 (num w)] W fun e W' => e = .returned (.tuple #[.int .i64 (off w), .int .i64 0]) ∧ W = W' := by
  have := pack_yes (idx w) (num w) W (parts_ok w h)
  rwa [parts_off w h] at this
theorem off_i64 {w : Int} (h : I64 w) : I64 (off w) := mk_range h false
theorem bk2 (h : I64 w) : Calls Try.prog 14 #[.int .i64 (off w), .bool (neg w)] W fun e W' => e = .returned (.int .i64 w) ∧ W = W' := by
  have := mark_c (off w) W (off_i64 h) (neg w)
  rwa [mk_back h] at this
theorem bk3 (h : I64 w) : Calls Try.prog 12 #[.int .i64 (off w)] W fun e W' => e = .returned (.bool false) ∧ W = W' := by
  have := marked_c (off w) W (off_i64 h)
  rwa [show neg (off w) = false from neg_mk h false] at this
theorem bk4 (h : I64 w) (b : Bool) : Calls Try.prog 12 #[.int .i64 (mk w b)] W fun e W' => e = .returned (.bool b) ∧ W = W' := by
  have := marked_c (mk w b) W (mk_range h b)
  rwa [neg_mk h b] at this
theorem bk5 (h : I64 w) (b : Bool) : Calls Try.prog 8 #[.int .i64 (mk w b)] W fun e W' => e = .returned (.int .i64 (idx w)) ∧ W = W' := by
  have := index_c (mk w b) W (mk_range h b)
  rwa [idx_mk w b] at this
theorem bk6 (h : I64 w) (b : Bool) : Calls Try.prog 10 #[.int .i64 (mk w b)] W fun e W' => e = .returned (.int .i64 (num w)) ∧ W = W' := by
  have := number_c (mk w b) W (mk_range h b)
  rwa [num_mk w b] at this

theorem back (h : I64 w) (b : Bool) : Calls Try.prog 4 #[.int .i64 w, .bool b] W fun e W' => e = .returned (.bool true) ∧ Kept Nil W W' := by
  go_enter Try.func4, Try.ntmps4
  go_wp2_with fail
  refine (index_c w _ h).mono ?_
  rintro e w' ⟨rfl, rfl⟩
  go_wp2_with fail
  refine (number_c w _ h).mono ?_
  rintro e w' ⟨rfl, rfl⟩
  go_wp2_with fail
  refine (bk1 w _ h).mono ?_
  rintro e w' ⟨rfl, rfl⟩
  go_wp2_with fail
  refine (mark_c w _ h b).mono ?_
  rintro e w' ⟨rfl, rfl⟩
  go_wp2_with fail
  refine (marked_c w _ h).mono ?_
  rintro e w' ⟨rfl, rfl⟩
  go_wp2_with fail
  refine (bk2 w _ h).mono ?_
  rintro e w' ⟨rfl, rfl⟩
  go_wp2_with fail
  refine (bk3 w _ h).mono ?_
  rintro e w' ⟨rfl, rfl⟩
  go_wp2_with fail
  refine (bk4 w _ h b).mono ?_
  rintro e w' ⟨rfl, rfl⟩
  go_wp2_with fail
  refine (bk5 w _ h b).mono ?_
  rintro e w' ⟨rfl, rfl⟩
  go_wp2_with fail
  refine (index_c w _ h).mono ?_
  rintro e w' ⟨rfl, rfl⟩
  go_wp2_with fail
  refine (bk6 w _ h b).mono ?_
  rintro e w' ⟨rfl, rfl⟩
  go_wp2_with fail
  refine (number_c w _ h).mono ?_
  rintro e w' ⟨rfl, rfl⟩
  go_wp2_with fail
  refine (awake_c _).mono ?_
  rintro e w' ⟨rfl, rfl⟩
  go_wp2_with fail
  go_ret
  exact ⟨rfl, Kept.refl _ _⟩
end
end Go.Proofs.Ytpekgmpedieipaa
