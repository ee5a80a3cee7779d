/- The order of words, walked. -/
import Derived.Test.YtpekgmpedieipaaFieldLaws
import Derived.ChangeKeysEq
namespace Go.Proofs.Ytpekgmpedieipaa
open Go.RowKit

theorem quiet_q {P : Program} {f : FuncId} {args : Array Value} {w : World} {n : Nat} {v : Value} (h : Calls P f args (w.drewN n) fun e w' => e = .returned v ∧ w.drewN n = w') : Calls P f args (w.drewN n) fun e w'' => e = .returned v ∧ ∃ m, w'' = w.drewN m :=
  Calls.quiet_of_same (h.mono fun _ _ ⟨a, b⟩ => ⟨a, b.symm⟩)

/-- Two arrays of two ints each are one if their ints are. -/
theorem eq_two (a b c d : Int) (w : World) : (Op.equalIn 10000 22 (.agg #[.int .i64 a, .int .i64 b]) (.agg #[.int .i64 c, .int .i64 d])).run Try.prog w = .ok (a == c && b == d) w := by
  have hp : ∀ (x y : Int) (i : Nat) (v : Int), #[Value.int .i64 x, .int .i64 y][i]? = some (.int .i64 v) → (part 3 #[.int .i64 x, .int .i64 y] i).run Try.prog w = .ok (.int .i64 v) w := by
    intro x y i v h
    have h1 : (isAgg 3).run Try.prog w = .ok false w := by kernel_rfl
    unfold part
    simp [h1, Sem.run_bind, h]
  have hc : Try.prog.cellsOf 3 = 1 := by kernel_rfl
  obtain ⟨i3, hi3⟩ : ∃ i, Try.prog.info? 3 = some i := Option.isSome_iff_exists.1 (by kernel_rfl)
  rw [run_equalIn_array (n := 2) (e := 3) w 9999 _ _ Try.underlying22 hi3]
  have e1 : ∀ x y : Int, (Op.equalIn 9999 3 (.int .i64 x) (.int .i64 y)).run Try.prog w = .ok (x == y) w := fun x y => run_equalIn_int w 9998 _ _ _ x y Try.underlying3
  simp only [hc, List.range, List.range.loop, Op.eqItems, Sem.run_bind]
  rw [hp a b (0 * 1) a rfl]
  simp only [Result.andThen_ok]
  rw [hp c d (0 * 1) c rfl]
  simp only [Result.andThen_ok, e1]
  cases (a == c)
  · simp
  · simp only [Bool.not_true, Bool.false_eq_true, if_false, Sem.run_bind]
    rw [hp a b (1 * 1) b rfl]
    simp only [Result.andThen_ok]
    rw [hp c d (1 * 1) d rfl]
    simp only [Result.andThen_ok, e1]
    cases (b == d) <;> simp

section
variable (a b c d : Int) (W : World)
set_option maxHeartbeats 800000

theorem order_no (h : ¬ (May a b ∧ May c d)) : Calls Try.prog 5 #[.agg #[.int .i64 a, .int .i64 b], .agg #[.int .i64 c, .int .i64 d]] W fun e W' => e = .returned (.bool true) ∧ Kept Nil W W' := by
  by_cases h1 : May a b
  · have h2 : ¬ May c d := fun x => h ⟨h1, x⟩
    clear h
    go_enter Try.func5, Try.ntmps5
    go_wp2_with fail
    refine (pack_yes a b _ h1).mono ?_
    rintro e w' ⟨rfl, rfl⟩
    go_wp2_with fail
    refine (pack_no c d _ h2).mono ?_
    rintro e w' ⟨rfl, rfl⟩
    go_wp2_with fail
    refine (awake_c _).mono ?_
    rintro e w' ⟨rfl, rfl⟩
    go_wp2_with fail
    go_ret
    exact ⟨rfl, ((Kept.refl _ _).alloc _).alloc _⟩
  · clear h
    go_enter Try.func5, Try.ntmps5
    go_wp2_with fail
    refine (pack_no a b _ h1).mono ?_
    rintro e w' ⟨rfl, rfl⟩
    go_wp2_with fail
    refine (pack_c _ c d).mono ?_
    rintro e w' ⟨rfl, rfl⟩
    go_wp2_with fail
    refine (awake_c _).mono ?_
    rintro e w' ⟨rfl, rfl⟩
    go_wp2_with fail
    go_ret
    exact ⟨rfl, ((Kept.refl _ _).alloc _).alloc _⟩

theorem oi (h : May a b) : Calls Try.prog 8 #[.int .i64 (b * 65536 + a)] W fun e W' => e = .returned (.int .i64 a) ∧ W = W' := by
  obtain ⟨h1, h2, h3, h4⟩ := h
  have := index_c (b * 65536 + a) W (by unfold I64; omega)
  rwa [idx_pack h1 h2] at this
theorem on_ (h : May a b) : Calls Try.prog 10 #[.int .i64 (b * 65536 + a)] W fun e W' => e = .returned (.int .i64 b) ∧ W = W' := by
  obtain ⟨h1, h2, h3, h4⟩ := h
  have := number_c (b * 65536 + a) W (by unfold I64; omega)
  rwa [num_pack h1 h2 h3 h4] at this

/-- What the last row reckons, once all is decided. -/
structure Sure (a b c d : Int) (less same : Bool) : Prop where
  one : May a b
  two : May c d
  lt : decide (b * 65536 + a < d * 65536 + c) = less
  eq : (b * 65536 + a == d * 65536 + c) = same
  pair : (a == c && b == d) = same
  ge : 0 ≤ b * 65536 + a

theorem order_lt (s : Sure a b c d true false) (h : decide (b < d) = true) : Calls Try.prog 5 #[.agg #[.int .i64 a, .int .i64 b], .agg #[.int .i64 c, .int .i64 d]] W fun e W' => e = .returned (.bool true) ∧ Kept Nil W W' := by
  have e2 : ∀ w, (Op.equalIn 10000 22 (.agg #[.int .i64 a, .int .i64 b]) (.agg #[.int .i64 c, .int .i64 d])).run Try.prog w = .ok false w := fun w => by rw [eq_two, s.pair]
  have e3 : ∀ x y w, (eqGuard .eql 22 x y (.agg #[.int .i64 a, .int .i64 b]) (.agg #[.int .i64 c, .int .i64 d])).run Try.prog w = .ok () w := fun x y w => run_eqGuard_agg w .eql _ x y _ _ (by kernel_rfl)
  have H1 := hide s.one
  have H2 := hide s.two
  have q1 := s.lt
  have q2 := s.eq
  have q4 := s.ge
  clear s
  go_enter Try.func5, Try.ntmps5
  go_wp2_with fail
  refine (pack_yes a b _ H1.out).mono ?_
  rintro e w' ⟨rfl, rfl⟩
  go_wp2_with fail
  refine (pack_yes c d _ H2.out).mono ?_
  rintro e w' ⟨rfl, rfl⟩
  go_wp2_with fail
  go_quiet ((first | (go_at_call 8; exact quiet_q (oi _ _ _ H1.out)) | (go_at_call 10; exact quiet_q (on_ _ _ _ H1.out)) | (go_at_call 16; exact quiet_q (awake_c _))))
  go_wp2_with fail
  go_ret
  exact ⟨rfl, (((Kept.refl _ _).alloc _).alloc _).drewN _⟩

theorem order_less (s : Sure a b c d true false) (h : decide (b < d) = false) (h1 : (b == d) = true) (h2 : decide (a < c) = true) : Calls Try.prog 5 #[.agg #[.int .i64 a, .int .i64 b], .agg #[.int .i64 c, .int .i64 d]] W fun e W' => e = .returned (.bool true) ∧ Kept Nil W W' := by
  have e2 : ∀ w, (Op.equalIn 10000 22 (.agg #[.int .i64 a, .int .i64 b]) (.agg #[.int .i64 c, .int .i64 d])).run Try.prog w = .ok false w := fun w => by rw [eq_two, s.pair]
  have e3 : ∀ x y w, (eqGuard .eql 22 x y (.agg #[.int .i64 a, .int .i64 b]) (.agg #[.int .i64 c, .int .i64 d])).run Try.prog w = .ok () w := fun x y w => run_eqGuard_agg w .eql _ x y _ _ (by kernel_rfl)
  have H1 := hide s.one
  have H2 := hide s.two
  have q1 := s.lt
  have q2 := s.eq
  have q4 := s.ge
  clear s
  go_enter Try.func5, Try.ntmps5
  go_wp2_with fail
  refine (pack_yes a b _ H1.out).mono ?_
  rintro e w' ⟨rfl, rfl⟩
  go_wp2_with fail
  refine (pack_yes c d _ H2.out).mono ?_
  rintro e w' ⟨rfl, rfl⟩
  go_wp2_with fail
  go_quiet ((first | (go_at_call 8; exact quiet_q (oi _ _ _ H1.out)) | (go_at_call 10; exact quiet_q (on_ _ _ _ H1.out)) | (go_at_call 16; exact quiet_q (awake_c _))))
  go_wp2_with fail
  go_ret
  exact ⟨rfl, (((Kept.refl _ _).alloc _).alloc _).drewN _⟩

theorem order_gt (s : Sure a b c d false false) (h : decide (b < d) = false) (h1 : (b == d) = false) : Calls Try.prog 5 #[.agg #[.int .i64 a, .int .i64 b], .agg #[.int .i64 c, .int .i64 d]] W fun e W' => e = .returned (.bool true) ∧ Kept Nil W W' := by
  have e2 : ∀ w, (Op.equalIn 10000 22 (.agg #[.int .i64 a, .int .i64 b]) (.agg #[.int .i64 c, .int .i64 d])).run Try.prog w = .ok false w := fun w => by rw [eq_two, s.pair]
  have e3 : ∀ x y w, (eqGuard .eql 22 x y (.agg #[.int .i64 a, .int .i64 b]) (.agg #[.int .i64 c, .int .i64 d])).run Try.prog w = .ok () w := fun x y w => run_eqGuard_agg w .eql _ x y _ _ (by kernel_rfl)
  have H1 := hide s.one
  have H2 := hide s.two
  have q1 := s.lt
  have q2 := s.eq
  have q4 := s.ge
  clear s
  go_enter Try.func5, Try.ntmps5
  go_wp2_with fail
  refine (pack_yes a b _ H1.out).mono ?_
  rintro e w' ⟨rfl, rfl⟩
  go_wp2_with fail
  refine (pack_yes c d _ H2.out).mono ?_
  rintro e w' ⟨rfl, rfl⟩
  go_wp2_with fail
  go_quiet ((first | (go_at_call 8; exact quiet_q (oi _ _ _ H1.out)) | (go_at_call 10; exact quiet_q (on_ _ _ _ H1.out)) | (go_at_call 16; exact quiet_q (awake_c _))))
  go_wp2_with fail
  go_ret
  exact ⟨rfl, (((Kept.refl _ _).alloc _).alloc _).drewN _⟩

theorem order_more (s : Sure a b c d false false) (h : decide (b < d) = false) (h1 : (b == d) = true) (h2 : decide (a < c) = false) : Calls Try.prog 5 #[.agg #[.int .i64 a, .int .i64 b], .agg #[.int .i64 c, .int .i64 d]] W fun e W' => e = .returned (.bool true) ∧ Kept Nil W W' := by
  have e2 : ∀ w, (Op.equalIn 10000 22 (.agg #[.int .i64 a, .int .i64 b]) (.agg #[.int .i64 c, .int .i64 d])).run Try.prog w = .ok false w := fun w => by rw [eq_two, s.pair]
  have e3 : ∀ x y w, (eqGuard .eql 22 x y (.agg #[.int .i64 a, .int .i64 b]) (.agg #[.int .i64 c, .int .i64 d])).run Try.prog w = .ok () w := fun x y w => run_eqGuard_agg w .eql _ x y _ _ (by kernel_rfl)
  have H1 := hide s.one
  have H2 := hide s.two
  have q1 := s.lt
  have q2 := s.eq
  have q4 := s.ge
  clear s
  go_enter Try.func5, Try.ntmps5
  go_wp2_with fail
  refine (pack_yes a b _ H1.out).mono ?_
  rintro e w' ⟨rfl, rfl⟩
  go_wp2_with fail
  refine (pack_yes c d _ H2.out).mono ?_
  rintro e w' ⟨rfl, rfl⟩
  go_wp2_with fail
  go_quiet ((first | (go_at_call 8; exact quiet_q (oi _ _ _ H1.out)) | (go_at_call 10; exact quiet_q (on_ _ _ _ H1.out)) | (go_at_call 16; exact quiet_q (awake_c _))))
  go_wp2_with fail
  go_ret
  exact ⟨rfl, (((Kept.refl _ _).alloc _).alloc _).drewN _⟩

theorem order_same (s : Sure a b c d false true) (h : decide (b < d) = false) (h1 : (b == d) = true) (h2 : decide (a < c) = false) : Calls Try.prog 5 #[.agg #[.int .i64 a, .int .i64 b], .agg #[.int .i64 c, .int .i64 d]] W fun e W' => e = .returned (.bool true) ∧ Kept Nil W W' := by
  have e2 : ∀ w, (Op.equalIn 10000 22 (.agg #[.int .i64 a, .int .i64 b]) (.agg #[.int .i64 c, .int .i64 d])).run Try.prog w = .ok true w := fun w => by rw [eq_two, s.pair]
  have e3 : ∀ x y w, (eqGuard .eql 22 x y (.agg #[.int .i64 a, .int .i64 b]) (.agg #[.int .i64 c, .int .i64 d])).run Try.prog w = .ok () w := fun x y w => run_eqGuard_agg w .eql _ x y _ _ (by kernel_rfl)
  have H1 := hide s.one
  have H2 := hide s.two
  have q1 := s.lt
  have q2 := s.eq
  have q4 := s.ge
  clear s
  go_enter Try.func5, Try.ntmps5
  go_wp2_with fail
  refine (pack_yes a b _ H1.out).mono ?_
  rintro e w' ⟨rfl, rfl⟩
  go_wp2_with fail
  refine (pack_yes c d _ H2.out).mono ?_
  rintro e w' ⟨rfl, rfl⟩
  go_wp2_with fail
  go_quiet ((first | (go_at_call 8; exact quiet_q (oi _ _ _ H1.out)) | (go_at_call 10; exact quiet_q (on_ _ _ _ H1.out)) | (go_at_call 16; exact quiet_q (awake_c _))))
  go_wp2_with fail
  go_ret
  exact ⟨rfl, (((Kept.refl _ _).alloc _).alloc _).drewN _⟩
end

theorem order (a b c d : Int) (W : World) : Calls Try.prog 5 #[.agg #[.int .i64 a, .int .i64 b], .agg #[.int .i64 c, .int .i64 d]] W fun e W' => e = .returned (.bool true) ∧ Kept Nil W W' := by
  by_cases h : May a b ∧ May c d
  · obtain ⟨h1, h2⟩ := h
    have hk := h1
    have hl := h2
    unfold May at hk hl
    rcases Int.lt_trichotomy b d with h | h | h
    · exact order_lt a b c d W ⟨h1, h2, by simp; omega, by simp; omega, by simp; omega, by omega⟩ (by simp; omega)
    · rcases Int.lt_trichotomy a c with g | g | g
      · exact order_less a b c d W ⟨h1, h2, by simp; omega, by simp; omega, by simp; omega, by omega⟩ (by simp; omega) (by simp; omega) (by simp; omega)
      · exact order_same a b c d W ⟨h1, h2, by simp; omega, by simp; omega, by simp; omega, by omega⟩ (by simp; omega) (by simp; omega) (by simp; omega)
      · exact order_more a b c d W ⟨h1, h2, by simp; omega, by simp; omega, by simp; omega, by omega⟩ (by simp; omega) (by simp; omega) (by simp; omega)
    · exact order_gt a b c d W ⟨h1, h2, by simp; omega, by simp; omega, by simp; omega, by omega⟩ (by simp; omega) (by simp; omega)
  · exact order_no a b c d W h
end Go.Proofs.Ytpekgmpedieipaa
