/- The law FairMore, walked. -/
import Derived.Test.YthbldljdalcgcaaQLaws
namespace Go.Proofs.Ythbldljdalcgcaa
open Go.RowKit
set_option maxRecDepth 100000

section
variable {w : World} {v : Value} {l : List Int}
set_option maxHeartbeats 4000000
theorem qmore_short (t k0 k1 : Int) (hv : NumsC w v l) (hn : 60 < l.length) : Calls Try.prog 3 #[v, .int .i64 t, .agg #[.int .u8 k0, .int .u8 k1]] w fun e w' => e = .returned (.bool true) ∧ Kept Nil w w' := by
  obtain ⟨A, c, rfl, hx1, hx2⟩ := hv
  clear hx1 hx2
  have HK := hide ((Kept.refl Nil w).alloc (.cells #[.int .u8 k0, .int .u8 k1] 23))
  go_enter Try.func3, Try.ntmps3
  go_wp2_with fail
  refine (qawake_c _).mono ?_
  rintro e w1 ⟨rfl, k1⟩
  have HE := hide (HK.out.trans k1 (fun _ _ z => z))
  clear k1
  go_wp2_with fail
  go_ret
  exact ⟨rfl, HE.out⟩
/-- The two loops, and awake. -/
theorem qmore_long (t k0 k1 : Int) (h0 : 0 ≤ k0 ∧ k0 ≤ 255) (h1 : 0 ≤ k1 ∧ k1 ≤ 255) (hv : NumsC w v l) (hn : l.length ≤ 60) : Calls Try.prog 3 #[v, .int .i64 t, .agg #[.int .u8 k0, .int .u8 k1]] w fun e w' => e = .returned (.bool true) ∧ Kept Nil w w' := by
  have hlen : decide (60 < (l.length : Int)) = false := by simp; omega
  obtain ⟨w0, hw0⟩ : ∃ w0, w.alloc (.cells #[.int .u8 k0, .int .u8 k1] 23) = w0 := ⟨_, rfl⟩
  have hK0 : Kept Nil w w0 := by rw [← hw0]; exact (Kept.refl Nil w).alloc _
  have hb1 : Is w0 w.heap.size 23 #[.int .u8 k0, .int .u8 k1] := by rw [← hw0]; exact Is.new _ _ _
  have hv0 := hv.kept hK0
  have q0 : w0.cell? ⟨w.heap.size, 0, none⟩ = some (.int .u8 k0) := hb1.cell 0
  have q1 : w0.cell? ⟨w.heap.size, 1, none⟩ = some (.int .u8 k1) := hb1.cell 1
  have hn2 := sm_le t
  have hlp := @lst_pos (av l) l.length (sm t)
  have hll := @lst_le (av l) l.length (sm t)
  have c1 := hide (least_c t hv0.nums (show l.length ≤ 65536 by omega))
  have c2 := hide fun (k : Int) (b : Bool) (hb : fb (av l) l.length (sm t) k = b) => fair_c t k hb hv0.nums (show l.length ≤ 65536 by omega)
  have c3 := hide fun (x : Int) (m : Nat) (h : m ≤ l.length) => own_c (w := w0) x m (m : Int) (by omega) hv0.nums (show l.length ≤ 65536 by omega)
  have c4 := hide (some_c w0 t)
  have HI := hide fun (k : Int) (h : 1 ≤ k) => @fb_high (av l) l.length (sm t) k h
  have HM := hide fun (k j : Int) (h : fb (av l) l.length (sm t) k = true) (hj : k ≤ j) => fb_more h hj
  have HO := hide fun (x m : Nat) (hx : x < sm t) (hm : m * lst (av l) l.length (sm t) ≤ l.length) => @cnt_often (av l) l.length (sm t) m x hx hm
  generalize lst (av l) l.length (sm t) = m at *
  generalize sm t = n at *
  have HK0 := hide hK0
  obtain ⟨A, c, rfl, hx1, hx2⟩ := hv
  clear hx1 hx2
  clear hK0 hb1 hv0
  have key : Calls Try.prog 3 #[.slice A l.length c, .int .i64 t, .agg #[.int .u8 k0, .int .u8 k1]] w fun e w' => e = .returned (.bool true) ∧ Kept Nil w0 w' := by
    by_cases hle : (m : Int) ≤ 1 + k0
    · have e1 : fb (av l) l.length n (1 + k0) = true := by rw [HI.out _ (by omega)]; simpa using hle
      have e2 := HM.out _ (1 + k0 + k1) e1 (by omega)
      have d1 := hide (c2.out _ _ e1)
      have d2 := hide (c2.out _ _ e2)
      clear e1 e2 c2
      go_enter Try.func3, Try.ntmps3
      go_wp2_with fail
      refine c1.out.mono ?_
      rintro e w1 ⟨rfl, rfl⟩
      go_wp2_with fail
      refine d1.out.mono ?_
      rintro e w1 ⟨rfl, rfl⟩
      go_wp2_with fail
      refine d1.out.mono ?_
      rintro e w1 ⟨rfl, rfl⟩
      go_wp2_with fail
      refine d2.out.mono ?_
      rintro e w1 ⟨rfl, rfl⟩
      go_wp2_with fail
      go_loop [9, 10] (fun i _ => ∃ x : Nat, x ≤ n ∧ i = .int .i64 x) (fun i _ => n - (intOf i).toNat)
      case atStart => exact ⟨0, Nat.zero_le _, rfl⟩
      case round =>
        obtain ⟨x, hx, rfl⟩ := hrel
        go_wp2_with fail
        refine c4.out.mono ?_
        rintro e w1 ⟨rfl, rfl⟩
        by_cases hlt : x < n
        · go_wp2_with fail
          go_loop [10] (fun i => ∃ k : Nat, 1 ≤ k ∧ k ≤ l.length + 1 ∧ i = .int .i64 k) (fun i => l.length + 2 - (intOf i).toNat)
          case atStart => exact ⟨1, Nat.le_refl _, by omega, rfl⟩
          case round =>
            obtain ⟨k, hk1, hk, rfl⟩ := hrel
            obtain ⟨p, hp⟩ : ∃ p, k * m = p := ⟨_, rfl⟩
            have hpb : p ≤ 61 * 61 := by rw [← hp]; exact Nat.mul_le_mul (by omega) (by omega)
            have hkp : k ≤ p := by rw [← hp]; exact Nat.le_mul_of_pos_right k hlp
            have hpi : (k : Int) * (m : Int) = (p : Int) := by rw [← hp]; exact (Int.natCast_mul k m).symm
            have HP := hide hp
            clear hp
            by_cases hpl : p ≤ l.length
            · have co := c3.out x p hpl
              have hco := HO.out x k hlt (by rw [HP.out]; exact hpl)
              rw [HP.out] at hco
              have hcl := @cntN_le (av l) x p
              generalize cntN (av l) x p = q at *
              go_wp2_with fail
              refine co.mono ?_
              rintro e w1 ⟨rfl, rfl⟩
              go_wp2_with fail
              go_round
              case rel => exact ⟨k + 1, by omega, by omega, by go_num⟩
              case measure => simp [intOf]; omega
            · go_wp2_with fail
              go_round
              case rel => exact ⟨x + 1, by omega, by go_num⟩
              case measure => simp [intOf]; omega
        · obtain rfl : x = n := by omega
          go_wp2_with fail
          refine (qawake_c _).mono ?_
          rintro e w1 ⟨rfl, hk⟩
          have HE := hide hk
          clear hk
          go_wp2_with fail
          go_ret
          exact ⟨rfl, HE.out⟩
    · have e1 : fb (av l) l.length n (1 + k0) = false := by rw [HI.out _ (by omega)]; simpa using hle
      have d1 := hide (c2.out _ _ e1)
      clear e1 c2
      go_enter Try.func3, Try.ntmps3
      go_wp2_with fail
      refine c1.out.mono ?_
      rintro e w1 ⟨rfl, rfl⟩
      go_wp2_with fail
      refine d1.out.mono ?_
      rintro e w1 ⟨rfl, rfl⟩
      go_wp2_with fail
      refine d1.out.mono ?_
      rintro e w1 ⟨rfl, rfl⟩
      go_wp2_with fail
      go_loop [9, 10] (fun i _ => ∃ x : Nat, x ≤ n ∧ i = .int .i64 x) (fun i _ => n - (intOf i).toNat)
      case atStart => exact ⟨0, Nat.zero_le _, rfl⟩
      case round =>
        obtain ⟨x, hx, rfl⟩ := hrel
        go_wp2_with fail
        refine c4.out.mono ?_
        rintro e w1 ⟨rfl, rfl⟩
        by_cases hlt : x < n
        · go_wp2_with fail
          go_loop [10] (fun i => ∃ k : Nat, 1 ≤ k ∧ k ≤ l.length + 1 ∧ i = .int .i64 k) (fun i => l.length + 2 - (intOf i).toNat)
          case atStart => exact ⟨1, Nat.le_refl _, by omega, rfl⟩
          case round =>
            obtain ⟨k, hk1, hk, rfl⟩ := hrel
            obtain ⟨p, hp⟩ : ∃ p, k * m = p := ⟨_, rfl⟩
            have hpb : p ≤ 61 * 61 := by rw [← hp]; exact Nat.mul_le_mul (by omega) (by omega)
            have hkp : k ≤ p := by rw [← hp]; exact Nat.le_mul_of_pos_right k hlp
            have hpi : (k : Int) * (m : Int) = (p : Int) := by rw [← hp]; exact (Int.natCast_mul k m).symm
            have HP := hide hp
            clear hp
            by_cases hpl : p ≤ l.length
            · have co := c3.out x p hpl
              have hco := HO.out x k hlt (by rw [HP.out]; exact hpl)
              rw [HP.out] at hco
              have hcl := @cntN_le (av l) x p
              generalize cntN (av l) x p = q at *
              go_wp2_with fail
              refine co.mono ?_
              rintro e w1 ⟨rfl, rfl⟩
              go_wp2_with fail
              go_round
              case rel => exact ⟨k + 1, by omega, by omega, by go_num⟩
              case measure => simp [intOf]; omega
            · go_wp2_with fail
              go_round
              case rel => exact ⟨x + 1, by omega, by go_num⟩
              case measure => simp [intOf]; omega
        · obtain rfl : x = n := by omega
          go_wp2_with fail
          refine (qawake_c _).mono ?_
          rintro e w1 ⟨rfl, hk⟩
          have HE := hide hk
          clear hk
          go_wp2_with fail
          go_ret
          exact ⟨rfl, HE.out⟩
  exact key.mono fun e w' ⟨h1, h2⟩ => ⟨h1, HK0.out.trans h2 (fun _ _ z => z)⟩
theorem qmore_c (t k0 k1 : Int) (h0 : 0 ≤ k0 ∧ k0 ≤ 255) (h1 : 0 ≤ k1 ∧ k1 ≤ 255) (hv : NumsC w v l) : Calls Try.prog 3 #[v, .int .i64 t, .agg #[.int .u8 k0, .int .u8 k1]] w fun e w' => e = .returned (.bool true) ∧ Kept Nil w w' := by
  rcases Nat.lt_or_ge 60 l.length with h | h
  · exact qmore_short t k0 k1 hv h
  · exact qmore_long t k0 k1 h0 h1 hv h
end
end Go.Proofs.Ythbldljdalcgcaa
