/- Longest, Turns; the document's Longest. -/
import Derived.Test.YtpmnmckamgdbcaaENode
namespace Go.Proofs.Ytpmnmckamgdbcaa
open Go.RowKit
set_option maxRecDepth 100000

section
variable {w w' : World} {v : Value} {R : List Rn}
theorem lng_head {R : List Rn} (h : 0 < R.length) : max (R.getD 0 r0).m (lng R) = lng R := by
  cases R with
  | nil => simp at h
  | cons a t => show max a.m (max a.m (lng t)) = max a.m (lng t); omega
set_option maxHeartbeats 1000000
/-- Longest. -/
theorem longest_c (hv : Runs w v R) (hl : R.length ≤ 65536) : Calls Try.prog 9 #[v] w fun e w' => e = .returned (.int .i64 (lng R : Nat)) ∧ Kept Nil w w' := by
  obtain ⟨A, c, rfl, _, hp⟩ := hv
  have HP := hide hp
  clear hp
  by_cases h0 : 0 < R.length
  · obtain ⟨g, o, rfl, hg, hc⟩ := HP.out h0
    have HC := hide hc
    obtain ⟨_, _, f2⟩ := hc 0 h0
    have f2 : w.cell? ⟨g, o + 2, none⟩ = some (.int .i64 (R.getD 0 r0).m) := by rw [← f2]
    have HH := hide (lng_head h0)
    clear hc HP
    generalize (R.getD 0 r0).m = m0 at *
    have d0 : ((R.length : Int) == 0) = false := by rw [beq_eq_false_iff_ne]; omega
    go_enter Try.func9, Try.ntmps9
    go_wp2_with fail
    go_loopw [3, 15] (fun v3 v15 wr => ∃ k : Nat, k ≤ R.length ∧ v15 = .int .i64 k ∧ v3 = .int .i64 (max m0 (lng (R.take k)) : Nat) ∧ Kept Nil w wr) (fun _ i _ => R.length - (intOf i).toNat)
    case atStart => exact ⟨0, Nat.zero_le _, rfl, by rw [show max m0 (lng (R.take 0)) = m0 by simp [lng]], Kept.refl _ _⟩
    case round =>
      obtain ⟨k, hk, rfl, rfl, hkr⟩ := hrel
      have HK := hide hkr
      clear hkr f2
      by_cases hlt : k < R.length
      · obtain ⟨q0, q1, q2⟩ := (HC.out k hlt).kept hg HK.out
        have HL : Hid (max m0 (lng (R.take (k + 1))) = max (max m0 (lng (R.take k))) (R.getD k r0).m) := hide (by rw [lng_take hlt]; omega)
        generalize R.getD k r0 = r at *
        obtain ⟨rn, rf, rm⟩ := r
        have q0 : wr.cell? ⟨g, o + k * 3, none⟩ = some (.int .i64 rn) := q0
        have q1 : wr.cell? ⟨g, o + k * 3 + 1, none⟩ = some (.int .i64 rf) := q1
        have q2 : wr.cell? ⟨g, o + k * 3 + 2, none⟩ = some (.int .i64 rm) := q2
        generalize max m0 (lng (R.take k)) = lo at *
        obtain ⟨y, hy⟩ : ∃ y, max lo rm = y := ⟨_, rfl⟩
        have e1 : (if (lo : Int) < (rm : Int) then (rm : Int) else (lo : Int)) = (y : Int) := by split <;> omega
        have e2 : (if lo < rm then (rm : Int) else (lo : Int)) = (y : Int) := by split <;> omega
        have HY := hide hy
        have HA := hide (HK.out.alloc (.cells #[.int .i64 rn, .int .i64 rf, .int .i64 rm] 31))
        clear hy HK
        go_wp2_with fail
        go_roundw
        case rel => exact ⟨k + 1, by omega, by go_num, by rw [HL.out]; show _ = Value.int .i64 ((max lo rm : Nat) : Int); rw [HY.out], HA.out⟩
        case measure => simp [intOf]; omega
      · obtain rfl : k = R.length := by omega
        rw [List.take_length, HH.out]
        go_wp2_with fail
        go_ret
        exact ⟨rfl, HK.out⟩
  · have hR : R = [] := List.eq_nil_of_length_eq_zero (by omega)
    subst hR
    clear HP h0
    go_enter Try.func9, Try.ntmps9
    go_wp2_with fail
    go_ret
    exact ⟨rfl, Kept.refl _ _⟩
/-- The document's Longest. -/
theorem rlongest_c (hv : Runs w v R) (hl : R.length ≤ 65536) : Calls Try.prog 12 #[v] w fun e w' => e = .returned (.int .i64 (lng R : Nat)) ∧ w = w' := by
  obtain ⟨A, c, rfl, _, hp⟩ := hv
  have HP := hide hp
  clear hp
  go_enter Try.func12, Try.ntmps12
  go_wp2_with fail
  go_loop [3, 4] (fun v3 i => ∃ k : Nat, k ≤ R.length ∧ i = .int .i64 k ∧ v3 = .int .i64 (lng (R.take k) : Nat)) (fun _ i => R.length - (intOf i).toNat)
  case atStart => exact ⟨0, Nat.zero_le _, rfl, rfl⟩
  case round =>
    obtain ⟨k, hk, rfl, rfl⟩ := hrel
    by_cases hlt : k < R.length
    · obtain ⟨g, o, rfl, hg, hc⟩ := HP.out (by omega)
      obtain ⟨_, _, q2⟩ := hc k hlt
      have HL := hide (lng_take hlt)
      clear hc
      generalize R.getD k r0 = r at *
      obtain ⟨rn, rf, rm⟩ := r
      have q2 : w.cell? ⟨g, o + k * 3 + 2, none⟩ = some (.int .i64 rm) := q2
      generalize lng (R.take k) = lo at *
      by_cases hm : lo < rm
      · have d1 : decide ((lo : Int) < (rm : Int)) = true := by simpa using hm
        have d2 : decide (lo < rm) = true := by simpa using hm
        have HM : Hid (lng (R.take (k + 1)) = rm) := hide (by rw [HL.out]; show max lo rm = rm; omega)
        clear HL
        go_wp2_with fail
        go_round
        case rel => exact ⟨k + 1, by omega, by go_num, by rw [HM.out]⟩
        case measure => simp [intOf]; omega
      · have d1 : decide ((lo : Int) < (rm : Int)) = false := by simpa using hm
        have d2 : decide (lo < rm) = false := by simpa using hm
        have HM : Hid (lng (R.take (k + 1)) = lo) := hide (by rw [HL.out]; show max lo rm = lo; omega)
        clear HL hm
        go_wp2_with fail
        go_round
        case rel => exact ⟨k + 1, by omega, by go_num, by rw [HM.out]⟩
        case measure => simp [intOf]; omega
    · obtain rfl : k = R.length := by omega
      rw [List.take_length]
      go_wp2_with fail
      go_ret
      exact ⟨rfl, rfl⟩
/-- Turns. -/
theorem turns_c (hv : Runs w v R) (hl : R.length ≤ 65536) : Calls Try.prog 8 #[v] w fun e w' => e = .returned (.int .i64 (tur R R.length : Nat)) ∧ Kept Nil w w' := by
  obtain ⟨A, c, rfl, _, hp⟩ := hv
  have HP := hide hp
  clear hp
  go_enter Try.func8, Try.ntmps8
  go_wp2_with fail
  go_loopw [3, 8] (fun v3 v8 wr => ∃ k : Nat, k ≤ R.length ∧ v8 = .int .i64 k ∧ v3 = .int .i64 (tur R k : Nat) ∧ Kept Nil w wr) (fun _ i _ => R.length - (intOf i).toNat)
  case atStart => exact ⟨0, Nat.zero_le _, rfl, rfl, Kept.refl _ _⟩
  case round =>
    obtain ⟨k, hk, rfl, rfl, hkr⟩ := hrel
    have HK := hide hkr
    clear hkr
    by_cases hlt : k < R.length
    · obtain ⟨g, o, rfl, hg, hc⟩ := HP.out (by omega)
      have HC := hide hc
      obtain ⟨q0, q1, q2⟩ := (hc k hlt).kept hg HK.out
      have htk := tur_le R k
      have HT := hide (show tur R (k + 1) = tur R k + (if 0 < k ∧ (R.getD k r0).n ≠ (R.getD (k - 1) r0).n then 1 else 0) from rfl)
      generalize tur R k = x at *
      have HZ := hide fun (z : 0 < k) => (HC.out (k - 1) (by omega)).kept hg HK.out
      clear hc HC
      generalize R.getD k r0 = r at *
      generalize R.getD (k - 1) r0 = s at *
      obtain ⟨rn, rf, rm⟩ := r
      obtain ⟨sn, sf, sm⟩ := s
      have q0 : wr.cell? ⟨g, o + k * 3, none⟩ = some (.int .i64 rn) := q0
      have q1 : wr.cell? ⟨g, o + k * 3 + 1, none⟩ = some (.int .i64 rf) := q1
      have q2 : wr.cell? ⟨g, o + k * 3 + 2, none⟩ = some (.int .i64 rm) := q2
      obtain ⟨w2, hw2⟩ : ∃ w2, wr.alloc (.cells #[.int .i64 rn, .int .i64 rf, .int .i64 rm] 31) = w2 := ⟨_, rfl⟩
      have HI : Hid (Is w2 wr.heap.size 31 #[.int .i64 rn, .int .i64 rf, .int .i64 rm] ∧ Kept Nil w w2) := hide (by rw [← hw2]; exact ⟨Is.new wr _ _, HK.out.alloc _⟩)
      have b0 : w2.cell? ⟨wr.heap.size, 0, none⟩ = some (.int .i64 rn) := HI.out.1.cell 0
      by_cases h0 : 0 < k
      · have p0 : w2.cell? ⟨g, o + (k - 1) * 3, none⟩ = some (.int .i64 sn) := ((HZ.out h0).kept (Nat.lt_of_lt_of_le hg HK.out.size) (by rw [← hw2]; exact (Kept.refl Nil wr).alloc _)).n
        have d0 : decide (0 < (k : Int)) = true := by simpa using h0
        obtain ⟨j, rfl⟩ : ∃ j, k = j + 1 := ⟨k - 1, by omega⟩
        have p0 : w2.cell? ⟨g, o + j * 3, none⟩ = some (.int .i64 sn) := p0
        by_cases hd : rn = sn
        · have hb : (rn != sn) = false := by simpa using hd
          have HY : Hid (tur R (j + 1 + 1) = x) := hide (by rw [HT.out, if_neg (fun z => z.2 hd)]; rfl)
          clear HT HZ hd HP
          go_wp2_with fail
          go_quiet (fail)
          go_wp2_with fail
          go_roundw
          case rel => exact ⟨j + 1 + 1, by omega, by go_num, by rw [HY.out], HI.out.2.drewN _⟩
          case measure => simp [intOf]; omega
        · have hb : (rn != sn) = true := by simpa using hd
          have HY : Hid (tur R (j + 1 + 1) = x + 1) := hide (by rw [HT.out, if_pos ⟨h0, hd⟩])
          clear HT HZ hd HP
          go_wp2_with fail
          go_quiet (fail)
          go_wp2_with fail
          go_roundw
          case rel => exact ⟨j + 1 + 1, by omega, by go_num, by rw [HY.out]; rfl, HI.out.2.drewN _⟩
          case measure => simp [intOf]; omega
      · have d0 : decide (0 < (k : Int)) = false := by simpa using h0
        have d0' : decide (0 < k) = false := by simpa using h0
        have HY : Hid (tur R (k + 1) = x) := hide (by rw [HT.out, if_neg (fun z => h0 z.1)]; rfl)
        clear HT HZ HP h0
        go_wp2_with fail
        go_quiet (fail)
        go_wp2_with fail
        go_roundw
        case rel => exact ⟨k + 1, by omega, by go_num, by rw [HY.out], HI.out.2.drewN _⟩
        case measure => simp [intOf]; omega
    · obtain rfl : k = R.length := by omega
      go_wp2_with fail
      go_ret
      exact ⟨rfl, HK.out⟩
end
end Go.Proofs.Ytpmnmckamgdbcaa
