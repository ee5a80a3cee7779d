/- The document's Reads, Readers, Writer. -/
import Derived.Test.YtnipgafogkbobaaURef
import Derived.Test.YtnipgafogkbobaaHMath
namespace Go.Proofs.Ytnipgafogkbobaa
open Go.RowKit
set_option maxRecDepth 100000

section
variable {w : World} {v : Value} {l : List Ev}
set_option maxHeartbeats 1000000
theorem rd_take {k : Nat} {t : Int} (h : k < l.length) : rd (l.take (k + 1)) t = if (l.getD k e0).t = t then rstp (l.getD k e0) (rd (l.take k) t) else rd (l.take k) t := by
  rw [ev_take h, rd_snoc]
/-- Reads. -/
theorem rreads_c (t : Int) (hv : Evs w v l) (hl : l.length ≤ 65536) : Calls Try.prog 21 #[v, .int .i64 t] w fun e w' => e = .returned (.bool (rd l t)) ∧ w = w' := by
  obtain ⟨A, c, rfl, _, hp⟩ := hv
  go_enter Try.func21, Try.ntmps21
  go_wp2_with fail
  go_loop [5, 6] (fun a i => ∃ k : Nat, k ≤ l.length ∧ i = .int .i64 k ∧ a = .bool (rd (l.take k) t)) (fun _ i => l.length - (intOf i).toNat)
  case atStart => exact ⟨0, Nat.zero_le _, rfl, rfl⟩
  case round =>
    obtain ⟨k, hk, rfl, rfl⟩ := hrel
    by_cases hlt : k < l.length
    · obtain ⟨g, o, rfl, _, hc⟩ := hp (by omega)
      have c1 := hc k hlt
      have HT := hide (rd_take (t := t) hlt)
      clear hc hp
      generalize l.getD k e0 = e at *
      obtain ⟨ek, et, er, ec⟩ := e
      obtain ⟨c1, c2, c3, _⟩ := c1
      have c1 : w.cell? ⟨g, o + k * 4, none⟩ = some (.int .i64 ek) := c1
      have c2 : w.cell? ⟨g, o + k * 4 + 1, none⟩ = some (.int .i64 et) := c2
      have c3 : w.cell? ⟨g, o + k * 4 + 2, none⟩ = some (.bool er) := c3
      generalize rd (l.take k) t = a at *
      by_cases ht : et = t
      · subst ht
        have HS : Hid (rd (l.take (k + 1)) et = rstp ⟨ek, et, er, ec⟩ a) := hide (by have := HT.out; rw [if_pos rfl] at this; exact this)
        clear HT
        by_cases h1 : ek = 1
        · subst h1
          go_wp2_with fail
          go_round
          case rel => exact ⟨k + 1, by omega, by go_num, by rw [HS.out]; rfl⟩
          case measure => simp [intOf]; omega
        · have b1 : (ek == 1) = false := by simpa using h1
          by_cases h4 : ek = 4
          · subst h4
            go_wp2_with fail
            go_round
            case rel => exact ⟨k + 1, by omega, by go_num, by rw [HS.out]; rfl⟩
            case measure => simp [intOf]; omega
          · have HS2 : Hid (rd (l.take (k + 1)) et = a) := hide (by rw [HS.out]; unfold rstp; rw [if_neg h1, if_neg h4])
            have b4 : (ek == 4) = false := by simpa using h4
            clear h1 h4
            go_wp2_with fail
            go_round
            case rel => exact ⟨k + 1, by omega, by go_num, by rw [HS2.out]⟩
            case measure => simp [intOf]; omega
      · have HS : Hid (rd (l.take (k + 1)) t = a) := hide (by have := HT.out; rw [if_neg ht] at this; exact this)
        have b1 : (et != t) = true := by simpa using ht
        clear HT ht
        go_wp2_with fail
        go_round
        case rel => exact ⟨k + 1, by omega, by go_num, by rw [HS.out]⟩
        case measure => simp [intOf]; omega
    · obtain rfl : k = l.length := by omega
      go_wp2_with fail
      go_ret
      exact ⟨rfl, rfl⟩
/-- Writer. -/
theorem rwriter_c (n : Int) (hv : Evs w v l) (hl : l.length ≤ 65536) : Calls Try.prog 22 #[.int .i64 n, v] w fun e w' => e = .returned (.int .i64 (wri (sds (um n) l))) ∧ w = w' := by
  have c1 := hide (usome_c w n)
  have c2 := hide fun t => ustate_c t hv hl
  have c3 := hide fun t => rreads_c t hv hl
  have hm := um_le (t := n)
  generalize um n = m at *
  have HH := hide fun k (h : k < m) (h2 : st l k = 2) (h3 : rd l k = false) (hn : ∀ j : Nat, j < k → (st l j, rd l j) ≠ ((2, false) : Sd)) => wri_hit (A := sds m l) (k := k) (by rw [sds_len]; exact h) (by rw [sds_at h, h2, h3]) (fun j hj => by rw [sds_at (by omega)]; exact hn j hj)
  have HM := hide fun (hn : ∀ j : Nat, j < m → (st l j, rd l j) ≠ ((2, false) : Sd)) => wri_miss (A := sds m l) (fun j hj => by rw [sds_len] at hj; rw [sds_at hj]; exact hn j hj)
  obtain ⟨A, c, rfl, _, hp⟩ := hv
  clear hp
  go_enter Try.func22, Try.ntmps22
  go_wp2_with fail
  go_loop [5] (fun i => ∃ k : Nat, k ≤ m ∧ i = .int .i64 k ∧ ∀ j : Nat, j < k → (st l j, rd l j) ≠ ((2, false) : Sd)) (fun i => m - (intOf i).toNat)
  case atStart => exact ⟨0, Nat.zero_le _, rfl, fun j h => by omega⟩
  case round =>
    obtain ⟨k, hk, rfl, hn⟩ := hrel
    have HN := hide hn
    clear hn
    go_wp2_with fail
    refine c1.out.mono ?_
    rintro e w' ⟨rfl, rfl⟩
    by_cases hlt : k < m
    · go_wp2_with fail
      refine (c2.out k).mono ?_
      rintro e w' ⟨rfl, rfl⟩
      have HX := hide (fun h h2 => HH.out k hlt h h2 HN.out)
      have HY := hide (fun (h : (st l k, rd l k) ≠ ((2, false) : Sd)) (j : Nat) (hj : j < k + 1) => show (st l j, rd l j) ≠ ((2, false) : Sd) from by
        by_cases e : j = k
        · rw [e]; exact h
        · exact HN.out j (by omega))
      have c3 := hide (c3.out k)
      generalize st l (k : Int) = a at *
      generalize rd l (k : Int) = r at *
      by_cases ha : a = 2
      · subst ha
        cases r with
        | false =>
          have HR := hide (HX.out rfl rfl)
          clear HX HY
          go_wp2_with fail
          refine c3.out.mono ?_
          rintro e w' ⟨rfl, rfl⟩
          go_wp2_with fail
          go_ret
          exact ⟨by rw [HR.out]; rfl, rfl⟩
        | true =>
          have HR := hide (HY.out (by decide))
          clear HX HY
          go_wp2_with fail
          refine c3.out.mono ?_
          rintro e w' ⟨rfl, rfl⟩
          go_wp2_with fail
          go_round
          case rel => exact ⟨k + 1, by omega, by go_num, HR.out⟩
          case measure => simp [intOf]; omega
      · have HR := hide (HY.out (fun z => ha (by injection z)))
        have hb : (a == 2) = false := by simpa using ha
        clear HX HY ha
        go_wp2_with fail
        go_round
        case rel => exact ⟨k + 1, by omega, by go_num, HR.out⟩
        case measure => simp [intOf]; omega
    · obtain rfl : k = m := by omega
      have HR := hide (HM.out HN.out)
      go_wp2_with fail
      go_ret
      exact ⟨by rw [HR.out]; rfl, rfl⟩
/-- Readers. -/
theorem rreaders_c (n : Int) (hv : Evs w v l) (hl : l.length ≤ 65536) : Calls Try.prog 23 #[.int .i64 n, v] w fun e w' => e = .returned (.int .i64 (rdn (sds (um n) l) : Nat)) ∧ w = w' := by
  have c1 := hide (usome_c w n)
  have c2 := hide fun t => ustate_c t hv hl
  have c3 := hide fun t => rreads_c t hv hl
  have hm := um_le (t := n)
  generalize um n = m at *
  have HH := hide fun k (h : k < m) => show cnt (2, true) ((sds m l).take (k + 1)) = cnt (2, true) ((sds m l).take k) + if ((st l k, rd l k) : Sd) = (2, true) then 1 else 0 from by
    rw [cnt_take (by rw [sds_len]; exact h), sds_at h]
  have HM := hide (show cnt (2, true) ((sds m l).take m) = rdn (sds m l) from by rw [List.take_of_length_le (by rw [sds_len]; omega)]; rfl)
  have HL := hide fun (k : Nat) => show cnt (2, true) ((sds m l).take k) ≤ 32 from by
    have := cnt_le (x := (2, true)) (A := (sds m l).take k)
    rw [List.length_take, sds_len] at this
    omega
  generalize sds m l = D at *
  obtain ⟨A, c, rfl, _, hp⟩ := hv
  clear hp
  go_enter Try.func23, Try.ntmps23
  go_wp2_with fail
  go_loop [5, 6] (fun a i => ∃ k : Nat, k ≤ m ∧ i = .int .i64 k ∧ a = .int .i64 (cnt (2, true) (D.take k) : Nat)) (fun _ i => m - (intOf i).toNat)
  case atStart => exact ⟨0, Nat.zero_le _, rfl, rfl⟩
  case round =>
    obtain ⟨k, hk, rfl, rfl⟩ := hrel
    go_wp2_with fail
    refine c1.out.mono ?_
    rintro e w' ⟨rfl, rfl⟩
    by_cases hlt : k < m
    · go_wp2_with fail
      refine (c2.out k).mono ?_
      rintro e w' ⟨rfl, rfl⟩
      have HX := hide (HH.out k hlt)
      have hle := HL.out k
      have c3 := hide (c3.out k)
      generalize cnt (2, true) (D.take k) = q at *
      generalize st l (k : Int) = a at *
      generalize rd l (k : Int) = r at *
      by_cases ha : a = 2
      · subst ha
        cases r with
        | false =>
          have HR : Hid (cnt (2, true) (D.take (k + 1)) = q) := hide (HX.out.trans (by rw [if_neg (by decide), Nat.add_zero]))
          clear HX
          go_wp2_with fail
          refine c3.out.mono ?_
          rintro e w' ⟨rfl, rfl⟩
          go_wp2_with fail
          go_round
          case rel => exact ⟨k + 1, by omega, by go_num, by rw [HR.out]⟩
          case measure => simp [intOf]; omega
        | true =>
          have HR : Hid (cnt (2, true) (D.take (k + 1)) = q + 1) := hide (HX.out.trans (by rw [if_pos rfl]))
          clear HX
          go_wp2_with fail
          refine c3.out.mono ?_
          rintro e w' ⟨rfl, rfl⟩
          go_wp2_with fail
          go_round
          case rel => exact ⟨k + 1, by omega, by go_num, by rw [HR.out]; go_num⟩
          case measure => simp [intOf]; omega
      · have HR : Hid (cnt (2, true) (D.take (k + 1)) = q) := hide (HX.out.trans (by rw [if_neg (fun z => ha (by injection z)), Nat.add_zero]))
        have hb : (a == 2) = false := by simpa using ha
        clear HX ha
        go_wp2_with fail
        go_round
        case rel => exact ⟨k + 1, by omega, by go_num, by rw [HR.out]⟩
        case measure => simp [intOf]; omega
    · obtain rfl : k = m := by omega
      go_wp2_with fail
      go_ret
      exact ⟨by rw [HM.out]; rfl, rfl⟩
end
end Go.Proofs.Ytnipgafogkbobaa
