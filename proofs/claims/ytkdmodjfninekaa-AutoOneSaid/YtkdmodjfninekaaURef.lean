/- The document's State, Some, Holder. -/
import Derived.Test.YtkdmodjfninekaaUEv
namespace Go.Proofs.Ytkdmodjfninekaa
open Go.RowKit
set_option maxRecDepth 100000

theorem um_low {t : Int} (h : t < 0) : um t = 0 := if_pos h
theorem um_high {t : Int} (h : 32 < t) : um t = 32 := by unfold um; rw [if_neg (by omega), if_pos h]
theorem um_mid {t : Int} (h : 0 ≤ t) (h2 : t ≤ 32) : (um t : Int) = t := by unfold um; rw [if_neg (by omega), if_neg (by omega)]; omega
section
variable {w : World} {v : Value} {l : List Ev}
set_option maxHeartbeats 1000000
theorem usome_c (w : World) (t : Int) : Calls Try.prog 17 #[.int .i64 t] w fun e w' => e = .returned (.int .i64 (um t)) ∧ w = w' := by
  rcases Int.lt_or_le t 0 with h | h
  · rw [um_low h]
    go_enter Try.func17, Try.ntmps17
    go_wp2_with fail
    go_ret
    exact ⟨rfl, rfl⟩
  · rcases Int.lt_or_le 32 t with h2 | h2
    · rw [um_high h2]
      have h0 : ¬ t < 0 := by omega
      go_enter Try.func17, Try.ntmps17
      go_wp2_with fail
      go_ret
      exact ⟨rfl, rfl⟩
    · rw [um_mid h h2]
      have h0 : ¬ t < 0 := by omega
      go_enter Try.func17, Try.ntmps17
      go_wp2_with fail
      go_ret
      exact ⟨rfl, rfl⟩
theorem st_take {k : Nat} {t : Int} (h : k < l.length) : st (l.take (k + 1)) t = if (l.getD k e0).t = t then stp (l.getD k e0).k (st (l.take k) t) else st (l.take k) t := by
  rw [ev_take h, st_snoc]
/-- State. -/
theorem ustate_c (t : Int) (hv : Evs w v l) (hl : l.length ≤ 65536) : Calls Try.prog 14 #[v, .int .i64 t] w fun e w' => e = .returned (.int .i64 (st l t)) ∧ w = w' := by
  obtain ⟨A, c, rfl, _, hp⟩ := hv
  go_enter Try.func14, Try.ntmps14
  go_wp2_with fail
  go_loop [5, 6] (fun a i => ∃ k : Nat, k ≤ l.length ∧ i = .int .i64 k ∧ a = .int .i64 (st (l.take k) t)) (fun _ i => l.length - (intOf i).toNat)
  case atStart => exact ⟨0, Nat.zero_le _, rfl, rfl⟩
  case round =>
    obtain ⟨k, hk, rfl, rfl⟩ := hrel
    by_cases hlt : k < l.length
    · obtain ⟨g, o, rfl, _, hc⟩ := hp (by omega)
      have c1 := hc k hlt
      have HT := hide (st_take (t := t) hlt)
      clear hc hp
      generalize l.getD k e0 = e at *
      obtain ⟨ek, et, er, ec⟩ := e
      obtain ⟨c1, c2, _, _⟩ := c1
      have c1 : w.cell? ⟨g, o + k * 4, none⟩ = some (.int .i64 ek) := c1
      have c2 : w.cell? ⟨g, o + k * 4 + 1, none⟩ = some (.int .i64 et) := c2
      generalize st (l.take k) t = a at *
      by_cases ht : et = t
      · subst ht
        have HS : Hid (st (l.take (k + 1)) et = stp ek a) := hide (by have := HT.out; rw [if_pos rfl] at this; exact this)
        clear HT
        by_cases h1 : ek = 1
        · subst h1
          go_wp2_with fail
          go_round
          case rel => exact ⟨k + 1, by omega, by go_num, by rw [HS.out]; rfl⟩
          case measure => simp [intOf]; omega
        · by_cases h2 : ek = 2
          · subst h2
            go_wp2_with fail
            go_round
            case rel => exact ⟨k + 1, by omega, by go_num, by rw [HS.out]; rfl⟩
            case measure => simp [intOf]; omega
          · by_cases h3 : ek = 3
            · subst h3
              go_wp2_with fail
              go_round
              case rel => exact ⟨k + 1, by omega, by go_num, by rw [HS.out]; rfl⟩
              case measure => simp [intOf]; omega
            · by_cases h4 : ek = 4
              · subst h4
                go_wp2_with fail
                go_round
                case rel => exact ⟨k + 1, by omega, by go_num, by rw [HS.out]; rfl⟩
                case measure => simp [intOf]; omega
              · have HS2 : Hid (st (l.take (k + 1)) et = a) := hide (by rw [HS.out]; unfold stp; rw [if_neg h1, if_neg h2, if_neg h3, if_neg h4])
                have b1 : (ek == 1) = false := by simpa using h1
                have b2 : (ek == 2) = false := by simpa using h2
                have b3 : (ek == 3) = false := by simpa using h3
                have b4 : (ek == 4) = false := by simpa using h4
                clear h1 h2 h3 h4
                go_wp2_with fail
                go_round
                case rel => exact ⟨k + 1, by omega, by go_num, by rw [HS2.out]⟩
                case measure => simp [intOf]; omega
      · have HS : Hid (st (l.take (k + 1)) t = a) := hide (by have := HT.out; rw [if_neg ht] at this; exact this)
        have b1 : (et != t) = true := by simpa using ht
        clear HT ht
        go_wp2_with fail
        go_round
        case rel => exact ⟨k + 1, by omega, by go_num, by rw [HS.out]⟩
        case measure => simp [intOf]; omega
    · obtain rfl : k = l.length := by omega
      go_wp2_with fail
      go_ret
      exact ⟨rfl, rfl⟩
/-- Holder. -/
theorem uholder_c (n : Int) (hv : Evs w v l) (hl : l.length ≤ 65536) : Calls Try.prog 13 #[.int .i64 n, v] w fun e w' => e = .returned (.int .i64 (hol (ats (um n) l))) ∧ w = w' := by
  have c1 := hide (usome_c w n)
  have c2 := hide fun t => ustate_c t hv hl
  have hm := um_le (t := n)
  generalize um n = m at *
  have HH := hide fun k (h : k < m) (h2 : st l k = 2) (hn : ∀ j : Nat, j < k → st l j ≠ 2) => hol_hit (A := ats m l) (k := k) (by rw [ats_len]; exact h) (by rw [ats_at h]; exact h2) (fun j hj => by rw [ats_at (by omega)]; exact hn j hj)
  have HM := hide fun (hn : ∀ j : Nat, j < m → st l j ≠ 2) => hol_miss (A := ats m l) (fun j hj => by rw [ats_len] at hj; rw [ats_at hj]; exact hn j hj)
  obtain ⟨A, c, rfl, _, hp⟩ := hv
  clear hp
  go_enter Try.func13, Try.ntmps13
  go_wp2_with fail
  go_loop [5] (fun i => ∃ k : Nat, k ≤ m ∧ i = .int .i64 k ∧ ∀ j : Nat, j < k → st l j ≠ 2) (fun i => m - (intOf i).toNat)
  case atStart => exact ⟨0, Nat.zero_le _, rfl, fun j h => by omega⟩
  case round =>
    obtain ⟨k, hk, rfl, hn⟩ := hrel
    have HN := hide hn
    clear hn
    go_wp2_with fail
    refine c1.out.mono ?_
    rintro e w' ⟨rfl, rfl⟩
    by_cases hlt : k < m
    · go_wp2_with fail
      refine (c2.out k).mono ?_
      rintro e w' ⟨rfl, rfl⟩
      have HX := hide (fun h => HH.out k hlt h HN.out)
      have HY := hide (fun (h : st l k ≠ 2) (j : Nat) (hj : j < k + 1) => show st l j ≠ 2 from by
        by_cases e : j = k
        · rw [e]; exact h
        · exact HN.out j (by omega))
      generalize st l (k : Int) = a at *
      by_cases ha : a = 2
      · subst ha
        have HR := hide (HX.out rfl)
        clear HX HY
        go_wp2_with fail
        go_ret
        exact ⟨by rw [HR.out]; rfl, rfl⟩
      · have HR := hide (HY.out ha)
        have hb : (a == 2) = false := by simpa using ha
        clear HX HY ha
        go_wp2_with fail
        go_round
        case rel => exact ⟨k + 1, by omega, by go_num, HR.out⟩
        case measure => simp [intOf]; omega
    · obtain rfl : k = m := by omega
      have HR := hide (HM.out HN.out)
      go_wp2_with fail
      go_ret
      exact ⟨by rw [HR.out]; rfl, rfl⟩
end
end Go.Proofs.Ytkdmodjfninekaa
