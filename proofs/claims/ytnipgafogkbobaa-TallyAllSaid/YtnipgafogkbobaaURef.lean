/- The document's State, Some, Holder. -/
import Derived.Test.YtnipgafogkbobaaUEv
namespace Go.Proofs.Ytnipgafogkbobaa
open Go.RowKit
set_option maxRecDepth 100000

theorem um_low {t : Int} (h : t < 0) : um t = 0 := if_pos h
theorem um_high {t : Int} (h : 32 < t) : um t = 32 := by unfold um; rw [if_neg (by omega), if_pos h]
theorem um_mid {t : Int} (h : 0 ≤ t) (h2 : t ≤ 32) : (um t : Int) = t := by unfold um; rw [if_neg (by omega), if_neg (by omega)]; omega
section
variable {w : World} {v : Value} {l : List Ev}
set_option maxHeartbeats 1000000
theorem usome_c (w : World) (t : Int) : Calls Try.prog 19 #[.int .i64 t] w fun e w' => e = .returned (.int .i64 (um t)) ∧ w = w' := by
  rcases Int.lt_or_le t 0 with h | h
  · rw [um_low h]
    go_enter Try.func19, Try.ntmps19
    go_wp2_with fail
    go_ret
    exact ⟨rfl, rfl⟩
  · rcases Int.lt_or_le 32 t with h2 | h2
    · rw [um_high h2]
      have h0 : ¬ t < 0 := by omega
      go_enter Try.func19, Try.ntmps19
      go_wp2_with fail
      go_ret
      exact ⟨rfl, rfl⟩
    · rw [um_mid h h2]
      have h0 : ¬ t < 0 := by omega
      go_enter Try.func19, Try.ntmps19
      go_wp2_with fail
      go_ret
      exact ⟨rfl, rfl⟩
theorem st_take {k : Nat} {t : Int} (h : k < l.length) : st (l.take (k + 1)) t = if (l.getD k e0).t = t then stp (l.getD k e0).k (st (l.take k) t) else st (l.take k) t := by
  rw [ev_take h, st_snoc]
/-- State. -/
theorem ustate_c (t : Int) (hv : Evs w v l) (hl : l.length ≤ 65536) : Calls Try.prog 20 #[v, .int .i64 t] w fun e w' => e = .returned (.int .i64 (st l t)) ∧ w = w' := by
  obtain ⟨A, c, rfl, _, hp⟩ := hv
  go_enter Try.func20, Try.ntmps20
  go_wp2_with fail
  go_loop [5, 6] (fun a i => ∃ k : Nat, k ≤ l.length ∧ i = .int .i64 k ∧ a = .int .i64 (st (l.take k) t)) (fun _ i => l.length - (intOf i).toNat)
  case atStart => exact ⟨0, Nat.zero_le _, rfl, rfl⟩
  case round =>
    obtain ⟨k, hk, rfl, rfl⟩ := hrel
    by_cases hlt : k < l.length
    · obtain ⟨g, o, rfl, _, hc⟩ := hp (by omega)
      have c1 := hc k hlt
      have HT := hide (st_take (t := t) hlt)
      clear hc hp
      generalize l.getD k e0 = e at *
      obtain ⟨ek, et, er, ec⟩ := e
      obtain ⟨c1, c2, _, _⟩ := c1
      have c1 : w.cell? ⟨g, o + k * 4, none⟩ = some (.int .i64 ek) := c1
      have c2 : w.cell? ⟨g, o + k * 4 + 1, none⟩ = some (.int .i64 et) := c2
      generalize st (l.take k) t = a at *
      by_cases ht : et = t
      · subst ht
        have HS : Hid (st (l.take (k + 1)) et = stp ek a) := hide (by have := HT.out; rw [if_pos rfl] at this; exact this)
        clear HT
        by_cases h1 : ek = 1
        · subst h1
          go_wp2_with fail
          go_round
          case rel => exact ⟨k + 1, by omega, by go_num, by rw [HS.out]; rfl⟩
          case measure => simp [intOf]; omega
        · by_cases h2 : ek = 2
          · subst h2
            go_wp2_with fail
            go_round
            case rel => exact ⟨k + 1, by omega, by go_num, by rw [HS.out]; rfl⟩
            case measure => simp [intOf]; omega
          · by_cases h3 : ek = 3
            · subst h3
              go_wp2_with fail
              go_round
              case rel => exact ⟨k + 1, by omega, by go_num, by rw [HS.out]; rfl⟩
              case measure => simp [intOf]; omega
            · by_cases h4 : ek = 4
              · subst h4
                go_wp2_with fail
                go_round
                case rel => exact ⟨k + 1, by omega, by go_num, by rw [HS.out]; rfl⟩
                case measure => simp [intOf]; omega
              · have HS2 : Hid (st (l.take (k + 1)) et = a) := hide (by rw [HS.out]; unfold stp; rw [if_neg h1, if_neg h2, if_neg h3, if_neg h4])
                have b1 : (ek == 1) = false := by simpa using h1
                have b2 : (ek == 2) = false := by simpa using h2
                have b3 : (ek == 3) = false := by simpa using h3
                have b4 : (ek == 4) = false := by simpa using h4
                clear h1 h2 h3 h4
                go_wp2_with fail
                go_round
                case rel => exact ⟨k + 1, by omega, by go_num, by rw [HS2.out]⟩
                case measure => simp [intOf]; omega
      · have HS : Hid (st (l.take (k + 1)) t = a) := hide (by have := HT.out; rw [if_neg ht] at this; exact this)
        have b1 : (et != t) = true := by simpa using ht
        clear HT ht
        go_wp2_with fail
        go_round
        case rel => exact ⟨k + 1, by omega, by go_num, by rw [HS.out]⟩
        case measure => simp [intOf]; omega
    · obtain rfl : k = l.length := by omega
      go_wp2_with fail
      go_ret
      exact ⟨rfl, rfl⟩
end
end Go.Proofs.Ytnipgafogkbobaa
