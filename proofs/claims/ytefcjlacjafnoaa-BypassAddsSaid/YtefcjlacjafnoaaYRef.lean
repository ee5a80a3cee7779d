/- The document's next, behind, stay. -/
import Derived.Test.YtefcjlacjafnoaaYRow
import Derived.Test.YtefcjlacjafnoaaYRefM
namespace Go.Proofs.Ytefcjlacjafnoaa
open Go.RowKit
set_option maxRecDepth 100000

section
variable {w : World} {v : Value} {l : List Ev}
set_option maxHeartbeats 1000000
theorem next_c (p : Nat) (k t : Int) (hv : Evs w v l) (hl : l.length ≤ 65536) (hp : p ≤ l.length) : Calls Try.prog 29 #[v, .int .i64 p, .int .i64 k, .int .i64 t] w fun e w' => e = .returned (.int .i64 (nx l p k t)) ∧ w = w' := by
  obtain ⟨A, c, rfl, _, hc⟩ := hv
  obtain ⟨u, hu⟩ : ∃ u, nx l p k t = u := ⟨_, rfl⟩
  rw [hu]
  go_enter Try.func29, Try.ntmps29
  go_wp2_with fail
  go_loop [9] (fun i => ∃ q : Nat, q ≤ l.length ∧ i = .int .i64 q ∧ nx l q k t = u) (fun i => l.length - (intOf i).toNat)
  case atStart => exact ⟨p, hp, rfl, hu⟩
  case round =>
    obtain ⟨q, hq, rfl, hx⟩ := hrel
    have g0 : decide ((0 : Int) ≤ q) = true := by simp
    by_cases hlt : q < l.length
    · obtain ⟨g, o, rfl, _, h4⟩ := hc (by omega)
      obtain ⟨c0, c1, _, _⟩ := h4 q hlt
      rw [nx_step hlt] at hx
      have HX := hide hx
      clear hx h4 hc hu
      generalize l.getD q e0 = e at *
      obtain ⟨ek, et, er, ec⟩ := e
      have c0 : w.cell? ⟨g, o + q * 4, none⟩ = some (.int .i64 ek) := c0
      have c1 : w.cell? ⟨g, o + q * 4 + 1, none⟩ = some (.int .i64 et) := c1
      by_cases h1 : ek = k
      · subst h1
        by_cases h2 : et = t
        · subst h2
          have HY : Hid ((q : Int) = u) := hide (by have := HX.out; rwa [if_pos ⟨rfl, rfl⟩] at this)
          clear HX
          go_wp2_with fail
          go_ret
          exact ⟨by rw [← HY.out]; rfl, rfl⟩
        · have hb : (et == t) = false := by simpa using h2
          have HY : Hid (nx l (q + 1) ek t = u) := hide (by have := HX.out; rwa [if_neg (fun z => h2 z.2)] at this)
          clear HX h2
          go_wp2_with fail
          go_round
          case rel => exact ⟨q + 1, by omega, by go_num, HY.out⟩
          case measure => simp [intOf]; omega
      · have hb : (ek == k) = false := by simpa using h1
        have HY : Hid (nx l (q + 1) k t = u) := hide (by have := HX.out; rwa [if_neg (fun z => h1 z.1)] at this)
        clear HX h1
        go_wp2_with fail
        go_round
        case rel => exact ⟨q + 1, by omega, by go_num, HY.out⟩
        case measure => simp [intOf]; omega
    · obtain rfl : q = l.length := by omega
      have HY : Hid ((-1 : Int) = u) := hide (by rw [← hx, nx_end (by omega)])
      clear hx hu
      go_wp2_with fail
      go_ret
      exact ⟨by rw [← HY.out]; rfl, rfl⟩
theorem behind_c (a k t : Int) (hv : Evs w v l) (hl : l.length ≤ 65536) (ha : a < l.length) : Calls Try.prog 28 #[v, .int .i64 a, .int .i64 k, .int .i64 t] w fun e w' => e = .returned (.int .i64 (bh l a k t)) ∧ w = w' := by
  have HA := hide ha
  by_cases h : a < 0
  · rw [bh_neg h]
    go_enter Try.func28, Try.ntmps28
    go_wp2_with fail
    go_ret
    exact ⟨rfl, rfl⟩
  · obtain ⟨n, rfl⟩ : ∃ n : Nat, a = n := ⟨a.toNat, by omega⟩
    rw [bh_at]
    have CN := hide (next_c (n + 1) k t hv hl (by omega))
    obtain ⟨A, c, rfl, _, hc⟩ := hv
    clear hc
    generalize nx l (n + 1) k t = u at *
    go_enter Try.func28, Try.ntmps28
    go_wp2_with fail
    refine CN.out.mono ?_
    rintro e w' ⟨rfl, rfl⟩
    go_wp2_with fail
    go_ret
    exact ⟨rfl, rfl⟩
end
end Go.Proofs.Ytefcjlacjafnoaa
