/- Package fair's contracts: many, gap, Least, Fair, Own, modulo. -/
import Derived.Test.YthbldljdalcgcaaQMath
import Derived.Test.YthbldljdalcgcaaNums
namespace Go.Proofs.Ythbldljdalcgcaa
open Go.RowKit
set_option maxRecDepth 100000

/-- Some threads. -/
def sm (t : Int) : Nat := if t < 0 then 0 else if 32 < t then 32 else t.toNat
theorem sm_le (t : Int) : sm t ≤ 32 := by unfold sm; split <;> (try split) <;> omega
theorem sm_low {t : Int} (h : t < 0) : sm t = 0 := by unfold sm; rw [if_pos h]
theorem sm_high {t : Int} (h : 32 < t) : sm t = 32 := by unfold sm; rw [if_neg (by omega), if_pos h]
theorem sm_mid {t : Int} (h : 0 ≤ t) (h2 : t ≤ 32) : (sm t : Int) = t := by unfold sm; rw [if_neg (by omega), if_neg (by omega)]; omega
/-- A list as a function of places. -/
def av (l : List Int) : Nat → Int := fun i => l.getD i 0

section
variable {w : World} {v : Value} {l : List Int}
set_option maxHeartbeats 1000000
theorem many_c (w : World) (t : Int) : Calls Try.prog 19 #[.int .i64 t] w fun e w' => e = .returned (.int .i64 (sm t)) ∧ w = w' := by
  rcases Int.lt_or_le t 0 with h | h
  · rw [sm_low h]
    go_enter Try.func19, Try.ntmps19
    go_wp2_with fail
    go_ret
    exact ⟨rfl, rfl⟩
  · rcases Int.lt_or_le 32 t with h2 | h2
    · rw [sm_high h2]
      have h0 : ¬ t < 0 := by omega
      go_enter Try.func19, Try.ntmps19
      go_wp2_with fail
      go_ret
      exact ⟨rfl, rfl⟩
    · rw [sm_mid h h2]
      have h0 : ¬ t < 0 := by omega
      go_enter Try.func19, Try.ntmps19
      go_wp2_with fail
      go_ret
      exact ⟨rfl, rfl⟩
/-- modulo, of what is not far off. -/
theorem modulo_c (w : World) (x : Int) (n : Nat) (hn : 0 < n) (hn2 : n ≤ 32) : Calls Try.prog 21 #[.int .i64 x, .int .i64 n] w fun e w' => e = .returned (.int .i64 (x % n)) ∧ w = w' := by
  have h1 := Int.tmod_lt_of_pos x (show (0 : Int) < n by omega)
  have h2 : -(n : Int) < x.tmod n := by
    have := Int.tmod_lt_of_pos (-x) (show (0 : Int) < n by omega)
    rw [Int.neg_tmod] at this
    omega
  have h3 : (x.tmod n + n).tmod n = x % n := by
    rw [Int.tmod_eq_emod_of_nonneg (by omega), Int.add_emod_right]
    have e := Int.mul_tdiv_add_tmod x n
    rw [show x % n = (n * x.tdiv n + x.tmod n) % n by rw [e], Int.mul_add_emod_self_left]
  have H3 := hide h3
  clear h3
  obtain ⟨y, hy⟩ : ∃ y, x.tmod n = y := ⟨_, rfl⟩
  rw [hy] at h1 h2 H3
  obtain ⟨z, hz⟩ : ∃ z, (y + n).tmod n = z := ⟨_, rfl⟩
  go_enter Try.func21, Try.ntmps21
  go_wp2_with fail
  go_ret
  exact ⟨by rw [← H3.out, hz]; rfl, rfl⟩
/-- gap. -/
theorem gap_c (t : Int) (hv : Nums w v l) (hl : l.length ≤ 65536) : Calls Try.prog 20 #[v, .int .i64 t] w fun e w' => e = .returned (.int .i64 (gapN (av l) t l.length).1) ∧ w = w' := by
  obtain ⟨A, c, rfl, hp⟩ := hv
  go_enter Try.func20, Try.ntmps20
  go_wp2_with fail
  go_loop [5, 6, 11] (fun lo wi i => ∃ k : Nat, k ≤ l.length ∧ i = .int .i64 k ∧ lo = .int .i64 (gapN (av l) t k).1 ∧ wi = .int .i64 (gapN (av l) t k).2) (fun _ _ i => l.length - (intOf i).toNat)
  case atStart => exact ⟨0, Nat.zero_le _, rfl, rfl, rfl⟩
  case round =>
    obtain ⟨k, hk, rfl, rfl, rfl⟩ := hrel
    have b1 := @gap_le (av l) t k
    have b2 := @gap2_le (av l) t k
    have HH := hide (@gap_hit (av l) t k)
    have HM := hide (@gap_miss (av l) t k)
    obtain ⟨lo, hlo⟩ : ∃ lo, (gapN (av l) t k).1 = lo := ⟨_, rfl⟩
    obtain ⟨wi, hwi⟩ : ∃ wi, (gapN (av l) t k).2 = wi := ⟨_, rfl⟩
    rw [hlo] at b1 HH HM ⊢
    rw [hwi] at b2 HM ⊢
    have HO := hide hlo
    clear hlo hwi
    by_cases hlt : k < l.length
    · obtain ⟨g, o, rfl, _, hc⟩ := hp (by omega)
      have c1 := hc k hlt
      clear hc
      rw [show l.getD k 0 = av l k from rfl] at c1
      generalize av l k = x at *
      by_cases hx : x = t
      · have H := hide (HH.out hx)
        subst hx
        clear HH HM
        go_wp2_with fail
        go_round
        case rel => exact ⟨k + 1, by omega, by go_num, by rw [H.out], by rw [H.out]; rfl⟩
        case measure => simp [intOf]; omega
      · have H := hide (HM.out hx)
        have hne : (x == t) = false := by simpa using hx
        clear HH HM hx
        by_cases hm : lo < wi + 1
        · go_wp2_with fail
          go_round
          case rel => exact ⟨k + 1, by omega, by go_num, by rw [H.out]; show _ = Value.int .i64 ((max lo (wi + 1) : Nat) : Int); rw [show max lo (wi + 1) = wi + 1 by omega]; go_num, by rw [H.out]; go_num⟩
          case measure => simp [intOf]; omega
        · go_wp2_with fail
          go_round
          case rel => exact ⟨k + 1, by omega, by go_num, by rw [H.out]; show _ = Value.int .i64 ((max lo (wi + 1) : Nat) : Int); rw [show max lo (wi + 1) = lo by omega], by rw [H.out]; go_num⟩
          case measure => simp [intOf]; omega
    · obtain rfl : k = l.length := by omega
      clear HH HM
      go_wp2_with fail
      go_ret
      exact ⟨by rw [HO.out]; rfl, rfl⟩
/-- Least. -/
theorem least_c (t : Int) (hv : Nums w v l) (hl : l.length ≤ 65536) : Calls Try.prog 7 #[v, .int .i64 t] w fun e w' => e = .returned (.int .i64 (lst (av l) l.length (sm t))) ∧ w = w' := by
  have cg := hide fun (t : Int) => gap_c t hv hl
  have cm := many_c w t
  have hn := sm_le t
  unfold lst
  generalize sm t = n at *
  obtain ⟨A, c, rfl, hp⟩ := hv
  clear hp
  go_enter Try.func7, Try.ntmps7
  go_wp2_with fail
  refine cm.mono ?_
  rintro e w' ⟨rfl, rfl⟩
  go_wp2_with fail
  go_loop [5, 9] (fun lo i => ∃ k : Nat, k ≤ n ∧ i = .int .i64 k ∧ lo = .int .i64 (lsN (av l) l.length k)) (fun _ i => n - (intOf i).toNat)
  case atStart => exact ⟨0, Nat.zero_le _, rfl, rfl⟩
  case round =>
    obtain ⟨k, hk, rfl, rfl⟩ := hrel
    have b1 := @ls_le (av l) l.length k
    have HN := hide (show lsN (av l) l.length (k + 1) = max (lsN (av l) l.length k) (gapN (av l) k l.length).1 from rfl)
    obtain ⟨lo, hlo⟩ : ∃ lo, lsN (av l) l.length k = lo := ⟨_, rfl⟩
    rw [hlo] at b1 HN ⊢
    have HO := hide hlo
    clear hlo
    by_cases hlt : k < n
    · go_wp2_with fail
      refine (cg.out k).mono ?_
      rintro e w' ⟨rfl, rfl⟩
      have b2 := @gap_le (av l) k l.length
      generalize (gapN (av l) k l.length).1 = x at *
      by_cases hm : lo < x
      · go_wp2_with fail
        go_round
        case rel => exact ⟨k + 1, by omega, by go_num, by rw [HN.out, show max lo x = x by omega]⟩
        case measure => simp [intOf]; omega
      · go_wp2_with fail
        go_round
        case rel => exact ⟨k + 1, by omega, by go_num, by rw [HN.out, show max lo x = lo by omega]⟩
        case measure => simp [intOf]; omega
    · obtain rfl : k = n := by omega
      go_wp2_with fail
      go_ret
      exact ⟨by rw [HO.out]; go_num, rfl⟩
/-- Fair. -/
theorem fair_c {b : Bool} (t k : Int) (hb : fb (av l) l.length (sm t) k = b) (hv : Nums w v l) (hl : l.length ≤ 65536) : Calls Try.prog 8 #[v, .int .i64 t, .int .i64 k] w fun e w' => e = .returned (.bool b) ∧ w = w' := by
  have cl := hide (least_c t hv hl)
  have cm := many_c w t
  have hn := sm_le t
  have HB := hide hb
  clear hb
  generalize sm t = n at *
  obtain ⟨A, c, rfl, hp⟩ := hv
  clear hp
  by_cases h0 : n = 0
  · subst h0
    have hb : true = b := by rw [← HB.out, fb_none]
    subst hb
    go_enter Try.func8, Try.ntmps8
    go_wp2_with fail
    refine cm.mono ?_
    rintro e w' ⟨rfl, rfl⟩
    go_wp2_with fail
    go_ret
    exact ⟨rfl, rfl⟩
  · have hne : ((n : Int) == 0) = false := by simp; omega
    have hb : decide ((lst (av l) l.length n : Int) ≤ k) = b := by rw [← HB.out, fb_some (by omega)]
    clear HB
    generalize lst (av l) l.length n = m at *
    go_enter Try.func8, Try.ntmps8
    go_wp2_with fail
    refine cm.mono ?_
    rintro e w' ⟨rfl, rfl⟩
    go_wp2_with fail
    refine cl.out.mono ?_
    rintro e w' ⟨rfl, rfl⟩
    go_wp2_with fail
    go_ret
    exact ⟨rfl, rfl⟩
/-- Own. -/
theorem own_c (t : Int) (m : Nat) (to : Int) (hm : min (max to 0) (l.length : Int) = m) (hv : Nums w v l) (hl : l.length ≤ 65536) : Calls Try.prog 10 #[v, .int .i64 t, .int .i64 to] w fun e w' => e = .returned (.int .i64 (cntN (av l) t m)) ∧ w = w' := by
  have hml : m ≤ l.length := by
    clear hv hl
    generalize max to 0 = z at *
    omega
  obtain ⟨A, c, rfl, hp⟩ := hv
  obtain ⟨q, hq⟩ : ∃ q, (if to < 0 then 0 else to) = q := ⟨_, rfl⟩
  have hq2 : (if (l.length : Int) < q then (l.length : Int) else q) = m := by
    have e : q = max to 0 := by rw [← hq]; split <;> omega
    rw [e, ← hm]
    generalize max to 0 = z
    split <;> omega
  have HQ := hide (And.intro hq hm)
  clear hm
  go_enter Try.func10, Try.ntmps10
  go_wp2_with fail
  go_loop [7, 14] (fun n i => ∃ k : Nat, k ≤ m ∧ i = .int .i64 k ∧ n = .int .i64 (cntN (av l) t k)) (fun _ i => m - (intOf i).toNat)
  case atStart => exact ⟨0, Nat.zero_le _, rfl, rfl⟩
  case round =>
    obtain ⟨k, hk, rfl, rfl⟩ := hrel
    have b1 := @cntN_le (av l) t k
    have HH := hide (@cntN_hit (av l) t k)
    have HM := hide (@cntN_miss (av l) t k)
    obtain ⟨n, hn⟩ : ∃ n, cntN (av l) t k = n := ⟨_, rfl⟩
    rw [hn] at b1 HH HM ⊢
    have HO := hide hn
    clear hn
    by_cases hlt : k < m
    · obtain ⟨g, o, rfl, _, hc⟩ := hp (by omega)
      have c1 := hc k (by omega)
      have hlt2 : k < l.length := by omega
      clear hc
      rw [show l.getD k 0 = av l k from rfl] at c1
      generalize av l k = x at *
      by_cases hx : x = t
      · have H := hide (HH.out hx)
        subst hx
        clear HH HM
        go_wp2_with fail
        go_round
        case rel => exact ⟨k + 1, by omega, by go_num, by rw [H.out]; go_num⟩
        case measure => simp [intOf]; omega
      · have H := hide (HM.out hx)
        have hne : (x == t) = false := by simpa using hx
        clear HH HM hx
        go_wp2_with fail
        go_round
        case rel => exact ⟨k + 1, by omega, by go_num, by rw [H.out]⟩
        case measure => simp [intOf]; omega
    · obtain rfl : k = m := by omega
      clear HH HM
      go_wp2_with fail
      go_ret
      exact ⟨by rw [HO.out]; rfl, rfl⟩
end
end Go.Proofs.Ythbldljdalcgcaa
