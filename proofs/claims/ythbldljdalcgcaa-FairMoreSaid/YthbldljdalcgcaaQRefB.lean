/- The document's Least and Own. -/
import Derived.Test.YthbldljdalcgcaaQRef
namespace Go.Proofs.Ythbldljdalcgcaa
open Go.RowKit
set_option maxRecDepth 100000

section
variable {w : World} {v : Value} {l : List Int}
set_option maxHeartbeats 1000000
/-- Least. -/
theorem rleast_c (t : Int) (hv : NumsC w v l) (hl : l.length ≤ 65536) : Calls Try.prog 17 #[v, .int .i64 t] w fun e w' => e = .returned (.int .i64 (lst (av l) l.length (sm t))) ∧ w = w' := by
  have cf := hide fun (k : Int) (b : Bool) (hb : fb (av l) l.length (sm t) k = b) => rfair_c t k hb hv hl
  have hm1 := @lst_pos (av l) l.length (sm t)
  have hm2 := @lst_le (av l) l.length (sm t)
  have HF := hide fun (k : Nat) (hk : 1 ≤ k) => @fb_high (av l) l.length (sm t) k (by omega)
  obtain ⟨m, hm⟩ : ∃ m, lst (av l) l.length (sm t) = m := ⟨_, rfl⟩
  rw [hm] at hm1 hm2 HF ⊢
  clear hm
  obtain ⟨A, c, rfl, _, _⟩ := hv
  go_enter Try.func17, Try.ntmps17
  go_wp2_with fail
  go_loop [5] (fun i => ∃ k : Nat, 1 ≤ k ∧ k ≤ m ∧ i = .int .i64 k) (fun i => l.length + 1 - (intOf i).toNat)
  case atStart => exact ⟨1, Nat.le_refl _, hm1, rfl⟩
  case round =>
    obtain ⟨k, hk1, hk, rfl⟩ := hrel
    by_cases hlt : k ≤ l.length
    · by_cases he : k = m
      · subst he
        have cf2 := cf.out k true (by rw [HF.out k hk1]; simp)
        go_wp2_with fail
        refine cf2.mono ?_
        rintro e w' ⟨rfl, rfl⟩
        go_wp2_with fail
        go_ret
        exact ⟨rfl, rfl⟩
      · have cf2 := cf.out k false (by rw [HF.out k hk1]; simp; omega)
        go_wp2_with fail
        refine cf2.mono ?_
        rintro e w' ⟨rfl, rfl⟩
        go_wp2_with fail
        go_round
        case rel => exact ⟨k + 1, by omega, by omega, by go_num⟩
        case measure => simp [intOf]; omega
    · obtain rfl : m = l.length + 1 := by omega
      go_wp2_with fail
      go_ret
      exact ⟨by go_num, rfl⟩
/-- Own. -/
theorem rown_c (t : Int) (m : Nat) (to : Int) (hm : min (max to 0) (l.length : Int) = m) (hv : Nums w v l) (hl : l.length ≤ 65536) : Calls Try.prog 18 #[v, .int .i64 t, .int .i64 to] w fun e w' => e = .returned (.int .i64 (cntN (av l) t m)) ∧ w = w' := by
  have hml : m ≤ l.length ∧ (m < l.length → to ≤ m) ∧ (0 < m → m ≤ to) := by
    clear hv hl
    have h1 : max to 0 = to ∨ (max to 0 = 0 ∧ to ≤ 0) := by omega
    generalize max to 0 = z at *
    omega
  clear hm
  obtain ⟨hml, hm1, hm2⟩ := hml
  obtain ⟨A, c, rfl, hp⟩ := hv
  go_enter Try.func18, Try.ntmps18
  go_wp2_with fail
  go_loop [7, 8] (fun n i => ∃ k : Nat, k ≤ m ∧ i = .int .i64 k ∧ n = .int .i64 (cntN (av l) t k)) (fun _ i => m - (intOf i).toNat)
  case atStart => exact ⟨0, Nat.zero_le _, rfl, rfl⟩
  case round =>
    obtain ⟨k, hk, rfl, rfl⟩ := hrel
    have b1 := @cntN_le (av l) t k
    have HH := hide (@cntN_hit (av l) t k)
    have HM := hide (@cntN_miss (av l) t k)
    obtain ⟨n, hn⟩ : ∃ n, cntN (av l) t k = n := ⟨_, rfl⟩
    rw [hn] at b1 HH HM ⊢
    have HO := hide hn
    clear hn
    by_cases hlt : k < m
    · obtain ⟨g, o, rfl, _, hc⟩ := hp (by omega)
      have c1 := hc k (by omega)
      have hlt2 : k < l.length := by omega
      have hlt3 : (k : Int) < to := by have := hm2 (by omega); omega
      clear hc hm1 hm2
      rw [show l.getD k 0 = av l k from rfl] at c1
      generalize av l k = x at *
      by_cases hx : x = t
      · have H := hide (HH.out hx)
        subst hx
        clear HH HM
        go_wp2_with fail
        go_round
        case rel => exact ⟨k + 1, by omega, by go_num, by rw [H.out]; go_num⟩
        case measure => simp [intOf]; omega
      · have H := hide (HM.out hx)
        have hne : (x == t) = false := by simpa using hx
        clear HH HM hx
        go_wp2_with fail
        go_round
        case rel => exact ⟨k + 1, by omega, by go_num, by rw [H.out]⟩
        case measure => simp [intOf]; omega
    · obtain rfl : k = m := by omega
      clear HH HM
      by_cases hkl : k < l.length
      · have h3 : ¬ (k : Int) < to := by have := hm1 hkl; omega
        clear hm1 hm2
        go_wp2_with fail
        go_ret
        exact ⟨by rw [HO.out]; rfl, rfl⟩
      · clear hm1 hm2
        go_wp2_with fail
        go_ret
        exact ⟨by rw [HO.out]; rfl, rfl⟩
end
end Go.Proofs.Ythbldljdalcgcaa
