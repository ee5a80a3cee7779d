/- The law PathCounts, walked. -/
import Derived.Test.YtepajkakpkndmaaPAwake
import Derived.Test.YtepajkakpkndmaaPSum
namespace Go.Proofs.Ytepajkakpkndmaa
open Go.RowKit
set_option maxRecDepth 100000

section
variable {w : World} {v : Value} {P T : List Int}
set_option maxHeartbeats 8000000
theorem counts_walk (hv : Topo w v P T) : Calls Try.prog 3 #[v] w fun e w' => e = .returned (.bool true) ∧ Kept Nil w w' := by
  obtain ⟨A0, c0, A1, c1, w1, rfl, hw1, hB⟩ := Bo.open hv
  have H1 := hide hB
  have q0 := H1.out.at0
  have q1 := H1.out.at1
  clear hv hB
  by_cases hz : chk P T = 0
  · have HZ := hide hz
    have hzz := (chk_zero hz).1
    have hT32 : T.length ≤ 32 := by omega
    have hL32 : (lf P).length ≤ 32 := Nat.le_trans lfk_len (by omega)
    have HF : Hid ((decide ((P.length : Int) ≤ 60) && decide ((T.length : Int) ≤ 60)) = true) := hide (by simp; omega)
    have HALL := hide (sm_all hz)
    have HNX := hide fun (n : Nat) (h : n < (lf P).length) => And.intro (sm_next (T := T) h) (show matesT (lf P) T n = (cnt T ((lf P).getD n 0) : Int) by unfold matesT; rw [if_pos (by omega), Int.toNat_natCast])
    have HLE := hide fun (n : Nat) => @sm_le (lf P) T n
    obtain ⟨N, hN⟩ : ∃ N, (lf P).length = N := ⟨_, rfl⟩
    rw [hN] at hL32 HALL HNX
    have HNN := hide hN
    have cn := newA H1.out.topo HZ.out
    clear hzz hz hN
    go_enter Try.func3, Try.ntmps3
    go_wp2_with fail
    refine cn.mono ?_
    rintro e w2 ⟨b, rfl, h2⟩
    have H2 := hide (And.intro h2 (H1.out.later h2.kept))
    have q0 := H2.out.2.at0
    have q1 := H2.out.2.at1
    have cf := few_c HF.out H2.out.2.topo
    clear h2 cn
    go_wp2_with fail
    refine cf.mono ?_
    rintro e w3 ⟨rfl, hk3⟩
    have H3 := hide (H2.out.1.later hk3)
    have HB := hide fun (W : World) (h : Lw w1 W b P T) => (H1.out.later h.kept).at1
    clear hk3 cf q0 q1
    go_wp2_with fail
    go_loopw [5, 6] (fun v5 v6 wr => ∃ n : Nat, n ≤ N ∧ v6 = .int .i64 n ∧ v5 = .int .i64 (sm (lf P) T n) ∧ Lw w1 wr b P T) (fun _ i _ => N - (intOf i).toNat)
    case atStart => exact ⟨0, Nat.zero_le _, rfl, by rw [sm_zero]; rfl, H3.out⟩
    case round =>
      obtain ⟨n, hn, rfl, rfl, hlw⟩ := hrel
      have HL := hide hlw
      have hle := HLE.out n
      have hle2 : n * T.length ≤ 32 * 32 := Nat.mul_le_mul (by omega) hT32
      clear hlw
      by_cases hlt : n < N
      · have hx := HNX.out n hlt
        have HX := hide hx.1
        have HM := hide hx.2
        have hcl := @cnt_le T ((lf P).getD n 0)
        generalize sm (lf P) T n = s at *
        generalize cnt T ((lf P).getD n 0) = m at *
        have h100 : decide ((n : Int) < 100) = true := by simp; omega
        have hs : s ≤ 1024 := by omega
        clear hx hle hle2
        go_wp2_with fail
        refine (nodesL (m := (N : Int)) (by rw [HNN.out]) HL.out).mono ?_
        rintro e w4 ⟨rfl, h4⟩
        have H4 := hide h4
        clear h4 HL
        go_wp2_with fail
        refine (matesL (n : Int) HM.out H4.out).mono ?_
        rintro e w5 ⟨rfl, h5⟩
        have H5 := hide h5
        clear h5 H4
        go_wp2_with fail
        go_roundw
        case rel => exact ⟨n + 1, by omega, by go_num, by rw [HX.out]; go_num, H5.out⟩
        case measure => simp [intOf]; omega
      · obtain rfl : n = N := by omega
        rw [HALL.out]
        clear hle hle2 hlt HNX
        go_wp2_with fail
        refine (nodesL (m := (n : Int)) (by rw [HNN.out]) HL.out).mono ?_
        rintro e w4 ⟨rfl, h4⟩
        have H4 := hide h4
        clear h4 HL
        go_wp2_with fail
        go_loopw [7] (fun v7 W => ∃ i : Nat, i ≤ T.length ∧ v7 = .int .i64 i ∧ Lw w1 W b P T) (fun i _ => T.length - (intOf i).toNat)
        case atStart => exact ⟨0, Nat.zero_le _, rfl, H4.out⟩
        case round =>
          obtain ⟨i, hi, rfl, hlw⟩ := hrel
          have HL := hide hlw
          have q1 := HB.out _ hlw
          clear hlw
          by_cases hlt : i < T.length
          · obtain ⟨s, nd, m, e1, e2, e3, h0, h1⟩ := one_int HZ.out hlt
            have HE := hide (And.intro e1 (And.intro e2 e3))
            clear e1 e2 e3
            go_wp2_with fail
            refine (slotL (i : Int) HE.out.1 HL.out).mono ?_
            rintro e w5 ⟨rfl, h5⟩
            have H5 := hide h5
            clear h5 HL
            go_wp2_with fail
            refine (slotL (i : Int) HE.out.1 H5.out).mono ?_
            rintro e w6 ⟨rfl, h6⟩
            have H6 := hide h6
            clear h6 H5
            go_wp2_with fail
            refine (nodeL (i : Int) HE.out.2.1 H6.out).mono ?_
            rintro e w7 ⟨rfl, h7⟩
            have H7 := hide h7
            clear h7 H6
            go_wp2_with fail
            refine (matesL nd HE.out.2.2 H7.out).mono ?_
            rintro e w8 ⟨rfl, h8⟩
            have H8 := hide h8
            clear h8 H7 q1
            go_wp2_with fail
            go_loopw [8] (fun v8 W => ∃ k : Nat, k ≤ i ∧ v8 = .int .i64 k ∧ Lw w1 W b P T) (fun k _ => i - (intOf k).toNat)
            case atStart => exact ⟨0, Nat.zero_le _, rfl, H8.out⟩
            case round =>
              obtain ⟨k, hk, rfl, hlw⟩ := hrel
              have HL := hide hlw
              clear hlw
              by_cases hki : k < i
              · obtain ⟨s2, nd2, m2, e1, e2, e3, -, -⟩ := one_int HZ.out (show k < T.length by omega)
                have HE2 := hide (And.intro e1 (And.intro e2 e3))
                clear e3
                by_cases hnn : nd = nd2
                · have hne := two_of HZ.out hlt hki (by rw [HE.out.2.1, HE2.out.2.1, hnn])
                  rw [HE.out.1, HE2.out.1] at hne
                  have hb1 : (nd == nd2) = true := by simp [hnn]
                  have hb2 : (s == s2) = false := by simpa using hne
                  clear hnn hne e1 e2
                  go_wp2_with fail
                  refine (nodeL (i : Int) HE.out.2.1 HL.out).mono ?_
                  rintro e w9 ⟨rfl, h9⟩
                  have H9 := hide h9
                  clear h9 HL
                  go_wp2_with fail
                  refine (nodeL (k : Int) HE2.out.2.1 H9.out).mono ?_
                  rintro e w10 ⟨rfl, h10⟩
                  have H10 := hide h10
                  clear h10 H9
                  go_wp2_with fail
                  refine (slotL (i : Int) HE.out.1 H10.out).mono ?_
                  rintro e w11 ⟨rfl, h11⟩
                  have H11 := hide h11
                  clear h11 H10
                  go_wp2_with fail
                  refine (slotL (k : Int) HE2.out.1 H11.out).mono ?_
                  rintro e w12 ⟨rfl, h12⟩
                  have H12 := hide h12
                  clear h12 H11
                  go_wp2_with fail
                  go_roundw
                  case rel => exact ⟨k + 1, by omega, by go_num, H12.out⟩
                  case measure => simp [intOf]; omega
                · have hb1 : (nd == nd2) = false := by simpa using hnn
                  clear hnn e1 e2
                  go_wp2_with fail
                  refine (nodeL (i : Int) HE.out.2.1 HL.out).mono ?_
                  rintro e w9 ⟨rfl, h9⟩
                  have H9 := hide h9
                  clear h9 HL
                  go_wp2_with fail
                  refine (nodeL (k : Int) HE2.out.2.1 H9.out).mono ?_
                  rintro e w10 ⟨rfl, h10⟩
                  have H10 := hide h10
                  clear h10 H9
                  go_wp2_with fail
                  go_roundw
                  case rel => exact ⟨k + 1, by omega, by go_num, H10.out⟩
                  case measure => simp [intOf]; omega
              · obtain rfl : k = i := by omega
                go_wp2_with fail
                go_roundw
                case rel => exact ⟨k + 1, by omega, by go_num, HL.out⟩
                case measure => simp [intOf]; omega
          · obtain rfl : i = T.length := by omega
            go_wp2_with fail
            refine (awake_c wr).mono ?_
            rintro e w5 ⟨rfl, hk5⟩
            have H5 := hide ((H1.out.kept.trans HL.out.kept (fun _ _ z => z)).trans hk5 (fun _ _ z => z))
            clear hk5
            go_wp2_with fail
            go_ret
            exact ⟨rfl, H5.out⟩
  · obtain ⟨zz, hzz⟩ : ∃ zz, chk P T = zz := ⟨_, rfl⟩
    rw [hzz] at hz
    have HZ := hide (And.intro hzz hz)
    have hne : (zz != 0) = true := by simpa using hz
    obtain ⟨fb, hfb⟩ : ∃ fb, (decide ((P.length : Int) ≤ 60) && decide ((T.length : Int) ≤ 60)) = fb := ⟨_, rfl⟩
    have HF := hide hfb
    have cn := newB H1.out.topo HZ.out.1 HZ.out.2
    clear hzz hz hfb
    go_enter Try.func3, Try.ntmps3
    go_wp2_with fail
    refine cn.mono ?_
    rintro e w3 ⟨rfl, hk3⟩
    have H3 := hide (H1.out.later hk3)
    have q0 := H3.out.at0
    have q1 := H3.out.at1
    have cf := few_c HF.out H3.out.topo
    clear hk3 cn
    go_wp2_with fail
    refine cf.mono ?_
    rintro e w4 ⟨rfl, hk4⟩
    have H4 := hide (H3.out.later hk4)
    clear hk4 cf
    cases fb
    all_goals go_wp2_with fail
    all_goals refine (awake_c w4).mono ?_
    all_goals rintro e w5 ⟨rfl, hk5⟩
    all_goals have H5 := hide (H4.out.kept.trans hk5 (fun _ _ z => z))
    all_goals clear hk5
    all_goals go_wp2_with fail
    all_goals go_ret
    all_goals exact ⟨rfl, H5.out⟩
end
end Go.Proofs.Ytepajkakpkndmaa
