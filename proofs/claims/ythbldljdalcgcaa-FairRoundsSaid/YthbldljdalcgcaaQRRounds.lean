/- The document's Rounds and Robin. -/
import Derived.Test.YthbldljdalcgcaaQRounds
import Derived.Test.YthbldljdalcgcaaQRef
namespace Go.Proofs.Ythbldljdalcgcaa
open Go.RowKit
set_option maxRecDepth 100000

theorem rv_even2 {n k : Nat} {x : Int} (hn : 0 < n) (h : x.tmod 2 = 0) : (x % n + k).tmod n = rv n x k := by
  have h1 := Int.emod_nonneg x (show (n : Int) ≠ 0 by omega)
  unfold rv
  rw [if_pos h, Int.tmod_eq_emod_of_nonneg (by omega), Int.emod_add_emod]
theorem rv_odd2 {n k : Nat} {x : Int} (hn : 0 < n) (hk : k ≤ n) (h : x.tmod 2 ≠ 0) : (x % n + n - k).tmod n = rv n x k := by
  have h1 := Int.emod_nonneg x (show (n : Int) ≠ 0 by omega)
  unfold rv
  rw [if_neg h, Int.tmod_eq_emod_of_nonneg (by omega), show x % n + (n : Int) - k = (x % n + (n - k)) by omega, Int.emod_add_emod, show x + ((n : Int) - k) = x - k + n by omega, Int.add_emod_right]
theorem first_of (x : Int) {n : Nat} (hn : 0 < n) : (x.tmod n < 0 → x.tmod n + n = x % n) ∧ (¬ x.tmod n < 0 → x.tmod n = x % n) := by
  have h1 := Int.emod_nonneg x (show (n : Int) ≠ 0 by omega)
  have h2 := Int.emod_lt_of_pos x (show (0 : Int) < n by omega)
  have h3 := tmod_small x hn
  have e := Int.mul_tdiv_add_tmod x n
  constructor
  · intro h
    rw [show x % n = (n * (x.tdiv n - 1) + (x.tmod n + n)) % n by rw [Int.mul_sub, Int.mul_one]; congr 1; omega, Int.mul_add_emod_self_left]
    exact (Int.emod_eq_of_lt (by omega) (by omega)).symm
  · intro h
    rw [show x % n = (n * x.tdiv n + x.tmod n) % n by rw [e], Int.mul_add_emod_self_left]
    exact (Int.emod_eq_of_lt (by omega) (by omega)).symm

section
variable {w : World} {v : Value} {hs : List Int}
set_option maxHeartbeats 1000000
/-- Rounds. -/
theorem rrounds_c (t : Int) (hv : Nums w v hs) (hl : hs.length ≤ 65536) : Calls Try.prog 15 #[.int .i64 t, v] w fun e w' => ∃ A c, e = .returned (.slice A (rds (sm t) hs).length c) ∧ Gr w w' A c (rds (sm t) hs) := by
  obtain ⟨i0, hi, hz0, hz1, hz2⟩ := info_parts info_int
  have cm := some_c w t
  have hn := sm_le t
  generalize sm t = n at *
  obtain ⟨A, c, rfl, hp⟩ := hv
  have HP := hide hp
  clear hp
  rcases Nat.eq_zero_or_pos n with rfl | hnp
  · rw [rds_none]
    go_enter Try.func15, Try.ntmps15
    go_wp2_with fail
    refine cm.mono ?_
    rintro e w' ⟨rfl, rfl⟩
    go_wp2_with fail
    go_loopw [6, 7] (fun v6 i wr => v6 = .slice none 0 0 ∧ i = .int .i64 0 ∧ wr = w) (fun _ _ _ => 0)
    case atStart => exact ⟨rfl, rfl, rfl⟩
    case round =>
      obtain ⟨rfl, rfl, rfl⟩ := hrel
      by_cases hlt : 0 < hs.length
      · go_wp2_with fail
        go_ret
        exact ⟨_, _, rfl, Gr.start _⟩
      · have h0 : hs.length = 0 := by omega
        rw [h0]
        go_wp2_with fail
        go_ret
        exact ⟨_, _, rfl, Gr.start _⟩
  have HN := hide (And.intro hnp hn)
  have hne : 0 < (n : Int) := by omega
  go_enter Try.func15, Try.ntmps15
  go_wp2_with fail
  refine cm.mono ?_
  rintro e w' ⟨rfl, rfl⟩
  go_wp2_with fail
  go_loopw [6, 7] (fun v6 i wr => ∃ (k : Nat) (L : List Int) (A1 : Option Addr) (c1 : Nat), k ≤ hs.length ∧ k ≤ 4000 / n ∧ i = .int .i64 k ∧ v6 = .slice A1 L.length c1 ∧ L = rdj n hs k ∧ Gr w wr A1 c1 L) (fun _ i _ => hs.length - (intOf i).toNat)
  case atStart => exact ⟨0, [], none, 0, Nat.zero_le _, Nat.zero_le _, rfl, rfl, by rw [rdj_zero], Gr.start _⟩
  case round =>
    obtain ⟨k, L, A1, c1, hk, hk2, rfl, rfl, hL, hg⟩ := hrel
    have hlen : L.length = k * n := by rw [hL, rdj_len hk]
    have hlen2 : L.length ≤ 4000 := by rw [hlen]; exact Nat.le_trans (Nat.mul_le_mul_right n hk2) (Nat.div_mul_le_self _ _)
    have HL := hide hL
    have HG := hide hg
    have HK2 := hide hk2
    have HLEN := hide hlen
    clear hL hg hk2 hlen
    by_cases hlt : k < hs.length
    · obtain ⟨g, o, rfl, hgl, hc⟩ := HP.out (by omega)
      have HC := hide (hc k hlt)
      have HNX := hide (rdj_next (n := n) hlt)
      rw [← HL.out] at HNX
      generalize hs.getD k 0 = x at *
      clear hc
      by_cases hbig : 4000 < L.length + n
      · have HE : Hid (rds n hs = L) := hide (by
          rw [HLEN.out] at hbig
          have e : k = 4000 / n := Nat.le_antisymm HK2.out (more_yes HN.out.1 hbig)
          unfold rds
          rw [← e, HL.out])
        go_wp2_with fail
        go_ret
        exact ⟨_, _, by rw [HE.out]; rfl, by rw [HE.out]; exact HG.out⟩
      · have hd := (HG.out.kept.cell (p := ⟨g, o + k, none⟩) hgl (fun c => c)).trans HC.out
        have HK1 : Hid (k + 1 ≤ 4000 / n) := hide (more_no HN.out.1 (by rw [← HLEN.out]; omega))
        obtain ⟨h1, h2⟩ := first_of x HN.out.1
        obtain ⟨z, hz⟩ : ∃ z, x.tmod n = z := ⟨_, rfl⟩
        have hzb := tmod_small x HN.out.1
        have fl := Int.emod_nonneg x (show (n : Int) ≠ 0 by omega)
        have fu := Int.emod_lt_of_pos x hne
        obtain ⟨f, hf⟩ : ∃ f, x % n = f := ⟨_, rfl⟩
        rw [hz] at hzb h1 h2
        rw [hf] at fl fu h1 h2
        have HF := hide hf
        clear hf
        obtain ⟨y, hy⟩ : ∃ y, x.tmod 2 = y := ⟨_, rfl⟩
        have hyb := tmod_small x (n := 2) (by decide)
        rw [show ((2 : Nat) : Int) = 2 from rfl, hy] at hyb
        by_cases hneg : z < 0
        · have hzf := h1 hneg
          clear h1 h2
          go_wp2_with fail
          have hf := HF.out
          go_loopw [6, 9] (fun v6 i wx => ∃ (j : Nat) (L2 : List Int) (A2 : Option Addr) (c2 : Nat), j ≤ n ∧ i = .int .i64 j ∧ v6 = .slice A2 L2.length c2 ∧ L2 = L ++ rdk n x j ∧ Gr w wx A2 c2 L2) (fun _ i _ => n - (intOf i).toNat)
          case atStart => exact ⟨0, L, A1, c1, Nat.zero_le _, rfl, rfl, by rw [rdk_zero, List.append_nil], HG.out⟩
          case round =>
            obtain ⟨j, L2, A2, c2, hj, rfl, rfl, hL2, hg2⟩ := hrel
            have hd := (hg2.kept.cell (p := ⟨g, o + k, none⟩) hgl (fun c => c)).trans HC.out
            have HL2 := hide hL2
            have HG2 := hide hg2
            clear hL2 hg2
            have hlen2 : L2.length = L.length + j := by rw [HL2.out, List.length_append, rdk_len]
            have hm1 : L2.length + 1 ≤ maxLen := by simp only [maxLen]; omega
            have hm2 : (L2.length + 1) * 8 ≤ 140737488355328 := by omega
            have HM2 := hide (And.intro hm1 hm2)
            clear hm1 hm2 hlen2
            by_cases hltj : j < n
            · obtain ⟨r, hrv⟩ : ∃ r, rv n x j = r := ⟨_, rfl⟩
              have HR : Hid (L ++ rdk n x (j + 1) = L2 ++ [r]) := hide (by rw [rdk_next, ← List.append_assoc, ← HL2.out, hrv])
              by_cases hx : x.tmod 2 = 0
              · have hye : (y == 0) = true := by rw [← hy, hx]; rfl
                have hr : (f + j).tmod n = r := by rw [← hrv, ← hf]; exact rv_even2 HN.out.1 hx
                go_wp2_with (at_builtin; refine wpList_append_own_at _ rfl (.tmp 50) (.tmp 56) _ rfl 0 3 i0 (.int .i64 0) 1 8 Try.underlying22 hi hz0 hz1 hz2 rfl (by decide) (.slice A2 L2.length c2) L2.length (L2.map (Value.int .i64)) rfl (HG2.out.row.alloc _) ⟨wr.heap.size, 0, none⟩ 1 1 [.int .i64 r] rfl rfl (cell_one_new _ _ _) (by intro u hu; simp at hu; subst hu; rfl) HM2.out.1 HM2.out.2 (Nat.zero_le _) ?_; intro v' w1 hown' hgrow _ hat; obtain ⟨A3, c3, rfl, hgr2⟩ := HG2.out.push hown' hgrow hat; have HG3 := hide hgr2; clear hown' hgrow hat hgr2)
                go_roundw
                case rel => exact ⟨j + 1, L2 ++ [r], A3, c3, by omega, by go_num, by simp, HR.out.symm, HG3.out⟩
                case measure => simp [intOf]; omega
              · have hye : (y == 0) = false := by rw [← hy]; simpa using hx
                have hr : (f + n - j).tmod n = r := by rw [← hrv, ← hf]; exact rv_odd2 HN.out.1 (Nat.le_of_lt hltj) hx
                go_wp2_with (at_builtin; refine wpList_append_own_at _ rfl (.tmp 58) (.tmp 66) _ rfl 0 3 i0 (.int .i64 0) 1 8 Try.underlying22 hi hz0 hz1 hz2 rfl (by decide) (.slice A2 L2.length c2) L2.length (L2.map (Value.int .i64)) rfl (HG2.out.row.alloc _) ⟨wr.heap.size, 0, none⟩ 1 1 [.int .i64 r] rfl rfl (cell_one_new _ _ _) (by intro u hu; simp at hu; subst hu; rfl) HM2.out.1 HM2.out.2 (Nat.zero_le _) ?_; intro v' w1 hown' hgrow _ hat; obtain ⟨A3, c3, rfl, hgr2⟩ := HG2.out.push hown' hgrow hat; have HG3 := hide hgr2; clear hown' hgrow hat hgr2)
                go_roundw
                case rel => exact ⟨j + 1, L2 ++ [r], A3, c3, by omega, by go_num, by simp, HR.out.symm, HG3.out⟩
                case measure => simp [intOf]; omega
            · obtain rfl : j = n := by omega
              go_wp2_with fail
              go_roundw
              case rel => exact ⟨k + 1, L2, A2, c2, by omega, HK1.out, by go_num, rfl, by rw [HL2.out]; exact HNX.out.symm, HG2.out⟩
              case measure => simp [intOf]; omega
        · have hzf := (h2 hneg).symm
          clear h1 h2
          subst hzf
          go_wp2_with fail
          have hf := HF.out
          go_loopw [6, 9] (fun v6 i wx => ∃ (j : Nat) (L2 : List Int) (A2 : Option Addr) (c2 : Nat), j ≤ n ∧ i = .int .i64 j ∧ v6 = .slice A2 L2.length c2 ∧ L2 = L ++ rdk n x j ∧ Gr w wx A2 c2 L2) (fun _ i _ => n - (intOf i).toNat)
          case atStart => exact ⟨0, L, A1, c1, Nat.zero_le _, rfl, rfl, by rw [rdk_zero, List.append_nil], HG.out⟩
          case round =>
            obtain ⟨j, L2, A2, c2, hj, rfl, rfl, hL2, hg2⟩ := hrel
            have hd := (hg2.kept.cell (p := ⟨g, o + k, none⟩) hgl (fun c => c)).trans HC.out
            have HL2 := hide hL2
            have HG2 := hide hg2
            clear hL2 hg2
            have hlen2 : L2.length = L.length + j := by rw [HL2.out, List.length_append, rdk_len]
            have hm1 : L2.length + 1 ≤ maxLen := by simp only [maxLen]; omega
            have hm2 : (L2.length + 1) * 8 ≤ 140737488355328 := by omega
            have HM2 := hide (And.intro hm1 hm2)
            clear hm1 hm2 hlen2
            by_cases hltj : j < n
            · obtain ⟨r, hrv⟩ : ∃ r, rv n x j = r := ⟨_, rfl⟩
              have HR : Hid (L ++ rdk n x (j + 1) = L2 ++ [r]) := hide (by rw [rdk_next, ← List.append_assoc, ← HL2.out, hrv])
              by_cases hx : x.tmod 2 = 0
              · have hye : (y == 0) = true := by rw [← hy, hx]; rfl
                have hr : (f + j).tmod n = r := by rw [← hrv, ← hf]; exact rv_even2 HN.out.1 hx
                go_wp2_with (at_builtin; refine wpList_append_own_at _ rfl (.tmp 50) (.tmp 56) _ rfl 0 3 i0 (.int .i64 0) 1 8 Try.underlying22 hi hz0 hz1 hz2 rfl (by decide) (.slice A2 L2.length c2) L2.length (L2.map (Value.int .i64)) rfl (HG2.out.row.alloc _) ⟨wr.heap.size, 0, none⟩ 1 1 [.int .i64 r] rfl rfl (cell_one_new _ _ _) (by intro u hu; simp at hu; subst hu; rfl) HM2.out.1 HM2.out.2 (Nat.zero_le _) ?_; intro v' w1 hown' hgrow _ hat; obtain ⟨A3, c3, rfl, hgr2⟩ := HG2.out.push hown' hgrow hat; have HG3 := hide hgr2; clear hown' hgrow hat hgr2)
                go_roundw
                case rel => exact ⟨j + 1, L2 ++ [r], A3, c3, by omega, by go_num, by simp, HR.out.symm, HG3.out⟩
                case measure => simp [intOf]; omega
              · have hye : (y == 0) = false := by rw [← hy]; simpa using hx
                have hr : (f + n - j).tmod n = r := by rw [← hrv, ← hf]; exact rv_odd2 HN.out.1 (Nat.le_of_lt hltj) hx
                go_wp2_with (at_builtin; refine wpList_append_own_at _ rfl (.tmp 58) (.tmp 66) _ rfl 0 3 i0 (.int .i64 0) 1 8 Try.underlying22 hi hz0 hz1 hz2 rfl (by decide) (.slice A2 L2.length c2) L2.length (L2.map (Value.int .i64)) rfl (HG2.out.row.alloc _) ⟨wr.heap.size, 0, none⟩ 1 1 [.int .i64 r] rfl rfl (cell_one_new _ _ _) (by intro u hu; simp at hu; subst hu; rfl) HM2.out.1 HM2.out.2 (Nat.zero_le _) ?_; intro v' w1 hown' hgrow _ hat; obtain ⟨A3, c3, rfl, hgr2⟩ := HG2.out.push hown' hgrow hat; have HG3 := hide hgr2; clear hown' hgrow hat hgr2)
                go_roundw
                case rel => exact ⟨j + 1, L2 ++ [r], A3, c3, by omega, by go_num, by simp, HR.out.symm, HG3.out⟩
                case measure => simp [intOf]; omega
            · obtain rfl : j = n := by omega
              go_wp2_with fail
              go_roundw
              case rel => exact ⟨k + 1, L2, A2, c2, by omega, HK1.out, by go_num, rfl, by rw [HL2.out]; exact HNX.out.symm, HG2.out⟩
              case measure => simp [intOf]; omega
    · obtain rfl : k = hs.length := by omega
      have HE : Hid (rds n hs = L) := hide (by rw [rds_short HK2.out, HL.out])
      go_wp2_with fail
      go_ret
      exact ⟨_, _, by rw [HE.out]; rfl, by rw [HE.out]; exact HG.out⟩
end
end Go.Proofs.Ythbldljdalcgcaa
