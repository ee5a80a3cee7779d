/- The document's Robin. -/
import Derived.Test.YthbldljdalcgcaaQRRounds
namespace Go.Proofs.Ythbldljdalcgcaa
open Go.RowKit
set_option maxRecDepth 100000

section
variable {w : World}
set_option maxHeartbeats 1000000
theorem rrobin_c (w : World) (t q : Int) : Calls Try.prog 14 #[.int .i64 t, .int .i64 q] w fun e w' => ∃ A c, e = .returned (.slice A (rob (sm t) q.toNat).length c) ∧ Gr w w' A c (rob (sm t) q.toNat) := by
  obtain ⟨i0, hi, hz0, hz1, hz2⟩ := info_parts info_int
  have cm := some_c w t
  have hn := sm_le t
  generalize sm t = n at *
  rcases Nat.eq_zero_or_pos n with rfl | hnp
  · rw [show rob 0 q.toNat = [] from rds_none]
    go_enter Try.func14, Try.ntmps14
    go_wp2_with fail
    refine cm.mono ?_
    rintro e w' ⟨rfl, rfl⟩
    go_wp2_with fail
    go_loopw [6, 7] (fun v6 i wr => v6 = .slice none 0 0 ∧ i = .int .i64 0 ∧ wr = w) (fun _ _ _ => 0)
    case atStart => exact ⟨rfl, rfl, rfl⟩
    case round =>
      obtain ⟨rfl, rfl, rfl⟩ := hrel
      by_cases hlt : 0 < q
      · go_wp2_with fail
        go_ret
        exact ⟨_, _, rfl, Gr.start _⟩
      · go_wp2_with fail
        go_ret
        exact ⟨_, _, rfl, Gr.start _⟩
  have HN := hide (And.intro hnp hn)
  have hne : 0 < (n : Int) := by omega
  have h40 : 4000 / n ≤ 4000 := Nat.div_le_self _ _
  obtain ⟨r, hr⟩ : ∃ r, q.toNat = r := ⟨_, rfl⟩
  have hrl : (List.replicate r (0 : Int)).length = r := List.length_replicate
  have HRL := hide hrl
  rw [hr]
  clear hrl
  go_enter Try.func14, Try.ntmps14
  go_wp2_with fail
  refine cm.mono ?_
  rintro e w' ⟨rfl, rfl⟩
  go_wp2_with fail
  go_loopw [6, 7] (fun v6 i wr => ∃ (k : Nat) (L : List Int) (A1 : Option Addr) (c1 : Nat), k ≤ r ∧ k ≤ 4000 / n ∧ i = .int .i64 k ∧ v6 = .slice A1 L.length c1 ∧ L = rdj n (List.replicate r 0) k ∧ Gr w wr A1 c1 L) (fun _ i _ => 4000 / n - (intOf i).toNat)
  case atStart => exact ⟨0, [], none, 0, Nat.zero_le _, Nat.zero_le _, rfl, rfl, by rw [rdj_zero], Gr.start _⟩
  case round =>
    obtain ⟨k, L, A1, c1, hk, hk2, rfl, rfl, hL, hg⟩ := hrel
    have hlen : L.length = k * n := by rw [hL, rdj_len (by rw [HRL.out]; exact hk)]
    have hlen2 : L.length ≤ 4000 := by rw [hlen]; exact Nat.le_trans (Nat.mul_le_mul_right n hk2) (Nat.div_mul_le_self _ _)
    have hk4 : k ≤ 4000 := by omega
    have HL := hide hL
    have HG := hide hg
    have HK2 := hide hk2
    have HLEN := hide hlen
    clear hL hg hk2 hlen
    by_cases hlt : k < r
    · have hlq : (k : Int) < q := by omega
      have HNX := hide (rdj_next (n := n) (how := List.replicate r 0) (j := k) (by rw [HRL.out]; exact hlt))
      rw [← HL.out, show (List.replicate r (0 : Int)).getD k 0 = 0 by simp [List.getD, hlt]] at HNX
      by_cases hbig : 4000 < L.length + n
      · have HE : Hid (rob n r = L) := hide (by
          rw [HLEN.out] at hbig
          have e : k = 4000 / n := Nat.le_antisymm HK2.out (more_yes HN.out.1 hbig)
          unfold rob rds
          rw [← e, HL.out])
        go_wp2_with fail
        go_ret
        exact ⟨_, _, by rw [HE.out]; rfl, by rw [HE.out]; exact HG.out⟩
      · have HK1 : Hid (k + 1 ≤ 4000 / n) := hide (more_no HN.out.1 (by rw [← HLEN.out]; omega))
        go_wp2_with fail
        go_loopw [6, 8] (fun v6 i wx => ∃ (j : Nat) (L2 : List Int) (A2 : Option Addr) (c2 : Nat), j ≤ n ∧ i = .int .i64 j ∧ v6 = .slice A2 L2.length c2 ∧ L2 = L ++ rdk n 0 j ∧ Gr w wx A2 c2 L2) (fun _ i _ => n - (intOf i).toNat)
        case atStart => exact ⟨0, L, A1, c1, Nat.zero_le _, rfl, rfl, by rw [rdk_zero, List.append_nil], HG.out⟩
        case round =>
          obtain ⟨j, L2, A2, c2, hj, rfl, rfl, hL2, hg2⟩ := hrel
          have HL2 := hide hL2
          have HG2 := hide hg2
          clear hL2 hg2
          have hlen2 : L2.length = L.length + j := by rw [HL2.out, List.length_append, rdk_len]
          have hm1 : L2.length + 1 ≤ maxLen := by simp only [maxLen]; omega
          have hm2 : (L2.length + 1) * 8 ≤ 140737488355328 := by omega
          have HM2 := hide (And.intro hm1 hm2)
          clear hm1 hm2 hlen2
          by_cases hltj : j < n
          · have HR : Hid (L ++ rdk n 0 (j + 1) = L2 ++ [(j : Int)]) := hide (by rw [rdk_next, ← List.append_assoc, ← HL2.out, rv_zero hltj])
            go_wp2_with (at_builtin; refine wpList_append_own_at _ rfl (.tmp 31) (.tmp 33) _ rfl 0 3 i0 (.int .i64 0) 1 8 Try.underlying22 hi hz0 hz1 hz2 rfl (by decide) (.slice A2 L2.length c2) L2.length (L2.map (Value.int .i64)) rfl (HG2.out.row.alloc _) ⟨wr.heap.size, 0, none⟩ 1 1 [.int .i64 (j : Int)] rfl rfl (cell_one_new _ _ _) (by intro u hu; simp at hu; subst hu; rfl) HM2.out.1 HM2.out.2 (Nat.zero_le _) ?_; intro v' w1 hown' hgrow _ hat; obtain ⟨A3, c3, rfl, hgr2⟩ := HG2.out.push hown' hgrow hat; have HG3 := hide hgr2; clear hown' hgrow hat hgr2)
            go_roundw
            case rel => exact ⟨j + 1, L2 ++ [(j : Int)], A3, c3, by omega, by go_num, by simp, HR.out.symm, HG3.out⟩
            case measure => simp [intOf]; omega
          · obtain rfl : j = n := by omega
            go_wp2_with fail
            go_roundw
            case rel => exact ⟨k + 1, L2, A2, c2, by omega, HK1.out, by go_num, rfl, by rw [HL2.out]; exact HNX.out.symm, HG2.out⟩
            case measure => have := HK1.out; simp [intOf]; omega
    · have hlq : ¬ (k : Int) < q := by omega
      obtain rfl : k = r := by omega
      have HE : Hid (rob n k = L) := hide (by unfold rob; rw [rds_short (by rw [HRL.out]; exact HK2.out), HRL.out, HL.out])
      go_wp2_with fail
      go_ret
      exact ⟨_, _, by rw [HE.out]; rfl, by rw [HE.out]; exact HG.out⟩
end
end Go.Proofs.Ythbldljdalcgcaa
