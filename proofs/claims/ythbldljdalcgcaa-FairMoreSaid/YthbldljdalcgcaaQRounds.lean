/- Package fair's Rounds and Robin: a row grown round by round, a loop left by its label. -/
import Derived.Test.YthbldljdalcgcaaQFair
import Derived.Test.YthbldljdalcgcaaTRow
namespace Go.Proofs.Ythbldljdalcgcaa
open Go.RowKit
set_option maxRecDepth 100000

theorem rv_even {n k : Nat} {x : Int} (h : x.tmod 2 = 0) : (x.tmod n + k) % n = rv n x k := by
  unfold rv
  rw [if_pos h]
  have e := Int.mul_tdiv_add_tmod x n
  rw [show x + k = n * x.tdiv n + (x.tmod n + k) by omega, Int.mul_add_emod_self_left]
theorem rv_odd {n k : Nat} {x : Int} (h : x.tmod 2 ≠ 0) : (x.tmod n - k) % n = rv n x k := by
  unfold rv
  rw [if_neg h]
  have e := Int.mul_tdiv_add_tmod x n
  rw [show x - k = n * x.tdiv n + (x.tmod n - k) by omega, Int.mul_add_emod_self_left]
theorem tmod_small (x : Int) {n : Nat} (hn : 0 < n) : -(n : Int) < x.tmod n ∧ x.tmod n < n := by
  have h1 := Int.tmod_lt_of_pos x (show (0 : Int) < n by omega)
  have h2 := Int.tmod_lt_of_pos (-x) (show (0 : Int) < n by omega)
  rw [Int.neg_tmod] at h2
  omega

section
variable {w : World} {v : Value} {hs : List Int}
set_option maxHeartbeats 1000000
theorem rounds_none (t : Int) (h0 : sm t = 0) (hv : Nums w v hs) (hl : hs.length ≤ 65536) : Calls Try.prog 12 #[.int .i64 t, v] w fun e w' => e = .returned (.slice none 0 0) ∧ w = w' := by
  have cm := many_c w t
  rw [h0] at cm
  obtain ⟨A, c, rfl, hp⟩ := hv
  go_enter Try.func12, Try.ntmps12
  go_wp2_with fail
  go_step3
  go_wp2_with fail
  refine cm.mono ?_
  rintro e w' ⟨rfl, rfl⟩
  go_wp2_with fail
  go_step3
  go_wp2_with fail
  go_loopw [6, 15] (fun v6 i wr => v6 = .slice none 0 0 ∧ i = .int .i64 0 ∧ wr = w) (fun _ _ _ => 0)
  case atStart => exact ⟨rfl, rfl, rfl⟩
  case round =>
    obtain ⟨rfl, rfl, rfl⟩ := hrel
    by_cases hlt : 0 < hs.length
    · obtain ⟨g, o, rfl, _, hc⟩ := hp hlt
      have c1 := hc 0 hlt
      rw [Nat.add_zero] at c1
      clear hc
      go_wp2_with fail
      rw [Exit.noGoto_ret]
      go_ret
      exact ⟨rfl, rfl⟩
    · have h0 : hs.length = 0 := by omega
      rw [h0]
      go_wp2_with fail
      rw [Exit.noGoto_ret]
      go_ret
      exact ⟨rfl, rfl⟩
/-- Rounds. -/
theorem rounds_c (t : Int) (hv : Nums w v hs) (hl : hs.length ≤ 65536) : Calls Try.prog 12 #[.int .i64 t, v] w fun e w' => ∃ A c, e = .returned (.slice A (rds (sm t) hs).length c) ∧ Gr w w' A c (rds (sm t) hs) := by
  by_cases h0 : sm t = 0
  · refine (rounds_none t h0 hv hl).mono ?_
    rintro e w' ⟨rfl, rfl⟩
    rw [h0, rds_none]
    exact ⟨none, 0, rfl, Gr.start _⟩
  obtain ⟨i0, hi, hz0, hz1, hz2⟩ := info_parts info_int
  have cm := many_c w t
  have hn := sm_le t
  generalize sm t = n at *
  have hnp : 0 < n := by omega
  have HN := hide (And.intro hnp hn)
  have hne : ((n : Int) == 0) = false := by simp; omega
  obtain ⟨A, c, rfl, hp⟩ := hv
  have HP := hide hp
  clear hp h0
  go_enter Try.func12, Try.ntmps12
  go_wp2_with fail
  go_step3
  go_wp2_with fail
  refine cm.mono ?_
  rintro e w' ⟨rfl, rfl⟩
  go_wp2_with fail
  go_step3
  go_wp2_with fail
  go_loopw [6, 15] (fun v6 i wr => ∃ (k : Nat) (L : List Int) (A1 : Option Addr) (c1 : Nat), k ≤ hs.length ∧ k ≤ 4000 / n ∧ i = .int .i64 k ∧ v6 = .slice A1 L.length c1 ∧ L = rdj n hs k ∧ Gr w wr A1 c1 L) (fun _ i _ => hs.length - (intOf i).toNat)
  case atStart => exact ⟨0, [], none, 0, Nat.zero_le _, Nat.zero_le _, rfl, rfl, by rw [rdj_zero], Gr.start _⟩
  case round =>
    obtain ⟨k, L, A1, c1, hk, hk2, rfl, rfl, hL, hg⟩ := hrel
    have hlen : L.length = k * n := by rw [hL, rdj_len hk]
    have hlen2 : L.length ≤ 4000 := by rw [hlen]; exact Nat.le_trans (Nat.mul_le_mul_right n hk2) (Nat.div_mul_le_self _ _)
    have HL := hide hL
    have HG := hide hg
    have HK2 := hide hk2
    have HLEN := hide hlen
    clear hL hg hk2 hlen
    by_cases hlt : k < hs.length
    · obtain ⟨g, o, rfl, hgl, hc⟩ := HP.out (by omega)
      have hd := (HG.out.kept.cell (p := ⟨g, o + k, none⟩) hgl (fun c => c)).trans (hc k hlt)
      have HNX := hide (rdj_next (n := n) hlt)
      rw [← HL.out] at HNX
      generalize hs.getD k 0 = x at *
      clear hc
      by_cases hbig : 4000 < L.length + n
      · have HE : Hid (rds n hs = L) := hide (by
          rw [HLEN.out] at hbig
          have e : k = 4000 / n := Nat.le_antisymm HK2.out (more_yes HN.out.1 hbig)
          unfold rds
          rw [← e, HL.out])
        go_wp2_with fail
        rw [Exit.noGoto_ret]
        go_ret
        exact ⟨_, _, by rw [HE.out]; rfl, by rw [HE.out]; exact HG.out⟩
      · have HK1 : Hid (k + 1 ≤ 4000 / n) := hide (more_no HN.out.1 (by rw [← HLEN.out]; omega))
        obtain ⟨z, hz⟩ : ∃ z, x.tmod n = z := ⟨_, rfl⟩
        have hzb := tmod_small x HN.out.1
        rw [hz] at hzb
        obtain ⟨y, hy⟩ : ∃ y, x.tmod 2 = y := ⟨_, rfl⟩
        have hyb := tmod_small x (n := 2) (by decide)
        rw [show ((2 : Nat) : Int) = 2 from rfl, hy] at hyb
        by_cases hx : x.tmod 2 = 0
        · have hye : (y == 0) = true := by rw [← hy, hx]; rfl
          have HX := hide hx
          clear hx
          go_wp2_with fail
          go_loopw [6, 47] (fun v6 i wx => ∃ (j : Nat) (L2 : List Int) (A2 : Option Addr) (c2 : Nat), j ≤ n ∧ i = .int .i64 j ∧ v6 = .slice A2 L2.length c2 ∧ L2 = L ++ rdk n x j ∧ Gr w wx A2 c2 L2) (fun _ i _ => n - (intOf i).toNat)
          case atStart => exact ⟨0, L, A1, c1, Nat.zero_le _, rfl, rfl, by rw [rdk_zero, List.append_nil], HG.out⟩
          case round =>
            obtain ⟨j, L2, A2, c2, hj, rfl, rfl, hL2, hg2⟩ := hrel
            have HL2 := hide hL2
            have HG2 := hide hg2
            clear hL2 hg2
            have hlen2 : L2.length = L.length + j := by rw [HL2.out, List.length_append, rdk_len]
            have hm1 : L2.length + 1 ≤ maxLen := by simp only [maxLen]; omega
            have hm2 : (L2.length + 1) * 8 ≤ 140737488355328 := by omega
            have HM2 := hide (And.intro hm1 hm2)
            have HLEN2 := hide hlen2
            clear hm1 hm2 hlen2
            by_cases hltj : j < n
            · have cmod := modulo_c wr (z + j) n HN.out.1 HN.out.2
              rw [← hz, rv_even HX.out, hz] at cmod
              obtain ⟨r, hr⟩ : ∃ r, rv n x j = r := ⟨_, rfl⟩
              rw [hr] at cmod
              have HR : Hid (L ++ rdk n x (j + 1) = L2 ++ [r]) := hide (by rw [rdk_next, ← List.append_assoc, ← HL2.out, hr])
              clear hr
              go_wp2_with fail
              refine cmod.mono ?_
              rintro e w' ⟨rfl, rfl⟩
              go_wp2_with (at_builtin; refine wpList_append_own_at _ rfl (.tmp 50) (.tmp 58) _ rfl 0 3 i0 (.int .i64 0) 1 8 Try.underlying22 hi hz0 hz1 hz2 rfl (by decide) (.slice A2 L2.length c2) L2.length (L2.map (Value.int .i64)) rfl (HG2.out.row.alloc _) ⟨wr.heap.size, 0, none⟩ 1 1 [.int .i64 r] rfl rfl (cell_one_new _ _ _) (by intro u hu; simp at hu; subst hu; rfl) HM2.out.1 HM2.out.2 (Nat.zero_le _) ?_; intro v' w1 hown' hgrow _ hat; obtain ⟨A3, c3, rfl, hgr2⟩ := HG2.out.push hown' hgrow hat; have HG3 := hide hgr2; clear hown' hgrow hat hgr2)
              go_roundw
              case rel => exact ⟨j + 1, L2 ++ [r], A3, c3, by omega, by go_num, by simp, HR.out.symm, HG3.out⟩
              case measure => simp [intOf]; omega
            · obtain rfl : j = n := by omega
              go_wp2_with fail
              go_roundw
              case rel => exact ⟨k + 1, L2, A2, c2, by omega, HK1.out, by go_num, rfl, by rw [HL2.out]; exact HNX.out.symm, HG2.out⟩
              case measure => simp [intOf]; omega
        · have hye : (y == 0) = false := by rw [← hy]; simpa using hx
          have HX := hide hx
          clear hx
          go_wp2_with fail
          go_loopw [6, 20] (fun v6 i wx => ∃ (j : Nat) (L2 : List Int) (A2 : Option Addr) (c2 : Nat), j ≤ n ∧ i = .int .i64 j ∧ v6 = .slice A2 L2.length c2 ∧ L2 = L ++ rdk n x j ∧ Gr w wx A2 c2 L2) (fun _ i _ => n - (intOf i).toNat)
          case atStart => exact ⟨0, L, A1, c1, Nat.zero_le _, rfl, rfl, by rw [rdk_zero, List.append_nil], HG.out⟩
          case round =>
            obtain ⟨j, L2, A2, c2, hj, rfl, rfl, hL2, hg2⟩ := hrel
            have HL2 := hide hL2
            have HG2 := hide hg2
            clear hL2 hg2
            have hlen2 : L2.length = L.length + j := by rw [HL2.out, List.length_append, rdk_len]
            have hm1 : L2.length + 1 ≤ maxLen := by simp only [maxLen]; omega
            have hm2 : (L2.length + 1) * 8 ≤ 140737488355328 := by omega
            have HM2 := hide (And.intro hm1 hm2)
            have HLEN2 := hide hlen2
            clear hm1 hm2 hlen2
            by_cases hltj : j < n
            · have cmod := modulo_c wr (z - j) n HN.out.1 HN.out.2
              rw [← hz, rv_odd HX.out, hz] at cmod
              obtain ⟨r, hr⟩ : ∃ r, rv n x j = r := ⟨_, rfl⟩
              rw [hr] at cmod
              have HR : Hid (L ++ rdk n x (j + 1) = L2 ++ [r]) := hide (by rw [rdk_next, ← List.append_assoc, ← HL2.out, hr])
              clear hr
              go_wp2_with fail
              refine cmod.mono ?_
              rintro e w' ⟨rfl, rfl⟩
              go_wp2_with (at_builtin; refine wpList_append_own_at _ rfl (.tmp 23) (.tmp 31) _ rfl 0 3 i0 (.int .i64 0) 1 8 Try.underlying22 hi hz0 hz1 hz2 rfl (by decide) (.slice A2 L2.length c2) L2.length (L2.map (Value.int .i64)) rfl (HG2.out.row.alloc _) ⟨wr.heap.size, 0, none⟩ 1 1 [.int .i64 r] rfl rfl (cell_one_new _ _ _) (by intro u hu; simp at hu; subst hu; rfl) HM2.out.1 HM2.out.2 (Nat.zero_le _) ?_; intro v' w1 hown' hgrow _ hat; obtain ⟨A3, c3, rfl, hgr2⟩ := HG2.out.push hown' hgrow hat; have HG3 := hide hgr2; clear hown' hgrow hat hgr2)
              go_roundw
              case rel => exact ⟨j + 1, L2 ++ [r], A3, c3, by omega, by go_num, by simp, HR.out.symm, HG3.out⟩
              case measure => simp [intOf]; omega
            · obtain rfl : j = n := by omega
              go_wp2_with fail
              go_roundw
              case rel => exact ⟨k + 1, L2, A2, c2, by omega, HK1.out, by go_num, rfl, by rw [HL2.out]; exact HNX.out.symm, HG2.out⟩
              case measure => simp [intOf]; omega
    · obtain rfl : k = hs.length := by omega
      have HE : Hid (rds n hs = L) := hide (by rw [rds_short HK2.out, HL.out])
      go_wp2_with fail
      rw [Exit.noGoto_ret]
      go_ret
      exact ⟨_, _, by rw [HE.out]; rfl, by rw [HE.out]; exact HG.out⟩
end
/-- A row of zeros, made. -/
theorem q_make (n : Nat) (hn : n ≤ 65536) (w : World) : (Instr.makeSlice 22 (.int .i64 (n : Int)) (.int .i64 (n : Int))).run Try.prog w = .ok (.slice (some ⟨w.heap.size, 0, none⟩) n n) (w.alloc (.cells ((List.replicate n (0 : Int)).map (Value.int .i64)).toArray 3)) := by
  obtain ⟨i0, hi, hz0, hz1, hz2⟩ := info_parts info_int
  have h := run_make (P := Try.prog) w 22 3 i0 _ Try.underlying22 hi hz0 .i64 .i64 n n (by omega) (Int.le_refl _) (by rw [hz2]; omega) (by omega)
  rw [hz1, Int.toNat_natCast, Nat.mul_one] at h
  rw [List.map_replicate, ← made_zeros]
  exact h
theorem q_nums {w : World} {g : Nat} {l : List Int} (h : Is w g 3 (l.map (Value.int .i64)).toArray) : Nums w (.slice (some ⟨g, 0, none⟩) l.length l.length) l := by
  refine ⟨_, _, rfl, fun _ => ⟨g, 0, rfl, h.lt, fun j hj => ?_⟩⟩
  rw [Nat.zero_add, h.cell j, List.getElem?_toArray, List.getElem?_map, List.getElem?_eq_getElem hj]
  simp [List.getD, hj]
theorem rob_cap {n r : Nat} : rds n (List.replicate (min r 4000) 0) = rob n r := by
  unfold rob rds rdj
  rw [List.take_replicate, List.take_replicate]
  have : 4000 / n ≤ 4000 := Nat.div_le_self _ _
  rw [show min (4000 / n) (min r 4000) = min (4000 / n) r by omega]
section
variable {w : World}
set_option maxHeartbeats 1000000
/-- Robin. -/
theorem robin_c (w : World) (t r : Int) : Calls Try.prog 11 #[.int .i64 t, .int .i64 r] w fun e w' => ∃ A c, e = .returned (.slice A (rob (sm t) r.toNat).length c) ∧ Gr w w' A c (rob (sm t) r.toNat) := by
  obtain ⟨q, hq⟩ : ∃ q, (if r < 0 then 0 else r) = q := ⟨_, rfl⟩
  obtain ⟨m, hm⟩ : ∃ m : Nat, min r.toNat 4000 = m := ⟨_, rfl⟩
  have hq2 : (if 4000 < q then 4000 else q) = (m : Int) := by
    have e : q = (r.toNat : Int) := by rw [← hq]; split <;> omega
    rw [e, ← hm]
    generalize r.toNat = z
    split <;> omega
  have hmk := q_make m (by omega)
  simp only [List.map_replicate, List.toArray_replicate] at hmk
  have hnums : Nums (w.alloc (.cells (Array.replicate m (Value.int .i64 0)) 3)) (.slice (some ⟨w.heap.size, 0, none⟩) m m) (List.replicate m 0) := by
    have := q_nums (Is.new w 3 ((List.replicate m (0 : Int)).map (Value.int .i64)).toArray)
    rw [List.length_replicate] at this
    simpa using this
  have cr := rounds_c t hnums (by rw [List.length_replicate]; omega)
  rw [← hm, rob_cap, hm] at cr
  have CR := hide cr
  have HK := hide ((Kept.refl Nil w).alloc (.cells (Array.replicate m (Value.int .i64 0)) 3))
  clear hnums cr hm
  go_enter Try.func11, Try.ntmps11
  go_wp2_with fail
  refine CR.out.mono ?_
  rintro e w' ⟨A, c, rfl, hg⟩
  have HG := hide (hg.since HK.out)
  clear hg
  go_wp2_with fail
  go_ret
  exact ⟨A, c, rfl, HG.out⟩
end
end Go.Proofs.Ythbldljdalcgcaa
