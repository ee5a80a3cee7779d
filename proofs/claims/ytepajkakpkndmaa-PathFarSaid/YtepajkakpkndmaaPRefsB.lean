/- The document's Slot, Mates, Up, Far, Meet. -/
import Derived.Test.YtepajkakpkndmaaPRefs
import Derived.Deep.RegionHeld3
namespace Go.Proofs.Ytepajkakpkndmaa
open Go.RowKit
set_option maxRecDepth 100000

section
variable {w : World} {v : Value} {P T : List Int}
set_option maxHeartbeats 2000000
/-- Slot. -/
theorem rslot_c {m : Int} (a : Int) (hz : chk P T = 0) (hm : slotT T a = m) (hv : Topo w v P T) : Calls Try.prog 21 #[v, .int .i64 a] w fun e w' => e = .returned (.int .i64 m) ∧ Kept Nil w w' := by
  have HM := hide hm
  have hz2 := (chk_zero hz).1
  obtain ⟨A0, c0, A1, c1, w0, rfl, hw0, hB⟩ := Bo.open hv
  have HB0 := hide hB
  have q0 := hB.at0
  have q1 := hB.at1
  by_cases ha : 0 ≤ a ∧ a < T.length
  · obtain ⟨k, rfl⟩ : ∃ k : Nat, a = k := ⟨a.toNat, by omega⟩
    have hk : k < T.length := by omega
    have ch := r7has_yes hB.topo hk
    obtain ⟨x, hx⟩ : ∃ x, T.getD k 0 = x := ⟨_, rfl⟩
    have HR : Hid ((cnt (T.take k) x : Int) = m) := hide (by rw [← HM.out]; unfold slotT; rw [if_pos ha, Int.toNat_natCast, hx])
    have HX := hide hx
    have hT32 : T.length ≤ 32 := by omega
    clear ha hm hv hB hz hx hz2
    go_enter Try.func21, Try.ntmps21
    go_wp2_with fail
    refine ch.mono ?_
    rintro e w2 ⟨rfl, hk1⟩
    have HB2 := hide (HB0.out.later hk1)
    have q0 := HB2.out.at0
    have q1 := HB2.out.at1
    obtain ⟨A1', c1', e1, p1⟩ := HB2.out.nums.2
    injection e1 with e1 _ e3
    subst e1 e3
    obtain ⟨g1, o1, rfl, hg1, j1⟩ := p1 (by omega)
    have d1 := j1 k hk
    rw [HX.out] at d1
    have HJ := hide j1
    have hk0 : (k : Int) < (T.length : Int) := by omega
    clear p1 j1 ch hk1
    go_wp2_with fail
    go_loopw [5, 6] (fun n i wr => ∃ j : Nat, j ≤ k ∧ i = .int .i64 j ∧ n = .int .i64 (cnt (T.take j) x) ∧ ∃ q, wr = w2.drewN q) (fun _ i _ => k - (intOf i).toNat)
    case atStart => exact ⟨0, Nat.zero_le _, rfl, rfl, 0, rfl⟩
    case round =>
      obtain ⟨j, hj, rfl, rfl, q, rfl⟩ := hrel
      by_cases hlt : j < k
      · have hjT : j < T.length := by omega
        have d2 := HJ.out j hjT
        have hle : cnt (T.take j) x ≤ 32 := Nat.le_trans cnt_le (by simp; omega)
        by_cases hxy : T.getD j 0 = x
        · have HN := hide (cnt_yes hjT hxy)
          rw [hxy] at d2
          generalize cnt (T.take j) x = n at *
          clear hxy
          go_wp2_with fail
          go_quiet (fail)
          go_wp2_with fail
          go_roundw
          case rel => exact ⟨j + 1, by omega, by go_num, by rw [HN.out]; go_num, _, rfl⟩
          case measure => simp [intOf]; omega
        · have HN := hide (cnt_no hjT hxy)
          have hne : (T.getD j 0 == x) = false := by simpa using hxy
          generalize T.getD j 0 = y at *
          generalize cnt (T.take j) x = n at *
          clear hxy
          go_wp2_with fail
          go_quiet (fail)
          go_wp2_with fail
          go_roundw
          case rel => exact ⟨j + 1, by omega, by go_num, by rw [HN.out], _, rfl⟩
          case measure => simp [intOf]; omega
      · obtain rfl : j = k := by omega
        go_wp2_with fail
        go_ret
        exact ⟨by rw [← HR.out]; rfl, HB2.out.kept.drewN _⟩
  · have ch := r7has_no hB.topo ha
    have HR : Hid (m = -1) := hide (by rw [← HM.out]; unfold slotT; rw [if_neg ha])
    clear ha hm hv hB hz hz2
    go_enter Try.func21, Try.ntmps21
    go_wp2_with fail
    refine ch.mono ?_
    rintro e w1 ⟨rfl, hk1⟩
    have HK := hide (HB0.out.kept.trans hk1 (fun _ _ z => z))
    clear hk1
    go_wp2_with fail
    go_ret
    exact ⟨by rw [HR.out]; rfl, HK.out⟩
/-- Mates. -/
theorem rmates_c {m : Int} (a : Int) (hz : chk P T = 0) (hm : matesT (lf P) T a = m) (hv : Topo w v P T) : Calls Try.prog 22 #[v, .int .i64 a] w fun e w' => e = .returned (.int .i64 m) ∧ Kept Nil w w' := by
  have HM := hide hm
  have hT32 : T.length ≤ 32 := by have := (chk_zero hz).1; omega
  have HZ := hide hz
  obtain ⟨A0, c0, A1, c1, w0, rfl, hw0, hB⟩ := Bo.open hv
  have HB0 := hide hB
  clear hB hm hv hz
  go_enter Try.func22, Try.ntmps22
  go_wp2_with fail
  go_loopw [5, 6] (fun n i wr => ∃ j : Nat, j ≤ T.length ∧ i = .int .i64 j ∧ n = .int .i64 (mt (lf P) T a j) ∧ Bo w wr A0 c0 A1 c1 P T) (fun _ i _ => T.length - (intOf i).toNat)
  case atStart => exact ⟨0, Nat.zero_le _, rfl, by rw [mt_zero]; rfl, HB0.out⟩
  case round =>
    obtain ⟨j, hj, rfl, rfl, hb⟩ := hrel
    have HB := hide hb
    have q0 := hb.at0
    have q1 := hb.at1
    clear hb
    by_cases hlt : j < T.length
    · have hle : mt (lf P) T a j ≤ 32 := Nat.le_trans mt_le hT32
      have HN := hide (mt_next (n := a) HZ.out hlt)
      obtain ⟨x, hx⟩ : ∃ x, nodeT (lf P) T j = x := ⟨_, rfl⟩
      have cn := rnode_c (j : Int) HZ.out hx HB.out.topo
      rw [hx] at HN
      clear hx
      by_cases hxy : x = a
      · subst hxy
        have HN2 : Hid (mt (lf P) T x (j + 1) = mt (lf P) T x j + 1) := hide (by rw [HN.out, if_pos rfl])
        generalize mt (lf P) T x j = n at *
        clear HN
        go_wp2_with fail
        refine cn.mono ?_
        rintro e w1 ⟨rfl, hk1⟩
        have HB1 := hide (HB.out.later hk1)
        clear hk1
        go_wp2_with fail
        go_roundw
        case rel => exact ⟨j + 1, by omega, by go_num, by rw [HN2.out]; go_num, HB1.out⟩
        case measure => simp [intOf]; omega
      · have HN2 : Hid (mt (lf P) T a (j + 1) = mt (lf P) T a j) := hide (by rw [HN.out, if_neg hxy]; rfl)
        have hne : (x == a) = false := by simpa using hxy
        generalize mt (lf P) T a j = n at *
        clear HN hxy
        go_wp2_with fail
        refine cn.mono ?_
        rintro e w1 ⟨rfl, hk1⟩
        have HB1 := hide (HB.out.later hk1)
        clear hk1
        go_wp2_with fail
        go_roundw
        case rel => exact ⟨j + 1, by omega, by go_num, by rw [HN2.out], HB1.out⟩
        case measure => simp [intOf]; omega
    · obtain rfl : j = T.length := by omega
      go_wp2_with fail
      go_ret
      exact ⟨by rw [← HM.out, ← mt_all]; rfl, HB.out.kept⟩
/-- Up. -/
theorem rup_c {U : List Int} (a : Int) (hz : chk P T = 0) (hU : upT P T a = U) (hv : Topo w v P T) : Calls Try.prog 24 #[v, .int .i64 a] w fun e w' => ∃ A c, e = .returned (.slice A U.length c) ∧ Nums w' (.slice A U.length c) U ∧ Kept Nil w w' := by
  obtain ⟨i0, hi, hz0, hz1, hz2⟩ := info_parts info_int
  have HZ := hide hz
  have hzz := chk_zero hz
  obtain ⟨A0, c0, A1, c1, w0, rfl, hw0, hB⟩ := Bo.open hv
  have HB0 := hide hB
  have q0 := hB.at0
  have q1 := hB.at1
  by_cases ha : 0 ≤ a ∧ a < T.length
  · obtain ⟨k0, rfl⟩ : ∃ k : Nat, a = k := ⟨a.toNat, by omega⟩
    have hk : k0 < T.length := by omega
    have ch := r7has_yes hB.topo hk
    have hm := mem_lf.1 (hzz.2.2.2 _ (getD_in hk))
    obtain ⟨u, hu⟩ : ∃ u : Nat, T.getD k0 0 = u := ⟨(T.getD k0 0).toNat, by omega⟩
    rw [hu] at hm
    have HUU : Hid (U = ups P u) := hide (by rw [← hU, upT_yes hk, hu, Int.toNat_natCast])
    have HF := hide (And.intro hzz.2.1 (show u < P.length by omega))
    have HX := hide hu
    have hP32 : P.length ≤ 32 := by omega
    clear ha hm hv hB hz hu hzz hU
    go_enter Try.func24, Try.ntmps24
    go_wp2_with fail
    refine ch.mono ?_
    rintro e w2 ⟨rfl, hk1⟩
    have HB2 := hide (HB0.out.later hk1)
    have q0 := HB2.out.at0
    have q1 := HB2.out.at1
    obtain ⟨A1', c1', e1, p1⟩ := HB2.out.nums.2
    injection e1 with e1 _ e3
    subst e1 e3
    obtain ⟨g1, o1, rfl, hg1, j1⟩ := p1 (by omega)
    have d1 := j1 k0 hk
    rw [HX.out] at d1
    obtain ⟨A0', c0', e0, p0⟩ := HB2.out.nums.1
    injection e0 with e0 _ e3
    subst e0 e3
    obtain ⟨g0, o0, rfl, hg0, j0⟩ := p0 (by have := HF.out.2; omega)
    have HJ := hide j0
    have hk0 : (k0 : Int) < (T.length : Int) := by omega
    clear p1 j1 ch hk1 p0 j0
    go_wp2_with fail
    go_loopw [5, 6, 7] (fun v5 v6 v7 wr => ∃ (k : Nat) (L : List Int) (A : Option Addr) (c : Nat), k ≤ dn P u ∧ v6 = .int .i64 (pl P u k) ∧ v7 = .int .i64 k ∧ v5 = .slice A k c ∧ L = upk P u k ∧ Gr w2 wr A c L) (fun _ _ v _ => P.length - (intOf v).toNat)
    case atStart => exact ⟨0, [], none, 0, Nat.zero_le _, by rw [pl_zero HF.out.1 HF.out.2], rfl, rfl, rfl, Gr.start _⟩
    case round =>
      obtain ⟨k, L, A, c, hkd, rfl, rfl, rfl, hL, hgr⟩ := hrel
      have hkP := upk_small HF.out.1 HF.out.2 hkd
      have hLl : L.length = k := by rw [hL]; exact upk_len
      have hm1 : L.length + 1 ≤ maxLen := by simp only [maxLen]; omega
      have hm2 : (L.length + 1) * 8 ≤ 140737488355328 := by omega
      have HM := hide (And.intro hm1 hm2)
      have HL := hide hL
      have HGR := hide hgr
      have q0 := (HB2.out.later hgr.kept).at0
      clear hL hgr hm1 hm2
      subst hLl
      by_cases hlt : L.length < dn P u
      · have hN := hide (pl_next HF.out.1 HF.out.2 hlt)
        have hA := (anc_ok HF.out.1 HF.out.2 _ hlt).1
        have HU : Hid (upk P u (L.length + 1) = L ++ [(anc P u L.length : Int)]) := hide (by rw [upk_succ, ← HL.out])
        rw [pl_in hlt]
        have hKP : L.length < P.length := by have := upk_small HF.out.1 HF.out.2 (k := L.length + 1) hlt; omega
        have HK : Hid (L.length + 1 ≤ dn P u) := hide hlt
        have HX := hide (HJ.out _ hA)
        rw [hN.out] at HX
        generalize anc P u L.length = m at *
        obtain ⟨y, hy⟩ : ∃ y, pl P u (L.length + 1) = y := ⟨_, rfl⟩
        rw [hy] at HX
        have HY := hide hy
        clear hlt hy hN
        have hne : decide ((0 : Int) ≤ (m : Int)) = true := by simp
        have hmp : (m : Int) < (P.length : Int) := by omega
        go_wp2_with (at_builtin; refine wpList_append_own_at _ rfl (.tmp 29) (.tmp 31) _ rfl 0 3 i0 (.int .i64 0) 1 8 Try.underlying22 hi hz0 hz1 hz2 rfl (by decide) (.slice A L.length c) L.length (L.map (Value.int .i64)) rfl (HGR.out.row.alloc _) ⟨wr.heap.size, 0, none⟩ 1 1 [.int .i64 (m : Int)] rfl rfl (cell_one_new _ _ _) (by intro u hu; simp at hu; subst hu; rfl) HM.out.1 HM.out.2 (Nat.zero_le _) ?_; intro v' w1 hown' hgrow _ hat; obtain ⟨A2, c2, rfl, hgr2⟩ := HGR.out.push hown' hgrow hat; have HD := hide hgr2; have q1 := (hgr2.kept.cell (p := ⟨g0, o0 + m, none⟩) hg0 (fun c => c)).trans HX.out; have q2 := (HB2.out.later hgr2.kept).at0; clear hown' hgrow hat hgr2)
        go_roundw
        case rel => exact ⟨L.length + 1, L ++ [(m : Int)], A2, c2, HK.out, by rw [HY.out], by go_num, rfl, HU.out.symm, HD.out⟩
        case measure => simp [intOf]; omega
      · have hkd : L.length = dn P u := by omega
        rw [pl_out hlt]
        have HU : Hid (U = L) := hide (by rw [HUU.out]; unfold ups; rw [← hkd]; exact HL.out.symm)
        clear hlt hkd
        by_cases hlP : L.length < P.length
        · go_wp2_with fail
          go_ret
          exact ⟨A, c, by rw [HU.out]; rfl, by rw [HU.out]; exact HGR.out.row.nums, HB2.out.kept.trans HGR.out.kept (fun _ _ z => z)⟩
        · have hlP2 : decide ((L.length : Int) < (P.length : Int)) = false := by simp; omega
          clear hlP
          go_wp2_with fail
          all_goals go_ret
          all_goals exact ⟨A, c, by rw [HU.out]; rfl, by rw [HU.out]; exact HGR.out.row.nums, HB2.out.kept.trans HGR.out.kept (fun _ _ z => z)⟩
  · have ch := r7has_no hB.topo ha
    have HR : Hid (U = []) := hide (by rw [← hU, upT_no ha])
    clear ha hv hB hz hzz
    go_enter Try.func24, Try.ntmps24
    go_wp2_with fail
    refine ch.mono ?_
    rintro e w1 ⟨rfl, hk1⟩
    have HK := hide (HB0.out.kept.trans hk1 (fun _ _ z => z))
    clear hk1
    go_wp2_with fail
    go_ret
    exact ⟨none, 0, by rw [HR.out]; rfl, by rw [HR.out]; exact Nums.nil _ _ _, HK.out⟩
theorem upT_small {a : Int} (hz : chk P T = 0) : (upT P T a).length ≤ 32 := by
  have hzz := chk_zero hz
  unfold upT
  split
  · next ha =>
    have hm := mem_lf.1 (hzz.2.2.2 _ (getD_in (l := T) (k := a.toNat) (by omega)))
    rw [ups_len]
    have := (dn_pos hzz.2.1 (v := (T.getD a.toNat 0).toNat) (by omega)).2.2
    omega
  · exact Nat.zero_le _
/-- Far. -/
theorem rfar_c {m : Int} (a b : Int) (hz : chk P T = 0) (hm : farT P T a b = m) (hv : Topo w v P T) : Calls Try.prog 25 #[v, .int .i64 a, .int .i64 b] w fun e w' => e = .returned (.int .i64 m) ∧ Kept Nil w w' := by
  have HS := hide (And.intro (upT_small (a := a) hz) (upT_small (a := b) hz))
  have HM : Hid (fidx (fun x => (upT P T b).contains x) (upT P T a) = m) := hide hm
  obtain ⟨UA, hUA⟩ : ∃ U, upT P T a = U := ⟨_, rfl⟩
  obtain ⟨UB, hUB⟩ : ∃ U, upT P T b = U := ⟨_, rfl⟩
  rw [hUA, hUB] at HS HM
  obtain ⟨A0, c0, A1, c1, w0, rfl, hw0, hB⟩ := Bo.open hv
  have HB := hide hB
  have q0 := hB.at0
  have q1 := hB.at1
  have cA := hide fun (W : World) (k : Kept Nil w0 W) => (rup_c a hz hUA (hB.topo.kept k)).mono (R' := fun e w' => ∃ A c, e = .returned (.slice A UA.length c) ∧ Nums w' (.slice A UA.length c) UA ∧ Kept Nil w0 w')
    (fun e w' ⟨A, c, h1, h2, h3⟩ => ⟨A, c, h1, h2, k.trans h3 (fun _ _ z => z)⟩)
  have cB := hide fun (W : World) (k : Kept Nil w0 W) => (rup_c b hz hUB (hB.topo.kept k)).mono (R' := fun e w' => ∃ A c, e = .returned (.slice A UB.length c) ∧ Nums w' (.slice A UB.length c) UB ∧ Kept Nil W w' ∧ Kept Nil w0 w')
    (fun e w' ⟨A, c, h1, h2, h3⟩ => ⟨A, c, h1, h2, h3, k.trans h3 (fun _ _ z => z)⟩)
  have CELLS := hide fun (W : World) (k : Kept Nil w0 W) => And.intro (HB.out.later k).at0 (HB.out.later k).at1
  have hK : Kept Nil w0 w0.drew := (Kept.refl _ w0).drew
  clear hm hUA hUB hv hB hz
  go_enter Try.func25, Try.ntmps25
  go_wp2_with fail
  go_region_held3 (fun W => W.cell? ⟨w.heap.size, 0, none⟩ = some (.slice A0 P.length c0) ∧ W.cell? ⟨w.heap.size, 1, none⟩ = some (.slice A1 T.length c1))
    (first | exact CELLS.out _ (by assumption) | exact CELLS.out _ (Kept.drew (by assumption)))
    ((first
      | (go_at_call 24; with_reducible refine (cA.out _ (by assumption)).mono ?_; rintro e w5 ⟨A5, c5, rfl, hn5, hk5⟩)
      | (go_at_call 24; with_reducible refine (cB.out _ (by assumption)).mono ?_; rintro e w6 ⟨A6, c6, rfl, hn6, hk7, hk6⟩)))
  have H6 := hide (And.intro (hn5.kept hk7) (And.intro hn6 (HB.out.kept.trans hk6 (fun _ _ z => z))))
  clear hn5 hn6 hk7 hk6 hk5 q0 q1
  obtain ⟨A5', c5', e5, p5⟩ := H6.out.1
  injection e5 with e1 _ e3
  subst e1 e3
  have HP5 := hide p5
  clear p5
  go_wp2_with fail
  go_loop [9] (fun i => ∃ j : Nat, j ≤ UA.length ∧ i = .int .i64 j ∧ ∀ y ∈ UA.take j, (fun x => UB.contains x) y = false) (fun i => UA.length - (intOf i).toNat)
  case atStart => exact ⟨0, Nat.zero_le _, rfl, by simp⟩
  case round =>
    obtain ⟨j, hj, rfl, hn⟩ := hrel
    have HN := hide hn
    have hS := HS.out.1
    clear hn
    by_cases hlt : j < UA.length
    · obtain ⟨g2, o2, rfl, _, j2⟩ := HP5.out (by omega)
      have d2 := j2 j hlt
      clear j2
      have HY := hide (fun h => all_not (q := fun x => UB.contains x) hlt HN.out h)
      have HI := hide (fun h => Fst.hit hlt HN.out h)
      generalize UA.getD j 0 = y at *
      cases hc : UB.contains y with
      | true =>
        have HQ := hide (HI.out hc)
        have ch := rhas_c y hc H6.out.2.1 (by have := HS.out; omega)
        clear HY HI HN hc
        go_wp2_with fail
        refine ch.mono ?_
        rintro e w' ⟨rfl, rfl⟩
        go_wp2_with fail
        go_ret
        exact ⟨by rw [← HM.out, ← HQ.out]; rfl, H6.out.2.2⟩
      | false =>
        have HQ := hide (HY.out hc)
        have ch := rhas_c y hc H6.out.2.1 (by have := HS.out; omega)
        clear HY HI hc
        go_wp2_with fail
        refine ch.mono ?_
        rintro e w' ⟨rfl, rfl⟩
        go_wp2_with fail
        go_round
        case rel => exact ⟨j + 1, by omega, by go_num, HQ.out⟩
        case measure => simp [intOf]; omega
    · obtain rfl : j = UA.length := by omega
      have HQ := hide (Fst.none HN.out)
      go_wp2_with fail
      go_ret
      exact ⟨by rw [← HM.out, ← HQ.out]; rfl, H6.out.2.2⟩
/-- Meet. -/
theorem rmeet_c {m : Int} (a b : Int) (hz : chk P T = 0) (hm : meetT P T a b = m) (hv : Topo w v P T) : Calls Try.prog 26 #[v, .int .i64 a, .int .i64 b] w fun e w' => e = .returned (.int .i64 m) ∧ Kept Nil w w' := by
  have HM := hide hm
  have HZ := hide hz
  obtain ⟨A0, c0, A1, c1, w0, rfl, hw0, hB⟩ := Bo.open hv
  have HB := hide hB
  have q0 := hB.at0
  have q1 := hB.at1
  have cf := rfar_c a b hz rfl hB.topo
  have hbd := fidx_bound (fun x => (upT P T b).contains x) (upT P T a)
  rw [show fidx (fun x => (upT P T b).contains x) (upT P T a) = farT P T a b from rfl] at hbd
  rcases hbd with hf | ⟨i, hf, hi, -⟩
  · have HR : Hid (m = -1) := hide (by rw [← HM.out]; unfold meetT; rw [if_pos hf])
    rw [hf] at cf
    clear hf hm hv hB hz
    go_enter Try.func26, Try.ntmps26
    go_wp2_with fail
    refine cf.mono ?_
    rintro e w1 ⟨rfl, hk1⟩
    have HK := hide (HB.out.kept.trans hk1 (fun _ _ z => z))
    clear hk1
    go_wp2_with fail
    go_ret
    exact ⟨by rw [HR.out]; rfl, HK.out⟩
  · obtain ⟨U, hU⟩ : ∃ U, upT P T a = U := ⟨_, rfl⟩
    have HU := hide hU
    have HR : Hid (m = U.getD i 0) := hide (by rw [← HM.out]; unfold meetT; rw [if_neg (by omega), hf, hU, Int.toNat_natCast])
    rw [hU] at hi
    rw [hf] at cf
    clear hf hm hU hv hB hz
    go_enter Try.func26, Try.ntmps26
    go_wp2_with fail
    refine cf.mono ?_
    rintro e w1 ⟨rfl, hk1⟩
    have HB1 := hide (HB.out.later hk1)
    have q0 := HB1.out.at0
    have q1 := HB1.out.at1
    have cu := rup_c a HZ.out HU.out HB1.out.topo
    clear hk1 cf
    go_wp2_with fail
    refine cu.mono ?_
    rintro e w2 ⟨A2, c2, rfl, hn2, hk2⟩
    have HK := hide (HB1.out.kept.trans hk2 (fun _ _ z => z))
    obtain ⟨A', c', e2, p⟩ := hn2
    injection e2 with e1 _ e3
    subst e1 e3
    obtain ⟨g, o, rfl, hg, hc⟩ := p (by omega)
    have q := hc i hi
    rw [← HR.out] at q
    have hi2 : (i : Int) < (U.length : Int) := by omega
    clear hk2 p hc cu
    go_wp2_with fail
    go_ret
    exact ⟨rfl, HK.out⟩
end
end Go.Proofs.Ytepajkakpkndmaa
