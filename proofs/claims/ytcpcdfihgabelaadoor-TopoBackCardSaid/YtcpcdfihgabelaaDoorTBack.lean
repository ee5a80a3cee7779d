/- TopoBack: the walk. -/
import Derived.Test.YtcpcdfihgabelaaDoorTAwake
import Derived.Deep.RegionHeld3
namespace Go.Proofs.YtcpcdfihgabelaaDoor
open Go.RowKit
set_option maxRecDepth 100000

theorem few_yes {P T : List Int} (h : (decide ((P.length : Int) ≤ 60) && decide ((T.length : Int) ≤ 60)) = true) : P.length ≤ 60 ∧ T.length ≤ 60 := by
  simp at h
  omega
theorem ttxt_small {P T : List Int} (h1 : (ltxt P).length ≤ 700) (h2 : (ltxt T).length ≤ 700) : (ttxt P T).length ≤ 4096 := by
  unfold ttxt ltext ltext
  simp [wNodes, wThreads, ltext]
  omega
/-- What is known of a topology that may be. -/
structure May (P T : List Int) (d : Int) : Prop where
  ok : chk P T = 0
  lp : 1 ≤ P.length ∧ P.length ≤ 32
  lt : 1 ≤ T.length ∧ T.length ≤ 32
  form : formB P = true
  five : d ≤ 5
  leaf : ∀ x ∈ lf P, ∃ u : Nat, x = u ∧ u < P.length ∧ dv P u = d ∧ P.contains x = false
  at_ : ∀ x ∈ T, (lf P).contains x = true
  deep : (if chk P T = 0 then d0 P else 0) = d
  leaves : (if chk P T = 0 then lf P else []) = lf P
theorem may {P T : List Int} (h : chk P T = 0) : May P T (d0 P) := by
  obtain ⟨h1, h2, h3, h4⟩ := chk_zero h
  refine ⟨h, by omega, by omega, h2, even_five h3, fun x hx => ?_, fun x hx => List.contains_iff_mem.2 (h4 x hx), if_pos h, if_pos h⟩
  have hd := even_at h3 hx
  have hm := mem_lf.1 hx
  exact ⟨x.toNat, by omega, by omega, hd, by simpa using hm.2.2⟩

section
variable {w : World} {v : Value} {P T : List Int}
set_option maxHeartbeats 4000000
theorem back_no (h1 : Topo w v P T) (hP : ∀ n ∈ P, InR n) (hT : ∀ n ∈ T, InR n) (hm : MaxL w) (hno : (decide ((P.length : Int) ≤ 60) && decide ((T.length : Int) ≤ 60)) = false ∨ chk P T ≠ 0) : Calls Tryd.prog 3 #[v] w fun e w' => e = .returned (.bool true) ∧ Kept Nil w w' := by
  have HM := hide hm
  have HR := hide (And.intro hP hT)
  have HNO := hide hno
  clear hm hP hT hno
  obtain ⟨va, vb, rfl, ha, hb⟩ := h1
  obtain ⟨A1, c1, rfl, _⟩ := id ha
  obtain ⟨A2, c2, rfl, _⟩ := id hb
  obtain ⟨w0, hw0⟩ : ∃ w0, w.alloc (.cells #[.slice A1 P.length c1, .slice A2 T.length c2] 24) = w0 := ⟨_, rfl⟩
  have B1 := Bx.new ha hb
  have K0 := (Kept.refl Nil w).alloc (.cells #[.slice A1 P.length c1, .slice A2 T.length c2] 24)
  rw [hw0] at B1 K0
  have H0 := hide (And.intro B1 K0)
  have q0 := B1.is_.cell 0
  have q1 := B1.is_.cell 1
  clear ha hb B1 K0
  go_enter Tryd.func3, Tryd.ntmps3
  go_wp2_with fail
  cases hf : (decide ((P.length : Int) ≤ 60) && decide ((T.length : Int) ≤ 60)) with
  | false =>
    refine (few_c hf H0.out.1.topo).mono ?_
    rintro e w1 ⟨rfl, hk⟩
    have K1 := hide (H0.out.2.trans hk (fun _ _ z => z))
    clear hf hk
    go_wp2_with fail
    refine (awake_c w1 (HM.out.kept K1.out)).mono ?_
    rintro e w6 ⟨rfl, hk⟩
    have K6 := hide (K1.out.trans hk (fun _ _ z => z))
    clear hk
    go_wp2_with fail
    go_ret
    exact ⟨rfl, K6.out⟩
  | true =>
    have hc : chk P T ≠ 0 := by
      rcases HNO.out with h | h
      · rw [hf] at h; cases h
      · exact h
    have HC := hide hc
    have hne : (chk P T != 0) = true := by simpa using hc
    refine (few_c hf H0.out.1.topo).mono ?_
    rintro e w1 ⟨rfl, hk⟩
    have H1 := hide (And.intro (H0.out.1.keep hk) (H0.out.2.trans hk (fun _ _ z => z)))
    have q0 := H1.out.1.is_.cell 0
    have q1 := H1.out.1.is_.cell 1
    clear hf hk hc
    go_wp2_with fail
    refine (ttext_c (s := []) (if_neg HC.out) H1.out.1.topo HR.out.1 HR.out.2).mono ?_
    rintro e w2 ⟨rfl, hk⟩
    have H2 := hide (And.intro (H1.out.1.keep hk) (H1.out.2.trans hk (fun _ _ z => z)))
    clear hk
    go_wp2_with fail
    refine (parse2_c (w := w2) ⟨([] : List UInt8).toArray⟩ prs_empty (by decide) (HM.out.kept H2.out.2)).mono ?_
    rintro e w3 ht
    obtain ⟨A3, c3, A4, c4, rfl, _, _, hk⟩ := ht.open
    have hk3 := hk.alloc (.cells #[.slice A3 0 c3, .slice A4 0 c4] 24)
    have H3 := hide (And.intro (H2.out.1.keep hk3) (H2.out.2.trans hk3 (fun _ _ z => z)))
    have q0 := (H2.out.1.keep hk).is_.cell 0
    have q1 := (H2.out.1.keep hk).is_.cell 1
    have hlt := (H2.out.1.keep hk).is_.lt
    clear ht hk hk3
    go_wp2_with fail
    refine (tcheck_c (w := w3.alloc (.cells #[.slice A3 0 c3, .slice A4 0 c4] 24)) H3.out.1.topo).mono ?_
    rintro e w4 ⟨rfl, hk⟩
    have H4 := hide (And.intro (H3.out.1.keep hk) (H3.out.2.trans hk (fun _ _ z => z)))
    have q0 := H4.out.1.is_.cell 0
    have q1 := H4.out.1.is_.cell 1
    have hL : (if chk P T = 0 then lf P else []) = [] := if_neg HC.out
    have hD : (if chk P T = 0 then d0 P else 0) = 0 := if_neg HC.out
    have HL := hide (And.intro hL hD)
    clear hk hlt hL hD
    generalize chk P T = z at hne
    go_wp2_with fail
    refine (leaves_c HL.out.1 H4.out.1.topo).mono ?_
    rintro e w5 ⟨v5, rfl, hv5, hk⟩
    obtain ⟨A5, c5, rfl, _⟩ := hv5
    have H5 := hide (And.intro (H4.out.1.keep hk) (H4.out.2.trans hk (fun _ _ z => z)))
    have q0 := H5.out.1.is_.cell 0
    have q1 := H5.out.1.is_.cell 1
    clear hk
    go_wp2_with fail
    refine (depth_c HL.out.2 H5.out.1.topo).mono ?_
    rintro e w6 ⟨rfl, hk⟩
    have K6 := hide (H5.out.2.trans hk (fun _ _ z => z))
    clear hk
    go_wp2_with fail
    refine (awake_c w6 (HM.out.kept K6.out)).mono ?_
    rintro e w7 ⟨rfl, hk⟩
    have K7 := hide (K6.out.trans hk (fun _ _ z => z))
    clear hk
    go_wp2_with fail
    go_ret
    exact ⟨rfl, K7.out⟩
theorem back_yes {d : Int} (h1 : Topo w v P T) (hP : ∀ n ∈ P, InR n) (hT : ∀ n ∈ T, InR n) (hm : MaxL w) (hmay : May P T d) : Calls Tryd.prog 3 #[v] w fun e w' => e = .returned (.bool true) ∧ Kept Nil w w' := by
  have HM := hide hm
  have HR := hide (And.intro hP hT)
  have HY := hide hmay
  have z1 := ltxt_small (l := P) hmay.lp.2 hP
  have z2 := ltxt_small (l := T) hmay.lt.2 hT
  have hz := ttxt_small z1 z2
  have HZ := hide hz
  have hb1 := hmay.lp
  have hb2 := hmay.lt
  clear hm hP hT hmay z1 z2 hz
  obtain ⟨va, vb, rfl, ha, hb⟩ := h1
  obtain ⟨A1, c1, rfl, _⟩ := id ha
  obtain ⟨A2, c2, rfl, _⟩ := id hb
  obtain ⟨w0, hw0⟩ : ∃ w0, w.alloc (.cells #[.slice A1 P.length c1, .slice A2 T.length c2] 24) = w0 := ⟨_, rfl⟩
  have B1 := Bx.new ha hb
  have K0 := (Kept.refl Nil w).alloc (.cells #[.slice A1 P.length c1, .slice A2 T.length c2] 24)
  rw [hw0] at B1 K0
  have H0 := hide (And.intro B1 K0)
  have q0 := B1.is_.cell 0
  have q1 := B1.is_.cell 1
  clear ha hb B1 K0
  go_enter Tryd.func3, Tryd.ntmps3
  go_wp2_with fail
  refine (few_c (b := true) (by simp; omega) H0.out.1.topo).mono ?_
  rintro e w1 ⟨rfl, hk⟩
  have H1 := hide (And.intro (H0.out.1.keep hk) (H0.out.2.trans hk (fun _ _ z => z)))
  have q0 := H1.out.1.is_.cell 0
  have q1 := H1.out.1.is_.cell 1
  clear hk
  go_wp2_with fail
  refine (ttext_c (s := ttxt P T) (if_pos HY.out.ok) H1.out.1.topo HR.out.1 HR.out.2).mono ?_
  rintro e w2 ⟨rfl, hk⟩
  have H2 := hide (And.intro (H1.out.1.keep hk) (H1.out.2.trans hk (fun _ _ z => z)))
  have cp := parse2_c (w := w2) ⟨(ttxt P T).toArray⟩ (show prs (ttxt P T) = (P, T, 0) from prs_back HY.out.ok HR.out.1 HR.out.2) (by rw [mk_size]; exact HZ.out) (HM.out.kept H2.out.2)
  have hne : (ttxt P T).isEmpty = false := by unfold ttxt ltext wNodes; rfl
  generalize ttxt P T = s at *
  clear hk
  go_wp2_with fail
  refine cp.mono ?_
  rintro e w3 ht
  obtain ⟨A3, c3, A4, c4, rfl, n3, n4, hk⟩ := ht.open
  have hk3 := hk.alloc (.cells #[.slice A3 P.length c3, .slice A4 T.length c4] 24)
  have H3 := hide (And.intro (H2.out.1.keep hk3) (And.intro (Bx.new n3 n4) (H2.out.2.trans hk3 (fun _ _ z => z))))
  have q0 := (H2.out.1.keep hk).is_.cell 0
  have q1 := (H2.out.1.keep hk).is_.cell 1
  have hlt := (H2.out.1.keep hk).is_.lt
  clear ht hk hk3 n3 n4 cp
  generalize hbb : w.heap.size = b at *
  go_wp2_with fail
  refine (tcheck_c (w := w3.alloc (.cells #[.slice A3 P.length c3, .slice A4 T.length c4] 24)) H3.out.1.topo).mono ?_
  rintro e w4 ⟨rfl, hk⟩
  rw [HY.out.ok]
  have H4 := hide (And.intro (H3.out.1.keep hk) (And.intro (H3.out.2.1.keep hk) (H3.out.2.2.trans hk (fun _ _ z => z))))
  generalize w3.heap.size = b3 at *
  have q0 := H4.out.1.is_.cell 0
  have q1 := H4.out.1.is_.cell 1
  have q2 := H4.out.2.1.is_.cell 0
  have q3 := H4.out.2.1.is_.cell 1
  clear hk hlt
  go_wp2_with fail
  refine (tsame_c (b := true) (by simp) H4.out.1.topo H4.out.2.1.topo (by omega) (by omega) (by omega) (by omega)).mono ?_
  rintro e w5 ⟨rfl, hk⟩
  have H5 := hide (And.intro (H4.out.1.keep hk) (And.intro (H4.out.2.1.keep hk) (H4.out.2.2.trans hk (fun _ _ z => z))))
  have q0 := H5.out.1.is_.cell 0
  have q1 := H5.out.1.is_.cell 1
  have q2 := H5.out.2.1.is_.cell 0
  have q3 := H5.out.2.1.is_.cell 1
  clear hk
  go_wp2_with fail
  refine (rtsame_c (b := true) (by simp) H5.out.1.topo H5.out.2.1.topo (by omega) (by omega) (by omega) (by omega)).mono ?_
  rintro e w6 ⟨rfl, hk⟩
  have H6 := hide (And.intro (H5.out.1.keep hk) (H5.out.2.2.trans hk (fun _ _ z => z)))
  have q0 := H6.out.1.is_.cell 0
  have q1 := H6.out.1.is_.cell 1
  clear hk
  go_wp2_with fail
  refine (leaves_c HY.out.leaves H6.out.1.topo).mono ?_
  rintro e w7 ⟨v7, rfl, hv7, hk⟩
  have H7 := hide (And.intro (H6.out.1.keep hk) (And.intro (H6.out.2.trans hk (fun _ _ z => z)) hv7))
  have q0 := H7.out.1.is_.cell 0
  have q1 := H7.out.1.is_.cell 1
  have hll : (lf P).length ≤ 32 := Nat.le_trans lfk_len hb1.2
  obtain ⟨A7, c7, rfl, p7⟩ := hv7
  have HP7 := hide p7
  have HLF := hide HY.out.leaf
  have HAT := hide HY.out.at_
  clear hk p7
  generalize lf P = LL at *
  obtain ⟨_, _, e1, pP⟩ := H7.out.1.n1
  injection e1 with e1 _ e2
  subst e1 e2
  obtain ⟨_, _, e1, pT⟩ := H7.out.1.n2
  injection e1 with e1 _ e2
  subst e1 e2
  obtain ⟨gP, oP, rfl, hgP, kP⟩ := pP (by omega)
  obtain ⟨gT, oT, rfl, hgT, kT⟩ := pT (by omega)
  have HPP := hide kP
  have HPT := hide kT
  clear pP pT kP kT
  go_wp2_with fail
  -- the threads are at leaves
  go_loop [7] (fun i => ∃ k : Nat, k ≤ T.length ∧ i = .int .i64 k) (fun i => T.length - (intOf i).toNat)
  case atStart => exact ⟨0, Nat.zero_le _, rfl⟩
  case round =>
    obtain ⟨k, hk, rfl⟩ := hrel
    by_cases hlt : k < T.length
    · have k1 := HPT.out k hlt
      have hx := HAT.out _ (getD_in hlt)
      generalize T.getD k 0 = x at *
      have cc := rhas_c (w := w7) x hx H7.out.2.2 (by omega)
      clear hx
      go_wp2_with fail
      refine cc.mono ?_
      rintro e w' ⟨rfl, rfl⟩
      go_wp2_with fail
      go_round
      case rel => exact ⟨k + 1, by omega, by go_num⟩
      case measure => simp [intOf]; omega
    · obtain rfl : k = T.length := by omega
      go_wp2_with fail
      -- the leaves are equally deep
      go_loopw [8] (fun i wr => ∃ k : Nat, k ≤ LL.length ∧ i = .int .i64 k ∧ Kept Nil w7 wr) (fun i _ => LL.length - (intOf i).toNat)
      case atStart => exact ⟨0, Nat.zero_le _, rfl, Kept.refl _ _⟩
      case round =>
        obtain ⟨k, hk, rfl, hkr⟩ := hrel
        have HK := hide hkr
        have B7 := hide (H7.out.1.keep hkr)
        have q0 := B7.out.is_.cell 0
        have q1 := B7.out.is_.cell 1
        by_cases hlt : k < LL.length
        · obtain ⟨gL, oL, rfl, hgL, kL⟩ := HP7.out (by omega)
          have k1 := (hkr.cell (p := ⟨gL, oL + k, none⟩) hgL (fun z => z)).trans (kL k hlt)
          have KK := hide fun (j : Nat) (hj : j < P.length) => (hkr.cell (p := ⟨gP, oP + j, none⟩) hgP (fun z => z)).trans (HPP.out j hj)
          obtain ⟨u, hu, hul, hud, hun⟩ := HLF.out _ (getD_in hlt)
          rw [hu] at k1 hun
          have HU := hide (And.intro hud hun)
          have K1 := hide k1
          clear kL hu hkr hud hun
          go_wp2_with fail
          clear k1
          go_loop [9, 10] (fun i9 i10 => ∃ n : Nat, n ≤ 5 ∧ i9 = .int .i64 n ∧ ((∃ m : Nat, m < P.length ∧ i10 = .int .i64 m ∧ (n : Int) + dv P m = d) ∨ (i10 = .int .i64 (-1) ∧ (n : Int) = d))) (fun i _ => 6 - (intOf i).toNat)
          case atStart => exact ⟨0, by omega, rfl, .inl ⟨u, hul, rfl, by have := HU.out.1; omega⟩⟩
          case round =>
            obtain ⟨n, hn, rfl, hrel⟩ := hrel
            have h5 := HY.out.five
            rcases hrel with ⟨m, hm, rfl, hs⟩ | ⟨rfl, hs⟩
            · have k2 := KK.out m hm
              have hbd := dv_bound HY.out.form m hm
              have hn4 : n ≤ 4 := by omega
              have hm2 : (m : Int) < (P.length : Int) := by omega
              rcases Nat.eq_zero_or_pos m with h0 | h0
              · subst h0
                have HE := hide (dv_root HY.out.form hm)
                rw [form_root HY.out.form hm, Nat.add_zero] at k2
                have HS := hide hs
                clear hs hbd
                go_wp2_with fail
                go_round
                case rel => exact ⟨n + 1, by omega, by go_num, .inr ⟨rfl, by have := HS.out; have := HE.out; omega⟩⟩
                case measure => simp [intOf]; omega
              · have hr := form_par HY.out.form hm h0
                have HE := hide (dv_par HY.out.form hm h0)
                obtain ⟨j, hj⟩ : ∃ j : Nat, P.getD m 0 = j := ⟨(P.getD m 0).toNat, by omega⟩
                rw [hj] at k2 hr
                have HJ := hide hj
                have HS := hide hs
                clear hj hs hbd
                go_wp2_with fail
                go_round
                case rel => exact ⟨n + 1, by omega, by go_num, .inl ⟨j, by omega, rfl, by have h1 := HS.out; have h2 := HE.out; rw [HJ.out, Int.toNat_natCast] at h2; omega⟩⟩
                case measure => simp [intOf]; omega
            · subst hs
              have cD := hide fun (W : World) (k : Kept Nil wr W) => ((depth_c HY.out.deep (B7.out.keep k).topo).mono (R' := fun e w' => e = .returned (.int .i64 (n : Int)) ∧ Kept Nil wr w') fun e w' ⟨h1, h2⟩ => ⟨h1, k.trans h2 (fun _ _ z => z)⟩)
              have cH := hide fun (W : World) (k : Kept Nil wr W) => ((rhas_c (w := W) (u : Int) HU.out.2 (B7.out.keep k).n1 (by omega)).mono (R' := fun e w' => e = .returned (.bool false) ∧ Kept Nil wr w') fun e w' ⟨h1, h2⟩ => ⟨h1, h2 ▸ k⟩)
              have CELLS := hide fun (W : World) (k : Kept Nil wr W) => And.intro ((B7.out.keep k).is_.cell 0) (And.intro ((B7.out.keep k).is_.cell 1) ((k.cell (p := ⟨gL, oL + _, none⟩) (World.block_lt_of_cell? _ _ K1.out) (fun z => z)).trans K1.out))
              have hK : Kept Nil wr wr.drew := (Kept.refl _ wr).drew
              go_wp2_with fail
              go_region_held3 (fun W => W.cell? ⟨b, 0, none⟩ = some (.slice (some ⟨gP, oP, none⟩) P.length c1) ∧ W.cell? ⟨b, 1, none⟩ = some (.slice (some ⟨gT, oT, none⟩) T.length c2) ∧ W.cell? ⟨gL, oL + k, none⟩ = some (.int .i64 u))
                (first | exact CELLS.out _ (by assumption) | exact CELLS.out _ (Kept.drew (by assumption)))
                (first
                  | (go_at_call 13; refine (cD.out _ (by assumption)).mono ?_; rintro e w8 ⟨rfl, hk8⟩)
                  | (go_at_call 16; refine (cH.out _ (by assumption)).mono ?_; rintro e w8 ⟨rfl, hk8⟩))
              all_goals go_wp2_with fail
              all_goals go_roundw
              case rel => exact ⟨k + 1, by omega, by go_num, HK.out.trans (by assumption) (fun _ _ z => z)⟩
              case measure => simp [intOf]; omega
        · obtain rfl : k = LL.length := by omega
          have KK := hide fun (j : Nat) (hj : j < P.length) => (hkr.cell (p := ⟨gP, oP + j, none⟩) hgP (fun z => z)).trans (HPP.out j hj)
          clear hkr
          go_wp2_with fail
          -- each place behind its parent
          go_loop [11] (fun i => ∃ k : Nat, 1 ≤ k ∧ k ≤ P.length ∧ i = .int .i64 k) (fun i => P.length - (intOf i).toNat)
          case atStart => exact ⟨1, by omega, by omega, rfl⟩
          case round =>
            obtain ⟨k, hk1, hk, rfl⟩ := hrel
            by_cases hlt : k < P.length
            · have k2 := KK.out k hlt
              have hr := form_par HY.out.form hlt (by omega)
              generalize P.getD k 0 = x at *
              have hd : decide ((k : Int) ≤ x) = false := by simp; omega
              go_wp2_with fail
              go_round
              case rel => exact ⟨k + 1, by omega, by omega, by go_num⟩
              case measure => simp [intOf]; omega
            · obtain rfl : k = P.length := by omega
              have K8 := hide (H7.out.2.1.trans HK.out (fun _ _ z => z))
              go_wp2_with fail
              refine (awake_c wr (HM.out.kept K8.out)).mono ?_
              rintro e w9 ⟨rfl, hk9⟩
              have K9 := hide (K8.out.trans hk9 (fun _ _ z => z))
              clear hk9
              go_wp2_with fail
              go_ret
              exact ⟨rfl, K9.out⟩
theorem back_law (h1 : Topo w v P T) (hP : ∀ n ∈ P, InR n) (hT : ∀ n ∈ T, InR n) (hm : MaxL w) : Calls Tryd.prog 3 #[v] w fun e w' => e = .returned (.bool true) ∧ Kept Nil w w' := by
  by_cases hc : chk P T = 0
  · exact back_yes h1 hP hT hm (may hc)
  · exact back_no h1 hP hT hm (.inr hc)
end
end Go.Proofs.YtcpcdfihgabelaaDoor
