/- TallyRises: a stay's places rise; a thread's stays do not overlap. wip/tools/gentally.py wrote it. -/
import Derived.Test.YtnipgafogkbobaaYLaws
import Derived.Deep.RegionHeld3
namespace Go.Proofs.Ytnipgafogkbobaa
open Go.RowKit
set_option maxRecDepth 100000

/-- A stay's places, by their numbers; the one ahead of a place. -/
def atj (s : Sy) : Nat → Int
  | 0 => s.a
  | 1 => s.e
  | 2 => s.x
  | _ => s.z
def lastj (s : Sy) : Nat → Int
  | 0 => -1
  | j + 1 => atj s j
section
variable {w w' : World} {v : Value} {l : List Ev}
theorem four_at (s : Sy) (j : Nat) (hj : j < 4) (W : World) : (Instr.index 28 (.agg #[.int .i64 s.a, .int .i64 s.e, .int .i64 s.x, .int .i64 s.z]) (.int .i64 j)).run Try.prog W = .ok (.int .i64 (atj s j)) W := by
  rcases (show j = 0 ∨ j = 1 ∨ j = 2 ∨ j = 3 by omega) with rfl | rfl | rfl | rfl
  · exact four_0 W _ _ _ _
  · exact four_1 W _ _ _ _
  · exact four_2 W _ _ _ _
  · exact four_3 W _ _ _ _
/-- One count goes on, or not. -/
theorem fmid_step (a e x z : Nat) (s : Sy) (j : Nat) (hj : j < 4) : ∃ q : Nat, q ≤ a + e + x + z ∧ (fmid a e x z s j)[j]? = some (.int .i64 q) ∧
    (atj s j ≠ -1 → (fmid a e x z s j).setIfInBounds j (.int .i64 ((q : Int) + 1)) = fmid a e x z s (j + 1)) ∧ (atj s j = -1 → fmid a e x z s j = fmid a e x z s (j + 1)) := by
  rcases (show j = 0 ∨ j = 1 ∨ j = 2 ∨ j = 3 by omega) with rfl | rfl | rfl | rfl
  · refine ⟨a, by omega, rfl, fun h => ?_, fun h => ?_⟩
    · show _ = fcs (a + on1 s.a) e x z
      rw [show on1 s.a = 1 from if_neg h]
      rfl
    · show _ = fcs (a + on1 s.a) e x z
      rw [show on1 s.a = 0 from if_pos h]
      rfl
  · refine ⟨e, by omega, rfl, fun h => ?_, fun h => ?_⟩
    · show _ = fcs (a + on1 s.a) (e + on1 s.e) x z
      rw [show on1 s.e = 1 from if_neg h]
      rfl
    · show _ = fcs (a + on1 s.a) (e + on1 s.e) x z
      rw [show on1 s.e = 0 from if_pos h]
      rfl
  · refine ⟨x, by omega, rfl, fun h => ?_, fun h => ?_⟩
    · show _ = fcs (a + on1 s.a) (e + on1 s.e) (x + on1 s.x) z
      rw [show on1 s.x = 1 from if_neg h]
      rfl
    · show _ = fcs (a + on1 s.a) (e + on1 s.e) (x + on1 s.x) z
      rw [show on1 s.x = 0 from if_pos h]
      rfl
  · refine ⟨z, by omega, rfl, fun h => ?_, fun h => ?_⟩
    · show _ = fcs (a + on1 s.a) (e + on1 s.e) (x + on1 s.x) (z + on1 s.z)
      rw [show on1 s.z = 1 from if_neg h]
      rfl
    · show _ = fcs (a + on1 s.a) (e + on1 s.e) (x + on1 s.x) (z + on1 s.z)
      rw [show on1 s.z = 0 from if_pos h]
      rfl
/-- A place is none, or it is behind the one ahead, and its event is of its kind and thread. -/
theorem place_at {s : Sy} (h : Ygd l s) (j : Nat) (hj : j < 4) : (atj s j = -1 ∧ 0 < j) ∨ ∃ n : Nat, atj s j = n ∧ n < l.length ∧ lastj s j < n ∧ (l.getD n e0).t = s.t ∧ (l.getD n e0).k = (j : Int) + 1 ∧ (0 < j → 0 ≤ lastj s j) := by
  obtain ⟨⟨a1, a2, a3, a4⟩, h2, h3, h4⟩ := h
  have e1 : -1 ≤ s.e := by rcases h2 with h | ⟨h, _⟩ <;> omega
  have x1 : -1 ≤ s.x := by rcases h3 with h | ⟨_, h, _⟩ <;> omega
  rcases (show j = 0 ∨ j = 1 ∨ j = 2 ∨ j = 3 by omega) with rfl | rfl | rfl | rfl
  · exact .inr ⟨s.a.toNat, by show s.a = _; omega, by omega, by show (-1 : Int) < _; omega, a4, a3, fun z => absurd z (by omega)⟩
  · rcases h2 with h | ⟨b1, b2, b3, b4⟩
    · exact .inl ⟨h, by omega⟩
    · exact .inr ⟨s.e.toNat, by show s.e = _; omega, by omega, by show s.a < _; omega, b4, b3, fun _ => a1⟩
  · rcases h3 with h | ⟨b0, b1, b2, b3, b4⟩
    · exact .inl ⟨h, by omega⟩
    · exact .inr ⟨s.x.toNat, by show s.x = _; omega, by omega, by show s.e < _; omega, b4, b3, fun _ => by show 0 ≤ s.e; omega⟩
  · rcases h4 with h | ⟨b0, b1, b2, b3, b4⟩
    · exact .inl ⟨h, by omega⟩
    · exact .inr ⟨s.z.toNat, by show s.z = _; omega, by omega, by show s.x < _; omega, b4, b3, fun _ => by show 0 ≤ s.x; omega⟩
set_option maxHeartbeats 4000000
theorem yrises_short (hv : Evs w v l) (hn : 60 < l.length) : Calls Try.prog 4 #[v] w fun x w' => x = .returned (.bool true) ∧ Kept Nil w w' := by
  have hlen : decide (60 < (l.length : Int)) = true := by simp; omega
  have HA := hide (yawake_c w)
  obtain ⟨A, c, rfl, _, hp⟩ := hv
  clear hp
  go_enter Try.func4, Try.ntmps4
  go_wp2_with fail
  refine HA.out.mono ?_
  rintro e w1 ⟨rfl, h⟩
  have H := hide h
  clear h
  go_wp2_with fail
  go_ret
  exact ⟨rfl, H.out⟩
theorem yrises_long (hv : Evs w v l) (hw : Ywf l) (hn : l.length ≤ 60) : Calls Try.prog 4 #[v] w fun x w' => x = .returned (.bool true) ∧ Kept Nil w w' := by
  have hlen : decide (60 < (l.length : Int)) = false := by simp; omega
  have C1 := hide (of_c hv hw (by omega))
  have C2 := hide fun W (z : Kept Nil w W) => many_c (hv.kept z) hw (by omega)
  have C3 := hide fun W => yawake_c W
  have hS : (yof l).length ≤ 60 := Nat.le_trans yof_len hn
  have HD := hide (fun k (hk : k < (yof l).length) => ygd_at hk)
  have HO := hide (fun j k (hjk : j < k) (hk : k < (yof l).length) => yor_at yor_all hjk hk)
  generalize yof l = S at *
  obtain ⟨A, c, rfl, hlc, hp⟩ := hv
  have HP := hide hp
  clear hp hw
  go_enter Try.func4, Try.ntmps4
  go_wp2_with fail
  refine C1.out.mono ?_
  rintro e w1 ⟨A1, c1, rfl, hg⟩
  obtain ⟨b, hb⟩ : ∃ b, w1.heap.size = b := ⟨_, rfl⟩
  obtain ⟨wb, hwb⟩ : ∃ wb, w1.alloc (.cells #[.int .i64 0, .int .i64 0, .int .i64 0, .int .i64 0] 28) = wb := ⟨_, rfl⟩
  have HG : Hid (Gw 36 7 w wb A1 c1 S.length (ycells S) ∧ Is wb b 28 #[.int .i64 0, .int .i64 0, .int .i64 0, .int .i64 0] ∧ w.heap.size ≤ b) := hide ⟨by
    rw [← hwb]
    exact hg.keep ((Kept.refl Nil w1).alloc _), by
    rw [← hwb, ← hb]
    exact Is.new w1 _ _, by
    rw [← hb]
    exact hg.kept.size⟩
  have HWB := hide hwb
  clear hg C1
  go_wp2_with fail
  clear hwb
  go_loopw [5] (fun v5 wr => ∃ k : Nat, k ≤ S.length ∧ v5 = .int .i64 k ∧ Is wr b 28 (fcs (ymn Sy.a (S.take k)) (ymn Sy.e (S.take k)) (ymn Sy.x (S.take k)) (ymn Sy.z (S.take k))) ∧ Kept (fun i => i = b) wb wr) (fun i _ => S.length - (intOf i).toNat)
  case atStart => exact ⟨0, Nat.zero_le _, rfl, HG.out.2.1, Kept.refl _ _⟩
  case round =>
    obtain ⟨k, hk, rfl, hi, hkr⟩ := hrel
    clear HWB
    have HOLD : Hid (∀ W, Kept (fun i => i = b) wb W → Kept Nil w W) := hide fun W z => HG.out.1.kept.trans z (fun i hi z => by
      have h1 := HG.out.2.2
      have z : i = b := z
      omega)
    by_cases hlt : k < S.length
    · obtain ⟨g, rfl, hgl, hgn, hlc1, h7, _⟩ := HG.out.1.at7 hlt
      have hgb : ¬ g = b := fun e => by
        obtain ⟨cur, hc⟩ := HG.out.1.block (g := g) rfl
        exact hc.ne HG.out.2.1 (by decide) e
      have HKR := hide hkr
      have HDD := hide (HD.out k hlt)
      have HOR := hide fun j (hj : j < k) => HO.out j k hj hlt
      have h7 := h7.far hkr hgl hgb
      have HH := hide hgb
      have qb := ymn_le (p := Sy.a) (S := S.take k)
      have qb2 := ymn_le (p := Sy.e) (S := S.take k)
      have qb3 := ymn_le (p := Sy.x) (S := S.take k)
      have qb4 := ymn_le (p := Sy.z) (S := S.take k)
      have hlen2 : (S.take k).length = k := by rw [List.length_take]; omega
      rw [hlen2] at qb qb2 qb3 qb4
      have HQ := hide (And.intro (ymn_take (p := Sy.a) hlt) (And.intro (ymn_take (p := Sy.e) hlt) (And.intro (ymn_take (p := Sy.x) hlt) (ymn_take (p := Sy.z) hlt))))
      clear hkr hlen2 hgb
      generalize ymn Sy.a (S.take k) = qa at *
      generalize ymn Sy.e (S.take k) = qe at *
      generalize ymn Sy.x (S.take k) = qx at *
      generalize ymn Sy.z (S.take k) = qz at *
      generalize S.getD k s0 = s at *
      obtain ⟨st, sr, sa, se, sx, sz, sc⟩ := s
      obtain ⟨c0, c1', c2, c3, c4, c5, c6⟩ := h7.cells
      obtain ⟨bs, hbs⟩ : ∃ bs, wr.heap.size = bs := ⟨_, rfl⟩
      have HI : Hid (Is (wr.alloc (.cells #[.int .i64 st, .bool sr, .int .i64 sa, .int .i64 se, .int .i64 sx, .int .i64 sz, .int .i64 sc] 36)) b 28 (fcs qa qe qx qz) ∧ Kept (fun i => i = b) wb (wr.alloc (.cells #[.int .i64 st, .bool sr, .int .i64 sa, .int .i64 se, .int .i64 sx, .int .i64 sz, .int .i64 sc] 36)) ∧ Is (wr.alloc (.cells #[.int .i64 st, .bool sr, .int .i64 sa, .int .i64 se, .int .i64 sx, .int .i64 sz, .int .i64 sc] 36)) bs 36 #[.int .i64 st, .bool sr, .int .i64 sa, .int .i64 se, .int .i64 sx, .int .i64 sz, .int .i64 sc]) := hide ⟨hi.alloc _, HKR.out.alloc _, by rw [← hbs]; exact Is.new wr _ _⟩
      have HBS : Hid (¬ bs = b) := hide fun e => HI.out.2.2.ne HI.out.1 (by decide) e
      clear hi HKR h7
      go_wp2_with fail
      clear c0 c1' c2 c3 c4 c5 c6
      go_loopw [7, 36] (fun v7 v36 wi => ∃ j : Nat, j ≤ 4 ∧ v36 = .int .i64 j ∧ v7 = .int .i64 (lastj ⟨st, sr, sa, se, sx, sz, sc⟩ j) ∧ Is wi b 28 (fmid qa qe qx qz ⟨st, sr, sa, se, sx, sz, sc⟩ j) ∧ Kept (fun i => i = b) wb wi ∧ Is wi bs 36 #[.int .i64 st, .bool sr, .int .i64 sa, .int .i64 se, .int .i64 sx, .int .i64 sz, .int .i64 sc]) (fun _ i _ => 4 - (intOf i).toNat)
      case atStart => exact ⟨0, by omega, rfl, rfl, HI.out⟩
      case round =>
        obtain ⟨j, hj, rfl, rfl, hi, hki, hbx⟩ := hrel
        clear HI
        have HI2 := hide (And.intro hi (And.intro hki hbx))
        by_cases hj4 : j < 4
        · have hj5 : (j : Int) < 4 := by omega
          have hix := four_at ⟨st, sr, sa, se, sx, sz, sc⟩ j hj4
          obtain ⟨q, hqb, hq1, hq2, hq3⟩ := fmid_step qa qe qx qz ⟨st, sr, sa, se, sx, sz, sc⟩ j hj4
          have hpl := place_at HDD.out j hj4
          have HLJ : Hid (lastj ⟨st, sr, sa, se, sx, sz, sc⟩ (j + 1) = atj ⟨st, sr, sa, se, sx, sz, sc⟩ j) := hide rfl
          generalize atj ⟨st, sr, sa, se, sx, sz, sc⟩ j = u at *
          generalize lastj ⟨st, sr, sa, se, sx, sz, sc⟩ j = la at *
          rcases hpl with ⟨rfl, hj0⟩ | ⟨n, rfl, hnl, hln, het, hek, hl0⟩
          · have d2 : decide ((l.length : Int) ≤ -1) = false := by simp; omega
            have HN : Hid (∀ n, Is (wr.drewN n) b 28 (fmid qa qe qx qz ⟨st, sr, sa, se, sx, sz, sc⟩ (j + 1)) ∧ Kept (fun i => i = b) wb (wr.drewN n) ∧ Is (wr.drewN n) bs 36 #[.int .i64 st, .bool sr, .int .i64 sa, .int .i64 se, .int .i64 sx, .int .i64 sz, .int .i64 sc]) := hide fun n => ⟨by
              rw [← hq3 rfl]
              exact hi.drewN n, hki.drewN n, hbx.drewN n⟩
            clear hi hki hbx hq1 hq2 hq3 HDD HOR HI2 HQ
            go_wp2_with fail
            go_quiet (fail)
            go_wp2_with fail
            go_roundw
            case rel => exact ⟨j + 1, by omega, by go_num, by rw [HLJ.out], HN.out _⟩
            case measure => simp [intOf]; omega
          · rcases Nat.eq_zero_or_pos j with h0 | h0
            · subst h0
              have d4 : decide ((n : Int) ≤ la) = false := by rw [decide_eq_false_iff_not]; omega
              have hix0 : ∀ W, (Instr.index 28 (.agg #[.int .i64 sa, .int .i64 se, .int .i64 sx, .int .i64 sz]) (.int .i64 0)).run Try.prog W = .ok (.int .i64 n) W := hix
              have d2 : decide (l.length ≤ n) = false := by rw [decide_eq_false_iff_not]; omega
              have d1 : decide (((n : Nat) : Int) < -1) = false := by rw [decide_eq_false_iff_not]; omega
              have het : (l.getD n e0).t = st := het
              obtain ⟨g1, o1, rfl, hg1, hc⟩ := HP.out (by omega)
              obtain ⟨t0, t1, _, _⟩ := (hc n hnl).kept hg1 (HOLD.out _ hki)
              have y0 : wr.cell? ⟨bs, 0, none⟩ = some (.int .i64 st) := hbx.cell 0
              have f0 : wr.cell? ⟨g1, o1 + n * 4, none⟩ = some (.int .i64 (((0 : Nat) : Int) + 1)) := by rw [← hek]; exact t0
              have f1 : wr.cell? ⟨g1, o1 + n * 4 + 1, none⟩ = some (.int .i64 st) := by rw [← het]; exact t1
              have q0 : wr.cell? ⟨b, 0, none⟩ = some (.int .i64 (q : Nat)) := (hi.cell _).trans hq1
              have q1 := hi.free 0
              have HN : Hid (∀ n9, Is ((wr.drewN n9).setCell ⟨b, 0, none⟩ (.int .i64 ((q : Int) + 1))) b 28 (fmid qa qe qx qz ⟨st, sr, sa, se, sx, sz, sc⟩ (0 + 1)) ∧ Kept (fun i => i = b) wb ((wr.drewN n9).setCell ⟨b, 0, none⟩ (.int .i64 ((q : Int) + 1))) ∧ Is ((wr.drewN n9).setCell ⟨b, 0, none⟩ (.int .i64 ((q : Int) + 1))) bs 36 #[.int .i64 st, .bool sr, .int .i64 sa, .int .i64 se, .int .i64 sx, .int .i64 sz, .int .i64 sc]) := hide fun n9 => ⟨by
                have h := (hi.drewN n9).set 0 (.int .i64 ((q : Int) + 1))
                rw [hq2 (by omega)] at h
                exact h, (hki.drewN n9).set (p := ⟨b, 0, none⟩) (fun _ => rfl) _, (hbx.drewN n9).other (p := ⟨b, 0, none⟩) HBS.out _⟩
              clear hi hki hbx hc hek het hq1 hq2 hq3 HDD HOR HI2 HQ t0 t1
              go_wp2_with fail
              go_quiet (fail)
              go_wp2_with fail
              go_roundw
              case rel => exact ⟨0 + 1, by omega, by go_num, by rw [HLJ.out], HN.out _⟩
              case measure => simp [intOf]
            · have hl1 := hl0 h0
              have d4 : decide ((n : Int) ≤ la) = false := by rw [decide_eq_false_iff_not]; omega
              have d5 : decide (la < 0) = false := by rw [decide_eq_false_iff_not]; omega
              have d6 : decide ((0 : Int) < (j : Int)) = true := by rw [decide_eq_true_eq]; omega
              have d7 : decide (0 < j) = true := by rw [decide_eq_true_eq]; omega
              have d2 : decide (l.length ≤ n) = false := by rw [decide_eq_false_iff_not]; omega
              have d1 : decide (((n : Nat) : Int) < -1) = false := by rw [decide_eq_false_iff_not]; omega
              have het : (l.getD n e0).t = st := het
              obtain ⟨g1, o1, rfl, hg1, hc⟩ := HP.out (by omega)
              obtain ⟨t0, t1, _, _⟩ := (hc n hnl).kept hg1 (HOLD.out _ hki)
              have y0 : wr.cell? ⟨bs, 0, none⟩ = some (.int .i64 st) := hbx.cell 0
              have f0 : wr.cell? ⟨g1, o1 + n * 4, none⟩ = some (.int .i64 ((j : Int) + 1)) := by rw [← hek]; exact t0
              have f1 : wr.cell? ⟨g1, o1 + n * 4 + 1, none⟩ = some (.int .i64 st) := by rw [← het]; exact t1
              have q0 : wr.cell? ⟨b, j, none⟩ = some (.int .i64 (q : Nat)) := (hi.cell _).trans hq1
              have q1 := hi.free j
              have HN : Hid (∀ n9, Is ((wr.drewN n9).setCell ⟨b, j, none⟩ (.int .i64 ((q : Int) + 1))) b 28 (fmid qa qe qx qz ⟨st, sr, sa, se, sx, sz, sc⟩ (j + 1)) ∧ Kept (fun i => i = b) wb ((wr.drewN n9).setCell ⟨b, j, none⟩ (.int .i64 ((q : Int) + 1))) ∧ Is ((wr.drewN n9).setCell ⟨b, j, none⟩ (.int .i64 ((q : Int) + 1))) bs 36 #[.int .i64 st, .bool sr, .int .i64 sa, .int .i64 se, .int .i64 sx, .int .i64 sz, .int .i64 sc]) := hide fun n9 => ⟨by
                have h := (hi.drewN n9).set j (.int .i64 ((q : Int) + 1))
                rw [hq2 (by omega)] at h
                exact h, (hki.drewN n9).set (p := ⟨b, j, none⟩) (fun _ => rfl) _, (hbx.drewN n9).other (p := ⟨b, j, none⟩) HBS.out _⟩
              clear hi hki hbx hc hek het hq1 hq2 hq3 HDD HOR HI2 HQ t0 t1
              go_wp2_with fail
              go_quiet (fail)
              go_wp2_with fail
              go_roundw
              case rel => exact ⟨j + 1, by omega, by go_num, by rw [HLJ.out], HN.out _⟩
              case measure => simp [intOf]; omega
        · obtain rfl : j = 4 := by omega
          have HN : Hid (Is wr b 28 (fcs (ymn Sy.a (S.take (k + 1))) (ymn Sy.e (S.take (k + 1))) (ymn Sy.x (S.take (k + 1))) (ymn Sy.z (S.take (k + 1))))) := hide (by
            rw [HQ.out.1, HQ.out.2.1, HQ.out.2.2.1, HQ.out.2.2.2]
            exact hi)
          have HI3 := hide (And.intro HN.out HI2.out.2)
          have hj6 : ¬ (4 : Int) < 4 := by omega
          clear hi hki hbx HN HI2 HQ hj4 HDD
          go_wp2_with fail
          go_loopw [10] (fun v10 wi => ∃ m : Nat, m ≤ k ∧ v10 = .int .i64 m ∧ Is wi b 28 (fcs (ymn Sy.a (S.take (k + 1))) (ymn Sy.e (S.take (k + 1))) (ymn Sy.x (S.take (k + 1))) (ymn Sy.z (S.take (k + 1)))) ∧ Kept (fun i => i = b) wb wi ∧ Is wi bs 36 #[.int .i64 st, .bool sr, .int .i64 sa, .int .i64 se, .int .i64 sx, .int .i64 sz, .int .i64 sc]) (fun i _ => k - (intOf i).toNat)
          case atStart => exact ⟨0, Nat.zero_le _, rfl, HI3.out⟩
          case round =>
            obtain ⟨m, hm, rfl, hi, hki, hbx⟩ := hrel
            clear HI3
            have HI4 : Hid (∀ n, Is (wr.drewN n) b 28 (fcs (ymn Sy.a (S.take (k + 1))) (ymn Sy.e (S.take (k + 1))) (ymn Sy.x (S.take (k + 1))) (ymn Sy.z (S.take (k + 1)))) ∧ Kept (fun i => i = b) wb (wr.drewN n) ∧ Is (wr.drewN n) bs 36 #[.int .i64 st, .bool sr, .int .i64 sa, .int .i64 se, .int .i64 sx, .int .i64 sz, .int .i64 sc]) := hide fun n => ⟨hi.drewN n, hki.drewN n, hbx.drewN n⟩
            by_cases hmk : m < k
            · have y0 : wr.cell? ⟨bs, 0, none⟩ = some (.int .i64 st) := hbx.cell 0
              have y2 : wr.cell? ⟨bs, 2, none⟩ = some (.int .i64 sa) := hbx.cell 2
              obtain ⟨g', eg, _, _, _, h8, _⟩ := HG.out.1.at7 (show m < S.length by omega)
              injection eg with eg
              injection eg with eg
              subst eg
              have h8 := h8.far hki hgl HH.out
              obtain ⟨r1, r2⟩ := HOR.out m hmk
              generalize S.getD m s0 = u at *
              obtain ⟨ut, ur, ua, ue, ux, uz, uc⟩ := u
              obtain ⟨z0, _, z2, _, _, z5, _⟩ := h8.cells
              have r1 : ua < sa := r1
              have r2 : ut = st → 0 ≤ uz ∧ uz < sa := r2
              have d1 : decide (sa ≤ ua) = false := by simp; omega
              clear h8 hi hki hbx HOR
              by_cases hts : ut = st
              · subst hts
                have r3 := r2 rfl
                have d2 : decide (uz < 0) = false := by simp; omega
                have d3 : decide (sa < uz) = false := by simp; omega
                clear r2 r3 r1
                go_wp2_with fail
                go_quiet (fail)
                go_wp2_with fail
                go_roundw
                case rel => exact ⟨m + 1, by omega, by go_num, HI4.out _⟩
                case measure => simp [intOf]; omega
              · have d2 : (ut == st) = false := by simpa using hts
                clear r2 r1 hts
                go_wp2_with fail
                go_quiet (fail)
                go_wp2_with fail
                go_roundw
                case rel => exact ⟨m + 1, by omega, by go_num, HI4.out _⟩
                case measure => simp [intOf]; omega
            · obtain rfl : m = k := by omega
              have HI5 := hide (And.intro hi hki)
              clear hi hki hbx HI4 HOR
              go_wp2_with fail
              go_roundw
              case rel => exact ⟨m + 1, by omega, by go_num, HI5.out⟩
              case measure => simp [intOf]; omega
    · obtain rfl : k = S.length := by omega
      rw [List.take_length] at hi
      have q0 := hi.cell 0
      have q1 := hi.cell 1
      have q2 := hi.cell 2
      have q3 := hi.cell 3
      have HKW := hide (HOLD.out _ hkr)
      have CELLS4 := hide fun W (z : Kept Nil wr W) => show W.cell? ⟨b, 0, none⟩ = some (.int .i64 (ymn Sy.a S : Nat)) ∧ W.cell? ⟨b, 1, none⟩ = some (.int .i64 (ymn Sy.e S : Nat)) ∧ W.cell? ⟨b, 2, none⟩ = some (.int .i64 (ymn Sy.x S : Nat)) ∧ W.cell? ⟨b, 3, none⟩ = some (.int .i64 (ymn Sy.z S : Nat)) from
        have h := hi.kept z (fun y => y)
        ⟨h.cell 0, h.cell 1, h.cell 2, h.cell 3⟩
      have D2 := hide fun W (z : Kept Nil wr W) => (C2.out W (HKW.out.trans z (fun _ _ y => y))).mono (R' := fun e w' => e = .returned (.agg #[.int .i64 (ymn Sy.a S : Nat), .int .i64 (ymn Sy.e S : Nat), .int .i64 (ymn Sy.x S : Nat), .int .i64 (ymn Sy.z S : Nat)]) ∧ Kept Nil wr w') fun _ _ ⟨h1, h2⟩ => ⟨h1, z.trans h2 (fun _ _ y => y)⟩
      have D3 := hide fun W (z : Kept Nil wr W) => (C3.out W).mono (R' := fun e w' => e = .returned (.bool true) ∧ Kept Nil wr w') fun _ _ ⟨h1, h2⟩ => ⟨h1, z.trans h2 (fun _ _ y => y)⟩
      clear hi hkr C2 C3 HG HD HO HP q0 q1 q2 q3
      generalize ymn Sy.a S = n0 at *
      generalize ymn Sy.e S = n1 at *
      generalize ymn Sy.x S = n2 at *
      generalize ymn Sy.z S = n3 at *
      have heq := eq_four n0 n1 n2 n3
      have heg := eq_four_guard n0 n1 n2 n3
      have hK : Kept Nil wr wr.drew := (Kept.refl _ wr).drew
      go_wp2_with fail
      go_region_held3 (fun W => W.cell? ⟨b, 0, none⟩ = some (.int .i64 (n0 : Nat)) ∧ W.cell? ⟨b, 1, none⟩ = some (.int .i64 (n1 : Nat)) ∧ W.cell? ⟨b, 2, none⟩ = some (.int .i64 (n2 : Nat)) ∧ W.cell? ⟨b, 3, none⟩ = some (.int .i64 (n3 : Nat)))
        (first | exact CELLS4.out _ (by assumption) | exact CELLS4.out _ (Kept.drew (by assumption)))
        (first
          | (go_at_call 8; refine (D2.out _ (by assumption)).mono ?_; rintro e w5 ⟨rfl, hk5⟩)
          | (go_at_call 6; refine (D3.out _ (by assumption)).mono ?_; rintro e w6 ⟨rfl, hk6⟩))
      have HF := hide (HKW.out.trans hk6 (fun _ _ y => y))
      go_wp2_with fail
      go_ret
      exact ⟨rfl, HF.out⟩
theorem yrises_c (hv : Evs w v l) (hw : Ywf l) : Calls Try.prog 4 #[v] w fun x w' => x = .returned (.bool true) ∧ Kept Nil w w' := by
  rcases Nat.lt_or_ge 60 l.length with h | h
  · exact yrises_short hv h
  · exact yrises_long hv hw h
end
end Go.Proofs.Ytnipgafogkbobaa
