/- TenureAll. -/
import Derived.Test.YtpmnmckamgdbcaaELaws
namespace Go.Proofs.Ytpmnmckamgdbcaa
open Go.RowKit
set_option maxRecDepth 100000

section
variable {w w' : World} {v0 v : Value} {N : List Int} {l : List Ev}
set_option maxHeartbeats 4000000
/-- TenureAll: too many nodes, or events. -/
theorem eall_short (hn : Nums w v0 N) (hv : Evs w v l) (h : 20 < N.length ∨ 60 < l.length) : Calls Try.prog 3 #[v0, v] w fun x w' => x = .returned (.bool true) ∧ Kept Nil w w' := by
  have HA := hide (eawake_c w)
  obtain ⟨A0, c0, rfl, hq⟩ := hn
  obtain ⟨A, c, rfl, _, hp⟩ := hv
  clear hp hq
  by_cases h1 : 20 < N.length
  · have d1 : decide (20 < (N.length : Int)) = true := by simp; omega
    go_enter Try.func3, Try.ntmps3
    go_wp2_with fail
    refine HA.out.mono ?_
    rintro e w1 ⟨rfl, h⟩
    have H := hide h
    clear h
    go_wp2_with fail
    go_ret
    exact ⟨rfl, H.out⟩
  · have d1 : decide (20 < (N.length : Int)) = false := by simp; omega
    have d2 : decide (60 < (l.length : Int)) = true := by simp; omega
    go_enter Try.func3, Try.ntmps3
    go_wp2_with fail
    refine HA.out.mono ?_
    rintro e w1 ⟨rfl, h⟩
    have H := hide h
    clear h
    go_wp2_with fail
    go_ret
    exact ⟨rfl, H.out⟩
theorem eall_long (hn : Nums w v0 N) (hv : Evs w v l) (h0 : N.length ≤ 20) (h1 : l.length ≤ 60) : Calls Try.prog 3 #[v0, v] w fun x w' => x = .returned (.bool true) ∧ Kept Nil w w' := by
  have d1 : decide (20 < (N.length : Int)) = false := by simp; omega
  have d2 : decide (60 < (l.length : Int)) = false := by simp; omega
  obtain ⟨i0, hi, hz0, hz1, hz2⟩ := info_parts info_event
  obtain ⟨R, b, hT⟩ : ∃ R b, tns N l = (R, b) := ⟨_, _, rfl⟩
  have hR : R.length ≤ 65536 := by have := tns_len N l; rw [hT] at this; have : R.length ≤ l.length := this; omega
  have HT := hide (tns_laid N l)
  rw [hT] at HT
  have HT : Hid (Laid N (ens l) R (pre R) ∧ (b = true ↔ pre R = (ens l).length)) := HT
  have C1 := hide fun W (z : Kept Nil w W) => tnd_at (R := R) (b := b) (Kept.refl Nil W) (by rw [← hT]; exact of_c (hn.kept z) (hv.kept z) (by omega))
  have CN := hide fun W (z : Kept Nil w W) t => node_c t (hn.kept z)
  have C5 := hide fun W (z : Kept Nil w W) => calls_at (w := w) z (eawake_c W)
  clear hT
  obtain ⟨A0, c0, rfl, hq⟩ := hn
  obtain ⟨A, c, rfl, _, hp⟩ := hv
  have HP := hide hp
  clear hp hq
  go_enter Try.func3, Try.ntmps3
  go_wp2_with fail
  go_loopw [5, 6] (fun v5 v6 wr => ∃ (k : Nat) (L : List Ev) (Q : Option Addr) (c1 : Nat), k ≤ l.length ∧ v6 = .int .i64 k ∧ v5 = .slice Q L.length c1 ∧ L = ens (l.take k) ∧ Gw 26 4 w wr Q c1 L.length (ecells L)) (fun _ i _ => l.length - (intOf i).toNat)
  case atStart => exact ⟨0, [], none, 0, Nat.zero_le _, rfl, rfl, rfl, Gw.start _ _ _⟩
  case round =>
    obtain ⟨k, L, Q, c1, hk, rfl, rfl, hL, hg⟩ := hrel
    have HG := hide hg
    have hLk : L.length ≤ k := by rw [hL]; exact Nat.le_trans (ens_len _) (by rw [List.length_take]; omega)
    clear hg
    by_cases hlt : k < l.length
    · obtain ⟨g1, o1, rfl, hg1, hc⟩ := HP.out (by omega)
      obtain ⟨f1, f2, f3, f4⟩ := (hc k hlt).kept hg1 HG.out.kept
      have HE := hide (ens_take hlt)
      rw [← hL] at HE
      clear hc hg1 hL C1 CN C5 HT
      generalize l.getD k e0 = e at *
      have HS := hide (ecells_snoc L e)
      obtain ⟨ek, et, er, ec⟩ := e
      have f1 : wr.cell? ⟨g1, o1 + k * 4, none⟩ = some (.int .i64 ek) := f1
      have f2 : wr.cell? ⟨g1, o1 + k * 4 + 1, none⟩ = some (.int .i64 et) := f2
      have f3 : wr.cell? ⟨g1, o1 + k * 4 + 2, none⟩ = some (.bool er) := f3
      have f4 : wr.cell? ⟨g1, o1 + k * 4 + 3, none⟩ = some (.int .i64 ec) := f4
      have HM : Hid (L.length + 1 ≤ maxLen ∧ (L.length + 1) * 32 ≤ 140737488355328) := hide ⟨by unfold maxLen; omega, by omega⟩
      by_cases h2 : ek = 2
      · subst h2
        have HF : Hid (L ++ [⟨2, et, er, ec⟩] = ens (l.take (k + 1))) := hide (by rw [HE.out, if_pos rfl])
        have HL := hide (show (L ++ [(⟨2, et, er, ec⟩ : Ev)]).length = L.length + 1 by simp)
        clear HE
        go_wp2_with (at_builtin; refine wpList_append_own_at _ rfl (.tmp 35) (.tmp 40) _ rfl 0 26 i0 (.agg #[.int .i64 0, .int .i64 0, .bool false, .int .i64 0]) 4 32 Try.underlying23 hi hz0 hz1 hz2 rfl (by decide) (.slice Q L.length c1) L.length (ecells L) rfl (HG.out.row.alloc _) ⟨wr.heap.size, 0, none⟩ 1 1 [.int .i64 2, .int .i64 et, .bool er, .int .i64 ec] rfl rfl (World.news_of_block (cs := #[.int .i64 2, .int .i64 et, .bool er, .int .i64 ec]) (t := 26) (fr := (0, 0)) (heap_alloc_new wr _)) (by intro u hu; simp at hu; rcases hu with rfl | rfl | rfl | rfl <;> rfl) HM.out.1 HM.out.2 (Nat.zero_le _) ?_; intro v' w4 hown' hgrow _ hat; obtain ⟨R2, c2, rfl, hg2⟩ := HG.out.push ((Kept.refl Nil wr).alloc _) hown' hgrow hat; have H4 := hide hg2; clear hown' hgrow hat hg2)
        go_roundw
        case rel => exact ⟨k + 1, L ++ [⟨2, et, er, ec⟩], R2, c2, by omega, by go_num, by rw [HL.out], HF.out, by rw [HL.out, HS.out]; exact H4.out⟩
        case measure => simp [intOf]; omega
      · have hb : (ek == 2) = false := by simpa using h2
        have HF : Hid (L = ens (l.take (k + 1))) := hide (by rw [HE.out, if_neg h2, List.append_nil])
        clear HE h2
        go_wp2_with fail
        go_roundw
        case rel => exact ⟨k + 1, L, Q, c1, by omega, by go_num, rfl, HF.out, HG.out⟩
        case measure => simp [intOf]; omega
    · obtain rfl : k = l.length := by omega
      rw [List.take_length] at hL
      rw [← hL] at HT
      have HE := hide (And.intro HG.out.evs HG.out.kept)
      have hL60 : L.length ≤ 60 := by omega
      clear HP HG hL hlt hk hLk
      go_wp2_with fail
      refine (C1.out _ HE.out.2).mono ?_
      rintro e w2 ⟨A2, c2, rfl, hs2, hk2⟩
      have H2 := hide (And.intro (HE.out.1.kept hk2) (And.intro hs2 (HE.out.2.trans hk2 (fun _ _ z => z))))
      clear hs2 hk2 C1 HE
      go_wp2_with fail
      go_loopw [9, 10, 11] (fun v9 v10 v11 wx => ∃ (i : Nat), i ≤ R.length ∧ v11 = .int .i64 i ∧ v9 = .int .i64 (pre (R.take i) : Nat) ∧ v10 = .int .i64 (tur R i : Nat) ∧ Kept Nil w2 wx) (fun _ _ i _ => R.length - (intOf i).toNat)
      case atStart => exact ⟨0, Nat.zero_le _, rfl, rfl, rfl, Kept.refl _ _⟩
      case round =>
        obtain ⟨i, hiR, rfl, rfl, rfl, hkx⟩ := hrel
        have HK := hide hkx
        clear hkx
        by_cases hlt : i < R.length
        · obtain ⟨Ar, cr, er, _, hpr⟩ := H2.out.2.1
          injection er with er1 _ er3
          subst er1 er3
          obtain ⟨g, o, rfl, hgl, hc⟩ := hpr (by omega)
          obtain ⟨Ae, ce, ee, _, hpe⟩ := H2.out.1
          injection ee with ee1 _ ee3
          subst ee1 ee3
          have hat := HT.out.1.at_ i hlt
          have hle := HT.out.1.m_le hlt
          have hle2 := HT.out.1.le
          have HPT := hide (pre_take hlt)
          have htk := tur_le R i
          have HTU := hide (show tur R (i + 1) = tur R i + (if 0 < i ∧ (R.getD i r0).n ≠ (R.getD (i - 1) r0).n then 1 else 0) from rfl)
          obtain ⟨q0, q1, q2⟩ := (hc i hlt).kept hgl HK.out
          have HZ := hide fun (z : 0 < i) => (hc (i - 1) (by omega)).n
          have HKX := hide (H2.out.2.2)
          clear hpr hc HT H2 C5
          generalize pre (R.take i) = p at *
          generalize tur R i = tu at *
          generalize R.getD i r0 = r at *
          generalize R.getD (i - 1) r0 = s at *
          obtain ⟨rn, rf, rm⟩ := r
          obtain ⟨sn, sf, sm⟩ := s
          obtain ⟨hrf, hm1, hen⟩ := hat
          have hrf : rf = p := hrf
          subst hrf
          have hm1 : 1 ≤ rm := hm1
          have hle : rf + rm ≤ pre R := hle
          have HEN := hide (show ∀ k, k < rm → (L.getD (rf + k) e0).c = k + 1 ∧ nd N (L.getD (rf + k) e0).t = rn from hen)
          have HPT : Hid (pre (R.take (i + 1)) = rf + rm) := HPT
          have HTU : Hid (tur R (i + 1) = tu + (if 0 < i ∧ rn ≠ sn then 1 else 0)) := HTU
          have q0 : wr.cell? ⟨g, o + i * 3, none⟩ = some (.int .i64 rn) := q0
          have q1 : wr.cell? ⟨g, o + i * 3 + 1, none⟩ = some (.int .i64 rf) := q1
          have q2 : wr.cell? ⟨g, o + i * 3 + 2, none⟩ = some (.int .i64 rm) := q2
          have HZ : Hid (0 < i → w2.cell? ⟨g, o + (i - 1) * 3, none⟩ = some (.int .i64 sn)) := HZ
          clear hen
          obtain ⟨b3, hb3⟩ : ∃ b3, wr.heap.size = b3 := ⟨_, rfl⟩
          obtain ⟨w3, hw3⟩ : ∃ w3, wr.alloc (.cells #[.int .i64 rn, .int .i64 rf, .int .i64 rm] 31) = w3 := ⟨_, rfl⟩
          have HI : Hid (Is w3 b3 31 #[.int .i64 rn, .int .i64 rf, .int .i64 rm] ∧ Kept Nil w2 w3) := hide (by rw [← hw3, ← hb3]; exact ⟨Is.new wr _ _, HK.out.alloc _⟩)
          have b0 : w3.cell? ⟨b3, 0, none⟩ = some (.int .i64 rn) := HI.out.1.cell 0
          have b1 : w3.cell? ⟨b3, 1, none⟩ = some (.int .i64 rf) := HI.out.1.cell 1
          have b2 : w3.cell? ⟨b3, 2, none⟩ = some (.int .i64 rm) := HI.out.1.cell 2
          have d3 : decide ((rm : Int) < 1) = false := by simp; omega
          have d3' : decide (rm < 1) = false := by simp; omega
          have d4 : decide ((L.length : Int) - (rf : Int) < (rm : Int)) = false := by simp; omega
          have hgl2 := hgl
          go_wp2_with fail
          go_loopw [13] (fun v13 wy => ∃ (k : Nat), k ≤ rm ∧ v13 = .int .i64 k ∧ Kept Nil w3 wy) (fun k _ => rm - (intOf k).toNat)
          case atStart => exact ⟨0, Nat.zero_le _, rfl, Kept.refl _ _⟩
          case round =>
            obtain ⟨k, hkm, rfl, hky⟩ := hrel
            have HY := hide hky
            clear hky b0 b1 b2 q0 q1 q2 hw3 hb3
            have b0 : wr.cell? ⟨b3, 0, none⟩ = some (.int .i64 rn) := (HI.out.1.kept HY.out (fun z => z)).cell 0
            have b2 : wr.cell? ⟨b3, 2, none⟩ = some (.int .i64 rm) := (HI.out.1.kept HY.out (fun z => z)).cell 2
            by_cases hk3 : k < rm
            · obtain ⟨ge, oe, rfl, hge, hce⟩ := hpe (by omega)
              have hF := hide fun W (z : Kept Nil w2 W) => (hce (rf + k) (by omega)).kept hge z
              obtain ⟨hec, hen⟩ := HEN.out k hk3
              clear hce HEN
              generalize L.getD (rf + k) e0 = e at *
              obtain ⟨ek, et, er, ec⟩ := e
              have hec : ec = k + 1 := hec
              subst hec
              have hen : nd N et = rn := hen
              have CN2 := hide fun W (z : Kept Nil w3 W) => show Calls Try.prog 7 #[.slice A0 N.length c0, .int .i64 et] W fun e w' => e = .returned (.int .i64 rn) ∧ W = w' from by rw [← hen]; exact CN.out W (HKX.out.trans (HI.out.2.trans z (fun _ _ y => y)) (fun _ _ y => y)) et
              clear hen CN
              have CELLS := hide fun (W : World) (z : Kept Nil w3 W) => show W.cell? ⟨ge, oe + (rf + k) * 4 + 1, none⟩ = some (.int .i64 et) ∧ W.cell? ⟨ge, oe + (rf + k) * 4 + 3, none⟩ = some (.int .i64 ((k : Int) + 1)) ∧ W.cell? ⟨b3, 0, none⟩ = some (.int .i64 rn) from
                ⟨(hF.out W (HI.out.2.trans z (fun _ _ y => y))).2.1, (hF.out W (HI.out.2.trans z (fun _ _ y => y))).2.2.2, (HI.out.1.kept z (fun y => y)).cell 0⟩
              have hK : Kept Nil w3 wr.drew := HY.out.drew
              clear hF
              have hs1 : (0 : Int) ≤ (rf : Int) + (k : Int) := by omega
              have hs2 : (rf : Int) + (k : Int) < (L.length : Int) := by omega
              have hs3 : ((rf : Int) + (k : Int)).toNat = rf + k := by omega
              have hs4 : rf + k < L.length := by omega
              go_wp2_with fail
              have u1 : IntKind.i64.wrap ((rf : Int) + (k : Int)) = (rf : Int) + (k : Int) := IntWalk.i64_in _ (by omega)
              have u2 : IntKind.i64.wrap ((k : Int) + 1) = (k : Int) + 1 := IntWalk.i64_in _ (by omega)
              go_region_held3 (fun W => W.cell? ⟨ge, oe + (rf + k) * 4 + 1, none⟩ = some (.int .i64 et) ∧ W.cell? ⟨ge, oe + (rf + k) * 4 + 3, none⟩ = some (.int .i64 ((k : Int) + 1)) ∧ W.cell? ⟨b3, 0, none⟩ = some (.int .i64 rn))
                (first | exact CELLS.out _ (by assumption) | exact CELLS.out _ (Kept.drew (by assumption)))
                ((go_at_call 7; refine (CN2.out _ (by assumption)).mono ?_; rintro e w5 ⟨rfl, rfl⟩))
              go_wp2_with fail
              go_roundw
              case rel => exact ⟨k + 1, by omega, by go_num, hK⟩
              case measure => simp [intOf]; omega
            · obtain rfl : rm = k := by omega
              have HW := hide (HI.out.2.trans HY.out (fun _ _ y => y))
              clear hpe HEN CN HKX
              by_cases hi0 : 0 < i
              · obtain ⟨j, rfl⟩ : ∃ j, i = j + 1 := ⟨i - 1, by omega⟩
                have p0 : wr.cell? ⟨g, o + j * 3, none⟩ = some (.int .i64 sn) := (HW.out.cell (p := ⟨g, o + j * 3, none⟩) hgl (fun z => z)).trans (HZ.out hi0)
                have d0 : decide (0 < ((j + 1 : Nat) : Int)) = true := by rw [decide_eq_true_eq]; omega
                by_cases hd : rn = sn
                · have hb : (sn != rn) = false := by simp [hd]
                  have HY : Hid (tur R (j + 1 + 1) = tu) := hide (by rw [HTU.out, if_neg (fun z => z.2 hd)]; rfl)
                  clear HTU HZ hd
                  go_wp2_with fail
                  go_quiet (fail)
                  go_wp2_with fail
                  go_roundw
                  case rel => exact ⟨j + 1 + 1, by omega, by go_num, by rw [HPT.out]; rfl, by rw [HY.out], HW.out.drewN _⟩
                  case measure => simp [intOf]; omega
                · have hb : (sn != rn) = true := by simp; exact fun z => hd z.symm
                  have HY : Hid (tur R (j + 1 + 1) = tu + 1) := hide (by rw [HTU.out, if_pos ⟨hi0, hd⟩])
                  clear HTU HZ hd
                  go_wp2_with fail
                  go_quiet (fail)
                  go_wp2_with fail
                  go_roundw
                  case rel => exact ⟨j + 1 + 1, by omega, by go_num, by rw [HPT.out]; rfl, by rw [HY.out]; rfl, HW.out.drewN _⟩
                  case measure => simp [intOf]; omega
              · have d0 : decide (0 < (i : Int)) = false := by simpa using hi0
                have d0' : decide (0 < i) = false := by simpa using hi0
                have HY : Hid (tur R (i + 1) = tu) := hide (by rw [HTU.out, if_neg (fun z => hi0 z.1)]; rfl)
                clear HTU HZ hi0
                go_wp2_with fail
                go_quiet (fail)
                go_wp2_with fail
                go_roundw
                case rel => exact ⟨i + 1, by omega, by go_num, by rw [HPT.out]; rfl, by rw [HY.out], HW.out.drewN _⟩
                case measure => simp [intOf]; omega
        · obtain rfl : i = R.length := by omega
          rw [List.take_length]
          have hbb : ((pre R : Int) == (L.length : Int)) = b := by
            cases b with
            | true => have := HT.out.2.1 rfl; simp [this]
            | false => rw [beq_eq_false_iff_ne]; intro z; have := HT.out.2.2 (by omega); cases this
          have hbn : (pre R == L.length) = b := by
            rw [← hbb]
            by_cases h : pre R = L.length
            · simp [h]
            · rw [beq_eq_false_iff_ne.2 h, Eq.comm, beq_eq_false_iff_ne]
              omega
          have hll : lng R ≤ L.length := Nat.le_trans (lng_pre R) HT.out.1.le
          have e1 : decide ((lng R : Int) ≤ (L.length : Int)) = true := by simp; omega
          have e2 : decide (lng R ≤ L.length) = true := by simp; omega
          have D3 := hide (turns_c (H2.out.2.1.kept HK.out) hR)
          have HH := hide (And.intro (H2.out.2.1.kept HK.out) (H2.out.2.2.trans HK.out (fun _ _ z => z)))
          clear HT H2 HK CN
          go_wp2_with fail
          refine D3.out.mono ?_
          rintro e w3 ⟨rfl, hk⟩
          have H3 := hide (And.intro (HH.out.1.kept hk) (HH.out.2.trans hk (fun _ _ z => z)))
          clear hk D3 HH
          have D4 := hide (longest_c H3.out.1 hR)
          go_wp2_with fail
          refine D4.out.mono ?_
          rintro e w4 ⟨rfl, hk⟩
          have H4 := hide (H3.out.2.trans hk (fun _ _ z => z))
          clear hk D4 H3
          go_wp2_with fail
          refine (C5.out _ H4.out).mono ?_
          rintro e w5 ⟨rfl, hk⟩
          have H5 := hide hk
          clear hk
          go_wp2_with fail
          go_ret
          exact ⟨rfl, H5.out⟩
theorem eall_c (hn : Nums w v0 N) (hv : Evs w v l) : Calls Try.prog 3 #[v0, v] w fun x w' => x = .returned (.bool true) ∧ Kept Nil w w' := by
  rcases Nat.lt_or_ge 20 N.length with h | h
  · exact eall_short hn hv (.inl h)
  · rcases Nat.lt_or_ge 60 l.length with h2 | h2
    · exact eall_short hn hv (.inr h2)
    · exact eall_long hn hv h h2
end
end Go.Proofs.Ytpmnmckamgdbcaa
