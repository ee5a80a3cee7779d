/- The document's Of. -/
import Derived.Test.YtefcjlacjafnoaaYStay
import Derived.Test.YtefcjlacjafnoaaYOf
namespace Go.Proofs.Ytefcjlacjafnoaa
open Go.RowKit
set_option maxRecDepth 100000

section
variable {w : World} {v : Value} {l : List Ev}
theorem hold_take {S : List Sy} {k i : Nat} {t : Int} (h : k < S.length) : ((S.take (k + 1)).all fun s => !yhold t i s) = (((S.take k).all fun s => !yhold t i s) && !yhold t i (S.getD k s0)) := by
  rw [sy_take h, List.all_append]
  simp
set_option maxHeartbeats 2000000
theorem rof_c (hv : Evs w v l) (hl : l.length ≤ 65536) : Calls Try.prog 21 #[v] w (Ofd w (yof l)) := by
  obtain ⟨i0, hi0, hz0, hz1, hz2⟩ := info_parts info_stay
  have CS := hide fun W (z : Kept Nil w W) i (hi : i < l.length) => stay_c i (hv.kept z) hl hi
  obtain ⟨A, c, rfl, hlc, hp⟩ := hv
  have HP := hide hp
  clear hp
  go_enter Try.func21, Try.ntmps21
  go_wp2_with fail
  go_loopw [3, 4] (fun v3 v4 wr => ∃ (i : Nat) (T : List Sy) (R : Option Addr) (c1 : Nat), i ≤ l.length ∧ v4 = .int .i64 i ∧ v3 = .slice R T.length c1 ∧ T = yrf l i ∧ Gw 50 7 w wr R c1 T.length (ycells T)) (fun _ i _ => l.length - (intOf i).toNat)
  case atStart => exact ⟨0, [], none, 0, Nat.zero_le _, rfl, rfl, yrf_zero.symm, Gw.start _ _ _⟩
  case round =>
    obtain ⟨i, T, R, c1, hi, rfl, rfl, hT, hg⟩ := hrel
    have HG := hide hg
    have hTi : T.length ≤ i := by rw [hT]; exact yrf_len hi
    clear hg
    by_cases hlt : i < l.length
    · obtain ⟨g1, o1, rfl, hg1, hc⟩ := HP.out (by omega)
      have hF := hide fun W (z : Kept Nil w W) => (hc i hlt).kept hg1 z
      have HS := hide (yrf_step hlt)
      have HF := hide fun z => yrf_free (t := (l.getD i e0).t) hlt z
      have CY := hide fun W z => CS.out W z i hlt
      rw [← hT] at HS HF
      clear hc hT CS
      obtain ⟨ys, hys⟩ : ∃ ys, yst l i = ys := ⟨_, rfl⟩
      rw [hys] at HS CY
      clear hys
      generalize l.getD i e0 = e at *
      generalize hb : yfr (yof (l.take i)) e.t = b at *
      clear hb
      have hF2 := hide fun W (z : Kept Nil w W) => show W.cell? ⟨g1, o1 + i * 4, none⟩ = some (.int .i64 e.k) ∧ W.cell? ⟨g1, o1 + i * 4 + 1, none⟩ = some (.int .i64 e.t) from ⟨(hF.out W z).1, (hF.out W z).2.1⟩
      clear hF
      obtain ⟨ek, et, er, ec⟩ := e
      obtain ⟨f0, f1⟩ := hF2.out wr HG.out.kept
      by_cases hk : ek = 1
      · subst hk
        have HS1 : Hid (yrf l (i + 1) = T ++ if b = true then [ys] else []) := hide (by rw [HS.out]; simp only [true_and])
        have HF1 : Hid (b = T.all fun s => !yhold et i s) := hide (HF.out rfl)
        clear HS HF
        go_wp2_with fail
        go_loopw [5, 6] (fun v5 v6 wi => ∃ q : Nat, q ≤ T.length ∧ v6 = .int .i64 q ∧ v5 = .bool ((T.take q).all fun s => !yhold et i s) ∧ Gw 50 7 w wi R c1 T.length (ycells T)) (fun _ i _ => T.length - (intOf i).toNat)
        case atStart => exact ⟨0, Nat.zero_le _, rfl, rfl, HG.out⟩
        case round =>
          obtain ⟨q, hq, rfl, rfl, hg⟩ := hrel
          clear HG f0 f1
          have HG := hide hg
          clear hg
          by_cases hqt : q < T.length
          · obtain ⟨f0, f1⟩ := hF2.out wr HG.out.kept
            obtain ⟨g, rfl, hgl, _, hc1, h7, _⟩ := HG.out.at7 hqt
            have HA := hide (hold_take (t := et) (i := i) hqt)
            obtain ⟨h0, _, _, _, _, h5, _⟩ := h7
            generalize T.getD q s0 = s at *
            obtain ⟨st, sr, sa, se, sx, sz, sc⟩ := s
            have h0 : wr.cell? ⟨g, q * 7, none⟩ = some (.int .i64 st) := h0
            have h5 : wr.cell? ⟨g, q * 7 + 5, none⟩ = some (.int .i64 sz) := h5
            generalize ((T.take q).all fun s => !yhold et i s) = fr at *
            have HK : ∀ n, Gw 50 7 w (wr.drewN n) (some ⟨g, 0, none⟩) c1 T.length (ycells T) := fun n => HG.out.keep ((Kept.refl _ wr).drewN n)
            have HK := hide HK
            clear HG HF1 HS1 CY
            by_cases ht : st = et
            · subst ht
              have b1 : (st == st) = true := by simp
              by_cases hz : sz < 0
              · have b2 : decide (sz < 0) = true := by simpa using hz
                have HH : Hid (yhold st i ⟨st, sr, sa, se, sx, sz, sc⟩ = true) := hide (by unfold yhold; rw [decide_eq_true_eq]; exact ⟨rfl, .inl hz⟩)
                clear hz
                go_wp2_with fail
                go_quiet (fail)
                go_wp2_with fail
                go_roundw
                case rel => exact ⟨q + 1, by omega, by go_num, by rw [HA.out, HH.out]; simp, HK.out _⟩
                case measure => simp [intOf]; omega
              · have b2 : decide (sz < 0) = false := by simpa using hz
                by_cases hz2 : (i : Int) < sz
                · have b3 : decide ((i : Int) < sz) = true := by simpa using hz2
                  have HH : Hid (yhold st i ⟨st, sr, sa, se, sx, sz, sc⟩ = true) := hide (by unfold yhold; rw [decide_eq_true_eq]; exact ⟨rfl, .inr hz2⟩)
                  clear hz hz2
                  go_wp2_with fail
                  go_quiet (fail)
                  go_wp2_with fail
                  go_roundw
                  case rel => exact ⟨q + 1, by omega, by go_num, by rw [HA.out, HH.out]; simp, HK.out _⟩
                  case measure => simp [intOf]; omega
                · have b3 : decide ((i : Int) < sz) = false := by simpa using hz2
                  have HH : Hid (yhold st i ⟨st, sr, sa, se, sx, sz, sc⟩ = false) := hide (by unfold yhold; rw [decide_eq_false_iff_not]; exact fun z => z.2.elim hz hz2)
                  clear hz hz2
                  go_wp2_with fail
                  go_quiet (fail)
                  go_wp2_with fail
                  go_roundw
                  case rel => exact ⟨q + 1, by omega, by go_num, by rw [HA.out, HH.out]; simp, HK.out _⟩
                  case measure => simp [intOf]; omega
            · have b1 : (st == et) = false := by simpa using ht
              have HH : Hid (yhold et i ⟨st, sr, sa, se, sx, sz, sc⟩ = false) := hide (by unfold yhold; rw [decide_eq_false_iff_not]; exact fun z => ht z.1)
              clear ht
              go_wp2_with fail
              go_quiet (fail)
              go_wp2_with fail
              go_roundw
              case rel => exact ⟨q + 1, by omega, by go_num, by rw [HA.out, HH.out]; simp, HK.out _⟩
              case measure => simp [intOf]; omega
          · obtain rfl : q = T.length := by omega
            rw [List.take_length, ← HF1.out]
            have HM : Hid (T.length + 1 ≤ maxLen ∧ (T.length + 1) * 56 ≤ 140737488355328) := hide ⟨by unfold maxLen; omega, by omega⟩
            clear HF1
            cases b with
            | false =>
              have HT : Hid (T = yrf l (i + 1)) := hide (by rw [HS1.out, if_neg (by simp), List.append_nil])
              go_wp2_with fail
              go_roundw
              case rel => exact ⟨i + 1, T, R, c1, by omega, by go_num, rfl, HT.out, HG.out⟩
              case measure => simp [intOf]; omega
            | true =>
              have HT : Hid (yrf l (i + 1) = T ++ [ys]) := hide (by rw [HS1.out, if_pos rfl])
              have C2 := hide (CY.out wr HG.out.kept)
              clear CY HS1
              obtain ⟨yt, yr, ya, ye, yx, yz, yc⟩ := ys
              go_wp2_with fail
              refine C2.out.mono ?_
              rintro e w2 ⟨rfl, hk2⟩
              have HG2 := hide (HG.out.keep hk2)
              have HC := hide (ycells_snoc T ⟨yt, yr, ya, ye, yx, yz, yc⟩)
              unfold syv
              clear hk2 HG C2
              go_wp2_with (at_builtin; refine wpList_append_own_at _ rfl (.tmp 54) (.tmp 58) _ rfl 0 50 i0 (.agg #[.int .i64 0, .bool false, .int .i64 0, .int .i64 0, .int .i64 0, .int .i64 0, .int .i64 0]) 7 56 Try.underlying31 hi0 hz0 hz1 hz2 rfl (by decide) (.slice R T.length c1) T.length (ycells T) rfl (HG2.out.row.alloc _) ⟨w2.heap.size, 0, none⟩ 1 1 [.int .i64 yt, .bool yr, .int .i64 ya, .int .i64 ye, .int .i64 yx, .int .i64 yz, .int .i64 yc] rfl rfl (World.news_of_block (cs := #[.int .i64 yt, .bool yr, .int .i64 ya, .int .i64 ye, .int .i64 yx, .int .i64 yz, .int .i64 yc]) (t := 50) (fr := (0, 0)) (heap_alloc_new w2 _)) (by simp [Value.oneCell']) HM.out.1 HM.out.2 (Nat.zero_le _) ?_; intro v' w3 hown' hgrow _ hat; obtain ⟨R2, c2, rfl, hg2⟩ := HG2.out.push ((Kept.refl Nil w2).alloc _) hown' hgrow hat; have H3 := hide hg2; clear hown' hgrow hat hg2)
              go_roundw
              case rel => exact ⟨i + 1, T ++ [⟨yt, yr, ya, ye, yx, yz, yc⟩], R2, c2, by omega, by go_num, by simp, HT.out.symm, by rw [HC.out, List.length_append]; exact H3.out⟩
              case measure => simp [intOf]; omega
      · have HT : Hid (T = yrf l (i + 1)) := hide (by rw [HS.out, if_neg (fun z => hk z.1), List.append_nil])
        have hb : (ek != 1) = true := by simpa using hk
        clear hk HS HF
        go_wp2_with fail
        go_roundw
        case rel => exact ⟨i + 1, T, R, c1, by omega, by go_num, rfl, HT.out, HG.out⟩
        case measure => simp [intOf]; omega
    · obtain rfl : i = l.length := by omega
      have hT : T = yof l := hT.trans yrf_end
      go_wp2_with fail
      go_ret
      rw [← hT]
      exact ⟨R, c1, rfl, HG.out⟩
end
end Go.Proofs.Ytefcjlacjafnoaa
