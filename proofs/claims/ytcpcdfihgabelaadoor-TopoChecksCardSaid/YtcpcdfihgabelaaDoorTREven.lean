/- Contract of the document's Even. -/
import Derived.Test.YtcpcdfihgabelaaDoorTREvS
import Derived.Test.YtcpcdfihgabelaaDoorTRTree
namespace Go.Proofs.YtcpcdfihgabelaaDoor
open Go.RowKit
set_option maxRecDepth 100000

theorem any_low {l : List Int} {k : Nat} (hk : k < l.length) (h : l.getD k 0 < 1) : l.any (fun x => decide (x < 1)) = true :=
  List.any_eq_true.2 ⟨_, getD_in hk, by simpa using h⟩
theorem not_low {l : List Int} (h : ∀ x ∈ l, ¬ x < 1) : l.any (fun x => decide (x < 1)) = false :=
  List.any_eq_false.2 fun x hx => by simpa using h x hx

section
variable {w : World} {v : Value} {parts P T : List Int} {er : Int}
set_option maxHeartbeats 4000000
theorem reven_c (th : Int) (ho : evOut parts th = (P, T, er)) (hv : Nums w v parts) (hl : parts.length ≤ 64) : Calls Tryd.prog 23 #[v, .int .i64 th] w (Told P T er w) := by
  obtain ⟨i0, hi, hz0, hz1, hz2⟩ := info_parts info_int
  have HO := hide ho
  have HV := hide hv
  have hi0 := Is.new w 24 #[.slice none 0 0, .slice none 0 0]
  have hk0 := (Kept.refl Nil w).alloc (.cells #[.slice none 0 0, .slice none 0 0] 24)
  obtain ⟨w0, hw0⟩ : ∃ w0, w.alloc (.cells #[.slice none 0 0, .slice none 0 0] 24) = w0 := ⟨_, rfl⟩
  rw [hw0] at hi0 hk0
  have H0 := hide (And.intro hi0 hk0)
  obtain ⟨A0, c0, rfl, hp0⟩ := hv
  have HP := hide hp0
  clear ho hi0 hk0 hp0
  generalize hb : w.heap.size = b at *
  have hbs : w.heap.size ≤ b := by omega
  have HBS := hide hbs
  clear hbs
  by_cases h1 : th < 1
  · have HN := hide (out_err (ev_bad (bad_th (parts := parts) h1)) (by decide))
    go_enter Tryd.func23, Tryd.ntmps23
    have u0 := H0.out.1.cell 0
    have u1 := H0.out.1.cell 1
    have u2 := H0.out.1.free 0
    have u3 := H0.out.1.free 1
    go_wp2_with fail
    have hi9 := (H0.out.1.set 0 (.slice none 0 0)).set 1 (.slice none 0 0)
    have hk9 := (H0.out.2.set (p := ⟨b, 0, none⟩) (fun h => absurd h (by show ¬ b < w.heap.size; omega)) (.slice none 0 0)).set (p := ⟨b, 1, none⟩) (fun h => absurd h (by show ¬ b < w.heap.size; omega)) (.slice none 0 0)
    exact bodyPost_ret (results_topo rfl _ rfl rfl (hi9.cell 0) (hi9.cell 1)) rfl (Told.none HO.out HN.out hk9)
  have hd1 : decide (th < 1) = false := by simpa using h1
  obtain ⟨p, rfl⟩ : ∃ p : Nat, th = p := ⟨th.toNat, by omega⟩
  have HTH : Hid (1 ≤ (p : Int)) := hide (by omega)
  clear h1
  go_enter Tryd.func23, Tryd.ntmps23
  go_wp2_with fail
  -- the parts
  go_loop [6] (fun i => ∃ k : Nat, k ≤ parts.length ∧ i = .int .i64 k ∧ ∀ x ∈ parts.take k, ¬ x < 1) (fun i => parts.length - (intOf i).toNat)
  case atStart => exact ⟨0, Nat.zero_le _, rfl, by simp⟩
  case round =>
    obtain ⟨k, hk, rfl, hn⟩ := hrel
    have HN0 := hide hn
    clear hn
    by_cases hlt : k < parts.length
    · obtain ⟨g, o, rfl, hg, hc⟩ := HP.out (by omega)
      have k1 := (H0.out.2.cell (p := ⟨g, o + k, none⟩) (by show g < w.heap.size; omega) (fun z => z)).trans (hc k hlt)
      have HX := hide (fun h => all_in2 (Q := fun x => ¬ x < 1) hlt HN0.out h)
      have HY := hide (fun h => any_low hlt h)
      clear hc
      obtain ⟨x, hx⟩ : ∃ x, parts.getD k 0 = x := ⟨_, rfl⟩
      rw [hx] at k1 HX HY
      clear hx
      by_cases hx : x < 1
      · have HN := hide (out_err (ev_bad (bad_any (th := (p : Int)) (HY.out hx))) (by decide))
        clear HX HY
        have u0 := H0.out.1.cell 0
        have u1 := H0.out.1.cell 1
        have u2 := H0.out.1.free 0
        have u3 := H0.out.1.free 1
        go_wp2_with fail
        have hi9 := (H0.out.1.set 0 (.slice none 0 0)).set 1 (.slice none 0 0)
        have hk9 := (H0.out.2.set (p := ⟨b, 0, none⟩) (fun h => absurd h (by show ¬ b < w.heap.size; omega)) (.slice none 0 0)).set (p := ⟨b, 1, none⟩) (fun h => absurd h (by show ¬ b < w.heap.size; omega)) (.slice none 0 0)
        exact bodyPost_ret (results_topo rfl _ rfl rfl (hi9.cell 0) (hi9.cell 1)) rfl (Told.none HO.out HN.out hk9)
      · have HM := hide (HX.out hx)
        have hd2 : decide (x < 1) = false := by simpa using hx
        clear HX HY hx
        go_wp2_with fail
        go_round
        case rel => exact ⟨k + 1, by omega, by go_num, HM.out⟩
        case measure => simp [intOf]; omega
    · obtain rfl : k = parts.length := by omega
      have HBAD := hide (bad_no (parts := parts) (th := (p : Int)) HTH.out (not_low (by have := HN0.out; rwa [List.take_length] at this)))
      have HPOS := hide (good_parts HBAD.out).2
      have hst := EvP.start HBS.out H0.out.1 H0.out.2 (-1)
      obtain ⟨wS, hwS⟩ : ∃ wS, (w0.alloc (.cells #[.int .i64 (-1)] 3)).alloc (.cells #[.slice (some ⟨w0.heap.size, 0, none⟩) 1 1, .slice none 0 0] 24) = wS := ⟨_, rfl⟩
      rw [hwS] at hst
      have HST := hide hst
      clear hst HN0
      obtain ⟨bt, hbt⟩ : ∃ bt, w0.heap.size + 1 = bt := ⟨_, rfl⟩
      rw [hbt] at HST
      have HWS := hide hwS
      have HBT := hide hbt
      clear hwS hbt
      go_wp2_with fail
      rw [HWS.out, HBT.out]
      -- the levels
      go_loopw [8, 9] (fun v8 v9 wr => ∃ (k f : Nat) (L : List Int) (A : Option Addr) (c : Nat), k ≤ parts.length ∧ v9 = .int .i64 k ∧ v8 = .int .i64 f ∧ L.length ≤ 32 ∧ gk parts k = (L, f) ∧ EvP w wr b bt A c L) (fun _ i _ => parts.length - (intOf i).toNat)
      case atStart => exact ⟨0, 0, [-1], some ⟨w0.heap.size, 0, none⟩, 1, Nat.zero_le _, rfl, rfl, by decide, rfl, HST.out⟩
      case round =>
        obtain ⟨k, f, B, A, c, hk, rfl, rfl, hlen, hG, hg⟩ := hrel
        have HG := hide hG
        have HGR := hide hg
        have u0 := hg.it.cell 0
        clear hG hg
        by_cases hlt : k < parts.length
        · obtain ⟨g, o, rfl, hg, hc⟩ := HP.out (by omega)
          have hc1 := hc k hlt
          have hq := HPOS.out _ (getD_in hlt)
          have hgr := grown HPOS.out (k := k) (by omega)
          rw [HG.out] at hgr
          have hfl : f < B.length := hgr.lt
          obtain ⟨q, hqe⟩ : ∃ q : Nat, parts.getD k 0 = q := ⟨(parts.getD k 0).toNat, by omega⟩
          have HN : Hid (gk parts (k + 1) = (B ++ each (lv f B.length) q, B.length)) := hide (by show ((gk parts k).1 ++ each (lv (gk parts k).2 (gk parts k).1.length) (parts.getD k 0).toNat, (gk parts k).1.length) = _; rw [HG.out, hqe, Int.toNat_natCast])
          have HEND : Hid ((B ++ each (lv f B.length) q).length ≤ (evP parts).length) := hide (by
            have h2 := gk_mono (parts := parts) (k := k + 1) (m := parts.length) (by omega)
            rw [HN.out] at h2
            exact h2)
          rw [hqe] at hc1
          have KP : Hid (∀ W, Kept Nil w W → W.cell? ⟨g, o + k, none⟩ = some (.int .i64 q)) := hide fun W kW => (kW.cell (p := ⟨g, o + k, none⟩) (by show g < w.heap.size; omega) (fun z => z)).trans hc1
          have hlv : (lv f B.length).length = B.length - f := lv_len
          have HLV := hide hlv
          have HF := hide (fl_start (B := B) (L := lv f B.length) (p := q))
          clear hc hgr hqe hlv hq hc1
          go_wp2_with fail
          go_loopw [11] (fun v11 W => ∃ (j : Nat) (L : List Int) (A : Option Addr) (c : Nat), j ≤ B.length - f ∧ v11 = .int .i64 ((f + j : Nat) : Int) ∧ L.length ≤ 32 ∧ L = fl B (lv f B.length) q j 0 ∧ EvP w W b bt A c L) (fun i _ => B.length - (intOf i).toNat)
          case atStart => exact ⟨0, B, A, c, Nat.zero_le _, rfl, hlen, HF.out.symm, HGR.out⟩
          case round =>
            clear u0
            obtain ⟨j, L, A, c, hj, rfl, hlen, hL, hg⟩ := hrel
            have HL := hide hL
            have HGR := hide hg
            clear hL hg
            by_cases hjl : j < B.length - f
            · have hj2 : ((f + j : Nat) : Int) < (B.length : Int) := by omega
              have HX : Hid (∀ i, fl B (lv f B.length) q j (i + 1) = fl B (lv f B.length) q j i ++ [((f + j : Nat) : Int)]) := hide fun i => by rw [fl_more, lv_get hjl]
              have HNX : Hid (fl B (lv f B.length) q (j + 1) 0 = fl B (lv f B.length) q j q) := hide (fl_next (by rw [HLV.out]; exact hjl))
              have HLE : Hid (∀ i, i ≤ q → (fl B (lv f B.length) q j i).length ≤ (evP parts).length) := hide fun i hi => Nat.le_trans (fl_le (by rw [HLV.out]; exact hjl) hi) HEND.out
              have hfj : f + j ≤ 32 := by omega
              generalize hm : f + j = m at *
              go_wp2_with fail
              go_loopw [12] (fun v12 W => ∃ (i : Nat) (L : List Int) (A : Option Addr) (c : Nat), i ≤ q ∧ i ≤ 32 ∧ v12 = .int .i64 i ∧ L.length ≤ 32 ∧ L = fl B (lv f B.length) q j i ∧ EvP w W b bt A c L) (fun i _ => q - (intOf i).toNat)
              case atStart => exact ⟨0, L, A, c, Nat.zero_le _, by omega, rfl, hlen, HL.out, HGR.out⟩
              case round =>
                clear HGR HL hlen
                obtain ⟨i, L, A, c, hip, hi32, rfl, hlen, hL, hg⟩ := hrel
                have HL := hide hL
                have HGR := hide hg
                have u0 := hg.it.cell 0
                have k1 := KP.out _ hg.row.kept
                have hm1 : L.length + 1 ≤ maxLen := by simp only [maxLen]; omega
                have hm2 : (L.length + 1) * 8 ≤ 140737488355328 := by omega
                have HM := hide (And.intro hm1 hm2)
                clear hm1 hm2
                clear hL hg
                by_cases hil : i < q
                · have hil2 : (i : Int) < (q : Int) := by omega
                  have HLX : Hid (fl B (lv f B.length) q j (i + 1) = L ++ [(m : Int)]) := hide (by rw [HX.out i, ← HL.out])
                  by_cases h32 : 32 < L.length + 1
                  · have HN2 := hide (out_err (ev_many HBAD.out (.inl (by have := HLE.out (i + 1) hil; rw [HLX.out, List.length_append, List.length_singleton] at this; omega))) (by decide))
                    have hc32 : (32 : Int) < (L.length : Int) + 1 := by omega
                    go_wp2_with (at_builtin; refine wpList_append_own_at _ rfl (.tmp 57) (.tmp 59) _ rfl 0 3 i0 (.int .i64 0) 1 8 Tryd.underlying22 hi hz0 hz1 hz2 rfl (by decide) (.slice A L.length c) L.length (L.map (Value.int .i64)) rfl (HGR.out.row.row.alloc _) ⟨wr.heap.size, 0, none⟩ 1 1 [.int .i64 (m : Int)] rfl rfl (cell_one_new _ _ _) (by intro u hu; simp at hu; subst hu; rfl) HM.out.1 HM.out.2 (Nat.zero_le _) ?_; intro v' w1 hown' hgrow _ hat; obtain ⟨A2, c2, rfl, hit2, hib2, hgr2⟩ := HGR.out.push hown' hgrow hat; have hbne := HGR.out.ne; have t1 := hib2.cell 0; have t2 := hib2.cell 1; have t3 := hib2.free 0; have t4 := hib2.free 1; have s1 := hit2.cell 0; have s2 := hit2.free 0; have HD := hide hgr2; clear hown' hgrow hat hgr2 hit2 hib2 HGR)
                    have hi9 := (HD.out.ib.set 0 (.slice none 0 0)).set 1 (.slice none 0 0)
                    have hk9 := (HD.out.row.kept.set (p := ⟨b, 0, none⟩) (fun h => absurd h (by show ¬ b < w.heap.size; omega)) (.slice none 0 0)).set (p := ⟨b, 1, none⟩) (fun h => absurd h (by show ¬ b < w.heap.size; omega)) (.slice none 0 0)
                    exact bodyPost_ret (results_topo rfl _ rfl rfl (hi9.cell 0) (hi9.cell 1)) rfl (Told.none HO.out HN2.out hk9)
                  · have hc32 : decide ((32 : Int) < (L.length : Int) + 1) = false := by simp; omega
                    have hi31 : i < 32 := by
                      have h9 := congrArg List.length HL.out
                      rw [fl_len (by rw [HLV.out]; omega)] at h9
                      omega
                    go_wp2_with (at_builtin; refine wpList_append_own_at _ rfl (.tmp 57) (.tmp 59) _ rfl 0 3 i0 (.int .i64 0) 1 8 Tryd.underlying22 hi hz0 hz1 hz2 rfl (by decide) (.slice A L.length c) L.length (L.map (Value.int .i64)) rfl (HGR.out.row.row.alloc _) ⟨wr.heap.size, 0, none⟩ 1 1 [.int .i64 (m : Int)] rfl rfl (cell_one_new _ _ _) (by intro u hu; simp at hu; subst hu; rfl) HM.out.1 HM.out.2 (Nat.zero_le _) ?_; intro v' w1 hown' hgrow _ hat; obtain ⟨A2, c2, rfl, hit2, hib2, hgr2⟩ := HGR.out.push hown' hgrow hat; have hbne := HGR.out.ne; have t1 := hib2.cell 0; have t2 := hib2.cell 1; have t3 := hib2.free 0; have t4 := hib2.free 1; have s1 := hit2.cell 0; have s2 := hit2.free 0; have HD := hide hgr2; clear hown' hgrow hat hgr2 hit2 hib2 HGR)
                    go_roundw
                    case rel => exact ⟨i + 1, L ++ [(m : Int)], A2, c2, by omega, by omega, by go_num, by simp; omega, HLX.out.symm, HD.out⟩
                    case measure => simp [intOf]; omega
                · obtain rfl : i = q := by omega
                  go_wp2_with fail
                  go_roundw
                  case rel => exact ⟨j + 1, L, A, c, by omega, by subst hm; go_num, hlen, by rw [HNX.out, ← HL.out], HGR.out⟩
                  case measure => subst hm; simp [intOf]; omega
            · obtain rfl : j = B.length - f := by omega
              have hL2 : L = B ++ each (lv f B.length) q := by
                rw [HL.out]
                have := fl_all (B := B) (L := lv f B.length) (p := q)
                rw [HLV.out] at this
                exact this
              have HL2 := hide hL2
              clear hL2
              go_wp2_with fail
              go_roundw
              case rel => exact ⟨k + 1, B.length, L, A, c, by omega, by go_num, rfl, hlen, by rw [HN.out, HL2.out], HGR.out⟩
              case measure => simp [intOf]; omega
        · obtain rfl : k = parts.length := by omega
          have hgr := grown HPOS.out (Nat.le_refl parts.length)
          rw [HG.out] at hgr
          have hE : evP parts = B := by unfold evP; rw [HG.out]
          have hfl : f < B.length := hgr.lt
          have hlf : lf B = lv f B.length := hgr.leaves
          have hlv : (lv f B.length).length = B.length - f := lv_len
          have HLV := hide hlv
          have hT : evT parts (p : Int) = each (lv f B.length) p := by unfold evT; rw [hE, hlf, Int.toNat_natCast]
          have HMANY : Hid (∀ n : Nat, n ≤ (each (lv f B.length) p).length → 32 < n → evE parts (p : Int) = 8) := hide fun n h1 h2 => ev_many HBAD.out (.inr (by
            rw [hE, hlf]
            rw [each_len] at h1
            have : (((lv f B.length).length * p : Nat) : Int) = (p : Int) * ((lv f B.length).length : Int) := by rw [Int.natCast_mul, Int.mul_comm]
            omega))
          have HEV : Hid (evE parts (p : Int) = chk B (each (lv f B.length) p)) := hide (by rw [ev_chk HBAD.out, hE, hT])
          have HOK : Hid (evE parts (p : Int) = 0 → evOut parts (p : Int) = (B, each (lv f B.length) p, 0)) := hide fun h => by rw [out_ok h, hE, hT]
          have HTR := hide HGR.out.threads
          generalize A = A1 at *
          generalize c = c1 at *
          clear hgr hE hlf hlv hT HG
          go_wp2_with fail
          go_loopw [13] (fun v13 W => ∃ (j : Nat) (L : List Int) (A : Option Addr) (c : Nat), j ≤ B.length - f ∧ v13 = .int .i64 ((f + j : Nat) : Int) ∧ L.length ≤ 32 ∧ L = fl [] (lv f B.length) p j 0 ∧ EvT w W b bt A1 c1 B A c L) (fun i _ => B.length - (intOf i).toNat)
          case atStart => exact ⟨0, [], none, 0, Nat.zero_le _, rfl, by decide, fl_start.symm, HTR.out⟩
          case round =>
            clear u0 HTR HGR
            obtain ⟨j, L, A, c, hj, rfl, hlen3, hL, hg⟩ := hrel
            have HL := hide hL
            have HGR := hide hg
            have u0 := hg.it.cell 0
            clear hL hg
            by_cases hjl : j < B.length - f
            · have hj2 : ((f + j : Nat) : Int) < (B.length : Int) := by omega
              have HX : Hid (∀ i, fl [] (lv f B.length) p j (i + 1) = fl [] (lv f B.length) p j i ++ [((f + j : Nat) : Int)]) := hide fun i => by rw [fl_more, lv_get hjl]
              have HNX : Hid (fl [] (lv f B.length) p (j + 1) 0 = fl [] (lv f B.length) p j p) := hide (fl_next (by rw [HLV.out]; exact hjl))
              have HLE : Hid (∀ i, i ≤ p → (fl [] (lv f B.length) p j i).length ≤ (each (lv f B.length) p).length) := hide fun i hi => fl_le (B := []) (by rw [HLV.out]; exact hjl) hi
              have hfj : f + j ≤ 32 := by omega
              generalize hm : f + j = m at *
              go_wp2_with fail
              go_loopw [14] (fun v14 W => ∃ (i : Nat) (L : List Int) (A : Option Addr) (c : Nat), i ≤ p ∧ i ≤ 32 ∧ v14 = .int .i64 i ∧ L.length ≤ 32 ∧ L = fl [] (lv f B.length) p j i ∧ EvT w W b bt A1 c1 B A c L) (fun i _ => p - (intOf i).toNat)
              case atStart => exact ⟨0, L, A, c, Nat.zero_le _, by omega, rfl, hlen3, HL.out, HGR.out⟩
              case round =>
                clear HGR HL hlen3 u0
                obtain ⟨i, L, A, c, hip, hi32, rfl, hlen3, hL, hg⟩ := hrel
                have HL := hide hL
                have HGR := hide hg
                have u0 := hg.it.cell 1
                have hm1 : L.length + 1 ≤ maxLen := by simp only [maxLen]; omega
                have hm2 : (L.length + 1) * 8 ≤ 140737488355328 := by omega
                have HM := hide (And.intro hm1 hm2)
                clear hm1 hm2
                clear hL hg
                by_cases hil : i < p
                · have hil2 : (i : Int) < (p : Int) := by omega
                  have HLX : Hid (fl [] (lv f B.length) p j (i + 1) = L ++ [(m : Int)]) := hide (by rw [HX.out i, ← HL.out])
                  by_cases h32 : 32 < L.length + 1
                  · have HN2 := hide (out_err (HMANY.out (L.length + 1) (by have := HLE.out (i + 1) hil; rw [HLX.out, List.length_append, List.length_singleton] at this; exact this) h32) (by decide))
                    have hc32 : (32 : Int) < (L.length : Int) + 1 := by omega
                    go_wp2_with (at_builtin; refine wpList_append_own_at _ rfl (.tmp 82) (.tmp 84) _ rfl 0 3 i0 (.int .i64 0) 1 8 Tryd.underlying22 hi hz0 hz1 hz2 rfl (by decide) (.slice A L.length c) L.length (L.map (Value.int .i64)) rfl (HGR.out.row.row.alloc _) ⟨wr.heap.size, 0, none⟩ 1 1 [.int .i64 (m : Int)] rfl rfl (cell_one_new _ _ _) (by intro u hu; simp at hu; subst hu; rfl) HM.out.1 HM.out.2 (Nat.zero_le _) ?_; intro v' w1 hown' hgrow _ hat; obtain ⟨A2, c2, rfl, hit2, hib2, hgr2⟩ := HGR.out.push hown' hgrow hat; have hbne := HGR.out.ne; have t1 := hib2.cell 0; have t2 := hib2.cell 1; have t3 := hib2.free 0; have t4 := hib2.free 1; have s1 := hit2.cell 1; have s2 := hit2.free 1; have HD := hide hgr2; clear hown' hgrow hat hgr2 hit2 hib2 HGR)
                    have hi9 := (HD.out.ib.set 0 (.slice none 0 0)).set 1 (.slice none 0 0)
                    have hk9 := (HD.out.row.kept.set (p := ⟨b, 0, none⟩) (fun h => absurd h (by show ¬ b < w.heap.size; omega)) (.slice none 0 0)).set (p := ⟨b, 1, none⟩) (fun h => absurd h (by show ¬ b < w.heap.size; omega)) (.slice none 0 0)
                    exact bodyPost_ret (results_topo rfl _ rfl rfl (hi9.cell 0) (hi9.cell 1)) rfl (Told.none HO.out HN2.out hk9)
                  · have hc32 : decide ((32 : Int) < (L.length : Int) + 1) = false := by simp; omega
                    have hi31 : i < 32 := by
                      have h9 := congrArg List.length HL.out
                      rw [fl_len (by rw [HLV.out]; omega)] at h9
                      omega
                    go_wp2_with (at_builtin; refine wpList_append_own_at _ rfl (.tmp 82) (.tmp 84) _ rfl 0 3 i0 (.int .i64 0) 1 8 Tryd.underlying22 hi hz0 hz1 hz2 rfl (by decide) (.slice A L.length c) L.length (L.map (Value.int .i64)) rfl (HGR.out.row.row.alloc _) ⟨wr.heap.size, 0, none⟩ 1 1 [.int .i64 (m : Int)] rfl rfl (cell_one_new _ _ _) (by intro u hu; simp at hu; subst hu; rfl) HM.out.1 HM.out.2 (Nat.zero_le _) ?_; intro v' w1 hown' hgrow _ hat; obtain ⟨A2, c2, rfl, hit2, hib2, hgr2⟩ := HGR.out.push hown' hgrow hat; have hbne := HGR.out.ne; have t1 := hib2.cell 0; have t2 := hib2.cell 1; have t3 := hib2.free 0; have t4 := hib2.free 1; have s1 := hit2.cell 1; have s2 := hit2.free 1; have HD := hide hgr2; clear hown' hgrow hat hgr2 hit2 hib2 HGR)
                    go_roundw
                    case rel => exact ⟨i + 1, L ++ [(m : Int)], A2, c2, by omega, by omega, by go_num, by simp; omega, HLX.out.symm, HD.out⟩
                    case measure => simp [intOf]; omega
                · obtain rfl : i = p := by omega
                  go_wp2_with fail
                  go_roundw
                  case rel => exact ⟨j + 1, L, A, c, by omega, by subst hm; go_num, hlen3, by rw [HNX.out, ← HL.out], HGR.out⟩
                  case measure => subst hm; simp [intOf]; omega
            · obtain rfl : j = B.length - f := by omega
              have hL2 : L = each (lv f B.length) p := by
                rw [HL.out]
                have := fl_all (B := []) (L := lv f B.length) (p := p)
                rw [HLV.out] at this
                exact this
              rw [← hL2] at HEV HOK
              have u7 := HGR.out.it.cell 1
              have cc := rcheck_c (w := wr) (v := .agg #[.slice A1 B.length c1, .slice A L.length c]) ⟨_, _, rfl, HGR.out.par.row.nums, HGR.out.row.row.nums⟩
              have H8 := hide (And.intro HGR.out.ib (And.intro HGR.out.it (And.intro HGR.out.row.kept (And.intro HGR.out.par.row.nums HGR.out.row.row.nums))))
              clear hL2 HL HLV HMANY
              go_wp2_with fail
              refine cc.mono ?_
              rintro e w5 ⟨rfl, hk5⟩
              have H5 := hide (And.intro (H8.out.1.kept hk5 (fun z => z)) (And.intro (H8.out.2.1.kept hk5 (fun z => z)) (And.intro (H8.out.2.2.1.trans hk5 (fun _ _ z => z)) (And.intro (H8.out.2.2.2.1.kept hk5) (H8.out.2.2.2.2.kept hk5)))))
              clear hk5 cc
              have u0 := H5.out.1.cell 0
              have u1 := H5.out.1.cell 1
              have u2 := H5.out.1.free 0
              have u3 := H5.out.1.free 1
              by_cases hc : chk B L = 0
              · have HN := hide (HOK.out (by rw [HEV.out, hc]))
                rw [hc]
                obtain ⟨u6, u7⟩ := load_pair H5.out.2.1
                clear hc
                go_wp2_with fail
                have hi6 := (H5.out.1.set 0 (.slice A1 B.length c1)).set 1 (.slice A L.length c)
                have hk6 := (H5.out.2.2.1.set (p := ⟨b, 0, none⟩) (fun h => absurd h (by show ¬ b < w.heap.size; omega)) (.slice A1 B.length c1)).set (p := ⟨b, 1, none⟩) (fun h => absurd h (by show ¬ b < w.heap.size; omega)) (.slice A L.length c)
                refine bodyPost_ret (results_topo rfl _ rfl rfl (hi6.cell 0) (hi6.cell 1)) rfl ?_
                exact told_some HO.out HN.out hk6 (H5.out.2.2.2.1.boxed H5.out.1 _ _) (H5.out.2.2.2.2.boxed H5.out.1 _ _)
              · have HN := hide (out_err HEV.out hc)
                have hne : (chk B L != 0) = true := by simpa using hc
                generalize chk B L = z at *
                clear hc
                go_wp2_with fail
                have hi6 := (H5.out.1.set 0 (.slice none 0 0)).set 1 (.slice none 0 0)
                have hk6 := (H5.out.2.2.1.set (p := ⟨b, 0, none⟩) (fun h => absurd h (by show ¬ b < w.heap.size; omega)) (.slice none 0 0)).set (p := ⟨b, 1, none⟩) (fun h => absurd h (by show ¬ b < w.heap.size; omega)) (.slice none 0 0)
                exact bodyPost_ret (results_topo rfl _ rfl rfl (hi6.cell 0) (hi6.cell 1)) rfl (Told.none HO.out HN.out hk6)
end
end Go.Proofs.YtcpcdfihgabelaaDoor
