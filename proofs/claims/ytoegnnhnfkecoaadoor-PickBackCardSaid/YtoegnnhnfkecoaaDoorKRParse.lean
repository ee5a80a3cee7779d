/- The document's Parse. -/
import Derived.Test.YtoegnnhnfkecoaaDoorKParse
import Derived.Test.YtoegnnhnfkecoaaDoorLRMore
import Derived.Test.YtoegnnhnfkecoaaDoorDRParse
import Derived.Laws.AppendOwnNone
namespace Go.Proofs.YtoegnnhnfkecoaaDoor
open Go.RowKit
set_option maxRecDepth 100000

theorem upto_all {L : List (List UInt8)} {i : Nat} (h : i < L.length) : upto L (i + 1) 0 = upto L i 0 ++ wds (L.getD i []) := by
  rw [← upto_line h]
  unfold upto
  rw [List.take_length, List.take_zero, List.append_nil]
theorem upto_le {L : List (List UInt8)} {i : Nat} (h : i < L.length) : (upto L i 0).length + (wds (L.getD i [])).length ≤ (L.flatMap wds).length := by
  have e1 : (L.take (i + 1)).flatMap wds = upto L (i + 1) 0 := by unfold upto; simp
  have e2 : L.flatMap wds = (L.take (i + 1)).flatMap wds ++ (L.drop (i + 1)).flatMap wds := by rw [← List.flatMap_append, List.take_append_drop]
  rw [e2, e1, upto_all h, List.length_append, List.length_append]
  omega
theorem last_at {x : List UInt8} {k : Nat} (h : x.length = k + 1) : x.getLastD 0 = x.getD k 0 ∧ x.dropLast = x.take k := by
  refine ⟨?_, ?_⟩
  · rw [List.getLastD_eq_getLast?, List.getLast?_eq_getElem?, h, Nat.add_sub_cancel]
    rfl
  · rw [List.dropLast_eq_take, h, Nat.add_sub_cancel]
theorem good_take {ws : List (List UInt8)} {j : Nat} (h : j < ws.length) (hg : good (ws.take j) = true) (hx : rb (ws.getD j []) = true) : good (ws.take (j + 1)) = true := by
  rw [words_next ws h]
  exact good_snoc hg hx

section
variable (w : World)
set_option maxHeartbeats 1600000
theorem prparse_c (s : ByteArray) (hs : s.size ≤ 3000) : Calls Tryd.prog 10 #[.string s] w (PTold (wof s.data.toList) w) := by
  obtain ⟨i0, hi, hz0, hz1, hz2⟩ := info_parts info_pick
  obtain ⟨i1, hj, hy0, hy1, hy2⟩ := info_parts info_str
  have hsl := dlen s
  have hwl := wof_len s.data.toList
  have hll := lns_len s.data.toList
  have hlp := fun a h => @lns_part s.data.toList a h
  have hwm := fun a h => Nat.le_trans (@wl_mem (wof s.data.toList) a h) (wl_wof s.data.toList)
  have hwn : ∀ a ∈ wof s.data.toList, a ≠ [] := fun a h => by
    obtain ⟨l, _, h2⟩ := List.mem_flatMap.1 h
    exact wds_ne a h2
  go_enter Tryd.func10, Tryd.ntmps10
  go_wp2_with fail
  refine (rlines_c w s (by omega)).mono ?_
  rintro e w1 ⟨v, rfl, hv, hk⟩
  obtain ⟨L, hL⟩ : ∃ L, lns s.data.toList = L := ⟨_, rfl⟩
  have hwo : wof s.data.toList = L.flatMap wds := by unfold wof; rw [hL]
  rw [hL] at hv hll hlp
  rw [hwo] at hwl hwm hwn ⊢
  have HK1 := hide hk
  have HWO := hide hwo
  have HLP := hide hlp
  have HV := hide hv
  have HWM := hide (And.intro hwm hwn)
  obtain ⟨AL, cL, rfl, _⟩ := hv
  have HL := hide (And.intro hwl hsl)
  have hLn : L.length ≤ 3000 := by omega
  clear hk hL hwo hlp hwl hll hsl hwm hwn
  go_wp2_with fail
  go_loopw [5, 7] (fun v5 v7 wr => ∃ (i n : Nat) (A : Option Addr) (c : Nat), i ≤ L.length ∧ v7 = .int .i64 i ∧ v5 = .slice A n c ∧ (upto L i 0).length = n ∧ Gw 9 1 w1 wr A c n ((upto L i 0).map sv)) (fun _ v _ => L.length - (intOf v).toNat)
  case atStart => exact ⟨0, 0, none, 0, Nat.zero_le _, rfl, rfl, by rw [upto_zero]; rfl, by rw [upto_zero]; exact Gw.start _ _ _⟩
  case round =>
    obtain ⟨i, n, A, c, hi1, rfl, rfl, hn, hg⟩ := hrel
    have HG := hide (And.intro hn hg)
    clear hn hg
    by_cases hlt : i < L.length
    · obtain ⟨AL', cL', eL, _, hp⟩ := HV.out.kept HG.out.2.kept
      injection eL with eL _ eC
      subst eL eC
      obtain ⟨g, o, rfl, _, hc⟩ := hp (by omega)
      have c1 := hc i hlt
      have hlen := HLP.out _ (getD_mem2 L hlt)
      have h1 := upto_all hlt
      have h2 := upto_le hlt
      have hcw := rwords_row wr ⟨(L.getD i []).toArray⟩ (by rw [mk_size]; have := HL.out.2; omega)
      obtain ⟨W, hW⟩ : ∃ W, wds (L.getD i []) = W := ⟨_, rfl⟩
      rw [hW] at h1 h2
      rw [show wds (⟨(L.getD i []).toArray⟩ : ByteArray).data.toList = W from hW] at hcw
      have H1 := hide h1
      have hnm : n + W.length ≤ 3001 := by
        rw [HG.out.1] at h2
        have := HL.out.1
        have := HL.out.2
        omega
      have hm1 : n + W.length ≤ maxLen := by simp only [maxLen]; omega
      have hm2 : (n + W.length) * 16 ≤ 140737488355328 := by omega
      have HM := hide (And.intro hm1 hm2)
      clear hc hp h1 h2 hlen hW hm1 hm2
      generalize L.getD i [] = ln at *
      unfold sv at c1
      go_wp2_with fail
      refine hcw.mono ?_
      rintro e w2 ⟨v2, rfl, hr, hk⟩
      have HG2 := hide (HG.out.2.keep hk)
      have hr0 := hr
      rcases hr.2 with ⟨rfl, h0⟩ | ⟨gw, cap, cur, rfl, _⟩
      · have hW0 : W = [] := List.eq_nil_of_length_eq_zero h0
        clear hr hr0 hk h0
        go_wp2_with (at_builtin; refine wpList_append_own_none rfl (.tmp 23) (.tmp 28) _ rfl 0 9 i1 1 Tryd.underlying41 hj (.slice A n c) n ((upto L i 0).map sv) rfl HG2.out.row rfl ?_)
        go_roundw
        case rel => exact ⟨i + 1, n, A, c, by omega, by go_num, rfl, by rw [H1.out, hW0, List.append_nil]; exact HG.out.1, by rw [H1.out, hW0, List.append_nil]; exact HG2.out⟩
        case measure => simp [intOf]; omega
      · have HC := hide (World.ownsRow.cells hr0 (g := gw) rfl)
        have HP := hide fun (w' : World) (v' : Value) => HG2.out.push (v' := v') (w' := w') (news := W.map sv) (m := W.length) (Kept.refl Nil w2)
        have HU : Hid (∀ u ∈ W.map sv, u.oneCell' = true) := hide (fun u hu => by
          obtain ⟨a, _, rfl⟩ := List.mem_map.1 hu
          rfl)
        clear hr hr0 hk
        go_wp2_with (at_builtin; refine wpList_append_own_at _ rfl (.tmp 23) (.tmp 28) _ rfl 0 9 i1 (.string ⟨#[]⟩) 1 16 Tryd.underlying41 hj hy0 hy1 hy2 rfl (by decide) (.slice A n c) n ((upto L i 0).map sv) rfl HG2.out.row ⟨gw, 0, none⟩ W.length cap (W.map sv) rfl (by rw [List.length_map, Nat.mul_one]) HC.out HU.out HM.out.1 HM.out.2 (Nat.zero_le _) ?_; intro v' w5 hown' hgrow _ hat; obtain ⟨A2, c2, rfl, hg2⟩ := HP.out _ _ hown' hgrow hat; have HD := hide hg2; clear hown' hgrow hat hg2)
        go_roundw
        case rel => exact ⟨i + 1, n + W.length, A2, c2, by omega, by go_num, rfl, by rw [H1.out, List.length_append, HG.out.1], by rw [H1.out, List.map_append]; exact HD.out⟩
        case measure => simp [intOf]; omega
    · obtain rfl : i = L.length := by omega
      obtain ⟨hn, hg⟩ := HG.out
      rw [upto_end] at hn hg
      obtain ⟨ws, hws⟩ : ∃ ws, L.flatMap wds = ws := ⟨_, rfl⟩
      rw [hws] at hn hg HWM HWO HL
      subst hn
      have HS : Hid (SRow wr (.slice A ws.length c) ws) := hide hg.row
      have HK2 := hide (HK1.out.trans hg.kept (fun _ _ z => z))
      have hwl : ws.length ≤ 3001 := by have := HL.out.1; have := HL.out.2; omega
      clear hg hws
      go_wp2_with fail
      go_loopw [8, 9] (fun v8 v9 wx => ∃ (j : Nat) (A' : Option Addr) (c' : Nat), j ≤ ws.length ∧ v9 = .int .i64 j ∧ v8 = .slice A' j c' ∧ good (ws.take j) = true ∧ Gw 37 2 wr wx A' c' j (pcells ((ws.take j).map rp))) (fun _ v _ => ws.length - (intOf v).toNat)
      case atStart => exact ⟨0, none, 0, Nat.zero_le _, rfl, rfl, rfl, Gw.start _ _ _⟩
      case round =>
        obtain ⟨j, A', c', hj1, rfl, rfl, hgd, hg⟩ := hrel
        have HX := hide (And.intro hgd hg)
        clear hgd hg
        by_cases hjt : j < ws.length
        · obtain ⟨gw, rfl, d1, _⟩ := (HS.out.keep HX.out.2.kept).cell hjt
          have hx1 := HWM.out.1 _ (getD_mem2 ws hjt)
          have hx2 := HWM.out.2 _ (getD_mem2 ws hjt)
          have HC := hide (words_cut ws hjt)
          have HN := hide (words_next ws hjt)
          have HGT := hide (good_take hjt HX.out.1)
          obtain ⟨x, hx⟩ : ∃ x, ws.getD j [] = x := ⟨_, rfl⟩
          rw [hx] at d1 hx1 hx2 HC HN HGT
          unfold sv at d1
          obtain ⟨b, hb⟩ : ∃ b : ByteArray, (⟨x.toArray⟩ : ByteArray) = b := ⟨_, rfl⟩
          rw [hb] at d1
          have hbx : b.data.toList = x := by rw [← hb]
          obtain ⟨k, hk⟩ : ∃ k, x.length = k + 1 := ⟨x.length - 1, by have := List.length_pos_iff.2 hx2; omega⟩
          have hbs : b.size = k + 1 := by rw [← hk, ← hbx]; exact (dlen b).symm
          have hlt' : k < b.size := by omega
          obtain ⟨z, hz⟩ : ∃ z, b[k]'hlt' = z := ⟨_, rfl⟩
          obtain ⟨l1, l2⟩ := last_at hk
          have hzl : x.getLastD 0 = z := by
            rw [l1, List.getD_eq_getElem?_getD, List.getElem?_eq_getElem (by omega), ← hz]
            subst hbx
            rfl
          have hpd : (b.extract 0 k).data.toList = x.dropLast := by rw [l2, ext_data, hbx]; simp
          have hps : (b.extract 0 k).size ≤ maxLen := by
            have := dlen (b.extract 0 k)
            rw [hpd, l2, List.length_take] at this
            have := HL.out.2
            simp only [maxLen]
            omega
          have cp := fun V => rparse_c (b.extract 0 k) V hps
          unfold Parsed at cp
          simp only [hpd] at cp
          have cw := fun V => rwant_c V z
          have hk3 : k ≤ 3000 := by have := HL.out.2; omega
          have hne : ((j : Int) == 4000) = false := by
            have : ¬ (j : Int) = 4000 := by omega
            simpa using this
          have H5 := hide hzl
          have H6 := hide hk
          have H7 := hide hb
          clear hx hx1 hx2 hbx hk l1 l2 hzl hpd hps hb
          rcases pe_two x.dropLast with hpe | hpe
          · simp only [hpe] at cp
            cases hwb : wb z with
            | false =>
              have HB := hide (rb_wb (x := x) (by rw [H5.out]; exact hwb))
              simp only [hwb] at cw
              generalize pn x.dropLast = a at *
              generalize wn z = y at *
              clear hpe hwb
              go_wp2_with fail
              refine (cp _).mono ?_
              rintro e w3 ⟨rfl, rfl⟩
              go_wp2_with fail
              refine (cw _).mono ?_
              rintro e w3 ⟨rfl, rfl⟩
              go_wp2_with fail
              go_ret3
              exact PTold.bad (HWO.out.trans HC.out) HX.out.1 HB.out (by rw [List.length_take]; omega) (HK2.out.trans HX.out.2.kept (fun _ _ z => z))
            | true =>
              have HB := hide (rb_yes (x := x) hpe (by rw [H5.out]; exact hwb))
              have HRP : Hid (rp x = (pn x.dropLast, wn z)) := hide (by unfold rp; rw [H5.out])
              simp only [hwb] at cw
              generalize pn x.dropLast = a at *
              generalize wn z = y at *
              have hm1 : j + 1 ≤ maxLen := by simp only [maxLen]; omega
              have hm2 : (j + 1) * 16 ≤ 140737488355328 := by omega
              have HM := hide (And.intro hm1 hm2)
              have HP := hide fun (w' : World) (v' : Value) => HX.out.2.push (v' := v') (w' := w') (news := [.int .i64 a, .int .i64 y]) (m := 1) ((Kept.refl Nil wr).alloc (.cells #[.int .i64 a, .int .i64 y] 37))
              clear hpe hwb hm1 hm2
              go_wp2_with fail
              refine (cp _).mono ?_
              rintro e w3 ⟨rfl, rfl⟩
              go_wp2_with fail
              refine (cw _).mono ?_
              rintro e w3 ⟨rfl, rfl⟩
              go_wp2_with (at_builtin; refine wpList_append_own_at _ rfl (.tmp 68) (.tmp 72) _ rfl 0 37 i0 (.agg #[.int .i64 0, .int .i64 0]) 2 16 Tryd.underlying22 hi hz0 hz1 hz2 rfl (by decide) (.slice A' j c') j (pcells ((ws.take j).map rp)) rfl (HX.out.2.row.alloc _) ⟨wr.heap.size, 0, none⟩ 1 1 [.int .i64 a, .int .i64 y] rfl rfl (cell_two_new _ _ _ _) (by intro u hu; simp at hu; rcases hu with rfl | rfl <;> rfl) HM.out.1 HM.out.2 (Nat.zero_le _) ?_; intro v' w5 hown' hgrow _ hat; obtain ⟨A2, c2, rfl, hg2⟩ := HP.out _ _ hown' hgrow hat; have HD := hide hg2; clear hown' hgrow hat hg2)
              go_roundw
              case rel =>
                refine ⟨j + 1, A2, c2, by omega, by go_num, rfl, HGT.out HB.out, ?_⟩
                have := HD.out
                rw [HN.out, List.map_append, List.map_singleton, pcells_snoc, HRP.out]
                exact this
              case measure => simp [intOf]; omega
          · have HB := hide (rb_pe (x := x) (by rw [hpe]; decide))
            simp only [hpe] at cp
            generalize pn x.dropLast = a at *
            generalize wn z = y at *
            generalize wb z = t at *
            clear hpe
            go_wp2_with fail
            refine (cp _).mono ?_
            rintro e w3 ⟨rfl, rfl⟩
            go_wp2_with fail
            refine (cw _).mono ?_
            rintro e w3 ⟨rfl, rfl⟩
            go_wp2_with fail
            go_ret3
            exact PTold.bad (HWO.out.trans HC.out) HX.out.1 HB.out (by rw [List.length_take]; omega) (HK2.out.trans HX.out.2.kept (fun _ _ z => z))
        · obtain rfl : j = ws.length := by omega
          go_wp2_with fail
          go_ret3
          obtain ⟨hgd, hg⟩ := HX.out
          rw [List.take_length] at hgd hg
          rw [HWO.out]
          exact PTold.fine hgd rfl hg (HK2.out.trans hg.kept (fun _ _ z => z))
end
end Go.Proofs.YtoegnnhnfkecoaaDoor
