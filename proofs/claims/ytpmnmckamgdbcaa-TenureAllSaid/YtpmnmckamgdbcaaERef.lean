/- The document's Of. -/
import Derived.Test.YtpmnmckamgdbcaaEOf
namespace Go.Proofs.Ytpmnmckamgdbcaa
open Go.RowKit
set_option maxRecDepth 100000

section
variable {w w' : World} {v0 v : Value} {N : List Int} {l : List Ev}
theorem lst_bump (R : List Rn) (h : 0 < R.length) : lst (bump R) = ⟨(lst R).n, (lst R).f, (lst R).m + 1⟩ := by
  obtain ⟨Q, hQ⟩ := snoc_of h
  generalize lst R = r at *
  subst hQ
  rw [bump_snoc, lst_snoc]
theorem rgo_ens {N : List Int} {R : List Rn} {n i : Nat} {T : List Rn × Bool} {e : Ev} (h : i < l.length) (he : l.getD i e0 = e) (hT : T = rgo N R n (ens (l.drop i))) :
    (¬ e.k = 2 → T = rgo N R n (ens (l.drop (i + 1)))) ∧ (e.k = 2 → gon N R e → T = rgo N (bump R) (n + 1) (ens (l.drop (i + 1)))) ∧ (e.k = 2 → ¬ gon N R e → e.c = 1 → T = rgo N (R ++ [⟨nd N e.t, n, 1⟩]) (n + 1) (ens (l.drop (i + 1)))) ∧ (e.k = 2 → ¬ gon N R e → ¬ e.c = 1 → T = (R, false)) := by
  have hd := ens_drop h
  rw [he] at hd
  refine ⟨fun h2 => ?_, fun h2 h3 => ?_, fun h2 h3 h4 => ?_, fun h2 h3 h4 => ?_⟩
  · rw [hT, hd, if_neg h2]
    rfl
  · rw [hT, hd, if_pos h2]
    exact rgo_on h3
  · rw [hT, hd, if_pos h2]
    exact rgo_new h3 h4
  · rw [hT, hd, if_pos h2]
    exact rgo_end h3 h4
set_option maxHeartbeats 2000000
theorem rof_c (hn : Nums w v0 N) (hN : N.length ≤ 65536) (hv : Evs w v l) (hl : l.length ≤ 65536) : Calls Try.prog 10 #[v0, v] w (Tnd w (tns N l)) := by
  obtain ⟨i0, hi0, hz0, hz1, hz2⟩ := info_parts info_run
  have HT0 := hide (show tns N l = rgo N [] 0 (ens (l.drop 0)) by rw [List.drop_zero]; rfl)
  generalize tns N l = T at *
  have CN := hide fun W (z : Kept Nil w W) t => rnode_c t (hn.kept z) hN
  obtain ⟨A0, c0, rfl, _⟩ := hn
  obtain ⟨A, c, rfl, _, hp⟩ := hv
  have HP := hide hp
  clear hp
  go_enter Try.func10, Try.ntmps10
  go_wp2_with fail
  go_loopw [6, 7, 8] (fun v6 v7 v8 wr => ∃ (i n : Nat) (R : List Rn) (A1 : Option Addr) (c1 : Nat), i ≤ l.length ∧ v8 = .int .i64 i ∧ v7 = .int .i64 n ∧ v6 = .slice A1 R.length c1 ∧ n ≤ i ∧ R.length ≤ i ∧ (lst R).m ≤ i ∧ T = rgo N R n (ens (l.drop i)) ∧ Gw 31 3 w wr A1 c1 R.length (rcells R)) (fun _ _ i _ => l.length - (intOf i).toNat)
  case atStart => exact ⟨0, 0, [], none, 0, Nat.zero_le _, rfl, rfl, rfl, Nat.le_refl _, Nat.le_refl _, Nat.le_refl _, HT0.out, Gw.start _ _ _⟩
  case round =>
    obtain ⟨i, n, R, A1, c1, hi, rfl, rfl, rfl, hni, hRi, hmi, hT, hg⟩ := hrel
    have HG := hide hg
    have HT := hide hT
    clear hg hT HT0
    by_cases hlt : i < l.length
    · obtain ⟨g1, o1, rfl, hg1, hc⟩ := HP.out (by omega)
      obtain ⟨f0, f1, f2, f3⟩ := (hc i hlt).kept hg1 HG.out.kept
      have HR := hide (rgo_ens hlt rfl HT.out)
      clear hc HP HT
      generalize l.getD i e0 = e at *
      obtain ⟨ek, et, er, ec⟩ := e
      have f0 : wr.cell? ⟨g1, o1 + i * 4, none⟩ = some (.int .i64 ek) := f0
      have f1 : wr.cell? ⟨g1, o1 + i * 4 + 1, none⟩ = some (.int .i64 et) := f1
      have f2 : wr.cell? ⟨g1, o1 + i * 4 + 2, none⟩ = some (.bool er) := f2
      have f3 : wr.cell? ⟨g1, o1 + i * 4 + 3, none⟩ = some (.int .i64 ec) := f3
      by_cases h2 : ek = 2
      · subst h2
        have HON := hide fun (z : gon N R ⟨2, et, er, ec⟩) => HR.out.2.1 rfl z
        have HNEW := hide fun (z : ¬ gon N R ⟨2, et, er, ec⟩) (y : ec = 1) => show T = rgo N (R ++ [⟨nd N et, n, 1⟩]) (n + 1) (ens (l.drop (i + 1))) from HR.out.2.2.1 rfl z y
        have HEND := hide fun (z : ¬ gon N R ⟨2, et, er, ec⟩) (y : ¬ ec = 1) => HR.out.2.2.2 rfl z y
        have HGON := hide (show gon N R ⟨2, et, er, ec⟩ ↔ 0 < R.length ∧ (lst R).n = nd N et ∧ ec = (lst R).m + 1 from Iff.rfl)
        have C1 := hide (CN.out wr HG.out.kept et)
        clear HR CN
        obtain ⟨a, ha⟩ : ∃ a, nd N et = a := ⟨_, rfl⟩
        rw [ha] at HNEW HGON C1
        clear ha
        generalize hp1 : gon N R ⟨2, et, er, ec⟩ = G at *
        clear hp1
        go_wp2_with fail
        refine C1.out.mono ?_
        rintro e w' ⟨rfl, rfl⟩
        clear C1
        by_cases h0 : 0 < R.length
        · obtain ⟨g, rfl, hgl, _, hc1, h3, hfz⟩ := HG.out.at3 (show R.length - 1 < R.length by omega)
          obtain ⟨q0, q1, q2⟩ := h3
          have hlst : R.getD (R.length - 1) r0 = lst R := rfl
          rw [hlst] at q0 q1 q2
          have HBL := hide (lst_bump R h0)
          have HST := hide fun (x : Value) (hx : (rcs (R.getD (R.length - 1) r0)).set 2 x = rcs ⟨(lst R).n, (lst R).f, (lst R).m + 1⟩) (k : Nat) => Gw.store3 (k := R.length - 1) (j := 2) (HG.out.keep ((Kept.refl Nil _).drewN k)) (by omega) (by omega) hx
          rw [hlst] at HST
          have HFZ := hide hfz
          clear hfz hlst
          have hq := lst_snoc
          clear hq
          generalize hr : lst R = r at *
          obtain ⟨rn, rf, rm⟩ := r
          have HGON : Hid (G ↔ 0 < R.length ∧ rn = a ∧ ec = rm + 1) := HGON
          have hmi : rm ≤ i := hmi
          obtain ⟨j, hj⟩ : ∃ j, R.length = j + 1 := ⟨R.length - 1, by omega⟩
          have hj1 : R.length - 1 = j := by omega
          rw [hj1] at q0 q1 q2 HST
          have q0 : wr.cell? ⟨g, j * 3, none⟩ = some (.int .i64 rn) := q0
          have q1 : wr.cell? ⟨g, j * 3 + 1, none⟩ = some (.int .i64 rf) := q1
          have q2 : wr.cell? ⟨g, j * 3 + 2, none⟩ = some (.int .i64 rm) := q2
          have z2 : wr.frozen? ⟨g, j * 3 + 2, none⟩ = false := HFZ.out _
          have hsub : IntKind.i64.wrap ((R.length : Int) - 1) = (j : Int) := by rw [hj, show ((j + 1 : Nat) : Int) - 1 = j by omega]; exact IntWalk.i64_in _ (by omega)
          have hsub2 : (R.length : Int) - 1 = (j : Int) := by omega
          have hjl : j < R.length := by omega
          by_cases hn1 : rn = a
          · obtain rfl : a = rn := hn1.symm
            have d1 : (a == a) = true := by simp
            by_cases hc2 : ec = rm + 1
            · subst hc2
              have HN2 := hide (HON.out (HGON.out.2 ⟨h0, rfl, rfl⟩))
              have HLN := hide (bump_len R)
              have HBM : Hid ((lst (bump R)).m ≤ i + 1) := hide (by rw [HBL.out]; show rm + 1 ≤ i + 1; omega)
              have HBD : Hid (R.set j ⟨a, rf, rm + 1⟩ = bump R) := hide (by unfold bump; rw [hr, hj1])
              have HS2 := hide fun k => HST.out (.int .i64 ((rm : Int) + 1)) rfl k
              rw [HBD.out] at HS2
              clear HNEW HEND HON HGON HST HBL hr HBD
              go_wp2_with fail
              go_quiet (fail)
              go_wp2_with fail
              go_roundw
              case rel => exact ⟨i + 1, n + 1, bump R, _, c1, by omega, by go_num, by go_num, by rw [HLN.out, hj], by omega, by rw [HLN.out]; omega, HBM.out, HN2.out, HS2.out _⟩
              case measure => simp [intOf]; omega
            · have d2 : (ec == (rm : Int) + 1) = false := by simpa using hc2
              have HNG : Hid (¬ G) := hide (fun z => hc2 (HGON.out.1 z).2.2)
              clear HGON HST HBL hr hc2
              by_cases h1 : ec = 1
              · subst h1
                have HN2 := hide (HNEW.out HNG.out rfl)
                have HS := hide (rcells_snoc R ⟨a, n, 1⟩)
                have HLN := hide (show (R ++ [(⟨a, n, 1⟩ : Rn)]).length = R.length + 1 by simp)
                have HLS := hide (lst_snoc R ⟨a, n, 1⟩)
                have HM : Hid ((j + 1) + 1 ≤ maxLen ∧ ((j + 1) + 1) * 24 ≤ 140737488355328) := hide ⟨by unfold maxLen; omega, by omega⟩
                have HQ : Hid (Gw 31 3 w wr (some ⟨g, 0, none⟩) c1 (j + 1) (rcells R)) := hide (by have := HG.out; rw [hj] at this; exact this)
                clear HNEW HEND HON HNG f0 f1 f2
                go_wp2_with fail
                go_quiet (fail)
                go_wp2_with (at_builtin; refine wpList_append_own_at _ rfl (.tmp 72) (.tmp 76) _ rfl 0 31 i0 (.agg #[.int .i64 0, .int .i64 0, .int .i64 0]) 3 24 Try.underlying27 hi0 hz0 hz1 hz2 rfl (by decide) (.slice (some ⟨g, 0, none⟩) (j + 1) c1) (j + 1) (rcells R) rfl ((HQ.out.keep ((Kept.refl Nil wr).drewN _)).row.alloc _) ⟨wr.heap.size, 0, none⟩ 1 1 [.int .i64 a, .int .i64 n, .int .i64 1] rfl rfl (World.news_of_block (cs := #[.int .i64 a, .int .i64 n, .int .i64 1]) (t := 31) (fr := (0, 0)) (heap_alloc_new (wr.drewN _) _)) (by intro u hu; simp at hu; rcases hu with rfl | rfl | rfl <;> rfl) HM.out.1 HM.out.2 (Nat.zero_le _) ?_; intro v' w4 hown' hgrow _ hat; obtain ⟨R2, c2, rfl, hg2⟩ := HQ.out.push (((Kept.refl Nil wr).drewN _).alloc _) hown' hgrow hat; have H4 := hide hg2; clear hown' hgrow hat hg2)
                go_roundw
                case rel => exact ⟨i + 1, n + 1, R ++ [⟨a, n, 1⟩], R2, c2, by omega, by go_num, by go_num, by rw [HLN.out, hj], by omega, by rw [HLN.out]; omega, by rw [HLS.out]; show 1 ≤ i + 1; omega, HN2.out, by rw [HLN.out, HS.out, hj]; exact H4.out⟩
                case measure => simp [intOf]; omega
              · have HF := hide (HEND.out HNG.out h1)
                have hb1 : (ec == 1) = false := by simpa using h1
                clear HNEW HEND HON HNG h1
                go_wp2_with fail
                go_quiet (fail)
                go_wp2_with fail
                go_ret2
                rw [HF.out]
                exact ⟨(some ⟨g, 0, none⟩), c1, by rw [hj]; rfl, HG.out.keep ((Kept.refl Nil wr).drewN _)⟩
          · have d1 : (rn == a) = false := by simpa using hn1
            have HNG : Hid (¬ G) := hide (fun z => hn1 (HGON.out.1 z).2.1)
            clear HGON HST HBL hr hn1
            by_cases h1 : ec = 1
            · subst h1
              have HN2 := hide (HNEW.out HNG.out rfl)
              have HS := hide (rcells_snoc R ⟨a, n, 1⟩)
              have HLN := hide (show (R ++ [(⟨a, n, 1⟩ : Rn)]).length = R.length + 1 by simp)
              have HLS := hide (lst_snoc R ⟨a, n, 1⟩)
              have HM : Hid ((j + 1) + 1 ≤ maxLen ∧ ((j + 1) + 1) * 24 ≤ 140737488355328) := hide ⟨by unfold maxLen; omega, by omega⟩
              have HQ : Hid (Gw 31 3 w wr (some ⟨g, 0, none⟩) c1 (j + 1) (rcells R)) := hide (by have := HG.out; rw [hj] at this; exact this)
              clear HNEW HEND HON HNG f0 f1 f2
              go_wp2_with fail
              go_quiet (fail)
              go_wp2_with (at_builtin; refine wpList_append_own_at _ rfl (.tmp 72) (.tmp 76) _ rfl 0 31 i0 (.agg #[.int .i64 0, .int .i64 0, .int .i64 0]) 3 24 Try.underlying27 hi0 hz0 hz1 hz2 rfl (by decide) (.slice (some ⟨g, 0, none⟩) (j + 1) c1) (j + 1) (rcells R) rfl ((HQ.out.keep ((Kept.refl Nil wr).drewN _)).row.alloc _) ⟨wr.heap.size, 0, none⟩ 1 1 [.int .i64 a, .int .i64 n, .int .i64 1] rfl rfl (World.news_of_block (cs := #[.int .i64 a, .int .i64 n, .int .i64 1]) (t := 31) (fr := (0, 0)) (heap_alloc_new (wr.drewN _) _)) (by intro u hu; simp at hu; rcases hu with rfl | rfl | rfl <;> rfl) HM.out.1 HM.out.2 (Nat.zero_le _) ?_; intro v' w4 hown' hgrow _ hat; obtain ⟨R2, c2, rfl, hg2⟩ := HQ.out.push (((Kept.refl Nil wr).drewN _).alloc _) hown' hgrow hat; have H4 := hide hg2; clear hown' hgrow hat hg2)
              go_roundw
              case rel => exact ⟨i + 1, n + 1, R ++ [⟨a, n, 1⟩], R2, c2, by omega, by go_num, by go_num, by rw [HLN.out, hj], by omega, by rw [HLN.out]; omega, by rw [HLS.out]; show 1 ≤ i + 1; omega, HN2.out, by rw [HLN.out, HS.out, hj]; exact H4.out⟩
              case measure => simp [intOf]; omega
            · have HF := hide (HEND.out HNG.out h1)
              have hb1 : (ec == 1) = false := by simpa using h1
              clear HNEW HEND HON HNG h1
              go_wp2_with fail
              go_quiet (fail)
              go_wp2_with fail
              go_ret2
              rw [HF.out]
              exact ⟨(some ⟨g, 0, none⟩), c1, by rw [hj]; rfl, HG.out.keep ((Kept.refl Nil wr).drewN _)⟩
        · have hR : R = [] := List.eq_nil_of_length_eq_zero (by omega)
          subst hR
          have HNG : Hid (¬ G) := hide (fun z => h0 (HGON.out.1 z).1)
          clear HGON h0
          by_cases h1 : ec = 1
          · subst h1
            have HN2 := hide (HNEW.out HNG.out rfl)
            have HS := hide (rcells_snoc [] ⟨a, n, 1⟩)
            have HLN := hide (show ([] ++ [(⟨a, n, 1⟩ : Rn)]).length = 0 + 1 by simp)
            have HLS := hide (lst_snoc [] ⟨a, n, 1⟩)
            have HM : Hid (0 + 1 ≤ maxLen ∧ (0 + 1) * 24 ≤ 140737488355328) := hide ⟨by unfold maxLen; omega, by omega⟩
            have HQ : Hid (Gw 31 3 w wr A1 c1 0 (rcells [])) := hide (by have := HG.out; exact this)
            clear HNEW HEND HON HNG f0 f1 f2
            go_wp2_with fail
            go_quiet (fail)
            go_wp2_with (at_builtin; refine wpList_append_own_at _ rfl (.tmp 72) (.tmp 76) _ rfl 0 31 i0 (.agg #[.int .i64 0, .int .i64 0, .int .i64 0]) 3 24 Try.underlying27 hi0 hz0 hz1 hz2 rfl (by decide) (.slice A1 0 c1) 0 (rcells []) rfl ((HQ.out.keep ((Kept.refl Nil wr).drewN _)).row.alloc _) ⟨wr.heap.size, 0, none⟩ 1 1 [.int .i64 a, .int .i64 n, .int .i64 1] rfl rfl (World.news_of_block (cs := #[.int .i64 a, .int .i64 n, .int .i64 1]) (t := 31) (fr := (0, 0)) (heap_alloc_new (wr.drewN _) _)) (by intro u hu; simp at hu; rcases hu with rfl | rfl | rfl <;> rfl) HM.out.1 HM.out.2 (Nat.zero_le _) ?_; intro v' w4 hown' hgrow _ hat; obtain ⟨R2, c2, rfl, hg2⟩ := HQ.out.push (((Kept.refl Nil wr).drewN _).alloc _) hown' hgrow hat; have H4 := hide hg2; clear hown' hgrow hat hg2)
            go_roundw
            case rel => exact ⟨i + 1, n + 1, [] ++ [⟨a, n, 1⟩], R2, c2, by omega, by go_num, by go_num, by rw [HLN.out], by omega, by rw [HLN.out]; omega, by rw [HLS.out]; show 1 ≤ i + 1; omega, HN2.out, by rw [HLN.out, HS.out]; exact H4.out⟩
            case measure => simp [intOf]; omega
          · have HF := hide (HEND.out HNG.out h1)
            have hb1 : (ec == 1) = false := by simpa using h1
            clear HNEW HEND HON HNG h1
            go_wp2_with fail
            go_quiet (fail)
            go_wp2_with fail
            go_ret2
            rw [HF.out]
            exact ⟨A1, c1, rfl, HG.out.keep ((Kept.refl Nil wr).drewN _)⟩
      · have hb : (ek != 2) = true := by simpa using h2
        have HN2 := hide (HR.out.1 h2)
        clear HR h2 CN
        go_wp2_with fail
        go_roundw
        case rel => exact ⟨i + 1, n, R, A1, c1, by omega, by go_num, rfl, rfl, by omega, by omega, by omega, HN2.out, HG.out⟩
        case measure => simp [intOf]; omega
    · obtain rfl : i = l.length := by omega
      have HF : Hid (T = (R, true)) := hide (by rw [HT.out, List.drop_length]; rfl)
      go_wp2_with fail
      go_ret2
      rw [HF.out]
      exact ⟨A1, c1, rfl, HG.out⟩
end
end Go.Proofs.Ytpmnmckamgdbcaa
