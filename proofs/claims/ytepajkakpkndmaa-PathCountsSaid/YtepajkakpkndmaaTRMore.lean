/- Contracts of the document's Leaves, Depth, Few; Same of both sides. -/
import Derived.Test.YtepajkakpkndmaaTRTree
namespace Go.Proofs.Ytepajkakpkndmaa
open Go.RowKit
set_option maxRecDepth 100000

section
variable {w : World} {v : Value} {P T : List Int}
set_option maxHeartbeats 2000000
theorem rleaves_c {L0 : List Int} (hL : (if chk P T = 0 then lf P else []) = L0) (hv : Topo w v P T) : Calls Try.prog 27 #[v] w fun e w' => ∃ v', e = .returned v' ∧ Nums w' v' L0 ∧ Kept Nil w w' := by
  obtain ⟨i0, hi, hz0, hz1, hz2⟩ := info_parts info_int
  have HL0 := hide hL
  clear hL
  obtain ⟨va, vb, rfl, ha, hb⟩ := hv
  obtain ⟨w0, hw0⟩ : ∃ w0, w.alloc (.cells #[va, vb] 24) = w0 := ⟨_, rfl⟩
  have hi0 : Is w0 w.heap.size 24 #[va, vb] := by rw [← hw0]; exact Is.new w _ _
  have hk0 : Kept Nil w w0 := by rw [← hw0]; exact (Kept.refl _ w).alloc _
  have H0 := hide (And.intro hi0 (And.intro hk0 (And.intro (ha.kept hk0) (hb.kept hk0))))
  have cc := rcheck_c (w := w0) (v := .agg #[va, vb]) ⟨va, vb, rfl, H0.out.2.2.1, H0.out.2.2.2⟩
  obtain ⟨q2, q3⟩ := load_pair hi0
  clear hi0 hk0 ha hb
  go_enter Try.func27, Try.ntmps27
  go_wp2_with fail
  refine cc.mono ?_
  rintro e w1 ⟨rfl, hk1⟩
  have H1 := hide (And.intro (H0.out.1.kept hk1 (fun z => z)) (And.intro (H0.out.2.1.trans hk1 (fun _ _ z => z)) (H0.out.2.2.1.kept hk1)))
  clear hk1 cc
  by_cases h0 : chk P T = 0
  · have hlen := (chk_zero h0).1
    have HM2 : Hid (L0 = lf P) := hide (by rw [← HL0.out, if_pos h0])
    rw [h0]
    clear h0
    obtain ⟨A1, n1, rfl, _⟩ := H1.out.2.2
    go_wp2_with fail
    go_loopw [3, 4] (fun v3 v4 wr => ∃ (k : Nat) (L : List Int) (A : Option Addr) (c : Nat), k ≤ P.length ∧ v4 = .int .i64 k ∧ v3 = .slice A L.length c ∧ L = lfk P k ∧ Gr w1 wr A c L) (fun _ i _ => P.length - (intOf i).toNat)
    case atStart => exact ⟨0, [], none, 0, Nat.zero_le _, rfl, rfl, rfl, Gr.start _⟩
    case round =>
      obtain ⟨k, L, A, c, hk, rfl, rfl, hL, hg⟩ := hrel
      have hLl : L.length ≤ 65536 := by rw [hL]; exact Nat.le_trans lfk_len (by omega)
      have hm1 : L.length + 1 ≤ maxLen := by simp only [maxLen]; omega
      have hm2 : (L.length + 1) * 8 ≤ 140737488355328 := by omega
      have HM := hide (And.intro hm1 hm2)
      have HL := hide hL
      have HGR := hide hg
      have q4 := (H1.out.1.kept hg.kept (fun z => z)).cell 0
      clear hL hg hm1 hm2
      by_cases hlt : k < P.length
      · cases hlf : lfB P k with
        | false =>
          have HN := hide (lfk_no hlf)
          have cl := leaf_c (w := wr) (P := P) (k : Int) (by rw [leaf_is P hlt, hlf]) (H1.out.2.2.kept HGR.out.kept) (by omega)
          clear hlf
          go_wp2_with fail
          refine cl.mono ?_
          rintro e w' ⟨rfl, rfl⟩
          go_wp2_with fail
          go_roundw
          case rel => exact ⟨k + 1, L, A, c, by omega, by go_num, rfl, by rw [HN.out, HL.out], HGR.out⟩
          case measure => simp [intOf]; omega
        | true =>
          have HN := hide (lfk_yes hlf)
          have cl := leaf_c (w := wr) (P := P) (k : Int) (by rw [leaf_is P hlt, hlf]) (H1.out.2.2.kept HGR.out.kept) (by omega)
          clear hlf
          go_wp2_with fail
          refine cl.mono ?_
          rintro e w' ⟨rfl, rfl⟩
          go_wp2_with (at_builtin; refine wpList_append_own_at _ rfl (.tmp 20) (.tmp 22) _ rfl 0 3 i0 (.int .i64 0) 1 8 Try.underlying22 hi hz0 hz1 hz2 rfl (by decide) (.slice A L.length c) L.length (L.map (Value.int .i64)) rfl (HGR.out.row.alloc _) ⟨w'.heap.size, 0, none⟩ 1 1 [.int .i64 (k : Int)] rfl rfl (cell_one_new _ _ _) (by intro u hu; simp at hu; subst hu; rfl) HM.out.1 HM.out.2 (Nat.zero_le _) ?_; intro v' w1 hown' hgrow _ hat; obtain ⟨A2, c2, rfl, hgr2⟩ := HGR.out.push hown' hgrow hat; have HD := hide hgr2; clear hown' hgrow hat hgr2)
          go_roundw
          case rel => exact ⟨k + 1, L ++ [(k : Int)], A2, c2, by omega, by go_num, by simp, by rw [HN.out, HL.out], HD.out⟩
          case measure => simp [intOf]; omega
      · obtain rfl : k = P.length := by omega
        go_wp2_with fail
        go_ret
        exact ⟨_, rfl, by have := HGR.out.row.nums; rw [HM2.out]; rw [HL.out] at this ⊢; exact this, H1.out.2.1.trans HGR.out.kept (fun _ _ z => z)⟩
  · have HM : Hid (L0 = []) := hide (by rw [← HL0.out, if_neg h0])
    have hne : (chk P T != 0) = true := by simpa using h0
    generalize chk P T = c at *
    clear h0
    go_wp2_with fail
    go_ret
    exact ⟨_, rfl, by rw [HM.out]; exact Nums.nil _ _ _, H1.out.2.1⟩
theorem few_c {b : Bool} (hL : (decide ((P.length : Int) ≤ 60) && decide ((T.length : Int) ≤ 60)) = b) (hv : Topo w v P T) : Calls Try.prog 8 #[v] w fun e w' => e = .returned (.bool b) ∧ Kept Nil w w' := by
  have HL0 := hide hL
  clear hL
  obtain ⟨va, vb, rfl, ⟨A1, n1, rfl, _⟩, ⟨A2, n2, rfl, _⟩⟩ := hv
  have HK := hide ((Kept.refl Nil w).alloc (.cells #[.slice A1 P.length n1, .slice A2 T.length n2] 24))
  by_cases h1 : (P.length : Int) ≤ 60
  · by_cases h2 : (T.length : Int) ≤ 60
    · have HM : Hid ((decide ((P.length : Int) ≤ 60) && decide ((T.length : Int) ≤ 60)) = true) := hide (by simp [h1, h2])
      go_enter Try.func8, Try.ntmps8
      go_wp2_with fail
      go_ret
      exact ⟨ret_yes HM.out HL0.out, HK.out⟩
    · have h3 : decide ((T.length : Int) ≤ 60) = false := by simpa using h2
      have HM : Hid ((decide ((P.length : Int) ≤ 60) && decide ((T.length : Int) ≤ 60)) = false) := hide (by rw [h3, Bool.and_false])
      clear h2
      go_enter Try.func8, Try.ntmps8
      go_wp2_with fail
      go_ret
      exact ⟨ret_no HM.out HL0.out, HK.out⟩
  · have h3 : decide ((P.length : Int) ≤ 60) = false := by simpa using h1
    have HM : Hid ((decide ((P.length : Int) ≤ 60) && decide ((T.length : Int) ≤ 60)) = false) := hide (by rw [h3, Bool.false_and])
    clear h1
    go_enter Try.func8, Try.ntmps8
    go_wp2_with fail
    go_ret
    exact ⟨ret_no HM.out HL0.out, HK.out⟩
theorem rtsame_c {b : Bool} {v2 : Value} {P2 T2 : List Int} (hb : (decide (P = P2) && decide (T = T2)) = b) (hv : Topo w v P T) (hv2 : Topo w v2 P2 T2) (l1 : P.length ≤ 65536) (l2 : T.length ≤ 65536) (l3 : P2.length ≤ 65536) (l4 : T2.length ≤ 65536) :
    Calls Try.prog 28 #[v, v2] w fun e w' => e = .returned (.bool b) ∧ Kept Nil w w' := by
  have HB := hide hb
  clear hb
  obtain ⟨va, vb, rfl, ha, hb⟩ := hv
  obtain ⟨vc, vd, rfl, hc, hd⟩ := hv2
  obtain ⟨w0, hw0⟩ : ∃ w0, (w.alloc (.cells #[va, vb] 24)).alloc (.cells #[vc, vd] 24) = w0 := ⟨_, rfl⟩
  have hi0 : Is w0 w.heap.size 24 #[va, vb] := by rw [← hw0]; exact (Is.new w _ _).alloc _
  have hi1 : Is w0 (w.heap.size + 1) 24 #[vc, vd] := by
    have := Is.new (w.alloc (.cells #[va, vb] 24)) 24 #[vc, vd]
    rw [← hw0]
    simpa using this
  have hk0 : Kept Nil w w0 := by rw [← hw0]; exact ((Kept.refl _ w).alloc _).alloc _
  have H0 := hide (And.intro hi0 (And.intro hi1 (And.intro hk0 (And.intro (ha.kept hk0) (And.intro (hb.kept hk0) (And.intro (hc.kept hk0) (hd.kept hk0)))))))
  have q0 := hi0.cell 0
  have q1 := hi1.cell 0
  clear hi0 hi1 hk0 ha hb hc hd
  cases h1 : decide (P = P2) with
  | false =>
    have HM : Hid ((decide (P = P2) && decide (T = T2)) = false) := hide (by rw [h1]; rfl)
    have c1 := rsame_c (w := w0) h1 H0.out.2.2.2.1 H0.out.2.2.2.2.2.1 l1 l3
    clear h1
    go_enter Try.func28, Try.ntmps28
    go_wp2_with fail
    refine c1.mono ?_
    rintro e w1 ⟨rfl, q, rfl⟩
    have H1 := hide (H0.out.2.2.1.drewN q)
    go_wp2_with fail
    go_ret
    exact ⟨ret_no HM.out HB.out, H1.out⟩
  | true =>
    have HM : Hid ((decide (P = P2) && decide (T = T2)) = decide (T = T2)) := hide (by rw [h1, Bool.true_and])
    have c1 := rsame_c (w := w0) h1 H0.out.2.2.2.1 H0.out.2.2.2.2.2.1 l1 l3
    have q2 := H0.out.1.cell 1
    have q3 := H0.out.2.1.cell 1
    have c2 := fun q b' hb' => rsame_c (b := b') (w := w0.drewN q) hb' (H0.out.2.2.2.2.1.kept ((Kept.refl _ _).drewN q)) (H0.out.2.2.2.2.2.2.kept ((Kept.refl _ _).drewN q)) l2 l4
    clear h1
    cases h2 : decide (T = T2) with
    | false =>
      have HM2 := hide (HM.out.trans h2)
      have c3 := fun q => c2 q false h2
      clear h2 c2 HM
      go_enter Try.func28, Try.ntmps28
      go_wp2_with fail
      refine c1.mono ?_
      rintro e w1 ⟨rfl, q, rfl⟩
      go_wp2_with fail
      refine (c3 q).mono ?_
      rintro e w1 ⟨rfl, q2, rfl⟩
      have H1 := hide (H0.out.2.2.1.drewN (q + q2))
      go_wp2_with fail
      go_ret
      exact ⟨ret_no HM2.out HB.out, H1.out⟩
    | true =>
      have HM2 := hide (HM.out.trans h2)
      have c3 := fun q => c2 q true h2
      clear h2 c2 HM
      go_enter Try.func28, Try.ntmps28
      go_wp2_with fail
      refine c1.mono ?_
      rintro e w1 ⟨rfl, q, rfl⟩
      go_wp2_with fail
      refine (c3 q).mono ?_
      rintro e w1 ⟨rfl, q2, rfl⟩
      have H1 := hide (H0.out.2.2.1.drewN (q + q2))
      go_wp2_with fail
      go_ret
      exact ⟨ret_yes HM2.out HB.out, H1.out⟩
end
end Go.Proofs.Ytepajkakpkndmaa
