/- Contract of Even. -/
import Derived.Test.YtcpcdfihgabelaaDoorTGrowC
import Derived.Test.YtcpcdfihgabelaaDoorTParse
namespace Go.Proofs.YtcpcdfihgabelaaDoor
open Go.RowKit
set_option maxRecDepth 100000

/-- What Even answers: the topology and the error. -/
def evOut (parts : List Int) (th : Int) : List Int × List Int × Int := if evE parts th = 0 then (evP parts, evT parts th, 0) else ([], [], evE parts th)
theorem out_err {parts : List Int} {th y : Int} (h : evE parts th = y) (hy : y ≠ 0) : evOut parts th = ([], [], y) := by
  unfold evOut
  rw [h, if_neg hy]
theorem out_ok {parts : List Int} {th : Int} (h : evE parts th = 0) : evOut parts th = (evP parts, evT parts th, 0) := by
  unfold evOut
  rw [if_pos h]
theorem bad_th {parts : List Int} {th : Int} (h : th < 1) : bad parts th = true := by
  unfold bad
  simp [h]
theorem bad_any {parts : List Int} {th : Int} (h : parts.any (fun x => decide (x < 1)) = true) : bad parts th = true := by
  unfold bad
  rw [h, Bool.or_true]
theorem bad_no {parts : List Int} {th : Int} (h0 : 1 ≤ th) (h : parts.any (fun x => decide (x < 1)) = false) : bad parts th = false := by
  unfold bad
  rw [h, Bool.or_false]
  simp
  omega
theorem leaves_pos {parts : List Int} {th : Int} (h : bad parts th = false) : 1 ≤ (lf (evP parts)).length := by
  have hg := grown (good_parts h).2 (Nat.le_refl parts.length)
  exact List.length_pos_iff.2 (lf_ne hg.form (Nat.lt_of_le_of_lt (Nat.zero_le _) hg.lt))
theorem ev_threads {parts : List Int} {th : Int} (h : bad parts th = false) (ht : 32 < th) : evE parts th = 8 := by
  refine ev_many h (.inr ?_)
  have h1 := leaves_pos h
  have : th * 1 ≤ th * ((lf (evP parts)).length : Int) := Int.mul_le_mul_of_nonneg_left (by omega) (by omega)
  omega

section
variable {w : World} {v : Value} {parts P T : List Int} {er : Int}
set_option maxHeartbeats 2000000
theorem even_c (th : Int) (ho : evOut parts th = (P, T, er)) (hv : Nums w v parts) (hl : parts.length ≤ 64) : Calls Tryd.prog 22 #[v, .int .i64 th] w (Told P T er w) := by
  have HO := hide ho
  have HV := hide hv
  have hi0 := Is.new w 24 #[.slice none 0 0, .slice none 0 0]
  have hk0 := (Kept.refl Nil w).alloc (.cells #[.slice none 0 0, .slice none 0 0] 24)
  obtain ⟨w0, hw0⟩ : ∃ w0, w.alloc (.cells #[.slice none 0 0, .slice none 0 0] 24) = w0 := ⟨_, rfl⟩
  rw [hw0] at hi0 hk0
  have H0 := hide (And.intro hi0 hk0)
  obtain ⟨A0, c0, rfl, hp0⟩ := hv
  have HP := hide hp0
  clear ho hi0 hk0 hp0
  generalize hb : w.heap.size = b at *
  by_cases h1 : th < 1
  · have HN := hide (out_err (ev_bad (bad_th (parts := parts) h1)) (by decide))
    go_enter Tryd.func22, Tryd.ntmps22
    have u0 := H0.out.1.cell 0
    have u1 := H0.out.1.cell 1
    have u2 := H0.out.1.free 0
    have u3 := H0.out.1.free 1
    go_wp2_with fail
    have hi9 := (H0.out.1.set 0 (.slice none 0 0)).set 1 (.slice none 0 0)
    have hk9 := (H0.out.2.set (p := ⟨b, 0, none⟩) (fun h => absurd h (by show ¬ b < w.heap.size; omega)) (.slice none 0 0)).set (p := ⟨b, 1, none⟩) (fun h => absurd h (by show ¬ b < w.heap.size; omega)) (.slice none 0 0)
    exact bodyPost_ret (results_topo rfl _ rfl rfl (hi9.cell 0) (hi9.cell 1)) rfl (Told.none HO.out HN.out hk9)
  have hd1 : decide (th < 1) = false := by simpa using h1
  have cf := fun b' hb' => containsfunc_c (b := b') (w := w0) (l := parts) (N := 39) (cap := #[]) (q := fun x => decide (x < 1)) (fun _ _ => by rfl) hb' (HV.out.kept H0.out.2) (by omega) (fun W _ x _ => (below_c (w := W) x).mono fun e w' ⟨h1, h2⟩ => ⟨h1, h2 ▸ Kept.refl _ _⟩)
  cases hany : parts.any (fun x => decide (x < 1)) with
  | true =>
    have HN := hide (out_err (ev_bad (bad_any (th := th) hany)) (by decide))
    have cf2 := cf true hany
    clear cf hany h1
    go_enter Tryd.func22, Tryd.ntmps22
    go_wp2_with fail
    refine cf2.mono ?_
    rintro e w1 ⟨rfl, hk1⟩
    have H1 := hide (And.intro (H0.out.1.kept hk1 (fun z => z)) (H0.out.2.trans hk1 (fun _ _ z => z)))
    clear hk1
    have u0 := H1.out.1.cell 0
    have u1 := H1.out.1.cell 1
    have u2 := H1.out.1.free 0
    have u3 := H1.out.1.free 1
    go_wp2_with fail
    have hi9 := (H1.out.1.set 0 (.slice none 0 0)).set 1 (.slice none 0 0)
    have hk9 := (H1.out.2.set (p := ⟨b, 0, none⟩) (fun h => absurd h (by show ¬ b < w.heap.size; omega)) (.slice none 0 0)).set (p := ⟨b, 1, none⟩) (fun h => absurd h (by show ¬ b < w.heap.size; omega)) (.slice none 0 0)
    exact bodyPost_ret (results_topo rfl _ rfl rfl (hi9.cell 0) (hi9.cell 1)) rfl (Told.none HO.out HN.out hk9)
  | false =>
    have HBAD := hide (bad_no (parts := parts) (th := th) (by omega) hany)
    have cf2 := cf false hany
    clear cf hany
    go_enter Tryd.func22, Tryd.ntmps22
    go_wp2_with fail
    refine cf2.mono ?_
    rintro e w1 ⟨rfl, hk1⟩
    have H1 := hide (And.intro (H0.out.1.kept hk1 (fun z => z)) (H0.out.2.trans hk1 (fun _ _ z => z)))
    clear hk1
    go_wp2_with fail
    refine (grow_c (HV.out.kept H1.out.2) hl (good_parts HBAD.out).2).mono ?_
    rintro e w2 ⟨hk2, v2, hcase⟩
    have H2 := hide (And.intro (H1.out.1.kept hk2 (fun z => z)) (H1.out.2.trans hk2 (fun _ _ z => z)))
    clear hk2
    rcases hcase with ⟨rfl, hn2, hlen⟩ | ⟨rfl, hlen⟩
    · by_cases h32 : 32 < th
      · have HN := hide (out_err (ev_threads HBAD.out h32) (by decide))
        clear h1
        have u0 := H2.out.1.cell 0
        have u1 := H2.out.1.cell 1
        have u2 := H2.out.1.free 0
        have u3 := H2.out.1.free 1
        go_wp2_with fail
        have hi9 := (H2.out.1.set 0 (.slice none 0 0)).set 1 (.slice none 0 0)
        have hk9 := (H2.out.2.set (p := ⟨b, 0, none⟩) (fun h => absurd h (by show ¬ b < w.heap.size; omega)) (.slice none 0 0)).set (p := ⟨b, 1, none⟩) (fun h => absurd h (by show ¬ b < w.heap.size; omega)) (.slice none 0 0)
        exact bodyPost_ret (results_topo rfl _ rfl rfl (hi9.cell 0) (hi9.cell 1)) rfl (Told.none HO.out HN.out hk9)
      · have hd32 : decide ((32 : Int) < th) = false := by simpa using h32
        obtain ⟨p, rfl⟩ : ∃ p : Nat, th = p := ⟨th.toNat, by omega⟩
        have hp32 : p ≤ 32 := by omega
        have HN2 := hide hn2
        have hT : evT parts (p : Int) = each (lf (evP parts)) p := by unfold evT; rw [Int.toNat_natCast]
        have HEV := hide (ev_chk HBAD.out)
        have hlf : (lf (evP parts)).length ≤ 1200 := Nat.le_trans lfk_len hlen
        obtain ⟨A1, n1, rfl, _⟩ := hn2
        clear h32 h1
        rw [hT] at HEV
        have HT := hide hT
        clear hT
        have HOK : Hid (evE parts (p : Int) = 0 → evOut parts (p : Int) = (evP parts, each (lf (evP parts)) p, 0)) := hide fun h => by rw [out_ok h, HT.out]
        generalize evP parts = PP at *
        go_wp2_with fail
        refine (bare_c HN2.out (by omega)).mono ?_
        rintro e w3 ⟨v3, rfl, hv3, hk3⟩
        have H3 := hide (And.intro (H2.out.1.kept hk3 (fun z => z)) (And.intro (H2.out.2.trans hk3 (fun _ _ z => z)) (And.intro (HN2.out.kept hk3) hv3)))
        clear hk3 hv3
        go_wp2_with fail
        refine (stand_c p H3.out.2.2.2 (by omega) (by omega)).mono ?_
        rintro e w8 ⟨v8, rfl, hv8, hk8⟩
        have H8 := hide (And.intro (H3.out.1.kept hk8 (fun z => z)) (And.intro (H3.out.2.1.trans hk8 (fun _ _ z => z)) (And.intro (H3.out.2.2.1.kept hk8) hv8)))
        obtain ⟨A2, n2, rfl, _⟩ := hv8
        clear hk8
        generalize each (lf PP) p = TT at *
        obtain ⟨w4, hw4⟩ : ∃ w4, w8.alloc (.cells #[.slice A1 PP.length n1, .slice A2 TT.length n2] 24) = w4 := ⟨_, rfl⟩
        have hi4 : Is w4 w8.heap.size 24 #[.slice A1 PP.length n1, .slice A2 TT.length n2] := by rw [← hw4]; exact Is.new w8 _ _
        have hk4 : Kept Nil w8 w4 := by rw [← hw4]; exact (Kept.refl _ w8).alloc _
        have H4 := hide (And.intro hi4 (And.intro hk4 (And.intro (H8.out.2.2.1.kept hk4) (H8.out.2.2.2.kept hk4))))
        have cc := tcheck_c (w := w4) (v := .agg #[.slice A1 PP.length n1, .slice A2 TT.length n2]) ⟨_, _, rfl, H4.out.2.2.1, H4.out.2.2.2⟩
        obtain ⟨u4, u5⟩ := load_pair hi4
        clear hi4 hk4
        generalize hb2 : w8.heap.size = b2 at *
        go_wp2_with fail
        refine cc.mono ?_
        rintro e w5 ⟨rfl, hk5⟩
        have H5 := hide (And.intro ((H8.out.1.kept H4.out.2.1 (fun z => z)).kept hk5 (fun z => z)) (And.intro (H4.out.1.kept hk5 (fun z => z)) (And.intro ((H8.out.2.1.trans H4.out.2.1 (fun _ _ z => z)).trans hk5 (fun _ _ z => z)) (And.intro (H4.out.2.2.1.kept hk5) (H4.out.2.2.2.kept hk5)))))
        clear hk5 cc
        have u0 := H5.out.1.cell 0
        have u1 := H5.out.1.cell 1
        have u2 := H5.out.1.free 0
        have u3 := H5.out.1.free 1
        by_cases hc : chk PP TT = 0
        · have HN := hide (HOK.out (by rw [HEV.out, hc]))
          rw [hc]
          obtain ⟨u6, u7⟩ := load_pair H5.out.2.1
          clear hc
          go_wp2_with fail
          have hi6 := (H5.out.1.set 0 (.slice A1 PP.length n1)).set 1 (.slice A2 TT.length n2)
          have hk6 := (H5.out.2.2.1.set (p := ⟨b, 0, none⟩) (fun h => absurd h (by show ¬ b < w.heap.size; omega)) (.slice A1 PP.length n1)).set (p := ⟨b, 1, none⟩) (fun h => absurd h (by show ¬ b < w.heap.size; omega)) (.slice A2 TT.length n2)
          refine bodyPost_ret (results_topo rfl _ rfl rfl (hi6.cell 0) (hi6.cell 1)) rfl ?_
          exact told_some HO.out HN.out hk6 (H5.out.2.2.2.1.boxed H5.out.1 _ _) (H5.out.2.2.2.2.boxed H5.out.1 _ _)
        · have HN := hide (out_err HEV.out hc)
          have hne : (chk PP TT != 0) = true := by simpa using hc
          generalize chk PP TT = z at *
          clear hc
          go_wp2_with fail
          have hi6 := (H5.out.1.set 0 (.slice none 0 0)).set 1 (.slice none 0 0)
          have hk6 := (H5.out.2.2.1.set (p := ⟨b, 0, none⟩) (fun h => absurd h (by show ¬ b < w.heap.size; omega)) (.slice none 0 0)).set (p := ⟨b, 1, none⟩) (fun h => absurd h (by show ¬ b < w.heap.size; omega)) (.slice none 0 0)
          exact bodyPost_ret (results_topo rfl _ rfl rfl (hi6.cell 0) (hi6.cell 1)) rfl (Told.none HO.out HN.out hk6)
    · have HN := hide (out_err (ev_many HBAD.out (.inl hlen)) (by decide))
      clear h1
      have u0 := H2.out.1.cell 0
      have u1 := H2.out.1.cell 1
      have u2 := H2.out.1.free 0
      have u3 := H2.out.1.free 1
      go_wp2_with fail
      have hi9 := (H2.out.1.set 0 (.slice none 0 0)).set 1 (.slice none 0 0)
      have hk9 := (H2.out.2.set (p := ⟨b, 0, none⟩) (fun h => absurd h (by show ¬ b < w.heap.size; omega)) (.slice none 0 0)).set (p := ⟨b, 1, none⟩) (fun h => absurd h (by show ¬ b < w.heap.size; omega)) (.slice none 0 0)
      exact bodyPost_ret (results_topo rfl _ rfl rfl (hi9.cell 0) (hi9.cell 1)) rfl (Told.none HO.out HN.out hk9)
end
end Go.Proofs.YtcpcdfihgabelaaDoor
