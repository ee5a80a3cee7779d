/- Contract of the document's Parse. -/
import Derived.Test.YtcpcdfihgabelaaDoorTParse
import Derived.Test.YtcpcdfihgabelaaDoorTRTree
import Derived.Test.YtcpcdfihgabelaaDoorDRNumbers
import Derived.Test.YtcpcdfihgabelaaDoorLRMore
import Derived.Deep.RegionHeld3
namespace Go.Proofs.YtcpcdfihgabelaaDoor
open Go.RowKit
set_option maxRecDepth 100000

section
variable {w : World}
set_option maxHeartbeats 2000000
theorem rparse2_c {P T : List Int} {er : Int} (s : ByteArray) (ho : prs s.data.toList = (P, T, er)) (hs : s.size ≤ 4096) : Calls Tryd.prog 24 #[.string s] w (Told P T er w) := by
  have HO := hide ho
  have hsl := dlen s
  have HW := hide (lns_each 4096 s.data.toList (by rw [hsl]; exact hs))
  have hz : s.size ≤ 65536 := by omega
  have hi0 := Is.new w 24 #[.slice none 0 0, .slice none 0 0]
  have hk0 := (Kept.refl Nil w).alloc (.cells #[.slice none 0 0, .slice none 0 0] 24)
  obtain ⟨w0, hw0⟩ : ∃ w0, w.alloc (.cells #[.slice none 0 0, .slice none 0 0] 24) = w0 := ⟨_, rfl⟩
  rw [hw0] at hi0 hk0
  have H0 := hide (And.intro hi0 hk0)
  have cw := rlines_c w0 s hz
  generalize hS : s.data.toList = S at *
  clear ho hS hsl hi0 hk0
  generalize hb : w.heap.size = b at *
  by_cases h2 : (lns S).length = 2
  · obtain ⟨a, x, hax⟩ := two_of h2
    have ha := HW.out a (by rw [hax]; simp)
    have hx := HW.out x (by rw [hax]; simp)
    rw [hax] at cw
    have HAX := hide hax
    clear hax h2 HW
    go_enter Tryd.func24, Tryd.ntmps24
    go_wp2_with fail
    refine cw.mono ?_
    rintro e w1 ⟨v, rfl, hv, hk⟩
    obtain ⟨g, o, c, rfl, hc2, hg, k0, k1⟩ := strs_pair hv
    have H1 := hide (And.intro (H0.out.1.kept hk (fun z => z)) (H0.out.2.trans hk (fun _ _ z => z)))
    unfold sv at k0 k1
    have K0 := hide fun (W : World) (k : Kept Nil w1 W) => And.intro ((k.cell (p := ⟨g, o, none⟩) hg (fun z => z)).trans k0) ((k.cell (p := ⟨g, o + 1, none⟩) hg (fun z => z)).trans k1)
    have cA := hide fun (W : World) (k : Kept Nil w1 W) => show Calls Tryd.prog 43 #[.string ⟨a.toArray⟩] W fun e w' => ∃ v, e = .returned v ∧ Strs w' v (wds a) ∧ Kept Nil w1 w' ∧ Kept Nil W w' from
      (rwords_c W ⟨a.toArray⟩ (by rw [mk_size]; omega)).mono fun e w' ⟨v, h1, h2, h3⟩ => ⟨v, h1, h2, k.trans h3 (fun _ _ z => z), h3⟩
    have cX := hide fun (W : World) (k : Kept Nil w1 W) => show Calls Tryd.prog 43 #[.string ⟨x.toArray⟩] W fun e w' => ∃ v, e = .returned v ∧ Strs w' v (wds x) ∧ Kept Nil w1 w' ∧ Kept Nil W w' from
      (rwords_c W ⟨x.toArray⟩ (by rw [mk_size]; omega)).mono fun e w' ⟨v, h1, h2, h3⟩ => ⟨v, h1, h2, k.trans h3 (fun _ _ z => z), h3⟩
    have hK : Kept Nil w1 w1.drew := (Kept.refl _ w1).drew
    clear hk hv k0 k1
    go_wp2_with fail
    go_region_held3 (fun W => W.cell? ⟨g, o, none⟩ = some (.string ⟨a.toArray⟩) ∧ W.cell? ⟨g, o + 1, none⟩ = some (.string ⟨x.toArray⟩))
      (first | exact K0.out _ (by assumption) | exact K0.out _ (Kept.drew (by assumption)))
      (first
        | (go_at_call 43; with_reducible refine (cA.out _ (by assumption)).mono ?_; rintro e w5 ⟨va, rfl, hva, hka, hja⟩; try (have hvx2 := hvx.kept hja))
        | (go_at_call 43; with_reducible refine (cX.out _ (by assumption)).mono ?_; rintro e w6 ⟨vx, rfl, hvx, hkx, hjx⟩; try (have hva2 := hva.kept hjx)))
    · clear hK hka hja hjx hva
      have H2 := hide (And.intro (H1.out.1.kept hkx (fun z => z)) (H1.out.2.trans hkx (fun _ _ z => z)))
      have SA := hide hva2
      have SX := hide hvx
      clear K0 cA cX
      by_cases ha2 : (wds a).length = 2
      · by_cases hx2 : (wds x).length = 2
        · obtain ⟨f1, y1, e1⟩ := two_of ha2
          obtain ⟨f2, y2, e2⟩ := two_of hx2
          have hy1 := wds_each 4096 a ha y1 (by rw [e1]; simp)
          have hy2 := wds_each 4096 x hx y2 (by rw [e2]; simp)
          obtain ⟨g1, o1, c1, rfl, d1, dg1, k1, k2⟩ := strs_pair (e1 ▸ SA.out)
          obtain ⟨g2, o2, c2, rfl, d2, dg2, k3, k4⟩ := strs_pair (e2 ▸ SX.out)
          unfold sv at k1 k2 k3 k4
          have E1 := hide e1
          have E2 := hide e2
          clear ha2 hx2 e1 e2
          by_cases hf1 : f1 = wNodes
          · subst hf1
            by_cases hf2 : f2 = wThreads
            · subst hf2
              have K4 := hide k4
              have k1' : w6.cell? ⟨g1, o1, none⟩ = some (.string ⟨#[110, 111, 100, 101, 115]⟩) := k1
              have k3' : w6.cell? ⟨g2, o2, none⟩ = some (.string ⟨#[116, 104, 114, 101, 97, 100, 115]⟩) := k3
              have cn := rnumbers_c ⟨y1.toArray⟩ w6 (by rw [mk_size]; exact hy1)
              have ct := fun W => rnumbers_c ⟨y2.toArray⟩ W (by rw [mk_size]; exact hy2)
              unfold Numbered at cn ct
              have cn2 : Calls Tryd.prog 44 #[.string ⟨y1.toArray⟩] w6 fun e w' => ∃ v, e = .returned (.tuple #[v, .int .i64 (lerr y1)]) ∧ Nums w' v (lnum y1) ∧ Kept Nil w6 w' := cn
              have ct2 : ∀ W, Calls Tryd.prog 44 #[.string ⟨y2.toArray⟩] W fun e w' => ∃ v, e = .returned (.tuple #[v, .int .i64 (lerr y2)]) ∧ Nums w' v (lnum y2) ∧ Kept Nil W w' := ct
              have HE1 := hide fun h => pl_err (x := y1) E1.out h
              have HE2 := hide fun h => pl_err (x := y2) E2.out h
              have HY1 := hide fun h => pl_yes (x := y1) E1.out h
              have HY2 := hide fun h => pl_yes (x := y2) E2.out h
              clear k1 k3 cn ct
              generalize lerr y1 = z1 at *
              generalize lerr y2 = z2 at *
              generalize lnum y1 = L1 at *
              generalize lnum y2 = L2 at *
              go_wp2_with fail
              refine cn2.mono ?_
              rintro e w7 ⟨v7, rfl, hv7, hk7⟩
              have H7 := hide (And.intro (H2.out.1.kept hk7 (fun z => z)) (And.intro (H2.out.2.trans hk7 (fun _ _ z => z)) hv7))
              have k5 := (hk7.cell (p := ⟨g2, o2 + 1, none⟩) dg2 (fun z => z)).trans K4.out
              clear hk7 hv7 k4
              go_wp2_with fail
              refine (ct2 w7).mono ?_
              rintro e w8 ⟨v8, rfl, hv8, hk8⟩
              have H8 := hide (And.intro (H7.out.1.kept hk8 (fun z => z)) (And.intro (H7.out.2.1.trans hk8 (fun _ _ z => z)) (And.intro (H7.out.2.2.kept hk8) hv8)))
              obtain ⟨A1, n1, rfl, _⟩ := H7.out.2.2
              obtain ⟨A2, n2, rfl, _⟩ := hv8
              clear hk8
              by_cases hz1 : z1 = 0
              · subst hz1
                by_cases hz2 : z2 = 0
                · subst hz2
                  have HB := hide fun h => prs_bad HAX.out (HY1.out rfl) (HY2.out rfl) h
                  have HZ := hide fun h => prs_ok HAX.out (HY1.out rfl) (HY2.out rfl) h
                  obtain ⟨w4, hw4⟩ : ∃ w4, w8.alloc (.cells #[.slice A1 L1.length n1, .slice A2 L2.length n2] 24) = w4 := ⟨_, rfl⟩
                  have hi4 : Is w4 w8.heap.size 24 #[.slice A1 L1.length n1, .slice A2 L2.length n2] := by rw [← hw4]; exact Is.new w8 _ _
                  have hk4 : Kept Nil w8 w4 := by rw [← hw4]; exact (Kept.refl _ w8).alloc _
                  have H4 := hide (And.intro hi4 (And.intro hk4 (And.intro (H8.out.2.2.1.kept hk4) (H8.out.2.2.2.kept hk4))))
                  have cc := rcheck_c (w := w4) (v := .agg #[.slice A1 L1.length n1, .slice A2 L2.length n2]) ⟨_, _, rfl, H4.out.2.2.1, H4.out.2.2.2⟩
                  obtain ⟨u4, u5⟩ := load_pair hi4
                  clear hi4 hk4 HE1 HE2 HY1 HY2
                  generalize hb2 : w8.heap.size = b2 at *
                  go_wp2_with fail
                  refine cc.mono ?_
                  rintro e w5 ⟨rfl, hk5⟩
                  have H5 := hide (And.intro ((H8.out.1.kept H4.out.2.1 (fun z => z)).kept hk5 (fun z => z)) (And.intro (H4.out.1.kept hk5 (fun z => z)) (And.intro ((H8.out.2.1.trans H4.out.2.1 (fun _ _ z => z)).trans hk5 (fun _ _ z => z)) (And.intro (H4.out.2.2.1.kept hk5) (H4.out.2.2.2.kept hk5)))))
                  clear hk5 cc
                  have u0 := H5.out.1.cell 0
                  have u1 := H5.out.1.cell 1
                  have u2 := H5.out.1.free 0
                  have u3 := H5.out.1.free 1
                  by_cases hc : chk L1 L2 = 0
                  · have HN := hide (HZ.out hc)
                    rw [hc]
                    obtain ⟨u6, u7⟩ := load_pair H5.out.2.1
                    clear hc HZ HB
                    go_wp2_with fail
                    have hi6 := (H5.out.1.set 0 (.slice A1 L1.length n1)).set 1 (.slice A2 L2.length n2)
                    have hk6 := (H5.out.2.2.1.set (p := ⟨b, 0, none⟩) (fun h => absurd h (by show ¬ b < w.heap.size; omega)) (.slice A1 L1.length n1)).set (p := ⟨b, 1, none⟩) (fun h => absurd h (by show ¬ b < w.heap.size; omega)) (.slice A2 L2.length n2)
                    refine bodyPost_ret (results_topo rfl _ rfl rfl (hi6.cell 0) (hi6.cell 1)) rfl ?_
                    exact told_some HO.out HN.out hk6 (H5.out.2.2.2.1.boxed H5.out.1 _ _) (H5.out.2.2.2.2.boxed H5.out.1 _ _)
                  · have HN := hide (HB.out hc)
                    have hne : (chk L1 L2 != 0) = true := by simpa using hc
                    generalize chk L1 L2 = z at *
                    clear hc HZ HB
                    go_wp2_with fail
                    have hi6 := (H5.out.1.set 0 (.slice none 0 0)).set 1 (.slice none 0 0)
                    have hk6 := (H5.out.2.2.1.set (p := ⟨b, 0, none⟩) (fun h => absurd h (by show ¬ b < w.heap.size; omega)) (.slice none 0 0)).set (p := ⟨b, 1, none⟩) (fun h => absurd h (by show ¬ b < w.heap.size; omega)) (.slice none 0 0)
                    exact bodyPost_ret (results_topo rfl _ rfl rfl (hi6.cell 0) (hi6.cell 1)) rfl (Told.none HO.out HN.out hk6)
                · have HN := hide (prs_threads HAX.out (HE2.out hz2))
                  have hne : (z2 != 0) = true := by simpa using hz2
                  clear hz2 HE1 HE2 HY1 HY2
                  have u0 := H8.out.1.cell 0
                  have u1 := H8.out.1.cell 1
                  have u2 := H8.out.1.free 0
                  have u3 := H8.out.1.free 1
                  go_wp2_with fail
                  have hi9 := (H8.out.1.set 0 (.slice none 0 0)).set 1 (.slice none 0 0)
                  have hk9 := (H8.out.2.1.set (p := ⟨b, 0, none⟩) (fun h => absurd h (by show ¬ b < w.heap.size; omega)) (.slice none 0 0)).set (p := ⟨b, 1, none⟩) (fun h => absurd h (by show ¬ b < w.heap.size; omega)) (.slice none 0 0)
                  exact bodyPost_ret (results_topo rfl _ rfl rfl (hi9.cell 0) (hi9.cell 1)) rfl (Told.none HO.out HN.out hk9)
              · have HN := hide (prs_nodes HAX.out (HE1.out hz1))
                have hne : (z1 != 0) = true := by simpa using hz1
                clear hz1 HE1 HE2 HY1 HY2
                have u0 := H8.out.1.cell 0
                have u1 := H8.out.1.cell 1
                have u2 := H8.out.1.free 0
                have u3 := H8.out.1.free 1
                go_wp2_with fail
                have hi9 := (H8.out.1.set 0 (.slice none 0 0)).set 1 (.slice none 0 0)
                have hk9 := (H8.out.2.1.set (p := ⟨b, 0, none⟩) (fun h => absurd h (by show ¬ b < w.heap.size; omega)) (.slice none 0 0)).set (p := ⟨b, 1, none⟩) (fun h => absurd h (by show ¬ b < w.heap.size; omega)) (.slice none 0 0)
                exact bodyPost_ret (results_topo rfl _ rfl rfl (hi9.cell 0) (hi9.cell 1)) rfl (Told.none HO.out HN.out hk9)
            · have HN := hide (prs_threads HAX.out (pl_word E2.out hf2))
              have hne : (f2 == [116, 104, 114, 101, 97, 100, 115]) = false := beq_false_of_ne hf2
              have k1' : w6.cell? ⟨g1, o1, none⟩ = some (.string ⟨#[110, 111, 100, 101, 115]⟩) := k1
              clear k1 hf2
              have u0 := H2.out.1.cell 0
              have u1 := H2.out.1.cell 1
              have u2 := H2.out.1.free 0
              have u3 := H2.out.1.free 1
              go_wp2_with fail
              have hi9 := (H2.out.1.set 0 (.slice none 0 0)).set 1 (.slice none 0 0)
              have hk9 := (H2.out.2.set (p := ⟨b, 0, none⟩) (fun h => absurd h (by show ¬ b < w.heap.size; omega)) (.slice none 0 0)).set (p := ⟨b, 1, none⟩) (fun h => absurd h (by show ¬ b < w.heap.size; omega)) (.slice none 0 0)
              exact bodyPost_ret (results_topo rfl _ rfl rfl (hi9.cell 0) (hi9.cell 1)) rfl (Told.none HO.out HN.out hk9)
          · have HN := hide (prs_nodes HAX.out (pl_word E1.out hf1))
            have hne : (f1 == [110, 111, 100, 101, 115]) = false := beq_false_of_ne hf1
            clear hf1
            have u0 := H2.out.1.cell 0
            have u1 := H2.out.1.cell 1
            have u2 := H2.out.1.free 0
            have u3 := H2.out.1.free 1
            go_wp2_with fail
            have hi9 := (H2.out.1.set 0 (.slice none 0 0)).set 1 (.slice none 0 0)
            have hk9 := (H2.out.2.set (p := ⟨b, 0, none⟩) (fun h => absurd h (by show ¬ b < w.heap.size; omega)) (.slice none 0 0)).set (p := ⟨b, 1, none⟩) (fun h => absurd h (by show ¬ b < w.heap.size; omega)) (.slice none 0 0)
            exact bodyPost_ret (results_topo rfl _ rfl rfl (hi9.cell 0) (hi9.cell 1)) rfl (Told.none HO.out HN.out hk9)
        · have HN := hide (prs_threads HAX.out (pl_len hx2))
          have hne1 : (((wds a).length : Int) != 2) = false := by simp; omega
          have hne : (((wds x).length : Int) != 2) = true := by simp; omega
          obtain ⟨A1, c1, rfl, _⟩ := SA.out
          obtain ⟨A2, c2, rfl, _⟩ := SX.out
          generalize (wds a).length = m1 at *
          generalize (wds x).length = m2 at *
          subst ha2
          clear hx2
          have u0 := H2.out.1.cell 0
          have u1 := H2.out.1.cell 1
          have u2 := H2.out.1.free 0
          have u3 := H2.out.1.free 1
          go_wp2_with fail
          have hi9 := (H2.out.1.set 0 (.slice none 0 0)).set 1 (.slice none 0 0)
          have hk9 := (H2.out.2.set (p := ⟨b, 0, none⟩) (fun h => absurd h (by show ¬ b < w.heap.size; omega)) (.slice none 0 0)).set (p := ⟨b, 1, none⟩) (fun h => absurd h (by show ¬ b < w.heap.size; omega)) (.slice none 0 0)
          exact bodyPost_ret (results_topo rfl _ rfl rfl (hi9.cell 0) (hi9.cell 1)) rfl (Told.none HO.out HN.out hk9)
      · have HN := hide (prs_nodes HAX.out (pl_len ha2))
        have hne1 : (((wds a).length : Int) != 2) = true := by simp; omega
        obtain ⟨A1, c1, rfl, _⟩ := SA.out
        obtain ⟨A2, c2, rfl, _⟩ := SX.out
        generalize (wds a).length = m1 at *
        generalize (wds x).length = m2 at *
        clear ha2
        have u0 := H2.out.1.cell 0
        have u1 := H2.out.1.cell 1
        have u2 := H2.out.1.free 0
        have u3 := H2.out.1.free 1
        go_wp2_with fail
        have hi9 := (H2.out.1.set 0 (.slice none 0 0)).set 1 (.slice none 0 0)
        have hk9 := (H2.out.2.set (p := ⟨b, 0, none⟩) (fun h => absurd h (by show ¬ b < w.heap.size; omega)) (.slice none 0 0)).set (p := ⟨b, 1, none⟩) (fun h => absurd h (by show ¬ b < w.heap.size; omega)) (.slice none 0 0)
        exact bodyPost_ret (results_topo rfl _ rfl rfl (hi9.cell 0) (hi9.cell 1)) rfl (Told.none HO.out HN.out hk9)
  · have HN := hide (prs_len h2)
    have hne : (((lns S).length : Int) != 2) = true := by simp; omega
    generalize lns S = W at *
    clear h2
    go_enter Tryd.func24, Tryd.ntmps24
    go_wp2_with fail
    refine cw.mono ?_
    rintro e w3 ⟨v, rfl, hv, hk⟩
    obtain ⟨A, c, rfl, _⟩ := hv
    have H3 := hide (And.intro (H0.out.1.kept hk (fun z => z)) (H0.out.2.trans hk (fun _ _ z => z)))
    clear hk
    have u0 := H3.out.1.cell 0
    have u1 := H3.out.1.cell 1
    have u2 := H3.out.1.free 0
    have u3 := H3.out.1.free 1
    go_wp2_with fail
    have hi9 := (H3.out.1.set 0 (.slice none 0 0)).set 1 (.slice none 0 0)
    have hk9 := (H3.out.2.set (p := ⟨b, 0, none⟩) (fun h => absurd h (by show ¬ b < w.heap.size; omega)) (.slice none 0 0)).set (p := ⟨b, 1, none⟩) (fun h => absurd h (by show ¬ b < w.heap.size; omega)) (.slice none 0 0)
    exact bodyPost_ret (results_topo rfl _ rfl rfl (hi9.cell 0) (hi9.cell 1)) rfl (Told.none HO.out HN.out hk9)
end
end Go.Proofs.YtcpcdfihgabelaaDoor
