/- TopoChecks: the walk. -/
import Derived.Test.YtcpcdfihgabelaaDoorTAwake
import Derived.Deep.RegionHeld3
namespace Go.Proofs.YtcpcdfihgabelaaDoor
open Go.RowKit
set_option maxRecDepth 100000

theorem few_of {P T : List Int} (h : (decide ((P.length : Int) ≤ 60) && decide ((T.length : Int) ≤ 60)) = true) : P.length ≤ 60 ∧ T.length ≤ 60 := by
  simp at h
  omega
/-- The arguments' two boxes. -/
theorem two_boxes {w : World} {A1 A2 A3 A4 : Option Addr} {c1 c2 c3 c4 : Nat} {P T P2 T2 : List Int} (h1 : Nums w (.slice A1 P.length c1) P) (h2 : Nums w (.slice A2 T.length c2) T) (h3 : Nums w (.slice A3 P2.length c3) P2) (h4 : Nums w (.slice A4 T2.length c4) T2) :
    ∀ W, ((w.alloc (.cells #[.slice A1 P.length c1, .slice A2 T.length c2] 24)).alloc (.cells #[.slice A3 P2.length c3, .slice A4 T2.length c4] 24)) = W →
      Bx W w.heap.size A1 c1 A2 c2 P T ∧ Bx W (w.heap.size + 1) A3 c3 A4 c4 P2 T2 ∧ Kept Nil w W := by
  rintro W rfl
  have k1 := (Kept.refl Nil w).alloc (.cells #[.slice A1 P.length c1, .slice A2 T.length c2] 24)
  refine ⟨(Bx.new h1 h2).keep ((Kept.refl _ _).alloc _), ?_, k1.alloc _⟩
  have := Bx.new (h3.kept k1) (h4.kept k1)
  simpa using this

section
variable {w : World} {v1 v2 : Value} {P T P2 T2 : List Int}
set_option maxHeartbeats 4000000
theorem checks_law (h1 : Topo w v1 P T) (h2 : Topo w v2 P2 T2) (hP : ∀ n ∈ P, InR n) (hT : ∀ n ∈ T, InR n) (hm : MaxL w) : Calls Tryd.prog 4 #[v1, v2] w fun e w' => e = .returned (.bool true) ∧ Kept Nil w w' := by
  have HM := hide hm
  have HR := hide (And.intro hP hT)
  clear hm hP hT
  obtain ⟨va, vb, rfl, ha, hb⟩ := h1
  obtain ⟨vc, vd, rfl, hc, hd⟩ := h2
  obtain ⟨A1, c1, rfl, _⟩ := id ha
  obtain ⟨A2, c2, rfl, _⟩ := id hb
  obtain ⟨A3, c3, rfl, _⟩ := id hc
  obtain ⟨A4, c4, rfl, _⟩ := id hd
  obtain ⟨w0, hw0⟩ : ∃ w0, ((w.alloc (.cells #[.slice A1 P.length c1, .slice A2 T.length c2] 24)).alloc (.cells #[.slice A3 P2.length c3, .slice A4 T2.length c4] 24)) = w0 := ⟨_, rfl⟩
  obtain ⟨B1, B2, K0⟩ := two_boxes ha hb hc hd w0 hw0
  have H0 := hide (And.intro B1 (And.intro B2 K0))
  have q0 := B1.is_.cell 0
  have q1 := B1.is_.cell 1
  have q2 := B2.is_.cell 0
  have q3 := B2.is_.cell 1
  clear ha hb hc hd B1 B2 K0
  go_enter Tryd.func4, Tryd.ntmps4
  go_wp2_with fail
  cases hf : (decide ((P.length : Int) ≤ 60) && decide ((T.length : Int) ≤ 60)) with
  | false =>
    refine (few_c hf H0.out.1.topo).mono ?_
    rintro e w1 ⟨rfl, hk⟩
    have K1 := hide (H0.out.2.2.trans hk (fun _ _ z => z))
    clear hf hk
    go_wp2_with fail
    refine (awake_c w1 (HM.out.kept K1.out)).mono ?_
    rintro e w6 ⟨rfl, hk⟩
    have K6 := hide (K1.out.trans hk (fun _ _ z => z))
    clear hk
    go_wp2_with fail
    go_ret
    exact ⟨rfl, K6.out⟩
  | true =>
    have HF := hide (few_of hf)
    refine (few_c hf H0.out.1.topo).mono ?_
    rintro e w1 ⟨rfl, hk⟩
    have H1 := hide (And.intro (H0.out.1.keep hk) (And.intro (H0.out.2.1.keep hk) (H0.out.2.2.trans hk (fun _ _ z => z))))
    have q2 := H1.out.2.1.is_.cell 0
    have q3 := H1.out.2.1.is_.cell 1
    clear hf hk
    go_wp2_with fail
    cases hf : (decide ((P2.length : Int) ≤ 60) && decide ((T2.length : Int) ≤ 60)) with
    | false =>
      refine (few_c hf H1.out.2.1.topo).mono ?_
      rintro e w2 ⟨rfl, hk⟩
      have K1 := hide (H1.out.2.2.trans hk (fun _ _ z => z))
      clear hf hk
      go_wp2_with fail
      refine (awake_c w2 (HM.out.kept K1.out)).mono ?_
      rintro e w6 ⟨rfl, hk⟩
      have K6 := hide (K1.out.trans hk (fun _ _ z => z))
      clear hk
      go_wp2_with fail
      go_ret
      exact ⟨rfl, K6.out⟩
    | true =>
      have HF2 := hide (few_of hf)
      refine (few_c hf H1.out.2.1.topo).mono ?_
      rintro e w2 ⟨rfl, hk⟩
      have H2 := hide (And.intro (H1.out.1.keep hk) (And.intro (H1.out.2.1.keep hk) (H1.out.2.2.trans hk (fun _ _ z => z))))
      obtain ⟨L, hL⟩ : ∃ L, (if chk P T = 0 then lf P else []) = L := ⟨_, rfl⟩
      obtain ⟨d, hd⟩ : ∃ d, (if chk P T = 0 then d0 P else 0) = d := ⟨_, rfl⟩
      obtain ⟨s, hs⟩ : ∃ s, (if chk P T = 0 then ttxt P T else []) = s := ⟨_, rfl⟩
      obtain ⟨b, hb⟩ : ∃ b, (decide (P = P2) && decide (T = T2)) = b := ⟨_, rfl⟩
      have hLl : L.length ≤ 65536 := by
        rw [← hL]
        split
        · exact Nat.le_trans lfk_len (by have := HF.out; omega)
        · simp
      have cC := hide fun (W : World) (k : Kept Nil w2 W) => ((tcheck_c (H2.out.1.keep k).topo).mono (R' := fun e w' => e = .returned (.int .i64 (chk P T)) ∧ Kept Nil w2 w') fun e w' ⟨h1, h2⟩ => ⟨h1, k.trans h2 (fun _ _ z => z)⟩)
      have cRC := hide fun (W : World) (k : Kept Nil w2 W) => ((rcheck_c (H2.out.1.keep k).topo).mono (R' := fun e w' => e = .returned (.int .i64 (chk P T)) ∧ Kept Nil w2 w') fun e w' ⟨h1, h2⟩ => ⟨h1, k.trans h2 (fun _ _ z => z)⟩)
      have cL := hide fun (W : World) (k : Kept Nil w2 W) => ((leaves_c hL (H2.out.1.keep k).topo).mono (R' := fun e w' => ∃ v, e = .returned v ∧ Nums w' v L ∧ Kept Nil w2 w') fun e w' ⟨v, h1, h2, h3⟩ => ⟨v, h1, h2, k.trans h3 (fun _ _ z => z)⟩)
      have cRL := hide fun (W : World) (k : Kept Nil w2 W) => ((rleaves_c hL (H2.out.1.keep k).topo).mono (R' := fun e w' => ∃ v, e = .returned v ∧ Nums w' v L ∧ Kept Nil w2 w' ∧ Kept Nil W w') fun e w' ⟨v, h1, h2, h3⟩ => ⟨v, h1, h2, k.trans h3 (fun _ _ z => z), h3⟩)
      have cS := hide fun (W : World) (va vb : Value) (k : Kept Nil w2 W) (h1 : Nums W va L) (h2 : Nums W vb L) => ((rsame_c (b := true) (by simp) h1 h2 hLl hLl).mono (R' := fun e w' => e = .returned (.bool true) ∧ Kept Nil w2 w') fun e w' ⟨h1, q, h2⟩ => ⟨h1, by rw [h2]; exact k.drewN q⟩)
      have cD := hide fun (W : World) (k : Kept Nil w2 W) => ((depth_c hd (H2.out.1.keep k).topo).mono (R' := fun e w' => e = .returned (.int .i64 d) ∧ Kept Nil w2 w') fun e w' ⟨h1, h2⟩ => ⟨h1, k.trans h2 (fun _ _ z => z)⟩)
      have cRD := hide fun (W : World) (k : Kept Nil w2 W) => ((rdepth_c hd (H2.out.1.keep k).topo).mono (R' := fun e w' => e = .returned (.int .i64 d) ∧ Kept Nil w2 w') fun e w' ⟨h1, h2⟩ => ⟨h1, k.trans h2 (fun _ _ z => z)⟩)
      have cT := hide fun (W : World) (k : Kept Nil w2 W) => ((ttext_c hs (H2.out.1.keep k).topo HR.out.1 HR.out.2).mono (R' := fun e w' => e = .returned (.string ⟨s.toArray⟩) ∧ Kept Nil w2 w') fun e w' ⟨h1, h2⟩ => ⟨h1, k.trans h2 (fun _ _ z => z)⟩)
      have cRT := hide fun (W : World) (k : Kept Nil w2 W) => ((rttext_c hs (H2.out.1.keep k).topo HR.out.1 HR.out.2).mono (R' := fun e w' => e = .returned (.string ⟨s.toArray⟩) ∧ Kept Nil w2 w') fun e w' ⟨h1, h2⟩ => ⟨h1, k.trans h2 (fun _ _ z => z)⟩)
      have cE := hide fun (W : World) (k : Kept Nil w2 W) => ((tsame_c hb (H2.out.1.keep k).topo (H2.out.2.1.keep k).topo (by have := HF.out; omega) (by have := HF.out; omega) (by have := HF2.out; omega) (by have := HF2.out; omega)).mono (R' := fun e w' => e = .returned (.bool b) ∧ Kept Nil w2 w') fun e w' ⟨h1, h2⟩ => ⟨h1, k.trans h2 (fun _ _ z => z)⟩)
      have cRE := hide fun (W : World) (k : Kept Nil w2 W) => ((rtsame_c hb (H2.out.1.keep k).topo (H2.out.2.1.keep k).topo (by have := HF.out; omega) (by have := HF.out; omega) (by have := HF2.out; omega) (by have := HF2.out; omega)).mono (R' := fun e w' => e = .returned (.bool b) ∧ Kept Nil w2 w') fun e w' ⟨h1, h2⟩ => ⟨h1, k.trans h2 (fun _ _ z => z)⟩)
      have cA := hide fun (W : World) (k : Kept Nil w2 W) => ((awake_c W (HM.out.kept (H2.out.2.2.trans k (fun _ _ z => z)))).mono (R' := fun e w' => e = .returned (.bool true) ∧ Kept Nil w2 w') fun e w' ⟨h1, h2⟩ => ⟨h1, k.trans h2 (fun _ _ z => z)⟩)
      have CELLS := hide fun (W : World) (k : Kept Nil w2 W) => show W.cell? ⟨w.heap.size, 0, none⟩ = some (.slice A1 P.length c1) ∧ W.cell? ⟨w.heap.size, 1, none⟩ = some (.slice A2 T.length c2) ∧ W.cell? ⟨w.heap.size + 1, 0, none⟩ = some (.slice A3 P2.length c3) ∧ W.cell? ⟨w.heap.size + 1, 1, none⟩ = some (.slice A4 T2.length c4) from
        ⟨(H2.out.1.keep k).is_.cell 0, (H2.out.1.keep k).is_.cell 1, (H2.out.2.1.keep k).is_.cell 0, (H2.out.2.1.keep k).is_.cell 1⟩
      have hK : Kept Nil w2 w2.drew := (Kept.refl _ w2).drew
      clear hf hk hL hd hs hb hLl
      generalize chk P T = ck at *
      go_wp2_with fail
      go_region_held3 (fun W => W.cell? ⟨w.heap.size, 0, none⟩ = some (.slice A1 P.length c1) ∧ W.cell? ⟨w.heap.size, 1, none⟩ = some (.slice A2 T.length c2) ∧ W.cell? ⟨w.heap.size + 1, 0, none⟩ = some (.slice A3 P2.length c3) ∧ W.cell? ⟨w.heap.size + 1, 1, none⟩ = some (.slice A4 T2.length c4))
        (first | exact CELLS.out _ (by assumption) | exact CELLS.out _ (Kept.drew (by assumption)))
        (first
          | (go_at_call 11; refine (cC.out _ (by assumption)).mono ?_; rintro e w5 ⟨rfl, hk5⟩)
          | (go_at_call 17; refine (cRC.out _ (by assumption)).mono ?_; rintro e w5 ⟨rfl, hk5⟩)
          | (go_at_call 12; refine (cL.out _ (by assumption)).mono ?_; rintro e w5 ⟨vl, rfl, hvl, hk5⟩)
          | (go_at_call 19; refine (cRL.out _ (by assumption)).mono ?_; rintro e w6 ⟨vr, rfl, hvr, hk6, hj6⟩; have hvl2 := hvl.kept hj6)
          | (go_at_call 18; refine (cS.out _ _ _ (by assumption) (by assumption) (by assumption)).mono ?_; rintro e w5 ⟨rfl, hk5⟩)
          | (go_at_call 13; refine (cD.out _ (by assumption)).mono ?_; rintro e w5 ⟨rfl, hk5⟩)
          | (go_at_call 20; refine (cRD.out _ (by assumption)).mono ?_; rintro e w5 ⟨rfl, hk5⟩)
          | (go_at_call 9; refine (cT.out _ (by assumption)).mono ?_; rintro e w5 ⟨rfl, hk5⟩)
          | (go_at_call 21; refine (cRT.out _ (by assumption)).mono ?_; rintro e w5 ⟨rfl, hk5⟩)
          | (go_at_call 14; refine (cE.out _ (by assumption)).mono ?_; rintro e w5 ⟨rfl, hk5⟩)
          | (go_at_call 15; refine (cRE.out _ (by assumption)).mono ?_; rintro e w5 ⟨rfl, hk5⟩)
          | (go_at_call 8; refine (cA.out _ (by assumption)).mono ?_; rintro e w5 ⟨rfl, hk5⟩))
      all_goals go_wp2_with fail
      all_goals go_ret
      all_goals exact ⟨rfl, H2.out.2.2.trans (by assumption) (fun _ _ z => z)⟩
end
end Go.Proofs.YtcpcdfihgabelaaDoor
