/- Contracts of isTree, Check, Leaves, Depth, Same. -/
import Derived.Test.YtepajkakpkndmaaTTreeC
import Derived.Deep.RegionHeld3
namespace Go.Proofs.Ytepajkakpkndmaa
open Go.RowKit
set_option maxRecDepth 100000

/-- A topology's value. -/
def Topo (w : World) (v : Value) (P T : List Int) : Prop := ∃ a b, v = .agg #[a, b] ∧ Nums w a P ∧ Nums w b T
theorem Topo.kept {w w' : World} {v : Value} {P T : List Int} (h : Topo w v P T) (k : Kept Nil w w') : Topo w' v P T := by
  obtain ⟨a, b, e, h1, h2⟩ := h
  exact ⟨a, b, e, h1.kept k, h2.kept k⟩
/-- The first leaf, as a place. -/
theorem first_leaf {P : List Int} (hf : formB P = true) (h0 : 0 < P.length) : ∃ r : Nat, r < P.length ∧ (lf P).getD 0 0 = (r : Int) ∧ d0 P = dv P r ∧ 0 < (lf P).length := by
  have hne := lf_ne hf h0
  cases hl : lf P with
  | nil => exact absurd hl hne
  | cons x t =>
    have hm : x ∈ lf P := by rw [hl]; exact List.mem_cons_self ..
    rw [mem_lf] at hm
    refine ⟨x.toNat, by omega, by show x = _; omega, ?_, by simp⟩
    unfold d0
    rw [hl]
    rfl

theorem even_any {P : List Int} (h : d0 P ≤ 5) : (lf P).any (fun x => dv P x.toNat != d0 P) = !evenB P := by
  unfold evenB
  rw [decide_eq_true h, Bool.true_and]
  generalize lf P = l
  induction l with
  | nil => rfl
  | cons x t ih =>
    rw [List.any_cons, List.all_cons, ih]
    show (!(dv P x.toNat == d0 P) || _) = _
    rw [Bool.not_and]

section
variable {w : World} {v : Value} {P T : List Int}
set_option maxHeartbeats 2000000
theorem isTree_c {b : Bool} (hb : treeB P = b) (hv : Nums w v P) (h0 : 0 < P.length) (hl : P.length ≤ 65536) : Calls Try.prog 46 #[v] w fun e w' => e = .returned (.bool b) ∧ Kept Nil w w' := by
  have HB := hide hb
  have HV := hide hv
  obtain ⟨A0, c0, rfl, hp⟩ := hv
  have HP := hide hp
  clear hb hp
  go_enter Try.func46, Try.ntmps46
  go_wp2_with fail
  go_loop [10] (fun i => ∃ k : Nat, k ≤ P.length ∧ i = .int .i64 k ∧ ∀ v, v < k → formAt P v = true) (fun i => P.length - (intOf i).toNat)
  case atStart => exact ⟨0, Nat.zero_le _, rfl, fun v hv => by omega⟩
  case round =>
    obtain ⟨k, hk, rfl, hn⟩ := hrel
    have HN := hide hn
    clear hn
    by_cases hlt : k < P.length
    · obtain ⟨g, o, rfl, hg, hc⟩ := HP.out h0
      have c1 := hc k hlt
      have HX : Hid (formAt P k = true → ∀ v, v < k + 1 → formAt P v = true) := hide (fun h v hv => by
        rcases Nat.lt_or_ge v k with h1 | h1
        · exact HN.out v h1
        · obtain rfl : v = k := by omega
          exact h)
      have HF : Hid (formAt P k = false → treeB P = false) := hide (fun h => by unfold treeB; rw [form_bad hlt h]; rfl)
      have HA : Hid (formAt P k = if k = 0 then P.getD 0 0 == -1 else decide (0 ≤ P.getD k 0) && decide (P.getD k 0 < (k : Int))) := hide rfl
      clear hc
      rcases Nat.eq_zero_or_pos k with hk0 | hk0
      · subst hk0
        simp only [Nat.add_zero] at c1
        have HA2 : Hid (formAt P 0 = (P.getD 0 0 == -1)) := hide (by rw [HA.out]; rfl)
        obtain ⟨x, hx⟩ : ∃ x, P.getD 0 0 = x := ⟨_, rfl⟩
        rw [hx] at c1 HA2
        clear hx HA
        by_cases hx : x = -1
        · subst hx
          have HM := hide (HX.out HA2.out)
          clear HX HF HA2
          go_wp2_with fail
          go_round
          case rel => exact ⟨1, by omega, rfl, HM.out⟩
          case measure => simp [intOf]; omega
        · have hne : (x == -1) = false := by simpa using hx
          have hne2 : (x != -1) = true := by simpa using hx
          have HM := hide (HF.out (by rw [HA2.out, hne]))
          clear HX HF HA2 hx
          go_wp2_with fail
          go_ret
          exact ⟨ret_no HM.out HB.out, Kept.refl _ _⟩
      · have HA2 : Hid (formAt P k = (decide (0 ≤ P.getD k 0) && decide (P.getD k 0 < (k : Int)))) := hide (by rw [HA.out, if_neg (by omega)])
        obtain ⟨x, hx⟩ : ∃ x, P.getD k 0 = x := ⟨_, rfl⟩
        rw [hx] at c1 HA2
        clear hx HA
        by_cases h1 : x < 0
        · have HM := hide (HF.out (by rw [HA2.out, show decide (0 ≤ x) = false by simpa using h1]; rfl))
          clear HX HF HA2
          go_wp2_with fail
          go_ret
          exact ⟨ret_no HM.out HB.out, Kept.refl _ _⟩
        · by_cases h2 : x < (k : Int)
          · have HM := hide (HX.out (by rw [HA2.out]; simp [h2]; omega))
            have hd1 : decide (x < 0) = false := by simpa using h1
            have hd2 : decide ((k : Int) ≤ x) = false := by simpa using h2
            clear HX HF HA2 h1
            go_wp2_with fail
            go_round
            case rel => exact ⟨k + 1, by omega, by go_num, HM.out⟩
            case measure => simp [intOf]; omega
          · have HM := hide (HF.out (by rw [HA2.out, show decide (x < (k : Int)) = false by simpa using h2, Bool.and_false]))
            have hd1 : decide (x < 0) = false := by simpa using h1
            have hd2 : (k : Int) ≤ x := by omega
            clear HX HF HA2 h1 h2
            go_wp2_with fail
            go_ret
            exact ⟨ret_no HM.out HB.out, Kept.refl _ _⟩
    · obtain rfl : k = P.length := by omega
      have hf : formB P = true := form_ok HN.out
      have HF := hide hf
      have HT : Hid (treeB P = evenB P) := hide (by unfold treeB; rw [hf]; rfl)
      clear hf HN
      go_wp2_with fail
      refine (bare_c HV.out hl).mono ?_
      rintro e w1 ⟨v1, rfl, hv1, hk1⟩
      have H1 := hide (And.intro hv1 hk1)
      clear hv1 hk1
      go_wp2_with fail
      refine (depths_c (HV.out.kept H1.out.2) HF.out hl).mono ?_
      rintro e w2 ⟨v2, rfl, hv2, hk2⟩
      have H2 := hide (And.intro hv2 (And.intro (H1.out.1.kept hk2) (H1.out.2.trans hk2 (fun _ _ z => z))))
      clear hv2 hk2
      obtain ⟨A1, n1, rfl, p1⟩ := H2.out.2.1
      obtain ⟨A2, n2, rfl, p2⟩ := H2.out.1
      obtain ⟨r, hr, hr1, hr2, hr3⟩ := first_leaf HF.out h0
      obtain ⟨g1, o1, rfl, hg1, j1⟩ := p1 hr3
      have e1 := j1 0 hr3
      rw [hr1, Nat.add_zero] at e1
      have hdl := @dl_len P P.length
      obtain ⟨g2, o2, rfl, hg2, j2⟩ := p2 (by rw [hdl]; exact h0)
      have e2 := j2 r (by rw [hdl]; exact hr)
      rw [dl_at hr, ← hr2] at e2
      have HJ := hide j2
      have HDL := hide hdl
      rw [hdl]
      have hr4 : (r : Int) < (P.length : Int) := by omega
      have HS := hide hr2
      have hk2 := HDL.out
      clear p1 p2 j1 j2 hr1 hr2 hdl hk2
      have HE5 : Hid (¬ d0 P ≤ 5 → treeB P = false) := hide (fun h => by rw [HT.out, even_deep h])
      have HEA := hide (even_any (P := P))
      generalize d0 P = d at *
      go_wp2_with fail
      go_region
      obtain ⟨w3, hw3⟩ : ∃ w3, ((w2.alloc (.cells #[.slice (some ⟨g2, o2, none⟩) P.length n2] 22)).alloc (.cells #[.int .i64 d] 3)).drew = w3 := ⟨_, rfl⟩
      have m1 : w3.cell? ⟨w2.heap.size, 0, none⟩ = some (.slice (some ⟨g2, o2, none⟩) P.length n2) := by
        rw [← hw3]
        exact (((Is.new w2 22 #[.slice (some ⟨g2, o2, none⟩) P.length n2]).alloc _).drew).cell 0
      have m2 : w3.cell? ⟨w2.heap.size + 1, 0, none⟩ = some (.int .i64 d) := by
        rw [← hw3]
        simp
      have hk3 : Kept Nil w2 w3 := by
        rw [← hw3]
        exact (((Kept.refl _ w2).alloc _).alloc _).drew
      have H3 := hide (And.intro hk3 (And.intro m1 m2))
      rw [hw3]
      clear hw3 hk3 m1 m2 e1 e2
      by_cases h5 : d ≤ 5
      · have cf : ∀ b', (lf P).any (fun x => dv P x.toNat != d) = b' → Calls Try.prog 51 #[.slice (some ⟨g1, o1, none⟩) (lf P).length n1, .func (.func 52) #[] #[.pointer (some ⟨w2.heap.size, 0, none⟩), .pointer (some ⟨w2.heap.size + 1, 0, none⟩)]] w3 fun e w' => e = .returned (.bool b') ∧ Kept Nil w3 w' := fun b' hb' =>
          containsfunc_c (q := fun x => dv P x.toNat != d) (fun _ _ => by rfl) hb' (H2.out.2.1.kept H3.out.1) (Nat.le_trans lfk_len hl) (fun W hW x hx => by
            rw [mem_lf] at hx
            obtain ⟨k, rfl⟩ : ∃ k : Nat, x = k := ⟨x.toNat, by omega⟩
            have hkl : k < P.length := by omega
            have hj := HJ.out k (by rw [HDL.out]; exact hkl)
            rw [dl_at hkl] at hj
            have hk := other_c (w := W) (b1 := w2.heap.size) (b2 := w2.heap.size + 1) (A := some ⟨g2, o2, none⟩) (n := P.length) (c := n2) (k := k) (d := d) (x := dv P k)
              ((hW.cell (World.block_lt_of_cell? _ _ H3.out.2.1) (fun c => c)).trans H3.out.2.1) ((hW.cell (World.block_lt_of_cell? _ _ H3.out.2.2) (fun c => c)).trans H3.out.2.2) hkl
              ⟨g2, o2, rfl, (hW.cell (World.block_lt_of_cell? _ _ ((H3.out.1.cell (p := ⟨g2, o2 + k, none⟩) hg2 (fun c => c)).trans hj)) (fun c => c)).trans ((H3.out.1.cell (p := ⟨g2, o2 + k, none⟩) hg2 (fun c => c)).trans hj)⟩
            exact hk)
        cases hq : (lf P).any (fun x => dv P x.toNat != d) with
        | true =>
          have HM : Hid (treeB P = false) := hide (by
            rw [HT.out]
            have := HEA.out h5
            rw [hq] at this
            cases he : evenB P with
            | true => rw [he] at this; cases this
            | false => rfl)
          have cf2 := cf true hq
          have m2 := H3.out.2.2
          clear cf hq
          go_wp2_with fail
          refine cf2.mono ?_
          rintro e w4 ⟨rfl, hk4⟩
          have HK4 := hide ((H2.out.2.2.trans H3.out.1 (fun _ _ z => z)).trans hk4 (fun _ _ z => z))
          clear hk4
          go_wp2_with fail
          go_ret
          exact ⟨ret_no HM.out HB.out, HK4.out⟩
        | false =>
          have HM : Hid (treeB P = true) := hide (by
            rw [HT.out]
            have := HEA.out h5
            rw [hq] at this
            cases he : evenB P with
            | true => rfl
            | false => rw [he] at this; cases this)
          have cf2 := cf false hq
          have m2 := H3.out.2.2
          clear cf hq
          go_wp2_with fail
          refine cf2.mono ?_
          rintro e w4 ⟨rfl, hk4⟩
          have HK4 := hide ((H2.out.2.2.trans H3.out.1 (fun _ _ z => z)).trans hk4 (fun _ _ z => z))
          clear hk4
          go_wp2_with fail
          go_ret
          exact ⟨ret_yes HM.out HB.out, HK4.out⟩
      · have HM := hide (HE5.out (by omega))
        have h6 : decide (d ≤ 5) = false := by simpa using h5
        have HK3 := hide (H2.out.2.2.trans H3.out.1 (fun _ _ z => z))
        have m2 := H3.out.2.2
        clear h5
        go_wp2_with fail
        go_ret
        exact ⟨ret_no HM.out HB.out, HK3.out⟩
end
end Go.Proofs.Ytepajkakpkndmaa
