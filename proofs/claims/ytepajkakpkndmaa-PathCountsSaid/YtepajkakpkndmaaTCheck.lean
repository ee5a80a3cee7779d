/- Contracts of Check, Leaves, Depth, Same of package topo. -/
import Derived.Test.YtepajkakpkndmaaTIsTree
import Derived.Deep.RegionWith
namespace Go.Proofs.Ytepajkakpkndmaa
open Go.RowKit
set_option maxRecDepth 100000

theorem lens_bad {P T : List Int} (h : (decide (1 ≤ (P.length : Int)) && decide ((P.length : Int) ≤ 32)) = false ∨ (decide (1 ≤ (T.length : Int)) && decide ((T.length : Int) ≤ 32)) = false) : chk P T = 8 := by
  refine chk_many fun ⟨h1, h2, h3, h4⟩ => ?_
  rcases h with h | h <;> simp at h <;> omega
theorem lens_ok {P T : List Int} (h1 : (decide (1 ≤ (P.length : Int)) && decide ((P.length : Int) ≤ 32)) = true) (h2 : (decide (1 ≤ (T.length : Int)) && decide ((T.length : Int) ≤ 32)) = true) : 1 ≤ P.length ∧ P.length ≤ 32 ∧ 1 ≤ T.length ∧ T.length ≤ 32 := by
  simp at h1 h2
  omega
theorem all_in {l : List Int} {k : Nat} {Q : Int → Prop} (hk : k < l.length) (h : ∀ x ∈ l.take k, Q x) (hx : Q (l.getD k 0)) : ∀ x ∈ l.take (k + 1), Q x := by
  rw [List.take_succ_eq_append_getElem hk]
  intro x hm
  rcases List.mem_append.1 hm with h1 | h1
  · exact h x h1
  · simp at h1
    subst h1
    simpa [List.getD, hk] using hx
/-- A topology in a box of its own. -/
theorem load_pair {w : World} {b : Nat} {va vb : Value} (h : Is w b 24 #[va, vb]) : w.cell? ⟨b, 0, none⟩ = some va ∧ w.cell? ⟨b, 1, none⟩ = some vb := ⟨h.cell 0, h.cell 1⟩

section
variable {w : World} {v : Value} {P T : List Int}
set_option maxHeartbeats 2000000
theorem tcheck_c (hv : Topo w v P T) : Calls Try.prog 29 #[v] w fun e w' => e = .returned (.int .i64 (chk P T)) ∧ Kept Nil w w' := by
  obtain ⟨va, vb, rfl, ha, hb⟩ := hv
  obtain ⟨w0, hw0⟩ : ∃ w0, w.alloc (.cells #[va, vb] 24) = w0 := ⟨_, rfl⟩
  have hi0 : Is w0 w.heap.size 24 #[va, vb] := by rw [← hw0]; exact Is.new w _ _
  have hk0 : Kept Nil w w0 := by rw [← hw0]; exact (Kept.refl _ w).alloc _
  have H0 := hide (And.intro hi0 (And.intro hk0 (And.intro (ha.kept hk0) (hb.kept hk0))))
  have q0 := hi0.cell 0
  have q1 := hi0.cell 1
  obtain ⟨A1, c1, rfl, p1⟩ := ha
  obtain ⟨A2, c2, rfl, p2⟩ := hb
  clear hi0 hk0 p1 p2
  go_enter Try.func29, Try.ntmps29
  go_wp2_with fail
  refine (some_c (w := w0) (P.length : Int) 32 rfl).mono ?_
  rintro e w' ⟨rfl, rfl⟩
  cases h1 : (decide (1 ≤ (P.length : Int)) && decide ((P.length : Int) ≤ 32)) with
  | false =>
    have HM := hide (lens_bad (T := T) (.inl h1))
    clear h1
    go_wp2_with fail
    go_ret
    exact ⟨by rw [HM.out]; rfl, H0.out.2.1⟩
  | true =>
    have HL1 := hide h1
    clear h1
    go_wp2_with fail
    refine (some_c (w := w0) (T.length : Int) 32 rfl).mono ?_
    rintro e w' ⟨rfl, rfl⟩
    cases h2 : (decide (1 ≤ (T.length : Int)) && decide ((T.length : Int) ≤ 32)) with
    | false =>
      have HM := hide (lens_bad (P := P) (.inr h2))
      clear h2
      go_wp2_with fail
      go_ret
      exact ⟨by rw [HM.out]; rfl, H0.out.2.1⟩
    | true =>
      have HL := hide (lens_ok HL1.out h2)
      clear h2
      go_wp2_with fail
      cases ht : treeB P with
      | false =>
        have HM := hide (chk_tree HL.out ht)
        refine (isTree_c ht H0.out.2.2.1 (by have := HL.out; omega) (by have := HL.out; omega)).mono ?_
        rintro e w1 ⟨rfl, hk1⟩
        have H1 := hide (H0.out.2.1.trans hk1 (fun _ _ z => z))
        clear hk1 ht
        go_wp2_with fail
        go_ret
        exact ⟨by rw [HM.out]; rfl, H1.out⟩
      | true =>
        have HT := hide ht
        refine (isTree_c ht H0.out.2.2.1 (by have := HL.out; omega) (by have := HL.out; omega)).mono ?_
        rintro e w1 ⟨rfl, hk1⟩
        have H1 := hide (And.intro (H0.out.1.kept hk1 (fun z => z)) (And.intro (H0.out.2.1.trans hk1 (fun _ _ z => z)) (And.intro (H0.out.2.2.1.kept hk1) (H0.out.2.2.2.kept hk1))))
        have q0 := H1.out.1.cell 0
        clear hk1 ht
        go_wp2_with fail
        refine (bare_c H1.out.2.2.1 (by have := HL.out; omega)).mono ?_
        rintro e w2 ⟨v2, rfl, hv2, hk2⟩
        have H2 := hide (And.intro (H1.out.1.kept hk2 (fun z => z)) (And.intro (H1.out.2.1.trans hk2 (fun _ _ z => z)) (And.intro hv2 (H1.out.2.2.2.kept hk2))))
        have q1 := H2.out.1.cell 1
        have hb32 : T.length ≤ 32 := by have := HL.out; omega
        clear hk2 hv2
        go_wp2_with fail
        go_loop [28] (fun i => ∃ k : Nat, k ≤ T.length ∧ i = .int .i64 k ∧ ∀ x ∈ T.take k, x ∈ lf P) (fun i => T.length - (intOf i).toNat)
        case atStart => exact ⟨0, Nat.zero_le _, rfl, by simp⟩
        case round =>
          obtain ⟨k, hk, rfl, hn⟩ := hrel
          have HN := hide hn
          clear hn
          by_cases hlt : k < T.length
          · obtain ⟨A3, c3, e3, p3⟩ := H2.out.2.2.2
            injection e3 with e3 _ e5
            subst e3 e5
            obtain ⟨g, o, rfl, hg, hc⟩ := p3 (by omega)
            have d1 := hc k hlt
            have HX := hide (fun h => all_in (Q := fun x => x ∈ lf P) hlt HN.out h)
            have HI := hide (getD_in hlt)
            clear hc p3
            obtain ⟨x, hx⟩ : ∃ x, T.getD k 0 = x := ⟨_, rfl⟩
            rw [hx] at d1 HX HI
            clear hx
            cases hin : (lf P).contains x with
            | false =>
              have HM := hide (chk_none HL.out HT.out HI.out (by simpa using hin))
              have cc := contains_c x hin H2.out.2.2.1 (Nat.le_trans lfk_len (by have := HL.out; omega))
              clear hin
              go_wp2_with fail
              refine cc.mono ?_
              rintro e w' ⟨rfl, rfl⟩
              go_wp2_with fail
              go_ret
              exact ⟨by rw [HM.out]; rfl, H2.out.2.1⟩
            | true =>
              have HM := hide (HX.out (List.contains_iff_mem.1 hin))
              have cc := contains_c x hin H2.out.2.2.1 (Nat.le_trans lfk_len (by have := HL.out; omega))
              clear hin
              go_wp2_with fail
              refine cc.mono ?_
              rintro e w' ⟨rfl, rfl⟩
              go_wp2_with fail
              go_round
              case rel => exact ⟨k + 1, by omega, by go_num, HM.out⟩
              case measure => simp [intOf]; omega
          · obtain rfl : k = T.length := by omega
            have HM := hide (chk_ok HL.out HT.out (by have := HN.out; rwa [List.take_length] at this))
            go_wp2_with fail
            go_ret
            exact ⟨by rw [HM.out]; rfl, H2.out.2.1⟩
/-- Leaves. -/
theorem leaves_c {L : List Int} (hL : (if chk P T = 0 then lf P else []) = L) (hv : Topo w v P T) : Calls Try.prog 31 #[v] w fun e w' => ∃ v', e = .returned v' ∧ Nums w' v' L ∧ Kept Nil w w' := by
  have HL := hide hL
  clear hL
  obtain ⟨va, vb, rfl, ha, hb⟩ := hv
  obtain ⟨w0, hw0⟩ : ∃ w0, w.alloc (.cells #[va, vb] 24) = w0 := ⟨_, rfl⟩
  have hi0 : Is w0 w.heap.size 24 #[va, vb] := by rw [← hw0]; exact Is.new w _ _
  have hk0 : Kept Nil w w0 := by rw [← hw0]; exact (Kept.refl _ w).alloc _
  have H0 := hide (And.intro hi0 (And.intro hk0 (And.intro (ha.kept hk0) (hb.kept hk0))))
  have cc := tcheck_c (w := w0) (v := .agg #[va, vb]) ⟨va, vb, rfl, H0.out.2.2.1, H0.out.2.2.2⟩
  obtain ⟨q2, q3⟩ := load_pair hi0
  clear hi0 hk0 ha hb
  go_enter Try.func31, Try.ntmps31
  go_wp2_with fail
  refine cc.mono ?_
  rintro e w1 ⟨rfl, hk1⟩
  have H1 := hide (And.intro (H0.out.1.kept hk1 (fun z => z)) (And.intro (H0.out.2.1.trans hk1 (fun _ _ z => z)) (H0.out.2.2.1.kept hk1)))
  clear hk1
  by_cases h0 : chk P T = 0
  · have hlen := (chk_zero h0).1
    have HM : Hid (L = lf P) := hide (by rw [← HL.out, if_pos h0])
    rw [h0]
    clear h0
    have q0 := H1.out.1.cell 0
    go_wp2_with fail
    refine (bare_c H1.out.2.2 (by omega)).mono ?_
    rintro e w2 ⟨v2, rfl, hv2, hk2⟩
    have H2 := hide (And.intro hv2 (H1.out.2.1.trans hk2 (fun _ _ z => z)))
    clear hk2 hv2
    go_wp2_with fail
    go_ret
    exact ⟨_, rfl, by rw [HM.out]; exact H2.out.1, H2.out.2⟩
  · have HM : Hid (L = []) := hide (by rw [← HL.out, if_neg h0])
    have hne : (chk P T != 0) = true := by simpa using h0
    generalize chk P T = c at *
    clear h0
    go_wp2_with fail
    go_ret
    exact ⟨_, rfl, by rw [HM.out]; exact Nums.nil _ _ _, H1.out.2.1⟩
end
end Go.Proofs.Ytepajkakpkndmaa
