/- Contracts of the document's Check, Leaves, Depth, Few; Same of both sides. -/
import Derived.Test.YtepajkakpkndmaaTRCheck
import Derived.Test.YtepajkakpkndmaaTCheck
namespace Go.Proofs.Ytepajkakpkndmaa
open Go.RowKit
set_option maxRecDepth 100000

theorem form_not {P : List Int} {k : Nat} (hk : 0 < k) (h : ¬ (0 ≤ P.getD k 0 ∧ P.getD k 0 < (k : Int))) : formAt P k = false := by
  unfold formAt
  rw [if_neg (by omega), Bool.and_eq_false_iff, decide_eq_false_iff_not, decide_eq_false_iff_not]
  by_cases h9 : 0 ≤ P.getD k 0
  · exact .inr fun h8 => h ⟨h9, h8⟩
  · exact .inl h9
/-- What the second loop of the document's Check knows behind k places. -/
def Seen (P : List Int) (k : Nat) (f : Int) : Prop := (lfk P k = [] ∧ f = 0) ∨ (lfk P k ≠ [] ∧ f = d0 P ∧ d0 P ≤ 5 ∧ ∀ x ∈ lfk P k, dv P x.toNat = d0 P)
theorem seen_none {P : List Int} {k : Nat} {f : Int} (h : Seen P k f) (hl : lfB P k = false) : Seen P (k + 1) f := by
  unfold Seen at *
  rwa [lfk_no hl]
theorem seen_first {P : List Int} {k : Nat} (hk : k < P.length) (h : Seen P k 0) (hf : formB P = true) (hl : lfB P k = true) : d0 P = dv P k := by
  rcases h with ⟨h1, _⟩ | ⟨h1, h2, _, h4⟩
  · exact d0_first hk h1 hl
  · obtain ⟨x, hx⟩ := List.exists_mem_of_ne_nil _ h1
    have hm := mem_lfk.1 hx
    obtain ⟨v, hv, rfl, _⟩ := hm
    have := h4 _ hx
    have hb := dv_bound hf v (by omega)
    rw [Int.toNat_natCast] at this
    omega
theorem seen_more {P : List Int} {k : Nat} {f : Int} (h : Seen P k f) (hl : lfB P k = true) (hd : d0 P = dv P k) (h5 : d0 P ≤ 5) : Seen P (k + 1) (dv P k) := by
  right
  rw [lfk_yes hl]
  refine ⟨by simp, hd.symm, h5, fun x hx => ?_⟩
  rcases List.mem_append.1 hx with h1 | h1
  · rcases h with ⟨h2, _⟩ | ⟨_, _, _, h4⟩
    · rw [h2] at h1
      cases h1
    · exact h4 x h1
  · simp at h1
    subst h1
    rw [Int.toNat_natCast, hd]
theorem seen_other {P : List Int} {k : Nat} {f : Int} (h : Seen P k f) (h0 : f ≠ 0) : f = d0 P ∧ d0 P ≤ 5 := by
  rcases h with ⟨_, h1⟩ | ⟨_, h1, h2, _⟩
  · exact absurd h1 h0
  · exact ⟨h1, h2⟩
theorem seen_all {P : List Int} {f : Int} (h : Seen P P.length f) (hf : formB P = true) (h0 : 0 < P.length) : treeB P = true := by
  unfold treeB
  rw [hf, Bool.true_and]
  rcases h with ⟨h1, _⟩ | ⟨_, _, h2, h3⟩
  · exact absurd h1 (lf_ne hf h0)
  · exact even_ok h2 h3
theorem tree_bad {P : List Int} (h : formB P = false ∨ evenB P = false) : treeB P = false := by
  unfold treeB
  rcases h with h | h <;> rw [h]
  · rfl
  · rw [Bool.and_false]

section
variable {w : World} {v : Value} {P T : List Int}
set_option maxHeartbeats 4000000
theorem rcheck_c (hv : Topo w v P T) : Calls Try.prog 19 #[v] w fun e w' => e = .returned (.int .i64 (chk P T)) ∧ Kept Nil w w' := by
  obtain ⟨va, vb, rfl, ha, hb⟩ := hv
  obtain ⟨w0, hw0⟩ : ∃ w0, w.alloc (.cells #[va, vb] 24) = w0 := ⟨_, rfl⟩
  have hi0 : Is w0 w.heap.size 24 #[va, vb] := by rw [← hw0]; exact Is.new w _ _
  have hk0 : Kept Nil w w0 := by rw [← hw0]; exact (Kept.refl _ w).alloc _
  have HA := hide (ha.kept hk0)
  have HB := hide (hb.kept hk0)
  have HK0 := hide hk0
  have q0 := hi0.cell 0
  have q1 := hi0.cell 1
  have HI0 := hide hi0
  obtain ⟨A1, c1, rfl, p1⟩ := HA.out
  obtain ⟨A2, c2, rfl, p2⟩ := HB.out
  have HP1 := hide p1
  have HP2 := hide p2
  clear hi0 hk0 p1 p2 ha hb
  by_cases hlen : 1 ≤ P.length ∧ P.length ≤ 32 ∧ 1 ≤ T.length ∧ T.length ≤ 32
  · have HL := hide hlen
    obtain ⟨l1, l2, l3, l4⟩ := hlen
    obtain ⟨g, o, rfl, hg, hc⟩ := HP1.out (by omega)
    have HC := hide hc
    have e0 := hc 0 (by omega)
    rw [Nat.add_zero] at e0
    have hd1 : decide ((P.length : Int) < 1) = false := by simp; omega
    have hd2 : decide ((32 : Int) < P.length) = false := by simp; omega
    have hd3 : decide ((T.length : Int) < 1) = false := by simp; omega
    have hd4 : decide ((32 : Int) < T.length) = false := by simp; omega
    have hl : P.length ≤ 65536 := by omega
    clear hc
    have HR : Hid (P.getD 0 0 ≠ -1 → chk P T = 9) := hide fun h => chk_tree HL.out (tree_bad (.inl (form_bad (v := 0) (by omega) (by unfold formAt; rw [if_pos rfl]; simpa using h))))
    have HR2 : Hid (P.getD 0 0 = -1 → formAt P 0 = true) := hide fun h => by unfold formAt; rw [if_pos rfl, h]; rfl
    obtain ⟨x, hx⟩ : ∃ x, P.getD 0 0 = x := ⟨_, rfl⟩
    rw [hx] at e0 HR HR2
    clear hx
    by_cases hx : x = -1
    · subst hx
      have HF0 := hide (HR2.out rfl)
      clear HR HR2
      go_enter Try.func19, Try.ntmps19
      go_wp2_with fail
      -- the parents
      go_loop [3] (fun i => ∃ k : Nat, 1 ≤ k ∧ k ≤ P.length ∧ i = .int .i64 k ∧ ∀ v, v < k → formAt P v = true) (fun i => P.length - (intOf i).toNat)
      case atStart => exact ⟨1, by omega, by omega, rfl, fun v hv => by rw [show v = 0 by omega]; exact HF0.out⟩
      case round =>
        obtain ⟨k, hk1, hk, rfl, hn⟩ := hrel
        have HN := hide hn
        clear hn
        by_cases hlt : k < P.length
        · have d1 := HC.out k hlt
          have HX : Hid (0 ≤ P.getD k 0 → P.getD k 0 < (k : Int) → ∀ v, v < k + 1 → formAt P v = true) := hide (fun h1 h2 v hv => by
            rcases Nat.lt_or_ge v k with h3 | h3
            · exact HN.out v h3
            · obtain rfl : v = k := by omega
              unfold formAt
              rw [if_neg (by omega), decide_eq_true h1, decide_eq_true h2]
              rfl)
          have HY : Hid (¬ (0 ≤ P.getD k 0 ∧ P.getD k 0 < (k : Int)) → chk P T = 9) := hide (fun h => chk_tree HL.out (tree_bad (.inl (form_bad hlt (form_not (by omega) h)))))
          obtain ⟨x, hx⟩ : ∃ x, P.getD k 0 = x := ⟨_, rfl⟩
          rw [hx] at d1 HX HY
          clear hx
          by_cases h1 : x < 0
          · have HM := hide (HY.out (by omega))
            clear HX HY
            go_wp2_with fail
            go_ret
            exact ⟨by rw [HM.out]; rfl, HK0.out⟩
          · have hx1 : decide (x < 0) = false := by simpa using h1
            by_cases h2 : x < (k : Int)
            · have HM := hide (HX.out (by omega) h2)
              have hx2 : decide ((k : Int) ≤ x) = false := by simpa using h2
              clear HX HY h1
              go_wp2_with fail
              go_round
              case rel => exact ⟨k + 1, by omega, by omega, by go_num, HM.out⟩
              case measure => simp [intOf]; omega
            · have HM := hide (HY.out (by omega))
              have hx2 : (k : Int) ≤ x := by omega
              clear HX HY h1 h2
              go_wp2_with fail
              go_ret
              exact ⟨by rw [HM.out]; rfl, HK0.out⟩
        · obtain rfl : k = P.length := by omega
          have HF := hide (form_ok HN.out)
          clear HN
          go_wp2_with fail
          -- the depths
          go_loop [4, 5] (fun i4 i5 => ∃ (f : Int) (k : Nat), k ≤ P.length ∧ i4 = .int .i64 f ∧ i5 = .int .i64 k ∧ Seen P k f) (fun _ i => P.length - (intOf i).toNat)
          case atStart => exact ⟨0, 0, Nat.zero_le _, rfl, rfl, .inl ⟨rfl, rfl⟩⟩
          case round =>
            obtain ⟨f, k, hk, rfl, rfl, hs⟩ := hrel
            have HS := hide hs
            clear hs
            by_cases hlt : k < P.length
            · cases hlf : lfB P k with
              | false =>
                have HM := hide (seen_none HS.out hlf)
                have cl := leaf_c (w := w0) (P := P) (k : Int) (by rw [leaf_is P hlt, hlf]) HA.out hl
                clear hlf
                go_wp2_with fail
                refine cl.mono ?_
                rintro e w' ⟨rfl, rfl⟩
                go_wp2_with fail
                go_round
                case rel => exact ⟨f, k + 1, by omega, rfl, by go_num, HM.out⟩
                case measure => simp [intOf]; omega
              | true =>
                have cl := leaf_c (w := w0) (P := P) (k : Int) (by rw [leaf_is P hlt, hlf]) HA.out hl
                have cd := deep_c (w := w0) k rfl hlt HF.out HA.out hl
                have hbd := dv_bound HF.out k hlt
                have HT1 : Hid (dv P k ≠ d0 P → chk P T = 9) := hide fun h => chk_tree HL.out (tree_bad (.inr (even_bad (lfk_mem hlt hlf) (by rw [Int.toNat_natCast]; exact h))))
                have HT2 : Hid (¬ d0 P ≤ 5 → chk P T = 9) := hide fun h => chk_tree HL.out (tree_bad (.inr (even_deep h)))
                have HS1 : Hid (f = 0 → d0 P = dv P k) := hide fun h => seen_first hlt (h ▸ HS.out) HF.out hlf
                have HS2 : Hid (d0 P = dv P k → d0 P ≤ 5 → Seen P (k + 1) (dv P k)) := hide fun h1 h2 => seen_more HS.out hlf h1 h2
                have HS3 : Hid (f ≠ 0 → f = d0 P ∧ d0 P ≤ 5) := hide fun h => seen_other HS.out h
                generalize dv P k = d at *
                clear hlf
                by_cases hf0 : f = 0
                · subst hf0
                  have h0d := HS1.out rfl
                  by_cases h5 : d ≤ 5
                  · have HM := hide (HS2.out h0d (by omega))
                    clear HT1 HT2 HS1 HS2 HS3 h0d
                    have hg5 : decide ((5 : Int) < d) = false := by simpa using h5
                    go_wp2_with fail
                    refine cl.mono ?_
                    rintro e w' ⟨rfl, rfl⟩
                    go_wp2_with fail
                    refine cd.mono ?_
                    rintro e w' ⟨rfl, rfl⟩
                    go_wp2_with fail
                    go_round
                    case rel => exact ⟨d, k + 1, by omega, rfl, by go_num, HM.out⟩
                    case measure => simp [intOf]; omega
                  · have HM := hide (HT2.out (by omega))
                    clear HT1 HT2 HS1 HS2 HS3 h0d
                    have hg5 : (5 : Int) < d := by omega
                    go_wp2_with fail
                    refine cl.mono ?_
                    rintro e w' ⟨rfl, rfl⟩
                    go_wp2_with fail
                    refine cd.mono ?_
                    rintro e w' ⟨rfl, rfl⟩
                    go_wp2_with fail
                    go_ret
                    exact ⟨by rw [HM.out]; rfl, HK0.out⟩
                · have h3 := HS3.out hf0
                  have hne0 : (f == 0) = false := by simpa using hf0
                  by_cases hdf : d = f
                  · have HM := hide (HS2.out (by omega) (by omega))
                    have hg5 : decide ((5 : Int) < f) = false := by simp; omega
                    subst hdf
                    clear HT1 HT2 HS1 HS2 HS3 h3 hf0
                    go_wp2_with fail
                    refine cl.mono ?_
                    rintro e w' ⟨rfl, rfl⟩
                    go_wp2_with fail
                    refine cd.mono ?_
                    rintro e w' ⟨rfl, rfl⟩
                    go_wp2_with fail
                    go_round
                    case rel => exact ⟨d, k + 1, by omega, rfl, by go_num, HM.out⟩
                    case measure => simp [intOf]; omega
                  · have HM := hide (HT1.out (by omega))
                    have hne1 : (d != f) = true := by simpa using hdf
                    have hne2 : (d == f) = false := by simpa using hdf
                    clear HT1 HT2 HS1 HS2 HS3 h3 hf0 hdf
                    go_wp2_with fail
                    refine cl.mono ?_
                    rintro e w' ⟨rfl, rfl⟩
                    go_wp2_with fail
                    refine cd.mono ?_
                    rintro e w' ⟨rfl, rfl⟩
                    go_wp2_with fail
                    go_ret
                    exact ⟨by rw [HM.out]; rfl, HK0.out⟩
            · obtain rfl : k = P.length := by omega
              have HT := hide (seen_all HS.out HF.out (by omega))
              clear HS
              go_wp2_with fail
              -- the threads
              go_loopw [7] (fun i wr => ∃ k : Nat, k ≤ T.length ∧ i = .int .i64 k ∧ (∀ x ∈ T.take k, x ∈ lf P) ∧ ∃ q, wr = w0.drewN q) (fun i _ => T.length - (intOf i).toNat)
              case atStart => exact ⟨0, Nat.zero_le _, rfl, by simp, 0, rfl⟩
              case round =>
                obtain ⟨k, hk, rfl, hn, q, hq⟩ := hrel
                have HN := hide hn
                have HQ : Hid (∀ n, ∃ m, wr.drewN n = w0.drewN m) := hide fun n => ⟨q + n, by rw [hq, World.drewN_drewN]⟩
                have HW := hide (show Kept Nil w0 wr by rw [hq]; exact (Kept.refl _ _).drewN q)
                have r0 := (HI0.out.kept HW.out (fun z => z)).cell 0
                have r1 := (HI0.out.kept HW.out (fun z => z)).cell 1
                clear hn hq q0 q1
                by_cases hlt : k < T.length
                · obtain ⟨g2, o2, rfl, hg2, hc2⟩ := HP2.out (by omega)
                  have d1 := (HW.out.cell (p := ⟨g2, o2 + k, none⟩) hg2 (fun z => z)).trans (hc2 k hlt)
                  have HX := hide (fun h => all_in2 (Q := fun x => x ∈ lf P) hlt HN.out h)
                  have HI := hide (getD_in hlt)
                  clear hc2
                  obtain ⟨x, hx⟩ : ∃ x, T.getD k 0 = x := ⟨_, rfl⟩
                  rw [hx] at d1 HX HI
                  clear hx
                  cases hin : (lf P).contains x with
                  | false =>
                    have HM := hide (chk_none HL.out HT.out HI.out (by simpa using hin))
                    have cc := fun n => leaf_c (w := wr.drewN n) x hin (HA.out.kept (HW.out.drewN n)) hl
                    clear hin
                    go_wp2_with fail
                    go_quiet ((go_at_call 41; exact Calls.quiet_of_same (cc _)))
                    go_wp2_with fail
                    go_ret
                    exact ⟨by rw [HM.out]; rfl, HK0.out.trans (HW.out.drewN _) (fun _ _ z => z)⟩
                  | true =>
                    have HM := hide (HX.out (List.contains_iff_mem.1 hin))
                    have cc := fun n => leaf_c (w := wr.drewN n) x hin (HA.out.kept (HW.out.drewN n)) hl
                    clear hin
                    go_wp2_with fail
                    go_quiet ((go_at_call 41; exact Calls.quiet_of_same (cc _)))
                    go_wp2_with fail
                    go_roundw
                    case rel => exact ⟨k + 1, by omega, by go_num, HM.out, HQ.out _⟩
                    case measure => simp [intOf]; omega
                · obtain rfl : k = T.length := by omega
                  have HM := hide (chk_ok HL.out HT.out (by have := HN.out; rwa [List.take_length] at this))
                  go_wp2_with fail
                  go_ret
                  exact ⟨by rw [HM.out]; rfl, HK0.out.trans HW.out (fun _ _ z => z)⟩
    · have HM := hide (HR.out hx)
      have hne : (x == -1) = false := by simpa using hx
      have hne2 : (x != -1) = true := by simpa using hx
      clear HR HR2 hx
      go_enter Try.func19, Try.ntmps19
      go_wp2_with fail
      go_ret
      exact ⟨by rw [HM.out]; rfl, HK0.out⟩
  · have HM := hide (chk_many hlen)
    by_cases h1 : P.length < 1
    · have hd1 : (P.length : Int) < 1 := by omega
      clear hlen h1
      go_enter Try.func19, Try.ntmps19
      go_wp2_with fail
      go_ret
      exact ⟨by rw [HM.out]; rfl, HK0.out⟩
    have hd1 : decide ((P.length : Int) < 1) = false := by simp; omega
    by_cases h2 : 32 < P.length
    · have hd2 : (32 : Int) < P.length := by omega
      clear hlen h1
      go_enter Try.func19, Try.ntmps19
      go_wp2_with fail
      go_ret
      exact ⟨by rw [HM.out]; rfl, HK0.out⟩
    have hd2 : decide ((32 : Int) < P.length) = false := by simp; omega
    by_cases h3 : T.length < 1
    · have hd3 : (T.length : Int) < 1 := by omega
      clear hlen h1 h2 h3
      go_enter Try.func19, Try.ntmps19
      go_wp2_with fail
      go_ret
      exact ⟨by rw [HM.out]; rfl, HK0.out⟩
    have hd3 : decide ((T.length : Int) < 1) = false := by simp; omega
    have hd4 : (32 : Int) < T.length := by omega
    clear hlen h1 h2 h3
    go_enter Try.func19, Try.ntmps19
    go_wp2_with fail
    go_ret
    exact ⟨by rw [HM.out]; rfl, HK0.out⟩
end
end Go.Proofs.Ytepajkakpkndmaa
