/- The laws of layer 3, walked. -/
import Derived.Test.YtnacpemhklbiaaaDoorDRNumbers
namespace Go.Proofs.YtnacpemhklbiaaaDoor
open Go.RowKit

/-! ## What must come, whatever the arguments are -/
theorem t_min : txt (-9223372036854775808) = [45, 57, 50, 50, 51, 51, 55, 50, 48, 51, 54, 56, 53, 52, 55, 55, 53, 56, 48, 56] := by
  rw [txt_neg (by omega)]
  simp [nt, dg]
theorem t_over : nt 9223372036854775808 = [57, 50, 50, 51, 51, 55, 50, 48, 51, 54, 56, 53, 52, 55, 55, 53, 56, 48, 56] := by
  simp [nt, dg]
theorem t_120 : txt 120 = [49, 50, 48] := by
  rw [txt_pos (by omega)]
  simp [nt, dg]
theorem t_7 : txt (-7) = [45, 55] := by
  rw [txt_neg (by omega)]
  simp [nt, dg]
theorem t_list : ltxt [3, -40] = [51, 44, 45, 52, 48] := by
  have h3 : txt 3 = [51] := by rw [txt_pos (by omega)]; simp [nt, dg]
  have h40 : txt (-40) = [45, 52, 48] := by rw [txt_neg (by omega)]; simp [nt, dg]
  simp [ltxt, join, h3, h40]
theorem in_list : ∀ n ∈ [(3 : Int), -40], InR n := by
  intro n hn
  simp at hn
  rcases hn with rfl | rfl <;> unfold InR <;> omega

section
variable (w : World)
set_option maxHeartbeats 400000
theorem aw1 : Calls Tryd.prog 7 #[.string ⟨#[45, 57, 50, 50, 51, 51, 55, 50, 48, 51, 54, 56, 53, 52, 55, 55, 53, 56, 48, 56]⟩] w fun e w' => e = .returned (.tuple #[.int .i64 (-9223372036854775808), .int .i64 0]) ∧ w = w' := by
  refine (parse_c _ w (by unfold maxLen; decide)).mono ?_
  rintro e w' ⟨rfl, rfl⟩
  have h : Num (-9223372036854775808) [45, 57, 50, 50, 51, 51, 55, 50, 48, 51, 54, 56, 53, 52, 55, 55, 53, 56, 48, 56] := ⟨by unfold InR; omega, t_min⟩
  exact ⟨by show Ending.returned (.tuple #[.int .i64 (pn [45, 57, 50, 50, 51, 51, 55, 50, 48, 51, 54, 56, 53, 52, 55, 55, 53, 56, 48, 56]), .int .i64 (pe [45, 57, 50, 50, 51, 51, 55, 50, 48, 51, 54, 56, 53, 52, 55, 55, 53, 56, 48, 56])]) = _; rw [pn_yes h, pe_yes h], rfl⟩
theorem aw2 : Calls Tryd.prog 7 #[.string ⟨#[57, 50, 50, 51, 51, 55, 50, 48, 51, 54, 56, 53, 52, 55, 55, 53, 56, 48, 56]⟩] w fun e w' => e = .returned (.tuple #[.int .i64 0, .int .i64 2]) ∧ w = w' := by
  refine (parse_c _ w (by unfold maxLen; decide)).mono ?_
  rintro e w' ⟨rfl, rfl⟩
  have h : ∀ n, ¬ Num n [57, 50, 50, 51, 51, 55, 50, 48, 51, 54, 56, 53, 52, 55, 55, 53, 56, 48, 56] := by
    rintro n ⟨h1, h2⟩
    by_cases hn : n < 0
    · rw [txt_neg hn] at h2
      injection h2 with h2 _
      exact absurd h2 (by decide)
    · rw [txt_pos (by omega), ← t_over] at h2
      have := nt_inj h2
      unfold InR at h1
      omega
  exact ⟨by show Ending.returned (.tuple #[.int .i64 (pn [57, 50, 50, 51, 51, 55, 50, 48, 51, 54, 56, 53, 52, 55, 55, 53, 56, 48, 56]), .int .i64 (pe [57, 50, 50, 51, 51, 55, 50, 48, 51, 54, 56, 53, 52, 55, 55, 53, 56, 48, 56])]) = _; rw [pn_no h, pe_no h], rfl⟩
theorem aw3 : Calls Tryd.prog 9 #[.string ⟨#[49, 50, 48, 120]⟩] w fun e w' => e = .returned (.tuple #[.int .i64 120, .int .i64 3]) ∧ w = w' := by
  refine (take_c _ w (by unfold maxLen; decide)).mono ?_
  rintro e w' ⟨rfl, rfl⟩
  have h := longest_then (n := 120) (by unfold InR; omega) (c := 120) (by decide) (by decide) []
  rw [t_120] at h
  exact ⟨by show Ending.returned (.tuple #[.int .i64 (tn ([49, 50, 48] ++ [120])), .int .i64 (tk ([49, 50, 48] ++ [120]))]) = _; rw [h.is.1, h.is.2]; rfl, rfl⟩
theorem aw4 (hm : MaxL w) : Calls Tryd.prog 10 #[.string ⟨#[51, 44, 45, 52, 48]⟩] w fun e w' => ∃ v, e = .returned (.tuple #[v, .int .i64 0]) ∧ Nums w' v [3, -40] ∧ Kept Nil w w' := by
  refine (numbers_c _ w (by decide) hm).mono ?_
  rintro e w' ⟨v, rfl, hv, hk⟩
  have h := lnum_ltxt in_list
  rw [t_list] at h
  have hv' : Nums w' v (lnum [51, 44, 45, 52, 48]) := hv
  rw [h.1] at hv'
  exact ⟨v, by show Ending.returned (.tuple #[v, .int .i64 (lerr [51, 44, 45, 52, 48])]) = _; rw [h.2], hv', hk⟩
theorem aw5 {v : Value} (hv : Nums w v [3, -40]) : Calls Tryd.prog 11 #[v] w fun e w' => e = .returned (.string ⟨#[51, 44, 45, 52, 48]⟩) ∧ Kept Nil w w' := by
  have := list_c w hv (by decide) in_list
  rw [t_list] at this
  exact this
theorem aw6 : Calls Tryd.prog 8 #[.int .i64 (-7)] w fun e w' => e = .returned (.string ⟨#[45, 55]⟩) ∧ Below w.heap.size w w' := by
  have := text_c (-7) w (by unfold InR; omega)
  rw [t_7] at this
  exact this
theorem two_new : Nums (w.alloc (.cells #[.int .i64 3, .int .i64 (-40)] 3)) (.slice (some ⟨w.heap.size, 0, none⟩) 2 2) [3, -40] := by
  refine ⟨_, 2, rfl, fun _ => ⟨w.heap.size, 0, rfl, by simp, fun k hk => ?_⟩⟩
  rw [Nat.zero_add, (Is.new w 3 #[.int .i64 3, .int .i64 (-40)]).cell k]
  have : k = 0 ∨ k = 1 := by simp at hk; omega
  rcases this with rfl | rfl <;> rfl
theorem awake_c (hm : MaxL w) : Calls Tryd.prog 6 #[] w fun e w' => e = .returned (.bool true) ∧ Kept Nil w w' := by
  have HM := hide hm
  clear hm
  go_enter Tryd.func6, Tryd.ntmps6
  go_wp2_with fail
  refine (aw1 w).mono ?_
  rintro e w' ⟨rfl, rfl⟩
  go_wp2_with fail
  refine (aw2 w).mono ?_
  rintro e w' ⟨rfl, rfl⟩
  go_wp2_with fail
  refine (aw3 w).mono ?_
  rintro e w' ⟨rfl, rfl⟩
  go_wp2_with fail
  refine (aw4 w HM.out).mono ?_
  rintro e w1 ⟨v, rfl, hv, hk⟩
  have HV := hide (And.intro hv hk)
  clear hv hk
  go_wp2_with fail
  refine (same_nums (l := [3, -40]) (HV.out.1.kept ((Kept.refl _ _).alloc _)) (two_new w1) (by decide)).mono ?_
  rintro e w2 ⟨rfl, q, rfl⟩
  have h2 := two_new (w1.alloc (.cells #[.int .i64 3, .int .i64 (-40)] 3))
  rw [show (w1.alloc (.cells #[.int .i64 3, .int .i64 (-40)] 3)).heap.size = w1.heap.size + 1 by simp] at h2
  have c5 := aw5 _ (show Nums (((w1.alloc (.cells #[.int .i64 3, .int .i64 (-40)] 3)).alloc (.cells #[.int .i64 3, .int .i64 (-40)] 3)).drewN q) _ _ from h2)
  have HK2 := hide (((HV.out.2.alloc (.cells #[.int .i64 3, .int .i64 (-40)] 3)).alloc (.cells #[.int .i64 3, .int .i64 (-40)] 3)).drewN q)
  clear h2
  go_wp2_with fail
  refine c5.mono ?_
  rintro e w3 ⟨rfl, hk3⟩
  have HK3 := hide (HK2.out.trans hk3 (fun _ _ h => h))
  clear hk3
  go_wp2_with fail
  refine (aw6 _).mono ?_
  rintro e w4 ⟨rfl, hk4⟩
  have HK4 := hide (HK3.out.trans (Below.kept hk4) (fun _ _ h => h))
  clear hk4
  go_wp2_with fail
  go_ret
  exact ⟨rfl, HK4.out⟩

theorem says_c (n : Int) (s : ByteArray) (hn : InR n) (hs : s.size ≤ maxLen) (hm : MaxL w) : Calls Tryd.prog 5 #[.int .i64 n, .string s] w fun e w' => e = .returned (.bool true) ∧ Kept Nil w w' := by
  have HM := hide hm
  clear hm
  have c1 := parse_c s w hs
  have c2 := rparse_c s w hs
  have c3 := take_c s w hs
  have c4 := rtake_c s w hs
  have c5 := text_c n w hn
  have c6 := fun w => rtext_c n hn w
  unfold Parsed at c1 c2
  unfold Took at c3 c4
  generalize pn s.data.toList = a at *
  generalize pe s.data.toList = b at *
  generalize tn s.data.toList = c at *
  generalize tk s.data.toList = d at *
  unfold maxLen at hs
  by_cases h60 : 60 < s.size
  · have ca := awake_c w HM.out
    go_enter Tryd.func5, Tryd.ntmps5
    go_wp2_with fail
    refine ca.mono ?_
    rintro e w1 ⟨rfl, hk⟩
    have HK := hide hk
    clear hk
    go_wp2_with fail
    go_ret
    exact ⟨rfl, HK.out⟩
  · go_enter Tryd.func5, Tryd.ntmps5
    go_wp2_with fail
    refine c1.mono ?_
    rintro e w1 ⟨rfl, rfl⟩
    go_wp2_with fail
    refine c2.mono ?_
    rintro e w1 ⟨rfl, rfl⟩
    go_wp2_with fail
    refine c3.mono ?_
    rintro e w1 ⟨rfl, rfl⟩
    go_wp2_with fail
    refine c4.mono ?_
    rintro e w1 ⟨rfl, rfl⟩
    go_wp2_with fail
    refine c5.mono ?_
    rintro e w1 ⟨rfl, hk⟩
    have HK := hide (Below.kept hk)
    clear hk
    go_wp2_with fail
    refine (c6 _).mono ?_
    rintro e w2 ⟨rfl, rfl⟩
    have ca := awake_c w1 (HM.out.kept HK.out)
    go_wp2_with fail
    refine ca.mono ?_
    rintro e w3 ⟨rfl, hk⟩
    have HK3 := hide (HK.out.trans hk (fun _ _ h => h))
    clear hk
    go_wp2_with fail
    go_ret
    exact ⟨rfl, HK3.out⟩
theorem lists_c (v : Value) (l : List Int) (s : ByteArray) (hv : Nums w v l) (hl : ∀ n ∈ l, InR n) (hs : s.size ≤ maxLen) (hm : MaxL w) : Calls Tryd.prog 4 #[v, .string s] w fun e w' => e = .returned (.bool true) ∧ Kept Nil w w' := by
  have HM := hide hm
  clear hm
  unfold maxLen at hs
  by_cases h40 : 40 < l.length
  · have ca := awake_c w HM.out
    obtain ⟨A, c, rfl, _⟩ := hv
    go_enter Tryd.func4, Tryd.ntmps4
    go_wp2_with fail
    refine ca.mono ?_
    rintro e w1 ⟨rfl, hk⟩
    have HK := hide hk
    clear hk
    go_wp2_with fail
    go_ret
    exact ⟨rfl, HK.out⟩
  by_cases h200 : 200 < s.size
  · have ca := awake_c w HM.out
    obtain ⟨A, c, rfl, _⟩ := hv
    go_enter Tryd.func4, Tryd.ntmps4
    go_wp2_with fail
    refine ca.mono ?_
    rintro e w1 ⟨rfl, hk⟩
    have HK := hide hk
    clear hk
    go_wp2_with fail
    go_ret
    exact ⟨rfl, HK.out⟩
  · have c1 := numbers_c s w (by omega) HM.out
    have c2 := fun w => rnumbers_c s w (by omega)
    unfold Numbered at c1 c2
    have hlen : (lnum s.data.toList).length ≤ 65536 := by
      unfold lnum
      have := cut_length s.data.toList
      simp at this
      split
      · simp
      · split <;> simp <;> omega
    generalize lnum s.data.toList = L at *
    generalize lerr s.data.toList = x at *
    have HV := hide hv
    have HL := hide hl
    obtain ⟨A, c, rfl, _⟩ := hv
    clear hl
    go_enter Tryd.func4, Tryd.ntmps4
    go_wp2_with fail
    refine c1.mono ?_
    rintro e w1 ⟨v1, rfl, hv1, hk1⟩
    have H1 := hide (And.intro hv1 hk1)
    clear hv1 hk1
    go_wp2_with fail
    refine (c2 w1).mono ?_
    rintro e w2 ⟨v2, rfl, hv2, hk2⟩
    have H2 := hide (And.intro hv2 (And.intro (H1.out.1.kept hk2) (H1.out.2.trans hk2 (fun _ _ h => h))))
    clear hv2 hk2
    go_wp2_with fail
    refine (list_c w2 (HV.out.kept H2.out.2.2) (by omega) HL.out).mono ?_
    rintro e w3 ⟨rfl, hk3⟩
    have H3 := hide hk3
    clear hk3
    go_wp2_with fail
    refine (rlist_c w3 ((HV.out.kept H2.out.2.2).kept H3.out) (by omega) HL.out).mono ?_
    rintro e w4 ⟨rfl, rfl⟩
    go_wp2_with fail
    refine (same_nums (H2.out.2.1.kept H3.out) (H2.out.1.kept H3.out) hlen).mono ?_
    rintro e w4 ⟨rfl, q, rfl⟩
    have H4 := hide ((H2.out.2.2.trans H3.out (fun _ _ h => h)).drewN q)
    go_wp2_with fail
    refine (awake_c _ (HM.out.kept H4.out)).mono ?_
    rintro e w5 ⟨rfl, hk5⟩
    have H5 := hide (H4.out.trans hk5 (fun _ _ h => h))
    clear hk5
    go_wp2_with fail
    go_ret
    exact ⟨rfl, H5.out⟩
end
end Go.Proofs.YtnacpemhklbiaaaDoor
