/- The law PickSays, walked. -/
import Derived.Test.YtoegnnhnfkecoaaDoorKLaws
namespace Go.Proofs.YtoegnnhnfkecoaaDoor
open Go.RowKit
set_option maxRecDepth 100000

section
variable {w : World} {v : Value} {l : List Pk}
set_option maxHeartbeats 4000000
theorem ksays_short (s : ByteArray) (c : UInt8) (hv : Picks w v l) (hn : 60 < l.length ∨ 400 < s.size) : Calls Tryd.prog 4 #[v, .string s, .int .u8 c.toNat] w fun e w' => e = .returned (.bool true) ∧ Kept Nil w w' := by
  obtain ⟨A, cap, rfl, _⟩ := hv
  have Ha := hide (kawake_c w)
  by_cases h1 : 60 < l.length
  · go_enter Tryd.func4, Tryd.ntmps4
    go_wp2_with fail
    refine Ha.out.mono ?_
    rintro e w1 ⟨rfl, k1⟩
    go_wp2_with fail
    go_ret
    exact ⟨rfl, k1⟩
  · have h2 : 400 < s.size := by omega
    have h3 : decide (60 < (l.length : Int)) = false := by simp; omega
    go_enter Tryd.func4, Tryd.ntmps4
    go_wp2_with fail
    refine Ha.out.mono ?_
    rintro e w1 ⟨rfl, k1⟩
    go_wp2_with fail
    go_ret
    exact ⟨rfl, k1⟩
theorem ksays_long (s : ByteArray) (c : UInt8) (hv : Picks w v l) (hr : ∀ p ∈ l, InR p.1) (hn : l.length ≤ 60) (hs : s.size ≤ 400) : Calls Tryd.prog 4 #[v, .string s, .int .u8 c.toNat] w fun e w' => e = .returned (.bool true) ∧ Kept Nil w w' := by
  have h3 : decide (60 < (l.length : Int)) = false := by simp; omega
  have h4 : decide (400 < (s.size : Int)) = false := by simp; omega
  have H0 := hide hv
  have c1 := hide fun V (k : Kept Nil w V) => ptext_c V (H0.out.kept k) (by omega) hr
  have c2 := hide fun V (k : Kept Nil w V) => rptext_c V (H0.out.kept k) (by omega) hr
  have c3 := hide fun V => pparse_c V s (by omega)
  have c4 := hide fun V => prparse_c V s (by omega)
  have c5 := hide fun V => want_c V c
  have c6 := hide fun V => rwant_c V c
  have c7 := hide fun V (k : Kept Nil w V) => threads_c V (H0.out.kept k) (by omega)
  have c8 := hide fun V => decode_c V s (by omega)
  have c9 := hide fun V => rdecode_c V s (by omega)
  have hl1 := pl_len (wof s.data.toList)
  have hl2 := wof_len s.data.toList
  have hl3 := dlen s
  have hl4 : (dpk s.data.toList).length ≤ 65536 := by unfold dpk; rw [List.length_map]; omega
  unfold PTold at c3 c4
  obtain ⟨P, hP⟩ : ∃ P, pl (wof s.data.toList) = P := ⟨_, rfl⟩
  obtain ⟨N, hN⟩ : ∃ N, pi (wof s.data.toList) = N := ⟨_, rfl⟩
  obtain ⟨F, hF⟩ : ∃ F, pf (wof s.data.toList) = F := ⟨_, rfl⟩
  obtain ⟨T, hT⟩ : ∃ T : ByteArray, (⟨(pt l).toArray⟩ : ByteArray) = T := ⟨_, rfl⟩
  obtain ⟨E, hE⟩ : ∃ E, pet l = E := ⟨_, rfl⟩
  obtain ⟨X, hX⟩ : ∃ X, wn c = X := ⟨_, rfl⟩
  obtain ⟨Y, hY⟩ : ∃ Y, wb c = Y := ⟨_, rfl⟩
  obtain ⟨D, hD⟩ : ∃ D, dpk s.data.toList = D := ⟨_, rfl⟩
  rw [hP, hN, hF] at c3 c4
  rw [hT, hE] at c1 c2
  rw [hX, hY] at c5 c6
  rw [hD] at c8 c9 hl4
  rw [hP] at hl1
  have HL := hide (And.intro (show P.length ≤ 65536 by omega) hl4)
  obtain ⟨A, cap, rfl, _⟩ := hv
  clear hP hN hF hT hE hX hY hD hl1 hl2 hl3 hl4 hr
  go_enter Tryd.func4, Tryd.ntmps4
  go_wp2_with fail
  refine (c1.out w (Kept.refl _ _)).mono ?_
  rintro e w1 ⟨rfl, hk⟩
  have K1 := hide hk
  clear hk
  go_wp2_with fail
  refine (c2.out w1 K1.out).mono ?_
  rintro e w2 ⟨rfl, q, rfl⟩
  have K2 := hide (K1.out.drewN q)
  generalize w1.drewN q = w2 at *
  go_wp2_with fail
  refine (c3.out w2).mono ?_
  rintro e w3 ⟨v3, rfl, hp, hk⟩
  have K3 := hide (And.intro (K2.out.trans hk (fun _ _ z => z)) hp)
  clear hk hp
  go_wp2_with fail
  refine (c4.out w3).mono ?_
  rintro e w4 ⟨v4, rfl, hp, hk⟩
  have K4 := hide (And.intro (K3.out.1.trans hk (fun _ _ z => z)) (And.intro (K3.out.2.kept hk) hp))
  clear hk hp
  go_wp2_with fail
  refine (c5.out w4).mono ?_
  rintro e w5 ⟨rfl, hk⟩
  have K5 := hide (And.intro (K4.out.1.trans hk (fun _ _ z => z)) (And.intro (K4.out.2.1.kept hk) (K4.out.2.2.kept hk)))
  clear hk
  go_wp2_with fail
  refine (c6.out w5).mono ?_
  rintro e w5 ⟨rfl, rfl⟩
  go_wp2_with fail
  refine (c7.out _ K5.out.1).mono ?_
  rintro e w6 ⟨v6, rfl, hp, hk⟩
  have K6 := hide (And.intro (K5.out.1.trans hk (fun _ _ z => z)) (And.intro (K5.out.2.1.kept hk) (And.intro (K5.out.2.2.kept hk) hp)))
  obtain ⟨A6, cap6, rfl, _⟩ := hp
  rw [List.length_map] at *
  clear hk
  go_wp2_with fail
  go_loopw [22] (fun i wr => ∃ (k : Nat), k ≤ l.length ∧ i = .int .i64 k ∧ Kept Nil w6 wr) (fun i _ => l.length - (intOf i).toNat)
  case atStart => exact ⟨0, Nat.zero_le _, rfl, Kept.refl _ _⟩
  case round =>
    obtain ⟨k, hk, rfl, hkp⟩ := hrel
    have HK := hide hkp
    clear hkp
    by_cases hlt : k < l.length
    · obtain ⟨A', cap', e1, _, p1⟩ := H0.out.kept (K6.out.1.trans HK.out (fun _ _ z => z))
      injection e1 with e1 e3 e2
      clear e3
      subst e1 e2
      obtain ⟨B', capB, e1, p2⟩ := K6.out.2.2.2.kept HK.out
      injection e1 with e1 e3 e2
      clear e3
      subst e1 e2
      obtain ⟨g1, o1, rfl, _, j1⟩ := p1 (by omega)
      obtain ⟨g2, o2, rfl, _, j2⟩ := p2 (by rw [List.length_map]; omega)
      have a1 := (j1 k hlt).1
      have a2 := j2 k (by rw [List.length_map]; exact hlt)
      rw [show (l.map (·.1)).getD k 0 = (l.getD k (0, 0)).1 by simp [List.getD, hlt]] at a2
      generalize (l.getD k (0, 0)).1 = x at *
      clear j1 j2 p1 p2
      have hne : ((l.length : Int) != (l.length : Int)) = false := by simp
      go_wp2_with fail
      go_quiet (fail)
      go_wp2_with fail
      go_roundw
      case rel => exact ⟨k + 1, by omega, by go_num, HK.out.drewN _⟩
      case measure => simp [intOf]; omega
    · obtain rfl : k = l.length := by omega
      have K7 := hide (And.intro (K6.out.1.trans HK.out (fun _ _ z => z)) (And.intro (K6.out.2.1.kept HK.out) (K6.out.2.2.1.kept HK.out)))
      clear HK K6
      go_wp2_with fail
      refine (same_picks K7.out.2.1 K7.out.2.2 HL.out.1).mono ?_
      rintro e w8 ⟨rfl, q, rfl⟩
      have K8 := hide (K7.out.1.drewN q)
      generalize wr.drewN q = w8 at *
      go_wp2_with fail
      refine (c8.out w8).mono ?_
      rintro e w9 ⟨v9, rfl, hp, hk⟩
      have K9 := hide (And.intro (K8.out.trans hk (fun _ _ z => z)) hp)
      clear hk hp
      go_wp2_with fail
      refine (c9.out w9).mono ?_
      rintro e w10 ⟨v10, rfl, hp, hk⟩
      have K10 := hide (And.intro (K9.out.1.trans hk (fun _ _ z => z)) (And.intro (K9.out.2.kept hk) hp))
      clear hk hp
      go_wp2_with fail
      refine (same_picks K10.out.2.1 K10.out.2.2 HL.out.2).mono ?_
      rintro e w11 ⟨rfl, q, rfl⟩
      have K11 := hide (K10.out.1.drewN q)
      generalize w10.drewN q = w11 at *
      go_wp2_with fail
      refine (kawake_c w11).mono ?_
      rintro e w12 ⟨rfl, hk⟩
      have K12 := hide (K11.out.trans hk (fun _ _ z => z))
      clear hk
      go_wp2_with fail
      go_ret
      exact ⟨rfl, K12.out⟩
theorem ksays_c (s : ByteArray) (c : UInt8) (hv : Picks w v l) (hr : ∀ p ∈ l, InR p.1) : Calls Tryd.prog 4 #[v, .string s, .int .u8 c.toNat] w fun e w' => e = .returned (.bool true) ∧ Kept Nil w w' := by
  by_cases hn : 60 < l.length ∨ 400 < s.size
  · exact ksays_short s c hv hn
  · exact ksays_long s c hv hr (by omega) (by omega)
end
end Go.Proofs.YtoegnnhnfkecoaaDoor
