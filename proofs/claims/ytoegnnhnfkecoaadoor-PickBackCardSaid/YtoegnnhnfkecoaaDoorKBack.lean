/- The law PickBack, walked (written by wip/tools/genpickback.py). -/
import Derived.Test.YtoegnnhnfkecoaaDoorKLaws
namespace Go.Proofs.YtoegnnhnfkecoaaDoor
open Go.RowKit
set_option maxRecDepth 100000

/-- Picks come back from their text. -/
theorem comes_back (P : List Pk) (h1 : ∀ p ∈ P, InR p.1) (h2 : ∀ p ∈ P, wok p.2 = true) (hl : (bj (P.map word)).length ≤ 3000) (V : World) : Calls Tryd.prog 7 #[.string ⟨(bj (P.map word)).toArray⟩] V fun e w' => ∃ v, e = .returned (.tuple #[v, .int .i64 0, .int .i64 0]) ∧ Picks w' v P ∧ Kept Nil V w' := by
  have := pparse_c V ⟨(bj (P.map word)).toArray⟩ (by rw [mk_size]; exact hl)
  unfold PTold at this
  obtain ⟨a1, a2, a3⟩ := pl_words h1 h2
  have e : wof (⟨(bj (P.map word)).toArray⟩ : ByteArray).data.toList = P.map word := wof_bj h2
  rw [e, a1, a2, a3] at this
  exact this
/-- A text of picks: their text is no longer, and they come back from it. -/
theorem fine_ways (s : ByteArray) (hf : pf (wof s.data.toList) = 0) (hs : s.size ≤ 400 := by omega) :
    (∀ V v, Picks V v (pl (wof s.data.toList)) → Calls Tryd.prog 6 #[v] V fun e w' => e = .returned (.tuple #[.string ⟨(bj ((pl (wof s.data.toList)).map word)).toArray⟩, .int .i64 0]) ∧ Kept Nil V w') ∧
    (∀ V, Calls Tryd.prog 7 #[.string ⟨(bj ((pl (wof s.data.toList)).map word)).toArray⟩] V fun e w' => ∃ v, e = .returned (.tuple #[v, .int .i64 0, .int .i64 0]) ∧ Picks w' v (pl (wof s.data.toList)) ∧ Kept Nil V w') ∧
    (⟨(bj ((pl (wof s.data.toList)).map word)).toArray⟩ : ByteArray).size ≤ s.size ∧ (pl (wof s.data.toList)).length ≤ 65536 := by
  have hin := pl_in (wof s.data.toList)
  have hl1 := pl_len (wof s.data.toList)
  have hl2 := wof_len s.data.toList
  have hl3 := dlen s
  have hb : (bj ((pl (wof s.data.toList)).map word)).length ≤ s.size := by
    rw [words_pl (pf_zero hf), ← hl3]
    exact bj_wof _
  obtain ⟨t1, t2⟩ := pt_yes (tall_pl (wof s.data.toList))
  refine ⟨fun V v h => ?_, fun V => comes_back _ (fun p hp => (hin p hp).1) (fun p hp => (hin p hp).2) (by omega) V, by rw [mk_size]; exact hb, by omega⟩
  have := ptext_c V h (by omega) (fun p hp => (hin p hp).1)
  rw [t1, t2] at this
  exact this

section
variable {w : World} {v : Value} {l : List Pk}
set_option maxHeartbeats 4000000
theorem kback_short (s : ByteArray) (hv : Picks w v l) (hn : 60 < l.length ∨ 400 < s.size) : Calls Tryd.prog 3 #[v, .string s] w fun e w' => e = .returned (.bool true) ∧ Kept Nil w w' := by
  obtain ⟨A, cap, rfl, _⟩ := hv
  have Ha := hide (kawake_c w)
  by_cases h1 : 60 < l.length
  · go_enter Tryd.func3, Tryd.ntmps3
    go_wp2_with fail
    refine Ha.out.mono ?_
    rintro e w1 ⟨rfl, k1⟩
    go_wp2_with fail
    go_ret
    exact ⟨rfl, k1⟩
  · have h2 : 400 < s.size := by omega
    have h3 : decide (60 < (l.length : Int)) = false := by simp; omega
    go_enter Tryd.func3, Tryd.ntmps3
    go_wp2_with fail
    refine Ha.out.mono ?_
    rintro e w1 ⟨rfl, k1⟩
    go_wp2_with fail
    go_ret
    exact ⟨rfl, k1⟩
theorem kback_long (s : ByteArray) (hv : Picks w v l) (hr : ∀ p ∈ l, InR p.1) (hn : l.length ≤ 60) (hs : s.size ≤ 400) : Calls Tryd.prog 3 #[v, .string s] w fun e w' => e = .returned (.bool true) ∧ Kept Nil w w' := by
  have h3 : decide (60 < (l.length : Int)) = false := by simp; omega
  have h4 : decide (400 < (s.size : Int)) = false := by simp; omega
  have H0 := hide hv
  have c1 := ptext_c w hv (by omega) hr
  have c3 := hide fun V => pparse_c V s (by omega)
  unfold PTold at c3
  have hbl := bj_word_len l hr
  cases ht : tall l with
  | true =>
    obtain ⟨t1, t2⟩ := pt_yes ht
    have c2 := comes_back l hr (tall_mem ht) (by omega)
    rw [t1, t2] at c1
    obtain ⟨T, hT⟩ : ∃ T : ByteArray, (⟨(bj (l.map word)).toArray⟩ : ByteArray) = T := ⟨_, rfl⟩
    rw [hT] at c1 c2
    obtain ⟨A, cap, rfl, _⟩ := hv
    clear t1 t2 hT hbl hr ht
    go_enter Tryd.func3, Tryd.ntmps3
    go_wp2_with fail
    refine c1.mono ?_
    rintro e w1 ⟨rfl, hk⟩
    have K1 := hide (And.intro hk (H0.out.kept hk))
    clear hk
    go_wp2_with fail
    refine (c2 _).mono ?_
    rintro e w2 ⟨v2, rfl, hp, hk⟩
    have K2 := hide (And.intro (K1.out.1.trans hk (fun _ _ z => z)) (And.intro (K1.out.2.kept hk) hp))
    clear hk hp
    go_wp2_with fail
    refine (same_picks K2.out.2.2 K2.out.2.1 (by omega)).mono ?_
    rintro e w3 ⟨rfl, q, rfl⟩
    have K3 := hide (K2.out.1.drewN q)
    generalize w2.drewN q = w3 at *
    go_wp2_with fail
    refine (c3.out _).mono ?_
    rintro e wa ⟨va, rfl, hp, hk⟩
    have KA := hide (And.intro (K3.out.trans hk (fun _ _ z => z)) hp)
    clear hk hp
    rcases pf_two (wof s.data.toList) with hf | hf
    · have HX := hide (fine_ways s hf)
      obtain ⟨P, hP⟩ : ∃ P, pl (wof s.data.toList) = P := ⟨_, rfl⟩
      rw [hP] at KA HX
      obtain ⟨U, hU⟩ : ∃ U : ByteArray, (⟨(bj (P.map word)).toArray⟩ : ByteArray) = U := ⟨_, rfl⟩
      have c4 := hide fun V v (h : Picks V v P) => HX.out.1 V v h
      have c5 := hide fun V => HX.out.2.1 V
      have hus := HX.out.2.2.1
      have HL := hide HX.out.2.2.2
      rw [hU] at c4 c5 hus
      rw [hf]
      obtain ⟨AP, cP, e1, _⟩ := KA.out.2
      subst e1
      clear hU hP HX hf
      generalize pi (wof s.data.toList) = N at *
      go_wp2_with fail
      refine (c4.out _ _ KA.out.2).mono ?_
      rintro e wb ⟨rfl, hk⟩
      have KB := hide (And.intro (KA.out.1.trans hk (fun _ _ z => z)) (KA.out.2.kept hk))
      clear hk
      go_wp2_with fail
      refine (c5.out _).mono ?_
      rintro e wc ⟨vc, rfl, hp, hk⟩
      have KC := hide (And.intro (KB.out.1.trans hk (fun _ _ z => z)) (And.intro (KB.out.2.kept hk) hp))
      clear hk hp
      go_wp2_with fail
      refine (same_picks KC.out.2.2 KC.out.2.1 HL.out).mono ?_
      rintro e wd ⟨rfl, q, rfl⟩
      have KD := hide (KC.out.1.drewN q)
      generalize wc.drewN q = wd at *
      go_wp2_with fail
      refine (kawake_c wd).mono ?_
      rintro e we ⟨rfl, hk⟩
      have KE := hide (KD.out.trans hk (fun _ _ z => z))
      clear hk
      go_wp2_with fail
      go_ret
      exact ⟨rfl, KE.out⟩
    · have hz := pl_zero (ws := wof s.data.toList) (by rw [hf]; decide)
      rw [hz] at KA
      rw [hf]
      obtain ⟨AP, cP, e1, _⟩ := KA.out.2
      subst e1
      clear hz hf
      generalize pi (wof s.data.toList) = N at *
      go_wp2_with fail
      refine (kawake_c _).mono ?_
      rintro e we ⟨rfl, hk⟩
      have KE := hide (KA.out.1.trans hk (fun _ _ z => z))
      clear hk
      go_wp2_with fail
      go_ret
      exact ⟨rfl, KE.out⟩
  | false =>
    obtain ⟨t1, t2⟩ := pt_no ht
    rw [t1, t2] at c1
    obtain ⟨A, cap, rfl, _⟩ := hv
    clear t1 t2 hbl hr ht
    go_enter Tryd.func3, Tryd.ntmps3
    go_wp2_with fail
    refine c1.mono ?_
    rintro e w3 ⟨rfl, hk⟩
    have K3 := hide hk
    clear hk
    go_wp2_with fail
    refine (c3.out _).mono ?_
    rintro e wa ⟨va, rfl, hp, hk⟩
    have KA := hide (And.intro (K3.out.trans hk (fun _ _ z => z)) hp)
    clear hk hp
    rcases pf_two (wof s.data.toList) with hf | hf
    · have HX := hide (fine_ways s hf)
      obtain ⟨P, hP⟩ : ∃ P, pl (wof s.data.toList) = P := ⟨_, rfl⟩
      rw [hP] at KA HX
      obtain ⟨U, hU⟩ : ∃ U : ByteArray, (⟨(bj (P.map word)).toArray⟩ : ByteArray) = U := ⟨_, rfl⟩
      have c4 := hide fun V v (h : Picks V v P) => HX.out.1 V v h
      have c5 := hide fun V => HX.out.2.1 V
      have hus := HX.out.2.2.1
      have HL := hide HX.out.2.2.2
      rw [hU] at c4 c5 hus
      rw [hf]
      obtain ⟨AP, cP, e1, _⟩ := KA.out.2
      subst e1
      clear hU hP HX hf
      generalize pi (wof s.data.toList) = N at *
      go_wp2_with fail
      refine (c4.out _ _ KA.out.2).mono ?_
      rintro e wb ⟨rfl, hk⟩
      have KB := hide (And.intro (KA.out.1.trans hk (fun _ _ z => z)) (KA.out.2.kept hk))
      clear hk
      go_wp2_with fail
      refine (c5.out _).mono ?_
      rintro e wc ⟨vc, rfl, hp, hk⟩
      have KC := hide (And.intro (KB.out.1.trans hk (fun _ _ z => z)) (And.intro (KB.out.2.kept hk) hp))
      clear hk hp
      go_wp2_with fail
      refine (same_picks KC.out.2.2 KC.out.2.1 HL.out).mono ?_
      rintro e wd ⟨rfl, q, rfl⟩
      have KD := hide (KC.out.1.drewN q)
      generalize wc.drewN q = wd at *
      go_wp2_with fail
      refine (kawake_c wd).mono ?_
      rintro e we ⟨rfl, hk⟩
      have KE := hide (KD.out.trans hk (fun _ _ z => z))
      clear hk
      go_wp2_with fail
      go_ret
      exact ⟨rfl, KE.out⟩
    · have hz := pl_zero (ws := wof s.data.toList) (by rw [hf]; decide)
      rw [hz] at KA
      rw [hf]
      obtain ⟨AP, cP, e1, _⟩ := KA.out.2
      subst e1
      clear hz hf
      generalize pi (wof s.data.toList) = N at *
      go_wp2_with fail
      refine (kawake_c _).mono ?_
      rintro e we ⟨rfl, hk⟩
      have KE := hide (KA.out.1.trans hk (fun _ _ z => z))
      clear hk
      go_wp2_with fail
      go_ret
      exact ⟨rfl, KE.out⟩
theorem kback_c (s : ByteArray) (hv : Picks w v l) (hr : ∀ p ∈ l, InR p.1) : Calls Tryd.prog 3 #[v, .string s] w fun e w' => e = .returned (.bool true) ∧ Kept Nil w w' := by
  by_cases hn : 60 < l.length ∨ 400 < s.size
  · exact kback_short s hv hn
  · exact kback_long s hv hr (by omega) (by omega)
end
end Go.Proofs.YtoegnnhnfkecoaaDoor
