/- TopoEven and TopoParses: the walks. -/
import Derived.Test.YtcpcdfihgabelaaDoorTAwake
namespace Go.Proofs.YtcpcdfihgabelaaDoor
open Go.RowKit
set_option maxRecDepth 100000

theorem out_cases {parts P T : List Int} {th er : Int} (h : evOut parts th = (P, T, er)) : (er = 0 ∧ chk P T = 0 ∧ d0 P = (parts.length : Int) + 1) ∨ (er ≠ 0 ∧ P = [] ∧ T = []) := by
  unfold evOut at h
  split at h
  · next h0 =>
    injection h with h1 h2
    injection h2 with h2 h3
    subst h1 h2 h3
    left
    cases hb : bad parts th with
    | true => rw [ev_bad hb] at h0; cases h0
    | false =>
      rw [ev_chk hb] at h0
      exact ⟨rfl, h0, ev_depth hb⟩
  · next h0 =>
    injection h with h1 h2
    injection h2 with h2 h3
    subst h1 h2 h3
    exact .inr ⟨h0, rfl, rfl⟩
theorem prs_chk {s : List UInt8} {P T : List Int} {er : Int} (h : prs s = (P, T, er)) : (P.length ≤ 32 ∧ T.length ≤ 32) := by
  unfold prs at h
  split at h
  · split at h
    · split at h
      · next h0 =>
        injection h with h1 h2
        injection h2 with h2 h3
        subst h1 h2
        have := (chk_zero h0).1
        omega
      · injection h with h1 h2
        injection h2 with h2 h3
        subst h1 h2
        simp
    · injection h with h1 h2
      injection h2 with h2 h3
      subst h1 h2
      simp
  · injection h with h1 h2
    injection h2 with h2 h3
    subst h1 h2
    simp

section
variable {w : World} {v : Value} {parts : List Int}
set_option maxHeartbeats 2000000
theorem even_law (th : Int) (hv : Nums w v parts) (hm : MaxL w) : Calls Tryd.prog 5 #[v, .int .i64 th] w fun e w' => e = .returned (.bool true) ∧ Kept Nil w w' := by
  have HM := hide hm
  have HV := hide hv
  clear hm
  obtain ⟨A0, c0, rfl, _⟩ := hv
  by_cases h20 : 20 < parts.length
  · have ca := awake_c w HM.out
    have hd : (20 : Int) < (parts.length : Int) := by omega
    go_enter Tryd.func5, Tryd.ntmps5
    go_wp2_with fail
    refine ca.mono ?_
    rintro e w1 ⟨rfl, hk⟩
    have HK := hide hk
    clear hk
    go_wp2_with fail
    go_ret
    exact ⟨rfl, HK.out⟩
  · have hd : decide ((20 : Int) < (parts.length : Int)) = false := by simp; omega
    obtain ⟨P, T, er, ho⟩ : ∃ P T er, evOut parts th = (P, T, er) := ⟨_, _, _, rfl⟩
    have HO := hide ho
    have ce := even_c th ho HV.out (by omega)
    have hoc := out_cases ho
    have hlen : P.length ≤ 32 ∧ T.length ≤ 32 := by
      rcases hoc with ⟨_, h, _⟩ | ⟨_, h1, h2⟩
      · have := (chk_zero h).1; omega
      · rw [h1, h2]; simp
    have HC := hide hoc
    have HLEN := hide hlen
    clear ho hoc hlen
    go_enter Tryd.func5, Tryd.ntmps5
    go_wp2_with fail
    refine ce.mono ?_
    rintro e w1 ht
    obtain ⟨A1, c1, A2, c2, rfl, n1, n2, hk⟩ := ht.open
    have B1 := hide (Bx.new n1 n2)
    have K1 := hide (hk.alloc (.cells #[.slice A1 P.length c1, .slice A2 T.length c2] 24))
    clear ht n1 n2 hk ce
    go_wp2_with fail
    refine (reven_c th HO.out (HV.out.kept K1.out) (by omega)).mono ?_
    rintro e w2 ht
    obtain ⟨A3, c3, A4, c4, rfl, n3, n4, hk⟩ := ht.open
    have B2 := hide (B1.out.keep hk)
    have hk3 := hk.alloc (.cells #[.slice A3 P.length c3, .slice A4 T.length c4] 24)
    have B3 := hide (And.intro (B1.out.keep hk3) (Bx.new n3 n4))
    have K3 := hide (K1.out.trans hk3 (fun _ _ z => z))
    have q0 := B2.out.is_.cell 0
    have q1 := B2.out.is_.cell 1
    have hlt := B2.out.is_.lt
    clear ht n3 n4 hk hk3 B1 B2 K1
    generalize w1.heap.size = b1 at *
    go_wp2_with fail
    refine (rtsame_c (b := true) (by simp) B3.out.1.topo B3.out.2.topo (by have := HLEN.out; omega) (by have := HLEN.out; omega) (by have := HLEN.out; omega) (by have := HLEN.out; omega)).mono ?_
    rintro e w4 ⟨rfl, hk⟩
    have B4 := hide (B3.out.1.keep hk)
    have K4 := hide (K3.out.trans hk (fun _ _ z => z))
    have q0 := B4.out.is_.cell 0
    have q1 := B4.out.is_.cell 1
    clear hk B3 K3
    by_cases he : er = 0
    · subst he
      have hd0 : (if chk P T = 0 then d0 P else 0) = (parts.length : Int) + 1 := by
        rcases HC.out with ⟨_, h1, h2⟩ | ⟨h1, _⟩
        · rw [if_pos h1, h2]
        · exact absurd rfl h1
      have HD := hide hd0
      clear hd0
      go_wp2_with fail
      refine (depth_c HD.out B4.out.topo).mono ?_
      rintro e w5 ⟨rfl, hk⟩
      have K5 := hide (K4.out.trans hk (fun _ _ z => z))
      clear hk
      go_wp2_with fail
      refine (awake_c w5 (HM.out.kept K5.out)).mono ?_
      rintro e w6 ⟨rfl, hk⟩
      have K6 := hide (K5.out.trans hk (fun _ _ z => z))
      clear hk
      go_wp2_with fail
      go_ret
      exact ⟨rfl, K6.out⟩
    · have hne : (er != 0) = true := by simpa using he
      clear he
      go_wp2_with fail
      refine (awake_c w4 (HM.out.kept K4.out)).mono ?_
      rintro e w6 ⟨rfl, hk⟩
      have K6 := hide (K4.out.trans hk (fun _ _ z => z))
      clear hk
      go_wp2_with fail
      go_ret
      exact ⟨rfl, K6.out⟩
theorem parses_law (s : ByteArray) (hs : s.size ≤ maxLen) (hm : MaxL w) : Calls Tryd.prog 6 #[.string s] w fun e w' => e = .returned (.bool true) ∧ Kept Nil w w' := by
  have HM := hide hm
  clear hm
  unfold maxLen at hs
  by_cases h4 : 400 < s.size
  · have ca := awake_c w HM.out
    have hd : (400 : Int) < (s.size : Int) := by omega
    go_enter Tryd.func6, Tryd.ntmps6
    go_wp2_with fail
    refine ca.mono ?_
    rintro e w1 ⟨rfl, hk⟩
    have HK := hide hk
    clear hk
    go_wp2_with fail
    go_ret
    exact ⟨rfl, HK.out⟩
  · have hd : decide ((400 : Int) < (s.size : Int)) = false := by simp; omega
    obtain ⟨P, T, er, ho⟩ : ∃ P T er, prs s.data.toList = (P, T, er) := ⟨_, _, _, rfl⟩
    have ce := parse2_c s ho (by omega) HM.out
    have cr := fun W => rparse2_c (w := W) s ho (by omega)
    have HLEN := hide (prs_chk ho)
    clear ho
    go_enter Tryd.func6, Tryd.ntmps6
    go_wp2_with fail
    refine ce.mono ?_
    rintro e w1 ht
    obtain ⟨A1, c1, A2, c2, rfl, n1, n2, hk⟩ := ht.open
    have B1 := hide (Bx.new n1 n2)
    have K1 := hide (hk.alloc (.cells #[.slice A1 P.length c1, .slice A2 T.length c2] 24))
    clear ht n1 n2 hk ce
    go_wp2_with fail
    refine (cr _).mono ?_
    rintro e w2 ht
    obtain ⟨A3, c3, A4, c4, rfl, n3, n4, hk⟩ := ht.open
    have B2 := hide (B1.out.keep hk)
    have hk3 := hk.alloc (.cells #[.slice A3 P.length c3, .slice A4 T.length c4] 24)
    have B3 := hide (And.intro (B1.out.keep hk3) (Bx.new n3 n4))
    have K3 := hide (K1.out.trans hk3 (fun _ _ z => z))
    have q0 := B2.out.is_.cell 0
    have q1 := B2.out.is_.cell 1
    have hlt := B2.out.is_.lt
    clear ht n3 n4 hk hk3 B1 B2 K1
    generalize w1.heap.size = b1 at *
    go_wp2_with fail
    refine (rtsame_c (b := true) (by simp) B3.out.1.topo B3.out.2.topo (by have := HLEN.out; omega) (by have := HLEN.out; omega) (by have := HLEN.out; omega) (by have := HLEN.out; omega)).mono ?_
    rintro e w4 ⟨rfl, hk⟩
    have K4 := hide (K3.out.trans hk (fun _ _ z => z))
    clear hk B3 K3
    go_wp2_with fail
    refine (awake_c w4 (HM.out.kept K4.out)).mono ?_
    rintro e w6 ⟨rfl, hk⟩
    have K6 := hide (K4.out.trans hk (fun _ _ z => z))
    clear hk
    go_wp2_with fail
    go_ret
    exact ⟨rfl, K6.out⟩
end
end Go.Proofs.YtcpcdfihgabelaaDoor
