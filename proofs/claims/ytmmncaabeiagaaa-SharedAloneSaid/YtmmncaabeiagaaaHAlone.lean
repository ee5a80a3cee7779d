/- The law SharedAlone, walked. wip/tools/genshared.py wrote it. -/
import Derived.Test.YtmmncaabeiagaaaHLaws
namespace Go.Proofs.Ytmmncaabeiagaaa
open Go.RowKit
set_option maxRecDepth 100000

section
variable {w : World} {v : Value} {l : List Ev}
/-- One more of the first threads, whether there are as many or not. -/
theorem cnt_next {A : List Sd} {x : Sd} {t : Nat} (hx : x ≠ z0) : cnt x (A.take (t + 1)) = cnt x (A.take t) + if ssta A t = x then 1 else 0 := by
  by_cases h : t < A.length
  · rw [ssta_at h]
    exact cnt_take h
  · rw [List.take_of_length_le (by omega), List.take_of_length_le (by omega), ssta_out (by omega), if_neg (fun z => hx z.symm), Nat.add_zero]
theorem cnt_thirty {A : List Sd} {x : Sd} (h : A.length ≤ 32) : cnt x (A.take 32) = cnt x A := by rw [List.take_of_length_le h]
theorem cnt_small {A : List Sd} {x : Sd} {t : Nat} (h : A.length ≤ 32) : cnt x (A.take t) ≤ 32 := by
  have := cnt_le (x := x) (A := A.take t)
  rw [List.length_take] at this
  omega
set_option maxHeartbeats 4000000
theorem salone_short (n : Int) (hv : Evs w v l) (hn : 60 < l.length) : Calls Try.prog 3 #[.int .i64 n, v] w fun x w' => x = .returned (.bool true) ∧ Kept Nil w w' := by
  obtain ⟨A, c, rfl, hx1, hx2⟩ := hv
  clear hx1 hx2
  have HA := hide (sawake_c w)
  go_enter Try.func3, Try.ntmps3
  go_wp2_with fail
  refine HA.out.mono ?_
  rintro x w1 ⟨rfl, k1⟩
  have HE := hide k1
  clear k1
  go_wp2_with fail
  go_ret
  exact ⟨rfl, HE.out⟩
theorem salone_long (n : Int) (hv : Evs w v l) (hn : l.length ≤ 60) : Calls Try.prog 3 #[.int .i64 n, v] w fun x w' => x = .returned (.bool true) ∧ Kept Nil w w' := by
  have hlen : decide (60 < (l.length : Int)) = false := by simp; omega
  have HN := hide (snewF (Kept.refl Nil w) n)
  have hum := um_le (t := n)
  have HZ : Hid ((List.replicate (um n) z0).length ≤ 32 ∧ Al (List.replicate (um n) z0)) := hide ⟨by rw [List.length_replicate]; exact hum, al_zero⟩
  clear hum
  generalize List.replicate (um n) z0 = A0 at *
  obtain ⟨A, c, rfl, _, hp⟩ := hv
  have HP := hide hp
  clear hp
  go_enter Try.func3, Try.ntmps3
  go_wp2_with fail
  refine HN.out.mono ?_
  rintro x w1 ⟨p, g, rfl, hU, _⟩
  have HU := hide hU
  clear hU HN
  go_wp2_with fail
  go_loopw [6] (fun i wr => ∃ (k : Nat) (S : List Sd), k ≤ l.length ∧ i = .int .i64 k ∧ Sf w wr p g S ∧ S.length ≤ 32 ∧ Al S) (fun i _ => l.length - (intOf i).toNat)
  case atStart => exact ⟨0, A0, Nat.zero_le _, rfl, HU.out, HZ.out.1, HZ.out.2⟩
  case round =>
    obtain ⟨k, S, hk, rfl, hU, hs, hx⟩ := hrel
    have HK := hide (And.intro hU (And.intro hs hx))
    clear hU hs hx HU HZ
    by_cases hlt : k < l.length
    · obtain ⟨g1, o1, rfl, hg1, hc⟩ := HP.out (by omega)
      have hF := hide fun W (z : Kept Nil w W) => (hc k hlt).kept hg1 z
      clear hc hg1
      generalize l.getD k e0 = e at *
      have hF3 := hide fun W (z : Kept Nil w W) => show W.cell? ⟨g1, o1 + k * 4, none⟩ = some (.int .i64 e.k) ∧ W.cell? ⟨g1, o1 + k * 4 + 1, none⟩ = some (.int .i64 e.t) ∧ W.cell? ⟨g1, o1 + k * 4 + 2, none⟩ = some (.bool e.r) ∧ W.cell? ⟨g1, o1 + k * 4 + 3, none⟩ = some (.int .i64 e.c) from hF.out W z
      have C2 := hide (sdoF e HK.out.1 (by have := HK.out.2.1; omega))
      have HE := hide (And.intro (show (smov S e).length ≤ 32 from by rw [smov_len]; exact HK.out.2.1) (al_mov (e := e) HK.out.2.2))
      clear hF
      generalize hek : e.k = ek at *
      generalize het : e.t = et at *
      generalize her : e.r = er at *
      generalize hec : e.c = ec at *
      clear hek het her hec
      obtain ⟨f1, f2, f3, f4⟩ := hF3.out wr HK.out.1.kept
      go_wp2_with fail
      refine C2.out.mono ?_
      rintro x w2 ⟨rfl, h2, h3, h4⟩
      clear h3 h4 f1 f2 f3 f4 C2
      generalize sdof S e = d at *
      generalize smov S e = B at *
      have H2 := hide h2
      have HA := hide (al_alone HE.out.2)
      have c1 := hide fun (t : Nat) => cnt_next (A := B) (x := (2, true)) (t := t) (by decide)
      have c2 := hide fun (t : Nat) => cnt_next (A := B) (x := (2, false)) (t := t) (by decide)
      have c3 := hide fun (t : Nat) => And.intro (cnt_small (x := (2, true)) (t := t) HE.out.1) (cnt_small (x := (2, false)) (t := t) HE.out.1)
      have c4 := hide (And.intro (show cnt (2, true) (B.take 32) = rdn B from cnt_thirty HE.out.1) (show cnt (2, false) (B.take 32) = wrn B from cnt_thirty HE.out.1))
      clear h2 hF3
      go_wp2_with fail
      go_loopw [7, 8, 9] (fun v7 v8 v9 wr => ∃ t : Nat, t ≤ 32 ∧ v9 = .int .i64 t ∧ v7 = .int .i64 (cnt (2, true) (B.take t) : Nat) ∧ v8 = .int .i64 (cnt (2, false) (B.take t) : Nat) ∧ Sf w wr p g B) (fun _ _ v _ => 32 - (intOf v).toNat)
      case atStart => exact ⟨0, Nat.zero_le _, rfl, rfl, rfl, H2.out⟩
      case round =>
        obtain ⟨t, ht, rfl, rfl, rfl, h3⟩ := hrel
        have H3 := hide h3
        clear h3 H2
        by_cases htl : t < 32
        · have C3 := hide (sstate_c t H3.out.lk)
          have X1 := hide (c1.out t)
          have X2 := hide (c2.out t)
          obtain ⟨y1, y2⟩ := c3.out t
          generalize cnt (2, true) (B.take t) = m1 at *
          generalize cnt (2, false) (B.take t) = m2 at *
          generalize ssta B t = y at *
          obtain ⟨a, r⟩ := y
          go_wp2_with fail
          refine C3.out.mono ?_
          rintro x w3 ⟨rfl, h4⟩
          have H4 := hide (H3.out.keep h4)
          clear h4 C3
          by_cases ha : a = 2
          · subst ha
            cases r with
            | true =>
              have R1 : Hid (cnt (2, true) (B.take (t + 1)) = m1 + 1) := hide (X1.out.trans (by rw [if_pos rfl]))
              have R2 : Hid (cnt (2, false) (B.take (t + 1)) = m2) := hide (X2.out.trans (by rw [if_neg (by decide), Nat.add_zero]))
              clear X1 X2
              go_wp2_with fail
              go_roundw
              case rel => exact ⟨t + 1, by omega, by go_num, by rw [R1.out]; go_num, by rw [R2.out], H4.out⟩
              case measure => simp [intOf]; omega
            | false =>
              have R1 : Hid (cnt (2, true) (B.take (t + 1)) = m1) := hide (X1.out.trans (by rw [if_neg (by decide), Nat.add_zero]))
              have R2 : Hid (cnt (2, false) (B.take (t + 1)) = m2 + 1) := hide (X2.out.trans (by rw [if_pos rfl]))
              clear X1 X2
              go_wp2_with fail
              go_roundw
              case rel => exact ⟨t + 1, by omega, by go_num, by rw [R1.out], by rw [R2.out]; go_num, H4.out⟩
              case measure => simp [intOf]; omega
          · have R1 : Hid (cnt (2, true) (B.take (t + 1)) = m1) := hide (X1.out.trans (by rw [if_neg (fun z => ha (by injection z)), Nat.add_zero]))
            have R2 : Hid (cnt (2, false) (B.take (t + 1)) = m2) := hide (X2.out.trans (by rw [if_neg (fun z => ha (by injection z)), Nat.add_zero]))
            have hb : (a == 2) = false := by simpa using ha
            clear X1 X2 ha
            go_wp2_with fail
            go_roundw
            case rel => exact ⟨t + 1, by omega, by go_num, by rw [R1.out], by rw [R2.out], H4.out⟩
            case measure => simp [intOf]; omega
        · obtain rfl : t = 32 := by omega
          rw [c4.out.1, c4.out.2]
          have C5 := hide fun W (z : Kept Nil wr W) => sreaders_c (H3.out.lk.keep z) (by have := HE.out.1; omega)
          have C6 := hide fun W (z : Kept Nil wr W) => swriter_c (H3.out.lk.keep z) (by have := HE.out.1; omega)
          have HR := hide fun W (z : Kept Nil wr W) => show Sf w W p g B ∧ B.length ≤ 32 ∧ Al B from ⟨H3.out.keep z, HE.out.1, HE.out.2⟩
          obtain ⟨a1, a2, a3⟩ := HA.out
          clear c1 c2 c3 c4 HA
          generalize wrn B = q at *
          generalize rdn B = m at *
          generalize wri B = o at *
          by_cases hq : q = 1
          · subst hq
            obtain rfl : m = 0 := by omega
            have ho : decide (0 ≤ o) = true := decide_eq_true (a3.2 rfl)
            clear a1 a2 a3
            go_wp2_with fail
            refine (C5.out _ (Kept.refl _ _)).mono ?_
            rintro x w5 ⟨rfl, h5⟩
            have H5 := hide h5
            clear h5
            go_wp2_with fail
            refine (C6.out _ H5.out).mono ?_
            rintro x w6 ⟨rfl, h6⟩
            have H6 := hide (HR.out _ (H5.out.trans h6 (fun _ _ z => z)))
            clear h6
            go_wp2_with fail
            go_roundw
            case rel => exact ⟨k + 1, B, by omega, by go_num, H6.out.1, H6.out.2.1, H6.out.2.2⟩
            case measure => simp [intOf]; omega
          · obtain rfl : q = 0 := by omega
            have ho : decide (0 ≤ o) = false := decide_eq_false (fun z => by have := a3.1 z; omega)
            clear a1 a2 a3 hq
            go_wp2_with fail
            refine (C5.out _ (Kept.refl _ _)).mono ?_
            rintro x w5 ⟨rfl, h5⟩
            have H5 := hide h5
            clear h5
            go_wp2_with fail
            refine (C6.out _ H5.out).mono ?_
            rintro x w6 ⟨rfl, h6⟩
            have H6 := hide (HR.out _ (H5.out.trans h6 (fun _ _ z => z)))
            clear h6
            go_wp2_with fail
            go_roundw
            case rel => exact ⟨k + 1, B, by omega, by go_num, H6.out.1, H6.out.2.1, H6.out.2.2⟩
            case measure => simp [intOf]; omega
    · obtain rfl : k = l.length := by omega
      have HA := hide (sawake_c wr)
      go_wp2_with fail
      refine HA.out.mono ?_
      rintro x w9 ⟨rfl, h9⟩
      have H9 := hide (HK.out.1.kept.trans h9 (fun _ _ z => z))
      clear h9
      go_wp2_with fail
      go_ret
      exact ⟨rfl, H9.out⟩
theorem salone_c (n : Int) (hv : Evs w v l) : Calls Try.prog 3 #[.int .i64 n, v] w fun x w' => x = .returned (.bool true) ∧ Kept Nil w w' := by
  rcases Nat.lt_or_ge 60 l.length with h | h
  · exact salone_short n hv h
  · exact salone_long n hv h
end
end Go.Proofs.Ytmmncaabeiagaaa
