/- The law AutoOne, walked. -/
import Derived.Test.YtkdmodjfninekaaULaws
namespace Go.Proofs.Ytkdmodjfninekaa
open Go.RowKit
set_option maxRecDepth 100000

/-- How many are found in, of the first ones. -/
def inN (A : List Int) (t : Nat) : Nat := if 0 ≤ hol A ∧ hol A < t then 1 else 0
theorem inN_zero {A : List Int} : inN A 0 = 0 := if_neg (by omega)
theorem inN_yes {A : List Int} {t : Nat} (h : hol A = t) : inN A t = 0 ∧ inN A (t + 1) = 1 := ⟨if_neg (by omega), if_pos (by omega)⟩
theorem inN_no {A : List Int} {t : Nat} (h : hol A ≠ t) : inN A (t + 1) = inN A t := by
  unfold inN
  by_cases h1 : 0 ≤ hol A ∧ hol A < t
  · rw [if_pos h1, if_pos (by omega)]
  · rw [if_neg h1, if_neg (by omega)]
theorem inN_all {A : List Int} : (hol A = -1 ∧ inN A A.length = 0) ∨ (0 ≤ hol A ∧ inN A A.length = 1) := by
  have h := hol_in (A := A)
  by_cases h1 : 0 ≤ hol A
  · exact .inr ⟨h1, if_pos ⟨h1, h.2⟩⟩
  · exact .inl ⟨by omega, if_neg (fun z => h1 z.1)⟩
theorem inN_le {A : List Int} {t : Nat} : inN A t ≤ 1 := by unfold inN; split <;> omega

section
variable {w : World} {v : Value} {l : List Ev}
set_option maxHeartbeats 4000000
theorem uone_short (n : Int) (hv : Evs w v l) (hn : 60 < l.length) : Calls Try.prog 4 #[.int .i64 n, v] w fun x w' => x = .returned (.bool true) ∧ Kept Nil w w' := by
  obtain ⟨A, c, rfl, hx1, hx2⟩ := hv
  clear hx1 hx2
  have HA := hide (uawake_c w)
  go_enter Try.func4, Try.ntmps4
  go_wp2_with fail
  refine HA.out.mono ?_
  rintro x w1 ⟨rfl, k1⟩
  have HE := hide k1
  clear k1
  go_wp2_with fail
  go_ret
  exact ⟨rfl, HE.out⟩
theorem uone_long (n : Int) (hv : Evs w v l) (hn : l.length ≤ 60) : Calls Try.prog 4 #[.int .i64 n, v] w fun x w' => x = .returned (.bool true) ∧ Kept Nil w w' := by
  have hlen : decide (60 < (l.length : Int)) = false := by simp; omega
  have HN := hide (unewF (Kept.refl Nil w) n)
  have hum := um_le (t := n)
  have HZ : Hid ((List.replicate (um n) (0 : Int)).length ≤ 32 ∧ Ex (List.replicate (um n) 0)) := hide ⟨by rw [List.length_replicate]; exact hum, ex_zero⟩
  clear hum
  generalize List.replicate (um n) (0 : Int) = A0 at *
  obtain ⟨A, c, rfl, _, hp⟩ := hv
  have HP := hide hp
  clear hp
  go_enter Try.func4, Try.ntmps4
  go_wp2_with fail
  refine HN.out.mono ?_
  rintro x w1 ⟨p, g, rfl, hU⟩
  have HU := hide hU
  clear hU HN
  go_wp2_with fail
  go_loopw [6] (fun i wr => ∃ (k : Nat) (S : List Int), k ≤ l.length ∧ i = .int .i64 k ∧ Uf w wr p g S ∧ S.length ≤ 32 ∧ Ex S) (fun i _ => l.length - (intOf i).toNat)
  case atStart => exact ⟨0, A0, Nat.zero_le _, rfl, HU.out, HZ.out.1, HZ.out.2⟩
  case round =>
    obtain ⟨k, S, hk, rfl, hU, hs, hx⟩ := hrel
    have HK := hide (And.intro hU (And.intro hs hx))
    clear hU hs hx HU HZ
    by_cases hlt : k < l.length
    · obtain ⟨g1, o1, rfl, hg1, hc⟩ := HP.out (by omega)
      have hF := hide fun W (z : Kept Nil w W) => (hc k hlt).kept hg1 z
      clear hc hg1
      generalize l.getD k e0 = e at *
      have hF3 := hide fun W (z : Kept Nil w W) => show W.cell? ⟨g1, o1 + k * 4, none⟩ = some (.int .i64 e.k) ∧ W.cell? ⟨g1, o1 + k * 4 + 1, none⟩ = some (.int .i64 e.t) ∧ W.cell? ⟨g1, o1 + k * 4 + 2, none⟩ = some (.bool e.r) ∧ W.cell? ⟨g1, o1 + k * 4 + 3, none⟩ = some (.int .i64 e.c) from hF.out W z
      have C1 := hide (ulstate_c e.t HK.out.1.lk)
      have C2 := hide (udoF e HK.out.1 (by have := HK.out.2.1; omega))
      have HE := hide (And.intro (show (mov S e).length ≤ 32 from by rw [mov_len]; exact HK.out.2.1) (ex_mov (e := e) HK.out.2.2))
      have HS := hide (And.intro (fun h => mov_err (A := S) (e := e) h) (fun h1 h2 => enters (A := S) (e := e) h1 h2))
      obtain ⟨a, ha⟩ : ∃ a, sta S e.t = a := ⟨_, rfl⟩
      rw [ha] at C1 HS
      have HA := hide ha
      clear ha hF
      generalize hek : e.k = ek at *
      generalize het : e.t = et at *
      generalize her : e.r = er at *
      generalize hec : e.c = ec at *
      clear hek het her hec
      obtain ⟨f1, f2, f3, f4⟩ := hF3.out wr HK.out.1.kept
      go_wp2_with fail
      refine C1.out.mono ?_
      rintro x w2 ⟨rfl, rfl⟩
      go_wp2_with fail
      refine C2.out.mono ?_
      rintro x w2 ⟨rfl, h2, h3⟩
      clear h3 f1 f2 f3 f4 C1 C2
      obtain ⟨f1, f2, f3, f4⟩ := hF3.out w2 h2.kept
      clear f3 f4
      generalize dof S e = d at *
      generalize mov S e = B at *
      have H2 := hide (And.intro h2 (And.intro HE.out.1 HE.out.2))
      have C3 := hide (uthreads_c h2.lk)
      have C4 := hide fun t => ulstate_c t h2.lk
      have C5 := hide (ulholder_c h2.lk (by have := HE.out.1; omega))
      have C6 := hide fun (h : d ≠ 0) => show Calls Try.prog 11 #[.pointer p, .int .i64 et] w2 fun x w' => x = .returned (.int .i64 a) ∧ w2 = w' from by
        have := ulstate_c et h2.lk
        rw [HS.out.1 h, HA.out] at this
        exact this
      have h32 := HE.out.1
      clear h2 HE
      go_wp2_with fail
      go_loop [9, 10] (fun v9 v10 => ∃ t : Nat, t ≤ B.length ∧ v10 = .int .i64 t ∧ v9 = .int .i64 (inN B t : Nat)) (fun _ v => B.length - (intOf v).toNat)
      case atStart => exact ⟨0, Nat.zero_le _, rfl, by rw [inN_zero]; rfl⟩
      case round =>
        obtain ⟨t, ht, rfl, rfl⟩ := hrel
        go_wp2_with fail
        refine C3.out.mono ?_
        rintro x w3 ⟨rfl, rfl⟩
        by_cases htl : t < B.length
        · have h1 := hol_one H2.out.2.2 htl
          have C4t := C4.out t
          rw [sta_at htl] at C4t
          have C4t := hide C4t
          by_cases hh : hol B = t
          · have h2 := h1.2 hh
            rw [h2] at C4t
            rw [hh] at C5
            have HI := hide (inN_yes hh)
            rw [HI.out.1]
            clear h1 h2 hh
            go_wp2_with fail
            refine C4t.out.mono ?_
            rintro x w3 ⟨rfl, rfl⟩
            go_wp2_with fail
            refine C5.out.mono ?_
            rintro x w3 ⟨rfl, rfl⟩
            go_wp2_with fail
            go_round
            case rel => exact ⟨t + 1, by omega, by go_num, by rw [HI.out.2]; rfl⟩
            case measure => simp [intOf]; omega
          · have h2 : B.getD t 0 ≠ 2 := fun z => hh (h1.1 z)
            have hb : (B.getD t 0 == 2) = false := by simpa using h2
            have HI := hide (inN_no hh)
            generalize B.getD t 0 = y at *
            clear h1 h2 hh
            go_wp2_with fail
            refine C4t.out.mono ?_
            rintro x w3 ⟨rfl, rfl⟩
            go_wp2_with fail
            go_round
            case rel => exact ⟨t + 1, by omega, by go_num, by rw [HI.out]⟩
            case measure => simp [intOf]; omega
        · obtain rfl : t = B.length := by omega
          clear C3 C4 htl ht
          rcases inN_all (A := B) with ⟨h1, h2⟩ | ⟨h1, h2⟩
          · rw [h2]
            rw [h1] at C5
            clear h1 h2
            by_cases h0 : d = 0
            · subst h0
              by_cases h2 : ek = 2
              · subst h2
                obtain rfl : a = 1 := HS.out.2 rfl rfl
                go_wp2_with fail
                refine C5.out.mono ?_
                rintro x w3 ⟨rfl, rfl⟩
                go_wp2_with fail
                go_roundw
                case rel => exact ⟨k + 1, B, by omega, by go_num, H2.out.1, H2.out.2.1, H2.out.2.2⟩
                case measure => simp [intOf]; omega
              · have b2 : (ek == 2) = false := by simpa using h2
                clear h2
                go_wp2_with fail
                refine C5.out.mono ?_
                rintro x w3 ⟨rfl, rfl⟩
                go_wp2_with fail
                go_roundw
                case rel => exact ⟨k + 1, B, by omega, by go_num, H2.out.1, H2.out.2.1, H2.out.2.2⟩
                case measure => simp [intOf]; omega
            · have hb : (d != 0) = true := by simpa using h0
              have hb2 : (d == 0) = false := by simpa using h0
              have C6 := hide (C6.out h0)
              clear h0
              go_wp2_with fail
              refine C5.out.mono ?_
              rintro x w3 ⟨rfl, rfl⟩
              go_wp2_with fail
              refine C6.out.mono ?_
              rintro x w3 ⟨rfl, rfl⟩
              go_wp2_with fail
              go_roundw
              case rel => exact ⟨k + 1, B, by omega, by go_num, H2.out.1, H2.out.2.1, H2.out.2.2⟩
              case measure => simp [intOf]; omega
          · rw [h2]
            clear h1 h2 C5
            by_cases h0 : d = 0
            · subst h0
              by_cases h2 : ek = 2
              · subst h2
                obtain rfl : a = 1 := HS.out.2 rfl rfl
                go_wp2_with fail
                go_roundw
                case rel => exact ⟨k + 1, B, by omega, by go_num, H2.out.1, H2.out.2.1, H2.out.2.2⟩
                case measure => simp [intOf]; omega
              · have b2 : (ek == 2) = false := by simpa using h2
                clear h2
                go_wp2_with fail
                go_roundw
                case rel => exact ⟨k + 1, B, by omega, by go_num, H2.out.1, H2.out.2.1, H2.out.2.2⟩
                case measure => simp [intOf]; omega
            · have hb : (d != 0) = true := by simpa using h0
              have hb2 : (d == 0) = false := by simpa using h0
              have C6 := hide (C6.out h0)
              clear h0
              go_wp2_with fail
              refine C6.out.mono ?_
              rintro x w3 ⟨rfl, rfl⟩
              go_wp2_with fail
              go_roundw
              case rel => exact ⟨k + 1, B, by omega, by go_num, H2.out.1, H2.out.2.1, H2.out.2.2⟩
              case measure => simp [intOf]; omega
    · obtain rfl : k = l.length := by omega
      have HA := hide (uawake_c wr)
      go_wp2_with fail
      refine HA.out.mono ?_
      rintro x w9 ⟨rfl, h9⟩
      have H9 := hide (HK.out.1.kept.trans h9 (fun _ _ z => z))
      clear h9
      go_wp2_with fail
      go_ret
      exact ⟨rfl, H9.out⟩
theorem uone_c (n : Int) (hv : Evs w v l) : Calls Try.prog 4 #[.int .i64 n, v] w fun x w' => x = .returned (.bool true) ∧ Kept Nil w w' := by
  rcases Nat.lt_or_ge 60 l.length with h | h
  · exact uone_short n hv h
  · exact uone_long n hv h
end
end Go.Proofs.Ytkdmodjfninekaa
