/- The document's Longest, Fifo. -/
import Derived.Test.YtnipgafogkbobaaYRefB
namespace Go.Proofs.Ytnipgafogkbobaa
open Go.RowKit
set_option maxRecDepth 100000

section
variable {w : World} {v : Value} {l : List Ev}
set_option maxHeartbeats 2000000
theorem rlongest_c (hv : Evs w v l) (hl : l.length ≤ 65536) : Calls Try.prog 16 #[v] w fun e w' => e = .returned (.int .i64 (ylo l.length (yof l))) ∧ Kept Nil w w' := by
  have CO := hide (rof_c hv hl)
  have hSl : (yof l).length ≤ 65536 := Nat.le_trans yof_len hl
  have HS := hide (ysm_all (l := l))
  generalize yof l = F at *
  obtain ⟨A, c, rfl, hlc, hp⟩ := hv
  clear hp
  go_enter Try.func16, Try.ntmps16
  go_wp2_with fail
  refine CO.out.mono ?_
  rintro e w1 ⟨A2, c2, rfl, hg⟩
  have HG := hide hg
  clear hg CO
  go_wp2_with fail
  go_loopw [3, 5] (fun v3 v5 wr => ∃ k : Nat, k ≤ F.length ∧ v5 = .int .i64 k ∧ v3 = .int .i64 (ylo l.length (F.take k)) ∧ Gw 36 7 w wr A2 c2 F.length (ycells F)) (fun _ i _ => F.length - (intOf i).toNat)
  case atStart => exact ⟨0, Nat.zero_le _, rfl, rfl, HG.out⟩
  case round =>
    obtain ⟨k, hk, rfl, rfl, hg⟩ := hrel
    clear HG
    have HG := hide hg
    clear hg
    by_cases hlt : k < F.length
    · obtain ⟨g, rfl, hgl, _, hc1, h7, _⟩ := HG.out.at7 hlt
      have hsm := HS.out k hlt
      have HL1 := hide (ylo_take (n := l.length) hlt)
      generalize F.getD k s0 = s at *
      obtain ⟨st, sr, sa, se, sx, sz, sc⟩ := s
      obtain ⟨_, _, q2, q3, _⟩ := h7.cells
      have ha1 : 0 ≤ sa := hsm.1
      have ha2 : sa < l.length := hsm.2.1
      have he1 : -1 ≤ se := hsm.2.2.1
      have he2 : se < l.length := hsm.2.2.2.1
      have HG2 : Hid (∀ n, Gw 36 7 w (wr.drewN n) (some ⟨g, 0, none⟩) c2 F.length (ycells F)) := hide fun n => HG.out.keep ((Kept.refl _ wr).drewN n)
      clear HG hsm h7
      generalize ylo l.length (F.take k) = lo at *
      have hw1 : IntKind.i64.wrap (se - sa) = se - sa := IntWalk.i64_in _ (by omega)
      by_cases he : se = -1
      · subst he
        have HL2 : Hid (ylo l.length (F.take (k + 1)) = if lo < (l.length : Int) - sa then (l.length : Int) - sa else lo) := HL1
        have hw2 : IntKind.i64.wrap ((l.length : Int) - sa) = (l.length : Int) - sa := IntWalk.i64_in _ (by omega)
        clear HL1
        by_cases hlo : lo < (l.length : Int) - sa
        · have HL : Hid (ylo l.length (F.take (k + 1)) = (l.length : Int) - sa) := hide (HL2.out.trans (if_pos hlo))
          have hd : decide (lo < (l.length : Int) - sa) = true := by simpa using hlo
          clear HL2 hlo
          go_wp2_with fail
          go_quiet (fail)
          go_wp2_with fail
          go_roundw
          case rel => exact ⟨k + 1, by omega, by go_num, by rw [HL.out], HG2.out _⟩
          case measure => simp [intOf]; omega
        · have HL : Hid (ylo l.length (F.take (k + 1)) = lo) := hide (HL2.out.trans (if_neg hlo))
          have hd : decide (lo < (l.length : Int) - sa) = false := by simpa using hlo
          clear HL2 hlo
          go_wp2_with fail
          go_quiet (fail)
          go_wp2_with fail
          go_roundw
          case rel => exact ⟨k + 1, by omega, by go_num, by rw [HL.out], HG2.out _⟩
          case measure => simp [intOf]; omega
      · have hen : decide (se < 0) = false := by simp; omega
        have HL2 : Hid (ylo l.length (F.take (k + 1)) = if lo < se - sa then se - sa else lo) := hide (by
          have h : yun l.length ⟨st, sr, sa, se, sx, sz, sc⟩ = se := if_neg he
          have h2 := HL1.out
          rw [h] at h2
          exact h2)
        clear HL1 he
        by_cases hlo : lo < se - sa
        · have HL : Hid (ylo l.length (F.take (k + 1)) = se - sa) := hide (HL2.out.trans (if_pos hlo))
          have hd : decide (lo < se - sa) = true := by simpa using hlo
          clear HL2 hlo
          go_wp2_with fail
          go_quiet (fail)
          go_wp2_with fail
          go_roundw
          case rel => exact ⟨k + 1, by omega, by go_num, by rw [HL.out], HG2.out _⟩
          case measure => simp [intOf]; omega
        · have HL : Hid (ylo l.length (F.take (k + 1)) = lo) := hide (HL2.out.trans (if_neg hlo))
          have hd : decide (lo < se - sa) = false := by simpa using hlo
          clear HL2 hlo
          go_wp2_with fail
          go_quiet (fail)
          go_wp2_with fail
          go_roundw
          case rel => exact ⟨k + 1, by omega, by go_num, by rw [HL.out], HG2.out _⟩
          case measure => simp [intOf]; omega
    · obtain rfl : k = F.length := by omega
      rw [List.take_length]
      go_wp2_with fail
      go_ret
      exact ⟨rfl, HG.out.kept⟩
theorem rfifo_c (hv : Evs w v l) (hl : l.length ≤ 65536) : Calls Try.prog 18 #[v] w fun e w' => e = .returned (.bool (yfi (yof l))) ∧ Kept Nil w w' := by
  have CO := hide (rof_c hv hl)
  have hSl : (yof l).length ≤ 65536 := Nat.le_trans yof_len hl
  generalize yof l = F at *
  obtain ⟨A, c, rfl, hlc, hp⟩ := hv
  clear hp
  go_enter Try.func18, Try.ntmps18
  go_wp2_with fail
  refine CO.out.mono ?_
  rintro e w1 ⟨A2, c2, rfl, hg⟩
  have HG := hide hg
  clear hg CO
  go_wp2_with fail
  go_loopw [4] (fun v4 wr => ∃ b : Nat, b ≤ F.length ∧ v4 = .int .i64 b ∧ (∀ b', b' < b → ∀ a, a < b' → ¬ Ypas F a b') ∧ Gw 36 7 w wr A2 c2 F.length (ycells F)) (fun i _ => F.length - (intOf i).toNat)
  case atStart => exact ⟨0, Nat.zero_le _, rfl, fun _ h => absurd h (by omega), HG.out⟩
  case round =>
    obtain ⟨b, hb, rfl, hB, hg⟩ := hrel
    clear HG
    have HG := hide hg
    have HB := hide hB
    clear hg hB
    by_cases hlt : b < F.length
    · go_wp2_with fail
      go_loopw [5] (fun v5 wi => ∃ a : Nat, a ≤ b ∧ v5 = .int .i64 a ∧ (∀ a', a' < a → ¬ Ypas F a' b) ∧ Gw 36 7 w wi A2 c2 F.length (ycells F)) (fun i _ => b - (intOf i).toNat)
      case atStart => exact ⟨0, Nat.zero_le _, rfl, fun _ h => absurd h (by omega), HG.out⟩
      case round =>
        obtain ⟨a, ha, rfl, hA, hg⟩ := hrel
        clear HG
        have HG := hide hg
        have HA := hide hA
        clear hg hA
        by_cases hab : a < b
        · obtain ⟨g, rfl, hgl, _, hc1, h7, _⟩ := HG.out.at7 hlt
          obtain ⟨g', eg, _, _, _, h8, _⟩ := HG.out.at7 (show a < F.length by omega)
          injection eg with eg
          injection eg with eg
          subst eg
          have q3 : wr.cell? ⟨g, b * 7 + 3, none⟩ = some (.int .i64 (F.getD b s0).e) := h7.e
          have q4 : wr.cell? ⟨g, a * 7 + 3, none⟩ = some (.int .i64 (F.getD a s0).e) := h8.e
          have HP : Hid (Ypas F a b ↔ 0 ≤ (F.getD b s0).e ∧ ((F.getD a s0).e < 0 ∨ (F.getD b s0).e < (F.getD a s0).e)) := hide Iff.rfl
          have HG2 : Hid (∀ n, Gw 36 7 w (wr.drewN n) (some ⟨g, 0, none⟩) c2 F.length (ycells F)) := hide fun n => HG.out.keep ((Kept.refl _ wr).drewN n)
          clear HG h7 h8 HB
          have hal : a < F.length := by omega
          generalize (F.getD b s0).e = eb at *
          generalize (F.getD a s0).e = ea at *
          by_cases h1 : 0 ≤ eb
          · have b1 : decide (0 ≤ eb) = true := by simpa using h1
            by_cases h2 : ea < 0
            · have b2 : decide (ea < 0) = true := by simpa using h2
              have HF : Hid (yfi F = false) := hide (yfi_false hlt hab (HP.out.2 ⟨h1, .inl h2⟩))
              clear h1 h2 HP HA
              go_wp2_with fail
              go_quiet (fail)
              go_wp2_with fail
              go_ret
              exact ⟨by rw [HF.out]; rfl, (HG2.out _).kept⟩
            · have b2 : decide (ea < 0) = false := by simpa using h2
              by_cases h3 : eb < ea
              · have b3 : decide (eb < ea) = true := by simpa using h3
                have HF : Hid (yfi F = false) := hide (yfi_false hlt hab (HP.out.2 ⟨h1, .inr h3⟩))
                clear h1 h2 h3 HP HA
                go_wp2_with fail
                go_quiet (fail)
                go_wp2_with fail
                go_ret
                exact ⟨by rw [HF.out]; rfl, (HG2.out _).kept⟩
              · have b3 : decide (eb < ea) = false := by simpa using h3
                have HN : Hid (∀ a', a' < a + 1 → ¬ Ypas F a' b) := hide (fun a' h => by
                  by_cases e : a' = a
                  · rw [e]; exact fun z => (HP.out.1 z).2.elim h2 h3
                  · exact HA.out a' (by omega))
                clear h1 h2 h3 HP HA
                go_wp2_with fail
                go_quiet (fail)
                go_wp2_with fail
                go_roundw
                case rel => exact ⟨a + 1, by omega, by go_num, HN.out, HG2.out _⟩
                case measure => simp [intOf]; omega
          · have b1 : decide (0 ≤ eb) = false := by simpa using h1
            have HN : Hid (∀ a', a' < a + 1 → ¬ Ypas F a' b) := hide (fun a' h => by
              by_cases e : a' = a
              · rw [e]; exact fun z => h1 (HP.out.1 z).1
              · exact HA.out a' (by omega))
            clear h1 HP HA
            go_wp2_with fail
            go_quiet (fail)
            go_wp2_with fail
            go_roundw
            case rel => exact ⟨a + 1, by omega, by go_num, HN.out, HG2.out _⟩
            case measure => simp [intOf]; omega
        · obtain rfl : a = b := by omega
          have HN : Hid (∀ b', b' < a + 1 → ∀ a', a' < b' → ¬ Ypas F a' b') := hide (fun b' h a' h2 => by
            by_cases e : b' = a
            · rw [e] at h2 ⊢; exact HA.out a' h2
            · exact HB.out b' (by omega) a' h2)
          clear HA HB
          go_wp2_with fail
          go_roundw
          case rel => exact ⟨a + 1, by omega, by go_num, HN.out, HG.out⟩
          case measure => simp [intOf]; omega
    · obtain rfl : b = F.length := by omega
      have HF : Hid (yfi F = true) := hide (yfi_iff.2 HB.out)
      clear HB
      go_wp2_with fail
      go_ret
      exact ⟨by rw [HF.out]; rfl, HG.out.kept⟩
end
end Go.Proofs.Ytnipgafogkbobaa
