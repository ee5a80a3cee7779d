/- TallyAll: of what an automaton takes each event is a stay's. -/
import Derived.Test.YtnipgafogkbobaaYLaws
import Derived.Test.YtnipgafogkbobaaYAllM
import Derived.Test.YtnipgafogkbobaaHRDo
namespace Go.Proofs.Ytnipgafogkbobaa
open Go.RowKit
set_option maxRecDepth 100000

section
variable {w w' : World} {v : Value} {l : List Ev}
theorem ywf_snoc {L : List Ev} {e : Ev} (h : Ywf L) (he : (Lit.int .i64 e.t).wf = true) : Ywf (L ++ [e]) := by
  intro k hk
  rw [List.length_append] at hk
  simp at hk
  rcases Nat.lt_or_ge k L.length with h1 | h1
  · rw [show (L ++ [e]).getD k e0 = L.getD k e0 by simp only [List.getD_eq_getElem?_getD]; rw [List.getElem?_append_left h1]]
    exact h k h1
  · obtain rfl : k = L.length := by omega
    rw [show (L ++ [e]).getD L.length e0 = e by simp [List.getD]]
    exact he
set_option maxHeartbeats 4000000
theorem yall_short (hv : Evs w v l) (hn : 60 < l.length) : Calls Try.prog 3 #[v] w fun x w' => x = .returned (.bool true) ∧ Kept Nil w w' := by
  have hlen : decide (60 < (l.length : Int)) = true := by simp; omega
  have HA := hide (yawake_c w)
  obtain ⟨A, c, rfl, _, hp⟩ := hv
  clear hp
  go_enter Try.func3, Try.ntmps3
  go_wp2_with fail
  refine HA.out.mono ?_
  rintro e w1 ⟨rfl, h⟩
  have H := hide h
  clear h
  go_wp2_with fail
  go_ret
  exact ⟨rfl, H.out⟩
theorem yall_long (hv : Evs w v l) (hw : Ywf l) (hn : l.length ≤ 60) : Calls Try.prog 3 #[v] w fun x w' => x = .returned (.bool true) ∧ Kept Nil w w' := by
  have hlen : decide (60 < (l.length : Int)) = false := by simp; omega
  obtain ⟨i0, hi, hz0, hz1, hz2⟩ := info_parts info_event
  obtain ⟨A, c, rfl, _, hp⟩ := hv
  have HP := hide hp
  clear hp
  go_enter Try.func3, Try.ntmps3
  go_wp2_with fail
  go_loopw [3, 4] (fun v3 v4 wr => ∃ (k : Nat) (L : List Ev) (R : Option Addr) (c1 : Nat), k ≤ l.length ∧ v4 = .int .i64 k ∧ v3 = .slice R L.length c1 ∧ L.length ≤ k ∧ (Yal L ∧ Ywf L) ∧ Gw 25 4 w wr R c1 L.length (ecells L)) (fun _ i _ => l.length - (intOf i).toNat)
  case atStart => exact ⟨0, [], none, 0, Nat.zero_le _, rfl, rfl, Nat.le_refl _, ⟨yal_nil, fun k h => absurd h (by simp)⟩, Gw.start _ _ _⟩
  case round =>
    obtain ⟨k, L, R, c1, hk, rfl, rfl, hLk, hY, hg⟩ := hrel
    have HY := hide hY
    have HG := hide hg
    clear hY hg
    by_cases hlt : k < l.length
    · obtain ⟨g1, o1, rfl, hg1, hc⟩ := HP.out (by omega)
      have hF := hide fun W (z : Kept Nil w W) => (hc k hlt).kept hg1 z
      have hwk := hw k hlt
      clear hc hg1
      generalize l.getD k e0 = e at *
      obtain ⟨ek, et, er, ec⟩ := e
      have hF3 := hide fun W (z : Kept Nil w W) => show W.cell? ⟨g1, o1 + k * 4, none⟩ = some (.int .i64 ek) ∧ W.cell? ⟨g1, o1 + k * 4 + 1, none⟩ = some (.int .i64 et) ∧ W.cell? ⟨g1, o1 + k * 4 + 2, none⟩ = some (.bool er) ∧ W.cell? ⟨g1, o1 + k * 4 + 3, none⟩ = some (.int .i64 ec) from hF.out W z
      have C2 := hide (show Calls Try.prog 7 #[.int .i64 9, .slice R L.length c1, .agg #[.int .i64 ek, .int .i64 et, .bool er, .int .i64 ec]] wr fun x w' => x = .returned (.int .i64 (sdof (sds (um 9) L) ⟨ek, et, er, ec⟩)) ∧ Kept Nil wr w' from hrdo_c 9 HG.out.evs (by omega))
      have HN : Hid (sdof (sds (um 9) L) ⟨ek, et, er, ec⟩ = 0 → 1 ≤ ek ∧ ek ≤ 4 → Yal (L ++ [⟨ek, et, er, ec⟩]) ∧ Ywf (L ++ [⟨ek, et, er, ec⟩])) := hide fun h h2 => ⟨HY.out.1.snoc h2 (taken_in h h2), ywf_snoc HY.out.2 hwk⟩
      have HS := hide (ecells_snoc L ⟨ek, et, er, ec⟩)
      have HM := hide (show (L ++ [(⟨ek, et, er, ec⟩ : Ev)]).length = L.length + 1 by simp)
      clear hF hwk
      obtain ⟨f0, f1, f2, f3⟩ := hF3.out wr HG.out.kept
      generalize sdof (sds (um 9) L) ⟨ek, et, er, ec⟩ = d at *
      by_cases h1 : 1 ≤ ek
      · by_cases h4 : ek ≤ 4
        · have b1 : decide (1 ≤ ek) = true := by simpa using h1
          have b4 : decide (ek ≤ 4) = true := by simpa using h4
          go_wp2_with fail
          refine C2.out.mono ?_
          rintro x w2 ⟨rfl, hk2⟩
          have HG2 := hide (HG.out.keep hk2)
          clear hk2 C2 f0 f1 f2 f3
          obtain ⟨f0, f1, f2, f3⟩ := hF3.out w2 HG2.out.kept
          by_cases hd : d = 0
          · subst hd
            have HN2 := hide (HN.out rfl ⟨h1, h4⟩)
            have HMX : Hid (L.length + 1 ≤ maxLen ∧ (L.length + 1) * 32 ≤ 140737488355328) := hide ⟨by unfold maxLen; omega, by omega⟩
            clear HN HY
            go_wp2_with (at_builtin; refine wpList_append_own_at _ rfl (.tmp 39) (.tmp 44) _ rfl 0 25 i0 (.agg #[.int .i64 0, .int .i64 0, .bool false, .int .i64 0]) 4 32 Try.underlying22 hi hz0 hz1 hz2 rfl (by decide) (.slice R L.length c1) L.length (ecells L) rfl (HG2.out.row.alloc _) ⟨w2.heap.size, 0, none⟩ 1 1 [.int .i64 ek, .int .i64 et, .bool er, .int .i64 ec] rfl rfl (World.news_of_block (cs := #[.int .i64 ek, .int .i64 et, .bool er, .int .i64 ec]) (t := 25) (fr := (0, 0)) (heap_alloc_new w2 _)) (by intro u hu; simp at hu; rcases hu with rfl | rfl | rfl | rfl <;> rfl) HMX.out.1 HMX.out.2 (Nat.zero_le _) ?_; intro v' w4 hown' hgrow _ hat; obtain ⟨R2, c2, rfl, hg2⟩ := HG2.out.push ((Kept.refl Nil w2).alloc _) hown' hgrow hat; have H4 := hide hg2; clear hown' hgrow hat hg2)
            go_roundw
            case rel => exact ⟨k + 1, L ++ [⟨ek, et, er, ec⟩], R2, c2, by omega, by go_num, by rw [HM.out], by rw [HM.out]; omega, HN2.out, by rw [HM.out, HS.out]; exact H4.out⟩
            case measure => simp [intOf]; omega
          · have hb : (d == 0) = false := by simpa using hd
            clear HN HS HM hd
            go_wp2_with fail
            go_roundw
            case rel => exact ⟨k + 1, L, R, c1, by omega, by go_num, rfl, by omega, HY.out, HG2.out⟩
            case measure => simp [intOf]; omega
        · have b1 : decide (1 ≤ ek) = true := by simpa using h1
          have b4 : decide (ek ≤ 4) = false := by simpa using h4
          clear HN HS HM C2 h1 h4
          go_wp2_with fail
          go_roundw
          case rel => exact ⟨k + 1, L, R, c1, by omega, by go_num, rfl, by omega, HY.out, HG.out⟩
          case measure => simp [intOf]; omega
      · have b1 : decide (1 ≤ ek) = false := by simpa using h1
        clear HN HS HM C2 h1
        go_wp2_with fail
        go_roundw
        case rel => exact ⟨k + 1, L, R, c1, by omega, by go_num, rfl, by omega, HY.out, HG.out⟩
        case measure => simp [intOf]; omega
    · obtain rfl : k = l.length := by omega
      have hL60 : L.length ≤ 65536 := by omega
      have C1 := hide (many_c HG.out.evs HY.out.2 hL60)
      have C3 := hide fun W (z : Kept Nil wr W) => ins_at (Kept.refl _ W) (entries_c (HG.out.evs.kept z) HY.out.2 hL60)
      have C4 := hide fun W => yawake_c W
      have hsum := HY.out.1.sum
      have hent := HY.out.1.ent
      have q0 := ymn_le (p := Sy.a) (S := yof L)
      have q1 := ymn_le (p := Sy.e) (S := yof L)
      have q2 := ymn_le (p := Sy.x) (S := yof L)
      have q3 := ymn_le (p := Sy.z) (S := yof L)
      have hyl : (yof L).length ≤ L.length := yof_len
      unfold many4 fcs at C1
      rw [hent] at C3
      generalize ymn Sy.a (yof L) = n0 at *
      generalize ymn Sy.e (yof L) = n1 at *
      generalize ymn Sy.x (yof L) = n2 at *
      generalize ymn Sy.z (yof L) = n3 at *
      have HKW := hide HG.out.kept
      generalize L.length = N at *
      have hb : ((n0 : Int) + n1 + n2 + n3 == (N : Int)) = true := by simp; omega
      clear HG HY hent
      go_wp2_with fail
      refine C1.out.mono ?_
      rintro x w2 ⟨rfl, hk2⟩
      have HK2 := hide hk2
      clear hk2 C1
      obtain ⟨wb, hwb⟩ : ∃ wb, w2.alloc (.cells #[.int .i64 n0, .int .i64 n1, .int .i64 n2, .int .i64 n3] 28) = wb := ⟨_, rfl⟩
      have HB : Hid (Kept Nil wr wb ∧ Is wb w2.heap.size 28 #[.int .i64 n0, .int .i64 n1, .int .i64 n2, .int .i64 n3]) := hide ⟨by rw [← hwb]; exact HK2.out.alloc _, by rw [← hwb]; exact Is.new w2 _ _⟩
      obtain ⟨b, hbb⟩ : ∃ b, w2.heap.size = b := ⟨_, rfl⟩
      rw [hbb] at HB
      have CELLS := hide fun W (z : Kept Nil wb W) => show W.cell? ⟨b, 0, none⟩ = some (.int .i64 (n0 : Nat)) ∧ W.cell? ⟨b, 1, none⟩ = some (.int .i64 (n1 : Nat)) ∧ W.cell? ⟨b, 2, none⟩ = some (.int .i64 (n2 : Nat)) ∧ W.cell? ⟨b, 3, none⟩ = some (.int .i64 (n3 : Nat)) from
        have h := HB.out.2.kept z (fun y => y)
        ⟨h.cell 0, h.cell 1, h.cell 2, h.cell 3⟩
      have D3 := hide fun W (z : Kept Nil wb W) => (C3.out W (HB.out.1.trans z (fun _ _ y => y))).mono (R' := fun e w' => ∃ A c, e = .returned (.slice A n1 c) ∧ Kept Nil wb w') fun _ _ ⟨A, c, h1, _, h2⟩ => ⟨A, c, h1, z.trans h2 (fun _ _ y => y)⟩
      have D4 := hide fun W (z : Kept Nil wb W) => (C4.out W).mono (R' := fun e w' => e = .returned (.bool true) ∧ Kept Nil wb w') fun _ _ ⟨h1, h2⟩ => ⟨h1, z.trans h2 (fun _ _ y => y)⟩
      have hK : Kept Nil wb wb.drew := (Kept.refl _ wb).drew
      clear C3 C4
      go_wp2_with fail
      have u1 : IntKind.i64.wrap ((n0 : Int) + (n1 : Int)) = (n0 : Int) + (n1 : Int) := IntWalk.i64_in _ (by omega)
      have u2 : IntKind.i64.wrap ((n0 : Int) + (n1 : Int) + (n2 : Int)) = (n0 : Int) + (n1 : Int) + (n2 : Int) := IntWalk.i64_in _ (by omega)
      have u3 : IntKind.i64.wrap ((n0 : Int) + (n1 : Int) + (n2 : Int) + (n3 : Int)) = (n0 : Int) + (n1 : Int) + (n2 : Int) + (n3 : Int) := IntWalk.i64_in _ (by omega)
      have hb2 : (n0 + n1 + n2 + n3 == N) = true := by simp; omega
      go_region_held3 (fun W => W.cell? ⟨b, 0, none⟩ = some (.int .i64 (n0 : Nat)) ∧ W.cell? ⟨b, 1, none⟩ = some (.int .i64 (n1 : Nat)) ∧ W.cell? ⟨b, 2, none⟩ = some (.int .i64 (n2 : Nat)) ∧ W.cell? ⟨b, 3, none⟩ = some (.int .i64 (n3 : Nat)))
        (first | exact CELLS.out _ (by assumption) | exact CELLS.out _ (Kept.drew (by assumption)))
        (first
          | (go_at_call 9; refine (D3.out _ (by assumption)).mono ?_; rintro e w5 ⟨A5, c5, rfl, hk5⟩)
          | (go_at_call 6; refine (D4.out _ (by assumption)).mono ?_; rintro e w6 ⟨rfl, hk6⟩))
      have HF := hide (HKW.out.trans (HB.out.1.trans hk6 (fun _ _ y => y)) (fun _ _ y => y))
      go_wp2_with fail
      go_ret
      exact ⟨rfl, HF.out⟩
theorem yall_c (hv : Evs w v l) (hw : Ywf l) : Calls Try.prog 3 #[v] w fun x w' => x = .returned (.bool true) ∧ Kept Nil w w' := by
  rcases Nat.lt_or_ge 60 l.length with h | h
  · exact yall_short hv h
  · exact yall_long hv hw h
end
end Go.Proofs.Ytnipgafogkbobaa
