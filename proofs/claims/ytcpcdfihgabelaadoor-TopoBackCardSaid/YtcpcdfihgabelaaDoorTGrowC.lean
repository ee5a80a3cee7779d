/- Contracts of stand and grow. -/
import Derived.Test.YtcpcdfihgabelaaDoorTGrow
import Derived.Test.YtcpcdfihgabelaaDoorTTreeC
import Derived.OwnWalk
namespace Go.Proofs.YtcpcdfihgabelaaDoor
open Go.RowKit
set_option maxRecDepth 100000

theorem Gr.one (w : World) (x : Int) : Gr w (w.alloc (.cells #[.int .i64 x] 3)) (some ⟨w.heap.size, 0, none⟩) 1 [x] := by
  refine ⟨?_, (Kept.refl _ w).alloc _, fun g hg => ?_⟩
  · exact ⟨rfl, .inr ⟨w.heap.size, 1, #[.int .i64 x], rfl, Nat.zero_le _, Is.new w _ _, Nat.le_refl _, by decide, rfl, rfl⟩⟩
  · injection hg with hg
    rw [← hg]
    exact Nat.le_refl _
section
variable {w : World} {v : Value} {L0 parts : List Int}
set_option maxHeartbeats 2000000
theorem stand_c (p : Nat) (hv : Nums w v L0) (hl : L0.length ≤ 4096) (hp : p ≤ 64) : Calls Tryd.prog 41 #[v, .int .i64 p] w fun e w' => ∃ v', e = .returned v' ∧ Nums w' v' (each L0 p) ∧ Kept Nil w w' := by
  obtain ⟨i0, hi, hz0, hz1, hz2⟩ := info_parts info_int
  obtain ⟨A0, c0, rfl, hp0⟩ := hv
  have HP := hide hp0
  clear hp0
  go_enter Tryd.func41, Tryd.ntmps41
  go_wp2_with fail
  go_loopw [5, 10] (fun v5 v10 wr => ∃ (j : Nat) (L : List Int) (A : Option Addr) (c : Nat), j ≤ L0.length ∧ v10 = .int .i64 j ∧ v5 = .slice A L.length c ∧ L = fl [] L0 p j 0 ∧ Gr w wr A c L) (fun _ i _ => L0.length - (intOf i).toNat)
  case atStart => exact ⟨0, [], none, 0, Nat.zero_le _, rfl, rfl, fl_start.symm, Gr.start _⟩
  case round =>
    obtain ⟨j, L, A, c, hj, rfl, rfl, hL, hg⟩ := hrel
    have HL := hide hL
    have HGR := hide hg
    clear hL hg
    by_cases hlt : j < L0.length
    · obtain ⟨g, o, rfl, hg, hc⟩ := HP.out (by omega)
      have k1 := (HGR.out.kept.cell (p := ⟨g, o + j, none⟩) hg (fun z => z)).trans (hc j hlt)
      have HX := hide (fun i => fl_more (B := []) (L := L0) (p := p) (j := j) (i := i))
      clear hc
      generalize L0.getD j 0 = x at *
      go_wp2_with fail
      go_loopw [5, 15] (fun v5 v15 W => ∃ (i : Nat) (L : List Int) (A : Option Addr) (c : Nat), i ≤ p ∧ v15 = .int .i64 i ∧ v5 = .slice A L.length c ∧ L = fl [] L0 p j i ∧ Gr w W A c L) (fun _ i _ => p - (intOf i).toNat)
      case atStart => exact ⟨0, L, A, c, Nat.zero_le _, rfl, rfl, HL.out, HGR.out⟩
      case round =>
        clear k1
        obtain ⟨i, L, A, c, hip, rfl, rfl, hL, hg⟩ := hrel
        have HL := hide hL
        have HGR := hide hg
        have hlen : L.length ≤ 300000 := by
          rw [hL, fl_len (Nat.le_of_lt hlt)]
          have : j * p ≤ 4096 * 64 := Nat.mul_le_mul (by omega) hp
          simp only [List.length_nil]
          omega
        have hm1 : L.length + 1 ≤ maxLen := by simp only [maxLen]; omega
        have hm2 : (L.length + 1) * 8 ≤ 140737488355328 := by omega
        have HM := hide (And.intro hm1 hm2)
        clear hm1 hm2
        clear hL hg
        by_cases hil : i < p
        · go_wp2_with (at_builtin; refine wpList_append_own_at _ rfl (.tmp 17) (.tmp 19) _ rfl 0 3 i0 (.int .i64 0) 1 8 Tryd.underlying22 hi hz0 hz1 hz2 rfl (by decide) (.slice A L.length c) L.length (L.map (Value.int .i64)) rfl (HGR.out.row.alloc _) ⟨wr.heap.size, 0, none⟩ 1 1 [.int .i64 x] rfl rfl (cell_one_new _ _ _) (by intro u hu; simp at hu; subst hu; rfl) HM.out.1 HM.out.2 (Nat.zero_le _) ?_; intro v' w1 hown' hgrow _ hat; obtain ⟨A2, c2, rfl, hgr2⟩ := HGR.out.push hown' hgrow hat; have HD := hide hgr2; clear hown' hgrow hat hgr2)
          go_roundw
          case rel => exact ⟨i + 1, L ++ [x], A2, c2, by omega, by go_num, by simp, by rw [HX.out i, ← HL.out], HD.out⟩
          case measure => simp [intOf]; omega
        · obtain rfl : i = p := by omega
          go_wp2_with fail
          go_roundw
          case rel => exact ⟨j + 1, L, A, c, by omega, by go_num, rfl, by rw [fl_next hlt, ← HL.out], HGR.out⟩
          case measure => simp [intOf]; omega
    · obtain rfl : j = L0.length := by omega
      go_wp2_with fail
      go_ret
      exact ⟨_, rfl, by have := HGR.out.row.nums; rw [HL.out, fl_all, List.nil_append] at this; rw [HL.out, fl_all, List.nil_append]; exact this, HGR.out.kept⟩
/-- What grow comes to. -/
def GrownTo (parts : List Int) (w : World) (e : Ending) (w' : World) : Prop := Kept Nil w w' ∧ ∃ v, (e = .returned (.tuple #[v, .int .i64 0]) ∧ Nums w' v (evP parts) ∧ (evP parts).length ≤ 1200) ∨ (e = .returned (.tuple #[v, .int .i64 8]) ∧ 32 < (evP parts).length)
theorem grow_c (hv : Nums w v parts) (hl : parts.length ≤ 64) (hpos : ∀ x ∈ parts, 1 ≤ x) : Calls Tryd.prog 40 #[v] w (GrownTo parts w) := by
  obtain ⟨i0, hi, hz0, hz1, hz2⟩ := info_parts info_int
  obtain ⟨A0, c0, rfl, hp0⟩ := hv
  have HP := hide hp0
  have HPOS := hide hpos
  clear hp0 hpos
  go_enter Tryd.func40, Tryd.ntmps40
  go_wp2_with fail
  go_loopw [4, 5, 13] (fun v4 v5 v13 wr => ∃ (k : Nat) (f : Nat) (L : List Int) (A : Option Addr) (c : Nat), k ≤ parts.length ∧ v13 = .int .i64 k ∧ v5 = .int .i64 f ∧ v4 = .slice A L.length c ∧ L.length ≤ 1200 ∧ gk parts k = (L, f) ∧ Gr w wr A c L) (fun _ _ i _ => parts.length - (intOf i).toNat)
  case atStart => exact ⟨0, 0, [-1], some ⟨w.heap.size, 0, none⟩, 1, Nat.zero_le _, rfl, rfl, rfl, by decide, rfl, Gr.one _ _⟩
  case round =>
    obtain ⟨k, f, B, A, c, hk, rfl, rfl, rfl, hlen, hG, hg⟩ := hrel
    have HG := hide hG
    have HGR := hide hg
    clear hG hg
    by_cases hlt : k < parts.length
    · obtain ⟨g, o, rfl, hg, hc⟩ := HP.out (by omega)
      have k1 := (HGR.out.kept.cell (p := ⟨g, o + k, none⟩) hg (fun z => z)).trans (hc k hlt)
      have hq := HPOS.out _ (getD_in hlt)
      have hgr := grown HPOS.out (k := k) (by omega)
      rw [HG.out] at hgr
      have hfl : f < B.length := hgr.lt
      obtain ⟨q, hqe⟩ : ∃ q : Nat, parts.getD k 0 = q := ⟨(parts.getD k 0).toNat, by omega⟩
      have HN : Hid (gk parts (k + 1) = (B ++ each (lv f B.length) q, B.length)) := hide (by show ((gk parts k).1 ++ each (lv (gk parts k).2 (gk parts k).1.length) (parts.getD k 0).toNat, (gk parts k).1.length) = _; rw [HG.out, hqe, Int.toNat_natCast])
      have HS : Hid (B.length + q ≤ (B ++ each (lv f B.length) q).length) := hide (step_long (p := q) hgr)
      rw [hqe] at k1 hq
      clear hc hgr hqe
      by_cases hmany : (32 : Int) - B.length < q
      · have HM2 : Hid (32 < (evP parts).length) := hide (by
          have h1 := HS.out
          have h2 := gk_mono (parts := parts) (k := k + 1) (m := parts.length) (by omega)
          rw [HN.out] at h2
          unfold evP
          simp only at h2
          omega)
        go_wp2_with fail
        go_ret2
        exact ⟨HGR.out.kept, _, .inr ⟨rfl, HM2.out⟩⟩
      · have hb1 : B.length ≤ 31 := by omega
        have hb2 : q ≤ 31 := by omega
        have hlv : (lv f B.length).length = B.length - f := lv_len
        have HLV := hide hlv
        have HF := hide (fl_start (B := B) (L := lv f B.length) (p := q))
        have hd1 : decide ((32 : Int) - B.length < q) = false := by simpa using hmany
        clear hmany hlv
        go_wp2_with fail
        go_loopw [4, 27] (fun v4 v27 W => ∃ (j : Nat) (L : List Int) (A : Option Addr) (c : Nat), j ≤ B.length - f ∧ v27 = .int .i64 j ∧ v4 = .slice A L.length c ∧ L = fl B (lv f B.length) q j 0 ∧ Gr w W A c L) (fun _ i _ => B.length - f - (intOf i).toNat)
        case atStart => exact ⟨0, B, A, c, Nat.zero_le _, rfl, rfl, HF.out.symm, HGR.out⟩
        case round =>
          clear k1
          obtain ⟨j, L, A, c, hj, rfl, rfl, hL, hg⟩ := hrel
          have HL := hide hL
          have HGR := hide hg
          clear hL hg
          by_cases hjl : j < B.length - f
          · have hj2 : (j : Int) < (B.length : Int) - (f : Int) := by omega
            have HX : Hid (∀ i, fl B (lv f B.length) q j (i + 1) = fl B (lv f B.length) q j i ++ [(f : Int) + (j : Int)]) := hide fun i => by rw [fl_more, lv_get hjl]; rfl
            have HNX : Hid (fl B (lv f B.length) q (j + 1) 0 = fl B (lv f B.length) q j q) := hide (fl_next (by rw [HLV.out]; exact hjl))
            go_wp2_with fail
            go_loopw [4, 31] (fun v4 v31 W => ∃ (i : Nat) (L : List Int) (A : Option Addr) (c : Nat), i ≤ q ∧ v31 = .int .i64 i ∧ v4 = .slice A L.length c ∧ L = fl B (lv f B.length) q j i ∧ Gr w W A c L) (fun _ i _ => q - (intOf i).toNat)
            case atStart => exact ⟨0, L, A, c, Nat.zero_le _, rfl, rfl, HL.out, HGR.out⟩
            case round =>
              obtain ⟨i, L, A, c, hip, rfl, rfl, hL, hg⟩ := hrel
              have HL := hide hL
              have HGR := hide hg
              have hlen2 : L.length ≤ 1200 := by
                rw [hL, fl_len (by rw [HLV.out]; omega)]
                have : j * q ≤ 31 * 31 := Nat.mul_le_mul (by omega) (by omega)
                omega
              have hm1 : L.length + 1 ≤ maxLen := by simp only [maxLen]; omega
              have hm2 : (L.length + 1) * 8 ≤ 140737488355328 := by omega
              have HM := hide (And.intro hm1 hm2)
              clear hm1 hm2
              clear hL hg
              by_cases hil : i < q
              · go_wp2_with (at_builtin; refine wpList_append_own_at _ rfl (.tmp 33) (.tmp 37) _ rfl 0 3 i0 (.int .i64 0) 1 8 Tryd.underlying22 hi hz0 hz1 hz2 rfl (by decide) (.slice A L.length c) L.length (L.map (Value.int .i64)) rfl (HGR.out.row.alloc _) ⟨wr.heap.size, 0, none⟩ 1 1 [.int .i64 ((f : Int) + (j : Int))] rfl rfl (cell_one_new _ _ _) (by intro u hu; simp at hu; subst hu; rfl) HM.out.1 HM.out.2 (Nat.zero_le _) ?_; intro v' w1 hown' hgrow _ hat; obtain ⟨A2, c2, rfl, hgr2⟩ := HGR.out.push hown' hgrow hat; have HD := hide hgr2; clear hown' hgrow hat hgr2)
                go_roundw
                case rel => exact ⟨i + 1, L ++ [(f : Int) + (j : Int)], A2, c2, by omega, by go_num, by simp, by rw [HX.out i, ← HL.out], HD.out⟩
                case measure => simp [intOf]; omega
              · obtain rfl : i = q := by omega
                go_wp2_with fail
                go_roundw
                case rel => exact ⟨j + 1, L, A, c, by omega, by go_num, rfl, by rw [HNX.out, ← HL.out], HGR.out⟩
                case measure => simp [intOf]; omega
          · obtain rfl : j = B.length - f := by omega
            have hj2 : decide (((B.length - f : Nat) : Int) < (B.length : Int) - (f : Int)) = false := by simp; omega
            have hL2 : L = B ++ each (lv f B.length) q := by
              rw [HL.out]
              have := fl_all (B := B) (L := lv f B.length) (p := q)
              rw [HLV.out] at this
              exact this
            have hlen3 : L.length ≤ 1200 := by
              rw [hL2, List.length_append, each_len, HLV.out]
              have : (B.length - f) * q ≤ 31 * 31 := Nat.mul_le_mul (by omega) (by omega)
              omega
            have HL2 := hide hL2
            clear hL2
            go_wp2_with fail
            go_roundw
            case rel => exact ⟨k + 1, B.length, L, A, c, by omega, by go_num, rfl, rfl, hlen3, by rw [HN.out, HL2.out], HGR.out⟩
            case measure => simp [intOf]; omega
    · obtain rfl : k = parts.length := by omega
      go_wp2_with fail
      go_ret2
      exact ⟨HGR.out.kept, _, .inl ⟨rfl, by unfold evP; rw [HG.out]; exact HGR.out.row.nums, by unfold evP; rw [HG.out]; exact hlen⟩⟩
end
end Go.Proofs.YtcpcdfihgabelaaDoor
