/- The document's Decode. -/
import Derived.Test.YtoegnnhnfkecoaaDoorKSmall
import Derived.WalkSmall
namespace Go.Proofs.YtoegnnhnfkecoaaDoor
open Go.RowKit

theorem take_pick {l : List Pk} {k : Nat} {p : Pk} (h : k < l.length) (hp : l.getD k (0, 0) = p) : pcells (l.take (k + 1)) = pcells (l.take k) ++ [.int .i64 p.1, .int .i64 p.2] := by
  have : l[k] = p := by rw [← hp]; simp [List.getD, h]
  rw [List.take_succ_eq_append_getElem h, pcells_snoc, this]
section
variable (w : World)
set_option maxHeartbeats 400000
theorem rdecode_c (s : ByteArray) (hs : s.size ≤ 4000) : Calls Tryd.prog 15 #[.string s] w fun e w' => ∃ v', e = .returned v' ∧ Picks w' v' (dpk s.data.toList) ∧ Kept Nil w w' := by
  obtain ⟨i0, hi, hz0, hz1, hz2⟩ := info_parts info_pick
  have hdl : (dpk s.data.toList).length = s.size := by unfold dpk; rw [List.length_map, dlen]
  have HD := hide hdl
  clear hdl
  go_enter Tryd.func15, Tryd.ntmps15
  go_wp2
  go_loopw [3, 4] (fun v3 i wr => ∃ (k : Nat) (A : Option Addr) (c : Nat), k ≤ s.size ∧ i = .int .i64 k ∧ v3 = .slice A k c ∧ Gw 37 2 w wr A c k (pcells ((dpk s.data.toList).take k))) (fun _ i _ => s.size - (intOf i).toNat)
  case atStart => exact ⟨0, none, 0, Nat.zero_le _, rfl, rfl, Gw.start _ _ _⟩
  case round =>
    obtain ⟨k, A, c, hk, rfl, rfl, hg⟩ := hrel
    have HG := hide hg
    clear hg
    by_cases hlt : k < s.size
    · obtain ⟨x, hx⟩ : ∃ x, s[k]'hlt = x := ⟨_, rfl⟩
      have hxd : s.data.toList[k]? = some x := by
        rw [List.getElem?_eq_getElem (by rw [dlen]; exact hlt), ← hx]
        rfl
      have hdx : (dpk s.data.toList).getD k (0, 0) = d1 x := by
        unfold dpk
        rw [List.getD_eq_getElem?_getD, List.getElem?_map, hxd]
        rfl
      have HT := hide (take_pick (by rw [HD.out]; exact hlt) hdx)
      have h4 : (k : Int) < 4000 := by omega
      have hm1 : k + 1 ≤ maxLen := by simp only [maxLen]; omega
      have hm2 : (k + 1) * 16 ≤ 140737488355328 := by omega
      have HM := hide (And.intro hm1 hm2)
      clear hxd hdx hm1 hm2
      have hxl := x.toNat_lt
      have HP := hide fun (w' : World) (v' : Value) (o : Obj) (news : List Value) => HG.out.push (v' := v') (w' := w') (news := news) (m := 1) ((Kept.refl Nil wr).alloc o)
      by_cases hr : (x.toNat : Int) % 8 ≤ 4
      · have HD1 : Hid (d1 x = ((x.toNat : Int) / 8, (x.toNat : Int) - (x.toNat : Int) / 8 * 8)) := hide (by unfold d1; rw [if_pos hr]; congr 1; omega)
        have ht : ¬ 4 < (x.toNat : Int) - (x.toNat : Int) / 8 * 8 := by omega
        clear hr
        go_wp2_with (at_builtin; refine wpList_append_own_at _ rfl (.tmp 28) (.tmp 33) _ rfl 0 37 i0 (.agg #[.int .i64 0, .int .i64 0]) 2 16 Tryd.underlying22 hi hz0 hz1 hz2 rfl (by decide) (.slice A k c) k (pcells ((dpk s.data.toList).take k)) rfl (HG.out.row.alloc _) ⟨wr.heap.size, 0, none⟩ 1 1 [.int .i64 ((x.toNat : Int) / 8), .int .i64 ((x.toNat : Int) - (x.toNat : Int) / 8 * 8)] rfl rfl (cell_two_new _ _ _ _) (by intro u hu; simp at hu; rcases hu with rfl | rfl <;> rfl) HM.out.1 HM.out.2 (Nat.zero_le _) ?_; intro v' w1 hown' hgrow _ hat; obtain ⟨A2, c2, rfl, hg2⟩ := HP.out _ _ _ _ hown' hgrow hat; have HG2 := hide hg2; clear hown' hgrow hat hg2)
        go_roundw
        case rel => exact ⟨k + 1, A2, c2, by omega, by go_num, rfl, by have := HG2.out; rw [HT.out, HD1.out]; exact this⟩
        case measure => simp [intOf]; omega
      · have HD1 : Hid (d1 x = ((x.toNat : Int) / 8, 0)) := hide (by unfold d1; rw [if_neg hr])
        have ht : 4 < (x.toNat : Int) - (x.toNat : Int) / 8 * 8 := by omega
        clear hr
        go_wp2_with (at_builtin; refine wpList_append_own_at _ rfl (.tmp 28) (.tmp 33) _ rfl 0 37 i0 (.agg #[.int .i64 0, .int .i64 0]) 2 16 Tryd.underlying22 hi hz0 hz1 hz2 rfl (by decide) (.slice A k c) k (pcells ((dpk s.data.toList).take k)) rfl (HG.out.row.alloc _) ⟨wr.heap.size, 0, none⟩ 1 1 [.int .i64 ((x.toNat : Int) / 8), .int .i64 0] rfl rfl (cell_two_new _ _ _ _) (by intro u hu; simp at hu; rcases hu with rfl | rfl <;> rfl) HM.out.1 HM.out.2 (Nat.zero_le _) ?_; intro v' w1 hown' hgrow _ hat; obtain ⟨A2, c2, rfl, hg2⟩ := HP.out _ _ _ _ hown' hgrow hat; have HG2 := hide hg2; clear hown' hgrow hat hg2)
        go_roundw
        case rel => exact ⟨k + 1, A2, c2, by omega, by go_num, rfl, by have := HG2.out; rw [HT.out, HD1.out]; exact this⟩
        case measure => simp [intOf]; omega
    · obtain rfl : k = s.size := by omega
      go_wp2_with fail
      go_ret
      refine ⟨_, rfl, ?_, HG.out.kept⟩
      have h := HG.out
      have e : (dpk s.data.toList).take s.size = dpk s.data.toList := by rw [← HD.out, List.take_length]
      rw [e] at h
      have h2 : Gw 37 2 w wr A c (dpk s.data.toList).length (pcells (dpk s.data.toList)) := by rw [HD.out]; exact h
      have := h2.picks
      rwa [HD.out] at this
end
end Go.Proofs.YtoegnnhnfkecoaaDoor
