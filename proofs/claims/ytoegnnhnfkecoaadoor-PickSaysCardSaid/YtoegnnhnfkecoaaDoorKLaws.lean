/- The laws of layer 8: awake, PickSays. -/
import Derived.Test.YtoegnnhnfkecoaaDoorKText
import Derived.Test.YtoegnnhnfkecoaaDoorKRDec
import Derived.Test.YtoegnnhnfkecoaaDoorKRParse
namespace Go.Proofs.YtoegnnhnfkecoaaDoor
open Go.RowKit
set_option maxRecDepth 100000

/-! ## What must come, whatever the arguments are -/
theorem txt_a : txt 0 = [48] := by rw [txt_pos (by decide)]; exact nt_zero
theorem txt_b : txt 2 = [50] := by rw [txt_pos (by decide), nt_small (by decide)]; rfl
theorem txt_c : txt (-1) = [45, 49] := by rw [txt_neg (by decide), nt_small (by decide)]; rfl
theorem word_a : word (0, 1) = [48, 108] := by unfold word; rw [txt_a]; rfl
theorem word_b : word (-1, 0) = [45, 49, 115] := by unfold word; rw [txt_c]; rfl
theorem word_c : word (2, 4) = [50, 118] := by unfold word; rw [txt_b]; rfl
theorem word_d : word (0, 2) = [48, 117] := by unfold word; rw [txt_a]; rfl
theorem wof_one : wof [48, 108, 10, 32, 45, 49, 115, 32] = [((0, 1) : Pk), (-1, 0)].map word := by
  have e : lns [48, 108, 10, 32, 45, 49, 115, 32] = [[48, 108], [32, 45, 49, 115, 32]] := by decide
  have e1 : wds [48, 108] = [[48, 108]] := by rw [wds_cons (by decide), wds_nil (by decide)]; rfl
  have e2 : wds [32, 45, 49, 115, 32] = [[45, 49, 115]] := by rw [wds_cons (by decide), wds_nil (by decide)]; rfl
  unfold wof
  rw [e, List.map_cons, List.map_cons, List.map_nil, word_a, word_b, List.flatMap_cons, List.flatMap_cons, List.flatMap_nil, e1, e2]
  rfl
theorem wof_two : wof [48, 108, 32, 49, 120] = [[48, 108]] ++ [49, 120] :: [] := by
  have e : lns [48, 108, 32, 49, 120] = [[48, 108, 32, 49, 120]] := by decide
  have e1 : wds [48, 108, 32, 49, 120] = [[48, 108], [49, 120]] := by rw [wds_cons (by decide), wds_cons (by decide), wds_nil (by decide)]; rfl
  unfold wof
  rw [e, List.flatMap_cons, List.flatMap_nil, e1]
  rfl
theorem pl_one : pl (wof [48, 108, 10, 32, 45, 49, 115, 32]) = [(0, 1), (-1, 0)] ∧ pi (wof [48, 108, 10, 32, 45, 49, 115, 32]) = 0 ∧ pf (wof [48, 108, 10, 32, 45, 49, 115, 32]) = 0 := by
  rw [wof_one]
  exact pl_words (by unfold InR; decide) (by decide)
theorem pl_two : pl (wof [48, 108, 32, 49, 120]) = [] ∧ pi (wof [48, 108, 32, 49, 120]) = 1 ∧ pf (wof [48, 108, 32, 49, 120]) = 2 :=
  pl_no wof_two (by
    have := (rb_word (p := (0, 1)) (by unfold InR; decide) (by decide)).1
    rw [word_a] at this
    unfold good
    simp [this]) (rb_wb (by decide))
theorem pt_one : pt [(2, 4), (0, 2)] = [50, 118, 32, 48, 117] ∧ pet [(2, 4), (0, 2)] = 0 := by
  obtain ⟨h1, h2⟩ := pt_yes (l := [(2, 4), (0, 2)]) (by decide)
  refine ⟨?_, h2⟩
  rw [h1, List.map_cons, List.map_cons, List.map_nil, word_c, word_d]
  rfl
section
variable (w : World)
set_option maxHeartbeats 1000000
theorem ka1 : Calls Tryd.prog 7 #[.string ⟨#[48, 108, 10, 32, 45, 49, 115, 32]⟩] w fun e w' => ∃ v, e = .returned (.tuple #[v, .int .i64 0, .int .i64 0]) ∧ Picks w' v [(0, 1), (-1, 0)] ∧ Kept Nil w w' := by
  have := pparse_c w ⟨#[48, 108, 10, 32, 45, 49, 115, 32]⟩ (by decide)
  unfold PTold at this
  obtain ⟨h1, h2, h3⟩ := pl_one
  rw [show pl (wof (⟨#[48, 108, 10, 32, 45, 49, 115, 32]⟩ : ByteArray).data.toList) = _ from h1, show pi (wof (⟨#[48, 108, 10, 32, 45, 49, 115, 32]⟩ : ByteArray).data.toList) = _ from h2, show pf (wof (⟨#[48, 108, 10, 32, 45, 49, 115, 32]⟩ : ByteArray).data.toList) = _ from h3] at this
  exact this
theorem ka2 : Calls Tryd.prog 7 #[.string ⟨#[48, 108, 32, 49, 120]⟩] w fun e w' => ∃ v, e = .returned (.tuple #[v, .int .i64 1, .int .i64 2]) ∧ Kept Nil w w' := by
  have := pparse_c w ⟨#[48, 108, 32, 49, 120]⟩ (by decide)
  unfold PTold at this
  obtain ⟨h1, h2, h3⟩ := pl_two
  rw [show pl (wof (⟨#[48, 108, 32, 49, 120]⟩ : ByteArray).data.toList) = _ from h1, show pi (wof (⟨#[48, 108, 32, 49, 120]⟩ : ByteArray).data.toList) = _ from h2, show pf (wof (⟨#[48, 108, 32, 49, 120]⟩ : ByteArray).data.toList) = _ from h3] at this
  exact this.mono fun _ _ ⟨v, a, _, b⟩ => ⟨v, a, b⟩
theorem ka3 {v : Value} (hv : Picks w v [(2, 4), (0, 2)]) : Calls Tryd.prog 6 #[v] w fun e w' => e = .returned (.tuple #[.string ⟨#[50, 118, 32, 48, 117]⟩, .int .i64 0]) ∧ Kept Nil w w' := by
  have := ptext_c w hv (by decide) (by unfold InR; decide)
  rw [pt_one.1, pt_one.2] at this
  exact this
theorem ka4 : Calls Tryd.prog 14 #[.string ⟨#[9, 15]⟩] w fun e w' => ∃ v, e = .returned v ∧ Picks w' v [(1, 1), (1, 0)] ∧ Kept Nil w w' :=
  decode_c w ⟨#[9, 15]⟩ (by decide)
theorem kn1 : Picks (w.alloc (.cells #[.int .i64 2, .int .i64 4, .int .i64 0, .int .i64 2] 37)) (.slice (some ⟨w.heap.size, 0, none⟩) 2 2) [(2, 4), (0, 2)] := new_picks w [(2, 4), (0, 2)]
theorem kn2 : Picks (w.alloc (.cells #[.int .i64 0, .int .i64 1, .int .i64 (-1), .int .i64 0] 37)) (.slice (some ⟨w.heap.size, 0, none⟩) 2 2) [(0, 1), (-1, 0)] := new_picks w [(0, 1), (-1, 0)]
theorem kn3 : Picks (w.alloc (.cells #[.int .i64 1, .int .i64 1, .int .i64 1, .int .i64 0] 37)) (.slice (some ⟨w.heap.size, 0, none⟩) 2 2) [(1, 1), (1, 0)] := new_picks w [(1, 1), (1, 0)]
theorem kn4 : Nums (w.alloc (.cells #[.int .i64 0, .int .i64 (-1)] 3)) (.slice (some ⟨w.heap.size, 0, none⟩) 2 2) [0, -1] := Is.nums (l := [0, -1]) (Is.new w _ _)
theorem kawake_c : Calls Tryd.prog 5 #[] w fun e w' => e = .returned (.bool true) ∧ Kept Nil w w' := by
  go_enter Tryd.func5, Tryd.ntmps5
  go_wp2_with fail
  refine (ka1 w).mono ?_
  rintro e w1 ⟨v1, rfl, hv, hk⟩
  have H1 := hide (And.intro hk hv)
  clear hk hv
  go_wp2_with fail
  refine (ka2 w1).mono ?_
  rintro e w2 ⟨v2, rfl, hk⟩
  have H2 := hide (And.intro (H1.out.1.trans hk (fun _ _ z => z)) (H1.out.2.kept hk))
  clear hk
  go_wp2_with fail
  refine (ka3 _ (kn1 w2)).mono ?_
  rintro e w3 ⟨rfl, hk⟩
  have hk := ((Kept.refl Nil w2).alloc (.cells #[.int .i64 2, .int .i64 4, .int .i64 0, .int .i64 2] 37)).trans hk (fun _ _ z => z)
  have H3 := hide (And.intro (H2.out.1.trans hk (fun _ _ z => z)) (H2.out.2.kept hk))
  clear hk
  go_wp2_with fail
  refine (same_picks (l := [(0, 1), (-1, 0)]) (H3.out.2.kept ((Kept.refl _ _).alloc _)) (kn2 w3) (by decide)).mono ?_
  rintro e w4 ⟨rfl, q, rfl⟩
  have H4 := hide (And.intro ((H3.out.1.alloc (.cells #[.int .i64 0, .int .i64 1, .int .i64 (-1), .int .i64 0] 37)).drewN q) (H3.out.2.kept (((Kept.refl _ _).alloc (.cells #[.int .i64 0, .int .i64 1, .int .i64 (-1), .int .i64 0] 37)).drewN q)))
  generalize (w3.alloc (.cells #[.int .i64 0, .int .i64 1, .int .i64 (-1), .int .i64 0] 37)).drewN q = w4 at *
  go_wp2_with fail
  refine (ka4 w4).mono ?_
  rintro e w5 ⟨v5, rfl, hv, hk⟩
  have H5 := hide (And.intro (H4.out.1.trans hk (fun _ _ z => z)) (And.intro (H4.out.2.kept hk) hv))
  clear hk hv
  go_wp2_with fail
  refine (same_picks (l := [(1, 1), (1, 0)]) (H5.out.2.2.kept ((Kept.refl _ _).alloc _)) (kn3 w5) (by decide)).mono ?_
  rintro e w6 ⟨rfl, q, rfl⟩
  have H6 := hide (And.intro ((H5.out.1.alloc (.cells #[.int .i64 1, .int .i64 1, .int .i64 1, .int .i64 0] 37)).drewN q) (H5.out.2.1.kept (((Kept.refl _ _).alloc (.cells #[.int .i64 1, .int .i64 1, .int .i64 1, .int .i64 0] 37)).drewN q)))
  generalize (w5.alloc (.cells #[.int .i64 1, .int .i64 1, .int .i64 1, .int .i64 0] 37)).drewN q = w6 at *
  go_wp2_with fail
  refine (threads_c w6 H6.out.2 (by decide)).mono ?_
  rintro e w7 ⟨v7, rfl, hv, hk⟩
  have hv : Nums w7 v7 [0, -1] := hv
  have H7 := hide (And.intro (H6.out.1.trans hk (fun _ _ z => z)) hv)
  clear hk hv
  go_wp2_with fail
  refine (same_nums (l := [0, -1]) (H7.out.2.kept ((Kept.refl _ _).alloc _)) (kn4 w7) (by decide)).mono ?_
  rintro e w8 ⟨rfl, q, rfl⟩
  have H8 := hide ((H7.out.1.alloc (.cells #[.int .i64 0, .int .i64 (-1)] 3)).drewN q)
  generalize (w7.alloc (.cells #[.int .i64 0, .int .i64 (-1)] 3)).drewN q = w8 at *
  go_wp2_with fail
  go_ret
  exact ⟨rfl, H8.out⟩
end
end Go.Proofs.YtoegnnhnfkecoaaDoor
