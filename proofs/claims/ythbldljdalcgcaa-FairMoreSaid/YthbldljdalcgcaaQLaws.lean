/- The laws of layer 9: awake, FairSays. -/
import Derived.Test.YthbldljdalcgcaaQRefB
import Derived.Test.YthbldljdalcgcaaQRounds
namespace Go.Proofs.Ythbldljdalcgcaa
open Go.RowKit
set_option maxRecDepth 100000

section
variable (w : World)
set_option maxHeartbeats 1000000
theorem qa_nums {w : World} {g : Nat} (h : Is w g 3 (#[.int .i64 0, .int .i64 1, .int .i64 1, .int .i64 0])) : Nums w (.slice (some ⟨g, 0, none⟩) 4 4) [0, 1, 1, 0] := q_nums (l := [0, 1, 1, 0]) h
theorem q_robin : rob (sm 2) (2 : Int).toNat = [0, 1, 0, 1] := by decide +kernel
theorem q_rounds : rds (sm 3) [1, 2, -1] = [1, 0, 2, 2, 0, 1, 2, 1, 0] := by decide +kernel
theorem qr1 : Calls Try.prog 11 #[.int .i64 2, .int .i64 2] w fun e w' => ∃ A c, e = .returned (.slice A 4 c) ∧ Nums w' (.slice A 4 c) [0, 1, 0, 1] ∧ Kept Nil w w' := by
  have := robin_c w 2 2
  rw [q_robin] at this
  exact this.mono fun e w' ⟨A, c, h1, h2⟩ => ⟨A, c, h1, h2.row.nums, h2.kept⟩
theorem qr2 {v : Value} (hv : Nums w v [1, 2, -1]) : Calls Try.prog 12 #[.int .i64 3, v] w fun e w' => ∃ A c, e = .returned (.slice A 9 c) ∧ Nums w' (.slice A 9 c) [1, 0, 2, 2, 0, 1, 2, 1, 0] ∧ Kept Nil w w' := by
  have := rounds_c 3 hv (by decide)
  rw [q_rounds] at this
  exact this.mono fun e w' ⟨A, c, h1, h2⟩ => ⟨A, c, h1, h2.row.nums, h2.kept⟩
theorem qn1 : Nums (w.alloc (.cells #[.int .i64 0, .int .i64 1, .int .i64 0, .int .i64 1] 3)) (.slice (some ⟨w.heap.size, 0, none⟩) 4 4) [0, 1, 0, 1] := q_nums (l := [0, 1, 0, 1]) (Is.new w _ _)
theorem qn2 : Nums (w.alloc (.cells #[.int .i64 1, .int .i64 2, .int .i64 (-1)] 3)) (.slice (some ⟨w.heap.size, 0, none⟩) 3 3) [1, 2, -1] := q_nums (l := [1, 2, -1]) (Is.new w _ _)
theorem qn3 : Nums (w.alloc (.cells #[.int .i64 1, .int .i64 0, .int .i64 2, .int .i64 2, .int .i64 0, .int .i64 1, .int .i64 2, .int .i64 1, .int .i64 0] 3)) (.slice (some ⟨w.heap.size, 0, none⟩) 9 9) [1, 0, 2, 2, 0, 1, 2, 1, 0] := q_nums (l := [1, 0, 2, 2, 0, 1, 2, 1, 0]) (Is.new w _ _)
/-- What must come, whatever the arguments are. -/
theorem qawake_c : Calls Try.prog 6 #[] w fun e w' => e = .returned (.bool true) ∧ Kept Nil w w' := by
  have HI := hide (qa_nums (Is.new w 3 _))
  have HK := hide ((Kept.refl Nil w).alloc (.cells #[.int .i64 0, .int .i64 1, .int .i64 1, .int .i64 0] 3))
  have f1 : fb (av [0, 1, 1, 0]) ([0, 1, 1, 0] : List Int).length (sm 2) 3 = true := by decide +kernel
  have f2 : fb (av [0, 1, 1, 0]) ([0, 1, 1, 0] : List Int).length (sm 2) 2 = false := by decide +kernel
  have f3 : lst (av [0, 1, 1, 0]) ([0, 1, 1, 0] : List Int).length (sm 2) = 3 := by decide +kernel
  have f4 : cntN (av [0, 1, 1, 0]) 1 2 = 1 := by decide +kernel
  have c1 := hide (fair_c 2 3 f1 HI.out (by decide))
  have c2 := hide (fair_c 2 2 f2 HI.out (by decide))
  have c3 := least_c 2 HI.out (by decide)
  rw [f3] at c3
  have C3 := hide c3
  clear f1 f2 f3 c3
  go_enter Try.func6, Try.ntmps6
  go_wp2_with fail
  refine c1.out.mono ?_
  rintro e w1 ⟨rfl, rfl⟩
  go_wp2_with fail
  refine c2.out.mono ?_
  rintro e w1 ⟨rfl, rfl⟩
  go_wp2_with fail
  refine C3.out.mono ?_
  rintro e w1 ⟨rfl, rfl⟩
  have H1 := hide (And.intro HK.out HI.out)
  generalize hw1 : w.alloc (.cells #[.int .i64 0, .int .i64 1, .int .i64 1, .int .i64 0] 3) = w1 at *
  have HW1 := hide hw1
  clear hw1 HK HI c1 c2 C3
  go_wp2_with fail
  refine (qr1 w1).mono ?_
  rintro e w2 ⟨A2, k2, rfl, hv, hk⟩
  have H2 := hide (And.intro (H1.out.1.trans hk (fun _ _ z => z)) (And.intro (H1.out.2.kept hk) hv))
  clear hk hv
  go_wp2_with fail
  refine (same_nums (l := [0, 1, 0, 1]) (H2.out.2.2.kept ((Kept.refl _ _).alloc _)) (qn1 w2) (by decide)).mono ?_
  rintro e w3 ⟨rfl, q, rfl⟩
  have H3 := hide (And.intro ((H2.out.1.alloc (.cells #[.int .i64 0, .int .i64 1, .int .i64 0, .int .i64 1] 3)).drewN q) (H2.out.2.1.kept (((Kept.refl _ _).alloc (.cells #[.int .i64 0, .int .i64 1, .int .i64 0, .int .i64 1] 3)).drewN q)))
  generalize (w2.alloc (.cells #[.int .i64 0, .int .i64 1, .int .i64 0, .int .i64 1] 3)).drewN q = w3 at *
  clear H2
  go_wp2_with fail
  refine (qr2 _ (qn2 w3)).mono ?_
  rintro e w4 ⟨A4, k4, rfl, hv, hk⟩
  have hk := ((Kept.refl Nil w3).alloc (.cells #[.int .i64 1, .int .i64 2, .int .i64 (-1)] 3)).trans hk (fun _ _ z => z)
  have H4 := hide (And.intro (H3.out.1.trans hk (fun _ _ z => z)) (And.intro (H3.out.2.kept hk) hv))
  clear hk hv H3
  go_wp2_with fail
  refine (same_nums (l := [1, 0, 2, 2, 0, 1, 2, 1, 0]) (H4.out.2.2.kept ((Kept.refl _ _).alloc _)) (qn3 w4) (by decide)).mono ?_
  rintro e w5 ⟨rfl, q, rfl⟩
  have hk := ((Kept.refl Nil w4).alloc (.cells #[.int .i64 1, .int .i64 0, .int .i64 2, .int .i64 2, .int .i64 0, .int .i64 1, .int .i64 2, .int .i64 1, .int .i64 0] 3)).drewN q
  have H5 := hide (And.intro (H4.out.1.trans hk (fun _ _ z => z)) (H4.out.2.1.kept hk))
  generalize (w4.alloc (.cells #[.int .i64 1, .int .i64 0, .int .i64 2, .int .i64 2, .int .i64 0, .int .i64 1, .int .i64 2, .int .i64 1, .int .i64 0] 3)).drewN q = w5 at *
  clear H4 hk
  have c6 := own_c 1 2 2 (by decide) H5.out.2 (by decide)
  rw [f4] at c6
  go_wp2_with fail
  refine c6.mono ?_
  rintro e w6 ⟨rfl, rfl⟩
  go_wp2_with fail
  go_ret
  exact ⟨rfl, H5.out.1⟩
end
end Go.Proofs.Ythbldljdalcgcaa
