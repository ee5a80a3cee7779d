/- The laws of layer 12: awake, TallySays. -/
import Derived.Test.YtnipgafogkbobaaYMany
import Derived.Test.YtnipgafogkbobaaYRefL
import Derived.Test.YtnipgafogkbobaaYSame
import Derived.Test.YtnipgafogkbobaaNums
namespace Go.Proofs.Ytnipgafogkbobaa
open Go.RowKit
set_option maxRecDepth 100000

def awL : List Ev := [⟨1, 0, false, 0⟩, ⟨1, 1, false, 0⟩, ⟨2, 1, false, 2⟩, ⟨3, 1, false, 0⟩, ⟨2, 0, false, 1⟩, ⟨4, 1, false, 0⟩]
def awS : List Sy := [⟨0, false, 0, 4, -1, -1, 1⟩, ⟨1, false, 1, 2, 3, 5, 2⟩]
theorem aw_of : yof awL = awS := by kernel_rfl
theorem aw_en : yen awL = [1, 0] := by kernel_rfl
theorem aw_lo : ylo (awL.length : Nat) awS = 4 := by kernel_rfl
theorem aw_fi : yfi awS = false := by kernel_rfl
theorem aw_fi2 : yfi (yof (awL.take 2)) = true := by kernel_rfl
theorem aw_mn : many4 awS = .agg #[.int .i64 2, .int .i64 2, .int .i64 1, .int .i64 1] := by kernel_rfl
theorem aw_wf : Ywf awL := by
  intro k hk
  have hk : k < 6 := hk
  rcases (show k = 0 ∨ k = 1 ∨ k = 2 ∨ k = 3 ∨ k = 4 ∨ k = 5 by omega) with rfl | rfl | rfl | rfl | rfl | rfl <;> first | exact (show (Lit.int .i64 0).wf = true by decide) | exact (show (Lit.int .i64 1).wf = true by decide)
theorem aw_wf2 : Ywf (awL.take 2) := by
  intro k hk
  have hk : k < 2 := hk
  rcases (show k = 0 ∨ k = 1 by omega) with rfl | rfl <;> first | exact (show (Lit.int .i64 0).wf = true by decide) | exact (show (Lit.int .i64 1).wf = true by decide)
section
variable {w0 w w' : World} {A : Option Addr} {c : Nat} {S : List Sy} {L : List Int} {v : Value} {l : List Ev}
theorem Ints.nums (h : Ints w0 w A c L) : Nums w (.slice A L.length c) L := Row.nums (show Row w (.slice A L.length c) L from h.row)
/-- A contract in every world that keeps all. -/
theorem calls_at {f : Nat} {args : Array Value} {W : World} {x : Value} (k : Kept Nil w W) (h : Calls Try.prog f args W fun e w' => e = .returned x ∧ Kept Nil W w') : Calls Try.prog f args W fun e w' => e = .returned x ∧ Kept Nil w w' :=
  h.mono fun _ _ ⟨h1, h2⟩ => ⟨h1, k.trans h2 (fun _ _ z => z)⟩
theorem calls_drew {f : Nat} {args : Array Value} {W : World} {x : Value} (k : Kept Nil w W) (h : Calls Try.prog f args W fun e w' => e = .returned x ∧ ∃ n, w' = W.drewN n) : Calls Try.prog f args W fun e w' => e = .returned x ∧ Kept Nil w w' :=
  h.mono fun _ _ ⟨h1, n, h2⟩ => ⟨h1, by rw [h2]; exact k.drewN n⟩
theorem ofd_at {f : Nat} {args : Array Value} {W : World} (k : Kept Nil w W) (h : Calls Try.prog f args W (Ofd W S)) : Calls Try.prog f args W fun e w' => ∃ A c, e = .returned (.slice A S.length c) ∧ Stays w' (.slice A S.length c) S ∧ Kept Nil w w' :=
  h.mono fun _ _ ⟨A, c, h1, h2⟩ => ⟨A, c, h1, h2.stays, k.trans h2.kept (fun _ _ z => z)⟩
theorem ins_at {f : Nat} {args : Array Value} {W : World} (k : Kept Nil w W) (h : Calls Try.prog f args W (Ins W L)) : Calls Try.prog f args W fun e w' => ∃ A c, e = .returned (.slice A L.length c) ∧ Nums w' (.slice A L.length c) L ∧ Kept Nil w w' :=
  h.mono fun _ _ ⟨A, c, h1, h2⟩ => ⟨A, c, h1, Ints.nums h2, k.trans (Gw.kept h2) (fun _ _ z => z)⟩
set_option maxHeartbeats 2000000
/-- What must come, whatever the arguments are. -/
theorem yawake_c (w : World) : Calls Try.prog 6 #[] w fun e w' => e = .returned (.bool true) ∧ Kept Nil w w' := by
  obtain ⟨w1, hw1⟩ : ∃ w1, w.alloc (.cells (ecells awL).toArray 25) = w1 := ⟨_, rfl⟩
  have K1 : Kept Nil w w1 := by rw [← hw1]; exact (Kept.refl Nil w).alloc _
  have hI : Is w1 w.heap.size 25 (ecells awL).toArray := by rw [← hw1]; exact Is.new w _ _
  have hv : ∀ W, Kept Nil w1 W → Evs W (.slice (some ⟨w.heap.size, 0, none⟩) 6 6) awL := fun W z => Is.evs (l := awL) (hI.kept z (fun y => y))
  have hv2 : ∀ W, Kept Nil w1 W → Evs W (.slice (some ⟨w.heap.size, 0, none⟩) 2 6) (awL.take 2) := fun W z => by
    obtain ⟨A, c, e, hc, hp⟩ := hv W z
    obtain ⟨g, o, e2, hg, h4⟩ := hp (by decide)
    injection e with e3 e4 e5
    subst e3 e5
    injection e2 with e2
    injection e2 with e2 e6
    subst e2 e6
    exact evs_take (show 2 < awL.length by decide) hc hg h4
  have HE := hide (show w.alloc (.cells #[.int .i64 1, .int .i64 0, .bool false, .int .i64 0, .int .i64 1, .int .i64 1, .bool false, .int .i64 0, .int .i64 2, .int .i64 1, .bool false, .int .i64 2, .int .i64 3, .int .i64 1, .bool false, .int .i64 0, .int .i64 2, .int .i64 0, .bool false, .int .i64 1, .int .i64 4, .int .i64 1, .bool false, .int .i64 0] 25) = w1 from hw1)
  have C1 := hide fun W z => ofd_at (w := w1) z (of_c (hv W z) aw_wf (by decide))
  have C2 := hide fun W z => ins_at (w := w1) z (entries_c (hv W z) aw_wf (by decide))
  have C3 := hide fun W z => calls_at (w := w1) z (longest_c (hv W z) aw_wf (by decide))
  have C4 := hide fun W z => calls_at (w := w1) z (fifo_c (hv W z) aw_wf (by decide))
  have C5 := hide fun W z => calls_at (w := w1) z (fifo_c (hv2 W z) aw_wf2 (by decide))
  have C6 := hide fun W z => calls_at (w := w1) z (many_c (hv W z) aw_wf (by decide))
  rw [aw_of] at C1 C3 C4 C6
  rw [aw_en] at C2
  rw [aw_lo] at C3
  rw [aw_fi] at C4
  rw [aw_fi2] at C5
  rw [aw_mn] at C6
  have heq := fun W => eq_four 2 2 1 1 W
  have HK := hide K1
  clear K1 hI hv hv2 hw1
  go_enter Try.func6, Try.ntmps6
  go_wp2_with fail
  rw [HE.out]
  refine (C1.out _ (Kept.refl _ _)).mono ?_
  rintro e w2 ⟨A2, c2, rfl, hs2, hk2⟩
  have HS2 := hide (hs2.kept ((Kept.refl Nil w2).alloc (.cells #[.int .i64 0, .bool false, .int .i64 0, .int .i64 4, .int .i64 (-1), .int .i64 (-1), .int .i64 1, .int .i64 1, .bool false, .int .i64 1, .int .i64 2, .int .i64 3, .int .i64 5, .int .i64 2] 36)))
  have HI2 := hide (Is.stays (S := awS) (Is.new w2 36 #[.int .i64 0, .bool false, .int .i64 0, .int .i64 4, .int .i64 (-1), .int .i64 (-1), .int .i64 1, .int .i64 1, .bool false, .int .i64 1, .int .i64 2, .int .i64 3, .int .i64 5, .int .i64 2]))
  have HK2 := hide (hk2.alloc (.cells #[.int .i64 0, .bool false, .int .i64 0, .int .i64 4, .int .i64 (-1), .int .i64 (-1), .int .i64 1, .int .i64 1, .bool false, .int .i64 1, .int .i64 2, .int .i64 3, .int .i64 5, .int .i64 2] 36))
  clear hs2 hk2 C1
  have D2 := hide (calls_drew HK2.out (same_stays HS2.out HI2.out (by decide)))
  go_wp2_with fail
  refine D2.out.mono ?_
  rintro e w3 ⟨rfl, hk3⟩
  have HK3 := hide hk3
  clear hk3 D2 HK2 HS2 HI2
  go_wp2_with fail
  refine (C2.out _ HK3.out).mono ?_
  rintro e w4 ⟨A4, c4, rfl, hn4, hk4⟩
  have HN4 := hide (hn4.kept ((Kept.refl Nil w4).alloc (.cells #[.int .i64 1, .int .i64 0] 3)))
  have HI4 : Hid (Nums (w4.alloc (.cells #[.int .i64 1, .int .i64 0] 3)) (.slice (some ⟨w4.heap.size, 0, none⟩) 2 2) [1, 0]) := hide ⟨_, _, rfl, fun _ => ⟨w4.heap.size, 0, rfl, (Is.new w4 _ _).lt, fun k hk => by
    have hi := Is.new w4 3 #[.int .i64 1, .int .i64 0]
    have hk : k < 2 := hk
    rcases (show k = 0 ∨ k = 1 by omega) with rfl | rfl
    · exact hi.cell 0
    · exact hi.cell 1⟩⟩
  have HK4 := hide (hk4.alloc (.cells #[.int .i64 1, .int .i64 0] 3))
  have D4 := hide (calls_drew HK4.out (same_nums HN4.out HI4.out (by decide)))
  clear hn4 hk4 C2 HK3
  go_wp2_with fail
  refine D4.out.mono ?_
  rintro e w5 ⟨rfl, hk5⟩
  have HK5 := hide hk5
  clear hk5 D4 HK4 HN4 HI4
  go_wp2_with fail
  refine (C3.out _ HK5.out).mono ?_
  rintro e w6 ⟨rfl, hk6⟩
  have HK6 := hide hk6
  clear hk6 C3 HK5
  go_wp2_with fail
  refine (C4.out _ HK6.out).mono ?_
  rintro e w7 ⟨rfl, hk7⟩
  have HK7 := hide hk7
  clear hk7 C4 HK6
  go_wp2_with fail
  refine (C5.out _ HK7.out).mono ?_
  rintro e w8 ⟨rfl, hk8⟩
  have HK8 := hide hk8
  clear hk8 C5 HK7
  go_wp2_with fail
  refine (C6.out _ HK8.out).mono ?_
  rintro e w9 ⟨rfl, hk9⟩
  have HK9 := hide (HK.out.trans hk9 (fun _ _ z => z))
  clear hk9 C6 HK8 HK
  go_wp2_with fail
  go_ret
  exact ⟨rfl, HK9.out⟩
end
end Go.Proofs.Ytnipgafogkbobaa
