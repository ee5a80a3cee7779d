/- TallySays. -/
import Derived.Test.YtnipgafogkbobaaYLaws
namespace Go.Proofs.Ytnipgafogkbobaa
open Go.RowKit
set_option maxRecDepth 100000

section
variable {w w' : World} {v : Value} {l : List Ev}
set_option maxHeartbeats 2000000
/-- TallySays: a trace that is too long. -/
theorem ysays_short (hv : Evs w v l) (hn : 60 < l.length) : Calls Try.prog 5 #[v] w fun x w' => x = .returned (.bool true) ∧ Kept Nil w w' := by
  have hlen : decide (60 < (l.length : Int)) = true := by simp; omega
  have HA := hide (yawake_c w)
  obtain ⟨A, c, rfl, _, hp⟩ := hv
  clear hp
  go_enter Try.func5, Try.ntmps5
  go_wp2_with fail
  refine HA.out.mono ?_
  rintro e w1 ⟨rfl, h⟩
  have H := hide h
  clear h
  go_wp2_with fail
  go_ret
  exact ⟨rfl, H.out⟩
theorem ysays_long (hv : Evs w v l) (hw : Ywf l) (hn : l.length ≤ 60) : Calls Try.prog 5 #[v] w fun x w' => x = .returned (.bool true) ∧ Kept Nil w w' := by
  have hlen : decide (60 < (l.length : Int)) = false := by simp; omega
  have C1 := hide (ofd_at (Kept.refl _ w) (of_c hv hw (by omega)))
  have C2 := hide fun W (z : Kept Nil w W) => ofd_at (Kept.refl _ W) (rof_c (hv.kept z) (by omega))
  have C3 := hide fun W (z : Kept Nil w W) => ins_at (Kept.refl _ W) (entries_c (hv.kept z) hw (by omega))
  have C4 := hide fun W (z : Kept Nil w W) => ins_at (Kept.refl _ W) (rentries_c (hv.kept z) (by omega))
  have C5 := hide fun W (z : Kept Nil w W) => calls_at (w := w) z (longest_c (hv.kept z) hw (by omega))
  have C6 := hide fun W (z : Kept Nil w W) => calls_at (w := w) z (rlongest_c (hv.kept z) (by omega))
  have C7 := hide fun W (z : Kept Nil w W) => calls_at (w := w) z (fifo_c (hv.kept z) hw (by omega))
  have C8 := hide fun W (z : Kept Nil w W) => calls_at (w := w) z (rfifo_c (hv.kept z) (by omega))
  have C9 := hide fun W (z : Kept Nil w W) => calls_at (w := w) z (yawake_c W)
  have hS : (yof l).length ≤ 65536 := Nat.le_trans yof_len (by omega)
  have hY : (yen l).length ≤ 65536 := Nat.le_trans yen_len (by omega)
  generalize yof l = S at *
  generalize yen l = Y at *
  generalize ylo (l.length : Nat) S = lo at *
  generalize yfi S = fi at *
  obtain ⟨A, c, rfl, _, hp⟩ := hv
  clear hp hw
  go_enter Try.func5, Try.ntmps5
  go_wp2_with fail
  refine C1.out.mono ?_
  rintro e w1 ⟨A1, c1, rfl, hs1, hk1⟩
  have H1 := hide (And.intro hs1 hk1)
  clear hs1 hk1 C1
  go_wp2_with fail
  refine (C2.out _ H1.out.2).mono ?_
  rintro e w2 ⟨A2, c2, rfl, hs2, hk2⟩
  have H2 := hide (H1.out.2.trans hk2 (fun _ _ z => z))
  have D2 := hide (calls_drew H2.out (same_stays (H1.out.1.kept hk2) hs2 hS))
  clear hs2 hk2 C2 H1
  go_wp2_with fail
  refine D2.out.mono ?_
  rintro e w3 ⟨rfl, hk3⟩
  have H3 := hide hk3
  clear hk3 D2 H2
  go_wp2_with fail
  refine (C3.out _ H3.out).mono ?_
  rintro e w4 ⟨A4, c4, rfl, hs4, hk4⟩
  have H4 := hide (And.intro hs4 (H3.out.trans hk4 (fun _ _ z => z)))
  clear hs4 hk4 C3 H3
  go_wp2_with fail
  refine (C4.out _ H4.out.2).mono ?_
  rintro e w5 ⟨A5, c5, rfl, hs5, hk5⟩
  have H5 := hide (H4.out.2.trans hk5 (fun _ _ z => z))
  have D5 := hide (calls_drew H5.out (same_nums (H4.out.1.kept hk5) hs5 hY))
  clear hs5 hk5 C4 H4
  go_wp2_with fail
  refine D5.out.mono ?_
  rintro e w6 ⟨rfl, hk6⟩
  have H6 := hide hk6
  clear hk6 D5 H5
  go_wp2_with fail
  refine (C5.out _ H6.out).mono ?_
  rintro e w7 ⟨rfl, hk7⟩
  have H7 := hide hk7
  clear hk7 C5 H6
  go_wp2_with fail
  refine (C6.out _ H7.out).mono ?_
  rintro e w8 ⟨rfl, hk8⟩
  have H8 := hide hk8
  clear hk8 C6 H7
  go_wp2_with fail
  refine (C7.out _ H8.out).mono ?_
  rintro e w9 ⟨rfl, hk9⟩
  have H9 := hide hk9
  clear hk9 C7 H8
  go_wp2_with fail
  refine (C8.out _ H9.out).mono ?_
  rintro e wa ⟨rfl, hka⟩
  have HA := hide hka
  clear hka C8 H9
  go_wp2_with fail
  refine (C9.out _ HA.out).mono ?_
  rintro e wb ⟨rfl, hkb⟩
  have HB := hide hkb
  clear hkb C9 HA
  go_wp2_with fail
  go_ret
  exact ⟨rfl, HB.out⟩
theorem ysays_c (hv : Evs w v l) (hw : Ywf l) : Calls Try.prog 5 #[v] w fun x w' => x = .returned (.bool true) ∧ Kept Nil w w' := by
  rcases Nat.lt_or_ge 60 l.length with h | h
  · exact ysays_short hv h
  · exact ysays_long hv hw h
end
end Go.Proofs.Ytnipgafogkbobaa
