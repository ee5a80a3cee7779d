/- TenureSays. -/
import Derived.Test.YtpmnmckamgdbcaaELaws
namespace Go.Proofs.Ytpmnmckamgdbcaa
open Go.RowKit
set_option maxRecDepth 100000

section
variable {w w' : World} {v0 v : Value} {N : List Int} {l : List Ev}
set_option maxHeartbeats 2000000
/-- TenureSays: too many nodes, or events. -/
theorem esays_short (t : Int) (hn : Nums w v0 N) (hv : Evs w v l) (h : 20 < N.length ∨ 60 < l.length) : Calls Try.prog 4 #[v0, v, .int .i64 t] w fun x w' => x = .returned (.bool true) ∧ Kept Nil w w' := by
  have HA := hide (eawake_c w)
  obtain ⟨A0, c0, rfl, hq⟩ := hn
  obtain ⟨A, c, rfl, _, hp⟩ := hv
  clear hp hq
  by_cases h1 : 20 < N.length
  · have d1 : decide (20 < (N.length : Int)) = true := by simp; omega
    go_enter Try.func4, Try.ntmps4
    go_wp2_with fail
    refine HA.out.mono ?_
    rintro e w1 ⟨rfl, h⟩
    have H := hide h
    clear h
    go_wp2_with fail
    go_ret
    exact ⟨rfl, H.out⟩
  · have d1 : decide (20 < (N.length : Int)) = false := by simp; omega
    have d2 : decide (60 < (l.length : Int)) = true := by simp; omega
    go_enter Try.func4, Try.ntmps4
    go_wp2_with fail
    refine HA.out.mono ?_
    rintro e w1 ⟨rfl, h⟩
    have H := hide h
    clear h
    go_wp2_with fail
    go_ret
    exact ⟨rfl, H.out⟩
theorem esays_long (t : Int) (hn : Nums w v0 N) (hv : Evs w v l) (h0 : N.length ≤ 20) (h1 : l.length ≤ 60) : Calls Try.prog 4 #[v0, v, .int .i64 t] w fun x w' => x = .returned (.bool true) ∧ Kept Nil w w' := by
  have d1 : decide (20 < (N.length : Int)) = false := by simp; omega
  have d2 : decide (60 < (l.length : Int)) = false := by simp; omega
  obtain ⟨R, b, hT⟩ : ∃ R b, tns N l = (R, b) := ⟨_, _, rfl⟩
  have hR : R.length ≤ 65536 := by have := tns_len N l; rw [hT] at this; have : R.length ≤ l.length := this; omega
  have C1 := hide (tnd_at (R := R) (b := b) (Kept.refl Nil w) (by rw [← hT]; exact of_c hn hv (by omega)))
  have C2 := hide fun W (z : Kept Nil w W) => tnd_at (R := R) (b := b) (Kept.refl Nil W) (by rw [← hT]; exact rof_c (hn.kept z) (by omega) (hv.kept z) (by omega))
  have C3 := hide fun W (z : Kept Nil w W) => calls_same (w := w) z (node_c t (hn.kept z))
  have C4 := hide fun W (z : Kept Nil w W) => calls_same (w := w) z (rnode_c t (hn.kept z) (by omega))
  have C5 := hide fun W (z : Kept Nil w W) => calls_at (w := w) z (eawake_c W)
  generalize nd N t = y at *
  clear hT
  obtain ⟨A0, c0, rfl, hq⟩ := hn
  obtain ⟨A, c, rfl, _, hp⟩ := hv
  clear hp hq
  go_enter Try.func4, Try.ntmps4
  go_wp2_with fail
  refine C1.out.mono ?_
  rintro e w1 ⟨A1, c1, rfl, hs1, hk1⟩
  have H1 := hide (And.intro hs1 hk1)
  clear hs1 hk1 C1
  go_wp2_with fail
  refine (C2.out _ H1.out.2).mono ?_
  rintro e w2 ⟨A2, c2, rfl, hs2, hk2⟩
  have H2 := hide (And.intro (H1.out.1.kept hk2) (And.intro hs2 (H1.out.2.trans hk2 (fun _ _ z => z))))
  clear hs2 hk2 C2 H1
  have D2 := hide (calls_drew (Kept.refl Nil w2) (same_runs H2.out.1 H2.out.2.1 hR))
  go_wp2_with fail
  refine D2.out.mono ?_
  rintro e w3 ⟨rfl, hk⟩
  have H3 := hide (And.intro (H2.out.1.kept hk) (And.intro (H2.out.2.1.kept hk) (H2.out.2.2.trans hk (fun _ _ z => z))))
  clear hk D2 H2
  have D3 := hide (longest_c H3.out.1 hR)
  go_wp2_with fail
  refine D3.out.mono ?_
  rintro e w4 ⟨rfl, hk⟩
  have H4 := hide (And.intro (H3.out.2.1.kept hk) (H3.out.2.2.trans hk (fun _ _ z => z)))
  clear hk D3 H3
  have D4 := hide (calls_same (Kept.refl Nil w4) (rlongest_c H4.out.1 hR))
  go_wp2_with fail
  refine D4.out.mono ?_
  rintro e w5 ⟨rfl, hk⟩
  have H5 := hide (H4.out.2.trans hk (fun _ _ z => z))
  clear hk D4 H4
  go_wp2_with fail
  refine (C3.out _ H5.out).mono ?_
  rintro e w6 ⟨rfl, hk⟩
  have H6 := hide hk
  clear hk C3 H5
  go_wp2_with fail
  refine (C4.out _ H6.out).mono ?_
  rintro e w7 ⟨rfl, hk⟩
  have H7 := hide hk
  clear hk C4 H6
  go_wp2_with fail
  refine (C5.out _ H7.out).mono ?_
  rintro e w8 ⟨rfl, hk⟩
  have H8 := hide hk
  clear hk C5 H7
  go_wp2_with fail
  go_ret
  exact ⟨rfl, H8.out⟩
theorem esays_c (t : Int) (hn : Nums w v0 N) (hv : Evs w v l) : Calls Try.prog 4 #[v0, v, .int .i64 t] w fun x w' => x = .returned (.bool true) ∧ Kept Nil w w' := by
  rcases Nat.lt_or_ge 20 N.length with h | h
  · exact esays_short t hn hv (.inl h)
  · rcases Nat.lt_or_ge 60 l.length with h2 | h2
    · exact esays_short t hn hv (.inr h2)
    · exact esays_long t hn hv h h2
end
end Go.Proofs.Ytpmnmckamgdbcaa
