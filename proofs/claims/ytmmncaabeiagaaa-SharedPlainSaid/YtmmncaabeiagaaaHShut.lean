/- Package shared: before, after, shut. -/
import Derived.Test.YtmmncaabeiagaaaHLock
import Derived.Deep.RegionHeld3
namespace Go.Proofs.Ytmmncaabeiagaaa
open Go.RowKit
set_option maxRecDepth 100000

section
variable {w w' : World} {p : Option Addr} {g : Nat} {A : List Sd} {k t c x : Int} {r : Bool} {e : Ev}
theorem results_stand {fn : Func} {p : Tmp} {w : World} {b : Nat} {va vb : Value} (h : fn.results = #[.cell p 53]) (tmps : Array Value) (hp : tmps.getD p undef = .pointer (some ⟨b, 0, none⟩))
    (h0 : w.cell? ⟨b, 0, none⟩ = some va) (h1 : w.cell? ⟨b, 1, none⟩ = some vb) : (results fn tmps).run Try.prog w = .ok (.agg #[va, vb]) w := by
  have e : (results fn tmps).run Try.prog w = ((asAddr (tmps.getD p undef)).run Try.prog w).andThen fun a w₁ => (loadVar 53 a).run Try.prog w₁ := by
    simp only [results, h]
    simp [Sem.run_bind, Result.andThen]
  rw [e, hp]
  go_simp
theorem new_second {w : World} {t1 t2 : TypeId} {c1 c2 : Array Value} : Is ((w.alloc (.cells c1 t1)).alloc (.cells c2 t2)) (w.heap.size + 1) t2 c2 := by
  have := Is.new (w.alloc (.cells c1 t1)) t2 c2
  simpa using this
set_option maxHeartbeats 1000000
/-- before. -/
theorem sbefore_c (w : World) (k t c : Int) (r : Bool) (hk : 1 ≤ k ∧ k ≤ 5) : Calls Try.prog 32 #[.agg #[.int .i64 k, .int .i64 t, .bool r, .int .i64 c]] w fun e w' => e = .returned (.agg #[.int .i64 (bef k r).1, .bool (bef k r).2]) ∧ Kept Nil w w' := by
  have hk0 := ((Kept.refl Nil w).alloc (.cells #[.int .i64 k, .int .i64 t, .bool r, .int .i64 c] 29)).alloc (.cells #[.int .i64 0, .bool false] 53)
  have hi0 := new_second (w := w) (t1 := 29) (t2 := 53) (c1 := #[.int .i64 k, .int .i64 t, .bool r, .int .i64 c]) (c2 := #[.int .i64 0, .bool false])
  by_cases h1 : k = 1
  · subst h1
    have i7 := (hi0.set 0 (.int .i64 0)).set 1 (.bool false)
    have k7 := (hk0.set (p := ⟨w.heap.size + 1, 0, none⟩) (fun h => absurd h (by simp)) (.int .i64 0)).set (p := ⟨w.heap.size + 1, 1, none⟩) (fun h => absurd h (by simp)) (.bool false)
    have H0 := hide (And.intro hi0 (And.intro hk0 (And.intro i7 k7)))
    clear hi0 hk0 i7 k7
    go_enter Try.func32, Try.ntmps32
    go_wp2_with fail
    first
      | exact bodyPost_ret (results_stand rfl _ rfl (H0.out.2.2.1.cell 0) (H0.out.2.2.1.cell 1)) rfl ⟨rfl, H0.out.2.2.2⟩
      | exact bodyPost_ret (results_stand rfl _ rfl (H0.out.1.cell 0) (H0.out.1.cell 1)) rfl ⟨rfl, H0.out.2.1⟩
  · have HB : Hid (bef k r = (k - 1, r)) := hide (if_neg h1)
    have hk0 := ((Kept.refl Nil w).alloc (.cells #[.int .i64 k, .int .i64 t, .bool r, .int .i64 c] 29)).alloc (.cells #[.int .i64 (k - 1), .bool r] 53)
    have hi0 := new_second (w := w) (t1 := 29) (t2 := 53) (c1 := #[.int .i64 k, .int .i64 t, .bool r, .int .i64 c]) (c2 := #[.int .i64 (k - 1), .bool r])
    have H0 := hide (And.intro hi0 hk0)
    have b1 : (k == 1) = false := by simpa using h1
    clear hi0 hk0 h1
    go_enter Try.func32, Try.ntmps32
    go_wp2_with fail
    rw [HB.out]
    exact bodyPost_ret (results_stand rfl _ rfl (H0.out.1.cell 0) (H0.out.1.cell 1)) rfl ⟨rfl, H0.out.2⟩
/-- after. -/
theorem safter_c (w : World) (k t c : Int) (r : Bool) (hk : 1 ≤ k ∧ k ≤ 4) : Calls Try.prog 25 #[.agg #[.int .i64 k, .int .i64 t, .bool r, .int .i64 c]] w fun e w' => e = .returned (.agg #[.int .i64 (afr k r).1, .bool (afr k r).2]) ∧ Kept Nil w w' := by
  have hk0 := ((Kept.refl Nil w).alloc (.cells #[.int .i64 k, .int .i64 t, .bool r, .int .i64 c] 29)).alloc (.cells #[.int .i64 0, .bool false] 53)
  have hi0 := new_second (w := w) (t1 := 29) (t2 := 53) (c1 := #[.int .i64 k, .int .i64 t, .bool r, .int .i64 c]) (c2 := #[.int .i64 0, .bool false])
  by_cases h4 : k = 4
  · subst h4
    have i7 := (hi0.set 0 (.int .i64 0)).set 1 (.bool false)
    have k7 := (hk0.set (p := ⟨w.heap.size + 1, 0, none⟩) (fun h => absurd h (by simp)) (.int .i64 0)).set (p := ⟨w.heap.size + 1, 1, none⟩) (fun h => absurd h (by simp)) (.bool false)
    have H0 := hide (And.intro hi0 (And.intro hk0 (And.intro i7 k7)))
    clear hi0 hk0 i7 k7
    go_enter Try.func25, Try.ntmps25
    go_wp2_with fail
    first
      | exact bodyPost_ret (results_stand rfl _ rfl (H0.out.2.2.1.cell 0) (H0.out.2.2.1.cell 1)) rfl ⟨rfl, H0.out.2.2.2⟩
      | exact bodyPost_ret (results_stand rfl _ rfl (H0.out.1.cell 0) (H0.out.1.cell 1)) rfl ⟨rfl, H0.out.2.1⟩
  · have HB : Hid (afr k r = (k, r)) := hide (if_neg h4)
    have HC := hide fun W => sbefore_c W (k + 1) t c r (by omega)
    have hb : bef (k + 1) r = (k, r) := by
      unfold bef
      rw [if_neg (by omega), show k + 1 - 1 = k by omega]
    rw [hb] at HC
    have k5 := ((Kept.refl Nil w).alloc (.cells #[.int .i64 (k + 1), .int .i64 t, .bool r, .int .i64 c] 29)).alloc (.cells #[.int .i64 0, .bool false] 53)
    have i5 := new_second (w := w) (t1 := 29) (t2 := 53) (c1 := #[.int .i64 (k + 1), .int .i64 t, .bool r, .int .i64 c]) (c2 := #[.int .i64 0, .bool false])
    have H0 := hide (And.intro i5 k5)
    have b4 : (k == 4) = false := by simpa using h4
    clear hi0 hk0 h4 hb i5 k5
    go_enter Try.func25, Try.ntmps25
    go_wp2_with fail
    refine (HC.out _).mono ?_
    rintro e w1 ⟨rfl, hk1⟩
    have i6 := H0.out.1.kept hk1 (fun z => z)
    have k6 := H0.out.2.trans hk1 (fun _ _ z => z)
    have i7 := (i6.set 0 (.int .i64 k)).set 1 (.bool r)
    have k7 := (k6.set (p := ⟨w.heap.size + 1, 0, none⟩) (fun h => absurd h (by simp)) (.int .i64 k)).set (p := ⟨w.heap.size + 1, 1, none⟩) (fun h => absurd h (by simp)) (.bool r)
    have q0 : w1.cell? ⟨w.heap.size + 1, 0, none⟩ = some (.int .i64 0) := i6.cell 0
    have q1 : w1.cell? ⟨w.heap.size + 1, 1, none⟩ = some (.bool false) := i6.cell 1
    have q2 := i6.free 0
    have q3 := i6.free 1
    have H1 := hide (And.intro i7 k7)
    clear i6 k6 i7 k7 hk1
    go_wp2_with fail
    rw [HB.out]
    exact bodyPost_ret (results_stand rfl _ rfl (H1.out.1.cell 0) (H1.out.1.cell 1)) rfl ⟨rfl, H1.out.2⟩
/-- shut. -/
theorem sshut_c (k t c : Int) (r : Bool) (h : Sk w p g A) (hl : A.length ≤ 65536) : Calls Try.prog 33 #[.pointer p, .agg #[.int .i64 k, .int .i64 t, .bool r, .int .i64 c]] w fun e w' => e = .returned (.int .i64 (shu A k r)) ∧ Kept Nil w w' := by
  have HK := hide ((Kept.refl Nil w).alloc (.cells #[.int .i64 k, .int .i64 t, .bool r, .int .i64 c] 29))
  have HI := hide (Is.new w 29 #[.int .i64 k, .int .i64 t, .bool r, .int .i64 c])
  have CW := hide fun W (z : Kept Nil w W) => swriter_c (h.keep z) hl
  have CR := hide fun W (z : Kept Nil w W) => sreaders_c (h.keep z) hl
  have SA : Hid (shu A k r = if k = 2 ∧ (0 ≤ wri A ∨ r = false ∧ 0 < rdn A) then 5 else 0) := hide rfl
  clear h
  generalize wri A = o at *
  generalize rdn A = q at *
  by_cases hk : k = 2
  · subst hk
    by_cases ho : 0 ≤ o
    · have bo : decide (0 ≤ o) = true := by simpa using ho
      have HE := hide (SA.out.trans (if_pos ⟨rfl, .inl ho⟩))
      clear ho SA CR
      go_enter Try.func33, Try.ntmps33
      go_wp2_with fail
      refine (CW.out _ HK.out).mono ?_
      rintro e w1 ⟨rfl, k1⟩
      have K1 := hide (HK.out.trans k1 (fun _ _ z => z))
      clear k1
      go_wp2_with fail
      go_ret
      exact ⟨by rw [HE.out]; rfl, K1.out⟩
    · have bo : decide (0 ≤ o) = false := by simpa using ho
      cases r with
      | true =>
        have HE := hide (SA.out.trans (if_neg (fun z => z.2.elim ho (fun y => absurd y.1 (by decide)))))
        clear ho SA CR
        go_enter Try.func33, Try.ntmps33
        go_wp2_with fail
        refine (CW.out _ HK.out).mono ?_
        rintro e w1 ⟨rfl, k1⟩
        have K1 := hide (HK.out.trans k1 (fun _ _ z => z))
        have q2 : w1.cell? ⟨w.heap.size, 2, none⟩ = some (.bool true) := (HI.out.kept k1 (fun z => z)).cell 2
        clear k1
        go_wp2_with fail
        go_ret
        exact ⟨by rw [HE.out]; rfl, K1.out⟩
      | false =>
        by_cases hq : 0 < q
        · have bq : decide (0 < q) = true := by simpa using hq
          have HE := hide (SA.out.trans (if_pos ⟨rfl, .inr ⟨rfl, hq⟩⟩))
          clear ho hq SA
          go_enter Try.func33, Try.ntmps33
          go_wp2_with fail
          refine (CW.out _ HK.out).mono ?_
          rintro e w1 ⟨rfl, k1⟩
          have K1 := hide (HK.out.trans k1 (fun _ _ z => z))
          have q2 : w1.cell? ⟨w.heap.size, 2, none⟩ = some (.bool false) := (HI.out.kept k1 (fun z => z)).cell 2
          clear k1
          go_wp2_with fail
          refine (CR.out _ K1.out).mono ?_
          rintro e w2 ⟨rfl, k2⟩
          have K2 := hide (K1.out.trans k2 (fun _ _ z => z))
          clear k2
          go_wp2_with fail
          go_ret
          exact ⟨by rw [HE.out]; rfl, K2.out⟩
        · have bq : decide (0 < q) = false := by simpa using hq
          have HE := hide (SA.out.trans (if_neg (fun z => z.2.elim ho (fun y => hq y.2))))
          clear ho hq SA
          go_enter Try.func33, Try.ntmps33
          go_wp2_with fail
          refine (CW.out _ HK.out).mono ?_
          rintro e w1 ⟨rfl, k1⟩
          have K1 := hide (HK.out.trans k1 (fun _ _ z => z))
          have q2 : w1.cell? ⟨w.heap.size, 2, none⟩ = some (.bool false) := (HI.out.kept k1 (fun z => z)).cell 2
          clear k1
          go_wp2_with fail
          refine (CR.out _ K1.out).mono ?_
          rintro e w2 ⟨rfl, k2⟩
          have K2 := hide (K1.out.trans k2 (fun _ _ z => z))
          clear k2
          go_wp2_with fail
          go_ret
          exact ⟨by rw [HE.out]; rfl, K2.out⟩
  · have bk : (k == 2) = false := by simpa using hk
    have HE := hide (SA.out.trans (if_neg (fun z => hk z.1)))
    clear hk SA CW CR
    go_enter Try.func33, Try.ntmps33
    go_wp2_with fail
    go_ret
    exact ⟨by rw [HE.out]; rfl, HK.out⟩
end
end Go.Proofs.Ytmmncaabeiagaaa
