/- The laws of layer 13: entry, awake. -/
import Derived.Test.YtpmnmckamgdbcaaERef
import Derived.Test.YtpmnmckamgdbcaaETold
namespace Go.Proofs.Ytpmnmckamgdbcaa
open Go.RowKit
set_option maxRecDepth 100000

theorem results_ev {fn : Func} {p : Tmp} {w : World} {b : Nat} {va vb vc vd : Value} (h : fn.results = #[.cell p 26]) (tmps : Array Value) (hp : tmps.getD p undef = .pointer (some ⟨b, 0, none⟩))
    (h0 : w.cell? ⟨b, 0, none⟩ = some va) (h1 : w.cell? ⟨b, 1, none⟩ = some vb) (h2 : w.cell? ⟨b, 2, none⟩ = some vc) (h3 : w.cell? ⟨b, 3, none⟩ = some vd) : (results fn tmps).run Try.prog w = .ok (.agg #[va, vb, vc, vd]) w := by
  have e : (results fn tmps).run Try.prog w = ((asAddr (tmps.getD p undef)).run Try.prog w).andThen fun a w₁ => (loadVar 26 a).run Try.prog w₁ := by
    simp only [results, h]
    simp [Sem.run_bind, Result.andThen]
  rw [e, hp]
  go_simp
theorem nums_lit {w : World} {b : Nat} {l : List Int} (h : Is w b 3 (l.map (Value.int .i64)).toArray) : Nums w (.slice (some ⟨b, 0, none⟩) l.length l.length) l := by
  refine ⟨_, _, rfl, fun _ => ⟨b, 0, rfl, h.lt, fun k hk => ?_⟩⟩
  rw [h.cell]
  simp [List.getD, hk]
section
variable {w w' : World}
/-- A contract in every world that keeps all. -/
theorem calls_at {f : Nat} {args : Array Value} {W : World} {x : Value} (k : Kept Nil w W) (h : Calls Try.prog f args W fun e w' => e = .returned x ∧ Kept Nil W w') : Calls Try.prog f args W fun e w' => e = .returned x ∧ Kept Nil w w' :=
  h.mono fun _ _ ⟨h1, h2⟩ => ⟨h1, k.trans h2 (fun _ _ z => z)⟩
theorem calls_drew {f : Nat} {args : Array Value} {W : World} {x : Value} (k : Kept Nil w W) (h : Calls Try.prog f args W fun e w' => e = .returned x ∧ ∃ n, w' = W.drewN n) : Calls Try.prog f args W fun e w' => e = .returned x ∧ Kept Nil w w' :=
  h.mono fun _ _ ⟨h1, n, h2⟩ => ⟨h1, by rw [h2]; exact k.drewN n⟩
theorem calls_same {f : Nat} {args : Array Value} {W : World} {x : Value} (k : Kept Nil w W) (h : Calls Try.prog f args W fun e w' => e = .returned x ∧ W = w') : Calls Try.prog f args W fun e w' => e = .returned x ∧ Kept Nil w w' :=
  h.mono fun _ _ ⟨h1, h2⟩ => ⟨h1, by rw [← h2]; exact k⟩
theorem tnd_at {f : Nat} {args : Array Value} {W : World} {R : List Rn} {b : Bool} (k : Kept Nil w W) (h : Calls Try.prog f args W (Tnd W (R, b))) : Calls Try.prog f args W fun e w' => ∃ A c, e = .returned (.tuple #[.slice A R.length c, .bool b]) ∧ Runs w' (.slice A R.length c) R ∧ Kept Nil w w' :=
  h.mono fun _ _ ⟨A, c, h1, h2⟩ => ⟨A, c, h1, h2.runs, k.trans h2.kept (fun _ _ z => z)⟩
set_option maxHeartbeats 2000000
theorem entry_c (W : World) (t c : Int) : Calls Try.prog 14 #[.int .i64 t, .int .i64 c] W fun e w' => e = .returned (.agg #[.int .i64 2, .int .i64 t, .bool false, .int .i64 c]) ∧ Kept Nil W w' := by
  have hi := Is.new W 26 #[.int .i64 2, .int .i64 t, .bool false, .int .i64 c]
  have hk := (Kept.refl Nil W).alloc (.cells #[.int .i64 2, .int .i64 t, .bool false, .int .i64 c] 26)
  have H := hide (And.intro hi hk)
  clear hi hk
  go_enter Try.func14, Try.ntmps14
  go_wp2_with fail
  exact bodyPost_ret (results_ev rfl _ rfl (H.out.1.cell 0) (H.out.1.cell 1) (H.out.1.cell 2) (H.out.1.cell 3)) rfl ⟨rfl, H.out.2⟩

def awE : List Ev := [⟨2, 0, false, 1⟩, ⟨2, 1, false, 2⟩, ⟨2, 2, false, 1⟩, ⟨2, 0, false, 1⟩]
def awF : List Ev := [⟨2, 0, false, 1⟩, ⟨2, 0, false, 3⟩]
def awR : List Rn := [⟨4, 0, 2⟩, ⟨6, 2, 1⟩, ⟨4, 3, 1⟩]
def awM : List Rn := [⟨4, 0, 1⟩]
theorem aw_of : tns [4, 4, 6] awE = (awR, true) := by kernel_rfl
theorem aw_bad : tns [4] awF = (awM, false) := by kernel_rfl
theorem aw_lng : lng awR = 2 := by kernel_rfl
theorem aw_tur : tur awR awR.length = 2 := by kernel_rfl
/-- What must come, whatever the arguments are. -/
theorem eawake_c (w : World) : Calls Try.prog 5 #[] w fun e w' => e = .returned (.bool true) ∧ Kept Nil w w' := by
  have C1 := hide fun W v0 v1 (z : Kept Nil w W) (hn : Nums W v0 [4, 4, 6]) (hv : Evs W v1 awE) => tnd_at (w := w) z (by rw [← aw_of]; exact of_c hn hv (by decide))
  have N1 := hide fun W => nums_lit (l := [4, 4, 6]) (Is.new W 3 #[.int .i64 4, .int .i64 4, .int .i64 6])
  have N2 := hide fun W => nums_lit (l := [4]) (Is.new W 3 #[.int .i64 4])
  have E1 := hide fun W => Is.evs (l := awE) (Is.new W 26 #[.int .i64 2, .int .i64 0, .bool false, .int .i64 1, .int .i64 2, .int .i64 1, .bool false, .int .i64 2, .int .i64 2, .int .i64 2, .bool false, .int .i64 1, .int .i64 2, .int .i64 0, .bool false, .int .i64 1])
  have E2 := hide fun W => Is.evs (l := awF) (Is.new W 26 #[.int .i64 2, .int .i64 0, .bool false, .int .i64 1, .int .i64 2, .int .i64 0, .bool false, .int .i64 3])
  have R1 := hide fun W => Is.runs (R := awR) (Is.new W 31 #[.int .i64 4, .int .i64 0, .int .i64 2, .int .i64 6, .int .i64 2, .int .i64 1, .int .i64 4, .int .i64 3, .int .i64 1])
  have R2 := hide fun W => Is.runs (R := awM) (Is.new W 31 #[.int .i64 4, .int .i64 0, .int .i64 1])
  have K1 : Hid (∀ W o, Kept Nil w W → Kept Nil w (W.alloc o)) := hide fun W o z => z.alloc o
  go_enter Try.func5, Try.ntmps5
  go_wp2_with fail
  have hk0 := (Kept.refl Nil w).alloc (.cells #[.int .i64 4, .int .i64 4, .int .i64 6] 3)
  refine (entry_c _ 0 1).mono ?_
  rintro e w1 ⟨rfl, hk1⟩
  have H1 := hide (And.intro (hk0.trans hk1 (fun _ _ z => z)) ((N1.out w).kept hk1))
  clear hk0 hk1
  go_wp2_with fail
  refine (entry_c _ 1 2).mono ?_
  rintro e w2 ⟨rfl, hk⟩
  have H2 := hide (And.intro (H1.out.1.trans hk (fun _ _ z => z)) (H1.out.2.kept hk))
  clear hk H1
  go_wp2_with fail
  refine (entry_c _ 2 1).mono ?_
  rintro e w3 ⟨rfl, hk⟩
  have H3 := hide (And.intro (H2.out.1.trans hk (fun _ _ z => z)) (H2.out.2.kept hk))
  clear hk H2
  go_wp2_with fail
  refine (entry_c _ 0 1).mono ?_
  rintro e w4 ⟨rfl, hk⟩
  have H4 := hide (And.intro (H3.out.1.trans hk (fun _ _ z => z)) (H3.out.2.kept hk))
  clear hk H3
  go_wp2_with fail
  refine (C1.out _ _ _ (K1.out _ _ H4.out.1) (H4.out.2.kept ((Kept.refl Nil w4).alloc _)) (E1.out w4)).mono ?_
  rintro e w5 ⟨A5, c5, rfl, hr5, hk⟩
  have H5 := hide (And.intro hk hr5)
  clear hk hr5 H4 C1
  go_wp2_with fail
  have hk0 := (Kept.refl Nil w5).alloc (.cells #[.int .i64 4] 3)
  refine (entry_c _ 0 1).mono ?_
  rintro e w6 ⟨rfl, hk1⟩
  have H6 := hide (And.intro (H5.out.1.trans (hk0.trans hk1 (fun _ _ z => z)) (fun _ _ z => z)) (And.intro (H5.out.2.kept (hk0.trans hk1 (fun _ _ z => z))) ((N2.out w5).kept hk1)))
  clear hk0 hk1 H5
  go_wp2_with fail
  refine (entry_c _ 0 3).mono ?_
  rintro e w7 ⟨rfl, hk⟩
  have H7 := hide (And.intro (H6.out.1.trans hk (fun _ _ z => z)) (And.intro (H6.out.2.1.kept hk) (H6.out.2.2.kept hk)))
  clear hk H6
  have hk0 := (Kept.refl Nil w7).alloc (.cells #[.int .i64 2, .int .i64 0, .bool false, .int .i64 1, .int .i64 2, .int .i64 0, .bool false, .int .i64 3] 26)
  have D8 := hide (tnd_at hk0 (by rw [← aw_bad]; exact of_c (H7.out.2.2.kept hk0) (E2.out w7) (by decide)))
  go_wp2_with fail
  refine D8.out.mono ?_
  rintro e w8 ⟨A8, c8, rfl, hr8, hk⟩
  have H8 := hide (And.intro (H7.out.1.trans hk (fun _ _ z => z)) (And.intro (H7.out.2.1.kept hk) hr8))
  clear hk hk0 hr8 H7 D8
  have D9 := hide (calls_drew (Kept.refl Nil _) (same_runs (H8.out.2.1.kept ((Kept.refl Nil w8).alloc _)) (R1.out w8) (by decide)))
  go_wp2_with fail
  refine D9.out.mono ?_
  rintro e w9 ⟨rfl, hk1⟩
  have hk := ((Kept.refl Nil w8).alloc (.cells #[.int .i64 4, .int .i64 0, .int .i64 2, .int .i64 6, .int .i64 2, .int .i64 1, .int .i64 4, .int .i64 3, .int .i64 1] 31)).trans hk1 (fun _ _ z => z)
  have H9 := hide (And.intro (H8.out.1.trans hk (fun _ _ z => z)) (And.intro (H8.out.2.1.kept hk) (H8.out.2.2.kept hk)))
  clear hk hk1 H8 D9
  have DA := hide (calls_drew (Kept.refl Nil _) (same_runs (H9.out.2.2.kept ((Kept.refl Nil w9).alloc _)) (R2.out w9) (by decide)))
  go_wp2_with fail
  refine DA.out.mono ?_
  rintro e wa ⟨rfl, hk1⟩
  have hk := ((Kept.refl Nil w9).alloc (.cells #[.int .i64 4, .int .i64 0, .int .i64 1] 31)).trans hk1 (fun _ _ z => z)
  have HA := hide (And.intro (H9.out.1.trans hk (fun _ _ z => z)) (H9.out.2.1.kept hk))
  clear hk hk1 H9 DA
  have DB := hide (longest_c HA.out.2 (by decide))
  rw [aw_lng] at DB
  go_wp2_with fail
  refine DB.out.mono ?_
  rintro e wb ⟨rfl, hk⟩
  have HB := hide (And.intro (HA.out.1.trans hk (fun _ _ z => z)) (HA.out.2.kept hk))
  clear hk HA DB
  have DC := hide (turns_c HB.out.2 (by decide))
  rw [aw_tur] at DC
  go_wp2_with fail
  refine DC.out.mono ?_
  rintro e wc ⟨rfl, hk⟩
  have HC := hide (HB.out.1.trans hk (fun _ _ z => z))
  clear hk HB DC
  have DD := hide (node_c 1 (N2.out wc))
  rw [show nd [4] 1 = -1 by decide +kernel] at DD
  go_wp2_with fail
  refine DD.out.mono ?_
  rintro e wd ⟨rfl, rfl⟩
  go_wp2_with fail
  go_ret
  exact ⟨rfl, HC.out.alloc _⟩
end
end Go.Proofs.Ytpmnmckamgdbcaa
