/- Package auto: why, Do. -/
import Derived.Test.YtmmncaabeiagaaaULock
import Derived.Deep.RegionHeld3
import Derived.Deep.RegionWith
namespace Go.Proofs.Ytmmncaabeiagaaa
open Go.RowKit
set_option maxRecDepth 100000

section
variable {w w' : World} {p : Option Addr} {g : Nat} {A : List Int} {k t c x : Int} {r : Bool} {e : Ev}
/-- What Do owes. -/
def LDone (p : Option Addr) (g : Nat) (A : List Int) (e : Ev) (w : World) (x : Ending) (w' : World) : Prop := x = .returned (.int .i64 (dof A e)) ∧ Lk w' p g (mov A e) ∧ Kept (fun i => i = g ∧ 0 < A.length) w w'
theorem LDone.same (h : dof A e = x) (hm : mov A e = A) (hL : Lk w p g A) (k : Kept Nil w w') : LDone p g A e w (.returned (.int .i64 x)) w' :=
  ⟨by rw [h], by rw [hm]; exact hL.keep k, k.more (fun _ _ z => z.elim)⟩
set_option maxHeartbeats 1000000
/-- why. -/
theorem uwhy_c (hL : Lk w p g A) (hl : A.length ≤ 65536) (hk : 1 ≤ k ∧ k ≤ 4) (ht : 0 ≤ t ∧ t < A.length) : Calls Try.prog 29 #[.pointer p, .agg #[.int .i64 k, .int .i64 t, .bool r, .int .i64 c]] w fun e w' => e = .returned (.int .i64 (why A k t)) ∧ Kept Nil w w' := by
  have HK := hide ((Kept.refl Nil w).alloc (.cells #[.int .i64 k, .int .i64 t, .bool r, .int .i64 c] 29))
  have CH := hide fun W (z : Kept Nil w W) => ulholder_c (hL.keep z) hl
  have CB := hide fun W (h : 0 ≤ k ∧ k ≤ 100) => ubefore_c W k rfl h
  obtain ⟨m, rfl⟩ : ∃ m : Nat, t = m := ⟨t.toNat, by omega⟩
  have hm : m < A.length := by omega
  obtain ⟨a, ha⟩ : ∃ a, A.getD m 0 = a := ⟨_, rfl⟩
  have hat : A.getD (m : Int).toNat 0 = a := ha
  have W1 := hide (why_ask hat)
  have W2 := hide (why_enter hat)
  have W3 := hide (why_exit hat)
  have W4 := hide (why_rest hat)
  rcases hL with ⟨_, rfl⟩ | ⟨b, q, cp, rfl, h1, h2⟩
  · simp at hm
  obtain ⟨rfl, h3⟩ := h2 (by omega)
  have b1 := h1.lt
  have b2 := h3.lt
  have g0 : w.cell? ⟨b, 0, none⟩ = some (.slice (some ⟨g, 0, none⟩) A.length cp) := h1.cell 0
  have g1 : w.cell? ⟨g, m, none⟩ = some (.int .i64 a) := by rw [← ha]; exact (h3.cell m).trans (at_cell hm)
  generalize hol A = o at *
  clear h1 h2 h3 ht hat ha
  rcases (show k = 1 ∨ k = 2 ∨ k = 3 ∨ k = 4 by omega) with rfl | rfl | rfl | rfl
  · clear hk CH
    by_cases ha : a = 0
    · subst ha
      have HE : Hid (why A 1 (m : Int) = 0) := hide (W1.out.trans (if_pos rfl))
      clear W1 W2 W3 W4
      go_enter Try.func29, Try.ntmps29
      go_wp2_with fail
      go_quiet (fail)
      go_wp2_with fail
      go_ret
      exact ⟨by rw [HE.out]; rfl, HK.out.drewN _⟩
    · have HE : Hid (why A 1 (m : Int) = 5) := hide (W1.out.trans (if_neg ha))
      have ba : (a != 0) = true := by simpa using ha
      clear W1 W2 W3 W4 ha
      go_enter Try.func29, Try.ntmps29
      go_wp2_with fail
      go_quiet (fail)
      go_wp2_with fail
      go_ret
      exact ⟨by rw [HE.out]; rfl, HK.out.drewN _⟩
  · clear hk
    by_cases ha : a = 1
    · subst ha
      by_cases ho : 0 ≤ o
      · have HE : Hid (why A 2 (m : Int) = 5) := hide (W2.out.trans ((if_pos rfl).trans (if_pos ho)))
        have bo : decide (0 ≤ o) = true := by simpa using ho
        clear W1 W2 W3 W4 ho
        go_enter Try.func29, Try.ntmps29
        go_wp2_with fail
        go_quiet (fail)
        go_wp2_with fail
        refine (CH.out _ (HK.out.drewN _)).mono ?_
        rintro e w' ⟨rfl, rfl⟩
        go_wp2_with fail
        go_ret
        exact ⟨by rw [HE.out]; rfl, HK.out.drewN _⟩
      · have HE : Hid (why A 2 (m : Int) = 0) := hide (W2.out.trans ((if_pos rfl).trans (if_neg ho)))
        have bo : decide (0 ≤ o) = false := by simpa using ho
        clear W1 W2 W3 W4 ho
        go_enter Try.func29, Try.ntmps29
        go_wp2_with fail
        go_quiet (fail)
        go_wp2_with fail
        refine (CH.out _ (HK.out.drewN _)).mono ?_
        rintro e w' ⟨rfl, rfl⟩
        go_wp2_with fail
        refine (CB.out _ (by decide)).mono ?_
        rintro e w' ⟨rfl, rfl⟩
        go_wp2_with fail
        go_ret
        exact ⟨by rw [HE.out]; rfl, HK.out.drewN _⟩
    · have HE : Hid (why A 2 (m : Int) = 6) := hide (W2.out.trans (if_neg ha))
      have ba : (a != 1) = true := by simpa using ha
      have bb : (a == 1) = false := by simpa using ha
      clear W1 W2 W3 W4 ha
      go_enter Try.func29, Try.ntmps29
      go_wp2_with fail
      go_quiet (fail)
      go_wp2_with fail
      refine (CB.out _ (by decide)).mono ?_
      rintro e w' ⟨rfl, rfl⟩
      go_wp2_with fail
      go_ret
      exact ⟨by rw [HE.out]; rfl, HK.out.drewN _⟩
  · clear hk CH
    by_cases ha : a = 2
    · subst ha
      have HE : Hid (why A 3 (m : Int) = 0) := hide (W3.out.trans (if_pos rfl))
      clear W1 W2 W3 W4
      go_enter Try.func29, Try.ntmps29
      go_wp2_with fail
      go_quiet (fail)
      go_wp2_with fail
      refine (CB.out _ (by decide)).mono ?_
      rintro e w' ⟨rfl, rfl⟩
      go_wp2_with fail
      go_ret
      exact ⟨by rw [HE.out]; rfl, HK.out.drewN _⟩
    · have HE : Hid (why A 3 (m : Int) = 6) := hide (W3.out.trans (if_neg ha))
      have ba : (a != 2) = true := by simpa using ha
      clear W1 W2 W3 W4 ha
      go_enter Try.func29, Try.ntmps29
      go_wp2_with fail
      go_quiet (fail)
      go_wp2_with fail
      refine (CB.out _ (by decide)).mono ?_
      rintro e w' ⟨rfl, rfl⟩
      go_wp2_with fail
      go_ret
      exact ⟨by rw [HE.out]; rfl, HK.out.drewN _⟩
  · clear hk CH
    by_cases ha : a = 3
    · subst ha
      have HE : Hid (why A 4 (m : Int) = 0) := hide (W4.out.trans (if_pos rfl))
      clear W1 W2 W3 W4
      go_enter Try.func29, Try.ntmps29
      go_wp2_with fail
      go_quiet (fail)
      go_wp2_with fail
      refine (CB.out _ (by decide)).mono ?_
      rintro e w' ⟨rfl, rfl⟩
      go_wp2_with fail
      go_ret
      exact ⟨by rw [HE.out]; rfl, HK.out.drewN _⟩
    · have HE : Hid (why A 4 (m : Int) = 6) := hide (W4.out.trans (if_neg ha))
      have ba : (a != 3) = true := by simpa using ha
      clear W1 W2 W3 W4 ha
      go_enter Try.func29, Try.ntmps29
      go_wp2_with fail
      go_quiet (fail)
      go_wp2_with fail
      refine (CB.out _ (by decide)).mono ?_
      rintro e w' ⟨rfl, rfl⟩
      go_wp2_with fail
      go_ret
      exact ⟨by rw [HE.out]; rfl, HK.out.drewN _⟩
theorem udo_kind (h : r = true ∨ k < 0 ∨ 5 < k) (hL : Lk w p g A) : Calls Try.prog 15 #[.pointer p, .agg #[.int .i64 k, .int .i64 t, .bool r, .int .i64 c]] w (LDone p g A ⟨k, t, r, c⟩ w) := by
  have hd := hide (dof_kind (A := A) (e := ⟨k, t, r, c⟩) h)
  have hm := hide (mov_err (A := A) (e := ⟨k, t, r, c⟩) (by rw [hd.out]; decide))
  have HK := hide ((Kept.refl Nil w).alloc (.cells #[.int .i64 k, .int .i64 t, .bool r, .int .i64 c] 29))
  have HL := hide hL
  clear hL
  by_cases h1 : k < 0
  · have b1 : decide (k < 0) = true := by simpa using h1
    clear h h1
    go_enter Try.func15, Try.ntmps15
    go_wp2_with fail
    go_ret
    exact .same hd.out hm.out HL.out HK.out
  · have b1 : decide (k < 0) = false := by simpa using h1
    by_cases h2 : 5 < k
    · have b2 : decide (5 < k) = true := by simpa using h2
      clear h h1 h2
      go_enter Try.func15, Try.ntmps15
      go_wp2_with fail
      go_ret
      exact .same hd.out hm.out HL.out HK.out
    · have b2 : decide (5 < k) = false := by simpa using h2
      obtain rfl : r = true := by
        rcases h with h | h | h
        · exact h
        · exact absurd h h1
        · exact absurd h h2
      clear h h1 h2
      go_enter Try.func15, Try.ntmps15
      go_wp2_with fail
      go_ret
      exact .same hd.out hm.out HL.out HK.out
theorem udo_ok (h : k = 0 ∨ k = 5) (hL : Lk w p g A) : Calls Try.prog 15 #[.pointer p, .agg #[.int .i64 k, .int .i64 t, .bool false, .int .i64 c]] w (LDone p g A ⟨k, t, false, c⟩ w) := by
  have hd := hide (dof_ok (A := A) (e := ⟨k, t, false, c⟩) rfl h)
  have hm := hide (mov_still (A := A) (e := ⟨k, t, false, c⟩) (by show ¬ (1 ≤ k ∧ k ≤ 4); omega))
  have HK := hide ((Kept.refl Nil w).alloc (.cells #[.int .i64 k, .int .i64 t, .bool false, .int .i64 c] 29))
  have HL := hide hL
  clear hL
  rcases h with rfl | rfl
  all_goals
    go_enter Try.func15, Try.ntmps15
    go_wp2_with fail
    go_ret
    exact .same hd.out hm.out HL.out HK.out
theorem udo_none (h : 1 ≤ k ∧ k ≤ 4) (ht : t < 0 ∨ (A.length : Int) ≤ t) (hL : Lk w p g A) : Calls Try.prog 15 #[.pointer p, .agg #[.int .i64 k, .int .i64 t, .bool false, .int .i64 c]] w (LDone p g A ⟨k, t, false, c⟩ w) := by
  have hd := hide (dof_none (A := A) (e := ⟨k, t, false, c⟩) rfl h ht)
  have hm := hide (mov_err (A := A) (e := ⟨k, t, false, c⟩) (by rw [hd.out]; decide))
  have HK := hide ((Kept.refl Nil w).alloc (.cells #[.int .i64 k, .int .i64 t, .bool false, .int .i64 c] 29))
  have HL := hide hL
  have HH := hide fun W (z : Kept Nil w W) => uhas_c t (decide_eq_false (show ¬ (0 ≤ t ∧ t < (A.length : Int)) by omega)) (hL.keep z)
  have b1 : decide (k < 0) = false := by simp; omega
  have b2 : decide (5 < k) = false := by simp; omega
  have b3 : (k == 0) = false := by simp; omega
  have b4 : (k == 5) = false := by simp; omega
  clear hL h ht
  go_enter Try.func15, Try.ntmps15
  go_wp2_with fail
  refine (HH.out _ HK.out).mono ?_
  rintro e w' ⟨rfl, rfl⟩
  go_wp2_with fail
  go_ret
  exact .same hd.out hm.out HL.out HK.out
/-- An event that may not be. -/
theorem udo_not {y : Int} (h : 1 ≤ k ∧ k ≤ 4) (ht : 0 ≤ t ∧ t < A.length) (hL : Lk w p g A) (hl : A.length ≤ 65536) (hy : why A k t = y) (hy0 : y ≠ 0) : Calls Try.prog 15 #[.pointer p, .agg #[.int .i64 k, .int .i64 t, .bool false, .int .i64 c]] w (LDone p g A ⟨k, t, false, c⟩ w) := by
  have hd := hide ((dof_why (A := A) (e := ⟨k, t, false, c⟩) rfl h ht).trans hy)
  have hm := hide (mov_err (A := A) (e := ⟨k, t, false, c⟩) (by rw [hd.out]; exact hy0))
  have HK := hide ((Kept.refl Nil w).alloc (.cells #[.int .i64 k, .int .i64 t, .bool false, .int .i64 c] 29))
  have HL := hide hL
  have HH := hide fun W (z : Kept Nil w W) => uhas_c t (decide_eq_true ht) (hL.keep z)
  have HW := hide fun W (z : Kept Nil w W) => uwhy_c (r := false) (c := c) (hL.keep z) hl h ht
  rw [hy] at HW
  have b1 : decide (k < 0) = false := by simp; omega
  have b2 : decide (5 < k) = false := by simp; omega
  have b3 : (k == 0) = false := by simp; omega
  have b4 : (k == 5) = false := by simp; omega
  have b5 : (y != 0) = true := by simpa using hy0
  clear hL h ht hy hy0
  go_enter Try.func15, Try.ntmps15
  go_wp2_with fail
  refine (HH.out _ HK.out).mono ?_
  rintro e w' ⟨rfl, rfl⟩
  go_wp2_with fail
  refine (HW.out _ HK.out).mono ?_
  rintro e w1 ⟨rfl, k1⟩
  have K1 := hide (HK.out.trans k1 (fun _ _ z => z))
  clear k1
  go_wp2_with fail
  go_ret
  exact .same hd.out hm.out HL.out K1.out
/-- An event that may be. -/
theorem udo_yes (h : 1 ≤ k ∧ k ≤ 4) (ht : 0 ≤ t ∧ t < A.length) (hL : Lk w p g A) (hl : A.length ≤ 65536) (hy : why A k t = 0) : Calls Try.prog 15 #[.pointer p, .agg #[.int .i64 k, .int .i64 t, .bool false, .int .i64 c]] w (LDone p g A ⟨k, t, false, c⟩ w) := by
  have hd := hide ((dof_why (A := A) (e := ⟨k, t, false, c⟩) rfl h ht).trans hy)
  have hm := hide (mov_yes hd.out h)
  have hk0 := (Kept.refl Nil w).alloc (.cells #[.int .i64 k, .int .i64 t, .bool false, .int .i64 c] 29)
  have hi0 := Is.new w 29 #[.int .i64 k, .int .i64 t, .bool false, .int .i64 c]
  have HH := hide fun W (z : Kept Nil w W) => uhas_c t (decide_eq_true ht) (hL.keep z)
  have HW := hide fun W (z : Kept Nil w W) => uwhy_c (r := false) (c := c) (hL.keep z) hl h ht
  rw [hy] at HW
  have HA := hide fun W => uafter_c W k h
  have b1 : decide (k < 0) = false := by simp; omega
  have b2 : decide (5 < k) = false := by simp; omega
  have b3 : (k == 0) = false := by simp; omega
  have b4 : (k == 5) = false := by simp; omega
  obtain ⟨m, rfl⟩ : ∃ m : Nat, t = m := ⟨t.toNat, by omega⟩
  have hml : m < A.length := by omega
  rcases hL with ⟨_, rfl⟩ | ⟨b, q, cp, rfl, h1, h2⟩
  · simp at hml
  obtain ⟨rfl, h3⟩ := h2 (by omega)
  have hbg : b ≠ g := h1.ne h3 (by decide)
  have hL0 := hide (And.intro h1 h3)
  have HK := hide (And.intro hk0 hi0)
  clear hk0 hi0 h1 h2 h3 h ht hy
  go_enter Try.func15, Try.ntmps15
  go_wp2_with fail
  refine (HH.out _ HK.out.1).mono ?_
  rintro e w' ⟨rfl, rfl⟩
  go_wp2_with fail
  refine (HW.out _ HK.out.1).mono ?_
  rintro e w1 ⟨rfl, k1⟩
  have K1 := hide (HK.out.1.trans k1 (fun _ _ z => z))
  have i0 := HK.out.2.kept k1 (fun z => z)
  have i1 := hL0.out.1.kept K1.out (fun z => z)
  have i2 := hL0.out.2.kept K1.out (fun z => z)
  have hx : w.heap.size ≠ g := i0.ne i2 (by decide)
  obtain ⟨Z, hZ⟩ : ∃ Z : World → Value, ∀ (W : World) v, W.cell? ⟨g, m, none⟩ = some v → W.cell? ⟨g, m, none⟩ = some (Z W) := ⟨fun W => (W.cell? ⟨g, m, none⟩).getD undef, fun W v e => by show _ = some ((W.cell? ⟨g, m, none⟩).getD undef); rw [e]; rfl⟩
  have CELLS := hide fun (W : World) (z : Kept Nil w1 W) => show W.cell? ⟨w.heap.size, 0, none⟩ = some (.int .i64 k) ∧ W.cell? ⟨w.heap.size, 1, none⟩ = some (.int .i64 (m : Int)) ∧ W.cell? ⟨b, 0, none⟩ = some (.slice (some ⟨g, 0, none⟩) A.length cp) ∧ W.cell? ⟨g, m, none⟩ = some (Z W) ∧ W.frozen? ⟨g, m, none⟩ = false from
    ⟨(i0.kept z (fun c => c)).cell 0, (i0.kept z (fun c => c)).cell 1, (i1.kept z (fun c => c)).cell 0, hZ W _ (((i2.kept z (fun c => c)).cell m).trans (at_cell hml)), (i2.kept z (fun c => c)).free m⟩
  have FIN := hide fun (W : World) (z : Kept Nil w1 W) => And.intro ((i1.kept z (fun c => c)).other (p := ⟨g, m, none⟩) hbg (.int .i64 (aft k))) (And.intro ((i2.kept z (fun c => c)).set m (.int .i64 (aft k))) (((K1.out.trans z (fun _ _ c => c)).more (S' := fun i => i = g ∧ 0 < A.length) (fun _ _ c => c.elim)).set (p := ⟨g, m, none⟩) (fun _ => ⟨rfl, by omega⟩) (.int .i64 (aft k))))
  have AFTER := hide fun (W : World) (z : Kept Nil w1 W) => show (W.setCell ⟨g, m, none⟩ (.int .i64 (aft k))).cell? ⟨w.heap.size, 0, none⟩ = some (.int .i64 k) ∧ (W.setCell ⟨g, m, none⟩ (.int .i64 (aft k))).cell? ⟨w.heap.size, 1, none⟩ = some (.int .i64 (m : Int)) ∧ (W.setCell ⟨g, m, none⟩ (.int .i64 (aft k))).cell? ⟨b, 0, none⟩ = some (.slice (some ⟨g, 0, none⟩) A.length cp) ∧ (W.setCell ⟨g, m, none⟩ (.int .i64 (aft k))).cell? ⟨g, m, none⟩ = some (Z (W.setCell ⟨g, m, none⟩ (.int .i64 (aft k)))) ∧ (W.setCell ⟨g, m, none⟩ (.int .i64 (aft k))).frozen? ⟨g, m, none⟩ = false from by
    have j0 := (i0.kept z (fun c => c)).other (p := ⟨g, m, none⟩) hx (.int .i64 (aft k))
    obtain ⟨j1, j2, _⟩ := FIN.out W z
    refine ⟨j0.cell 0, j0.cell 1, j1.cell 0, hZ _ (.int .i64 (aft k)) ((j2.cell m).trans ?_), j2.free m⟩
    rw [Array.getElem?_setIfInBounds_self_of_lt (by simpa using hml)]
  have c1 := hide fun (W : World) (z : Kept Nil w1 W) => (HA.out W).mono (R' := fun e w' => e = .returned (.int .i64 (aft k)) ∧ Kept Nil w1 w') fun e w' ⟨h1, h2⟩ => ⟨h1, by rw [← h2]; exact z⟩
  have hK : Kept Nil w1 w1.drew := (Kept.refl _ w1).drew
  clear k1 i0 i1 i2 hZ
  go_wp2_with fail
  go_region_held3 (fun W => W.cell? ⟨w.heap.size, 0, none⟩ = some (.int .i64 k) ∧ W.cell? ⟨w.heap.size, 1, none⟩ = some (.int .i64 (m : Int)) ∧ W.cell? ⟨b, 0, none⟩ = some (.slice (some ⟨g, 0, none⟩) A.length cp) ∧ W.cell? ⟨g, m, none⟩ = some (Z W) ∧ W.frozen? ⟨g, m, none⟩ = false)
    (first | exact CELLS.out _ (by assumption) | exact CELLS.out _ (Kept.drew (by assumption)) | exact AFTER.out _ (by assumption))
    ((go_at_call 30; refine (c1.out _ (by assumption)).mono ?_; rintro e w2 ⟨rfl, hk1⟩))
  have HF := hide (FIN.out _ hk1)
  clear hk1 CELLS AFTER c1
  go_wp2_with fail
  go_ret
  refine ⟨by rw [hd.out]; rfl, .inr ⟨b, _, cp, rfl, ?_, fun _ => ⟨rfl, ?_⟩⟩, HF.out.2.2⟩
  · rw [mov_len]
    exact HF.out.1
  · have := HF.out.2.1
    rw [hm.out, List.map_set]
    simpa using this
/-- Do. -/
theorem udo_c (e : Ev) (hL : Lk w p g A) (hl : A.length ≤ 65536) : Calls Try.prog 15 #[.pointer p, .agg #[.int .i64 e.k, .int .i64 e.t, .bool e.r, .int .i64 e.c]] w (LDone p g A e w) := by
  obtain ⟨k, t, r, c⟩ := e
  by_cases h : r = true ∨ k < 0 ∨ 5 < k
  · exact udo_kind h hL
  · obtain rfl : r = false := by cases r <;> simp_all
    by_cases h1 : k = 0 ∨ k = 5
    · exact udo_ok h1 hL
    · have hk : 1 ≤ k ∧ k ≤ 4 := by omega
      by_cases h2 : t < 0 ∨ (A.length : Int) ≤ t
      · exact udo_none hk h2 hL
      · have h4 : 0 ≤ t ∧ t < (A.length : Int) := by omega
        by_cases h3 : why A k t = 0
        · exact udo_yes hk h4 hL hl h3
        · exact udo_not hk h4 hL hl rfl h3
end
end Go.Proofs.Ytmmncaabeiagaaa
