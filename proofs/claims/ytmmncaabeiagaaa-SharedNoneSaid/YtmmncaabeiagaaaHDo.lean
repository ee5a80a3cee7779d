/- Package shared: Do. -/
import Derived.Test.YtmmncaabeiagaaaHWhy
import Derived.Deep.RegionHeld3
namespace Go.Proofs.Ytmmncaabeiagaaa
open Go.RowKit
set_option maxRecDepth 100000

section
variable {w w' : World} {p : Option Addr} {g : Nat} {A : List Sd} {k t c x : Int} {r : Bool} {e : Ev}
/-- What Do owes. -/
def SDone (p : Option Addr) (g : Nat) (A : List Sd) (e : Ev) (w : World) (x : Ending) (w' : World) : Prop := x = .returned (.int .i64 (sdof A e)) ∧ Sk w' p g (smov A e) ∧ Kept (fun i => i = g ∧ 0 < A.length) w w'
theorem SDone.same (h : sdof A e = x) (hm : smov A e = A) (hL : Sk w p g A) (k : Kept Nil w w') : SDone p g A e w (.returned (.int .i64 x)) w' :=
  ⟨by rw [h], by rw [hm]; exact hL.keep k, k.more (fun _ _ z => z.elim)⟩
set_option maxHeartbeats 1000000
theorem sdo_kind (h : k < 0 ∨ 5 < k) (hL : Sk w p g A) : Calls Try.prog 9 #[.pointer p, .agg #[.int .i64 k, .int .i64 t, .bool r, .int .i64 c]] w (SDone p g A ⟨k, t, r, c⟩ w) := by
  have hd := hide (sdof_kind (A := A) (e := ⟨k, t, r, c⟩) h)
  have hm := hide (smov_err (A := A) (e := ⟨k, t, r, c⟩) (by rw [hd.out]; decide))
  have HK := hide ((Kept.refl Nil w).alloc (.cells #[.int .i64 k, .int .i64 t, .bool r, .int .i64 c] 29))
  have HL := hide hL
  clear hL
  by_cases h1 : k < 0
  · have b1 : decide (k < 0) = true := by simpa using h1
    clear h h1
    go_enter Try.func9, Try.ntmps9
    go_wp2_with fail
    go_ret
    exact .same hd.out hm.out HL.out HK.out
  · have b1 : decide (k < 0) = false := by simpa using h1
    have b2 : decide (5 < k) = true := by simp; omega
    clear h h1
    go_enter Try.func9, Try.ntmps9
    go_wp2_with fail
    go_ret
    exact .same hd.out hm.out HL.out HK.out
theorem sdo_ok (h : k = 0 ∨ k = 5) (hL : Sk w p g A) : Calls Try.prog 9 #[.pointer p, .agg #[.int .i64 k, .int .i64 t, .bool r, .int .i64 c]] w (SDone p g A ⟨k, t, r, c⟩ w) := by
  have hd := hide (sdof_ok (A := A) (e := ⟨k, t, r, c⟩) h)
  have hm := hide (smov_still (A := A) (e := ⟨k, t, r, c⟩) (by show ¬ (1 ≤ k ∧ k ≤ 4); omega))
  have HK := hide ((Kept.refl Nil w).alloc (.cells #[.int .i64 k, .int .i64 t, .bool r, .int .i64 c] 29))
  have HL := hide hL
  clear hL
  rcases h with rfl | rfl
  all_goals
    go_enter Try.func9, Try.ntmps9
    go_wp2_with fail
    go_ret
    exact .same hd.out hm.out HL.out HK.out
theorem sdo_none (h : 1 ≤ k ∧ k ≤ 4) (ht : t < 0 ∨ (A.length : Int) ≤ t) (hL : Sk w p g A) : Calls Try.prog 9 #[.pointer p, .agg #[.int .i64 k, .int .i64 t, .bool r, .int .i64 c]] w (SDone p g A ⟨k, t, r, c⟩ w) := by
  have hd := hide (sdof_none (A := A) (e := ⟨k, t, r, c⟩) h ht)
  have hm := hide (smov_err (A := A) (e := ⟨k, t, r, c⟩) (by rw [hd.out]; decide))
  have HK := hide ((Kept.refl Nil w).alloc (.cells #[.int .i64 k, .int .i64 t, .bool r, .int .i64 c] 29))
  have HL := hide hL
  have HH := hide fun W (z : Kept Nil w W) => shas_c t (decide_eq_false (show ¬ (0 ≤ t ∧ t < (A.length : Int)) by omega)) (hL.keep z)
  have b1 : decide (k < 0) = false := by simp; omega
  have b2 : decide (5 < k) = false := by simp; omega
  have b3 : (k == 0) = false := by simp; omega
  have b4 : (k == 5) = false := by simp; omega
  clear hL h ht
  go_enter Try.func9, Try.ntmps9
  go_wp2_with fail
  refine (HH.out _ HK.out).mono ?_
  rintro e w' ⟨rfl, rfl⟩
  go_wp2_with fail
  go_ret
  exact .same hd.out hm.out HL.out HK.out
/-- An event that may not be. -/
theorem sdo_not {y : Int} (hw : Wf A) (h : 1 ≤ k ∧ k ≤ 4) (ht : 0 ≤ t ∧ t < A.length) (hL : Sk w p g A) (hl : A.length ≤ 65536) (hy : swhy A k t r = y) (hy0 : y ≠ 0) : Calls Try.prog 9 #[.pointer p, .agg #[.int .i64 k, .int .i64 t, .bool r, .int .i64 c]] w (SDone p g A ⟨k, t, r, c⟩ w) := by
  have hd := hide ((sdof_why (A := A) (e := ⟨k, t, r, c⟩) h ht).trans hy)
  have hm := hide (smov_err (A := A) (e := ⟨k, t, r, c⟩) (by rw [hd.out]; exact hy0))
  have HK := hide ((Kept.refl Nil w).alloc (.cells #[.int .i64 k, .int .i64 t, .bool r, .int .i64 c] 29))
  have HL := hide hL
  have HH := hide fun W (z : Kept Nil w W) => shas_c t (decide_eq_true ht) (hL.keep z)
  have HW := hide fun W (z : Kept Nil w W) => swhy_c (r := r) (c := c) hw (hL.keep z) hl h ht
  rw [hy] at HW
  have b1 : decide (k < 0) = false := by simp; omega
  have b2 : decide (5 < k) = false := by simp; omega
  have b3 : (k == 0) = false := by simp; omega
  have b4 : (k == 5) = false := by simp; omega
  have b5 : (y != 0) = true := by simpa using hy0
  clear hL h ht hy hy0 hw
  go_enter Try.func9, Try.ntmps9
  go_wp2_with fail
  refine (HH.out _ HK.out).mono ?_
  rintro e w' ⟨rfl, rfl⟩
  go_wp2_with fail
  refine (HW.out _ HK.out).mono ?_
  rintro e w1 ⟨rfl, k1⟩
  have K1 := hide (HK.out.trans k1 (fun _ _ z => z))
  clear k1
  go_wp2_with fail
  go_ret
  exact .same hd.out hm.out HL.out K1.out
/-- An event that may be. -/
theorem sdo_yes (hw : Wf A) (h : 1 ≤ k ∧ k ≤ 4) (ht : 0 ≤ t ∧ t < A.length) (hL : Sk w p g A) (hl : A.length ≤ 65536) (hy : swhy A k t r = 0) : Calls Try.prog 9 #[.pointer p, .agg #[.int .i64 k, .int .i64 t, .bool r, .int .i64 c]] w (SDone p g A ⟨k, t, r, c⟩ w) := by
  have hd := hide ((sdof_why (A := A) (e := ⟨k, t, r, c⟩) h ht).trans hy)
  have hm := hide (smov_yes hd.out h)
  have hk0 := (Kept.refl Nil w).alloc (.cells #[.int .i64 k, .int .i64 t, .bool r, .int .i64 c] 29)
  have hi0 := Is.new w 29 #[.int .i64 k, .int .i64 t, .bool r, .int .i64 c]
  have HH := hide fun W (z : Kept Nil w W) => shas_c t (decide_eq_true ht) (hL.keep z)
  have HW := hide fun W (z : Kept Nil w W) => swhy_c (r := r) (c := c) hw (hL.keep z) hl h ht
  rw [hy] at HW
  have HA := hide fun W => safter_c W k t c r h
  have b1 : decide (k < 0) = false := by simp; omega
  have b2 : decide (5 < k) = false := by simp; omega
  have b3 : (k == 0) = false := by simp; omega
  have b4 : (k == 5) = false := by simp; omega
  obtain ⟨m, rfl⟩ : ∃ m : Nat, t = m := ⟨t.toNat, by omega⟩
  have hml : m < A.length := by omega
  rcases hL with ⟨_, rfl⟩ | ⟨b, q, cp, rfl, h1, h2⟩
  · simp at hml
  obtain ⟨rfl, h3⟩ := h2 (by omega)
  have hbg : b ≠ g := h1.ne h3 (by decide)
  have hL0 := hide (And.intro h1 h3)
  have HK := hide (And.intro hk0 hi0)
  obtain ⟨v, hv⟩ : ∃ v, afr k r = v := ⟨_, rfl⟩
  rw [hv] at HA
  have hm := hide (hm.out.trans (show A.set (m : Int).toNat (afr k r) = A.set m v by rw [hv]; rfl))
  obtain ⟨a2, d2⟩ := v
  have hset := hide (scells_set (v := (a2, d2)) hml)
  clear hk0 hi0 h1 h2 h3 h ht hy hw hv
  go_enter Try.func9, Try.ntmps9
  go_wp2_with fail
  refine (HH.out _ HK.out.1).mono ?_
  rintro e w' ⟨rfl, rfl⟩
  go_wp2_with fail
  refine (HW.out _ HK.out.1).mono ?_
  rintro e w1 ⟨rfl, k1⟩
  have K1 := hide (HK.out.1.trans k1 (fun _ _ z => z))
  have i0 := HK.out.2.kept k1 (fun z => z)
  have i1 := hL0.out.1.kept K1.out (fun z => z)
  have i2 := hL0.out.2.kept K1.out (fun z => z)
  have hx : w.heap.size ≠ g := i0.ne i2 (by decide)
  obtain ⟨Z, hZ⟩ : ∃ Z : World → Value, ∀ (W : World) v, W.cell? ⟨g, m * 2, none⟩ = some v → W.cell? ⟨g, m * 2, none⟩ = some (Z W) := ⟨fun W => (W.cell? ⟨g, m * 2, none⟩).getD undef, fun W v e => by show _ = some ((W.cell? ⟨g, m * 2, none⟩).getD undef); rw [e]; rfl⟩
  obtain ⟨Y, hY⟩ : ∃ Y : World → Value, ∀ (W : World) v, W.cell? ⟨g, m * 2 + 1, none⟩ = some v → W.cell? ⟨g, m * 2 + 1, none⟩ = some (Y W) := ⟨fun W => (W.cell? ⟨g, m * 2 + 1, none⟩).getD undef, fun W v e => by show _ = some ((W.cell? ⟨g, m * 2 + 1, none⟩).getD undef); rw [e]; rfl⟩
  have CELLS := hide fun (W : World) (z : Kept Nil w1 W) => show W.cell? ⟨w.heap.size, 0, none⟩ = some (.int .i64 k) ∧ W.cell? ⟨w.heap.size, 1, none⟩ = some (.int .i64 (m : Int)) ∧ W.cell? ⟨w.heap.size, 2, none⟩ = some (.bool r) ∧ W.cell? ⟨w.heap.size, 3, none⟩ = some (.int .i64 c) ∧ W.cell? ⟨b, 0, none⟩ = some (.slice (some ⟨g, 0, none⟩) A.length cp) ∧ W.cell? ⟨g, m * 2, none⟩ = some (Z W) ∧ W.cell? ⟨g, m * 2 + 1, none⟩ = some (Y W) ∧ W.frozen? ⟨g, m * 2, none⟩ = false ∧ W.frozen? ⟨g, m * 2 + 1, none⟩ = false from
    ⟨(i0.kept z (fun c => c)).cell 0, (i0.kept z (fun c => c)).cell 1, (i0.kept z (fun c => c)).cell 2, (i0.kept z (fun c => c)).cell 3, (i1.kept z (fun c => c)).cell 0, hZ W _ ((i2.kept z (fun c => c)).stand hml).1, hY W _ ((i2.kept z (fun c => c)).stand hml).2, (i2.kept z (fun c => c)).free (m * 2), (i2.kept z (fun c => c)).free (m * 2 + 1)⟩
  have FIN := hide fun (W : World) (z : Kept Nil w1 W) => And.intro (((i1.kept z (fun c => c)).other (p := ⟨g, m * 2, none⟩) hbg (.int .i64 a2)).other (p := ⟨g, m * 2 + 1, none⟩) hbg (.bool d2)) (And.intro (((i2.kept z (fun c => c)).set (m * 2) (.int .i64 a2)).set (m * 2 + 1) (.bool d2)) ((((K1.out.trans z (fun _ _ c => c)).more (S' := fun i => i = g ∧ 0 < A.length) (fun _ _ c => c.elim)).set (p := ⟨g, m * 2, none⟩) (fun _ => ⟨rfl, by omega⟩) (.int .i64 a2)).set (p := ⟨g, m * 2 + 1, none⟩) (fun _ => ⟨rfl, by omega⟩) (.bool d2)))
  have AFTER := hide fun (W : World) (z : Kept Nil w1 W) => show ((W.setCell ⟨g, m * 2, none⟩ (.int .i64 a2)).setCell ⟨g, m * 2 + 1, none⟩ (.bool d2)).cell? ⟨w.heap.size, 0, none⟩ = some (.int .i64 k) ∧ ((W.setCell ⟨g, m * 2, none⟩ (.int .i64 a2)).setCell ⟨g, m * 2 + 1, none⟩ (.bool d2)).cell? ⟨w.heap.size, 1, none⟩ = some (.int .i64 (m : Int)) ∧ ((W.setCell ⟨g, m * 2, none⟩ (.int .i64 a2)).setCell ⟨g, m * 2 + 1, none⟩ (.bool d2)).cell? ⟨w.heap.size, 2, none⟩ = some (.bool r) ∧ ((W.setCell ⟨g, m * 2, none⟩ (.int .i64 a2)).setCell ⟨g, m * 2 + 1, none⟩ (.bool d2)).cell? ⟨w.heap.size, 3, none⟩ = some (.int .i64 c) ∧ ((W.setCell ⟨g, m * 2, none⟩ (.int .i64 a2)).setCell ⟨g, m * 2 + 1, none⟩ (.bool d2)).cell? ⟨b, 0, none⟩ = some (.slice (some ⟨g, 0, none⟩) A.length cp) ∧ ((W.setCell ⟨g, m * 2, none⟩ (.int .i64 a2)).setCell ⟨g, m * 2 + 1, none⟩ (.bool d2)).cell? ⟨g, m * 2, none⟩ = some (Z ((W.setCell ⟨g, m * 2, none⟩ (.int .i64 a2)).setCell ⟨g, m * 2 + 1, none⟩ (.bool d2))) ∧ ((W.setCell ⟨g, m * 2, none⟩ (.int .i64 a2)).setCell ⟨g, m * 2 + 1, none⟩ (.bool d2)).cell? ⟨g, m * 2 + 1, none⟩ = some (Y ((W.setCell ⟨g, m * 2, none⟩ (.int .i64 a2)).setCell ⟨g, m * 2 + 1, none⟩ (.bool d2))) ∧ ((W.setCell ⟨g, m * 2, none⟩ (.int .i64 a2)).setCell ⟨g, m * 2 + 1, none⟩ (.bool d2)).frozen? ⟨g, m * 2, none⟩ = false ∧ ((W.setCell ⟨g, m * 2, none⟩ (.int .i64 a2)).setCell ⟨g, m * 2 + 1, none⟩ (.bool d2)).frozen? ⟨g, m * 2 + 1, none⟩ = false from by
    have j0 := ((i0.kept z (fun c => c)).other (p := ⟨g, m * 2, none⟩) hx (.int .i64 a2)).other (p := ⟨g, m * 2 + 1, none⟩) hx (.bool d2)
    obtain ⟨j1, j2, _⟩ := FIN.out W z
    have hsz := scells_len A
    refine ⟨j0.cell 0, j0.cell 1, j0.cell 2, j0.cell 3, j1.cell 0, hZ _ (.int .i64 a2) ((j2.cell (m * 2)).trans ?_), hY _ (.bool d2) ((j2.cell (m * 2 + 1)).trans ?_), j2.free (m * 2), j2.free (m * 2 + 1)⟩
    · rw [Array.getElem?_setIfInBounds_ne (by omega), Array.getElem?_setIfInBounds_self_of_lt (by simp; omega)]
    · rw [Array.getElem?_setIfInBounds_self_of_lt (by simp; omega)]
  have c1 := hide fun (W : World) (z : Kept Nil w1 W) => (HA.out W).mono (R' := fun e w' => e = .returned (.agg #[.int .i64 a2, .bool d2]) ∧ Kept Nil w1 w') fun e w' ⟨h1, h2⟩ => ⟨h1, z.trans h2 (fun _ _ c => c)⟩
  have hK : Kept Nil w1 w1.drew := (Kept.refl _ w1).drew
  clear k1 i0 i1 i2 hZ hY
  go_wp2_with fail
  go_region_held3 (fun W => W.cell? ⟨w.heap.size, 0, none⟩ = some (.int .i64 k) ∧ W.cell? ⟨w.heap.size, 1, none⟩ = some (.int .i64 (m : Int)) ∧ W.cell? ⟨w.heap.size, 2, none⟩ = some (.bool r) ∧ W.cell? ⟨w.heap.size, 3, none⟩ = some (.int .i64 c) ∧ W.cell? ⟨b, 0, none⟩ = some (.slice (some ⟨g, 0, none⟩) A.length cp) ∧ W.cell? ⟨g, m * 2, none⟩ = some (Z W) ∧ W.cell? ⟨g, m * 2 + 1, none⟩ = some (Y W) ∧ W.frozen? ⟨g, m * 2, none⟩ = false ∧ W.frozen? ⟨g, m * 2 + 1, none⟩ = false)
    (first | exact CELLS.out _ (by assumption) | exact CELLS.out _ (Kept.drew (by assumption)) | exact AFTER.out _ (by assumption))
    ((go_at_call 25; refine (c1.out _ (by assumption)).mono ?_; rintro e w2 ⟨rfl, hk1⟩))
  have HF := hide (FIN.out _ hk1)
  clear hk1 CELLS AFTER c1
  go_wp2_with fail
  go_ret
  refine ⟨by rw [hd.out]; rfl, .inr ⟨b, _, cp, rfl, ?_, fun _ => ⟨rfl, ?_⟩⟩, HF.out.2.2⟩
  · rw [smov_len]
    exact HF.out.1
  · have := HF.out.2.1
    rw [hm.out, hset.out]
    simpa using this
/-- Do. -/
theorem sdo_c (e : Ev) (hw : Wf A) (hL : Sk w p g A) (hl : A.length ≤ 65536) : Calls Try.prog 9 #[.pointer p, .agg #[.int .i64 e.k, .int .i64 e.t, .bool e.r, .int .i64 e.c]] w (SDone p g A e w) := by
  obtain ⟨k, t, r, c⟩ := e
  by_cases h : k < 0 ∨ 5 < k
  · exact sdo_kind h hL
  · by_cases h1 : k = 0 ∨ k = 5
    · exact sdo_ok h1 hL
    · have hk : 1 ≤ k ∧ k ≤ 4 := by omega
      by_cases h2 : t < 0 ∨ (A.length : Int) ≤ t
      · exact sdo_none hk h2 hL
      · have h4 : 0 ≤ t ∧ t < (A.length : Int) := by omega
        by_cases h3 : swhy A k t r = 0
        · exact sdo_yes hw hk h4 hL hl h3
        · exact sdo_not hw hk h4 hL hl rfl h3
end
end Go.Proofs.Ytmmncaabeiagaaa
