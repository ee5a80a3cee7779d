/- The law SharedNone, walked. wip/tools/genshared.py wrote it. -/
import Derived.Test.YtmmncaabeiagaaaHLaws
namespace Go.Proofs.Ytmmncaabeiagaaa
open Go.RowKit
set_option maxRecDepth 100000

section
variable {w : World}
set_option maxHeartbeats 4000000
theorem sthree_0 (x y z : Option Addr) (w : World) : (Instr.index 37 (.agg #[.pointer x, .pointer y, .pointer z]) (.int .i64 0)).run Try.prog w = .ok (.pointer x) w := by kernel_rfl
theorem sthree_1 (x y z : Option Addr) (w : World) : (Instr.index 37 (.agg #[.pointer x, .pointer y, .pointer z]) (.int .i64 1)).run Try.prog w = .ok (.pointer y) w := by kernel_rfl
theorem sthree_2 (x y z : Option Addr) (w : World) : (Instr.index 37 (.agg #[.pointer x, .pointer y, .pointer z]) (.int .i64 2)).run Try.prog w = .ok (.pointer z) w := by kernel_rfl
theorem sds_none (l : List Ev) : sds (um 0) l = [] := rfl
theorem sk_zero {b : Nat} (h : Is w b 36 #[.slice none 0 0]) : Sk w (some ⟨b, 0, none⟩) 0 [] := .inr ⟨b, none, 0, rfl, h, fun z => absurd z (by decide)⟩
theorem SDone.still {p : Option Addr} {g : Nat} {e : Ev} {x : Ending} {w' : World} (h : SDone p g [] e w x w') : x = .returned (.int .i64 (sdof [] e)) ∧ Kept Nil w w' := ⟨h.1, h.2.2.more (fun _ _ z => absurd z.2 (by decide))⟩
theorem snone_c (e : Ev) (t : Int) : Calls Try.prog 4 #[.agg #[.int .i64 e.k, .int .i64 e.t, .bool e.r, .int .i64 e.c], .int .i64 t] w fun x w' => x = .returned (.bool true) ∧ Kept Nil w w' := by
  obtain ⟨W1, hW1⟩ : ∃ W1, (w.alloc (.cells #[.int .i64 e.k, .int .i64 e.t, .bool e.r, .int .i64 e.c] 29)).alloc (.cells #[.slice none 0 0] 36) = W1 := ⟨_, rfl⟩
  have hk1 : Kept Nil w W1 := by rw [← hW1]; exact ((Kept.refl Nil w).alloc _).alloc _
  have hi0 : Is W1 w.heap.size 29 #[.int .i64 e.k, .int .i64 e.t, .bool e.r, .int .i64 e.c] := by rw [← hW1]; exact (Is.new w _ _).alloc _
  have hi1 : Is W1 (w.heap.size + 1) 36 #[.slice none 0 0] := by rw [← hW1]; exact new_second
  have H0 := hide (And.intro hk1 (And.intro hi0 (sk_zero hi1)))
  have D1 := hide fun W p g (h : Sk W p g []) => (sdo_c e (fun _ z => by cases z) h (by decide)).mono fun _ _ h => h.still
  have D2 := hide fun W => hrdo_c (w := W) (k := e.k) (t := e.t) (r := e.r) (c := e.c) 0 (Evs.nil W none 0) (by decide)
  have D3 := hide fun W p g (h : Sk W p g []) => swriter_c h (by decide)
  have D4 := hide fun W p g (h : Sk W p g []) => sreaders_c h (by decide)
  have D5 := hide fun W p g (h : Sk W p g []) => sstate_c t h
  unfold SRDone at D2
  rw [sds_none] at D2
  have D2 : Hid (∀ W, Calls Try.prog 13 #[.int .i64 0, .slice none 0 0, .agg #[.int .i64 e.k, .int .i64 e.t, .bool e.r, .int .i64 e.c]] W fun x w' => x = .returned (.int .i64 (sdof [] e)) ∧ Kept Nil W w') := D2
  rw [show ssta [] t = (0, false) from ssta_out (by simp)] at D5
  rw [show wri [] = -1 from rfl] at D3
  rw [show ((rdn [] : Nat) : Int) = 0 from rfl] at D4
  generalize sdof [] e = d at *
  generalize hek : e.k = ek at *
  generalize het : e.t = et at *
  generalize her : e.r = er at *
  generalize hec : e.c = ec at *
  clear hek het her hec
  clear hi0 hi1 hk1
  go_enter Try.func4, Try.ntmps4
  go_wp2_with fail
  refine (snewF (Kept.refl Nil W1) (-1)).mono ?_
  rintro x w1 ⟨p, g, rfl, h, _⟩
  have h : Sf W1 w1 p g [] := h
  have H1 := hide (And.intro (H0.out.1.trans h.kept (fun _ _ z => z)) (And.intro (H0.out.2.1.kept h.kept (fun z => z)) (And.intro (H0.out.2.2.keep h.kept) h.lk)))
  clear h H0 hW1
  have CELLS := hide fun (W : World) (z : Kept Nil w1 W) => show W.cell? ⟨w.heap.size, 0, none⟩ = some (.int .i64 ek) ∧ W.cell? ⟨w.heap.size, 1, none⟩ = some (.int .i64 et) ∧ W.cell? ⟨w.heap.size, 2, none⟩ = some (.bool er) ∧ W.cell? ⟨w.heap.size, 3, none⟩ = some (.int .i64 ec) from
    ⟨(H1.out.2.1.kept z (fun c => c)).cell 0, (H1.out.2.1.kept z (fun c => c)).cell 1, (H1.out.2.1.kept z (fun c => c)).cell 2, (H1.out.2.1.kept z (fun c => c)).cell 3⟩
  have LK0 := hide (show Sk w1 none 0 [] from .inl ⟨rfl, rfl⟩)
  go_wp2_with fail
  go_loopw [15] (fun i wr => ∃ k : Nat, k ≤ 3 ∧ i = .int .i64 k ∧ Kept Nil w1 wr) (fun i _ => 3 - (intOf i).toNat)
  case atStart => exact ⟨0, by omega, rfl, Kept.refl _ _⟩
  case round =>
    obtain ⟨k, hk, rfl, hkp⟩ := hrel
    have HK := hide hkp
    clear hkp
    rcases (show k = 0 ∨ k = 1 ∨ k = 2 ∨ k = 3 by omega) with rfl | rfl | rfl | rfl
    · have LK := hide (LK0.out)
      have hix := sthree_0 none (some ⟨w.heap.size + 1, 0, none⟩) p wr
      have E1 := hide fun W (z : Kept Nil w1 W) => (D1.out W _ _ (LK.out.keep z)).mono (R' := fun x w' => x = .returned (.int .i64 d) ∧ Kept Nil w1 w') fun x w' ⟨h1, h2⟩ => ⟨h1, z.trans h2 (fun _ _ c => c)⟩
      have E2 := hide fun W (z : Kept Nil w1 W) => (D2.out W).mono (R' := fun x w' => x = .returned (.int .i64 d) ∧ Kept Nil w1 w') fun x w' ⟨h1, h2⟩ => ⟨h1, z.trans h2 (fun _ _ c => c)⟩
      have E3 := hide fun W (z : Kept Nil w1 W) => (D3.out W _ _ (LK.out.keep z)).mono (R' := fun x w' => x = .returned (.int .i64 (-1)) ∧ Kept Nil w1 w') fun x w' ⟨h1, h2⟩ => ⟨h1, z.trans h2 (fun _ _ c => c)⟩
      have E4 := hide fun W (z : Kept Nil w1 W) => (D4.out W _ _ (LK.out.keep z)).mono (R' := fun x w' => x = .returned (.int .i64 0) ∧ Kept Nil w1 w') fun x w' ⟨h1, h2⟩ => ⟨h1, z.trans h2 (fun _ _ c => c)⟩
      have E5 := hide (D5.out wr _ _ (LK.out.keep HK.out))
      go_wp2_with fail
      refine E5.out.mono ?_
      rintro x w2 ⟨rfl, h2⟩
      have hK : Kept Nil w1 w2.drew := (HK.out.trans h2 (fun _ _ z => z)).drew
      clear h2
      go_wp2_with fail
      go_region_held3 (fun W => W.cell? ⟨w.heap.size, 0, none⟩ = some (.int .i64 ek) ∧ W.cell? ⟨w.heap.size, 1, none⟩ = some (.int .i64 et) ∧ W.cell? ⟨w.heap.size, 2, none⟩ = some (.bool er) ∧ W.cell? ⟨w.heap.size, 3, none⟩ = some (.int .i64 ec))
        (first | exact CELLS.out _ (by assumption) | exact CELLS.out _ (Kept.drew (by assumption)))
        (first
          | (go_at_call 9; refine (E1.out _ (by assumption)).mono ?_; rintro x v1 ⟨rfl, g1⟩)
          | (go_at_call 13; refine (E2.out _ (by assumption)).mono ?_; rintro x v2 ⟨rfl, g2⟩)
          | (go_at_call 12; refine (E3.out _ (by assumption)).mono ?_; rintro x v3 ⟨rfl, g3⟩)
          | (go_at_call 11; refine (E4.out _ (by assumption)).mono ?_; rintro x v4 ⟨rfl, g4⟩))
      all_goals
        have HG := hide g4
        clear g1 g2 g3 g4
        go_wp2_with fail
        go_roundw
        case rel => exact ⟨1, by omega, by go_num, HG.out⟩
        case measure => simp [intOf]
    · have LK := hide (H1.out.2.2.1)
      have hix := sthree_1 none (some ⟨w.heap.size + 1, 0, none⟩) p wr
      have E1 := hide fun W (z : Kept Nil w1 W) => (D1.out W _ _ (LK.out.keep z)).mono (R' := fun x w' => x = .returned (.int .i64 d) ∧ Kept Nil w1 w') fun x w' ⟨h1, h2⟩ => ⟨h1, z.trans h2 (fun _ _ c => c)⟩
      have E2 := hide fun W (z : Kept Nil w1 W) => (D2.out W).mono (R' := fun x w' => x = .returned (.int .i64 d) ∧ Kept Nil w1 w') fun x w' ⟨h1, h2⟩ => ⟨h1, z.trans h2 (fun _ _ c => c)⟩
      have E3 := hide fun W (z : Kept Nil w1 W) => (D3.out W _ _ (LK.out.keep z)).mono (R' := fun x w' => x = .returned (.int .i64 (-1)) ∧ Kept Nil w1 w') fun x w' ⟨h1, h2⟩ => ⟨h1, z.trans h2 (fun _ _ c => c)⟩
      have E4 := hide fun W (z : Kept Nil w1 W) => (D4.out W _ _ (LK.out.keep z)).mono (R' := fun x w' => x = .returned (.int .i64 0) ∧ Kept Nil w1 w') fun x w' ⟨h1, h2⟩ => ⟨h1, z.trans h2 (fun _ _ c => c)⟩
      have E5 := hide (D5.out wr _ _ (LK.out.keep HK.out))
      go_wp2_with fail
      refine E5.out.mono ?_
      rintro x w2 ⟨rfl, h2⟩
      have hK : Kept Nil w1 w2.drew := (HK.out.trans h2 (fun _ _ z => z)).drew
      clear h2
      go_wp2_with fail
      go_region_held3 (fun W => W.cell? ⟨w.heap.size, 0, none⟩ = some (.int .i64 ek) ∧ W.cell? ⟨w.heap.size, 1, none⟩ = some (.int .i64 et) ∧ W.cell? ⟨w.heap.size, 2, none⟩ = some (.bool er) ∧ W.cell? ⟨w.heap.size, 3, none⟩ = some (.int .i64 ec))
        (first | exact CELLS.out _ (by assumption) | exact CELLS.out _ (Kept.drew (by assumption)))
        (first
          | (go_at_call 9; refine (E1.out _ (by assumption)).mono ?_; rintro x v1 ⟨rfl, g1⟩)
          | (go_at_call 13; refine (E2.out _ (by assumption)).mono ?_; rintro x v2 ⟨rfl, g2⟩)
          | (go_at_call 12; refine (E3.out _ (by assumption)).mono ?_; rintro x v3 ⟨rfl, g3⟩)
          | (go_at_call 11; refine (E4.out _ (by assumption)).mono ?_; rintro x v4 ⟨rfl, g4⟩))
      all_goals
        have HG := hide g4
        clear g1 g2 g3 g4
        go_wp2_with fail
        go_roundw
        case rel => exact ⟨2, by omega, by go_num, HG.out⟩
        case measure => simp [intOf]
    · have LK := hide (H1.out.2.2.2)
      have hix := sthree_2 none (some ⟨w.heap.size + 1, 0, none⟩) p wr
      have E1 := hide fun W (z : Kept Nil w1 W) => (D1.out W _ _ (LK.out.keep z)).mono (R' := fun x w' => x = .returned (.int .i64 d) ∧ Kept Nil w1 w') fun x w' ⟨h1, h2⟩ => ⟨h1, z.trans h2 (fun _ _ c => c)⟩
      have E2 := hide fun W (z : Kept Nil w1 W) => (D2.out W).mono (R' := fun x w' => x = .returned (.int .i64 d) ∧ Kept Nil w1 w') fun x w' ⟨h1, h2⟩ => ⟨h1, z.trans h2 (fun _ _ c => c)⟩
      have E3 := hide fun W (z : Kept Nil w1 W) => (D3.out W _ _ (LK.out.keep z)).mono (R' := fun x w' => x = .returned (.int .i64 (-1)) ∧ Kept Nil w1 w') fun x w' ⟨h1, h2⟩ => ⟨h1, z.trans h2 (fun _ _ c => c)⟩
      have E4 := hide fun W (z : Kept Nil w1 W) => (D4.out W _ _ (LK.out.keep z)).mono (R' := fun x w' => x = .returned (.int .i64 0) ∧ Kept Nil w1 w') fun x w' ⟨h1, h2⟩ => ⟨h1, z.trans h2 (fun _ _ c => c)⟩
      have E5 := hide (D5.out wr _ _ (LK.out.keep HK.out))
      go_wp2_with fail
      refine E5.out.mono ?_
      rintro x w2 ⟨rfl, h2⟩
      have hK : Kept Nil w1 w2.drew := (HK.out.trans h2 (fun _ _ z => z)).drew
      clear h2
      go_wp2_with fail
      go_region_held3 (fun W => W.cell? ⟨w.heap.size, 0, none⟩ = some (.int .i64 ek) ∧ W.cell? ⟨w.heap.size, 1, none⟩ = some (.int .i64 et) ∧ W.cell? ⟨w.heap.size, 2, none⟩ = some (.bool er) ∧ W.cell? ⟨w.heap.size, 3, none⟩ = some (.int .i64 ec))
        (first | exact CELLS.out _ (by assumption) | exact CELLS.out _ (Kept.drew (by assumption)))
        (first
          | (go_at_call 9; refine (E1.out _ (by assumption)).mono ?_; rintro x v1 ⟨rfl, g1⟩)
          | (go_at_call 13; refine (E2.out _ (by assumption)).mono ?_; rintro x v2 ⟨rfl, g2⟩)
          | (go_at_call 12; refine (E3.out _ (by assumption)).mono ?_; rintro x v3 ⟨rfl, g3⟩)
          | (go_at_call 11; refine (E4.out _ (by assumption)).mono ?_; rintro x v4 ⟨rfl, g4⟩))
      all_goals
        have HG := hide g4
        clear g1 g2 g3 g4
        go_wp2_with fail
        go_roundw
        case rel => exact ⟨3, by omega, by go_num, HG.out⟩
        case measure => simp [intOf]
    · have HA := hide (sawake_c wr)
      go_wp2_with fail
      refine HA.out.mono ?_
      rintro x w9 ⟨rfl, h9⟩
      have H9 := hide (H1.out.1.trans (HK.out.trans h9 (fun _ _ z => z)) (fun _ _ z => z))
      clear h9
      go_wp2_with fail
      go_ret
      exact ⟨rfl, H9.out⟩
end
end Go.Proofs.Ytmmncaabeiagaaa
