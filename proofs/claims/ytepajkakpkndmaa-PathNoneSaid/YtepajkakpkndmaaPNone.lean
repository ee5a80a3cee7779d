/- The law PathNone, walked: of nil and of a zero table nothing is told. -/
import Derived.Test.YtepajkakpkndmaaPAwake
namespace Go.Proofs.Ytepajkakpkndmaa
open Go.RowKit
set_option maxRecDepth 100000

/-- Nil, or the zero table. -/
def NT (p : Option Addr) (a : Nat) : Prop := p = none ∨ p = some ⟨a, 0, none⟩
/-- The zero table since world w. -/
structure Zt (w W : World) (a : Nat) : Prop where
  tab : PTab W (.pointer (some ⟨a, 0, none⟩)) [] [] []
  kept : Kept Nil w W
  new : w.heap.size ≤ a
section
variable {w W W' : World} {a : Nat} {p : Option Addr}
theorem Zt.any (h : Zt w W a) (hp : NT p a) : PTab W (.pointer p) [] [] [] := by
  rcases hp with rfl | rfl
  · exact .inl ⟨rfl, rfl, rfl, rfl⟩
  · exact h.tab
theorem Zt.later (h : Zt w W a) (k : Kept Nil W W') : Zt w W' a := ⟨h.tab.keep k, h.kept.trans k (fun _ _ z => z), h.new⟩
theorem Zt.step (h : Zt w W a) (hp : NT p a) (t : PTab W' (.pointer p) [] [] []) (k : Kept (Mine (.pointer p)) W W') : Zt w W' a := by
  rcases hp with rfl | rfl
  · exact h.later (k.more fun i _ e => by cases e)
  · refine ⟨t, h.kept.trans k (fun i hi e => ?_), h.new⟩
    unfold Mine at e
    injection e with e
    injection e with e
    injection e with e
    have := h.new
    omega
theorem no_thread (a : Int) : ¬ (0 ≤ a ∧ a < (([] : List Int).length : Nat)) := by simp
theorem upT_nil (a : Int) : upT [] [] a = [] := upT_no (no_thread a)
theorem nodesN (hp : NT p a) (h : Zt w W a) : Calls Try.prog 10 #[.pointer p] W fun e w' => e = .returned (.int .i64 0) ∧ Zt w w' a := (nodes_c (h.any hp)).mono fun _ _ ⟨h1, h2⟩ => ⟨h1, h2 ▸ h⟩
theorem threadsN (hp : NT p a) (h : Zt w W a) : Calls Try.prog 14 #[.pointer p] W fun e w' => e = .returned (.int .i64 0) ∧ Zt w w' a := (threads_c (h.any hp)).mono fun _ _ ⟨h1, h2⟩ => ⟨h1, h2 ▸ h⟩
theorem nodeN (x : Int) (hp : NT p a) (h : Zt w W a) : Calls Try.prog 13 #[.pointer p, .int .i64 x] W fun e w' => e = .returned (.int .i64 (-1)) ∧ Zt w w' a :=
  (node_c (m := -1) x (by unfold nodeT; rw [if_neg (no_thread x)]) (h.any hp)).mono fun _ _ ⟨h1, q, h2⟩ => ⟨h1, by rw [h2]; exact h.later ((Kept.refl Nil W).drewN q)⟩
theorem slotN (x : Int) (hp : NT p a) (h : Zt w W a) : Calls Try.prog 12 #[.pointer p, .int .i64 x] W fun e w' => e = .returned (.int .i64 (-1)) ∧ Zt w w' a :=
  (slot_c (m := -1) x (by unfold slotT; rw [if_neg (no_thread x)]) (h.any hp)).mono fun _ _ ⟨h1, q, h2⟩ => ⟨h1, by rw [h2]; exact h.later ((Kept.refl Nil W).drewN q)⟩
theorem matesN (x : Int) (hp : NT p a) (h : Zt w W a) : Calls Try.prog 11 #[.pointer p, .int .i64 x] W fun e w' => e = .returned (.int .i64 0) ∧ Zt w w' a :=
  (mates_c (m := 0) x (by unfold matesT; rw [if_neg (no_thread x)]) (h.any hp)).mono fun _ _ ⟨h1, q, h2⟩ => ⟨h1, by rw [h2]; exact h.later ((Kept.refl Nil W).drewN q)⟩
theorem upN (x : Int) (hp : NT p a) (h : Zt w W a) : Calls Try.prog 17 #[.pointer p, .int .i64 x] W fun e w' => ∃ A c, e = .returned (.slice A 0 c) ∧ Zt w w' a :=
  (Up_c x (upT_nil x) (h.any hp)).mono fun _ _ ⟨A, c, h1, _, h3, h4⟩ => ⟨A, c, h1, h.step hp h3 h4⟩
theorem farN (x y : Int) (hp : NT p a) (h : Zt w W a) : Calls Try.prog 15 #[.pointer p, .int .i64 x, .int .i64 y] W fun e w' => e = .returned (.int .i64 (-1)) ∧ Zt w w' a :=
  (far_c (m := -1) x y (by unfold farT; rw [upT_nil x]; rfl) (h.any hp)).mono fun _ _ ⟨h1, h2, h3⟩ => ⟨h1, h.step hp h2 h3⟩
theorem meetN (x y : Int) (hp : NT p a) (h : Zt w W a) : Calls Try.prog 16 #[.pointer p, .int .i64 x, .int .i64 y] W fun e w' => e = .returned (.int .i64 (-1)) ∧ Zt w w' a :=
  (meet_c (m := -1) x y (by unfold meetT; rw [if_pos]; unfold farT; rw [upT_nil x]; rfl) (h.any hp)).mono fun _ _ ⟨h1, h2, h3⟩ => ⟨h1, h.step hp h2 h3⟩
theorem topologyN (hp : NT p a) (h : Zt w W a) : Calls Try.prog 18 #[.pointer p] W fun e w' => ∃ A0 c0 A1 c1, e = .returned (.agg #[.slice A0 0 c0, .slice A1 0 c1]) ∧ Zt w w' a :=
  (topology_c (h.any hp)).mono fun _ _ ⟨v', h1, ⟨A0, c0, A1, c1, h2, _⟩, h6⟩ => ⟨A0, c0, A1, c1, by rw [h1, h2]; rfl, h.later h6⟩
theorem zero_tab (w : World) : Zt w (w.alloc (.cells #[.slice none 0 0, .slice none 0 0, .slice none 0 0, .int .u32 0, .int .i32 0, .int .u32 0, .slice none 0 0] 50)) w.heap.size :=
  ⟨.inr ⟨_, rfl, none, none, none, 0, 0, 0, 0, .slice none 0 0, Is.new w 50 _, Nums.nil _ _ _, Nums.nil _ _ _, Nums.nil _ _ _, .inl ⟨rfl, rfl, rfl⟩, Nat.le_refl _, .inl ⟨rfl, rfl⟩⟩, (Kept.refl Nil w).alloc _, Nat.le_refl _⟩
theorem tpick_0 (x y : Option Addr) (w : World) : (Instr.index 51 (.agg #[.pointer x, .pointer y]) (.int .i64 0)).run Try.prog w = .ok (.pointer x) w := by kernel_rfl
theorem tpick_1 (x y : Option Addr) (w : World) : (Instr.index 51 (.agg #[.pointer x, .pointer y]) (.int .i64 1)).run Try.prog w = .ok (.pointer y) w := by kernel_rfl

theorem field_par (A B : Option Addr) (n c m d : Nat) (w : World) : (Instr.field 24 (.agg #[.slice A n c, .slice B m d]) 0).run Try.prog w = .ok (.slice A n c) w := by kernel_rfl

set_option maxHeartbeats 2000000
theorem none_walk (x y : Int) (w : World) : Calls Try.prog 5 #[.int .i64 x, .int .i64 y] w fun e w' => e = .returned (.bool true) ∧ Kept Nil w w' := by
  have HR0 := hide (zero_tab w)
  go_enter Try.func5, Try.ntmps5
  go_wp2_with fail
  obtain ⟨a, ha⟩ : ∃ a, w.heap.size = a := ⟨_, rfl⟩
  rw [ha] at HR0 ⊢
  clear ha
  go_loopw [14] (fun i wr => ∃ k : Nat, k ≤ 2 ∧ i = .int .i64 k ∧ Zt w wr a) (fun i _ => 2 - (intOf i).toNat)
  case atStart => exact ⟨0, by omega, rfl, HR0.out⟩
  case round =>
    obtain ⟨k, hk, rfl, hrf⟩ := hrel
    have HR := hide hrf
    clear hrf HR0
    rcases (show k = 0 ∨ k = 1 ∨ k = 2 by omega) with rfl | rfl | rfl
    · have hnp : NT none a := .inl rfl
      have hix := tpick_0 none (some ⟨a, 0, none⟩) wr
      have HNP2 := hide hnp
      clear hnp
      go_wp2_with fail
      refine (nodesN HNP2.out HR.out).mono ?_
      rintro e w0 ⟨rfl, h0⟩
      have H0 := hide h0
      clear h0 HR
      go_wp2_with fail
      refine (threadsN HNP2.out H0.out).mono ?_
      rintro e w1 ⟨rfl, h1⟩
      have H1 := hide h1
      clear h1 H0
      go_wp2_with fail
      refine (nodeN x HNP2.out H1.out).mono ?_
      rintro e w2 ⟨rfl, h2⟩
      have H2 := hide h2
      clear h2 H1
      go_wp2_with fail
      refine (slotN x HNP2.out H2.out).mono ?_
      rintro e w3 ⟨rfl, h3⟩
      have H3 := hide h3
      clear h3 H2
      go_wp2_with fail
      refine (matesN x HNP2.out H3.out).mono ?_
      rintro e w4 ⟨rfl, h4⟩
      have H4 := hide h4
      clear h4 H3
      go_wp2_with fail
      refine (upN x HNP2.out H4.out).mono ?_
      rintro e w5 ⟨A5, c5, rfl, h5⟩
      have H5 := hide h5
      clear h5 H4
      go_wp2_with fail
      refine (farN x y HNP2.out H5.out).mono ?_
      rintro e w6 ⟨rfl, h6⟩
      have H6 := hide h6
      clear h6 H5
      go_wp2_with fail
      refine (meetN x y HNP2.out H6.out).mono ?_
      rintro e w7 ⟨rfl, h7⟩
      have H7 := hide h7
      clear h7 H6
      go_wp2_with fail
      refine (topologyN HNP2.out H7.out).mono ?_
      rintro e w8 ⟨A8, c8, B8, d8, rfl, h8⟩
      have H8 := hide h8
      clear h8 H7
      have hfl := field_par A8 B8 0 c8 0 d8 w8
      go_wp2_with fail
      go_roundw
      case rel => exact ⟨1, by omega, by go_num, H8.out⟩
      case measure => simp [intOf]
    · have hnp : NT (some ⟨a, 0, none⟩) a := .inr rfl
      have hix := tpick_1 none (some ⟨a, 0, none⟩) wr
      have HNP2 := hide hnp
      clear hnp
      go_wp2_with fail
      refine (nodesN HNP2.out HR.out).mono ?_
      rintro e w0 ⟨rfl, h0⟩
      have H0 := hide h0
      clear h0 HR
      go_wp2_with fail
      refine (threadsN HNP2.out H0.out).mono ?_
      rintro e w1 ⟨rfl, h1⟩
      have H1 := hide h1
      clear h1 H0
      go_wp2_with fail
      refine (nodeN x HNP2.out H1.out).mono ?_
      rintro e w2 ⟨rfl, h2⟩
      have H2 := hide h2
      clear h2 H1
      go_wp2_with fail
      refine (slotN x HNP2.out H2.out).mono ?_
      rintro e w3 ⟨rfl, h3⟩
      have H3 := hide h3
      clear h3 H2
      go_wp2_with fail
      refine (matesN x HNP2.out H3.out).mono ?_
      rintro e w4 ⟨rfl, h4⟩
      have H4 := hide h4
      clear h4 H3
      go_wp2_with fail
      refine (upN x HNP2.out H4.out).mono ?_
      rintro e w5 ⟨A5, c5, rfl, h5⟩
      have H5 := hide h5
      clear h5 H4
      go_wp2_with fail
      refine (farN x y HNP2.out H5.out).mono ?_
      rintro e w6 ⟨rfl, h6⟩
      have H6 := hide h6
      clear h6 H5
      go_wp2_with fail
      refine (meetN x y HNP2.out H6.out).mono ?_
      rintro e w7 ⟨rfl, h7⟩
      have H7 := hide h7
      clear h7 H6
      go_wp2_with fail
      refine (topologyN HNP2.out H7.out).mono ?_
      rintro e w8 ⟨A8, c8, B8, d8, rfl, h8⟩
      have H8 := hide h8
      clear h8 H7
      have hfl := field_par A8 B8 0 c8 0 d8 w8
      go_wp2_with fail
      go_roundw
      case rel => exact ⟨2, by omega, by go_num, H8.out⟩
      case measure => simp [intOf]
    · go_wp2_with fail
      refine (awake_c wr).mono ?_
      rintro e w2 ⟨rfl, h2⟩
      have H2 := hide (HR.out.kept.trans h2 (fun _ _ z => z))
      clear h2
      go_wp2_with fail
      go_ret
      exact ⟨rfl, H2.out⟩
end
end Go.Proofs.Ytepajkakpkndmaa
