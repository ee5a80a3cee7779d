/- The laws' helpers two and awake; the table beside the law's own memory. -/
import Derived.Test.YtepajkakpkndmaaPUp
import Derived.Test.YtepajkakpkndmaaPRefsB
namespace Go.Proofs.Ytepajkakpkndmaa
open Go.RowKit
set_option maxRecDepth 100000

/-- The table that New has laid since world w; nothing older has turned. -/
structure Lw (w W : World) (b : Nat) (P T : List Int) : Prop where
  tab : PTab W (.pointer (some ⟨b, 0, none⟩)) P T (lf P)
  kept : Kept Nil w W
  new : w.heap.size ≤ b

section
variable {w W W' : World} {b : Nat} {P T : List Int} {v : Value}
theorem Lw.later (h : Lw w W b P T) (k : Kept Nil W W') : Lw w W' b P T := ⟨h.tab.keep k, h.kept.trans k (fun _ _ z => z), h.new⟩
theorem Lw.step (h : Lw w W b P T) (t : PTab W' (.pointer (some ⟨b, 0, none⟩)) P T (lf P)) (k : Kept (Mine (.pointer (some ⟨b, 0, none⟩))) W W') : Lw w W' b P T :=
  ⟨t, h.kept.trans k (fun i hi e => by
    unfold Mine at e
    injection e with e
    injection e with e
    injection e with e
    have := h.new
    omega), h.new⟩
theorem Lw.start {p : Value} {e : Int} (hp : (chk P T = 0 ∧ ∃ b, p = .pointer (some ⟨b, 0, none⟩) ∧ w.heap.size ≤ b ∧ Tab W b P T (lf P)) ∨ (chk P T ≠ 0 ∧ p = .pointer none)) (hk : Kept Nil w W) (he : chk P T = e) (h0 : e = 0) : ∃ b, p = .pointer (some ⟨b, 0, none⟩) ∧ Lw w W b P T := by
  rcases hp with ⟨_, b, h1, h2, h3⟩ | ⟨h1, _⟩
  · exact ⟨b, h1, .inr ⟨b, rfl, h3⟩, hk, h2⟩
  · exact absurd (he.trans h0) h1
theorem newA (hv : Topo w v P T) (h0 : chk P T = 0) : Calls Try.prog 7 #[v] w fun e w' => ∃ b, e = .returned (.tuple #[.pointer (some ⟨b, 0, none⟩), .int .i64 0]) ∧ Lw w w' b P T :=
  (new_c hv).mono fun e w' ⟨p, h1, h2, h3⟩ => by
    obtain ⟨b, rfl, h4⟩ := Lw.start h3 h2 rfl h0
    exact ⟨b, by rw [h1, h0], h4⟩
theorem newB {z : Int} (hv : Topo w v P T) (hz : chk P T = z) (h0 : z ≠ 0) : Calls Try.prog 7 #[v] w fun e w' => e = .returned (.tuple #[.pointer none, .int .i64 z]) ∧ Kept Nil w w' :=
  (new_c hv).mono fun e w' ⟨p, h1, h2, h3⟩ => by
    rcases h3 with ⟨h4, _⟩ | ⟨_, rfl⟩
    · exact absurd (hz.symm.trans h4) h0
    · exact ⟨by rw [h1, hz], h2⟩
theorem nodesL {m : Int} (hm : ((lf P).length : Int) = m) (h : Lw w W b P T) : Calls Try.prog 10 #[.pointer (some ⟨b, 0, none⟩)] W fun e w' => e = .returned (.int .i64 m) ∧ Lw w w' b P T :=
  (nodes_c h.tab).mono fun _ _ ⟨h1, h2⟩ => ⟨by rw [h1, hm], h2 ▸ h⟩
theorem threadsL {m : Int} (hm : (T.length : Int) = m) (h : Lw w W b P T) : Calls Try.prog 14 #[.pointer (some ⟨b, 0, none⟩)] W fun e w' => e = .returned (.int .i64 m) ∧ Lw w w' b P T :=
  (threads_c h.tab).mono fun _ _ ⟨h1, h2⟩ => ⟨by rw [h1, hm], h2 ▸ h⟩
theorem nodeL {m : Int} (a : Int) (hm : nodeT (lf P) T a = m) (h : Lw w W b P T) : Calls Try.prog 13 #[.pointer (some ⟨b, 0, none⟩), .int .i64 a] W fun e w' => e = .returned (.int .i64 m) ∧ Lw w w' b P T :=
  (node_c a hm h.tab).mono fun _ _ ⟨h1, q, h2⟩ => ⟨h1, by rw [h2]; exact h.later ((Kept.refl Nil W).drewN q)⟩
theorem slotL {m : Int} (a : Int) (hm : slotT T a = m) (h : Lw w W b P T) : Calls Try.prog 12 #[.pointer (some ⟨b, 0, none⟩), .int .i64 a] W fun e w' => e = .returned (.int .i64 m) ∧ Lw w w' b P T :=
  (slot_c a hm h.tab).mono fun _ _ ⟨h1, q, h2⟩ => ⟨h1, by rw [h2]; exact h.later ((Kept.refl Nil W).drewN q)⟩
theorem matesL {m : Int} (a : Int) (hm : matesT (lf P) T a = m) (h : Lw w W b P T) : Calls Try.prog 11 #[.pointer (some ⟨b, 0, none⟩), .int .i64 a] W fun e w' => e = .returned (.int .i64 m) ∧ Lw w w' b P T :=
  (mates_c a hm h.tab).mono fun _ _ ⟨h1, q, h2⟩ => ⟨h1, by rw [h2]; exact h.later ((Kept.refl Nil W).drewN q)⟩
theorem upL {U : List Int} (a : Int) (hU : upT P T a = U) (h : Lw w W b P T) : Calls Try.prog 17 #[.pointer (some ⟨b, 0, none⟩), .int .i64 a] W fun e w' => ∃ A c, e = .returned (.slice A U.length c) ∧ Nums w' (.slice A U.length c) U ∧ Lw w w' b P T :=
  (Up_c a hU h.tab).mono fun _ _ ⟨A, c, h1, h2, h3, h4⟩ => ⟨A, c, h1, h2, h.step h3 h4⟩
theorem farL {m : Int} (x y : Int) (hm : farT P T x y = m) (h : Lw w W b P T) : Calls Try.prog 15 #[.pointer (some ⟨b, 0, none⟩), .int .i64 x, .int .i64 y] W fun e w' => e = .returned (.int .i64 m) ∧ Lw w w' b P T :=
  (far_c x y hm h.tab).mono fun _ _ ⟨h1, h2, h3⟩ => ⟨h1, h.step h2 h3⟩
theorem meetL {m : Int} (x y : Int) (hm : meetT P T x y = m) (h : Lw w W b P T) : Calls Try.prog 16 #[.pointer (some ⟨b, 0, none⟩), .int .i64 x, .int .i64 y] W fun e w' => e = .returned (.int .i64 m) ∧ Lw w w' b P T :=
  (meet_c x y hm h.tab).mono fun _ _ ⟨h1, h2, h3⟩ => ⟨h1, h.step h2 h3⟩
theorem topologyL (h : Lw w W b P T) : Calls Try.prog 18 #[.pointer (some ⟨b, 0, none⟩)] W fun e w' => ∃ A0 c0 A1 c1, e = .returned (.agg #[.slice A0 P.length c0, .slice A1 T.length c1]) ∧ Topo w' (.agg #[.slice A0 P.length c0, .slice A1 T.length c1]) P T ∧ Lw w w' b P T :=
  (topology_c h.tab).mono fun _ _ ⟨v', h1, ⟨A0, c0, A1, c1, h2, _, h4, h5⟩, h6⟩ => ⟨A0, c0, A1, c1, by rw [h1, h2], ⟨_, _, rfl, h4, h5⟩, h.later h6⟩

theorem ints_new (w : World) (l : List Int) : Nums (w.alloc (.cells (l.map (Value.int .i64)).toArray 3)) (.slice (some ⟨w.heap.size, 0, none⟩) l.length l.length) l := by
  refine ⟨_, _, rfl, fun _ => ⟨w.heap.size, 0, rfl, by simp, fun k hk => ?_⟩⟩
  rw [Nat.zero_add, (Is.new w 3 (l.map (Value.int .i64)).toArray).cell k]
  simp [List.getD, hk]
set_option maxHeartbeats 2000000
/-- two. -/
theorem two_c (w : World) : Calls Try.prog 32 #[] w fun e w' => ∃ A0 c0 A1 c1, e = .returned (.agg #[.slice A0 3 c0, .slice A1 4 c1]) ∧ Topo w' (.agg #[.slice A0 3 c0, .slice A1 4 c1]) [-1, 0, 0] [1, 1, 2, 2] ∧ Kept Nil w w' := by
  obtain ⟨w1, hw1⟩ : ∃ w1, w.alloc (.cells #[.slice none 0 0, .slice none 0 0] 24) = w1 := ⟨_, rfl⟩
  have h1 : Is w1 w.heap.size 24 #[.slice none 0 0, .slice none 0 0] := by rw [← hw1]; exact Is.new _ _ _
  have k1 : Kept Nil w w1 := by rw [← hw1]; exact (Kept.refl _ _).alloc _
  have s1 : w1.heap.size = w.heap.size + 1 := by rw [← hw1]; simp
  obtain ⟨w2, hw2⟩ : ∃ w2, w1.alloc (.cells #[.int .i64 (-1), .int .i64 0, .int .i64 0] 3) = w2 := ⟨_, rfl⟩
  have k2 : Kept Nil w1 w2 := by rw [← hw2]; exact (Kept.refl _ _).alloc _
  have s2 : w2.heap.size = w.heap.size + 2 := by rw [← hw2]; simp [s1]
  have n2 : Nums w2 (.slice (some ⟨w.heap.size + 1, 0, none⟩) 3 3) [-1, 0, 0] := by
    have := ints_new w1 [-1, 0, 0]
    rw [s1] at this
    rw [← hw2]
    exact this
  obtain ⟨w3, hw3⟩ : ∃ w3, w2.alloc (.cells #[.int .i64 1, .int .i64 1, .int .i64 2, .int .i64 2] 3) = w3 := ⟨_, rfl⟩
  have k3 : Kept Nil w2 w3 := by rw [← hw3]; exact (Kept.refl _ _).alloc _
  have n3 : Nums w3 (.slice (some ⟨w.heap.size + 2, 0, none⟩) 4 4) [1, 1, 2, 2] := by
    have := ints_new w2 [1, 1, 2, 2]
    rw [s2] at this
    rw [← hw3]
    exact this
  have i3 := (h1.kept k2 (fun z => z)).kept k3 (fun z => z)
  have q0 : w3.cell? ⟨w.heap.size, 0, none⟩ = some (.slice none 0 0) := i3.cell 0
  have q1 : w3.cell? ⟨w.heap.size, 1, none⟩ = some (.slice none 0 0) := i3.cell 1
  have q2 := i3.free 0
  have q3 := i3.free 1
  have H3 := hide (And.intro i3 (And.intro (n2.kept k3) (And.intro n3 ((k1.trans k2 (fun _ _ z => z)).trans k3 (fun _ _ z => z)))))
  clear h1 k1 n2 k2 k3 n3 i3
  go_enter Try.func32, Try.ntmps32
  go_wp2_with fail
  have i4 := (H3.out.1.set 0 (.slice (some ⟨w.heap.size + 1, 0, none⟩) 3 3)).set 1 (.slice (some ⟨w.heap.size + 2, 0, none⟩) 4 4)
  have hs := ((Kept.refl (fun i => i = w.heap.size) w3).set (p := ⟨w.heap.size, 0, none⟩) (fun _ => rfl) (.slice (some ⟨w.heap.size + 1, 0, none⟩) 3 3)).set (p := ⟨w.heap.size, 1, none⟩) (fun _ => rfl) (.slice (some ⟨w.heap.size + 2, 0, none⟩) 4 4)
  have hk := (H3.out.2.2.2.set (p := ⟨w.heap.size, 0, none⟩) (fun h => absurd h (Nat.lt_irrefl _)) (.slice (some ⟨w.heap.size + 1, 0, none⟩) 3 3)).set (p := ⟨w.heap.size, 1, none⟩) (fun h => absurd h (Nat.lt_irrefl _)) (.slice (some ⟨w.heap.size + 2, 0, none⟩) 4 4)
  exact bodyPost_ret (results_one rfl _ rfl (i4.cell 0) (i4.cell 1)) rfl ⟨_, _, _, _, rfl, ⟨_, _, rfl, H3.out.2.1.apart H3.out.1 (pair_noInt _ _ _ _ _ _) hs, H3.out.2.2.1.apart H3.out.1 (pair_noInt _ _ _ _ _ _) hs⟩, hk⟩
theorem zero_topo (w : World) : Topo w (.agg #[.slice none 0 0, .slice none 0 0]) [] [] := ⟨_, _, rfl, Nums.nil _ _ _, Nums.nil _ _ _⟩
theorem same_new {l : List Int} {u : Value} {n : Nat} (h : Nums W u l) (hl : l.length ≤ 65536) (hn : W.heap.size = n) : Calls Try.prog 23 #[u, .slice (some ⟨n, 0, none⟩) l.length l.length] (W.alloc (.cells (l.map (Value.int .i64)).toArray 3)) fun e w' => e = .returned (.bool true) ∧ Kept Nil W w' := by
  subst hn
  have hk := (Kept.refl Nil W).alloc (.cells (l.map (Value.int .i64)).toArray 3)
  exact (rsame_c (b := true) (by simp) (h.kept hk) (ints_new W l) hl hl).mono fun e w' ⟨h1, q, h2⟩ => ⟨h1, by rw [h2]; exact hk.drewN q⟩
/-- awake. -/
theorem awake_c (w : World) : Calls Try.prog 9 #[] w fun e w' => e = .returned (.bool true) ∧ Kept Nil w w' := by
  go_enter Try.func9, Try.ntmps9
  go_wp2_with fail
  refine (two_c w).mono ?_
  rintro e w1 ⟨A0, c0, A1, c1, rfl, ht1, hk1⟩
  have K1 := hide hk1
  have c2 := newA ht1 (by decide +kernel)
  clear hk1 ht1
  go_wp2_with fail
  refine c2.mono ?_
  rintro e w2 ⟨b, rfl, h2⟩
  have H2 := hide h2
  clear h2 c2
  go_wp2_with fail
  refine (newB (z := 8) (zero_topo w2) (by decide +kernel) (by decide)).mono ?_
  rintro e w3 ⟨rfl, hk⟩
  have H3 := hide (H2.out.later hk)
  clear hk H2
  go_wp2_with fail
  refine (farL (m := 0) 0 1 (by decide +kernel) H3.out).mono ?_
  rintro e w4 ⟨rfl, h4⟩
  have H4 := hide h4
  clear h4 H3
  go_wp2_with fail
  refine (farL (m := 1) 0 2 (by decide +kernel) H4.out).mono ?_
  rintro e w5 ⟨rfl, h5⟩
  have H5 := hide h5
  clear h5 H4
  go_wp2_with fail
  refine (meetL (m := 0) 3 0 (by decide +kernel) H5.out).mono ?_
  rintro e w6 ⟨rfl, h6⟩
  have H6 := hide h6
  clear h6 H5
  go_wp2_with fail
  refine (nodeL (m := 1) 3 (by decide +kernel) H6.out).mono ?_
  rintro e w7 ⟨rfl, h7⟩
  have H7 := hide h7
  clear h7 H6
  go_wp2_with fail
  refine (slotL (m := 1) 3 (by decide +kernel) H7.out).mono ?_
  rintro e w8 ⟨rfl, h8⟩
  have H8 := hide h8
  clear h8 H7
  go_wp2_with fail
  refine (matesL (m := 2) 1 (by decide +kernel) H8.out).mono ?_
  rintro e w9 ⟨rfl, h9⟩
  have H9 := hide h9
  clear h9 H8
  go_wp2_with fail
  refine (nodesL (m := 2) (by decide +kernel) H9.out).mono ?_
  rintro e w10 ⟨rfl, h10⟩
  have H10 := hide h10
  clear h10 H9
  go_wp2_with fail
  refine (threadsL (m := 4) (by decide +kernel) H10.out).mono ?_
  rintro e w11 ⟨rfl, h11⟩
  have H11 := hide h11
  clear h11 H10
  go_wp2_with fail
  refine (upL (U := [2, 0]) 2 (by decide +kernel) H11.out).mono ?_
  rintro e w12 ⟨A, c, rfl, hn, h12⟩
  have H12 := hide h12
  have cs := same_new hn (by decide) rfl
  clear hn h12 H11
  go_wp2_with fail
  refine cs.mono ?_
  rintro e w13 ⟨rfl, hk⟩
  have H13 := hide (H12.out.later hk)
  clear hk H12 cs
  go_wp2_with fail
  refine (nodeL (m := -1) 4 (by decide +kernel) H13.out).mono ?_
  rintro e w14 ⟨rfl, h14⟩
  have H14 := hide (K1.out.trans h14.kept (fun _ _ z => z))
  clear h14 H13
  go_wp2_with fail
  go_ret
  exact ⟨rfl, H14.out⟩
end
end Go.Proofs.Ytepajkakpkndmaa
