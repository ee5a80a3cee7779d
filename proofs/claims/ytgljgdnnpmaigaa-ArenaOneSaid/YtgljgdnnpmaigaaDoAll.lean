/- One act: taking words, and what is none. -/
import Derived.Test.YtgljgdnnpmaigaaDo
namespace Go.Proofs.Ytgljgdnnpmaigaa
open Go.RowKit
section
variable {b c : Nat} {q A B : Option Addr} {s s1 s2 t : St} {w w' W w0 : World} {r : Ending} {f : FuncId} {args : Array Value}
set_option maxHeartbeats 800000

theorem do_take_neg (p x y : Int) (h : Both w q A b B c s s) (hx : x < 0) : Calls Try.prog 9 #[.pointer q, .pointer (some ⟨b, 0, none⟩), .agg #[.int .i64 0, .int .i64 p, .int .i64 x, .int .i64 y]] w fun e w' =>
    e = .returned (.bool true) ∧ Both w' q A b B c s s ∧ Kept (OfB q A b B) w w' := by
  obtain ⟨w0, hw0⟩ : ∃ w0, w0 = w.alloc (.cells #[.int .i64 0, .int .i64 p, .int .i64 x, .int .i64 y] 30) := ⟨_, rfl⟩
  have hB0 : Both w0 q A b B c s s := by rw [hw0]; exact h.keptNil ((Kept.refl _ w).alloc _)
  have hk0 : Kept (OfB q A b B) w w0 := by rw [hw0]; exact (Kept.refl _ w).alloc _
  have hbx : Is w0 w.heap.size 30 #[.int .i64 0, .int .i64 p, .int .i64 x, .int .i64 y] := by rw [hw0]; exact Is.new w _ _
  have hout : ¬ OfB q A b B w.heap.size := hB0.out hbx (by decide) (by decide) (by decide) (by decide)
  have CELLS := hide fun (W : World) (k : Kept (OfB q A b B) w0 W) => (And.intro ((hbx.kept k hout).cell 0) (And.intro ((hbx.kept k hout).cell 1) (And.intro ((hbx.kept k hout).cell 2) ((hbx.kept k hout).cell 3))))
  have c1 := hide (take_neg (w := w0) q x hx)
  have HK := hide hk0
  have HB := hide hB0
  clear hk0 hB0
  subst hw0
  go_enter Try.func9, Try.ntmps9
  go_wp2_with fail
  refine c1.out.mono ?_
  rintro e w1 ⟨rfl, rfl⟩
  go_wp2_with fail
  refine (rtake_neg x hx).mono ?_
  rintro e w2 ⟨rfl, rfl⟩
  go_wp2_with fail
  go_ret
  exact ⟨rfl, HB.out, HK.out⟩

theorem do_take_full (p x y : Int) (h : Both w q A b B c s s) (h0 : 0 ≤ x) (hx : (s.room : Int) - s.ws.length < x) : Calls Try.prog 9 #[.pointer q, .pointer (some ⟨b, 0, none⟩), .agg #[.int .i64 0, .int .i64 p, .int .i64 x, .int .i64 y]] w fun e w' =>
    e = .returned (.bool true) ∧ Both w' q A b B c s s ∧ Kept (OfB q A b B) w w' := by
  obtain ⟨w0, hw0⟩ : ∃ w0, w0 = w.alloc (.cells #[.int .i64 0, .int .i64 p, .int .i64 x, .int .i64 y] 30) := ⟨_, rfl⟩
  have hB0 : Both w0 q A b B c s s := by rw [hw0]; exact h.keptNil ((Kept.refl _ w).alloc _)
  have hk0 : Kept (OfB q A b B) w w0 := by rw [hw0]; exact (Kept.refl _ w).alloc _
  have hbx : Is w0 w.heap.size 30 #[.int .i64 0, .int .i64 p, .int .i64 x, .int .i64 y] := by rw [hw0]; exact Is.new w _ _
  have hout : ¬ OfB q A b B w.heap.size := hB0.out hbx (by decide) (by decide) (by decide) (by decide)
  have CELLS := hide fun (W : World) (k : Kept (OfB q A b B) w0 W) => (And.intro ((hbx.kept k hout).cell 0) (And.intro ((hbx.kept k hout).cell 1) (And.intro ((hbx.kept k hout).cell 2) ((hbx.kept k hout).cell 3))))
  have c1 := hide (take_full_q x hB0.one h0 hx)
  have HK := hide hk0
  have HB := hide hB0
  clear hk0 hB0
  subst hw0
  go_enter Try.func9, Try.ntmps9
  go_wp2_with fail
  refine c1.out.mono ?_
  rintro e w1 ⟨rfl, n1, rfl⟩
  have c2 := hide (rtake_full x (HB.out.two.drewN n1) h0 hx)
  obtain ⟨e0, e1, e2, e3⟩ := CELLS.out _ ((Kept.refl _ _).drewN n1)
  simp at e0 e1 e2 e3
  go_wp2_with fail
  refine c2.out.mono ?_
  rintro e w2 ⟨rfl, n2, rfl⟩
  go_wp2_with fail
  go_ret
  exact ⟨rfl, HB.out.keptNil ((Kept.refl _ _).drewN (n1 + n2)), HK.out.drewN (n1 + n2)⟩

theorem do_take_ok (p : Int) (n : Nat) (y : Int) (h : Both w q A b B c s s) (hx : s.ws.length + n ≤ s.room) : Calls Try.prog 9 #[.pointer q, .pointer (some ⟨b, 0, none⟩), .agg #[.int .i64 0, .int .i64 p, .int .i64 n, .int .i64 y]] w fun e w' =>
    e = .returned (.bool true) ∧ ∃ B' c', Both w' q A b B' c' (s.take n) (s.take n) ∧ Kept (OfB q A b B) w w' ∧ (∀ g, In B' g → In B g ∨ w.heap.size ≤ g) := by
  obtain ⟨w0, hw0⟩ : ∃ w0, w0 = w.alloc (.cells #[.int .i64 0, .int .i64 p, .int .i64 n, .int .i64 y] 30) := ⟨_, rfl⟩
  have hB0 : Both w0 q A b B c s s := by rw [hw0]; exact h.keptNil ((Kept.refl _ w).alloc _)
  have hk0 : Kept (OfB q A b B) w w0 := by rw [hw0]; exact (Kept.refl _ w).alloc _
  have hbx : Is w0 w.heap.size 30 #[.int .i64 0, .int .i64 p, .int .i64 n, .int .i64 y] := by rw [hw0]; exact Is.new w _ _
  have hout : ¬ OfB q A b B w.heap.size := hB0.out hbx (by decide) (by decide) (by decide) (by decide)
  have CELLS := hide fun (W : World) (k : Kept (OfB q A b B) w0 W) => (And.intro ((hbx.kept k hout).cell 0) (And.intro ((hbx.kept k hout).cell 1) (And.intro ((hbx.kept k hout).cell 2) ((hbx.kept k hout).cell 3))))
  have c1 := hide (hB0.lift1 (Kept.refl _ w0) (take_q n hB0.one hx))
  have HK := hide hk0
  have HS := hide (show w.heap.size ≤ w0.heap.size from hk0.size)
  clear hk0 hB0
  subst hw0
  go_enter Try.func9, Try.ntmps9
  go_wp2_with fail
  refine c1.out.mono ?_
  rintro e w1 ⟨rfl, hb1, hk1⟩
  have c2 := hide (rtake_some n hb1.two hx)
  obtain ⟨e0, e1, e2, e3⟩ := CELLS.out _ hk1
  simp at e0 e1 e2 e3
  go_wp2_with fail
  refine c2.out.mono ?_
  rintro e w2 ⟨rfl, B', c', h2, k2, hin⟩
  go_wp2_with fail
  go_ret
  refine ⟨rfl, B', c', ⟨hb1.one.kept k2 (fun _ _ _ _ x y => hb1.in_b y x), h2⟩, HK.out.trans (hk1.trans k2 (fun _ _ z => .inr z)) (fun _ _ z => z), fun g hg => ?_⟩
  rcases hin g hg with e | e
  · exact .inl e
  · exact .inr (Nat.le_trans HS.out (Nat.le_trans hk1.size e))
theorem do_none (k p x y : Int) (h : Both w q A b B c s s) (hk : k < 0 ∨ 5 < k) : Calls Try.prog 9 #[.pointer q, .pointer (some ⟨b, 0, none⟩), .agg #[.int .i64 k, .int .i64 p, .int .i64 x, .int .i64 y]] w fun e w' =>
    e = .returned (.bool true) ∧ Both w' q A b B c s s ∧ Kept (OfB q A b B) w w' := by
  have n0 : (k == 0) = false := by simp; omega
  have n1 : (k == 1) = false := by simp; omega
  have n2 : (k == 2) = false := by simp; omega
  have n3 : (k == 3) = false := by simp; omega
  have n4 : (k == 4) = false := by simp; omega
  have n5 : (k == 5) = false := by simp; omega
  have hfin := hide (And.intro (h.keptNil ((Kept.refl _ w).alloc (.cells #[.int .i64 k, .int .i64 p, .int .i64 x, .int .i64 y] 30))) ((Kept.refl (OfB q A b B) w).alloc (.cells #[.int .i64 k, .int .i64 p, .int .i64 x, .int .i64 y] 30)))
  clear h hk
  go_enter Try.func9, Try.ntmps9
  go_wp2_with fail
  go_ret
  exact ⟨rfl, hfin.out.1, hfin.out.2⟩

/-- ANY ACT. -/
theorem do_c (k p x y : Int) (h : Both w q A b B c s s) (hn : s.ops < 4611686018427387904) : Calls Try.prog 9 #[.pointer q, .pointer (some ⟨b, 0, none⟩), .agg #[.int .i64 k, .int .i64 p, .int .i64 x, .int .i64 y]] w fun e w' =>
    e = .returned (.bool true) ∧ ∃ B' c', Both w' q A b B' c' (s.act k p x y) (s.act k p x y) ∧ Kept (OfB q A b B) w w' ∧ (∀ g, In B' g → In B g ∨ w.heap.size ≤ g) := by
  by_cases k0 : k = 0
  · subst k0
    rcases Int.lt_or_le x 0 with hx | hx
    · refine (do_take_neg p x y h hx).mono ?_
      rintro e w' ⟨h1, h2, h3⟩
      exact ⟨h1, B, c, by unfold St.act; rw [if_pos rfl, if_neg (by omega)]; exact h2, h3, fun _ hg => .inl hg⟩
    · rcases Int.lt_or_le ((s.room : Int) - s.ws.length) x with hx2 | hx2
      · refine (do_take_full p x y h hx hx2).mono ?_
        rintro e w' ⟨h1, h2, h3⟩
        exact ⟨h1, B, c, by unfold St.act; rw [if_pos rfl, if_neg (by omega)]; exact h2, h3, fun _ hg => .inl hg⟩
      · have hf := h.one.fits.1
        have hc := do_take_ok p x.toNat y h (by omega)
        rw [show ((x.toNat : Nat) : Int) = x by omega] at hc
        refine hc.mono ?_
        rintro e w' ⟨h1, B', c', h2, h3, h4⟩
        exact ⟨h1, B', c', by unfold St.act; rw [if_pos rfl, if_pos ⟨hx, hx2⟩]; exact h2, h3, h4⟩
  · by_cases k1 : k = 1
    · subst k1
      exact (do_load p x y h hn).mono fun e w' ⟨h1, h2, h3⟩ => ⟨h1, B, c, h2, h3, fun _ hg => .inl hg⟩
    · by_cases k2 : k = 2
      · subst k2
        exact (do_store p x y h hn).mono fun e w' ⟨h1, h2, h3⟩ => ⟨h1, B, c, h2, h3, fun _ hg => .inl hg⟩
      · by_cases k3 : k = 3
        · subst k3
          exact (do_swap p x y h hn).mono fun e w' ⟨h1, h2, h3⟩ => ⟨h1, B, c, h2, h3, fun _ hg => .inl hg⟩
        · by_cases k4 : k = 4
          · subst k4
            exact (do_cas p x y h hn).mono fun e w' ⟨h1, h2, h3⟩ => ⟨h1, B, c, h2, h3, fun _ hg => .inl hg⟩
          · by_cases k5 : k = 5
            · subst k5
              exact (do_add p x y h hn).mono fun e w' ⟨h1, h2, h3⟩ => ⟨h1, B, c, h2, h3, fun _ hg => .inl hg⟩
            · refine (do_none k p x y h (by omega)).mono fun e w' ⟨h1, h2, h3⟩ => ⟨h1, B, c, ?_, h3, fun _ hg => .inl hg⟩
              unfold St.act
              rw [if_neg k0, if_neg k1, if_neg k2, if_neg k3, if_neg k4, if_neg k5]
              exact h2
theorem act_ops (k p x y : Int) : (s.act k p x y).ops ≤ s.ops + 1 ∧ (s.act k p x y).room = s.room := by
  unfold St.act St.load St.store St.swap St.cas St.add St.take St.put St.note
  repeat' split
  all_goals simp
end
end Go.Proofs.Ytgljgdnnpmaigaa
