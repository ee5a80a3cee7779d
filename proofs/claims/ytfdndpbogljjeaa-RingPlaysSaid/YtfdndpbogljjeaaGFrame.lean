/- A row that a law has made itself: its calls; the law's helper awake. -/
import Derived.Test.YtfdndpbogljjeaaGCollect
import Derived.Test.YtfdndpbogljjeaaGRefs
namespace Go.Proofs.Ytfdndpbogljjeaa
open Go.RowKit

/-- A row of the law's own, beside the blocks R. -/
structure RF (w0 w : World) (R : Nat → Prop) (a : Nat) (xs : List Int) : Prop where
  ring : ∃ A, Ring w a A xs ∧ ∀ g, OfG a A g → w0.heap.size ≤ g ∧ ¬ R g
  kept : Kept Nil w0 w
  low : ∀ g, R g → g < w.heap.size

section
variable {w0 w w' W : World} {R : Nat → Prop} {a : Nat} {xs : List Int}
set_option maxHeartbeats 800000

theorem ring_new (h : Is w a 25 #[.slice none 0 0, .int .i64 0, .int .i64 0]) : Ring w a none [] :=
  ⟨0, 0, fun _ => 0, h, .inl ⟨rfl, rfl⟩, Nat.zero_le _, Nat.zero_le _, fun i hi => absurd hi (Nat.not_lt_zero i)⟩
theorem ofg_none {a g : Nat} (h : OfG a none g) : g = a := by
  rcases h with h | h
  · exact h
  · cases h
theorem RF.keptNil (h : RF w0 w R a xs) (k : Kept Nil w w') : RF w0 w' R a xs := by
  obtain ⟨A, hr, hg⟩ := h.ring
  exact ⟨⟨A, hr.keptNil k, hg⟩, h.kept.trans k (fun _ _ z => z), fun g hR => Nat.lt_of_lt_of_le (h.low g hR) k.size⟩
/-- Other blocks beside it. -/
theorem RF.beside {R' : Nat → Prop} (h : RF w0 w R a xs) (k : Kept R w w') (hn : ∀ g, R' g → (R g ∨ w.heap.size ≤ g) ∧ g < w'.heap.size) (h0 : ∀ g, R g → w0.heap.size ≤ g) : RF w0 w' R' a xs := by
  obtain ⟨A, hr, hg⟩ := h.ring
  refine ⟨⟨A, hr.kept k (fun g e => (hg g e).2), fun g e => ⟨(hg g e).1, fun hz => ?_⟩⟩, h.kept.trans k (fun i hi hz => absurd (h0 i hz) (by omega)), fun g hR => (hn g hR).2⟩
  rcases (hn g hz).1 with h1 | h1
  · exact (hg g e).2 h1
  · exact absurd (hr.lt e) (by omega)

theorem pushF (x : Int) (h : RF w0 w R a xs) (hx : xs.length ≤ 400000) : Calls Try.prog 6 #[.pointer (some ⟨a, 0, none⟩), .int .i64 x] w fun e w' =>
    e = .returned (.tuple #[]) ∧ RF w0 w' R a (xs ++ [x]) ∧ Kept (fun g => ¬ R g) w w' := by
  obtain ⟨A, hr, hg⟩ := h.ring
  refine (push_c x hr hx).mono ?_
  rintro e w' ⟨he, A', hr', hk, hA⟩
  refine ⟨he, ⟨⟨A', hr', fun g e => ?_⟩, h.kept.trans hk (fun i hi hz => absurd (hg i hz).1 (by omega)), fun g hR => Nat.lt_of_lt_of_le (h.low g hR) hk.size⟩, hk.more fun i _ hz => (hg i hz).2⟩
  rcases hA with rfl | ⟨b, rfl, hb⟩
  · exact hg g e
  · rcases e with rfl | e
    · exact hg g (.inl rfl)
    · injection e with e; injection e with e
      subst e
      have h1 := h.kept.size
      exact ⟨by omega, fun hz => absurd (h.low b hz) (by omega)⟩
theorem cutF (i : Int) (h : RF w0 w R a xs) : Calls Try.prog 9 #[.pointer (some ⟨a, 0, none⟩), .int .i64 i] w fun e w' =>
    e = .returned (.tuple #[.int .i64 (atX xs i), .bool (atB xs i)]) ∧ RF w0 w' R a (cutL xs i) ∧ Kept (fun g => ¬ R g) w w' := by
  obtain ⟨A, hr, hg⟩ := h.ring
  refine (cut_c i hr).mono ?_
  rintro e w' ⟨he, hr', hk⟩
  exact ⟨he, ⟨⟨A, hr', hg⟩, h.kept.trans hk (fun i hi hz => absurd (hg i hz).1 (by omega)), fun g hR => Nat.lt_of_lt_of_le (h.low g hR) hk.size⟩, hk.more fun i _ hz => (hg i hz).2⟩
theorem popF (h : RF w0 w R a xs) : Calls Try.prog 7 #[.pointer (some ⟨a, 0, none⟩)] w fun e w' =>
    e = .returned (.tuple #[.int .i64 (atX xs 0), .bool (atB xs 0)]) ∧ RF w0 w' R a (cutL xs 0) ∧ Kept (fun g => ¬ R g) w w' := by
  obtain ⟨A, hr, hg⟩ := h.ring
  refine (pop_c hr).mono ?_
  rintro e w' ⟨he, hr', hk⟩
  exact ⟨he, ⟨⟨A, hr', hg⟩, h.kept.trans hk (fun i hi hz => absurd (hg i hz).1 (by omega)), fun g hR => Nat.lt_of_lt_of_le (h.low g hR) hk.size⟩, hk.more fun i _ hz => (hg i hz).2⟩
theorem atF (i : Int) (h : RF w0 w R a xs) : Calls Try.prog 8 #[.pointer (some ⟨a, 0, none⟩), .int .i64 i] w fun e w' =>
    e = .returned (.tuple #[.int .i64 (atX xs i), .bool (atB xs i)]) ∧ RF w0 w' R a xs ∧ Kept Nil w w' := by
  obtain ⟨A, hr, hg⟩ := h.ring
  refine (rat_c i hr).mono ?_
  rintro e w' ⟨he, n, rfl⟩
  exact ⟨he, h.keptNil ((Kept.refl _ w).drewN n), (Kept.refl _ w).drewN n⟩
theorem lenF (h : RF w0 w R a xs) : Calls Try.prog 10 #[.pointer (some ⟨a, 0, none⟩)] w fun e w' => e = .returned (.int .i64 xs.length) ∧ w = w' := by
  obtain ⟨A, hr, hg⟩ := h.ring
  exact rlen_c hr
theorem findF {N : FuncId} {cap : Array Value} {p : Int → Bool} (h : RF w0 w R a xs) (hx : xs.length ≤ 1048576) (hE : ∀ args w, (callFunc N args).run Try.prog w = .ok (.enter N args) w)
    (hC : ∀ W x, Kept Nil w W → Calls Try.prog N (#[.int .i64 x] ++ cap) W fun e w' => e = .returned (.bool (p x)) ∧ Kept Nil W w') :
    Calls Try.prog 13 #[.pointer (some ⟨a, 0, none⟩), .func (.func N) #[] cap] w fun e w' => e = .returned (.int .i64 (findI xs p)) ∧ RF w0 w' R a xs ∧ Kept Nil w w' := by
  obtain ⟨A, hr, hg⟩ := h.ring
  refine (find_c hr hx hE hC).mono ?_
  rintro e w' ⟨he, hk⟩
  exact ⟨he, h.keptNil hk, hk⟩
theorem collectF (most : Int) (hm : 1 ≤ most) (h : RF w0 w R a xs) (hx : xs.length ≤ 65536) : Calls Try.prog 12 #[.pointer (some ⟨a, 0, none⟩), .int .i64 most] w fun e w' =>
    ∃ v, e = .returned v ∧ Nums w' v (xs.take most.toNat) ∧ RF w0 w' R a xs ∧ Kept Nil w w' := by
  obtain ⟨A, hr, hg⟩ := h.ring
  refine (collect_c most hm hr hx).mono ?_
  rintro e w' ⟨v, he, hrow, hk⟩
  exact ⟨v, he, Row.nums hrow, h.keptNil hk, hk⟩

theorem enters5 (args : Array Value) (w : World) : (callFunc 25 args).run Try.prog w = .ok (.enter 25 args) w :=
  enters_of Try.func25 (by kernel_rfl) rfl args w
theorem is5 (x : Int) (w : World) : Calls Try.prog 25 (#[.int .i64 x] ++ #[]) w fun e w' => e = .returned (.bool (x == 5)) ∧ Kept Nil w w' := by
  go_enter Try.func25, Try.ntmps25
  go_wp2
  go_ret
  exact ⟨rfl, Kept.refl _ _⟩

/-- A slice of one number, just built. -/
theorem nums_one (w : World) (x : Int) : Nums (w.alloc (.cells #[.int .i64 x] 3)) (.slice (some ⟨w.heap.size, 0, none⟩) 1 1) [x] := by
  refine ⟨_, 1, rfl, fun _ => ⟨w.heap.size, 0, rfl, by simp, fun k hk => ?_⟩⟩
  obtain rfl : k = 0 := by simpa using hk
  exact (Is.new w 3 #[.int .i64 x]).cell 0

theorem rawake_c (w : World) : Calls Try.prog 14 #[] w fun e w' => e = .returned (.bool true) ∧ Kept Nil w w' := by
  have k0 := hide ((Kept.refl Nil w).alloc (.cells #[.slice none 0 0, .int .i64 0, .int .i64 0] 25))
  have h0 := hide (ring_new (Is.new w 25 #[.slice none 0 0, .int .i64 0, .int .i64 0]))
  have hr0 : RF w (w.alloc (.cells #[.slice none 0 0, .int .i64 0, .int .i64 0] 25)) Nil w.heap.size [] :=
    ⟨⟨none, h0.out, fun g e => ⟨Nat.le_of_eq (ofg_none e).symm, fun z => z⟩⟩, k0.out, fun g z => z.elim⟩
  have HR0 := hide hr0
  clear h0 hr0 k0
  go_enter Try.func14, Try.ntmps14
  go_wp2_with fail
  refine (pushF 3 HR0.out (by decide)).mono ?_
  rintro e w1 ⟨rfl, h1, _⟩
  have H1 := hide h1
  clear h1
  go_wp2_with fail
  refine (pushF 4 H1.out (by decide)).mono ?_
  rintro e w2 ⟨rfl, h2, _⟩
  have H2 := hide h2
  clear h2
  go_wp2_with fail
  refine (pushF 5 H2.out (by decide)).mono ?_
  rintro e w3 ⟨rfl, h3, _⟩
  have H3 := hide (show RF w w3 Nil w.heap.size [3, 4, 5] from h3)
  clear h3
  go_wp2_with fail
  refine (cutF 1 H3.out).mono ?_
  rintro e w4 ⟨rfl, h4, _⟩
  have H4 := hide (show RF w w4 Nil w.heap.size [3, 5] from h4)
  clear h4
  rw [show atX [3, 4, 5] 1 = 4 from rfl, show atB [3, 4, 5] 1 = true from rfl]
  go_wp2_with fail
  refine (popF H4.out).mono ?_
  rintro e w5 ⟨rfl, h5, _⟩
  have H5 := hide (show RF w w5 Nil w.heap.size [5] from h5)
  clear h5
  rw [show atX [3, 5] 0 = 3 from rfl, show atB [3, 5] 0 = true from rfl]
  go_wp2_with fail
  refine (atF 0 H5.out).mono ?_
  rintro e w6 ⟨rfl, h6, _⟩
  have H6 := hide h6
  clear h6
  rw [show atX [5] 0 = 5 from rfl, show atB [5] 0 = true from rfl]
  go_wp2_with fail
  refine (lenF H6.out).mono ?_
  rintro e w7 ⟨rfl, rfl⟩
  rw [show ((([5] : List Int).length : Nat) : Int) = 1 from rfl]
  go_wp2_with fail
  refine (findF (p := fun n => n == 5) H6.out (by decide) enters5 (fun W x _ => is5 x W)).mono ?_
  rintro e w7 ⟨rfl, h7, _⟩
  have H7 := hide h7
  clear h7
  rw [show findI [5] (fun n => n == 5) = 0 by decide]
  go_wp2_with fail
  refine (collectF 9 (by decide) H7.out (by decide)).mono ?_
  rintro e w8 ⟨v, rfl, hv, h8, _⟩
  have H8 := hide (And.intro (show Nums w8 v [5] from hv) h8.kept)
  clear hv h8
  go_wp2_with fail
  have hs := same_nums (H8.out.1.kept ((Kept.refl Nil w8).alloc (.cells #[.int .i64 5] 3))) (nums_one w8 5) (by decide)
  refine hs.mono ?_
  rintro e w9 ⟨rfl, n, rfl⟩
  go_wp2_with fail
  go_ret
  exact ⟨rfl, (H8.out.2.alloc _).drewN _⟩
end
end Go.Proofs.Ytfdndpbogljjeaa
