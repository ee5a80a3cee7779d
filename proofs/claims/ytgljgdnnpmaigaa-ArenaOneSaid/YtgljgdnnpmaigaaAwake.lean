/- What must come, whatever the arguments are: it does. -/
import Derived.Test.YtgljgdnnpmaigaaSame
namespace Go.Proofs.Ytgljgdnnpmaigaa
open Go.RowKit

def m0 : St := fresh 3
def m1 : St := { ws := [0, 0], room := 3, ops := 0, k := 0, p := 0, wr := false }
def m2 : St := { ws := [2, 0], room := 3, ops := 1, k := 5, p := 1, wr := true }
def m3 : St := { ws := [7, 0], room := 3, ops := 2, k := 4, p := 1, wr := true }
def m4 : St := { ws := [7, 0], room := 3, ops := 3, k := 1, p := 1, wr := false }
def m5 : St := { ws := [7, 5], room := 3, ops := 4, k := 3, p := 2, wr := true }
theorem to1 : m0.take 2 = m1 := by rfl
theorem wrap2 : wrap64 (0 + 2) = 2 := by unfold wrap64; omega
theorem to2 : m1.add 1 2 = m2 ∧ m1.sum 1 2 = 2 := by
  have h1 : m1.add 1 2 = (m1.put 1 (wrap64 (0 + 2))).note 5 1 true := rfl
  have h2 : m1.sum 1 2 = wrap64 (0 + 2) := rfl
  rw [h1, h2, wrap2]
  exact ⟨rfl, rfl⟩
theorem to3 : m2.cas 1 2 7 = m3 ∧ m2.hits 1 2 = true := ⟨by rfl, by rfl⟩
theorem to4 : m3.load 1 = m4 ∧ m3.get 1 = 7 := ⟨by rfl, by rfl⟩
theorem to5 : m4.swap 2 5 = m5 ∧ m4.get 2 = 0 := ⟨by rfl, by rfl⟩

section
variable {a : Nat} {A : Option Addr} {w w0 : World}
set_option maxHeartbeats 800000

theorem s1 (h : ArenaAt w a A m0) (k : Kept Nil w0 w) (ha : w0.heap.size ≤ a) : Calls Try.prog 15 #[.pointer (some ⟨a, 0, none⟩), .int .i64 2] w fun e w' => e = .returned (.tuple #[.int .i64 1, .int .i64 0]) ∧ ArenaAt w' a A m1 ∧ Kept Nil w0 w' := by
  refine (take_some 2 h (by decide) (by decide)).mono ?_
  rintro e w' ⟨rfl, h1, k1⟩
  exact ⟨rfl, by rw [← to1]; exact h1, k.trans k1 (fun i hi e => by subst e; exact absurd ha (by omega))⟩
theorem s2 (h : ArenaAt w a A m1) (k : Kept Nil w0 w) : Calls Try.prog 15 #[.pointer (some ⟨a, 0, none⟩), .int .i64 2] w fun e w' => e = .returned (.tuple #[.int .i64 0, .int .i64 3]) ∧ ArenaAt w' a A m1 ∧ Kept Nil w0 w' := by
  refine (take_full 2 h (by decide) (by decide)).mono ?_
  rintro e w' ⟨rfl, n, rfl⟩
  exact ⟨rfl, h.drewN n, k.drewN n⟩
theorem of_ge {B : Nat} (ha : B ≤ a) (hA : ∀ g, A = some ⟨g, 0, none⟩ → B ≤ g) : ∀ i, i < B → Of a A i → Nil i := by
  rintro i hi (e | e)
  · omega
  · have := hA i e
    omega
theorem s3 (h : ArenaAt w a A m1) (k : Kept Nil w0 w) (ha : w0.heap.size ≤ a) (hA : ∀ g, A = some ⟨g, 0, none⟩ → w0.heap.size ≤ g) : Calls Try.prog 20 #[.pointer (some ⟨a, 0, none⟩), .int .i64 1, .int .i64 2] w fun e w' => e = .returned (.int .i64 2) ∧ ArenaAt w' a A m2 ∧ Kept Nil w0 w' := by
  refine (add_c 1 2 h (by decide)).mono ?_
  rintro e w' ⟨rfl, h1, k1⟩
  exact ⟨by rw [to2.2], by rw [← to2.1]; exact h1, k.trans k1 (of_ge ha hA)⟩
theorem s4 (h : ArenaAt w a A m2) (k : Kept Nil w0 w) (ha : w0.heap.size ≤ a) (hA : ∀ g, A = some ⟨g, 0, none⟩ → w0.heap.size ≤ g) : Calls Try.prog 19 #[.pointer (some ⟨a, 0, none⟩), .int .i64 1, .int .i64 2, .int .i64 7] w fun e w' => e = .returned (.bool true) ∧ ArenaAt w' a A m3 ∧ Kept Nil w0 w' := by
  refine (cas_c 1 2 7 h (by decide)).mono ?_
  rintro e w' ⟨rfl, h1, k1⟩
  exact ⟨by rw [to3.2], by rw [← to3.1]; exact h1, k.trans k1 (of_ge ha hA)⟩
theorem s5 (h : ArenaAt w a A m3) (k : Kept Nil w0 w) (ha : w0.heap.size ≤ a) (hA : ∀ g, A = some ⟨g, 0, none⟩ → w0.heap.size ≤ g) : Calls Try.prog 16 #[.pointer (some ⟨a, 0, none⟩), .int .i64 1] w fun e w' => e = .returned (.int .i64 7) ∧ ArenaAt w' a A m4 ∧ Kept Nil w0 w' := by
  refine (load_c 1 h (by decide)).mono ?_
  rintro e w' ⟨rfl, h1, k1⟩
  exact ⟨by rw [to4.2], by rw [← to4.1]; exact h1, k.trans k1 (of_ge ha hA)⟩
theorem s6 (h : ArenaAt w a A m4) (k : Kept Nil w0 w) (ha : w0.heap.size ≤ a) (hA : ∀ g, A = some ⟨g, 0, none⟩ → w0.heap.size ≤ g) : Calls Try.prog 18 #[.pointer (some ⟨a, 0, none⟩), .int .i64 2, .int .i64 5] w fun e w' => e = .returned (.int .i64 0) ∧ ArenaAt w' a A m5 ∧ Kept Nil w0 w' := by
  refine (swap_c 2 5 h (by decide)).mono ?_
  rintro e w' ⟨rfl, h1, k1⟩
  exact ⟨by rw [to5.2], by rw [← to5.1]; exact h1, k.trans k1 (of_ge ha hA)⟩

theorem awake_c (w : World) : Calls Try.prog 6 #[] w fun e w' => e = .returned (.bool true) ∧ Kept Nil w w' := by
  have hnew := new_c 3 w
  have ha : w.heap.size ≤ w.heap.size + 1 := by omega
  have hA : ∀ g, (some ⟨w.heap.size, 0, none⟩ : Option Addr) = some ⟨g, 0, none⟩ → w.heap.size ≤ g := fun g e => by injection e with e; injection e with e; omega
  obtain ⟨a, hae⟩ : ∃ a, a = w.heap.size + 1 := ⟨_, rfl⟩
  obtain ⟨A, hAe⟩ : ∃ A : Option Addr, A = some ⟨w.heap.size, 0, none⟩ := ⟨_, rfl⟩
  rw [← hae, ← hAe] at hnew
  rw [← hae] at ha
  rw [← hAe] at hA
  have Hnew := hide hnew
  have Ha := hide ha
  have HA := hide hA
  clear hnew ha hA hae hAe
  go_enter Try.func6, Try.ntmps6
  go_wp2_with fail
  refine Hnew.out.mono ?_
  rintro e w1 ⟨rfl, h1, k1⟩
  go_wp2_with fail
  refine (s1 h1 k1 Ha.out).mono ?_
  rintro e w2 ⟨rfl, h2, k2⟩
  go_wp2_with fail
  refine (s2 h2 k2).mono ?_
  rintro e w3 ⟨rfl, h3, k3⟩
  go_wp2_with fail
  refine (s3 h3 k3 Ha.out HA.out).mono ?_
  rintro e w4 ⟨rfl, h4, k4⟩
  go_wp2_with fail
  refine (s4 h4 k4 Ha.out HA.out).mono ?_
  rintro e w5 ⟨rfl, h5, k5⟩
  go_wp2_with fail
  refine (s5 h5 k5 Ha.out HA.out).mono ?_
  rintro e w6 ⟨rfl, h6, k6⟩
  go_wp2_with fail
  refine (s6 h6 k6 Ha.out HA.out).mono ?_
  rintro e w7 ⟨rfl, h7, k7⟩
  go_wp2_with fail
  refine (words_c h7).mono ?_
  rintro e w8 ⟨v, rfl, hv, k8⟩
  have h8 := h7.keptNil k8
  go_wp2_with fail
  have hi := ints_of (l := [7, 5]) (Is.new w8 3 #[.int .i64 7, .int .i64 5]) 2
  have hv2 := hv.kept ((Kept.refl Nil w8).alloc (.cells #[.int .i64 7, .int .i64 5] 3))
  have h9 := h8.alloc (.cells #[.int .i64 7, .int .i64 5] 3)
  refine (same_yes (l := [7, 5]) hv2 hi (by decide)).mono ?_
  rintro e w9 ⟨rfl, n9, rfl⟩
  have h10 := h9.drewN n9
  go_wp2_with fail
  refine (ops_c h10).mono ?_
  rintro e w10 ⟨rfl, rfl⟩
  have o5 : m5.ops = 4 := rfl
  rw [o5]
  clear o5
  go_wp2_with fail
  refine (last_c h10).mono ?_
  rintro e w11 ⟨rfl, k11⟩
  have h11 := h10.keptNil k11
  have o5 : m5.k = 3 ∧ m5.p = 2 ∧ m5.wr = true := ⟨rfl, rfl, rfl⟩
  rw [o5.1, o5.2.1, o5.2.2]
  clear o5
  go_wp2_with fail
  refine (len_c h11).mono ?_
  rintro e w12 ⟨rfl, rfl⟩
  have o5 : m5.ws.length = 2 := rfl
  rw [o5]
  clear o5
  go_wp2_with fail
  go_ret
  exact ⟨rfl, ((k7.trans k8 (fun _ _ z => z)).alloc _ |>.drewN n9).trans k11 (fun _ _ z => z)⟩
end
end Go.Proofs.Ytgljgdnnpmaigaa
