/- The law RingNone, walked: of nothing nothing comes. -/
import Derived.Test.YtfdndpbogljjeaaGFrame
namespace Go.Proofs.Ytfdndpbogljjeaa
open Go.RowKit

section
variable {w : World}
set_option maxHeartbeats 1000000
theorem none_out (i : Int) : atX [] i = 0 ∧ atB [] i = false ∧ cutL [] i = [] := by
  have h : ¬ (0 ≤ i ∧ i < (([] : List Int).length : Nat)) := by simp
  exact ⟨(at_out h).1, (at_out h).2, cut_out h⟩

/-- Nil, or a row of no things. -/
def NP (p : Option Addr) (a : Nat) : Prop := p = none ∨ p = some ⟨a, 0, none⟩
variable {p : Option Addr} {a : Nat} {w0 : World}
theorem popN (hp : NP p a) (h : RF w0 w Nil a []) : Calls Try.prog 7 #[.pointer p] w fun e w' => e = .returned (.tuple #[.int .i64 0, .bool false]) ∧ RF w0 w' Nil a [] := by
  rcases hp with rfl | rfl
  · exact pop_nil.mono fun e w' ⟨h1, h2⟩ => ⟨h1, h2 ▸ h⟩
  · exact (popF h).mono fun e w' ⟨h1, h2, _⟩ => ⟨h1, h2⟩
theorem atN (i : Int) (hp : NP p a) (h : RF w0 w Nil a []) : Calls Try.prog 8 #[.pointer p, .int .i64 i] w fun e w' => e = .returned (.tuple #[.int .i64 0, .bool false]) ∧ RF w0 w' Nil a [] := by
  rcases hp with rfl | rfl
  · exact (rat_nil i).mono fun e w' ⟨h1, h2⟩ => ⟨h1, h2 ▸ h⟩
  · refine (atF i h).mono fun e w' ⟨h1, h2, _⟩ => ⟨?_, h2⟩
    rw [(none_out i).1, (none_out i).2.1] at h1
    exact h1
theorem cutN (i : Int) (hp : NP p a) (h : RF w0 w Nil a []) : Calls Try.prog 9 #[.pointer p, .int .i64 i] w fun e w' => e = .returned (.tuple #[.int .i64 0, .bool false]) ∧ RF w0 w' Nil a [] := by
  rcases hp with rfl | rfl
  · exact (cut_nil i).mono fun e w' ⟨h1, h2⟩ => ⟨h1, h2 ▸ h⟩
  · refine (cutF i h).mono fun e w' ⟨h1, h2, _⟩ => ?_
    rw [(none_out i).1, (none_out i).2.1] at h1
    rw [(none_out i).2.2] at h2
    exact ⟨h1, h2⟩
theorem lenN (hp : NP p a) (h : RF w0 w Nil a []) : Calls Try.prog 10 #[.pointer p] w fun e w' => e = .returned (.int .i64 0) ∧ w = w' := by
  rcases hp with rfl | rfl
  · exact rlen_nil
  · exact lenF h
theorem allN (h : RF w0 w Nil a []) : Calls Try.prog 11 #[.pointer p] w fun e w' => e = .returned (.func (.func 23) #[] #[.pointer (some ⟨w.heap.size, 0, none⟩)]) ∧ RF w0 w' Nil a [] :=
  (gall_c p w).mono fun e w' ⟨h1, h2⟩ => ⟨h1, by subst h2; exact h.keptNil ((Kept.refl Nil w).alloc _)⟩
theorem collectN (hp : NP p a) (h : RF w0 w Nil a []) : Calls Try.prog 12 #[.pointer p, .int .i64 9] w fun e w' => ∃ A c, e = .returned (.slice A 0 c) ∧ RF w0 w' Nil a [] := by
  rcases hp with rfl | rfl
  · refine (collect_nil 9 (by decide)).mono fun e w' ⟨v, h1, h2, h3⟩ => ?_
    obtain ⟨A, c, e1, _, _⟩ := h2.form
    exact ⟨A, c, by rw [h1, e1]; rfl, h.keptNil h3⟩
  · refine (collectF 9 (by decide) h (by decide)).mono fun e w' ⟨v, h1, h2, h3, _⟩ => ?_
    obtain ⟨A, c, e1, _⟩ := h2
    exact ⟨A, c, by rw [h1, e1]; rfl, h3⟩
theorem findN (h : RF w0 w Nil a []) : Calls Try.prog 13 #[.pointer p, .nilFunc] w fun e w' => e = .returned (.int .i64 (-1)) ∧ RF w0 w' Nil a [] :=
  (find_nil p).mono fun _ _ ⟨h1, h2⟩ => ⟨h1, h.keptNil h2⟩

theorem pick_0 (x y : Option Addr) (w : World) : (Instr.index 27 (.agg #[.pointer x, .pointer y]) (.int .i64 0)).run Try.prog w = .ok (.pointer x) w := by kernel_rfl
theorem pick_1 (x y : Option Addr) (w : World) : (Instr.index 27 (.agg #[.pointer x, .pointer y]) (.int .i64 1)).run Try.prog w = .ok (.pointer y) w := by kernel_rfl

theorem none_walk (n : Int) (w : World) : Calls Try.prog 3 #[.int .i64 n] w fun e w' => e = .returned (.bool true) ∧ Kept Nil w w' := by
  have k0 := hide ((Kept.refl Nil w).alloc (.cells #[.slice none 0 0, .int .i64 0, .int .i64 0] 25))
  have h0 := hide (ring_new (Is.new w 25 #[.slice none 0 0, .int .i64 0, .int .i64 0]))
  have hr0 : RF w (w.alloc (.cells #[.slice none 0 0, .int .i64 0, .int .i64 0] 25)) Nil w.heap.size [] :=
    ⟨⟨none, h0.out, fun g e => ⟨Nat.le_of_eq (ofg_none e).symm, fun z => z⟩⟩, k0.out, fun g z => z.elim⟩
  have HR0 := hide hr0
  clear h0 hr0 k0
  go_enter Try.func3, Try.ntmps3
  go_wp2_with fail
  refine (push_nil n).mono ?_
  rintro e w1 ⟨rfl, hw1⟩
  rw [hw1] at HR0
  go_wp2_with fail
  obtain ⟨a, ha⟩ : ∃ a, w.heap.size = a := ⟨_, rfl⟩
  rw [ha] at HR0 ⊢
  clear ha hw1
  go_loopw [18] (fun i wr => ∃ k : Nat, k ≤ 2 ∧ i = .int .i64 k ∧ RF w wr Nil a []) (fun i _ => 2 - (intOf i).toNat)
  case atStart => exact ⟨0, by omega, rfl, HR0.out⟩
  case round =>
    obtain ⟨k, hk, rfl, hrf⟩ := hrel
    have HR := hide hrf
    clear hrf HR0
    rcases (show k = 0 ∨ k = 1 ∨ k = 2 by omega) with rfl | rfl | rfl
    · have hnp : NP none a := .inl rfl
      have hix := pick_0 none (some ⟨a, 0, none⟩) wr
      have HNP2 := hide hnp
      clear hnp
      go_wp2_with fail
      refine (popN HNP2.out HR.out).mono ?_
      rintro e w2 ⟨rfl, h2⟩
      have H2 := hide h2
      clear h2 HR
      go_wp2_with fail
      refine (atN n HNP2.out H2.out).mono ?_
      rintro e w3 ⟨rfl, h3⟩
      have H3 := hide h3
      clear h3 H2
      go_wp2_with fail
      refine (cutN n HNP2.out H3.out).mono ?_
      rintro e w4 ⟨rfl, h4⟩
      have H4 := hide h4
      clear h4 H3
      go_wp2_with fail
      refine (lenN HNP2.out H4.out).mono ?_
      rintro e w5 ⟨rfl, rfl⟩
      go_wp2_with fail
      refine (allN H4.out).mono ?_
      rintro e w5 ⟨rfl, h5⟩
      have H5 := hide h5
      clear h5 H4
      have hq := seq_some #[.pointer (some ⟨w4.heap.size, 0, none⟩)]
      go_wp2_with fail
      refine (collectN HNP2.out H5.out).mono ?_
      rintro e w6 ⟨A6, c6, rfl, h6⟩
      have H6 := hide h6
      clear h6 H5 hq
      go_wp2_with fail
      refine (findN H6.out).mono ?_
      rintro e w7 ⟨rfl, h7⟩
      have H7 := hide h7
      clear h7 H6
      go_wp2_with fail
      go_roundw
      case rel => exact ⟨1, by omega, by go_num, H7.out⟩
      case measure => simp [intOf]
    · have hnp : NP (some ⟨a, 0, none⟩) a := .inr rfl
      have hix := pick_1 none (some ⟨a, 0, none⟩) wr
      have HNP2 := hide hnp
      clear hnp
      go_wp2_with fail
      refine (popN HNP2.out HR.out).mono ?_
      rintro e w2 ⟨rfl, h2⟩
      have H2 := hide h2
      clear h2 HR
      go_wp2_with fail
      refine (atN n HNP2.out H2.out).mono ?_
      rintro e w3 ⟨rfl, h3⟩
      have H3 := hide h3
      clear h3 H2
      go_wp2_with fail
      refine (cutN n HNP2.out H3.out).mono ?_
      rintro e w4 ⟨rfl, h4⟩
      have H4 := hide h4
      clear h4 H3
      go_wp2_with fail
      refine (lenN HNP2.out H4.out).mono ?_
      rintro e w5 ⟨rfl, rfl⟩
      go_wp2_with fail
      refine (allN H4.out).mono ?_
      rintro e w5 ⟨rfl, h5⟩
      have H5 := hide h5
      clear h5 H4
      have hq := seq_some #[.pointer (some ⟨w4.heap.size, 0, none⟩)]
      go_wp2_with fail
      refine (collectN HNP2.out H5.out).mono ?_
      rintro e w6 ⟨A6, c6, rfl, h6⟩
      have H6 := hide h6
      clear h6 H5 hq
      go_wp2_with fail
      refine (findN H6.out).mono ?_
      rintro e w7 ⟨rfl, h7⟩
      have H7 := hide h7
      clear h7 H6
      go_wp2_with fail
      go_roundw
      case rel => exact ⟨2, by omega, by go_num, H7.out⟩
      case measure => simp [intOf]
    · go_wp2_with fail
      refine (rawake_c _).mono ?_
      rintro e w2 ⟨rfl, k2⟩
      go_wp2_with fail
      go_ret
      exact ⟨rfl, HR.out.kept.trans k2 (fun _ _ z => z)⟩
end
end Go.Proofs.Ytfdndpbogljjeaa
