/- Package ring: Push. -/
import Derived.Test.YtfdndpbogljjeaaGGrow
namespace Go.Proofs.Ytfdndpbogljjeaa
open Go.RowKit

section
variable {w : World} {a : Nat} {A : Option Addr} {c f : Nat} {V : Nat → Int} {xs : List Int}
set_option maxHeartbeats 1000000

theorem push_nil (x : Int) : Calls Try.prog 6 #[.pointer none, .int .i64 x] w fun e w' => e = .returned (.tuple #[]) ∧ w = w' := by
  go_enter Try.func6, Try.ntmps6
  go_wp2_with fail
  refine bodyPost_ret (results_none rfl _ _ _) rfl ?_
  exact ⟨rfl, rfl⟩

/-- What a row with room tells of the slot behind its things. -/
structure Room (w : World) (a b c : Nat) (xs : List Int) (x : Int) (P : Nat) (Z : World → Value) : Prop where
  slot : ∀ W, Kept Nil w W → Calls Try.prog 21 #[.pointer (some ⟨a, 0, none⟩), .int .i64 xs.length] W fun e w' => e = .returned (.int .i64 (P : Nat)) ∧ Kept Nil w w'
  ahead : ∀ W, Kept Nil w W → W.cell? ⟨a, 0, none⟩ = some (.slice (some ⟨b, 0, none⟩) c c) ∧ W.cell? ⟨a, 2, none⟩ = some (.int .i64 xs.length) ∧ W.cell? ⟨b, P, none⟩ = some (Z W) ∧ W.frozen? ⟨b, P, none⟩ = false
  after : ∀ W, Kept Nil w W → (W.setCell ⟨b, P, none⟩ (.int .i64 x)).cell? ⟨a, 0, none⟩ = some (.slice (some ⟨b, 0, none⟩) c c) ∧ (W.setCell ⟨b, P, none⟩ (.int .i64 x)).cell? ⟨a, 2, none⟩ = some (.int .i64 xs.length) ∧
      (W.setCell ⟨b, P, none⟩ (.int .i64 x)).cell? ⟨b, P, none⟩ = some (Z (W.setCell ⟨b, P, none⟩ (.int .i64 x))) ∧ (W.setCell ⟨b, P, none⟩ (.int .i64 x)).frozen? ⟨b, P, none⟩ = false
  free : ∀ W, Kept Nil w W → (W.setCell ⟨b, P, none⟩ (.int .i64 x)).cell? ⟨a, 2, none⟩ = some (.int .i64 xs.length) ∧ (W.setCell ⟨b, P, none⟩ (.int .i64 x)).frozen? ⟨a, 2, none⟩ = false
  fin : ∀ W, Kept Nil w W → Ring ((W.setCell ⟨b, P, none⟩ (.int .i64 x)).setCell ⟨a, 2, none⟩ (.int .i64 ((xs.length : Int) + 1))) a (some ⟨b, 0, none⟩) (xs ++ [x]) ∧
    Kept (OfG a (some ⟨b, 0, none⟩)) w ((W.setCell ⟨b, P, none⟩ (.int .i64 x)).setCell ⟨a, 2, none⟩ (.int .i64 ((xs.length : Int) + 1)))
  lt : P < c

theorem room_of {b : Nat} (x : Int) (h : RingAt w a (some ⟨b, 0, none⟩) c f V xs) (hlt : xs.length < c) : ∃ P Z, Room w a b c xs x P Z := by
  have hbf : Is w b 3 (slotCells c V) ∧ f < c := by
    rcases h.slots with ⟨e, _⟩ | ⟨b', e, hb, hf⟩
    · cases e
    · injection e with e; injection e with e; subst e; exact ⟨hb, hf⟩
  obtain ⟨hb, hf⟩ := hbf
  have hab : a ≠ b := h.own.ne hb (by decide)
  have small := h.small
  have hpl : (f + xs.length) % c < c := Nat.mod_lt _ (by omega)
  obtain ⟨U, hU⟩ := put_c x h hf hb hlt
  obtain ⟨P, hP⟩ : ∃ P, (f + xs.length) % c = P := ⟨_, rfl⟩
  rw [hP] at hU hpl
  obtain ⟨Z, hZ⟩ : ∃ Z : World → Value, ∀ (W : World) v, W.cell? ⟨b, P, none⟩ = some v → W.cell? ⟨b, P, none⟩ = some (Z W) := ⟨fun W => (W.cell? ⟨b, P, none⟩).getD undef, fun W v e => by show _ = some ((W.cell? ⟨b, P, none⟩).getD undef); rw [e]; rfl⟩
  refine ⟨P, Z, ⟨fun W k => ?_, fun W k => ?_, fun W k => ?_, fun W k => ?_, fun W k => ?_, hpl⟩⟩
  · exact (slot_c xs.length (h.own.kept k (fun z => z)) hf (by omega) small).mono (fun e w' ⟨h1, n, h3⟩ => ⟨by rw [← hP]; exact h1, by subst h3; exact k.drewN n⟩)
  · exact ⟨(h.own.kept k (fun z => z)).cell 0, (h.own.kept k (fun z => z)).cell 2, hZ W _ (((hb.kept k (fun z => z)).cell _).trans (slotCells_at hpl)), (hb.kept k (fun z => z)).free _⟩
  · have o1 := (h.own.kept k (fun z => z)).other (p := ⟨b, P, none⟩) hab (.int .i64 x)
    have o2 := (hb.kept k (fun z => z)).set P (.int .i64 x)
    rw [slotCells_set] at o2
    exact ⟨o1.cell 0, o1.cell 2, hZ _ _ ((o2.cell _).trans (slotCells_at hpl)), o2.free _⟩
  · have o1 := (h.own.kept k (fun z => z)).other (p := ⟨b, P, none⟩) hab (.int .i64 x)
    exact ⟨o1.cell 2, o1.free 2⟩
  · exact ⟨⟨c, f, U, (hU W k).1⟩, (hU W k).2⟩

/-- There is room. -/
theorem push_room {b : Nat} (x : Int) (h : RingAt w a (some ⟨b, 0, none⟩) c f V xs) (hlt : xs.length < c) :
    Calls Try.prog 6 #[.pointer (some ⟨a, 0, none⟩), .int .i64 x] w fun e w' => e = .returned (.tuple #[]) ∧ Ring w' a (some ⟨b, 0, none⟩) (xs ++ [x]) ∧ Kept (OfG a (some ⟨b, 0, none⟩)) w w' := by
  have small := h.small
  have g0 : w.cell? ⟨a, 0, none⟩ = some (.slice (some ⟨b, 0, none⟩) c c) := h.own.cell 0
  have g2 : w.cell? ⟨a, 2, none⟩ = some (.int .i64 xs.length) := h.own.cell 2
  obtain ⟨P, Z, hr⟩ := room_of x h hlt
  have hpl := hr.lt
  have HR := hide hr
  have hne : ((xs.length : Int) == (c : Int)) = false := by simp; omega
  have hK : ∀ n, Kept Nil w (w.drewN n).drew := fun n => ((Kept.refl _ w).drewN n).drew
  clear hr
  go_enter Try.func6, Try.ntmps6
  go_wp2_with fail
  go_quiet (fail)
  have hK := hK nq
  go_wp2_with fail
  go_region_held3 (fun W => W.cell? ⟨a, 0, none⟩ = some (.slice (some ⟨b, 0, none⟩) c c) ∧ W.cell? ⟨a, 2, none⟩ = some (.int .i64 xs.length) ∧ W.cell? ⟨b, P, none⟩ = some (Z W) ∧ W.frozen? ⟨b, P, none⟩ = false)
    (first | exact HR.out.ahead _ (by assumption) | exact HR.out.ahead _ (Kept.drew (by assumption)) | exact HR.out.after _ (by assumption))
    ((go_at_call 21; refine (HR.out.slot _ (by assumption)).mono ?_; rintro e w1 ⟨rfl, hk1⟩))
  have HK1 := hide hk1
  obtain ⟨q1, q2⟩ := HR.out.free _ hk1
  clear hk1
  go_wp2_with fail
  go_end0
  have := HR.out.fin _ HK1.out
  exact ⟨rfl, this.1, this.2⟩

/-- There is none: the list is laid anew first. -/
theorem push_full (x : Int) (h : RingAt w a A c f V xs) (hc : xs.length = c) (hx : xs.length ≤ 400000) :
    Calls Try.prog 6 #[.pointer (some ⟨a, 0, none⟩), .int .i64 x] w fun e w' => e = .returned (.tuple #[]) ∧ ∃ b, w.heap.size ≤ b ∧ Ring w' a (some ⟨b, 0, none⟩) (xs ++ [x]) ∧ Kept (fun i => i = a) w w' := by
  have g0 : w.cell? ⟨a, 0, none⟩ = some (.slice A c c) := h.own.cell 0
  have g2 : w.cell? ⟨a, 2, none⟩ = some (.int .i64 xs.length) := h.own.cell 2
  have hl := hide fun n => lay_c (show Ring (w.drewN n) a A xs from ⟨c, f, V, h.keptNil ((Kept.refl Nil w).drewN n)⟩) hx
  have HW := hide fun n => (Kept.refl (fun i => i = a) w).drewN n
  subst hc
  have hne : ((xs.length : Int) == (xs.length : Int)) = true := by simp
  go_enter Try.func6, Try.ntmps6
  go_wp2_with fail
  go_quiet (fail)
  go_wp2_with fail
  refine (hl.out _).mono ?_
  rintro e w2 ⟨rfl, b, U, hge, hr2, hk2⟩
  obtain ⟨P, Z, hr⟩ := room_of x hr2 (by omega)
  have hpl := hr.lt
  have HR := hide hr
  have hK : Kept Nil w2 w2.drew := (Kept.refl _ w2).drew
  have HG := hide (And.intro hge ((HW.out nq).trans hk2 (fun _ _ z => z)))
  clear hr hr2 hk2 hge g0 g2
  generalize 2 * xs.length + 1 = c at *
  go_wp2_with fail
  go_region_held3 (fun W => W.cell? ⟨a, 0, none⟩ = some (.slice (some ⟨b, 0, none⟩) c c) ∧ W.cell? ⟨a, 2, none⟩ = some (.int .i64 xs.length) ∧ W.cell? ⟨b, P, none⟩ = some (Z W) ∧ W.frozen? ⟨b, P, none⟩ = false)
    (first | exact HR.out.ahead _ (by assumption) | exact HR.out.ahead _ (Kept.drew (by assumption)) | exact HR.out.after _ (by assumption))
    ((go_at_call 21; refine (HR.out.slot _ (by assumption)).mono ?_; rintro e w1 ⟨rfl, hk1⟩))
  have HK1 := hide hk1
  obtain ⟨q1, q2⟩ := HR.out.free _ hk1
  clear hk1
  go_wp2_with fail
  go_end0
  have := HR.out.fin _ HK1.out
  have hgr : w.heap.size ≤ b := HG.out.1
  refine ⟨rfl, b, hgr, this.1, HG.out.2.trans this.2 ?_⟩
  rintro i hi (z | z)
  · exact z
  · injection z with z; injection z with z; omega

/-- Push. -/
theorem push_c (x : Int) (h : Ring w a A xs) (hx : xs.length ≤ 400000) : Calls Try.prog 6 #[.pointer (some ⟨a, 0, none⟩), .int .i64 x] w fun e w' =>
    e = .returned (.tuple #[]) ∧ ∃ A', Ring w' a A' (xs ++ [x]) ∧ Kept (OfG a A) w w' ∧ (A' = A ∨ ∃ b, A' = some ⟨b, 0, none⟩ ∧ w.heap.size ≤ b) := by
  obtain ⟨c, f, V, h⟩ := h
  have fits := h.fits
  by_cases hc : xs.length = c
  · refine (push_full x h hc hx).mono ?_
    rintro e w' ⟨he, b, hb, hr, hk⟩
    exact ⟨he, _, hr, hk.more (fun i _ e => .inl e), .inr ⟨b, rfl, hb⟩⟩
  · rcases h.slots with ⟨_, h0⟩ | ⟨b, rfl, _, _⟩
    · omega
    · refine (push_room x h (by omega)).mono ?_
      rintro e w' ⟨he, hr, hk⟩
      exact ⟨he, _, hr, hk, .inl rfl⟩
end
end Go.Proofs.Ytfdndpbogljjeaa
