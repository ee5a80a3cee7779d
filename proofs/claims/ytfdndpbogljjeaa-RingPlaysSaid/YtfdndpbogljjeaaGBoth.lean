/- A row of package ring and the document's own row, side by side, and the number that an act bears in a box. -/
import Derived.Test.YtfdndpbogljjeaaGOrder
namespace Go.Proofs.Ytfdndpbogljjeaa
open Go.RowKit

/-- The row at a holds xs; the document's own row, a slice at A, holds ys; box B holds n. -/
structure PS (w0 w : World) (a B : Nat) (n : Int) (A : Option Addr) (c : Nat) (xs ys : List Int) : Prop where
  ring : RF w0 w (fun g => In A g ∨ g = B) a xs
  row : Row w (.slice A ys.length c) ys
  box : Is w B 3 #[.int .i64 n]
  new : ∀ g, In A g → w0.heap.size ≤ g
  newB : w0.heap.size ≤ B
  apart : ¬ In A B

section
variable {w0 w w' : World} {a B c : Nat} {n : Int} {A : Option Addr} {xs ys : List Int}
set_option maxHeartbeats 800000

theorem PS.keptNil (h : PS w0 w a B n A c xs ys) (k : Kept Nil w w') : PS w0 w' a B n A c xs ys := ⟨h.ring.keptNil k, h.row.kept k (fun _ _ z => z), h.box.kept k (fun z => z), h.new, h.newB, h.apart⟩
theorem PS.start (h : RF w0 w (In A) a xs) (hr : Row w (.slice A ys.length c) ys) (hn : ∀ g, In A g → w0.heap.size ≤ g) (n : Int) : PS w0 (w.alloc (.cells #[.int .i64 n] 3)) a w.heap.size n A c xs ys := by
  refine ⟨h.beside ((Kept.refl (In A) w).alloc _) (fun g hg => ?_) hn, hr.alloc _, Is.new w _ _, hn, h.kept.size, fun z => absurd (h.low _ z) (Nat.lt_irrefl _)⟩
  rcases hg with hg | rfl
  · have := h.low g hg
    exact ⟨.inl hg, by simp; omega⟩
  · exact ⟨.inr (Nat.le_refl _), by simp⟩
theorem PS.done (h : PS w0 w a B n A c xs ys) : RF w0 w (In A) a xs := by
  obtain ⟨A', hr, hg⟩ := h.ring.ring
  exact ⟨⟨A', hr, fun g e => ⟨(hg g e).1, fun z => (hg g e).2 (.inl z)⟩⟩, h.ring.kept, fun g e => h.ring.low g (.inl e)⟩
/-- What a call on the row alone leaves of the rest. -/
theorem PS.ring' {zs : List Int} (h : PS w0 w a B n A c xs ys) (h2 : RF w0 w' (fun g => In A g ∨ g = B) a zs) (k : Kept (fun g => ¬ (In A g ∨ g = B)) w w') : PS w0 w' a B n A c zs ys :=
  ⟨h2, h.row.kept k (fun _ hg z => z (.inl hg)), h.box.kept k (fun z => z (.inr rfl)), h.new, h.newB, h.apart⟩
/-- Another slice for the document's row. -/
theorem PS.row' {A' : Option Addr} {c' : Nat} {zs : List Int} {S : Nat → Prop} (h : PS w0 w a B n A c xs ys) (hr : Row w' (.slice A' zs.length c') zs) (k : Kept S w w') (hS : ∀ g, S g → In A g) (hin : ∀ g, In A' g → In A g ∨ w.heap.size ≤ g) : PS w0 w' a B n A' c' xs zs := by
  have hlt := h.box.lt
  refine ⟨h.ring.beside (k.more fun i _ z => .inl (hS i z)) (fun g hg => ?_) (fun g hg => ?_), hr, h.box.kept k (fun z => h.apart (hS _ z)), fun g hg => ?_, h.newB, fun hz => ?_⟩
  · rcases hg with hg | rfl
    · exact ⟨(hin g hg).imp .inl id, hr.lt hg⟩
    · exact ⟨.inl (.inr rfl), Nat.lt_of_lt_of_le hlt k.size⟩
  · rcases hg with hg | rfl
    · exact h.new g hg
    · exact h.newB
  · rcases hin g hg with e | e
    · exact h.new g e
    · exact Nat.le_trans h.ring.kept.size e
  · rcases hin _ hz with e | e
    · exact h.apart e
    · omega

theorem pushP (x : Int) (h : PS w0 w a B n A c xs ys) (hx : xs.length ≤ 400000) : Calls Try.prog 6 #[.pointer (some ⟨a, 0, none⟩), .int .i64 x] w fun e w' => e = .returned (.tuple #[]) ∧ PS w0 w' a B n A c (xs ++ [x]) ys :=
  (pushF x h.ring hx).mono fun _ _ ⟨h1, h2, h3⟩ => ⟨h1, h.ring' h2 h3⟩
theorem popP (h : PS w0 w a B n A c xs ys) : Calls Try.prog 7 #[.pointer (some ⟨a, 0, none⟩)] w fun e w' => e = .returned (.tuple #[.int .i64 (atX xs 0), .bool (atB xs 0)]) ∧ PS w0 w' a B n A c (cutL xs 0) ys :=
  (popF h.ring).mono fun _ _ ⟨h1, h2, h3⟩ => ⟨h1, h.ring' h2 h3⟩
theorem cutP (i : Int) (h : PS w0 w a B n A c xs ys) : Calls Try.prog 9 #[.pointer (some ⟨a, 0, none⟩), .int .i64 i] w fun e w' => e = .returned (.tuple #[.int .i64 (atX xs i), .bool (atB xs i)]) ∧ PS w0 w' a B n A c (cutL xs i) ys :=
  (cutF i h.ring).mono fun _ _ ⟨h1, h2, h3⟩ => ⟨h1, h.ring' h2 h3⟩
theorem atP (i : Int) (h : PS w0 w a B n A c xs ys) : Calls Try.prog 8 #[.pointer (some ⟨a, 0, none⟩), .int .i64 i] w fun e w' => e = .returned (.tuple #[.int .i64 (atX xs i), .bool (atB xs i)]) ∧ PS w0 w' a B n A c xs ys ∧ Kept Nil w w' :=
  (atF i h.ring).mono fun _ _ ⟨h1, _, h3⟩ => ⟨h1, h.keptNil h3, h3⟩
theorem lenP (h : PS w0 w a B n A c xs ys) : Calls Try.prog 10 #[.pointer (some ⟨a, 0, none⟩)] w fun e w' => e = .returned (.int .i64 xs.length) ∧ w = w' := lenF h.ring
theorem dcutP (i : Int) (h : PS w0 w a B n A c xs ys) (hl : ys.length ≤ 65536) : Calls Try.prog 16 #[.slice A ys.length c, .int .i64 i] w fun e w' =>
    ∃ A' c', e = .returned (.tuple #[.slice A' (cutL ys i).length c', .int .i64 (atX ys i), .bool (atB ys i)]) ∧ PS w0 w' a B n A' c' xs (cutL ys i) :=
  (refCut_c i h.row hl).mono fun _ _ ⟨A', c', h1, h2, h3, h4⟩ => ⟨A', c', h1, h.row' h2 h3 (fun _ z => z.elim) h4⟩
theorem datP (i : Int) (h : PS w0 w a B n A c xs ys) : Calls Try.prog 17 #[.slice A ys.length c, .int .i64 i] w fun e w' => e = .returned (.tuple #[.int .i64 (atX ys i), .bool (atB ys i)]) ∧ w = w' := refAt_c i h.row
theorem dfindP (x : Int) (h : PS w0 w a B n A c xs ys) (hl : ys.length ≤ 65536) : Calls Try.prog 19 #[.slice A ys.length c, .int .i64 x] w fun e w' => e = .returned (.int .i64 (findI ys fun y => y == x)) ∧ w = w' := refFind_c x h.row hl

theorem entersN (args : Array Value) (w : World) : (callFunc 18 args).run Try.prog w = .ok (.enter 18 args) w :=
  enters_of Try.func18 (by kernel_rfl) rfl args w
theorem isN (x : Int) (w : World) (h : w.cell? ⟨B, 0, none⟩ = some (.int .i64 n)) : Calls Try.prog 18 (#[.int .i64 x] ++ #[.pointer (some ⟨B, 0, none⟩)]) w fun e w' => e = .returned (.bool (x == n)) ∧ Kept Nil w w' := by
  go_enter Try.func18, Try.ntmps18
  go_wp2
  go_ret
  exact ⟨rfl, Kept.refl _ _⟩
theorem findP (h : PS w0 w a B n A c xs ys) (hx : xs.length ≤ 65536) : Calls Try.prog 13 #[.pointer (some ⟨a, 0, none⟩), .func (.func 18) #[] #[.pointer (some ⟨B, 0, none⟩)]] w fun e w' =>
    e = .returned (.int .i64 (findI xs fun y => y == n)) ∧ Kept Nil w w' :=
  (findF (p := fun y => y == n) h.ring (by omega) entersN (fun W x k => isN x W ((h.box.kept k (fun z => z)).cell 0))).mono fun _ _ ⟨h1, _, h3⟩ => ⟨h1, h3⟩
end
end Go.Proofs.Ytfdndpbogljjeaa
