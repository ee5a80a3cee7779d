/- One act, done to an arena and to the document's: both tell the same, and come to the same. -/
import Derived.Test.YtgljgdnnpmaigaaSame
import Derived.Test.YtgljgdnnpmaigaaAny
namespace Go.Proofs.Ytgljgdnnpmaigaa
open Go.RowKit

/-- The blocks of both. -/
def OfB (q A : Option Addr) (b : Nat) (B : Option Addr) : Nat → Prop := fun k => OfQ q A k ∨ OfR b B k
/-- An arena, and the document's. -/
structure Both (w : World) (q A : Option Addr) (b : Nat) (B : Option Addr) (c : Nat) (s1 s2 : St) : Prop where
  one : AnyAt w q A s1
  two : RefAt w b B c s2

section
variable {b c : Nat} {q A B : Option Addr} {s s1 s2 t : St} {w w' W w0 : World} {r : Ending} {f : FuncId} {args : Array Value}

theorem Both.in_b (h : Both w q A b B c s1 s2) {g : Nat} (hg : OfR b B g) : ¬ OfQ q A g := by
  rcases hg with e | e
  · subst e
    exact h.one.other h.two.own (by decide) (by decide)
  · obtain ⟨cur, hi, _⟩ := h.two.row.block e
    exact h.one.other hi (by decide) (by decide)
theorem Both.out (h : Both w q A b B c s1 s2) {g : Nat} {t : TypeId} {cs : Array Value} (hi : Is w g t cs) (h1 : t ≠ 37) (h2 : t ≠ 58) (h3 : t ≠ 53) (h4 : t ≠ 3) : ¬ OfB q A b B g := by
  rintro (e | e)
  · exact h.one.other hi h1 h2 e
  · rcases e with e | e
    · subst e
      exact hi.ne h.two.own h3 rfl
    · exact h.two.row.ne hi h4 e
theorem Both.keptNil (h : Both w q A b B c s1 s2) (k : Kept Nil w w') : Both w' q A b B c s1 s2 := ⟨h.one.keptNil k, h.two.keptNil k⟩
theorem Both.lift1 (h : Both W q A b B c s1 s2) (k : Kept (OfB q A b B) w0 W) (hc : Calls Try.prog f args W fun e w' => e = r ∧ AnyAt w' q A t ∧ Kept (OfQ q A) W w') :
    Calls Try.prog f args W fun e w' => e = r ∧ Both w' q A b B c t s2 ∧ Kept (OfB q A b B) w0 w' :=
  hc.mono fun _ _ ⟨h1, h2, h3⟩ => ⟨h1, ⟨h2, h.two.kept h3 (fun x => h.in_b (.inl rfl) x) (fun _ hg x => h.in_b (.inr hg) x)⟩, k.trans h3 (fun _ _ x => .inl x)⟩
theorem Both.lift2 (h : Both W q A b B c s1 s2) (k : Kept (OfB q A b B) w0 W) (hc : Calls Try.prog f args W fun e w' => e = r ∧ RefAt w' b B c t ∧ Kept (OfR b B) W w') :
    Calls Try.prog f args W fun e w' => e = r ∧ Both w' q A b B c s1 t ∧ Kept (OfB q A b B) w0 w' :=
  hc.mono fun _ _ ⟨h1, h2, h3⟩ => ⟨h1, ⟨h.one.kept h3 (fun _ _ _ _ x y => h.in_b y x), h2⟩, k.trans h3 (fun _ _ x => .inr x)⟩

/-- What an act comes to. -/
def St.act (s : St) (k p x y : Int) : St :=
  if k = 0 then (if 0 ≤ x ∧ x ≤ (s.room : Int) - s.ws.length then s.take x.toNat else s)
  else if k = 1 then s.load p
  else if k = 2 then s.store p x
  else if k = 3 then s.swap p x
  else if k = 4 then s.cas p x y
  else if k = 5 then s.add p x
  else s

set_option maxHeartbeats 800000

theorem do_load (p x y : Int) (h : Both w q A b B c s s) (hn : s.ops < 4611686018427387904) : Calls Try.prog 9 #[.pointer q, .pointer (some ⟨b, 0, none⟩), .agg #[.int .i64 1, .int .i64 p, .int .i64 x, .int .i64 y]] w fun e w' =>
    e = .returned (.bool true) ∧ Both w' q A b B c (s.load p) (s.load p) ∧ Kept (OfB q A b B) w w' := by
  obtain ⟨w0, hw0⟩ : ∃ w0, w0 = w.alloc (.cells #[.int .i64 1, .int .i64 p, .int .i64 x, .int .i64 y] 30) := ⟨_, rfl⟩
  have hB0 : Both w0 q A b B c s s := by rw [hw0]; exact h.keptNil ((Kept.refl _ w).alloc _)
  have hk0 : Kept (OfB q A b B) w w0 := by rw [hw0]; exact (Kept.refl _ w).alloc _
  have hbx : Is w0 w.heap.size 30 #[.int .i64 1, .int .i64 p, .int .i64 x, .int .i64 y] := by rw [hw0]; exact Is.new w _ _
  have hout : ¬ OfB q A b B w.heap.size := hB0.out hbx (by decide) (by decide) (by decide) (by decide)
  have c1 := hide fun (W : World) (hb : Both W q A b B c s s) (k : Kept (OfB q A b B) w0 W) => hb.lift1 k (load_q p hb.one hn)
  have c2 := hide fun (W : World) (hb : Both W q A b B c (s.load p) s) (k : Kept (OfB q A b B) w0 W) => hb.lift2 k (rload_c p hb.two hn)
  have CELLS := hide fun (W : World) (k : Kept (OfB q A b B) w0 W) => (And.intro ((hbx.kept k hout).cell 0) (And.intro ((hbx.kept k hout).cell 1) (And.intro ((hbx.kept k hout).cell 2) ((hbx.kept k hout).cell 3))))
  have hB1 : Both w0.drew q A b B c s s := hB0.keptNil (Kept.refl _ w0).drew
  have hK1 : Kept (OfB q A b B) w0 w0.drew := (Kept.refl _ w0).drew
  have HK := hide hk0
  clear hk0 hB0
  subst hw0
  go_enter Try.func9, Try.ntmps9
  go_wp2_with fail
  go_region_held3 (fun W => W.cell? ⟨w.heap.size, 0, none⟩ = some (.int .i64 1) ∧ W.cell? ⟨w.heap.size, 1, none⟩ = some (.int .i64 p) ∧ W.cell? ⟨w.heap.size, 2, none⟩ = some (.int .i64 x) ∧ W.cell? ⟨w.heap.size, 3, none⟩ = some (.int .i64 y))
    (first | exact CELLS.out _ (by assumption) | exact CELLS.out _ (Kept.drew (by assumption)))
    (first
      | (go_at_call 16; refine (c1.out _ (by assumption) (by assumption)).mono ?_; rintro e w1 ⟨rfl, hb1, hk1⟩)
      | (go_at_call 23; refine (c2.out _ (by assumption) (by assumption)).mono ?_; rintro e w2 ⟨rfl, hb2, hk2⟩))
  all_goals go_wp2_with fail
  all_goals go_ret
  all_goals exact ⟨rfl, by assumption, HK.out.trans (by assumption) (fun _ _ z => z)⟩

theorem do_store (p x y : Int) (h : Both w q A b B c s s) (hn : s.ops < 4611686018427387904) : Calls Try.prog 9 #[.pointer q, .pointer (some ⟨b, 0, none⟩), .agg #[.int .i64 2, .int .i64 p, .int .i64 x, .int .i64 y]] w fun e w' =>
    e = .returned (.bool true) ∧ Both w' q A b B c (s.store p x) (s.store p x) ∧ Kept (OfB q A b B) w w' := by
  obtain ⟨w0, hw0⟩ : ∃ w0, w0 = w.alloc (.cells #[.int .i64 2, .int .i64 p, .int .i64 x, .int .i64 y] 30) := ⟨_, rfl⟩
  have hB0 : Both w0 q A b B c s s := by rw [hw0]; exact h.keptNil ((Kept.refl _ w).alloc _)
  have hk0 : Kept (OfB q A b B) w w0 := by rw [hw0]; exact (Kept.refl _ w).alloc _
  have hbx : Is w0 w.heap.size 30 #[.int .i64 2, .int .i64 p, .int .i64 x, .int .i64 y] := by rw [hw0]; exact Is.new w _ _
  have hout : ¬ OfB q A b B w.heap.size := hB0.out hbx (by decide) (by decide) (by decide) (by decide)
  have c1 := hide fun (W : World) (hb : Both W q A b B c s s) (k : Kept (OfB q A b B) w0 W) => hb.lift1 k (store_q p x hb.one hn)
  have c2 := hide fun (W : World) (hb : Both W q A b B c (s.store p x) s) (k : Kept (OfB q A b B) w0 W) => hb.lift2 k (rstore_c p x hb.two hn)
  have CELLS := hide fun (W : World) (k : Kept (OfB q A b B) w0 W) => (And.intro ((hbx.kept k hout).cell 0) (And.intro ((hbx.kept k hout).cell 1) (And.intro ((hbx.kept k hout).cell 2) ((hbx.kept k hout).cell 3))))
  have hK1 : Kept (OfB q A b B) w0 w0 := Kept.refl _ w0
  have HK := hide hk0
  have HB := hide hB0
  have HK1 := hide hK1
  clear hk0 hB0 hK1
  subst hw0
  go_enter Try.func9, Try.ntmps9
  go_wp2_with fail
  refine (c1.out _ HB.out HK1.out).mono ?_
  rintro e w1 ⟨rfl, hb1, hk1⟩
  obtain ⟨e0, e1, e2, e3⟩ := CELLS.out w1 hk1
  simp at e0 e1 e2 e3
  go_wp2_with fail
  refine (c2.out _ hb1 hk1).mono ?_
  rintro e w2 ⟨rfl, hb2, hk2⟩
  go_wp2_with fail
  go_ret
  exact ⟨rfl, hb2, HK.out.trans hk2 (fun _ _ z => z)⟩

theorem do_swap (p x y : Int) (h : Both w q A b B c s s) (hn : s.ops < 4611686018427387904) : Calls Try.prog 9 #[.pointer q, .pointer (some ⟨b, 0, none⟩), .agg #[.int .i64 3, .int .i64 p, .int .i64 x, .int .i64 y]] w fun e w' =>
    e = .returned (.bool true) ∧ Both w' q A b B c (s.swap p x) (s.swap p x) ∧ Kept (OfB q A b B) w w' := by
  obtain ⟨w0, hw0⟩ : ∃ w0, w0 = w.alloc (.cells #[.int .i64 3, .int .i64 p, .int .i64 x, .int .i64 y] 30) := ⟨_, rfl⟩
  have hB0 : Both w0 q A b B c s s := by rw [hw0]; exact h.keptNil ((Kept.refl _ w).alloc _)
  have hk0 : Kept (OfB q A b B) w w0 := by rw [hw0]; exact (Kept.refl _ w).alloc _
  have hbx : Is w0 w.heap.size 30 #[.int .i64 3, .int .i64 p, .int .i64 x, .int .i64 y] := by rw [hw0]; exact Is.new w _ _
  have hout : ¬ OfB q A b B w.heap.size := hB0.out hbx (by decide) (by decide) (by decide) (by decide)
  have c1 := hide fun (W : World) (hb : Both W q A b B c s s) (k : Kept (OfB q A b B) w0 W) => hb.lift1 k (swap_q p x hb.one hn)
  have c2 := hide fun (W : World) (hb : Both W q A b B c (s.swap p x) s) (k : Kept (OfB q A b B) w0 W) => hb.lift2 k (rswap_c p x hb.two hn)
  have CELLS := hide fun (W : World) (k : Kept (OfB q A b B) w0 W) => (And.intro ((hbx.kept k hout).cell 0) (And.intro ((hbx.kept k hout).cell 1) (And.intro ((hbx.kept k hout).cell 2) ((hbx.kept k hout).cell 3))))
  have hB1 : Both w0.drew q A b B c s s := hB0.keptNil (Kept.refl _ w0).drew
  have hK1 : Kept (OfB q A b B) w0 w0.drew := (Kept.refl _ w0).drew
  have HK := hide hk0
  clear hk0 hB0
  subst hw0
  go_enter Try.func9, Try.ntmps9
  go_wp2_with fail
  go_region_held3 (fun W => W.cell? ⟨w.heap.size, 0, none⟩ = some (.int .i64 3) ∧ W.cell? ⟨w.heap.size, 1, none⟩ = some (.int .i64 p) ∧ W.cell? ⟨w.heap.size, 2, none⟩ = some (.int .i64 x) ∧ W.cell? ⟨w.heap.size, 3, none⟩ = some (.int .i64 y))
    (first | exact CELLS.out _ (by assumption) | exact CELLS.out _ (Kept.drew (by assumption)))
    (first
      | (go_at_call 18; refine (c1.out _ (by assumption) (by assumption)).mono ?_; rintro e w1 ⟨rfl, hb1, hk1⟩)
      | (go_at_call 25; refine (c2.out _ (by assumption) (by assumption)).mono ?_; rintro e w2 ⟨rfl, hb2, hk2⟩))
  all_goals go_wp2_with fail
  all_goals go_ret
  all_goals exact ⟨rfl, by assumption, HK.out.trans (by assumption) (fun _ _ z => z)⟩

theorem do_cas (p x y : Int) (h : Both w q A b B c s s) (hn : s.ops < 4611686018427387904) : Calls Try.prog 9 #[.pointer q, .pointer (some ⟨b, 0, none⟩), .agg #[.int .i64 4, .int .i64 p, .int .i64 x, .int .i64 y]] w fun e w' =>
    e = .returned (.bool true) ∧ Both w' q A b B c (s.cas p x y) (s.cas p x y) ∧ Kept (OfB q A b B) w w' := by
  obtain ⟨w0, hw0⟩ : ∃ w0, w0 = w.alloc (.cells #[.int .i64 4, .int .i64 p, .int .i64 x, .int .i64 y] 30) := ⟨_, rfl⟩
  have hB0 : Both w0 q A b B c s s := by rw [hw0]; exact h.keptNil ((Kept.refl _ w).alloc _)
  have hk0 : Kept (OfB q A b B) w w0 := by rw [hw0]; exact (Kept.refl _ w).alloc _
  have hbx : Is w0 w.heap.size 30 #[.int .i64 4, .int .i64 p, .int .i64 x, .int .i64 y] := by rw [hw0]; exact Is.new w _ _
  have hout : ¬ OfB q A b B w.heap.size := hB0.out hbx (by decide) (by decide) (by decide) (by decide)
  have c1 := hide fun (W : World) (hb : Both W q A b B c s s) (k : Kept (OfB q A b B) w0 W) => hb.lift1 k (cas_q p x y hb.one hn)
  have c2 := hide fun (W : World) (hb : Both W q A b B c (s.cas p x y) s) (k : Kept (OfB q A b B) w0 W) => hb.lift2 k (rcas_c p x y hb.two hn)
  have CELLS := hide fun (W : World) (k : Kept (OfB q A b B) w0 W) => (And.intro ((hbx.kept k hout).cell 0) (And.intro ((hbx.kept k hout).cell 1) (And.intro ((hbx.kept k hout).cell 2) ((hbx.kept k hout).cell 3))))
  have hB1 : Both w0.drew q A b B c s s := hB0.keptNil (Kept.refl _ w0).drew
  have hK1 : Kept (OfB q A b B) w0 w0.drew := (Kept.refl _ w0).drew
  have HK := hide hk0
  clear hk0 hB0
  subst hw0
  go_enter Try.func9, Try.ntmps9
  go_wp2_with fail
  go_region_held3 (fun W => W.cell? ⟨w.heap.size, 0, none⟩ = some (.int .i64 4) ∧ W.cell? ⟨w.heap.size, 1, none⟩ = some (.int .i64 p) ∧ W.cell? ⟨w.heap.size, 2, none⟩ = some (.int .i64 x) ∧ W.cell? ⟨w.heap.size, 3, none⟩ = some (.int .i64 y))
    (first | exact CELLS.out _ (by assumption) | exact CELLS.out _ (Kept.drew (by assumption)))
    (first
      | (go_at_call 19; refine (c1.out _ (by assumption) (by assumption)).mono ?_; rintro e w1 ⟨rfl, hb1, hk1⟩)
      | (go_at_call 26; refine (c2.out _ (by assumption) (by assumption)).mono ?_; rintro e w2 ⟨rfl, hb2, hk2⟩))
  all_goals go_wp2_with fail
  all_goals go_ret
  all_goals exact ⟨rfl, by assumption, HK.out.trans (by assumption) (fun _ _ z => z)⟩

theorem do_add (p x y : Int) (h : Both w q A b B c s s) (hn : s.ops < 4611686018427387904) : Calls Try.prog 9 #[.pointer q, .pointer (some ⟨b, 0, none⟩), .agg #[.int .i64 5, .int .i64 p, .int .i64 x, .int .i64 y]] w fun e w' =>
    e = .returned (.bool true) ∧ Both w' q A b B c (s.add p x) (s.add p x) ∧ Kept (OfB q A b B) w w' := by
  obtain ⟨w0, hw0⟩ : ∃ w0, w0 = w.alloc (.cells #[.int .i64 5, .int .i64 p, .int .i64 x, .int .i64 y] 30) := ⟨_, rfl⟩
  have hB0 : Both w0 q A b B c s s := by rw [hw0]; exact h.keptNil ((Kept.refl _ w).alloc _)
  have hk0 : Kept (OfB q A b B) w w0 := by rw [hw0]; exact (Kept.refl _ w).alloc _
  have hbx : Is w0 w.heap.size 30 #[.int .i64 5, .int .i64 p, .int .i64 x, .int .i64 y] := by rw [hw0]; exact Is.new w _ _
  have hout : ¬ OfB q A b B w.heap.size := hB0.out hbx (by decide) (by decide) (by decide) (by decide)
  have c1 := hide fun (W : World) (hb : Both W q A b B c s s) (k : Kept (OfB q A b B) w0 W) => hb.lift1 k (add_q p x hb.one hn)
  have c2 := hide fun (W : World) (hb : Both W q A b B c (s.add p x) s) (k : Kept (OfB q A b B) w0 W) => hb.lift2 k (radd_c p x hb.two hn)
  have CELLS := hide fun (W : World) (k : Kept (OfB q A b B) w0 W) => (And.intro ((hbx.kept k hout).cell 0) (And.intro ((hbx.kept k hout).cell 1) (And.intro ((hbx.kept k hout).cell 2) ((hbx.kept k hout).cell 3))))
  have hB1 : Both w0.drew q A b B c s s := hB0.keptNil (Kept.refl _ w0).drew
  have hK1 : Kept (OfB q A b B) w0 w0.drew := (Kept.refl _ w0).drew
  have HK := hide hk0
  clear hk0 hB0
  subst hw0
  go_enter Try.func9, Try.ntmps9
  go_wp2_with fail
  go_region_held3 (fun W => W.cell? ⟨w.heap.size, 0, none⟩ = some (.int .i64 5) ∧ W.cell? ⟨w.heap.size, 1, none⟩ = some (.int .i64 p) ∧ W.cell? ⟨w.heap.size, 2, none⟩ = some (.int .i64 x) ∧ W.cell? ⟨w.heap.size, 3, none⟩ = some (.int .i64 y))
    (first | exact CELLS.out _ (by assumption) | exact CELLS.out _ (Kept.drew (by assumption)))
    (first
      | (go_at_call 20; refine (c1.out _ (by assumption) (by assumption)).mono ?_; rintro e w1 ⟨rfl, hb1, hk1⟩)
      | (go_at_call 27; refine (c2.out _ (by assumption) (by assumption)).mono ?_; rintro e w2 ⟨rfl, hb2, hk2⟩))
  all_goals go_wp2_with fail
  all_goals go_ret
  all_goals exact ⟨rfl, by assumption, HK.out.trans (by assumption) (fun _ _ z => z)⟩
end
end Go.Proofs.Ytgljgdnnpmaigaa
