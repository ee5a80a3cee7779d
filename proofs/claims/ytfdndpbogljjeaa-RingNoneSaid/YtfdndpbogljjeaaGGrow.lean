/- Package ring: the list is laid anew when it is full; Push. -/
import Derived.Test.YtfdndpbogljjeaaGAll
namespace Go.Proofs.Ytfdndpbogljjeaa
open Go.RowKit Go.Shelf

/-- The new list, when these places have come. -/
def laid (xs : List Int) (pre : List (Fin xs.length)) : Nat → Int := fun p => if p ∈ pre.map (·.val) then xs.getD p 0 else 0
theorem laid_nil (xs : List Int) : laid xs [] = fun _ => 0 := by funext p; simp [laid]
theorem laid_snoc (xs : List Int) (pre : List (Fin xs.length)) (k : Fin xs.length) : laid xs (pre ++ [k]) = fun p => if p = k.val then xs.getD k.val 0 else laid xs pre p := by
  funext p
  unfold laid
  by_cases h : p = k.val
  · subst h; simp
  · simp [h]
theorem laid_all (xs : List Int) (p : Nat) (h : p < xs.length) : laid xs (upto xs.length xs.length) p = xs.getD p 0 := by
  unfold laid
  rw [upto_val (Nat.le_refl _), if_pos (List.mem_range.2 h)]
theorem zeros_slots (n : Nat) : (List.replicate n (Value.int .i64 0)).toArray = slotCells n (fun _ => 0) := by
  unfold slotCells
  apply Array.ext'
  simp [List.map_const']

/-- What the loop's own book-keeping turns lies beyond what was there. -/
theorem grown_from {B : Nat} {W W' : World} {row : Option Nat} (hg : W.grownBy W' row) (hr : ∀ r, row = some r → B ≤ r ∧ ∃ o : Obj, W.heap[r]? = some o ∧ o.isCells = false) : Kept (fun k => B ≤ k) W W' :=
  (Kept.of_grown hg).more fun i _ e => (hr i e).1
/-- The things of a row, told by a letter. -/
theorem pairs_of (xs : List Int) : ∃ T : Fin xs.length → Int, (∀ k, xs.getD k.val 0 = T k) ∧ pairOf xs = fun k => #[.int .i64 (k.val : Int), .int .i64 (T k)] := ⟨fun k => xs.getD k.val 0, fun _ => rfl, rfl⟩

theorem make_slots (n : Nat) (hn : n ≤ 1048576) (w : World) : (Instr.makeSlice 23 (.int .i64 (n : Int)) (.int .i64 (n : Int))).run Try.prog w = .ok (.slice (some ⟨w.heap.size, 0, none⟩) n n) (w.alloc (.cells (slotCells n fun _ => 0) 3)) := by
  obtain ⟨i0, hi, hz0, hz1, hz2⟩ := info_parts info_int
  have h := run_make (P := Try.prog) w 23 3 i0 _ Try.underlying23 hi hz0 .i64 .i64 n n (by omega) (Int.le_refl _) (by rw [hz2]; omega) (by omega)
  rw [hz1, Int.toNat_natCast, Nat.mul_one] at h
  rw [← zeros_slots, ← made_zeros]
  exact h

section
variable {w : World} {a : Nat} {A : Option Addr} {c f : Nat} {V : Nat → Int} {xs : List Int}
set_option maxHeartbeats 2000000
set_option maxRecDepth 100000 in
theorem lay_c (h : Ring w a A xs) (hx : xs.length ≤ 400000) : Calls Try.prog 20 #[.pointer (some ⟨a, 0, none⟩)] w fun e w' => e = .returned (.tuple #[]) ∧ ∃ b U, w.heap.size ≤ b ∧ RingAt w' a (some ⟨b, 0, none⟩) (2 * xs.length + 1) 0 U xs ∧ Kept (fun i => i = a) w w' := by
  refine (callsIn_wide (n := 3)).1 ?_
  refine callsIn_of_wp_marks Try.func20 rfl trivial ?_ rfl
  simp only [Try.ntmps20, List.size_toArray, List.length_cons, List.length_nil, Nat.reduceAdd, Nat.reduceSub, Array.replicate_succ, Array.replicate_zero, List.push_toArray, List.append_toArray, List.nil_append, List.cons_append]
  have g2 : w.cell? ⟨a, 2, none⟩ = some (.int .i64 xs.length) := by
    obtain ⟨c, f, V, hr⟩ := h
    exact hr.own.cell 2
  obtain ⟨n, hn⟩ : ∃ n : Nat, n = 2 * xs.length + 1 := ⟨_, rfl⟩
  have hmk := make_slots n (by omega) w
  rw [show (n : Int) = 2 * (xs.length : Int) + 1 by omega] at hmk
  rw [← hn]
  have HN := hide hn
  clear hn
  gi_wp2_with (refine ⟨trivial, ?_⟩; gi_at_call 11; refine (callsIn_wide.2 (gall_c _ _)).mono ?_; rintro e w' ⟨rfl, rfl⟩)
  obtain ⟨w3, hw3⟩ : ∃ w3, ((w.alloc (.cells (slotCells n fun _ => 0) 3)).alloc (.cells #[.slice (some ⟨w.heap.size, 0, none⟩) n n] 23)).alloc (.cells #[.pointer (some ⟨a, 0, none⟩)] 22) = w3 := ⟨_, rfl⟩
  obtain ⟨b0, hb0⟩ : ∃ b0, w.heap.size = b0 := ⟨_, rfl⟩
  have i0 : Is w3 b0 3 (slotCells n fun _ => 0) := by rw [← hw3, ← hb0]; exact ((Is.new w _ _).alloc _).alloc _
  have i1 : Is w3 (b0 + 1) 23 #[.slice (some ⟨b0, 0, none⟩) n n] := by
    have := (Is.new (w.alloc (.cells (slotCells n fun _ => 0) 3)) 23 #[.slice (some ⟨w.heap.size, 0, none⟩) n n]).alloc (.cells #[.pointer (some ⟨a, 0, none⟩)] 22)
    rw [World.size_alloc, hw3, hb0] at this
    exact this
  have i2 : Is w3 (b0 + 1 + 1) 22 #[.pointer (some ⟨a, 0, none⟩)] := by
    have := Is.new ((w.alloc (.cells (slotCells n fun _ => 0) 3)).alloc (.cells #[.slice (some ⟨w.heap.size, 0, none⟩) n n] 23)) 22 #[.pointer (some ⟨a, 0, none⟩)]
    rw [hw3, World.size_alloc, World.size_alloc, hb0] at this
    exact this
  have k3 : Kept Nil w w3 := by rw [← hw3]; exact (((Kept.refl Nil w).alloc _).alloc _).alloc _
  have s3 : w3.heap.size = b0 + 3 := by rw [← hw3, World.size_alloc, World.size_alloc, World.size_alloc, hb0]
  have hS : ∀ g, (g = b0 + 1 + 1 ∨ OfG a A g) → g < w3.heap.size ∧ ¬ g = b0 := by
    rintro g (rfl | hg)
    · omega
    · have := h.lt hg
      omega
  obtain ⟨T, hT, hpair⟩ := pairs_of xs
  have hseq := gall_stops (w := w3) (a := a) (A := A) (xs := xs) 2 (by omega) (b0 + 1 + 1) (by omega) i2 (h.keptNil k3)
  rw [hpair] at hseq
  rw [hw3, hb0]
  refine wpIn_rangeFunc_ownG rfl (by omega) (gf := 23) (lb := #[.pointer (some ⟨b0 + 1 + 1, 0, none⟩)]) rfl trivial (enters_of Try.func23 (by kernel_rfl) rfl)
    hseq (fun h k => h.trans k) (Stay.put fun g hg => (hS g hg).1) (Below.refl _ _) (fun _ => rfl)
    (fun pre W => Is W b0 3 (slotCells n (laid xs pre)) ∧ Is W (b0 + 1) 23 #[.slice (some ⟨b0, 0, none⟩) n n] ∧ Kept (fun i => i = b0) w3 W)
    (fun _ _ _ => False)
    (fun pre W W' row hs hg hr => ⟨hs.1.kept (grown_from hg hr) (by omega), hs.2.1.kept (grown_from hg hr) (by omega), hs.2.2.trans (grown_from hg hr) (fun i hi hz => absurd hz (by omega))⟩)
    (fun _ _ _ _ _ hs _ _ => hs)
    ⟨by rw [laid_nil]; exact i0, i1, Kept.refl _ _⟩
    (fun x => { tmps := #[.pointer (some ⟨a, 0, none⟩), undef, .pointer (some ⟨b0 + 1, 0, none⟩), .int .i64 (x.val : Int), .int .i64 (T x), .pointer (some ⟨a, 0, none⟩), .pointer (some ⟨a, 0, none⟩), .pointer (some ⟨a, 2, none⟩), .int .i64 (xs.length : Int), .int .i64 (2 * (xs.length : Int)), .int .i64 (2 * (xs.length : Int) + 1),
      .slice (some ⟨b0, 0, none⟩) n n, .pointer (some ⟨a, 0, none⟩), .func (.func 23) #[] #[.pointer (some ⟨b0 + 1 + 1, 0, none⟩)], .int .i64 (x.val : Int), .int .i64 (T x), undef, undef, undef, undef, undef, undef, undef, undef, undef, undef, undef], defers := [] }) ?assign ?body ?done ?stop
  case assign =>
    intro l x W K hK
    have hsem := fun ρ o h => Oper.semAt_some l ρ o h
    gi_wp2
    exact hK
  case body =>
    rintro l pre x W ⟨hi, hb, hk⟩ _
    have hsem := fun ρ o h => Oper.semAt_some l ρ o h
    have hxl := x.isLt
    have hxn : x.val < n := by have := HN.out; omega
    have c1 := hb.cell 0
    simp at c1
    have c2 := (hi.cell x.val).trans (slotCells_at hxn)
    have c3 := hi.free x.val
    have HFIN := hide (show Is (W.setCell ⟨b0, x.val, none⟩ (.int .i64 (T x))) b0 3 (slotCells n (laid xs (pre ++ [x]))) from by rw [laid_snoc, hT, ← slotCells_set]; exact hi.set x.val _)
    have HST := hide (And.intro hb hk)
    clear hi hb hk
    gi_wp2
    have hst : Stay (fun g => g = b0 + 1 + 1 ∨ OfG a A g) W (W.setCell ⟨b0, x.val, none⟩ (.int .i64 (T x))) :=
      ((Kept.refl (fun i => i = b0) W).set (p := ⟨b0, x.val, none⟩) (fun _ => rfl) _).stay fun g hg => ⟨(hS g hg).2, Nat.lt_of_lt_of_le (hS g hg).1 HST.out.2.size⟩
    exact ⟨(KeepsOthers.setCell _ _ _).from _, hst, HFIN.out, HST.out.1.other (p := ⟨b0, x.val, none⟩) (show b0 + 1 ≠ b0 by omega) _, HST.out.2.set (p := ⟨b0, x.val, none⟩) (fun _ => rfl) _⟩
  case done =>
    rintro D ys W hD rfl ⟨hi, hb, hk⟩ hK
    have hra : Ring W a A xs := h.kept (k3.trans hk (S := Nil) (fun i hi hz => by omega)) (fun _ _ z => z)
    obtain ⟨c0, f0, V0, hr0⟩ := hra
    have ho := hr0.own
    have c1 := hb.cell 0
    have c2 := ho.cell 0
    have c3 := ho.cell 1
    have c4 := ho.free 0
    have c5 := ho.free 1
    simp at c1 c2 c3
    have hla := h.lt (g := a) (.inl rfl)
    have hKw := hK
    obtain ⟨W5, hW5⟩ : ∃ W5, (W.setCell ⟨a, 0, none⟩ (.slice (some ⟨b0, 0, none⟩) n n)).setCell ⟨a, 1, none⟩ (.int .i64 0) = W5 := ⟨_, rfl⟩
    have hab : a ≠ b0 := by omega
    have i5 : Is W5 a 25 #[.slice (some ⟨b0, 0, none⟩) n n, .int .i64 (0 : Nat), .int .i64 xs.length] := by
      rw [← hW5]
      have := (ho.set 0 (.slice (some ⟨b0, 0, none⟩) n n)).set 1 (.int .i64 0)
      simpa using this
    have j5 : Is W5 b0 3 (slotCells n (laid xs (upto xs.length xs.length))) := by
      rw [← hW5]
      exact (hi.other (p := ⟨a, 0, none⟩) (fun z => hab z.symm) _).other (p := ⟨a, 1, none⟩) (fun z => hab z.symm) _
    have k5 : Kept (fun i => i = a) w W5 := by
      rw [← hW5]
      exact (((k3.trans hk (S := Nil) (fun i hi hz => by omega)).more (S' := fun i => i = a) (fun _ _ z => z.elim)).set (p := ⟨a, 0, none⟩) (fun _ => rfl) _).set (p := ⟨a, 1, none⟩) (fun _ => rfl) _
    have hK5 : W5.heap[D]? = some (.deferred (some [])) := by
      rw [← hW5]
      exact (KeepsOthers.setCell _ ⟨a, 1, none⟩ (.int .i64 0)).same D _ ((KeepsOthers.setCell W ⟨a, 0, none⟩ (.slice (some ⟨b0, 0, none⟩) n n)).same D _ hK rfl) rfl
    have hgr : Kept (fun k => k = D) W5 (W5.putObj D (.deferred none)) := (Kept.of_grown (grownBy_putObj' W5 D (.deferred none))).more fun i _ e => by injection e with e; exact e.symm
    have HALL := hide (And.intro i5 (And.intro j5 (And.intro k5 (And.intro hK5 hgr))))
    clear i5 j5 k5 hK5 hgr hi hb hk ho hr0 hK
    gi_wp2
    obtain ⟨i5, j5, k5, hK5, hgr⟩ := HALL.out
    have hn := HN.out
    refine ⟨by simp, .inl ⟨_, _, rfl, run_takeDeferred hK5, ?_⟩⟩
    refine ⟨_, results_none rfl _ _ _, rfl, b0, _, by omega, ⟨i5.kept hgr (by omega), .inr ⟨b0, rfl, j5.kept hgr (by omega), by omega⟩, by omega, by omega, fun i hi => ?_⟩, k5.trans hgr (fun i hi hz => by omega)⟩
    rw [Nat.zero_add, Nat.mod_eq_of_lt (by omega)]
    exact laid_all xs i hi
  case stop =>
    rintro D c pre W _ _ h _
    exact h.elim

/-- A thing is put behind the others, where there is room for it. -/
theorem put_c {b : Nat} (x : Int) (h : RingAt w a (some ⟨b, 0, none⟩) c f V xs) (hf : f < c) (hb : Is w b 3 (slotCells c V)) (hlt : xs.length < c) :
    ∃ U, ∀ W, Kept Nil w W → let W2 := (W.setCell ⟨b, (f + xs.length) % c, none⟩ (.int .i64 x)).setCell ⟨a, 2, none⟩ (.int .i64 ((xs.length : Int) + 1)); RingAt W2 a (some ⟨b, 0, none⟩) c f U (xs ++ [x]) ∧ Kept (OfG a (some ⟨b, 0, none⟩)) w W2 := by
  have hab : a ≠ b := h.own.ne hb (by decide)
  refine ⟨fun p => if p = (f + xs.length) % c then x else V p, fun W k => ⟨⟨?_, .inr ⟨b, rfl, ?_, hf⟩, by rw [List.length_append]; exact hlt, h.small, fun i hi => ?_⟩, ?_⟩⟩
  · have := ((h.own.kept k (fun z => z)).other (p := ⟨b, (f + xs.length) % c, none⟩) hab (.int .i64 x)).set 2 (.int .i64 ((xs.length : Int) + 1))
    rw [List.length_append]
    simpa using this
  · rw [← slotCells_set]
    exact ((hb.kept k (fun z => z)).set _ (.int .i64 x)).other (p := ⟨a, 2, none⟩) (fun z => hab z.symm) _
  · rw [List.length_append] at hi
    have hi : i < xs.length + 1 := hi
    show (if (f + i) % c = (f + xs.length) % c then x else V ((f + i) % c)) = _
    by_cases e : i = xs.length
    · subst e
      rw [if_pos rfl]
      simp
    · rw [if_neg (fun z => e (place_inj (by omega) hlt z)), h.at_ i (by omega), List.getD_eq_getElem?_getD, List.getD_eq_getElem?_getD, List.getElem?_append_left (by omega)]
  · exact ((k.more (S' := OfG a (some ⟨b, 0, none⟩)) (fun _ _ z => z.elim)).set (p := ⟨b, (f + xs.length) % c, none⟩) (fun _ => .inr rfl) _).set (p := ⟨a, 2, none⟩) (fun _ => .inl rfl) _
end
end Go.Proofs.Ytfdndpbogljjeaa
