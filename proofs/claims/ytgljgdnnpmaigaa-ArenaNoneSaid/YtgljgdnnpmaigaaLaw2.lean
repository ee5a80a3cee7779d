/- The law ArenaNone, walked. -/
import Derived.Test.YtgljgdnnpmaigaaDoAll
import Derived.Test.YtgljgdnnpmaigaaAwake
import Derived.LoopN
namespace Go.Proofs.Ytgljgdnnpmaigaa
open Go.RowKit

theorem act_none (k p x y : Int) : (fresh 0).act k p x y = fresh 0 := by
  have e : (fresh 0).room = 0 ∧ (fresh 0).ws = [] := ⟨rfl, rfl⟩
  unfold St.act St.load St.store St.swap St.cas St.add
  rw [none_has, e.1, e.2]
  by_cases hx : 0 ≤ x ∧ x ≤ 0
  · obtain rfl : x = 0 := by omega
    simp [St.take]
  · simp [hx]

section
variable {q A : Option Addr} {b : Nat} {w w' W w0 : World}
set_option maxHeartbeats 800000

theorem none_new (k : Kept (OfQ q A) w0 W) (h : AnyAt W q A (fresh 0)) : Calls Try.prog 8 #[.int .i64 0] W fun e w' =>
    ∃ b, e = .returned (.pointer (some ⟨b, 0, none⟩)) ∧ Both w' q A b none 0 (fresh 0) (fresh 0) ∧ w0.heap.size ≤ b ∧ Kept (OfQ q A) w0 w' := by
  refine (rnew_c 0 W).mono ?_
  rintro e w' ⟨rfl, h1, k1⟩
  exact ⟨_, rfl, ⟨h.keptNil k1, h1⟩, k.size, k.trans k1 (fun _ _ z => z.elim)⟩
theorem none_do (kk p x y : Int) (h : Both W q A b none 0 (fresh 0) (fresh 0)) (hb : w0.heap.size ≤ b) (k : Kept (OfQ q A) w0 W) : Calls Try.prog 9 #[.pointer q, .pointer (some ⟨b, 0, none⟩), .agg #[.int .i64 kk, .int .i64 p, .int .i64 x, .int .i64 y]] W fun e w' =>
    e = .returned (.bool true) ∧ AnyAt w' q A (fresh 0) ∧ Kept (OfQ q A) w0 w' := by
  refine (do_c kk p x y h (by decide)).mono ?_
  rintro e w' ⟨rfl, B', c', h2, k2, _⟩
  rw [act_none] at h2
  refine ⟨rfl, h2.one, k.trans k2 ?_⟩
  rintro i hi (e | e | e)
  · exact e
  · omega
  · cases e
theorem none_len (h : AnyAt W q A (fresh 0)) : Calls Try.prog 11 #[.pointer q] W fun e w' => e = .returned (.int .i64 0) ∧ W = w' := len_q h
theorem none_ops (h : AnyAt W q A (fresh 0)) : Calls Try.prog 12 #[.pointer q] W fun e w' => e = .returned (.int .i64 0) ∧ W = w' := ops_q h
theorem none_last (h : AnyAt W q A (fresh 0)) (k : Kept (OfQ q A) w0 W) : Calls Try.prog 14 #[.pointer q] W fun e w' => e = .returned (.agg #[.int .i64 0, .int .i64 0, .bool false]) ∧ AnyAt w' q A (fresh 0) ∧ Kept (OfQ q A) w0 w' := by
  refine (last_q h).mono ?_
  rintro e w' ⟨rfl, k1⟩
  exact ⟨rfl, h.keptNil k1, k.trans k1 (fun _ _ z => z.elim)⟩
theorem none_words (h : AnyAt W q A (fresh 0)) (k : Kept (OfQ q A) w0 W) : Calls Try.prog 13 #[.pointer q] W fun e w' => ∃ V c, e = .returned (.slice V 0 c) ∧ AnyAt w' q A (fresh 0) ∧ Kept (OfQ q A) w0 w' := by
  refine (words_q h).mono ?_
  rintro e w' ⟨v, rfl, ⟨V, c, rfl, _⟩, k1⟩
  exact ⟨V, c, rfl, h.keptNil k1, k.trans k1 (fun _ _ z => z.elim)⟩

theorem tail1 {a : Nat} {room m : Int} (h : ArenaAt W a A (fresh room)) (hm : m = max 0 (min room 4096)) : Calls Try.prog 15 #[.pointer (some ⟨a, 0, none⟩), .int .i64 m] W fun e w' => e = .returned (.tuple #[.int .i64 1, .int .i64 0]) ∧ Kept (Of a A) W w' := by
  have hr : (fresh room).room = m.toNat := by show (min (max room 0) 4096).toNat = m.toNat; omega
  have hw : (fresh room).ws.length = 0 := rfl
  have := take_q m.toNat (AnyAt.of h) (by omega)
  rw [show ((m.toNat : Nat) : Int) = m by omega] at this
  refine this.mono ?_
  rintro e w' ⟨rfl, _, k⟩
  exact ⟨rfl, k.more fun i _ => to_of a A i⟩
theorem tail2 {a : Nat} {room m : Int} (h : ArenaAt W a A (fresh room)) (hm : m = max 0 (min room 4096) + 1) : Calls Try.prog 15 #[.pointer (some ⟨a, 0, none⟩), .int .i64 m] W fun e w' => e = .returned (.tuple #[.int .i64 0, .int .i64 3]) ∧ Kept Nil W w' := by
  have hr : (fresh room).room = (m - 1).toNat := by show (min (max room 0) 4096).toNat = (m - 1).toNat; omega
  have hw : (fresh room).ws.length = 0 := rfl
  refine (take_full m h (by omega) (by omega)).mono ?_
  rintro e w' ⟨rfl, n, rfl⟩
  exact ⟨rfl, (Kept.refl _ W).drewN n⟩

/-- A new zero arena. -/
theorem zero_at (w : World) : ArenaAt (w.alloc (.cells #[.slice none 0 0, .int .i64 0, .int .i64 0, .int .i64 0, .int .i64 0, .bool false] 37)) w.heap.size none (fresh 0) :=
  ⟨Is.new w _ _, .inl ⟨rfl, rfl⟩, Nat.le_refl _, by decide⟩

theorem none_walk (kk p x y room : Int) (w : World) : Calls Try.prog 4 #[.agg #[.int .i64 kk, .int .i64 p, .int .i64 x, .int .i64 y], .int .i64 room] w fun e w' => e = .returned (.bool true) ∧ Kept Nil w w' := by
  -- the box, the zero arena, the arena without room
  obtain ⟨w1, hw1⟩ : ∃ w1, w1 = (w.alloc (.cells #[.int .i64 kk, .int .i64 p, .int .i64 x, .int .i64 y] 30)).alloc (.cells #[.slice none 0 0, .int .i64 0, .int .i64 0, .int .i64 0, .int .i64 0, .bool false] 37) := ⟨_, rfl⟩
  have hbx : Is w1 w.heap.size 30 #[.int .i64 kk, .int .i64 p, .int .i64 x, .int .i64 y] := by rw [hw1]; exact (Is.new w _ _).alloc _
  have hz : ArenaAt w1 (w.heap.size + 1) none (fresh 0) := by
    rw [hw1]
    have := zero_at (w.alloc (.cells #[.int .i64 kk, .int .i64 p, .int .i64 x, .int .i64 y] 30))
    rw [World.size_alloc] at this
    exact this
  have hs1 : w1.heap.size = w.heap.size + 1 + 1 := by rw [hw1]; simp
  have hk1 : Kept Nil w w1 := by rw [hw1]; exact ((Kept.refl _ w).alloc _).alloc _
  have hnew : ∃ q2 A2, (∀ j, OfQ q2 A2 j → w.heap.size ≤ j ∧ j ≠ w.heap.size ∧ j ≠ w.heap.size + 1) ∧ Calls Try.prog 7 #[.int .i64 0] w1 fun e w' => e = .returned (.pointer q2) ∧ AnyAt w' q2 A2 (fresh 0) ∧ Kept Nil w1 w' := by
    refine ⟨some ⟨w1.heap.size + 1, 0, none⟩, some ⟨w1.heap.size, 0, none⟩, ?_, (new_c 0 w1).mono fun _ _ ⟨h1, h2, h3⟩ => ⟨h1, .of h2, h3⟩⟩
    rintro j (e | e) <;> (injection e with e; injection e with e; omega)
  obtain ⟨q2, A2, hq2, hnew⟩ := hnew
  have HG : Hid ((∀ j, OfQ (some ⟨w.heap.size + 1, 0, none⟩) none j → w.heap.size ≤ j) ∧ (∀ j, OfQ q2 A2 j → w.heap.size ≤ j) ∧ (∀ j, OfQ (some ⟨w.heap.size + 1, 0, none⟩) none j → OfQ q2 A2 j → False)) := by
    refine ⟨?_, fun j hj => (hq2 j hj).1, ?_⟩
    · rintro j (e | e)
      · injection e with e; injection e with e; omega
      · cases e
    · rintro j (e | e) h2
      · injection e with e; injection e with e; exact (hq2 j h2).2.2 e.symm
      · cases e
  have H1 := hide (And.intro hbx (And.intro hz (And.intro hk1 hnew)))
  clear hbx hz hs1 hk1 hnew hq2
  subst hw1
  have i0 : ∀ W, (Instr.index 38 (.agg #[.pointer none, .pointer (some ⟨w.heap.size + 1, 0, none⟩), .pointer q2]) (.int .i64 0)).run Try.prog W = .ok (.pointer none) W := fun _ => by kernel_rfl
  have i1 : ∀ W, (Instr.index 38 (.agg #[.pointer none, .pointer (some ⟨w.heap.size + 1, 0, none⟩), .pointer q2]) (.int .i64 1)).run Try.prog W = .ok (.pointer (some ⟨w.heap.size + 1, 0, none⟩)) W := fun _ => by kernel_rfl
  have i2 : ∀ W, (Instr.index 38 (.agg #[.pointer none, .pointer (some ⟨w.heap.size + 1, 0, none⟩), .pointer q2]) (.int .i64 2)).run Try.prog W = .ok (.pointer q2) W := fun _ => by kernel_rfl
  go_enter Try.func4, Try.ntmps4
  go_wp2_with fail
  refine H1.out.2.2.2.mono ?_
  rintro e w2 ⟨rfl, hn2, k2⟩
  have H2 := hide (And.intro (H1.out.1.kept k2 (fun z => z)) (And.intro (AnyAt.of (H1.out.2.1.keptNil k2)) (And.intro hn2 (H1.out.2.2.1.trans k2 (fun _ _ z => z)))))
  clear H1 hn2 k2
  go_wp2_with fail
  go_loopw [16] (fun i wr => ∃ k : Nat, k ≤ 3 ∧ i = .int .i64 k ∧ AnyAt wr (some ⟨w.heap.size + 1, 0, none⟩) none (fresh 0) ∧ AnyAt wr q2 A2 (fresh 0) ∧ Is wr w.heap.size 30 #[.int .i64 kk, .int .i64 p, .int .i64 x, .int .i64 y] ∧ Kept Nil w wr) (fun i _ => 3 - (intOf i).toNat)
  case atStart => exact ⟨0, by omega, rfl, H2.out.2.1, H2.out.2.2.1, H2.out.1, H2.out.2.2.2⟩
  case round =>
    obtain ⟨k, hk, rfl, hz, hn, hbx, hkp⟩ := hrel
    rcases (show k = 0 ∨ k = 1 ∨ k = 2 ∨ k = 3 by omega) with rfl | rfl | rfl | rfl
    · -- arena 0
      have hq0 : AnyAt wr none none (fresh 0) := .inl ⟨rfl, rfl, rfl⟩
      have hnot : ¬ OfQ none none w.heap.size := hq0.other hbx (by decide) (by decide)
      have CELLS := hide fun (W : World) (k : Kept (OfQ none none) wr W) => (And.intro ((hbx.kept k hnot).cell 0) (And.intro ((hbx.kept k hnot).cell 1) (And.intro ((hbx.kept k hnot).cell 2) ((hbx.kept k hnot).cell 3))))
      have cN := hide fun (W : World) (k : Kept (OfQ none none) wr W) (h : AnyAt W none none (fresh 0)) => none_new k h
      have cD := hide fun (W : World) (b : Nat) (h : Both W none none b none 0 (fresh 0) (fresh 0)) (hb : wr.heap.size ≤ b) (k : Kept (OfQ none none) wr W) => none_do kk p x y h hb k
      have cL := hide fun (W : World) (h : AnyAt W none none (fresh 0)) => none_len h
      have cO := hide fun (W : World) (h : AnyAt W none none (fresh 0)) => none_ops h
      have cW := hide fun (W : World) (h : AnyAt W none none (fresh 0)) (k : Kept (OfQ none none) wr W) => none_words h k
      have cT := hide fun (W : World) (h : AnyAt W none none (fresh 0)) (k : Kept (OfQ none none) wr W) => none_last h k
      have hK1 : Kept (OfQ none none) wr wr.drew := (Kept.refl _ wr).drew
      have hQ1 : AnyAt wr.drew none none (fresh 0) := hq0.keptNil (Kept.refl _ wr).drew
      have HZ := hide hz
      have HN := hide hn
      have HB := hide (And.intro hbx hnot)
      have HKP := hide hkp
      clear hq0 hz hn hbx hkp hnot
      go_wp2_with fail
      go_region_held3 (fun W => W.cell? ⟨w.heap.size, 0, none⟩ = some (.int .i64 kk) ∧ W.cell? ⟨w.heap.size, 1, none⟩ = some (.int .i64 p) ∧ W.cell? ⟨w.heap.size, 2, none⟩ = some (.int .i64 x) ∧ W.cell? ⟨w.heap.size, 3, none⟩ = some (.int .i64 y))
        (first | exact CELLS.out _ (by assumption) | exact CELLS.out _ (Kept.drew (by assumption)))
        (first
          | (go_at_call 8; refine (cN.out _ (by assumption) (by assumption)).mono ?_; rintro e w1 ⟨b1, rfl, hb1, hge, hk1⟩)
          | (go_at_call 9; refine (cD.out _ _ (by assumption) (by assumption) (by assumption)).mono ?_; rintro e w2 ⟨rfl, hq2, hk2⟩)
          | (go_at_call 11; refine (cL.out _ (by assumption)).mono ?_; rintro e w3 ⟨rfl, rfl⟩)
          | (go_at_call 12; refine (cO.out _ (by assumption)).mono ?_; rintro e w3 ⟨rfl, rfl⟩)
          | (go_at_call 13; refine (cW.out _ (by assumption) (by assumption)).mono ?_; rintro e w4 ⟨V4, c4, rfl, hq4, hk4⟩)
          | (go_at_call 14; refine (cT.out _ (by assumption) (by assumption)).mono ?_; rintro e w5 ⟨rfl, hqf, hkf⟩))
      all_goals go_wp2_with fail
      all_goals go_roundw
      case rel =>
        have hz := HZ.out
        have hn := HN.out
        exact ⟨1, by omega, by go_num, hz.kept hkf (fun _ _ _ _ _ e => by rcases e with e | e <;> cases e), hn.kept hkf (fun _ _ _ _ _ e => by rcases e with e | e <;> cases e), HB.out.1.kept hkf HB.out.2, HKP.out.trans hkf (fun i _ e => by rcases e with e | e <;> cases e)⟩
      case measure => simp [intOf]
    · -- arena 1
      have hq0 : AnyAt wr (some ⟨w.heap.size + 1, 0, none⟩) none (fresh 0) := hz
      have hnot : ¬ OfQ (some ⟨w.heap.size + 1, 0, none⟩) none w.heap.size := hq0.other hbx (by decide) (by decide)
      have CELLS := hide fun (W : World) (k : Kept (OfQ (some ⟨w.heap.size + 1, 0, none⟩) none) wr W) => (And.intro ((hbx.kept k hnot).cell 0) (And.intro ((hbx.kept k hnot).cell 1) (And.intro ((hbx.kept k hnot).cell 2) ((hbx.kept k hnot).cell 3))))
      have cN := hide fun (W : World) (k : Kept (OfQ (some ⟨w.heap.size + 1, 0, none⟩) none) wr W) (h : AnyAt W (some ⟨w.heap.size + 1, 0, none⟩) none (fresh 0)) => none_new k h
      have cD := hide fun (W : World) (b : Nat) (h : Both W (some ⟨w.heap.size + 1, 0, none⟩) none b none 0 (fresh 0) (fresh 0)) (hb : wr.heap.size ≤ b) (k : Kept (OfQ (some ⟨w.heap.size + 1, 0, none⟩) none) wr W) => none_do kk p x y h hb k
      have cL := hide fun (W : World) (h : AnyAt W (some ⟨w.heap.size + 1, 0, none⟩) none (fresh 0)) => none_len h
      have cO := hide fun (W : World) (h : AnyAt W (some ⟨w.heap.size + 1, 0, none⟩) none (fresh 0)) => none_ops h
      have cW := hide fun (W : World) (h : AnyAt W (some ⟨w.heap.size + 1, 0, none⟩) none (fresh 0)) (k : Kept (OfQ (some ⟨w.heap.size + 1, 0, none⟩) none) wr W) => none_words h k
      have cT := hide fun (W : World) (h : AnyAt W (some ⟨w.heap.size + 1, 0, none⟩) none (fresh 0)) (k : Kept (OfQ (some ⟨w.heap.size + 1, 0, none⟩) none) wr W) => none_last h k
      have hK1 : Kept (OfQ (some ⟨w.heap.size + 1, 0, none⟩) none) wr wr.drew := (Kept.refl _ wr).drew
      have hQ1 : AnyAt wr.drew (some ⟨w.heap.size + 1, 0, none⟩) none (fresh 0) := hq0.keptNil (Kept.refl _ wr).drew
      have HZ := hide hz
      have HN := hide hn
      have HB := hide (And.intro hbx hnot)
      have HKP := hide hkp
      clear hq0 hz hn hbx hkp hnot
      go_wp2_with fail
      go_region_held3 (fun W => W.cell? ⟨w.heap.size, 0, none⟩ = some (.int .i64 kk) ∧ W.cell? ⟨w.heap.size, 1, none⟩ = some (.int .i64 p) ∧ W.cell? ⟨w.heap.size, 2, none⟩ = some (.int .i64 x) ∧ W.cell? ⟨w.heap.size, 3, none⟩ = some (.int .i64 y))
        (first | exact CELLS.out _ (by assumption) | exact CELLS.out _ (Kept.drew (by assumption)))
        (first
          | (go_at_call 8; refine (cN.out _ (by assumption) (by assumption)).mono ?_; rintro e w1 ⟨b1, rfl, hb1, hge, hk1⟩)
          | (go_at_call 9; refine (cD.out _ _ (by assumption) (by assumption) (by assumption)).mono ?_; rintro e w2 ⟨rfl, hq2, hk2⟩)
          | (go_at_call 11; refine (cL.out _ (by assumption)).mono ?_; rintro e w3 ⟨rfl, rfl⟩)
          | (go_at_call 12; refine (cO.out _ (by assumption)).mono ?_; rintro e w3 ⟨rfl, rfl⟩)
          | (go_at_call 13; refine (cW.out _ (by assumption) (by assumption)).mono ?_; rintro e w4 ⟨V4, c4, rfl, hq4, hk4⟩)
          | (go_at_call 14; refine (cT.out _ (by assumption) (by assumption)).mono ?_; rintro e w5 ⟨rfl, hqf, hkf⟩))
      all_goals go_wp2_with fail
      all_goals go_roundw
      case rel =>
        have hz := HZ.out
        have hn := HN.out
        exact ⟨2, by omega, by go_num, hqf, hn.kept hkf (fun i _ _ _ a b => HG.out.2.2 i b a), HB.out.1.kept hkf HB.out.2, HKP.out.trans hkf (fun i hi e => absurd (HG.out.1 i e) (by omega))⟩
      case measure => simp [intOf]
    · -- arena 2
      have hq0 : AnyAt wr q2 A2 (fresh 0) := hn
      have hnot : ¬ OfQ q2 A2 w.heap.size := hq0.other hbx (by decide) (by decide)
      have CELLS := hide fun (W : World) (k : Kept (OfQ q2 A2) wr W) => (And.intro ((hbx.kept k hnot).cell 0) (And.intro ((hbx.kept k hnot).cell 1) (And.intro ((hbx.kept k hnot).cell 2) ((hbx.kept k hnot).cell 3))))
      have cN := hide fun (W : World) (k : Kept (OfQ q2 A2) wr W) (h : AnyAt W q2 A2 (fresh 0)) => none_new k h
      have cD := hide fun (W : World) (b : Nat) (h : Both W q2 A2 b none 0 (fresh 0) (fresh 0)) (hb : wr.heap.size ≤ b) (k : Kept (OfQ q2 A2) wr W) => none_do kk p x y h hb k
      have cL := hide fun (W : World) (h : AnyAt W q2 A2 (fresh 0)) => none_len h
      have cO := hide fun (W : World) (h : AnyAt W q2 A2 (fresh 0)) => none_ops h
      have cW := hide fun (W : World) (h : AnyAt W q2 A2 (fresh 0)) (k : Kept (OfQ q2 A2) wr W) => none_words h k
      have cT := hide fun (W : World) (h : AnyAt W q2 A2 (fresh 0)) (k : Kept (OfQ q2 A2) wr W) => none_last h k
      have hK1 : Kept (OfQ q2 A2) wr wr.drew := (Kept.refl _ wr).drew
      have hQ1 : AnyAt wr.drew q2 A2 (fresh 0) := hq0.keptNil (Kept.refl _ wr).drew
      have HZ := hide hz
      have HN := hide hn
      have HB := hide (And.intro hbx hnot)
      have HKP := hide hkp
      clear hq0 hz hn hbx hkp hnot
      go_wp2_with fail
      go_region_held3 (fun W => W.cell? ⟨w.heap.size, 0, none⟩ = some (.int .i64 kk) ∧ W.cell? ⟨w.heap.size, 1, none⟩ = some (.int .i64 p) ∧ W.cell? ⟨w.heap.size, 2, none⟩ = some (.int .i64 x) ∧ W.cell? ⟨w.heap.size, 3, none⟩ = some (.int .i64 y))
        (first | exact CELLS.out _ (by assumption) | exact CELLS.out _ (Kept.drew (by assumption)))
        (first
          | (go_at_call 8; refine (cN.out _ (by assumption) (by assumption)).mono ?_; rintro e w1 ⟨b1, rfl, hb1, hge, hk1⟩)
          | (go_at_call 9; refine (cD.out _ _ (by assumption) (by assumption) (by assumption)).mono ?_; rintro e w2 ⟨rfl, hq2, hk2⟩)
          | (go_at_call 11; refine (cL.out _ (by assumption)).mono ?_; rintro e w3 ⟨rfl, rfl⟩)
          | (go_at_call 12; refine (cO.out _ (by assumption)).mono ?_; rintro e w3 ⟨rfl, rfl⟩)
          | (go_at_call 13; refine (cW.out _ (by assumption) (by assumption)).mono ?_; rintro e w4 ⟨V4, c4, rfl, hq4, hk4⟩)
          | (go_at_call 14; refine (cT.out _ (by assumption) (by assumption)).mono ?_; rintro e w5 ⟨rfl, hqf, hkf⟩))
      all_goals go_wp2_with fail
      all_goals go_roundw
      case rel =>
        have hz := HZ.out
        have hn := HN.out
        exact ⟨3, by omega, by go_num, hz.kept hkf (fun i _ _ _ a b => HG.out.2.2 i a b), hqf, HB.out.1.kept hkf HB.out.2, HKP.out.trans hkf (fun i hi e => absurd (HG.out.2.1 i e) (by omega))⟩
      case measure => simp [intOf]
    · rcases (show room < 0 ∨ room = 0 ∨ (0 < room ∧ room ≤ 4096) ∨ 4096 < room by omega) with r1 | rfl | ⟨r1, r2⟩ | r1
      · have hc1 := hide fun (W : World) (a : Nat) (A : Option Addr) (h : ArenaAt W a A (fresh room)) => tail1 (m := 0) h (by omega)
        have hc2 := hide fun (W : World) (a : Nat) (A : Option Addr) (h : ArenaAt W a A (fresh room)) => tail2 (m := 1) h (by omega)
        have HKP := hide hkp
        clear hz hn hbx hkp i0 i1 i2
        go_wp2_with fail
        refine (new_c room wr).mono ?_
        rintro e w3 ⟨rfl, h3, k3⟩
        go_wp2_with fail
        refine (hc1.out _ _ _ h3).mono ?_
        rintro e w4 ⟨rfl, k4⟩
        have HK4 := hide (HKP.out.trans (k3.trans k4 (fun j hj z => of_ge (B := wr.heap.size) (by omega) (fun g e => by injection e with e; injection e with e; omega) j hj z)) (fun _ _ z => z))
        clear h3 k3 k4
        go_wp2_with fail
        refine (new_c room w4).mono ?_
        rintro e w5 ⟨rfl, h5, k5⟩
        go_wp2_with fail
        refine (hc2.out _ _ _ h5).mono ?_
        rintro e w6 ⟨rfl, k6⟩
        have HK6 := hide (HK4.out.trans (k5.trans k6 (fun _ _ z => z)) (fun _ _ z => z))
        clear h5 k5 k6
        go_wp2_with fail
        refine (awake_c w6).mono ?_
        rintro e w7 ⟨rfl, k7⟩
        go_wp2_with fail
        go_ret
        exact ⟨rfl, HK6.out.trans k7 (fun _ _ z => z)⟩
      · have hc1 := hide fun (W : World) (a : Nat) (A : Option Addr) (h : ArenaAt W a A (fresh 0)) => tail1 (m := 0) h (by omega)
        have hc2 := hide fun (W : World) (a : Nat) (A : Option Addr) (h : ArenaAt W a A (fresh 0)) => tail2 (m := 1) h (by omega)
        have HKP := hide hkp
        clear hz hn hbx hkp i0 i1 i2
        go_wp2_with fail
        refine (new_c 0 wr).mono ?_
        rintro e w3 ⟨rfl, h3, k3⟩
        go_wp2_with fail
        refine (hc1.out _ _ _ h3).mono ?_
        rintro e w4 ⟨rfl, k4⟩
        have HK4 := hide (HKP.out.trans (k3.trans k4 (fun j hj z => of_ge (B := wr.heap.size) (by omega) (fun g e => by injection e with e; injection e with e; omega) j hj z)) (fun _ _ z => z))
        clear h3 k3 k4
        go_wp2_with fail
        refine (new_c 0 w4).mono ?_
        rintro e w5 ⟨rfl, h5, k5⟩
        go_wp2_with fail
        refine (hc2.out _ _ _ h5).mono ?_
        rintro e w6 ⟨rfl, k6⟩
        have HK6 := hide (HK4.out.trans (k5.trans k6 (fun _ _ z => z)) (fun _ _ z => z))
        clear h5 k5 k6
        go_wp2_with fail
        refine (awake_c w6).mono ?_
        rintro e w7 ⟨rfl, k7⟩
        go_wp2_with fail
        go_ret
        exact ⟨rfl, HK6.out.trans k7 (fun _ _ z => z)⟩
      · have hc1 := hide fun (W : World) (a : Nat) (A : Option Addr) (h : ArenaAt W a A (fresh room)) => tail1 (m := room) h (by omega)
        have hc2 := hide fun (W : World) (a : Nat) (A : Option Addr) (h : ArenaAt W a A (fresh room)) => tail2 (m := room + 1) h (by omega)
        have HKP := hide hkp
        clear hz hn hbx hkp i0 i1 i2
        go_wp2_with fail
        refine (new_c room wr).mono ?_
        rintro e w3 ⟨rfl, h3, k3⟩
        go_wp2_with fail
        refine (hc1.out _ _ _ h3).mono ?_
        rintro e w4 ⟨rfl, k4⟩
        have HK4 := hide (HKP.out.trans (k3.trans k4 (fun j hj z => of_ge (B := wr.heap.size) (by omega) (fun g e => by injection e with e; injection e with e; omega) j hj z)) (fun _ _ z => z))
        clear h3 k3 k4
        go_wp2_with fail
        refine (new_c room w4).mono ?_
        rintro e w5 ⟨rfl, h5, k5⟩
        go_wp2_with fail
        refine (hc2.out _ _ _ h5).mono ?_
        rintro e w6 ⟨rfl, k6⟩
        have HK6 := hide (HK4.out.trans (k5.trans k6 (fun _ _ z => z)) (fun _ _ z => z))
        clear h5 k5 k6
        go_wp2_with fail
        refine (awake_c w6).mono ?_
        rintro e w7 ⟨rfl, k7⟩
        go_wp2_with fail
        go_ret
        exact ⟨rfl, HK6.out.trans k7 (fun _ _ z => z)⟩
      · have hc1 := hide fun (W : World) (a : Nat) (A : Option Addr) (h : ArenaAt W a A (fresh room)) => tail1 (m := 4096) h (by omega)
        have hc2 := hide fun (W : World) (a : Nat) (A : Option Addr) (h : ArenaAt W a A (fresh room)) => tail2 (m := 4097) h (by omega)
        have HKP := hide hkp
        clear hz hn hbx hkp i0 i1 i2
        go_wp2_with fail
        refine (new_c room wr).mono ?_
        rintro e w3 ⟨rfl, h3, k3⟩
        go_wp2_with fail
        refine (hc1.out _ _ _ h3).mono ?_
        rintro e w4 ⟨rfl, k4⟩
        have HK4 := hide (HKP.out.trans (k3.trans k4 (fun j hj z => of_ge (B := wr.heap.size) (by omega) (fun g e => by injection e with e; injection e with e; omega) j hj z)) (fun _ _ z => z))
        clear h3 k3 k4
        go_wp2_with fail
        refine (new_c room w4).mono ?_
        rintro e w5 ⟨rfl, h5, k5⟩
        go_wp2_with fail
        refine (hc2.out _ _ _ h5).mono ?_
        rintro e w6 ⟨rfl, k6⟩
        have HK6 := hide (HK4.out.trans (k5.trans k6 (fun _ _ z => z)) (fun _ _ z => z))
        clear h5 k5 k6
        go_wp2_with fail
        refine (awake_c w6).mono ?_
        rintro e w7 ⟨rfl, k7⟩
        go_wp2_with fail
        go_ret
        exact ⟨rfl, HK6.out.trans k7 (fun _ _ z => z)⟩

end
end Go.Proofs.Ytgljgdnnpmaigaa
