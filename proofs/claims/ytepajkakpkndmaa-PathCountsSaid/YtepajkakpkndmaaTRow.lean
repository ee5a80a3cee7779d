/- A row of ints that a call has grown since a world; the leaves and the depths of a list of parents. -/
import Derived.Test.YtepajkakpkndmaaTSlices
import Derived.Test.YtepajkakpkndmaaTTree
import Derived.RegionTactic
import Derived.BigRegion
namespace Go.Proofs.Ytepajkakpkndmaa
open Go.RowKit
set_option maxRecDepth 100000

/-- The row L in a slice of the call's own; nothing older than w0 has turned. -/
structure Gr (w0 w : World) (A : Option Addr) (c : Nat) (L : List Int) : Prop where
  row : Row w (.slice A L.length c) L
  kept : Kept Nil w0 w
  own : ∀ g, In A g → w0.heap.size ≤ g

section
variable {w0 w w' : World} {A : Option Addr} {c : Nat} {L : List Int}
theorem Gr.start (w0 : World) : Gr w0 w0 none 0 [] := ⟨Row.empty _, Kept.refl _ _, fun g hg => by cases hg⟩
theorem Gr.keep (h : Gr w0 w A c L) (k : Kept Nil w w') : Gr w0 w' A c L := ⟨h.row.kept k (fun _ _ z => z), h.kept.trans k (fun _ _ z => z), h.own⟩
theorem Gr.since {w1 : World} (h : Gr w0 w A c L) (k : Kept Nil w1 w0) : Gr w1 w A c L := ⟨h.row, k.trans h.kept (fun _ _ z => z), fun g hg => Nat.le_trans k.size (h.own g hg)⟩
theorem Gr.set (h : Gr w0 w A c L) {p : Addr} (hp : w0.heap.size ≤ p.block) (hn : ¬ In A p.block) (v : Value) : Gr w0 (w.setCell p v) A c L :=
  ⟨h.row.kept (S := fun g => g = p.block) ((Kept.refl (fun g => g = p.block) w).set (p := p) (fun _ => rfl) v) (fun g hg e => hn (e ▸ hg)), h.kept.set (fun hl => absurd hl (by omega)) v, h.own⟩
theorem Gr.push {v' : Value} {x : Int} {o : Obj} (h : Gr w0 w A c L) (hr : w'.ownsRow 0 3 1 v' (L.length + 1) (L.map (Value.int .i64) ++ [.int .i64 x])) (hg : (w.alloc o).grownBy w' (Value.slice A L.length c).ownBlock)
    (hat : v'.ownBlock = (Value.slice A L.length c).ownBlock ∨ v'.ownBlock = some (w.alloc o).heap.size) : ∃ A' c', v' = .slice A' (L.length + 1) c' ∧ Gr w0 w' A' c' (L ++ [x]) := by
  obtain ⟨A2, c2, rfl, hrow, hk, hin⟩ := Row.push (w := w.alloc o) (w' := w') (l := L) (A := A) (c := c) (v' := v') (x := x) hr hg hat
  have h1 := h.kept.size
  refine ⟨A2, c2, rfl, by simpa using hrow, (h.kept.alloc o).trans hk (fun i hi hz => absurd (h.own i hz) (by omega)), fun g hg2 => ?_⟩
  rcases hin g hg2 with e | e
  · exact h.own g e
  · simp at e
    omega
end

/-- The cells of a row of n ints. -/
def slotCells (c : Nat) (V : Nat → Int) : Array Value := ((List.range c).map fun k => Value.int .i64 (V k)).toArray
theorem slotCells_at {c : Nat} {V : Nat → Int} {k : Nat} (h : k < c) : (slotCells c V)[k]? = some (.int .i64 (V k)) := by
  unfold slotCells
  rw [List.getElem?_toArray, List.getElem?_map, List.getElem?_range h]
  rfl
theorem slotCells_set {c : Nat} {V : Nat → Int} {k : Nat} (x : Int) : (slotCells c V).setIfInBounds k (.int .i64 x) = slotCells c (fun p => if p = k then x else V p) := by
  unfold slotCells
  apply Array.ext'
  simp only [Array.toList_setIfInBounds]
  apply List.ext_getElem
  · simp
  · intro i h1 h2
    simp [List.getElem_set]
    by_cases e : i = k
    · subst e; simp
    · have : ¬ k = i := fun z => e z.symm
      simp [e, this]
theorem slotCells_ext {c : Nat} {V U : Nat → Int} (h : ∀ k, k < c → V k = U k) : slotCells c V = slotCells c U := by
  unfold slotCells
  congr 1
  exact List.map_congr_left fun k hk => by rw [h k (List.mem_range.1 hk)]
theorem slot_zeros (n : Nat) : (List.replicate n (Value.int .i64 0)).toArray = slotCells n (fun _ => 0) := by
  unfold slotCells
  congr 1
  apply List.ext_getElem
  · simp
  · intro i h1 h2
    simp
theorem make_row (n : Nat) (hn : n ≤ 1048576) (w : World) : (Instr.makeSlice 22 (.int .i64 (n : Int)) (.int .i64 (n : Int))).run Try.prog w = .ok (.slice (some ⟨w.heap.size, 0, none⟩) n n) (w.alloc (.cells (slotCells n fun _ => 0) 3)) := by
  obtain ⟨i0, hi, hz0, hz1, hz2⟩ := info_parts info_int
  have h := run_make (P := Try.prog) w 22 3 i0 _ Try.underlying22 hi hz0 .i64 .i64 n n (by omega) (Int.le_refl _) (by rw [hz2]; omega) (by omega)
  rw [hz1, Int.toNat_natCast, Nat.mul_one] at h
  rw [← slot_zeros, ← made_zeros]
  exact h

section
variable {w : World} {v : Value} {P : List Int}
set_option maxHeartbeats 1000000
/-- The leaves. -/
theorem bare_c (hv : Nums w v P) (hl : P.length ≤ 65536) : Calls Try.prog 47 #[v] w fun e w' => ∃ v', e = .returned v' ∧ Nums w' v' (lf P) ∧ Kept Nil w w' := by
  obtain ⟨i0, hi, hz0, hz1, hz2⟩ := info_parts info_int
  have HV := hide hv
  obtain ⟨A0, c0, rfl, _⟩ := hv
  go_enter Try.func47, Try.ntmps47
  go_wp2_with fail
  go_loopw [3, 7] (fun v3 v7 wr => ∃ (k : Nat) (L : List Int) (A : Option Addr) (c : Nat), k ≤ P.length ∧ v7 = .int .i64 k ∧ v3 = .slice A L.length c ∧ L = lfk P k ∧ Gr w wr A c L) (fun _ i _ => P.length - (intOf i).toNat)
  case atStart => exact ⟨0, [], none, 0, Nat.zero_le _, rfl, rfl, rfl, Gr.start _⟩
  case round =>
    obtain ⟨k, L, A, c, hk, rfl, rfl, hL, hg⟩ := hrel
    have hLl : L.length ≤ 65536 := by rw [hL]; exact Nat.le_trans lfk_len (by omega)
    have hm1 : L.length + 1 ≤ maxLen := by simp only [maxLen]; omega
    have hm2 : (L.length + 1) * 8 ≤ 140737488355328 := by omega
    have HM := hide (And.intro hm1 hm2)
    have HL := hide hL
    have HGR := hide hg
    clear hL hg hm1 hm2
    by_cases hlt : k < P.length
    · cases hb : P.contains (k : Int) with
      | true =>
        have HN : Hid (lfk P (k + 1) = lfk P k) := hide (lfk_no (by unfold lfB; rw [hb]; rfl))
        have cc := contains_c (k : Int) hb (HV.out.kept HGR.out.kept) hl
        clear hb
        go_wp2_with fail
        refine cc.mono ?_
        rintro e w' ⟨rfl, rfl⟩
        go_wp2_with fail
        go_roundw
        case rel => exact ⟨k + 1, L, A, c, by omega, by go_num, rfl, by rw [HN.out, HL.out], HGR.out⟩
        case measure => simp [intOf]; omega
      | false =>
        have HN : Hid (lfk P (k + 1) = lfk P k ++ [(k : Int)]) := hide (lfk_yes (by unfold lfB; rw [hb]; rfl))
        have cc := contains_c (k : Int) hb (HV.out.kept HGR.out.kept) hl
        clear hb
        go_wp2_with fail
        refine cc.mono ?_
        rintro e w' ⟨rfl, rfl⟩
        go_wp2_with (at_builtin; refine wpList_append_own_at _ rfl (.tmp 14) (.tmp 16) _ rfl 0 3 i0 (.int .i64 0) 1 8 Try.underlying22 hi hz0 hz1 hz2 rfl (by decide) (.slice A L.length c) L.length (L.map (Value.int .i64)) rfl (HGR.out.row.alloc _) ⟨wr.heap.size, 0, none⟩ 1 1 [.int .i64 (k : Int)] rfl rfl (cell_one_new _ _ _) (by intro u hu; simp at hu; subst hu; rfl) HM.out.1 HM.out.2 (Nat.zero_le _) ?_; intro v' w1 hown' hgrow _ hat; obtain ⟨A2, c2, rfl, hgr2⟩ := HGR.out.push hown' hgrow hat; have HD := hide hgr2; clear hown' hgrow hat hgr2)
        go_roundw
        case rel => exact ⟨k + 1, L ++ [(k : Int)], A2, c2, by omega, by go_num, by simp, by rw [HN.out, HL.out], HD.out⟩
        case measure => simp [intOf]; omega
    · obtain rfl : k = P.length := by omega
      go_wp2_with fail
      go_ret
      exact ⟨_, rfl, by have := HGR.out.row.nums; rw [HL.out] at this ⊢; exact this, HGR.out.kept⟩
/-- The depths. -/
theorem depths_c (hv : Nums w v P) (hf : formB P = true) (hl : P.length ≤ 65536) : Calls Try.prog 50 #[v] w fun e w' => ∃ v', e = .returned v' ∧ Nums w' v' (dl P P.length) ∧ Kept Nil w w' := by
  obtain ⟨A0, c0, rfl, hp⟩ := hv
  have hmk := make_row P.length (by omega)
  have HF := hide hf
  clear hf
  go_enter Try.func50, Try.ntmps50
  go_wp2
  go_loopw [11] (fun i wr => ∃ (k : Nat), k ≤ P.length ∧ i = .int .i64 k ∧ Is wr w.heap.size 3 (slotCells P.length fun j => if j < k then dv P j else 0) ∧ Kept Nil w wr) (fun i _ => P.length - (intOf i).toNat)
  case atStart => exact ⟨0, Nat.zero_le _, rfl, by rw [slotCells_ext (U := fun _ => 0) (fun k _ => by simp)]; exact Is.new w 3 _, (Kept.refl _ w).alloc _⟩
  case round =>
    obtain ⟨k, hk, rfl, hi, hb⟩ := hrel
    by_cases hlt : k < P.length
    · obtain ⟨g, o, rfl, hg, hc⟩ := hp (by omega)
      have c1 := (hb.cell (p := ⟨g, o + k, none⟩) hg (fun c => c)).trans (hc k hlt)
      clear hc hp
      have d1 := (hi.cell k).trans (slotCells_at hlt)
      have d2 := hi.free k
      have hi1 := hi.set k (.int .i64 1)
      rw [slotCells_set] at hi1
      have HI1 := hide hi1
      have HK1 := hide (hb.set (p := ⟨w.heap.size, k, none⟩) (fun h => absurd h (Nat.lt_irrefl _)) (.int .i64 1))
      clear hi hi1 hb
      rcases Nat.eq_zero_or_pos k with h0 | h0
      · subst h0
        have hr := form_root HF.out hlt
        have HD := hide (dv_root HF.out hlt)
        rw [hr] at c1
        simp only [Nat.add_zero] at c1
        clear hr
        go_wp2_with fail
        go_roundw
        case rel => exact ⟨1, by omega, rfl, by have := HI1.out; rw [slotCells_ext (U := fun j => if j < 1 then dv P j else 0) (fun j _ => by by_cases e : j = 0; (subst e; simp [HD.out]); simp [e, show ¬ j < 1 by omega])] at this; exact this, HK1.out⟩
        case measure => simp [intOf]; omega
      · have hr := form_par HF.out hlt h0
        have hD := dv_par HF.out hlt h0
        have hbd := dv_bound HF.out (P.getD k 0).toNat (by omega)
        obtain ⟨m, hm⟩ : ∃ m : Nat, P.getD k 0 = m := ⟨(P.getD k 0).toNat, by omega⟩
        rw [hm] at c1 hr hD hbd
        rw [Int.toNat_natCast] at hD hbd
        have hmk2 : m < k := by omega
        have HD := hide hD
        clear hm hr hD
        generalize hw1 : wr.setCell ⟨w.heap.size, k, none⟩ (.int .i64 1) = w1
        rw [hw1] at HI1 HK1
        have e1 : w1.cell? ⟨w.heap.size, k, none⟩ = some (.int .i64 1) := (HI1.out.cell k).trans ((slotCells_at hlt).trans (by simp))
        have e2 : w1.cell? ⟨w.heap.size, m, none⟩ = some (.int .i64 (dv P m)) := (HI1.out.cell m).trans ((slotCells_at (by omega)).trans (by simp [hmk2, show m ≠ k by omega]))
        have e3 := HI1.out.free k
        have hi2 := (HI1.out.drew).set k (.int .i64 (1 + dv P m))
        rw [slotCells_set] at hi2
        have HI2 := hide hi2
        have HK2 := hide (HK1.out.drew.set (p := ⟨w.heap.size, k, none⟩) (fun h => absurd h (Nat.lt_irrefl _)) (.int .i64 (1 + dv P m)))
        clear hi2
        obtain ⟨z, hz⟩ : ∃ z, dv P m = z := ⟨_, rfl⟩
        rw [hz] at hbd e2 HI2 HK2 HD
        have hwr : IntKind.i64.wrap (1 + z) = 1 + z := IntWalk.i64_in _ (by omega)
        have hm3 : (m : Int) < (P.length : Int) := by omega
        go_wp2_with fail
        go_region
        go_wp2_with fail
        go_roundw
        case rel => exact ⟨k + 1, by omega, by go_num, by have := HI2.out; rw [slotCells_ext (U := fun j => if j < k + 1 then dv P j else 0) (fun j _ => by by_cases e : j = k; (subst e; simp [HD.out]); by_cases e2 : j < k; (simp [e, e2, show j < k + 1 by omega]); simp [e, e2, show ¬ j < k + 1 by omega])] at this; exact this, HK2.out⟩
        case measure => simp [intOf]; omega
    · obtain rfl : k = P.length := by omega
      have HI := hide hi
      have HK := hide hb
      clear hi hb
      go_wp2_with fail
      go_ret
      refine ⟨_, rfl, ?_, HK.out⟩
      have hn := @dl_len P P.length
      refine ⟨some ⟨w.heap.size, 0, none⟩, P.length, by rw [hn]; rfl, fun h0 => ⟨_, 0, rfl, HI.out.lt, fun j hj => ?_⟩⟩
      rw [hn] at hj
      rw [Nat.zero_add, HI.out.cell j, slotCells_at hj, dl_at hj]
      simp [hj]
end
end Go.Proofs.Ytepajkakpkndmaa
