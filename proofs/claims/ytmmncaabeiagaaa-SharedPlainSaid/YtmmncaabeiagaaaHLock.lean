/- Package shared: the lock's blocks; New, all, has, State, Writer, Readers. -/
import Derived.Test.YtmmncaabeiagaaaUEv
import Derived.Test.YtmmncaabeiagaaaURef
import Derived.Test.YtmmncaabeiagaaaHMath
import Derived.Laws.StructEq
namespace Go.Proofs.Ytmmncaabeiagaaa
open Go.RowKit
set_option maxRecDepth 100000

theorem info_stand : (Try.prog.info? 53).map (fun i => (i.zero, i.size, i.bytes)) = some (some (.agg #[.int .i64 0, .bool false]), 2, 16) := by kernel_rfl
/-- A thread's cells. -/
def scs (x : Sd) : List Value := [.int .i64 x.1, .bool x.2]
def scells (l : List Sd) : List Value := l.flatMap scs
theorem scells_len (l : List Sd) : (scells l).length = l.length * 2 := by
  induction l with
  | nil => rfl
  | cons a t ih =>
    show (scs a ++ scells t).length = _
    rw [List.length_append, ih]
    simp [scs]
    omega
theorem scells_at {l : List Sd} {k : Nat} (h : k < l.length) : (scells l)[k * 2]? = some (.int .i64 (l.getD k z0).1) ∧ (scells l)[k * 2 + 1]? = some (.bool (l.getD k z0).2) := by
  induction l generalizing k with
  | nil => simp at h
  | cons a t ih =>
    cases k with
    | zero => exact ⟨rfl, rfl⟩
    | succ k =>
      have := ih (k := k) (by simpa using h)
      rw [show (k + 1) * 2 = k * 2 + 1 + 1 by omega]
      exact this
theorem scells_set {l : List Sd} {k : Nat} {v : Sd} (h : k < l.length) : scells (l.set k v) = ((scells l).set (k * 2) (.int .i64 v.1)).set (k * 2 + 1) (.bool v.2) := by
  induction l generalizing k with
  | nil => simp at h
  | cons a t ih =>
    cases k with
    | zero => rfl
    | succ k =>
      have := ih (k := k) (by simpa using h)
      rw [show (k + 1) * 2 = k * 2 + 1 + 1 by omega, List.set_cons_succ]
      show scs a ++ scells (t.set k v) = _
      rw [this]
      rfl
theorem stand_zeros (n : Nat) : madeCells #[Value.int .i64 0, .bool false] (n * 2) = (scells (List.replicate n z0)).toArray := by
  unfold madeCells
  apply Array.ext'
  rw [show (scells (List.replicate n z0)).toArray.toList = scells (List.replicate n z0) by simp]
  apply List.ext_getElem
  · simp [scells_len]
  · intro i h1 h2
    have h2 : i < n * 2 := by simpa [scells_len] using h2
    have h3 := scells_at (l := List.replicate n z0) (k := i / 2) (by rw [List.length_replicate]; omega)
    rw [show (List.replicate n z0).getD (i / 2) z0 = z0 by simp [List.getD, show i / 2 < n by omega]] at h3
    rcases Nat.lt_or_ge (i % 2) 1 with e | e
    · have e0 : i % 2 = 0 := by omega
      have h4 := h3.1
      rw [show i / 2 * 2 = i by omega, List.getElem?_eq_getElem (by rw [scells_len, List.length_replicate]; exact h2)] at h4
      injection h4 with h4
      rw [h4]
      simp [e0, z0]
    · have e1 : i % 2 = 1 := by omega
      have h4 := h3.2
      rw [show i / 2 * 2 + 1 = i by omega, List.getElem?_eq_getElem (by rw [scells_len, List.length_replicate]; exact h2)] at h4
      injection h4 with h4
      rw [h4]
      simp [e1, z0]
theorem stand_make (n : Nat) (hn : n ≤ 65536) (w : World) : (Instr.makeSlice 34 (.int .i64 (n : Int)) (.int .i64 (n : Int))).run Try.prog w = .ok (.slice (some ⟨w.heap.size, 0, none⟩) n n) (w.alloc (.cells (scells (List.replicate n z0)).toArray 53)) := by
  obtain ⟨i0, hi, hz0, hz1, hz2⟩ := info_parts info_stand
  have h := run_make (P := Try.prog) w 34 53 i0 _ Try.underlying34 hi hz0 .i64 .i64 n n (by omega) (Int.le_refl _) (by rw [hz2]; omega) (by omega)
  rw [hz1, Int.toNat_natCast] at h
  rw [← stand_zeros]
  exact h
theorem stand_fields : ∃ a b : Field, (Try.prog.fieldsOf 53).toList = [a, b] ∧ a.name = "at" ∧ b.name = "read" ∧ a.type = 3 ∧ b.type = 4 ∧ a.offset = 0 ∧ b.offset = 1 := by
  have hm : (Try.prog.fieldsOf 53).toList.map (fun f => (f.name, f.type, f.offset)) = [("at", 3, 0), ("read", 4, 1)] := by kernel_rfl
  generalize (Try.prog.fieldsOf 53).toList = fs at hm
  rcases fs with _ | ⟨a, _ | ⟨b, _ | ⟨d, t⟩⟩⟩
  · simp at hm
  · simp at hm
  · simp at hm
    exact ⟨a, b, rfl, hm.1.1, hm.2.1, hm.1.2.1, hm.2.2.1, hm.1.2.2, hm.2.2.2⟩
  · simp at hm
/-- Two stands are held against one another as a whole. -/
theorem eq_stand (a c : Int) (b d : Bool) (W : World) : (Op.equalIn 10000 53 (.agg #[.int .i64 a, .bool b]) (.agg #[.int .i64 c, .bool d])).run Try.prog W = .ok (decide (((a, b) : Sd) = (c, d))) W := by
  rw [run_equalIn_agg W 9999 _ _ _ (by kernel_rfl) (by kernel_rfl)]
  obtain ⟨f, g, hf, n1, n2, t1, t2, o1, o2⟩ := stand_fields
  rw [hf]
  by_cases h1 : a = c
  · subst h1
    cases b <;> cases d <;> simp [go_sem, n1, n2, t1, t2, o1, o2]
  · have h2 : (a == c) = false := by simpa using h1
    simp [go_sem, n1, n2, t1, t2, o1, o2, h2, h1]
theorem eq_stand_guard (a c : Int) (b d : Bool) (x y : Operand) (W : World) : (eqGuard .eql 53 x y (.agg #[.int .i64 a, .bool b]) (.agg #[.int .i64 c, .bool d])).run Try.prog W = .ok () W :=
  run_eqGuard_agg W .eql _ x y _ _ (by kernel_rfl)

/-- The lock at p (nil: no threads): what its threads are lies in block g. -/
def Sk (w : World) (p : Option Addr) (g : Nat) (A : List Sd) : Prop :=
  (p = none ∧ A = []) ∨ ∃ b q c, p = some ⟨b, 0, none⟩ ∧ Is w b 36 #[.slice q A.length c] ∧ (0 < A.length → q = some ⟨g, 0, none⟩ ∧ Is w g 53 (scells A).toArray)
/-- A block that may be such a lock's. -/
def OfS (w : World) (k : Nat) : Prop := ∃ t cs, Is w k t cs ∧ (t = 36 ∨ t = 53)
/-- A slice that reads as threads. -/
def Svs (w : World) (v : Value) (A : List Sd) : Prop := ∃ q c, v = .slice q A.length c ∧ (0 < A.length → ∃ g, q = some ⟨g, 0, none⟩ ∧ g < w.heap.size ∧ ∀ k, k < A.length → w.cell? ⟨g, k * 2, none⟩ = some (.int .i64 (A.getD k z0).1) ∧ w.cell? ⟨g, k * 2 + 1, none⟩ = some (.bool (A.getD k z0).2))

section
variable {w w' : World} {p : Option Addr} {g k : Nat} {A : List Sd} {S : Nat → Prop} {v : Value}
theorem Sk.kept (h : Sk w p g A) (k : Kept S w w') (hs : ∀ i, OfS w i → ¬ S i) : Sk w' p g A := by
  rcases h with h | ⟨b, q, c, e, h1, h2⟩
  · exact .inl h
  · refine .inr ⟨b, q, c, e, h1.kept k (hs b ⟨_, _, h1, .inl rfl⟩), fun z => ?_⟩
    obtain ⟨e2, h3⟩ := h2 z
    exact ⟨e2, h3.kept k (hs g ⟨_, _, h3, .inr rfl⟩)⟩
theorem Sk.keep (h : Sk w p g A) (k : Kept Nil w w') : Sk w' p g A := h.kept k (fun _ _ z => z)
theorem Is.stand {m : Nat} (h : Is w g 53 (scells A).toArray) (hm : m < A.length) : w.cell? ⟨g, m * 2, none⟩ = some (.int .i64 (A.getD m z0).1) ∧ w.cell? ⟨g, m * 2 + 1, none⟩ = some (.bool (A.getD m z0).2) := by
  rw [h.cell, h.cell, List.getElem?_toArray, List.getElem?_toArray]
  exact scells_at hm
theorem Sk.svs {q : Option Addr} {c : Nat} (h : 0 < A.length → q = some ⟨g, 0, none⟩ ∧ Is w g 53 (scells A).toArray) : Svs w (.slice q A.length c) A := by
  refine ⟨q, c, rfl, fun z => ?_⟩
  obtain ⟨e, h2⟩ := h z
  exact ⟨g, e, h2.lt, fun k hk => h2.stand hk⟩
theorem Svs.kept (h : Svs w v A) (k : Kept Nil w w') : Svs w' v A := by
  obtain ⟨q, c, e, h2⟩ := h
  refine ⟨q, c, e, fun z => ?_⟩
  obtain ⟨g, e2, hg, h3⟩ := h2 z
  exact ⟨g, e2, Nat.lt_of_lt_of_le hg k.size, fun j hj => ⟨(k.cell (p := ⟨g, j * 2, none⟩) hg (fun c => c)).trans (h3 j hj).1, (k.cell (p := ⟨g, j * 2 + 1, none⟩) hg (fun c => c)).trans (h3 j hj).2⟩⟩
theorem sm_min {t : Int} : min (max t 0) 32 = (um t : Int) := by unfold um; split <;> (try split) <;> omega

set_option maxHeartbeats 1000000
/-- New. -/
theorem snew_c (w : World) (t : Int) : Calls Try.prog 8 #[.int .i64 t] w fun e w' => ∃ p g, e = .returned (.pointer p) ∧ Sk w' p g (List.replicate (um t) z0) ∧ Kept Nil w w' ∧ w.heap.size ≤ g := by
  have hm := sm_min (t := t)
  have hle := um_le (t := t)
  generalize um t = n at *
  have hmk := stand_make n (by omega) w
  have hln : (List.replicate n z0).length = n := List.length_replicate
  obtain ⟨z, hz⟩ : ∃ z, (if t < 0 then (0 : Int) else t) = z := ⟨_, rfl⟩
  have hz4 : (if 32 < z then (32 : Int) else z) = (n : Int) := by rw [← hz, ← hm]; repeat' split; all_goals omega
  generalize List.replicate n z0 = A at *
  have HK := hide (((Kept.refl Nil w).alloc (.cells (scells A).toArray 53)).alloc (.cells #[.slice (some ⟨w.heap.size, 0, none⟩) n n] 36))
  have H1 := hide ((Is.new w 53 (scells A).toArray).alloc (.cells #[.slice (some ⟨w.heap.size, 0, none⟩) n n] 36))
  have H2 := hide (Is.new (w.alloc (.cells (scells A).toArray 53)) 36 #[.slice (some ⟨w.heap.size, 0, none⟩) n n])
  have HN := hide hln
  clear hm hln
  obtain ⟨C, hC⟩ : ∃ C, scells A = C := ⟨_, rfl⟩
  rw [hC] at H1 H2 HK hmk
  have HC := hide hC
  clear hC
  go_enter Try.func8, Try.ntmps8
  go_wp2_with fail
  go_ret
  refine ⟨_, w.heap.size, rfl, .inr ⟨_, _, n, rfl, ?_, fun _ => ⟨rfl, ?_⟩⟩, HK.out, Nat.le_refl _⟩
  · rw [HN.out]
    have := H2.out
    simpa using this
  · rw [HC.out]
    have := H1.out
    simpa using this
/-- all. -/
theorem sall_c (h : Sk w p g A) : Calls Try.prog 26 #[.pointer p] w fun e w' => ∃ v, e = .returned v ∧ Svs w v A ∧ w = w' := by
  rcases h with ⟨rfl, rfl⟩ | ⟨b, q, c, rfl, h1, h2⟩
  · have HS := hide (show Svs w (.slice none 0 0) [] from ⟨none, 0, rfl, fun z => absurd z (by decide)⟩)
    go_enter Try.func26, Try.ntmps26
    go_wp2_with fail
    go_ret
    exact ⟨_, rfl, HS.out, rfl⟩
  · have g0 : w.cell? ⟨b, 0, none⟩ = some (.slice q A.length c) := h1.cell 0
    have HS := hide (Sk.svs (c := c) h2)
    clear h1 h2
    go_enter Try.func26, Try.ntmps26
    go_wp2_with fail
    go_ret
    exact ⟨_, rfl, HS.out, rfl⟩
/-- has. -/
theorem shas_c (t : Int) {b : Bool} (hb : decide (0 ≤ t ∧ t < A.length) = b) (h : Sk w p g A) : Calls Try.prog 23 #[.pointer p, .int .i64 t] w fun e w' => e = .returned (.bool b) ∧ w = w' := by
  have HT := hide (sall_c h)
  have HB := hide hb
  clear hb h
  by_cases h0 : 0 ≤ t
  · have d0 : decide (0 ≤ t) = true := by simpa using h0
    by_cases h1 : t < A.length
    · have d1 : decide (t < (A.length : Int)) = true := by simpa using h1
      have HE : Hid (b = true) := hide (by rw [← HB.out]; exact decide_eq_true ⟨h0, h1⟩)
      clear h0 h1 HB
      go_enter Try.func23, Try.ntmps23
      go_wp2_with fail
      refine HT.out.mono ?_
      rintro e w' ⟨v, rfl, ⟨q, c, rfl, hx⟩, rfl⟩
      clear hx
      go_wp2_with fail
      go_ret
      exact ⟨by rw [HE.out]; rfl, rfl⟩
    · have d1 : decide (t < (A.length : Int)) = false := by simpa using h1
      have HE : Hid (b = false) := hide (by rw [← HB.out]; exact decide_eq_false (fun z => h1 z.2))
      clear h0 h1 HB
      go_enter Try.func23, Try.ntmps23
      go_wp2_with fail
      refine HT.out.mono ?_
      rintro e w' ⟨v, rfl, ⟨q, c, rfl, hx⟩, rfl⟩
      clear hx
      go_wp2_with fail
      go_ret
      exact ⟨by rw [HE.out]; rfl, rfl⟩
  · have d0 : decide (0 ≤ t) = false := by simpa using h0
    have HE : Hid (b = false) := hide (by rw [← HB.out]; exact decide_eq_false (fun z => h0 z.1))
    clear h0 HB
    go_enter Try.func23, Try.ntmps23
    go_wp2_with fail
    go_ret
    exact ⟨by rw [HE.out]; rfl, rfl⟩
/-- State. -/
theorem sstate_c (t : Int) (h : Sk w p g A) : Calls Try.prog 10 #[.pointer p, .int .i64 t] w fun e w' => e = .returned (.tuple #[.int .i64 (ssta A t).1, .bool (ssta A t).2]) ∧ Kept Nil w w' := by
  by_cases ht : 0 ≤ t ∧ t < A.length
  · have HH := hide (shas_c t (decide_eq_true ht) h)
    obtain ⟨k, rfl⟩ : ∃ k : Nat, t = k := ⟨t.toNat, by omega⟩
    have hk : k < A.length := by omega
    have HS := hide (ssta_at hk)
    rcases h with ⟨_, rfl⟩ | ⟨b, q, c, rfl, h1, h2⟩
    · simp at hk
    · obtain ⟨rfl, h3⟩ := h2 (by omega)
      have g0 : w.cell? ⟨b, 0, none⟩ = some (.slice (some ⟨g, 0, none⟩) A.length c) := h1.cell 0
      obtain ⟨g1, g2⟩ := h3.stand hk
      generalize A.getD k z0 = x at *
      obtain ⟨a, r⟩ := x
      have g1 : w.cell? ⟨g, k * 2, none⟩ = some (.int .i64 a) := g1
      have g2 : w.cell? ⟨g, k * 2 + 1, none⟩ = some (.bool r) := g2
      have HK := hide ((Kept.refl Nil w).alloc (.cells #[.int .i64 a, .bool r] 53))
      clear h1 h2 h3 ht
      go_enter Try.func10, Try.ntmps10
      go_wp2_with fail
      refine HH.out.mono ?_
      rintro e w' ⟨rfl, rfl⟩
      go_wp2_with fail
      go_quiet (fail)
      go_wp2_with fail
      go_ret2
      exact ⟨by rw [HS.out]; rfl, HK.out.drewN _⟩
  · have HH := hide (shas_c t (decide_eq_false ht) h)
    have HS := hide (ssta_out ht)
    clear h ht
    go_enter Try.func10, Try.ntmps10
    go_wp2_with fail
    refine HH.out.mono ?_
    rintro e w' ⟨rfl, rfl⟩
    go_wp2_with fail
    go_ret2
    exact ⟨by rw [HS.out]; rfl, Kept.refl _ _⟩
/-- Writer. -/
theorem swriter_c (h : Sk w p g A) (hl : A.length ≤ 65536) : Calls Try.prog 12 #[.pointer p] w fun e w' => e = .returned (.int .i64 (wri A)) ∧ Kept Nil w w' := by
  have HA := hide (sall_c h)
  clear h
  go_enter Try.func12, Try.ntmps12
  go_wp2_with fail
  refine HA.out.mono ?_
  rintro e w' ⟨v, rfl, hv, rfl⟩
  have HV := hide hv
  obtain ⟨q, c, rfl, _⟩ := hv
  clear HA
  go_wp2_with fail
  go_loopw [8] (fun i wr => ∃ k : Nat, k ≤ A.length ∧ i = .int .i64 k ∧ (∀ j, j < k → A.getD j z0 ≠ (2, false)) ∧ Kept Nil w wr) (fun i _ => A.length - (intOf i).toNat)
  case atStart => exact ⟨0, Nat.zero_le _, rfl, fun j h => by omega, Kept.refl _ _⟩
  case round =>
    obtain ⟨k, hk, rfl, hn, hkp⟩ := hrel
    have HN := hide hn
    have HK := hide hkp
    clear hn hkp
    by_cases hlt : k < A.length
    · obtain ⟨q', c', e, hp⟩ := HV.out.kept HK.out
      injection e with e1 e3 e2
      clear e3
      subst e1 e2
      obtain ⟨g, rfl, _, hc⟩ := hp (by omega)
      obtain ⟨c1, c2⟩ := hc k hlt
      clear hc hp
      have HX := hide (fun h => wri_hit hlt h HN.out)
      have HY := hide (fun (h : A.getD k z0 ≠ (2, false)) (j : Nat) (hj : j < k + 1) => show A.getD j z0 ≠ (2, false) from by
        by_cases e : j = k
        · rw [e]; exact h
        · exact HN.out j (by omega))
      generalize A.getD k z0 = y at *
      obtain ⟨a, r⟩ := y
      have c1 : wr.cell? ⟨g, k * 2, none⟩ = some (.int .i64 a) := c1
      have c2 : wr.cell? ⟨g, k * 2 + 1, none⟩ = some (.bool r) := c2
      have HW := hide (HK.out.alloc (.cells #[.int .i64 a, .bool r] 53))
      have e3 := eq_stand_guard a 2 r false
      by_cases hy : ((a, r) : Sd) = (2, false)
      · have HR := hide (HX.out hy)
        have e2 : ∀ W, (Op.equalIn 10000 53 (.agg #[.int .i64 a, .bool r]) (.agg #[.int .i64 2, .bool false])).run Try.prog W = .ok true W := fun W => by rw [eq_stand, decide_eq_true hy]
        clear HX HY hy
        go_wp2_with fail
        go_ret
        exact ⟨by rw [HR.out]; rfl, HW.out⟩
      · have HR := hide (HY.out hy)
        have e2 : ∀ W, (Op.equalIn 10000 53 (.agg #[.int .i64 a, .bool r]) (.agg #[.int .i64 2, .bool false])).run Try.prog W = .ok false W := fun W => by rw [eq_stand, decide_eq_false hy]
        clear HX HY hy
        go_wp2_with fail
        go_roundw
        case rel => exact ⟨k + 1, by omega, by go_num, HR.out, HW.out⟩
        case measure => simp [intOf]; omega
    · obtain rfl : k = A.length := by omega
      have HR := hide (wri_miss HN.out)
      go_wp2_with fail
      go_ret
      exact ⟨by rw [HR.out]; rfl, HK.out⟩
/-- Readers. -/
theorem sreaders_c (h : Sk w p g A) (hl : A.length ≤ 65536) : Calls Try.prog 11 #[.pointer p] w fun e w' => e = .returned (.int .i64 (rdn A : Nat)) ∧ Kept Nil w w' := by
  have HA := hide (sall_c h)
  clear h
  have HL := hide fun (k : Nat) => show cnt (2, true) (A.take k) ≤ 65536 from by
    have := cnt_le (x := (2, true)) (A := A.take k)
    rw [List.length_take] at this
    omega
  go_enter Try.func11, Try.ntmps11
  go_wp2_with fail
  refine HA.out.mono ?_
  rintro e w' ⟨v, rfl, hv, rfl⟩
  have HV := hide hv
  obtain ⟨q, c, rfl, _⟩ := hv
  clear HA
  go_wp2_with fail
  go_loopw [3, 9] (fun m i wr => ∃ k : Nat, k ≤ A.length ∧ i = .int .i64 k ∧ m = .int .i64 (cnt (2, true) (A.take k) : Nat) ∧ Kept Nil w wr) (fun _ i _ => A.length - (intOf i).toNat)
  case atStart => exact ⟨0, Nat.zero_le _, rfl, rfl, Kept.refl _ _⟩
  case round =>
    obtain ⟨k, hk, rfl, rfl, hkp⟩ := hrel
    have HK := hide hkp
    clear hkp
    by_cases hlt : k < A.length
    · obtain ⟨q', c', e, hp⟩ := HV.out.kept HK.out
      injection e with e1 e3 e2
      clear e3
      subst e1 e2
      obtain ⟨g, rfl, _, hc⟩ := hp (by omega)
      obtain ⟨c1, c2⟩ := hc k hlt
      clear hc hp
      have HX := hide (cnt_take (x := (2, true)) hlt)
      have hle := HL.out k
      generalize cnt (2, true) (A.take k) = m at *
      generalize A.getD k z0 = y at *
      obtain ⟨a, r⟩ := y
      have c1 : wr.cell? ⟨g, k * 2, none⟩ = some (.int .i64 a) := c1
      have c2 : wr.cell? ⟨g, k * 2 + 1, none⟩ = some (.bool r) := c2
      have HW := hide (HK.out.alloc (.cells #[.int .i64 a, .bool r] 53))
      have e3 := eq_stand_guard a 2 r true
      by_cases hy : ((a, r) : Sd) = (2, true)
      · have HR : Hid (cnt (2, true) (A.take (k + 1)) = m + 1) := hide (HX.out.trans (by rw [if_pos hy]))
        have e2 : ∀ W, (Op.equalIn 10000 53 (.agg #[.int .i64 a, .bool r]) (.agg #[.int .i64 2, .bool true])).run Try.prog W = .ok true W := fun W => by rw [eq_stand, decide_eq_true hy]
        clear HX hy
        go_wp2_with fail
        go_roundw
        case rel => exact ⟨k + 1, by omega, by go_num, by rw [HR.out]; go_num, HW.out⟩
        case measure => simp [intOf]; omega
      · have HR : Hid (cnt (2, true) (A.take (k + 1)) = m) := hide (HX.out.trans (by rw [if_neg hy, Nat.add_zero]))
        have e2 : ∀ W, (Op.equalIn 10000 53 (.agg #[.int .i64 a, .bool r]) (.agg #[.int .i64 2, .bool true])).run Try.prog W = .ok false W := fun W => by rw [eq_stand, decide_eq_false hy]
        clear HX hy
        go_wp2_with fail
        go_roundw
        case rel => exact ⟨k + 1, by omega, by go_num, by rw [HR.out], HW.out⟩
        case measure => simp [intOf]; omega
    · obtain rfl : k = A.length := by omega
      have HR : Hid (cnt (2, true) (A.take A.length) = rdn A) := hide (by rw [List.take_length]; rfl)
      go_wp2_with fail
      go_ret
      exact ⟨by rw [← HR.out]; rfl, HK.out⟩
end
end Go.Proofs.Ytmmncaabeiagaaa
