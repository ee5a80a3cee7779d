/- The table: what it is in memory; the methods that only read it. -/
import Derived.Test.YtepajkakpkndmaaPFind
import Derived.Test.YtepajkakpkndmaaTCheck
namespace Go.Proofs.Ytepajkakpkndmaa
open Go.RowKit
set_option maxRecDepth 100000

/-- What a table may hold. -/
def Okay (P T L : List Int) : Prop := (P = [] ∧ T = [] ∧ L = []) ∨ (chk P T = 0 ∧ L = lf P)
/-- The table in block b. -/
structure Cells (w : World) (b : Nat) (A0 A1 A2 : Option Addr) (c0 c1 c2 : Nat) (d : Int) (x6 : Value) (P T L : List Int) : Prop where
  is_ : Is w b 50 (tcells (.slice A0 P.length c0) (.slice A1 T.length c1) (.slice A2 L.length c2) d 0 x6)
  n0 : Nums w (.slice A0 P.length c0) P
  n1 : Nums w (.slice A1 T.length c1) T
  n2 : Nums w (.slice A2 L.length c2) L
  okay : Okay P T L
  cap : T.length ≤ c1
  up : (d = 0 ∧ x6 = .slice none 0 0) ∨ (d = 1 ∧ Lists w x6 (T.map fun x => ups P x.toNat))
def Tab (w : World) (b : Nat) (P T L : List Int) : Prop := ∃ A0 A1 A2 c0 c1 c2 d x6, Cells w b A0 A1 A2 c0 c1 c2 d x6 P T L
/-- A table, or nil. -/
def PTab (w : World) (v : Value) (P T L : List Int) : Prop := (v = .pointer none ∧ P = [] ∧ T = [] ∧ L = []) ∨ ∃ b, v = .pointer (some ⟨b, 0, none⟩) ∧ Tab w b P T L
/-- The block of a pointer. -/
def Mine (v : Value) : Nat → Prop := fun g => v = .pointer (some ⟨g, 0, none⟩)

section
variable {w w' : World} {v : Value} {b : Nat} {A0 A1 A2 : Option Addr} {c0 c1 c2 : Nat} {d : Int} {x6 : Value} {P T L : List Int}
theorem Cells.keep (h : Cells w b A0 A1 A2 c0 c1 c2 d x6 P T L) (k : Kept Nil w w') : Cells w' b A0 A1 A2 c0 c1 c2 d x6 P T L :=
  ⟨h.is_.kept k (fun z => z), h.n0.kept k, h.n1.kept k, h.n2.kept k, h.okay, h.cap, h.up.imp id fun ⟨e, l⟩ => ⟨e, l.kept k⟩⟩
theorem Tab.keep (h : Tab w b P T L) (k : Kept Nil w w') : Tab w' b P T L := by
  obtain ⟨A0, A1, A2, c0, c1, c2, d, x6, h⟩ := h
  exact ⟨A0, A1, A2, c0, c1, c2, d, x6, h.keep k⟩
theorem PTab.keep (h : PTab w v P T L) (k : Kept Nil w w') : PTab w' v P T L := h.imp id fun ⟨b, e, t⟩ => ⟨b, e, t.keep k⟩
theorem Okay.small (h : Okay P T L) : P.length ≤ 32 ∧ T.length ≤ 32 ∧ L.length ≤ 32 := by
  rcases h with ⟨rfl, rfl, rfl⟩ | ⟨h, rfl⟩
  · decide
  · have := chk_zero h
    have h2 : (lf P).length ≤ P.length := lfk_len
    omega
theorem PTab.okay (h : PTab w v P T L) : Okay P T L := by
  rcases h with ⟨_, h1, h2, h3⟩ | ⟨b, _, A0, A1, A2, c0, c1, c2, d, x6, h⟩
  · exact .inl ⟨h1, h2, h3⟩
  · exact h.okay
/-- Where there is a thread there is a table. -/
theorem PTab.some (h : PTab w v P T L) (h0 : 0 < T.length) : (∃ b, v = .pointer (some ⟨b, 0, none⟩) ∧ Tab w b P T L) ∧ chk P T = 0 ∧ L = lf P := by
  have ho := h.okay
  rcases h with ⟨_, _, rfl, _⟩ | ⟨b, e, h⟩
  · exact absurd h0 (by decide)
  · rcases ho with ⟨_, rfl, _⟩ | ho
    · exact absurd h0 (by decide)
    · exact ⟨⟨b, e, h⟩, ho⟩
theorem Cells.at0 (h : Cells w b A0 A1 A2 c0 c1 c2 d x6 P T L) : w.cell? ⟨b, 0, none⟩ = Option.some (.slice A0 P.length c0) := h.is_.cell 0
theorem Cells.at1 (h : Cells w b A0 A1 A2 c0 c1 c2 d x6 P T L) : w.cell? ⟨b, 1, none⟩ = Option.some (.slice A1 T.length c1) := h.is_.cell 1
theorem Cells.at2 (h : Cells w b A0 A1 A2 c0 c1 c2 d x6 P T L) : w.cell? ⟨b, 2, none⟩ = Option.some (.slice A2 L.length c2) := h.is_.cell 2
theorem Cells.at3 (h : Cells w b A0 A1 A2 c0 c1 c2 d x6 P T L) : w.cell? ⟨b, 3, none⟩ = Option.some (.int .u32 d) := h.is_.cell 3
theorem Cells.at4 (h : Cells w b A0 A1 A2 c0 c1 c2 d x6 P T L) : w.cell? ⟨b, 4, none⟩ = Option.some (.int .i32 0) := h.is_.cell 4
theorem Cells.at5 (h : Cells w b A0 A1 A2 c0 c1 c2 d x6 P T L) : w.cell? ⟨b, 5, none⟩ = Option.some (.int .u32 0) := h.is_.cell 5
theorem Cells.at6 (h : Cells w b A0 A1 A2 c0 c1 c2 d x6 P T L) : w.cell? ⟨b, 6, none⟩ = Option.some x6 := h.is_.cell 6

set_option maxHeartbeats 1000000
/-- Nodes. -/
theorem nodes_c (h : PTab w v P T L) : Calls Try.prog 10 #[v] w fun e w' => e = .returned (.int .i64 L.length) ∧ w' = w := by
  rcases h with ⟨rfl, rfl, rfl, rfl⟩ | ⟨b, rfl, A0, A1, A2, c0, c1, c2, d, x6, h⟩
  · go_enter Try.func10, Try.ntmps10
    go_wp2_with fail
    go_ret
    exact ⟨rfl, rfl⟩
  · have q2 := h.at2
    clear h
    go_enter Try.func10, Try.ntmps10
    go_wp2_with fail
    go_ret
    exact ⟨rfl, rfl⟩
/-- Threads. -/
theorem threads_c (h : PTab w v P T L) : Calls Try.prog 14 #[v] w fun e w' => e = .returned (.int .i64 T.length) ∧ w' = w := by
  rcases h with ⟨rfl, rfl, rfl, rfl⟩ | ⟨b, rfl, A0, A1, A2, c0, c1, c2, d, x6, h⟩
  · go_enter Try.func14, Try.ntmps14
    go_wp2_with fail
    go_ret
    exact ⟨rfl, rfl⟩
  · have q1 := h.at1
    clear h
    go_enter Try.func14, Try.ntmps14
    go_wp2_with fail
    go_ret
    exact ⟨rfl, rfl⟩
/-- has. -/
theorem has_c {b0 : Bool} (a : Int) (hb : (decide (0 ≤ a) && decide (a < (T.length : Int))) = b0) (h : PTab w v P T L) : Calls Try.prog 34 #[v, .int .i64 a] w fun e w' => e = .returned (.bool b0) ∧ w' = w := by
  have HB := hide hb
  have ct := threads_c h
  clear hb h
  by_cases h1 : 0 ≤ a
  · by_cases h2 : a < (T.length : Int)
    · have HM : Hid ((decide (0 ≤ a) && decide (a < (T.length : Int))) = true) := hide (by simp [h1, h2])
      go_enter Try.func34, Try.ntmps34
      go_wp2_with fail
      refine ct.mono ?_
      rintro e w' ⟨rfl, rfl⟩
      go_wp2_with fail
      go_ret
      exact ⟨ret_yes HM.out HB.out, rfl⟩
    · have HM : Hid ((decide (0 ≤ a) && decide (a < (T.length : Int))) = false) := hide (by simp [h2])
      have h3 : decide (a < (T.length : Int)) = false := by simpa using h2
      clear h2
      go_enter Try.func34, Try.ntmps34
      go_wp2_with fail
      refine ct.mono ?_
      rintro e w' ⟨rfl, rfl⟩
      go_wp2_with fail
      go_ret
      exact ⟨ret_no HM.out HB.out, rfl⟩
  · have HM : Hid ((decide (0 ≤ a) && decide (a < (T.length : Int))) = false) := hide (by simp [h1])
    have h3 : decide (0 ≤ a) = false := by simpa using h1
    clear h1
    go_enter Try.func34, Try.ntmps34
    go_wp2_with fail
    go_ret
    exact ⟨ret_no HM.out HB.out, rfl⟩
theorem has_yes {k : Nat} (h : PTab w v P T L) (hk : k < T.length) : Calls Try.prog 34 #[v, .int .i64 k] w fun e w' => e = .returned (.bool true) ∧ w' = w := has_c k (by simp; omega) h
theorem has_no {a : Int} (h : PTab w v P T L) (ha : ¬ (0 ≤ a ∧ a < T.length)) : Calls Try.prog 34 #[v, .int .i64 a] w fun e w' => e = .returned (.bool false) ∧ w' = w := has_c a (by
  by_cases h1 : 0 ≤ a
  · have h2 : ¬ a < (T.length : Int) := fun z => ha ⟨h1, z⟩
    simp [h2]
  · simp [h1]) h
/-- Node. -/
theorem node_c {m : Int} (a : Int) (hm : nodeT L T a = m) (h : PTab w v P T L) : Calls Try.prog 13 #[v, .int .i64 a] w fun e w' => e = .returned (.int .i64 m) ∧ ∃ q, w' = w.drewN q := by
  have HM := hide hm
  have ho := h.okay.small
  by_cases ha : 0 ≤ a ∧ a < T.length
  · obtain ⟨k, rfl⟩ : ∃ k : Nat, a = k := ⟨a.toNat, by omega⟩
    have hk : k < T.length := by omega
    have ch := has_yes h hk
    obtain ⟨⟨b, rfl, A0, A1, A2, c0, c1, c2, d, x6, hc⟩, -⟩ := h.some (by omega)
    have q1 := hc.at1
    have q2 := hc.at2
    obtain ⟨A1', c1', e1, p1⟩ := hc.n1
    injection e1 with e1 _ e3
    subst e1 e3
    obtain ⟨g1, o1, rfl, hg1, j1⟩ := p1 (by omega)
    have d1 := j1 k hk
    have HR : Hid (fidx (fun y => y == T.getD k 0) L = m) := hide (by rw [← HM.out]; unfold nodeT; rw [if_pos ha, Int.toNat_natCast])
    have cp := fun n => place_c (w := w.drewN n) _ HR.out (hc.n2.kept ((Kept.refl Nil w).drewN n)) (by omega)
    have hk0 : (k : Int) < (T.length : Int) := by omega
    clear ha hm hc p1 j1 h HR
    generalize T.getD k 0 = y at *
    go_enter Try.func13, Try.ntmps13
    go_wp2_with fail
    refine ch.mono ?_
    rintro e w' ⟨rfl, rfl⟩
    go_wp2_with fail
    go_quiet ((go_at_call 35; exact Calls.quiet_of_same (cp _)))
    go_wp2_with fail
    go_ret
    exact ⟨rfl, _, rfl⟩
  · have ch := has_no h ha
    have HR : Hid (m = -1) := hide (by rw [← HM.out]; unfold nodeT; rw [if_neg ha])
    clear ha h
    go_enter Try.func13, Try.ntmps13
    go_wp2_with fail
    refine ch.mono ?_
    rintro e w' ⟨rfl, rfl⟩
    go_wp2_with fail
    go_ret
    exact ⟨by rw [HR.out]; rfl, 0, rfl⟩
/-- Slot. -/
theorem slot_c {m : Int} (a : Int) (hm : slotT T a = m) (h : PTab w v P T L) : Calls Try.prog 12 #[v, .int .i64 a] w fun e w' => e = .returned (.int .i64 m) ∧ ∃ q, w' = w.drewN q := by
  have HM := hide hm
  have ho := h.okay.small
  by_cases ha : 0 ≤ a ∧ a < T.length
  · obtain ⟨k, rfl⟩ : ∃ k : Nat, a = k := ⟨a.toNat, by omega⟩
    have hk : k < T.length := by omega
    have ch := has_yes h hk
    obtain ⟨⟨b, rfl, A0, A1, A2, c0, c1, c2, d, x6, hc⟩, -⟩ := h.some (by omega)
    have q1 := hc.at1
    have hn1 := hc.n1
    obtain ⟨A1', c1', e1, p1⟩ := hc.n1
    injection e1 with e1 _ e3
    subst e1 e3
    obtain ⟨g1, o1, rfl, hg1, j1⟩ := p1 (by omega)
    have d1 := j1 k hk
    obtain ⟨mm, hmm⟩ : ∃ mm : Nat, cnt (T.take k) (T.getD k 0) = mm := ⟨_, rfl⟩
    have HR : Hid (m = (mm : Int)) := hide (by rw [← HM.out]; unfold slotT; rw [if_pos ha, Int.toNat_natCast, hmm])
    have cp := fun n => count_c (w := w.drewN n) _ hmm ((hn1.take (Nat.le_of_lt hk)).kept ((Kept.refl Nil w).drewN n)) (by rw [List.length_take]; omega)
    have hk0 : (k : Int) < (T.length : Int) := by omega
    have hk1 : (0 : Int) ≤ (k : Int) := Int.natCast_nonneg _
    have hk2 : (k : Int) ≤ (c1 : Int) := by have := hc.cap; omega
    clear ha hm hc p1 j1 h hn1 hmm
    generalize T.getD k 0 = y at *
    go_enter Try.func12, Try.ntmps12
    go_wp2_with fail
    refine ch.mono ?_
    rintro e w' ⟨rfl, rfl⟩
    go_wp2_with fail
    go_quiet ((go_at_call 33; exact Calls.quiet_of_same (cp _)))
    go_wp2_with fail
    go_ret
    exact ⟨by rw [HR.out]; rfl, _, rfl⟩
  · have ch := has_no h ha
    have HR : Hid (m = -1) := hide (by rw [← HM.out]; unfold slotT; rw [if_neg ha])
    clear ha h
    go_enter Try.func12, Try.ntmps12
    go_wp2_with fail
    refine ch.mono ?_
    rintro e w' ⟨rfl, rfl⟩
    go_wp2_with fail
    go_ret
    exact ⟨by rw [HR.out]; rfl, 0, rfl⟩
/-- Mates. -/
theorem mates_c {m : Int} (a : Int) (hm : matesT L T a = m) (h : PTab w v P T L) : Calls Try.prog 11 #[v, .int .i64 a] w fun e w' => e = .returned (.int .i64 m) ∧ ∃ q, w' = w.drewN q := by
  have HM := hide hm
  have ho := h.okay.small
  have cn := nodes_c h
  by_cases h1 : a < 0
  · have HR : Hid (m = 0) := hide (by rw [← HM.out]; unfold matesT; rw [if_neg (by omega)])
    clear h hm
    go_enter Try.func11, Try.ntmps11
    go_wp2_with fail
    go_ret
    exact ⟨by rw [HR.out]; rfl, 0, rfl⟩
  · have h3 : decide (a < 0) = false := by simpa using h1
    by_cases h2 : a < L.length
    · have h4 : decide ((L.length : Int) ≤ a) = false := by simpa using h2
      obtain ⟨k, rfl⟩ : ∃ k : Nat, a = k := ⟨a.toNat, by omega⟩
      have hk : k < L.length := by omega
      rcases h with ⟨_, _, _, e⟩ | ⟨b, rfl, A0, A1, A2, c0, c1, c2, d, x6, hc⟩
      · rw [e] at hk
        exact absurd hk (by simp)
      · have q1 := hc.at1
        have q2 := hc.at2
        have hn1 := hc.n1
        obtain ⟨A2', c2', e1, p2⟩ := hc.n2
        injection e1 with e1 _ e3
        subst e1 e3
        obtain ⟨g2, o2, rfl, hg2, j2⟩ := p2 (by omega)
        have d2 := j2 k hk
        obtain ⟨mm, hmm⟩ : ∃ mm : Nat, cnt T (L.getD k 0) = mm := ⟨_, rfl⟩
        have HR : Hid (m = (mm : Int)) := hide (by rw [← HM.out]; unfold matesT; rw [if_pos (by omega), Int.toNat_natCast, hmm])
        have cp := fun n => count_c (w := w.drewN n) _ hmm (hn1.kept ((Kept.refl Nil w).drewN n)) (by omega)
        have hk0 : (k : Int) < (L.length : Int) := by omega
        clear hm hc p2 j2 hn1 hmm h1 h2
        generalize L.getD k 0 = y at *
        go_enter Try.func11, Try.ntmps11
        go_wp2_with fail
        refine cn.mono ?_
        rintro e w' ⟨rfl, rfl⟩
        go_wp2_with fail
        go_quiet ((go_at_call 33; exact Calls.quiet_of_same (cp _)))
        go_wp2_with fail
        go_ret
        exact ⟨by rw [HR.out]; rfl, _, rfl⟩
    · have h4 : decide ((L.length : Int) ≤ a) = true := by simpa using h2
      have HR : Hid (m = 0) := hide (by rw [← HM.out]; unfold matesT; rw [if_neg (by omega)])
      clear h hm h1 h2
      go_enter Try.func11, Try.ntmps11
      go_wp2_with fail
      refine cn.mono ?_
      rintro e w' ⟨rfl, rfl⟩
      go_wp2_with fail
      go_ret
      exact ⟨by rw [HR.out]; rfl, 0, rfl⟩
end
end Go.Proofs.Ytepajkakpkndmaa
