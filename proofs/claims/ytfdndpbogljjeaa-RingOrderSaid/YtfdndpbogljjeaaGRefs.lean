/- The document's own rows (kissgateref05): At, Cut and Find of a slice. -/
import Derived.Test.YtfdndpbogljjeaaGMove
import Derived.Test.YtfdndpbogljjeaaNums
import Derived.Test.YtfdndpbogljjeaaGFind
import Derived.OwnWalk
namespace Go.Proofs.Ytfdndpbogljjeaa
open Go.RowKit

section
variable {w : World} {A : Option Addr} {c n : Nat} {xs : List Int}
set_option maxHeartbeats 1000000

/-- At. -/
theorem refAt_c (i : Int) (h : Row w (.slice A n c) xs) : Calls Try.prog 17 #[.slice A n c, .int .i64 i] w fun e w' => e = .returned (.tuple #[.int .i64 (atX xs i), .bool (atB xs i)]) ∧ w = w' := by
  have hn := h.len
  subst hn
  by_cases h0 : i < 0
  · have hx := at_out (xs := xs) (i := i) (by omega)
    rw [hx.1, hx.2]
    have hd : decide (i < 0) = true := by simpa using h0
    go_enter Try.func17, Try.ntmps17
    go_wp2_with fail
    go_ret2
    exact ⟨rfl, rfl⟩
  · have hd : decide (i < 0) = false := by simpa using h0
    by_cases h1 : (xs.length : Int) ≤ i
    · have hx := at_out (xs := xs) (i := i) (by omega)
      rw [hx.1, hx.2]
      have hd1 : decide ((xs.length : Int) ≤ i) = true := by simpa using h1
      go_enter Try.func17, Try.ntmps17
      go_wp2_with fail
      go_ret2
      exact ⟨rfl, rfl⟩
    · obtain ⟨k, rfl⟩ : ∃ k : Nat, i = k := ⟨i.toNat, by omega⟩
      have hk : k < xs.length := by omega
      have hx := at_in (xs := xs) (i := k) (by omega)
      rw [hx.1, hx.2]
      have hd1 : decide ((xs.length : Int) ≤ (k : Int)) = false := by simp; omega
      obtain ⟨g, rfl, hcell, _⟩ := h.cell hk
      rw [show (k : Int).toNat = k from rfl]
      have hkb : (k : Int) < xs.length := by omega
      clear hx
      generalize xs.getD k 0 = x at *
      go_enter Try.func17, Try.ntmps17
      go_wp2_with fail
      go_ret2
      exact ⟨rfl, rfl⟩
/-- Find. -/
theorem refFind_c (x : Int) (h : Row w (.slice A n c) xs) (hl : xs.length ≤ 65536) : Calls Try.prog 19 #[.slice A n c, .int .i64 x] w fun e w' => e = .returned (.int .i64 (findI xs fun y => y == x)) ∧ w = w' := by
  have hn := h.len
  subst hn
  go_enter Try.func19, Try.ntmps19
  go_wp2_with fail
  go_loopw [5] (fun i wr => ∃ (k : Nat), k ≤ xs.length ∧ i = .int .i64 k ∧ w = wr ∧ ∀ j, j < k → (xs.getD j 0 == x) = false) (fun i _ => xs.length - (intOf i).toNat)
  case atStart => exact ⟨0, Nat.zero_le _, rfl, rfl, fun j hj => by omega⟩
  case round =>
    obtain ⟨k, hk, rfl, rfl, hp⟩ := hrel
    by_cases hlt : k < xs.length
    · obtain ⟨g, rfl, hcell, _⟩ := h.cell hlt
      have HP := hide hp
      clear hp
      cases hy : (xs.getD k 0 == x) with
      | true =>
        have HF := hide (find_some (p := fun y => y == x) hlt hy HP.out)
        obtain ⟨y, hyk⟩ : ∃ y, xs.getD k 0 = y := ⟨_, rfl⟩
        rw [hyk] at hcell hy
        clear hyk
        go_wp2_with fail
        go_ret
        exact ⟨by rw [HF.out]; rfl, rfl⟩
      | false =>
        have HY := hide hy
        obtain ⟨y, hyk⟩ : ∃ y, xs.getD k 0 = y := ⟨_, rfl⟩
        rw [hyk] at hcell hy
        clear hyk
        go_wp2_with fail
        go_roundw
        case rel =>
          refine ⟨k + 1, by omega, by go_num, trivial, fun j hj => ?_⟩
          rcases Nat.lt_succ_iff_lt_or_eq.1 hj with h1 | rfl
          · exact HP.out j h1
          · exact HY.out
        case measure => simp [intOf]; omega
    · obtain rfl : k = xs.length := by omega
      have HF := hide (find_none (p := fun y => y == x) hp)
      clear hp
      go_wp2_with fail
      go_ret
      exact ⟨by rw [HF.out]; rfl, rfl⟩

theorem part_hit {xs : List Int} {i k : Nat} (hk : k < xs.length) (hi : i ≠ k) : (xs.take (k + 1)).eraseIdx i = (xs.take k).eraseIdx i ++ [xs.getD k 0] := by
  have e : xs.take (k + 1) = xs.take k ++ [xs.getD k 0] := by
    rw [List.take_add_one, List.getD_eq_getElem?_getD, List.getElem?_eq_getElem hk]
    rfl
  rw [e]
  rcases Nat.lt_or_ge i k with h | h
  · rw [List.eraseIdx_append_of_lt_length (by rw [List.length_take]; omega)]
  · rw [List.eraseIdx_of_length_le (by simp; omega), List.eraseIdx_of_length_le (by simp; omega)]
theorem part_miss {xs : List Int} {k : Nat} : (xs.take (k + 1)).eraseIdx k = (xs.take k).eraseIdx k := by
  apply List.ext_getElem?
  intro j
  simp only [List.getElem?_eraseIdx, List.getElem?_take]
  by_cases h : j < k
  · simp [h]; omega
  · have h1 : ¬ j + 1 < k + 1 := by omega
    have h2 : ¬ j + 1 < k := by omega
    simp [h, h2]

/-- Cut: the row without the place. -/
theorem refCut_c (i : Int) (h : Row w (.slice A n c) xs) (hl : xs.length ≤ 65536) : Calls Try.prog 16 #[.slice A n c, .int .i64 i] w fun e w' =>
    ∃ A' c', e = .returned (.tuple #[.slice A' (cutL xs i).length c', .int .i64 (atX xs i), .bool (atB xs i)]) ∧ Row w' (.slice A' (cutL xs i).length c') (cutL xs i) ∧ Kept Nil w w' ∧ ∀ g, In A' g → In A g ∨ w.heap.size ≤ g := by
  have hn := h.len
  subst hn
  have ha := hide (refAt_c i h)
  by_cases hin : 0 ≤ i ∧ i < xs.length
  · have hx := at_in hin
    rw [cut_in hin, hx.2]
    rw [hx.2] at ha
    obtain ⟨d, rfl⟩ : ∃ d : Nat, i = d := ⟨i.toNat, by omega⟩
    rw [show (d : Int).toNat = d from rfl]
    clear hx
    generalize atX xs d = y at *
    obtain ⟨i0, hi, hz0, hz1, hz2⟩ := info_parts info_int
    go_enter Try.func16, Try.ntmps16
    go_wp2_with fail
    refine ha.out.mono ?_
    rintro e w1 ⟨rfl, rfl⟩
    go_wp2_with fail
    go_loopw [9, 10] (fun v j wr => ∃ (k : Nat) (A' : Option Addr) (c' : Nat), k ≤ xs.length ∧ j = .int .i64 k ∧ v = .slice A' ((xs.take k).eraseIdx d).length c' ∧ Row wr (.slice A' ((xs.take k).eraseIdx d).length c') ((xs.take k).eraseIdx d) ∧ Kept Nil w wr ∧ ∀ g, In A' g → w.heap.size ≤ g) (fun _ j _ => xs.length - (intOf j).toNat)
    case atStart => exact ⟨0, none, 0, Nat.zero_le _, rfl, rfl, Row.empty w, Kept.refl _ _, fun g hg => by cases hg⟩
    case round =>
      obtain ⟨k, A2, c2, hk, rfl, rfl, hrow, hkp, hinn⟩ := hrel
      by_cases hlt : k < xs.length
      · obtain ⟨g, rfl, hcell, _⟩ := h.cell hlt
        have hcell2 : wr.cell? ⟨g, k, none⟩ = some (.int .i64 (xs.getD k 0)) := (hkp.cell (p := ⟨g, k, none⟩) (World.block_lt_of_cell? _ _ hcell) (fun z => z)).trans hcell
        clear hcell
        have HR := hide (And.intro hrow (And.intro hkp hinn))
        clear hrow hkp hinn
        by_cases hkd : k = d
        · have hne : ((k : Int) != (d : Int)) = false := by simp [hkd]
          have HP : (xs.take (k + 1)).eraseIdx d = (xs.take k).eraseIdx d := by rw [← hkd]; exact part_miss
          have HP := hide HP
          generalize (xs.take k).eraseIdx d = L at *
          go_wp2_with fail
          go_roundw
          case rel => exact ⟨k + 1, A2, c2, by omega, by go_num, by rw [HP.out], by rw [HP.out]; exact HR.out.1, HR.out.2.1, HR.out.2.2⟩
          case measure => simp [intOf]; omega
        · have hne : ((k : Int) != (d : Int)) = true := by simp; omega
          have HP := hide (part_hit hlt (i := d) (fun z => hkd z.symm))
          have hLl : ((xs.take k).eraseIdx d).length ≤ 65536 := by
            have h1 := List.length_eraseIdx_le (xs.take k) d
            rw [List.length_take] at h1
            omega
          have hkb : (k : Int) < xs.length := by omega
          generalize (xs.take k).eraseIdx d = L at *
          generalize xs.getD k 0 = x at *
          have HM := hide (show L.length + 1 ≤ maxLen ∧ (L.length + 1) * 8 ≤ 140737488355328 from ⟨by unfold maxLen; omega, by omega⟩)
          have HG := hide fun (w1 : World) (v' : Value) (o : Obj) => Row.push (w := wr.alloc o) (w' := w1) (l := L) (A := A2) (c := c2) (v' := v') (x := x)
          go_wp2_with (at_builtin; refine wpList_append_own_at _ rfl (.tmp 29) (.tmp 34) _ rfl 0 3 i0 (.int .i64 0) 1 8 Try.underlying23 hi hz0 hz1 hz2 rfl (by decide) (.slice A2 L.length c2) L.length (L.map (Value.int .i64)) rfl (HR.out.1.alloc _) ⟨wr.heap.size, 0, none⟩ 1 1 [.int .i64 x] rfl rfl (cell_one_new _ _ _) (by intro u hu; simp at hu; subst hu; rfl) HM.out.1 HM.out.2 (Nat.zero_le _) ?_; intro v' w1 hown' hgrow _ hat; obtain ⟨A3, c3, rfl, hrow2, hk2, hin2⟩ := HG.out w1 v' _ hown' hgrow hat; have HD := hide (And.intro hrow2 (And.intro hk2 hin2)); clear hown' hgrow hat hrow2 hk2 hin2)
          go_roundw
          case rel =>
            refine ⟨k + 1, A3, c3, by omega, by go_num, by rw [HP.out]; simp, by rw [HP.out]; simpa using HD.out.1, ?_, ?_⟩
            · have k1 := (HR.out.2.1.alloc (.cells #[.int .i64 x] 3))
              exact k1.trans HD.out.2.1 (fun j hj z => absurd (HR.out.2.2 j z) (by omega))
            · intro g2 hg
              rcases HD.out.2.2 g2 hg with e | e
              · exact HR.out.2.2 g2 e
              · have := HR.out.2.1.size
                simp at e
                omega
          case measure => simp [intOf]; omega
      · obtain rfl : k = xs.length := by omega
        have HR := hide (And.intro hrow (And.intro hkp hinn))
        clear hrow hkp hinn
        rw [List.take_length] at HR ⊢
        obtain ⟨L, hL⟩ : ∃ L, xs.eraseIdx d = L := ⟨_, rfl⟩
        rw [hL] at HR ⊢
        have HL := hide hL
        clear hL
        go_wp2_with fail
        go_ret3
        exact ⟨A2, c2, by rw [HL.out]; rfl, by rw [HL.out]; exact HR.out.1, HR.out.2.1, fun g hg => .inr (HR.out.2.2 g hg)⟩
  · have hx := at_out hin
    rw [cut_out hin, hx.1, hx.2]
    rw [hx.1, hx.2] at ha
    go_enter Try.func16, Try.ntmps16
    go_wp2_with fail
    refine ha.out.mono ?_
    rintro e w1 ⟨rfl, rfl⟩
    go_wp2_with fail
    go_ret3
    exact ⟨A, c, rfl, h, Kept.refl _ _, fun g hg => .inl hg⟩
end
end Go.Proofs.Ytfdndpbogljjeaa
