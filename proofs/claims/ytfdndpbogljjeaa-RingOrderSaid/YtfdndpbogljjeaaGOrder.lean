/- The law RingOrder, walked: things come out as they came in. -/
import Derived.Test.YtfdndpbogljjeaaGFrame
namespace Go.Proofs.Ytfdndpbogljjeaa
open Go.RowKit

/-- A slice of bytes that came in. -/
def Bytes (w : World) (v : Value) (l : List Int) : Prop := ∃ A c, v = .slice A l.length c ∧ (0 < l.length → ∃ g o, A = some ⟨g, o, none⟩ ∧ g < w.heap.size ∧ ∀ k, k < l.length → w.cell? ⟨g, o + k, none⟩ = some (.int .u8 (l.getD k 0)) ∧ 0 ≤ l.getD k 0 ∧ l.getD k 0 ≤ 255)

theorem at_cons (x : Int) (t : List Int) : atX (x :: t) 0 = x ∧ atB (x :: t) 0 = true ∧ cutL (x :: t) 0 = t := by
  have h : (0 : Int) ≤ 0 ∧ (0 : Int) < ((x :: t).length : Nat) := by simp
  have h1 := at_in h
  exact ⟨h1.1, h1.2, cut_in h⟩
theorem in_none (g : Nat) : ¬ In none g := fun h => by cases h
theorem at_none : atX [] 0 = 0 ∧ atB [] 0 = false ∧ cutL [] 0 = [] := ⟨rfl, rfl, rfl⟩

/-- A row beside a longer list. -/
theorem RF.longer {w0 wr w1 : World} {A A' : Option Addr} {a n c' : Nat} {xs L' : List Int} {o : Obj} (hr : RF w0 wr (In A) a xs) (h0 : ∀ g, In A g → w0.heap.size ≤ g) (hk : Kept (In A) (wr.alloc o) w1) (hrow : Row w1 (.slice A' n c') L')
    (hin : ∀ g, In A' g → In A g ∨ g = (wr.alloc o).heap.size) : RF w0 w1 (In A') a xs ∧ ∀ g, In A' g → w0.heap.size ≤ g := by
  have hs := hr.kept.size
  refine ⟨hr.beside (((Kept.refl (In A) wr).alloc o).trans hk (fun _ _ z => z)) (fun g hg => ⟨(hin g hg).imp id (fun e => by simp at e; omega), hrow.lt hg⟩) h0, fun g hg => ?_⟩
  rcases hin g hg with e | e
  · exact h0 g e
  · simp at e; omega

section
variable {w : World} {L T : Option Addr} {cl ct : Nat} {l ts : List Int}
set_option maxHeartbeats 1000000

theorem order_short (n m : Nat) (h : 60 < n ∨ 100 < m) : Calls Try.prog 4 #[.slice L n cl, .slice T m ct] w fun e w' => e = .returned (.bool true) ∧ Kept Nil w w' := by
  have Ha := hide (rawake_c w)
  by_cases h1 : 60 < n
  · have h3 : decide (60 < (n : Int)) = true := by simp; omega
    go_enter Try.func4, Try.ntmps4
    go_wp2_with fail
    refine Ha.out.mono ?_
    rintro e w1 ⟨rfl, k1⟩
    go_wp2_with fail
    go_ret
    exact ⟨rfl, k1⟩
  · have h2 : 100 < m := by omega
    have h3 : decide (60 < (n : Int)) = false := by simp; omega
    go_enter Try.func4, Try.ntmps4
    go_wp2_with fail
    refine Ha.out.mono ?_
    rintro e w1 ⟨rfl, k1⟩
    go_wp2_with fail
    go_ret
    exact ⟨rfl, k1⟩

theorem order_long (hl : Nums w (.slice L l.length cl) l) (ht : Bytes w (.slice T ts.length ct) ts) (h6 : l.length ≤ 60) (h1 : ts.length ≤ 100) : Calls Try.prog 4 #[.slice L l.length cl, .slice T ts.length ct] w fun e w' => e = .returned (.bool true) ∧ Kept Nil w w' := by
  have h3 : decide (60 < (l.length : Int)) = false := by simp; omega
  have h4 : decide (100 < (ts.length : Int)) = false := by simp; omega
  obtain ⟨i0, hi, hz0, hz1, hz2⟩ := info_parts info_int
  have k0 := (Kept.refl Nil w).alloc (.cells #[.slice none 0 0, .int .i64 0, .int .i64 0] 25)
  have hr0 : RF w (w.alloc (.cells #[.slice none 0 0, .int .i64 0, .int .i64 0] 25)) (In none) w.heap.size [] :=
    ⟨⟨none, ring_new (Is.new w _ _), fun g e => ⟨Nat.le_of_eq (ofg_none e).symm, fun z => by cases z⟩⟩, k0, fun g z => by cases z⟩
  have HR0 := hide hr0
  have HL := hide hl
  have HT := hide ht
  clear hr0 k0 hl ht
  go_enter Try.func4, Try.ntmps4
  go_wp2_with fail
  obtain ⟨a, ha⟩ : ∃ a, w.heap.size = a := ⟨_, rfl⟩
  rw [ha] at HR0 ⊢
  have HA := hide ha
  clear ha
  generalize w.alloc (.cells #[.slice none 0 0, .int .i64 0, .int .i64 0] 25) = w1 at *
  go_wp2_with fail
  go_loopw [6, 7] (fun v i wr => ∃ (k : Nat) (A : Option Addr) (c : Nat) (O xs : List Int), k ≤ l.length ∧ i = .int .i64 k ∧ v = .slice A O.length c ∧ Row wr (.slice A O.length c) O ∧ RF w wr (In A) a xs ∧ (∀ g, In A g → w.heap.size ≤ g) ∧ O ++ xs = l.take k) (fun _ i _ => l.length - (intOf i).toNat)
  case atStart => exact ⟨0, none, 0, [], [], Nat.zero_le _, rfl, rfl, Row.empty _, HR0.out, fun g z => absurd z (in_none g), rfl⟩
  case round =>
    obtain ⟨k, A, c, O, xs, hk, rfl, rfl, hrow, hrf, hge, hcat⟩ := hrel
    have HX := hide (And.intro hrow (And.intro hrf (And.intro hge hcat)))
    clear hrow hrf hge hcat
    by_cases hlt : k < l.length
    · obtain ⟨L2, cl2, e, hcells⟩ := HL.out
      injection e with e1 _ e2
      subst e1; subst e2
      obtain ⟨g, o, rfl, hg, hcell⟩ := hcells (by omega)
      have hc := (HX.out.2.1.kept.cell (p := ⟨g, o + k, none⟩) hg (fun z => z)).trans (hcell k hlt)
      have hxl : xs.length ≤ 60 := by
        have := congrArg List.length HX.out.2.2.2
        simp at this
        omega
      have HN := hide (show l.take (k + 1) = l.take k ++ [l.getD k 0] by rw [List.take_add_one, List.getD_eq_getElem?_getD, List.getElem?_eq_getElem hlt]; rfl)
      have hp := pushF (l.getD k 0) HX.out.2.1 (by omega)
      have HP := hide hp
      clear hp hcells hcell
      generalize l.getD k 0 = x at *
      go_wp2_with fail
      refine HP.out.mono ?_
      rintro e w2 ⟨rfl, hrf2, hk2⟩
      have HX2 := hide (And.intro (HX.out.1.kept hk2 (fun g hg hz => hz hg)) (And.intro hrf2 (And.intro HX.out.2.2.1 (show O ++ (xs ++ [x]) = l.take (k + 1) by rw [HN.out, ← HX.out.2.2.2, List.append_assoc]))))
      clear hrf2 hk2 HP
      go_wp2_with fail
      go_loopw [6, 8] (fun v j wq => ∃ (q : Nat) (A : Option Addr) (c : Nat) (O xs : List Int), q ≤ 3 ∧ j = .int .i64 q ∧ v = .slice A O.length c ∧ Row wq (.slice A O.length c) O ∧ RF w wq (In A) a xs ∧ (∀ g, In A g → w.heap.size ≤ g) ∧ O ++ xs = l.take (k + 1)) (fun _ j _ => 3 - (intOf j).toNat)
      case atStart => exact ⟨0, A, c, O, xs ++ [x], by omega, rfl, rfl, HX2.out.1, HX2.out.2.1, HX2.out.2.2.1, HX2.out.2.2.2⟩
      case round =>
        clear HX HX2
        obtain ⟨q, A, c, O, xs, hq, rfl, rfl, hrow, hrf, hge, hcat⟩ := hrel
        have HX := hide (And.intro hrow (And.intro hrf (And.intro hge hcat)))
        clear hrow hrf hge hcat
        have hlen : O.length + xs.length = k + 1 := by
          have := congrArg List.length HX.out.2.2.2
          rw [List.length_append, List.length_take] at this
          omega
        by_cases hkt : k < ts.length
        · obtain ⟨T2, ct2, e, htc⟩ := HT.out
          injection e with e1 _ e2
          subst e1; subst e2
          obtain ⟨g2, o2, rfl, hg2, hcell2⟩ := htc (by omega)
          obtain ⟨hc2, ht0, ht1⟩ := hcell2 k hkt
          have hc2 := (HX.out.2.1.kept.cell (p := ⟨g2, o2 + k, none⟩) hg2 (fun z => z)).trans hc2
          clear hcell2 htc
          generalize ts.getD k 0 = t at *
          go_wp2_with fail
          · have hqt : (q : Int) < t % 4 := by assumption
            refine (popF HX.out.2.1).mono ?_
            rintro e w3 ⟨rfl, hrf3, hk3⟩
            cases xs with
            | nil =>
              rw [at_none.1, at_none.2.1]
              have HX3 := hide (And.intro (HX.out.1.kept hk3 (fun g hg hz => hz hg)) (show RF w w3 (In A) a [] from hrf3))
              clear hrf3 hk3
              go_wp2_with fail
              go_roundw
              case rel => exact ⟨q + 1, A, c, O, [], by omega, by go_num, rfl, HX3.out.1, HX3.out.2, HX.out.2.2.1, HX.out.2.2.2⟩
              case measure => simp [intOf]; omega
            | cons y t2 =>
              rw [(at_cons y t2).1, (at_cons y t2).2.1]
              rw [(at_cons y t2).2.2] at hrf3
              have HX3 := hide (And.intro HX.out.1 (And.intro hrf3 hk3))
              clear hrf3 hk3
              have HX4 := hide (show Row w3 (.slice A O.length c) O ∧ RF w w3 (In A) a t2 from ⟨HX3.out.1.kept HX3.out.2.2 (fun g hg hz => hz hg), HX3.out.2.1⟩)
              have HM := hide (show O.length + 1 ≤ maxLen ∧ (O.length + 1) * 8 ≤ 140737488355328 from ⟨by unfold maxLen; omega, by omega⟩)
              have HG := hide fun (w1 : World) (v' : Value) (o : Obj) => Row.push (w := w3.alloc o) (w' := w1) (l := O) (A := A) (c := c) (v' := v') (x := y)
              go_wp2_with (at_builtin; refine wpList_append_own_at _ rfl (.tmp 57) (.tmp 59) _ rfl 0 3 i0 (.int .i64 0) 1 8 Try.underlying23 hi hz0 hz1 hz2 rfl (by decide) (.slice A O.length c) O.length (O.map (Value.int .i64)) rfl (HX4.out.1.alloc _) ⟨w3.heap.size, 0, none⟩ 1 1 [.int .i64 y] rfl rfl (cell_one_new _ _ _) (by intro u hu; simp at hu; subst hu; rfl) HM.out.1 HM.out.2 (Nat.zero_le _) ?_; intro v' w4 hown' hgrow _ hat; obtain ⟨A3, c3, rfl, hrow2, hk2, hin2⟩ := HG.out w4 v' _ hown' hgrow hat; have HD := hide (And.intro hrow2 (HX4.out.2.longer HX.out.2.2.1 hk2 hrow2 hin2)); clear hown' hgrow hat hrow2 hk2 hin2)
              go_roundw
              case rel => exact ⟨q + 1, A3, c3, O ++ [y], t2, by omega, by go_num, by simp, by simpa using HD.out.1, HD.out.2.1, HD.out.2.2, by simpa using HX.out.2.2.2⟩
              case measure => simp [intOf]; omega
          · refine (lenF HX.out.2.1).mono ?_
            rintro e w3 ⟨rfl, rfl⟩
            have hne : ((xs.length : Int) != (k : Int) + 1 - (O.length : Int)) = false := by simp; omega
            go_wp2_with fail
            go_roundw
            case rel => exact ⟨k + 1, A, c, O, xs, by omega, by go_num, rfl, HX.out.1, HX.out.2.1, HX.out.2.2.1, HX.out.2.2.2⟩
            case measure => simp [intOf]; omega
        · go_wp2_with fail
          refine (lenF HX.out.2.1).mono ?_
          rintro e w3 ⟨rfl, rfl⟩
          have hne : ((xs.length : Int) != (k : Int) + 1 - (O.length : Int)) = false := by simp; omega
          go_wp2_with fail
          go_roundw
          case rel => exact ⟨k + 1, A, c, O, xs, by omega, by go_num, rfl, HX.out.1, HX.out.2.1, HX.out.2.2.1, HX.out.2.2.2⟩
          case measure => simp [intOf]; omega
    · obtain rfl : k = l.length := by omega
      go_wp2_with fail
      go_loopw [6, 11] (fun v j wq => ∃ (q : Nat) (A : Option Addr) (c : Nat) (O xs : List Int), q ≤ l.length ∧ j = .int .i64 q ∧ v = .slice A O.length c ∧ Row wq (.slice A O.length c) O ∧ RF w wq (In A) a xs ∧ (∀ g, In A g → w.heap.size ≤ g) ∧ O ++ xs = l ∧ xs.length + q ≤ l.length) (fun _ j _ => l.length - (intOf j).toNat)
      case atStart =>
        have hcat : O ++ xs = l := by rw [HX.out.2.2.2, List.take_length]
        refine ⟨0, A, c, O, xs, by omega, rfl, rfl, HX.out.1, HX.out.2.1, HX.out.2.2.1, hcat, ?_⟩
        rw [← hcat, List.length_append]
        omega
      case round =>
        clear HX
        obtain ⟨q, A, c, O, xs, hq, rfl, rfl, hrow, hrf, hge, hcat, hxq⟩ := hrel
        have HX := hide (And.intro hrow (And.intro hrf (And.intro hge hcat)))
        clear hrow hrf hge hcat
        have hlen : O.length + xs.length = l.length := by
          have := congrArg List.length HX.out.2.2.2
          rw [List.length_append] at this
          omega
        by_cases hql : q < l.length
        · go_wp2_with fail
          refine (popF HX.out.2.1).mono ?_
          rintro e w3 ⟨rfl, hrf3, hk3⟩
          cases xs with
          | nil =>
            rw [at_none.1, at_none.2.1]
            have HX3 := hide (And.intro (HX.out.1.kept hk3 (fun g hg hz => hz hg)) (show RF w w3 (In A) a [] from hrf3))
            clear hrf3 hk3
            go_wp2_with fail
            go_roundw
            case rel => exact ⟨q + 1, A, c, O, [], by omega, by go_num, rfl, HX3.out.1, HX3.out.2, HX.out.2.2.1, HX.out.2.2.2, by simp; omega⟩
            case measure => simp [intOf]; omega
          | cons y t2 =>
            rw [(at_cons y t2).1, (at_cons y t2).2.1]
            rw [(at_cons y t2).2.2] at hrf3
            have HX3 := hide (And.intro HX.out.1 (And.intro hrf3 hk3))
            clear hrf3 hk3
            have HX4 := hide (show Row w3 (.slice A O.length c) O ∧ RF w w3 (In A) a t2 from ⟨HX3.out.1.kept HX3.out.2.2 (fun g hg hz => hz hg), HX3.out.2.1⟩)
            have HM := hide (show O.length + 1 ≤ maxLen ∧ (O.length + 1) * 8 ≤ 140737488355328 from ⟨by unfold maxLen; omega, by omega⟩)
            have HG := hide fun (w1 : World) (v' : Value) (o : Obj) => Row.push (w := w3.alloc o) (w' := w1) (l := O) (A := A) (c := c) (v' := v') (x := y)
            go_wp2_with (at_builtin; refine wpList_append_own_at _ rfl (.tmp 79) (.tmp 81) _ rfl 0 3 i0 (.int .i64 0) 1 8 Try.underlying23 hi hz0 hz1 hz2 rfl (by decide) (.slice A O.length c) O.length (O.map (Value.int .i64)) rfl (HX4.out.1.alloc _) ⟨w3.heap.size, 0, none⟩ 1 1 [.int .i64 y] rfl rfl (cell_one_new _ _ _) (by intro u hu; simp at hu; subst hu; rfl) HM.out.1 HM.out.2 (Nat.zero_le _) ?_; intro v' w4 hown' hgrow _ hat; obtain ⟨A3, c3, rfl, hrow2, hk2, hin2⟩ := HG.out w4 v' _ hown' hgrow hat; have HD := hide (And.intro hrow2 (HX4.out.2.longer HX.out.2.2.1 hk2 hrow2 hin2)); clear hown' hgrow hat hrow2 hk2 hin2)
            go_roundw
            case rel => exact ⟨q + 1, A3, c3, O ++ [y], t2, by omega, by go_num, by simp, by simpa using HD.out.1, HD.out.2.1, HD.out.2.2, by simpa using HX.out.2.2.2, by simp at hxq; omega⟩
            case measure => simp [intOf]; omega
        · obtain rfl : q = l.length := by omega
          obtain rfl : xs = [] := List.eq_nil_of_length_eq_zero (by omega)
          have HO := hide (show O = l by simpa using HX.out.2.2.2)
          go_wp2_with fail
          refine (popF HX.out.2.1).mono ?_
          rintro e w3 ⟨rfl, hrf3, hk3⟩
          rw [at_none.1, at_none.2.1]
          have HX3 := hide (And.intro (HX.out.1.kept hk3 (fun g hg hz => hz hg)) (show RF w w3 (In A) a [] from hrf3))
          clear hrf3 hk3
          have hsame := same_nums (w := w3) (v1 := .slice A O.length c) (v2 := .slice L l.length cl) (l := l) (by have := Row.nums HX3.out.1; rw [HO.out] at this ⊢; exact this) (HL.out.kept HX3.out.2.kept) (by omega)
          have HS := hide hsame
          clear hsame
          go_wp2_with fail
          refine HS.out.mono ?_
          rintro e w4 ⟨rfl, n4, rfl⟩
          go_wp2_with fail
          refine (rawake_c _).mono ?_
          rintro e w5 ⟨rfl, k5⟩
          go_wp2_with fail
          go_ret
          exact ⟨rfl, (HX3.out.2.kept.drewN n4).trans k5 (fun _ _ z => z)⟩
end
end Go.Proofs.Ytfdndpbogljjeaa
