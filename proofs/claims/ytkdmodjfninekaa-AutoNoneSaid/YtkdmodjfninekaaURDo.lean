/- The document's Do and Check. -/
import Derived.Test.YtkdmodjfninekaaURef
import Derived.Deep.RegionHeld3
namespace Go.Proofs.Ytkdmodjfninekaa
open Go.RowKit
set_option maxRecDepth 100000

section
variable {w : World} {v : Value} {l : List Ev} {k t c : Int} {r : Bool}
/-- What the document's Do owes. -/
def RDone (n : Int) (l : List Ev) (e : Ev) (w : World) (x : Ending) (w' : World) : Prop := x = .returned (.int .i64 (dof (ats (um n) l) e)) ∧ Kept Nil w w'
theorem RDone.tell {n x : Int} {l : List Ev} {e : Ev} {w w' : World} (h : dof (ats (um n) l) e = x) (k : Kept Nil w w') : RDone n l e w (.returned (.int .i64 x)) w' := ⟨by rw [h], k⟩
theorem quiet_some {n : Int} {w : World} {q : Nat} (h : ∀ W, Calls Try.prog 17 #[.int .i64 n] W fun e w' => e = .returned (.int .i64 (um n)) ∧ W = w') :
    Calls Try.prog 17 #[.int .i64 n] (w.drewN q) fun e w' => e = .returned (.int .i64 (um n)) ∧ ∃ m, w' = w.drewN m := (h _).mono fun _ _ ⟨h1, h2⟩ => ⟨h1, q, h2.symm⟩
set_option maxHeartbeats 1000000
theorem urdo_kind (n : Int) (h : r = true ∨ k < 0 ∨ 5 < k) : Calls Try.prog 8 #[.int .i64 n, v, .agg #[.int .i64 k, .int .i64 t, .bool r, .int .i64 c]] w (RDone n l ⟨k, t, r, c⟩ w) := by
  have hd := hide (dof_kind (A := ats (um n) l) (e := ⟨k, t, r, c⟩) h)
  have HK := hide ((Kept.refl Nil w).alloc (.cells #[.int .i64 k, .int .i64 t, .bool r, .int .i64 c] 23))
  cases r with
  | true =>
    clear h
    go_enter Try.func8, Try.ntmps8
    go_wp2_with fail
    go_ret
    exact .tell hd.out HK.out
  | false =>
    by_cases h1 : k < 0
    · have b1 : decide (k < 0) = true := by simpa using h1
      clear h h1
      go_enter Try.func8, Try.ntmps8
      go_wp2_with fail
      go_ret
      exact .tell hd.out HK.out
    · have b1 : decide (k < 0) = false := by simpa using h1
      have b2 : decide (5 < k) = true := by simp at h; simp; omega
      clear h h1
      go_enter Try.func8, Try.ntmps8
      go_wp2_with fail
      go_ret
      exact .tell hd.out HK.out
theorem urdo_ok (n : Int) (h : k = 0 ∨ k = 5) : Calls Try.prog 8 #[.int .i64 n, v, .agg #[.int .i64 k, .int .i64 t, .bool false, .int .i64 c]] w (RDone n l ⟨k, t, false, c⟩ w) := by
  have hd := hide (dof_ok (A := ats (um n) l) (e := ⟨k, t, false, c⟩) rfl h)
  have HK := hide ((Kept.refl Nil w).alloc (.cells #[.int .i64 k, .int .i64 t, .bool false, .int .i64 c] 23))
  rcases h with rfl | rfl
  all_goals
    go_enter Try.func8, Try.ntmps8
    go_wp2_with fail
    go_ret
    exact .tell hd.out HK.out
theorem urdo_none (n : Int) (h : 1 ≤ k ∧ k ≤ 4) (ht : t < 0 ∨ (um n : Int) ≤ t) : Calls Try.prog 8 #[.int .i64 n, v, .agg #[.int .i64 k, .int .i64 t, .bool false, .int .i64 c]] w (RDone n l ⟨k, t, false, c⟩ w) := by
  have hd := hide (dof_none (A := ats (um n) l) (e := ⟨k, t, false, c⟩) rfl h (by rw [ats_len]; exact ht))
  have HK := hide ((Kept.refl Nil w).alloc (.cells #[.int .i64 k, .int .i64 t, .bool false, .int .i64 c] 23))
  have b1 : decide (k < 0) = false := by simp; omega
  have b2 : decide (5 < k) = false := by simp; omega
  have b3 : (k == 0) = false := by simp; omega
  have b4 : (k == 5) = false := by simp; omega
  have cs := hide fun W => usome_c W n
  have qs := hide fun W q => quiet_some (w := W) (q := q) cs.out
  clear h
  by_cases h0 : t < 0
  · have d0 : decide (t < 0) = true := by simpa using h0
    clear ht h0
    go_enter Try.func8, Try.ntmps8
    go_wp2_with fail
    go_quiet ((go_at_call 17; exact qs.out _ _))
    go_wp2_with fail
    go_ret
    exact .tell hd.out (HK.out.drewN _)
  · have d0 : decide (t < 0) = false := by simpa using h0
    have d1 : decide ((um n : Int) ≤ t) = true := by simp; omega
    clear ht h0
    generalize hm : (um n : Int) = m at *
    have HM := hide hm
    clear hm
    go_enter Try.func8, Try.ntmps8
    go_wp2_with fail
    go_quiet ((go_at_call 17; exact qs.out _ _))
    go_wp2_with fail
    go_ret
    exact .tell hd.out (HK.out.drewN _)
theorem urdo_why (n : Int) (hv : Evs w v l) (hl : l.length ≤ 65536) (h : 1 ≤ k ∧ k ≤ 4) (ht : 0 ≤ t ∧ t < (um n : Int)) : Calls Try.prog 8 #[.int .i64 n, v, .agg #[.int .i64 k, .int .i64 t, .bool false, .int .i64 c]] w (RDone n l ⟨k, t, false, c⟩ w) := by
  have hd := hide (dof_why (A := ats (um n) l) (e := ⟨k, t, false, c⟩) rfl h (by rw [ats_len]; exact ht))
  have HK := hide ((Kept.refl Nil w).alloc (.cells #[.int .i64 k, .int .i64 t, .bool false, .int .i64 c] 23))
  have cs := hide fun W => usome_c W n
  have qs := hide fun W q => quiet_some (w := W) (q := q) cs.out
  have CT := hide fun W (z : Kept Nil w W) => ustate_c t (hv.kept z) hl
  have CH := hide fun W (z : Kept Nil w W) => uholder_c n (hv.kept z) hl
  have hat : (ats (um n) l).getD t.toNat 0 = st l t := by
    rw [ats_at (by omega)]
    congr 1
    omega
  have W1 := hide (why_ask hat)
  have W2 := hide (why_enter hat)
  have W3 := hide (why_exit hat)
  have W4 := hide (why_rest hat)
  have d0 : decide (t < 0) = false := by simp; omega
  have d1 : decide ((um n : Int) ≤ t) = false := by simp; omega
  obtain ⟨A, cp, rfl, _, hp⟩ := hv
  clear hp hat ht
  generalize st l t = a at *
  generalize hol (ats (um n) l) = o at *
  rcases (show k = 1 ∨ k = 2 ∨ k = 3 ∨ k = 4 by omega) with rfl | rfl | rfl | rfl
  · have HD : Hid (dof (ats (um n) l) ⟨1, t, false, c⟩ = if a = 0 then 0 else 5) := hide (hd.out.trans W1.out)
    clear hd W1 W2 W3 W4 h CH
    generalize hm : (um n : Int) = m at *
    have HM := hide hm
    clear hm
    by_cases ha : a = 0
    · subst ha
      have HE : Hid (dof (ats (um n) l) ⟨1, t, false, c⟩ = 0) := hide (HD.out.trans (if_pos rfl))
      go_enter Try.func8, Try.ntmps8
      go_wp2_with fail
      go_quiet ((go_at_call 17; exact qs.out _ _))
      go_wp2_with fail
      refine (CT.out _ (HK.out.drewN _)).mono ?_
      rintro e w' ⟨rfl, rfl⟩
      go_wp2_with fail
      go_ret
      exact .tell HE.out (HK.out.drewN _)
    · have HE : Hid (dof (ats (um n) l) ⟨1, t, false, c⟩ = 5) := hide (HD.out.trans (if_neg ha))
      have ba : (a != 0) = true := by simpa using ha
      clear ha
      go_enter Try.func8, Try.ntmps8
      go_wp2_with fail
      go_quiet ((go_at_call 17; exact qs.out _ _))
      go_wp2_with fail
      refine (CT.out _ (HK.out.drewN _)).mono ?_
      rintro e w' ⟨rfl, rfl⟩
      go_wp2_with fail
      go_ret
      exact .tell HE.out (HK.out.drewN _)
  · have HD : Hid (dof (ats (um n) l) ⟨2, t, false, c⟩ = if a = 1 then (if 0 ≤ o then 5 else 0) else 6) := hide (hd.out.trans W2.out)
    clear hd W1 W2 W3 W4 h
    generalize hm : (um n : Int) = m at *
    have HM := hide hm
    clear hm
    by_cases ha : a = 1
    · subst ha
      by_cases ho : 0 ≤ o
      · have HE : Hid (dof (ats (um n) l) ⟨2, t, false, c⟩ = 5) := hide (HD.out.trans ((if_pos rfl).trans (if_pos ho)))
        have bo : decide (0 ≤ o) = true := by simpa using ho
        clear ho
        go_enter Try.func8, Try.ntmps8
        go_wp2_with fail
        go_quiet ((go_at_call 17; exact qs.out _ _))
        go_wp2_with fail
        refine (CT.out _ (HK.out.drewN _)).mono ?_
        rintro e w' ⟨rfl, rfl⟩
        go_wp2_with fail
        refine (CH.out _ (HK.out.drewN _)).mono ?_
        rintro e w' ⟨rfl, rfl⟩
        go_wp2_with fail
        go_ret
        exact .tell HE.out (HK.out.drewN _)
      · have HE : Hid (dof (ats (um n) l) ⟨2, t, false, c⟩ = 0) := hide (HD.out.trans ((if_pos rfl).trans (if_neg ho)))
        have bo : decide (0 ≤ o) = false := by simpa using ho
        clear ho
        go_enter Try.func8, Try.ntmps8
        go_wp2_with fail
        go_quiet ((go_at_call 17; exact qs.out _ _))
        go_wp2_with fail
        refine (CT.out _ (HK.out.drewN _)).mono ?_
        rintro e w' ⟨rfl, rfl⟩
        go_wp2_with fail
        refine (CH.out _ (HK.out.drewN _)).mono ?_
        rintro e w' ⟨rfl, rfl⟩
        go_wp2_with fail
        go_ret
        exact .tell HE.out (HK.out.drewN _)
    · have HE : Hid (dof (ats (um n) l) ⟨2, t, false, c⟩ = 6) := hide (HD.out.trans (if_neg ha))
      have ba : (a != 1) = true := by simpa using ha
      clear ha
      go_enter Try.func8, Try.ntmps8
      go_wp2_with fail
      go_quiet ((go_at_call 17; exact qs.out _ _))
      go_wp2_with fail
      refine (CT.out _ (HK.out.drewN _)).mono ?_
      rintro e w' ⟨rfl, rfl⟩
      go_wp2_with fail
      go_ret
      exact .tell HE.out (HK.out.drewN _)
  · have HD : Hid (dof (ats (um n) l) ⟨3, t, false, c⟩ = if a = 2 then 0 else 6) := hide (hd.out.trans W3.out)
    clear hd W1 W2 W3 W4 h CH
    generalize hm : (um n : Int) = m at *
    have HM := hide hm
    clear hm
    by_cases ha : a = 2
    · subst ha
      have HE : Hid (dof (ats (um n) l) ⟨3, t, false, c⟩ = 0) := hide (HD.out.trans (if_pos rfl))
      go_enter Try.func8, Try.ntmps8
      go_wp2_with fail
      go_quiet ((go_at_call 17; exact qs.out _ _))
      go_wp2_with fail
      refine (CT.out _ (HK.out.drewN _)).mono ?_
      rintro e w' ⟨rfl, rfl⟩
      go_wp2_with fail
      go_ret
      exact .tell HE.out (HK.out.drewN _)
    · have HE : Hid (dof (ats (um n) l) ⟨3, t, false, c⟩ = 6) := hide (HD.out.trans (if_neg ha))
      have ba : (a != 2) = true := by simpa using ha
      clear ha
      go_enter Try.func8, Try.ntmps8
      go_wp2_with fail
      go_quiet ((go_at_call 17; exact qs.out _ _))
      go_wp2_with fail
      refine (CT.out _ (HK.out.drewN _)).mono ?_
      rintro e w' ⟨rfl, rfl⟩
      go_wp2_with fail
      go_ret
      exact .tell HE.out (HK.out.drewN _)
  · have HD : Hid (dof (ats (um n) l) ⟨4, t, false, c⟩ = if a = 3 then 0 else 6) := hide (hd.out.trans W4.out)
    clear hd W1 W2 W3 W4 h CH
    generalize hm : (um n : Int) = m at *
    have HM := hide hm
    clear hm
    by_cases ha : a = 3
    · subst ha
      have HE : Hid (dof (ats (um n) l) ⟨4, t, false, c⟩ = 0) := hide (HD.out.trans (if_pos rfl))
      go_enter Try.func8, Try.ntmps8
      go_wp2_with fail
      go_quiet ((go_at_call 17; exact qs.out _ _))
      go_wp2_with fail
      refine (CT.out _ (HK.out.drewN _)).mono ?_
      rintro e w' ⟨rfl, rfl⟩
      go_wp2_with fail
      go_ret
      exact .tell HE.out (HK.out.drewN _)
    · have HE : Hid (dof (ats (um n) l) ⟨4, t, false, c⟩ = 6) := hide (HD.out.trans (if_neg ha))
      have ba : (a != 3) = true := by simpa using ha
      clear ha
      go_enter Try.func8, Try.ntmps8
      go_wp2_with fail
      go_quiet ((go_at_call 17; exact qs.out _ _))
      go_wp2_with fail
      refine (CT.out _ (HK.out.drewN _)).mono ?_
      rintro e w' ⟨rfl, rfl⟩
      go_wp2_with fail
      go_ret
      exact .tell HE.out (HK.out.drewN _)
/-- Do. -/
theorem urdo_c (n : Int) (hv : Evs w v l) (hl : l.length ≤ 65536) : Calls Try.prog 8 #[.int .i64 n, v, .agg #[.int .i64 k, .int .i64 t, .bool r, .int .i64 c]] w (RDone n l ⟨k, t, r, c⟩ w) := by
  by_cases h : r = true ∨ k < 0 ∨ 5 < k
  · exact urdo_kind n h
  · obtain rfl : r = false := by cases r <;> simp_all
    by_cases h1 : k = 0 ∨ k = 5
    · exact urdo_ok n h1
    · have hk : 1 ≤ k ∧ k ≤ 4 := by omega
      by_cases h2 : t < 0 ∨ (um n : Int) ≤ t
      · exact urdo_none n hk h2
      · exact urdo_why n hv hl hk (by omega)
end
end Go.Proofs.Ytkdmodjfninekaa
