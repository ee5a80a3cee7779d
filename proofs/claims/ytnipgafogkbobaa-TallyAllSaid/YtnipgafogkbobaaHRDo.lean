/- The document's Do of layer 11. wip/tools/genshared.py wrote it. -/
import Derived.Test.YtnipgafogkbobaaHRef
import Derived.Deep.RegionHeld3
namespace Go.Proofs.Ytnipgafogkbobaa
open Go.RowKit
set_option maxRecDepth 100000

section
variable {w : World} {v : Value} {l : List Ev} {k t c a : Int} {r b : Bool} {A : List Sd} {x : Sd}
theorem swhy_ask (h : A.getD t.toNat z0 = (a, b)) : swhy A 1 t r = if a = 0 then 0 else 5 := by
  unfold swhy
  rw [if_pos rfl, h]
theorem swhy_not (h : A.getD t.toNat z0 = (a, b)) (h1 : k ≠ 1) (h2 : a ≠ k - 1) : swhy A k t r = 6 := by
  unfold swhy
  rw [if_neg h1, h, if_pos h2]
theorem swhy_kind (h : A.getD t.toNat z0 = (k - 1, b)) (h1 : k ≠ 1) (h2 : r ≠ b) : swhy A k t r = 7 := by
  unfold swhy
  rw [if_neg h1, h, if_neg (fun z => z rfl), if_pos h2]
theorem swhy_shut (h : A.getD t.toNat z0 = (k - 1, r)) (h1 : k ≠ 1) : swhy A k t r = shu A k r := by
  unfold swhy
  rw [if_neg h1, h, if_neg (fun z => z rfl), if_neg (fun z => z rfl)]
theorem shu_not (h : k ≠ 2) : shu A k r = 0 := if_neg (fun z => h z.1)
theorem shu_writer (h : 0 ≤ wri A) : shu A 2 r = 5 := if_pos ⟨rfl, .inl h⟩
theorem shu_readers (h : 0 < rdn A) : shu A 2 false = 5 := if_pos ⟨rfl, .inr ⟨rfl, h⟩⟩
theorem shu_reader (h : ¬ 0 ≤ wri A) : shu A 2 true = 0 := if_neg (fun z => z.2.elim h (fun y => absurd y.1 (by decide)))
theorem shu_free (h : ¬ 0 ≤ wri A) (h2 : ¬ 0 < rdn A) : shu A 2 false = 0 := if_neg (fun z => z.2.elim h (fun y => h2 y.2))
/-- What the document's Do owes. -/
def SRDone (n : Int) (l : List Ev) (e : Ev) (w : World) (x : Ending) (w' : World) : Prop := x = .returned (.int .i64 (sdof (sds (um n) l) e)) ∧ Kept Nil w w'
theorem SRDone.tell {n x : Int} {l : List Ev} {e : Ev} {w w' : World} (h : sdof (sds (um n) l) e = x) (k : Kept Nil w w') : SRDone n l e w (.returned (.int .i64 x)) w' := ⟨by rw [h], k⟩
theorem quiet_of {f : Nat} {args : Array Value} {x : Value} {w : World} {q : Nat} (h : Calls Try.prog f args (w.drewN q) fun e w' => e = .returned x ∧ w.drewN q = w') :
    Calls Try.prog f args (w.drewN q) fun e w' => e = .returned x ∧ ∃ m, w' = w.drewN m := h.mono fun _ _ ⟨h1, h2⟩ => ⟨h1, q, h2.symm⟩
theorem quiet_on {f : Nat} {args : Array Value} {x : Value} {w : World} {a q : Nat} (h : Calls Try.prog f args (w.drewN (a + q)) fun e w' => e = .returned x ∧ w.drewN (a + q) = w') :
    Calls Try.prog f args (w.drewN (a + q)) fun e w' => e = .returned x ∧ ∃ m, w' = w.drewN (a + m) := h.mono fun _ _ ⟨h1, h2⟩ => ⟨h1, q, h2.symm⟩
set_option maxHeartbeats 1000000
theorem hrdo_kind (n : Int) (h : k < 0 ∨ 5 < k) : Calls Try.prog 7 #[.int .i64 n, v, .agg #[.int .i64 k, .int .i64 t, .bool r, .int .i64 c]] w (SRDone n l ⟨k, t, r, c⟩ w) := by
  have hd := hide (sdof_kind (A := sds (um n) l) (e := ⟨k, t, r, c⟩) h)
  have HK := hide ((Kept.refl Nil w).alloc (.cells #[.int .i64 k, .int .i64 t, .bool r, .int .i64 c] 25))
  by_cases h1 : k < 0
  · have b1 : decide (k < 0) = true := by simpa using h1
    clear h h1
    go_enter Try.func7, Try.ntmps7
    go_wp2_with fail
    go_ret
    exact .tell hd.out HK.out
  · have b1 : decide (k < 0) = false := by simpa using h1
    have b2 : decide (5 < k) = true := by simp; omega
    clear h h1
    go_enter Try.func7, Try.ntmps7
    go_wp2_with fail
    go_ret
    exact .tell hd.out HK.out
theorem hrdo_ok (n : Int) (h : k = 0 ∨ k = 5) : Calls Try.prog 7 #[.int .i64 n, v, .agg #[.int .i64 k, .int .i64 t, .bool r, .int .i64 c]] w (SRDone n l ⟨k, t, r, c⟩ w) := by
  have hd := hide (sdof_ok (A := sds (um n) l) (e := ⟨k, t, r, c⟩) h)
  have HK := hide ((Kept.refl Nil w).alloc (.cells #[.int .i64 k, .int .i64 t, .bool r, .int .i64 c] 25))
  rcases h with rfl | rfl
  all_goals
    go_enter Try.func7, Try.ntmps7
    go_wp2_with fail
    go_ret
    exact .tell hd.out HK.out
theorem hrdo_none (n : Int) (h : 1 ≤ k ∧ k ≤ 4) (ht : t < 0 ∨ (um n : Int) ≤ t) : Calls Try.prog 7 #[.int .i64 n, v, .agg #[.int .i64 k, .int .i64 t, .bool r, .int .i64 c]] w (SRDone n l ⟨k, t, r, c⟩ w) := by
  have hd := hide (sdof_none (A := sds (um n) l) (e := ⟨k, t, r, c⟩) h (by rw [sds_len]; exact ht))
  have HK := hide ((Kept.refl Nil w).alloc (.cells #[.int .i64 k, .int .i64 t, .bool r, .int .i64 c] 25))
  have b1 : decide (k < 0) = false := by simp; omega
  have b2 : decide (5 < k) = false := by simp; omega
  have b3 : (k == 0) = false := by simp; omega
  have b4 : (k == 5) = false := by simp; omega
  have cs := hide fun W => usome_c W n
  have qs := hide fun W q => quiet_of (w := W) (q := q) (cs.out _)
  clear h
  by_cases h0 : t < 0
  · have d0 : decide (t < 0) = true := by simpa using h0
    clear ht h0
    go_enter Try.func7, Try.ntmps7
    go_wp2_with fail
    go_quiet ((go_at_call 19; exact qs.out _ _))
    go_wp2_with fail
    go_ret
    exact .tell hd.out (HK.out.drewN _)
  · have d0 : decide (t < 0) = false := by simpa using h0
    have d1 : decide ((um n : Int) ≤ t) = true := by simp; omega
    clear ht h0
    generalize hm : (um n : Int) = m at *
    have HM := hide hm
    clear hm
    go_enter Try.func7, Try.ntmps7
    go_wp2_with fail
    go_quiet ((go_at_call 19; exact qs.out _ _))
    go_wp2_with fail
    go_ret
    exact .tell hd.out (HK.out.drewN _)
theorem hrdo_ask (n : Int) (hv : Evs w v l) (hl : l.length ≤ 65536) (h : 1 ≤ k ∧ k ≤ 4) (ht : 0 ≤ t ∧ t < (um n : Int)) (h1 : k = 1) : Calls Try.prog 7 #[.int .i64 n, v, .agg #[.int .i64 k, .int .i64 t, .bool r, .int .i64 c]] w (SRDone n l ⟨k, t, r, c⟩ w) := by
  have hd := hide (sdof_why (A := sds (um n) l) (e := ⟨k, t, r, c⟩) h (by rw [sds_len]; exact ht))
  have HK := hide ((Kept.refl Nil w).alloc (.cells #[.int .i64 k, .int .i64 t, .bool r, .int .i64 c] 25))
  have cs := hide fun W => usome_c W n
  have qs := hide fun W q => quiet_of (w := W) (q := q) (cs.out _)
  have CT := hide fun W (z : Kept Nil w W) => ustate_c t (hv.kept z) hl
  have qr := hide fun W (z : Kept Nil w W) (a q : Nat) => quiet_on (w := W) (a := a) (q := q) (rreads_c t (hv.kept (z.drewN (a + q))) hl)
  have CW := hide fun W (z : Kept Nil w W) => rwriter_c n (hv.kept z) hl
  have CR := hide fun W (z : Kept Nil w W) => rreaders_c n (hv.kept z) hl
  have hat : (sds (um n) l).getD t.toNat z0 = (st l t, rd l t) := by rw [sds_at (by omega), Int.toNat_of_nonneg ht.1]
  have d0 : decide (t < 0) = false := by simp; omega
  have d1 : decide ((um n : Int) ≤ t) = false := by simp; omega
  obtain ⟨A, cp, rfl, _, hp⟩ := hv
  clear hp ht
  generalize st l t = a at *
  generalize rd l t = b at *
  subst h1
  have HD := hide (swhy_ask (r := r) hat)
  clear hat CW CR qr h
  generalize hm : (um n : Int) = m at *
  have HM := hide hm
  clear hm
  by_cases ha : a = 0
  · subst ha
    have HE := hide (hd.out.trans (HD.out.trans (if_pos rfl)))
    clear hd HD
    go_enter Try.func7, Try.ntmps7
    go_wp2_with fail
    go_quiet ((go_at_call 19; exact qs.out _ _))
    go_wp2_with fail
    refine (CT.out _ (HK.out.drewN _)).mono ?_
    rintro e w' ⟨rfl, rfl⟩
    go_wp2_with fail
    go_ret
    exact .tell HE.out (HK.out.drewN _)
  · have HE := hide (hd.out.trans (HD.out.trans (if_neg ha)))
    have ba : (a != 0) = true := by simpa using ha
    clear ha hd HD
    go_enter Try.func7, Try.ntmps7
    go_wp2_with fail
    go_quiet ((go_at_call 19; exact qs.out _ _))
    go_wp2_with fail
    refine (CT.out _ (HK.out.drewN _)).mono ?_
    rintro e w' ⟨rfl, rfl⟩
    go_wp2_with fail
    go_ret
    exact .tell HE.out (HK.out.drewN _)
theorem hrdo_not (n : Int) (hv : Evs w v l) (hl : l.length ≤ 65536) (h : 1 ≤ k ∧ k ≤ 4) (ht : 0 ≤ t ∧ t < (um n : Int)) (h1 : k ≠ 1) (ha : st l t ≠ k - 1) : Calls Try.prog 7 #[.int .i64 n, v, .agg #[.int .i64 k, .int .i64 t, .bool r, .int .i64 c]] w (SRDone n l ⟨k, t, r, c⟩ w) := by
  have hd := hide (sdof_why (A := sds (um n) l) (e := ⟨k, t, r, c⟩) h (by rw [sds_len]; exact ht))
  have HK := hide ((Kept.refl Nil w).alloc (.cells #[.int .i64 k, .int .i64 t, .bool r, .int .i64 c] 25))
  have cs := hide fun W => usome_c W n
  have qs := hide fun W q => quiet_of (w := W) (q := q) (cs.out _)
  have CT := hide fun W (z : Kept Nil w W) => ustate_c t (hv.kept z) hl
  have qr := hide fun W (z : Kept Nil w W) (a q : Nat) => quiet_on (w := W) (a := a) (q := q) (rreads_c t (hv.kept (z.drewN (a + q))) hl)
  have CW := hide fun W (z : Kept Nil w W) => rwriter_c n (hv.kept z) hl
  have CR := hide fun W (z : Kept Nil w W) => rreaders_c n (hv.kept z) hl
  have hat : (sds (um n) l).getD t.toNat z0 = (st l t, rd l t) := by rw [sds_at (by omega), Int.toNat_of_nonneg ht.1]
  have d0 : decide (t < 0) = false := by simp; omega
  have d1 : decide ((um n : Int) ≤ t) = false := by simp; omega
  obtain ⟨A, cp, rfl, _, hp⟩ := hv
  clear hp ht
  generalize st l t = a at *
  generalize rd l t = b at *
  have HE := hide (hd.out.trans (swhy_not (r := r) hat h1 ha))
  have ba : (a != k - 1) = true := by simpa using ha
  clear hat CW CR qr ha hd
  generalize hm : (um n : Int) = m at *
  have HM := hide hm
  clear hm
  rcases (show k = 2 ∨ k = 3 ∨ k = 4 by omega) with rfl | rfl | rfl
  all_goals
    clear h h1
    go_enter Try.func7, Try.ntmps7
    go_wp2_with fail
    go_quiet ((go_at_call 19; exact qs.out _ _))
    go_wp2_with fail
    refine (CT.out _ (HK.out.drewN _)).mono ?_
    rintro e w' ⟨rfl, rfl⟩
    go_wp2_with fail
    go_ret
    exact .tell HE.out (HK.out.drewN _)
theorem hrdo_other (n : Int) (hv : Evs w v l) (hl : l.length ≤ 65536) (h : 1 ≤ k ∧ k ≤ 4) (ht : 0 ≤ t ∧ t < (um n : Int)) (h1 : k ≠ 1) (ha : st l t = k - 1) (hr : r ≠ rd l t) : Calls Try.prog 7 #[.int .i64 n, v, .agg #[.int .i64 k, .int .i64 t, .bool r, .int .i64 c]] w (SRDone n l ⟨k, t, r, c⟩ w) := by
  have hd := hide (sdof_why (A := sds (um n) l) (e := ⟨k, t, r, c⟩) h (by rw [sds_len]; exact ht))
  have HK := hide ((Kept.refl Nil w).alloc (.cells #[.int .i64 k, .int .i64 t, .bool r, .int .i64 c] 25))
  have cs := hide fun W => usome_c W n
  have qs := hide fun W q => quiet_of (w := W) (q := q) (cs.out _)
  have CT := hide fun W (z : Kept Nil w W) => ustate_c t (hv.kept z) hl
  have qr := hide fun W (z : Kept Nil w W) (a q : Nat) => quiet_on (w := W) (a := a) (q := q) (rreads_c t (hv.kept (z.drewN (a + q))) hl)
  have CW := hide fun W (z : Kept Nil w W) => rwriter_c n (hv.kept z) hl
  have CR := hide fun W (z : Kept Nil w W) => rreaders_c n (hv.kept z) hl
  have hat : (sds (um n) l).getD t.toNat z0 = (st l t, rd l t) := by rw [sds_at (by omega), Int.toNat_of_nonneg ht.1]
  have d0 : decide (t < 0) = false := by simp; omega
  have d1 : decide ((um n : Int) ≤ t) = false := by simp; omega
  obtain ⟨A, cp, rfl, _, hp⟩ := hv
  clear hp ht
  generalize st l t = a at *
  generalize rd l t = b at *
  subst ha
  have HE := hide (hd.out.trans (swhy_kind (r := r) hat h1 hr))
  have br : (r == b) = false := by simpa using hr
  clear hat CW CR hr hd
  generalize hm : (um n : Int) = m at *
  have HM := hide hm
  clear hm
  rcases (show k = 2 ∨ k = 3 ∨ k = 4 by omega) with rfl | rfl | rfl
  all_goals
    clear h h1
    go_enter Try.func7, Try.ntmps7
    go_wp2_with fail
    go_quiet ((go_at_call 19; exact qs.out _ _))
    go_wp2_with fail
    refine (CT.out _ (HK.out.drewN _)).mono ?_
    rintro e w' ⟨rfl, rfl⟩
    go_wp2_with fail
    go_quiet ((go_at_call 21; exact qr.out _ HK.out _ _))
    go_wp2_with fail
    go_ret
    first | exact .tell HE.out (HK.out.drewN _) | exact .tell HE.out ((HK.out.drewN _).drewN _)
theorem hrdo_late (n : Int) (hv : Evs w v l) (hl : l.length ≤ 65536) (h : 1 ≤ k ∧ k ≤ 4) (ht : 0 ≤ t ∧ t < (um n : Int)) (h1 : k ≠ 1) (h2 : k ≠ 2) (ha : st l t = k - 1) (hr : r = rd l t) : Calls Try.prog 7 #[.int .i64 n, v, .agg #[.int .i64 k, .int .i64 t, .bool r, .int .i64 c]] w (SRDone n l ⟨k, t, r, c⟩ w) := by
  have hd := hide (sdof_why (A := sds (um n) l) (e := ⟨k, t, r, c⟩) h (by rw [sds_len]; exact ht))
  have HK := hide ((Kept.refl Nil w).alloc (.cells #[.int .i64 k, .int .i64 t, .bool r, .int .i64 c] 25))
  have cs := hide fun W => usome_c W n
  have qs := hide fun W q => quiet_of (w := W) (q := q) (cs.out _)
  have CT := hide fun W (z : Kept Nil w W) => ustate_c t (hv.kept z) hl
  have qr := hide fun W (z : Kept Nil w W) (a q : Nat) => quiet_on (w := W) (a := a) (q := q) (rreads_c t (hv.kept (z.drewN (a + q))) hl)
  have CW := hide fun W (z : Kept Nil w W) => rwriter_c n (hv.kept z) hl
  have CR := hide fun W (z : Kept Nil w W) => rreaders_c n (hv.kept z) hl
  have hat : (sds (um n) l).getD t.toNat z0 = (st l t, rd l t) := by rw [sds_at (by omega), Int.toNat_of_nonneg ht.1]
  have d0 : decide (t < 0) = false := by simp; omega
  have d1 : decide ((um n : Int) ≤ t) = false := by simp; omega
  obtain ⟨A, cp, rfl, _, hp⟩ := hv
  clear hp ht
  generalize st l t = a at *
  generalize rd l t = b at *
  subst ha hr
  have HE := hide (hd.out.trans ((swhy_shut hat h1).trans (shu_not h2)))
  clear hat CW CR hd
  generalize hm : (um n : Int) = m at *
  have HM := hide hm
  clear hm
  rcases (show k = 3 ∨ k = 4 by omega) with rfl | rfl
  all_goals
    clear h h1 h2
    go_enter Try.func7, Try.ntmps7
    go_wp2_with fail
    go_quiet ((go_at_call 19; exact qs.out _ _))
    go_wp2_with fail
    refine (CT.out _ (HK.out.drewN _)).mono ?_
    rintro e w' ⟨rfl, rfl⟩
    go_wp2_with fail
    go_quiet ((go_at_call 21; exact qr.out _ HK.out _ _))
    go_wp2_with fail
    go_ret
    first | exact .tell HE.out (HK.out.drewN _) | exact .tell HE.out ((HK.out.drewN _).drewN _)
theorem hrdo_enter (n : Int) (hv : Evs w v l) (hl : l.length ≤ 65536) (h : 1 ≤ k ∧ k ≤ 4) (ht : 0 ≤ t ∧ t < (um n : Int)) (h1 : k = 2) (ha : st l t = k - 1) (hr : r = rd l t) : Calls Try.prog 7 #[.int .i64 n, v, .agg #[.int .i64 k, .int .i64 t, .bool r, .int .i64 c]] w (SRDone n l ⟨k, t, r, c⟩ w) := by
  have hd := hide (sdof_why (A := sds (um n) l) (e := ⟨k, t, r, c⟩) h (by rw [sds_len]; exact ht))
  have HK := hide ((Kept.refl Nil w).alloc (.cells #[.int .i64 k, .int .i64 t, .bool r, .int .i64 c] 25))
  have cs := hide fun W => usome_c W n
  have qs := hide fun W q => quiet_of (w := W) (q := q) (cs.out _)
  have CT := hide fun W (z : Kept Nil w W) => ustate_c t (hv.kept z) hl
  have qr := hide fun W (z : Kept Nil w W) (a q : Nat) => quiet_on (w := W) (a := a) (q := q) (rreads_c t (hv.kept (z.drewN (a + q))) hl)
  have CW := hide fun W (z : Kept Nil w W) => rwriter_c n (hv.kept z) hl
  have CR := hide fun W (z : Kept Nil w W) => rreaders_c n (hv.kept z) hl
  have hat : (sds (um n) l).getD t.toNat z0 = (st l t, rd l t) := by rw [sds_at (by omega), Int.toNat_of_nonneg ht.1]
  have d0 : decide (t < 0) = false := by simp; omega
  have d1 : decide ((um n : Int) ≤ t) = false := by simp; omega
  obtain ⟨A, cp, rfl, _, hp⟩ := hv
  clear hp ht
  generalize st l t = a at *
  generalize rd l t = b at *
  subst ha hr h1
  have HD := hide (hd.out.trans (swhy_shut hat (show (2 : Int) ≠ 1 by decide)))
  have S1 := hide (shu_writer (A := sds (um n) l) (r := r))
  have S2 := hide (shu_readers (A := sds (um n) l))
  have S3 := hide (shu_reader (A := sds (um n) l))
  have S4 := hide (shu_free (A := sds (um n) l))
  clear hat hd h
  generalize wri (sds (um n) l) = o at *
  generalize rdn (sds (um n) l) = q at *
  generalize hm : (um n : Int) = m at *
  have HM := hide hm
  clear hm
  by_cases ho : 0 ≤ o
  · have bo : decide (0 ≤ o) = true := by simpa using ho
    have HE := hide (HD.out.trans (S1.out ho))
    clear ho HD S1 S2 S3 S4 CR
    go_enter Try.func7, Try.ntmps7
    go_wp2_with fail
    go_quiet ((go_at_call 19; exact qs.out _ _))
    go_wp2_with fail
    refine (CT.out _ (HK.out.drewN _)).mono ?_
    rintro e w' ⟨rfl, rfl⟩
    go_wp2_with fail
    go_quiet ((go_at_call 21; exact qr.out _ HK.out _ _))
    go_wp2_with fail
    refine (CW.out _ (HK.out.drewN _)).mono ?_
    rintro e w' ⟨rfl, rfl⟩
    go_wp2_with fail
    go_ret
    first | exact .tell HE.out (HK.out.drewN _) | exact .tell HE.out ((HK.out.drewN _).drewN _)
  · have bo : decide (0 ≤ o) = false := by simpa using ho
    cases r with
    | true =>
      have HE := hide (HD.out.trans (S3.out ho))
      clear ho HD S1 S2 S3 S4 CR
      go_enter Try.func7, Try.ntmps7
      go_wp2_with fail
      go_quiet ((go_at_call 19; exact qs.out _ _))
      go_wp2_with fail
      refine (CT.out _ (HK.out.drewN _)).mono ?_
      rintro e w' ⟨rfl, rfl⟩
      go_wp2_with fail
      go_quiet ((go_at_call 21; exact qr.out _ HK.out _ _))
      go_wp2_with fail
      refine (CW.out _ (HK.out.drewN _)).mono ?_
      rintro e w' ⟨rfl, rfl⟩
      go_wp2_with fail
      go_ret
      first | exact .tell HE.out (HK.out.drewN _) | exact .tell HE.out ((HK.out.drewN _).drewN _)
    | false =>
      by_cases hq : 0 < q
      · have bq : decide (0 < q) = true := by simpa using hq
        have HE := hide (HD.out.trans (S2.out hq))
        clear ho hq HD S1 S2 S3 S4
        go_enter Try.func7, Try.ntmps7
        go_wp2_with fail
        go_quiet ((go_at_call 19; exact qs.out _ _))
        go_wp2_with fail
        refine (CT.out _ (HK.out.drewN _)).mono ?_
        rintro e w' ⟨rfl, rfl⟩
        go_wp2_with fail
        go_quiet ((go_at_call 21; exact qr.out _ HK.out _ _))
        go_wp2_with fail
        refine (CW.out _ (HK.out.drewN _)).mono ?_
        rintro e w' ⟨rfl, rfl⟩
        go_wp2_with fail
        refine (CR.out _ (HK.out.drewN _)).mono ?_
        rintro e w' ⟨rfl, rfl⟩
        go_wp2_with fail
        go_ret
        first | exact .tell HE.out (HK.out.drewN _) | exact .tell HE.out ((HK.out.drewN _).drewN _)
      · have bq : decide (0 < q) = false := by simpa using hq
        have HE := hide (HD.out.trans (S4.out ho hq))
        clear ho hq HD S1 S2 S3 S4
        go_enter Try.func7, Try.ntmps7
        go_wp2_with fail
        go_quiet ((go_at_call 19; exact qs.out _ _))
        go_wp2_with fail
        refine (CT.out _ (HK.out.drewN _)).mono ?_
        rintro e w' ⟨rfl, rfl⟩
        go_wp2_with fail
        go_quiet ((go_at_call 21; exact qr.out _ HK.out _ _))
        go_wp2_with fail
        refine (CW.out _ (HK.out.drewN _)).mono ?_
        rintro e w' ⟨rfl, rfl⟩
        go_wp2_with fail
        refine (CR.out _ (HK.out.drewN _)).mono ?_
        rintro e w' ⟨rfl, rfl⟩
        go_wp2_with fail
        go_ret
        first | exact .tell HE.out (HK.out.drewN _) | exact .tell HE.out ((HK.out.drewN _).drewN _)
/-- Do. -/
theorem hrdo_c (n : Int) (hv : Evs w v l) (hl : l.length ≤ 65536) : Calls Try.prog 7 #[.int .i64 n, v, .agg #[.int .i64 k, .int .i64 t, .bool r, .int .i64 c]] w (SRDone n l ⟨k, t, r, c⟩ w) := by
  by_cases h0 : k < 0 ∨ 5 < k
  · exact hrdo_kind n h0
  · by_cases h1 : k = 0 ∨ k = 5
    · exact hrdo_ok n h1
    · have hk : 1 ≤ k ∧ k ≤ 4 := by omega
      by_cases h2 : t < 0 ∨ (um n : Int) ≤ t
      · exact hrdo_none n hk h2
      · have ht : 0 ≤ t ∧ t < (um n : Int) := by omega
        by_cases h3 : k = 1
        · exact hrdo_ask n hv hl hk ht h3
        · by_cases h4 : st l t = k - 1
          · by_cases h5 : r = rd l t
            · by_cases h6 : k = 2
              · exact hrdo_enter n hv hl hk ht h6 h4 h5
              · exact hrdo_late n hv hl hk ht h3 h6 h4 h5
            · exact hrdo_other n hv hl hk ht h3 h4 h5
          · exact hrdo_not n hv hl hk ht h3 h4
end
end Go.Proofs.Ytnipgafogkbobaa
