/- Package shared: why. -/
import Derived.Test.YtmmncaabeiagaaaHShut
import Derived.Deep.RegionHeld3
import Derived.Deep.DeepCutAuto
namespace Go.Proofs.Ytmmncaabeiagaaa
open Go.RowKit
set_option maxRecDepth 100000

/-- Two variables of a call's own: what they hold. -/
def Two (W1 W : World) (v5 v6 : Value) (a : Int) (d : Bool) (a2 : Int) (d2 : Bool) : Prop := ∃ b5 b6 : Nat, v5 = .pointer (some ⟨b5, 0, none⟩) ∧ v6 = .pointer (some ⟨b6, 0, none⟩) ∧ Is W b5 53 #[.int .i64 a, .bool d] ∧ Is W b6 53 #[.int .i64 a2, .bool d2] ∧ Kept Nil W1 W
section
variable {W1 w2 : World} {a a2 : Int} {d d2 : Bool} {n : Nat}
theorem Is.stand_set {x : Int} {y : Bool} (h : Is w2 n 53 #[.int .i64 0, .bool false]) : Is ((w2.setCell ⟨n, 0, none⟩ (.int .i64 x)).setCell ⟨n, 1, none⟩ (.bool y)) n 53 #[.int .i64 x, .bool y] := (h.set 0 (.int .i64 x)).set 1 (.bool y)
theorem Kept.stand_set {x : Int} {y : Bool} (k : Kept Nil W1 w2) (h : W1.heap.size ≤ n) : Kept Nil W1 ((w2.setCell ⟨n, 0, none⟩ (.int .i64 x)).setCell ⟨n, 1, none⟩ (.bool y)) := (k.set (p := ⟨n, 0, none⟩) (fun z => absurd z (show ¬ n < _ by omega)) _).set (p := ⟨n, 1, none⟩) (fun z => absurd z (show ¬ n < _ by omega)) _
theorem size_set {x : Int} {y : Bool} : ((w2.setCell ⟨n, 0, none⟩ (.int .i64 x)).setCell ⟨n, 1, none⟩ (.bool y)).heap.size = w2.heap.size := by simp [World.setCell]
theorem Is.late {W : World} {t : TypeId} {c : Array Value} (h : W.heap.size = n) : Is (W.alloc (.cells c t)) n t c := by subst h; exact Is.new W t c
theorem one_new (z : Kept Nil (W1.alloc (.cells #[.int .i64 0, .bool false] 53)).drew w2) : Is w2 W1.heap.size 53 #[.int .i64 0, .bool false] := (Is.new W1 53 #[.int .i64 0, .bool false]).drew.kept z (fun c => c)
theorem two_new (z : Kept Nil ((W1.alloc (.cells #[.int .i64 0, .bool false] 53)).alloc (.cells #[.int .i64 0, .bool false] 53)).drew w2) : Is w2 W1.heap.size 53 #[.int .i64 0, .bool false] ∧ Is w2 (W1.heap.size + 1) 53 #[.int .i64 0, .bool false] :=
  ⟨((Is.new W1 53 #[.int .i64 0, .bool false]).alloc (.cells #[.int .i64 0, .bool false] 53)).drew.kept z (fun c => c), (new_second (w := W1) (t1 := 53) (t2 := 53) (c1 := #[.int .i64 0, .bool false]) (c2 := #[.int .i64 0, .bool false])).drew.kept z (fun c => c)⟩
theorem two_a (k : Kept Nil W1 w2) : Two W1 ((w2.alloc (.cells #[.int .i64 a, .bool d] 53)).alloc (.cells #[.int .i64 a2, .bool d2] 53)) (.pointer (some ⟨w2.heap.size, 0, none⟩)) (.pointer (some ⟨w2.heap.size + 1, 0, none⟩)) a d a2 d2 :=
  ⟨_, _, rfl, rfl, (Is.new w2 _ _).alloc _, new_second, (k.alloc _).alloc _⟩
theorem two_b (k : Kept Nil W1 w2) : Two W1 ((w2.alloc (.cells #[.int .i64 a2, .bool d2] 53)).alloc (.cells #[.int .i64 a, .bool d] 53)) (.pointer (some ⟨w2.heap.size + 1, 0, none⟩)) (.pointer (some ⟨w2.heap.size, 0, none⟩)) a d a2 d2 :=
  ⟨_, _, rfl, rfl, new_second, (Is.new w2 _ _).alloc _, (k.alloc _).alloc _⟩
theorem two_c (k : Kept Nil W1 w2) (z : Kept Nil (W1.alloc (.cells #[.int .i64 0, .bool false] 53)).drew w2) : Two W1 (((w2.setCell ⟨W1.heap.size, 0, none⟩ (.int .i64 a)).setCell ⟨W1.heap.size, 1, none⟩ (.bool d)).alloc (.cells #[.int .i64 a2, .bool d2] 53)) (.pointer (some ⟨W1.heap.size, 0, none⟩)) (.pointer (some ⟨w2.heap.size, 0, none⟩)) a d a2 d2 :=
  ⟨_, _, rfl, rfl, (one_new z).stand_set.alloc _, Is.late size_set, (k.stand_set (Nat.le_refl _)).alloc _⟩
theorem two_d (k : Kept Nil W1 w2) (z : Kept Nil (W1.alloc (.cells #[.int .i64 0, .bool false] 53)).drew w2) : Two W1 (((w2.setCell ⟨W1.heap.size, 0, none⟩ (.int .i64 a2)).setCell ⟨W1.heap.size, 1, none⟩ (.bool d2)).alloc (.cells #[.int .i64 a, .bool d] 53)) (.pointer (some ⟨w2.heap.size, 0, none⟩)) (.pointer (some ⟨W1.heap.size, 0, none⟩)) a d a2 d2 :=
  ⟨_, _, rfl, rfl, Is.late size_set, (one_new z).stand_set.alloc _, (k.stand_set (Nat.le_refl _)).alloc _⟩
theorem two_e (k : Kept Nil W1 w2) (z : Kept Nil ((W1.alloc (.cells #[.int .i64 0, .bool false] 53)).alloc (.cells #[.int .i64 0, .bool false] 53)).drew w2) : Two W1 ((((w2.setCell ⟨W1.heap.size, 0, none⟩ (.int .i64 a)).setCell ⟨W1.heap.size, 1, none⟩ (.bool d)).setCell ⟨W1.heap.size + 1, 0, none⟩ (.int .i64 a2)).setCell ⟨W1.heap.size + 1, 1, none⟩ (.bool d2)) (.pointer (some ⟨W1.heap.size, 0, none⟩)) (.pointer (some ⟨W1.heap.size + 1, 0, none⟩)) a d a2 d2 :=
  ⟨_, _, rfl, rfl, ((two_new z).1.stand_set.other (p := ⟨W1.heap.size + 1, 0, none⟩) (by simp) _).other (p := ⟨W1.heap.size + 1, 1, none⟩) (by simp) _, (((two_new z).2.other (p := ⟨W1.heap.size, 0, none⟩) (by simp) _).other (p := ⟨W1.heap.size, 1, none⟩) (by simp) _).stand_set, (k.stand_set (Nat.le_refl _)).stand_set (Nat.le_succ _)⟩
theorem two_f (k : Kept Nil W1 w2) (z : Kept Nil ((W1.alloc (.cells #[.int .i64 0, .bool false] 53)).alloc (.cells #[.int .i64 0, .bool false] 53)).drew w2) : Two W1 ((((w2.setCell ⟨W1.heap.size + 1, 0, none⟩ (.int .i64 a)).setCell ⟨W1.heap.size + 1, 1, none⟩ (.bool d)).setCell ⟨W1.heap.size, 0, none⟩ (.int .i64 a2)).setCell ⟨W1.heap.size, 1, none⟩ (.bool d2)) (.pointer (some ⟨W1.heap.size + 1, 0, none⟩)) (.pointer (some ⟨W1.heap.size, 0, none⟩)) a d a2 d2 :=
  ⟨_, _, rfl, rfl, ((two_new z).2.stand_set.other (p := ⟨W1.heap.size, 0, none⟩) (by simp) _).other (p := ⟨W1.heap.size, 1, none⟩) (by simp) _, (((two_new z).1.other (p := ⟨W1.heap.size + 1, 0, none⟩) (by simp) _).other (p := ⟨W1.heap.size + 1, 1, none⟩) (by simp) _).stand_set, (k.stand_set (Nat.le_succ _)).stand_set (Nat.le_refl _)⟩
end
section
variable {w w' : World} {p : Option Addr} {g : Nat} {A : List Sd} {k t c x : Int} {r : Bool} {e : Ev}
theorem wy_same (h : A.getD t.toNat z0 = bef k r) : swhy A k t r = shu A k r := by
  unfold bef at h
  split at h
  · rename_i h1
    unfold swhy shu
    rw [if_pos h1, h, if_pos (show z0.1 = 0 from rfl), if_neg (by omega)]
  · rename_i h1
    unfold swhy
    rw [if_neg h1, h, if_neg (fun z => z rfl), if_neg (fun z => z rfl)]
theorem wy_busy (hw : Wf A) (ht : t.toNat < A.length) (h1 : k = 1) (h : A.getD t.toNat z0 ≠ bef k r) : swhy A k t r = 5 := by
  subst h1
  unfold swhy
  rw [if_pos rfl, if_neg (fun z => h (wf_at hw ht z))]
theorem wy_not (h1 : k ≠ 1) (h : (A.getD t.toNat z0).1 ≠ (bef k r).1) : swhy A k t r = 6 := by
  unfold bef at h
  rw [if_neg h1] at h
  unfold swhy
  rw [if_neg h1, if_pos h]
theorem wy_kind (h1 : k ≠ 1) (h : A.getD t.toNat z0 ≠ bef k r) (h2 : (A.getD t.toNat z0).1 = (bef k r).1) : swhy A k t r = 7 := by
  unfold bef at h h2
  rw [if_neg h1] at h h2
  have h2 : (A.getD t.toNat z0).1 = k - 1 := h2
  unfold swhy
  rw [if_neg h1, if_neg (fun z => z h2), if_pos (fun z => h ?_)]
  rw [z, ← h2]
set_option maxHeartbeats 4000000
/-- why. -/
theorem swhy_c (hw : Wf A) (hL : Sk w p g A) (hl : A.length ≤ 65536) (hk : 1 ≤ k ∧ k ≤ 4) (ht : 0 ≤ t ∧ t < A.length) : Calls Try.prog 24 #[.pointer p, .agg #[.int .i64 k, .int .i64 t, .bool r, .int .i64 c]] w fun e w' => e = .returned (.int .i64 (swhy A k t r)) ∧ Kept Nil w w' := by
  obtain ⟨W1, hW1⟩ : ∃ W1, w.alloc (.cells #[.int .i64 k, .int .i64 t, .bool r, .int .i64 c] 29) = W1 := ⟨_, rfl⟩
  have hk1 : Kept Nil w W1 := by rw [← hW1]; exact (Kept.refl Nil w).alloc _
  have hi0 : Is W1 w.heap.size 29 #[.int .i64 k, .int .i64 t, .bool r, .int .i64 c] := by rw [← hW1]; exact Is.new w _ _
  have CB := hide fun W => sbefore_c W k t c r (by omega)
  obtain ⟨m, rfl⟩ : ∃ m : Nat, t = m := ⟨t.toNat, by omega⟩
  have hm : m < A.length := by omega
  have hL0 := hL
  rcases hL with ⟨_, rfl⟩ | ⟨b, q, cp, rfl, h1, h2⟩
  · simp at hm
  obtain ⟨rfl, h3⟩ := h2 (by omega)
  have g0 : Is W1 b 36 #[.slice (some ⟨g, 0, none⟩) A.length cp] := h1.kept hk1 (fun z => z)
  have g1 : Is W1 g 53 (scells A).toArray := h3.kept hk1 (fun z => z)
  obtain ⟨y, hy⟩ : ∃ y, A.getD m z0 = y := ⟨_, rfl⟩
  obtain ⟨a, d⟩ := y
  obtain ⟨v, hv⟩ : ∃ v, bef k r = v := ⟨_, rfl⟩
  obtain ⟨a2, d2⟩ := v
  rw [hv] at CB
  have CELLS := hide fun (W : World) (z : Kept Nil W1 W) => show W.cell? ⟨w.heap.size, 0, none⟩ = some (.int .i64 k) ∧ W.cell? ⟨w.heap.size, 1, none⟩ = some (.int .i64 (m : Int)) ∧ W.cell? ⟨w.heap.size, 2, none⟩ = some (.bool r) ∧ W.cell? ⟨w.heap.size, 3, none⟩ = some (.int .i64 c) ∧ W.cell? ⟨b, 0, none⟩ = some (.slice (some ⟨g, 0, none⟩) A.length cp) ∧ W.cell? ⟨g, m * 2, none⟩ = some (.int .i64 a) ∧ W.cell? ⟨g, m * 2 + 1, none⟩ = some (.bool d) from
    ⟨(hi0.kept z (fun c => c)).cell 0, (hi0.kept z (fun c => c)).cell 1, (hi0.kept z (fun c => c)).cell 2, (hi0.kept z (fun c => c)).cell 3, (g0.kept z (fun c => c)).cell 0, (((g1.kept z (fun c => c)).stand hm).1).trans (by rw [hy]), (((g1.kept z (fun c => c)).stand hm).2).trans (by rw [hy])⟩
  have c1 := hide fun (W : World) (z : Kept Nil W1 W) => (CB.out W).mono (R' := fun e w' => e = .returned (.agg #[.int .i64 a2, .bool d2]) ∧ Kept Nil W1 w' ∧ Kept Nil W w') fun e w' ⟨h1, h2⟩ => ⟨h1, z.trans h2 (fun _ _ c => c), h2⟩
  have hK : Kept Nil W1 W1.drew := (Kept.refl _ W1).drew
  have F1 := hide fun (V : World) (z : Kept Nil (W1.alloc (.cells #[.int .i64 0, .bool false] 53)).drew V) => show V.cell? ⟨W1.heap.size, 0, none⟩ = some (.int .i64 0) ∧ V.cell? ⟨W1.heap.size, 1, none⟩ = some (.bool false) ∧ V.frozen? ⟨W1.heap.size, 0, none⟩ = false ∧ V.frozen? ⟨W1.heap.size, 1, none⟩ = false ∧ W1.heap.size ≠ V.heap.size ∧ V.heap.size ≠ W1.heap.size ∧ W1.heap.size < V.heap.size from by
    have i := one_new z
    have h := i.lt
    exact ⟨i.cell 0, i.cell 1, i.free 0, i.free 1, by omega, by omega, by omega⟩
  have F2 := hide fun (V : World) (z : Kept Nil ((W1.alloc (.cells #[.int .i64 0, .bool false] 53)).alloc (.cells #[.int .i64 0, .bool false] 53)).drew V) => show V.cell? ⟨W1.heap.size, 0, none⟩ = some (.int .i64 0) ∧ V.cell? ⟨W1.heap.size, 1, none⟩ = some (.bool false) ∧ V.frozen? ⟨W1.heap.size, 0, none⟩ = false ∧ V.frozen? ⟨W1.heap.size, 1, none⟩ = false ∧ V.cell? ⟨W1.heap.size + 1, 0, none⟩ = some (.int .i64 0) ∧ V.cell? ⟨W1.heap.size + 1, 1, none⟩ = some (.bool false) ∧ V.frozen? ⟨W1.heap.size + 1, 0, none⟩ = false ∧ V.frozen? ⟨W1.heap.size + 1, 1, none⟩ = false from by
    have i := (two_new z).1
    have j := (two_new z).2
    exact ⟨i.cell 0, i.cell 1, i.free 0, i.free 1, j.cell 0, j.cell 1, j.free 0, j.free 1⟩
  have CS := hide fun W (z : Kept Nil W1 W) => sshut_c k (m : Int) c r (hL0.keep (hk1.trans z (fun _ _ c => c))) hl
  have EV := hide fun (W : World) (z : Kept Nil W1 W) => show W.cell? ⟨w.heap.size, 0, none⟩ = some (.int .i64 k) ∧ W.cell? ⟨w.heap.size, 1, none⟩ = some (.int .i64 (m : Int)) ∧ W.cell? ⟨w.heap.size, 2, none⟩ = some (.bool r) ∧ W.cell? ⟨w.heap.size, 3, none⟩ = some (.int .i64 c) from
    ⟨(hi0.kept z (fun c => c)).cell 0, (hi0.kept z (fun c => c)).cell 1, (hi0.kept z (fun c => c)).cell 2, (hi0.kept z (fun c => c)).cell 3⟩
  have HK := hide fun (W : World) (z : Kept Nil W1 W) => hk1.trans z (fun _ _ c => c)
  have hy2 : A.getD (m : Int).toNat z0 = (a, d) := hy
  have Q1 : Hid ((a, d) = ((a2, d2) : Sd) → swhy A k m r = shu A k r) := hide (fun h => wy_same (by rw [hy2, hv, h]))
  have Q2 : Hid ((a, d) ≠ ((a2, d2) : Sd) → k = 1 → swhy A k m r = 5) := hide (fun h h1 => wy_busy hw hm h1 (by rw [hy2, hv]; exact h))
  have Q3 : Hid (k ≠ 1 → a ≠ a2 → swhy A k m r = 6) := hide (fun h1 h => wy_not h1 (by rw [hy2, hv]; exact h))
  have Q4 : Hid ((a, d) ≠ ((a2, d2) : Sd) → k ≠ 1 → a = a2 → swhy A k m r = 7) := hide (fun h h1 h2 => wy_kind h1 (by rw [hy2, hv]; exact h) (by rw [hy2, hv]; exact h2))
  clear CB h1 h2 h3 g0 g1 ht hy hv hy2 hw hL0
  go_enter Try.func24, Try.ntmps24
  go_upto_region 1 with fail
  go_cut [5, 6] (fun s5 s6 wx => Two W1 wx s5 s6 a d a2 d2)
  case first =>
    go_region_held3 (fun W => W.cell? ⟨w.heap.size, 0, none⟩ = some (.int .i64 k) ∧ W.cell? ⟨w.heap.size, 1, none⟩ = some (.int .i64 (m : Int)) ∧ W.cell? ⟨w.heap.size, 2, none⟩ = some (.bool r) ∧ W.cell? ⟨w.heap.size, 3, none⟩ = some (.int .i64 c) ∧ W.cell? ⟨b, 0, none⟩ = some (.slice (some ⟨g, 0, none⟩) A.length cp) ∧ W.cell? ⟨g, m * 2, none⟩ = some (.int .i64 a) ∧ W.cell? ⟨g, m * 2 + 1, none⟩ = some (.bool d))
      (exact CELLS.out _ (by repeat (first | assumption | exact Kept.refl _ _ | refine Kept.drew ?_ | refine Kept.alloc ?_ _ | refine Kept.set ?_ (fun h => absurd h (by first | exact Nat.lt_irrefl _ | (show ¬ (_ + 1 < _); omega) | (show ¬ (_ < _); omega))) _)))
      (first
        | (go_at_call 32; refine (c1.out W1.drew (by repeat (first | assumption | exact Kept.refl _ _ | refine Kept.drew ?_ | refine Kept.alloc ?_ _ | refine Kept.set ?_ (fun h => absurd h (by first | exact Nat.lt_irrefl _ | (show ¬ (_ + 1 < _); omega) | (show ¬ (_ < _); omega))) _))).mono ?_; rintro e w2 ⟨rfl, hk1, hk2⟩)
        | (go_at_call 32; refine (c1.out (W1.alloc (.cells #[.int .i64 0, .bool false] 53)).drew (by repeat (first | assumption | exact Kept.refl _ _ | refine Kept.drew ?_ | refine Kept.alloc ?_ _ | refine Kept.set ?_ (fun h => absurd h (by first | exact Nat.lt_irrefl _ | (show ¬ (_ + 1 < _); omega) | (show ¬ (_ < _); omega))) _))).mono ?_; rintro e w2 ⟨rfl, hk1, hk2⟩; obtain ⟨x1, x2, x3, x4, x5, x6, x7⟩ := F1.out _ hk2)
        | (go_at_call 32; refine (c1.out ((W1.alloc (.cells #[.int .i64 0, .bool false] 53)).alloc (.cells #[.int .i64 0, .bool false] 53)).drew (by repeat (first | assumption | exact Kept.refl _ _ | refine Kept.drew ?_ | refine Kept.alloc ?_ _ | refine Kept.set ?_ (fun h => absurd h (by first | exact Nat.lt_irrefl _ | (show ¬ (_ + 1 < _); omega) | (show ¬ (_ < _); omega))) _))).mono ?_; rintro e w2 ⟨rfl, hk1, hk2⟩; obtain ⟨x1, x2, x3, x4, x5, x6, x7, x8⟩ := F2.out _ hk2))
    · go_wp2_with fail
      go_meet
      exact two_a (by assumption)
    · go_wp2_with fail
      go_meet
      exact two_b (by assumption)
    · go_wp2_with fail
      go_meet
      exact two_c (by assumption) (by assumption)
    · go_wp2_with fail
      go_meet
      exact two_e (by assumption) (by assumption)
    · go_wp2_with fail
      go_meet
      exact two_d (by assumption) (by assumption)
    · go_wp2_with fail
      go_meet
      exact two_f (by assumption) (by assumption)
  case rest =>
    obtain ⟨b5, b6, rfl, rfl, i5, i6, hkc⟩ := hcut
    have HC := hide hkc
    have r0 : wc.cell? ⟨b5, 0, none⟩ = some (.int .i64 a) := i5.cell 0
    have r1 : wc.cell? ⟨b5, 1, none⟩ = some (.bool d) := i5.cell 1
    have r2 : wc.cell? ⟨b6, 0, none⟩ = some (.int .i64 a2) := i6.cell 0
    have r3 : wc.cell? ⟨b6, 1, none⟩ = some (.bool d2) := i6.cell 1
    obtain ⟨q0, q1, q2, q3⟩ := EV.out wc hkc
    have e3 := eq_stand_guard a a2 d d2
    clear i5 i6 hkc F1 F2 CELLS c1 EV
    by_cases he : (a, d) = ((a2, d2) : Sd)
    · have HE := hide (Q1.out he)
      have e2 : ∀ W, (Op.equalIn 10000 53 (.agg #[.int .i64 a, .bool d]) (.agg #[.int .i64 a2, .bool d2])).run Try.prog W = .ok true W := fun W => by rw [eq_stand, decide_eq_true he]
      clear Q1 Q2 Q3 Q4 he
      go_wp2_with fail
      refine (CS.out _ HC.out).mono ?_
      rintro e w3 ⟨rfl, k3⟩
      have H3 := hide (HK.out _ (HC.out.trans k3 (fun _ _ z => z)))
      clear k3
      go_wp2_with fail
      go_ret
      exact ⟨by rw [HE.out]; rfl, H3.out⟩
    · have e2 : ∀ W, (Op.equalIn 10000 53 (.agg #[.int .i64 a, .bool d]) (.agg #[.int .i64 a2, .bool d2])).run Try.prog W = .ok false W := fun W => by rw [eq_stand, decide_eq_false he]
      have H3 := hide (HK.out _ HC.out)
      by_cases h1 : k = 1
      · have HE := hide (Q2.out he h1)
        have b1 : (k == 1) = true := by simpa using h1
        clear Q1 Q2 Q3 Q4 he h1
        go_wp2_with fail
        go_ret
        exact ⟨by rw [HE.out]; rfl, H3.out⟩
      · have b1 : (k == 1) = false := by simpa using h1
        by_cases h2 : a = a2
        · have HE := hide (Q4.out he h1 h2)
          have b2 : (a != a2) = false := by simpa using h2
          clear Q1 Q2 Q3 Q4 he h1 h2
          go_wp2_with fail
          go_ret
          exact ⟨by rw [HE.out]; rfl, H3.out⟩
        · have HE := hide (Q3.out h1 h2)
          have b2 : (a != a2) = true := by simpa using h2
          clear Q1 Q2 Q3 Q4 he h1 h2
          go_wp2_with fail
          go_ret
          exact ⟨by rw [HE.out]; rfl, H3.out⟩
end
end Go.Proofs.Ytmmncaabeiagaaa
