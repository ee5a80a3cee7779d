/- BypassAdds: from place to place passes add up. -/
import Derived.Test.YtefcjlacjafnoaaBLaws
namespace Go.Proofs.Ytefcjlacjafnoaa
open Go.RowKit
set_option maxRecDepth 100000

/-- The least and the greatest of three bytes, as the builtins reckon them. -/
def mn3 (x y z : Int) : Int := if z < (if y < x then y else x) then z else (if y < x then y else x)
def mx3 (x y z : Int) : Int := if (if x < y then y else x) < z then z else (if x < y then y else x)
theorem run_min3 (W : World) (x y z : Int) : (Builtin.min_ #[5, 5, 5] 5 #[.int .u8 x, .int .u8 y, .int .u8 z]).run Try.prog W = .ok (.int .u8 (mn3 x y z)) W := rfl
theorem run_max3 (W : World) (x y z : Int) : (Builtin.max_ #[5, 5, 5] 5 #[.int .u8 x, .int .u8 y, .int .u8 z]).run Try.prog W = .ok (.int .u8 (mx3 x y z)) W := rfl
theorem mid_of (x y z : Int) : mn3 x y z ≤ x + y + z - mn3 x y z - mx3 x y z ∧ x + y + z - mn3 x y z - mx3 x y z ≤ mx3 x y z ∧ (mn3 x y z = x ∨ mn3 x y z = y ∨ mn3 x y z = z) ∧ (mx3 x y z = x ∨ mx3 x y z = y ∨ mx3 x y z = z) := by
  unfold mn3 mx3
  split <;> split <;> split <;> split <;> omega
theorem frm_le (N : List Int) (t f g : Int) (l : List Ev) : 0 ≤ (frm N t f g l).s ∧ (frm N t f g l).s ≤ l.length ∧ 0 ≤ (frm N t f g l).o ∧ (frm N t f g l).o ≤ l.length := by
  have h1 := ctb_le (p := wnp (psS N t) l f g) (n := l.length)
  have h2 := ctb_le (p := wnp (psO N t) l f g) (n := l.length)
  unfold frm frS frO
  dsimp only
  omega
theorem frm_add {N : List Int} {t a b c : Int} {l : List Ev} (h : a < b ∧ b < c) : (frm N t a b l).s + (frm N t b c l).s + (frm N t (b - 1) (b + 1) l).s = (frm N t a c l).s ∧ (frm N t a b l).o + (frm N t b c l).o + (frm N t (b - 1) (b + 1) l).o = (frm N t a c l).o := by
  have h1 := wnp_add (n := l.length) (l := l) (g := psS N t) h
  have h2 := wnp_add (n := l.length) (l := l) (g := psO N t) h
  unfold frm frS frO
  dsimp only
  omega
theorem frm_add0 {N : List Int} {t a b c : Int} {l : List Ev} (hab : a ≤ b) (hbc : b ≤ c) (h : a = b ∨ b = c) : (frm N t a b l).s + (frm N t b c l).s = (frm N t a c l).s ∧ (frm N t a b l).o + (frm N t b c l).o = (frm N t a c l).o := by
  have h1 := wnp_add0 (n := l.length) (l := l) (g := psS N t) hab hbc h
  have h2 := wnp_add0 (n := l.length) (l := l) (g := psO N t) hab hbc h
  unfold frm frS frO
  dsimp only
  omega
section
variable {w w' : World} {v0 v : Value} {N : List Int} {l : List Ev}
/-- Three boxes laid one behind another. -/
theorem three_new (W : World) (x y z : Ps) : ∃ W', ((W.alloc (.cells (pcs x).toArray 27)).alloc (.cells (pcs y).toArray 27)).alloc (.cells (pcs z).toArray 27) = W' ∧
    Is W' W.heap.size 27 (pcs x).toArray ∧ Is W' (W.heap.size + 1) 27 (pcs y).toArray ∧ Is W' (W.heap.size + 1 + 1) 27 (pcs z).toArray ∧ Kept Nil W W' := by
  have h1 := Is.new W 27 (pcs x).toArray
  have h2 := Is.new (W.alloc (.cells (pcs x).toArray 27)) 27 (pcs y).toArray
  have h3 := Is.new ((W.alloc (.cells (pcs x).toArray 27)).alloc (.cells (pcs y).toArray 27)) 27 (pcs z).toArray
  rw [show (W.alloc (.cells (pcs x).toArray 27)).heap.size = W.heap.size + 1 by simp] at h2
  rw [show ((W.alloc (.cells (pcs x).toArray 27)).alloc (.cells (pcs y).toArray 27)).heap.size = W.heap.size + 1 + 1 by simp] at h3
  exact ⟨_, rfl, (h1.alloc _).alloc _, h2.alloc _, h3, (((Kept.refl Nil W).alloc _).alloc _).alloc _⟩
set_option maxHeartbeats 4000000
theorem badds_long {n0 n1 n2 n3 : Int} (h0 : 0 ≤ n0 ∧ n0 ≤ 255) (h1 : 0 ≤ n1 ∧ n1 ≤ 255) (h2 : 0 ≤ n2 ∧ n2 ≤ 255) (h3 : 0 ≤ n3 ∧ n3 ≤ 255) (hn : Nums w v0 N) (wn : Nwf N) (hv : Evs w v l) (hw : Ywf l) (hN : N.length ≤ 20) (hl : l.length ≤ 60) :
    Calls Try.prog 3 #[v0, v, .agg #[.int .u8 n0, .int .u8 n1, .int .u8 n2, .int .u8 n3]] w fun x w' => x = .returned (.bool true) ∧ Kept Nil w w' := by
  have CF := hide fun W (z : Kept Nil w W) f g => from_c n0 f g (hn.kept z) wn (hv.kept z) hw (WalkArith.wf_i64 (by omega)) (by omega)
  have CA := hide fun W (z : Kept Nil w W) => calls_at z (bawake_c W)
  have d1 : decide (20 < (N.length : Int)) = false := by simp; omega
  have d2 : decide (60 < (l.length : Int)) = false := by simp; omega
  obtain ⟨A0, c0, rfl, hq⟩ := hn
  obtain ⟨A, c, rfl, _, hp⟩ := hv
  clear hp hq
  obtain ⟨w1, hw1⟩ : ∃ w1, w.alloc (.cells #[.int .u8 n0, .int .u8 n1, .int .u8 n2, .int .u8 n3] 24) = w1 := ⟨_, rfl⟩
  have K1 : Kept Nil w w1 := by rw [← hw1]; exact (Kept.refl Nil w).alloc _
  have I1 : Is w1 w.heap.size 24 #[.int .u8 n0, .int .u8 n1, .int .u8 n2, .int .u8 n3] := by rw [← hw1]; exact Is.new w _ _
  have p0 : w1.drew.cell? ⟨w.heap.size, 0, none⟩ = some (.int .u8 n0) := I1.cell 0
  have p1 : w1.drew.cell? ⟨w.heap.size, 1, none⟩ = some (.int .u8 n1) := I1.cell 1
  have p2 : w1.drew.cell? ⟨w.heap.size, 2, none⟩ = some (.int .u8 n2) := I1.cell 2
  have p3 : w1.drew.cell? ⟨w.heap.size, 3, none⟩ = some (.int .u8 n3) := I1.cell 3
  have HK1 := hide K1.drew
  clear K1 I1
  have hmin := fun W => run_min3 W n1 n2 n3
  have hmax := fun W => run_max3 W n1 n2 n3
  obtain ⟨m1, m2, m3, m4⟩ := mid_of n1 n2 n3
  generalize mn3 n1 n2 n3 = a at *
  generalize mx3 n1 n2 n3 = b at *
  obtain ⟨m, hm⟩ : ∃ m, n1 + n2 + n3 - a - b = m := ⟨_, rfl⟩
  rw [hm] at m1 m2
  have s0 : IntKind.i64.wrap n0 = n0 := IntWalk.i64_in _ (by omega)
  have s1 : IntKind.i64.wrap n1 = n1 := IntWalk.i64_in _ (by omega)
  have s2 : IntKind.i64.wrap n2 = n2 := IntWalk.i64_in _ (by omega)
  have s3 : IntKind.i64.wrap n3 = n3 := IntWalk.i64_in _ (by omega)
  have s4 : IntKind.i64.wrap a = a := IntWalk.i64_in _ (by omega)
  have s5 : IntKind.i64.wrap b = b := IntWalk.i64_in _ (by omega)
  have s6 : IntKind.i64.wrap (n1 + n2) = n1 + n2 := IntWalk.i64_in _ (by omega)
  have s7 : IntKind.i64.wrap (n1 + n2 + n3) = n1 + n2 + n3 := IntWalk.i64_in _ (by omega)
  have s8 : IntKind.i64.wrap (n1 + n2 + n3 - a) = n1 + n2 + n3 - a := IntWalk.i64_in _ (by omega)
  have s9 : IntKind.i64.wrap (n1 + n2 + n3 - a - b) = m := by rw [IntWalk.i64_in _ (by omega)]; exact hm
  have t1 : IntKind.i64.wrap (m - 1) = m - 1 := IntWalk.i64_in _ (by omega)
  have t2 : IntKind.i64.wrap (m + 1) = m + 1 := IntWalk.i64_in _ (by omega)
  have HLS := hide (frm_le N n0 a m l)
  have HLT := hide (frm_le N n0 m b l)
  have HLU := hide (frm_le N n0 (m - 1) (m + 1) l)
  have HAD := hide fun z => frm_add (N := N) (t := n0) (a := a) (b := m) (c := b) (l := l) z
  have HAZ := hide fun z => frm_add0 (N := N) (t := n0) (a := a) (b := m) (c := b) (l := l) m1 m2 z
  have C1 := hide fun W z => CF.out W z a m
  have C2 := hide fun W z => CF.out W z m b
  have C3 := hide fun W z => CF.out W z a b
  have C4 := hide fun W z => CF.out W z (m - 1) (m + 1)
  have HMM := hide (And.intro m1 m2)
  clear hm m1 m2 m3 m4 h1 h2 h3 h0 CF
  generalize frm N n0 a m l = px at *
  generalize frm N n0 m b l = py at *
  generalize frm N n0 a b l = pz at *
  generalize frm N n0 (m - 1) (m + 1) l = pu at *
  obtain ⟨xs, xo⟩ := px
  obtain ⟨ys, yo⟩ := py
  obtain ⟨zs, zo⟩ := pz
  obtain ⟨us, uo⟩ := pu
  unfold psv at C1 C2 C3 C4
  go_enter Try.func3, Try.ntmps3
  go_wp2_with fail
  go_region_held3 (fun W => W.cell? ⟨w.heap.size, 1, none⟩ = some (.int .u8 n1) ∧ W.cell? ⟨w.heap.size, 2, none⟩ = some (.int .u8 n2) ∧ W.cell? ⟨w.heap.size, 3, none⟩ = some (.int .u8 n3))
    (exact ⟨p1, p2, p3⟩)
    (first | fail | fail)
  all_goals
    go_wp2_with fail
    refine (C1.out _ HK1.out).mono ?_
    rintro e w2 ⟨rfl, hk2⟩
    have H2 := hide (HK1.out.trans hk2 (fun _ _ z => z))
    clear hk2 C1 HK1
    go_wp2_with fail
    refine (C2.out _ H2.out).mono ?_
    rintro e w3 ⟨rfl, hk3⟩
    have H3 := hide (H2.out.trans hk3 (fun _ _ z => z))
    clear hk3 C2 H2
    go_wp2_with fail
    refine (C3.out _ H3.out).mono ?_
    rintro e w4 ⟨rfl, hk4⟩
    obtain ⟨w5, hw5, i1, i2, i3, k5⟩ := three_new w4 ⟨xs, xo⟩ ⟨ys, yo⟩ ⟨zs, zo⟩
    have hw5 : ((w4.alloc (.cells #[.int .i64 xs, .int .i64 xo] 27)).alloc (.cells #[.int .i64 ys, .int .i64 yo] 27)).alloc (.cells #[.int .i64 zs, .int .i64 zo] 27) = w5 := hw5
    have H5 := hide (And.intro ((H3.out.trans hk4 (fun _ _ z => z)).trans k5 (fun _ _ z => z) : Kept Nil w w5) (And.intro i1 (And.intro i2 i3)))
    have HW5 := hide hw5
    clear hk4 C3 H3 i1 i2 i3 k5 hw5
    go_wp2_with fail
    rw [HW5.out]
    clear HW5
    refine (C4.out _ H5.out.1).mono ?_
    rintro e w6 ⟨rfl, hk6⟩
    obtain ⟨w7, hw7⟩ : ∃ w7, w6.alloc (.cells #[.int .i64 us, .int .i64 uo] 27) = w7 := ⟨_, rfl⟩
    have k7 : Kept Nil w5 w7 := by rw [← hw7]; exact hk6.alloc _
    have i7 : Is w7 w6.heap.size 27 #[.int .i64 us, .int .i64 uo] := by rw [← hw7]; exact Is.new w6 _ _
    have hws : w.heap.size ≤ w6.heap.size := Nat.le_trans H5.out.1.size hk6.size
    have hlt : w4.heap.size + 1 + 1 < w6.heap.size := Nat.lt_of_lt_of_le H5.out.2.2.2.lt hk6.size
    have H7 := hide (And.intro (H5.out.1.trans k7 (fun _ _ z => z) : Kept Nil w w7) (And.intro (H5.out.2.1.kept k7 (fun z => z)) (And.intro (H5.out.2.2.1.kept k7 (fun z => z)) (H5.out.2.2.2.kept k7 (fun z => z)))))
    generalize w4.heap.size = B at *
    by_cases hab : a = m ∨ m = b
    · obtain ⟨e1, e2⟩ := HAZ.out hab
      have e1 : xs + ys = zs := e1
      have e2 : xo + yo = zo := e2
      obtain ⟨w8, hw8⟩ : ∃ w8, w7.setCell ⟨w6.heap.size, 0, none⟩ (.int .i64 0) = w8 := ⟨_, rfl⟩
      obtain ⟨w9, hw9⟩ : ∃ w9, w8.setCell ⟨w6.heap.size, 1, none⟩ (.int .i64 0) = w9 := ⟨_, rfl⟩
      have i8 : Is w8 w6.heap.size 27 #[.int .i64 0, .int .i64 uo] := by rw [← hw8]; exact i7.set 0 _
      have i9 : Is w9 w6.heap.size 27 #[.int .i64 0, .int .i64 0] := by rw [← hw9]; exact i8.set 1 _
      have k9 : Kept (fun i => i = w6.heap.size) w7 w9 := by
        rw [← hw9, ← hw8]
        exact ((Kept.refl (fun i => i = w6.heap.size) w7).set (p := ⟨w6.heap.size, 0, none⟩) (fun _ => rfl) _).set (p := ⟨w6.heap.size, 1, none⟩) (fun _ => rfl) _
      obtain ⟨l1, l2, l3, l4⟩ : 0 ≤ xs ∧ xs ≤ l.length ∧ 0 ≤ xo ∧ xo ≤ l.length := HLS.out
      obtain ⟨l5, l6, l7, l8⟩ : 0 ≤ ys ∧ ys ≤ l.length ∧ 0 ≤ yo ∧ yo ≤ l.length := HLT.out
      have y1 : IntKind.i64.wrap (xs + ys) = zs := by rw [IntWalk.i64_in _ (by omega)]; exact e1
      have y2 : IntKind.i64.wrap (xo + yo) = zo := by rw [IntWalk.i64_in _ (by omega)]; exact e2
      have y3 : IntKind.i64.wrap zs = zs := IntWalk.i64_in _ (by omega)
      have y4 : IntKind.i64.wrap zo = zo := IntWalk.i64_in _ (by omega)
      have f7 : w7.cell? ⟨w6.heap.size, 0, none⟩ = some (.int .i64 us) := i7.cell 0
      have f8 := i7.free 0
      have f9 : w8.cell? ⟨w6.heap.size, 1, none⟩ = some (.int .i64 uo) := i8.cell 1
      have fa := i8.free 1
      have nb : ∀ {j : Nat} {cs}, j ≤ B + 1 + 1 → Is w7 j 27 cs → Is w9 j 27 cs := fun hj hi => hi.kept k9 (fun z => by omega)
      have j1 := nb (by omega) H7.out.2.1
      have j2 := nb (by omega) H7.out.2.2.1
      have j3 := nb (by omega) H7.out.2.2.2
      have g1 : w9.cell? ⟨B, 0, none⟩ = some (.int .i64 xs) := j1.cell 0
      have g2 : w9.cell? ⟨B, 1, none⟩ = some (.int .i64 xo) := j1.cell 1
      have g3 : w9.cell? ⟨B + 1, 0, none⟩ = some (.int .i64 ys) := j2.cell 0
      have g4 : w9.cell? ⟨B + 1, 1, none⟩ = some (.int .i64 yo) := j2.cell 1
      have g5 : w9.cell? ⟨B + 1 + 1, 0, none⟩ = some (.int .i64 zs) := j3.cell 0
      have g6 : w9.cell? ⟨B + 1 + 1, 1, none⟩ = some (.int .i64 zo) := j3.cell 1
      have g7 : w9.cell? ⟨w6.heap.size, 0, none⟩ = some (.int .i64 0) := i9.cell 0
      have g8 : w9.cell? ⟨w6.heap.size, 1, none⟩ = some (.int .i64 0) := i9.cell 1
      have CA2 := hide (CA.out w9 (H7.out.1.trans k9 (fun i hi z => by have hi : i < w.heap.size := hi; omega)))
      by_cases ham : a = m
      · have b1 : (a == m) = true := by simpa using ham
        clear e1 e2 l1 l2 l3 l4 l5 l6 l7 l8 k7 i7 i8 i9 k9 j1 j2 j3 nb hab CA HAD HAZ H5 C4 hlt hws ham
        go_wp2_with fail
        refine CA2.out.mono ?_
        rintro e wa ⟨rfl, hka⟩
        have HA := hide hka
        clear hka CA2
        go_wp2_with fail
        go_ret
        exact ⟨rfl, HA.out⟩
      · have b1 : (a == m) = false := by simpa using ham
        have b2 : (m == b) = true := by simp; omega
        clear e1 e2 l1 l2 l3 l4 l5 l6 l7 l8 k7 i7 i8 i9 k9 j1 j2 j3 nb hab CA HAD HAZ H5 C4 hlt hws ham
        go_wp2_with fail
        refine CA2.out.mono ?_
        rintro e wa ⟨rfl, hka⟩
        have HA := hide hka
        clear hka CA2
        go_wp2_with fail
        go_ret
        exact ⟨rfl, HA.out⟩
    · obtain ⟨e1, e2⟩ := HAD.out (by have := HMM.out; omega)
      have e1 : xs + ys + us = zs := e1
      have e2 : xo + yo + uo = zo := e2
      obtain ⟨l1, l2, l3, l4⟩ : 0 ≤ xs ∧ xs ≤ l.length ∧ 0 ≤ xo ∧ xo ≤ l.length := HLS.out
      obtain ⟨l5, l6, l7, l8⟩ : 0 ≤ ys ∧ ys ≤ l.length ∧ 0 ≤ yo ∧ yo ≤ l.length := HLT.out
      obtain ⟨l9, la, lb, lc⟩ : 0 ≤ us ∧ us ≤ l.length ∧ 0 ≤ uo ∧ uo ≤ l.length := HLU.out
      have y1 : IntKind.i64.wrap (xs + ys) = xs + ys := IntWalk.i64_in _ (by omega)
      have y2 : IntKind.i64.wrap (xo + yo) = xo + yo := IntWalk.i64_in _ (by omega)
      have y3 : IntKind.i64.wrap (xs + ys + us) = zs := by rw [IntWalk.i64_in _ (by omega)]; exact e1
      have y4 : IntKind.i64.wrap (xo + yo + uo) = zo := by rw [IntWalk.i64_in _ (by omega)]; exact e2
      have y5 : IntKind.i64.wrap zs = zs := IntWalk.i64_in _ (by omega)
      have y6 : IntKind.i64.wrap zo = zo := IntWalk.i64_in _ (by omega)
      have f1 : w7.cell? ⟨B, 0, none⟩ = some (.int .i64 xs) := H7.out.2.1.cell 0
      have f2 : w7.cell? ⟨B, 1, none⟩ = some (.int .i64 xo) := H7.out.2.1.cell 1
      have f3 : w7.cell? ⟨B + 1, 0, none⟩ = some (.int .i64 ys) := H7.out.2.2.1.cell 0
      have f4 : w7.cell? ⟨B + 1, 1, none⟩ = some (.int .i64 yo) := H7.out.2.2.1.cell 1
      have f5 : w7.cell? ⟨B + 1 + 1, 0, none⟩ = some (.int .i64 zs) := H7.out.2.2.2.cell 0
      have f6 : w7.cell? ⟨B + 1 + 1, 1, none⟩ = some (.int .i64 zo) := H7.out.2.2.2.cell 1
      have f7 : w7.cell? ⟨w6.heap.size, 0, none⟩ = some (.int .i64 us) := i7.cell 0
      have f8 : w7.cell? ⟨w6.heap.size, 1, none⟩ = some (.int .i64 uo) := i7.cell 1
      have b1 : (a == m) = false := by simp; omega
      have b2 : (m == b) = false := by simp; omega
      have CA2 := hide (CA.out w7 H7.out.1)
      clear e1 e2 l1 l2 l3 l4 l5 l6 l7 l8 l9 la lb lc k7 i7 hab hws CA HAD HAZ H5 C4 hlt
      go_wp2_with fail
      refine CA2.out.mono ?_
      rintro e wa ⟨rfl, hka⟩
      have HA := hide hka
      clear hka CA2
      go_wp2_with fail
      go_ret
      exact ⟨rfl, HA.out⟩
/-- Too many nodes, or events. -/
theorem badds_short (u : Value) (hu : ∃ n0 n1 n2 n3 : Int, u = .agg #[.int .u8 n0, .int .u8 n1, .int .u8 n2, .int .u8 n3]) (hn : Nums w v0 N) (hv : Evs w v l) (h : 20 < N.length ∨ 60 < l.length) : Calls Try.prog 3 #[v0, v, u] w fun x w' => x = .returned (.bool true) ∧ Kept Nil w w' := by
  obtain ⟨n0, n1, n2, n3, rfl⟩ := hu
  have HA := hide (calls_at ((Kept.refl Nil w).alloc (.cells #[.int .u8 n0, .int .u8 n1, .int .u8 n2, .int .u8 n3] 24)) (bawake_c _))
  obtain ⟨A0, c0, rfl, hq⟩ := hn
  obtain ⟨A, c, rfl, _, hp⟩ := hv
  clear hp hq
  by_cases h1 : 20 < N.length
  · have d1 : decide (20 < (N.length : Int)) = true := by simp; omega
    go_enter Try.func3, Try.ntmps3
    go_wp2_with fail
    refine HA.out.mono ?_
    rintro e w1 ⟨rfl, h⟩
    have H := hide h
    clear h
    go_wp2_with fail
    go_ret
    exact ⟨rfl, H.out⟩
  · have d1 : decide (20 < (N.length : Int)) = false := by simp; omega
    have d2 : decide (60 < (l.length : Int)) = true := by simp; omega
    go_enter Try.func3, Try.ntmps3
    go_wp2_with fail
    refine HA.out.mono ?_
    rintro e w1 ⟨rfl, h⟩
    have H := hide h
    clear h
    go_wp2_with fail
    go_ret
    exact ⟨rfl, H.out⟩
theorem badds_c {n0 n1 n2 n3 : Int} (h0 : 0 ≤ n0 ∧ n0 ≤ 255) (h1 : 0 ≤ n1 ∧ n1 ≤ 255) (h2 : 0 ≤ n2 ∧ n2 ≤ 255) (h3 : 0 ≤ n3 ∧ n3 ≤ 255) (hn : Nums w v0 N) (wn : Nwf N) (hv : Evs w v l) (hw : Ywf l) :
    Calls Try.prog 3 #[v0, v, .agg #[.int .u8 n0, .int .u8 n1, .int .u8 n2, .int .u8 n3]] w fun x w' => x = .returned (.bool true) ∧ Kept Nil w w' := by
  rcases Nat.lt_or_ge 20 N.length with h | h
  · exact badds_short _ ⟨_, _, _, _, rfl⟩ hn hv (.inl h)
  · rcases Nat.lt_or_ge 60 l.length with h4 | h4
    · exact badds_short _ ⟨_, _, _, _, rfl⟩ hn hv (.inr h4)
    · exact badds_long h0 h1 h2 h3 hn wn hv hw h h4
end
end Go.Proofs.Ytefcjlacjafnoaa
