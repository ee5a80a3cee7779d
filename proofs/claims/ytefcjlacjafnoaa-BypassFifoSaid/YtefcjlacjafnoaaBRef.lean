/- The document's From and Of; Worst. -/
import Derived.Test.YtefcjlacjafnoaaBOf
import Derived.Test.YtefcjlacjafnoaaYRefOf
namespace Go.Proofs.Ytefcjlacjafnoaa
open Go.RowKit
set_option maxRecDepth 100000

section
variable {w0 w w1 w' : World} {v0 v : Value} {N : List Int} {l : List Ev} {L : List Ps}
set_option maxHeartbeats 2000000
/-- What is known as the document's From goes round: the counts so far in a block of the call's own. -/
structure Rf (w w' : World) (r : Ps) : Prop where
  box : Is w' (w.heap.size + 1) 27 #[.int .i64 r.s, .int .i64 r.o]
  res : Is w' w.heap.size 27 #[.int .i64 0, .int .i64 0]
  kept : Kept Nil w w'
theorem Rf.set {r r' : Ps} (h : Rf w w' r) (j : Nat) (u : Int) (he : (#[.int .i64 r.s, .int .i64 r.o] : Array Value).setIfInBounds j (.int .i64 u) = #[.int .i64 r'.s, .int .i64 r'.o]) : Rf w (w'.setCell ⟨w.heap.size + 1, j, none⟩ (.int .i64 u)) r' :=
  ⟨by rw [← he]; exact h.box.set j _, h.res.other (by show w.heap.size ≠ w.heap.size + 1; omega) _, h.kept.set (p := ⟨w.heap.size + 1, j, none⟩) (fun z => by have z : w.heap.size + 1 < w.heap.size := z; omega) _⟩
theorem rf_new (r : Ps) : Rf w ((w.alloc (.cells #[.int .i64 0, .int .i64 0] 27)).alloc (.cells #[.int .i64 r.s, .int .i64 r.o] 27)) r := by
  have h := Is.new (w.alloc (.cells #[.int .i64 0, .int .i64 0] 27)) 27 #[.int .i64 r.s, .int .i64 r.o]
  rw [show (w.alloc (.cells #[.int .i64 0, .int .i64 0] 27)).heap.size = w.heap.size + 1 by simp] at h
  exact ⟨h, (Is.new w _ _).alloc _, ((Kept.refl Nil w).alloc _).alloc _⟩
theorem Rf.keep {r : Ps} {w2 : World} (h : Rf w w' r) (k : Kept Nil w' w2) : Rf w w2 r := ⟨h.box.kept k (fun z => z), h.res.kept k (fun z => z), h.kept.trans k (fun _ _ z => z)⟩
/-- What is laid down at the end. -/
theorem Rf.fin {r : Ps} (h : Rf w w' r) : ∃ w4 w5, w'.setCell ⟨w.heap.size, 0, none⟩ (.int .i64 r.s) = w4 ∧ w4.setCell ⟨w.heap.size, 1, none⟩ (.int .i64 r.o) = w5 ∧ (w'.cell? ⟨w.heap.size + 1, 0, none⟩ = some (.int .i64 r.s) ∧ w'.cell? ⟨w.heap.size + 1, 1, none⟩ = some (.int .i64 r.o)) ∧
    (w'.cell? ⟨w.heap.size, 0, none⟩ = some (.int .i64 0) ∧ w'.frozen? ⟨w.heap.size, 0, none⟩ = false ∧ w4.cell? ⟨w.heap.size, 1, none⟩ = some (.int .i64 0) ∧ w4.frozen? ⟨w.heap.size, 1, none⟩ = false) ∧ (w5.cell? ⟨w.heap.size, 0, none⟩ = some (.int .i64 r.s) ∧ w5.cell? ⟨w.heap.size, 1, none⟩ = some (.int .i64 r.o)) ∧ Kept Nil w w5 := by
  have i4 := h.res.set 0 (.int .i64 r.s)
  have i5 := i4.set 1 (.int .i64 r.o)
  exact ⟨_, _, rfl, rfl, ⟨h.box.cell 0, h.box.cell 1⟩, ⟨h.res.cell 0, h.res.free 0, i4.cell 1, i4.free 1⟩, ⟨i5.cell 0, i5.cell 1⟩, (h.kept.set (p := ⟨w.heap.size, 0, none⟩) (fun z => absurd z (Nat.lt_irrefl _)) _).set (p := ⟨w.heap.size, 1, none⟩) (fun z => absurd z (Nat.lt_irrefl _)) _⟩
/-- What the document's From counts up to a place. -/
def rfc (N : List Int) (t f g : Int) (l : List Ev) (k : Nat) : Ps := ⟨(ctb (wnp (psS N t) l f g) k : Nat), (ctb (wnp (psO N t) l f g) k : Nat)⟩
theorem rfc_no {t f g : Int} {k : Nat} (h : ¬ (f < (k : Int) ∧ (k : Int) < g) ∨ (l.getD k e0).k ≠ 2 ∨ (l.getD k e0).t = t) : rfc N t f g l (k + 1) = rfc N t f g l k := by
  have h1 : ∀ u : List Int → Int → Ev → Bool, (∀ e, u N t e = true → e.k = 2 ∧ e.t ≠ t) → ctb (wnp (u N t) l f g) (k + 1) = ctb (wnp (u N t) l f g) k := fun u hu => by
    rw [ctb_succ, if_neg]
    · rfl
    · unfold wnp
      rw [Bool.and_eq_true, decide_eq_true_eq]
      rintro ⟨h2, h3⟩
      have h4 := hu _ h3
      rcases h with h | h | h
      · exact h h2
      · exact h h4.1
      · exact h4.2 h
  unfold rfc
  rw [h1 psS (fun e z => by unfold psS at z; rw [decide_eq_true_eq] at z; exact ⟨z.1, z.2.1⟩), h1 psO (fun e z => by unfold psO at z; rw [decide_eq_true_eq] at z; exact ⟨z.1, z.2.1⟩)]
theorem rfc_S {t f g : Int} {k : Nat} (h : f < (k : Int) ∧ (k : Int) < g) (h2 : (l.getD k e0).k = 2 ∧ (l.getD k e0).t ≠ t) (hn : nd N (l.getD k e0).t = nd N t) : rfc N t f g l (k + 1) = ⟨(rfc N t f g l k).s + 1, (rfc N t f g l k).o⟩ := by
  unfold rfc
  rw [ctb_succ, ctb_succ, if_pos, if_neg]
  · rfl
  · unfold wnp psO
    rw [Bool.and_eq_true, decide_eq_true_eq, decide_eq_true_eq]
    exact fun z => z.2.2.2 hn
  · unfold wnp psS
    rw [Bool.and_eq_true, decide_eq_true_eq, decide_eq_true_eq]
    exact ⟨h, h2.1, h2.2, hn⟩
theorem rfc_O {t f g : Int} {k : Nat} (h : f < (k : Int) ∧ (k : Int) < g) (h2 : (l.getD k e0).k = 2 ∧ (l.getD k e0).t ≠ t) (hn : nd N (l.getD k e0).t ≠ nd N t) : rfc N t f g l (k + 1) = ⟨(rfc N t f g l k).s, (rfc N t f g l k).o + 1⟩ := by
  unfold rfc
  rw [ctb_succ, ctb_succ, if_neg, if_pos]
  · rfl
  · unfold wnp psO
    rw [Bool.and_eq_true, decide_eq_true_eq, decide_eq_true_eq]
    exact ⟨h, h2.1, h2.2, hn⟩
  · unfold wnp psS
    rw [Bool.and_eq_true, decide_eq_true_eq, decide_eq_true_eq]
    exact fun z => hn z.2.2.2
theorem rfc_stop {t f g : Int} {k : Nat} (hg : g ≤ (k : Int)) (hk : k ≤ l.length) : rfc N t f g l k = frm N t f g l := by
  unfold rfc frm frS frO
  rw [ctb_stop hg hk, ctb_stop hg hk]
theorem rfc_le {t f g : Int} {k : Nat} : (rfc N t f g l k).s ≤ k ∧ (rfc N t f g l k).o ≤ k ∧ 0 ≤ (rfc N t f g l k).s ∧ 0 ≤ (rfc N t f g l k).o := by
  have h1 := ctb_le (p := wnp (psS N t) l f g) (n := k)
  have h2 := ctb_le (p := wnp (psO N t) l f g) (n := k)
  unfold rfc
  dsimp only
  omega
/-- The document's From. -/
theorem rfrom_c (t f g : Int) (hn : Nums w v0 N) (hN : N.length ≤ 65536) (hv : Evs w v l) (hl : l.length ≤ 65536) :
    Calls Try.prog 14 #[v0, .int .i64 t, .int .i64 f, .int .i64 g, v] w fun e w' => e = .returned (psv (frm N t f g l)) ∧ Kept Nil w w' := by
  have CN := hide fun W (z : Kept Nil w W) t => rnode_c t (hn.kept z) hN
  obtain ⟨A0, c0, rfl, _⟩ := hn
  obtain ⟨A, c, rfl, _, hp⟩ := hv
  have HP := hide hp
  clear hp
  have H0 : Hid (Rf w ((w.alloc (.cells #[.int .i64 0, .int .i64 0] 27)).alloc (.cells #[.int .i64 0, .int .i64 0] 27)) (rfc N t f g l 0)) := hide
    (by rw [show rfc N t f g l 0 = ⟨0, 0⟩ from rfl]; exact rf_new ⟨0, 0⟩)
  go_enter Try.func14, Try.ntmps14
  go_wp2_with fail
  go_loopw [12] (fun v12 wr => ∃ k : Nat, k ≤ l.length ∧ v12 = .int .i64 k ∧ Rf w wr (rfc N t f g l k)) (fun i _ => l.length - (intOf i).toNat)
  case atStart => exact ⟨0, Nat.zero_le _, rfl, H0.out⟩
  case round =>
    obtain ⟨k, hk, rfl, hr⟩ := hrel
    have HR := hide hr
    clear hr H0
    by_cases hlt : k < l.length
    · by_cases hg : (k : Int) < g
      · have d2 : decide ((k : Int) < g) = true := decide_eq_true hg
        obtain ⟨g1, o1, rfl, hg1, hce⟩ := HP.out (by omega)
        obtain ⟨f1, f2, _, _⟩ := (hce k hlt).kept hg1 HR.out.kept
        have HX1 := hide fun z => rfc_no (N := N) (l := l) (t := t) (f := f) (g := g) (k := k) z
        have HX2 := hide fun z1 z2 z3 => rfc_S (N := N) (l := l) (t := t) (f := f) (g := g) (k := k) z1 z2 z3
        have HX3 := hide fun z1 z2 z3 => rfc_O (N := N) (l := l) (t := t) (f := f) (g := g) (k := k) z1 z2 z3
        have hle := rfc_le (N := N) (l := l) (t := t) (f := f) (g := g) (k := k)
        clear hce hg1
        generalize l.getD k e0 = ev at *
        obtain ⟨ek, et, er, ec⟩ := ev
        have f1 : wr.cell? ⟨g1, o1 + k * 4, none⟩ = some (.int .i64 ek) := f1
        have f2 : wr.cell? ⟨g1, o1 + k * 4 + 1, none⟩ = some (.int .i64 et) := f2
        by_cases hf : (k : Int) ≤ f
        · have d1 : decide ((k : Int) ≤ f) = true := decide_eq_true hf
          have HX := hide (HX1.out (.inl (by omega)))
          clear HX1 HX2 HX3 hf hg hle
          go_wp2_with fail
          go_roundw
          case rel => exact ⟨k + 1, by omega, by go_num, by rw [HX.out]; exact HR.out⟩
          case measure => simp [intOf]; omega
        · have d1 : decide ((k : Int) ≤ f) = false := decide_eq_false hf
          by_cases h2 : ek = 2
          · subst h2
            by_cases ht : et = t
            · subst ht
              have b1 : (et == et) = true := by simp
              have HX := hide (HX1.out (.inr (.inr rfl)))
              clear HX1 HX2 HX3 hf hg hle
              go_wp2_with fail
              go_roundw
              case rel => exact ⟨k + 1, by omega, by go_num, by rw [HX.out]; exact HR.out⟩
              case measure => simp [intOf]; omega
            · have b1 : (et == t) = false := by simpa using ht
              have C1 := hide (CN.out wr HR.out.kept et)
              have C2 := hide (CN.out wr HR.out.kept t)
              obtain ⟨y1, hy1⟩ : ∃ y, nd N et = y := ⟨_, rfl⟩
              obtain ⟨y2, hy2⟩ : ∃ y, nd N t = y := ⟨_, rfl⟩
              rw [hy1] at C1
              rw [hy2] at C2
              obtain ⟨rs, hrs⟩ : ∃ x, (rfc N t f g l k).s = x := ⟨_, rfl⟩
              obtain ⟨ro, hro⟩ : ∃ x, (rfc N t f g l k).o = x := ⟨_, rfl⟩
              have HB := hide HR.out.box
              rw [hrs, hro] at HB
              rw [hrs, hro] at hle
              have q0 : wr.cell? ⟨w.heap.size + 1, 0, none⟩ = some (.int .i64 rs) := HB.out.cell 0
              have q1 : wr.cell? ⟨w.heap.size + 1, 1, none⟩ = some (.int .i64 ro) := HB.out.cell 1
              have q2 := HB.out.free 0
              have q3 := HB.out.free 1
              have s1 : IntKind.i64.wrap (rs + 1) = rs + 1 := IntWalk.i64_in _ (by omega)
              have s2 : IntKind.i64.wrap (ro + 1) = ro + 1 := IntWalk.i64_in _ (by omega)
              by_cases hy : y1 = y2
              · have HX := hide (HX2.out (by omega) ⟨rfl, ht⟩ (by show nd N et = _; rw [hy1, hy2, hy]))
                rw [hrs, hro] at HX
                have HS := hide (HR.out.set (r' := ⟨rs + 1, ro⟩) 0 (rs + 1) (by rw [hro]; rfl))
                have b2 : (y1 == y2) = true := by simpa using hy
                clear HX1 HX2 HX3 hf hg hle hy hy1 hy2 hrs hro ht HB
                go_wp2_with fail
                refine C1.out.mono ?_
                rintro e w3 ⟨rfl, rfl⟩
                go_wp2_with fail
                refine C2.out.mono ?_
                rintro e w3 ⟨rfl, rfl⟩
                go_wp2_with fail
                go_roundw
                case rel => exact ⟨k + 1, by omega, by go_num, by rw [HX.out]; exact HS.out⟩
                case measure => simp [intOf]; omega
              · have HX := hide (HX3.out (by omega) ⟨rfl, ht⟩ (by show nd N et ≠ _; rw [hy1, hy2]; exact hy))
                rw [hrs, hro] at HX
                have HS := hide (HR.out.set (r' := ⟨rs, ro + 1⟩) 1 (ro + 1) (by rw [hrs]; rfl))
                have b2 : (y1 == y2) = false := by simpa using hy
                clear HX1 HX2 HX3 hf hg hle hy hy1 hy2 hrs hro ht HB
                go_wp2_with fail
                refine C1.out.mono ?_
                rintro e w3 ⟨rfl, rfl⟩
                go_wp2_with fail
                refine C2.out.mono ?_
                rintro e w3 ⟨rfl, rfl⟩
                go_wp2_with fail
                go_roundw
                case rel => exact ⟨k + 1, by omega, by go_num, by rw [HX.out]; exact HS.out⟩
                case measure => simp [intOf]; omega
          · have b1 : (ek != 2) = true := by simpa using h2
            have HX := hide (HX1.out (.inr (.inl h2)))
            clear HX1 HX2 HX3 hf hg hle h2
            go_wp2_with fail
            go_roundw
            case rel => exact ⟨k + 1, by omega, by go_num, by rw [HX.out]; exact HR.out⟩
            case measure => simp [intOf]; omega
      · have d2 : decide ((k : Int) < g) = false := decide_eq_false hg
        have HF := hide HR.out
        rw [rfc_stop (by omega) hk] at HF
        obtain ⟨w4, w5, hw4, hw5, ⟨b0, b1⟩, ⟨z1, z2, z3, z4⟩, hr5, hk5⟩ := HF.out.fin
        have H5 := hide (And.intro hr5 hk5)
        clear hr5 hk5 HF
        obtain ⟨rs, hrs⟩ : ∃ x, (frm N t f g l).s = x := ⟨_, rfl⟩
        obtain ⟨ro, hro⟩ : ∃ x, (frm N t f g l).o = x := ⟨_, rfl⟩
        rw [hrs] at hw4 b0 H5
        rw [hro] at hw5 b1 H5
        have HRS : Hid (frm N t f g l = ⟨rs, ro⟩) := hide (by rw [← hrs, ← hro])
        clear hrs hro
        go_wp2_with fail
        exact bodyPost_ret (results_pass rfl _ rfl H5.out.1.1 H5.out.1.2) rfl ⟨by rw [HRS.out]; rfl, H5.out.2⟩
    · obtain rfl : k = l.length := by omega
      have HF := hide HR.out
      rw [show rfc N t f g l l.length = frm N t f g l from rfl] at HF
      obtain ⟨w4, w5, hw4, hw5, ⟨b0, b1⟩, ⟨z1, z2, z3, z4⟩, hr5, hk5⟩ := HF.out.fin
      have H5 := hide (And.intro hr5 hk5)
      clear hr5 hk5 HF
      obtain ⟨rs, hrs⟩ : ∃ x, (frm N t f g l).s = x := ⟨_, rfl⟩
      obtain ⟨ro, hro⟩ : ∃ x, (frm N t f g l).o = x := ⟨_, rfl⟩
      rw [hrs] at hw4 b0 H5
      rw [hro] at hw5 b1 H5
      have HRS : Hid (frm N t f g l = ⟨rs, ro⟩) := hide (by rw [← hrs, ← hro])
      clear hrs hro
      go_wp2_with fail
      exact bodyPost_ret (results_pass rfl _ rfl H5.out.1.1 H5.out.1.2) rfl ⟨by rw [HRS.out]; rfl, H5.out.2⟩
/-- Worst. -/
theorem worst_c (hv : Pss w v L) (hl : L.length ≤ 65536) : Calls Try.prog 15 #[v] w fun e w' => e = .returned (psv (wst L)) ∧ Kept Nil w w' := by
  obtain ⟨A, c, rfl, _, hp⟩ := hv
  have HP := hide hp
  clear hp
  by_cases h0 : 0 < L.length
  · obtain ⟨g, o, rfl, hg, hc⟩ := HP.out h0
    have HC := hide hc
    obtain ⟨a1, a2⟩ := hc 0 h0
    have H0 : Hid (Rf w ((w.alloc (.cells #[.int .i64 0, .int .i64 0] 27)).alloc (.cells #[.int .i64 (wsk L 0).s, .int .i64 (wsk L 0).o] 27)) (wsk L 0)) := hide (rf_new _)
    have a3 : w.cell? ⟨g, o, none⟩ = some (.int .i64 (L.getD 0 p0).s) := by simpa using a1
    have a4 : w.cell? ⟨g, o + 1, none⟩ = some (.int .i64 (L.getD 0 p0).o) := by simpa using a2
    have hw0 : wsk L 0 = L.getD 0 p0 := rfl
    rw [hw0] at H0
    have HW0 := hide hw0
    clear hc HP a1 a2 hw0
    obtain ⟨x0, hx0⟩ : ∃ x, (L.getD 0 p0).s = x := ⟨_, rfl⟩
    obtain ⟨y0, hy0⟩ : ∃ x, (L.getD 0 p0).o = x := ⟨_, rfl⟩
    rw [hx0] at a3 H0
    rw [hy0] at a4 H0
    clear hx0 hy0
    have d0 : ((L.length : Int) == 0) = false := by rw [beq_eq_false_iff_ne]; omega
    go_enter Try.func15, Try.ntmps15
    go_wp2_with fail
    go_loopw [15] (fun v15 wr => ∃ k : Nat, k ≤ L.length ∧ v15 = .int .i64 k ∧ Rf w wr (wsk L k)) (fun i _ => L.length - (intOf i).toNat)
    case atStart => exact ⟨0, Nat.zero_le _, rfl, by rw [HW0.out]; exact H0.out⟩
    case round =>
      obtain ⟨k, hk, rfl, hr⟩ := hrel
      have HR := hide hr
      clear hr H0 a3 a4
      by_cases hlt : k < L.length
      · obtain ⟨q0, q1⟩ := (HC.out k hlt).kept hg HR.out.kept
        have hst : wsk L (k + 1) = wmx (wsk L k) (L.getD k p0) := rfl
        have HS := hide hst
        clear hst
        generalize L.getD k p0 = e at *
        obtain ⟨es, eo⟩ := e
        have q0 : wr.cell? ⟨g, o + k * 2, none⟩ = some (.int .i64 es) := q0
        have q1 : wr.cell? ⟨g, o + k * 2 + 1, none⟩ = some (.int .i64 eo) := q1
        obtain ⟨wb, hwb⟩ : ∃ wb, wr.alloc (.cells #[.int .i64 es, .int .i64 eo] 27) = wb := ⟨_, rfl⟩
        have kb : Kept Nil wr wb := by rw [← hwb]; exact (Kept.refl Nil wr).alloc _
        have ib : Is wb wr.heap.size 27 #[.int .i64 es, .int .i64 eo] := by rw [← hwb]; exact Is.new wr _ _
        have hrb := HR.out.keep kb
        have r0 : wb.cell? ⟨wr.heap.size, 0, none⟩ = some (.int .i64 es) := ib.cell 0
        have r1 : wb.cell? ⟨wr.heap.size, 1, none⟩ = some (.int .i64 eo) := ib.cell 1
        obtain ⟨xs, hxs⟩ : ∃ x, (wsk L k).s = x := ⟨_, rfl⟩
        obtain ⟨xo, hxo⟩ : ∃ x, (wsk L k).o = x := ⟨_, rfl⟩
        obtain ⟨ys, hys⟩ : ∃ y, (if xs < es then es else xs) = y := ⟨_, rfl⟩
        obtain ⟨yo, hyo⟩ : ∃ y, (if xo < eo then eo else xo) = y := ⟨_, rfl⟩
        have HX : Hid (wsk L (k + 1) = ⟨ys, yo⟩) := hide (by rw [HS.out]; unfold wmx; rw [hxs, hxo, hys, hyo])
        have h4 := hrb.set (r' := ⟨ys, xo⟩) 0 ys (by rw [hxo]; rfl)
        have h5 := h4.set (r' := ⟨ys, yo⟩) 1 yo rfl
        have i0 := hrb.box
        rw [hxs, hxo] at i0
        have t0 : wb.cell? ⟨w.heap.size + 1, 0, none⟩ = some (.int .i64 xs) := i0.cell 0
        have t1 : wb.cell? ⟨w.heap.size + 1, 1, none⟩ = some (.int .i64 xo) := i0.cell 1
        have t2 := i0.free 0
        obtain ⟨w4, hw4⟩ : ∃ w4, wb.setCell ⟨w.heap.size + 1, 0, none⟩ (.int .i64 ys) = w4 := ⟨_, rfl⟩
        rw [hw4] at h4 h5
        have t3 : w4.cell? ⟨w.heap.size + 1, 1, none⟩ = some (.int .i64 xo) := h4.box.cell 1
        have t4 := h4.box.free 1
        have H5 := hide h5
        clear hxs hxo h4 h5 kb ib hrb i0 HS
        go_wp2_with fail
        go_roundw
        case rel => exact ⟨k + 1, by omega, by go_num, by rw [HX.out]; exact H5.out⟩
        case measure => simp [intOf]; omega
      · obtain rfl : k = L.length := by omega
        obtain ⟨w4, w5, hw4, hw5, ⟨b0, b1⟩, ⟨z1, z2, z3, z4⟩, hr5, hk5⟩ := HR.out.fin
        have H5 := hide (And.intro hr5 hk5)
        clear hr5 hk5 HR
        obtain ⟨rs, hrs⟩ : ∃ x, (wsk L L.length).s = x := ⟨_, rfl⟩
        obtain ⟨ro, hro⟩ : ∃ x, (wsk L L.length).o = x := ⟨_, rfl⟩
        rw [hrs] at hw4 b0 H5
        rw [hro] at hw5 b1 H5
        have HRS : Hid (wst L = ⟨rs, ro⟩) := hide (by rw [← hrs, ← hro]; rfl)
        clear hrs hro
        go_wp2_with fail
        exact bodyPost_ret (results_pass rfl _ rfl H5.out.1.1 H5.out.1.2) rfl ⟨by rw [HRS.out]; rfl, H5.out.2⟩
  · have hL : L = [] := List.eq_nil_of_length_eq_zero (by omega)
    subst hL
    clear HP h0
    have H := hide (And.intro (Is.new w 27 #[.int .i64 0, .int .i64 0]) ((Kept.refl Nil w).alloc (.cells #[.int .i64 0, .int .i64 0] 27)))
    go_enter Try.func15, Try.ntmps15
    go_wp2_with fail
    exact bodyPost_ret (results_pass rfl _ rfl (H.out.1.cell 0) (H.out.1.cell 1)) rfl ⟨rfl, H.out.2⟩
end
end Go.Proofs.Ytefcjlacjafnoaa
