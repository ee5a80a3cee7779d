/- BypassSays: how many others entered between any two places, and while each stay waited. -/
import Derived.Test.YtefcjlacjafnoaaBLaws
import Derived.Deep.DeepCutAuto
namespace Go.Proofs.Ytefcjlacjafnoaa
open Go.RowKit
set_option maxRecDepth 100000

/-- Is one of the first k just so? -/
def hit (f : Nat → Bool) : Nat → Bool
  | 0 => false
  | k + 1 => hit f k || f k
theorem hit_true {f : Nat → Bool} {i k : Nat} (h : f i = true) (hi : i < k) : hit f k = true := by
  induction k with
  | zero => omega
  | succ k ih =>
    show (hit f k || f k) = true
    rcases Nat.lt_or_ge i k with h2 | h2
    · rw [ih h2, Bool.true_or]
    · obtain rfl : i = k := by omega
      rw [h, Bool.or_true]
section
variable {w w' : World} {v0 v : Value} {N : List Int} {l : List Ev}
theorem Pss.in2 {A : Option Addr} {n c k : Nat} {R : List Ps} (h : Pss w (.slice A n c) R) (hk : k < R.length) : ∃ g o, A = some ⟨g, o, none⟩ ∧ g < w.heap.size ∧ Two (fun i => w.cell? ⟨g, i, none⟩) (o + k * 2) (R.getD k p0) := by
  obtain ⟨A', c', e, _, hp⟩ := h
  injection e with e1 _ _
  subst e1
  obtain ⟨g, o, e, hg, hc⟩ := hp (by omega)
  exact ⟨g, o, e, hg, hc k hk⟩
set_option maxHeartbeats 4000000
theorem bsays_long {n0 n1 n2 : Int} (h0 : (Lit.int .i64 n0).wf = true) (hn : Nums w v0 N) (wn : Nwf N) (hv : Evs w v l) (hw : Ywf l) (hN : N.length ≤ 20) (hl : l.length ≤ 60) :
    Calls Try.prog 5 #[v0, v, .agg #[.int .i64 n0, .int .i64 n1, .int .i64 n2]] w fun x w' => x = .returned (.bool true) ∧ Kept Nil w w' := by
  obtain ⟨w1, hw1⟩ : ∃ w1, w.alloc (.cells #[.int .i64 n0, .int .i64 n1, .int .i64 n2] 39) = w1 := ⟨_, rfl⟩
  have K1 : Kept Nil w w1 := by rw [← hw1]; exact (Kept.refl Nil w).alloc _
  have I1 : Is w1 w.heap.size 39 #[.int .i64 n0, .int .i64 n1, .int .i64 n2] := by rw [← hw1]; exact Is.new w _ _
  have C1 := hide (pfd_at (Kept.refl Nil w1) (bof_c (hn.kept K1) wn (hv.kept K1) hw (by omega)))
  have CR := hide fun W (z : Kept Nil w1 W) => rbof_c (hn.kept (K1.trans z (fun _ _ y => y))) (by omega) (hv.kept (K1.trans z (fun _ _ y => y))) (by omega)
  have CF := hide fun W (z : Kept Nil w1 W) => from_c n0 n1 n2 (hn.kept (K1.trans z (fun _ _ y => y))) wn (hv.kept (K1.trans z (fun _ _ y => y))) hw h0 (by omega)
  have CG := hide fun W (z : Kept Nil w1 W) => rfrom_c n0 n1 n2 (hn.kept (K1.trans z (fun _ _ y => y))) (by omega) (hv.kept (K1.trans z (fun _ _ y => y))) (by omega)
  have CA := hide fun W (z : Kept Nil w1 W) => calls_at z (bawake_c W)
  have d1 : decide (20 < (N.length : Int)) = false := by simp; omega
  have d2 : decide (60 < (l.length : Int)) = false := by simp; omega
  have HLL : (pof N l).length ≤ 60 := by rw [pof_len]; exact Nat.le_trans yof_len hl
  generalize pof N l = L at *
  generalize frm N n0 n1 n2 l = r at *
  obtain ⟨rs, ro⟩ := r
  unfold psv at CF CG
  have heq := fun W => eq_pass W rs ro
  have hgd := fun x y W => eq_pass_guard rs ro x y W
  obtain ⟨A0, c0, rfl, hq⟩ := hn
  obtain ⟨A, c, rfl, _, hp⟩ := hv
  clear hp hq h0 wn hw
  have HK1 := hide (And.intro K1 I1)
  clear K1 I1
  go_enter Try.func5, Try.ntmps5
  go_wp2_with fail
  refine C1.out.mono ?_
  rintro e w2 ⟨A2, c2, rfl, hp2, hk2⟩
  have CR2 := hide fun W (z : Kept Nil w2 W) => pfd_at z (CR.out W (hk2.trans z (fun _ _ y => y)))
  have CF2 := hide fun W (z : Kept Nil w2 W) => calls_at z (CF.out W (hk2.trans z (fun _ _ y => y)))
  have CG2 := hide fun W (z : Kept Nil w2 W) => calls_at z (CG.out W (hk2.trans z (fun _ _ y => y)))
  have CS2 := hide fun W A c (z : Kept Nil w2 W) (h : Pss W (.slice A L.length c) L) => calls_drew z (same_pss (hp2.kept z) h (by omega))
  have CELLS := hide fun W (z : Kept Nil w2 W) => show W.cell? ⟨w.heap.size, 0, none⟩ = some (.int .i64 n0) ∧ W.cell? ⟨w.heap.size, 1, none⟩ = some (.int .i64 n1) ∧ W.cell? ⟨w.heap.size, 2, none⟩ = some (.int .i64 n2) from
    have h := HK1.out.2.kept (hk2.trans z (fun _ _ y => y)) (fun y => y)
    ⟨h.cell 0, h.cell 1, h.cell 2⟩
  have H2 := hide (And.intro hp2 hk2)
  have hK0 : Kept Nil w2 w2 := Kept.refl _ _
  clear hp2 hk2 CR CF CG C1 hw1
  go_upto_region 4 with fail
  go_cut [50] (fun s50 wx => s50 = .bool false ∧ Kept Nil w2 wx)
  case first =>
    go_region_held3 (fun W => W.cell? ⟨w.heap.size, 0, none⟩ = some (.int .i64 n0) ∧ W.cell? ⟨w.heap.size, 1, none⟩ = some (.int .i64 n1) ∧ W.cell? ⟨w.heap.size, 2, none⟩ = some (.int .i64 n2))
      (first | exact CELLS.out _ (by assumption) | exact CELLS.out _ (Kept.drew (by assumption)))
      (first
        | (go_at_call 13; refine (CR2.out _ (Kept.drew (by assumption))).mono ?_; rintro e w3 ⟨A3, c3, rfl, hp3, hk3⟩)
        | (go_at_call 12; refine (CS2.out _ _ _ (by assumption) (by assumption)).mono ?_; rintro e w4 ⟨rfl, hk4⟩)
        | (go_at_call 7; refine (CF2.out _ (by assumption)).mono ?_; rintro e w5 ⟨rfl, hk5⟩)
        | (go_at_call 14; refine (CG2.out _ (by assumption)).mono ?_; rintro e w6 ⟨rfl, hk6⟩))
    all_goals
      go_wp2_with fail
      go_meet
      exact ⟨rfl, by assumption⟩
  case rest =>
    obtain ⟨rfl, hkc⟩ := hcut
    have H3 := hide (And.intro (H2.out.1.kept hkc) (H2.out.2.trans hkc (fun _ _ y => y)))
    clear hkc CR2 CF2 CG2 CS2 CELLS hK0 H2 heq hgd
    have CW := hide (worst_c H3.out.1 (by omega))
    have HGE := hide fun i (z : i < L.length) => wsk_ge (L := L) (k := L.length) z
    have HS := hide fun (z : 0 < L.length) => wsk_hitS (L := L) z (Nat.le_refl L.length)
    have HO := hide fun (z : 0 < L.length) => wsk_hitO (L := L) z (Nat.le_refl L.length)
    have hw0 : L = [] → wsk L L.length = ⟨0, 0⟩ := fun z => by rw [z]; rfl
    have HW0 := hide hw0
    clear hw0
    change Hid (Calls _ _ _ _ fun e w' => e = .returned (psv (wsk L L.length)) ∧ _) at CW
    generalize wsk L L.length = p at *
    obtain ⟨ws, wo⟩ := p
    unfold psv at CW
    go_wp2_with fail
    refine CW.out.mono ?_
    rintro e w5 ⟨rfl, hk5⟩
    obtain ⟨b8, hb8⟩ : ∃ b, w5.heap.size = b := ⟨_, rfl⟩
    obtain ⟨w6, hw6⟩ : ∃ w6, w5.alloc (.cells #[.int .i64 ws, .int .i64 wo] 27) = w6 := ⟨_, rfl⟩
    have k6 : Kept Nil wc w6 := by rw [← hw6]; exact hk5.alloc _
    have i6 : Is w6 b8 27 #[.int .i64 ws, .int .i64 wo] := by rw [← hw6, ← hb8]; exact Is.new w5 _ _
    have H6 := hide (And.intro (H3.out.1.kept k6) (And.intro (H3.out.2.trans k6 (fun _ _ y => y)) i6))
    clear hk5 k6 i6 H3 CW
    obtain ⟨fs, hfs⟩ : ∃ f : Nat → Bool, (fun i => ((L.getD i p0).s == ws)) = f := ⟨_, rfl⟩
    obtain ⟨fo, hfo⟩ : ∃ f : Nat → Bool, (fun i => ((L.getD i p0).o == wo)) = f := ⟨_, rfl⟩
    have HFS := hide fun i => show fs i = ((L.getD i p0).s == ws) by rw [← hfs]
    have HFO := hide fun i => show fo i = ((L.getD i p0).o == wo) by rw [← hfo]
    have HTS : Hid (0 < L.length → hit fs L.length = true) := hide fun z => by
      obtain ⟨i, hi, h⟩ := HS.out z
      exact hit_true (by rw [HFS.out, h]; simp) hi
    have HTO : Hid (0 < L.length → hit fo L.length = true) := hide fun z => by
      obtain ⟨i, hi, h⟩ := HO.out z
      exact hit_true (by rw [HFO.out, h]; simp) hi
    clear hfs hfo HS HO
    go_wp2_with fail
    go_loopw [9, 10, 11] (fun v9 v10 v11 wr => ∃ k : Nat, k ≤ L.length ∧ v11 = .int .i64 k ∧ v9 = .bool (hit fs k) ∧ v10 = .bool (hit fo k) ∧ Kept Nil w6 wr) (fun _ _ i _ => L.length - (intOf i).toNat)
    case atStart => exact ⟨0, Nat.zero_le _, rfl, rfl, rfl, Kept.refl _ _⟩
    case round =>
      obtain ⟨k, hk, rfl, rfl, rfl, hkr⟩ := hrel
      have HK := hide hkr
      have i8 := H6.out.2.2.kept hkr (fun y => y)
      have f1 : wr.cell? ⟨b8, 0, none⟩ = some (.int .i64 ws) := i8.cell 0
      have f2 : wr.cell? ⟨b8, 1, none⟩ = some (.int .i64 wo) := i8.cell 1
      clear hkr i8
      by_cases hlt : k < L.length
      · obtain ⟨g, o, rfl, _, ⟨t1, t2⟩⟩ := (H6.out.1.kept HK.out).in2 hlt
        have HX1 := hide (show hit fs (k + 1) = (hit fs k || fs k) from rfl)
        have HX2 := hide (show hit fo (k + 1) = (hit fo k || fo k) from rfl)
        rw [HFS.out] at HX1
        rw [HFO.out] at HX2
        obtain ⟨e1, e2⟩ := HGE.out k hlt
        generalize L.getD k p0 = e at *
        obtain ⟨es, eo⟩ := e
        have t1 : wr.cell? ⟨g, o + k * 2, none⟩ = some (.int .i64 es) := t1
        have t2 : wr.cell? ⟨g, o + k * 2 + 1, none⟩ = some (.int .i64 eo) := t2
        have q1 : decide (ws < es) = false := by rw [decide_eq_false_iff_not]; have e1 : es ≤ ws := e1; omega
        have q2 : decide (wo < eo) = false := by rw [decide_eq_false_iff_not]; have e2 : eo ≤ wo := e2; omega
        have HX1 : Hid (hit fs (k + 1) = (hit fs k || (es == ws))) := HX1
        have HX2 : Hid (hit fo (k + 1) = (hit fo k || (eo == wo))) := HX2
        obtain ⟨x1, hx1⟩ : ∃ x, (es == ws) = x := ⟨_, rfl⟩
        obtain ⟨x2, hx2⟩ : ∃ x, (eo == wo) = x := ⟨_, rfl⟩
        rw [hx1] at HX1
        rw [hx2] at HX2
        clear e1 e2
        cases hb1 : hit fs k with
        | true =>
          rw [hb1] at HX1
          cases hb2 : hit fo k with
          | true =>
            rw [hb2] at HX2
            have HB1 : Hid (hit fs (k + 1) = true) := hide (by rw [HX1.out]; rfl)
            have HB2 : Hid (hit fo (k + 1) = true) := hide (by rw [HX2.out]; rfl)
            clear HX1 HX2
            go_wp2_with fail
            go_quiet (fail)
            go_wp2_with fail
            go_quiet (fail)
            go_wp2_with fail
            go_quiet (fail)
            go_wp2_with fail
            go_roundw
            case rel => exact ⟨k + 1, by omega, by go_num, by rw [HB1.out], by rw [HB2.out], by first | exact HK.out.drewN _ | exact (HK.out.drewN _).drewN _ | exact ((HK.out.drewN _).drewN _).drewN _⟩
            case measure => simp [intOf]; omega
          | false =>
            rw [hb2] at HX2
            have HB1 : Hid (hit fs (k + 1) = true) := hide (by rw [HX1.out]; rfl)
            have HB2 : Hid (hit fo (k + 1) = x2) := hide (by rw [HX2.out]; rfl)
            clear HX1 HX2
            go_wp2_with fail
            go_quiet (fail)
            go_wp2_with fail
            go_quiet (fail)
            go_wp2_with fail
            go_quiet (fail)
            go_wp2_with fail
            go_roundw
            case rel => exact ⟨k + 1, by omega, by go_num, by rw [HB1.out], by rw [HB2.out], by first | exact HK.out.drewN _ | exact (HK.out.drewN _).drewN _ | exact ((HK.out.drewN _).drewN _).drewN _⟩
            case measure => simp [intOf]; omega
        | false =>
          rw [hb1] at HX1
          cases hb2 : hit fo k with
          | true =>
            rw [hb2] at HX2
            have HB1 : Hid (hit fs (k + 1) = x1) := hide (by rw [HX1.out]; rfl)
            have HB2 : Hid (hit fo (k + 1) = true) := hide (by rw [HX2.out]; rfl)
            clear HX1 HX2
            go_wp2_with fail
            go_quiet (fail)
            go_wp2_with fail
            go_quiet (fail)
            go_wp2_with fail
            go_quiet (fail)
            go_wp2_with fail
            go_roundw
            case rel => exact ⟨k + 1, by omega, by go_num, by rw [HB1.out], by rw [HB2.out], by first | exact HK.out.drewN _ | exact (HK.out.drewN _).drewN _ | exact ((HK.out.drewN _).drewN _).drewN _⟩
            case measure => simp [intOf]; omega
          | false =>
            rw [hb2] at HX2
            have HB1 : Hid (hit fs (k + 1) = x1) := hide (by rw [HX1.out]; rfl)
            have HB2 : Hid (hit fo (k + 1) = x2) := hide (by rw [HX2.out]; rfl)
            clear HX1 HX2
            go_wp2_with fail
            go_quiet (fail)
            go_wp2_with fail
            go_quiet (fail)
            go_wp2_with fail
            go_quiet (fail)
            go_wp2_with fail
            go_roundw
            case rel => exact ⟨k + 1, by omega, by go_num, by rw [HB1.out], by rw [HB2.out], by first | exact HK.out.drewN _ | exact (HK.out.drewN _).drewN _ | exact ((HK.out.drewN _).drewN _).drewN _⟩
            case measure => simp [intOf]; omega
      · obtain rfl : k = L.length := by omega
        have HEND := hide (H6.out.2.1.trans HK.out (fun _ _ y => y))
        by_cases h0 : 0 < L.length
        · have g1 := HTS.out h0
          have g2 := HTO.out h0
          rw [g1, g2]
          have d9 : ((L.length : Int) == 0) = false := by rw [beq_eq_false_iff_ne]; omega
          clear g1 g2 HTS HTO HGE HFS HFO
          have CA2 := hide (CA.out wr HEND.out)
          clear HEND CA HK
          go_wp2_with fail
          refine CA2.out.mono ?_
          rintro e wa ⟨rfl, hka⟩
          have HA := hide (HK1.out.1.trans hka (fun _ _ y => y))
          clear hka CA2
          go_wp2_with fail
          go_ret
          exact ⟨rfl, HA.out⟩
        · have hL : L = [] := List.eq_nil_of_length_eq_zero (by omega)
          obtain ⟨rfl, rfl⟩ : ws = 0 ∧ wo = 0 := by
            have := HW0.out hL
            injection this with a b
            exact ⟨a, b⟩
          subst hL
          have heq := fun W => eq_pass W 0 0
          have hgd := fun x y W => eq_pass_guard 0 0 x y W
          rw [show hit fs ([] : List Ps).length = false from rfl, show hit fo ([] : List Ps).length = false from rfl]
          clear HTS HTO HGE HFS HFO h0
          have CA2 := hide (CA.out wr HEND.out)
          clear HEND CA HK
          go_wp2_with fail
          refine CA2.out.mono ?_
          rintro e wa ⟨rfl, hka⟩
          have HA := hide (HK1.out.1.trans hka (fun _ _ y => y))
          clear hka CA2
          go_wp2_with fail
          go_ret
          exact ⟨rfl, HA.out⟩
/-- Too many nodes, or events. -/
theorem bsays_short (u : Value) (hu : ∃ n0 n1 n2 : Int, u = .agg #[.int .i64 n0, .int .i64 n1, .int .i64 n2]) (hn : Nums w v0 N) (hv : Evs w v l) (h : 20 < N.length ∨ 60 < l.length) : Calls Try.prog 5 #[v0, v, u] w fun x w' => x = .returned (.bool true) ∧ Kept Nil w w' := by
  obtain ⟨n0, n1, n2, rfl⟩ := hu
  have HA := hide (calls_at ((Kept.refl Nil w).alloc (.cells #[.int .i64 n0, .int .i64 n1, .int .i64 n2] 39)) (bawake_c _))
  obtain ⟨A0, c0, rfl, hq⟩ := hn
  obtain ⟨A, c, rfl, _, hp⟩ := hv
  clear hp hq
  by_cases h1 : 20 < N.length
  · have d1 : decide (20 < (N.length : Int)) = true := by simp; omega
    go_enter Try.func5, Try.ntmps5
    go_wp2_with fail
    refine HA.out.mono ?_
    rintro e w1 ⟨rfl, h⟩
    have H := hide h
    clear h
    go_wp2_with fail
    go_ret
    exact ⟨rfl, H.out⟩
  · have d1 : decide (20 < (N.length : Int)) = false := by simp; omega
    have d2 : decide (60 < (l.length : Int)) = true := by simp; omega
    go_enter Try.func5, Try.ntmps5
    go_wp2_with fail
    refine HA.out.mono ?_
    rintro e w1 ⟨rfl, h⟩
    have H := hide h
    clear h
    go_wp2_with fail
    go_ret
    exact ⟨rfl, H.out⟩
theorem bsays_c {n0 n1 n2 : Int} (h0 : (Lit.int .i64 n0).wf = true) (hn : Nums w v0 N) (wn : Nwf N) (hv : Evs w v l) (hw : Ywf l) :
    Calls Try.prog 5 #[v0, v, .agg #[.int .i64 n0, .int .i64 n1, .int .i64 n2]] w fun x w' => x = .returned (.bool true) ∧ Kept Nil w w' := by
  rcases Nat.lt_or_ge 20 N.length with h | h
  · exact bsays_short _ ⟨_, _, _, rfl⟩ hn hv (.inl h)
  · rcases Nat.lt_or_ge 60 l.length with h4 | h4
    · exact bsays_short _ ⟨_, _, _, rfl⟩ hn hv (.inr h4)
    · exact bsays_long h0 hn wn hv hw h h4
end
end Go.Proofs.Ytefcjlacjafnoaa
