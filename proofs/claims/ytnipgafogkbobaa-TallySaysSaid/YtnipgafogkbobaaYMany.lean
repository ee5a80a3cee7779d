/- Many: a loop in a loop, which counts in an array of its own. -/
import Derived.Test.YtnipgafogkbobaaYTold
namespace Go.Proofs.Ytnipgafogkbobaa
open Go.RowKit
set_option maxRecDepth 100000

section
variable {w0 w w1 w' : World} {p c : Nat} {A : Option Addr} {S : List Sy} {v : Value} {l : List Ev}
theorem results_four {fn : Func} {p : Tmp} {w : World} {b : Nat} {v0 v1 v2 v3 : Value} (h : fn.results = #[.cell p 28]) (tmps : Array Value) (hp : tmps.getD p undef = .pointer (some ⟨b, 0, none⟩))
    (h0 : w.cell? ⟨b, 0, none⟩ = some v0) (h1 : w.cell? ⟨b, 1, none⟩ = some v1) (h2 : w.cell? ⟨b, 2, none⟩ = some v2) (h3 : w.cell? ⟨b, 3, none⟩ = some v3) : (results fn tmps).run Try.prog w = .ok (.agg #[v0, v1, v2, v3]) w := by
  have e : (results fn tmps).run Try.prog w = ((asAddr (tmps.getD p undef)).run Try.prog w).andThen fun a w₁ => (loadVar 28 a).run Try.prog w₁ := by
    simp only [results, h]
    simp [Sem.run_bind, Result.andThen]
  rw [e, hp]
  go_simp
theorem four_0 (w : World) (a e x z : Int) : (Instr.index 28 (.agg #[.int .i64 a, .int .i64 e, .int .i64 x, .int .i64 z]) (.int .i64 0)).run Try.prog w = .ok (.int .i64 a) w := by kernel_rfl
theorem four_1 (w : World) (a e x z : Int) : (Instr.index 28 (.agg #[.int .i64 a, .int .i64 e, .int .i64 x, .int .i64 z]) (.int .i64 1)).run Try.prog w = .ok (.int .i64 e) w := by kernel_rfl
theorem four_2 (w : World) (a e x z : Int) : (Instr.index 28 (.agg #[.int .i64 a, .int .i64 e, .int .i64 x, .int .i64 z]) (.int .i64 2)).run Try.prog w = .ok (.int .i64 x) w := by kernel_rfl
theorem four_3 (w : World) (a e x z : Int) : (Instr.index 28 (.agg #[.int .i64 a, .int .i64 e, .int .i64 x, .int .i64 z]) (.int .i64 3)).run Try.prog w = .ok (.int .i64 z) w := by kernel_rfl
theorem Seven.far {T : Nat → Prop} {g o : Nat} {s : Sy} (h : Seven (fun i => w.cell? ⟨g, i, none⟩) o s) (k : Kept T w w') (hg : g < w.heap.size) (ht : ¬ T g) : Seven (fun i => w'.cell? ⟨g, i, none⟩) o s := by
  have hc : ∀ i, w'.cell? ⟨g, i, none⟩ = w.cell? ⟨g, i, none⟩ := fun i => k.cell (p := ⟨g, i, none⟩) hg ht
  obtain ⟨h1, h2, h3, h4, h5, h6, h7⟩ := h
  exact ⟨(hc _).trans h1, (hc _).trans h2, (hc _).trans h3, (hc _).trans h4, (hc _).trans h5, (hc _).trans h6, (hc _).trans h7⟩
/-- The four counts. -/
def fcs (a e x z : Nat) : Array Value := #[.int .i64 a, .int .i64 e, .int .i64 x, .int .i64 z]
/-- What Many answers. -/
def many4 (S : List Sy) : Value := .agg (fcs (ymn Sy.a S) (ymn Sy.e S) (ymn Sy.x S) (ymn Sy.z S))
/-- One more, or not. -/
def on1 (x : Int) : Nat := if x = -1 then 0 else 1
/-- The counts within a round. -/
def fmid (a e x z : Nat) (s : Sy) : Nat → Array Value
  | 0 => fcs a e x z
  | 1 => fcs (a + on1 s.a) e x z
  | 2 => fcs (a + on1 s.a) (e + on1 s.e) x z
  | 3 => fcs (a + on1 s.a) (e + on1 s.e) (x + on1 s.x) z
  | _ => fcs (a + on1 s.a) (e + on1 s.e) (x + on1 s.x) (z + on1 s.z)
set_option maxHeartbeats 1000000
theorem many_c (hv : Evs w v l) (hw : Ywf l) (hl : l.length ≤ 65536) : Calls Try.prog 8 #[v] w fun e w' => e = .returned (many4 (yof l)) ∧ Kept Nil w w' := by
  have K1 := (Kept.refl Nil w).alloc (.cells #[.int .i64 0, .int .i64 0, .int .i64 0, .int .i64 0] 28)
  have K2 := K1.alloc (.cells #[.int .i64 0, .int .i64 0, .int .i64 0, .int .i64 0] 28)
  have I1 := (Is.new w 28 #[.int .i64 0, .int .i64 0, .int .i64 0, .int .i64 0]).alloc (.cells #[.int .i64 0, .int .i64 0, .int .i64 0, .int .i64 0] 28)
  have I2 : Is ((w.alloc (.cells #[.int .i64 0, .int .i64 0, .int .i64 0, .int .i64 0] 28)).alloc (.cells #[.int .i64 0, .int .i64 0, .int .i64 0, .int .i64 0] 28)) (w.heap.size + 1) 28 #[.int .i64 0, .int .i64 0, .int .i64 0, .int .i64 0] := by
    have := Is.new (w.alloc (.cells #[.int .i64 0, .int .i64 0, .int .i64 0, .int .i64 0] 28)) 28 #[.int .i64 0, .int .i64 0, .int .i64 0, .int .i64 0]
    simpa using this
  have CO := hide (of_c (hv.kept K2) hw hl)
  have H0 := hide (And.intro K2 (And.intro I1 I2))
  have hSl : (yof l).length ≤ 65536 := Nat.le_trans yof_len hl
  clear K1 K2 I1 I2
  generalize yof l = S at *
  obtain ⟨A, c, rfl, _, hp⟩ := hv
  clear hp
  go_enter Try.func8, Try.ntmps8
  go_wp2_with fail
  refine CO.out.mono ?_
  rintro e w1 ⟨A2, c2, rfl, hg⟩
  have i1 := H0.out.2.1.kept hg.kept (fun z => z)
  have i2 := H0.out.2.2.kept hg.kept (fun z => z)
  have HG := hide (And.intro hg (And.intro i1 (And.intro i2 (H0.out.1.trans hg.kept (fun _ _ z => z)))))
  clear hg CO H0 i1 i2
  generalize hb : w.heap.size = b at *
  go_wp2_with fail
  go_loopw [11] (fun v11 wr => ∃ k : Nat, k ≤ S.length ∧ v11 = .int .i64 k ∧ Is wr (b + 1) 28 (fcs (ymn Sy.a (S.take k)) (ymn Sy.e (S.take k)) (ymn Sy.x (S.take k)) (ymn Sy.z (S.take k))) ∧ Kept (fun i => i = b + 1) w1 wr) (fun i _ => S.length - (intOf i).toNat)
  case atStart => exact ⟨0, Nat.zero_le _, rfl, HG.out.2.2.1, Kept.refl _ _⟩
  case round =>
    obtain ⟨k, hk, rfl, hi, hkr⟩ := hrel
    by_cases hlt : k < S.length
    · obtain ⟨g, rfl, hgl, _, hlc, h7, _⟩ := HG.out.1.at7 hlt
      have hgb : ¬ g = b + 1 := fun e => by
        obtain ⟨cur, hc⟩ := HG.out.1.block (g := g) rfl
        exact hc.ne HG.out.2.2.1 (by decide) e
      have HKR := hide hkr
      have h7 := h7.far hkr hgl hgb
      have qb := ymn_le (p := Sy.a) (S := S.take k)
      have qb2 := ymn_le (p := Sy.e) (S := S.take k)
      have qb3 := ymn_le (p := Sy.x) (S := S.take k)
      have qb4 := ymn_le (p := Sy.z) (S := S.take k)
      have hlen : (S.take k).length = k := by rw [List.length_take]; omega
      rw [hlen] at qb qb2 qb3 qb4
      have HQ := hide (And.intro (ymn_take (p := Sy.a) hlt) (And.intro (ymn_take (p := Sy.e) hlt) (And.intro (ymn_take (p := Sy.x) hlt) (ymn_take (p := Sy.z) hlt))))
      clear hkr hlen
      generalize ymn Sy.a (S.take k) = qa at *
      generalize ymn Sy.e (S.take k) = qe at *
      generalize ymn Sy.x (S.take k) = qx at *
      generalize ymn Sy.z (S.take k) = qz at *
      generalize S.getD k s0 = s at *
      obtain ⟨t, r, sa, se, sx, sz, sc⟩ := s
      obtain ⟨c0, c1, c2', c3, c4, c5, c6⟩ := h7
      have c0 : wr.cell? ⟨g, k * 7, none⟩ = some (.int .i64 t) := c0
      have c1 : wr.cell? ⟨g, k * 7 + 1, none⟩ = some (.bool r) := c1
      have c2' : wr.cell? ⟨g, k * 7 + 2, none⟩ = some (.int .i64 sa) := c2'
      have c3 : wr.cell? ⟨g, k * 7 + 3, none⟩ = some (.int .i64 se) := c3
      have c4 : wr.cell? ⟨g, k * 7 + 4, none⟩ = some (.int .i64 sx) := c4
      have c5 : wr.cell? ⟨g, k * 7 + 5, none⟩ = some (.int .i64 sz) := c5
      have c6 : wr.cell? ⟨g, k * 7 + 6, none⟩ = some (.int .i64 sc) := c6
      have HI : Hid (Is (wr.alloc (.cells #[.int .i64 t, .bool r, .int .i64 sa, .int .i64 se, .int .i64 sx, .int .i64 sz, .int .i64 sc] 36)) (b + 1) 28 (fcs qa qe qx qz) ∧ Kept (fun i => i = b + 1) w1 (wr.alloc (.cells #[.int .i64 t, .bool r, .int .i64 sa, .int .i64 se, .int .i64 sx, .int .i64 sz, .int .i64 sc] 36))) := hide ⟨hi.alloc _, HKR.out.alloc _⟩
      clear hi HKR
      go_wp2_with fail
      go_loopw [24] (fun v24 wi => ∃ j : Nat, j ≤ 4 ∧ v24 = .int .i64 j ∧ Is wi (b + 1) 28 (fmid qa qe qx qz ⟨t, r, sa, se, sx, sz, sc⟩ j) ∧ Kept (fun i => i = b + 1) w1 wi) (fun i _ => 4 - (intOf i).toNat)
      case atStart => exact ⟨0, by omega, rfl, HI.out.1, HI.out.2⟩
      case round =>
        obtain ⟨j, hj, rfl, hi, hki⟩ := hrel
        have HI2 := hide (And.intro hi hki)
        clear HI c0 c1 c2' c3 c4 c5 c6
        rcases (show j = 0 ∨ j = 1 ∨ j = 2 ∨ j = 3 ∨ j = 4 by omega) with rfl | rfl | rfl | rfl | rfl
        · have h0 := four_0 wr sa se sx sz
          by_cases hx : sa = -1
          · have b1 : (sa != -1) = false := by simpa using hx
            have HN : Hid (Is wr (b + 1) 28 (fmid qa qe qx qz ⟨t, r, sa, se, sx, sz, sc⟩ 1)) := hide (by
              have h : on1 sa = 0 := if_pos hx
              show Is wr (b + 1) _ (fcs (qa + on1 sa) qe qx qz)
              rw [h, Nat.add_zero]
              exact hi)
            clear hx hi hki
            go_wp2_with fail
            go_roundw
            case rel => exact ⟨1, by omega, by go_num, HN.out, HI2.out.2⟩
            case measure => simp [intOf]
          · have b1 : (sa != -1) = true := by simpa using hx
            have q0 : wr.cell? ⟨b + 1, 0, none⟩ = some (.int .i64 (qa : Nat)) := hi.cell 0
            have q1 := hi.free 0
            have HN : Hid (Is (wr.setCell ⟨b + 1, 0, none⟩ (.int .i64 ((qa : Int) + 1))) (b + 1) 28 (fmid qa qe qx qz ⟨t, r, sa, se, sx, sz, sc⟩ 1) ∧ Kept (fun i => i = b + 1) w1 (wr.setCell ⟨b + 1, 0, none⟩ (.int .i64 ((qa : Int) + 1)))) := hide ⟨by
              have h : on1 sa = 1 := if_neg hx
              show Is (wr.setCell _ _) (b + 1) _ (fcs (qa + on1 sa) qe qx qz)
              rw [h]
              exact hi.set 0 _, hki.set (p := ⟨b + 1, 0, none⟩) (fun _ => rfl) _⟩
            clear hx hi hki
            go_wp2_with fail
            go_roundw
            case rel => exact ⟨1, by omega, by go_num, HN.out.1, HN.out.2⟩
            case measure => simp [intOf]
        · have h1 := four_1 wr sa se sx sz
          by_cases hx : se = -1
          · have b1 : (se != -1) = false := by simpa using hx
            have HN : Hid (Is wr (b + 1) 28 (fmid qa qe qx qz ⟨t, r, sa, se, sx, sz, sc⟩ 2)) := hide (by
              have h : on1 se = 0 := if_pos hx
              show Is wr (b + 1) _ (fcs (qa + on1 sa) (qe + on1 se) qx qz)
              rw [h, Nat.add_zero]
              exact hi)
            clear hx hi hki
            go_wp2_with fail
            go_roundw
            case rel => exact ⟨2, by omega, by go_num, HN.out, HI2.out.2⟩
            case measure => simp [intOf]
          · have b1 : (se != -1) = true := by simpa using hx
            have q0 : wr.cell? ⟨b + 1, 1, none⟩ = some (.int .i64 (qe : Nat)) := hi.cell 1
            have q1 := hi.free 1
            have HN : Hid (Is (wr.setCell ⟨b + 1, 1, none⟩ (.int .i64 ((qe : Int) + 1))) (b + 1) 28 (fmid qa qe qx qz ⟨t, r, sa, se, sx, sz, sc⟩ 2) ∧ Kept (fun i => i = b + 1) w1 (wr.setCell ⟨b + 1, 1, none⟩ (.int .i64 ((qe : Int) + 1)))) := hide ⟨by
              have h : on1 se = 1 := if_neg hx
              show Is (wr.setCell _ _) (b + 1) _ (fcs (qa + on1 sa) (qe + on1 se) qx qz)
              rw [h]
              exact hi.set 1 _, hki.set (p := ⟨b + 1, 1, none⟩) (fun _ => rfl) _⟩
            clear hx hi hki
            go_wp2_with fail
            go_roundw
            case rel => exact ⟨2, by omega, by go_num, HN.out.1, HN.out.2⟩
            case measure => simp [intOf]
        · have h2 := four_2 wr sa se sx sz
          by_cases hx : sx = -1
          · have b1 : (sx != -1) = false := by simpa using hx
            have HN : Hid (Is wr (b + 1) 28 (fmid qa qe qx qz ⟨t, r, sa, se, sx, sz, sc⟩ 3)) := hide (by
              have h : on1 sx = 0 := if_pos hx
              show Is wr (b + 1) _ (fcs (qa + on1 sa) (qe + on1 se) (qx + on1 sx) qz)
              rw [h, Nat.add_zero]
              exact hi)
            clear hx hi hki
            go_wp2_with fail
            go_roundw
            case rel => exact ⟨3, by omega, by go_num, HN.out, HI2.out.2⟩
            case measure => simp [intOf]
          · have b1 : (sx != -1) = true := by simpa using hx
            have q0 : wr.cell? ⟨b + 1, 2, none⟩ = some (.int .i64 (qx : Nat)) := hi.cell 2
            have q1 := hi.free 2
            have HN : Hid (Is (wr.setCell ⟨b + 1, 2, none⟩ (.int .i64 ((qx : Int) + 1))) (b + 1) 28 (fmid qa qe qx qz ⟨t, r, sa, se, sx, sz, sc⟩ 3) ∧ Kept (fun i => i = b + 1) w1 (wr.setCell ⟨b + 1, 2, none⟩ (.int .i64 ((qx : Int) + 1)))) := hide ⟨by
              have h : on1 sx = 1 := if_neg hx
              show Is (wr.setCell _ _) (b + 1) _ (fcs (qa + on1 sa) (qe + on1 se) (qx + on1 sx) qz)
              rw [h]
              exact hi.set 2 _, hki.set (p := ⟨b + 1, 2, none⟩) (fun _ => rfl) _⟩
            clear hx hi hki
            go_wp2_with fail
            go_roundw
            case rel => exact ⟨3, by omega, by go_num, HN.out.1, HN.out.2⟩
            case measure => simp [intOf]
        · have h3 := four_3 wr sa se sx sz
          by_cases hx : sz = -1
          · have b1 : (sz != -1) = false := by simpa using hx
            have HN : Hid (Is wr (b + 1) 28 (fmid qa qe qx qz ⟨t, r, sa, se, sx, sz, sc⟩ 4)) := hide (by
              have h : on1 sz = 0 := if_pos hx
              show Is wr (b + 1) _ (fcs (qa + on1 sa) (qe + on1 se) (qx + on1 sx) (qz + on1 sz))
              rw [h, Nat.add_zero]
              exact hi)
            clear hx hi hki
            go_wp2_with fail
            go_roundw
            case rel => exact ⟨4, by omega, by go_num, HN.out, HI2.out.2⟩
            case measure => simp [intOf]
          · have b1 : (sz != -1) = true := by simpa using hx
            have q0 : wr.cell? ⟨b + 1, 3, none⟩ = some (.int .i64 (qz : Nat)) := hi.cell 3
            have q1 := hi.free 3
            have HN : Hid (Is (wr.setCell ⟨b + 1, 3, none⟩ (.int .i64 ((qz : Int) + 1))) (b + 1) 28 (fmid qa qe qx qz ⟨t, r, sa, se, sx, sz, sc⟩ 4) ∧ Kept (fun i => i = b + 1) w1 (wr.setCell ⟨b + 1, 3, none⟩ (.int .i64 ((qz : Int) + 1)))) := hide ⟨by
              have h : on1 sz = 1 := if_neg hx
              show Is (wr.setCell _ _) (b + 1) _ (fcs (qa + on1 sa) (qe + on1 se) (qx + on1 sx) (qz + on1 sz))
              rw [h]
              exact hi.set 3 _, hki.set (p := ⟨b + 1, 3, none⟩) (fun _ => rfl) _⟩
            clear hx hi hki
            go_wp2_with fail
            go_roundw
            case rel => exact ⟨4, by omega, by go_num, HN.out.1, HN.out.2⟩
            case measure => simp [intOf]
        · have HN : Hid (Is wr (b + 1) 28 (fcs (ymn Sy.a (S.take (k + 1))) (ymn Sy.e (S.take (k + 1))) (ymn Sy.x (S.take (k + 1))) (ymn Sy.z (S.take (k + 1))))) := hide (by
            rw [HQ.out.1, HQ.out.2.1, HQ.out.2.2.1, HQ.out.2.2.2]
            exact hi)
          clear hi hki
          go_wp2_with fail
          go_roundw
          case rel => exact ⟨k + 1, by omega, by go_num, HN.out, HI2.out.2⟩
          case measure => simp [intOf]; omega
    · obtain rfl : k = S.length := by omega
      rw [List.take_length] at hi
      have k9 := HG.out.2.2.2.trans (S := Nil) hkr (fun i hi z => by subst z; omega)
      have q0 := hi.cell 0
      have q1 := hi.cell 1
      have q2 := hi.cell 2
      have q3 := hi.cell 3
      have j0 := HG.out.2.1.kept hkr (fun z => by omega)
      have j1 : Is (((((wr.setCell ⟨b, 0, none⟩ (.int .i64 (ymn Sy.a S : Nat))).setCell ⟨b, 1, none⟩ (.int .i64 (ymn Sy.e S : Nat))).setCell ⟨b, 2, none⟩ (.int .i64 (ymn Sy.x S : Nat))).setCell ⟨b, 3, none⟩ (.int .i64 (ymn Sy.z S : Nat)))) b 28 (fcs (ymn Sy.a S) (ymn Sy.e S) (ymn Sy.x S) (ymn Sy.z S)) := (((j0.set 0 _).set 1 _).set 2 _).set 3 _
      have k8 := (((k9.set (p := ⟨b, 0, none⟩) (fun z => absurd z (by show ¬ b < w.heap.size; omega)) (.int .i64 (ymn Sy.a S : Nat))).set (p := ⟨b, 1, none⟩) (fun z => absurd z (by show ¬ b < w.heap.size; omega)) (.int .i64 (ymn Sy.e S : Nat))).set (p := ⟨b, 2, none⟩) (fun z => absurd z (by show ¬ b < w.heap.size; omega)) (.int .i64 (ymn Sy.x S : Nat))).set (p := ⟨b, 3, none⟩) (fun z => absurd z (by show ¬ b < w.heap.size; omega)) (.int .i64 (ymn Sy.z S : Nat))
      have y0 := j0.cell 0
      have y1 := j0.cell 1
      have y2 := j0.cell 2
      have y3 := j0.cell 3
      have z0 := j0.free 0
      have z1 := j0.free 1
      have z2 := j0.free 2
      have z3 := j0.free 3
      have H9 := hide (And.intro j1 k8)
      clear hi hkr k9 j0 j1 k8 HG
      simp only [fcs] at q0 q1 q2 q3
      go_wp2_with fail
      exact bodyPost_ret (results_four rfl _ rfl (H9.out.1.cell 0) (H9.out.1.cell 1) (H9.out.1.cell 2) (H9.out.1.cell 3)) rfl ⟨rfl, H9.out.2⟩
end
end Go.Proofs.Ytnipgafogkbobaa
