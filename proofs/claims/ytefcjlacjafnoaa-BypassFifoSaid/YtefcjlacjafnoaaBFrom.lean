/- since, From. -/
import Derived.Test.YtefcjlacjafnoaaBCtr
import Derived.Test.YtefcjlacjafnoaaYOf
namespace Go.Proofs.Ytefcjlacjafnoaa
open Go.RowKit
set_option maxRecDepth 100000

section
variable {w0 w w1 w' : World} {v0 v : Value} {N : List Int} {l : List Ev}
set_option maxHeartbeats 1000000
/-- since. -/
theorem since_c (W : World) (x y x2 y2 : Int) (hx : -9223372036854775808 ≤ x2 - x ∧ x2 - x < 9223372036854775808) (hy : -9223372036854775808 ≤ y2 - y ∧ y2 - y < 9223372036854775808) :
    Calls Try.prog 20 #[psv ⟨x, y⟩, psv ⟨x2, y2⟩] W fun e w' => e = .returned (psv ⟨x2 - x, y2 - y⟩) ∧ Kept Nil W w' := by
  have s1 : IntKind.i64.wrap (x2 - x) = x2 - x := IntWalk.i64_in _ (by omega)
  have s2 : IntKind.i64.wrap (y2 - y) = y2 - y := IntWalk.i64_in _ (by omega)
  obtain ⟨W1, h1⟩ : ∃ W1, (W.alloc (.cells #[.int .i64 x, .int .i64 y] 27)).alloc (.cells #[.int .i64 x2, .int .i64 y2] 27) = W1 := ⟨_, rfl⟩
  have hs : W1.heap.size = W.heap.size + 1 + 1 := by rw [← h1]; simp
  have K : Kept Nil W W1 := by rw [← h1]; exact ((Kept.refl Nil W).alloc _).alloc _
  have I : Is (W1.alloc (.cells #[.int .i64 (x2 - x), .int .i64 (y2 - y)] 27)) (W.heap.size + 1 + 1) 27 #[.int .i64 (x2 - x), .int .i64 (y2 - y)] := by rw [← hs]; exact Is.new _ _ _
  have H := hide (And.intro I (K.alloc (.cells #[.int .i64 (x2 - x), .int .i64 (y2 - y)] 27)))
  rw [← h1] at H
  clear h1 hs K I
  unfold psv
  go_enter Try.func20, Try.ntmps20
  go_wp2_with fail
  exact bodyPost_ret (results_pass rfl _ rfl (H.out.1.cell 0) (H.out.1.cell 1)) rfl ⟨rfl, H.out.2⟩
/-- From. -/
theorem from_c (t f g : Int) (hn : Nums w v0 N) (wn : Nwf N) (hv : Evs w v l) (hw : Ywf l) (ht : (Lit.int .i64 t).wf = true) (hl : l.length ≤ 65536) :
    Calls Try.prog 7 #[v0, .int .i64 t, .int .i64 f, .int .i64 g, v] w fun e w' => e = .returned (psv (frm N t f g l)) ∧ Kept Nil w w' := by
  obtain ⟨w1, hw1⟩ : ∃ w1, w.alloc (.cells #[.int .i64 0, .int .i64 0] 27) = w1 := ⟨_, rfl⟩
  have K : Kept Nil w w1 := by rw [← hw1]; exact (Kept.refl Nil w).alloc _
  have HB : Is w1 w.heap.size 27 #[.int .i64 0, .int .i64 0] := by rw [← hw1]; exact Is.new w _ _
  have CC := hide (counter_c (hn.kept K) wn)
  have HK := hide (And.intro K HB)
  clear K HB
  obtain ⟨A0, c0, rfl, _⟩ := hn
  obtain ⟨A, c, rfl, _, hp⟩ := hv
  have HP := hide hp
  clear hp
  go_enter Try.func7, Try.ntmps7
  go_wp2_with fail
  refine CC.out.mono ?_
  rintro e w2 ⟨ba, bn, bb, bt, rfl, hc⟩
  unfold tellV othersV
  have HC := hide hc
  clear hc CC hw1
  go_wp2_with fail
  go_loopw [22] (fun v22 wr => ∃ k : Nat, k ≤ l.length ∧ v22 = .int .i64 k ∧ Cn w1 wr ba bn bb bt (.slice A0 N.length c0) N (tol f g l k)) (fun i _ => l.length - (intOf i).toNat)
  case atStart => exact ⟨0, Nat.zero_le _, rfl, HC.out⟩
  case round =>
    obtain ⟨k, hk, rfl, hcn⟩ := hrel
    have HN := hide hcn
    clear hcn HC
    by_cases hlt : k < l.length
    · obtain ⟨g1, o1, rfl, hg1, hce⟩ := HP.out (by omega)
      have hkw : Kept Nil w wr := HK.out.1.trans HN.out.kept (fun _ _ z => z)
      obtain ⟨f1, f2, f3, f4⟩ := (hce k hlt).kept hg1 hkw
      have hwk := hw k hlt
      have HTI := hide fun z => tol_in (f := f) (g := g) (l := l) (k := k) z
      have HTO := hide fun z => tol_out (f := f) (g := g) (l := l) (k := k) z
      have hln : (tol f g l k).length ≤ 65536 := Nat.le_trans tol_len (by omega)
      clear hce hg1 hkw
      generalize l.getD k e0 = ev at *
      have CT := hide (tell_c (e := ev) (HN.out.keep ((Kept.refl Nil wr).alloc (.cells #[.int .i64 ev.k, .int .i64 ev.t, .bool ev.r, .int .i64 ev.c] 36))) hwk hln)
      have HA := hide (HN.out.keep ((Kept.refl Nil wr).alloc (.cells #[.int .i64 ev.k, .int .i64 ev.t, .bool ev.r, .int .i64 ev.c] 36)))
      generalize tol f g l k = P at *
      obtain ⟨ek, et, er, ec⟩ := ev
      have f1 : wr.cell? ⟨g1, o1 + k * 4, none⟩ = some (.int .i64 ek) := f1
      have f2 : wr.cell? ⟨g1, o1 + k * 4 + 1, none⟩ = some (.int .i64 et) := f2
      have f3 : wr.cell? ⟨g1, o1 + k * 4 + 2, none⟩ = some (.bool er) := f3
      have f4 : wr.cell? ⟨g1, o1 + k * 4 + 3, none⟩ = some (.int .i64 ec) := f4
      clear hwk hln
      by_cases hf : f < (k : Int)
      · have d1 : decide (f < (k : Int)) = true := decide_eq_true hf
        by_cases hg : (k : Int) < g
        · have d2 : decide ((k : Int) < g) = true := decide_eq_true hg
          have HT := hide (HTI.out ⟨hf, hg⟩)
          clear HTI HTO hf hg
          go_wp2_with fail
          refine CT.out.mono ?_
          rintro e w3 ⟨rfl, h3, _⟩
          have H3 := hide h3
          clear h3 CT f1 f2 f3 f4
          go_wp2_with fail
          go_roundw
          case rel => exact ⟨k + 1, by omega, by go_num, by rw [HT.out]; exact H3.out⟩
          case measure => simp [intOf]; omega
        · have d2 : decide ((k : Int) < g) = false := decide_eq_false hg
          have HT := hide (HTO.out (fun z => hg z.2))
          clear HTI HTO hf hg CT
          go_wp2_with fail
          go_roundw
          case rel => exact ⟨k + 1, by omega, by go_num, by rw [HT.out]; exact HA.out⟩
          case measure => simp [intOf]; omega
      · have d1 : decide (f < (k : Int)) = false := decide_eq_false hf
        have HT := hide (HTO.out (fun z => hf z.1))
        clear HTI HTO hf CT
        go_wp2_with fail
        go_roundw
        case rel => exact ⟨k + 1, by omega, by go_num, by rw [HT.out]; exact HA.out⟩
        case measure => simp [intOf]; omega
    · obtain rfl : k = l.length := by omega
      have CO := hide (others_c (th := t) HN.out ht (Nat.le_trans tol_len hl))
      rw [tol_frm] at CO
      have HE := hide (And.intro (HK.out.1.trans HN.out.kept (fun _ _ z => z)) (HK.out.2.kept HN.out.kept (fun z => z)))
      clear HN
      obtain ⟨⟨rs, ro⟩, hr⟩ : ∃ r, frm N t f g l = r := ⟨_, rfl⟩
      rw [hr] at CO
      have HR := hide hr
      clear hr
      unfold psv at CO
      go_wp2_with fail
      refine CO.out.mono ?_
      rintro e w3 ⟨rfl, hk3⟩
      have I3 := HE.out.2.kept hk3 (fun z => z)
      obtain ⟨w4, hw4⟩ : ∃ w4, w3.setCell ⟨w.heap.size, 0, none⟩ (.int .i64 rs) = w4 := ⟨_, rfl⟩
      obtain ⟨w5, hw5⟩ : ∃ w5, w4.setCell ⟨w.heap.size, 1, none⟩ (.int .i64 ro) = w5 := ⟨_, rfl⟩
      have I4 : Is w4 w.heap.size 27 #[.int .i64 rs, .int .i64 0] := by rw [← hw4]; exact I3.set 0 _
      have I5 : Is w5 w.heap.size 27 #[.int .i64 rs, .int .i64 ro] := by rw [← hw5]; exact I4.set 1 _
      have z1 : w3.cell? ⟨w.heap.size, 0, none⟩ = some (.int .i64 0) := I3.cell 0
      have z2 : w3.frozen? ⟨w.heap.size, 0, none⟩ = false := I3.free 0
      have z5 : w4.cell? ⟨w.heap.size, 1, none⟩ = some (.int .i64 0) := I4.cell 1
      have z6 : w4.frozen? ⟨w.heap.size, 1, none⟩ = false := I4.free 1
      have K5 : Kept Nil w w5 := by
        rw [← hw5, ← hw4]
        exact (((HE.out.1.trans hk3 (fun _ _ z => z)).set (p := ⟨w.heap.size, 0, none⟩) (fun z => absurd z (Nat.lt_irrefl _)) _).set (p := ⟨w.heap.size, 1, none⟩) (fun z => absurd z (Nat.lt_irrefl _)) _)
      have H5 := hide (And.intro I5 K5)
      clear I3 I4 I5 K5 hk3 HE CO
      go_wp2_with fail
      exact bodyPost_ret (results_pass rfl _ rfl (H5.out.1.cell 0) (H5.out.1.cell 1)) rfl ⟨by rw [HR.out]; rfl, H5.out.2⟩
end
end Go.Proofs.Ytefcjlacjafnoaa
