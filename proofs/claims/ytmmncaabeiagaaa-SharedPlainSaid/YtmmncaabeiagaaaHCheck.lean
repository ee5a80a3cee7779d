/- Package shared's Check, and the document's. -/
import Derived.Test.YtmmncaabeiagaaaHDo
import Derived.Test.YtmmncaabeiagaaaHRDo
namespace Go.Proofs.Ytmmncaabeiagaaa
open Go.RowKit
set_option maxRecDepth 100000

section
variable {w : World} {v : Value} {l : List Ev}
set_option maxHeartbeats 1000000
/-- The document's Check. -/
theorem hrcheck_c (n : Int) {X Y : Int} (hR : srun (List.replicate (um n) z0) l 0 = (X, Y)) (hv : Evs w v l) (hl : l.length ≤ 65536) : Calls Try.prog 22 #[.int .i64 n, v] w fun e w' => e = .returned (.tuple #[.int .i64 X, .int .i64 Y]) ∧ Kept Nil w w' := by
  have HR0 := hide (by rw [← sds_nil (n := um n)] at hR; exact hR : srun (sds (um n) []) l 0 = (X, Y))
  clear hR
  obtain ⟨A, c, rfl, hlc, hp⟩ := hv
  have HP := hide hp
  clear hp
  go_enter Try.func22, Try.ntmps22
  go_wp2_with fail
  go_loopw [6] (fun i wr => ∃ k : Nat, k ≤ l.length ∧ i = .int .i64 k ∧ srun (sds (um n) (l.take k)) (l.drop k) k = (X, Y) ∧ Kept Nil w wr) (fun i _ => l.length - (intOf i).toNat)
  case atStart => exact ⟨0, Nat.zero_le _, rfl, HR0.out, Kept.refl _ _⟩
  case round =>
    obtain ⟨k, hk, rfl, hr, hkp⟩ := hrel
    have HR := hide hr
    have HK := hide hkp
    clear hr hkp HR0
    by_cases hlt : k < l.length
    · obtain ⟨g, o, rfl, hg, hc⟩ := HP.out (by omega)
      have HG := hide (And.intro hg hc)
      have hE := hide (ev_drop hlt)
      have hT := hide (ev_take hlt)
      have hF := hide fun W (z : Kept Nil w W) => (hc k hlt).kept hg z
      have HDO := hide fun W (z : Kept Nil w W) => hrdo_c (k := (l.getD k e0).k) (t := (l.getD k e0).t) (r := (l.getD k e0).r) (c := (l.getD k e0).c) n ((evs_take hlt hlc hg hc).kept z) (by rw [List.length_take]; omega)
      generalize l.getD k e0 = e at *
      obtain ⟨ek, et, er, ec⟩ := e
      have HDO := hide fun W (z : Kept Nil w W) => (HDO.out W z).mono (R' := fun x w' => x = .returned (.int .i64 (sdof (sds (um n) (l.take k)) ⟨ek, et, er, ec⟩)) ∧ Kept Nil w w') fun x w' ⟨h1, h2⟩ => ⟨h1, z.trans h2 (fun _ _ c => c)⟩
      have CELLS := hide fun (W : World) (z : Kept Nil w W) => show W.cell? ⟨g, o + k * 4, none⟩ = some (.int .i64 ek) ∧ W.cell? ⟨g, o + k * 4 + 1, none⟩ = some (.int .i64 et) ∧ W.cell? ⟨g, o + k * 4 + 2, none⟩ = some (.bool er) ∧ W.cell? ⟨g, o + k * 4 + 3, none⟩ = some (.int .i64 ec) from hF.out W z
      have hK : Kept Nil w wr.drew := HK.out.drew
      have HM := hide fun h => smov_sds (n := um n) (l := l.take k) (e := ⟨ek, et, er, ec⟩) h
      have HX := hide fun h => srun_err (A := sds (um n) (l.take k)) (e := ⟨ek, et, er, ec⟩) (l := l.drop (k + 1)) (k := k) h
      have HY := hide fun h => srun_ok (A := sds (um n) (l.take k)) (e := ⟨ek, et, er, ec⟩) (l := l.drop (k + 1)) (k := k) h
      have HR2 : Hid (srun (sds (um n) (l.take k)) (⟨ek, et, er, ec⟩ :: l.drop (k + 1)) k = (X, Y)) := hide (by rw [← hE.out]; exact HR.out)
      have HT2 : Hid (l.take (k + 1) = l.take k ++ [⟨ek, et, er, ec⟩]) := hT
      obtain ⟨d, hd⟩ : ∃ d, sdof (sds (um n) (l.take k)) ⟨ek, et, er, ec⟩ = d := ⟨_, rfl⟩
      rw [hd] at HDO HM HX HY
      clear hd hc hF HG hE hT HP HR hg
      have hb1 : (k : Int) ≤ (c : Int) := by omega
      have hb2 : (0 : Int) ≤ (k : Int) := by omega
      have hb3 : k ≤ c := by omega
      go_wp2_with fail
      go_region_held3 (fun W => W.cell? ⟨g, o + k * 4, none⟩ = some (.int .i64 ek) ∧ W.cell? ⟨g, o + k * 4 + 1, none⟩ = some (.int .i64 et) ∧ W.cell? ⟨g, o + k * 4 + 2, none⟩ = some (.bool er) ∧ W.cell? ⟨g, o + k * 4 + 3, none⟩ = some (.int .i64 ec))
        (first | exact CELLS.out _ (by assumption) | exact CELLS.out _ (Kept.drew (by assumption)))
        ((go_at_call 13; refine (HDO.out _ (by assumption)).mono ?_; rintro e w2 ⟨rfl, hk1⟩))
      have HK2 := hide hk1
      clear hk1 HDO CELLS
      by_cases h0 : d = 0
      · subst h0
        have HE : Hid (srun (sds (um n) (l.take (k + 1))) (l.drop (k + 1)) (k + 1) = (X, Y)) := hide (by rw [HT2.out, ← HM.out rfl, ← HY.out rfl]; exact HR2.out)
        clear HM HX HY HR2 HT2
        go_wp2_with fail
        go_roundw
        case rel => exact ⟨k + 1, by omega, by go_num, HE.out, HK2.out⟩
        case measure => simp [intOf]; omega
      · have HE : Hid (X = (k : Int) ∧ Y = d) := hide (by
          have h1 := HR2.out
          rw [HX.out h0] at h1
          injection h1 with h1 h2
          exact ⟨h1.symm, h2.symm⟩)
        have hb : (d != 0) = true := by simpa using h0
        clear HM HX HY HR2 HT2 h0
        go_wp2_with fail
        go_ret2
        exact ⟨by rw [HE.out.1, HE.out.2]; rfl, HK2.out⟩
    · obtain rfl : k = l.length := by omega
      have HE : Hid (X = (l.length : Int) ∧ Y = 0) := hide (by
        have h1 := HR.out
        rw [List.drop_length] at h1
        injection h1 with h1 h2
        exact ⟨h1.symm, h2.symm⟩)
      clear HR
      go_wp2_with fail
      go_ret2
      exact ⟨by rw [HE.out.1, HE.out.2]; rfl, HK.out⟩
/-- Check. -/
theorem scheck_c (n : Int) {X Y : Int} (hR : srun (List.replicate (um n) z0) l 0 = (X, Y)) (hv : Evs w v l) (hl : l.length ≤ 65536) : Calls Try.prog 21 #[.int .i64 n, v] w fun e w' => e = .returned (.tuple #[.int .i64 X, .int .i64 Y]) ∧ Kept Nil w w' := by
  have HR0 := hide hR
  have HN := hide (snew_c w n)
  have hum := um_le (t := n)
  have HZ : Hid ((List.replicate (um n) z0).length ≤ 32 ∧ Wf (List.replicate (um n) z0)) := hide ⟨by rw [List.length_replicate]; exact hum, wf_zero⟩
  clear hR hum
  generalize List.replicate (um n) z0 = A0 at *
  have HV := hide hv
  obtain ⟨A, c, rfl, _, hp⟩ := hv
  clear hp
  go_enter Try.func21, Try.ntmps21
  go_wp2_with fail
  refine HN.out.mono ?_
  rintro e w1 ⟨p, g, rfl, hL, hk1, hg⟩
  have HS := hide (And.intro hL (And.intro hk1 hg))
  clear hL hk1 hg HN
  go_wp2_with fail
  go_loopw [14] (fun i wr => ∃ (k : Nat) (S : List Sd), k ≤ l.length ∧ i = .int .i64 k ∧ srun S (l.drop k) k = (X, Y) ∧ (S.length ≤ 32 ∧ Wf S) ∧ Sk wr p g S ∧ Kept Nil w wr) (fun i _ => l.length - (intOf i).toNat)
  case atStart => exact ⟨0, A0, Nat.zero_le _, rfl, HR0.out, HZ.out, HS.out.1, HS.out.2.1⟩
  case round =>
    obtain ⟨k, S, hk, rfl, hr, hs, hL, hkp⟩ := hrel
    have HR := hide hr
    have HK := hide (And.intro hkp (And.intro hL hs))
    clear hr hkp hL hs HR0 HZ
    by_cases hlt : k < l.length
    · obtain ⟨A', c', e1, _, hp⟩ := HV.out.kept HK.out.1
      injection e1 with e1 e3 e2
      clear e3
      subst e1 e2
      obtain ⟨g1, o1, rfl, _, hc⟩ := hp (by omega)
      have hF := hc k hlt
      have hE := hide (ev_drop hlt)
      clear hc hp
      generalize l.getD k e0 = e at *
      have HM := hide (smov_len (A := S) (e := e))
      have HX := hide fun h => srun_err (A := S) (e := e) (l := l.drop (k + 1)) (k := k) h
      have HY := hide fun h => srun_ok (A := S) (e := e) (l := l.drop (k + 1)) (k := k) h
      have HR2 : Hid (srun S (e :: l.drop (k + 1)) k = (X, Y)) := hide (by rw [← hE.out]; exact HR.out)
      have HD := hide fun W (z : Kept Nil wr W) => sdo_c e HK.out.2.2.2 (HK.out.2.1.keep z) (by have := HK.out.2.2.1; omega)
      have HW := hide ((Kept.refl Nil wr).alloc (.cells #[.int .i64 e.k, .int .i64 e.t, .bool e.r, .int .i64 e.c] 29))
      clear hE HR
      obtain ⟨f1, f2, f3, f4⟩ := hF
      have f1 : wr.cell? ⟨g1, o1 + k * 4, none⟩ = some (.int .i64 e.k) := f1
      have f2 : wr.cell? ⟨g1, o1 + k * 4 + 1, none⟩ = some (.int .i64 e.t) := f2
      have f3 : wr.cell? ⟨g1, o1 + k * 4 + 2, none⟩ = some (.bool e.r) := f3
      have f4 : wr.cell? ⟨g1, o1 + k * 4 + 3, none⟩ = some (.int .i64 e.c) := f4
      generalize hek : e.k = ek at *
      generalize het : e.t = et at *
      generalize her : e.r = er at *
      generalize hec : e.c = ec at *
      clear hek het her hec
      go_wp2_with fail
      refine (HD.out _ HW.out).mono ?_
      rintro x w2 ⟨rfl, h2, h3⟩
      have HK2 := hide (And.intro ((HK.out.1.trans HW.out (fun _ _ z => z)).trans (S := Nil) h3 (fun i hi z => by have := HS.out.2.2; omega)) (And.intro h2 (show (smov S e).length ≤ 32 ∧ Wf (smov S e) from ⟨by rw [HM.out]; exact HK.out.2.2.1, wf_mov HK.out.2.2.2⟩)))
      clear h2 h3
      obtain ⟨d, hd⟩ : ∃ d, sdof S e = d := ⟨_, rfl⟩
      rw [hd] at HX HY ⊢
      clear hd
      by_cases h0 : d = 0
      · subst h0
        have HE : Hid (srun (smov S e) (l.drop (k + 1)) (k + 1) = (X, Y)) := hide (by rw [← HY.out rfl]; exact HR2.out)
        clear HX HY HR2
        go_wp2_with fail
        go_roundw
        case rel => exact ⟨k + 1, smov S e, by omega, by go_num, HE.out, HK2.out.2.2, HK2.out.2.1, HK2.out.1⟩
        case measure => simp [intOf]; omega
      · have HE : Hid (X = (k : Int) ∧ Y = d) := hide (by
          have h1 := HR2.out
          rw [HX.out h0] at h1
          injection h1 with h1 h2
          exact ⟨h1.symm, h2.symm⟩)
        have hb : (d != 0) = true := by simpa using h0
        clear HX HY HR2 h0
        go_wp2_with fail
        go_ret2
        exact ⟨by rw [HE.out.1, HE.out.2]; rfl, HK2.out.1⟩
    · obtain rfl : k = l.length := by omega
      have HE : Hid (X = (l.length : Int) ∧ Y = 0) := hide (by
        have h1 := HR.out
        rw [List.drop_length] at h1
        injection h1 with h1 h2
        exact ⟨h1.symm, h2.symm⟩)
      clear HR
      go_wp2_with fail
      go_ret2
      exact ⟨by rw [HE.out.1, HE.out.2]; rfl, HK.out.1⟩
end
end Go.Proofs.Ytmmncaabeiagaaa
