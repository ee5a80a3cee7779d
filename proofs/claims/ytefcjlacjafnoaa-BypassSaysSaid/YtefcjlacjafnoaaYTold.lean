/- until, Longest, Fifo. -/
import Derived.Test.YtefcjlacjafnoaaYEntries
import Derived.Test.YtefcjlacjafnoaaYCount
namespace Go.Proofs.Ytefcjlacjafnoaa
open Go.RowKit
set_option maxRecDepth 100000

section
variable {w0 w w1 w' : World} {p c : Nat} {A : Option Addr} {S : List Sy} {v : Value} {l : List Ev}
set_option maxHeartbeats 1000000
theorem until_c (W : World) (n t a e x z c : Int) (r : Bool) : Calls Try.prog 17 #[.agg #[.int .i64 t, .bool r, .int .i64 a, .int .i64 e, .int .i64 x, .int .i64 z, .int .i64 c], .int .i64 n] W fun o w' => o = .returned (.int .i64 (yun n ⟨t, r, a, e, x, z, c⟩)) ∧ Kept Nil W w' := by
  have HK := hide ((Kept.refl Nil W).alloc (.cells #[.int .i64 t, .bool r, .int .i64 a, .int .i64 e, .int .i64 x, .int .i64 z, .int .i64 c] 50))
  by_cases h : e = -1
  · subst h
    go_enter Try.func17, Try.ntmps17
    go_wp2_with fail
    go_ret
    exact ⟨rfl, HK.out⟩
  · have hb : (e == -1) = false := by simpa using h
    have HU : Hid (yun n ⟨t, r, a, e, x, z, c⟩ = e) := hide (if_neg h)
    clear h
    go_enter Try.func17, Try.ntmps17
    go_wp2_with fail
    go_ret
    exact ⟨by rw [HU.out]; rfl, HK.out⟩
theorem fifo_c (hv : Evs w v l) (hw : Ywf l) (hl : l.length ≤ 65536) : Calls Try.prog 8 #[v] w fun e w' => e = .returned (.bool (yfi (yof l))) ∧ Kept Nil w w' := by
  have CO := hide (of_c hv hw hl)
  have HS := hide (ysm_all (l := l))
  have hSl : (yof l).length ≤ 65536 := Nat.le_trans yof_len hl
  generalize yof l = S at *
  obtain ⟨A, c, rfl, _, hp⟩ := hv
  clear hp
  go_enter Try.func8, Try.ntmps8
  go_wp2_with fail
  refine CO.out.mono ?_
  rintro e w1 ⟨A2, c2, rfl, hg⟩
  have HG := hide hg
  clear hg CO
  go_wp2_with fail
  go_loopw [3, 10] (fun v3 v10 wr => ∃ k : Nat, k ≤ S.length ∧ v10 = .int .i64 k ∧ v3 = .int .i64 (ylst l.length S k) ∧ Yup l.length S k ∧ Kept Nil w1 wr) (fun _ i _ => S.length - (intOf i).toNat)
  case atStart => exact ⟨0, Nat.zero_le _, rfl, rfl, yup_zero, Kept.refl _ _⟩
  case round =>
    obtain ⟨k, hk, rfl, rfl, hup, hkr⟩ := hrel
    have HK := hide hkr
    clear hkr
    by_cases hlt : k < S.length
    · obtain ⟨g, rfl, hgl, _, hlc, h7, _⟩ := (HG.out.keep HK.out).at7 hlt
      have HN := hide (fun z => yup_next (n := l.length) hup z)
      have HF := hide (fun z => yup_false (n := l.length) HS.out hlt z)
      have hlk : ylst l.length S (k + 1) = yun l.length (S.getD k s0) := rfl
      have HLK := hide hlk
      clear hlk hup
      generalize S.getD k s0 = s at *
      obtain ⟨t, r, a, e, x, z, sc⟩ := s
      obtain ⟨c0, c1, c2', c3, c4, c5, c6⟩ := h7
      have c0 : wr.cell? ⟨g, k * 7, none⟩ = some (.int .i64 t) := c0
      have c1 : wr.cell? ⟨g, k * 7 + 1, none⟩ = some (.bool r) := c1
      have c2' : wr.cell? ⟨g, k * 7 + 2, none⟩ = some (.int .i64 a) := c2'
      have c3 : wr.cell? ⟨g, k * 7 + 3, none⟩ = some (.int .i64 e) := c3
      have c4 : wr.cell? ⟨g, k * 7 + 4, none⟩ = some (.int .i64 x) := c4
      have c5 : wr.cell? ⟨g, k * 7 + 5, none⟩ = some (.int .i64 z) := c5
      have c6 : wr.cell? ⟨g, k * 7 + 6, none⟩ = some (.int .i64 sc) := c6
      have HI : Hid (Kept Nil w1 (wr.alloc (.cells #[.int .i64 t, .bool r, .int .i64 a, .int .i64 e, .int .i64 x, .int .i64 z, .int .i64 sc] 50))) := hide (HK.out.alloc _)
      have CU := hide fun W => until_c W l.length t a e x z sc r
      generalize yun l.length ⟨t, r, a, e, x, z, sc⟩ = u at *
      generalize ylst l.length S k = lo at *
      go_wp2_with fail
      refine (CU.out _).mono ?_
      rintro e w3 ⟨rfl, hk3⟩
      have HK3 := hide (HI.out.trans hk3 (fun _ _ z => z))
      clear hk3 CU HI c0 c1 c2' c3 c4 c5 c6
      by_cases hul : u < lo
      · have HF2 := hide (HF.out (by omega))
        have HF3 := hide (HG.out.kept.trans HK3.out (fun _ _ z => z))
        go_wp2_with fail
        go_ret
        exact ⟨by rw [HF2.out]; rfl, HF3.out⟩
      · have HN2 := hide (HN.out (by omega))
        clear HN HF
        go_wp2_with fail
        go_roundw
        case rel => exact ⟨k + 1, by omega, by go_num, by rw [HLK.out], HN2.out, HK3.out⟩
        case measure => simp [intOf]; omega
    · obtain rfl : k = S.length := by omega
      have HF := hide (HG.out.kept.trans HK.out (fun _ _ z => z))
      have HT := hide (yup_true HS.out hup)
      clear hup
      go_wp2_with fail
      go_ret
      exact ⟨by rw [HT.out]; rfl, HF.out⟩
end
end Go.Proofs.Ytefcjlacjafnoaa
