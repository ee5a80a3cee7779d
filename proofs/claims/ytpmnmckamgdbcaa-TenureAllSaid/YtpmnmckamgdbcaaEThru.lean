/- through: a tenure as far as it goes. -/
import Derived.Test.YtpmnmckamgdbcaaENode
import Derived.ScopeJumps
namespace Go.Proofs.Ytpmnmckamgdbcaa
open Go.RowKit
set_option maxRecDepth 100000

theorem thr_end {N : List Int} {a : Int} {E : List Ev} {m : Nat} (h : m = E.length) : thr N a m (E.drop m) = m := by
  rw [List.drop_eq_nil_of_le (by omega)]
  rfl
theorem thr_no {N : List Int} {a : Int} {E : List Ev} {m : Nat} (h : m < E.length) (h2 : ¬ ((E.getD m e0).c = m + 1 ∧ nd N (E.getD m e0).t = a)) : thr N a m (E.drop m) = m := by
  rw [ev_drop h]
  exact if_neg h2
theorem thr_on {N : List Int} {a : Int} {E : List Ev} {m : Nat} (h : m < E.length) (h2 : (E.getD m e0).c = m + 1 ∧ nd N (E.getD m e0).t = a) : thr N a m (E.drop m) = thr N a (m + 1) (E.drop (m + 1)) := by
  rw [ev_drop h]
  exact if_pos h2
section
variable {w w' : World} {v0 v1 : Value} {N : List Int} {E : List Ev}
/-- What holds at a jump back. -/
def Thru (v0 v1 : Value) (N : List Int) (E : List Ev) (T : Nat) (a : Int) (w : World) (b : Act) (w' : World) : Prop := ∃ (m : Nat) (u7 u8 u9 u10 u11 u12 u13 u14 u15 u16 u17 u18 u19 u20 u21 u22 u23 u24 u25 u26 u27 u28 u29 u30 u31 u32 u33 u34 u35 u36 u37 u38 u39 u40 : Value), b = { tmps := #[v0, v1, undef, undef, .int .i64 0, .int .i64 a, .int .i64 m, u7, u8, u9, u10, u11, u12, u13, u14, u15, u16, u17, u18, u19, u20, u21, u22, u23, u24, u25, u26, u27, u28, u29, u30, u31, u32, u33, u34, u35, u36, u37, u38, u39, u40], defers := [] } ∧ 1 ≤ m ∧ m ≤ E.length ∧ T = thr N a m (E.drop m) ∧ w' = w
set_option maxHeartbeats 1000000
theorem through_c (hn : Nums w v0 N) (hv : Evs w v1 E) (h0 : 0 < E.length) (hl : E.length ≤ 65536) : Calls Try.prog 16 #[v0, v1] w fun e w' => e = .returned (.int .i64 (thr N (nd N (E.getD 0 e0).t) 1 (E.drop 1) : Nat)) ∧ w = w' := by
  have CN := hide fun t => node_c t hn
  obtain ⟨A0, c0, rfl, _⟩ := hn
  obtain ⟨A, c, rfl, hlc, hp⟩ := hv
  obtain ⟨g, o, rfl, hg, hc⟩ := hp h0
  clear hp
  have HC := hide hc
  obtain ⟨_, f1, _, _⟩ := hc 0 h0
  have f1 : w.cell? ⟨g, o + 1, none⟩ = some (.int .i64 (E.getD 0 e0).t) := by rw [← f1]
  clear hc
  obtain ⟨T, hT⟩ : ∃ T, thr N (nd N (E.getD 0 e0).t) 1 (E.drop 1) = T := ⟨_, rfl⟩
  rw [hT]
  generalize (E.getD 0 e0).t = t0 at *
  have HT := hide hT.symm
  have C0 := hide (CN.out t0)
  clear hT
  generalize nd N t0 = a at *
  go_enter Try.func16, Try.ntmps16
  go_wp2_with fail
  refine wp_scope_jumps 0 (Thru (.slice A0 N.length c0) (.slice (some ⟨g, o, none⟩) E.length c) N E T a w) (fun b _ => E.length - (intOf (b.tmps.getD 6 undef)).toNat) rfl ?_ ?_
  · go_wp2_with fail
    refine C0.out.mono ?_
    rintro e w' ⟨rfl, rfl⟩
    go_wp2_with fail
    go_step3
    by_cases hlt : 1 < E.length
    · obtain ⟨_, f1', _, f3'⟩ := HC.out 1 hlt
      have q1 : w.cell? ⟨g, o + 4 + 1, none⟩ = some (.int .i64 (E.getD 1 e0).t) := f1'
      have q3 : w.cell? ⟨g, o + 4 + 3, none⟩ = some (.int .i64 (E.getD 1 e0).c) := f3'
      have HON := hide (thr_on (N := N) (a := a) hlt)
      have HNO := hide (thr_no (N := N) (a := a) hlt)
      rw [← HT.out] at HON HNO
      clear f1' f3' HC f1 HT C0
      have d1 : decide ((1 : Int) < (E.length : Int)) = true := by simp; omega
      generalize (E.getD 1 e0).t = et at *
      generalize (E.getD 1 e0).c = ec at *
      have C1 := hide (CN.out et)
      clear CN
      generalize nd N et = x at *
      by_cases hcc : ec = 2
      · subst hcc
        by_cases hx : x = a
        · subst hx
          have HJ := hide (HON.out ⟨rfl, rfl⟩)
          clear HON HNO
          go_wp2_with fail
          refine C1.out.mono ?_
          rintro e w' ⟨rfl, rfl⟩
          go_wp2_with fail
          go_step3
          exact ⟨rfl, 2, _, _, _, _, _, _, _, _, _, _, _, _, _, _, _, _, _, _, _, _, _, _, _, _, _, _, _, _, _, _, _, _, _, _, rfl, by omega, by omega, HJ.out, rfl⟩
        · have hb : (x == a) = false := by simpa using hx
          have HJ := hide (HNO.out (fun z => hx z.2))
          clear HON HNO hx
          go_wp2_with fail
          refine C1.out.mono ?_
          rintro e w' ⟨rfl, rfl⟩
          go_wp2_with fail
          simp only [Exit.jump]
          go_ret
          exact ⟨by rw [HJ.out]; rfl, rfl⟩
      · have hb : (ec == 2) = false := by simpa using hcc
        have HJ := hide (HNO.out (fun z => hcc z.1))
        clear HON HNO hcc C1
        go_wp2_with fail
        simp only [Exit.jump]
        go_ret
        exact ⟨by rw [HJ.out]; rfl, rfl⟩
    · have hE : E.length = 1 := by omega
      have HJ : Hid (T = 1) := hide (by rw [HT.out, thr_end hE.symm])
      have d1 : decide ((1 : Int) < (E.length : Int)) = false := by simp; omega
      clear HC CN C0 HT
      go_wp2_with fail
      simp only [Exit.jump]
      go_ret
      exact ⟨by rw [HJ.out]; rfl, rfl⟩
  · rintro b wr ⟨m, u7, u8, u9, u10, u11, u12, u13, u14, u15, u16, u17, u18, u19, u20, u21, u22, u23, u24, u25, u26, u27, u28, u29, u30, u31, u32, u33, u34, u35, u36, u37, u38, u39, u40, rfl, hm1, hm, hT, rfl⟩
    by_cases hlt : m < E.length
    · obtain ⟨_, f1', _, f3'⟩ := HC.out m hlt
      have q1 : wr.cell? ⟨g, o + m * 4 + 1, none⟩ = some (.int .i64 (E.getD m e0).t) := f1'
      have q3 : wr.cell? ⟨g, o + m * 4 + 3, none⟩ = some (.int .i64 (E.getD m e0).c) := f3'
      have HON := hide (thr_on (N := N) (a := a) hlt)
      have HNO := hide (thr_no (N := N) (a := a) hlt)
      rw [← hT] at HON HNO
      clear f1' f3' HC f1 HT C0
      have d1 : decide ((m : Int) < (E.length : Int)) = true := by simpa using hlt
      generalize (E.getD m e0).t = et at *
      generalize (E.getD m e0).c = ec at *
      have C1 := hide (CN.out et)
      clear CN
      generalize nd N et = x at *
      by_cases hcc : ec = m + 1
      · subst hcc
        by_cases hx : x = a
        · subst hx
          have HJ := hide (HON.out ⟨rfl, rfl⟩)
          clear HON HNO
          go_wp2_with fail
          refine C1.out.mono ?_
          rintro e w' ⟨rfl, rfl⟩
          go_wp2_with fail
          go_step3
          exact ⟨rfl, ⟨m + 1, _, _, _, _, _, _, _, _, _, _, _, _, _, _, _, _, _, _, _, _, _, _, _, _, _, _, _, _, _, _, _, _, _, _, rfl, by omega, by omega, HJ.out, rfl⟩, by simp [intOf]; omega⟩
        · have hb : (x == a) = false := by simpa using hx
          have HJ := hide (HNO.out (fun z => hx z.2))
          clear HON HNO hx
          go_wp2_with fail
          refine C1.out.mono ?_
          rintro e w' ⟨rfl, rfl⟩
          go_wp2_with fail
          simp only [Exit.jump]
          go_ret
          exact ⟨by rw [HJ.out]; rfl, rfl⟩
      · have hb : (ec == (m : Int) + 1) = false := by simpa using hcc
        have HJ := hide (HNO.out (fun z => hcc z.1))
        clear HON HNO hcc C1
        go_wp2_with fail
        simp only [Exit.jump]
        go_ret
        exact ⟨by rw [HJ.out]; rfl, rfl⟩
    · obtain rfl : m = E.length := by omega
      have HJ : Hid (T = E.length) := hide (by rw [hT, thr_end rfl])
      clear hT HC CN C0 HT
      go_wp2_with fail
      simp only [Exit.jump]
      go_ret
      exact ⟨by rw [HJ.out]; rfl, rfl⟩
end
end Go.Proofs.Ytpmnmckamgdbcaa
