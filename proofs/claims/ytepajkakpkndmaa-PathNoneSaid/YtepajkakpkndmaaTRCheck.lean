/- Contracts of the document's leaf, deep, Check. -/
import Derived.Test.YtepajkakpkndmaaTIsTree
namespace Go.Proofs.Ytepajkakpkndmaa
open Go.RowKit
set_option maxRecDepth 100000

theorem all_in2 {l : List Int} {k : Nat} {Q : Int → Prop} (hk : k < l.length) (h : ∀ x ∈ l.take k, Q x) (hx : Q (l.getD k 0)) : ∀ x ∈ l.take (k + 1), Q x := by
  rw [List.take_succ_eq_append_getElem hk]
  intro x hm
  rcases List.mem_append.1 hm with h1 | h1
  · exact h x h1
  · simp at h1
    subst h1
    simpa [List.getD, hk] using hx
theorem leaf_low {P : List Int} {x : Int} (h : x < 0) : (lf P).contains x = false := by
  cases hc : (lf P).contains x with
  | false => rfl
  | true =>
    have := mem_lf.1 (List.contains_iff_mem.1 hc)
    omega
theorem leaf_high {P : List Int} {x : Int} (h : ¬ x < P.length) : (lf P).contains x = false := by
  cases hc : (lf P).contains x with
  | false => rfl
  | true =>
    have := mem_lf.1 (List.contains_iff_mem.1 hc)
    omega
theorem leaf_in {P : List Int} {x : Int} (hp : P.contains x = true) : (lf P).contains x = false := by
  cases hc : (lf P).contains x with
  | false => rfl
  | true => exact absurd (List.contains_iff_mem.1 hp) (mem_lf.1 (List.contains_iff_mem.1 hc)).2.2
theorem leaf_out {P : List Int} {x : Int} (h0 : 0 ≤ x) (h : x < P.length) (hp : P.contains x = false) : (lf P).contains x = true :=
  List.contains_iff_mem.2 (mem_lf.2 ⟨h0, h, by simpa using hp⟩)
theorem leaf_is (P : List Int) {k : Nat} (hk : k < P.length) : (lf P).contains (k : Int) = lfB P k := by
  unfold lfB
  cases hp : P.contains (k : Int) with
  | true => exact leaf_in hp
  | false => exact leaf_out (by omega) (by omega) hp

section
variable {w : World} {v : Value} {P T : List Int}
set_option maxHeartbeats 2000000
theorem leaf_c {b : Bool} (x : Int) (hb : (lf P).contains x = b) (hv : Nums w v P) (hl : P.length ≤ 65536) : Calls Try.prog 41 #[v, .int .i64 x] w fun e w' => e = .returned (.bool b) ∧ w' = w := by
  have HB := hide hb
  have HV := hide hv
  clear hb
  obtain ⟨A, c, rfl, hp⟩ := hv
  clear hp
  by_cases h0 : x < 0
  · have HM := hide (leaf_low (P := P) h0)
    have hd : decide (0 ≤ x) = false := by simpa using h0
    clear h0
    go_enter Try.func41, Try.ntmps41
    go_wp2_with fail
    go_ret
    exact ⟨ret_no HM.out HB.out, rfl⟩
  · have h1 : 0 ≤ x := by omega
    clear h0
    by_cases h2 : x < P.length
    · cases hc : P.contains x with
      | true =>
        have HM := hide (leaf_in hc)
        have cc := rhas_c x hc HV.out hl
        clear hc
        go_enter Try.func41, Try.ntmps41
        go_wp2_with fail
        refine cc.mono ?_
        rintro e w' ⟨rfl, rfl⟩
        go_wp2_with fail
        go_ret
        exact ⟨ret_no HM.out HB.out, rfl⟩
      | false =>
        have HM := hide (leaf_out h1 h2 hc)
        have cc := rhas_c x hc HV.out hl
        clear hc
        go_enter Try.func41, Try.ntmps41
        go_wp2_with fail
        refine cc.mono ?_
        rintro e w' ⟨rfl, rfl⟩
        go_wp2_with fail
        go_ret
        exact ⟨ret_yes HM.out HB.out, rfl⟩
    · have HM := hide (leaf_high h2)
      have hd : decide (x < (P.length : Int)) = false := by simpa using h2
      clear h2
      go_enter Try.func41, Try.ntmps41
      go_wp2_with fail
      go_ret
      exact ⟨ret_no HM.out HB.out, rfl⟩
theorem deep_c {d : Int} (u : Nat) (hd : dv P u = d) (hu : u < P.length) (hf : formB P = true) (hv : Nums w v P) (hl : P.length ≤ 65536) : Calls Try.prog 42 #[v, .int .i64 u] w fun e w' => e = .returned (.int .i64 d) ∧ w' = w := by
  have HF := hide hf
  have hb0 := dv_bound hf u hu
  obtain ⟨A, c, rfl, hp⟩ := hv
  obtain ⟨g, o, rfl, hg, hc⟩ := hp (by omega)
  have HC := hide hc
  rw [hd] at hb0
  have HD := hide hd
  clear hf hp hc hd
  go_enter Try.func42, Try.ntmps42
  go_wp2_with fail
  go_loop [1, 5, 6] (fun i1 i5 i6 => ∃ n : Nat, n ≤ P.length ∧ i5 = .int .i64 n ∧ i6 = .int .i64 n ∧ ((∃ m : Nat, m < P.length ∧ i1 = .int .i64 m ∧ (n : Int) + dv P m = d) ∨ (i1 = .int .i64 (-1) ∧ (n : Int) = d))) (fun _ _ i => P.length - (intOf i).toNat)
  case atStart => exact ⟨0, Nat.zero_le _, rfl, rfl, .inl ⟨u, hu, rfl, by have := HD.out; omega⟩⟩
  case round =>
    obtain ⟨n, hn, rfl, rfl, hrel⟩ := hrel
    rcases hrel with ⟨m, hm, rfl, hs⟩ | ⟨rfl, hs⟩
    · have c1 := HC.out m hm
      have hb1 := dv_bound HF.out m hm
      have hlt : n < P.length := by omega
      rcases Nat.eq_zero_or_pos m with h0 | h0
      · subst h0
        have HE := hide (dv_root HF.out hm)
        rw [form_root HF.out hm, Nat.add_zero] at c1
        have HS := hide hs
        clear hs hb1
        go_wp2_with fail
        go_round
        case rel => exact ⟨n + 1, by omega, by go_num, by go_num, .inr ⟨rfl, by have := HS.out; have := HE.out; omega⟩⟩
        case measure => simp [intOf]; omega
      · have hr := form_par HF.out hm h0
        have HE := hide (dv_par HF.out hm h0)
        obtain ⟨j, hj⟩ : ∃ j : Nat, P.getD m 0 = j := ⟨(P.getD m 0).toNat, by omega⟩
        rw [hj] at c1 hr
        have HJ := hide hj
        have HS := hide hs
        clear hj hs hb1
        go_wp2_with fail
        go_round
        case rel => exact ⟨n + 1, by omega, by go_num, by go_num, .inl ⟨j, by omega, rfl, by have h1 := HS.out; have h2 := HE.out; rw [HJ.out, Int.toNat_natCast] at h2; omega⟩⟩
        case measure => simp [intOf]; omega
    · have HS := hide hs
      clear hs
      by_cases hlt : n < P.length
      · go_wp2_with fail
        go_ret
        exact ⟨by rw [← HS.out]; rfl, rfl⟩
      · obtain rfl : n = P.length := by omega
        go_wp2_with fail
        go_ret
        exact ⟨by rw [← HS.out]; rfl, rfl⟩
end
end Go.Proofs.Ytepajkakpkndmaa
