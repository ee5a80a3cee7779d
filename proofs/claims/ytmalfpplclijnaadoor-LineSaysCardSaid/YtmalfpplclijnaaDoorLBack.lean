/- LineSays and LineBack, walked. -/
import Derived.Test.YtmalfpplclijnaaDoorLLaws
import Derived.Deep.RegionHeld3
import Derived.Deep.RegionWith
import Derived.Deep.DeepMust
import Derived.Deep.DeepFit
namespace Go.Proofs.YtmalfpplclijnaaDoor
open Go.RowKit

section
variable (w : World)
set_option maxHeartbeats 4000000
theorem says_c (s : ByteArray) (v : Value) (l : List (List UInt8)) (hs : s.size ≤ maxLen) (hv : Strs w v l) : Calls Tryd.prog 4 #[.string s, v] w fun e w' => e = .returned (.bool true) ∧ Kept Nil w w' := by
  unfold maxLen at hs
  have HV := hide hv
  by_cases h300 : 300 < s.size
  · have ca := awake_c w
    clear hv
    go_enter Tryd.func4, Tryd.ntmps4
    go_wp2_with fail
    refine ca.mono ?_
    rintro e w1 ⟨rfl, hk⟩
    have HK := hide hk
    clear hk
    go_wp2_with fail
    go_ret
    exact ⟨rfl, HK.out⟩
  · have cf := few_c w hv
    clear hv
    go_enter Tryd.func4, Tryd.ntmps4
    go_wp2_with fail
    refine cf.mono ?_
    rintro e w1 ⟨⟨b, rfl, hb⟩, rfl⟩
    cases b with
    | false =>
      clear hb
      go_wp2_with fail
      refine (awake_c w).mono ?_
      rintro e w1 ⟨rfl, hk⟩
      have HK := hide hk
      clear hk
      go_wp2_with fail
      go_ret
      exact ⟨rfl, HK.out⟩
    | true =>
      have HB := hide (hb rfl)
      clear hb
      have hl1 := lns_len s.data.toList
      have hl2 := wds_len s.data.toList
      rw [dlen] at hl1 hl2
      have HL := hide (And.intro (show (lns s.data.toList).length ≤ 65536 by omega) (show (wds s.data.toList).length ≤ 65536 by omega))
      clear hl1 hl2
      go_wp2_with fail
      refine (hd_c w s (by omega)).mono ?_
      rintro e w1 ⟨rfl, hk⟩
      have H1 := hide hk
      clear hk
      go_wp2_with fail
      refine (rhead_c w1 s (by omega)).mono ?_
      rintro e w2 ⟨rfl, q, rfl⟩
      have H2 := hide (H1.out.drewN q)
      generalize hw s.data.toList = x at *
      generalize hr s.data.toList = y at *
      generalize w1.drewN q = w2 at *
      go_wp2_with fail
      refine (lines_c w2 s (by omega)).mono ?_
      rintro e w3 ⟨v3, rfl, hv, hk⟩
      have H3 := hide (And.intro (H2.out.trans hk (fun _ _ h => h)) hv)
      clear hv hk
      go_wp2_with fail
      refine (rlines_c w3 s (by omega)).mono ?_
      rintro e w4 ⟨v4, rfl, hv, hk⟩
      have H4 := hide (And.intro (H3.out.1.trans hk (fun _ _ h => h)) (And.intro (H3.out.2.kept hk) hv))
      clear hv hk
      go_wp2_with fail
      refine (same_strs w4 H4.out.2.1 H4.out.2.2 HL.out.1).mono ?_
      rintro e w5 ⟨rfl, q, rfl⟩
      have H5 := hide (H4.out.1.drewN q)
      generalize w4.drewN q = w5 at *
      go_wp2_with fail
      refine (words_c w5 s (by omega)).mono ?_
      rintro e w6 ⟨v6, rfl, hv, hk⟩
      have H6 := hide (And.intro (H5.out.trans hk (fun _ _ h => h)) hv)
      clear hv hk
      go_wp2_with fail
      refine (rwords_c w6 s (by omega)).mono ?_
      rintro e w7 ⟨v7, rfl, hv, hk⟩
      have H7 := hide (And.intro (H6.out.1.trans hk (fun _ _ h => h)) (And.intro (H6.out.2.kept hk) hv))
      clear hv hk
      go_wp2_with fail
      refine (same_strs w7 H7.out.2.1 H7.out.2.2 HL.out.2).mono ?_
      rintro e w8 ⟨rfl, q, rfl⟩
      have H8 := hide (H7.out.1.drewN q)
      generalize w7.drewN q = w8 at *
      have ct := ltext_c w8 (HV.out.kept H8.out) (by have := HB.out.1; omega) (fun a ha => by have := HB.out.2 a ha; omega)
      go_wp2_with fail
      refine ct.mono ?_
      rintro e w9 ⟨rfl, hk⟩
      have H9 := hide (H8.out.trans hk (fun _ _ h => h))
      clear hk
      have cr := rltext_c w9 (HV.out.kept H9.out) (by have := HB.out.1; omega) (fun a ha => by have := HB.out.2 a ha; omega)
      go_wp2_with fail
      refine cr.mono ?_
      rintro e wa ⟨rfl, rfl⟩
      go_wp2_with fail
      refine (awake_c w9).mono ?_
      rintro e wb ⟨rfl, hk⟩
      have HB2 := hide (H9.out.trans hk (fun _ _ h => h))
      clear hk
      go_wp2_with fail
      go_ret
      exact ⟨rfl, HB2.out⟩
theorem take_more {l : List (List UInt8)} {k : Nat} (hlt : k < l.length) (hno : ∀ a ∈ l.take k, (10 : UInt8) ∉ a) (x : List UInt8) (hx : l.getD k [] = x) (h1 : (10 : UInt8) ∉ x) : ∀ a ∈ l.take (k + 1), (10 : UInt8) ∉ a := by
  intro a ha
  rw [List.take_succ_eq_append_getElem hlt] at ha
  rcases List.mem_append.1 ha with h | h
  · exact hno a h
  · simp at h
    have : l.getD k [] = l[k] := by simp [List.getD, hlt]
    rw [h, ← this, hx]
    exact h1
/-- All but the first one: wherever it lies. -/
theorem tail_slice {W : World} {g o c : Nat} {T : List (List UInt8)} (hc : T.length + 1 ≤ c) (ht : Strs W (.slice (some ⟨g, o + 1, none⟩) T.length (c - 1)) T) :
    ∃ A', (∀ W, (Instr.slice 22 (.slice (some ⟨g, o, none⟩) (T.length + 1) c) (some (.int .i64 1)) none none).run Tryd.prog W = .ok (.slice A' T.length (c - 1)) W) ∧ Strs W (.slice A' T.length (c - 1)) T := by
  have he : Tryd.prog.elem 22 = 9 := by kernel_rfl
  have hz : ∀ W : World, (sizeOf 9).run Tryd.prog W = .ok 1 W := fun W => by kernel_rfl
  by_cases h1 : c = 1
  · have h0 : T.length = 0 := by omega
    have : T = [] := List.eq_nil_of_length_eq_zero h0
    subst this
    subst h1
    refine ⟨some ⟨g, o, none⟩, fun W => ?_, Strs.nil _ _ _⟩
    rw [run_slice_l W 22 _ _ _ (by rw [he]; exact Tryd.underlying22) .i64 1 (by omega) (by simp), he, hz]
    rfl
  · refine ⟨some ⟨g, o + 1, none⟩, fun W => ?_, ht⟩
    rw [run_slice_l W 22 _ _ _ (by rw [he]; exact Tryd.underlying22) .i64 1 (by omega) (by omega), he, hz]
    simp [Result.andThen, sliced, h1, Addr.add]
theorem back_c (v : Value) (l : List (List UInt8)) (s : ByteArray) (hs : s.size ≤ maxLen) (hv : Strs w v l) : Calls Tryd.prog 3 #[v, .string s] w fun e w' => e = .returned (.bool true) ∧ Kept Nil w w' := by
  unfold maxLen at hs
  have HV := hide hv
  have cf := few_c w hv
  obtain ⟨A, c, rfl, hlc, hp⟩ := hv
  have HP := hide (And.intro hlc hp)
  clear hp hlc
  go_enter Tryd.func3, Tryd.ntmps3
  go_wp2_with fail
  refine cf.mono ?_
  rintro e w1 ⟨⟨b, rfl, hb⟩, rfl⟩
  cases b with
  | false =>
    clear hb
    go_wp2_with fail
    refine (awake_c w).mono ?_
    rintro e w1 ⟨rfl, hk⟩
    have HK := hide hk
    clear hk
    go_wp2_with fail
    go_ret
    exact ⟨rfl, HK.out⟩
  | true =>
    have HB := hide (hb rfl)
    clear hb
    by_cases h300 : 300 < s.size
    · go_wp2_with fail
      refine (awake_c w).mono ?_
      rintro e w1 ⟨rfl, hk⟩
      have HK := hide hk
      clear hk
      go_wp2_with fail
      go_ret
      exact ⟨rfl, HK.out⟩
    · go_wp2_with fail
      refine (hd_c w s (by omega)).mono ?_
      rintro e w1 ⟨rfl, hk⟩
      have H1 := hide hk
      clear hk
      go_wp2_with fail
      refine (words_c w1 s (by omega)).mono ?_
      rintro e w2 ⟨v2, rfl, hv2, hk⟩
      have H2 := hide (H1.out.trans hk (fun _ _ h => h))
      clear hk
      by_cases hn : hw s.data.toList = []
      · rw [wds_nil hn] at hv2
        rw [hn]
        obtain ⟨A2, c2, rfl, _, _⟩ := hv2
        go_wp2_with fail
        go_quiet (fail)
        have HK := hide (H2.out.drewN nq)
        generalize w2.drewN nq = w3 at *
        go_wp2_with fail
        go_loopw [8] (fun i wr => ∃ k : Nat, k ≤ l.length ∧ i = .int .i64 k ∧ wr = w3 ∧ ∀ a ∈ l.take k, (10 : UInt8) ∉ a) (fun i _ => l.length - (intOf i).toNat)
        case atStart => exact ⟨0, Nat.zero_le _, rfl, rfl, by simp⟩
        case round =>
          obtain ⟨k, hk, rfl, rfl, hno⟩ := hrel
          have HN := hide hno
          clear hno
          by_cases hlt : k < l.length
          · obtain ⟨g1, o1, hA, _, hc⟩ := HP.out.2 (by omega)
            subst hA
            have c1 := (HK.out.cell (p := ⟨g1, o1 + k, none⟩) (by assumption) (fun c => c)).trans (hc k hlt)
            have hgl := getD_len l HB.out.2 hlt
            have HT : Hid (∀ x, l.getD k [] = x → (10 : UInt8) ∉ x → ∀ a ∈ l.take (k + 1), (10 : UInt8) ∉ a) := hide (take_more hlt HN.out)
            clear hc
            obtain ⟨x, hx⟩ : ∃ x, l.getD k [] = x := ⟨_, rfl⟩
            rw [hx] at c1 hgl
            have HX := hide (HT.out x hx)
            clear hx HT
            have ch := has_c wr ⟨x.toArray⟩ (by rw [mk_size]; omega)
            have ch2 : Calls Tryd.prog 10 #[.string ⟨x.toArray⟩, .int .u8 10] wr fun e w' => e = .returned (.bool (x.contains 10)) ∧ wr = w' := ch
            clear ch
            unfold sv at c1
            cases hin : x.contains 10 with
            | true =>
              rw [hin] at ch2
              clear hin
              go_wp2_with fail
              refine ch2.mono ?_
              rintro e w5 ⟨rfl, rfl⟩
              go_wp2_with fail
              refine (awake_c wr).mono ?_
              rintro e w6 ⟨rfl, hk6⟩
              have H6 := hide (HK.out.trans hk6 (fun _ _ h => h))
              clear hk6
              go_wp2_with fail
              go_ret
              exact ⟨rfl, H6.out⟩
            | false =>
              rw [hin] at ch2
              have HM := hide (HX.out (by intro hm; rw [List.contains_iff_mem.2 hm] at hin; cases hin))
              clear hin
              go_wp2_with fail
              refine ch2.mono ?_
              rintro e w5 ⟨rfl, rfl⟩
              have h20 := HB.out.1
              go_wp2_with fail
              go_roundw
              case rel => exact ⟨k + 1, by omega, by go_num, by first | rfl | trivial, HM.out⟩
              case measure => simp [intOf]; omega
          · obtain rfl : k = l.length := by omega
            have HL := hide (lns_ltext (l := l) (by have := HN.out; rwa [List.take_length] at this))
            have ct := ltext_c wr (HV.out.kept HK.out) (by have := HB.out.1; omega) (fun a ha => by have := HB.out.2 a ha; omega)
            have hsz : (⟨(ltext l).toArray⟩ : ByteArray).size ≤ 65536 := by
              rw [mk_size]
              have h1 := ltext_len l 100 HB.out.2
              have h2 := HB.out.1
              omega
            have HZ := hide hsz
            clear hsz
            go_wp2_with fail
            refine ct.mono ?_
            rintro e w5 ⟨rfl, hk5⟩
            have H5 := hide (HK.out.trans hk5 (fun _ _ h => h))
            clear hk5
            go_wp2_with fail
            refine (lines_c w5 _ HZ.out).mono ?_
            rintro e w6 ⟨v6, rfl, hv6, hk6⟩
            have H6 := hide (And.intro (H5.out.trans hk6 (fun _ _ h => h)) (show Strs w6 v6 l from HL.out ▸ hv6))
            clear hk6 hv6
            go_wp2_with fail
            refine (same_strs w6 H6.out.2 (HV.out.kept H6.out.1) (by have := HB.out.1; omega)).mono ?_
            rintro e w7 ⟨rfl, q, rfl⟩
            have H7 := hide (H6.out.1.drewN q)
            generalize w6.drewN q = w7 at *
            go_wp2_with fail
            refine (awake_c w7).mono ?_
            rintro e w8 ⟨rfl, hk8⟩
            have H8 := hide (H7.out.trans hk8 (fun _ _ h => h))
            clear hk8
            go_wp2_with fail
            go_ret
            exact ⟨rfl, H8.out⟩
      · have HWL := hide (show (wds (hr s.data.toList)).length ≤ 65536 by have h1 := wds_len (hr s.data.toList); have h2 := hr_le s.data.toList; rw [dlen] at h2; omega)
        have HRL := hide (show (⟨(hr s.data.toList).toArray⟩ : ByteArray).size ≤ 65536 by rw [mk_size]; have h2 := hr_le s.data.toList; rw [dlen] at h2; omega)
        rw [wds_cons hn] at hv2
        have hne := sv_ne hn
        have hne2 : (hw s.data.toList).isEmpty = false := by simpa using hn
        have cW := hide fun (W : World) (k : Kept Nil w2 W) => ((words_c W ⟨(hr s.data.toList).toArray⟩ HRL.out).mono (R' := fun e w' => ∃ v, e = .returned v ∧ Strs w' v (wds (hr s.data.toList)) ∧ Kept Nil w2 w') (fun e w' ⟨v, h1, h2, h3⟩ => ⟨v, h1, h2, k.trans h3 (fun _ _ x => x)⟩))
        generalize hw s.data.toList = x at *
        generalize hr s.data.toList = y at *
        generalize wds y = T at *
        clear hn
        obtain ⟨A2, c2, rfl, _, _⟩ := (show Strs w2 v2 (x :: T) from hv2)
        obtain ⟨g, o, rfl, hn2, hc2, hcell, htl⟩ := hv2.tail
        rw [hn2] at hc2
        obtain ⟨A3, hsl, hA3⟩ := tail_slice hc2 htl
        have HA3 := hide hA3
        have hgl : g < w2.heap.size := World.block_lt_of_cell? _ _ hcell
        have cS := hide fun (W : World) (v : Value) (k : Kept Nil w2 W) (hv : Strs W v T) => ((same_strs W (HA3.out.kept k) hv HWL.out).mono (R' := fun e w' => e = .returned (.bool true) ∧ Kept Nil w2 w') (fun e w' ⟨h1, n, h3⟩ => ⟨h1, by subst h3; exact k.drewN n⟩))
        have CELLS := hide fun (W : World) (k : Kept Nil w2 W) => (k.cell (p := ⟨g, o, none⟩) hgl (fun c => c)).trans hcell
        have hK : Kept Nil w2 w2.drew := (Kept.refl _ w2).drew
        have hcell2 := CELLS.out _ hK
        unfold sv at CELLS hcell hcell2
        simp only [List.length_cons]
        clear hv2 hA3 htl hn2
        go_wp2_with fail
        have hq1 : ((T.length : Int) + 1 == 0) = false := beq_eq_false_iff_ne.2 (by omega)
        have hq2 : ((T.length : Int) + 1 != 0) = true := by rw [bne, hq1]; rfl
        refine wp_region_held_drew (S := fun W => W.cell? ⟨g, o, none⟩ = some (.string ⟨x.toArray⟩)) (by kernel_rfl) (CELLS.out _ (Kept.refl _ w2).drew) (fun hHeld => ?_)
        refine wpAnyH_take (i := 0) (v := .string ⟨x.toArray⟩) rfl (by kernel_rfl) (by kernel_rfl) (by kernel_rfl) (fun _ _ _ h => h) (Or.inl ⟨by kernel_rfl, fun W hSw => ?_⟩) (by assumption) ?_
        · go_simp
        try simp only [Act.put, List.setIfInBounds_toArray]
        refine wpAnyH_take (i := 1) (v := .bool false) rfl (by kernel_rfl) (by kernel_rfl) (by kernel_rfl) (fun _ _ _ h => h) (Or.inl ⟨by kernel_rfl, fun W hSw => ?_⟩) (by assumption) ?_
        · go_simp
        try simp only [Act.put]
        refine wpAnyH_take (i := 2) (v := .bool false) rfl (by kernel_rfl) (by kernel_rfl) (by kernel_rfl) (fun _ _ _ h => h) (Or.inl ⟨by kernel_rfl, fun W hSw => ?_⟩) (by assumption) ?_
        · go_simp
        try simp only [Act.put]
        refine wpAnyH_take (i := 3) (v := undef) rfl (by kernel_rfl) (by kernel_rfl) (by kernel_rfl) (fun _ _ _ h => h) (Or.inr ⟨by kernel_rfl, rfl⟩) (by assumption) ?_
        try simp only [Act.put]
        refine wpAnyH_take (i := 4) (v := undef) rfl (by kernel_rfl) (by kernel_rfl) (by kernel_rfl) (fun _ _ _ h => h) (Or.inr ⟨by kernel_rfl, rfl⟩) (by assumption) ?_
        try simp only [Act.put]
        refine wpAnyH_take (i := 5) (v := undef) rfl (by kernel_rfl) (by kernel_rfl) (by kernel_rfl) (fun _ _ _ h => h) (Or.inr ⟨by kernel_rfl, rfl⟩) (by assumption) ?_
        try simp only [Act.put]
        refine wpAnyH_take (i := 6) (v := .bool false) rfl (by kernel_rfl) (by kernel_rfl) (by kernel_rfl) (fun _ _ _ h => h) (Or.inl ⟨by kernel_rfl, fun W hSw => ?_⟩) (by assumption) ?_
        · go_simp
        try simp only [Act.put]
        refine wpAnyH_take (i := 7) (v := .bool false) rfl (by kernel_rfl) (by kernel_rfl) (by kernel_rfl) (fun _ _ _ h => h) (Or.inl ⟨by kernel_rfl, fun W hSw => ?_⟩) (by assumption) ?_
        · go_simp
        try simp only [Act.put]
        refine wpAnyH_take (i := 8) (v := .string ⟨x.toArray⟩) rfl (by kernel_rfl) (by kernel_rfl) (by kernel_rfl) (fun _ _ _ h => h) (Or.inl ⟨by kernel_rfl, fun W hSw => ?_⟩) (by assumption) ?_
        · go_simp
        try simp only [Act.put]
        refine wpAnyH_take (i := 9) (v := .bool true) rfl (by kernel_rfl) (by kernel_rfl) (by kernel_rfl) (fun _ _ _ h => h) (Or.inl ⟨by kernel_rfl, fun W hSw => ?_⟩) (by assumption) ?_
        · go_simp
        try simp only [Act.put]
        refine wpAnyH_take (i := 10) (v := .bool true) rfl (by kernel_rfl) (by kernel_rfl) (by kernel_rfl) (fun _ _ _ h => h) (Or.inl ⟨by kernel_rfl, fun W hSw => ?_⟩) (by assumption) ?_
        · go_simp
        try simp only [Act.put]
        refine wpAnyH_take (i := 11) (v := .slice (some ⟨g, o, none⟩) (T.length + 1) c2) rfl (by kernel_rfl) (by kernel_rfl) (by kernel_rfl) (fun _ _ _ h => h) (Or.inl ⟨by kernel_rfl, fun W hSw => ?_⟩) (by assumption) ?_
        · go_simp
        try simp only [Act.put]
        refine wpAnyH_take (i := 12) (v := .int .i64 ((T.length : Int) + 1)) rfl (by kernel_rfl) (by kernel_rfl) (by kernel_rfl) (fun _ _ _ h => h) (Or.inl ⟨by kernel_rfl, fun W hSw => ?_⟩) (by assumption) ?_
        · go_simp
        try simp only [Act.put]
        refine wpAnyH_take (i := 13) (v := .bool false) rfl (by kernel_rfl) (by kernel_rfl) (by kernel_rfl) (fun _ _ _ h => h) (Or.inl ⟨by kernel_rfl, fun W hSw => ?_⟩) (by assumption) ?_
        · go_simp
        try simp only [Act.put]
        refine wpAnyH_take (i := 14) (v := .bool false) rfl (by kernel_rfl) (by kernel_rfl) (by kernel_rfl) (fun _ _ _ h => h) (Or.inl ⟨by kernel_rfl, fun W hSw => ?_⟩) (by assumption) ?_
        · go_simp
        try simp only [Act.put]
        refine wpAnyH_take (i := 15) (v := .slice (some ⟨g, o, none⟩) (T.length + 1) c2) rfl (by kernel_rfl) (by kernel_rfl) (by kernel_rfl) (fun _ _ _ h => h) (Or.inl ⟨by kernel_rfl, fun W hSw => ?_⟩) (by assumption) ?_
        · go_simp
        try simp only [Act.put]
        refine wpAnyH_take (i := 16) (v := .pointer (some ⟨g, o, none⟩)) rfl (by kernel_rfl) (by kernel_rfl) (by kernel_rfl) (fun _ _ _ h => h) (Or.inl ⟨by kernel_rfl, fun W hSw => ?_⟩) (by assumption) ?_
        · go_simp
        try simp only [Act.put]
        refine wpAnyH_take (i := 17) (v := .string ⟨x.toArray⟩) rfl (by kernel_rfl) (by kernel_rfl) (by kernel_rfl) (fun _ _ _ h => h) (Or.inl ⟨by kernel_rfl, fun W hSw => ?_⟩) (by assumption) ?_
        · go_simp
        try simp only [Act.put]
        refine wpAnyH_take (i := 18) (v := .string ⟨x.toArray⟩) rfl (by kernel_rfl) (by kernel_rfl) (by kernel_rfl) (fun _ _ _ h => h) (Or.inl ⟨by kernel_rfl, fun W hSw => ?_⟩) (by assumption) ?_
        · go_simp
        try simp only [Act.put]
        refine wpAnyH_take (i := 19) (v := .bool false) rfl (by kernel_rfl) (by kernel_rfl) (by kernel_rfl) (fun _ _ _ h => h) (Or.inl ⟨by kernel_rfl, fun W hSw => ?_⟩) (by assumption) ?_
        · go_simp
        try simp only [Act.put]
        refine wpAnyH_take (i := 20) (v := .bool false) rfl (by kernel_rfl) (by kernel_rfl) (by kernel_rfl) (fun _ _ _ h => h) (Or.inl ⟨by kernel_rfl, fun W hSw => ?_⟩) (by assumption) ?_
        · go_simp
        try simp only [Act.put]
        refine wpAnyH_take (i := 21) (v := .bool false) rfl (by kernel_rfl) (by kernel_rfl) (by kernel_rfl) (fun _ _ _ h => h) (Or.inl ⟨by kernel_rfl, fun W hSw => ?_⟩) (by assumption) ?_
        · go_simp
        try simp only [Act.put]
        refine wpAnyH_take (i := 22) (v := .slice (some ⟨g, o, none⟩) (T.length + 1) c2) rfl (by kernel_rfl) (by kernel_rfl) (by kernel_rfl) (fun _ _ _ h => h) (Or.inl ⟨by kernel_rfl, fun W hSw => ?_⟩) (by assumption) ?_
        · go_simp
        try simp only [Act.put]
        refine wpAnyH_take (i := 23) (v := .slice A3 T.length (c2 - 1)) rfl (by kernel_rfl) (by kernel_rfl) (by kernel_rfl) (fun _ _ _ h => h) (Or.inl ⟨by kernel_rfl, fun W hSw => ?_⟩) (by assumption) ?_
        · go_simp
        try simp only [Act.put]
        refine wpAnyH_take (i := 24) (v := .string ⟨y.toArray⟩) rfl (by kernel_rfl) (by kernel_rfl) (by kernel_rfl) (fun _ _ _ h => h) (Or.inl ⟨by kernel_rfl, fun W hSw => ?_⟩) (by assumption) ?_
        · go_simp
        try simp only [Act.put]
        refine wpAnyH_ready (rs := [25]) (by kernel_rfl) (by simp) ?_
        refine AllReadyH.cons rfl (fun K hK => ?_) AllReadyH.nil
        go_simp
        (go_at_call 8; refine (cW.out _ (by assumption)).mono ?_; rintro e w3 ⟨v3, rfl, hv3, hk3⟩)
        refine hK.out _ _ (CELLS.out _ (by assumption)) (fun hHeld => ?_)
        clear hK K
        try simp only [Act.put, List.setIfInBounds_toArray, List.set_cons_zero, List.set_cons_succ]
        refine wpAnyH_ready (rs := [26]) (by kernel_rfl) (by simp) ?_
        refine AllReadyH.cons rfl (fun K hK => ?_) AllReadyH.nil
        go_simp
        (go_at_call 9; refine (cS.out _ _ (by assumption) (by assumption)).mono ?_; rintro e w4 ⟨rfl, hk4⟩)
        refine hK.out _ _ (CELLS.out _ (by assumption)) (fun hHeld => ?_)
        clear hK K
        try simp only [Act.put, List.setIfInBounds_toArray, List.set_cons_zero, List.set_cons_succ]
        refine wpAnyH_take (i := 27) (v := .bool false) rfl (by kernel_rfl) (by kernel_rfl) (by kernel_rfl) (fun _ _ _ h => h) (Or.inl ⟨by kernel_rfl, fun W hSw => ?_⟩) (by assumption) ?_
        · go_simp
        try simp only [Act.put, List.setIfInBounds_toArray]
        refine wpAnyH_take (i := 28) (v := .bool false) rfl (by kernel_rfl) (by kernel_rfl) (by kernel_rfl) (fun _ _ _ h => h) (Or.inl ⟨by kernel_rfl, fun W hSw => ?_⟩) (by assumption) ?_
        · go_simp
        try simp only [Act.put]
        refine wpAnyH_take (i := 29) (v := .bool false) rfl (by kernel_rfl) (by kernel_rfl) (by kernel_rfl) (fun _ _ _ h => h) (Or.inl ⟨by kernel_rfl, fun W hSw => ?_⟩) (by assumption) ?_
        · go_simp
        try simp only [Act.put]
        refine wpAnyH_take (i := 30) (v := .bool false) rfl (by kernel_rfl) (by kernel_rfl) (by kernel_rfl) (fun _ _ _ h => h) (Or.inl ⟨by kernel_rfl, fun W hSw => ?_⟩) (by assumption) ?_
        · go_simp
        try simp only [Act.put]
        refine wpAnyH_done (by kernel_rfl) ?_ _
        have HK := hide (H2.out.trans hk4 (fun _ _ h => h))
        clear hk4 hk3 hv3 hcell hcell2 hK hsl hHeld
        go_wp2_with fail
        go_loopw [8] (fun i wr => ∃ k : Nat, k ≤ l.length ∧ i = .int .i64 k ∧ wr = w4 ∧ ∀ a ∈ l.take k, (10 : UInt8) ∉ a) (fun i _ => l.length - (intOf i).toNat)
        case atStart => exact ⟨0, Nat.zero_le _, rfl, rfl, by simp⟩
        case round =>
          obtain ⟨k, hk, rfl, rfl, hno⟩ := hrel
          have HN := hide hno
          clear hno
          by_cases hlt : k < l.length
          · obtain ⟨g1, o1, hA, _, hc⟩ := HP.out.2 (by omega)
            subst hA
            have c1 := (HK.out.cell (p := ⟨g1, o1 + k, none⟩) (by assumption) (fun c => c)).trans (hc k hlt)
            have hgl := getD_len l HB.out.2 hlt
            have HT : Hid (∀ x, l.getD k [] = x → (10 : UInt8) ∉ x → ∀ a ∈ l.take (k + 1), (10 : UInt8) ∉ a) := hide (take_more hlt HN.out)
            clear hc
            obtain ⟨x, hx⟩ : ∃ x, l.getD k [] = x := ⟨_, rfl⟩
            rw [hx] at c1 hgl
            have HX := hide (HT.out x hx)
            clear hx HT
            have ch := has_c wr ⟨x.toArray⟩ (by rw [mk_size]; omega)
            have ch2 : Calls Tryd.prog 10 #[.string ⟨x.toArray⟩, .int .u8 10] wr fun e w' => e = .returned (.bool (x.contains 10)) ∧ wr = w' := ch
            clear ch
            unfold sv at c1
            cases hin : x.contains 10 with
            | true =>
              rw [hin] at ch2
              clear hin
              go_wp2_with fail
              refine ch2.mono ?_
              rintro e w5 ⟨rfl, rfl⟩
              go_wp2_with fail
              refine (awake_c wr).mono ?_
              rintro e w6 ⟨rfl, hk6⟩
              have H6 := hide (HK.out.trans hk6 (fun _ _ h => h))
              clear hk6
              go_wp2_with fail
              go_ret
              exact ⟨rfl, H6.out⟩
            | false =>
              rw [hin] at ch2
              have HM := hide (HX.out (by intro hm; rw [List.contains_iff_mem.2 hm] at hin; cases hin))
              clear hin
              go_wp2_with fail
              refine ch2.mono ?_
              rintro e w5 ⟨rfl, rfl⟩
              have h20 := HB.out.1
              go_wp2_with fail
              go_roundw
              case rel => exact ⟨k + 1, by omega, by go_num, by first | rfl | trivial, HM.out⟩
              case measure => simp [intOf]; omega
          · obtain rfl : k = l.length := by omega
            have HL := hide (lns_ltext (l := l) (by have := HN.out; rwa [List.take_length] at this))
            have ct := ltext_c wr (HV.out.kept HK.out) (by have := HB.out.1; omega) (fun a ha => by have := HB.out.2 a ha; omega)
            have hsz : (⟨(ltext l).toArray⟩ : ByteArray).size ≤ 65536 := by
              rw [mk_size]
              have h1 := ltext_len l 100 HB.out.2
              have h2 := HB.out.1
              omega
            have HZ := hide hsz
            clear hsz
            go_wp2_with fail
            refine ct.mono ?_
            rintro e w5 ⟨rfl, hk5⟩
            have H5 := hide (HK.out.trans hk5 (fun _ _ h => h))
            clear hk5
            go_wp2_with fail
            refine (lines_c w5 _ HZ.out).mono ?_
            rintro e w6 ⟨v6, rfl, hv6, hk6⟩
            have H6 := hide (And.intro (H5.out.trans hk6 (fun _ _ h => h)) (show Strs w6 v6 l from HL.out ▸ hv6))
            clear hk6 hv6
            go_wp2_with fail
            refine (same_strs w6 H6.out.2 (HV.out.kept H6.out.1) (by have := HB.out.1; omega)).mono ?_
            rintro e w7 ⟨rfl, q, rfl⟩
            have H7 := hide (H6.out.1.drewN q)
            generalize w6.drewN q = w7 at *
            go_wp2_with fail
            refine (awake_c w7).mono ?_
            rintro e w8 ⟨rfl, hk8⟩
            have H8 := hide (H7.out.trans hk8 (fun _ _ h => h))
            clear hk8
            go_wp2_with fail
            go_ret
            exact ⟨rfl, H8.out⟩
end
end Go.Proofs.YtmalfpplclijnaaDoor
