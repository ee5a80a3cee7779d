/- The law on numbers that come back from their texts, walked. -/
import Derived.Test.YtnacpemhklbiaaaDoorDLaws
namespace Go.Proofs.YtnacpemhklbiaaaDoor
open Go.RowKit

theorem size_mk (l : List UInt8) : (⟨l.toArray⟩ : ByteArray).size = l.length := by
  show l.toArray.size = _
  simp

section
variable (w : World)
set_option maxHeartbeats 800000
theorem bk_parse (n : Int) (hn : InR n) : Calls Tryd.prog 7 #[.string ⟨(txt n).toArray⟩] w fun e w' => e = .returned (.tuple #[.int .i64 n, .int .i64 0]) ∧ w = w' := by
  have hl := txt_len hn
  refine (parse_c _ w (by rw [size_mk]; unfold maxLen; omega)).mono ?_
  rintro e w' ⟨rfl, rfl⟩
  have h : Num n (txt n) := ⟨hn, rfl⟩
  exact ⟨by show Ending.returned (.tuple #[.int .i64 (pn (txt n)), .int .i64 (pe (txt n))]) = _; rw [pn_yes h, pe_yes h], rfl⟩
theorem bk_take (n : Int) (hn : InR n) (s : ByteArray) (hs : s.size ≤ 200) : Calls Tryd.prog 9 #[.string ((⟨(txt n).toArray⟩ : ByteArray) ++ ⟨#[44]⟩ ++ s)] w fun e w' => e = .returned (.tuple #[.int .i64 n, .int .i64 (txt n).length]) ∧ w = w' := by
  have hl := txt_len hn
  have hd : ((⟨(txt n).toArray⟩ : ByteArray) ++ ⟨#[44]⟩ ++ s).data.toList = txt n ++ 44 :: s.data.toList := by simp
  have hsz : ((⟨(txt n).toArray⟩ : ByteArray) ++ ⟨#[44]⟩ ++ s).size ≤ maxLen := by
    have : ((⟨(txt n).toArray⟩ : ByteArray) ++ ⟨#[44]⟩ ++ s).size = ((⟨(txt n).toArray⟩ : ByteArray) ++ ⟨#[44]⟩ ++ s).data.toList.length := rfl
    rw [this, hd]
    simp only [List.length_append, List.length_cons]
    have e : s.data.toList.length = s.size := by simp
    unfold maxLen
    omega
  refine (take_c _ w hsz).mono ?_
  rintro e w' ⟨rfl, rfl⟩
  have h := longest_then hn (c := 44) (by decide) (by decide) s.data.toList
  rw [hd, h.is.1, h.is.2]
  exact ⟨rfl, rfl⟩
theorem bk_numbers (l : List Int) (hl : ∀ n ∈ l, InR n) (h40 : l.length ≤ 40) (hm : MaxL w) : Calls Tryd.prog 10 #[.string ⟨(ltxt l).toArray⟩] w fun e w' => ∃ v, e = .returned (.tuple #[v, .int .i64 0]) ∧ Nums w' v l ∧ Kept Nil w w' := by
  have hlen := ltxt_len l hl
  refine (numbers_c _ w (by rw [size_mk]; omega) hm).mono ?_
  rintro e w' ⟨v, rfl, hv, hk⟩
  have h := lnum_ltxt hl
  have hv' : Nums w' v (lnum (ltxt l)) := hv
  rw [h.1] at hv'
  exact ⟨v, by show Ending.returned (.tuple #[v, .int .i64 (lerr (ltxt l))]) = _; rw [h.2], hv', hk⟩
theorem bk_list (s : ByteArray) (hs : s.size ≤ 200) (he : lerr s.data.toList = 0) {v : Value} (hv : Nums w v (lnum s.data.toList)) : Calls Tryd.prog 11 #[v] w fun e w' => e = .returned (.string s) ∧ Kept Nil w w' := by
  obtain ⟨h1, h2⟩ := ltxt_lnum he
  have hlen : (lnum s.data.toList).length ≤ 65536 := by
    unfold lnum
    have := cut_length s.data.toList
    simp at this
    split
    · simp
    · split <;> simp <;> omega
  have := list_c w hv hlen h2
  rw [h1] at this
  exact this
theorem bk_text (s : ByteArray) (he : pe s.data.toList = 0) : Calls Tryd.prog 8 #[.int .i64 (pn s.data.toList)] w fun e w' => e = .returned (.string s) ∧ Kept Nil w w' := by
  obtain ⟨h1, h2⟩ := pe_zero he
  refine (text_c (pn s.data.toList) w h1).mono ?_
  rintro e w' ⟨rfl, hk⟩
  exact ⟨by rw [h2], Below.kept hk⟩

theorem back_c (n : Int) (v : Value) (l : List Int) (s : ByteArray) (hn : InR n) (hv : Nums w v l) (hl : ∀ n ∈ l, InR n) (hs : s.size ≤ maxLen) (hm : MaxL w) : Calls Tryd.prog 3 #[.int .i64 n, v, .string s] w fun e w' => e = .returned (.bool true) ∧ Kept Nil w w' := by
  have HM := hide hm
  clear hm
  unfold maxLen at hs
  by_cases h40 : 40 < l.length
  · have ca := awake_c w HM.out
    obtain ⟨A, c, rfl, _⟩ := hv
    go_enter Tryd.func3, Tryd.ntmps3
    go_wp2_with fail
    refine ca.mono ?_
    rintro e w1 ⟨rfl, hk⟩
    have HK := hide hk
    clear hk
    go_wp2_with fail
    go_ret
    exact ⟨rfl, HK.out⟩
  by_cases h200 : 200 < s.size
  · have ca := awake_c w HM.out
    obtain ⟨A, c, rfl, _⟩ := hv
    go_enter Tryd.func3, Tryd.ntmps3
    go_wp2_with fail
    refine ca.mono ?_
    rintro e w1 ⟨rfl, hk⟩
    have HK := hide hk
    clear hk
    go_wp2_with fail
    go_ret
    exact ⟨rfl, HK.out⟩
  · have ht20 := txt_len hn
    have HV := hide hv
    have HL := hide hl
    have HN := hide hn
    obtain ⟨A, c, rfl, _⟩ := hv
    clear hl hn
    go_enter Tryd.func3, Tryd.ntmps3
    go_wp2_with fail
    refine (text_c n w HN.out).mono ?_
    rintro e w1 ⟨rfl, hk⟩
    have H1 := hide (Below.kept hk)
    clear hk
    go_wp2_with fail
    refine (bk_parse w1 n HN.out).mono ?_
    rintro e w2 ⟨rfl, rfl⟩
    go_wp2_with fail
    refine (text_c n w1 HN.out).mono ?_
    rintro e w2 ⟨rfl, hk⟩
    have H2 := hide (H1.out.trans (Below.kept hk) (fun _ _ h => h))
    clear hk
    go_wp2_with fail
    refine (bk_take w2 n HN.out s (by omega)).mono ?_
    rintro e w3 ⟨rfl, rfl⟩
    go_wp2_with fail
    refine (list_c w2 (HV.out.kept H2.out) (by omega) HL.out).mono ?_
    rintro e w3 ⟨rfl, hk⟩
    have H3 := hide (H2.out.trans hk (fun _ _ h => h))
    clear hk
    go_wp2_with fail
    refine (bk_numbers w3 l HL.out (by omega) (HM.out.kept H3.out)).mono ?_
    rintro e w4 ⟨v4, rfl, hv4, hk⟩
    have H4 := hide (And.intro (H3.out.trans hk (fun _ _ h => h)) hv4)
    clear hk hv4
    go_wp2_with fail
    refine (text_c n w4 HN.out).mono ?_
    rintro e w5 ⟨rfl, hk⟩
    have H5 := hide (And.intro (H4.out.1.trans (Below.kept hk) (fun _ _ h => h)) (H4.out.2.kept (Below.kept hk)))
    clear hk
    go_wp2_with fail
    refine (same_nums H5.out.2 (HV.out.kept H5.out.1) (by omega)).mono ?_
    rintro e w6 ⟨rfl, q, rfl⟩
    have H6 := hide (H5.out.1.drewN q)
    go_wp2_with fail
    refine (numbers_c s _ (by omega) (HM.out.kept H6.out)).mono ?_
    rintro e w7 ⟨v7, rfl, hv7, hk⟩
    have H7 := hide (And.intro (H6.out.trans hk (fun _ _ h => h)) hv7)
    clear hk hv7
    go_wp2_with fail
    refine (parse_c s w7 (by unfold maxLen; omega)).mono ?_
    rintro e w8 ⟨rfl, rfl⟩
    rcases lerr_cases s.data.toList with hz | hz <;> rcases pe_two s.data.toList with hy | hy
    · have hz2 : (lerr s.data.toList != 0) = false := by rw [hz]; rfl
      have hy2 : (pe s.data.toList != 0) = false := by rw [hy]; rfl
      have HZ := hide hz
      have HY := hide hy
      clear hz hy
      go_wp2_with fail
      refine (bk_list w7 s (by omega) HZ.out H7.out.2).mono ?_
      rintro e w8 ⟨rfl, hk⟩
      have H8 := hide (H7.out.1.trans hk (fun _ _ h => h))
      clear hk
      go_wp2_with fail
      refine (bk_text w8 s HY.out).mono ?_
      rintro e w9 ⟨rfl, hk⟩
      have H9 := hide (H8.out.trans hk (fun _ _ h => h))
      clear hk
      go_wp2_with fail
      refine (awake_c w9 (HM.out.kept H9.out)).mono ?_
      rintro e wa ⟨rfl, hk⟩
      have HA := hide (H9.out.trans hk (fun _ _ h => h))
      clear hk
      go_wp2_with fail
      go_ret
      exact ⟨rfl, HA.out⟩
    · have hz2 : (lerr s.data.toList != 0) = false := by rw [hz]; rfl
      have hy2 : (pe s.data.toList != 0) = true := by rw [hy]; rfl
      have HZ := hide hz
      clear hz hy
      go_wp2_with fail
      refine (bk_list w7 s (by omega) HZ.out H7.out.2).mono ?_
      rintro e w8 ⟨rfl, hk⟩
      have H8 := hide (H7.out.1.trans hk (fun _ _ h => h))
      clear hk
      go_wp2_with fail
      refine (awake_c w8 (HM.out.kept H8.out)).mono ?_
      rintro e wa ⟨rfl, hk⟩
      have HA := hide (H8.out.trans hk (fun _ _ h => h))
      clear hk
      go_wp2_with fail
      go_ret
      exact ⟨rfl, HA.out⟩
    · have hz2 : (lerr s.data.toList != 0) = true := by rw [hz]; rfl
      have hy2 : (pe s.data.toList != 0) = false := by rw [hy]; rfl
      have HY := hide hy
      clear hz hy
      go_wp2_with fail
      refine (bk_text w7 s HY.out).mono ?_
      rintro e w9 ⟨rfl, hk⟩
      have H9 := hide (H7.out.1.trans hk (fun _ _ h => h))
      clear hk
      go_wp2_with fail
      refine (awake_c w9 (HM.out.kept H9.out)).mono ?_
      rintro e wa ⟨rfl, hk⟩
      have HA := hide (H9.out.trans hk (fun _ _ h => h))
      clear hk
      go_wp2_with fail
      go_ret
      exact ⟨rfl, HA.out⟩
    · have hz2 : (lerr s.data.toList != 0) = true := by rw [hz]; rfl
      have hy2 : (pe s.data.toList != 0) = true := by rw [hy]; rfl
      clear hz hy
      go_wp2_with fail
      refine (awake_c w7 (HM.out.kept H7.out.1)).mono ?_
      rintro e wa ⟨rfl, hk⟩
      have HA := hide (H7.out.1.trans hk (fun _ _ h => h))
      clear hk
      go_wp2_with fail
      go_ret
      exact ⟨rfl, HA.out⟩
end
end Go.Proofs.YtnacpemhklbiaaaDoor
