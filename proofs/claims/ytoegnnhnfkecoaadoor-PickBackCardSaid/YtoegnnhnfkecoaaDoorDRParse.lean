/- Contract of the document's own Parse. -/
import Derived.Test.YtoegnnhnfkecoaaDoorDRef
namespace Go.Proofs.YtoegnnhnfkecoaaDoor
open Go.RowKit

theorem wrap_id {x : Int} (h : InR x) : wrap64 x = x := by
  unfold InR at h
  unfold wrap64
  omega
theorem wrap_in (x : Int) : InR (wrap64 x) := by
  unfold InR wrap64
  omega
theorem wrap_pos (v d : Int) : wrap64 (wrap64 (wrap64 v * 10) + d) = wrap64 (10 * v + d) := by
  unfold wrap64
  omega
theorem wrap_neg (v d : Int) : wrap64 (wrap64 (wrap64 (-v) * 10) - d) = wrap64 (-(10 * v + d)) := by
  unfold wrap64
  omega

section
variable {l t : List UInt8} {i : Nat}
/-- All digits so far. -/
def AllD (l : List UInt8) : Prop := ∀ c ∈ l, isD c
theorem AllD.next (h : AllD (l.take i)) (hi : i < l.length) (hd : isD l[i]) : AllD (l.take (i + 1)) := by
  rw [List.take_succ_eq_append_getElem hi]
  intro c hc
  rcases List.mem_append.1 hc with h1 | h1
  · exact h c h1
  · simp at h1
    subst h1
    exact hd
theorem nv_next (hi : i < l.length) (hd : isD l[i]) : (nv (l.take (i + 1)) : Int) = 10 * (nv (l.take i) : Int) + ((l[i].toNat : Int) - 48) := by
  have h48 := hd.1
  rw [List.take_succ_eq_append_getElem hi, nv_snoc]
  omega
/-- A text without a minus. -/
theorem pos_no (h0 : ∀ u, l ≠ 45 :: u) (hi : i < l.length) (hd : ¬ isD l[i]) : pn l = 0 ∧ pe l = 2 := by
  have h' : ∀ n, ¬ Num n l := by
    rintro n ⟨_, h⟩
    have hm : l[i] ∈ l := List.getElem_mem hi
    by_cases hn : n < 0
    · rw [txt_neg hn] at h
      exact h0 _ h.symm
    · rw [txt_pos (by omega)] at h
      exact hd (nt_isD n.natAbs _ (h.symm ▸ hm))
  exact ⟨pn_no h', pe_no h'⟩
theorem pos_end (h0 : ∀ u, l ≠ 45 :: u) {n : Int} (hn : n = wrap64 (nv l)) : (txt n = l → pn l = n ∧ pe l = 0) ∧ (txt n ≠ l → pn l = 0 ∧ pe l = 2) := by
  refine ⟨fun h => ?_, fun h => ?_⟩
  · have : Num n l := ⟨hn ▸ wrap_in _, h⟩
    exact ⟨pn_yes this, pe_yes this⟩
  · have h' : ∀ m, ¬ Num m l := by
      rintro m ⟨h1, h2⟩
      by_cases hm : m < 0
      · rw [txt_neg hm] at h2
        exact h0 _ h2.symm
      · have h3 := h2
        rw [txt_pos (by omega)] at h3
        have : nv l = m.natAbs := by rw [← h3, nv_nt]
        rw [this, wrap_id (by unfold InR at *; omega), show ((m.natAbs : Nat) : Int) = m by omega] at hn
        exact h (hn ▸ h2)
    exact ⟨pn_no h', pe_no h'⟩
theorem neg_no (hi : i < t.length) (hd : ¬ isD t[i]) : pn (45 :: t) = 0 ∧ pe (45 :: t) = 2 := by
  have h' : ∀ n, ¬ Num n (45 :: t) := by
    rintro n ⟨_, h⟩
    have hm : t[i] ∈ t := List.getElem_mem hi
    by_cases hn : n < 0
    · rw [txt_neg hn] at h
      injection h with _ h
      exact hd (nt_isD n.natAbs _ (h.symm ▸ hm))
    · rw [txt_pos (by omega)] at h
      exact nt_no_minus h
  exact ⟨pn_no h', pe_no h'⟩
theorem neg_end {n : Int} (hn : n = wrap64 (-(nv t))) : (txt n = 45 :: t → pn (45 :: t) = n ∧ pe (45 :: t) = 0) ∧ (txt n ≠ 45 :: t → pn (45 :: t) = 0 ∧ pe (45 :: t) = 2) := by
  refine ⟨fun h => ?_, fun h => ?_⟩
  · have : Num n (45 :: t) := ⟨hn ▸ wrap_in _, h⟩
    exact ⟨pn_yes this, pe_yes this⟩
  · have h' : ∀ m, ¬ Num m (45 :: t) := by
      rintro m ⟨h1, h2⟩
      by_cases hm : m < 0
      · have h3 := h2
        rw [txt_neg hm] at h3
        injection h3 with _ h3
        have : nv t = m.natAbs := by rw [← h3, nv_nt]
        rw [this, wrap_id (by unfold InR at *; omega), show -((m.natAbs : Nat) : Int) = m by omega] at hn
        exact h (hn ▸ h2)
      · rw [txt_pos (by omega)] at h2
        exact nt_no_minus h2
    exact ⟨pn_no h', pe_no h'⟩
theorem long_no (h : l.length = 0 ∨ 20 < l.length) : pn l = 0 ∧ pe l = 2 := by
  have h' : ∀ n, ¬ Num n l := by
    intro n hn
    rcases h with h | h
    · rw [List.eq_nil_of_length_eq_zero h] at hn
      exact hn.ne
    · have := hn.len
      omega
  exact ⟨pn_no h', pe_no h'⟩
end

section
variable (s : ByteArray) (w : World)
set_option maxHeartbeats 400000
theorem digit_yes (c : UInt8) (h : isD c) : Calls Tryd.prog 37 #[.int .u8 c.toNat] w fun e w' => e = .returned (.int .i64 ((c.toNat : Int) - 48)) ∧ w = w' := by
  have := digit_c w c
  rwa [if_pos h] at this
theorem digit_no (c : UInt8) (h : ¬ isD c) : Calls Tryd.prog 37 #[.int .u8 c.toNat] w fun e w' => e = .returned (.int .i64 (-1)) ∧ w = w' := by
  have := digit_c w c
  rwa [if_neg h] at this
def Parsed (s : ByteArray) (w : World) (e : Ending) (w' : World) : Prop := e = .returned (.tuple #[.int .i64 (pn s.data.toList), .int .i64 (pe s.data.toList)]) ∧ w = w'
theorem parsed {s : ByteArray} {w : World} {n x : Int} (h : pn s.data.toList = n ∧ pe s.data.toList = x) : Parsed s w (.returned (.tuple #[.int .i64 n, .int .i64 x])) w := ⟨by rw [h.1, h.2], rfl⟩
theorem rparse_long (h : s.size = 0 ∨ 20 < s.size) (hs : s.size ≤ maxLen) : Calls Tryd.prog 26 #[.string s] w (Parsed s w) := by
  unfold maxLen at hs
  have hn := hide (long_no (l := s.data.toList) (by simpa using h))
  rcases h with h | h
  · have h0 : s.data.toList = [] := List.eq_nil_of_length_eq_zero (by simpa using h)
    obtain ⟨⟨a⟩⟩ := s
    simp at h0
    subst h0
    clear h
    go_enter Tryd.func26, Tryd.ntmps26
    go_wp2
    go_ret2
    exact parsed hn.out
  · go_enter Tryd.func26, Tryd.ntmps26
    go_wp2
    all_goals go_ret2
    all_goals exact parsed hn.out
theorem ne45 {c : UInt8} (h : c ≠ 45) : ((c.toNat : Int) == 45) = false := by
  have : c.toNat ≠ 45 := fun e => h (UInt8.toNat_inj.1 (by rw [e]; rfl))
  simp
  omega
theorem rparse_pos (h0 : 0 < s.size) (h1 : s.size ≤ 20) (hp : s[0] ≠ 45) : Calls Tryd.prog 26 #[.string s] w (Parsed s w) := by
  have hb := ne45 hp
  have hl : ∀ u, s.data.toList ≠ 45 :: u := by
    intro u hu
    apply hp
    have : s.data.toList[0]'(by simpa using h0) = 45 := by simp [hu]
    exact this
  have hz : (s.size == 0) = false := beq_eq_false_iff_ne.2 (by omega)
  have hz2 : ((s.size : Int) == 0) = false := beq_eq_false_iff_ne.2 (by omega)
  have HL := hide hl
  clear hl hp
  go_enter Tryd.func26, Tryd.ntmps26
  go_wp2
  go_loop [4, 5] (fun n i => ∃ (k : Nat) (v : Int), k ≤ s.size ∧ i = .int .i64 k ∧ n = .int .i64 v ∧ v = wrap64 (nv (s.data.toList.take k))) (fun _ i => s.size - (intOf i).toNat)
  case atStart => exact ⟨0, 0, Nat.zero_le _, rfl, rfl, by simp [nv_nil, wrap64]⟩
  case round =>
    obtain ⟨k, v, hk, rfl, rfl, hv⟩ := hrel
    have HV := hide hv
    clear hv
    by_cases hlt : k < s.size
    · by_cases hd : isD s[k]
      · have c := fun w => digit_yes w s[k] hd
        have hd1 : 48 ≤ (s[k].toNat : Int) := by have := hd.1; omega
        have hd2 : (s[k].toNat : Int) ≤ 57 := by have := hd.2; omega
        have HN := hide (nv_next (l := s.data.toList) (i := k) (by simpa using hlt) hd)
        clear hd
        rcases Nat.eq_zero_or_pos k with hk0 | hk0
        · subst hk0
          go_wp2_with fail
          refine (c _).mono ?_
          rintro e w' ⟨rfl, rfl⟩
          go_wp2_with fail
          refine (c _).mono ?_
          rintro e w' ⟨rfl, rfl⟩
          go_wp2_with fail
          go_round
          case rel => exact ⟨1, _, by omega, rfl, rfl, by rw [HN.out, HV.out, ← wrap_pos]; rfl⟩
          case measure => simp [intOf]; omega
        · have hk1 : ((k : Int) == 0) = false := beq_eq_false_iff_ne.2 (by omega)
          go_wp2_with fail
          refine (c _).mono ?_
          rintro e w' ⟨rfl, rfl⟩
          go_wp2_with fail
          refine (c _).mono ?_
          rintro e w' ⟨rfl, rfl⟩
          go_wp2_with fail
          go_round
          case rel => exact ⟨k + 1, _, by omega, by go_num, rfl, by rw [HN.out, HV.out, ← wrap_pos]; rfl⟩
          case measure => simp [intOf]; omega
      · have c := fun w => digit_no w s[k] hd
        have HN := hide (pos_no HL.out (i := k) (by simpa using hlt) hd)
        clear hd
        rcases Nat.eq_zero_or_pos k with hk0 | hk0
        · subst hk0
          go_wp2_with fail
          refine (c _).mono ?_
          rintro e w' ⟨rfl, rfl⟩
          go_wp2_with fail
          go_ret2
          exact parsed HN.out
        · have hk1 : ((k : Int) == 0) = false := beq_eq_false_iff_ne.2 (by omega)
          go_wp2_with fail
          refine (c _).mono ?_
          rintro e w' ⟨rfl, rfl⟩
          go_wp2_with fail
          go_ret2
          exact parsed HN.out
    · obtain rfl : k = s.size := by omega
      have hi : InR v := HV.out ▸ wrap_in _
      have c := rtext_c v hi w
      have HE := hide (pos_end HL.out (n := v) (by have := HV.out; rwa [List.take_of_length_le (by simp)] at this))
      clear hi
      have hlf : decide ((s.size : Int) < s.size) = false := decide_eq_false (by omega)
      by_cases he : txt v = s.data.toList
      · have HX := hide he
        clear he
        go_wp2_with fail
        refine c.mono ?_
        rintro e w' ⟨rfl, rfl⟩
        have he := HX.out
        go_wp2_with fail
        go_ret2
        exact parsed (HE.out.1 he)
      · have HX := hide he
        clear he
        go_wp2_with fail
        refine c.mono ?_
        rintro e w' ⟨rfl, rfl⟩
        have he : (txt v == s.toList) = false := by rw [ByteArray.toList_eq]; exact beq_eq_false_iff_ne.2 HX.out
        go_wp2_with fail
        go_ret2
        exact parsed (HE.out.2 HX.out)
theorem rparse_neg (t : List UInt8) (hst : s.data.toList = 45 :: t) (h1 : s.size ≤ 20) : Calls Tryd.prog 26 #[.string s] w (Parsed s w) := by
  have hsz : s.size = t.length + 1 := by
    have := congrArg List.length hst
    simpa using this
  have h0 : 0 < s.size := by omega
  have e0 : s[0] = 45 := by
    have : s.data.toList[0]'(by simpa using h0) = 45 := by simp [hst]
    exact this
  have hb : ((s[0].toNat : Int) == 45) = true := by rw [e0]; rfl
  have hz : (s.size == 0) = false := beq_eq_false_iff_ne.2 (by omega)
  have hz2 : ((s.size : Int) == 0) = false := beq_eq_false_iff_ne.2 (by omega)
  have hget : ∀ k, (hk : k < t.length) → (hk2 : k + 1 < s.size) → s[k + 1] = t[k] := by
    intro k hk hk2
    have : s.data.toList[k + 1]'(by rw [hst]; simpa using hk) = t[k] := by simp [hst]
    exact this
  have HG := hide hget
  have HS := hide hsz
  have HT := hide hst
  clear hget hst hsz e0
  go_enter Tryd.func26, Tryd.ntmps26
  go_wp2
  go_loop [4, 5] (fun n i => ∃ (k : Nat) (v : Int), k ≤ s.size ∧ i = .int .i64 k ∧ n = .int .i64 v ∧ v = wrap64 (-(nv (t.take (k - 1))))) (fun _ i => s.size - (intOf i).toNat)
  case atStart => exact ⟨0, 0, Nat.zero_le _, rfl, rfl, by simp [nv_nil, wrap64]⟩
  case round =>
    obtain ⟨k, v, hk, rfl, rfl, hv⟩ := hrel
    have HV := hide hv
    clear hv
    by_cases hlt : k < s.size
    · rcases Nat.eq_zero_or_pos k with hk0 | hk0
      · subst hk0
        go_wp2_with fail
        go_round
        case rel => exact ⟨1, _, by omega, rfl, rfl, HV.out⟩
        case measure => simp [intOf]; omega
      · obtain ⟨j, rfl⟩ : ∃ j, k = j + 1 := ⟨k - 1, by omega⟩
        have hjt : j < t.length := by have := HS.out; omega
        have hk1 : ((j : Int) + 1 == 0) = false := beq_eq_false_iff_ne.2 (by omega)
        by_cases hd : isD t[j]
        · have hd' : isD s[j + 1] := by rw [HG.out j hjt hlt]; exact hd
          have c := fun w => digit_yes w s[j + 1] hd'
          have hd1 : 48 ≤ (s[j + 1].toNat : Int) := by have := hd'.1; omega
          have hd2 : (s[j + 1].toNat : Int) ≤ 57 := by have := hd'.2; omega
          have HN := hide (nv_next (l := t) (i := j) hjt hd)
          clear hd hd'
          go_wp2_with fail
          refine (c _).mono ?_
          rintro e w' ⟨rfl, rfl⟩
          go_wp2_with fail
          refine (c _).mono ?_
          rintro e w' ⟨rfl, rfl⟩
          go_wp2_with fail
          go_round
          case rel => exact ⟨j + 2, _, by omega, by go_num, rfl, by rw [show j + 2 - 1 = j + 1 from rfl, HN.out, HV.out, ← wrap_neg, ← HG.out j hjt hlt]; rfl⟩
          case measure => simp [intOf]; omega
        · have hd' : ¬ isD s[j + 1] := by rw [HG.out j hjt hlt]; exact hd
          have c := fun w => digit_no w s[j + 1] hd'
          have HN := hide (neg_no (t := t) (i := j) hjt hd)
          clear hd hd'
          go_wp2_with fail
          refine (c _).mono ?_
          rintro e w' ⟨rfl, rfl⟩
          go_wp2_with fail
          go_ret2
          exact parsed (by rw [HT.out]; exact HN.out)
    · obtain rfl : k = s.size := by omega
      have hi : InR v := HV.out ▸ wrap_in _
      have c := rtext_c v hi w
      have HE := hide (neg_end (t := t) (n := v) (by have := HV.out; rwa [List.take_of_length_le (by have := HS.out; omega)] at this))
      clear hi
      have hlf : decide ((s.size : Int) < s.size) = false := decide_eq_false (by omega)
      by_cases he : txt v = s.data.toList
      · have HX := hide he
        clear he
        go_wp2_with fail
        refine c.mono ?_
        rintro e w' ⟨rfl, rfl⟩
        have he := HX.out
        go_wp2_with fail
        go_ret2
        exact parsed (by rw [HT.out]; exact HE.out.1 (HT.out ▸ he))
      · have HX := hide he
        clear he
        go_wp2_with fail
        refine c.mono ?_
        rintro e w' ⟨rfl, rfl⟩
        have he : (txt v == s.toList) = false := by rw [ByteArray.toList_eq]; exact beq_eq_false_iff_ne.2 HX.out
        go_wp2_with fail
        go_ret2
        exact parsed (by rw [HT.out]; exact HE.out.2 (HT.out ▸ HX.out))
theorem rparse_c (hs : s.size ≤ maxLen) : Calls Tryd.prog 26 #[.string s] w (Parsed s w) := by
  by_cases h : s.size = 0 ∨ 20 < s.size
  · exact rparse_long s w h hs
  · by_cases hm : s[0]'(by omega) = 45
    · refine rparse_neg s w (s.data.toList.drop 1) ?_ (by omega)
      have hl : 0 < s.data.toList.length := by have : s.data.toList.length = s.size := by simp
                                               omega
      rw [← hm]
      exact (List.getElem_cons_drop (i := 0) hl).symm
    · exact rparse_pos s w (by omega) (by omega) hm
end
end Go.Proofs.YtoegnnhnfkecoaaDoor
