/- The document's own Head. -/
import Derived.Test.YtoegnnhnfkecoaaDoorLRef
namespace Go.Proofs.YtoegnnhnfkecoaaDoor
open Go.RowKit

theorem drop_byte (s : ByteArray) {k : Nat} (h : k < s.size) : s.data.toList.drop k = s[k] :: s.data.toList.drop (k + 1) := by
  rw [List.drop_eq_getElem_cons (show k < s.data.toList.length by rw [dlen]; exact h)]
  rfl
theorem getElem_part (s : ByteArray) {f t : Nat} (hf : f ≤ t) (h : t < s.size) : (s.data.toList.drop f).take (t + 1 - f) = (s.data.toList.drop f).take (t - f) ++ [s[t]] := by
  have hl : t - f < (s.data.toList.drop f).length := by rw [List.length_drop, dlen]; omega
  rw [show t + 1 - f = (t - f) + 1 by omega, List.take_succ_eq_append_getElem hl, List.getElem_drop]
  congr 2
  have e : f + (t - f) = t := by omega
  simp only [e]
  rfl
theorem head_end {s : ByteArray} {f t : Nat} (h1 : hw s.data.toList = (s.data.toList.drop f).take (t - f)) (h2 : hr s.data.toList = s.data.toList.drop t) :
    Ending.returned (.tuple #[.string (s.extract f t), .string (s.extract t s.size)]) = .returned (.tuple #[.string ⟨(hw s.data.toList).toArray⟩, .string ⟨(hr s.data.toList).toArray⟩]) := by
  rw [ba_eq (s := s.extract f t) (l := hw s.data.toList) (by rw [ext_data, h1]), ba_eq (s := s.extract t s.size) (l := hr s.data.toList) (by rw [ext_data, h2, List.take_of_length_le]; rw [List.length_drop, dlen]; exact Nat.le_refl _)]

section
variable (w : World)
set_option maxHeartbeats 4000000
theorem rhead_c (s : ByteArray) (hs : s.size ≤ 65536) : Calls Tryd.prog 36 #[.string s] w fun e w' => e = .returned (.tuple #[.string ⟨(hw s.data.toList).toArray⟩, .string ⟨(hr s.data.toList).toArray⟩]) ∧ ∃ k, w' = w.drewN k := by
  go_enter Tryd.func36, Tryd.ntmps36
  go_wp2_with fail
  go_loopw [4] (fun i wr => ∃ f : Nat, f ≤ s.size ∧ i = .int .i64 f ∧ wr = w ∧ trim blanks s.data.toList = trim blanks (s.data.toList.drop f)) (fun i _ => s.size - (intOf i).toNat)
  case atStart => exact ⟨0, Nat.zero_le _, rfl, rfl, rfl⟩
  case round =>
    obtain ⟨f, hf, rfl, rfl, htr⟩ := hrel
    by_cases hlt : f < s.size
    · have hd := drop_byte s hlt
      have cb := blank_c wr (s[f]'hlt)
      obtain ⟨x, hx⟩ : ∃ x, s[f]'hlt = x := ⟨_, rfl⟩
      rw [hx] at hd cb
      cases hin : blanks.contains x with
      | true =>
        rw [hin] at cb
        have HT := hide (htr.trans (hd ▸ trim_hit (t := s.data.toList.drop (f + 1)) hin))
        clear hd hin htr
        go_wp2_with fail
        refine cb.mono ?_
        rintro e w1 ⟨rfl, rfl⟩
        go_wp2_with fail
        go_roundw
        case rel => exact ⟨f + 1, by omega, by go_num, by first | rfl | trivial, HT.out⟩
        case measure => simp [intOf]; omega
      | false =>
        rw [hin] at cb
        have HT := hide (htr.trans (hd ▸ trim_miss (t := s.data.toList.drop (f + 1)) hin)).symm
        clear hd hin htr
        go_wp2_with fail
        refine cb.mono ?_
        rintro e w1 ⟨rfl, rfl⟩
        go_wp2_with fail
        go_loopw [5] (fun i wr2 => ∃ t : Nat, f ≤ t ∧ t ≤ s.size ∧ i = .int .i64 t ∧ wr2 = wr ∧ fst blanks (s.data.toList.drop f) = (s.data.toList.drop f).take (t - f) ++ fst blanks (s.data.toList.drop t) ∧ rst blanks (s.data.toList.drop f) = rst blanks (s.data.toList.drop t)) (fun i _ => s.size - (intOf i).toNat)
        case atStart => exact ⟨f, Nat.le_refl _, by omega, rfl, rfl, by simp, rfl⟩
        case round =>
          obtain ⟨t, hft, hts, rfl, rfl, hfst, hrst⟩ := hrel
          have HR := hide (And.intro hfst hrst)
          clear hfst hrst
          by_cases hlt : t < s.size
          · have hd := drop_byte s hlt
            have cb := blank_c wr (s[t]'hlt)
            have HG := hide (getElem_part s hft hlt)
            obtain ⟨x, hx⟩ : ∃ x, s[t]'hlt = x := ⟨_, rfl⟩
            rw [hx] at hd cb HG
            cases hin : blanks.contains x with
            | true =>
              rw [hin] at cb
              have HF := hide (And.intro (hd ▸ fst_hit (t := s.data.toList.drop (t + 1)) hin) (hd ▸ rst_hit (t := s.data.toList.drop (t + 1)) hin))
              clear hd hin
              go_wp2_with fail
              refine cb.mono ?_
              rintro e w1 ⟨rfl, rfl⟩
              go_wp2_with fail
              go_quiet (fail)
              go_wp2_with fail
              go_ret2
              refine ⟨?_, _, rfl⟩
              exact head_end (by unfold hw; rw [← HT.out, HR.out.1, HF.out.1, List.append_nil]) (by unfold hr; rw [← HT.out, HR.out.2, HF.out.2])
            | false =>
              rw [hin] at cb
              have HF := hide (And.intro (hd ▸ fst_miss (t := s.data.toList.drop (t + 1)) hin) (hd ▸ rst_miss (t := s.data.toList.drop (t + 1)) hin))
              clear hd hin
              go_wp2_with fail
              refine cb.mono ?_
              rintro e w1 ⟨rfl, rfl⟩
              go_wp2_with fail
              go_roundw
              case rel => exact ⟨t + 1, by omega, by omega, by go_num, by first | rfl | trivial, by rw [HR.out.1, HF.out.1, HG.out]; simp, by rw [HR.out.2, HF.out.2]⟩
              case measure => simp [intOf]; omega
          · obtain rfl : t = s.size := by omega
            have hz : s.data.toList.drop s.size = [] := by rw [← dlen]; exact List.drop_length
            have HZ := hide hz
            clear hz
            go_wp2_with fail
            go_quiet (fail)
            go_wp2_with fail
            go_ret2
            refine ⟨?_, _, rfl⟩
            have he : s.extract s.size s.size = ByteArray.empty := by simp
            have h := head_end (s := s) (f := f) (t := s.size) (by unfold hw; rw [← HT.out, HR.out.1, HZ.out, fst_nil, List.append_nil]) (by unfold hr; rw [← HT.out, HR.out.2, HZ.out, rst_nil])
            rw [he] at h
            exact h
    · have HT : Hid (s.data.toList.drop f = trim blanks s.data.toList) := hide (by
        have hz : s.data.toList.drop f = [] := List.drop_of_length_le (by rw [dlen]; omega)
        rw [htr, hz]
        rfl)
      clear htr
      go_wp2_with fail
      go_loopw [5] (fun i wr2 => ∃ t : Nat, f ≤ t ∧ t ≤ s.size ∧ i = .int .i64 t ∧ wr2 = wr ∧ fst blanks (s.data.toList.drop f) = (s.data.toList.drop f).take (t - f) ++ fst blanks (s.data.toList.drop t) ∧ rst blanks (s.data.toList.drop f) = rst blanks (s.data.toList.drop t)) (fun i _ => s.size - (intOf i).toNat)
      case atStart => exact ⟨f, Nat.le_refl _, by omega, rfl, rfl, by simp, rfl⟩
      case round =>
        obtain ⟨t, hft, hts, rfl, rfl, hfst, hrst⟩ := hrel
        have HR := hide (And.intro hfst hrst)
        clear hfst hrst
        by_cases hlt : t < s.size
        · have hd := drop_byte s hlt
          have cb := blank_c wr (s[t]'hlt)
          have HG := hide (getElem_part s hft hlt)
          obtain ⟨x, hx⟩ : ∃ x, s[t]'hlt = x := ⟨_, rfl⟩
          rw [hx] at hd cb HG
          cases hin : blanks.contains x with
          | true =>
            rw [hin] at cb
            have HF := hide (And.intro (hd ▸ fst_hit (t := s.data.toList.drop (t + 1)) hin) (hd ▸ rst_hit (t := s.data.toList.drop (t + 1)) hin))
            clear hd hin
            go_wp2_with fail
            refine cb.mono ?_
            rintro e w1 ⟨rfl, rfl⟩
            go_wp2_with fail
            go_quiet (fail)
            go_wp2_with fail
            go_ret2
            refine ⟨?_, _, rfl⟩
            exact head_end (by unfold hw; rw [← HT.out, HR.out.1, HF.out.1, List.append_nil]) (by unfold hr; rw [← HT.out, HR.out.2, HF.out.2])
          | false =>
            rw [hin] at cb
            have HF := hide (And.intro (hd ▸ fst_miss (t := s.data.toList.drop (t + 1)) hin) (hd ▸ rst_miss (t := s.data.toList.drop (t + 1)) hin))
            clear hd hin
            go_wp2_with fail
            refine cb.mono ?_
            rintro e w1 ⟨rfl, rfl⟩
            go_wp2_with fail
            go_roundw
            case rel => exact ⟨t + 1, by omega, by omega, by go_num, by first | rfl | trivial, by rw [HR.out.1, HF.out.1, HG.out]; simp, by rw [HR.out.2, HF.out.2]⟩
            case measure => simp [intOf]; omega
        · obtain rfl : t = s.size := by omega
          have hz : s.data.toList.drop s.size = [] := by rw [← dlen]; exact List.drop_length
          have HZ := hide hz
          clear hz
          go_wp2_with fail
          go_quiet (fail)
          go_wp2_with fail
          go_ret2
          refine ⟨?_, _, rfl⟩
          have he : s.extract s.size s.size = ByteArray.empty := by simp
          have h := head_end (s := s) (f := f) (t := s.size) (by unfold hw; rw [← HT.out, HR.out.1, HZ.out, fst_nil, List.append_nil]) (by unfold hr; rw [← HT.out, HR.out.2, HZ.out, rst_nil])
          rw [he] at h
          exact h
end
end Go.Proofs.YtoegnnhnfkecoaaDoor
