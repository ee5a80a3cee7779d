/- The laws of layer 4: few, awake, LineSays. -/
import Derived.Test.YtmalfpplclijnaaDoorLRMore
namespace Go.Proofs.YtmalfpplclijnaaDoor
open Go.RowKit

/-- What few answers: true only of at most 20 lines, of at most 100 bytes. -/
def Few (l : List (List UInt8)) (e : Ending) : Prop := ∃ b, e = .returned (.bool b) ∧ (b = true → l.length ≤ 20 ∧ ∀ a ∈ l, a.length ≤ 100)
section
variable (w : World)
set_option maxHeartbeats 1000000
theorem few_c {v : Value} {l : List (List UInt8)} (hv : Strs w v l) : Calls Tryd.prog 5 #[v] w fun e w' => Few l e ∧ w = w' := by
  obtain ⟨A, c, rfl, _, hp⟩ := hv
  have HP := hide hp
  clear hp
  go_enter Tryd.func5, Tryd.ntmps5
  go_wp2_with fail
  go_loopw [3] (fun i wr => ∃ k : Nat, k ≤ l.length ∧ i = .int .i64 k ∧ wr = w ∧ (0 < k → l.length ≤ 20) ∧ ∀ a ∈ l.take k, a.length ≤ 100) (fun i _ => l.length - (intOf i).toNat)
  case atStart => exact ⟨0, Nat.zero_le _, rfl, rfl, by omega, by simp⟩
  case round =>
    obtain ⟨k, hk, rfl, rfl, h20, hall⟩ := hrel
    have HA := hide (And.intro h20 hall)
    clear h20 hall
    by_cases hlt : k < l.length
    · obtain ⟨g, o, rfl, hg, hc⟩ := HP.out (by omega)
      by_cases h20 : 20 < l.length
      · go_wp2_with fail
        go_ret
        exact ⟨⟨false, rfl, fun h => by cases h⟩, rfl⟩
      · have c1 := hc k hlt
        have HN : Hid (∀ x, l.getD k [] = x → x.length ≤ 100 → ∀ a ∈ l.take (k + 1), a.length ≤ 100) := hide (fun x hx h1 a ha => by
          rw [List.take_succ_eq_append_getElem hlt] at ha
          rcases List.mem_append.1 ha with h | h
          · exact HA.out.2 a h
          · simp at h
            have : l.getD k [] = l[k] := by simp [List.getD, hlt]
            rw [h, ← this, hx]
            exact h1)
        clear hc
        obtain ⟨x, hx⟩ : ∃ x, l.getD k [] = x := ⟨_, rfl⟩
        rw [hx] at c1
        have HX := hide (HN.out x hx)
        clear hx HN
        unfold sv at c1
        by_cases h100 : 100 < x.length
        · go_wp2_with fail
          go_ret
          exact ⟨⟨false, rfl, fun h => by cases h⟩, rfl⟩
        · have HL := hide h100
          have h101 : x.length ≤ 100 := by omega
          clear h100
          go_wp2_with fail
          go_roundw
          case rel => exact ⟨k + 1, by omega, by go_num, by first | rfl | trivial, fun _ => by omega, HX.out h101⟩
          case measure => simp [intOf]; omega
    · obtain rfl : k = l.length := by omega
      have HF : Hid (l.length ≤ 20 ∧ ∀ a ∈ l, a.length ≤ 100) := hide (by
        have := HA.out
        rw [List.take_length] at this
        refine ⟨?_, this.2⟩
        rcases Nat.eq_zero_or_pos l.length with h | h
        · omega
        · exact this.1 h)
      go_wp2_with fail
      go_ret
      exact ⟨⟨true, rfl, fun _ => HF.out⟩, rfl⟩

/-! ## What must come, whatever the arguments are -/
theorem w_words : wds [32, 97, 98, 9, 99, 32, 100, 32] = [[97, 98], [99], [100]] := by
  rw [wds_cons (by decide), wds_cons (by decide), wds_cons (by decide), wds_nil (by decide)]
  decide
theorem aw1 : Calls Tryd.prog 7 #[.string ⟨#[32, 32, 97, 98, 9, 99, 32, 100]⟩] w fun e w' => e = .returned (.tuple #[.string ⟨#[97, 98]⟩, .string ⟨#[9, 99, 32, 100]⟩]) ∧ Kept Nil w w' :=
  hd_c w ⟨#[32, 32, 97, 98, 9, 99, 32, 100]⟩ (by decide)
theorem aw2 : Calls Tryd.prog 8 #[.string ⟨#[32, 97, 98, 9, 99, 32, 100, 32]⟩] w fun e w' => ∃ v, e = .returned v ∧ Strs w' v [[97, 98], [99], [100]] ∧ Kept Nil w w' := by
  have := words_c w ⟨#[32, 97, 98, 9, 99, 32, 100, 32]⟩ (by decide)
  rw [show wds (⟨#[32, 97, 98, 9, 99, 32, 100, 32]⟩ : ByteArray).data.toList = [[97, 98], [99], [100]] from w_words] at this
  exact this
theorem aw3 : Calls Tryd.prog 11 #[.string ⟨#[97, 10, 10, 98]⟩] w fun e w' => ∃ v, e = .returned v ∧ Strs w' v [[97], [], [98]] ∧ Kept Nil w w' :=
  lines_c w ⟨#[97, 10, 10, 98]⟩ (by decide)
theorem aw4 {v : Value} (hv : Strs w v [[97], []]) : Calls Tryd.prog 12 #[v] w fun e w' => e = .returned (.string ⟨#[97, 10, 10]⟩) ∧ Kept Nil w w' :=
  ltext_c w hv (by decide) (by decide)
theorem aw5 : Calls Tryd.prog 11 #[.string ⟨#[]⟩] w fun e w' => ∃ A c, e = .returned (.slice A 0 c) ∧ Kept Nil w w' := by
  refine (lines_c w ⟨#[]⟩ (by decide)).mono ?_
  rintro e w' ⟨v, rfl, hv, hk⟩
  obtain ⟨A, c, rfl, _⟩ := (show Strs w' v [] from hv)
  exact ⟨A, c, rfl, hk⟩
theorem new_strs (l : List (List UInt8)) : Strs (w.alloc (.cells (l.map sv).toArray 9)) (.slice (some ⟨w.heap.size, 0, none⟩) l.length l.length) l := by
  refine ⟨_, _, rfl, Nat.le_refl _, fun _ => ⟨w.heap.size, 0, rfl, by simp, fun k hk => ?_⟩⟩
  rw [Nat.zero_add, (Is.new w 9 (l.map sv).toArray).cell k]
  simp [List.getD, hk]
theorem new_one : Strs (w.alloc (.cells #[sv [97, 98], sv [99], sv [100]] 9)) (.slice (some ⟨w.heap.size, 0, none⟩) 3 3) [[97, 98], [99], [100]] := new_strs w [[97, 98], [99], [100]]
theorem new_two : Strs (w.alloc (.cells #[sv [97], sv [], sv [98]] 9)) (.slice (some ⟨w.heap.size, 0, none⟩) 3 3) [[97], [], [98]] := new_strs w [[97], [], [98]]
theorem new_three : Strs (w.alloc (.cells #[sv [97], sv []] 9)) (.slice (some ⟨w.heap.size, 0, none⟩) 2 2) [[97], []] := new_strs w [[97], []]
theorem awake_c : Calls Tryd.prog 6 #[] w fun e w' => e = .returned (.bool true) ∧ Kept Nil w w' := by
  go_enter Tryd.func6, Tryd.ntmps6
  go_wp2_with fail
  refine (aw1 w).mono ?_
  rintro e w1 ⟨rfl, hk⟩
  have H1 := hide hk
  clear hk
  go_wp2_with fail
  refine (aw2 w1).mono ?_
  rintro e w2 ⟨v2, rfl, hv, hk⟩
  have H2 := hide (And.intro (H1.out.trans hk (fun _ _ h => h)) hv)
  clear hk hv
  go_wp2_with fail
  refine (same_strs _ (l := [[97, 98], [99], [100]]) (H2.out.2.kept ((Kept.refl _ _).alloc _)) (new_one w2) (by decide)).mono ?_
  rintro e w3 ⟨rfl, q, rfl⟩
  have H3 := hide ((H2.out.1.alloc (.cells #[sv [97, 98], sv [99], sv [100]] 9)).drewN q)
  generalize (w2.alloc (.cells #[sv [97, 98], sv [99], sv [100]] 9)).drewN q = w3 at *
  go_wp2_with fail
  refine (aw3 w3).mono ?_
  rintro e w4 ⟨v4, rfl, hv, hk⟩
  have H4 := hide (And.intro (H3.out.trans hk (fun _ _ h => h)) hv)
  clear hk hv
  go_wp2_with fail
  refine (same_strs _ (l := [[97], [], [98]]) (H4.out.2.kept ((Kept.refl _ _).alloc _)) (new_two w4) (by decide)).mono ?_
  rintro e w5 ⟨rfl, q, rfl⟩
  have H5 := hide ((H4.out.1.alloc (.cells #[sv [97], sv [], sv [98]] 9)).drewN q)
  generalize (w4.alloc (.cells #[sv [97], sv [], sv [98]] 9)).drewN q = w5 at *
  go_wp2_with fail
  refine (aw4 _ (new_three w5)).mono ?_
  rintro e w6 ⟨rfl, hk⟩
  have H6 := hide ((H5.out.alloc (.cells #[sv [97], sv []] 9)).trans hk (fun _ _ h => h))
  clear hk
  go_wp2_with fail
  refine (aw5 w6).mono ?_
  rintro e w7 ⟨A7, c7, rfl, hk⟩
  have H7 := hide (H6.out.trans hk (fun _ _ h => h))
  clear hk
  go_wp2_with fail
  go_ret
  exact ⟨rfl, H7.out⟩
end
end Go.Proofs.YtmalfpplclijnaaDoor
