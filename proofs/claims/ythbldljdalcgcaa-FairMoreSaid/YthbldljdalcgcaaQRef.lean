/- The document's Some, among, Fair, Least, Own. -/
import Derived.Test.YthbldljdalcgcaaQFair
import Derived.Test.YthbldljdalcgcaaTSlices
namespace Go.Proofs.Ythbldljdalcgcaa
open Go.RowKit
set_option maxRecDepth 100000

/-- A slice of ints with room for what it holds. -/
def NumsC (w : World) (v : Value) (l : List Int) : Prop := ∃ A c, v = .slice A l.length c ∧ l.length ≤ c ∧ Nums w (.slice A l.length c) l
theorem NumsC.nums {w : World} {v : Value} {l : List Int} (h : NumsC w v l) : Nums w v l := by
  obtain ⟨A, c, rfl, _, h⟩ := h
  exact h
theorem NumsC.kept {w w' : World} {v : Value} {l : List Int} (h : NumsC w v l) (k : Kept Nil w w') : NumsC w' v l := by
  obtain ⟨A, c, rfl, h1, h⟩ := h
  exact ⟨A, c, rfl, h1, h.kept k⟩
/-- A window. -/
theorem win_nums {w : World} {g o c : Nat} {l : List Int} {f k : Nat} (hf : f + k ≤ l.length) (hg : g < w.heap.size) (hc : ∀ j, j < l.length → w.cell? ⟨g, o + j, none⟩ = some (.int .i64 (l.getD j 0))) : Nums w (.slice (some ⟨g, o + f, none⟩) k c) ((l.drop f).take k) := by
  have hlen : ((l.drop f).take k).length = k := by rw [List.length_take, List.length_drop]; omega
  refine ⟨some ⟨g, o + f, none⟩, c, by rw [hlen], fun _ => ⟨g, o + f, rfl, hg, fun j hj => ?_⟩⟩
  rw [hlen] at hj
  have h := hc (f + j) (by omega)
  rw [← Nat.add_assoc] at h
  rw [h]
  simp [List.getD, hj]
theorem win_mem {l : List Int} {f k : Nat} {x : Int} (hf : f + k ≤ l.length) : x ∈ (l.drop f).take k ↔ ∃ i, f ≤ i ∧ i < f + k ∧ av l i = x := by
  have hlen : ((l.drop f).take k).length = k := by rw [List.length_take, List.length_drop]; omega
  rw [List.mem_iff_getElem]
  constructor
  · rintro ⟨i, hi, e⟩
    rw [hlen] at hi
    refine ⟨f + i, by omega, by omega, ?_⟩
    rw [← e]
    unfold av
    rw [List.getElem_take, List.getElem_drop]
    simp [List.getD, show f + i < l.length by omega]
  · rintro ⟨i, h1, h2, e⟩
    refine ⟨i - f, by rw [hlen]; omega, ?_⟩
    rw [List.getElem_take, List.getElem_drop, ← e]
    unfold av
    simp [List.getD, show i < l.length by omega, show f + (i - f) = i by omega]

section
variable {w : World} {v : Value} {l : List Int}
set_option maxHeartbeats 1000000
theorem some_c (w : World) (t : Int) : Calls Try.prog 9 #[.int .i64 t] w fun e w' => e = .returned (.int .i64 (sm t)) ∧ w = w' := by
  rcases Int.lt_or_le t 0 with h | h
  · rw [sm_low h]
    go_enter Try.func9, Try.ntmps9
    go_wp2_with fail
    go_ret
    exact ⟨rfl, rfl⟩
  · rcases Int.lt_or_le 32 t with h2 | h2
    · rw [sm_high h2]
      have h0 : ¬ t < 0 := by omega
      go_enter Try.func9, Try.ntmps9
      go_wp2_with fail
      go_ret
      exact ⟨rfl, rfl⟩
    · rw [sm_mid h h2]
      have h0 : ¬ t < 0 := by omega
      go_enter Try.func9, Try.ntmps9
      go_wp2_with fail
      go_ret
      exact ⟨rfl, rfl⟩
/-- among. -/
theorem among_c {b : Bool} (x : Int) (hb : b = true ↔ x ∈ l) (hv : Nums w v l) (hl : l.length ≤ 65536) : Calls Try.prog 22 #[v, .int .i64 x] w fun e w' => e = .returned (.bool b) ∧ w = w' := by
  have HB := hide hb
  clear hb
  obtain ⟨A, c, rfl, hp⟩ := hv
  go_enter Try.func22, Try.ntmps22
  go_wp2_with fail
  go_loop [5] (fun i => ∃ k : Nat, k ≤ l.length ∧ i = .int .i64 k ∧ x ∉ l.take k) (fun i => l.length - (intOf i).toNat)
  case atStart => exact ⟨0, Nat.zero_le _, rfl, by simp⟩
  case round =>
    obtain ⟨k, hk, rfl, hn⟩ := hrel
    have HN := hide hn
    clear hn
    by_cases hlt : k < l.length
    · obtain ⟨g, o, rfl, _, hc⟩ := hp (by omega)
      have c1 := hc k hlt
      clear hc
      have HX := hide (fun h => not_mem_next (x := x) hlt HN.out h)
      have HI := hide (fun h => getD_hit (x := x) hlt h)
      generalize l.getD k 0 = y at *
      by_cases hxy : y = x
      · subst hxy
        have HM := hide (HI.out rfl)
        clear HX HI
        go_wp2_with fail
        go_ret
        exact ⟨by rw [HB.out.2 HM.out]; rfl, rfl⟩
      · have HM := hide (HX.out hxy)
        have hne : (y == x) = false := by simpa using hxy
        clear HX HI hxy
        go_wp2_with fail
        go_round
        case rel => exact ⟨k + 1, by omega, by go_num, HM.out⟩
        case measure => simp [intOf]; omega
    · obtain rfl : k = l.length := by omega
      have HM : Hid (x ∉ l) := hide (by have := HN.out; rwa [List.take_length] at this)
      go_wp2_with fail
      go_ret
      have hb : b = false := by cases b with | true => exact absurd (HB.out.1 rfl) HM.out | false => rfl
      exact ⟨by rw [hb]; rfl, rfl⟩
/-- Fair. -/
theorem rfair_c {b : Bool} (t k : Int) (hb : fb (av l) l.length (sm t) k = b) (hv : NumsC w v l) (hl : l.length ≤ 65536) : Calls Try.prog 16 #[v, .int .i64 t, .int .i64 k] w fun e w' => e = .returned (.bool b) ∧ w = w' := by
  have cs := some_c w t
  have hn := sm_le t
  have HB := hide hb
  clear hb
  generalize sm t = n at *
  obtain ⟨A, c, rfl, hlc, hnums⟩ := hv
  obtain ⟨A', c', e, hp⟩ := hnums
  injection e with e1 e2 e3
  subst e1 e3
  clear e2
  have HP := hide hp
  clear hp
  rcases Int.lt_or_le k 1 with hk | hk
  · have hb : ((n : Int) == 0) = b := by rw [← HB.out, fb_low hk]; by_cases h : n = 0 <;> simp [h]
    clear HB
    go_enter Try.func16, Try.ntmps16
    go_wp2_with fail
    refine cs.mono ?_
    rintro e w' ⟨rfl, rfl⟩
    go_wp2_with fail
    go_ret
    exact ⟨rfl, rfl⟩
  · have hk1 : ¬ k < 1 := by omega
    obtain ⟨k, rfl⟩ : ∃ m : Nat, k = m := ⟨k.toNat, by omega⟩
    have HKP : Hid (0 < k) := hide (by omega)
    go_enter Try.func16, Try.ntmps16
    go_wp2_with fail
    refine cs.mono ?_
    rintro e w' ⟨rfl, rfl⟩
    go_wp2_with fail
    go_loop [8, 9] (fun i _ => ∃ f : Nat, f ≤ l.length ∧ i = .int .i64 f ∧ ∀ g, g < f → g + k ≤ l.length → Has (av l) n g k) (fun i _ => l.length - (intOf i).toNat)
    case atStart => exact ⟨0, Nat.zero_le _, rfl, fun g hg => absurd hg (Nat.not_lt_zero _)⟩
    case round =>
      obtain ⟨f, hf, rfl, hall⟩ := hrel
      have HA := hide hall
      clear hall
      by_cases hfk : f + k ≤ l.length
      · have hlt : f < l.length := by omega
        have hle : (k : Int) ≤ (l.length : Int) - f := by omega
        obtain ⟨g, o, rfl, hg, hc⟩ := HP.out (by omega)
        have HW := hide fun c => win_nums (c := c) hfk hg hc
        have hwl : ((l.drop f).take k).length ≤ 65536 := by rw [List.length_take]; omega
        have HWL := hide hwl
        clear hc hwl
        go_wp2_with fail
        go_loop [9] (fun i => ∃ j : Nat, j ≤ n ∧ i = .int .i64 j ∧ ∀ t : Nat, t < j → ∃ i, f ≤ i ∧ i < f + k ∧ av l i = t) (fun i => n - (intOf i).toNat)
        case atStart => exact ⟨0, Nat.zero_le _, rfl, fun t ht => absurd ht (Nat.not_lt_zero _)⟩
        case round =>
          obtain ⟨j, hj, rfl, hin⟩ := hrel
          have HI := hide hin
          clear hin
          by_cases hltj : j < n
          · have hs : f + k ≤ c := by omega
            obtain ⟨r, hr⟩ : ∃ r : Bool, r = true ↔ (j : Int) ∈ (l.drop f).take k := ⟨decide _, decide_eq_true_iff⟩
            have ca := hide fun c => among_c (j : Int) hr (HW.out c) HWL.out
            have HR := hide hr
            clear hr
            go_wp2_with fail
            refine (ca.out _).mono ?_
            rintro e w' ⟨rfl, rfl⟩
            have hr := HR.out
            cases r with
            | true =>
              have HM := hide ((win_mem hfk).1 (hr.1 rfl))
              clear hr
              go_wp2_with fail
              go_round
              case rel => exact ⟨j + 1, by omega, by go_num, fun t ht => by
                rcases Nat.lt_or_ge t j with h | h
                · exact HI.out t h
                · obtain rfl : t = j := by omega
                  exact HM.out⟩
              case measure => simp [intOf]; omega
            | false =>
              have HM : Hid (¬ Has (av l) n f k) := hide (fun h => by have := hr.2 ((win_mem hfk).2 (h j hltj)); simp at this)
              clear hr
              go_wp2_with fail
              go_ret
              exact ⟨by rw [← HB.out, fb_no HKP.out hfk HM.out]; rfl, rfl⟩
          · obtain rfl : j = n := by omega
            go_wp2_with fail
            go_round
            case rel => exact ⟨f + 1, by omega, by go_num, fun g hg hgk => by
                rcases Nat.lt_or_ge g f with h | h
                · exact HA.out g h hgk
                · obtain rfl : g = f := by omega
                  exact HI.out⟩
            case measure => simp [intOf]; omega
      · have HY : Hid (fb (av l) l.length n k = true) := hide (fb_yes HKP.out fun g hg => HA.out g (by omega) hg)
        by_cases hlt : f < l.length
        · have hle : ¬ (k : Int) ≤ (l.length : Int) - f := by omega
          go_wp2_with fail
          go_ret
          exact ⟨by rw [← HB.out, HY.out]; rfl, rfl⟩
        · go_wp2_with fail
          go_ret
          exact ⟨by rw [← HB.out, HY.out]; rfl, rfl⟩
end
end Go.Proofs.Ythbldljdalcgcaa
