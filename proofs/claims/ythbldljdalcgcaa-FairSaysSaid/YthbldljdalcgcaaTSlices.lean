/- Contracts of slices.Index, Contains, IndexFunc, ContainsFunc, Equal, and of the document's Has and Same. -/
import Derived.Test.YthbldljdalcgcaaNums
namespace Go.Proofs.Ythbldljdalcgcaa
open Go.RowKit
set_option maxRecDepth 100000

theorem not_mem_next {l : List Int} {k : Nat} {x : Int} (hk : k < l.length) (h : x ∉ l.take k) (hx : l.getD k 0 ≠ x) : x ∉ l.take (k + 1) := by
  rw [List.take_succ_eq_append_getElem hk]
  intro hm
  rcases List.mem_append.1 hm with h1 | h1
  · exact h h1
  · simp at h1
    rw [h1] at hx
    simp [List.getD, hk] at hx
theorem getD_in {l : List Int} {k : Nat} (h : k < l.length) : l.getD k 0 ∈ l := by simp [List.getD, h]
theorem getD_hit {l : List Int} {k : Nat} {x : Int} (h : k < l.length) (hx : l.getD k 0 = x) : x ∈ l := by rw [← hx]; exact getD_in h
theorem all_not {l : List Int} {k : Nat} {q : Int → Bool} (hk : k < l.length) (h : ∀ x ∈ l.take k, q x = false) (hx : q (l.getD k 0) = false) : ∀ x ∈ l.take (k + 1), q x = false := by
  rw [List.take_succ_eq_append_getElem hk]
  intro x hm
  rcases List.mem_append.1 hm with h1 | h1
  · exact h x h1
  · simp at h1
    subst h1
    simpa [List.getD, hk] using hx
theorem take_same {l1 l2 : List Int} {k : Nat} (h1 : k < l1.length) (h2 : k < l2.length) (h : l1.take k = l2.take k) (hx : l1.getD k 0 = l2.getD k 0) : l1.take (k + 1) = l2.take (k + 1) := by
  rw [List.take_succ_eq_append_getElem h1, List.take_succ_eq_append_getElem h2, h]
  simp [List.getD, h1, h2] at hx
  rw [hx]
theorem not_same {l1 l2 : List Int} {k : Nat} (hx : l1.getD k 0 ≠ l2.getD k 0) : decide (l1 = l2) = false := by
  rw [decide_eq_false_iff_not]
  rintro rfl
  exact hx rfl

section
variable {w : World} {v v1 v2 : Value} {l l1 l2 : List Int}
set_option maxHeartbeats 1000000
theorem ret_yes {c b : Bool} (h : c = true) (hb : c = b) : Ending.returned (.bool true) = .returned (.bool b) := by rw [← hb, h]
theorem ret_no {c b : Bool} (h : c = false) (hb : c = b) : Ending.returned (.bool false) = .returned (.bool b) := by rw [← hb, h]
/-- The document's Same. -/
theorem rsame_c {b : Bool} (hb : decide (l1 = l2) = b) (h1 : Nums w v1 l1) (h2 : Nums w v2 l2) (hl1 : l1.length ≤ 65536) (hl2 : l2.length ≤ 65536) : Calls Try.prog 13 #[v1, v2] w fun e w' => e = .returned (.bool b) ∧ ∃ q, w' = w.drewN q := by
  have HB := hide hb
  clear hb
  obtain ⟨A1, c1, rfl, p1⟩ := h1
  obtain ⟨A2, c2, rfl, p2⟩ := h2
  by_cases hlen : l1.length = l2.length
  · go_enter Try.func13, Try.ntmps13
    go_wp2_with fail
    go_loopw [5] (fun i wr => ∃ k : Nat, k ≤ l2.length ∧ i = .int .i64 k ∧ l1.take k = l2.take k ∧ ∃ q, wr = w.drewN q) (fun i _ => l2.length - (intOf i).toNat)
    case atStart => exact ⟨0, Nat.zero_le _, rfl, rfl, 0, rfl⟩
    case round =>
      obtain ⟨k, hk, rfl, ht, q, rfl⟩ := hrel
      have HT := hide ht
      have HL := hide hlen
      clear ht
      by_cases hlt : k < l2.length
      · have hlt1 : k < l1.length := by omega
        obtain ⟨g1, o1, rfl, _, j1⟩ := p1 (by omega)
        obtain ⟨g2, o2, rfl, _, j2⟩ := p2 (by omega)
        have e1 := j1 k hlt1
        have e2 := j2 k hlt
        clear j1 j2
        have HX := hide (fun h => take_same hlt1 hlt HT.out h)
        have HI := hide (fun h => not_same (l1 := l1) (l2 := l2) (k := k) h)
        generalize l1.getD k 0 = y1 at *
        generalize l2.getD k 0 = y2 at *
        clear hlt1
        rw [hlen] at *
        by_cases hxy : y1 = y2
        · subst hxy
          have HM := hide (HX.out rfl)
          clear HX HI
          go_wp2_with fail
          go_quiet (fail)
          go_wp2_with fail
          go_roundw
          case rel => exact ⟨k + 1, by omega, by go_num, HM.out, _, rfl⟩
          case measure => simp [intOf]; omega
        · have HM := hide (HI.out hxy)
          have hne : (y1 == y2) = false := by simpa using hxy
          clear HX HI hxy
          go_wp2_with fail
          go_quiet (fail)
          go_wp2_with fail
          go_ret
          exact ⟨ret_no HM.out HB.out, q + nq, World.drewN_drewN ..⟩
      · obtain rfl : k = l2.length := by omega
        have HM : Hid (l1 = l2) := hide (by have := HT.out; rwa [← hlen, List.take_length, hlen, List.take_length] at this)
        rw [hlen]
        go_wp2_with fail
        go_ret
        exact ⟨by rw [← HB.out, decide_eq_true HM.out]; rfl, q, rfl⟩
  · have HM : Hid (decide (l1 = l2) = false) := hide (by rw [decide_eq_false_iff_not]; rintro rfl; exact hlen rfl)
    have hne : ((l1.length : Int) == (l2.length : Int)) = false := beq_false_of_ne (fun h => hlen (by omega))
    clear hlen
    go_enter Try.func13, Try.ntmps13
    go_wp2_with fail
    go_ret
    exact ⟨by rw [← HB.out, HM.out]; rfl, 0, rfl⟩
end
end Go.Proofs.Ythbldljdalcgcaa
