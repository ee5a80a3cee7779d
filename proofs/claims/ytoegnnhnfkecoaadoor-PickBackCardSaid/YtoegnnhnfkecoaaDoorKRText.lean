/- The document's Text. -/
import Derived.Test.YtoegnnhnfkecoaaDoorKRow
import Derived.Test.YtoegnnhnfkecoaaDoorKLet
import Derived.Test.YtoegnnhnfkecoaaDoorDRef
namespace Go.Proofs.YtoegnnhnfkecoaaDoor
open Go.RowKit

theorem quiet_t {f : FuncId} {args : Array Value} {w : World} {n : Nat} {v : Value} (h : Calls Tryd.prog f args (w.drewN n) fun e w' => e = .returned v ∧ w.drewN n = w') : Calls Tryd.prog f args (w.drewN n) fun e w'' => e = .returned v ∧ ∃ m, w'' = w.drewN m :=
  h.mono fun _ _ ⟨a, b⟩ => ⟨a, n, b.symm⟩
theorem bj_first (l : List Pk) (h : 0 < l.length) : bj ((l.take 1).map word) = txt (l.getD 0 (0, 0)).1 ++ [wc (l.getD 0 (0, 0)).2] := by
  cases l with
  | nil => simp at h
  | cons a t => rfl
theorem bj_next (l : List Pk) {k : Nat} (h0 : 0 < k) (h : k < l.length) : bj ((l.take (k + 1)).map word) = (bj ((l.take k).map word) ++ [32]) ++ (txt (l.getD k (0, 0)).1 ++ [wc (l.getD k (0, 0)).2]) := by
  have e : l.take (k + 1) = l.take k ++ [l.getD k (0, 0)] := by
    rw [List.take_succ_eq_append_getElem h]
    simp [List.getD, h]
  rw [e, List.map_append, List.map_singleton, bj_snoc _ _ (by
    intro hn
    have := congrArg List.length hn
    rw [List.length_map, List.length_take, List.length_nil] at this
    omega)]
  simp [word]
theorem bj_take_len (l : List Pk) (h : ∀ p ∈ l, InR p.1) (k : Nat) : (bj ((l.take k).map word)).length ≤ 22 * k := by
  have := bj_word_len (l.take k) (fun p hp => h p (List.mem_of_mem_take hp))
  rw [List.length_take] at this
  omega
theorem pick_mem (l : List Pk) {k : Nat} (h : k < l.length) : l.getD k (0, 0) ∈ l := by
  simp [List.getD, h]
theorem let_cut {m : Nat} (h : m < 5) : (⟨#[115, 108, 117, 114, 118]⟩ : ByteArray).extract m (m + 1) = ⟨[wc m].toArray⟩ := by
  match m, h with
  | 0, _ => rfl
  | 1, _ => rfl
  | 2, _ => rfl
  | 3, _ => rfl
  | 4, _ => rfl

theorem drew_twice (w : World) (a b : Nat) : (w.drewN a).drewN b = w.drewN (a + b) := by simp [World.drewN, Nat.add_assoc]
theorem ret_pt {l : List Pk} {t : List UInt8} {x : Int} (h : pt l = t ∧ pet l = x) : Ending.returned (.tuple #[.string ⟨t.toArray⟩, .int .i64 x]) = .returned (.tuple #[.string ⟨(pt l).toArray⟩, .int .i64 (pet l)]) := by rw [h.1, h.2]
section
variable {l : List Pk} (w : World) {v : Value}
set_option maxHeartbeats 400000
theorem rptext_c (hv : Picks w v l) (hl : l.length ≤ 4000) (hr : ∀ p ∈ l, InR p.1) : Calls Tryd.prog 9 #[v] w fun e w' => e = .returned (.tuple #[.string ⟨(pt l).toArray⟩, .int .i64 (pet l)]) ∧ ∃ q, w' = w.drewN q := by
  obtain ⟨A, c, rfl, _, hp⟩ := hv
  have HP := hide hp
  have HR := hide hr
  have h4 : ¬ (4000 : Int) < (l.length : Int) := by omega
  clear hr hp
  go_enter Tryd.func9, Tryd.ntmps9
  go_wp2_with fail
  go_loopw [4, 5] (fun s i wr => ∃ (k : Nat) (t : List UInt8) (q : Nat), k ≤ l.length ∧ i = .int .i64 k ∧ s = .string ⟨t.toArray⟩ ∧ wr = w.drewN q ∧ t = bj ((l.take k).map word) ∧ tall (l.take k) = true) (fun _ i _ => l.length - (intOf i).toNat)
  case atStart => exact ⟨0, [], 0, Nat.zero_le _, rfl, rfl, rfl, rfl, rfl⟩
  case round =>
    obtain ⟨k, t, q, hk, rfl, rfl, hw, ht, ha⟩ := hrel
    have htl : t.length ≤ 88000 := by have := bj_take_len l HR.out k; rw [← ht] at this; omega
    have HT := hide (And.intro ht (And.intro ha hw))
    clear ht ha
    by_cases hlt : k < l.length
    · obtain ⟨g, o, rfl, _, hc⟩ := HP.out (by omega)
      obtain ⟨c1, c2⟩ := hc k hlt
      have c1 : wr.cell? ⟨g, o + k * 2, none⟩ = _ := (show wr.cell? ⟨g, o + k * 2, none⟩ = w.cell? ⟨g, o + k * 2, none⟩ by rw [hw]; rfl).trans c1
      have c2 : wr.cell? ⟨g, o + k * 2 + 1, none⟩ = _ := (show wr.cell? ⟨g, o + k * 2 + 1, none⟩ = w.cell? ⟨g, o + k * 2 + 1, none⟩ by rw [hw]; rfl).trans c2
      clear hc hw
      have hin := HR.out _ (pick_mem l hlt)
      have hnext : 0 < k → bj ((l.take (k + 1)).map word) = (t ++ [32]) ++ (txt (l.getD k (0, 0)).1 ++ [wc (l.getD k (0, 0)).2]) := fun h0 => by rw [HT.out.1]; exact bj_next l h0 hlt
      have hfirst : k = 0 → bj ((l.take (k + 1)).map word) = t ++ (txt (l.getD k (0, 0)).1 ++ [wc (l.getD k (0, 0)).2]) := fun h0 => by subst h0; rw [HT.out.1]; exact bj_first l hlt
      have HN := hide (And.intro hnext (And.intro hfirst (And.intro (tall_at hlt) (tall_next hlt HT.out.2.1))))
      clear hnext hfirst
      generalize (l.getD k (0, 0)).1 = x at *
      generalize (l.getD k (0, 0)).2 = y at *
      have cq := fun n => rtext_c x hin (wr.drewN n)
      have hlen := txt_len hin
      clear hin
      by_cases hy0 : y < 0
      · have HF := hide (pt_no (HN.out.2.2.1 (decide_eq_false (by omega))))
        go_wp2_with fail
        go_ret2
        exact ⟨(ret_pt HF.out : Ending.returned (.tuple #[.string ⟨([] : List UInt8).toArray⟩, .int .i64 1]) = _), q, HT.out.2.2⟩
      · by_cases hy4 : 4 < y
        · have HF := hide (pt_no (HN.out.2.2.1 (decide_eq_false (by omega))))
          go_wp2_with fail
          go_ret2
          exact ⟨(ret_pt HF.out : Ending.returned (.tuple #[.string ⟨([] : List UInt8).toArray⟩, .int .i64 1]) = _), q, HT.out.2.2⟩
        · obtain ⟨m, hm, rfl⟩ : ∃ m : Nat, m < 5 ∧ y = m := ⟨y.toNat, by omega, by omega⟩
          have hcut := let_cut hm
          have HO := hide (HN.out.2.2.2 (wok_at hm))
          rcases Nat.eq_zero_or_pos k with h0 | h0
          · subst h0
            have c1' := c1
            have c2' := c2
            simp only [Nat.zero_mul, Nat.add_zero] at c1' c2'
            clear c1 c2
            go_wp2_with fail
            go_quiet ((go_at_call 23; exact quiet_t (cq _)))
            go_wp2_with fail
            go_roundw
            case rel =>
              obtain ⟨_, _, hw⟩ := HT.out
              exact ⟨1, (t ++ txt x) ++ [wc (m : Int)], _, by omega, rfl, by rw [joined, joined], by rw [hw]; exact drew_twice _ _ _, by rw [HN.out.2.1 (by simp)]; simp, HO.out⟩
            case measure => simp [intOf]; omega
          · go_wp2_with fail
            go_quiet ((go_at_call 23; exact quiet_t (cq _)))
            go_wp2_with fail
            go_roundw
            case rel =>
              obtain ⟨_, _, hw⟩ := HT.out
              exact ⟨k + 1, ((t ++ [32]) ++ txt x) ++ [wc (m : Int)], _, by omega, by go_num, by rw [show (⟨#[32]⟩ : ByteArray) = ⟨[32].toArray⟩ from rfl, joined, joined, joined], by rw [hw]; exact drew_twice _ _ _, by rw [HN.out.1 h0]; simp, HO.out⟩
            case measure => simp [intOf]; omega
    · obtain rfl : k = l.length := by omega
      have HF := hide (pt_yes (show tall l = true by have := HT.out.2.1; rwa [List.take_length] at this))
      clear hw
      go_wp2_with fail
      go_ret2
      exact ⟨(ret_pt ⟨by rw [HF.out.1, HT.out.1, List.take_length], HF.out.2⟩ : Ending.returned (.tuple #[.string ⟨t.toArray⟩, .int .i64 0]) = _), q, HT.out.2.2⟩
end
end Go.Proofs.YtoegnnhnfkecoaaDoor
