/- Contracts of List, the program's and the document's. -/
import Derived.Test.YtcpcdfihgabelaaDoorDTake
import Derived.Test.YtcpcdfihgabelaaDoorDText
import Derived.Test.YtcpcdfihgabelaaDoorDList
import Derived.Test.YtcpcdfihgabelaaDoorNums
import Derived.Lib.Split
namespace Go.Proofs.YtcpcdfihgabelaaDoor
open Go.RowKit

theorem ltxt_take_len (l : List Int) (h : ∀ n ∈ l, InR n) (k : Nat) : (ltxt (l.take k)).length ≤ 21 * k := by
  have := ltxt_len (l.take k) (fun n hn => h n (List.mem_of_mem_take hn))
  rw [List.length_take] at this
  omega
theorem getD_mem (l : List Int) {k : Nat} (h : k < l.length) : l.getD k 0 ∈ l := by
  simp [List.getD, h]

section
variable {l : List Int} (w : World) {v : Value}
set_option maxHeartbeats 400000
theorem rlist_c (hv : Nums w v l) (hl : l.length ≤ 65536) (hr : ∀ n ∈ l, InR n) : Calls Tryd.prog 37 #[v] w fun e w' => e = .returned (.string ⟨(ltxt l).toArray⟩) ∧ w = w' := by
  obtain ⟨A, c, rfl, hp⟩ := hv
  have HR := hide hr
  clear hr
  go_enter Tryd.func37, Tryd.ntmps37
  go_wp2
  go_loop [3, 4] (fun s i => ∃ (k : Nat) (t : List UInt8), k ≤ l.length ∧ i = .int .i64 k ∧ s = .string ⟨t.toArray⟩ ∧ t = ltxt (l.take k)) (fun _ i => l.length - (intOf i).toNat)
  case atStart => exact ⟨0, [], Nat.zero_le _, rfl, rfl, by simp [ltxt, join]⟩
  case round =>
    obtain ⟨k, t, hk, rfl, rfl, ht⟩ := hrel
    have htl : t.length ≤ 1376256 := by have := ltxt_take_len l HR.out k; rw [← ht] at this; omega
    have HT := hide ht
    clear ht
    by_cases hlt : k < l.length
    · obtain ⟨g, o, rfl, _, hc⟩ := hp (by omega)
      have c1 := hc k hlt
      clear hc
      have hin := HR.out _ (getD_mem l hlt)
      have c := rtext_c (l.getD k 0) hin w
      have hlen := txt_len hin
      have hnext : 0 < k → ltxt (l.take (k + 1)) = (t ++ [44]) ++ txt (l.getD k 0) := fun h0 => by rw [HT.out]; exact ltxt_next l h0 hlt
      have hfirst : k = 0 → ltxt (l.take (k + 1)) = t ++ txt (l.getD k 0) := fun h0 => by subst h0; rw [HT.out]; exact ltxt_first l hlt
      have HN := hide (And.intro hnext hfirst)
      generalize l.getD k 0 = x at *
      clear hin hnext hfirst
      rcases Nat.eq_zero_or_pos k with h0 | h0
      · subst h0
        have c1' := c1
        simp only [Nat.add_zero] at c1'
        clear c1
        go_wp2_with fail
        refine c.mono ?_
        rintro e w' ⟨rfl, rfl⟩
        go_wp2_with fail
        go_round
        case rel => exact ⟨1, _, by omega, rfl, by rw [joined], (HN.out.2 (by simp)).symm⟩
        case measure => simp [intOf]; omega
      · go_wp2_with fail
        refine c.mono ?_
        rintro e w' ⟨rfl, rfl⟩
        go_wp2_with fail
        go_round
        case rel => exact ⟨k + 1, _, by omega, by go_num, by rw [show (⟨#[44]⟩ : ByteArray) = ⟨[44].toArray⟩ from rfl, joined, joined], (HN.out.1 h0).symm⟩
        case measure => simp [intOf]; omega
    · obtain rfl : k = l.length := by omega
      go_wp2_with fail
      go_ret
      exact ⟨(ret_str (by rw [HT.out, List.take_length]) : Ending.returned (.string ⟨t.toArray⟩) = _), rfl⟩

/-- The texts of the first numbers, then empty texts. -/
def pieces (l : List Int) (k : Nat) : List ByteArray := (l.take k).map fun n => ⟨(txt n).toArray⟩
theorem pieces_len (l : List Int) {k : Nat} (h : k ≤ l.length) : (pieces l k).length = k := by simp [pieces]; omega
theorem pieces_next (l : List Int) {k : Nat} (h : k < l.length) : pieces l (k + 1) = pieces l k ++ [⟨(txt (l.getD k 0)).toArray⟩] := by
  unfold pieces
  rw [List.take_succ_eq_append_getElem h, List.map_append, List.map_singleton]
  have : l.getD k 0 = l[k] := by simp [List.getD, h]
  rw [this]
theorem pieces_all (l : List Int) : (pieces l l.length).map (·.data.toList) = l.map txt := by
  unfold pieces
  rw [List.take_length, List.map_map]
  exact List.map_congr_left fun n _ => rfl
theorem info_string : (Tryd.prog.info? 9).map (fun i => (i.zero, i.size, i.bytes)) = some (some (.string ByteArray.empty), 1, 16) := by kernel_rfl
theorem make_strings (n : Nat) (hn : n ≤ 65536) (w : World) : (Instr.makeSlice 41 (.int .i64 (n : Int)) (.int .i64 (n : Int))).run Tryd.prog w = .ok (.slice (some ⟨w.heap.size, 0, none⟩) n n) (w.alloc (.cells (Lib.cellsOf [] n) 9)) := by
  obtain ⟨i0, hi, hz0, hz1, hz2⟩ := info_parts info_string
  have h := run_make (P := Tryd.prog) w 41 9 i0 _ Tryd.underlying41 hi hz0 .i64 .i64 n n (by omega) (Int.le_refl _) (by rw [hz2]; omega) (by omega)
  rw [hz1, Int.toNat_natCast, Nat.mul_one] at h
  rw [Lib.cellsOf_nil]
  exact h
/-- What Join makes of the texts. -/
theorem join_c (hl : l.length ≤ 65536) (hr : ∀ n ∈ l, InR n) {b : Nat} (hi : Is w b 9 (Lib.cellsOf (pieces l l.length) l.length)) : Calls Tryd.prog 48 #[.slice (some ⟨b, 0, none⟩) l.length l.length, .string ⟨#[44]⟩] w fun e w' => e = .returned (.string ⟨(ltxt l).toArray⟩) ∧ Kept Nil w w' := by
  rcases Nat.eq_zero_or_pos l.length with h0 | h0
  · have : l = [] := List.eq_nil_of_length_eq_zero h0
    subst this
    refine (Tryd.strings_Join_none (some ⟨b, 0, none⟩) 0 ⟨#[44]⟩ w).mono ?_
    rintro e w' ⟨rfl, rfl⟩
    exact ⟨rfl, Kept.refl _ _⟩
  · have hpl := pieces_len l (Nat.le_refl l.length)
    have hj : Lib.join ((pieces l l.length).map (·.data.toList)) (⟨#[44]⟩ : ByteArray).data.toList = ltxt l := by
      rw [pieces_all]
      exact join_lib _
    have c := Tryd.strings_Join b 0 l.length (pieces l l.length) ⟨#[44]⟩ w (fun j x hx => by
      rw [Nat.zero_add, hi.cell j]
      have hlt : j < (pieces l l.length).length := (List.getElem?_eq_some_iff.1 hx).1
      unfold Lib.cellsOf
      rw [List.getElem?_toArray, List.getElem?_append_left (by simpa using hlt), List.getElem?_map, hx]
      rfl) hi.lt (by omega) (by omega) (by
        rw [hj]
        have := ltxt_len l hr
        omega)
    rw [hpl, hj] at c
    exact c.mono fun e w' ⟨h1, h2⟩ => ⟨h1, Below.kept h2⟩
theorem list_c (hv : Nums w v l) (hl : l.length ≤ 65536) (hr : ∀ n ∈ l, InR n) : Calls Tryd.prog 26 #[v] w fun e w' => e = .returned (.string ⟨(ltxt l).toArray⟩) ∧ Kept Nil w w' := by
  obtain ⟨A, c, rfl, hp⟩ := hv
  have HR := hide hr
  have hmk := make_strings l.length hl
  clear hr
  go_enter Tryd.func26, Tryd.ntmps26
  go_wp2
  go_loopw [11] (fun i wr => ∃ k : Nat, k ≤ l.length ∧ i = .int .i64 k ∧ Is wr w.heap.size 9 (Lib.cellsOf (pieces l k) l.length) ∧ Kept Nil w wr) (fun i _ => l.length - (intOf i).toNat)
  case atStart => exact ⟨0, Nat.zero_le _, rfl, Is.new w 9 _, (Kept.refl _ w).alloc _⟩
  case round =>
    obtain ⟨k, hk, rfl, hi, hb⟩ := hrel
    by_cases hlt : k < l.length
    · obtain ⟨g, o, rfl, hg, hc⟩ := hp (by omega)
      have c1 := (hb.cell (p := ⟨g, o + k, none⟩) hg (fun c => c)).trans (hc k hlt)
      clear hc
      have c := text_c (l.getD k 0) wr (HR.out _ (getD_mem l hlt))
      have HN := hide (pieces_next l hlt)
      have HI := hide hi
      have HPL := hide (pieces_len l hk)
      generalize l.getD k 0 = x at *
      clear hi
      go_wp2_with fail
      refine c.mono ?_
      rintro e w1 ⟨rfl, hb1⟩
      have hk1 := Below.kept hb1
      have hi1 := HI.out.kept hk1 (fun c => c)
      have d1 := hi1.cell k
      have d2 := hi1.free k
      rw [show (Lib.cellsOf (pieces l k) l.length)[k]? = some (.string ByteArray.empty) by
        have := Lib.cellsOf_next (done := pieces l k) (N := l.length) (by rw [HPL.out]; exact hlt)
        rwa [HPL.out] at this] at d1
      have hs := hi1.set k (.string ⟨(txt x).toArray⟩)
      rw [show (Lib.cellsOf (pieces l k) l.length).setIfInBounds k (.string ⟨(txt x).toArray⟩) = Lib.cellsOf (pieces l (k + 1)) l.length by
        have := Lib.cellsOf_set (done := pieces l k) (N := l.length) (by rw [HPL.out]; exact hlt) ⟨(txt x).toArray⟩
        rw [HPL.out] at this
        rw [this, HN.out]] at hs
      have HS := hide hs
      have HK := hide (hb.trans hk1 (fun _ _ c => c))
      clear hi1 hs hk1 hb1
      go_wp2_with fail
      go_roundw
      case rel => exact ⟨k + 1, by omega, by go_num, HS.out, HK.out.set (p := ⟨w.heap.size, k, none⟩) (fun h => absurd h (Nat.lt_irrefl _)) _⟩
      case measure => simp [intOf]; omega
    · obtain rfl : k = l.length := by omega
      have c := join_c wr hl HR.out hi
      have HK := hide hb
      clear hi hb
      go_wp2_with fail
      refine c.mono ?_
      rintro e w1 ⟨rfl, hk1⟩
      have HK2 := hide (HK.out.trans hk1 (fun _ _ c => c))
      clear hk1
      go_wp2_with fail
      go_ret
      exact ⟨rfl, HK2.out⟩
end
end Go.Proofs.YtcpcdfihgabelaaDoor
