/- Package pick's Text. -/
import Derived.Test.YtoegnnhnfkecoaaDoorKRText
import Derived.Test.YtoegnnhnfkecoaaDoorDText
import Derived.Test.YtoegnnhnfkecoaaDoorShelf
import Derived.Lib.Split
namespace Go.Proofs.YtoegnnhnfkecoaaDoor
open Go.RowKit
set_option maxRecDepth 100000

/-- The words of the first picks. -/
def ppieces (l : List Pk) (k : Nat) : List ByteArray := (l.take k).map fun p => ⟨(word p).toArray⟩
theorem ppieces_len (l : List Pk) {k : Nat} (h : k ≤ l.length) : (ppieces l k).length = k := by simp [ppieces]; omega
theorem ppieces_next (l : List Pk) {k : Nat} (h : k < l.length) : ppieces l (k + 1) = ppieces l k ++ [⟨(txt (l.getD k (0, 0)).1 ++ [wc (l.getD k (0, 0)).2]).toArray⟩] := by
  unfold ppieces
  rw [List.take_succ_eq_append_getElem h, List.map_append, List.map_singleton]
  have : l.getD k (0, 0) = l[k] := by simp [List.getD, h]
  rw [this]
  rfl
theorem ppieces_all (l : List Pk) : (ppieces l l.length).map (·.data.toList) = l.map word := by
  unfold ppieces
  rw [List.take_length, List.map_map]
  exact List.map_congr_left fun n _ => rfl
theorem pinfo_string : (Tryd.prog.info? 9).map (fun i => (i.zero, i.size, i.bytes)) = some (some (.string ByteArray.empty), 1, 16) := by kernel_rfl
theorem pmake_strings (n : Nat) (hn : n ≤ 65536) (w : World) : (Instr.makeSlice 41 (.int .i64 (n : Int)) (.int .i64 (n : Int))).run Tryd.prog w = .ok (.slice (some ⟨w.heap.size, 0, none⟩) n n) (w.alloc (.cells (Lib.cellsOf [] n) 9)) := by
  obtain ⟨i0, hi, hz0, hz1, hz2⟩ := info_parts pinfo_string
  have h := run_make (P := Tryd.prog) w 41 9 i0 _ Tryd.underlying41 hi hz0 .i64 .i64 n n (by omega) (Int.le_refl _) (by rw [hz2]; omega) (by omega)
  rw [hz1, Int.toNat_natCast, Nat.mul_one] at h
  rw [Lib.cellsOf_nil]
  exact h
theorem let_string {m : Nat} (h : m < 5) : Utf8.encode ((wc (m : Int)).toNat : Int) = ⟨[wc (m : Int)].toArray⟩ := by
  match m, h with
  | 0, _ => decide +kernel
  | 1, _ => decide +kernel
  | 2, _ => decide +kernel
  | 3, _ => decide +kernel
  | 4, _ => decide +kernel

section
variable {l : List Pk} (w : World) {v : Value}
set_option maxHeartbeats 800000
/-- What Join makes of the words. -/
theorem pjoin_c (hl : l.length ≤ 4000) (hr : ∀ p ∈ l, InR p.1) {b : Nat} (hi : Is w b 9 (Lib.cellsOf (ppieces l l.length) l.length)) : Calls Tryd.prog 19 #[.slice (some ⟨b, 0, none⟩) l.length l.length, .string ⟨#[32]⟩] w fun e w' => e = .returned (.string ⟨(bj (l.map word)).toArray⟩) ∧ Kept Nil w w' := by
  rcases Nat.eq_zero_or_pos l.length with h0 | h0
  · have : l = [] := List.eq_nil_of_length_eq_zero h0
    subst this
    refine (Tryd.strings_Join_none (some ⟨b, 0, none⟩) 0 ⟨#[32]⟩ w).mono ?_
    rintro e w' ⟨rfl, rfl⟩
    exact ⟨rfl, Kept.refl _ _⟩
  · have hpl := ppieces_len l (Nat.le_refl l.length)
    have hj : Lib.join ((ppieces l l.length).map (·.data.toList)) (⟨#[32]⟩ : ByteArray).data.toList = bj (l.map word) := by
      rw [ppieces_all]
      exact bj_lib _
    have c := Tryd.strings_Join b 0 l.length (ppieces l l.length) ⟨#[32]⟩ w (fun j x hx => by
      rw [Nat.zero_add, hi.cell j]
      have hlt : j < (ppieces l l.length).length := (List.getElem?_eq_some_iff.1 hx).1
      unfold Lib.cellsOf
      rw [List.getElem?_toArray, List.getElem?_append_left (by simpa using hlt), List.getElem?_map, hx]
      rfl) hi.lt (by omega) (by omega) (by
        rw [hj]
        have := bj_word_len l hr
        omega)
    rw [hpl, hj] at c
    exact c.mono fun e w' ⟨h1, h2⟩ => ⟨h1, Below.kept h2⟩
theorem ptext_c (hv : Picks w v l) (hl : l.length ≤ 4000) (hr : ∀ p ∈ l, InR p.1) : Calls Tryd.prog 6 #[v] w fun e w' => e = .returned (.tuple #[.string ⟨(pt l).toArray⟩, .int .i64 (pet l)]) ∧ Kept Nil w w' := by
  obtain ⟨A, c, rfl, _, hp⟩ := hv
  have HP := hide hp
  have HR := hide hr
  have h4 : ¬ (4000 : Int) < (l.length : Int) := by omega
  have hmk := pmake_strings l.length (by omega)
  clear hr hp
  go_enter Tryd.func6, Tryd.ntmps6
  go_wp2
  go_loopw [17] (fun i wr => ∃ k : Nat, k ≤ l.length ∧ i = .int .i64 k ∧ Is wr w.heap.size 9 (Lib.cellsOf (ppieces l k) l.length) ∧ Kept Nil w wr ∧ tall (l.take k) = true) (fun i _ => l.length - (intOf i).toNat)
  case atStart => exact ⟨0, Nat.zero_le _, rfl, Is.new w 9 _, (Kept.refl _ w).alloc _, rfl⟩
  case round =>
    obtain ⟨k, hk, rfl, hi, hb, ha⟩ := hrel
    by_cases hlt : k < l.length
    · obtain ⟨g, o, rfl, hg, hc⟩ := HP.out (by omega)
      have c1 := (hb.cell (p := ⟨g, o + k * 2, none⟩) hg (fun c => c)).trans (hc k hlt).1
      have c2 := (hb.cell (p := ⟨g, o + k * 2 + 1, none⟩) hg (fun c => c)).trans (hc k hlt).2
      clear hc
      have hin := hide (HR.out _ (pick_mem l hlt))
      have HN := hide (And.intro (ppieces_next l hlt) (And.intro (tall_at hlt) (tall_next hlt ha)))
      have HPL := hide (ppieces_len l hk)
      generalize (l.getD k (0, 0)).1 = x at *
      generalize (l.getD k (0, 0)).2 = y at *
      have HB := hide (Is.new wr 37 #[.int .i64 x, .int .i64 y])
      have HI := hide (hi.alloc (.cells #[.int .i64 x, .int .i64 y] 37))
      have HK := hide (hb.alloc (.cells #[.int .i64 x, .int .i64 y] 37))
      clear hi hb ha
      by_cases hy : 0 ≤ y ∧ y ≤ 4
      · obtain ⟨m, hm, rfl⟩ : ∃ m : Nat, m < 5 ∧ y = m := ⟨y.toNat, by omega, by omega⟩
        have hcv := let_string hm
        have HO := hide (HN.out.2.2 (wok_at hm))
        have cl := fun W => letter_yes W (m : Int) (wok_at hm)
        generalize wc (m : Int) = z at *
        go_wp2_with fail
        refine (cl _).mono ?_
        rintro e w2 ⟨rfl, hk2⟩
        have b1 := (HB.out.kept hk2 (fun c => c)).cell 0
        have HI2 := hide (HI.out.kept hk2 (fun c => c))
        have HK2 := hide (HK.out.trans hk2 (fun _ _ c => c))
        clear hk2
        have b1 : w2.cell? ⟨wr.heap.size, 0, none⟩ = some (.int .i64 x) := b1
        go_wp2_with fail
        refine (text_c _ _ hin.out).mono ?_
        rintro e w3 ⟨rfl, hb3⟩
        have hk3 := Below.kept hb3
        have hi3 := HI2.out.kept hk3 (fun c => c)
        have d1 := hi3.cell k
        have d2 := hi3.free k
        rw [show (Lib.cellsOf (ppieces l k) l.length)[k]? = some (.string ByteArray.empty) by
          have := Lib.cellsOf_next (done := ppieces l k) (N := l.length) (by rw [HPL.out]; exact hlt)
          rwa [HPL.out] at this] at d1
        have hs := hi3.set k (.string ⟨(txt x ++ [z]).toArray⟩)
        rw [show (Lib.cellsOf (ppieces l k) l.length).setIfInBounds k (.string ⟨(txt x ++ [z]).toArray⟩) = Lib.cellsOf (ppieces l (k + 1)) l.length by
          have := Lib.cellsOf_set (done := ppieces l k) (N := l.length) (by rw [HPL.out]; exact hlt) ⟨(txt x ++ [z]).toArray⟩
          rw [HPL.out] at this
          rw [this, HN.out.1]] at hs
        have HS := hide hs
        have HK3 := hide (HK2.out.trans hk3 (fun _ _ c => c))
        have hlen := txt_len hin.out
        clear hi3 hs hk3 hb3
        go_wp2_with fail
        go_roundw
        case rel => exact ⟨k + 1, by omega, by go_num, by have := HS.out; rw [← joined] at this; exact this, HK3.out.set (p := ⟨w.heap.size, k, none⟩) (fun h => absurd h (Nat.lt_irrefl _)) _, HO.out⟩
        case measure => simp [intOf]; omega
      · have hyn : wok y = false := decide_eq_false hy
        have HF := hide (pt_no (HN.out.2.1 hyn))
        have cl := fun W => letter_no W y hyn
        clear hy
        go_wp2_with fail
        refine (cl _).mono ?_
        rintro e w2 ⟨rfl, hk2⟩
        have HK2 := hide (HK.out.trans hk2 (fun _ _ c => c))
        clear hk2
        go_wp2_with fail
        go_ret2
        exact ⟨(ret_pt HF.out : Ending.returned (.tuple #[.string ⟨([] : List UInt8).toArray⟩, .int .i64 1]) = _), HK2.out⟩
    · obtain rfl : k = l.length := by omega
      have cj := pjoin_c wr hl HR.out hi
      have HF := hide (pt_yes (show tall l = true by rwa [List.take_length] at ha))
      have HK := hide hb
      clear hi hb ha
      go_wp2_with fail
      refine cj.mono ?_
      rintro e w1 ⟨rfl, hk1⟩
      have HK2 := hide (HK.out.trans hk1 (fun _ _ c => c))
      clear hk1
      go_wp2_with fail
      go_ret2
      exact ⟨ret_pt HF.out, HK2.out⟩
end
end Go.Proofs.YtoegnnhnfkecoaaDoor
