/- Contracts of Take and Parse, the program's and the document's. -/
import Derived.Test.YtoegnnhnfkecoaaDoorDec
import Derived.Test.YtoegnnhnfkecoaaDoorDRParse
import Derived.Test.YtoegnnhnfkecoaaDoorShelf
namespace Go.Proofs.YtoegnnhnfkecoaaDoor
open Go.RowKit

def minus : ByteArray := ⟨#[45]⟩
theorem pre_yes {s : ByteArray} {t : List UInt8} (h : s.data.toList = 45 :: t) (w : World) : Calls Tryd.prog 45 #[.string s, .string ⟨#[45]⟩] w fun e w' => e = .returned (.bool true) ∧ w = w' := by
  refine (Tryd.strings_HasPrefix s ⟨#[45]⟩ w).mono ?_
  rintro e w' ⟨rfl, rfl⟩
  refine ⟨?_, rfl⟩
  rw [h]
  simp [Lib.hasPrefix, List.isPrefixOf]
theorem pre_no {s : ByteArray} (h : ∀ t, s.data.toList ≠ 45 :: t) (w : World) : Calls Tryd.prog 45 #[.string s, .string ⟨#[45]⟩] w fun e w' => e = .returned (.bool false) ∧ w = w' := by
  refine (Tryd.strings_HasPrefix s ⟨#[45]⟩ w).mono ?_
  rintro e w' ⟨rfl, rfl⟩
  refine ⟨?_, rfl⟩
  have : Lib.hasPrefix s.data.toList [45] = false := by
    cases hl : s.data.toList with
    | nil => rfl
    | cons c t =>
      have hc : c ≠ 45 := fun e => h t (by rw [hl, e])
      simp [Lib.hasPrefix, List.isPrefixOf]
      exact fun e => hc e.symm
  rw [show (⟨#[45]⟩ : ByteArray).data.toList = [45] from rfl, this]

section
variable (s : ByteArray) (w : World)
set_option maxHeartbeats 400000
def Took (s : ByteArray) (w : World) (e : Ending) (w' : World) : Prop := e = .returned (.tuple #[.int .i64 (tn s.data.toList), .int .i64 (tk s.data.toList)]) ∧ w = w'
theorem took {s : ByteArray} {w : World} {n : Int} {k : Nat} (h : Longest s.data.toList k n) : Took s w (.returned (.tuple #[.int .i64 n, .int .i64 k])) w := ⟨by rw [h.is.1, h.is.2], rfl⟩
theorem take_pos (h : ∀ t, s.data.toList ≠ 45 :: t) (hs : s.size ≤ maxLen) : Calls Tryd.prog 35 #[.string s] w (Took s w) := by
  have c1 := pre_no h w
  have c2 := digits_pos s w hs
  have H := hide h
  clear h
  go_enter Tryd.func35, Tryd.ntmps35
  go_wp2_with fail
  refine c1.mono ?_
  rintro e w' ⟨rfl, rfl⟩
  go_wp2_with fail
  refine c2.mono ?_
  rintro e w' ⟨k, n, rfl, hd, hm, rfl⟩
  have HD := hide (And.intro hd hm)
  clear hd hm
  go_wp2_with fail
  go_ret2
  exact took (longest_pos HD.out.1 HD.out.2 H.out)
theorem take_neg (t : List UInt8) (h : s.data.toList = 45 :: t) (hs : s.size ≤ maxLen) : Calls Tryd.prog 35 #[.string s] w (Took s w) := by
  have hl : (s.extract 1 s.size).data.toList = t := by
    rw [Lib.extract_to_end, h]
    rfl
  have hsz : 1 ≤ s.size := by
    have := congrArg List.length h
    simp at this
    omega
  have hsz2 : (s.extract 1 s.size).size ≤ maxLen := by
    have : (s.extract 1 s.size).size = s.size - 1 := by simp
    omega
  have c1 := pre_yes h w
  have c2 := digits_neg (s.extract 1 s.size) w hsz2
  have H := hide h
  have HT := hide hl
  clear h hl hsz2
  unfold maxLen at hs
  go_enter Tryd.func35, Tryd.ntmps35
  go_wp2_with fail
  refine c1.mono ?_
  rintro e w' ⟨rfl, rfl⟩
  go_wp2_with fail
  refine c2.mono ?_
  rintro e w' ⟨k, n, rfl, hd, hm, rfl⟩
  rw [HT.out] at hd hm
  have hk := hd.le
  have hk2 : k + 1 ≤ s.size := by
    have := congrArg List.length H.out
    simp at this
    omega
  have HD := hide (And.intro hd hm)
  clear hd hm hk
  by_cases h0 : n = 0
  · have HZ := hide h0
    have hz : (n == 0) = true := by simpa using h0
    clear h0
    go_wp2_with fail
    go_ret2
    exact took (by rw [H.out]; exact longest_neg0 HD.out.1 HD.out.2 HZ.out)
  · have HZ := hide h0
    have hz : (n == 0) = false := by simpa using h0
    clear h0
    go_wp2_with fail
    go_ret2
    exact took (k := k + 1) (by rw [H.out]; exact longest_neg HD.out.1 HD.out.2 HZ.out)
theorem take_c (hs : s.size ≤ maxLen) : Calls Tryd.prog 35 #[.string s] w (Took s w) := by
  by_cases h : ∃ t, s.data.toList = 45 :: t
  · obtain ⟨t, h⟩ := h
    exact take_neg s w t h hs
  · exact take_pos s w (fun t e => h ⟨t, e⟩) hs
/-- The best of the first b beginnings. -/
structure Best (l : List UInt8) (b k : Nat) (n : Int) : Prop where
  le : k ≤ b
  here : (k = 0 ∧ n = 0) ∨ (0 < k ∧ Num n (l.take k))
  most : ∀ j, k < j → j ≤ b → ∀ m, ¬ Num m (l.take j)
theorem Best.start (l : List UInt8) : Best l 0 0 0 := ⟨Nat.le_refl _, .inl ⟨rfl, rfl⟩, fun j h1 h2 => by omega⟩
theorem best_yes {l : List UInt8} {b : Nat} (he : pe (l.take (b + 1)) = 0) : Best l (b + 1) (b + 1) (pn (l.take (b + 1))) :=
  ⟨Nat.le_refl _, .inr ⟨by omega, pe_zero he⟩, fun j h1 h2 => by omega⟩
theorem Best.no {l : List UInt8} {b k : Nat} {n : Int} (h : Best l b k n) (he : pe (l.take (b + 1)) ≠ 0) : Best l (b + 1) k n := by
  refine ⟨by have := h.le; omega, h.here, fun j h1 h2 m hm => ?_⟩
  rcases Nat.lt_or_ge b j with c | c
  · obtain rfl : j = b + 1 := by omega
    exact he (pe_yes hm)
  · exact h.most j h1 c m hm
theorem Best.longest {l : List UInt8} {b k : Nat} {n : Int} (h : Best l b k n) (hb : b ≤ l.length) (he : b = l.length ∨ 20 ≤ b) : Longest l k n := by
  refine ⟨by have := h.le; omega, h.here, fun j h1 h2 m hm => ?_⟩
  rcases Nat.lt_or_ge b j with c | c
  · have := hm.len
    simp at this
    omega
  · exact h.most j h1 c m hm
theorem pe_two (l : List UInt8) : pe l = 0 ∨ pe l = 2 := by
  rcases pe_cases l with ⟨_, _, _, h⟩ | ⟨_, _, h⟩
  · exact .inl h
  · exact .inr h
end
end Go.Proofs.YtoegnnhnfkecoaaDoor
