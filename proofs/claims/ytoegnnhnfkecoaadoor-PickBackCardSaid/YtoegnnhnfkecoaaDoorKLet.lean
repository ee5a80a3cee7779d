/- Letters: package pick's Want and letter (a range over a text, rune by rune), and the document's Want. -/
import Derived.Test.YtoegnnhnfkecoaaDoorKTxt
import Derived.Test.YtoegnnhnfkecoaaDoorMem
import Derived.Test.YtoegnnhnfkecoaaDoorProg
import Derived.Laws.RangeString
import Derived.Laws.RangeAny
namespace Go.Proofs.YtoegnnhnfkecoaaDoor
open Go.RowKit

theorem let_at {p : Nat} (h : p < (⟨#[115, 108, 117, 114, 118]⟩ : ByteArray).size) : (⟨#[115, 108, 117, 114, 118]⟩ : ByteArray)[p]'h = lets.getD p 0 := by
  have h : p < 5 := h
  match p, h with
  | 0, _ => rfl
  | 1, _ => rfl
  | 2, _ => rfl
  | 3, _ => rfl
  | 4, _ => rfl
theorem let_small {p : Nat} (h : p < 5) : (lets.getD p 0).toNat < 128 := by
  match p, h with
  | 0, _ => decide
  | 1, _ => decide
  | 2, _ => decide
  | 3, _ => decide
  | 4, _ => decide
/-- None of the first letters is it. -/
def NoneOf (c : UInt8) (p : Nat) : Prop := ∀ j, j < p → lets.getD j 0 ≠ c
theorem NoneOf.zero (c : UInt8) : NoneOf c 0 := fun _ h => absurd h (by omega)
theorem NoneOf.next {c : UInt8} {p : Nat} (h : NoneOf c p) (hp : lets.getD p 0 ≠ c) : NoneOf c (p + 1) := fun j hj => by
  by_cases e : j = p
  · subst e; exact hp
  · exact h j (by omega)
theorem let_none {c : UInt8} (h : NoneOf c 5) : wn c = 0 ∧ wb c = false := by
  have hc : wb c = false := by
    cases e : wb c with
    | false => rfl
    | true =>
      rcases wb_cases e with rfl | rfl | rfl | rfl | rfl
      · exact absurd rfl (h 0 (by decide))
      · exact absurd rfl (h 1 (by decide))
      · exact absurd rfl (h 2 (by decide))
      · exact absurd rfl (h 3 (by decide))
      · exact absurd rfl (h 4 (by decide))
  refine ⟨?_, hc⟩
  unfold wb at hc
  unfold wn
  rw [hc]
  rfl
theorem let_hit {c : UInt8} {p : Nat} (hp : p < 5) (h : lets.getD p 0 = c) : wn c = p ∧ wb c = true := by
  subst h
  match p, hp with
  | 0, _ => decide
  | 1, _ => decide
  | 2, _ => decide
  | 3, _ => decide
  | 4, _ => decide
theorem wc_at (p : Nat) : wc p = lets.getD p 0 := by simp [wc]
theorem wok_at {p : Nat} (h : p < 5) : wok p = true := by
  unfold wok
  exact decide_eq_true (by omega)
theorem next_let (w : World) {p : Nat} (hp : p < 5) (ty : TypeId) : (Instr.next (.pointer (some ⟨w.heap.size, 0, none⟩)) true ty).run Tryd.prog (w.iter ⟨#[115, 108, 117, 114, 118]⟩ p) = .ok (.tuple #[.bool true, .int .i64 p, .int .i32 (lets.getD p 0).toNat]) (w.iter ⟨#[115, 108, 117, 114, 118]⟩ (p + 1)) := by
  have h : p < (⟨#[115, 108, 117, 114, 118]⟩ : ByteArray).size := hp
  have e := let_at h
  have := run_next_ascii (P := Tryd.prog) w ⟨#[115, 108, 117, 114, 118]⟩ p ty h (by rw [e]; exact let_small hp)
  rw [e] at this
  exact this
theorem next_stop (w : World) (ty : TypeId) : (Instr.next (.pointer (some ⟨w.heap.size, 0, none⟩)) true ty).run Tryd.prog (w.iter ⟨#[115, 108, 117, 114, 118]⟩ 5) = .ok (.tuple #[.bool false]) (w.iter ⟨#[115, 108, 117, 114, 118]⟩ 5) :=
  run_next_end w _ 5 ty (by decide)
theorem ret_two {a a' : Int} {b b' : Bool} {k : IntKind} (h1 : a = a') (h2 : b = b') : Ending.returned (.tuple #[.int k a, .bool b]) = .returned (.tuple #[.int k a', .bool b']) := by rw [h1, h2]

section
variable (w : World)
set_option maxHeartbeats 400000
theorem want_c (c : UInt8) : Calls Tryd.prog 11 #[.int .u8 c.toNat] w fun e w' => e = .returned (.tuple #[.int .i64 (wn c), .bool (wb c)]) ∧ Kept Nil w w' := by
  have hc32 : IntKind.i32.wrap (c.toNat : Int) = c.toNat := by
    have := c.toNat_lt
    simp [IntKind.wrap, IntKind.signed, IntKind.bits]
    omega
  go_enter Tryd.func11, Tryd.ntmps11
  go_wp2
  go_loopw [4] (fun _ wr => ∃ p : Nat, p ≤ 5 ∧ wr = w.iter ⟨#[115, 108, 117, 114, 118]⟩ p ∧ NoneOf c p) (fun _ wr => 5 - wr.iterPos w.heap.size)
  case atStart => exact ⟨0, by decide, rfl, NoneOf.zero c⟩
  case round =>
    obtain ⟨p, hp, rfl, hno⟩ := hrel
    have HN := hide hno
    clear hno
    by_cases hlt : p < 5
    · have hnx := next_let w hlt
      by_cases he : lets.getD p 0 = c
      · have HE := hide (let_hit hlt he)
        rw [he] at hnx
        clear he
        go_wp2
        go_ret2
        exact ⟨(ret_two HE.out.1.symm HE.out.2.symm : Ending.returned (.tuple #[.int .i64 (p : Int), .bool true]) = _), (Kept.refl Nil w).alloc _⟩
      · have HX := hide (HN.out.next he)
        have ht : (((lets.getD p 0).toNat : Int) == (c.toNat : Int)) = false := by
          have : ¬ ((lets.getD p 0).toNat : Int) = (c.toNat : Int) := fun z => he (UInt8.toNat_inj.1 (by omega))
          simpa using this
        clear he
        generalize ((lets.getD p 0).toNat : Int) = x at *
        go_wp2
        go_roundw
        case rel => exact ⟨p + 1, by omega, rfl, HX.out⟩
        case measure => simp; omega
    · obtain rfl : p = 5 := by omega
      have hnx := next_stop w
      go_wp2
      go_ret2
      exact ⟨(ret_two (let_none HN.out).1.symm (let_none HN.out).2.symm : Ending.returned (.tuple #[.int .i64 0, .bool false]) = _), (Kept.refl Nil w).alloc _⟩
theorem letter_yes (x : Int) (hx : wok x = true) : Calls Tryd.prog 17 #[.int .i64 x] w fun e w' => e = .returned (.tuple #[.int .i32 (wc x).toNat, .bool true]) ∧ Kept Nil w w' := by
  obtain ⟨m, hm, rfl⟩ : ∃ m : Nat, m < 5 ∧ x = m := by
    have := of_decide_eq_true hx
    exact ⟨x.toNat, by omega, by omega⟩
  have HW := hide (wc_at m)
  clear hx
  go_enter Tryd.func17, Tryd.ntmps17
  go_wp2
  go_loopw [4] (fun _ wr => ∃ p : Nat, p ≤ m ∧ wr = w.iter ⟨#[115, 108, 117, 114, 118]⟩ p) (fun _ wr => 5 - wr.iterPos w.heap.size)
  case atStart => exact ⟨0, by omega, rfl⟩
  case round =>
    obtain ⟨p, hp, rfl⟩ := hrel
    have hnx := next_let w (show p < 5 by omega)
    by_cases he : p = m
    · subst he
      rw [← HW.out] at hnx
      go_wp2
      go_ret2
      exact ⟨rfl, (Kept.refl Nil w).alloc _⟩
    · have ht : ((p : Int) == (m : Int)) = false := by
        have : ¬ (p : Int) = (m : Int) := by omega
        simpa using this
      have HL := hide (show p < m by omega)
      clear he
      generalize ((lets.getD p 0).toNat : Int) = x at *
      go_wp2
      go_roundw
      case rel => exact ⟨p + 1, by have := HL.out; omega, rfl⟩
      case measure => have := HL.out; simp; omega
theorem letter_no (x : Int) (hx : wok x = false) : Calls Tryd.prog 17 #[.int .i64 x] w fun e w' => e = .returned (.tuple #[.int .i32 0, .bool false]) ∧ Kept Nil w w' := by
  have HX := hide (of_decide_eq_false hx)
  clear hx
  go_enter Tryd.func17, Tryd.ntmps17
  go_wp2
  go_loopw [4] (fun _ wr => ∃ p : Nat, p ≤ 5 ∧ wr = w.iter ⟨#[115, 108, 117, 114, 118]⟩ p) (fun _ wr => 5 - wr.iterPos w.heap.size)
  case atStart => exact ⟨0, by omega, rfl⟩
  case round =>
    obtain ⟨p, hp, rfl⟩ := hrel
    by_cases hlt : p < 5
    · have hnx := next_let w hlt
      have ht : ((p : Int) == x) = false := by
        have := HX.out
        have : ¬ (p : Int) = x := by omega
        simpa using this
      generalize ((lets.getD p 0).toNat : Int) = y at *
      go_wp2
      go_roundw
      case rel => exact ⟨p + 1, by omega, rfl⟩
      case measure => simp; omega
    · obtain rfl : p = 5 := by omega
      have hnx := next_stop w
      go_wp2
      go_ret2
      exact ⟨rfl, (Kept.refl Nil w).alloc _⟩
/-- The document's Want. -/
theorem rwant_c (c : UInt8) : Calls Tryd.prog 12 #[.int .u8 c.toNat] w fun e w' => e = .returned (.tuple #[.int .i64 (wn c), .bool (wb c)]) ∧ w = w' := by
  go_enter Tryd.func12, Tryd.ntmps12
  go_wp2
  go_loop [5] (fun i => ∃ p : Nat, p ≤ 5 ∧ i = .int .i64 p ∧ NoneOf c p) (fun i => 5 - (intOf i).toNat)
  case atStart => exact ⟨0, by decide, rfl, NoneOf.zero c⟩
  case round =>
    obtain ⟨p, hp, rfl, hno⟩ := hrel
    have HN := hide hno
    clear hno
    by_cases hlt : p < 5
    · have hsz : p < (⟨#[115, 108, 117, 114, 118]⟩ : ByteArray).size := hlt
      have hx : (⟨#[115, 108, 117, 114, 118]⟩ : ByteArray)[p]'hsz = lets.getD p 0 := let_at hsz
      by_cases he : lets.getD p 0 = c
      · have HE := hide (let_hit hlt he)
        rw [he] at hx
        clear he
        go_wp2
        go_ret2
        exact ⟨(ret_two HE.out.1.symm HE.out.2.symm : Ending.returned (.tuple #[.int .i64 (p : Int), .bool true]) = _), rfl⟩
      · have HX := hide (HN.out.next he)
        have ht : (((lets.getD p 0).toNat : Int) == (c.toNat : Int)) = false := by
          have : ¬ ((lets.getD p 0).toNat : Int) = (c.toNat : Int) := fun z => he (UInt8.toNat_inj.1 (by omega))
          simpa using this
        clear he
        generalize lets.getD p 0 = x at *
        go_wp2
        go_round
        case rel => exact ⟨p + 1, by omega, by go_num, HX.out⟩
        case measure => simp [intOf]; omega
    · obtain rfl : p = 5 := by omega
      go_wp2
      go_ret2
      exact ⟨(ret_two (let_none HN.out).1.symm (let_none HN.out).2.symm : Ending.returned (.tuple #[.int .i64 0, .bool false]) = _), rfl⟩
end
end Go.Proofs.YtoegnnhnfkecoaaDoor
