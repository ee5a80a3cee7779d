/- strings.IndexAny for two blanks in a short text of any bytes: the library's own words serve texts of ASCII bytes alone. -/
import Derived.Test.YtcpcdfihgabelaaDoorShelf
import Derived.Test.YtcpcdfihgabelaaDoorLTxt
import Derived.Test.YtcpcdfihgabelaaDoorMem
import Derived.Lib.OthersKept
import Derived.Lib.DecodeN
import Derived.Laws.Runes
import Derived.Laws.RangeAny
import Derived.WalkMore
import Derived.BigQuiet
import Derived.Deep.LoopGhost
namespace Go.Proofs.YtcpcdfihgabelaaDoor
open Go.RowKit

theorem conts (n b0 b1 b2 b3 : Nat) : (2 ≤ (Lib.decodeN n b0 b1 b2 b3).2 → b1 / 64 = 2) ∧ (3 ≤ (Lib.decodeN n b0 b1 b2 b3).2 → b2 / 64 = 2) ∧ (4 ≤ (Lib.decodeN n b0 b1 b2 b3).2 → b3 / 64 = 2) ∧ (Lib.decodeN n b0 b1 b2 b3).2 ≤ 4 := by
  unfold Lib.decodeN
  repeat' split
  all_goals (simp only; omega)
/-- All bytes of a letter that begins with no ASCII byte are none. -/
theorem high_skip (s : ByteArray) (pos : Nat) (h : pos < s.size) (ha : 128 ≤ (s[pos]'h).toNat) (j : Nat) (h1 : pos ≤ j) (h2 : j < pos + (Utf8.decode s pos).2) (b : UInt8) (hb : s.data.toList[j]? = some b) : 128 ≤ b.toNat := by
  have hj : j < s.size := by
    have := (List.getElem?_eq_some_iff.1 hb).1
    simpa using this
  have hbj : b = s.get! j := by
    rw [Lib.data_getElem? s j hj] at hb
    injection hb with hb
    rw [← hb, ← get_at s j hj]
    rfl
  have hc := conts (s.size - pos) (s.get! pos).toNat (s.get! (pos + 1)).toNat (s.get! (pos + 2)).toNat (s.get! (pos + 3)).toNat
  rw [← Lib.decode_at] at hc
  obtain ⟨c1, c2, c3, c4⟩ := hc
  have h0 : 128 ≤ (s.get! pos).toNat := by
    have := get_at s pos h
    rw [Nat.add_zero] at this
    rw [this]
    exact ha
  have : j = pos ∨ j = pos + 1 ∨ j = pos + 2 ∨ j = pos + 3 := by omega
  rw [hbj]
  rcases this with rfl | rfl | rfl | rfl
  · exact h0
  · have := c1 (by omega); omega
  · have := c2 (by omega); omega
  · have := c3 (by omega); omega
theorem blanks_low {b : UInt8} (h : 128 ≤ b.toNat) : blanks.contains b = false := by
  have h1 : b ≠ 32 := by rintro rfl; exact absurd h (by decide)
  have h2 : b ≠ 9 := by rintro rfl; exact absurd h (by decide)
  simp [blanks, h1, h2]
theorem noany_skip {l : List UInt8} {pos k : Nat} (h : Lib.NoAny l blanks pos) (hs : ∀ j b, pos ≤ j → j < pos + k → l[j]? = some b → 128 ≤ b.toNat) : Lib.NoAny l blanks (pos + k) := fun j b hj hb => by
  rcases Nat.lt_or_ge j pos with c | c
  · exact h j b c hb
  · exact blanks_low (hs j b c hj hb)
theorem kept_iterAt {w wr : World} (h : Kept Nil w wr) (s : ByteArray) (q : Nat) : Kept Nil w (wr.iterAt w.heap.size s q) :=
  ⟨h.os, h.tape, h.output, by rw [Lib.iterAt_size]; exact h.size, fun i hi hn => (Lib.iterAt_other _ _ _ _ _ (by omega)).trans (h.block i hi hn)⟩
theorem noany_less {l : List UInt8} {i j : Nat} (h : Lib.NoAny l blanks j) (hi : i ≤ j) : Lib.NoAny l blanks i := fun k b hk hb => h k b (by omega) hb

section
variable (w : World)
set_option maxHeartbeats 1000000
set_option maxRecDepth 100000
theorem no_byte (x : Int) (w : World) : Calls Tryd.prog 83 #[.string ByteArray.empty, .int .u8 x] w fun e w' => e = .returned (.int .i64 (-1)) ∧ w' = w := Tryd.strings_IndexByte ByteArray.empty x w
theorem rune_high (r : Int) (h0 : 128 ≤ r) (h1 : r ≤ 2147483647) : Calls Tryd.prog 74 #[.string ⟨#[32, 9]⟩, .int .i32 r] w fun e w' => e = .returned (.int .i64 (-1)) ∧ Kept Nil w w' := by
  by_cases he : r = 65533
  · subst he
    go_enter Tryd.func74, Tryd.ntmps74
    go_wp2
    have n0 := fun ty => run_next_ascii (P := Tryd.prog) w ⟨#[32, 9]⟩ 0 ty (by decide) (by decide)
    have n1 := fun ty => run_next_ascii (P := Tryd.prog) w ⟨#[32, 9]⟩ 1 ty (by decide) (by decide)
    have n2 := fun ty => run_next_end (P := Tryd.prog) w ⟨#[32, 9]⟩ 2 ty (by decide)
    go_loopw [5, 6] (fun _ _ wr => ∃ i, i ≤ 2 ∧ wr = w.iter ⟨#[32, 9]⟩ i) (fun _ _ wr => 2 - wr.iterPos w.heap.size)
    case atStart => exact ⟨0, by omega, rfl⟩
    case round =>
      obtain ⟨i, hi, rfl⟩ := hrel
      have : i = 0 ∨ i = 1 ∨ i = 2 := by omega
      rcases this with rfl | rfl | rfl
      · go_wp2
        go_roundw
        case rel => exact ⟨1, by omega, rfl⟩
        case measure => simp
      · go_wp2
        go_roundw
        case rel => exact ⟨2, by omega, rfl⟩
        case measure => simp
      · go_wp2
        go_ret
        exact ⟨rfl, (Kept.refl Nil w).alloc _⟩
  · cases hv : Lib.validRune r with
    | false =>
      go_enter Tryd.func74, Tryd.ntmps74
      go_wp2_with (go_at_call 84; refine (Tryd.utf8_ValidRune _ _).mono ?_; rintro e w' ⟨rfl, rfl⟩; rw [hv])
      go_ret
      exact ⟨rfl, Kept.refl _ _⟩
    | true =>
      have hval : Utf8.valid r = true := by rw [validRune_eq]; exact hv
      obtain ⟨e1, e2, e3⟩ := encode_facts r hval h0
      obtain ⟨t, ht⟩ : ∃ t, Utf8.encode r = t := ⟨_, rfl⟩
      have hc : ∀ w : World, (convert 21 9 (.int .i32 r)).run Tryd.prog w = .ok (.string t) w := fun w => by
        rw [run_convert_int_string w _ _ _ _ (by rw [Tryd.underlying21]; rfl) Tryd.underlying9, ht]
      rw [ht] at e1 e2 e3
      rcases Nat.lt_or_ge 2 t.size with h3 | h3
      · go_enter Tryd.func74, Tryd.ntmps74
        go_wp2_with (go_at_call 84; refine (Tryd.utf8_ValidRune _ _).mono ?_; rintro e w' ⟨rfl, rfl⟩; rw [hv])
        go_step3
        go_wp2
        go_loopw [9] (fun i wr => i = .int .i64 ((t.size : Int) - 1) ∧ wr = w') (fun _ _ => 0)
        case atStart => exact ⟨rfl, rfl⟩
        case round =>
          obtain ⟨rfl, rfl⟩ := hrel
          go_wp2
          simp only [Exit.noGoto]
          go_ret
          exact ⟨rfl, Kept.refl _ _⟩
      · obtain ⟨a, b, rfl⟩ : ∃ a b, t = ⟨#[a, b]⟩ := by
          obtain ⟨⟨l⟩⟩ := t
          match l, e1, h3 with
          | [a, b], _, _ => exact ⟨a, b, rfl⟩
          | [], h, _ => exact absurd (show 2 ≤ 0 from h) (by omega)
          | [_], h, _ => exact absurd (show 2 ≤ 1 from h) (by omega)
          | _ :: _ :: _ :: t, _, h => exact absurd (show t.length + 3 ≤ 2 from h) (by omega)
        have hb : 128 ≤ b.toNat := e3 (by show 1 < 2; omega)
        have hne : ((((⟨#[32, 9]⟩ : ByteArray)[1]'(by decide)).toNat : Int) != (((⟨#[a, b]⟩ : ByteArray)[1]'(by show 1 < 2; omega)).toNat : Int)) = true := show ((9 : Int) != (b.toNat : Int)) = true by simp; omega
        clear e1 e2 e3 h3
        go_enter Tryd.func74, Tryd.ntmps74
        go_wp2_with (go_at_call 84; refine (Tryd.utf8_ValidRune _ _).mono ?_; rintro e w' ⟨rfl, rfl⟩; rw [hv])
        go_step3
        go_wp2
        go_loopw [9] (fun i wr => i = .int .i64 1 ∧ wr = w') (fun _ _ => 0)
        case atStart => exact ⟨rfl, rfl⟩
        case round =>
          obtain ⟨rfl, rfl⟩ := hrel
          go_wp2
          go_step3
          go_wp2
          go_quiet (fail)
          go_wp2
          have hw2 : IntKind.i64.wrap 2 = 2 := rfl
          have cb := no_byte
          go_quiet ((exact (cb _ _).mono fun _ _ ⟨e1, e2⟩ => ⟨e1, _, e2⟩))
          go_wp2
          simp +zetaDelta only [Exit.noGoto, Exit.inBlock, Exit.then]
          go_ret
          exact ⟨rfl, (Kept.refl _ _).drewN _⟩
theorem any_short (s chars : ByteArray) (hch : chars = ⟨#[32, 9]⟩) (h8 : s.size ≤ 8) : Calls Tryd.prog 64 #[.string s, .string chars] w fun e w' => e = .returned (.int .i64 (Lib.indexAny s.data.toList blanks)) ∧ Kept Nil w w' := by
  have RH := rune_high
  rw [← hch] at RH
  have RH := hide RH
  have hcl : chars.data.toList = blanks := by rw [hch]; rfl
  have hemp : chars.toList.isEmpty = false := by rw [Lib.toList_data, hcl]; rfl
  have hsz : chars.size = 2 := by rw [hch]; rfl
  have hn1 : ((chars.size : Int) == 1) = false := beq_eq_false_iff_ne.2 (by omega)
  have h8z : decide ((8 : Int) < (s.size : Int)) = false := decide_eq_false (by omega)
  clear hch
  go_enter Tryd.func64, Tryd.ntmps64
  go_wp2_with (go_at_call 75; refine (Tryd.strings_shouldUseASCIISet _ _).mono ?_; rintro e w' ⟨rfl, rfl⟩; rw [h8z])
  go_loopg [9, 10] s.size (fun g _ _ wx => ∃ pos : Nat, wx.heap[w'.heap.size]? = some (.stringIter s pos) ∧ Kept Nil w' wx ∧ Lib.NoAny s.data.toList blanks pos ∧ s.size ≤ pos + g)
  case atStart => exact ⟨0, World.iter_heap w' s 0, (Kept.refl _ w').alloc _, Lib.NoAny.zero _ _, by omega⟩
  case round =>
    obtain ⟨pos, hit, hk, hno, hfu⟩ := hrel
    have HN := hide hno
    have HI := hide hit
    have HK := hide hk
    clear hno hk
    have hsw : w'.heap.size < wr.heap.size := (Array.getElem?_eq_some_iff.1 hit).1
    by_cases hp : pos < s.size
    · obtain ⟨g, rfl⟩ : ∃ g, gk = g + 1 := ⟨gk - 1, by omega⟩
      have hxl := Lib.data_getElem? s pos hp
      have hnx : ∀ ty, (Instr.next (.pointer (some ⟨w'.heap.size, 0, none⟩)) true ty).run Tryd.prog wr = _ := fun ty => Lib.run_next_any_at wr w'.heap.size s pos ty hit hp
      have hkn := kept_iterAt HK.out s (pos + (Utf8.decode s pos).2)
      have hit2 := Lib.iterAt_heap wr w'.heap.size s pos (pos + (Utf8.decode s pos).2) hit
      obtain ⟨W, hWd⟩ : ∃ W, wr.iterAt w'.heap.size s (pos + (Utf8.decode s pos).2) = W := ⟨_, rfl⟩
      rw [hWd] at hnx hkn hit2
      have HW := hide (And.intro hkn hit2)
      clear hkn hit2 hWd hit
      by_cases ha : (s[pos]'hp).toNat < 128
      · rw [decode_ascii s pos hp ha] at hnx HW
        obtain ⟨x, hx⟩ : ∃ x : UInt8, s[pos]'hp = x := ⟨_, rfl⟩
        rw [hx] at hxl ha
        simp only [hx] at hnx HW
        have HX := hide hxl
        clear hxl hx
        have hcon := Lib.contains_iff_indexByte blanks x
        have hback : ((x.toNat : Int)).toNat.toUInt8 = x := by simp
        have cr := fun w => Tryd.strings_IndexRune_ascii chars x.toNat w (by omega) (by omega)
        rw [hcl, hback] at cr
        cases hin : blanks.contains x with
        | false =>
          rw [hin] at hcon
          have hlt : ¬ ((0 : Int) ≤ Lib.indexByte blanks x) := of_decide_eq_false hcon.symm
          clear hcon
          generalize Lib.indexByte blanks x = y at *
          go_wp2_with (go_at_call 74; refine (cr _).mono ?_; rintro e w2 ⟨rfl, rfl⟩)
          go_roundg g
          case measure => omega
          case rel => exact ⟨pos + 1, HW.out.2, HW.out.1, HN.out.succ HX.out hin, by omega⟩
        | true =>
          rw [hin] at hcon
          have hge : (0 : Int) ≤ Lib.indexByte blanks x := of_decide_eq_true hcon.symm
          clear hcon
          have HE := hide (Lib.indexAny_hit HN.out HX.out hin)
          generalize Lib.indexByte blanks x = y at *
          go_wp2_with (go_at_call 74; refine (cr _).mono ?_; rintro e w2 ⟨rfl, rfl⟩)
          go_ret
          exact ⟨by rw [HE.out]; rfl, HW.out.1⟩
      · obtain ⟨h1, h2⟩ := decode_high s pos hp (by omega)
        have h3 := decode_le s pos
        have HS := hide (noany_skip HN.out (fun j b u1 u2 u3 => high_skip s pos hp (by omega) j u1 u2 b u3))
        clear hxl
        obtain ⟨R, hR⟩ : ∃ R, (Utf8.decode s pos).1 = R := ⟨_, rfl⟩
        obtain ⟨K, hK⟩ : ∃ K, (Utf8.decode s pos).2 = K := ⟨_, rfl⟩
        rw [hR] at h1 h3
        rw [hK] at h2
        rw [hK] at HS HW
        rw [hR] at hnx
        clear hR hK ha
        have cr := RH.out W R (by omega) (by omega)
        go_wp2_with (go_at_call 74; refine cr.mono ?_; rintro e w2 ⟨rfl, hk2⟩; have H2 := hide (And.intro (HW.out.1.trans hk2 (fun _ _ h => h)) ((hk2.block _ ((Array.getElem?_eq_some_iff.1 HW.out.2).1) (fun h => h)).trans HW.out.2)); clear hk2)
        go_roundg g
        case measure => omega
        case rel => exact ⟨pos + K, H2.out.2, H2.out.1, HS.out, by omega⟩
    · have hnx : ∀ ty, (Instr.next (.pointer (some ⟨w'.heap.size, 0, none⟩)) true ty).run Tryd.prog wr = _ := fun ty => Lib.run_next_end_at wr w'.heap.size s pos ty hit hp
      have HE := hide (Lib.indexAny_none (noany_less HN.out (show s.data.toList.length ≤ pos by simp; omega)))
      go_wp2
      go_ret
      exact ⟨by rw [HE.out]; rfl, HK.out⟩
theorem set_zero : ∀ w, (zeroValue 87).run Tryd.prog w = .ok (.agg (Array.replicate 256 (.bool false))) w := fun w => by kernel_rfl
theorem blanks_ascii : ∀ (j : Nat) b, blanks[j]? = some b → b.toNat < 128 := by
  intro j b h
  have hm : b ∈ blanks := List.mem_of_getElem? h
  simp [blanks] at hm
  rcases hm with rfl | rfl <;> decide
/-- strings.IndexAny for blanks. -/
theorem any_blanks (s : ByteArray) (hs : s.size ≤ 65536) : Calls Tryd.prog 64 #[.string s, .string ⟨#[32, 9]⟩] w fun e w' => e = .returned (.int .i64 (Lib.indexAny s.data.toList blanks)) ∧ Kept Nil w w' := by
  rcases Nat.lt_or_ge 8 s.size with h | h
  · refine (Tryd.strings_IndexAny_long set_zero s ⟨#[32, 9]⟩ w (by decide) h (by omega) (by decide) blanks_ascii).mono ?_
    rintro e w' ⟨rfl, rfl⟩
    exact ⟨rfl, ((Kept.refl Nil w).alloc _).alloc _⟩
  · exact any_short w s _ rfl h
/-- .. for a line's end. -/
theorem any_ten (s : ByteArray) : Calls Tryd.prog 64 #[.string s, .string ⟨#[10]⟩] w fun e w' => e = .returned (.int .i64 (Lib.indexAny s.data.toList [10])) ∧ Kept Nil w w' := by
  refine (Tryd.strings_IndexAny_one s ⟨#[10]⟩ w rfl (fun j b h => ?_)).mono ?_
  · have hm : b ∈ [(10 : UInt8)] := List.mem_of_getElem? h
    simp at hm
    subst hm
    decide
  · rintro e w' ⟨rfl, rfl⟩
    exact ⟨rfl, Kept.refl _ _⟩
end
end Go.Proofs.YtcpcdfihgabelaaDoor
