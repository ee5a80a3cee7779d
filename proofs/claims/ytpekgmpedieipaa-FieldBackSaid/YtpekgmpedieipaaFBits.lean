/- The parts of a word of 64 bits, as numbers: what and, or and and-not come to at this layer's masks. It speaks of no program. -/
import Derived.Laws.BitsLemmas
namespace Go.Proofs.Ytpekgmpedieipaa

/-- An int's own range. -/
def I64 (w : Int) : Prop := -9223372036854775808 ≤ w ∧ w ≤ 9223372036854775807
/-- The three parts. -/
def idx (w : Int) : Int := w % 65536
def num (w : Int) : Int := w / 65536 % 140737488355328
def neg (w : Int) : Bool := decide (w < 0)
/-- With the mark, and without it. -/
def off (w : Int) : Int := if w < 0 then w + 9223372036854775808 else w
def on (w : Int) : Int := if w < 0 then w else w - 9223372036854775808

theorem ofInt_nat {w : Int} (h : I64 w) : ((BitVec.ofInt 64 w).toNat : Int) = if w < 0 then w + 18446744073709551616 else w := by
  obtain ⟨h1, h2⟩ := h
  rw [BitVec.toNat_ofInt]
  split <;> omega

theorem wrap_nat (n : Nat) (h : n < 9223372036854775808) : IntKind.i64.wrap (n : Int) = n := by
  rw [IntKind.wrap_i64]; omega
theorem wrap_high (n : Nat) (h : 9223372036854775808 ≤ n) (h2 : n < 18446744073709551616) : IntKind.i64.wrap (n : Int) = n - 18446744073709551616 := by
  rw [IntKind.wrap_i64]; omega

/-- A mask of the lowest j bits. -/
theorem and_mask {w : Int} (h : I64 w) (j : Nat) (hj : j < 64) : bits .and .i64 w (2 ^ j - 1) = w % 2 ^ j := by
  have hpos : 0 < 2 ^ j := Nat.two_pow_pos j
  have hle : 2 ^ j ≤ 2 ^ 63 := Nat.pow_le_pow_right (by decide) (by omega)
  have hm : BitVec.ofInt 64 ((2 : Int) ^ j - 1) = BitVec.ofNat 64 (2 ^ j - 1) := by
    rw [show ((2 : Int) ^ j - 1) = ((2 ^ j - 1 : Nat) : Int) by rw [Int.natCast_sub hpos]; simp, BitVec.ofInt_natCast]
  show IntKind.i64.wrap ((BitVec.ofInt 64 w &&& BitVec.ofInt 64 (2 ^ j - 1)).toNat : Int) = _
  rw [hm, BitVec.toNat_and, BitVec.toNat_ofNat, Nat.mod_eq_of_lt (Nat.lt_of_lt_of_le (Nat.sub_lt hpos (by decide)) (Nat.pow_le_pow_right (by decide) (by omega))), Nat.and_two_pow_sub_one_eq_mod]
  have hlt : (BitVec.ofInt 64 w).toNat % 2 ^ j < 2 ^ j := Nat.mod_lt _ hpos
  rw [wrap_nat _ (by omega), Int.natCast_emod, ofInt_nat h]
  split
  · rw [show (18446744073709551616 : Int) = 2 ^ j * 2 ^ (64 - j) by rw [← Int.pow_add]; rw [show j + (64 - j) = 64 by omega]; rfl]
    simp
  · simp

theorem index_bits {w : Int} (h : I64 w) : bits .and .i64 w 65535 = idx w := and_mask h 16 (by decide)
theorem number_bits {w : Int} (h : I64 w) : bits .and .i64 (w / 65536) 140737488355327 = num w := by
  refine and_mask (w := w / 65536) ?_ 47 (by decide)
  obtain ⟨h1, h2⟩ := h
  constructor <;> omega

theorem high : BitVec.ofInt 64 (-9223372036854775808) = BitVec.twoPow 64 63 := by decide

theorem and_low (x : BitVec 64) : (x &&& ~~~BitVec.twoPow 64 63).toNat = x.toNat % 9223372036854775808 := by
  have : (x &&& ~~~BitVec.twoPow 64 63) = x &&& BitVec.ofNat 64 9223372036854775807 := by rfl
  rw [this, BitVec.toNat_and]
  exact Nat.and_two_pow_sub_one_eq_mod x.toNat 63

theorem or_high (x : BitVec 64) : (x ||| BitVec.twoPow 64 63).toNat = x.toNat % 9223372036854775808 + 9223372036854775808 := by
  have h2 : x ||| BitVec.twoPow 64 63 = (x &&& ~~~BitVec.twoPow 64 63) ||| BitVec.twoPow 64 63 := by
    ext i hi
    simp
    by_cases e : i = 63 <;> simp [e]
  have h3 : (x &&& ~~~BitVec.twoPow 64 63).toNat < 2 ^ 63 := by rw [and_low]; omega
  rw [h2, BitVec.toNat_or, show (BitVec.twoPow 64 63).toNat = 2 ^ 63 * 1 by decide, Nat.or_comm, ← Nat.two_pow_add_eq_or_of_lt h3 1, and_low]
  omega

theorem off_bits {w : Int} (h : I64 w) : bits .andNot .i64 w (-9223372036854775808) = off w := by
  show IntKind.i64.wrap ((BitVec.ofInt 64 w &&& ~~~BitVec.ofInt 64 (-9223372036854775808)).toNat : Int) = _
  have hn := ofInt_nat h
  obtain ⟨h1, h2⟩ := h
  rw [high, and_low, wrap_nat _ (by omega)]
  unfold off
  split at hn <;> rename_i c <;> simp only [c, if_true, if_false] <;> omega
theorem on_bits {w : Int} (h : I64 w) : bits .or .i64 w (-9223372036854775808) = on w := by
  show IntKind.i64.wrap ((BitVec.ofInt 64 w ||| BitVec.ofInt 64 (-9223372036854775808)).toNat : Int) = _
  have hn := ofInt_nat h
  obtain ⟨h1, h2⟩ := h
  rw [high, or_high, wrap_high _ (by omega) (by omega)]
  unfold on
  split at hn <;> rename_i c <;> simp only [c, if_true, if_false] <;> omega
theorem mark_bits {w : Int} (h : I64 w) : (w / 9223372036854775808 != 0) = neg w := by
  obtain ⟨h1, h2⟩ := h
  unfold neg
  rw [Bool.eq_iff_iff]
  simp
  omega
theorem pack_bits {i n : Int} (h1 : 0 ≤ i) (h2 : i ≤ 65535) (h3 : 0 ≤ n) (h4 : n ≤ 140737488355327) : bits .or .i64 (n * 65536) i = n * 65536 + i := by
  obtain ⟨a, rfl⟩ := Int.eq_ofNat_of_zero_le h1
  obtain ⟨b, rfl⟩ := Int.eq_ofNat_of_zero_le h3
  exact bits_join .i64 63 (by decide) (fun n h0 h1 => by rw [IntKind.wrap_i64]; omega) 16 _ _ (by omega) (by omega) (by omega) (by omega) (by omega) (by omega)

/-! What follows of the parts. -/
theorem parts_ok (w : Int) (_ : I64 w) : 0 ≤ idx w ∧ idx w ≤ 65535 ∧ 0 ≤ num w ∧ num w ≤ 140737488355327 := by unfold idx num; omega
theorem parts_off (w : Int) (h : I64 w) : num w * 65536 + idx w = off w := by
  obtain ⟨h1, h2⟩ := h
  unfold num idx off
  split <;> omega
theorem off_range {w : Int} (h : I64 w) : 0 ≤ off w ∧ off w ≤ 9223372036854775807 := by
  obtain ⟨h1, h2⟩ := h
  unfold off
  split <;> omega
theorem on_range {w : Int} (h : I64 w) : -9223372036854775808 ≤ on w ∧ on w < 0 := by
  obtain ⟨h1, h2⟩ := h
  unfold on
  split <;> omega
theorem idx_pack {i n : Int} (h1 : 0 ≤ i) (h2 : i ≤ 65535) : idx (n * 65536 + i) = i := by unfold idx; omega
theorem num_pack {i n : Int} (h1 : 0 ≤ i) (h2 : i ≤ 65535) (h3 : 0 ≤ n) (h4 : n ≤ 140737488355327) : num (n * 65536 + i) = n := by unfold num; omega
theorem idx_off (w : Int) : idx (off w) = idx w := by unfold idx off; split <;> omega
theorem idx_on (w : Int) : idx (on w) = idx w := by unfold idx on; split <;> omega
theorem num_off (w : Int) : num (off w) = num w := by unfold num off; split <;> omega
theorem num_on (w : Int) : num (on w) = num w := by unfold num on; split <;> omega
end Go.Proofs.Ytpekgmpedieipaa
