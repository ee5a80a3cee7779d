/- Contracts of strings.Builder's WriteString at this program (the library's do not lie here), and of Text. -/
import Derived.Test.YtmalfpplclijnaaDoorLWords
import Derived.Lib.Builder
import Derived.Lib.AppendStr
import Derived.Lib.UnsafeStr
import Derived.Laws.Externs
import Derived.Shelf.RegionOpenPlain
namespace Go.Proofs.YtmalfpplclijnaaDoor
open Go.RowKit

theorem size_builder : (Tryd.prog.info? 40).map (·.size) = some 2 := by kernel_rfl
theorem lies_builder : liesAt Tryd.prog Tryd.prog.depth 40 (2 / Tryd.prog.cellsOf 40) 0 40 1 = true := by kernel_rfl
theorem info_byte : (Tryd.prog.info? 5).map (fun i => (i.zero, i.size, i.bytes)) = some (some (.int .u8 0), 1, 1) := by kernel_rfl

section
variable (w : World)
set_option maxHeartbeats 1000000
theorem check_used (b : Nat) (h0 : w.cell? ⟨b, 0, none⟩ = some (.pointer (some ⟨b, 0, none⟩))) : Calls Tryd.prog 29 #[.pointer (some ⟨b, 0, none⟩)] w fun e w' => e = .returned (.tuple #[]) ∧ w' = w := by
  obtain ⟨j, hj, _⟩ := Option.map_eq_some_iff.1 size_builder
  have hq := fun W => Lib.run_neq_ptr_same W ⟨b, 0, none⟩ Tryd.underlying37 hj
  go_enter Tryd.func29, Tryd.ntmps29
  go_wp2
  go_end0
  exact ⟨rfl, rfl⟩
theorem check_fresh (b : Nat) (h0 : w.cell? ⟨b, 0, none⟩ = some (.pointer none)) (hsh : w.shape? b = some (40, 2)) (hfz : w.frozen? ⟨b, 0, none⟩ = false) :
    Calls Tryd.prog 29 #[.pointer (some ⟨b, 0, none⟩)] w fun e w' => e = .returned (.tuple #[]) ∧ w' = w.setCell ⟨b, 0, none⟩ (.pointer (some ⟨b, 0, none⟩)) := by
  obtain ⟨j, hj, hjs⟩ := Option.map_eq_some_iff.1 size_builder
  have h1 := Lib.run_to_unsafe w ⟨b, 0, none⟩ Tryd.underlying37 Tryd.underlying59 hj (by rw [hjs]; decide) hsh (Nat.zero_lt_succ 1)
  have h2 := Lib.run_from_unsafe w ⟨b, 0, none⟩ Tryd.underlying59 Tryd.underlying37 hj hsh lies_builder
  have hn : ∀ W x, (callFunc 38 #[x]).run Tryd.prog W = .ok (.value x) W := fun W x => by
    rw [run_callFunc_extern Tryd.func38 (by kernel_rfl) (by kernel_rfl) (by kernel_rfl) (e := Extern.AbiNoEscape.same) (by kernel_rfl), Lib.run_noEscape]
    rfl
  go_enter Tryd.func29, Tryd.ntmps29
  go_wp2
  go_end0
  exact ⟨rfl, rfl⟩
theorem check_c (B b : Nat) (bs : List Value) (h : Lib.IsBuilder 40 5 B b bs w) :
    Calls Tryd.prog 29 #[.pointer (some ⟨b, 0, none⟩)] w fun e w' => e = .returned (.tuple #[]) ∧ (Lib.BuilderAt 40 5 B b (.pointer (some ⟨b, 0, none⟩)) bs w' ∧ Below B w w') := by
  rcases h with h | h
  · refine (check_fresh w b h.cell0 h.shape h.frozen0).mono ?_
    rintro e w' ⟨rfl, rfl⟩
    exact ⟨rfl, h.used _, (Below.refl B w).setCell (p := ⟨b, 0, none⟩) h.1 _⟩
  · refine (check_used w b h.cell0).mono ?_
    rintro e w' ⟨rfl, rfl⟩
    exact ⟨rfl, h, Below.refl B _⟩
theorem write_c (B b : Nat) (bs : List Value) (s : ByteArray) (h : Lib.IsBuilder 40 5 B b bs w) (hlen : bs.length + s.size ≤ 140737488355328) (hBw : B ≤ w.heap.size) :
    Calls Tryd.prog 21 #[.pointer (some ⟨b, 0, none⟩), .string s] w fun e w' => e = .returned (.tuple #[.int .i64 s.size, .nilIface]) ∧ (Lib.BuilderAt 40 5 B b (.pointer (some ⟨b, 0, none⟩)) (bs ++ Lib.strCells s) w' ∧ Below B w w') := by
  obtain ⟨i0, hi, hz0, hz1, hz2⟩ := info_parts info_byte
  go_enter Tryd.func21, Tryd.ntmps21
  go_wp2_with fail
  refine (check_c w B b bs h).mono ?_
  rintro e w1 ⟨rfl, h1, hb1⟩
  obtain ⟨hB, v, hbk, hown, hne⟩ := h1
  have c0 : w1.cell? ⟨b, 0, none⟩ = some (.pointer (some ⟨b, 0, none⟩)) := by rw [Lib.cell_of_heap hbk]; rfl
  have c1 : w1.cell? ⟨b, 1, none⟩ = some v := by rw [Lib.cell_of_heap hbk]; rfl
  go_wp2_with (at_builtin; refine Lib.wpList_append_own_string _ rfl _ _ 38 9 rfl B 5 i0 Tryd.underlying38 Tryd.underlying9 hi hz0 hz1 hz2 _ _ _ rfl hown s rfl ?c3 ?c4 ?c5 ?_)
  case c3 => unfold maxLen; omega
  case c4 => omega
  case c5 => have := hb1.size; omega
  intro v' w2 hown' hgrow _
  have hlt : b < w1.heap.size := by
    rcases Nat.lt_or_ge b w1.heap.size with h' | h'
    · exact h'
    · simp [Array.getElem?_eq_none h'] at hbk
  have hb2 : w2.heap[b]? = some (.cells #[.pointer (some ⟨b, 0, none⟩), v] 40 (0, 0)) := by
    rw [hgrow.block b hlt (fun e => hne e.symm)]
    exact hbk
  have d0 : w2.cell? ⟨b, 0, none⟩ = some (.pointer (some ⟨b, 0, none⟩)) := by rw [Lib.cell_of_heap hb2]; rfl
  have d1 : w2.cell? ⟨b, 1, none⟩ = some v := by rw [Lib.cell_of_heap hb2]; rfl
  have f1 : w2.frozen? ⟨b, 1, none⟩ = false := Lib.frozen_of_heap hb2 1
  obtain ⟨ao, n', cap, rfl⟩ : ∃ ao n' cap, v' = .slice ao n' cap := by
    rcases hown'.2 with ⟨hv, _⟩ | ⟨g, cap, cur, hv, _⟩
    · exact ⟨_, _, _, hv⟩
    · exact ⟨_, _, _, hv⟩
  go_wp2
  go_ret2
  refine ⟨rfl, ?_, ?_⟩
  · exact Lib.BuilderAt.put (T := 40) (e := 5) hB hb2 (bs' := bs ++ Lib.strCells s) (by simpa [Lib.strCells_length] using hown') (by decide)
  · exact (hb1.grown hgrow (by have := hb1.size; omega) (fun k hk => (hown.lt k hk).1)).setCell (p := ⟨b, 1, none⟩) hB _

theorem cells_next (l : List UInt8) (s : ByteArray) : Lib.byteCells l ++ Lib.strCells s = Lib.byteCells (l ++ s.data.toList) := by
  unfold Lib.byteCells Lib.strCells
  rw [List.map_append]
theorem text_len (l : List (List UInt8)) (n k : Nat) (h : ∀ a ∈ l, a.length ≤ n) : (ltext (l.take k)).length ≤ (n + 1) * l.length := by
  have h1 := ltext_len (l.take k) n (fun a ha => h a (List.mem_of_mem_take ha))
  have h2 : (l.take k).length ≤ l.length := by rw [List.length_take]; omega
  exact Nat.le_trans h1 (Nat.mul_le_mul_left _ h2)
theorem getD_len (l : List (List UInt8)) {n k : Nat} (h : ∀ a ∈ l, a.length ≤ n) (hk : k < l.length) : (l.getD k []).length ≤ n := by
  have : l.getD k [] ∈ l := by simp [List.getD, hk]
  exact h _ this
/-- The text of at most 4096 lines of at most 4096 bytes. -/
theorem ltext_c {v : Value} {l : List (List UInt8)} (hv : Strs w v l) (h1 : l.length ≤ 4096) (h2 : ∀ a ∈ l, a.length ≤ 4096) : Calls Tryd.prog 12 #[v] w fun e w' => e = .returned (.string ⟨(ltext l).toArray⟩) ∧ Kept Nil w w' := by
  obtain ⟨A, c, rfl, _, hp⟩ := hv
  have HP := hide hp
  have H2 := hide h2
  clear hp h2
  go_enter Tryd.func12, Tryd.ntmps12
  go_wp2_with fail
  go_loopw [8] (fun i wr => ∃ k : Nat, k ≤ l.length ∧ i = .int .i64 k ∧ Lib.IsBuilder 40 5 w.heap.size w.heap.size (Lib.byteCells (ltext (l.take k))) wr ∧ Below w.heap.size w wr) (fun i _ => l.length - (intOf i).toNat)
  case atStart =>
    refine ⟨0, Nat.zero_le _, rfl, ?_, (Below.refl _ w).alloc (Nat.le_refl _) _⟩
    rw [show Lib.byteCells (ltext (l.take 0)) = [] from rfl]
    exact .inl ⟨Nat.le_refl _, .slice none 0 0, Is.new w 40 #[.pointer none, .slice none 0 0], World.ownsRow_nil _ _ _ 1, by simp [Value.ownBlock]⟩
  case round =>
    obtain ⟨k, hk, rfl, hbld, hbel⟩ := hrel
    have HB := hide hbel
    have HL := hide (text_len l 4096 k H2.out)
    by_cases hlt : k < l.length
    · obtain ⟨g, o, rfl, hg, hc⟩ := HP.out (by omega)
      have c1 := ((Below.kept hbel).cell (p := ⟨g, o + k, none⟩) hg (fun c => c)).trans (hc k hlt)
      have HN := hide (ltext_next l hlt)
      have hgl := getD_len l H2.out hlt
      clear hc hbel
      generalize l.getD k [] = x at *
      have hx := mk_size x
      have hbl : (Lib.byteCells (ltext (l.take k))).length ≤ 4097 * 4096 := by rw [Lib.byteCells_length]; have := HL.out; have : 4097 * l.length ≤ 4097 * 4096 := Nat.mul_le_mul_left _ h1; omega
      have cw := write_c wr w.heap.size w.heap.size _ ⟨x.toArray⟩ hbld (by omega) HB.out.size
      clear hbld
      unfold sv at c1
      go_wp2_with fail
      refine cw.mono ?_
      rintro e w1 ⟨rfl, hb1, hk1⟩
      have HK1 := hide (HB.out.trans hk1)
      have cw2 := write_c w1 w.heap.size w.heap.size _ ⟨#[10]⟩ (.inr hb1) (by rw [List.length_append, Lib.strCells_length, hx]; show _ + 1 ≤ _; omega) HK1.out.size
      clear hb1 hk1
      go_wp2_with fail
      refine cw2.mono ?_
      rintro e w2 ⟨rfl, hb2, hk2⟩
      have HK2 := hide (HK1.out.trans hk2)
      have HB2 := hide hb2
      clear hb2 hk2
      go_wp2_with fail
      go_roundw
      case rel =>
        refine ⟨k + 1, by omega, by go_num, ?_, HK2.out⟩
        have := HB2.out
        rw [cells_next, cells_next] at this
        rw [HN.out]
        refine .inr ?_
        simpa using this
      case measure => simp [intOf]; omega
    · obtain rfl : k = l.length := by omega
      have cs := Tryd.Builder_String_any w.heap.size w.heap.size _ wr hbld HB.out.size
      rw [List.take_length] at cs
      clear hbld hbel
      go_wp2_with fail
      refine cs.mono ?_
      rintro e w1 ⟨rfl, hk1⟩
      have HK := hide (Below.kept (HB.out.trans hk1))
      clear hk1
      go_wp2_with fail
      go_ret
      exact ⟨rfl, HK.out⟩
end
end Go.Proofs.YtmalfpplclijnaaDoor
