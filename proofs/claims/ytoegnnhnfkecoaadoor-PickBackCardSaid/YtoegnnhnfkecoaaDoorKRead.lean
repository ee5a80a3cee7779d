/- Package pick's read: the pick of a word, in a box. -/
import Derived.Test.YtoegnnhnfkecoaaDoorKRow
import Derived.Test.YtoegnnhnfkecoaaDoorKLet
import Derived.Test.YtoegnnhnfkecoaaDoorDTake
import Derived.Test.YtoegnnhnfkecoaaDoorLTrim
import Derived.Laws.ResultCell
namespace Go.Proofs.YtoegnnhnfkecoaaDoor
open Go.RowKit
set_option maxRecDepth 100000

/-- A named result that is a pick in a box, and a bool. -/
theorem results_pick {fn : Func} {p u : Tmp} {w : World} {b : Nat} {x y : Int} {ok : Bool} (h : fn.results = #[.cell p 37, .tmp u]) (tmps : Array Value) (hp : tmps.getD p undef = .pointer (some ⟨b, 0, none⟩)) (hu : tmps.getD u undef = .bool ok)
    (h0 : w.cell? ⟨b, 0, none⟩ = some (.int .i64 x)) (h1 : w.cell? ⟨b, 1, none⟩ = some (.int .i64 y)) : (results fn tmps).run Tryd.prog w = .ok (.tuple #[.agg #[.int .i64 x, .int .i64 y], .bool ok]) w := by
  rw [results_cell_tmp h, hp, hu]
  go_simp
/-- What read answers. -/
def Read (l : List UInt8) (w : World) (e : Ending) (w' : World) : Prop := e = .returned (.tuple #[.agg #[.int .i64 (rd l).1, .int .i64 (rd l).2], .bool (rb l)]) ∧ Kept Nil w w'
theorem Read.of {l : List UInt8} {w w' : World} {x y : Int} {ok : Bool} (h : (rd l).1 = x ∧ (rd l).2 = y ∧ rb l = ok) (k : Kept Nil w w') : Read l w (.returned (.tuple #[.agg #[.int .i64 x, .int .i64 y], .bool ok])) w' := ⟨by rw [h.1, h.2.1, h.2.2], k⟩
theorem rd_no {l : List UInt8} (h : rb l = false) : (rd l).1 = 0 ∧ (rd l).2 = 0 ∧ rb l = false := by
  have hn : ¬ rb l = true := by rw [h]; decide
  unfold rd
  rw [if_neg hn]
  exact ⟨rfl, rfl, h⟩
theorem rd_yes {l : List UInt8} (h : rb l = true) : (rd l).1 = pn l.dropLast ∧ (rd l).2 = wn (l.getLastD 0) ∧ rb l = true := by
  unfold rd
  rw [if_pos h]
  exact ⟨rfl, rfl, h⟩
section
variable (w : World)
set_option maxHeartbeats 800000
theorem read_c (s : ByteArray) (hs : s.size ≤ 65536) : Calls Tryd.prog 22 #[.string s] w (Read s.data.toList w) := by
  have hi0 := Is.new w 37 #[.int .i64 0, .int .i64 0]
  have hk0 := (Kept.refl Nil w).alloc (.cells #[.int .i64 0, .int .i64 0] 37)
  have ct := fun W => take_c s W (by simp only [maxLen]; omega)
  have hsl := dlen s
  have HS := hide (@read_short s.data.toList)
  have HY := hide (@read_full s.data.toList)
  have HL := hide (tk_spec s.data.toList).le
  obtain ⟨b, hb⟩ : ∃ b, w.heap.size = b := ⟨_, rfl⟩
  have H0 := hide (And.intro hi0 (And.intro hk0 hsl))
  unfold Took at ct
  obtain ⟨t, ht⟩ : ∃ t, tk s.data.toList = t := ⟨_, rfl⟩
  obtain ⟨n, hn⟩ : ∃ n, tn s.data.toList = n := ⟨_, rfl⟩
  rw [ht] at HS HY HL
  rw [hn] at HY
  simp only [ht, hn] at ct
  have u0 := hi0.cell 0
  have u1 := hi0.cell 1
  have u2 := hi0.free 0
  have u3 := hi0.free 1
  have hE := hide ht
  clear hi0 hk0 hsl ht hn
  clear hb
  by_cases h0 : t = 0
  · have HF := hide (rd_no (HS.out (.inl h0)))
    subst h0
    go_enter Tryd.func22, Tryd.ntmps22
    go_wp2_with fail
    refine (ct _).mono ?_
    rintro e w' ⟨rfl, rfl⟩
    go_wp2_with fail
    exact bodyPost_ret (results_pick rfl _ rfl rfl (H0.out.1.cell 0) (H0.out.1.cell 1)) rfl (Read.of HF.out H0.out.2.1)
  · have hz : ((t : Int) == 0) = false := by
      have : ¬ (t : Int) = 0 := by omega
      simpa using this
    by_cases h1 : t + 1 = s.size
    · have HG := hide (HY.out h0 (by rw [h1]; exact H0.out.2.2.symm))
      have hlt : t < s.size := by omega
      obtain ⟨x, hx⟩ : ∃ x, s[t]'hlt = x := ⟨_, rfl⟩
      have HX : Hid (s.data.toList.getLastD 0 = x) := hide (by
        rw [HG.out.2.2, List.getD_eq_getElem?_getD, List.getElem?_eq_getElem (by rw [H0.out.2.2]; exact hlt), ← hx]
        rfl)
      have h2 : ((t : Int) + 1 == (s.size : Int)) = true := by
        have : (t : Int) + 1 = (s.size : Int) := by omega
        simpa using this
      have cw := fun W => want_c W x
      cases hw : wb x with
      | true =>
        have HF : Hid ((rd s.data.toList).1 = n ∧ (rd s.data.toList).2 = wn x ∧ rb s.data.toList = true) := hide (by
          have hr := rb_yes HG.out.1 (by rw [HX.out]; exact hw)
          obtain ⟨a1, a2, a3⟩ := rd_yes hr
          exact ⟨a1.trans HG.out.2.1, by rw [a2, HX.out], a3⟩)
        simp only [hw] at cw
        generalize wn x = y at *
        clear hw h1
        go_enter Tryd.func22, Tryd.ntmps22
        go_wp2_with fail
        refine (ct _).mono ?_
        rintro e w' ⟨rfl, rfl⟩
        go_wp2_with fail
        refine (cw _).mono ?_
        rintro e w2 ⟨rfl, hk⟩
        have HI2 := hide (H0.out.1.kept hk (fun z => z))
        have HK2 := hide (H0.out.2.1.trans hk (fun _ _ z => z))
        have v0 := HI2.out.cell 0
        have v1 := HI2.out.cell 1
        have v2 := HI2.out.free 0
        have v3 := HI2.out.free 1
        clear hk u0 u1 u2 u3
        go_wp2_with fail
        have hi4 := (HI2.out.set 0 (.int .i64 n)).set 1 (.int .i64 y)
        have hk4 := (HK2.out.set (p := ⟨w.heap.size, 0, none⟩) (fun h => absurd h (Nat.lt_irrefl _)) (.int .i64 n)).set (p := ⟨w.heap.size, 1, none⟩) (fun h => absurd h (Nat.lt_irrefl _)) (.int .i64 y)
        exact bodyPost_ret (results_pick rfl _ rfl rfl (hi4.cell 0) (hi4.cell 1)) rfl (Read.of HF.out hk4)
      | false =>
        have HF := hide (rd_no (rb_wb (show wb (s.data.toList.getLastD 0) = false by rw [HX.out]; exact hw)))
        simp only [hw] at cw
        generalize wn x = y at *
        clear hw h1
        go_enter Tryd.func22, Tryd.ntmps22
        go_wp2_with fail
        refine (ct _).mono ?_
        rintro e w' ⟨rfl, rfl⟩
        go_wp2_with fail
        refine (cw _).mono ?_
        rintro e w2 ⟨rfl, hk⟩
        have HI2 := hide (H0.out.1.kept hk (fun z => z))
        have HK2 := hide (H0.out.2.1.trans hk (fun _ _ z => z))
        have v0 := HI2.out.cell 0
        have v1 := HI2.out.cell 1
        have v2 := HI2.out.free 0
        have v3 := HI2.out.free 1
        clear hk u0 u1 u2 u3
        go_wp2_with fail
        have hi4 := (HI2.out.set 0 (.int .i64 0)).set 1 (.int .i64 0)
        have hk4 := (HK2.out.set (p := ⟨w.heap.size, 0, none⟩) (fun h => absurd h (Nat.lt_irrefl _)) (.int .i64 0)).set (p := ⟨w.heap.size, 1, none⟩) (fun h => absurd h (Nat.lt_irrefl _)) (.int .i64 0)
        exact bodyPost_ret (results_pick rfl _ rfl rfl (hi4.cell 0) (hi4.cell 1)) rfl (Read.of HF.out hk4)
    · have HF := hide (rd_no (HS.out (.inr (by rw [H0.out.2.2]; exact h1))))
      have h2 : ((t : Int) + 1 == (s.size : Int)) = false := by
        have : ¬ (t : Int) + 1 = (s.size : Int) := by omega
        simpa using this
      have htl : (t : Int) ≤ 65536 := by have := HL.out; rw [H0.out.2.2] at this; omega
      clear h1
      go_enter Tryd.func22, Tryd.ntmps22
      go_wp2_with fail
      refine (ct _).mono ?_
      rintro e w' ⟨rfl, rfl⟩
      go_wp2_with fail
      exact bodyPost_ret (results_pick rfl _ rfl rfl (H0.out.1.cell 0) (H0.out.1.cell 1)) rfl (Read.of HF.out H0.out.2.1)
end
end Go.Proofs.YtoegnnhnfkecoaaDoor
