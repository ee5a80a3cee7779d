/- strings.TrimLeft of blanks; the functions that cut a text at the first byte that parts it. -/
import Derived.Test.YtoegnnhnfkecoaaDoorLRune
import Derived.Lib.AsciiSet
namespace Go.Proofs.YtoegnnhnfkecoaaDoor
open Go.RowKit

theorem ext_data (s : ByteArray) (a b : Nat) : (s.extract a b).data.toList = (s.data.toList.drop a).take (b - a) := Lib.extract_data s a b
theorem dlen (s : ByteArray) : s.data.toList.length = s.size := by simp
theorem sv_data (s : ByteArray) : Value.string s = .string ⟨s.data.toList.toArray⟩ := rfl

section
variable (w : World)
set_option maxHeartbeats 1000000
/-- The set of blanks in a block. -/
theorem trim_ascii (s : ByteArray) (b : Nat) (hb : Is w b 82 (Lib.setCells blanks)) : Calls Tryd.prog 56 #[.string s, .pointer (some ⟨b, 0, none⟩)] w fun e w' => e = .returned (.string ⟨(trim blanks s.data.toList).toArray⟩) ∧ w = w' := by
  go_enter Tryd.func56, Tryd.ntmps56
  go_wp2
  have HB := hide hb
  clear hb
  go_loopg [0] s.size (fun g v wr => ∃ t : ByteArray, v = .string t ∧ t.size = g ∧ t.size ≤ s.size ∧ trim blanks t.data.toList = trim blanks s.data.toList ∧ wr = w)
  case atStart => exact ⟨s, rfl, rfl, Nat.le_refl _, rfl, rfl⟩
  case round =>
    obtain ⟨t, rfl, hg, hsz, ht, rfl⟩ := hrel
    have HT := hide ht
    clear ht
    cases gk with
    | zero =>
      have h0 : t = ⟨#[]⟩ := by
        obtain ⟨⟨l⟩⟩ := t
        have : l = [] := List.eq_nil_of_length_eq_zero hg
        rw [this]
      subst h0
      go_wp2
      go_ret
      exact ⟨by rw [← HT.out]; rfl, rfl⟩
    | succ g =>
      have hp : 0 < t.size := by omega
      obtain ⟨x, hx⟩ : ∃ x : UInt8, t[0]'hp = x := ⟨_, rfl⟩
      have hl : t.data.toList = x :: (t.extract 1 t.size).data.toList := by
        rw [ext_data, List.take_of_length_le (by rw [List.length_drop, dlen]; exact Nat.le_refl _)]
        obtain ⟨⟨l⟩⟩ := t
        cases l with
        | nil => exact absurd hp (by show ¬ 0 < 0; omega)
        | cons c u => rw [← hx]; rfl
      have hes : (t.extract 1 t.size).size = g := by simp; omega
      rw [hg] at hl hes
      have hc := (HB.out.cell x.toNat).trans (Lib.setCells_at blanks x)
      cases hin : blanks.contains x with
      | true =>
        rw [hin] at hc
        have cc := Tryd.asciiSet_contains b x true wr hc
        have HR := hide (And.intro hes (hl ▸ trim_hit (t := (t.extract 1 (g + 1)).data.toList) hin))
        clear hc hin hl hes
        go_wp2_with (go_at_call 53; refine cc.mono ?_; rintro e w2 ⟨rfl, rfl⟩)
        go_roundg g
        case measure => omega
        case rel => exact ⟨_, rfl, HR.out.1, by rw [HR.out.1]; omega, HR.out.2.symm.trans HT.out, rfl⟩
      | false =>
        rw [hin] at hc
        have cc := Tryd.asciiSet_contains b x false wr hc
        have HR := hide (hl ▸ trim_miss (t := (t.extract 1 (g + 1)).data.toList) hin)
        clear hc hin hl hes
        go_wp2_with (go_at_call 53; refine cc.mono ?_; rintro e w2 ⟨rfl, rfl⟩)
        go_ret
        exact ⟨by rw [← HT.out, HR.out]; rfl, rfl⟩
theorem set_size : (Tryd.prog.info? 82).map (·.size) = some 256 := by kernel_rfl
theorem set_sizeOf (w : World) : (sizeOf 82).run Tryd.prog w = .ok 256 w := by kernel_rfl
/-- strings.TrimLeft of blanks. -/
theorem trim_c (s : ByteArray) (hs : s.size ≤ 65536) : Calls Tryd.prog 44 #[.string s, .string ⟨#[32, 9]⟩] w fun e w' => e = .returned (.string ⟨(trim blanks s.data.toList).toArray⟩) ∧ Kept Nil w w' := by
  rcases Nat.eq_zero_or_pos s.size with h0 | h0
  · have : s = ⟨#[]⟩ := by
      obtain ⟨⟨l⟩⟩ := s
      have : l = [] := List.eq_nil_of_length_eq_zero h0
      rw [this]
    subst this
    go_enter Tryd.func44, Tryd.ntmps44
    go_wp2
    go_ret
    exact ⟨rfl, Kept.refl _ _⟩
  · have hne : s.toList.isEmpty = false := by
      rw [ByteArray.toList_eq]
      cases hl : s.data.toList with
      | nil =>
        have hsl := dlen s
        rw [hl, List.length_nil] at hsl
        omega
      | cons _ _ => rfl
    have hM := Tryd.strings_makeASCIISet set_zero ⟨#[32, 9]⟩ w (by decide) blanks_ascii
    have hM2 : Calls Tryd.prog 52 #[.string ⟨#[32, 9]⟩] w fun e w' => e = .returned (.tuple #[.agg (Lib.setCells blanks), .bool true]) ∧ w' = w.alloc (.cells (Lib.setCells blanks) 82) := hM
    clear hM
    have hsc : (storeCells ⟨(w.alloc (.cells (Lib.setCells blanks) 82)).heap.size, 0, none⟩ (Lib.setCells blanks).toList 0).run Tryd.prog ((w.alloc (.cells (Lib.setCells blanks) 82)).alloc (.cells (Array.replicate 256 (.bool false)) 82)) = .ok () ((w.alloc (.cells (Lib.setCells blanks) 82)).alloc (.cells (Lib.setCells blanks) 82)) :=
      run_storeCells_new (P := Tryd.prog) (w.alloc (.cells (Lib.setCells blanks) 82)) 82 (Array.replicate 256 (.bool false)) (Lib.setCells blanks) (by rw [Lib.setCells_size]; exact set_size) (by rw [Lib.setCells_size, Array.size_replicate]) (Lib.setCells_one _)
    have HK := hide ((Kept.refl Nil w).alloc (.cells (Lib.setCells blanks) 82))
    have hz := set_sizeOf
    have hv := set_zero
    generalize Array.replicate 256 (Value.bool false) = Z at hv hsc
    have hC := Lib.setCells_size blanks
    have ct := fun W b hb => trim_ascii W s b hb
    generalize Lib.setCells blanks = C at *
    generalize w.alloc (.cells C 82) = w1 at *
    go_enter Tryd.func44, Tryd.ntmps44
    go_wp2_with (go_at_call 52; refine hM2.mono ?_; rintro e w2 ⟨rfl, rfl⟩)
    refine (ct _ _ (Is.new _ _ _)).mono ?_
    rintro e w3 ⟨rfl, rfl⟩
    go_wp2
    go_ret
    exact ⟨rfl, HK.out.alloc _⟩
end

/-! ## The functions that cut -/
theorem ba_eq {s : ByteArray} {l : List UInt8} (h : s.data.toList = l) : s = ⟨l.toArray⟩ := by subst h; rfl
theorem ext_fst (s : ByteArray) (cs : List UInt8) : s.extract 0 (fst cs s.data.toList).length = ⟨(fst cs s.data.toList).toArray⟩ := ba_eq (by rw [ext_data, List.drop_zero, Nat.sub_zero, take_fst])
theorem ext_rst (s : ByteArray) (cs : List UInt8) : s.extract (fst cs s.data.toList).length s.size = ⟨(rst cs s.data.toList).toArray⟩ := ba_eq (by rw [ext_data, drop_fst, List.take_of_length_le]; rw [rst_len, dlen]; exact Nat.le_refl _)

section
variable (w : World)
set_option maxHeartbeats 1000000
theorem cutter_c (p : ByteArray) : Calls Tryd.prog 31 #[.string p] w fun e w' => e = .returned (.func (.func 40) #[] #[.pointer (some ⟨w.heap.size, 0, none⟩)]) ∧ w.alloc (.cells #[.string p] 9) = w' := by
  have hmf : ∀ (fn : Fn) (first cap : Array Value) (w : World), (Instr.makeFunc fn first cap).run Tryd.prog w = .ok (.func fn first cap) w := fun _ _ _ _ => rfl
  go_enter Tryd.func31, Tryd.ntmps31
  go_wp2
  go_ret
  exact ⟨rfl, rfl⟩
theorem cut_c (s p : ByteArray) (cs : List UInt8) (b : Nat) (hb : w.cell? ⟨b, 0, none⟩ = some (.string p))
    (ci : Calls Tryd.prog 41 #[.string s, .string p] w fun e w' => e = .returned (.int .i64 (Lib.indexAny s.data.toList cs)) ∧ Kept Nil w w') :
    Calls Tryd.prog 40 #[.string s, .pointer (some ⟨b, 0, none⟩)] w fun e w' => e = .returned (.tuple #[.string ⟨(fst cs s.data.toList).toArray⟩, .string ⟨(rst cs s.data.toList).toArray⟩]) ∧ Kept Nil w w' := by
  have h2 := index_two (cs := cs) s.data.toList
  have hl := fst_len cs s.data.toList
  rw [dlen] at hl
  have HF := hide (And.intro (ext_fst s cs) (ext_rst s cs))
  have hD := dlen s
  generalize Lib.indexAny s.data.toList cs = y at *
  rcases h2 with ⟨rfl, h3⟩ | h3
  · have hn : (fst cs s.data.toList).length = s.size := by rw [h3]; exact hD
    rw [hn] at HF
    clear h3 hn hl hD
    go_enter Tryd.func40, Tryd.ntmps40
    go_wp2_with fail
    refine ci.mono ?_
    rintro e w1 ⟨rfl, hk⟩
    have HK := hide hk
    clear hk
    go_wp2_with fail
    go_quiet (fail)
    go_wp2_with fail
    go_ret2
    have e1 : s = ⟨(fst cs s.data.toList).toArray⟩ := by simpa using HF.out.1
    have e2 : ByteArray.empty = ⟨(rst cs s.data.toList).toArray⟩ := by simpa using HF.out.2
    refine ⟨?_, HK.out.drewN _⟩
    show Ending.returned (.tuple #[.string s, .string ByteArray.empty]) = _
    rw [← e2]
    exact congrArg (fun x => Ending.returned (.tuple #[.string x, .string ByteArray.empty])) e1
  · generalize hn : (fst cs s.data.toList).length = n at *
    subst h3
    clear hD
    go_enter Tryd.func40, Tryd.ntmps40
    go_wp2_with fail
    refine ci.mono ?_
    rintro e w1 ⟨rfl, hk⟩
    have HK := hide hk
    clear hk
    go_wp2_with fail
    go_quiet (fail)
    go_wp2_with fail
    go_ret2
    exact ⟨by rw [← HF.out.1, ← HF.out.2]; rfl, HK.out.drewN _⟩
theorem clone_c (s : ByteArray) (hs : s.size ≤ 65536) : Calls Tryd.prog 32 #[.string s] w fun e w' => e = .returned (.string s) ∧ Kept Nil w w' := by
  have c := Tryd.stringslite_Clone s w (by omega)
  go_enter Tryd.func32, Tryd.ntmps32
  go_wp2_with fail
  refine c.mono ?_
  rintro e w1 ⟨rfl, hk⟩
  have HK := hide (Below.kept hk)
  clear hk
  go_wp2_with fail
  go_ret
  exact ⟨rfl, HK.out⟩
theorem head_c (s : ByteArray) (hs : s.size ≤ 65536) : Calls Tryd.prog 34 #[.string s] w fun e w' => e = .returned (.tuple #[.string ⟨(hw s.data.toList).toArray⟩, .string ⟨(hr s.data.toList).toArray⟩]) ∧ Kept Nil w w' := by
  have HI := hide (Is.new w 9 #[.string ⟨#[32, 9]⟩])
  have HK0 := hide ((Kept.refl Nil w).alloc (.cells #[.string ⟨#[32, 9]⟩] 9))
  have cc := cutter_c w ⟨#[32, 9]⟩
  have hlt := HI.out.lt
  have HLT := hide hlt
  clear hlt
  go_enter Tryd.func34, Tryd.ntmps34
  go_wp2_with fail
  refine cc.mono ?_
  rintro e w1 ⟨rfl, rfl⟩
  generalize w.alloc (.cells #[.string ⟨#[32, 9]⟩] 9) = w1 at *
  go_wp2_with fail
  refine (trim_c w1 s hs).mono ?_
  rintro e w2 ⟨rfl, hk⟩
  have hcell := (hk.cell (p := ⟨w.heap.size, 0, none⟩) HLT.out (fun c => c)).trans (HI.out.cell 0)
  have HK := hide (HK0.out.trans hk (fun _ _ h => h))
  clear hk
  have hsz : (⟨(trim blanks s.data.toList).toArray⟩ : ByteArray).size ≤ 65536 := by
    have := trim_len blanks s.data.toList
    rw [dlen] at this
    show (trim blanks s.data.toList).toArray.size ≤ _
    simp
    omega
  have cu := cut_c w2 ⟨(trim blanks s.data.toList).toArray⟩ ⟨#[32, 9]⟩ blanks w.heap.size hcell (any_blanks _ _ hsz)
  clear hcell
  go_wp2_with fail
  refine cu.mono ?_
  rintro e w3 ⟨rfl, hk⟩
  have HK2 := hide (HK.out.trans hk (fun _ _ h => h))
  clear hk
  go_wp2_with fail
  go_ret2
  exact ⟨rfl, HK2.out⟩
end
end Go.Proofs.YtoegnnhnfkecoaaDoor
