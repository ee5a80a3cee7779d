/- Contracts of Numbers, the program's and the document's. -/
import Derived.Test.YtcpcdfihgabelaaDoorDLists
namespace Go.Proofs.YtcpcdfihgabelaaDoor
open Go.RowKit

/-- The library's bound on short searches is there. -/
def MaxL (w : World) : Prop := ∃ m, w.cell? ⟨0, 0, none⟩ = some (.int .i64 m)
theorem MaxL.kept {w w' : World} (h : MaxL w) (k : Kept Nil w w') : MaxL w' := by
  obtain ⟨m, h⟩ := h
  exact ⟨m, (k.cell (World.block_lt_of_cell? _ _ h) (fun c => c)).trans h⟩

/-- What Numbers comes to. -/
def Numbered (l : List UInt8) (w : World) (e : Ending) (w' : World) : Prop := ∃ v, e = .returned (.tuple #[v, .int .i64 (lerr l)]) ∧ Nums w' v (lnum l) ∧ Kept Nil w w'

theorem take_map_next (c : List (List UInt8)) {k : Nat} (h : k < c.length) : (c.take (k + 1)).map pn = (c.take k).map pn ++ [pn (c.getD k [])] := by
  rw [List.take_succ_eq_append_getElem h, List.map_append, List.map_singleton]
  simp [List.getD, h]
theorem all_next (c : List (List UInt8)) {k : Nat} (h : k < c.length) (ha : ∀ p ∈ c.take k, pe p = 0) (hk : pe (c.getD k []) = 0) : ∀ p ∈ c.take (k + 1), pe p = 0 := by
  rw [List.take_succ_eq_append_getElem h]
  intro p hp
  rcases List.mem_append.1 hp with h1 | h1
  · exact ha p h1
  · simp at h1
    subst h1
    simpa [List.getD, h] using hk

section
variable (s : ByteArray) (w : World)
set_option maxHeartbeats 400000
theorem numbers_empty (h : s.size = 0) : Calls Tryd.prog 53 #[.string s] w (Numbered s.data.toList w) := by
  have h0 : s.data.toList = [] := List.eq_nil_of_length_eq_zero (by simpa using h)
  obtain ⟨⟨a⟩⟩ := s
  simp at h0
  subst h0
  clear h
  go_enter Tryd.func53, Tryd.ntmps53
  go_wp2
  go_ret2
  exact ⟨_, by rw [lerr_nil]; rfl, by rw [lnum_nil]; exact Nums.nil _ _ _, Kept.refl _ _⟩
theorem numbers_some (h0 : 0 < s.size) (hs : s.size ≤ 4096) (hm : MaxL w) : Calls Tryd.prog 53 #[.string s] w (Numbered s.data.toList w) := by
  obtain ⟨m, hm⟩ := hm
  have hne : s.toList.isEmpty = false := by
    rw [ByteArray.toList_eq]
    cases hl : s.data.toList with
    | nil =>
      have hsl : s.data.toList.length = s.size := by simp
      rw [hl, List.length_nil] at hsl
      omega
    | cons _ _ => rfl
  have hnil : s.data.toList ≠ [] := by
    intro e
    rw [ByteArray.toList_eq, e] at hne
    cases hne
  have c := Tryd.strings_Split s ⟨#[44]⟩ m w (by omega) hm (by decide)
  have hcut := splitB_cut s
  have hlen : (Lib.splitB ⟨#[44]⟩ 0 (Lib.countB s ⟨#[44]⟩) s).length = Lib.countB s ⟨#[44]⟩ + 1 := Lib.splitB_all ⟨#[44]⟩ (by decide) 0 _ s rfl
  rw [← hlen] at c
  generalize Lib.splitB ⟨#[44]⟩ 0 (Lib.countB s ⟨#[44]⟩) s = ps at *
  have hcl := cut_length s.data.toList
  have hcp := cut_part s.data.toList
  have hn : ps.length = (cut s.data.toList).length := by rw [← hcut]; simp
  have hn2 : ps.length ≤ 4097 := by rw [hn]; simp at hcl; omega
  have HN := hide hn
  have HCUT := hide hcut
  have HCP := hide hcp
  have HNIL := hide hnil
  clear hn hcut hcl hcp hnil hm hlen
  go_enter Tryd.func53, Tryd.ntmps53
  go_wp2_with fail
  refine c.mono ?_
  rintro e w' ⟨rfl, rfl⟩
  go_wp2_with fail
  have hI := Is.new w 9 (ps.map Value.string).toArray
  have HI := hide hI
  have HK0 := hide ((Kept.refl Nil w).alloc (.cells (ps.map Value.string).toArray 9))
  have hw0 : w.heap.size < (w.alloc (.cells (ps.map Value.string).toArray 9)).heap.size := by simp
  have HW0 := hide hw0
  clear hI hw0
  obtain ⟨i0, hi, hz0, hz1, hz2⟩ := info_parts info_int
  generalize w.alloc (.cells (ps.map Value.string).toArray 9) = w0 at *
  go_loopw [4, 14] (fun v i wr => ∃ (k : Nat) (L : List Int) (A : Option Addr) (c : Nat), k ≤ ps.length ∧ i = .int .i64 k ∧ v = .slice A L.length c ∧ L.length = k ∧ L = ((cut s.data.toList).take k).map pn ∧ Row wr (.slice A L.length c) L ∧ (∀ p ∈ (cut s.data.toList).take k, pe p = 0) ∧ Kept Nil w0 wr ∧ (∀ g, In A g → w0.heap.size ≤ g)) (fun _ i _ => ps.length - (intOf i).toNat)
  case atStart => exact ⟨0, [], none, 0, Nat.zero_le _, rfl, rfl, rfl, rfl, Row.empty _, by simp, Kept.refl _ _, fun g hg => by cases hg⟩
  case round =>
    obtain ⟨k, L, A, c, hk, rfl, rfl, hLk, hL, hrow, hall, hkp, hin⟩ := hrel
    have HR := hide (And.intro hrow (And.intro hall (And.intro hkp (And.intro hin (And.intro hLk hL)))))
    have hL2 : L.length ≤ 4097 := by omega
    have hm1 : L.length + 1 ≤ maxLen := by simp only [maxLen]; omega
    have hm2 : (L.length + 1) * 8 ≤ 140737488355328 := by omega
    have HM := hide (And.intro hm1 hm2)
    clear hrow hall hkp hin hLk hL hm1 hm2
    by_cases hlt : k < ps.length
    · have hcell : wr.cell? ⟨w.heap.size, k, none⟩ = some (.string ps[k]) := by
        rw [(HI.out.kept HR.out.2.2.1 (fun c => c)).cell k]
        simp [hlt]
      have hcl : k < (cut s.data.toList).length := by rw [← HN.out]; exact hlt
      have hpk : ps[k].data.toList = (cut s.data.toList).getD k [] := by
        have := HCUT.out
        have e : (ps.map (·.data.toList))[k]'(by simpa using hlt) = (cut s.data.toList)[k] := by simp [this]
        simpa [List.getD, hcl] using e
      have hmem : (cut s.data.toList).getD k [] ∈ cut s.data.toList := by simp [List.getD, hcl]
      have hsz : ps[k].size ≤ maxLen := by
        have h1 := HCP.out _ hmem
        rw [← hpk] at h1
        simp at h1
        unfold maxLen
        omega
      have cp := parse_c ps[k] wr hsz
      unfold Parsed at cp
      rw [hpk] at cp
      have hp := pe_two ((cut s.data.toList).getD k [])
      have hno := fun h => lnum_no HNIL.out hmem h
      have hnx := take_map_next (cut s.data.toList) hcl
      have han := all_next (cut s.data.toList) hcl HR.out.2.1
      generalize (cut s.data.toList).getD k [] = p at *
      have HNO := hide hno
      have HNX := hide hnx
      have HAN := hide han
      clear hno hnx han hpk hmem hsz hcl
      generalize ps[k] = x at *
      rcases hp with h0 | h2
      · have HA2 := hide (HAN.out h0)
        rw [h0] at cp
        clear h0
        generalize pn p = y at *
        have HG := hide fun (w1 : World) (v' : Value) (o : Obj) => Row.push (w := wr.alloc o) (w' := w1) (l := L) (A := A) (c := c) (v' := v') (x := y)
        have Hrow := hide HR.out.1
        go_wp2_with fail
        refine cp.mono ?_
        rintro e w1 ⟨rfl, rfl⟩
        go_wp2_with (at_builtin; refine wpList_append_own_at _ rfl (.tmp 26) (.tmp 28) _ rfl 0 3 i0 (.int .i64 0) 1 8 Tryd.underlying22 hi hz0 hz1 hz2 rfl (by decide) (.slice A L.length c) L.length (L.map (Value.int .i64)) rfl (Hrow.out.alloc _) ⟨wr.heap.size, 0, none⟩ 1 1 [.int .i64 y] rfl rfl (cell_one_new _ _ _) (by intro u hu; simp at hu; subst hu; rfl) HM.out.1 HM.out.2 (Nat.zero_le _) ?_; intro v' w1 hown' hgrow _ hat; obtain ⟨A2, c2, rfl, hrow2, hk2, hin2⟩ := HG.out w1 v' _ hown' hgrow hat; have HD := hide (And.intro hrow2 (And.intro hk2 hin2)); clear hown' hgrow hat hrow2 hk2 hin2)
        go_roundw
        case rel =>
          refine ⟨k + 1, L ++ [y], A2, c2, by omega, by go_num, by simp, by simp [HR.out.2.2.2.2.1], by rw [HNX.out, ← HR.out.2.2.2.2.2], by simpa using HD.out.1, HA2.out, ?_, ?_⟩
          · have k1 := (HR.out.2.2.1.alloc (.cells #[.int .i64 y] 3))
            exact k1.trans HD.out.2.1 (fun i hi h => absurd (HR.out.2.2.2.1 i h) (by omega))
          · intro g hg
            rcases HD.out.2.2 g hg with e | e
            · exact HR.out.2.2.2.1 g e
            · have := HR.out.2.2.1.size
              simp at e
              omega
        case measure => simp [intOf]; omega
      · have HE := hide (HNO.out (by rw [h2]; decide))
        rw [h2] at cp
        clear h2
        go_wp2_with fail
        refine cp.mono ?_
        rintro e w1 ⟨rfl, rfl⟩
        go_wp2_with fail
        go_ret2
        exact ⟨_, by rw [HE.out.2]; rfl, by rw [HE.out.1]; exact Nums.nil _ _ _, HK0.out.trans HR.out.2.2.1 (fun _ _ c => c)⟩
    · obtain rfl : k = ps.length := by omega
      have HY := hide (lnum_yes HNIL.out (fun p hp => HR.out.2.1 p (by rw [List.take_of_length_le (Nat.le_of_eq HN.out.symm)]; exact hp)))
      have hLa : L = lnum s.data.toList := by
        rw [HY.out.1, HR.out.2.2.2.2.2, List.take_of_length_le (Nat.le_of_eq HN.out.symm)]
      have HLA := hide hLa
      clear hLa
      go_wp2_with fail
      go_ret2
      exact ⟨.slice A L.length c, by rw [HY.out.2]; rfl, by rw [← HLA.out]; exact Row.nums HR.out.1, HK0.out.trans HR.out.2.2.1 (fun _ _ c => c)⟩
theorem numbers_c (hs : s.size ≤ 4096) (hm : MaxL w) : Calls Tryd.prog 53 #[.string s] w (Numbered s.data.toList w) := by
  rcases Nat.eq_zero_or_pos s.size with h | h
  · exact numbers_empty s w h
  · exact numbers_some s w h hs hm

theorem rnumbers_empty (h : s.size = 0) : Calls Tryd.prog 44 #[.string s] w (Numbered s.data.toList w) := by
  have h0 : s.data.toList = [] := List.eq_nil_of_length_eq_zero (by simpa using h)
  obtain ⟨⟨a⟩⟩ := s
  simp at h0
  subst h0
  clear h
  go_enter Tryd.func44, Tryd.ntmps44
  go_wp2
  go_ret2
  exact ⟨_, by rw [lerr_nil]; rfl, by rw [lnum_nil]; exact Nums.nil _ _ _, Kept.refl _ _⟩
end
end Go.Proofs.YtcpcdfihgabelaaDoor
