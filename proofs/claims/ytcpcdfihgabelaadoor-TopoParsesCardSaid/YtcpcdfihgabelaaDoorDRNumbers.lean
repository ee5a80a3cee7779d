/- Contract of the document's own Numbers. -/
import Derived.Test.YtcpcdfihgabelaaDoorDNumbers
namespace Go.Proofs.YtcpcdfihgabelaaDoor
open Go.RowKit
set_option maxRecDepth 100000

/-- Behind i bytes: what stands between the commas so far, and where the next part begins. -/
def Scan (l : List UInt8) (i f : Nat) (done : List (List UInt8)) : Prop :=
  (i ≤ l.length ∧ f ≤ i ∧ cut l = done ++ cut (l.drop f) ∧ (44 : UInt8) ∉ (l.drop f).take (i - f)) ∨ (i = l.length + 1 ∧ cut l = done)
theorem Scan.start (l : List UInt8) : Scan l 0 0 [] := .inl ⟨Nat.zero_le _, Nat.le_refl _, rfl, by simp⟩
section
variable {l : List UInt8} {i f : Nat} {done : List (List UInt8)}
theorem drop_at (h : i < l.length) (hf : f ≤ i) : l.drop f = (l.drop f).take (i - f) ++ l[i] :: l.drop (i + 1) := by
  have e1 : (l.drop f).drop (i - f) = l.drop i := by rw [List.drop_drop]; congr 1; omega
  have e2 : l.drop i = l[i] :: l.drop (i + 1) := List.drop_eq_getElem_cons h
  rw [← e2, ← e1, List.take_append_drop]
theorem Scan.from_le (h : Scan l i f done) (hi : i ≤ l.length) : f ≤ i := by
  rcases h with ⟨_, h, _⟩ | ⟨h, _⟩
  · exact h
  · omega
theorem Scan.on (h : Scan l i f done) (hi : i < l.length) (hc : l[i] ≠ 44) : Scan l (i + 1) f done := by
  rcases h with ⟨_, h2, h3, h4⟩ | ⟨h, _⟩
  · refine .inl ⟨hi, by omega, h3, ?_⟩
    have hl : i - f < (l.drop f).length := by rw [List.length_drop]; omega
    have e : i + 1 - f = (i - f) + 1 := by omega
    rw [e, List.take_succ_eq_append_getElem hl, List.getElem_drop]
    intro hm
    rcases List.mem_append.1 hm with h | h
    · exact h4 h
    · simp at h
      have e2 : f + (i - f) = i := by omega
      simp only [e2] at h
      exact hc h.symm
  · omega
theorem Scan.comma (h : Scan l i f done) (hi : i < l.length) (hc : l[i] = 44) : Scan l (i + 1) (i + 1) (done ++ [(l.drop f).take (i - f)]) ∧ (l.drop f).take (i - f) ∈ cut l := by
  rcases h with ⟨_, h2, h3, h4⟩ | ⟨h, _⟩
  · have e : cut l = done ++ [(l.drop f).take (i - f)] ++ cut (l.drop (i + 1)) := by
      have hd := drop_at hi h2
      rw [hc] at hd
      rw [h3, hd, cut_comma h4]
      simp only [List.append_assoc, List.singleton_append]
      congr 2
      rw [List.take_left']
      rw [List.length_take, List.length_drop]
      omega
    refine ⟨.inl ⟨hi, Nat.le_refl _, e, by simp⟩, ?_⟩
    rw [e]
    simp
  · omega
theorem Scan.last (h : Scan l l.length f done) : Scan l (l.length + 1) (l.length + 1) (done ++ [(l.drop f).take (l.length - f)]) ∧ (l.drop f).take (l.length - f) ∈ cut l := by
  rcases h with ⟨_, h2, h3, h4⟩ | ⟨h, _⟩
  · have hl : (l.drop f).take (l.length - f) = l.drop f := List.take_of_length_le (by rw [List.length_drop]; exact Nat.le_refl _)
    rw [hl] at h4 ⊢
    rw [cut_plain h4] at h3
    refine ⟨.inr ⟨rfl, h3⟩, ?_⟩
    rw [h3]
    simp
  · omega
theorem Scan.fin (h : Scan l (l.length + 1) f done) : cut l = done := by
  rcases h with ⟨h, _⟩ | ⟨_, h⟩
  · omega
  · exact h
end

theorem part_data (s : ByteArray) (f i : Nat) : (s.extract f i).data.toList = (s.data.toList.drop f).take (i - f) := by
  rw [Lib.extract_data]
theorem all_more {done : List (List UInt8)} {p : List UInt8} (h : ∀ q ∈ done, pe q = 0) (hp : pe p = 0) : ∀ q ∈ done ++ [p], pe q = 0 := by
  intro q hq
  rcases List.mem_append.1 hq with h1 | h1
  · exact h q h1
  · simp at h1
    subst h1
    exact hp

section
variable (s : ByteArray) (w : World)
set_option maxHeartbeats 400000
theorem rnumbers_some (h0 : 0 < s.size) (hs : s.size ≤ 4096) : Calls Tryd.prog 44 #[.string s] w (Numbered s.data.toList w) := by
  have hne : s.toList.isEmpty = false := by
    rw [ByteArray.toList_eq]
    cases hl : s.data.toList with
    | nil =>
      have hsl : s.data.toList.length = s.size := by simp
      rw [hl, List.length_nil] at hsl
      omega
    | cons _ _ => rfl
  have hnil : s.data.toList ≠ [] := by
    intro e
    rw [ByteArray.toList_eq, e] at hne
    cases hne
  have HNIL := hide hnil
  have hsl : s.data.toList.length = s.size := by simp
  have HSL := hide hsl
  clear hnil hsl
  obtain ⟨i0, hi, hz0, hz1, hz2⟩ := info_parts info_int
  go_enter Tryd.func44, Tryd.ntmps44
  go_wp2_with fail
  go_loopw [4, 5, 6] (fun v fr i wr => ∃ (k f : Nat) (done : List (List UInt8)) (L : List Int) (A : Option Addr) (c : Nat), k ≤ s.size + 1 ∧ i = .int .i64 k ∧ fr = .int .i64 f ∧ v = .slice A L.length c ∧ L.length ≤ k ∧ L = done.map pn ∧ Row wr (.slice A L.length c) L ∧ (∀ p ∈ done, pe p = 0) ∧ Scan s.data.toList k f done ∧ Kept Nil w wr ∧ (∀ g, In A g → w.heap.size ≤ g)) (fun _ _ i _ => s.size + 1 - (intOf i).toNat)
  case atStart => exact ⟨0, 0, [], [], none, 0, Nat.zero_le _, rfl, rfl, rfl, Nat.le_refl _, rfl, Row.empty _, by simp, Scan.start _, Kept.refl _ _, fun g hg => by cases hg⟩
  case round =>
    obtain ⟨k, f, done, L, A, c, hk, rfl, rfl, rfl, hLk, hL, hrow, hall, hscan, hkp, hin⟩ := hrel
    have HR := hide (And.intro hrow (And.intro hall (And.intro hkp (And.intro hin (And.intro hscan hL)))))
    have hm1 : L.length + 1 ≤ maxLen := by simp only [maxLen]; omega
    have hm2 : (L.length + 1) * 8 ≤ 140737488355328 := by omega
    have HM := hide (And.intro hm1 hm2)
    clear hrow hall hkp hin hscan hL hm1 hm2
    by_cases hend : k = s.size + 1
    · have HE := hide hend
      have hgt : s.size < k := by omega
      clear hend
      have hcut := hide (Scan.fin (by have := HR.out.2.2.2.2.1; rwa [HE.out, ← HSL.out] at this))
      have HY := hide (lnum_yes HNIL.out (fun p hp => HR.out.2.1 p (by rw [← hcut.out]; exact hp)))
      have HLA : Hid (L = lnum s.data.toList) := hide (by rw [HY.out.1, HR.out.2.2.2.2.2, hcut.out])
      go_wp2_with fail
      go_ret2
      exact ⟨.slice A L.length c, by rw [HY.out.2]; rfl, by rw [← HLA.out]; exact Row.nums HR.out.1, HR.out.2.2.1⟩
    · have hf : f ≤ k := HR.out.2.2.2.2.1.from_le (by rw [HSL.out]; omega)
      by_cases hon : ∃ h : k < s.size, s[k] ≠ 44
      · obtain ⟨hlt, hc⟩ := hon
        have hb : ((s[k].toNat : Int) == 44) = false := by
          have : s[k].toNat ≠ 44 := fun e => hc (UInt8.toNat_inj.1 (by rw [e]; rfl))
          exact beq_eq_false_iff_ne.2 (by omega)
        have hb2 : ((s[k].toNat : Int) != 44) = true := by rw [bne, hb]; rfl
        have HS := hide (HR.out.2.2.2.2.1.on (by rw [HSL.out]; exact hlt) hc)
        clear hc
        go_wp2_with fail
        go_roundw
        case rel => exact ⟨k + 1, f, done, L, A, c, by omega, by go_num, rfl, rfl, by omega, HR.out.2.2.2.2.2, HR.out.1, HR.out.2.1, HS.out, HR.out.2.2.1, HR.out.2.2.2.1⟩
        case measure => simp [intOf]; omega
      · have hk2 : k ≤ s.size := by omega
        have hstep : Scan s.data.toList (k + 1) (k + 1) (done ++ [(s.data.toList.drop f).take (k - f)]) ∧ (s.data.toList.drop f).take (k - f) ∈ cut s.data.toList := by
          rcases Nat.lt_or_ge k s.size with hlt | hge
          · refine HR.out.2.2.2.2.1.comma (by rw [HSL.out]; exact hlt) ?_
            by_cases e : s[k] = 44
            · exact e
            · exact absurd ⟨hlt, e⟩ hon
          · obtain rfl : k = s.size := by omega
            have := Scan.last (l := s.data.toList) (f := f) (done := done) (by rw [HSL.out]; exact HR.out.2.2.2.2.1)
            rwa [HSL.out] at this
        have hxsz : (s.extract f k).size ≤ maxLen := by
          unfold maxLen
          simp
          omega
        have cp := rparse_c (s.extract f k)
        have cp := fun w => cp w hxsz
        unfold Parsed at cp
        rw [part_data] at cp
        have hp := pe_two ((s.data.toList.drop f).take (k - f))
        have hno := fun h => lnum_no HNIL.out hstep.2 h
        have hal := all_more HR.out.2.1 (p := (s.data.toList.drop f).take (k - f))
        generalize (s.data.toList.drop f).take (k - f) = p at *
        have HNO := hide hno
        have HAL := hide hal
        have HST := hide hstep
        clear hno hal hstep hxsz
        have key : (k < s.size ∧ ∃ h : k < s.size, s[k] = 44) ∨ k = s.size := by
          rcases Nat.lt_or_ge k s.size with hlt | hge
          · refine .inl ⟨hlt, hlt, ?_⟩
            by_cases e : s[k] = 44
            · exact e
            · exact absurd ⟨hlt, e⟩ hon
          · exact .inr (by omega)
        clear hon
        rcases hp with h0 | h2
        · have HA2 := hide (HAL.out h0)
          rw [h0] at cp
          clear h0
          have hmap : (done ++ [p]).map pn = done.map pn ++ [pn p] := by simp
          generalize pn p = y at *
          have HMAP := hide hmap
          clear hmap
          have HG := hide fun (w1 : World) (v' : Value) (o : Obj) => Row.push (w := wr.alloc o) (w' := w1) (l := L) (A := A) (c := c) (v' := v') (x := y)
          have Hrow := hide HR.out.1
          rcases key with ⟨hlt, _, hc⟩ | rfl
          · have hb : ((s[k].toNat : Int) != 44) = false := by rw [hc]; rfl
            clear hc
            go_wp2_with fail
            refine (cp _).mono ?_
            rintro e w1 ⟨rfl, rfl⟩
            go_wp2_with (at_builtin; refine wpList_append_own_at _ rfl (.tmp 39) (.tmp 41) _ rfl 0 3 i0 (.int .i64 0) 1 8 Tryd.underlying22 hi hz0 hz1 hz2 rfl (by decide) (.slice A L.length c) L.length (L.map (Value.int .i64)) rfl (Hrow.out.alloc _) ⟨wr.heap.size, 0, none⟩ 1 1 [.int .i64 y] rfl rfl (cell_one_new _ _ _) (by intro u hu; simp at hu; subst hu; rfl) HM.out.1 HM.out.2 (Nat.zero_le _) ?_; intro v' w1 hown' hgrow _ hat; obtain ⟨A2, c2, rfl, hrow2, hk2, hin2⟩ := HG.out w1 v' _ hown' hgrow hat; have HD := hide (And.intro hrow2 (And.intro hk2 hin2)); clear hown' hgrow hat hrow2 hk2 hin2)
            go_roundw
            case rel =>
              refine ⟨k + 1, k + 1, done ++ [p], L ++ [y], A2, c2, by omega, by go_num, by go_num, by simp, by simp; omega, by rw [HMAP.out, ← HR.out.2.2.2.2.2], by simpa using HD.out.1, HA2.out, HST.out.1, ?_, ?_⟩
              · have k1 := (HR.out.2.2.1.alloc (.cells #[.int .i64 y] 3))
                exact k1.trans HD.out.2.1 (fun i hi h => absurd (HR.out.2.2.2.1 i h) (by omega))
              · intro g hg
                rcases HD.out.2.2 g hg with e | e
                · exact HR.out.2.2.2.1 g e
                · have := HR.out.2.2.1.size
                  simp at e
                  omega
            case measure => simp [intOf]; omega
          · go_wp2_with fail
            refine (cp _).mono ?_
            rintro e w1 ⟨rfl, rfl⟩
            go_wp2_with (at_builtin; refine wpList_append_own_at _ rfl (.tmp 39) (.tmp 41) _ rfl 0 3 i0 (.int .i64 0) 1 8 Tryd.underlying22 hi hz0 hz1 hz2 rfl (by decide) (.slice A L.length c) L.length (L.map (Value.int .i64)) rfl (Hrow.out.alloc _) ⟨wr.heap.size, 0, none⟩ 1 1 [.int .i64 y] rfl rfl (cell_one_new _ _ _) (by intro u hu; simp at hu; subst hu; rfl) HM.out.1 HM.out.2 (Nat.zero_le _) ?_; intro v' w1 hown' hgrow _ hat; obtain ⟨A2, c2, rfl, hrow2, hk2, hin2⟩ := HG.out w1 v' _ hown' hgrow hat; have HD := hide (And.intro hrow2 (And.intro hk2 hin2)); clear hown' hgrow hat hrow2 hk2 hin2)
            go_roundw
            case rel =>
              refine ⟨s.size + 1, s.size + 1, done ++ [p], L ++ [y], A2, c2, by omega, by go_num, by go_num, by simp, by simp; omega, by rw [HMAP.out, ← HR.out.2.2.2.2.2], by simpa using HD.out.1, HA2.out, HST.out.1, ?_, ?_⟩
              · have k1 := (HR.out.2.2.1.alloc (.cells #[.int .i64 y] 3))
                exact k1.trans HD.out.2.1 (fun i hi h => absurd (HR.out.2.2.2.1 i h) (by omega))
              · intro g hg
                rcases HD.out.2.2 g hg with e | e
                · exact HR.out.2.2.2.1 g e
                · have := HR.out.2.2.1.size
                  simp at e
                  omega
            case measure => simp [intOf]
        · have HE := hide (HNO.out (by rw [h2]; decide))
          rw [h2] at cp
          clear h2
          rcases key with ⟨hlt, _, hc⟩ | rfl
          · have hb : ((s[k].toNat : Int) != 44) = false := by rw [hc]; rfl
            clear hc
            go_wp2_with fail
            refine (cp _).mono ?_
            rintro e w1 ⟨rfl, rfl⟩
            go_wp2_with fail
            go_ret2
            exact ⟨_, by rw [HE.out.2]; rfl, by rw [HE.out.1]; exact Nums.nil _ _ _, HR.out.2.2.1⟩
          · go_wp2_with fail
            refine (cp _).mono ?_
            rintro e w1 ⟨rfl, rfl⟩
            go_wp2_with fail
            go_ret2
            exact ⟨_, by rw [HE.out.2]; rfl, by rw [HE.out.1]; exact Nums.nil _ _ _, HR.out.2.2.1⟩
theorem rnumbers_c (hs : s.size ≤ 4096) : Calls Tryd.prog 44 #[.string s] w (Numbered s.data.toList w) := by
  rcases Nat.eq_zero_or_pos s.size with h | h
  · exact rnumbers_empty s w h
  · exact rnumbers_some s w h hs
end
end Go.Proofs.YtcpcdfihgabelaaDoor
