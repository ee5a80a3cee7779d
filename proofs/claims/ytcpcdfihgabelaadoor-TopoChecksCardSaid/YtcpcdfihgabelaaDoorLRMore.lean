/- The document's own Words, Lines and Text; whether a text has a byte. -/
import Derived.Test.YtcpcdfihgabelaaDoorLRHead
import Derived.Test.YtcpcdfihgabelaaDoorLBuild
namespace Go.Proofs.YtcpcdfihgabelaaDoor
open Go.RowKit
set_option maxRecDepth 100000

/-- Behind i bytes: the lines so far, and where the next one begins. -/
def LScan (l : List UInt8) (i f : Nat) (done : List (List UInt8)) : Prop := i ≤ l.length ∧ f ≤ i ∧ lns l = done ++ lns (l.drop f) ∧ (10 : UInt8) ∉ (l.drop f).take (i - f)
theorem LScan.start (l : List UInt8) : LScan l 0 0 [] := ⟨Nat.zero_le _, Nat.le_refl _, rfl, by simp⟩
section
variable {l : List UInt8} {i f : Nat} {done : List (List UInt8)}
theorem ldrop_at (h : i < l.length) (hf : f ≤ i) : l.drop f = (l.drop f).take (i - f) ++ l[i] :: l.drop (i + 1) := by
  have e1 : (l.drop f).drop (i - f) = l.drop i := by rw [List.drop_drop]; congr 1; omega
  have e2 : l.drop i = l[i] :: l.drop (i + 1) := List.drop_eq_getElem_cons h
  rw [← e2, ← e1, List.take_append_drop]
theorem LScan.on (h : LScan l i f done) (hi : i < l.length) (hc : l[i] ≠ 10) : LScan l (i + 1) f done := by
  obtain ⟨_, h2, h3, h4⟩ := h
  refine ⟨hi, by omega, h3, ?_⟩
  have hl : i - f < (l.drop f).length := by rw [List.length_drop]; omega
  have e : i + 1 - f = (i - f) + 1 := by omega
  rw [e, List.take_succ_eq_append_getElem hl, List.getElem_drop]
  intro hm
  rcases List.mem_append.1 hm with h | h
  · exact h4 h
  · simp at h
    have e2 : f + (i - f) = i := by omega
    simp only [e2] at h
    exact hc h.symm
theorem LScan.cut (h : LScan l i f done) (hi : i < l.length) (hc : l[i] = 10) : LScan l (i + 1) (i + 1) (done ++ [(l.drop f).take (i - f)]) := by
  obtain ⟨_, h2, h3, h4⟩ := h
  have hd := ldrop_at hi h2
  rw [hc] at hd
  refine ⟨hi, Nat.le_refl _, ?_, by simp⟩
  rw [h3]
  conv => lhs; rw [hd, lns_cut h4]
  simp
theorem LScan.last (h : LScan l l.length f done) (hf : f < l.length) : lns l = done ++ [l.drop f] := by
  obtain ⟨_, h2, h3, h4⟩ := h
  have hl : (l.drop f).take (l.length - f) = l.drop f := List.take_of_length_le (by rw [List.length_drop]; exact Nat.le_refl _)
  rw [hl] at h4
  rw [h3, lns_one h4]
  intro e
  have := congrArg List.length e
  rw [List.length_drop, List.length_nil] at this
  omega
theorem LScan.none (h : LScan l l.length f done) (hf : ¬ f < l.length) : lns l = done := by
  obtain ⟨_, h2, h3, h4⟩ := h
  rw [List.drop_of_length_le (by omega)] at h3
  simpa [lns] using h3
theorem LScan.len (h : LScan l i f done) : done.length ≤ l.length := by
  have h1 := lns_len l
  obtain ⟨_, _, h3, _⟩ := h
  rw [h3, List.length_append] at h1
  omega
end
theorem ext_sv (s : ByteArray) (a b : Nat) : Value.string (s.extract a b) = sv ((s.data.toList.drop a).take (b - a)) := by
  unfold sv
  rw [← ba_eq (ext_data s a b)]

section
variable (w : World)
set_option maxHeartbeats 2000000
theorem rwords_row (s : ByteArray) (hs : s.size ≤ 65536) : Calls Tryd.prog 43 #[.string s] w fun e w' => ∃ v, e = .returned v ∧ SRow w' v (wds s.data.toList) ∧ Kept Nil w w' := by
  obtain ⟨i0, hi, hz0, hz1, hz2⟩ := info_parts info_str
  have hsl := dlen s
  have hwl := wds_len s.data.toList
  rw [hsl] at hwl
  obtain ⟨S, hS⟩ : ∃ S, s.data.toList = S := ⟨_, rfl⟩
  rw [hS] at hsl hwl
  obtain rfl : s = ⟨S.toArray⟩ := by rw [← hS]
  clear hS
  have hms := mk_size S
  rw [hms] at hwl hs
  clear hsl
  go_enter Tryd.func43, Tryd.ntmps43
  go_wp2_with fail
  go_loopg [0, 3, 5] S.length (fun g v0 v3 v5 wr => ∃ (k : Nat) (c : List UInt8) (L : List (List UInt8)) (A : Option Addr) (cap : Nat), c.length = g ∧ v0 = .string ⟨c.toArray⟩ ∧ v3 = .slice A L.length cap ∧ v5 = .int .i64 k ∧ k + c.length ≤ S.length ∧ wds S = L ++ wds c ∧ SRow wr (.slice A L.length cap) L ∧ Kept Nil w wr ∧ (∀ g, SIn A g → w.heap.size ≤ g))
  case atStart => exact ⟨0, S, [], none, 0, rfl, rfl, rfl, rfl, by omega, rfl, SRow.empty _, Kept.refl _ _, fun g hg => by cases hg⟩
  case round =>
    obtain ⟨k, c, L, A, cap, hg, rfl, rfl, rfl, hkc, hwd, hrow, hkp, hin⟩ := hrel
    have HR := hide (And.intro hrow (And.intro hkp (And.intro hin hwd)))
    have hLl : L.length ≤ 65536 := by have := congrArg List.length hwd; rw [List.length_append] at this; omega
    have hm1 : L.length + 1 ≤ maxLen := by simp only [maxLen]; omega
    have hm2 : (L.length + 1) * 16 ≤ 140737488355328 := by omega
    have HM := hide (And.intro hm1 hm2)
    have hcs := mk_size c
    have ch : ∀ W, Calls Tryd.prog 58 #[.string ⟨c.toArray⟩] W fun e w' => e = .returned (.tuple #[.string ⟨(hw c).toArray⟩, .string ⟨(hr c).toArray⟩]) ∧ ∃ k, w' = W.drewN k := fun W => rhead_c W ⟨c.toArray⟩ (by omega)
    clear hrow hkp hin hwd hm1 hm2 hLl hwl
    by_cases hn : hw c = []
    · have HW := hide (wds_nil hn)
      rw [hn] at ch
      generalize hr c = y at *
      go_wp2_with fail
      refine (ch wr).mono ?_
      rintro e w1 ⟨rfl, q, rfl⟩
      go_wp2_with fail
      go_ret
      exact ⟨_, rfl, by rw [show wds (⟨S.toArray⟩ : ByteArray).data.toList = L ++ wds c from HR.out.2.2.2, HW.out, List.append_nil]; exact HR.out.1.drewN q, HR.out.2.1.drewN q⟩
    · have HW := hide (wds_cons hn)
      have HL := hide (hr_lt hn)
      have hne := sv_ne hn
      have hne2 : (hw c).isEmpty = false := by simpa using hn
      clear hn
      generalize hw c = x at *
      generalize hr c = y at *
      have HG := fun q => (fun (w2 : World) (v' : Value) (o : Obj) => SRow.push (w := (wr.drewN q).alloc o) (w' := w2) (l := L) (A := A) (c := cap) (v' := v') (x := x))
      have HG := hide HG
      have Hrow := hide HR.out.1
      go_wp2_with fail
      refine (ch wr).mono ?_
      rintro e w1 ⟨rfl, q, rfl⟩
      go_wp2_with (at_builtin; refine wpList_append_own_at _ rfl (.tmp 23) (.tmp 25) _ rfl 0 9 i0 (.string ⟨#[]⟩) 1 16 Tryd.underlying41 hi hz0 hz1 hz2 rfl (by decide) (.slice A L.length cap) L.length (L.map sv) rfl ((Hrow.out.drewN q).alloc _) ⟨(wr.drewN q).heap.size, 0, none⟩ 1 1 [sv x] rfl rfl (cell_one_new _ _ _) (by intro u hu; simp at hu; subst hu; rfl) HM.out.1 HM.out.2 (Nat.zero_le _) ?_; intro v' w2 hown' hgrow _ hat; obtain ⟨A2, c2, rfl, hrow2, hk2, hin2⟩ := HG.out q w2 v' _ hown' hgrow hat; have HD := hide (And.intro hrow2 (And.intro hk2 hin2)); clear hown' hgrow hat hrow2 hk2 hin2)
      go_roundg y.length
      case measure => have := HL.out; omega
      case rel =>
        refine ⟨k + 1, y, L ++ [x], A2, c2, rfl, rfl, by simp, by go_num, by have := HL.out; omega, by rw [HR.out.2.2.2, HW.out]; simp, by simpa using HD.out.1, ?_, ?_⟩
        · have k1 := (HR.out.2.1.drewN q).alloc (.cells #[sv x] 9)
          exact k1.trans HD.out.2.1 (S := Nil) (fun i hi h => absurd (HR.out.2.2.1 i h) (by omega))
        · intro g hg
          rcases HD.out.2.2 g hg with e | e
          · exact HR.out.2.2.1 g e
          · have a1 := HR.out.2.1.size
            simp at e
            omega
theorem rwords_c (s : ByteArray) (hs : s.size ≤ 65536) : Calls Tryd.prog 43 #[.string s] w fun e w' => ∃ v, e = .returned v ∧ Strs w' v (wds s.data.toList) ∧ Kept Nil w w' :=
  (rwords_row w s hs).mono fun _ _ ⟨v, h1, h2, h3⟩ => ⟨v, h1, h2.strs, h3⟩
theorem rlines_c (s : ByteArray) (hs : s.size ≤ 65536) : Calls Tryd.prog 42 #[.string s] w fun e w' => ∃ v, e = .returned v ∧ Strs w' v (lns s.data.toList) ∧ Kept Nil w w' := by
  obtain ⟨i0, hi, hz0, hz1, hz2⟩ := info_parts info_str
  have HSL := hide (dlen s)
  go_enter Tryd.func42, Tryd.ntmps42
  go_wp2_with fail
  go_loopw [3, 4, 5] (fun v3 v4 v5 wr => ∃ (k f : Nat) (L : List (List UInt8)) (A : Option Addr) (cap : Nat), k ≤ s.size ∧ v3 = .slice A L.length cap ∧ v4 = .int .i64 f ∧ v5 = .int .i64 k ∧ LScan s.data.toList k f L ∧ SRow wr (.slice A L.length cap) L ∧ Kept Nil w wr ∧ (∀ g, SIn A g → w.heap.size ≤ g)) (fun _ _ i _ => s.size - (intOf i).toNat)
  case atStart => exact ⟨0, 0, [], none, 0, Nat.zero_le _, rfl, rfl, rfl, LScan.start _, SRow.empty _, Kept.refl _ _, fun g hg => by cases hg⟩
  case round =>
    obtain ⟨k, f, L, A, cap, hk, rfl, rfl, rfl, hsc, hrow, hkp, hin⟩ := hrel
    have HR := hide (And.intro hrow (And.intro hkp (And.intro hin hsc)))
    have hLl : L.length ≤ 65536 := by have := hsc.len; rw [HSL.out] at this; omega
    have hm1 : L.length + 1 ≤ maxLen := by simp only [maxLen]; omega
    have hm2 : (L.length + 1) * 16 ≤ 140737488355328 := by omega
    have HM := hide (And.intro hm1 hm2)
    have hfk : f ≤ k := hsc.2.1
    have Hrow := hide hrow
    clear hrow hkp hin hsc hm1 hm2 hLl
    by_cases hlt : k < s.size
    · have hat : s.data.toList[k]'(by rw [HSL.out]; exact hlt) = s[k]'hlt := rfl
      by_cases hc : s[k]'hlt = 10
      · have hb : ((s[k].toNat : Int) == 10) = true := by rw [hc]; rfl
        have HS := hide (HR.out.2.2.2.cut (by rw [HSL.out]; exact hlt) (hat.trans hc))
        rw [← List.append_nil [(s.data.toList.drop f).take (k - f)]] at HS
        have he := ext_sv s f k
        generalize (s.data.toList.drop f).take (k - f) = x at *
        have HG := hide fun (w2 : World) (v' : Value) (o : Obj) => SRow.push (w := wr.alloc o) (w' := w2) (l := L) (A := A) (c := cap) (v' := v') (x := x)
        clear hc hat
        rw [List.append_nil] at HS
        have HE := hide he
        clear he
        go_wp2_with (at_builtin; refine wpList_append_own_at _ rfl (.tmp 16) (.tmp 21) _ rfl 0 9 i0 (.string ⟨#[]⟩) 1 16 Tryd.underlying41 hi hz0 hz1 hz2 rfl (by decide) (.slice A L.length cap) L.length (L.map sv) rfl (Hrow.out.alloc _) ⟨wr.heap.size, 0, none⟩ 1 1 [.string (s.extract f k)] rfl rfl (cell_one_new _ _ _) (by intro u hu; simp at hu; subst hu; rfl) HM.out.1 HM.out.2 (Nat.zero_le _) ?_; intro v' w2 hown' hgrow _ hat; obtain ⟨A2, c2, rfl, hrow2, hk2, hin2⟩ := HG.out w2 v' _ (HE.out ▸ hown') hgrow hat; have HD := hide (And.intro hrow2 (And.intro hk2 hin2)); clear hown' hgrow hat hrow2 hk2 hin2)
        go_roundw
        case rel =>
          refine ⟨k + 1, k + 1, L ++ [x], A2, c2, by omega, by simp, by go_num, by go_num, HS.out, by simpa using HD.out.1, ?_, ?_⟩
          · exact (HR.out.2.1.alloc _).trans HD.out.2.1 (S := Nil) (fun i hi h => absurd (HR.out.2.2.1 i h) (by omega))
          · intro g hg
            rcases HD.out.2.2 g hg with e | e
            · exact HR.out.2.2.1 g e
            · have a1 := HR.out.2.1.size
              simp at e
              omega
        case measure => simp [intOf]; omega
      · have hb : ((s[k].toNat : Int) == 10) = false := beq_eq_false_iff_ne.2 (fun e => hc (UInt8.toNat_inj.1 (by show (s[k]'hlt).toNat = 10; omega)))
        have HS := hide (HR.out.2.2.2.on (by rw [HSL.out]; exact hlt) (fun e => hc (hat.symm.trans e)))
        clear hc hat
        go_wp2_with fail
        go_roundw
        case rel => exact ⟨k + 1, f, L, A, cap, by omega, rfl, rfl, by go_num, HS.out, HR.out.1, HR.out.2.1, HR.out.2.2.1⟩
        case measure => simp [intOf]; omega
    · obtain rfl : k = s.size := by omega
      by_cases hf : f < s.size
      · have HS := hide (LScan.last (by rw [HSL.out]; exact HR.out.2.2.2) (by rw [HSL.out]; exact hf))
        have he := ext_sv s f s.size
        rw [List.take_of_length_le (by rw [List.length_drop, HSL.out]; exact Nat.le_refl _)] at he
        generalize s.data.toList.drop f = x at *
        have HG := hide fun (w2 : World) (v' : Value) (o : Obj) => SRow.push (w := wr.alloc o) (w' := w2) (l := L) (A := A) (c := cap) (v' := v') (x := x)
        have HE := hide he
        clear he
        go_wp2_with (at_builtin; refine wpList_append_own_at _ rfl (.tmp 29) (.tmp 33) _ rfl 0 9 i0 (.string ⟨#[]⟩) 1 16 Tryd.underlying41 hi hz0 hz1 hz2 rfl (by decide) (.slice A L.length cap) L.length (L.map sv) rfl (Hrow.out.alloc _) ⟨wr.heap.size, 0, none⟩ 1 1 [.string (s.extract f s.size)] rfl rfl (cell_one_new _ _ _) (by intro u hu; simp at hu; subst hu; rfl) HM.out.1 HM.out.2 (Nat.zero_le _) ?_; intro v' w2 hown' hgrow _ hat; obtain ⟨A2, c2, rfl, hrow2, hk2, hin2⟩ := HG.out w2 v' _ (HE.out ▸ hown') hgrow hat; have HD := hide (And.intro hrow2 (And.intro hk2 hin2)); clear hown' hgrow hat hrow2 hk2 hin2)
        go_ret
        exact ⟨_, rfl, by rw [HS.out]; have := HD.out.1.strs; simpa using this, (HR.out.2.1.alloc _).trans HD.out.2.1 (S := Nil) (fun i hi h => absurd (HR.out.2.2.1 i h) (by omega))⟩
      · have HS := hide (LScan.none (by rw [HSL.out]; exact HR.out.2.2.2) (by rw [HSL.out]; exact hf))
        go_wp2_with fail
        go_ret
        exact ⟨_, rfl, by rw [HS.out]; exact HR.out.1.strs, HR.out.2.1⟩
end
end Go.Proofs.YtcpcdfihgabelaaDoor
