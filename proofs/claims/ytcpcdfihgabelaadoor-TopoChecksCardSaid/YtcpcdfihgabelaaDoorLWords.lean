/- Contracts of Words and Lines. -/
import Derived.Test.YtcpcdfihgabelaaDoorLTrim
import Derived.Test.YtcpcdfihgabelaaDoorSRow
namespace Go.Proofs.YtcpcdfihgabelaaDoor
open Go.RowKit

theorem sv_ne {x : List UInt8} (h : x ≠ []) : (⟨x.toArray⟩ : ByteArray).toList.isEmpty = false := by
  rw [ByteArray.toList_eq]
  cases x with
  | nil => exact absurd rfl h
  | cons _ _ => rfl
theorem mk_size (x : List UInt8) : (⟨x.toArray⟩ : ByteArray).size = x.length := by show x.toArray.size = _; simp

section
variable (w : World)
set_option maxHeartbeats 1000000
theorem words_row (s : ByteArray) (hs : s.size ≤ 65536) : Calls Tryd.prog 52 #[.string s] w fun e w' => ∃ v, e = .returned v ∧ SRow w' v (wds s.data.toList) ∧ Kept Nil w w' := by
  obtain ⟨i0, hi, hz0, hz1, hz2⟩ := info_parts info_str
  have hsl := dlen s
  have hwl := wds_len s.data.toList
  rw [hsl] at hwl
  go_enter Tryd.func52, Tryd.ntmps52
  go_wp2_with fail
  refine (head_c w s hs).mono ?_
  rintro e w0 ⟨rfl, hk⟩
  have HK0 := hide hk
  clear hk
  obtain ⟨S, hS⟩ : ∃ S, s.data.toList = S := ⟨_, rfl⟩
  rw [hS] at hsl hwl ⊢
  have HS := hide hS
  clear hS
  go_wp2_with fail
  go_loopg [3, 4, 5] S.length (fun g v3 v4 v5 wr => ∃ (c : List UInt8) (L : List (List UInt8)) (A : Option Addr) (cap : Nat), c.length = g ∧ v3 = .slice A L.length cap ∧ v4 = .string ⟨(hw c).toArray⟩ ∧ v5 = .string ⟨(hr c).toArray⟩ ∧ c.length ≤ S.length ∧ wds S = L ++ wds c ∧ SRow wr (.slice A L.length cap) L ∧ Kept Nil w wr ∧ (∀ g, SIn A g → w.heap.size ≤ g))
  case atStart => exact ⟨S, [], none, 0, rfl, rfl, rfl, rfl, Nat.le_refl _, rfl, SRow.empty _, HK0.out, fun g hg => by cases hg⟩
  case round =>
    obtain ⟨c, L, A, cap, hg, rfl, rfl, rfl, hcl, hwd, hrow, hkp, hin⟩ := hrel
    have HR := hide (And.intro hrow (And.intro hkp (And.intro hin hwd)))
    have hLl : L.length ≤ 65536 := by have := congrArg List.length hwd; rw [List.length_append] at this; omega
    have hm1 : L.length + 1 ≤ maxLen := by simp only [maxLen]; omega
    have hm2 : (L.length + 1) * 16 ≤ 140737488355328 := by omega
    have HM := hide (And.intro hm1 hm2)
    clear hrow hkp hin hwd hm1 hm2 hLl hwl
    by_cases hn : hw c = []
    · have HW := hide (wds_nil hn)
      rw [hn]
      go_wp2_with fail
      go_ret
      exact ⟨_, rfl, by rw [HS.out, HR.out.2.2.2, HW.out, List.append_nil]; exact HR.out.1, HR.out.2.1⟩
    · have HW := hide (wds_cons hn)
      have HL := hide (hr_lt hn)
      have hne := sv_ne hn
      have hne2 : (hw c).isEmpty = false := by simpa using hn
      have h1 := hw_le c
      have h2 := hr_le c
      have s1 := mk_size (hw c)
      have s2 := mk_size (hr c)
      have ch := fun W => head_c W ⟨(hr c).toArray⟩ (by omega)
      have cc := clone_c wr ⟨(hw c).toArray⟩ (by omega)
      have ch2 : ∀ W, Calls Tryd.prog 67 #[.string ⟨(hr c).toArray⟩] W fun e w' => e = .returned (.tuple #[.string ⟨(hw (hr c)).toArray⟩, .string ⟨(hr (hr c)).toArray⟩]) ∧ Kept Nil W w' := ch
      clear s1 s2 h1 h2 ch hn
      generalize hw c = x at *
      generalize hr c = y at *
      go_wp2_with fail
      refine cc.mono ?_
      rintro e w1 ⟨rfl, hk⟩
      have HK1 := hide hk
      have HG := hide fun (w2 : World) (v' : Value) (o : Obj) => SRow.push (w := w1.alloc o) (w' := w2) (l := L) (A := A) (c := cap) (v' := v') (x := x)
      have Hrow := hide (HR.out.1.keep hk)
      clear hk
      go_wp2_with (at_builtin; refine wpList_append_own_at _ rfl (.tmp 18) (.tmp 21) _ rfl 0 9 i0 (.string ⟨#[]⟩) 1 16 Tryd.underlying41 hi hz0 hz1 hz2 rfl (by decide) (.slice A L.length cap) L.length (L.map sv) rfl (Hrow.out.alloc _) ⟨w1.heap.size, 0, none⟩ 1 1 [sv x] rfl rfl (cell_one_new _ _ _) (by intro u hu; simp at hu; subst hu; rfl) HM.out.1 HM.out.2 (Nat.zero_le _) ?_; intro v' w2 hown' hgrow _ hat; obtain ⟨A2, c2, rfl, hrow2, hk2, hin2⟩ := HG.out w2 v' _ hown' hgrow hat; have HD := hide (And.intro hrow2 (And.intro hk2 hin2)); clear hown' hgrow hat hrow2 hk2 hin2)
      refine (ch2 w2).mono ?_
      rintro e w3 ⟨rfl, hk⟩
      have HK3 := hide hk
      clear hk
      go_wp2_with fail
      go_roundg y.length
      case measure => have := HL.out; omega
      case rel =>
        refine ⟨y, L ++ [x], A2, c2, rfl, by simp, rfl, rfl, by have := HL.out; omega, by rw [HR.out.2.2.2, HW.out]; simp, ?_, ?_, ?_⟩
        · have := HD.out.1.keep HK3.out
          simpa using this
        · have k1 := (HR.out.2.1.trans HK1.out (fun _ _ h => h)).alloc (.cells #[sv x] 9)
          exact (k1.trans HD.out.2.1 (S := Nil) (fun i hi h => absurd (HR.out.2.2.1 i h) (by omega))).trans HK3.out (fun _ _ h => h)
        · intro g hg
          rcases HD.out.2.2 g hg with e | e
          · exact HR.out.2.2.1 g e
          · have a1 := HR.out.2.1.size
            have a2 := HK1.out.size
            simp at e
            omega
theorem words_c (s : ByteArray) (hs : s.size ≤ 65536) : Calls Tryd.prog 52 #[.string s] w fun e w' => ∃ v, e = .returned v ∧ Strs w' v (wds s.data.toList) ∧ Kept Nil w w' :=
  (words_row w s hs).mono fun _ _ ⟨v, h1, h2, h3⟩ => ⟨v, h1, h2.strs, h3⟩
theorem lines_c (s : ByteArray) (hs : s.size ≤ 65536) : Calls Tryd.prog 27 #[.string s] w fun e w' => ∃ v, e = .returned v ∧ Strs w' v (lns s.data.toList) ∧ Kept Nil w w' := by
  obtain ⟨i0, hi, hz0, hz1, hz2⟩ := info_parts info_str
  have hsl := dlen s
  have hwl := lns_len s.data.toList
  rw [hsl] at hwl
  have HI := hide (Is.new w 9 #[.string ⟨#[10]⟩])
  have HK0 := hide ((Kept.refl Nil w).alloc (.cells #[.string ⟨#[10]⟩] 9))
  have HLT := hide HI.out.lt
  have cc := cutter_c w ⟨#[10]⟩
  go_enter Tryd.func27, Tryd.ntmps27
  go_wp2_with fail
  refine cc.mono ?_
  rintro e w1 ⟨rfl, rfl⟩
  generalize w.alloc (.cells #[.string ⟨#[10]⟩] 9) = w1 at *
  obtain ⟨S, hS⟩ : ∃ S, s.data.toList = S := ⟨_, rfl⟩
  rw [hS] at hsl hwl
  obtain rfl : s = ⟨S.toArray⟩ := by rw [← hS]
  clear hS
  go_wp2_with fail
  go_loopg [0, 4] S.length (fun g v0 v4 wr => ∃ (c : List UInt8) (L : List (List UInt8)) (A : Option Addr) (cap : Nat), c.length = g ∧ v0 = .string ⟨c.toArray⟩ ∧ v4 = .slice A L.length cap ∧ c.length ≤ S.length ∧ lns S = L ++ lns c ∧ SRow wr (.slice A L.length cap) L ∧ Kept Nil w1 wr ∧ (∀ g, SIn A g → w1.heap.size ≤ g))
  case atStart => exact ⟨S, [], none, 0, rfl, rfl, rfl, Nat.le_refl _, rfl, SRow.empty _, Kept.refl _ _, fun g hg => by cases hg⟩
  case round =>
    obtain ⟨c, L, A, cap, hg, rfl, rfl, hcl, hwd, hrow, hkp, hin⟩ := hrel
    have HR := hide (And.intro hrow (And.intro hkp (And.intro hin hwd)))
    have hLl : L.length ≤ 65536 := by have := congrArg List.length hwd; rw [List.length_append] at this; omega
    have hm1 : L.length + 1 ≤ maxLen := by simp only [maxLen]; omega
    have hm2 : (L.length + 1) * 16 ≤ 140737488355328 := by omega
    have HM := hide (And.intro hm1 hm2)
    clear hrow hkp hin hwd hm1 hm2 hLl hwl
    by_cases hn : c = []
    · subst hn
      go_wp2_with fail
      go_ret
      exact ⟨_, rfl, by have := HR.out.2.2.2; rw [show lns [] = [] from rfl, List.append_nil] at this; rw [this]; exact HR.out.1.strs, HK0.out.trans HR.out.2.1 (fun _ _ h => h)⟩
    · have HW := hide (lns_step hn)
      have hne := sv_ne hn
      have hne2 : c.isEmpty = false := by simpa using hn
      have hb := (HR.out.2.1.cell (p := ⟨w.heap.size, 0, none⟩) HLT.out (fun c => c)).trans (HI.out.cell 0)
      have cu := cut_c wr ⟨c.toArray⟩ ⟨#[10]⟩ [10] w.heap.size hb (any_ten _ _)
      have h1 := fst_len [10] c
      have h2 := rst_len [10] c
      have s1 := mk_size (fst [10] c)
      have cl := fun W => clone_c W ⟨(fst [10] c).toArray⟩ (by omega)
      have ct : ∀ W, Calls Tryd.prog 51 #[.string ⟨(rst [10] c).toArray⟩, .string ⟨#[10]⟩] W fun e w' => e = .returned (.string ⟨((rst [10] c).drop 1).toArray⟩) ∧ w' = W := fun W => by
        have := Tryd.strings_TrimPrefix ⟨(rst [10] c).toArray⟩ ⟨#[10]⟩ W
        rw [show Lib.trimPrefix (⟨(rst [10] c).toArray⟩ : ByteArray).data.toList (⟨#[10]⟩ : ByteArray).data.toList = (rst [10] c).drop 1 from drop_ten c] at this
        exact this
      have cu2 : Calls Tryd.prog 63 #[.string ⟨c.toArray⟩, .pointer (some ⟨w.heap.size, 0, none⟩)] wr fun e w' => e = .returned (.tuple #[.string ⟨(fst [10] c).toArray⟩, .string ⟨(rst [10] c).toArray⟩]) ∧ Kept Nil wr w' := cu
      have hlt : ((rst [10] c).drop 1).length < c.length := by
        have := List.length_pos_iff.2 hn
        have h3 := congrArg List.length (fst_rst [10] c)
        rw [List.length_append] at h3
        rw [List.length_drop]
        omega
      have HL := hide hlt
      clear s1 h1 h2 cu hb hlt hn
      generalize fst [10] c = x at *
      generalize (rst [10] c).drop 1 = z at *
      generalize rst [10] c = y at *
      go_wp2_with fail
      refine cu2.mono ?_
      rintro e w2 ⟨rfl, hk⟩
      have HK2 := hide hk
      clear hk
      go_wp2_with fail
      refine (cl w2).mono ?_
      rintro e w3 ⟨rfl, hk⟩
      have HK3 := hide (HK2.out.trans hk (fun _ _ h => h))
      clear hk
      have HG := hide fun (w4 : World) (v' : Value) (o : Obj) => SRow.push (w := w3.alloc o) (w' := w4) (l := L) (A := A) (c := cap) (v' := v') (x := x)
      have Hrow := hide (HR.out.1.keep HK3.out)
      go_wp2_with (at_builtin; refine wpList_append_own_at _ rfl (.tmp 16) (.tmp 19) _ rfl 0 9 i0 (.string ⟨#[]⟩) 1 16 Tryd.underlying41 hi hz0 hz1 hz2 rfl (by decide) (.slice A L.length cap) L.length (L.map sv) rfl (Hrow.out.alloc _) ⟨w3.heap.size, 0, none⟩ 1 1 [sv x] rfl rfl (cell_one_new _ _ _) (by intro u hu; simp at hu; subst hu; rfl) HM.out.1 HM.out.2 (Nat.zero_le _) ?_; intro v' w4 hown' hgrow _ hat; obtain ⟨A2, c2, rfl, hrow2, hk2, hin2⟩ := HG.out w4 v' _ hown' hgrow hat; have HD := hide (And.intro hrow2 (And.intro hk2 hin2)); clear hown' hgrow hat hrow2 hk2 hin2)
      refine (ct w4).mono ?_
      rintro e w5 ⟨rfl, rfl⟩
      go_wp2_with fail
      go_roundg z.length
      case measure => have := HL.out; omega
      case rel =>
        refine ⟨z, L ++ [x], A2, c2, rfl, rfl, by simp, by have := HL.out; omega, by rw [HR.out.2.2.2, HW.out]; simp, by simpa using HD.out.1, ?_, ?_⟩
        · have k1 := (HR.out.2.1.trans HK3.out (fun _ _ h => h)).alloc (.cells #[sv x] 9)
          exact k1.trans HD.out.2.1 (S := Nil) (fun i hi h => absurd (HR.out.2.2.1 i h) (by omega))
        · intro g hg
          rcases HD.out.2.2 g hg with e | e
          · exact HR.out.2.2.1 g e
          · have a1 := HR.out.2.1.size
            have a2 := HK3.out.size
            simp at e
            omega
end
end Go.Proofs.YtcpcdfihgabelaaDoor
