/- Entries. -/
import Derived.Test.YtnipgafogkbobaaYOf
namespace Go.Proofs.Ytnipgafogkbobaa
open Go.RowKit
set_option maxRecDepth 100000

section
variable {w0 w w1 w' : World} {p c : Nat} {A : Option Addr} {S : List Sy} {v : Value} {l : List Ev}
/-- A tally stays while blocks of other things turn. -/
theorem Tly.far {T : Nat → Prop} (h : Tly w0 w p S) (k : Kept T w w') (hs : ∀ i, T i → w0.heap.size ≤ i ∧ ∃ t cs, Is w i t cs ∧ t ≠ 53 ∧ t ≠ 36) : Tly w0 w' p S := by
  obtain ⟨m, A, c, f, h⟩ := h
  refine ⟨m, A, c, f, h.box.kept k (fun z => ?_), ⟨owns_keep h.row.row k (fun i hi z => ?_), h.row.kept.trans k (fun i hi z => ?_), h.row.own⟩, h.und.kept k (fun z => ?_), h.ix, h.pn, h.mn⟩
  · obtain ⟨_, t, cs, h1, h2, _⟩ := hs p z
    exact h1.ne h.box h2 rfl
  · obtain ⟨cur, hc⟩ := h.row.block hi
    obtain ⟨_, t, cs, h1, _, h2⟩ := hs i z
    exact h1.ne hc h2 rfl
  · have := (hs i z).1
    omega
  · obtain ⟨_, t, cs, h1, _⟩ := hs m z
    exact h.und.ne h1 rfl
/-- A row of ints that is built beside a tally. -/
def Ints (w0 w : World) (R : Option Addr) (c : Nat) (L : List Int) : Prop := Gw 3 1 w0 w R c L.length (L.map (Value.int .i64))
theorem Ints.push {R : Option Addr} {c : Nat} {L : List Int} {x : Int} {wx : World} {v' : Value} (h : Ints w0 w R c L) (kx : Kept Nil w wx) (hr : w'.ownsRow 0 3 1 v' (L.length + 1) (L.map (Value.int .i64) ++ [.int .i64 x])) (hg : wx.grownBy w' (Value.slice R L.length c).ownBlock)
    (hat : v'.ownBlock = (Value.slice R L.length c).ownBlock ∨ v'.ownBlock = some wx.heap.size) : ∃ R' c', v' = .slice R' (L.length + 1) c' ∧ Ints w0 w' R' c' (L ++ [x]) ∧ ∀ p S, Tly w0 w p S → Tly w0 w' p S := by
  obtain ⟨R', c', e, h2⟩ := Gw.push h kx hr hg hat
  refine ⟨R', c', e, by unfold Ints; rw [List.length_append, List.map_append]; exact h2, fun p S ht => (ht.keep kx).far (T := In R) ((Kept.of_grown hg).more (fun i _ z => by rw [own_in] at z; exact z)) (fun i hi => ⟨Gw.own h i hi, ?_⟩)⟩
  obtain ⟨cur, hc⟩ := Gw.block h hi
  exact ⟨_, _, hc.kept kx (fun z => z), by decide, by decide⟩
/-- What Entries hands back. -/
def Ins (w : World) (L : List Int) (e : Ending) (w' : World) : Prop := ∃ R c, e = .returned (.slice R L.length c) ∧ Ints w w' R c L
set_option maxHeartbeats 1000000
theorem entries_c (hv : Evs w v l) (hw : Ywf l) (hl : l.length ≤ 65536) : Calls Try.prog 9 #[v] w (Ins w (yen l)) := by
  obtain ⟨i0, hi, hz0, hz1, hz2⟩ := info_parts info_int
  have CB := hide (tbegin_c (Kept.refl Nil w))
  obtain ⟨A, c, rfl, _, hp⟩ := hv
  have HP := hide hp
  clear hp
  go_enter Try.func9, Try.ntmps9
  go_wp2_with fail
  refine CB.out.mono ?_
  rintro e w1 ⟨p, rfl, ht, _⟩
  have HT := hide ht
  clear ht CB
  go_wp2_with fail
  go_loopw [4, 10] (fun v4 v10 wr => ∃ (k : Nat) (L : List Int) (R : Option Addr) (c1 : Nat), k ≤ l.length ∧ v10 = .int .i64 k ∧ v4 = .slice R L.length c1 ∧ L = yen (l.take k) ∧ Tly w wr p (yof (l.take k)) ∧ Ints w wr R c1 L) (fun _ i _ => l.length - (intOf i).toNat)
  case atStart => exact ⟨0, [], none, 0, Nat.zero_le _, rfl, rfl, rfl, HT.out, Gw.from _ _ HT.out.kept⟩
  case round =>
    obtain ⟨k, L, R, c1, hk, rfl, rfl, hL, ht, hr⟩ := hrel
    have HK := hide (And.intro ht hr)
    have hLk : L.length ≤ k := by rw [hL]; exact Nat.le_trans yen_len (by rw [List.length_take]; omega)
    clear ht hr HT
    by_cases hlt : k < l.length
    · obtain ⟨g1, o1, rfl, hg1, hc⟩ := HP.out (by omega)
      obtain ⟨f1, f2, f3, f4⟩ := (hc k hlt).kept hg1 HK.out.1.kept
      have hwk := hw k hlt
      have HS := hide (yof_take hlt)
      have HE := hide (yen_take hlt)
      rw [← hL] at HE
      have hsl : (yof (l.take k)).length ≤ 65536 := Nat.le_trans yof_len (by rw [List.length_take]; omega)
      clear hc hg1 hL
      generalize l.getD k e0 = ev at *
      have KA := (Kept.refl Nil wr).alloc (.cells #[.int .i64 ev.k, .int .i64 ev.t, .bool ev.r, .int .i64 ev.c] 25)
      have CT := hide (take_c (i := k) (v := ev) (HK.out.1.keep KA) hwk hsl)
      have HX := hide (And.intro (HK.out.2.keep KA) (Is.new wr 25 #[.int .i64 ev.k, .int .i64 ev.t, .bool ev.r, .int .i64 ev.c]))
      generalize ytk (yof (l.take k)) ev = b at *
      obtain ⟨ek, et, er, ec⟩ := ev
      have f1 : wr.cell? ⟨g1, o1 + k * 4, none⟩ = some (.int .i64 ek) := f1
      have f2 : wr.cell? ⟨g1, o1 + k * 4 + 1, none⟩ = some (.int .i64 et) := f2
      have f3 : wr.cell? ⟨g1, o1 + k * 4 + 2, none⟩ = some (.bool er) := f3
      have f4 : wr.cell? ⟨g1, o1 + k * 4 + 3, none⟩ = some (.int .i64 ec) := f4
      clear hwk hsl KA
      go_wp2_with fail
      refine CT.out.mono ?_
      rintro e w2 ⟨rfl, h2, ho⟩
      have hi2 := ho _ _ _ (by decide) (by decide) HX.out.2
      have q0 : w2.cell? ⟨wr.heap.size, 0, none⟩ = some (.int .i64 ek) := hi2.cell 0
      have q1 : w2.cell? ⟨wr.heap.size, 1, none⟩ = some (.int .i64 et) := hi2.cell 1
      have H2 : Hid (Tly w w2 p (yof (l.take (k + 1))) ∧ Ints w w2 R c1 L) := hide ⟨by rw [HS.out]; exact h2, HX.out.1.oth ho (by decide) (by decide) h2.kept⟩
      clear h2 ho hi2 f1 f2 f3 f4 CT HK HX HS
      have HM : Hid (L.length + 1 ≤ maxLen ∧ (L.length + 1) * 8 ≤ 140737488355328) := hide ⟨by unfold maxLen; omega, by omega⟩
      cases b with
      | false =>
        have HF : Hid (L = yen (l.take (k + 1))) := hide (by rw [HE.out, if_neg (by simp), List.append_nil])
        go_wp2_with fail
        go_roundw
        case rel => exact ⟨k + 1, L, R, c1, by omega, by go_num, rfl, HF.out, H2.out⟩
        case measure => simp [intOf]; omega
      | true =>
        by_cases h2 : ek = 2
        · subst h2
          have HF : Hid (L ++ [et] = yen (l.take (k + 1))) := hide (by rw [HE.out, if_pos ⟨rfl, rfl⟩])
          go_wp2_with (at_builtin; refine wpList_append_own_at _ rfl (.tmp 24) (.tmp 27) _ rfl 0 3 i0 (.int .i64 0) 1 8 Try.underlying30 hi hz0 hz1 hz2 rfl (by decide) (.slice R L.length c1) L.length (L.map (Value.int .i64)) rfl (H2.out.2.row.alloc _) ⟨w2.heap.size, 0, none⟩ 1 1 [.int .i64 et] rfl rfl (cell_one_new _ _ _) (by intro u hu; simp at hu; subst hu; rfl) HM.out.1 HM.out.2 (Nat.zero_le _) ?_; intro v' w3 hown' hgrow _ hat; obtain ⟨R2, c2, rfl, hg2, ht2⟩ := H2.out.2.push ((Kept.refl Nil w2).alloc _) hown' hgrow hat; have H3 := hide (And.intro (ht2 _ _ H2.out.1) hg2); clear hown' hgrow hat hg2 ht2)
          go_roundw
          case rel => exact ⟨k + 1, L ++ [et], R2, c2, by omega, by go_num, by simp, HF.out, H3.out⟩
          case measure => simp [intOf]; omega
        · have hb : (ek == 2) = false := by simpa using h2
          have HF : Hid (L = yen (l.take (k + 1))) := hide (by rw [HE.out, if_neg (fun z => h2 z.1), List.append_nil])
          clear h2
          go_wp2_with fail
          go_roundw
          case rel => exact ⟨k + 1, L, R, c1, by omega, by go_num, rfl, HF.out, H2.out⟩
          case measure => simp [intOf]; omega
    · obtain rfl : k = l.length := by omega
      rw [List.take_length] at hL
      go_wp2_with fail
      go_ret
      rw [← hL]
      exact ⟨R, c1, rfl, HK.out.2⟩
end
end Go.Proofs.Ytnipgafogkbobaa
