/- The document's Entries, Longest, Fifo. -/
import Derived.Test.YtnipgafogkbobaaYRefOf
import Derived.Test.YtnipgafogkbobaaYEntries
import Derived.Test.YtnipgafogkbobaaYRefE
namespace Go.Proofs.Ytnipgafogkbobaa
open Go.RowKit
set_option maxRecDepth 100000

/-- Seven cells, written out. -/
theorem Seven.cells {w : World} {g o : Nat} {t a e x z c : Int} {r : Bool} (h : Seven (fun i => w.cell? ⟨g, i, none⟩) o ⟨t, r, a, e, x, z, c⟩) : w.cell? ⟨g, o, none⟩ = some (.int .i64 t) ∧ w.cell? ⟨g, o + 1, none⟩ = some (.bool r) ∧ w.cell? ⟨g, o + 2, none⟩ = some (.int .i64 a) ∧ w.cell? ⟨g, o + 3, none⟩ = some (.int .i64 e) ∧
    w.cell? ⟨g, o + 4, none⟩ = some (.int .i64 x) ∧ w.cell? ⟨g, o + 5, none⟩ = some (.int .i64 z) ∧ w.cell? ⟨g, o + 6, none⟩ = some (.int .i64 c) := ⟨h.t, h.r, h.a, h.e, h.x, h.z, h.c⟩
/-- A row of ints behind an append: other rows of the call's own stay. -/
theorem Ints.push2 {w0 w w' : World} {R : Option Addr} {c : Nat} {L : List Int} {x : Int} {wx : World} {v' : Value} (h : Ints w0 w R c L) (kx : Kept Nil w wx) (hr : w'.ownsRow 0 3 1 v' (L.length + 1) (L.map (Value.int .i64) ++ [.int .i64 x])) (hg : wx.grownBy w' (Value.slice R L.length c).ownBlock)
    (hat : v'.ownBlock = (Value.slice R L.length c).ownBlock ∨ v'.ownBlock = some wx.heap.size) : ∃ R' c', v' = .slice R' (L.length + 1) c' ∧ Ints w0 w' R' c' (L ++ [x]) ∧ ∀ e sz A n c xs, e ≠ 3 → Gw e sz w0 w A c n xs → Gw e sz w0 w' A c n xs := by
  obtain ⟨R', c', e, h2⟩ := Gw.push h kx hr hg hat
  have kg : Kept (In R) wx w' := (Kept.of_grown hg).more (fun i _ z => by rw [own_in] at z; exact z)
  refine ⟨R', c', e, by unfold Ints; rw [List.length_append, List.map_append]; exact h2, fun e sz A n c xs he ha => ⟨owns_keep (ha.keep kx).row kg (fun i hi z => ?_), (ha.keep kx).kept.trans kg (fun i hi z => ?_), ha.own⟩⟩
  · obtain ⟨cur, hc⟩ := Gw.block h z
    obtain ⟨cur2, hc2⟩ := ha.block hi
    exact hc2.ne hc he rfl
  · have := Gw.own h i z
    omega
section
variable {w : World} {v : Value} {l : List Ev}
theorem yun_len {F : List Sy} {j k : Nat} {P Y : List Int} {n : Nat} (hP : P = yenrs F j) (hY : yenrs F n = Y) (hj : j < n) : P.length + (yenr (F.take k) j).length ≤ Y.length := by
  have h1 : yenrs F (j + 1) = P ++ yenr F j := by rw [yenrs_step, hP]
  have h2 : ∀ m, j + 1 ≤ m → (yenrs F (j + 1)).length ≤ (yenrs F m).length := by
    intro m
    induction m with
    | zero => intro h; omega
    | succ m ih =>
      intro h
      by_cases e : j + 1 = m + 1
      · rw [e]; exact Nat.le_refl _
      · rw [yenrs_step (n := m), List.length_append]
        have := ih (by omega)
        omega
  have h3 := h2 n (by omega)
  rw [h1, hY, List.length_append] at h3
  have h4 : (yenr (F.take k) j).length ≤ (yenr F j).length := by
    unfold yenr
    rw [List.length_map, List.length_map]
    exact ((List.take_sublist k F).filter _).length_le
  omega
set_option maxHeartbeats 2000000
theorem rentries_c (hv : Evs w v l) (hl : l.length ≤ 65536) : Calls Try.prog 14 #[v] w (Ins w (yen l)) := by
  obtain ⟨i0, hi0, hz0, hz1, hz2⟩ := info_parts info_int
  have CO := hide (rof_c hv hl)
  have hSl : (yof l).length ≤ 65536 := Nat.le_trans yof_len hl
  have HY := hide (yenrs_yen (l := l))
  have hyl : (yen l).length ≤ l.length := yen_len
  generalize yen l = Y at *
  generalize yof l = F at *
  obtain ⟨A, c, rfl, hlc, hp⟩ := hv
  clear hp
  go_enter Try.func14, Try.ntmps14
  go_wp2_with fail
  refine CO.out.mono ?_
  rintro e w1 ⟨A2, c2, rfl, hg⟩
  have HG := hide hg
  clear hg CO
  go_wp2_with fail
  go_loopw [3, 5] (fun v3 v5 wr => ∃ (j : Nat) (P : List Int) (R : Option Addr) (c1 : Nat), j ≤ l.length ∧ v5 = .int .i64 j ∧ v3 = .slice R P.length c1 ∧ P = yenrs F j ∧ Ints w wr R c1 P ∧ Gw 36 7 w wr A2 c2 F.length (ycells F)) (fun _ i _ => l.length - (intOf i).toNat)
  case atStart => exact ⟨0, [], none, 0, Nat.zero_le _, rfl, rfl, rfl, Gw.from _ _ HG.out.kept, HG.out⟩
  case round =>
    obtain ⟨j, P, R, c1, hj, rfl, rfl, hP, hR, hF⟩ := hrel
    have HK := hide (And.intro hR hF)
    clear hR hF HG
    by_cases hlt : j < l.length
    · have HL := hide fun k => yun_len (k := k) hP HY.out hlt
      have HS := hide (yenrs_step (S := F) (n := j))
      rw [← hP] at HS
      clear hP
      go_wp2_with fail
      go_loopw [3, 6] (fun v3 v6 wi => ∃ (k : Nat) (Q : List Int) (R : Option Addr) (c1 : Nat), k ≤ F.length ∧ v6 = .int .i64 k ∧ v3 = .slice R Q.length c1 ∧ Q = P ++ yenr (F.take k) j ∧ Ints w wi R c1 Q ∧ Gw 36 7 w wi A2 c2 F.length (ycells F)) (fun _ i _ => F.length - (intOf i).toNat)
      case atStart => exact ⟨0, P, R, c1, Nat.zero_le _, rfl, rfl, (List.append_nil P).symm, HK.out⟩
      case round =>
        obtain ⟨k, Q, R, c1, hk, rfl, rfl, hQ, hR, hF⟩ := hrel
        clear HK
        have HK := hide (And.intro hR hF)
        clear hR hF
        by_cases hkt : k < F.length
        · have hQl : Q.length ≤ 65536 := by
            rw [hQ, List.length_append]
            have := HL.out k
            omega
          obtain ⟨g, rfl, hgl, _, hc1, h7, _⟩ := HK.out.2.at7 hkt
          have HT := hide (yenr_take (j := j) hkt)
          generalize F.getD k s0 = s at *
          obtain ⟨st, sr, sa, se, sx, sz, sc⟩ := s
          obtain ⟨q0, _, _, q3, _⟩ := h7.cells
          have HM : Hid (Q.length + 1 ≤ maxLen ∧ (Q.length + 1) * 8 ≤ 140737488355328) := hide ⟨by unfold maxLen; omega, by omega⟩
          by_cases he : se = (j : Int)
          · have hb : (se == (j : Int)) = true := by simpa using he
            have HQ : Hid (Q ++ [st] = P ++ yenr (F.take (k + 1)) j) := hide (by rw [HT.out, if_pos he, ← List.append_assoc, ← hQ])
            clear he HT hQ h7
            go_wp2_with (at_builtin; refine wpList_append_own_at _ rfl (.tmp 28) (.tmp 34) _ rfl 0 3 i0 (.int .i64 0) 1 8 Try.underlying30 hi0 hz0 hz1 hz2 rfl (by decide) (.slice R Q.length c1) Q.length (Q.map (Value.int .i64)) rfl (HK.out.1.row.alloc _) ⟨wr.heap.size, 0, none⟩ 1 1 [.int .i64 st] rfl rfl (cell_one_new _ _ _) (by intro u hu; simp at hu; subst hu; rfl) HM.out.1 HM.out.2 (Nat.zero_le _) ?_; intro v' w3 hown' hgrow _ hat; obtain ⟨R2, c3, rfl, hg2, ht2⟩ := HK.out.1.push2 ((Kept.refl Nil wr).alloc _) hown' hgrow hat; have H3 := hide (And.intro hg2 (ht2 _ _ _ _ _ _ (by decide) HK.out.2)); clear hown' hgrow hat hg2 ht2)
            go_roundw
            case rel => exact ⟨k + 1, Q ++ [st], R2, c3, by omega, by go_num, by simp, HQ.out, H3.out⟩
            case measure => simp [intOf]; omega
          · have hb : (se == (j : Int)) = false := by simpa using he
            have HQ : Hid (Q = P ++ yenr (F.take (k + 1)) j) := hide (by rw [HT.out, if_neg he, List.append_nil]; exact hQ)
            clear he HT hQ h7
            go_wp2_with fail
            go_roundw
            case rel => exact ⟨k + 1, Q, R, c1, by omega, by go_num, rfl, HQ.out, HK.out⟩
            case measure => simp [intOf]; omega
        · obtain rfl : k = F.length := by omega
          rw [List.take_length] at hQ
          have HQ : Hid (Q = yenrs F (j + 1)) := hide (by rw [HS.out]; exact hQ)
          clear hQ HS HL
          go_wp2_with fail
          go_roundw
          case rel => exact ⟨j + 1, Q, R, c1, by omega, by go_num, rfl, HQ.out, HK.out⟩
          case measure => simp [intOf]; omega
    · obtain rfl : j = l.length := by omega
      have hP : P = Y := hP.trans HY.out
      go_wp2_with fail
      go_ret
      rw [← hP]
      exact ⟨R, c1, rfl, HK.out.1⟩
end
end Go.Proofs.Ytnipgafogkbobaa
