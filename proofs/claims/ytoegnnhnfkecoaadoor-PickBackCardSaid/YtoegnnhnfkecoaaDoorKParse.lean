/- Package pick's Parse. -/
import Derived.Test.YtoegnnhnfkecoaaDoorKRead
import Derived.Test.YtoegnnhnfkecoaaDoorLWords
import Derived.WalkSmall
namespace Go.Proofs.YtoegnnhnfkecoaaDoor
open Go.RowKit
set_option maxRecDepth 100000

/-- What Parse answers. -/
def PTold (ws : List (List UInt8)) (w : World) (e : Ending) (w' : World) : Prop := ∃ v, e = .returned (.tuple #[v, .int .i64 (pi ws), .int .i64 (pf ws)]) ∧ Picks w' v (pl ws) ∧ Kept Nil w w'
theorem PTold.bad {ws W R : List (List UInt8)} {x : List UInt8} {w w' : World} {m : Nat} (e : ws = W ++ x :: R) (h : good W = true) (hx : rb x = false) (hm : W.length = m) (k : Kept Nil w w') : PTold ws w (.returned (.tuple #[.slice none 0 0, .int .i64 m, .int .i64 2])) w' := by
  obtain ⟨h1, h2, h3⟩ := pl_no e h hx
  exact ⟨_, by rw [h2, h3, hm], by rw [h1]; exact Picks.nil _ _ _, k⟩
theorem PTold.fine {ws : List (List UInt8)} {w w0 w' : World} {A : Option Addr} {c m : Nat} (h : good ws = true) (hm : ws.length = m) (hg : Gw 37 2 w0 w' A c m (pcells (ws.map rp))) (k : Kept Nil w w') : PTold ws w (.returned (.tuple #[.slice A m c, .int .i64 0, .int .i64 0])) w' := by
  obtain ⟨h1, h2, h3⟩ := pl_yes h
  subst hm
  refine ⟨.slice A ws.length c, by rw [h2, h3]; rfl, ?_, k⟩
  have hg : Gw 37 2 w0 w' A c (ws.map rp).length (pcells (ws.map rp)) := by rw [List.length_map]; exact hg
  have := hg.picks
  rw [List.length_map] at this
  rw [h1]
  exact this
/-- The words of the first lines, and the first words of the next one. -/
def upto (L : List (List UInt8)) (i j : Nat) : List (List UInt8) := (L.take i).flatMap wds ++ (wds (L.getD i [])).take j
theorem words_at (l : List (List UInt8)) {j : Nat} (h : j < l.length) : l.getD j [] = l[j] := by simp [List.getD, h]
theorem words_next (l : List (List UInt8)) {j : Nat} (h : j < l.length) : l.take (j + 1) = l.take j ++ [l.getD j []] := by rw [List.take_succ_eq_append_getElem h, words_at l h]
theorem words_cut (l : List (List UInt8)) {j : Nat} (h : j < l.length) : l = l.take j ++ l.getD j [] :: l.drop (j + 1) := by
  rw [words_at l h, ← List.drop_eq_getElem_cons h, List.take_append_drop]
section
variable {L : List (List UInt8)} {i j : Nat}
theorem upto_zero (L : List (List UInt8)) : upto L 0 0 = [] := by simp [upto]
theorem upto_line (h : i < L.length) : upto L i (wds (L.getD i [])).length = upto L (i + 1) 0 := by
  unfold upto
  have : L.getD i [] = L[i] := by simp [List.getD, h]
  rw [List.take_length, List.take_zero, List.append_nil, List.take_succ_eq_append_getElem h, List.flatMap_append, this]
  simp
theorem upto_word (hj : j < (wds (L.getD i [])).length) : upto L i (j + 1) = upto L i j ++ [(wds (L.getD i [])).getD j []] := by
  unfold upto
  rw [words_next _ hj, List.append_assoc]
theorem upto_rest (h : i < L.length) (hj : j < (wds (L.getD i [])).length) : ∃ R, L.flatMap wds = upto L i j ++ (wds (L.getD i [])).getD j [] :: R := by
  have e1 := words_cut L h
  have e2 := words_cut (wds (L.getD i [])) hj
  refine ⟨(wds (L.getD i [])).drop (j + 1) ++ (L.drop (i + 1)).flatMap wds, ?_⟩
  have e3 : L.flatMap wds = (L.take i).flatMap wds ++ (wds (L.getD i []) ++ (L.drop (i + 1)).flatMap wds) := by
    conv => lhs; rw [e1]
    rw [List.flatMap_append, List.flatMap_cons]
  rw [e3]
  unfold upto
  conv => lhs; arg 2; arg 1; rw [e2]
  simp
theorem upto_end (L : List (List UInt8)) : upto L L.length 0 = L.flatMap wds := by
  unfold upto
  simp
theorem upto_len (h : i < L.length) (hj : j < (wds (L.getD i [])).length) : (upto L i j).length + 1 ≤ (L.flatMap wds).length := by
  obtain ⟨R, e⟩ := upto_rest h hj
  rw [e, List.length_append]
  simp
end
theorem wof_len (s : List UInt8) : (wof s).length ≤ s.length + 1 := Nat.le_trans (len_wl _) (wl_wof s)
theorem lns_part {s : List UInt8} {a : List UInt8} (h : a ∈ lns s) : a.length ≤ s.length := by
  have h1 := wl_mem h
  have h2 := wl_lns s
  omega
theorem getD_mem2 (l : List (List UInt8)) {k : Nat} (h : k < l.length) : l.getD k [] ∈ l := by
  simp [List.getD, h]
/-- A row of strings lies beside a row of picks. -/
theorem SRow.beside {w : World} {A B : Option Addr} {n c m d : Nat} {l : List (List UInt8)} {xs : List Value} (h : SRow w (.slice A n c) l) (k : w.ownsRow 0 37 2 (.slice B m d) m xs) : ∀ g, SIn A g → ¬ In B g := by
  intro g hg hb
  obtain ⟨cur, hi, _⟩ := h.block hg
  rcases k.2 with ⟨e, _⟩ | ⟨g', cap, cur', e, _, hh, _⟩
  · injection e with e1 _ _
    subst e1
    cases hb
  · injection e with e1 _ _
    subst e1
    injection hb with hb
    have hb : g' = g := hb
    subst hb
    exact hi.ne (show Is w g' 37 cur' from hh) (by decide) rfl
theorem SRow.grown {w w' : World} {A B : Option Addr} {n c m d : Nat} {l : List (List UInt8)} {xs : List Value} (h : SRow w (.slice A n c) l) (k : w.ownsRow 0 37 2 (.slice B m d) m xs) (hg : w.grownBy w' (Value.slice B m d).ownBlock) : SRow w' (.slice A n c) l :=
  h.kept (Kept.of_grown hg) (fun g hg2 e => h.beside k g hg2 (by
    have hob : ∀ (B : Option Addr) (n m : Nat), (Value.slice B n m).ownBlock = B.map (·.block) := fun B n m => by cases B <;> rfl
    rw [hob] at e
    exact e))

section
variable (w : World)
set_option maxHeartbeats 1600000
theorem pparse_c (s : ByteArray) (hs : s.size ≤ 3000) : Calls Tryd.prog 7 #[.string s] w (PTold (wof s.data.toList) w) := by
  obtain ⟨i0, hi, hz0, hz1, hz2⟩ := info_parts info_pick
  have hsl := dlen s
  have hwl := wof_len s.data.toList
  have hll := lns_len s.data.toList
  have hlp := fun a h => @lns_part s.data.toList a h
  go_enter Tryd.func7, Tryd.ntmps7
  go_wp2_with fail
  refine (lines_c w s (by omega)).mono ?_
  rintro e w1 ⟨v, rfl, hv, hk⟩
  obtain ⟨L, hL⟩ : ∃ L, lns s.data.toList = L := ⟨_, rfl⟩
  have hwo : wof s.data.toList = L.flatMap wds := by unfold wof; rw [hL]
  rw [hL] at hv hll hlp
  rw [hwo] at hwl ⊢
  have HK1 := hide hk
  have HWO := hide hwo
  have HLP := hide hlp
  have HV := hide hv
  obtain ⟨AL, cL, rfl, _⟩ := hv
  have HL := hide (And.intro hwl hsl)
  have hLn : L.length ≤ 3000 := by omega
  clear hk hL hwo hlp hwl hll hsl
  go_wp2_with fail
  go_loopw [5, 15] (fun v5 v15 wr => ∃ (i m : Nat) (A : Option Addr) (c : Nat), i ≤ L.length ∧ v15 = .int .i64 i ∧ v5 = .slice A m c ∧ (upto L i 0).length = m ∧ good (upto L i 0) = true ∧ Gw 37 2 w1 wr A c m (pcells ((upto L i 0).map rp))) (fun _ v _ => L.length - (intOf v).toNat)
  case atStart => exact ⟨0, 0, none, 0, Nat.zero_le _, rfl, rfl, by rw [upto_zero]; rfl, by rw [upto_zero]; rfl, by rw [upto_zero]; exact Gw.start _ _ _⟩
  case round =>
    obtain ⟨i, m, A, c, hi1, rfl, rfl, hm, hgd, hg⟩ := hrel
    have HG := hide (And.intro hm (And.intro hgd hg))
    clear hm hgd hg
    by_cases hlt : i < L.length
    · obtain ⟨AL', cL', eL, _, hp⟩ := HV.out.kept HG.out.2.2.kept
      injection eL with eL _ eC
      subst eL eC
      obtain ⟨g, o, rfl, _, hc⟩ := hp (by omega)
      have c1 := hc i hlt
      have hlen := HLP.out _ (getD_mem2 L hlt)
      obtain ⟨W, hW⟩ : ∃ W, wds (L.getD i []) = W := ⟨_, rfl⟩
      have h1 := fun j h => @upto_word L i j h
      have h2 := fun j h => @upto_rest L i j hlt h
      have h3 := upto_line hlt
      have h4 := fun j h => @upto_len L i j hlt h
      have h5 := fun a h => @wds_part (L.getD i []) a h
      rw [hW] at h1 h2 h3 h4 h5
      have HW := hide (And.intro h1 (And.intro h2 (And.intro h3 h4)))
      have HW5 := hide h5
      have h6 : W.length ≤ 3000 := by
        have := wds_len (L.getD i [])
        rw [hW] at this
        have := HL.out.2
        omega
      have cw := words_row wr ⟨(L.getD i []).toArray⟩ (by rw [mk_size]; have := HL.out.2; omega)
      rw [show wds (⟨(L.getD i []).toArray⟩ : ByteArray).data.toList = W from hW] at cw
      have HLN := hide hlen
      have h7 : upto L i 0 = upto L i 0 := rfl
      clear hc hp h1 h2 h3 h4 h5 hW hlen h7
      generalize L.getD i [] = ln at *
      unfold sv at c1
      go_wp2_with fail
      refine cw.mono ?_
      rintro e w2 ⟨v2, rfl, hr, hk⟩
      have HR := hide hr
      obtain ⟨AW, cW, rfl, _⟩ := hr.form
      have HG2 := hide (HG.out.2.2.keep hk)
      clear hr hk
      go_wp2_with fail
      go_loopw [5, 22] (fun v5 v22 wx => ∃ (j m : Nat) (A : Option Addr) (c : Nat), j ≤ W.length ∧ v22 = .int .i64 j ∧ v5 = .slice A m c ∧ (upto L i j).length = m ∧ good (upto L i j) = true ∧ Gw 37 2 w1 wx A c m (pcells ((upto L i j).map rp)) ∧ SRow wx (.slice AW W.length cW) W) (fun _ v _ => W.length - (intOf v).toNat)
      case atStart => exact ⟨0, m, A, c, Nat.zero_le _, rfl, rfl, HG.out.1, HG.out.2.1, HG2.out, HR.out⟩
      case round =>
        obtain ⟨j, m', A', c', hj1, rfl, rfl, hm, hgd, hg, hr⟩ := hrel
        have HX := hide (And.intro hm (And.intro hgd (And.intro hg hr)))
        clear hm hgd hg hr
        by_cases hjt : j < W.length
        · obtain ⟨gw, rfl, d1, _⟩ := HX.out.2.2.2.cell hjt
          have hx5 := HW5.out _ (getD_mem2 W hjt)
          have H1 := hide (HW.out.1 j hjt)
          have H2 := hide (HW.out.2.1 j hjt)
          have hml : m' + 1 ≤ 3001 := by
            have a1 := HW.out.2.2.2 j hjt
            rw [HX.out.1] at a1
            have := HL.out.1
            have := HL.out.2
            omega
          have hx6 : (W.getD j []).length ≤ 3000 := by have := HLN.out; have := HL.out.2; omega
          obtain ⟨x, hx⟩ : ∃ x, W.getD j [] = x := ⟨_, rfl⟩
          rw [hx] at d1 H1 H2 hx6
          unfold sv at d1
          have cr := fun V => read_c V ⟨x.toArray⟩ (by rw [mk_size]; omega)
          have cr2 : ∀ V, Calls Tryd.prog 22 #[.string ⟨x.toArray⟩] V (Read x V) := cr
          unfold Read at cr2
          clear cr hx hx5
          have hne : ((m' : Int) == 4000) = false := by
            have : ¬ (m' : Int) = 4000 := by omega
            simpa using this
          cases hb : rb x with
          | false =>
            have HB := hide hb
            simp only [hb] at cr2
            generalize (rd x).1 = a at *
            generalize (rd x).2 = b at *
            clear hb
            go_wp2_with fail
            refine (cr2 _).mono ?_
            rintro e w3 ⟨rfl, hk⟩
            have HK3 := hide (((HK1.out.trans HX.out.2.2.1.kept (fun _ _ z => z)).trans hk (fun _ _ z => z)).alloc (.cells #[.int .i64 a, .int .i64 b] 37))
            clear hk
            go_wp2_with fail
            go_ret3
            obtain ⟨R, hR⟩ := H2.out
            exact PTold.bad (HWO.out.trans hR) HX.out.2.1 HB.out HX.out.1 HK3.out
          | true =>
            have HB := hide hb
            have HRP : Hid (rp x = ((rd x).1, (rd x).2)) := hide (by unfold rd; rw [if_pos hb])
            simp only [hb] at cr2
            generalize (rd x).1 = a at *
            generalize (rd x).2 = b at *
            have hm1 : m' + 1 ≤ maxLen := by simp only [maxLen]; omega
            have hm2 : (m' + 1) * 16 ≤ 140737488355328 := by omega
            have HM := hide (And.intro hm1 hm2)
            clear hb hm1 hm2
            go_wp2_with fail
            refine (cr2 _).mono ?_
            rintro e w3 ⟨rfl, hk⟩
            have HG3 := hide (HX.out.2.2.1.keep hk)
            have HS3 := hide (((HX.out.2.2.2.keep hk).alloc (.cells #[.int .i64 a, .int .i64 b] 37)).alloc (.cells #[.int .i64 a, .int .i64 b] 37))
            have HP := hide fun (w' : World) (v' : Value) => HG3.out.push (v' := v') (w' := w') (news := [.int .i64 a, .int .i64 b]) (m := 1) (((Kept.refl Nil w3).alloc (.cells #[.int .i64 a, .int .i64 b] 37)).alloc (.cells #[.int .i64 a, .int .i64 b] 37))
            have HO := hide ((HG3.out.row.alloc (.cells #[.int .i64 a, .int .i64 b] 37)).alloc (.cells #[.int .i64 a, .int .i64 b] 37))
            have HC := hide (cell_two_new (w3.alloc (.cells #[.int .i64 a, .int .i64 b] 37)) (.int .i64 a) (.int .i64 b) 37)
            clear hk
            go_wp2_with (at_builtin; refine wpList_append_own_at _ rfl (.tmp 40) (.tmp 42) _ rfl 0 37 i0 (.agg #[.int .i64 0, .int .i64 0]) 2 16 Tryd.underlying22 hi hz0 hz1 hz2 rfl (by decide) (.slice A' m' c') m' (pcells ((upto L i j).map rp)) rfl HO.out ⟨w3.heap.size + 1, 0, none⟩ 1 1 [.int .i64 a, .int .i64 b] rfl rfl (by have := HC.out; simpa using this) (by intro u hu; simp at hu; rcases hu with rfl | rfl <;> rfl) HM.out.1 HM.out.2 (Nat.zero_le _) ?_; intro v' w5 hown' hgrow _ hat; obtain ⟨A2, c2, rfl, hg2⟩ := HP.out _ _ hown' hgrow hat; have HD := hide (And.intro hg2 (SRow.grown HS3.out HO.out hgrow)); clear hown' hgrow hat hg2)
            go_roundw
            case rel =>
              refine ⟨j + 1, m' + 1, A2, c2, by omega, by go_num, rfl, by rw [H1.out, List.length_append, HX.out.1]; rfl, by rw [H1.out]; exact good_snoc HX.out.2.1 HB.out, ?_, HD.out.2⟩
              have := HD.out.1
              rw [H1.out, List.map_append, List.map_singleton, pcells_snoc, HRP.out]
              exact this
            case measure => simp [intOf]; omega
        · obtain rfl : j = W.length := by omega
          go_wp2_with fail
          go_roundw
          case rel =>
            obtain ⟨hm, hgd, hg, _⟩ := HX.out
            rw [HW.out.2.2.1] at hm hgd hg
            exact ⟨i + 1, m', A', c', by omega, by go_num, rfl, hm, hgd, hg⟩
          case measure => simp [intOf]; omega
    · obtain rfl : i = L.length := by omega
      go_wp2_with fail
      go_ret3
      obtain ⟨hm, hgd, hg⟩ := HG.out
      rw [upto_end, ← HWO.out] at hm hgd hg
      exact PTold.fine hgd hm hg (HK1.out.trans hg.kept (fun _ _ z => z))
end
end Go.Proofs.YtoegnnhnfkecoaaDoor
