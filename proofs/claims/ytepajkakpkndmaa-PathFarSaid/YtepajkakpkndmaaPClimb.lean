/- What is above one place; counting; the first place in a list. -/
import Derived.Test.YtepajkakpkndmaaPLists
namespace Go.Proofs.Ytepajkakpkndmaa
open Go.RowKit
set_option maxRecDepth 100000

theorem upk_small {P : List Int} {u k : Nat} (hf : formB P = true) (hu : u < P.length) (hk : k ≤ dn P u) : k ≤ P.length := Nat.le_trans hk (dn_pos hf hu).2.2
theorem Gr.nums_at {w w0 : World} {A : Option Addr} {c : Nat} {L : List Int} (h : Gr w0 w A c L) : Nums w (.slice A L.length c) L := h.row.nums

section
variable {w : World} {v : Value} {P l : List Int}
set_option maxHeartbeats 1000000
/-- What is above one place. -/
theorem climb_c {u : Nat} (hf : formB P = true) (hu : u < P.length) (hv : Nums w v P) (hl : P.length ≤ 65536) : Calls Try.prog 55 #[v, .int .i64 u] w fun e w' => ∃ A c, e = .returned (.slice A (dn P u) c) ∧ Row w' (.slice A (dn P u) c) (ups P u) ∧ Kept Nil w w' := by
  obtain ⟨i0, hi, hz0, hz1, hz2⟩ := info_parts info_int
  have HF := hide (And.intro hf hu)
  have H0 := hide (pl_zero hf hu)
  obtain ⟨A0, c0, rfl, hp⟩ := hv
  have HP := hide hp
  have HPL : Hid (0 < P.length) := hide (by omega)
  clear hf hu hp
  obtain ⟨g, o, rfl, hg, hc⟩ := HP.out HPL.out
  have HC := hide hc
  clear hc
  go_enter Try.func55, Try.ntmps55
  go_wp2_with fail
  go_loopw [1, 5] (fun v1 v5 wr => ∃ (k : Nat) (L : List Int) (A : Option Addr) (c : Nat), k ≤ dn P u ∧ v1 = .int .i64 (pl P u k) ∧ v5 = .slice A k c ∧ L = upk P u k ∧ Gr w wr A c L) (fun _ v _ => P.length - (match v with | .slice _ n _ => n | _ => 0))
  case atStart => exact ⟨0, [], none, 0, Nat.zero_le _, by rw [H0.out], rfl, rfl, Gr.start _⟩
  case round =>
    obtain ⟨k, L, A, c, hk, rfl, rfl, hL, hgr⟩ := hrel
    have hkP := upk_small HF.out.1 HF.out.2 hk
    have hLl : L.length = k := by rw [hL]; exact upk_len
    have hm1 : L.length + 1 ≤ maxLen := by simp only [maxLen]; omega
    have hm2 : (L.length + 1) * 8 ≤ 140737488355328 := by omega
    have HM := hide (And.intro hm1 hm2)
    have HL := hide hL
    have HGR := hide hgr
    clear hL hgr hm1 hm2
    subst hLl
    by_cases hlt : L.length < dn P u
    · have hN := hide (pl_next HF.out.1 HF.out.2 hlt)
      have hA := (anc_ok HF.out.1 HF.out.2 _ hlt).1
      have HU : Hid (upk P u (L.length + 1) = L ++ [(anc P u L.length : Int)]) := hide (by rw [upk_succ, ← HL.out])
      rw [pl_in hlt]
      have HK : Hid (L.length + 1 ≤ dn P u ∧ L.length < P.length) := hide ⟨hlt, by have := upk_small HF.out.1 HF.out.2 (k := L.length + 1) hlt; omega⟩
      have HX := hide (HC.out _ hA)
      rw [hN.out] at HX
      generalize anc P u L.length = m at *
      obtain ⟨y, hy⟩ : ∃ y, pl P u (L.length + 1) = y := ⟨_, rfl⟩
      rw [hy] at HX
      have HY := hide hy
      clear hlt hy hN
      have hne : ((m : Int) != -1) = true := by simp
      have hmp : (m : Int) < (P.length : Int) := by omega
      go_wp2_with (at_builtin; refine wpList_append_own_at _ rfl (.tmp 12) (.tmp 14) _ rfl 0 3 i0 (.int .i64 0) 1 8 Try.underlying22 hi hz0 hz1 hz2 rfl (by decide) (.slice A L.length c) L.length (L.map (Value.int .i64)) rfl (HGR.out.row.alloc _) ⟨wr.heap.size, 0, none⟩ 1 1 [.int .i64 (m : Int)] rfl rfl (cell_one_new _ _ _) (by intro u hu; simp at hu; subst hu; rfl) HM.out.1 HM.out.2 (Nat.zero_le _) ?_; intro v' w1 hown' hgrow _ hat; obtain ⟨A2, c2, rfl, hgr2⟩ := HGR.out.push hown' hgrow hat; have HD := hide hgr2; have q1 := (hgr2.kept.cell (p := ⟨g, o + m, none⟩) hg (fun c => c)).trans HX.out; clear hown' hgrow hat hgr2)
      go_roundw
      case rel => exact ⟨L.length + 1, L ++ [(m : Int)], A2, c2, HK.out.1, by rw [HY.out], rfl, HU.out.symm, HD.out⟩
      case measure => have := HK.out.2; simp; omega
    · have hkd : L.length = dn P u := by omega
      rw [pl_out hlt]
      have HU : Hid (ups P u = L ∧ dn P u = L.length) := hide ⟨by unfold ups; rw [← hkd]; exact HL.out.symm, hkd.symm⟩
      clear hlt hkd
      go_wp2_with fail
      go_ret
      exact ⟨A, c, by rw [HU.out.2]; rfl, by rw [HU.out.1, HU.out.2]; exact HGR.out.row, HGR.out.kept⟩

theorem cnt_yes {k : Nat} {x : Int} (hk : k < l.length) (hx : l.getD k 0 = x) : cnt (l.take (k + 1)) x = cnt (l.take k) x + 1 := by
  have hg : l[k] = x := by rw [← hx]; simp [List.getD, hk]
  unfold cnt
  rw [List.take_succ_eq_append_getElem hk, List.filter_append, List.length_append, hg]
  simp
theorem cnt_no {k : Nat} {x : Int} (hk : k < l.length) (hx : l.getD k 0 ≠ x) : cnt (l.take (k + 1)) x = cnt (l.take k) x := by
  have hg : l[k] ≠ x := by intro e; apply hx; rw [← e]; simp [List.getD, hk]
  unfold cnt
  rw [List.take_succ_eq_append_getElem hk, List.filter_append, List.length_append]
  simp [hg]
theorem cnt_le {x : Int} : cnt l x ≤ l.length := List.length_filter_le _ _
/-- count. -/
theorem count_c {m : Nat} (x : Int) (hm : cnt l x = m) (hv : Nums w v l) (hl : l.length ≤ 65536) : Calls Try.prog 33 #[v, .int .i64 x] w fun e w' => e = .returned (.int .i64 m) ∧ w' = w := by
  have HM := hide hm
  clear hm
  obtain ⟨A, c, rfl, hp⟩ := hv
  have HP := hide hp
  clear hp
  go_enter Try.func33, Try.ntmps33
  go_wp2_with fail
  go_loop [5, 10] (fun n i => ∃ k : Nat, k ≤ l.length ∧ i = .int .i64 k ∧ n = .int .i64 (cnt (l.take k) x)) (fun _ i => l.length - (intOf i).toNat)
  case atStart => exact ⟨0, Nat.zero_le _, rfl, rfl⟩
  case round =>
    obtain ⟨k, hk, rfl, rfl⟩ := hrel
    by_cases hlt : k < l.length
    · obtain ⟨g, o, rfl, _, hc⟩ := HP.out (by omega)
      have c1 := hc k hlt
      have hle : cnt (l.take k) x ≤ 65536 := Nat.le_trans cnt_le (by simp; omega)
      clear hc
      by_cases hx : l.getD k 0 = x
      · have HN := hide (cnt_yes hlt hx)
        rw [hx] at c1
        generalize cnt (l.take k) x = n at *
        clear hx
        go_wp2_with fail
        go_round
        case rel => exact ⟨k + 1, by omega, by go_num, by rw [HN.out]; go_num⟩
        case measure => simp [intOf]; omega
      · have HN := hide (cnt_no hlt hx)
        have hne : (l.getD k 0 == x) = false := by simpa using hx
        generalize l.getD k 0 = y at *
        generalize cnt (l.take k) x = n at *
        clear hx
        go_wp2_with fail
        go_round
        case rel => exact ⟨k + 1, by omega, by go_num, by rw [HN.out]⟩
        case measure => simp [intOf]; omega
    · obtain rfl : k = l.length := by omega
      go_wp2_with fail
      go_ret
      exact ⟨by rw [← HM.out]; rfl, rfl⟩

theorem Fst.hit {q : Int → Bool} {k : Nat} (h : k < l.length) (hn : ∀ x ∈ l.take k, q x = false) (hq : q (l.getD k 0) = true) : (k : Int) = fidx q l := Fst.eq (.inr ⟨k, rfl, h, hq, hn⟩)
theorem Fst.none {q : Int → Bool} (hn : ∀ x ∈ l.take l.length, q x = false) : -1 = fidx q l := Fst.eq (.inl ⟨rfl, by rw [List.take_length] at hn; exact hn⟩)
/-- slices.Index: the place. -/
theorem place_c {m : Int} (x : Int) (hm : fidx (fun y => y == x) l = m) (hv : Nums w v l) (hl : l.length ≤ 65536) : Calls Try.prog 35 #[v, .int .i64 x] w fun e w' => e = .returned (.int .i64 m) ∧ w' = w := by
  have HM := hide hm
  clear hm
  obtain ⟨A, c, rfl, hp⟩ := hv
  have HP := hide hp
  clear hp
  go_enter Try.func35, Try.ntmps35
  go_wp2_with fail
  go_loop [8] (fun i => ∃ k : Nat, k ≤ l.length ∧ i = .int .i64 k ∧ ∀ y ∈ l.take k, (fun y => y == x) y = false) (fun i => l.length - (intOf i).toNat)
  case atStart => exact ⟨0, Nat.zero_le _, rfl, by simp⟩
  case round =>
    obtain ⟨k, hk, rfl, hn⟩ := hrel
    have HN := hide hn
    clear hn
    by_cases hlt : k < l.length
    · obtain ⟨g, o, rfl, _, hc⟩ := HP.out (by omega)
      have c1 := hc k hlt
      clear hc
      have HX := hide (fun h => all_not (q := fun y => y == x) hlt HN.out h)
      have HI := hide (fun h => Fst.hit hlt HN.out h)
      generalize l.getD k 0 = y at *
      by_cases hxy : y = x
      · subst hxy
        have HR := hide (HI.out (by simp))
        clear HX HI HN
        go_wp2_with fail
        go_ret
        exact ⟨by rw [← HM.out, ← HR.out]; rfl, rfl⟩
      · have HR := hide (HX.out (by simpa using hxy))
        have hne : (x == y) = false := by simpa using fun h : x = y => hxy h.symm
        clear HX HI hxy
        go_wp2_with fail
        go_round
        case rel => exact ⟨k + 1, by omega, by go_num, HR.out⟩
        case measure => simp [intOf]; omega
    · obtain rfl : k = l.length := by omega
      have HR := hide (Fst.none HN.out)
      go_wp2_with fail
      go_ret
      exact ⟨by rw [← HM.out, ← HR.out]; rfl, rfl⟩
/-- slices.IndexFunc of a closure: the place. -/
theorem placefunc_c {m : Int} {N : FuncId} {cap : Array Value} {q : Int → Bool} (hE : ∀ args w, (callFunc N args).run Try.prog w = .ok (.enter N args) w) (hm : fidx q l = m) (hv : Nums w v l) (hl : l.length ≤ 65536)
    (hC : ∀ W, Kept Nil w W → ∀ x ∈ l, Calls Try.prog N (#[.int .i64 x] ++ cap) W fun e w' => e = .returned (.bool (q x)) ∧ Kept Nil W w') :
    Calls Try.prog 37 #[v, .func (.func N) #[] cap] w fun e w' => e = .returned (.int .i64 m) ∧ Kept Nil w w' := by
  have HC := hide hC
  have HM := hide hm
  clear hC hm
  obtain ⟨A, c, rfl, hp⟩ := hv
  have HP := hide hp
  clear hp
  go_enter Try.func37, Try.ntmps37
  go_wp2_with fail
  go_loopw [8] (fun i wr => ∃ k : Nat, k ≤ l.length ∧ i = .int .i64 k ∧ (∀ x ∈ l.take k, q x = false) ∧ Kept Nil w wr) (fun i _ => l.length - (intOf i).toNat)
  case atStart => exact ⟨0, Nat.zero_le _, rfl, by simp, Kept.refl _ _⟩
  case round =>
    obtain ⟨k, hk, rfl, hn, hkp⟩ := hrel
    have HN := hide hn
    have HK := hide hkp
    clear hn hkp
    by_cases hlt : k < l.length
    · obtain ⟨g, o, rfl, hg, hc⟩ := HP.out (by omega)
      have c1 := (HK.out.cell (p := ⟨g, o + k, none⟩) hg (fun c => c)).trans (hc k hlt)
      have HX := hide (fun h => all_not (q := q) hlt HN.out h)
      have HI := hide (fun h => Fst.hit hlt HN.out h)
      have cC := HC.out wr HK.out _ (getD_in hlt)
      clear hc
      obtain ⟨y, hy⟩ : ∃ y, l.getD k 0 = y := ⟨_, rfl⟩
      rw [hy] at c1 cC HX HI
      clear hy
      cases hq : q y with
      | true =>
        have HR := hide (HI.out hq)
        rw [hq] at cC
        clear hq HX
        go_wp2_with fail
        refine cC.mono ?_
        rintro e w1 ⟨rfl, hk1⟩
        have HK1 := hide (HK.out.trans hk1 (fun _ _ z => z))
        clear hk1
        go_wp2_with fail
        go_ret
        exact ⟨by rw [← HM.out, ← HR.out]; rfl, HK1.out⟩
      | false =>
        have HR := hide (HX.out hq)
        rw [hq] at cC
        clear hq HX
        go_wp2_with fail
        refine cC.mono ?_
        rintro e w1 ⟨rfl, hk1⟩
        have HK1 := hide (HK.out.trans hk1 (fun _ _ z => z))
        clear hk1
        go_wp2_with fail
        go_roundw
        case rel => exact ⟨k + 1, by omega, by go_num, HR.out, HK1.out⟩
        case measure => simp [intOf]; omega
    · obtain rfl : k = l.length := by omega
      have HR := hide (Fst.none HN.out)
      go_wp2_with fail
      go_ret
      exact ⟨by rw [← HM.out, ← HR.out]; rfl, HK.out⟩
end
end Go.Proofs.Ytepajkakpkndmaa
