/- The law AutoPlays, walked. -/
import Derived.Test.YtkdmodjfninekaaULaws
namespace Go.Proofs.Ytkdmodjfninekaa
open Go.RowKit
set_option maxRecDepth 100000

section
variable {w : World} {v : Value} {l : List Ev}
theorem cell_four_new (w : World) (a b c d : Value) (t : TypeId) : ∀ j u, [a, b, c, d][j]? = some u → (w.alloc (.cells #[a, b, c, d] t)).cell? ((⟨w.heap.size, 0, none⟩ : Addr).add j) = some u := by
  intro j u hj
  match j, hj with
  | 0, hj => simp at hj; subst hj; simp [Addr.add]
  | 1, hj => simp at hj; subst hj; simp [Addr.add]
  | 2, hj => simp at hj; subst hj; simp [Addr.add]
  | 3, hj => simp at hj; subst hj; simp [Addr.add]
  | j + 4, hj => simp at hj
set_option maxHeartbeats 4000000
theorem uplays_short (n t : Int) (hv : Evs w v l) (hn : 60 < l.length) : Calls Try.prog 5 #[.int .i64 n, v, .int .i64 t] w fun x w' => x = .returned (.bool true) ∧ Kept Nil w w' := by
  obtain ⟨A, c, rfl, hx1, hx2⟩ := hv
  clear hx1 hx2
  have HA := hide (uawake_c w)
  go_enter Try.func5, Try.ntmps5
  go_wp2_with fail
  refine HA.out.mono ?_
  rintro x w1 ⟨rfl, k1⟩
  have HE := hide k1
  clear k1
  go_wp2_with fail
  go_ret
  exact ⟨rfl, HE.out⟩
/-- What holds between the rounds. -/
structure Up (w0 w : World) (n : Int) (p : Option Addr) (g : Nat) (R : Option Addr) (c : Nat) (L : List Ev) : Prop where
  lock : Uf w0 w p g (ats (um n) L)
  row : Gw 23 4 w0 w R c L.length (ecells L)
  are : ∀ e ∈ L, 0 ≤ e.t ∧ e.t < (um n : Int)
section
variable {w0 w' : World} {n : Int} {p R : Option Addr} {g c : Nat} {L : List Ev}
theorem Up.keep (h : Up w0 w n p g R c L) (k : Kept Nil w w') : Up w0 w' n p g R c L := ⟨h.lock.keep k, h.row.keep k, h.are⟩
theorem Up.one (h : Up w0 w n p g R c L) : Calls Try.prog 10 #[.pointer p] w fun e w' => e = .returned (.int .i64 (hol (ats (um n) L))) ∧ w = w' :=
  ulholder_c h.lock.lk (by rw [ats_len]; have := um_le (t := n); omega)
theorem Up.two (h : Up w0 w n p g R c L) (hl : L.length ≤ 65536) : Calls Try.prog 13 #[.int .i64 n, .slice R L.length c] w fun e w' => e = .returned (.int .i64 (hol (ats (um n) L))) ∧ w = w' :=
  uholder_c n h.row.evs hl
theorem Up.three (h : Up w0 w n p g R c L) (t : Int) : Calls Try.prog 11 #[.pointer p, .int .i64 t] w fun e w' => e = .returned (.int .i64 (st L t)) ∧ w = w' := by
  rw [← sta_ats h.are]
  exact ulstate_c t h.lock.lk
theorem Up.four (h : Up w0 w n p g R c L) (t : Int) (hl : L.length ≤ 65536) : Calls Try.prog 14 #[.slice R L.length c, .int .i64 t] w fun e w' => e = .returned (.int .i64 (st L t)) ∧ w = w' :=
  ustate_c t h.row.evs hl
theorem Up.same {e : Ev} (h : Uf w0 w p g (mov (ats (um n) L) e)) (hm : mov (ats (um n) L) e = ats (um n) L) (hr : Gw 23 4 w0 w R c L.length (ecells L)) (hi : ∀ e ∈ L, 0 ≤ e.t ∧ e.t < (um n : Int)) : Up w0 w n p g R c L := ⟨by rw [hm] at h; exact h, hr, hi⟩
theorem ev_size (L : List Ev) (e : Ev) : L.length + 1 = (L ++ [e]).length := by simp
end
theorem uplays_long (n t : Int) (hv : Evs w v l) (hn : l.length ≤ 60) : Calls Try.prog 5 #[.int .i64 n, v, .int .i64 t] w fun x w' => x = .returned (.bool true) ∧ Kept Nil w w' := by
  have hlen : decide (60 < (l.length : Int)) = false := by simp; omega
  obtain ⟨i0, hi, hz0, hz1, hz2⟩ := info_parts info_event
  have HN := hide (unewF (Kept.refl Nil w) n)
  obtain ⟨⟨X, Y⟩, hrun⟩ : ∃ XY, run (List.replicate (um n) 0) l 0 = XY := ⟨_, rfl⟩
  have CK1 := hide fun W (z : Kept Nil w W) => ucheck_c n hrun (hv.kept z) (by omega)
  have CK2 := hide fun W (z : Kept Nil w W) => urcheck_c n hrun (hv.kept z) (by omega)
  have CK3 := hide fun W => usome_c W n
  rw [← ats_nil] at HN
  clear hrun
  obtain ⟨A, c, rfl, _, hp⟩ := hv
  have HP := hide hp
  clear hp
  go_enter Try.func5, Try.ntmps5
  go_wp2_with fail
  refine HN.out.mono ?_
  rintro x w1 ⟨p, g, rfl, hU⟩
  have HU := hide hU
  clear hU HN
  go_wp2_with fail
  go_loopw [8, 9] (fun v8 v9 wr => ∃ (k : Nat) (L : List Ev) (R : Option Addr) (c1 : Nat), k ≤ l.length ∧ v9 = .int .i64 k ∧ v8 = .slice R L.length c1 ∧ L.length ≤ k ∧ Up w wr n p g R c1 L) (fun _ i _ => l.length - (intOf i).toNat)
  case atStart => exact ⟨0, [], none, 0, Nat.zero_le _, rfl, rfl, Nat.le_refl _, HU.out, Gw.from _ _ HU.out.kept, fun e h => by simp at h⟩
  case round =>
    obtain ⟨k, L, R, c1, hk, rfl, rfl, hLk, hU⟩ := hrel
    have HK := hide hU
    clear hU HU
    by_cases hlt : k < l.length
    · obtain ⟨g1, o1, rfl, hg1, hc⟩ := HP.out (by omega)
      have hF := hide fun W (z : Kept Nil w W) => (hc k hlt).kept hg1 z
      clear hc hg1
      generalize l.getD k e0 = e at *
      have hF3 := hide fun W (z : Kept Nil w W) => show W.cell? ⟨g1, o1 + k * 4, none⟩ = some (.int .i64 e.k) ∧ W.cell? ⟨g1, o1 + k * 4 + 1, none⟩ = some (.int .i64 e.t) ∧ W.cell? ⟨g1, o1 + k * 4 + 2, none⟩ = some (.bool e.r) ∧ W.cell? ⟨g1, o1 + k * 4 + 3, none⟩ = some (.int .i64 e.c) from hF.out W z
      have hL := Nat.le_trans hLk hk
      have C1 := hide (udoF e HK.out.lock (by rw [ats_len]; have := um_le (t := n); omega))
      have C2 := hide fun W (z : Evs W (.slice R L.length c1) L) => show Calls Try.prog 8 #[.int .i64 n, .slice R L.length c1, .agg #[.int .i64 e.k, .int .i64 e.t, .bool e.r, .int .i64 e.c]] W fun x w' => x = .returned (.int .i64 (dof (ats (um n) L) e)) ∧ Kept Nil W w' from urdo_c n z (by omega)
      have HD := hide (And.intro (fun h => mov_err (A := ats (um n) L) (e := e) h) (And.intro (fun h => mov_still (A := ats (um n) L) (e := e) h) (And.intro (fun h => mov_ats (n := um n) (l := L) (e := e) h) (fun h => dof_in (A := ats (um n) L) (e := e) h))))
      rw [ats_len] at HD
      have HS := hide (ecells_snoc L e)
      have HM := hide (ev_size L e)
      have HI : Hid ((0 ≤ e.t ∧ e.t < (um n : Int)) → ∀ x ∈ L ++ [e], 0 ≤ x.t ∧ x.t < (um n : Int)) := hide (fun h x hx => by
        rcases List.mem_append.1 hx with h1 | h1
        · exact HK.out.are x h1
        · rw [List.mem_singleton] at h1
          rw [h1]
          exact h)
      clear hF
      generalize hek : e.k = ek at *
      generalize het : e.t = et at *
      generalize her : e.r = er at *
      generalize hec : e.c = ec at *
      clear hek het her hec
      obtain ⟨f1, f2, f3, f4⟩ := hF3.out wr HK.out.lock.kept
      go_wp2_with fail
      refine C1.out.mono ?_
      rintro x w2 ⟨rfl, h2, h3⟩
      have H2 := hide (And.intro h2 (And.intro (h3 _ _ _ _ HK.out.row) HK.out.are))
      clear h2 h3 f1 f2 f3 f4 C1
      obtain ⟨f1, f2, f3, f4⟩ := hF3.out w2 H2.out.1.kept
      generalize dof (ats (um n) L) e = d at *
      go_wp2_with fail
      refine (C2.out _ H2.out.2.1.evs).mono ?_
      rintro x w3 ⟨rfl, h3⟩
      have H3 := hide (And.intro (H2.out.1.keep h3) (And.intro (H2.out.2.1.keep h3) H2.out.2.2))
      clear h3 f1 f2 f3 f4 C2 H2
      obtain ⟨f1, f2, f3, f4⟩ := hF3.out w3 H3.out.1.kept
      by_cases h0 : d = 0
      · subst h0
        by_cases hk0 : ek = 0 ∨ ek = 5
        · have HU := hide (Up.same H3.out.1 (HD.out.2.1 (by omega)) H3.out.2.1 H3.out.2.2)
          clear HD HI HS HM
          rcases hk0 with rfl | rfl
          · go_wp2_with fail
            have T1 := hide HU.out.one
            have T2 := hide (HU.out.two (by omega))
            have T3 := hide (HU.out.three t)
            have T4 := hide (HU.out.four t (by omega))
            generalize hol (ats (um n) L) = h at *
            generalize st L t = a at *
            refine T1.out.mono ?_
            rintro x w5 ⟨rfl, rfl⟩
            go_wp2_with fail
            refine T2.out.mono ?_
            rintro x w5 ⟨rfl, rfl⟩
            go_wp2_with fail
            refine T3.out.mono ?_
            rintro x w5 ⟨rfl, rfl⟩
            go_wp2_with fail
            refine T4.out.mono ?_
            rintro x w5 ⟨rfl, rfl⟩
            go_wp2_with fail
            go_roundw
            case rel => exact ⟨k + 1, L, R, c1, by omega, by go_num, rfl, by omega, HU.out⟩
            case measure => simp [intOf]; omega
          · go_wp2_with fail
            have T1 := hide HU.out.one
            have T2 := hide (HU.out.two (by omega))
            have T3 := hide (HU.out.three t)
            have T4 := hide (HU.out.four t (by omega))
            generalize hol (ats (um n) L) = h at *
            generalize st L t = a at *
            refine T1.out.mono ?_
            rintro x w5 ⟨rfl, rfl⟩
            go_wp2_with fail
            refine T2.out.mono ?_
            rintro x w5 ⟨rfl, rfl⟩
            go_wp2_with fail
            refine T3.out.mono ?_
            rintro x w5 ⟨rfl, rfl⟩
            go_wp2_with fail
            refine T4.out.mono ?_
            rintro x w5 ⟨rfl, rfl⟩
            go_wp2_with fail
            go_roundw
            case rel => exact ⟨k + 1, L, R, c1, by omega, by go_num, rfl, by omega, HU.out⟩
            case measure => simp [intOf]; omega
        · have hin := HD.out.2.2.2 rfl
          have HU : Hid (Uf w w3 p g (ats (um n) (L ++ [e])) ∧ (1 ≤ ek ∧ ek ≤ 4) ∧ ∀ x ∈ L ++ [e], 0 ≤ x.t ∧ x.t < (um n : Int)) := hide ⟨by have := H3.out.1; rw [HD.out.2.2.1 rfl] at this; exact this, by omega, HI.out (by omega)⟩
          have b0 : (ek != 0) = true := by simp; omega
          have b5 : (ek != 5) = true := by simp; omega
          have hm1 : L.length + 1 ≤ maxLen := by simp only [maxLen]; omega
          have hm2 : (L.length + 1) * 32 ≤ 140737488355328 := by omega
          have HMX := hide (And.intro hm1 hm2)
          clear hin hk0 HD HI hm1 hm2
          go_wp2_with (at_builtin; refine wpList_append_own_at _ rfl (.tmp 60) (.tmp 65) _ rfl 0 23 i0 (.agg #[.int .i64 0, .int .i64 0, .bool false, .int .i64 0]) 4 32 Try.underlying37 hi hz0 hz1 hz2 rfl (by decide) (.slice R L.length c1) L.length (ecells L) rfl (H3.out.2.1.row.alloc _) ⟨w3.heap.size, 0, none⟩ 1 1 [.int .i64 ek, .int .i64 et, .bool er, .int .i64 ec] rfl rfl (cell_four_new _ _ _ _ _ _) (by intro u hu; simp at hu; rcases hu with rfl | rfl | rfl | rfl <;> rfl) HMX.out.1 HMX.out.2 (Nat.zero_le _) ?_; intro v' w4 hown' hgrow _ hat; obtain ⟨R2, c2, rfl, hg2⟩ := H3.out.2.1.push ((Kept.refl Nil w3).alloc _) hown' hgrow hat; have HU4 := hide (And.intro ((HU.out.1.keep ((Kept.refl Nil w3).alloc _)).push (H3.out.2.1.keep ((Kept.refl Nil w3).alloc _)) hgrow) hg2); clear hown' hgrow hat hg2)
          have HU : Hid (Up w w4 n p g R2 c2 (L ++ [e])) := hide ⟨HU4.out.1, by have := HU4.out.2; rw [← HS.out, HM.out] at this; exact this, HU.out.2.2⟩
          rw [HM.out]
          have hL2 : (L ++ [e]).length ≤ k + 1 := by rw [← HM.out]; omega
          clear HU4 HS HM HMX H3 f1 f2 f3 f4 hF3
          generalize L ++ [e] = L2 at *
          have T1 := hide HU.out.one
          have T2 := hide (HU.out.two (by omega))
          have T3 := hide (HU.out.three t)
          have T4 := hide (HU.out.four t (by omega))
          generalize hol (ats (um n) L2) = h at *
          generalize st L2 t = a at *
          refine T1.out.mono ?_
          rintro x w5 ⟨rfl, rfl⟩
          go_wp2_with fail
          refine T2.out.mono ?_
          rintro x w5 ⟨rfl, rfl⟩
          go_wp2_with fail
          refine T3.out.mono ?_
          rintro x w5 ⟨rfl, rfl⟩
          go_wp2_with fail
          refine T4.out.mono ?_
          rintro x w5 ⟨rfl, rfl⟩
          go_wp2_with fail
          go_roundw
          case rel => exact ⟨k + 1, L2, R2, c2, by omega, by go_num, rfl, by omega, HU.out⟩
          case measure => simp [intOf]; omega
      · have HU := hide (Up.same H3.out.1 (HD.out.1 h0) H3.out.2.1 H3.out.2.2)
        have hb : (d == 0) = false := by simpa using h0
        clear HD HI HS HM h0
        go_wp2_with fail
        have T1 := hide HU.out.one
        have T2 := hide (HU.out.two (by omega))
        have T3 := hide (HU.out.three t)
        have T4 := hide (HU.out.four t (by omega))
        generalize hol (ats (um n) L) = h at *
        generalize st L t = a at *
        refine T1.out.mono ?_
        rintro x w5 ⟨rfl, rfl⟩
        go_wp2_with fail
        refine T2.out.mono ?_
        rintro x w5 ⟨rfl, rfl⟩
        go_wp2_with fail
        refine T3.out.mono ?_
        rintro x w5 ⟨rfl, rfl⟩
        go_wp2_with fail
        refine T4.out.mono ?_
        rintro x w5 ⟨rfl, rfl⟩
        go_wp2_with fail
        go_roundw
        case rel => exact ⟨k + 1, L, R, c1, by omega, by go_num, rfl, by omega, HU.out⟩
        case measure => simp [intOf]; omega
    · obtain rfl : k = l.length := by omega
      have CK4 := hide (uthreads_c HK.out.lock.lk)
      rw [ats_len] at CK4
      go_wp2_with fail
      refine (CK1.out _ HK.out.lock.kept).mono ?_
      rintro x w5 ⟨rfl, h5⟩
      have K5 := hide (HK.out.keep h5)
      clear h5 CK1 HK CK4
      have CK4 := hide (uthreads_c K5.out.lock.lk)
      go_wp2_with fail
      refine (CK2.out _ K5.out.lock.kept).mono ?_
      rintro x w6 ⟨rfl, h6⟩
      have K6 := hide (K5.out.keep h6)
      clear h6 CK2 K5 CK4
      have CK4 := hide (uthreads_c K6.out.lock.lk)
      rw [ats_len] at CK4
      have HA := hide (uawake_c w6)
      go_wp2_with fail
      refine CK4.out.mono ?_
      rintro x w7 ⟨rfl, rfl⟩
      go_wp2_with fail
      refine (CK3.out _).mono ?_
      rintro x w7 ⟨rfl, rfl⟩
      go_wp2_with fail
      refine HA.out.mono ?_
      rintro x w9 ⟨rfl, h9⟩
      have H9 := hide (K6.out.lock.kept.trans h9 (fun _ _ z => z))
      clear h9
      go_wp2_with fail
      go_ret
      exact ⟨rfl, H9.out⟩
theorem uplays_c (n t : Int) (hv : Evs w v l) : Calls Try.prog 5 #[.int .i64 n, v, .int .i64 t] w fun x w' => x = .returned (.bool true) ∧ Kept Nil w w' := by
  rcases Nat.lt_or_ge 60 l.length with h | h
  · exact uplays_short n t hv h
  · exact uplays_long n t hv h
end
end Go.Proofs.Ytkdmodjfninekaa
