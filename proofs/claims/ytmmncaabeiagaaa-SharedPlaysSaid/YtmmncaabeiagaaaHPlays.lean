/- The law SharedPlays, walked. wip/tools/genshared.py wrote it. -/
import Derived.Test.YtmmncaabeiagaaaHLaws
namespace Go.Proofs.Ytmmncaabeiagaaa
open Go.RowKit
set_option maxRecDepth 100000

section
variable {w : World} {v : Value} {l : List Ev}
theorem cell_four_new (w : World) (a b c d : Value) (t : TypeId) : ∀ j u, [a, b, c, d][j]? = some u → (w.alloc (.cells #[a, b, c, d] t)).cell? ((⟨w.heap.size, 0, none⟩ : Addr).add j) = some u := by
  intro j u hj
  match j, hj with
  | 0, hj => simp at hj; subst hj; simp [Addr.add]
  | 1, hj => simp at hj; subst hj; simp [Addr.add]
  | 2, hj => simp at hj; subst hj; simp [Addr.add]
  | 3, hj => simp at hj; subst hj; simp [Addr.add]
  | j + 4, hj => simp at hj
set_option maxHeartbeats 4000000
theorem splays_short (n t : Int) (hv : Evs w v l) (hn : 60 < l.length) : Calls Try.prog 6 #[.int .i64 n, v, .int .i64 t] w fun x w' => x = .returned (.bool true) ∧ Kept Nil w w' := by
  obtain ⟨A, c, rfl, hx1, hx2⟩ := hv
  clear hx1 hx2
  have HA := hide (sawake_c w)
  go_enter Try.func6, Try.ntmps6
  go_wp2_with fail
  refine HA.out.mono ?_
  rintro x w1 ⟨rfl, k1⟩
  have HE := hide k1
  clear k1
  go_wp2_with fail
  go_ret
  exact ⟨rfl, HE.out⟩
/-- What holds between the rounds. -/
structure Sp (w0 w : World) (n : Int) (p : Option Addr) (g : Nat) (R : Option Addr) (c : Nat) (L : List Ev) : Prop where
  lock : Sf w0 w p g (sds (um n) L)
  row : Gw 29 4 w0 w R c L.length (ecells L)
  are : ∀ e ∈ L, 0 ≤ e.t ∧ e.t < (um n : Int)
section
variable {w0 w' : World} {n : Int} {p R : Option Addr} {g c : Nat} {L : List Ev}
theorem Sp.keep (h : Sp w0 w n p g R c L) (k : Kept Nil w w') : Sp w0 w' n p g R c L := ⟨h.lock.keep k, h.row.keep k, h.are⟩
theorem Sp.state (h : Sp w0 w n p g R c L) (t : Int) : Calls Try.prog 10 #[.pointer p, .int .i64 t] w fun e w' => e = .returned (.tuple #[.int .i64 (st L t), .bool (rd L t)]) ∧ Sp w0 w' n p g R c L := by
  have := sstate_c t h.lock.lk
  rw [ssta_sds h.are] at this
  exact this.mono fun _ _ ⟨h1, h2⟩ => ⟨h1, h.keep h2⟩
theorem Sp.writer (h : Sp w0 w n p g R c L) : Calls Try.prog 12 #[.pointer p] w fun e w' => e = .returned (.int .i64 (wri (sds (um n) L))) ∧ Sp w0 w' n p g R c L :=
  (swriter_c h.lock.lk (by rw [sds_len]; have := um_le (t := n); omega)).mono fun _ _ ⟨h1, h2⟩ => ⟨h1, h.keep h2⟩
theorem Sp.readers (h : Sp w0 w n p g R c L) : Calls Try.prog 11 #[.pointer p] w fun e w' => e = .returned (.int .i64 (rdn (sds (um n) L) : Nat)) ∧ Sp w0 w' n p g R c L :=
  (sreaders_c h.lock.lk (by rw [sds_len]; have := um_le (t := n); omega)).mono fun _ _ ⟨h1, h2⟩ => ⟨h1, h.keep h2⟩
theorem Sp.rwriter (h : Sp w0 w n p g R c L) (hl : L.length ≤ 65536) : Calls Try.prog 17 #[.int .i64 n, .slice R L.length c] w fun e w' => e = .returned (.int .i64 (wri (sds (um n) L))) ∧ w = w' := rwriter_c n h.row.evs hl
theorem Sp.rreaders (h : Sp w0 w n p g R c L) (hl : L.length ≤ 65536) : Calls Try.prog 18 #[.int .i64 n, .slice R L.length c] w fun e w' => e = .returned (.int .i64 (rdn (sds (um n) L) : Nat)) ∧ w = w' := rreaders_c n h.row.evs hl
theorem Sp.rstate (h : Sp w0 w n p g R c L) (t : Int) (hl : L.length ≤ 65536) : Calls Try.prog 19 #[.slice R L.length c, .int .i64 t] w fun e w' => e = .returned (.int .i64 (st L t)) ∧ w = w' := ustate_c t h.row.evs hl
theorem Sp.rreads (h : Sp w0 w n p g R c L) (t : Int) (hl : L.length ≤ 65536) : Calls Try.prog 20 #[.slice R L.length c, .int .i64 t] w fun e w' => e = .returned (.bool (rd L t)) ∧ w = w' := rreads_c t h.row.evs hl
theorem Sp.same {e : Ev} (h : Sf w0 w p g (smov (sds (um n) L) e)) (hm : smov (sds (um n) L) e = sds (um n) L) (hr : Gw 29 4 w0 w R c L.length (ecells L)) (hi : ∀ e ∈ L, 0 ≤ e.t ∧ e.t < (um n : Int)) : Sp w0 w n p g R c L := ⟨by rw [hm] at h; exact h, hr, hi⟩
theorem ev_size (L : List Ev) (e : Ev) : L.length + 1 = (L ++ [e]).length := by simp
end
theorem splays_long (n t : Int) (hv : Evs w v l) (hn : l.length ≤ 60) : Calls Try.prog 6 #[.int .i64 n, v, .int .i64 t] w fun x w' => x = .returned (.bool true) ∧ Kept Nil w w' := by
  have hlen : decide (60 < (l.length : Int)) = false := by simp; omega
  obtain ⟨i0, hi, hz0, hz1, hz2⟩ := info_parts info_event
  have HN := hide (snewF (Kept.refl Nil w) n)
  obtain ⟨⟨X, Y⟩, hrun⟩ : ∃ XY, srun (List.replicate (um n) z0) l 0 = XY := ⟨_, rfl⟩
  have CK1 := hide fun W (z : Kept Nil w W) => scheck_c n hrun (hv.kept z) (by omega)
  have CK2 := hide fun W (z : Kept Nil w W) => hrcheck_c n hrun (hv.kept z) (by omega)
  rw [← sds_nil] at HN
  clear hrun
  obtain ⟨A, c, rfl, _, hp⟩ := hv
  have HP := hide hp
  clear hp
  go_enter Try.func6, Try.ntmps6
  go_wp2_with fail
  refine HN.out.mono ?_
  rintro x w1 ⟨p, g, rfl, hU, _⟩
  have HU := hide hU
  clear hU HN
  go_wp2_with fail
  go_loopw [8, 9] (fun v8 v9 wr => ∃ (k : Nat) (L : List Ev) (R : Option Addr) (c1 : Nat), k ≤ l.length ∧ v9 = .int .i64 k ∧ v8 = .slice R L.length c1 ∧ L.length ≤ k ∧ Sp w wr n p g R c1 L) (fun _ i _ => l.length - (intOf i).toNat)
  case atStart => exact ⟨0, [], none, 0, Nat.zero_le _, rfl, rfl, Nat.le_refl _, HU.out, Gw.from _ _ HU.out.kept, fun e h => by simp at h⟩
  case round =>
    obtain ⟨k, L, R, c1, hk, rfl, rfl, hLk, hU⟩ := hrel
    have HK := hide hU
    clear hU HU
    by_cases hlt : k < l.length
    · obtain ⟨g1, o1, rfl, hg1, hc⟩ := HP.out (by omega)
      have hF := hide fun W (z : Kept Nil w W) => (hc k hlt).kept hg1 z
      clear hc hg1
      generalize l.getD k e0 = e at *
      have hF3 := hide fun W (z : Kept Nil w W) => show W.cell? ⟨g1, o1 + k * 4, none⟩ = some (.int .i64 e.k) ∧ W.cell? ⟨g1, o1 + k * 4 + 1, none⟩ = some (.int .i64 e.t) ∧ W.cell? ⟨g1, o1 + k * 4 + 2, none⟩ = some (.bool e.r) ∧ W.cell? ⟨g1, o1 + k * 4 + 3, none⟩ = some (.int .i64 e.c) from hF.out W z
      have hL := Nat.le_trans hLk hk
      have C1 := hide (sdoF e HK.out.lock (by rw [sds_len]; have := um_le (t := n); omega))
      have C2 := hide fun W (z : Evs W (.slice R L.length c1) L) => show Calls Try.prog 13 #[.int .i64 n, .slice R L.length c1, .agg #[.int .i64 e.k, .int .i64 e.t, .bool e.r, .int .i64 e.c]] W fun x w' => x = .returned (.int .i64 (sdof (sds (um n) L) e)) ∧ Kept Nil W w' from hrdo_c n z (by omega)
      have HD := hide (And.intro (fun h => smov_err (A := sds (um n) L) (e := e) h) (And.intro (fun h => smov_still (A := sds (um n) L) (e := e) h) (And.intro (fun h => smov_sds (n := um n) (l := L) (e := e) h) (fun h => sdof_in (A := sds (um n) L) (e := e) h))))
      rw [sds_len] at HD
      have HS := hide (ecells_snoc L e)
      have HM := hide (ev_size L e)
      have HI : Hid ((0 ≤ e.t ∧ e.t < (um n : Int)) → ∀ x ∈ L ++ [e], 0 ≤ x.t ∧ x.t < (um n : Int)) := hide (fun h x hx => by
        rcases List.mem_append.1 hx with h1 | h1
        · exact HK.out.are x h1
        · rw [List.mem_singleton] at h1
          rw [h1]
          exact h)
      clear hF
      generalize hek : e.k = ek at *
      generalize het : e.t = et at *
      generalize her : e.r = er at *
      generalize hec : e.c = ec at *
      clear hek het her hec
      obtain ⟨f1, f2, f3, f4⟩ := hF3.out wr HK.out.lock.kept
      go_wp2_with fail
      refine C1.out.mono ?_
      rintro x w2 ⟨rfl, h2, _, h3⟩
      have H2 := hide (And.intro h2 (And.intro (h3 _ _ _ _ HK.out.row) HK.out.are))
      clear h2 h3 f1 f2 f3 f4 C1
      obtain ⟨f1, f2, f3, f4⟩ := hF3.out w2 H2.out.1.kept
      generalize sdof (sds (um n) L) e = d at *
      go_wp2_with fail
      refine (C2.out _ H2.out.2.1.evs).mono ?_
      rintro x w3 ⟨rfl, h3⟩
      have H3 := hide (And.intro (H2.out.1.keep h3) (And.intro (H2.out.2.1.keep h3) H2.out.2.2))
      clear h3 f1 f2 f3 f4 C2 H2
      obtain ⟨f1, f2, f3, f4⟩ := hF3.out w3 H3.out.1.kept
      by_cases h0 : d = 0
      · subst h0
        by_cases hk0 : ek = 0 ∨ ek = 5
        · have HU := hide (Sp.same H3.out.1 (HD.out.2.1 (by omega)) H3.out.2.1 H3.out.2.2)
          clear HD HI HS HM
          rcases hk0 with rfl | rfl
          · go_wp2_with fail
            have hL3 : L.length ≤ 65536 := by omega
            have T1 := hide fun W (z : Sp w W n p g R c1 L) => z.state t
            have T2 := hide fun W (z : Sp w W n p g R c1 L) => z.writer
            have T3 := hide fun W (z : Sp w W n p g R c1 L) => z.rwriter hL3
            have T4 := hide fun W (z : Sp w W n p g R c1 L) => z.readers
            have T5 := hide fun W (z : Sp w W n p g R c1 L) => z.rreaders hL3
            have T6 := hide fun W (z : Sp w W n p g R c1 L) => z.rstate t hL3
            have T7 := hide fun W (z : Sp w W n p g R c1 L) => z.rreads t hL3
            generalize wri (sds (um n) L) = o at *
            generalize rdn (sds (um n) L) = q at *
            generalize st L t = a at *
            generalize rd L t = r at *
            refine (T1.out _ HU.out).mono ?_
            rintro x w5 ⟨rfl, h5⟩
            have H5 := hide h5
            clear h5 T1
            go_wp2_with fail
            refine (T2.out _ H5.out).mono ?_
            rintro x w6 ⟨rfl, h6⟩
            have H6 := hide h6
            clear h6 T2 H5
            go_wp2_with fail
            refine (T3.out _ H6.out).mono ?_
            rintro x w7 ⟨rfl, rfl⟩
            go_wp2_with fail
            refine (T4.out _ H6.out).mono ?_
            rintro x w7 ⟨rfl, h7⟩
            have H7 := hide h7
            clear h7 T3 T4 H6
            go_wp2_with fail
            refine (T5.out _ H7.out).mono ?_
            rintro x w8 ⟨rfl, rfl⟩
            go_wp2_with fail
            refine (T6.out _ H7.out).mono ?_
            rintro x w8 ⟨rfl, rfl⟩
            go_wp2_with fail
            refine (T7.out _ H7.out).mono ?_
            rintro x w8 ⟨rfl, rfl⟩
            go_wp2_with fail
            go_roundw
            case rel => exact ⟨k + 1, L, R, c1, by omega, by go_num, rfl, by omega, H7.out⟩
            case measure => simp [intOf]; omega
          · go_wp2_with fail
            have hL3 : L.length ≤ 65536 := by omega
            have T1 := hide fun W (z : Sp w W n p g R c1 L) => z.state t
            have T2 := hide fun W (z : Sp w W n p g R c1 L) => z.writer
            have T3 := hide fun W (z : Sp w W n p g R c1 L) => z.rwriter hL3
            have T4 := hide fun W (z : Sp w W n p g R c1 L) => z.readers
            have T5 := hide fun W (z : Sp w W n p g R c1 L) => z.rreaders hL3
            have T6 := hide fun W (z : Sp w W n p g R c1 L) => z.rstate t hL3
            have T7 := hide fun W (z : Sp w W n p g R c1 L) => z.rreads t hL3
            generalize wri (sds (um n) L) = o at *
            generalize rdn (sds (um n) L) = q at *
            generalize st L t = a at *
            generalize rd L t = r at *
            refine (T1.out _ HU.out).mono ?_
            rintro x w5 ⟨rfl, h5⟩
            have H5 := hide h5
            clear h5 T1
            go_wp2_with fail
            refine (T2.out _ H5.out).mono ?_
            rintro x w6 ⟨rfl, h6⟩
            have H6 := hide h6
            clear h6 T2 H5
            go_wp2_with fail
            refine (T3.out _ H6.out).mono ?_
            rintro x w7 ⟨rfl, rfl⟩
            go_wp2_with fail
            refine (T4.out _ H6.out).mono ?_
            rintro x w7 ⟨rfl, h7⟩
            have H7 := hide h7
            clear h7 T3 T4 H6
            go_wp2_with fail
            refine (T5.out _ H7.out).mono ?_
            rintro x w8 ⟨rfl, rfl⟩
            go_wp2_with fail
            refine (T6.out _ H7.out).mono ?_
            rintro x w8 ⟨rfl, rfl⟩
            go_wp2_with fail
            refine (T7.out _ H7.out).mono ?_
            rintro x w8 ⟨rfl, rfl⟩
            go_wp2_with fail
            go_roundw
            case rel => exact ⟨k + 1, L, R, c1, by omega, by go_num, rfl, by omega, H7.out⟩
            case measure => simp [intOf]; omega
        · have hin := HD.out.2.2.2 rfl
          have HU : Hid (Sf w w3 p g (sds (um n) (L ++ [e])) ∧ (1 ≤ ek ∧ ek ≤ 4) ∧ ∀ x ∈ L ++ [e], 0 ≤ x.t ∧ x.t < (um n : Int)) := hide ⟨by have := H3.out.1; rw [HD.out.2.2.1 rfl] at this; exact this, by omega, HI.out (by omega)⟩
          have b0 : (ek != 0) = true := by simp; omega
          have b5 : (ek != 5) = true := by simp; omega
          have hm1 : L.length + 1 ≤ maxLen := by simp only [maxLen]; omega
          have hm2 : (L.length + 1) * 32 ≤ 140737488355328 := by omega
          have HMX := hide (And.intro hm1 hm2)
          clear hin hk0 HD HI hm1 hm2
          go_wp2_with (at_builtin; refine wpList_append_own_at _ rfl (.tmp 62) (.tmp 67) _ rfl 0 29 i0 (.agg #[.int .i64 0, .int .i64 0, .bool false, .int .i64 0]) 4 32 Try.underlying22 hi hz0 hz1 hz2 rfl (by decide) (.slice R L.length c1) L.length (ecells L) rfl (H3.out.2.1.row.alloc _) ⟨w3.heap.size, 0, none⟩ 1 1 [.int .i64 ek, .int .i64 et, .bool er, .int .i64 ec] rfl rfl (cell_four_new _ _ _ _ _ _) (by intro u hu; simp at hu; rcases hu with rfl | rfl | rfl | rfl <;> rfl) HMX.out.1 HMX.out.2 (Nat.zero_le _) ?_; intro v' w4 hown' hgrow _ hat; obtain ⟨R2, c2, rfl, hg2⟩ := H3.out.2.1.push ((Kept.refl Nil w3).alloc _) hown' hgrow hat; have HU4 := hide (And.intro ((HU.out.1.keep ((Kept.refl Nil w3).alloc _)).push (H3.out.2.1.keep ((Kept.refl Nil w3).alloc _)) hgrow) hg2); clear hown' hgrow hat hg2)
          have HU : Hid (Sp w w4 n p g R2 c2 (L ++ [e])) := hide ⟨HU4.out.1, by have := HU4.out.2; rw [← HS.out, HM.out] at this; exact this, HU.out.2.2⟩
          rw [HM.out]
          have hL2 : (L ++ [e]).length ≤ k + 1 := by rw [← HM.out]; omega
          clear HU4 HS HM HMX H3 f1 f2 f3 f4 hF3
          generalize L ++ [e] = L2 at *
          have hL3 : L2.length ≤ 65536 := by omega
          have T1 := hide fun W (z : Sp w W n p g R2 c2 L2) => z.state t
          have T2 := hide fun W (z : Sp w W n p g R2 c2 L2) => z.writer
          have T3 := hide fun W (z : Sp w W n p g R2 c2 L2) => z.rwriter hL3
          have T4 := hide fun W (z : Sp w W n p g R2 c2 L2) => z.readers
          have T5 := hide fun W (z : Sp w W n p g R2 c2 L2) => z.rreaders hL3
          have T6 := hide fun W (z : Sp w W n p g R2 c2 L2) => z.rstate t hL3
          have T7 := hide fun W (z : Sp w W n p g R2 c2 L2) => z.rreads t hL3
          generalize wri (sds (um n) L2) = o at *
          generalize rdn (sds (um n) L2) = q at *
          generalize st L2 t = a at *
          generalize rd L2 t = r at *
          refine (T1.out _ HU.out).mono ?_
          rintro x w5 ⟨rfl, h5⟩
          have H5 := hide h5
          clear h5 T1
          go_wp2_with fail
          refine (T2.out _ H5.out).mono ?_
          rintro x w6 ⟨rfl, h6⟩
          have H6 := hide h6
          clear h6 T2 H5
          go_wp2_with fail
          refine (T3.out _ H6.out).mono ?_
          rintro x w7 ⟨rfl, rfl⟩
          go_wp2_with fail
          refine (T4.out _ H6.out).mono ?_
          rintro x w7 ⟨rfl, h7⟩
          have H7 := hide h7
          clear h7 T3 T4 H6
          go_wp2_with fail
          refine (T5.out _ H7.out).mono ?_
          rintro x w8 ⟨rfl, rfl⟩
          go_wp2_with fail
          refine (T6.out _ H7.out).mono ?_
          rintro x w8 ⟨rfl, rfl⟩
          go_wp2_with fail
          refine (T7.out _ H7.out).mono ?_
          rintro x w8 ⟨rfl, rfl⟩
          go_wp2_with fail
          go_roundw
          case rel => exact ⟨k + 1, L2, R2, c2, by omega, by go_num, rfl, by omega, H7.out⟩
          case measure => simp [intOf]; omega
      · have HU := hide (Sp.same H3.out.1 (HD.out.1 h0) H3.out.2.1 H3.out.2.2)
        have hb : (d == 0) = false := by simpa using h0
        clear HD HI HS HM h0
        go_wp2_with fail
        have hL3 : L.length ≤ 65536 := by omega
        have T1 := hide fun W (z : Sp w W n p g R c1 L) => z.state t
        have T2 := hide fun W (z : Sp w W n p g R c1 L) => z.writer
        have T3 := hide fun W (z : Sp w W n p g R c1 L) => z.rwriter hL3
        have T4 := hide fun W (z : Sp w W n p g R c1 L) => z.readers
        have T5 := hide fun W (z : Sp w W n p g R c1 L) => z.rreaders hL3
        have T6 := hide fun W (z : Sp w W n p g R c1 L) => z.rstate t hL3
        have T7 := hide fun W (z : Sp w W n p g R c1 L) => z.rreads t hL3
        generalize wri (sds (um n) L) = o at *
        generalize rdn (sds (um n) L) = q at *
        generalize st L t = a at *
        generalize rd L t = r at *
        refine (T1.out _ HU.out).mono ?_
        rintro x w5 ⟨rfl, h5⟩
        have H5 := hide h5
        clear h5 T1
        go_wp2_with fail
        refine (T2.out _ H5.out).mono ?_
        rintro x w6 ⟨rfl, h6⟩
        have H6 := hide h6
        clear h6 T2 H5
        go_wp2_with fail
        refine (T3.out _ H6.out).mono ?_
        rintro x w7 ⟨rfl, rfl⟩
        go_wp2_with fail
        refine (T4.out _ H6.out).mono ?_
        rintro x w7 ⟨rfl, h7⟩
        have H7 := hide h7
        clear h7 T3 T4 H6
        go_wp2_with fail
        refine (T5.out _ H7.out).mono ?_
        rintro x w8 ⟨rfl, rfl⟩
        go_wp2_with fail
        refine (T6.out _ H7.out).mono ?_
        rintro x w8 ⟨rfl, rfl⟩
        go_wp2_with fail
        refine (T7.out _ H7.out).mono ?_
        rintro x w8 ⟨rfl, rfl⟩
        go_wp2_with fail
        go_roundw
        case rel => exact ⟨k + 1, L, R, c1, by omega, by go_num, rfl, by omega, H7.out⟩
        case measure => simp [intOf]; omega
    · obtain rfl : k = l.length := by omega
      go_wp2_with fail
      refine (CK1.out _ HK.out.lock.kept).mono ?_
      rintro x w5 ⟨rfl, h5⟩
      have K5 := hide (HK.out.keep h5)
      clear h5 CK1 HK
      go_wp2_with fail
      refine (CK2.out _ K5.out.lock.kept).mono ?_
      rintro x w6 ⟨rfl, h6⟩
      have K6 := hide (K5.out.keep h6)
      clear h6 CK2 K5
      have HA := hide (sawake_c w6)
      go_wp2_with fail
      refine HA.out.mono ?_
      rintro x w9 ⟨rfl, h9⟩
      have H9 := hide (K6.out.lock.kept.trans h9 (fun _ _ z => z))
      clear h9
      go_wp2_with fail
      go_ret
      exact ⟨rfl, H9.out⟩
theorem splays_c (n t : Int) (hv : Evs w v l) : Calls Try.prog 6 #[.int .i64 n, v, .int .i64 t] w fun x w' => x = .returned (.bool true) ∧ Kept Nil w w' := by
  rcases Nat.lt_or_ge 60 l.length with h | h
  · exact splays_short n t hv h
  · exact splays_long n t hv h
end
end Go.Proofs.Ytmmncaabeiagaaa
