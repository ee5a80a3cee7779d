/- up, Up, Far, Meet. -/
import Derived.Test.YtepajkakpkndmaaPNew
namespace Go.Proofs.Ytepajkakpkndmaa
open Go.RowKit
set_option maxRecDepth 100000

section
variable {w w' : World} {v : Value} {P T L : List Int}
theorem Cells.slice6 {b : Nat} {A0 A1 A2 : Option Addr} {c0 c1 c2 : Nat} {d : Int} {x6 : Value} (h : Cells w b A0 A1 A2 c0 c1 c2 d x6 P T L) : ∃ A6 n6 c6, x6 = .slice A6 n6 c6 := by
  rcases h.up with ⟨_, e⟩ | ⟨_, vs, hr, _⟩
  · exact ⟨none, 0, 0, e⟩
  · obtain ⟨A, c, e, _⟩ := hr.form
    exact ⟨A, _, c, e⟩
/-- A slice of ints lies beside the table. -/
theorem PTab.apart {u : Value} {l : List Int} (h : PTab w v P T L) (hu : Nums w u l) (k : Kept (Mine v) w w') : Nums w' u l := by
  rcases h with ⟨rfl, _⟩ | ⟨b, rfl, A0, A1, A2, c0, c1, c2, d, x6, h⟩
  · exact hu.kept (k.more fun i _ e => by cases e)
  · obtain ⟨A6, n6, c6, rfl⟩ := h.slice6
    exact hu.apart h.is_ (tcells_noInt _ _ _ _ _ _ _ _ _ _ _ _ _ _) (k.more fun i _ e => by
      unfold Mine at e
      injection e with e
      injection e with e
      injection e with e
      exact e.symm)
/-- What is found lies there. -/
theorem Lists.at {v6 : Value} {LL : List (List Int)} {k : Nat} (h : Lists w v6 LL) (hk : k < LL.length) : ∃ g n c A5 n5 c5, v6 = .slice (some ⟨g, 0, none⟩) n c ∧ k < n ∧ w.cell? ⟨g, k, none⟩ = some (.slice A5 n5 c5) ∧ Nums w (.slice A5 n5 c5) (LL.getD k []) := by
  obtain ⟨vs, hr, hl, he⟩ := h
  obtain ⟨A, c, rfl, _⟩ := hr.form
  obtain ⟨g, rfl, hc⟩ := hr.cell (k := k) (by omega)
  have hn := (he k hk).nums
  obtain ⟨A5, c5, e5, _⟩ := id hn
  refine ⟨g, _, c, A5, (LL.getD k []).length, c5, rfl, by omega, by rw [hc, e5], by rw [← e5]; exact hn⟩
set_option maxHeartbeats 2000000
/-- What Do leaves. -/
theorem do_c {b : Nat} (h : Tab w b P T L) (h0 : 0 < T.length) : Calls Try.prog 48 #[.pointer (some ⟨b, 3, none⟩), .func (.func 49) #[.pointer (some ⟨b, 0, none⟩)] #[]] w fun e w' =>
    e = .returned (.tuple #[]) ∧ (∃ A0 A1 A2 c0 c1 c2 x6, Cells w' b A0 A1 A2 c0 c1 c2 1 x6 P T L ∧ Lists w' x6 (T.map fun x => ups P x.toNat)) ∧ Kept (fun i => i = b) w w' := by
  obtain ⟨A0, A1, A2, c0, c1, c2, d, x6, h⟩ := h
  have hz : chk P T = 0 ∧ L = lf P := by
    rcases h.okay with ⟨_, rfl, _⟩ | h
    · exact absurd h0 (by decide)
    · exact h
  have hz2 := chk_zero hz.1
  rcases h.up with ⟨rfl, rfl⟩ | ⟨rfl, hl⟩
  · have hF : Fills w b 3 50 (tcells (.slice A0 P.length c0) (.slice A1 T.length c1) (.slice A2 L.length c2) 0 0 (.slice none 0 0)) 49 #[.pointer (some ⟨b, 0, none⟩)]
        (fun W cs => ∃ v6, cs = tcells (.slice A0 P.length c0) (.slice A1 T.length c1) (.slice A2 L.length c2) 0 1 v6 ∧ Lists W v6 (T.map fun x => ups P x.toNat)) := fun W hi hk =>
      (above_c (w := W) (P := P) (T := T) hi (h.n0.apart h.is_ (tcells_noInt _ _ _ _ _ _ _ _ _ _ _ _ _ _) hk) (h.n1.apart h.is_ (tcells_noInt _ _ _ _ _ _ _ _ _ _ _ _ _ _) hk) hz2.2.1 (fun x hx => by have := mem_lf.1 (hz2.2.2.2 x hx); exact ⟨this.1, this.2.1⟩) (by omega) (by omega)).mono
        fun e w' ⟨h1, v6, h2, h3, h4⟩ => ⟨h1, _, h2, rfl, rfl, h4, v6, rfl, h3⟩
    refine (do_first (fun _ => by rfl) h.is_ rfl rfl hF).mono ?_
    rintro e w' ⟨h1, W, cs, hi, h2, h3, hk, ⟨v6, rfl, hl⟩, rfl⟩
    obtain ⟨A6, n6, c6, e6⟩ : ∃ A6 n6 c6, v6 = .slice A6 n6 c6 := by
      obtain ⟨vs, hr, _⟩ := id hl
      obtain ⟨A, c, e, _⟩ := hr.form
      exact ⟨A, _, c, e⟩
    subst e6
    have hs := ((Kept.refl (fun i => i = b) W).drew.set (p := ⟨b, 3, none⟩) (fun _ => rfl) (.int .u32 1)).set (p := ⟨b, 4, none⟩) (fun _ => rfl) (.int .i32 0)
    have hi2 := (hi.drew.set 3 (.int .u32 1)).set 4 (.int .i32 0)
    have hall := hk.trans hs (fun _ _ z => z)
    have hl2 := hl.apart hi (by decide) (by decide) hs
    exact ⟨h1, ⟨A0, A1, A2, c0, c1, c2, _, ⟨hi2, h.n0.apart h.is_ (tcells_noInt _ _ _ _ _ _ _ _ _ _ _ _ _ _) hall, h.n1.apart h.is_ (tcells_noInt _ _ _ _ _ _ _ _ _ _ _ _ _ _) hall, h.n2.apart h.is_ (tcells_noInt _ _ _ _ _ _ _ _ _ _ _ _ _ _) hall, h.okay, h.cap, .inr ⟨rfl, hl2⟩⟩, hl2⟩, hall⟩
  · refine (do_done (o := 3) h.is_ rfl _).mono ?_
    rintro e w' ⟨h1, rfl⟩
    exact ⟨h1, ⟨A0, A1, A2, c0, c1, c2, x6, h, hl⟩, Kept.refl _ _⟩
/-- up. -/
theorem up_c {U : List Int} (a : Int) (hU : upT P T a = U) (h : PTab w v P T L) : Calls Try.prog 36 #[v, .int .i64 a] w fun e w' => ∃ A c, e = .returned (.slice A U.length c) ∧ Nums w' (.slice A U.length c) U ∧ PTab w' v P T L ∧ Kept (Mine v) w w' := by
  by_cases ha : 0 ≤ a ∧ a < T.length
  · obtain ⟨k, rfl⟩ : ∃ k : Nat, a = k := ⟨a.toNat, by omega⟩
    have hk : k < T.length := by omega
    have ch := has_yes h hk
    obtain ⟨⟨b, rfl, ht⟩, -⟩ := h.some (by omega)
    have cd := do_c ht (by omega)
    have HU : Hid (U = ups P (T.getD k 0).toNat) := hide (by rw [← hU, upT_yes hk])
    have HK := hide hk
    clear ha ht h hU hk
    go_enter Try.func36, Try.ntmps36
    go_wp2_with fail
    refine ch.mono ?_
    rintro e w' ⟨rfl, rfl⟩
    go_wp2_with fail
    refine cd.mono ?_
    rintro e w2 ⟨rfl, ⟨A0, A1, A2, c0, c1, c2, x6, hc, hl⟩, hk2⟩
    obtain ⟨g, n, c, A5, n5, c5, rfl, hkn, hcell, hn5⟩ := hl.at (k := k) (by rw [List.length_map]; exact HK.out)
    have hn6 : Nums w2 (.slice A5 n5 c5) U := by
      rw [HU.out]
      have he : (T.map fun x => ups P x.toNat).getD k [] = ups P (T.getD k 0).toNat := by have := HK.out; simp [List.getD, this]
      rw [← he]
      exact hn5
    obtain ⟨A', c', e5, -⟩ := id hn6
    injection e5 with e1 e2 e3
    subst e1 e2 e3
    have HN := hide (And.intro hn6 (And.intro hc hk2))
    have q6 := hc.at6
    have hkn2 : (k : Int) < (n : Int) := by omega
    clear hn5 hn6 hc hl hk2
    go_wp2_with fail
    go_ret
    exact ⟨_, _, rfl, HN.out.1, .inr ⟨b, rfl, _, _, _, _, _, _, _, _, HN.out.2.1⟩, HN.out.2.2.more fun i _ e => by rw [e]; rfl⟩
  · have ch := has_no h ha
    have HU : Hid (U = []) := hide (by rw [← hU, upT_no ha])
    have HH := hide h
    clear ha h hU
    go_enter Try.func36, Try.ntmps36
    go_wp2_with fail
    refine ch.mono ?_
    rintro e w' ⟨rfl, rfl⟩
    go_wp2_with fail
    go_ret
    exact ⟨none, 0, by rw [HU.out]; rfl, by rw [HU.out]; exact Nums.nil _ _ _, HH.out, Kept.refl _ _⟩
theorem ups_small {a : Int} (h : Okay P T L) : (upT P T a).length ≤ 32 := by
  unfold upT
  split
  · next ha =>
    rcases h with ⟨_, rfl, _⟩ | ⟨h, _⟩
    · simp at ha
      omega
    · have hz := chk_zero h
      have hm := mem_lf.1 (hz.2.2.2 _ (getD_in (l := T) (k := a.toNat) (by omega)))
      rw [ups_len]
      have := (dn_pos hz.2.1 (v := (T.getD a.toNat 0).toNat) (by omega)).2.2
      omega
  · exact Nat.zero_le _
/-- Up. -/
theorem Up_c {U : List Int} (a : Int) (hU : upT P T a = U) (h : PTab w v P T L) : Calls Try.prog 17 #[v, .int .i64 a] w fun e w' => ∃ A c, e = .returned (.slice A U.length c) ∧ Nums w' (.slice A U.length c) U ∧ PTab w' v P T L ∧ Kept (Mine v) w w' := by
  have cu := up_c a hU h
  have hs := ups_small (a := a) h.okay
  rw [hU] at hs
  clear h hU
  go_enter Try.func17, Try.ntmps17
  go_wp2_with fail
  refine cu.mono ?_
  rintro e w1 ⟨A, c, rfl, hn, ht, hk⟩
  have H1 := hide (And.intro ht hk)
  have cc := sclone_c hn (by omega)
  clear hn ht hk
  go_wp2_with fail
  refine cc.mono ?_
  rintro e w2 ⟨A2, c2, rfl, -, hn, hk⟩
  have H2 := hide (And.intro hn (And.intro (H1.out.1.keep hk) (H1.out.2.trans hk (fun _ _ z => z.elim))))
  clear hn hk
  go_wp2_with fail
  go_ret
  exact ⟨A2, c2, rfl, H2.out⟩
theorem PTab.lt (h : PTab w v P T L) {g : Nat} (hg : Mine v g) : g < w.heap.size := by
  rcases h with ⟨rfl, _⟩ | ⟨b, rfl, A0, A1, A2, c0, c1, c2, d, x6, h⟩
  · cases hg
  · unfold Mine at hg
    injection hg with hg
    injection hg with hg
    injection hg with hg
    rw [← hg]
    exact h.is_.lt
theorem clo_c {bx : Nat} {A : Option Addr} {n c : Nat} {l : List Int} (x : Int) (hc : w.cell? ⟨bx, 0, none⟩ = some (.slice A n c)) (hn : Nums w (.slice A n c) l) (hl : l.length ≤ 65536) :
    Calls Try.prog 38 #[.int .i64 x, .pointer (some ⟨bx, 0, none⟩)] w fun e w' => e = .returned (.bool (l.contains x)) ∧ Kept Nil w w' := by
  have cc := hide (contains_c (b := l.contains x) x rfl hn hl)
  clear hn
  generalize l.contains x = y at *
  go_enter Try.func38, Try.ntmps38
  go_wp2_with fail
  refine cc.out.mono ?_
  rintro e w' ⟨rfl, rfl⟩
  go_wp2_with fail
  go_ret
  exact ⟨rfl, Kept.refl _ _⟩
/-- Far. -/
theorem far_c {m : Int} (a b : Int) (hm : farT P T a b = m) (h : PTab w v P T L) : Calls Try.prog 15 #[v, .int .i64 a, .int .i64 b] w fun e w' => e = .returned (.int .i64 m) ∧ PTab w' v P T L ∧ Kept (Mine v) w w' := by
  have hs := hide (And.intro (ups_small (a := a) h.okay) (ups_small (a := b) h.okay))
  have HM : Hid (fidx (fun x => (upT P T b).contains x) (upT P T a) = m) := hide hm
  obtain ⟨UA, hUA⟩ : ∃ U, upT P T a = U := ⟨_, rfl⟩
  obtain ⟨UB, hUB⟩ : ∃ U, upT P T b = U := ⟨_, rfl⟩
  have cb := up_c b hUB h
  have HA := hide hUA
  rw [hUA, hUB] at hs HM
  clear h hm hUA hUB
  go_enter Try.func15, Try.ntmps15
  go_wp2_with fail
  refine cb.mono ?_
  rintro e w1 ⟨A1, c1, rfl, hn1, ht1, hk1⟩
  obtain ⟨w2, hw2⟩ : ∃ w2, w1.alloc (.cells #[.slice A1 UB.length c1] 22) = w2 := ⟨_, rfl⟩
  have hka : Kept Nil w1 w2 := by rw [← hw2]; exact (Kept.refl _ _).alloc _
  have hbx : Is w2 w1.heap.size 22 #[.slice A1 UB.length c1] := by rw [← hw2]; exact Is.new _ _ _
  have hnm : ¬ Mine v w1.heap.size := fun z => absurd (ht1.lt z) (Nat.lt_irrefl _)
  have H2 := hide (And.intro (hn1.kept hka) (And.intro (ht1.keep hka) (And.intro (hk1.trans hka (fun _ _ z => z.elim)) (And.intro hbx hnm))))
  have ca := up_c a HA.out H2.out.2.1
  clear hn1 ht1 hk1 hka hbx hnm cb
  go_wp2_with fail
  refine ca.mono ?_
  rintro e w3 ⟨A3, c3, rfl, hn3, ht3, hk3⟩
  have H3 := hide (And.intro ht3 (And.intro (H2.out.2.2.1.trans hk3 (fun _ _ z => z)) (And.intro (H2.out.2.1.apart H2.out.1 hk3) (H2.out.2.2.2.1.kept hk3 H2.out.2.2.2.2))))
  have cf := placefunc_c (N := 38) (cap := #[.pointer (some ⟨w1.heap.size, 0, none⟩)]) (fun _ _ => by rfl) HM.out hn3 (by have := hs.out; omega) (fun W k x _ => by
    have h1 := clo_c (w := W) (bx := w1.heap.size) x ((H3.out.2.2.2.kept k (fun z => z)).cell 0) (H3.out.2.2.1.kept k) (by have := hs.out; omega)
    exact h1)
  clear hn3 ht3 hk3 ca
  go_wp2_with fail
  refine cf.mono ?_
  rintro e w4 ⟨rfl, hk4⟩
  have H4 := hide (And.intro (H3.out.1.keep hk4) (H3.out.2.1.trans hk4 (fun _ _ z => z.elim)))
  clear hk4 cf
  go_wp2_with fail
  go_ret
  exact ⟨rfl, H4.out⟩
/-- Meet. -/
theorem meet_c {m : Int} (a b : Int) (hm : meetT P T a b = m) (h : PTab w v P T L) : Calls Try.prog 16 #[v, .int .i64 a, .int .i64 b] w fun e w' => e = .returned (.int .i64 m) ∧ PTab w' v P T L ∧ Kept (Mine v) w w' := by
  have HM := hide hm
  have cf := far_c a b rfl h
  have hbd := fidx_bound (fun x => (upT P T b).contains x) (upT P T a)
  rw [show fidx (fun x => (upT P T b).contains x) (upT P T a) = farT P T a b from rfl] at hbd
  rcases hbd with hf | ⟨i, hf, hi, -⟩
  · have HR : Hid (m = -1) := hide (by rw [← HM.out]; unfold meetT; rw [if_pos hf])
    rw [hf] at cf
    clear h hf hm
    go_enter Try.func16, Try.ntmps16
    go_wp2_with fail
    refine cf.mono ?_
    rintro e w1 ⟨rfl, h1⟩
    have H1 := hide h1
    clear h1
    go_wp2_with fail
    go_ret
    exact ⟨by rw [HR.out]; rfl, H1.out⟩
  · obtain ⟨U, hU⟩ : ∃ U, upT P T a = U := ⟨_, rfl⟩
    have HU := hide hU
    have HR : Hid (m = U.getD i 0) := hide (by rw [← HM.out]; unfold meetT; rw [if_neg (by omega), hf, hU, Int.toNat_natCast])
    rw [hU] at hi
    rw [hf] at cf
    have hne : ((i : Int) == -1) = false := by simp
    clear h hf hm hU
    go_enter Try.func16, Try.ntmps16
    go_wp2_with fail
    refine cf.mono ?_
    rintro e w1 ⟨rfl, ht1, hk1⟩
    have H1 := hide (And.intro ht1 hk1)
    have cu := up_c a HU.out ht1
    clear ht1 hk1 cf
    go_wp2_with fail
    refine cu.mono ?_
    rintro e w2 ⟨A2, c2, rfl, hn2, ht2, hk2⟩
    have H2 := hide (And.intro ht2 (H1.out.2.trans hk2 (fun _ _ z => z)))
    obtain ⟨A', c', e2, p⟩ := hn2
    injection e2 with e1 _ e3
    subst e1 e3
    obtain ⟨g, o, rfl, hg, hc⟩ := p (by omega)
    have q := hc i hi
    rw [← HR.out] at q
    have hi2 : (i : Int) < (U.length : Int) := by omega
    clear ht2 hk2 p hc cu
    go_wp2_with fail
    go_ret
    exact ⟨rfl, H2.out⟩
end
end Go.Proofs.Ytepajkakpkndmaa
