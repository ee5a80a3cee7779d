/- Contract of topo.Parse. -/
import Derived.Test.YtcpcdfihgabelaaDoorTList
import Derived.Test.YtcpcdfihgabelaaDoorTCheck
import Derived.OwnWalk
import Derived.Laws.ResultCell
namespace Go.Proofs.YtcpcdfihgabelaaDoor
open Go.RowKit
set_option maxRecDepth 100000

/-- What Parse and Even come to: a topology and an error. -/
structure Told (P T : List Int) (x : Int) (w : World) (e : Ending) (w' : World) : Prop where
  kept : Kept Nil w w'
  val : ∃ v, e = .returned (.tuple #[v, .int .i64 x]) ∧ Topo w' v P T
/-- A slice of ints lies beside a box of slices. -/
theorem Nums.beside {w w' : World} {v : Value} {l : List Int} {b : Nat} {t : TypeId} {A1 A2 : Option Addr} {n1 n2 c1 c2 : Nat} (h : Nums w v l) (hi : Is w b t #[.slice A1 n1 c1, .slice A2 n2 c2]) (k : Kept (fun i => i = b) w w') : Nums w' v l := by
  obtain ⟨A, c, e, hp⟩ := h
  refine ⟨A, c, e, fun h0 => ?_⟩
  obtain ⟨g, o, e1, hg, hc⟩ := hp h0
  have hne : ¬ g = b := by
    rintro rfl
    have h1 := hc 0 h0
    rw [hi.cell] at h1
    have : o + 0 = 0 ∨ o + 0 = 1 ∨ 2 ≤ o + 0 := by omega
    rcases this with h2 | h2 | h2
    · rw [h2] at h1
      cases h1
    · rw [h2] at h1
      cases h1
    · rw [Array.getElem?_eq_none (by simpa using h2)] at h1
      cases h1
  exact ⟨g, o, e1, Nat.lt_of_lt_of_le hg k.size, fun j hj => (k.cell (p := ⟨g, o + j, none⟩) hg hne).trans (hc j hj)⟩
theorem Nums.boxed {w : World} {v : Value} {l : List Int} {b : Nat} {t : TypeId} {A1 A2 : Option Addr} {n1 n2 c1 c2 : Nat} (h : Nums w v l) (hi : Is w b t #[.slice A1 n1 c1, .slice A2 n2 c2]) (x y : Value) : Nums ((w.setCell ⟨b, 0, none⟩ x).setCell ⟨b, 1, none⟩ y) v l :=
  h.beside hi (((Kept.refl (fun i => i = b) w).set (p := ⟨b, 0, none⟩) (fun _ => rfl) x).set (p := ⟨b, 1, none⟩) (fun _ => rfl) y)
theorem topo_none (w : World) : Topo w (.agg #[.slice none 0 0, .slice none 0 0]) [] [] := ⟨_, _, rfl, Nums.nil _ _ _, Nums.nil _ _ _⟩
theorem told_some {P T P1 T1 : List Int} {x : Int} {w w6 : World} {o : List Int × List Int × Int} {va vb : Value} (h : o = (P, T, x)) (h2 : o = (P1, T1, 0)) (k : Kept Nil w w6) (ha : Nums w6 va P1) (hb : Nums w6 vb T1) : Told P T x w (.returned (.tuple #[.agg #[va, vb], .int .i64 0])) w6 := by
  rw [h2] at h
  injection h with e1 e2
  injection e2 with e2 e3
  subst e1 e2 e3
  exact ⟨k, _, rfl, va, vb, rfl, ha, hb⟩
theorem Told.none {P T : List Int} {x y : Int} {w w' : World} {o : List Int × List Int × Int} (h : o = (P, T, x)) (h2 : o = ([], [], y)) (k : Kept Nil w w') : Told P T x w (.returned (.tuple #[.agg #[.slice none 0 0, .slice none 0 0], .int .i64 y])) w' := by
  rw [h2] at h
  injection h with e1 e2
  injection e2 with e2 e3
  subst e1 e2 e3
  exact ⟨k, _, rfl, topo_none _⟩

/-- A named result that is a topology in a box, and an error. -/
theorem results_topo {fn : Func} {p u : Tmp} {w : World} {b : Nat} {va vb : Value} {x : Int} (h : fn.results = #[.cell p 24, .tmp u]) (tmps : Array Value) (hp : tmps.getD p undef = .pointer (some ⟨b, 0, none⟩)) (hu : tmps.getD u undef = .int .i64 x)
    (h0 : w.cell? ⟨b, 0, none⟩ = some va) (h1 : w.cell? ⟨b, 1, none⟩ = some vb) : (results fn tmps).run Tryd.prog w = .ok (.tuple #[.agg #[va, vb], .int .i64 x]) w := by
  rw [results_cell_tmp h, hp, hu]
  go_simp
section
variable {w : World}
set_option maxHeartbeats 1000000
theorem parse2_c {P T : List Int} {er : Int} (s : ByteArray) (ho : prs s.data.toList = (P, T, er)) (hs : s.size ≤ 4096) (hm : MaxL w) : Calls Tryd.prog 10 #[.string s] w (Told P T er w) := by
  have HO := hide ho
  have HM := hide hm
  have hsl := dlen s
  have HW := hide (lns_each 4096 s.data.toList (by rw [hsl]; exact hs))
  have hz : s.size ≤ 65536 := by omega
  have hi0 := Is.new w 24 #[.slice none 0 0, .slice none 0 0]
  have hk0 := (Kept.refl Nil w).alloc (.cells #[.slice none 0 0, .slice none 0 0] 24)
  obtain ⟨w0, hw0⟩ : ∃ w0, w.alloc (.cells #[.slice none 0 0, .slice none 0 0] 24) = w0 := ⟨_, rfl⟩
  rw [hw0] at hi0 hk0
  have H0 := hide (And.intro hi0 hk0)
  have cw := lines_c w0 s hz
  generalize hS : s.data.toList = S at *
  clear hm ho hS hsl hi0 hk0
  generalize hb : w.heap.size = b at *
  by_cases h2 : (lns S).length = 2
  · obtain ⟨a, x, hax⟩ := two_of h2
    have ha := HW.out a (by rw [hax]; simp)
    have hx := HW.out x (by rw [hax]; simp)
    rw [hax] at cw
    have HAX := hide hax
    clear hax h2 HW
    have cn := fun W hW => tlist_c (w := W) wNodes ⟨a.toArray⟩ (by rw [mk_size]; exact ha) hW
    have ct := fun W hW => tlist_c (w := W) wThreads ⟨x.toArray⟩ (by rw [mk_size]; exact hx) hW
    have cn2 : ∀ W, MaxL W → Calls Tryd.prog 28 #[.string ⟨a.toArray⟩, .string ⟨#[110, 111, 100, 101, 115]⟩] W (Listed (pl wNodes a) W) := cn
    have ct2 : ∀ W, MaxL W → Calls Tryd.prog 28 #[.string ⟨x.toArray⟩, .string ⟨#[116, 104, 114, 101, 97, 100, 115]⟩] W (Listed (pl wThreads x) W) := ct
    clear cn ct
    go_enter Tryd.func10, Tryd.ntmps10
    go_wp2_with fail
    refine cw.mono ?_
    rintro e w1 ⟨v, rfl, hv, hk⟩
    obtain ⟨g, o, c, rfl, hc2, hg, k0, k1⟩ := strs_pair hv
    have H1 := hide (And.intro (H0.out.1.kept hk (fun z => z)) (H0.out.2.trans hk (fun _ _ z => z)))
    unfold sv at k0 k1
    have K1 := hide k1
    clear hk hv
    go_wp2_with fail
    refine (cn2 w1 (HM.out.kept H1.out.2)).mono ?_
    rintro e w2 ⟨hk2, v2, rfl, hv2⟩
    have H2 := hide (And.intro (H1.out.1.kept hk2 (fun z => z)) (And.intro (H1.out.2.trans hk2 (fun _ _ z => z)) hv2))
    have k2 := (hk2.cell (p := ⟨g, o + 1, none⟩) hg (fun z => z)).trans K1.out
    clear hk2 hv2 k0 k1
    go_wp2_with fail
    refine (ct2 w2 (HM.out.kept H2.out.2.1)).mono ?_
    rintro e w3 ⟨hk3, v3, rfl, hv3⟩
    have H3 := hide (And.intro (H2.out.1.kept hk3 (fun z => z)) (And.intro (H2.out.2.1.trans hk3 (fun _ _ z => z)) (And.intro (fun P h => (H2.out.2.2 P h).kept hk3) hv3)))
    clear hk3 hv3
    cases hn : pl wNodes a with
    | none =>
      have HN := hide (prs_nodes HAX.out hn)
      clear hn
      have u0 := H3.out.1.cell 0
      have u1 := H3.out.1.cell 1
      have u2 := H3.out.1.free 0
      have u3 := H3.out.1.free 1
      go_wp2_with fail
      have hi4 := (H3.out.1.set 0 (.slice none 0 0)).set 1 (.slice none 0 0)
      have hk4 := (H3.out.2.1.set (p := ⟨b, 0, none⟩) (fun h => absurd h (by show ¬ b < w.heap.size; omega)) (.slice none 0 0)).set (p := ⟨b, 1, none⟩) (fun h => absurd h (by show ¬ b < w.heap.size; omega)) (.slice none 0 0)
      exact bodyPost_ret (results_topo rfl _ rfl rfl (hi4.cell 0) (hi4.cell 1)) rfl (Told.none HO.out HN.out hk4)
    | some P1 =>
      cases ht : pl wThreads x with
      | none =>
        have HN := hide (prs_threads HAX.out ht)
        clear hn ht
        have u0 := H3.out.1.cell 0
        have u1 := H3.out.1.cell 1
        have u2 := H3.out.1.free 0
        have u3 := H3.out.1.free 1
        go_wp2_with fail
        have hi4 := (H3.out.1.set 0 (.slice none 0 0)).set 1 (.slice none 0 0)
        have hk4 := (H3.out.2.1.set (p := ⟨b, 0, none⟩) (fun h => absurd h (by show ¬ b < w.heap.size; omega)) (.slice none 0 0)).set (p := ⟨b, 1, none⟩) (fun h => absurd h (by show ¬ b < w.heap.size; omega)) (.slice none 0 0)
        exact bodyPost_ret (results_topo rfl _ rfl rfl (hi4.cell 0) (hi4.cell 1)) rfl (Told.none HO.out HN.out hk4)
      | some T1 =>
        have n1 := H3.out.2.2.1 P1 hn
        have n2 := H3.out.2.2.2 T1 ht
        have N1 := hide n1
        have N2 := hide n2
        obtain ⟨A1, c1, rfl, _⟩ := n1
        obtain ⟨A2, c2, rfl, _⟩ := n2
        have HB := hide fun h => prs_bad HAX.out hn ht h
        have HY := hide fun h => prs_ok HAX.out hn ht h
        clear hn ht
        obtain ⟨w4, hw4⟩ : ∃ w4, w3.alloc (.cells #[.slice A1 P1.length c1, .slice A2 T1.length c2] 24) = w4 := ⟨_, rfl⟩
        have hi4 : Is w4 w3.heap.size 24 #[.slice A1 P1.length c1, .slice A2 T1.length c2] := by rw [← hw4]; exact Is.new w3 _ _
        have hk4 : Kept Nil w3 w4 := by rw [← hw4]; exact (Kept.refl _ w3).alloc _
        have H4 := hide (And.intro hi4 (And.intro hk4 (And.intro (N1.out.kept hk4) (N2.out.kept hk4))))
        have cc := tcheck_c (w := w4) (v := .agg #[.slice A1 P1.length c1, .slice A2 T1.length c2]) ⟨_, _, rfl, H4.out.2.2.1, H4.out.2.2.2⟩
        obtain ⟨u4, u5⟩ := load_pair hi4
        clear hi4 hk4
        generalize hb2 : w3.heap.size = b2 at *
        go_wp2_with fail
        refine cc.mono ?_
        rintro e w5 ⟨rfl, hk5⟩
        have H5 := hide (And.intro ((H3.out.1.kept H4.out.2.1 (fun z => z)).kept hk5 (fun z => z)) (And.intro (H4.out.1.kept hk5 (fun z => z)) (And.intro ((H3.out.2.1.trans H4.out.2.1 (fun _ _ z => z)).trans hk5 (fun _ _ z => z)) (And.intro (H4.out.2.2.1.kept hk5) (H4.out.2.2.2.kept hk5)))))
        clear hk5 cc
        have u0 := H5.out.1.cell 0
        have u1 := H5.out.1.cell 1
        have u2 := H5.out.1.free 0
        have u3 := H5.out.1.free 1
        by_cases hc : chk P1 T1 = 0
        · have HN := hide (HY.out hc)
          rw [hc]
          obtain ⟨u6, u7⟩ := load_pair H5.out.2.1
          clear hc HY HB
          go_wp2_with fail
          have hi6 := (H5.out.1.set 0 (.slice A1 P1.length c1)).set 1 (.slice A2 T1.length c2)
          have hk6 := (H5.out.2.2.1.set (p := ⟨b, 0, none⟩) (fun h => absurd h (by show ¬ b < w.heap.size; omega)) (.slice A1 P1.length c1)).set (p := ⟨b, 1, none⟩) (fun h => absurd h (by show ¬ b < w.heap.size; omega)) (.slice A2 T1.length c2)
          refine bodyPost_ret (results_topo rfl _ rfl rfl (hi6.cell 0) (hi6.cell 1)) rfl ?_
          exact told_some HO.out HN.out hk6 (H5.out.2.2.2.1.boxed H5.out.1 _ _) (H5.out.2.2.2.2.boxed H5.out.1 _ _)
        · have HN := hide (HB.out hc)
          have hne : (chk P1 T1 != 0) = true := by simpa using hc
          generalize chk P1 T1 = z at *
          clear hc HY HB
          go_wp2_with fail
          have hi6 := (H5.out.1.set 0 (.slice none 0 0)).set 1 (.slice none 0 0)
          have hk6 := (H5.out.2.2.1.set (p := ⟨b, 0, none⟩) (fun h => absurd h (by show ¬ b < w.heap.size; omega)) (.slice none 0 0)).set (p := ⟨b, 1, none⟩) (fun h => absurd h (by show ¬ b < w.heap.size; omega)) (.slice none 0 0)
          exact bodyPost_ret (results_topo rfl _ rfl rfl (hi6.cell 0) (hi6.cell 1)) rfl (Told.none HO.out HN.out hk6)
  · have HN := hide (prs_len h2)
    have hne : (((lns S).length : Int) != 2) = true := by simp; omega
    generalize lns S = W at *
    clear h2
    go_enter Tryd.func10, Tryd.ntmps10
    go_wp2_with fail
    refine cw.mono ?_
    rintro e w3 ⟨v, rfl, hv, hk⟩
    obtain ⟨A, c, rfl, _⟩ := hv
    have H3 := hide (And.intro (H0.out.1.kept hk (fun z => z)) (H0.out.2.trans hk (fun _ _ z => z)))
    clear hk
    have u0 := H3.out.1.cell 0
    have u1 := H3.out.1.cell 1
    have u2 := H3.out.1.free 0
    have u3 := H3.out.1.free 1
    go_wp2_with fail
    have hi4 := (H3.out.1.set 0 (.slice none 0 0)).set 1 (.slice none 0 0)
    have hk4 := (H3.out.2.set (p := ⟨b, 0, none⟩) (fun h => absurd h (by show ¬ b < w.heap.size; omega)) (.slice none 0 0)).set (p := ⟨b, 1, none⟩) (fun h => absurd h (by show ¬ b < w.heap.size; omega)) (.slice none 0 0)
    exact bodyPost_ret (results_topo rfl _ rfl rfl (hi4.cell 0) (hi4.cell 1)) rfl (Told.none HO.out HN.out hk4)
end
end Go.Proofs.YtcpcdfihgabelaaDoor
