/- Contract of topo's list. -/
import Derived.Test.YtcpcdfihgabelaaDoorTTxt
import Derived.Test.YtcpcdfihgabelaaDoorDNumbers
import Derived.Test.YtcpcdfihgabelaaDoorLWords
namespace Go.Proofs.YtcpcdfihgabelaaDoor
open Go.RowKit
set_option maxRecDepth 100000

/-- What list comes to. -/
structure Listed (o : Option (List Int)) (w : World) (e : Ending) (w' : World) : Prop where
  kept : Kept Nil w w'
  val : ∃ v, e = .returned (.tuple #[v, .bool o.isSome]) ∧ ∀ P, o = some P → Nums w' v P
theorem strs_pair {w : World} {v : Value} {a b : List UInt8} (h : Strs w v [a, b]) : ∃ g o c, v = .slice (some ⟨g, o, none⟩) 2 c ∧ 2 ≤ c ∧ g < w.heap.size ∧ w.cell? ⟨g, o, none⟩ = some (sv a) ∧ w.cell? ⟨g, o + 1, none⟩ = some (sv b) := by
  obtain ⟨A, c, rfl, hc, hp⟩ := h
  obtain ⟨g, o, rfl, hg, hk⟩ := hp (by simp)
  exact ⟨g, o, c, rfl, hc, hg, hk 0 (by simp), hk 1 (by simp)⟩
theorem two_of {l : List (List UInt8)} (h : l.length = 2) : ∃ a b, l = [a, b] := by
  match l, h with
  | [a, b], _ => exact ⟨a, b, rfl⟩

section
variable {w : World}
set_option maxHeartbeats 1000000
theorem tlist_c (f : List UInt8) (s : ByteArray) (hs : s.size ≤ 4096) (hm : MaxL w) : Calls Tryd.prog 28 #[.string s, .string ⟨f.toArray⟩] w (Listed (pl f s.data.toList) w) := by
  have HM := hide hm
  have hsl := dlen s
  have HW := hide (wds_each 4096 s.data.toList (by rw [hsl]; exact hs))
  have cw := words_c w s (by omega)
  generalize hS : s.data.toList = S at *
  have HS := hide hS
  clear hm hS hsl
  by_cases h2 : (wds S).length = 2
  · obtain ⟨a, x, hax⟩ := two_of h2
    have hx := HW.out x (by rw [hax]; simp)
    rw [hax] at cw
    have HAX := hide hax
    clear hax h2 HW
    by_cases hf : a = f
    · subst hf
      have HE := hide fun h => pl_yes (x := x) HAX.out h
      have HF := hide fun h => pl_err (x := x) HAX.out h
      go_enter Tryd.func28, Tryd.ntmps28
      go_wp2_with fail
      refine cw.mono ?_
      rintro e w1 ⟨v, rfl, hv, hk⟩
      obtain ⟨g, o, c, rfl, hc2, hg, k0, k1⟩ := strs_pair hv
      have cn := numbers_c ⟨x.toArray⟩ w1 (by rw [mk_size]; exact hx) (HM.out.kept hk)
      have H1 := hide hk
      unfold sv at k0 k1
      unfold Numbered at cn
      rw [show (⟨x.toArray⟩ : ByteArray).data.toList = x from rfl] at cn
      clear hk hv
      have he := lerr_cases x
      generalize lerr x = er at *
      generalize lnum x = L at *
      rcases he with rfl | rfl
      · have HP := hide (HE.out rfl)
        clear HE HF
        go_wp2_with fail
        refine cn.mono ?_
        rintro e w2 ⟨v2, rfl, hv2, hk2⟩
        have H2 := hide (And.intro hv2 (H1.out.trans hk2 (fun _ _ z => z)))
        clear hv2 hk2
        go_wp2_with fail
        go_ret2
        exact ⟨H2.out.2, v2, by rw [HP.out]; rfl, fun P hP => by rw [HP.out] at hP; injection hP with hP; rw [← hP]; exact H2.out.1⟩
      · have HP := hide (HF.out (by decide))
        clear HE HF
        go_wp2_with fail
        refine cn.mono ?_
        rintro e w2 ⟨v2, rfl, hv2, hk2⟩
        have H2 := hide (And.intro hv2 (H1.out.trans hk2 (fun _ _ z => z)))
        clear hv2 hk2
        go_wp2_with fail
        go_ret2
        exact ⟨H2.out.2, v2, by rw [HP.out]; rfl, fun P hP => by rw [HP.out] at hP; cases hP⟩
    · have HP := hide (pl_word HAX.out hf)
      have hne : (a == f) = false := by simpa using hf
      go_enter Tryd.func28, Tryd.ntmps28
      go_wp2_with fail
      refine cw.mono ?_
      rintro e w1 ⟨v, rfl, hv, hk⟩
      obtain ⟨g, o, c, rfl, hc2, hg, k0, k1⟩ := strs_pair hv
      have H1 := hide hk
      unfold sv at k0 k1
      clear hk hv
      go_wp2_with fail
      go_ret2
      exact ⟨H1.out, _, by rw [HP.out]; rfl, fun P hP => by rw [HP.out] at hP; cases hP⟩
  · have HP := hide (pl_len (f := f) h2)
    have hne : (((wds S).length : Int) != 2) = true := by simp; omega
    generalize wds S = W at *
    go_enter Tryd.func28, Tryd.ntmps28
    go_wp2_with fail
    refine cw.mono ?_
    rintro e w1 ⟨v, rfl, hv, hk⟩
    obtain ⟨A, c, rfl, _⟩ := hv
    have H1 := hide hk
    clear hk
    go_wp2_with fail
    go_ret2
    exact ⟨H1.out, _, by rw [HP.out]; rfl, fun P hP => by rw [HP.out] at hP; cases hP⟩
end
end Go.Proofs.YtcpcdfihgabelaaDoor
