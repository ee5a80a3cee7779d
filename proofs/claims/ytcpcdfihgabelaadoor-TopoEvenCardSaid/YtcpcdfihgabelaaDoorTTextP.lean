/- Contract of Text. -/
import Derived.Test.YtcpcdfihgabelaaDoorTText
import Derived.Test.YtcpcdfihgabelaaDoorTRMore
import Derived.Test.YtcpcdfihgabelaaDoorDLists
import Derived.Test.YtcpcdfihgabelaaDoorLBuild
namespace Go.Proofs.YtcpcdfihgabelaaDoor
open Go.RowKit
set_option maxRecDepth 100000

section
variable {w : World} {v : Value} {P T : List Int}
set_option maxHeartbeats 1000000
theorem ttext_c {s : List UInt8} (hs : (if chk P T = 0 then ttxt P T else []) = s) (hv : Topo w v P T) (hP : ∀ n ∈ P, InR n) (hT : ∀ n ∈ T, InR n) : Calls Tryd.prog 9 #[v] w fun e w' => e = .returned (.string ⟨s.toArray⟩) ∧ Kept Nil w w' := by
  have HS := hide hs
  clear hs
  have HR := hide (And.intro hP hT)
  clear hP hT
  obtain ⟨va, vb, rfl, ha, hb⟩ := hv
  obtain ⟨w0, hw0⟩ : ∃ w0, w.alloc (.cells #[va, vb] 24) = w0 := ⟨_, rfl⟩
  have hi0 : Is w0 w.heap.size 24 #[va, vb] := by rw [← hw0]; exact Is.new w _ _
  have hk0 : Kept Nil w w0 := by rw [← hw0]; exact (Kept.refl _ w).alloc _
  have H0 := hide (And.intro hi0 (And.intro hk0 (And.intro (ha.kept hk0) (hb.kept hk0))))
  have cc := tcheck_c (w := w0) (v := .agg #[va, vb]) ⟨va, vb, rfl, H0.out.2.2.1, H0.out.2.2.2⟩
  obtain ⟨q2, q3⟩ := load_pair hi0
  clear hi0 hk0 ha hb
  go_enter Tryd.func9, Tryd.ntmps9
  go_wp2_with fail
  refine cc.mono ?_
  rintro e w1 ⟨rfl, hk1⟩
  have H1 := hide (And.intro (H0.out.1.kept hk1 (fun z => z)) (And.intro (H0.out.2.1.trans hk1 (fun _ _ z => z)) (And.intro (H0.out.2.2.1.kept hk1) (H0.out.2.2.2.kept hk1))))
  clear hk1 cc
  by_cases h0 : chk P T = 0
  · have hlen := (chk_zero h0).1
    have HM : Hid (s = ttxt P T) := hide (by rw [← HS.out, if_pos h0])
    have z1 := ltxt_small (l := P) (by omega) HR.out.1
    have z2 := ltxt_small (l := T) (by omega) HR.out.2
    have tP : Tells w1 va (ltxt P) := .mk fun W k => (list_c W (H1.out.2.2.1.kept k) (by omega) HR.out.1).mono (fun e w' ⟨h1, h2⟩ => ⟨h1, k.trans h2 (fun _ _ z => z)⟩)
    have tT : Tells w1 vb (ltxt T) := .mk fun W k => (list_c W (H1.out.2.2.2.kept k) (by omega) HR.out.2).mono (fun e w' ⟨h1, h2⟩ => ⟨h1, k.trans h2 (fun _ _ z => z)⟩)
    have cL := hide fun (x : Value) (t : List UInt8) (h : Tells w1 x t) (W : World) (k : Kept Nil w1 W) => h.out W k
    have cX := hide fun (W : World) (k : Kept Nil w1 W) => show Calls Tryd.prog 25 #[.slice (some ⟨W.heap.size, 0, none⟩) 2 2] (W.alloc (.cells #[.string ((⟨#[110, 111, 100, 101, 115, 32]⟩ : ByteArray) ++ ⟨(ltxt P).toArray⟩), .string ((⟨#[116, 104, 114, 101, 97, 100, 115, 32]⟩ : ByteArray) ++ ⟨(ltxt T).toArray⟩)] 9)) fun e w' => e = .returned (.string ⟨s.toArray⟩) ∧ Kept Nil w1 w' from by
      rw [head_nodes, head_threads, HM.out]
      refine (ltext_c _ (strs_two W _ _) (by simp) (fun a ha => ?_)).mono fun e w' ⟨h1, h2⟩ => ⟨h1, (k.alloc _).trans h2 (fun _ _ z => z)⟩
      simp at ha
      rcases ha with rfl | rfl <;> simp [wNodes, wThreads] <;> omega
    have CELLS := hide fun (W : World) (k : Kept Nil w1 W) => And.intro (((H1.out.1.kept k (fun z => z)).cell 0).trans (show _ = some va from rfl)) (((H1.out.1.kept k (fun z => z)).cell 1).trans (show _ = some vb from rfl))
    have hK : Kept Nil w1 w1.drew := (Kept.refl _ w1).drew
    rw [h0]
    clear h0
    generalize ltxt P = sp at *
    generalize ltxt T = st at *
    have b1 : 6 + sp.length ≤ 9223372036854775807 := by omega
    have b2 : 8 + st.length ≤ 9223372036854775807 := by omega
    go_wp2_with fail
    obtain ⟨q4, q5⟩ := CELLS.out _ hK
    go_region_with
      (first
        | (go_at_call 25; refine (cX.out _ (by assumption)).mono ?_; rintro e w5 ⟨rfl, hk5⟩)
        | (go_at_call 26; refine (cL.out _ _ (by assumption) _ (by assumption)).mono ?_; rintro e w5 ⟨rfl, hk5⟩; obtain ⟨r4, r5⟩ := CELLS.out _ hk5))
    all_goals go_wp2_with fail
    all_goals go_ret
    all_goals exact ⟨rfl, H1.out.2.1.trans (by assumption) (fun _ _ z => z)⟩
  · have HM : Hid (s = []) := hide (by rw [← HS.out, if_neg h0])
    have hne : (chk P T != 0) = true := by simpa using h0
    generalize chk P T = c at *
    clear h0
    go_wp2_with fail
    go_ret
    exact ⟨by rw [HM.out]; rfl, H1.out.2.1⟩
end
end Go.Proofs.YtcpcdfihgabelaaDoor
