/- Contracts of Text, of both sides. -/
import Derived.Test.YtcpcdfihgabelaaDoorTTxt
import Derived.Test.YtcpcdfihgabelaaDoorTRMore
import Derived.Test.YtcpcdfihgabelaaDoorDLists
import Derived.Test.YtcpcdfihgabelaaDoorLBuild
namespace Go.Proofs.YtcpcdfihgabelaaDoor
open Go.RowKit
set_option maxRecDepth 100000

theorem strs_two (w : World) (a b : List UInt8) : Strs (w.alloc (.cells #[.string ⟨a.toArray⟩, .string ⟨b.toArray⟩] 9)) (.slice (some ⟨w.heap.size, 0, none⟩) 2 2) [a, b] := by
  refine ⟨_, _, rfl, Nat.le_refl _, fun _ => ⟨w.heap.size, 0, rfl, by simp, fun k hk => ?_⟩⟩
  rw [Nat.zero_add, (Is.new w 9 #[.string ⟨a.toArray⟩, .string ⟨b.toArray⟩]).cell k]
  have : k = 0 ∨ k = 1 := by simp at hk; omega
  rcases this with rfl | rfl <;> rfl
theorem head_nodes (l : List UInt8) : (⟨#[110, 111, 100, 101, 115, 32]⟩ : ByteArray) ++ ⟨l.toArray⟩ = ⟨(wNodes ++ 32 :: l).toArray⟩ := joined [110, 111, 100, 101, 115, 32] l
theorem head_threads (l : List UInt8) : (⟨#[116, 104, 114, 101, 97, 100, 115, 32]⟩ : ByteArray) ++ ⟨l.toArray⟩ = ⟨(wThreads ++ 32 :: l).toArray⟩ := joined [116, 104, 114, 101, 97, 100, 115, 32] l
theorem ttxt_eq (P T : List Int) : ((((⟨#[110, 111, 100, 101, 115, 32]⟩ : ByteArray) ++ ⟨(ltxt P).toArray⟩) ++ ⟨#[10, 116, 104, 114, 101, 97, 100, 115, 32]⟩) ++ ⟨(ltxt T).toArray⟩) ++ ⟨#[10]⟩ = ⟨(ttxt P T).toArray⟩ := by
  rw [head_nodes, show (⟨#[10, 116, 104, 114, 101, 97, 100, 115, 32]⟩ : ByteArray) = ⟨([10, 116, 104, 114, 101, 97, 100, 115, 32] : List UInt8).toArray⟩ from rfl, show (⟨#[10]⟩ : ByteArray) = ⟨([10] : List UInt8).toArray⟩ from rfl, joined, joined, joined]
  congr 2
  simp [ttxt, ltext, wNodes, wThreads]
theorem ltxt_small {l : List Int} (h : l.length ≤ 32) (hr : ∀ n ∈ l, InR n) : (ltxt l).length ≤ 700 := by
  have := ltxt_len l hr
  omega

/-- The document's List tells these bytes of x, in each world that has but drawn since w. -/
structure RTells (w : World) (x : Value) (s : List UInt8) : Prop where
  out : ∀ n, Calls Tryd.prog 37 #[x] (w.drewN n) fun e w' => e = .returned (.string ⟨s.toArray⟩) ∧ w' = w.drewN n
/-- List tells these bytes of x, in each world that has left old memory alone since w. -/
structure Tells (w : World) (x : Value) (s : List UInt8) : Prop where
  out : ∀ W, Kept Nil w W → Calls Tryd.prog 26 #[x] W fun e w' => e = .returned (.string ⟨s.toArray⟩) ∧ Kept Nil w w'
section
variable {w : World} {v : Value} {P T : List Int}
set_option maxHeartbeats 1000000
theorem rttext_c {s : List UInt8} (hs : (if chk P T = 0 then ttxt P T else []) = s) (hv : Topo w v P T) (hP : ∀ n ∈ P, InR n) (hT : ∀ n ∈ T, InR n) : Calls Tryd.prog 21 #[v] w fun e w' => e = .returned (.string ⟨s.toArray⟩) ∧ Kept Nil w w' := by
  have HS := hide hs
  clear hs
  have HR := hide (And.intro hP hT)
  clear hP hT
  obtain ⟨va, vb, rfl, ha, hb⟩ := hv
  obtain ⟨w0, hw0⟩ : ∃ w0, w.alloc (.cells #[va, vb] 24) = w0 := ⟨_, rfl⟩
  have hi0 : Is w0 w.heap.size 24 #[va, vb] := by rw [← hw0]; exact Is.new w _ _
  have hk0 : Kept Nil w w0 := by rw [← hw0]; exact (Kept.refl _ w).alloc _
  have H0 := hide (And.intro hi0 (And.intro hk0 (And.intro (ha.kept hk0) (hb.kept hk0))))
  have cc := rcheck_c (w := w0) (v := .agg #[va, vb]) ⟨va, vb, rfl, H0.out.2.2.1, H0.out.2.2.2⟩
  obtain ⟨q2, q3⟩ := load_pair hi0
  clear hi0 hk0 ha hb
  go_enter Tryd.func21, Tryd.ntmps21
  go_wp2_with fail
  refine cc.mono ?_
  rintro e w1 ⟨rfl, hk1⟩
  have H1 := hide (And.intro (H0.out.1.kept hk1 (fun z => z)) (And.intro (H0.out.2.1.trans hk1 (fun _ _ z => z)) (And.intro (H0.out.2.2.1.kept hk1) (H0.out.2.2.2.kept hk1))))
  clear hk1 cc
  by_cases h0 : chk P T = 0
  · have hlen := (chk_zero h0).1
    have HM : Hid (s = ttxt P T) := hide (by rw [← HS.out, if_pos h0])
    have z1 := ltxt_small (l := P) (by omega) HR.out.1
    have z2 := ltxt_small (l := T) (by omega) HR.out.2
    have q4 := H1.out.1.cell 0
    have q5 := H1.out.1.cell 1
    have tP : RTells w1 va (ltxt P) := .mk fun n => (rlist_c (w1.drewN n) (H1.out.2.2.1.kept ((Kept.refl _ _).drewN n)) (by omega) HR.out.1).mono (fun e w' ⟨h1, h2⟩ => ⟨h1, h2.symm⟩)
    have tT : RTells w1 vb (ltxt T) := .mk fun n => (rlist_c (w1.drewN n) (H1.out.2.2.2.kept ((Kept.refl _ _).drewN n)) (by omega) HR.out.2).mono (fun e w' ⟨h1, h2⟩ => ⟨h1, h2.symm⟩)
    have cL := hide fun (x : Value) (t : List UInt8) (h : RTells w1 x t) n => h.out n
    have HT := hide (ttxt_eq P T)
    rw [h0]
    clear h0
    generalize ltxt P = sp at *
    generalize ltxt T = st at *
    go_wp2_with fail
    go_quiet ((go_at_call 37; exact Calls.quiet_of_same (cL.out _ _ (by assumption) _)))
    go_wp2_with fail
    go_ret
    exact ⟨by rw [HM.out, ← HT.out]; rfl, H1.out.2.1.drewN _⟩
  · have HM : Hid (s = []) := hide (by rw [← HS.out, if_neg h0])
    have hne : (chk P T != 0) = true := by simpa using h0
    generalize chk P T = c at *
    clear h0
    go_wp2_with fail
    go_ret
    exact ⟨by rw [HM.out]; rfl, H1.out.2.1⟩
end
end Go.Proofs.YtcpcdfihgabelaaDoor
