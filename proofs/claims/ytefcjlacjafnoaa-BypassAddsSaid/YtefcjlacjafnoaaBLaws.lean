/- The laws of layer 14: stray, awake. -/
import Derived.Test.YtefcjlacjafnoaaBROf
import Derived.Test.YtefcjlacjafnoaaYTold
namespace Go.Proofs.Ytefcjlacjafnoaa
open Go.RowKit
set_option maxRecDepth 100000

theorem Is.ints {w : World} {b : Nat} {l : List Int} (h : Is w b 3 (l.map (Value.int .i64)).toArray) : Nums w (.slice (some ⟨b, 0, none⟩) l.length l.length) l := by
  refine ⟨_, _, rfl, fun _ => ⟨b, 0, rfl, h.lt, fun k hk => ?_⟩⟩
  rw [h.cell]
  simp [List.getD, hk]
section
variable {w w' : World} {S : List Sy} {L : List Ps} {v : Value}
/-- A contract in every world that keeps all. -/
theorem calls_at {f : Nat} {args : Array Value} {W : World} {x : Value} (k : Kept Nil w W) (h : Calls Try.prog f args W fun e w' => e = .returned x ∧ Kept Nil W w') : Calls Try.prog f args W fun e w' => e = .returned x ∧ Kept Nil w w' :=
  h.mono fun _ _ ⟨h1, h2⟩ => ⟨h1, k.trans h2 (fun _ _ z => z)⟩
theorem calls_drew {f : Nat} {args : Array Value} {W : World} {x : Value} (k : Kept Nil w W) (h : Calls Try.prog f args W fun e w' => e = .returned x ∧ ∃ n, w' = W.drewN n) : Calls Try.prog f args W fun e w' => e = .returned x ∧ Kept Nil w w' :=
  h.mono fun _ _ ⟨h1, n, h2⟩ => ⟨h1, by rw [h2]; exact k.drewN n⟩
theorem pfd_at {f : Nat} {args : Array Value} {W : World} (k : Kept Nil w W) (h : Calls Try.prog f args W (Pfd W L)) : Calls Try.prog f args W fun e w' => ∃ A c, e = .returned (.slice A L.length c) ∧ Pss w' (.slice A L.length c) L ∧ Kept Nil w w' :=
  h.mono fun _ _ ⟨A, c, h1, h2⟩ => ⟨A, c, h1, h2.pss, k.trans h2.kept (fun _ _ z => z)⟩
theorem ofd_at {f : Nat} {args : Array Value} {W : World} (k : Kept Nil w W) (h : Calls Try.prog f args W (Ofd W S)) : Calls Try.prog f args W fun e w' => ∃ A c, e = .returned (.slice A S.length c) ∧ Stays w' (.slice A S.length c) S ∧ Kept Nil w w' :=
  h.mono fun _ _ ⟨A, c, h1, h2⟩ => ⟨A, c, h1, h2.stays, k.trans h2.kept (fun _ _ z => z)⟩
set_option maxHeartbeats 1000000
/-- stray. -/
theorem stray_c (k : Nat) (hv : Stays w v S) (hl : S.length ≤ 65536) : Calls Try.prog 11 #[v, .int .i64 k] w fun e w' => e = .returned (.bool (stry S k)) ∧ w = w' := by
  obtain ⟨A, c, rfl, _, hp⟩ := hv
  have HP := hide hp
  clear hp
  go_enter Try.func11, Try.ntmps11
  go_wp2_with fail
  go_loop [5] (fun i => ∃ q : Nat, q ≤ S.length ∧ i = .int .i64 q ∧ ∀ j : Nat, j < q → (S.getD j s0).e ≠ (k : Int)) (fun i => S.length - (intOf i).toNat)
  case atStart => exact ⟨0, Nat.zero_le _, rfl, fun j h => absurd h (by omega)⟩
  case round =>
    obtain ⟨q, hq, rfl, hn⟩ := hrel
    have HN := hide hn
    clear hn
    by_cases hlt : q < S.length
    · obtain ⟨g, o, rfl, _, hc⟩ := HP.out (by omega)
      have h7 := hc q hlt
      have c3 := h7.e
      have HE : Hid (stry S k = true → (S.getD q s0).e ≠ (k : Int)) := hide (fun z => by unfold stry at z; rw [decide_eq_true_eq] at z; exact z q hlt)
      have HM : Hid ((S.getD q s0).e ≠ (k : Int) → ∀ j : Nat, j < q + 1 → (S.getD j s0).e ≠ (k : Int)) := hide (fun z j hj => by
        rcases Nat.lt_or_ge j q with h | h
        · exact HN.out j h
        · obtain rfl : j = q := by omega
          exact z)
      clear hc h7
      generalize (S.getD q s0).e = y at *
      have c3 : w.cell? ⟨g, o + q * 7 + 3, none⟩ = some (.int .i64 y) := c3
      by_cases hy : y = (k : Int)
      · subst hy
        have b1 : ((k : Int) == (k : Int)) = true := by simp
        have HF : Hid (stry S k = false) := hide (by
          cases h : stry S k with
          | false => rfl
          | true => exact absurd rfl (HE.out h))
        clear HE HM HN
        go_wp2_with fail
        go_ret
        exact ⟨by rw [HF.out]; rfl, rfl⟩
      · have b1 : (y == (k : Int)) = false := by simpa using hy
        have HM2 := hide (HM.out hy)
        clear HE HM hy HN
        go_wp2_with fail
        go_round
        case rel => exact ⟨q + 1, by omega, by go_num, HM2.out⟩
        case measure => simp [intOf]; omega
    · obtain rfl : q = S.length := by omega
      have HT : Hid (stry S k = true) := hide (by unfold stry; rw [decide_eq_true_eq]; exact HN.out)
      clear HN
      go_wp2_with fail
      go_ret
      exact ⟨by rw [HT.out]; rfl, rfl⟩

def awL : List Ev := [⟨1, 0, false, 0⟩, ⟨1, 1, false, 0⟩, ⟨2, 1, false, 0⟩, ⟨2, 2, false, 0⟩, ⟨2, 0, false, 0⟩]
def awP : List Ps := [⟨1, 1⟩, ⟨0, 0⟩]
theorem aw_pof : pof [0, 0, 1] awL = awP := by kernel_rfl
theorem aw_wst : wst awP = ⟨1, 1⟩ := by kernel_rfl
theorem aw_frm : frm [0, 0, 1] 0 2 9 awL = ⟨0, 1⟩ := by kernel_rfl
theorem aw_wf : Ywf awL := by
  intro k hk
  have hk : k < 5 := hk
  rcases (show k = 0 ∨ k = 1 ∨ k = 2 ∨ k = 3 ∨ k = 4 by omega) with rfl | rfl | rfl | rfl | rfl <;> first | exact (show (Lit.int .i64 0).wf = true by decide) | exact (show (Lit.int .i64 1).wf = true by decide) | exact (show (Lit.int .i64 2).wf = true by decide)
theorem aw_nwf : Nwf [0, 0, 1] := by
  intro k hk
  have hk : k < 3 := hk
  rcases (show k = 0 ∨ k = 1 ∨ k = 2 by omega) with rfl | rfl | rfl <;> first | exact (show (Lit.int .i64 0).wf = true by decide) | exact (show (Lit.int .i64 1).wf = true by decide)
set_option maxHeartbeats 2000000
/-- What must come, whatever the arguments are. -/
theorem bawake_c (w : World) : Calls Try.prog 6 #[] w fun e w' => e = .returned (.bool true) ∧ Kept Nil w w' := by
  obtain ⟨w1, hw1⟩ : ∃ w1, w.alloc (.cells (ecells awL).toArray 36) = w1 := ⟨_, rfl⟩
  have K1 : Kept Nil w w1 := by rw [← hw1]; exact (Kept.refl Nil w).alloc _
  have hI : Is w1 w.heap.size 36 (ecells awL).toArray := by rw [← hw1]; exact Is.new w _ _
  have hv : ∀ W, Kept Nil w1 W → Evs W (.slice (some ⟨w.heap.size, 0, none⟩) 5 5) awL := fun W z => Is.evs (l := awL) (hI.kept z (fun y => y))
  have HE := hide (show w.alloc (.cells #[.int .i64 1, .int .i64 0, .bool false, .int .i64 0, .int .i64 1, .int .i64 1, .bool false, .int .i64 0, .int .i64 2, .int .i64 1, .bool false, .int .i64 0, .int .i64 2, .int .i64 2, .bool false, .int .i64 0, .int .i64 2, .int .i64 0, .bool false, .int .i64 0] 36) = w1 from hw1)
  obtain ⟨w2, hw2⟩ : ∃ w2, w1.alloc (.cells #[.int .i64 0, .int .i64 0, .int .i64 1] 3) = w2 := ⟨_, rfl⟩
  have K2 : Kept Nil w1 w2 := by rw [← hw2]; exact (Kept.refl Nil w1).alloc _
  have N2 : Nums w2 (.slice (some ⟨w1.heap.size, 0, none⟩) 3 3) [0, 0, 1] := by rw [← hw2]; exact Is.ints (l := [0, 0, 1]) (Is.new w1 3 #[.int .i64 0, .int .i64 0, .int .i64 1])
  have C1 := hide (pfd_at K2 (bof_c N2 aw_nwf (hv w2 K2) aw_wf (by decide)))
  rw [aw_pof] at C1
  have NI := hide fun W => Is.ints (l := [0, 0, 1]) (Is.new W 3 #[.int .i64 0, .int .i64 0, .int .i64 1])
  have C4 := hide fun W (z : Kept Nil w1 W) v0 (hn : Nums W v0 [0, 0, 1]) => calls_at (w := w1) z (from_c 0 2 9 hn aw_nwf (hv W z) aw_wf (by decide) (by decide))
  rw [aw_frm] at C4
  have heq := fun W => eq_pass W 1 1
  have hgd := fun x y W => eq_pass_guard 1 1 x y W
  have heq2 := fun W => eq_pass W 0 1
  have hgd2 := fun x y W => eq_pass_guard 0 1 x y W
  have hs : w1.heap.size = w.heap.size + 1 := by rw [← hw1]; simp
  rw [hs] at C1
  unfold psv at C4
  have HK := hide K1
  have HW2 := hide hw2
  clear hs K1 hI hv hw1 K2 N2 hw2
  go_enter Try.func6, Try.ntmps6
  go_wp2_with fail
  rw [HE.out, HW2.out]
  refine C1.out.mono ?_
  rintro e w3 ⟨A3, c3, rfl, hs3, hk3⟩
  have D3 := hide (calls_drew (Kept.refl Nil _) (same_pss (hs3.kept ((Kept.refl Nil w3).alloc (.cells #[.int .i64 1, .int .i64 1, .int .i64 0, .int .i64 0] 27))) (Is.pss (R := awP) (Is.new w3 27 #[.int .i64 1, .int .i64 1, .int .i64 0, .int .i64 0])) (by decide)))
  have H3 := hide (And.intro (hk3.alloc (.cells #[.int .i64 1, .int .i64 1, .int .i64 0, .int .i64 0] 27)) (hs3.kept ((Kept.refl Nil w3).alloc (.cells #[.int .i64 1, .int .i64 1, .int .i64 0, .int .i64 0] 27))))
  clear hs3 hk3 C1
  go_wp2_with fail
  refine D3.out.mono ?_
  rintro e w4 ⟨rfl, hk⟩
  have H4 := hide (And.intro (H3.out.1.trans hk (fun _ _ z => z)) (H3.out.2.kept hk))
  clear hk H3 D3
  have D4 := hide (worst_c H4.out.2 (by decide))
  rw [aw_wst] at D4
  unfold psv at D4
  go_wp2_with fail
  refine D4.out.mono ?_
  rintro e w5 ⟨rfl, hk⟩
  have H5 := hide (H4.out.1.trans hk (fun _ _ z => z))
  clear hk H4 D4
  go_wp2_with fail
  refine (C4.out _ (H5.out.alloc _) _ (NI.out w5)).mono ?_
  rintro e w6 ⟨rfl, hk⟩
  have H6 := hide (HK.out.trans hk (fun _ _ z => z))
  clear hk H5 C4 NI
  go_wp2_with fail
  go_ret
  exact ⟨rfl, H6.out⟩
end
end Go.Proofs.Ytefcjlacjafnoaa
