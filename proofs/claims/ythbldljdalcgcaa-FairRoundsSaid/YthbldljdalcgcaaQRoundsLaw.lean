/- The law FairRounds, walked. -/
import Derived.Test.YthbldljdalcgcaaQLaws
import Derived.Test.YthbldljdalcgcaaQRRobin
namespace Go.Proofs.Ythbldljdalcgcaa
open Go.RowKit
set_option maxRecDepth 100000

section
variable {w : World} {v : Value} {hs : List Int}
set_option maxHeartbeats 4000000
theorem qrounds_short (t r : Int) (hv : Nums w v hs) (hn : 200 < hs.length) : Calls Try.prog 4 #[.int .i64 t, .int .i64 r, v] w fun e w' => e = .returned (.bool true) ∧ Kept Nil w w' := by
  obtain ⟨A, c, rfl, hx⟩ := hv
  clear hx
  go_enter Try.func4, Try.ntmps4
  go_wp2_with fail
  refine (qawake_c _).mono ?_
  rintro e w1 ⟨rfl, k1⟩
  have HE := hide k1
  clear k1
  go_wp2_with fail
  go_ret
  exact ⟨rfl, HE.out⟩
theorem qrounds_long (t r : Int) (hv : Nums w v hs) (hn : hs.length ≤ 200) : Calls Try.prog 4 #[.int .i64 t, .int .i64 r, v] w fun e w' => e = .returned (.bool true) ∧ Kept Nil w w' := by
  have hlen : decide (200 < (hs.length : Int)) = false := by simp; omega
  have HV := hide hv
  have c1 := hide fun W => robin_c W t r
  have c2 := hide fun W => rrobin_c W t r
  have c3 := hide fun W (k : Kept Nil w W) => rounds_c t (HV.out.kept k) (by omega)
  have c4 := hide fun W (k : Kept Nil w W) => rrounds_c t (HV.out.kept k) (by omega)
  have c5 := hide fun W => some_c W t
  have f1 := @rob_fair (sm t) r.toNat
  have f2 := @rds_fair (sm t) hs
  have l1 : (rob (sm t) r.toNat).length ≤ 4000 := rds_len
  have l2 := @rds_len (sm t) hs
  have hn2 := sm_le t
  have f1 : fb (av (rob (sm t) r.toNat)) (rob (sm t) r.toNat).length (sm t) (max 1 (sm t) : Nat) = true := f1
  have f2 : fb (av (rds (sm t) hs)) (rds (sm t) hs).length (sm t) (max 1 (2 * (sm t : Int) - 1)) = true := f2
  have c6 := hide fun W u (k : Nums W u (rob (sm t) r.toNat)) => fair_c t _ f1 k (by omega)
  have c7 := hide fun W u (k : Nums W u (rds (sm t) hs)) => fair_c t _ f2 k (by omega)
  clear f1 f2
  generalize rob (sm t) r.toNat = La at *
  generalize rds (sm t) hs = Lb at *
  generalize sm t = n at *
  obtain ⟨N1, hN1⟩ : ∃ N1 : Nat, max 1 n = N1 := ⟨_, rfl⟩
  obtain ⟨N2, hN2⟩ : ∃ N2 : Int, max 1 (2 * (n : Int) - 1) = N2 := ⟨_, rfl⟩
  rw [hN1] at c6
  rw [hN2] at c7
  have hm1 : (if 1 < (n : Int) then (n : Int) else 1) = (N1 : Int) := by rw [← hN1]; split <;> omega
  have hm2 : (if 1 < n then (n : Int) else 1) = (N1 : Int) := by rw [← hN1]; split <;> omega
  have hm3 : (if 1 < 2 * (n : Int) - 1 then 2 * (n : Int) - 1 else 1) = N2 := by rw [← hN2]; split <;> omega
  have hl1 : decide (4000 < (La.length : Int)) = false := by simp; omega
  have hl2 : decide (4000 < (Lb.length : Int)) = false := by simp; omega
  have HL := hide (And.intro (show La.length ≤ 65536 by omega) (show Lb.length ≤ 65536 by omega))
  have HN := hide (And.intro hN1 hN2)
  obtain ⟨A, c, rfl, hx⟩ := hv
  clear hx hN1 hN2
  go_enter Try.func4, Try.ntmps4
  go_wp2_with fail
  refine (c1.out w).mono ?_
  rintro e w1 ⟨A1, k1, rfl, hg⟩
  have K1 := hide (And.intro hg.kept hg.row.nums)
  clear hg
  go_wp2_with fail
  refine (c3.out w1 K1.out.1).mono ?_
  rintro e w2 ⟨A2, k2, rfl, hg⟩
  have K2 := hide (And.intro (K1.out.1.trans hg.kept (fun _ _ z => z)) (And.intro (K1.out.2.kept hg.kept) hg.row.nums))
  clear hg K1
  go_wp2_with fail
  refine (c2.out w2).mono ?_
  rintro e w3 ⟨A3, k3, rfl, hg⟩
  have K3 := hide (And.intro (K2.out.1.trans hg.kept (fun _ _ z => z)) (And.intro (K2.out.2.1.kept hg.kept) (And.intro (K2.out.2.2.kept hg.kept) hg.row.nums)))
  clear hg K2
  go_wp2_with fail
  refine (same_nums K3.out.2.1 K3.out.2.2.2 HL.out.1).mono ?_
  rintro e w4 ⟨rfl, q, rfl⟩
  have K4 := hide (And.intro (K3.out.1.drewN q) (And.intro (K3.out.2.1.kept ((Kept.refl Nil w3).drewN q)) (K3.out.2.2.1.kept ((Kept.refl Nil w3).drewN q))))
  generalize w3.drewN q = w4 at *
  clear K3
  go_wp2_with fail
  refine (c4.out w4 K4.out.1).mono ?_
  rintro e w5 ⟨A5, k5, rfl, hg⟩
  have K5 := hide (And.intro (K4.out.1.trans hg.kept (fun _ _ z => z)) (And.intro (K4.out.2.1.kept hg.kept) (And.intro (K4.out.2.2.kept hg.kept) hg.row.nums)))
  clear hg K4
  go_wp2_with fail
  refine (same_nums K5.out.2.2.1 K5.out.2.2.2 HL.out.2).mono ?_
  rintro e w6 ⟨rfl, q, rfl⟩
  have K6 := hide (And.intro (K5.out.1.drewN q) (And.intro (K5.out.2.1.kept ((Kept.refl Nil w5).drewN q)) (K5.out.2.2.1.kept ((Kept.refl Nil w5).drewN q))))
  generalize w5.drewN q = w6 at *
  clear K5
  go_wp2_with fail
  refine (c5.out w6).mono ?_
  rintro e w6 ⟨rfl, rfl⟩
  go_wp2_with fail
  refine (c6.out _ _ K6.out.2.1).mono ?_
  rintro e w6 ⟨rfl, rfl⟩
  go_wp2_with fail
  refine (c7.out _ _ K6.out.2.2).mono ?_
  rintro e w6 ⟨rfl, rfl⟩
  go_wp2_with fail
  refine (qawake_c _).mono ?_
  rintro e w7 ⟨rfl, hk⟩
  have K7 := hide (K6.out.1.trans hk (fun _ _ z => z))
  clear hk
  go_wp2_with fail
  go_ret
  exact ⟨rfl, K7.out⟩
theorem qrounds_c (t r : Int) (hv : Nums w v hs) : Calls Try.prog 4 #[.int .i64 t, .int .i64 r, v] w fun e w' => e = .returned (.bool true) ∧ Kept Nil w w' := by
  rcases Nat.lt_or_ge 200 hs.length with h | h
  · exact qrounds_short t r hv h
  · exact qrounds_long t r hv h
end
end Go.Proofs.Ythbldljdalcgcaa
