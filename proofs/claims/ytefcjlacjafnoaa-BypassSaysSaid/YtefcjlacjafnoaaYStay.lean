/- The document's stay. -/
import Derived.Test.YtefcjlacjafnoaaYRef
namespace Go.Proofs.Ytefcjlacjafnoaa
open Go.RowKit
set_option maxRecDepth 100000

section
variable {w : World} {v : Value} {l : List Ev}
theorem results_stay {fn : Func} {p : Tmp} {w : World} {b : Nat} {v0 v1 v2 v3 v4 v5 v6 : Value} (h : fn.results = #[.cell p 50]) (tmps : Array Value) (hp : tmps.getD p undef = .pointer (some ⟨b, 0, none⟩))
    (h0 : w.cell? ⟨b, 0, none⟩ = some v0) (h1 : w.cell? ⟨b, 1, none⟩ = some v1) (h2 : w.cell? ⟨b, 2, none⟩ = some v2) (h3 : w.cell? ⟨b, 3, none⟩ = some v3) (h4 : w.cell? ⟨b, 4, none⟩ = some v4) (h5 : w.cell? ⟨b, 5, none⟩ = some v5) (h6 : w.cell? ⟨b, 6, none⟩ = some v6) : (results fn tmps).run Try.prog w = .ok (.agg #[v0, v1, v2, v3, v4, v5, v6]) w := by
  have e : (results fn tmps).run Try.prog w = ((asAddr (tmps.getD p undef)).run Try.prog w).andThen fun a w₁ => (loadVar 50 a).run Try.prog w₁ := by
    simp only [results, h]
    simp [Sem.run_bind, Result.andThen]
  rw [e, hp]
  go_simp
set_option maxHeartbeats 2000000
theorem stay_c (i : Nat) (hv : Evs w v l) (hl : l.length ≤ 65536) (hi : i < l.length) : Calls Try.prog 27 #[v, .int .i64 i] w fun e w' => e = .returned (syv (yst l i)) ∧ Kept Nil w w' := by
  obtain ⟨s, hs⟩ : ∃ s, yst l i = s := ⟨_, rfl⟩
  rw [hs]
  unfold yst at hs
  have CB := hide fun a k t W (z : Kept Nil w W) (ha : a < (l.length : Int)) => behind_c a k t (hv.kept z) hl ha
  obtain ⟨A, c, rfl, hlc, hp⟩ := hv
  obtain ⟨g, o, rfl, hg, h4⟩ := hp (by omega)
  have hF := hide fun W (z : Kept Nil w W) => (h4 i hi).kept hg z
  obtain ⟨f0, f1, f2, f3⟩ := h4 i hi
  have HC := hide fun j (hj : j < l.length) W (z : Kept Nil w W) => ((h4 j hj).kept hg z).2.2.2
  clear h4 hp
  generalize l.getD i e0 = e at *
  obtain ⟨ek, et, er, ec⟩ := e
  have f1 : w.cell? ⟨g, o + i * 4 + 1, none⟩ = some (.int .i64 et) := f1
  have f2 : w.cell? ⟨g, o + i * 4 + 2, none⟩ = some (.bool er) := f2
  have b1 := bh_in (l := l) (a := i) (k := 2) (t := et)
  have C1 := hide fun W z => CB.out i 2 et W z (by omega)
  have hs : (⟨et, er, i, bh l i 2 et, bh l (bh l i 2 et) 3 et, bh l (bh l (bh l i 2 et) 3 et) 4 et, if 0 ≤ bh l i 2 et then (l.getD (bh l i 2 et).toNat e0).c else 0⟩ : Sy) = s := hs
  generalize bh l i 2 et = ae at *
  have b2 := bh_in (l := l) (a := ae) (k := 3) (t := et)
  have C2 := hide fun W z => CB.out ae 3 et W z (by omega)
  generalize bh l ae 3 et = ax at *
  have b3 := bh_in (l := l) (a := ax) (k := 4) (t := et)
  have C3 := hide fun W z => CB.out ax 4 et W z (by omega)
  generalize bh l ax 4 et = az at *
  clear CB hF
  have HS := hide hs
  clear hs
  have K1 := (Kept.refl Nil w).alloc (.cells #[.int .i64 0, .bool false, .int .i64 0, .int .i64 0, .int .i64 0, .int .i64 0, .int .i64 0] 50)
  have K2 := hide (K1.alloc (.cells #[.int .i64 et, .bool er, .int .i64 i, .int .i64 0, .int .i64 0, .int .i64 0, .int .i64 0] 50))
  have K3 := hide (K1.alloc (.cells #[.int .i64 et, .bool er, .int .i64 i, .int .i64 ae, .int .i64 0, .int .i64 0, .int .i64 0] 50))
  have K4 := hide (K1.alloc (.cells #[.int .i64 et, .bool er, .int .i64 i, .int .i64 ae, .int .i64 ax, .int .i64 0, .int .i64 0] 50))
  clear K1
  by_cases h0 : 0 ≤ ae
  · obtain ⟨n, rfl⟩ : ∃ n : Nat, ae = n := ⟨ae.toNat, by omega⟩
    have HT : Hid (s = ⟨et, er, i, n, ax, az, (l.getD n e0).c⟩) := hide (by rw [← HS.out, if_pos h0, Int.toNat_natCast])
    have HN := hide (HC.out n (by omega))
    clear HC HS
    generalize (l.getD n e0).c = nc at *
    have HL := hide (And.intro ((Is.new w 50 #[.int .i64 et, .bool er, .int .i64 i, .int .i64 n, .int .i64 ax, .int .i64 az, .int .i64 nc]).alloc (.cells #[.int .i64 et, .bool er, .int .i64 i, .int .i64 n, .int .i64 ax, .int .i64 az, .int .i64 nc] 50)) (((Kept.refl Nil w).alloc (.cells #[.int .i64 et, .bool er, .int .i64 i, .int .i64 n, .int .i64 ax, .int .i64 az, .int .i64 nc] 50)).alloc (.cells #[.int .i64 et, .bool er, .int .i64 i, .int .i64 n, .int .i64 ax, .int .i64 az, .int .i64 nc] 50)))
    go_enter Try.func27, Try.ntmps27
    go_wp2_with fail
    refine (C1.out _ K2.out).mono ?_
    rintro e w' ⟨rfl, rfl⟩
    go_wp2_with fail
    refine (C2.out _ K3.out).mono ?_
    rintro e w' ⟨rfl, rfl⟩
    go_wp2_with fail
    refine (C3.out _ K4.out).mono ?_
    rintro e w' ⟨rfl, rfl⟩
    have n1 := HN.out _ (Kept.refl _ _)
    clear C1 C2 C3
    go_wp2_with fail
    exact bodyPost_ret (results_stay rfl _ rfl (HL.out.1.cell 0) (HL.out.1.cell 1) (HL.out.1.cell 2) (HL.out.1.cell 3) (HL.out.1.cell 4) (HL.out.1.cell 5) (HL.out.1.cell 6)) rfl ⟨by rw [HT.out]; rfl, HL.out.2⟩
  · obtain rfl : ae = -1 := by omega
    have HT : Hid (s = ⟨et, er, i, -1, ax, az, 0⟩) := hide (by rw [← HS.out, if_neg h0])
    clear HC HS
    have HL := hide (And.intro ((Is.new w 50 #[.int .i64 et, .bool er, .int .i64 i, .int .i64 (-1), .int .i64 ax, .int .i64 az, .int .i64 0]).alloc (.cells #[.int .i64 et, .bool er, .int .i64 i, .int .i64 (-1), .int .i64 ax, .int .i64 az, .int .i64 0] 50)) (((Kept.refl Nil w).alloc (.cells #[.int .i64 et, .bool er, .int .i64 i, .int .i64 (-1), .int .i64 ax, .int .i64 az, .int .i64 0] 50)).alloc (.cells #[.int .i64 et, .bool er, .int .i64 i, .int .i64 (-1), .int .i64 ax, .int .i64 az, .int .i64 0] 50)))
    go_enter Try.func27, Try.ntmps27
    go_wp2_with fail
    refine (C1.out _ K2.out).mono ?_
    rintro e w' ⟨rfl, rfl⟩
    go_wp2_with fail
    refine (C2.out _ K3.out).mono ?_
    rintro e w' ⟨rfl, rfl⟩
    go_wp2_with fail
    refine (C3.out _ K4.out).mono ?_
    rintro e w' ⟨rfl, rfl⟩
    clear C1 C2 C3
    go_wp2_with fail
    exact bodyPost_ret (results_stay rfl _ rfl (HL.out.1.cell 0) (HL.out.1.cell 1) (HL.out.1.cell 2) (HL.out.1.cell 3) (HL.out.1.cell 4) (HL.out.1.cell 5) (HL.out.1.cell 6)) rfl ⟨by rw [HT.out]; rfl, HL.out.2⟩
end
end Go.Proofs.Ytefcjlacjafnoaa
