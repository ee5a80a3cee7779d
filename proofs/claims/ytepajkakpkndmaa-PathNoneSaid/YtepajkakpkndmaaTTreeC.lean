/- Contracts of some, the closures, IndexFunc, ContainsFunc, isTree. -/
import Derived.Test.YtepajkakpkndmaaTRow
namespace Go.Proofs.Ytepajkakpkndmaa
open Go.RowKit
set_option maxRecDepth 100000

section
variable {w : World} {v : Value} {P l : List Int}
set_option maxHeartbeats 1000000
theorem some_c {b : Bool} (n most : Int) (hb : (decide (1 ≤ n) && decide (n ≤ most)) = b) : Calls Try.prog 45 #[.int .i64 n, .int .i64 most] w fun e w' => e = .returned (.bool b) ∧ w = w' := by
  have HB := hide hb
  clear hb
  by_cases h1 : 1 ≤ n
  · by_cases h2 : n ≤ most
    · have HM : Hid ((decide (1 ≤ n) && decide (n ≤ most)) = true) := hide (by simp [h1, h2])
      go_enter Try.func45, Try.ntmps45
      go_wp2_with fail
      go_ret
      exact ⟨ret_yes HM.out HB.out, rfl⟩
    · have HM : Hid ((decide (1 ≤ n) && decide (n ≤ most)) = false) := hide (by simp [h2])
      have h3 : decide (n ≤ most) = false := by simpa using h2
      clear h2
      go_enter Try.func45, Try.ntmps45
      go_wp2_with fail
      go_ret
      exact ⟨ret_no HM.out HB.out, rfl⟩
  · have HM : Hid ((decide (1 ≤ n) && decide (n ≤ most)) = false) := hide (by simp [h1])
    have h3 : decide (1 ≤ n) = false := by simpa using h1
    clear h1
    go_enter Try.func45, Try.ntmps45
    go_wp2_with fail
    go_ret
    exact ⟨ret_no HM.out HB.out, rfl⟩
theorem other_c {b1 b2 : Nat} {A : Option Addr} {n c k : Nat} {d x : Int} (h1 : w.cell? ⟨b1, 0, none⟩ = some (.slice A n c)) (h2 : w.cell? ⟨b2, 0, none⟩ = some (.int .i64 d)) (hk : k < n)
    (hc : ∃ g o, A = some ⟨g, o, none⟩ ∧ w.cell? ⟨g, o + k, none⟩ = some (.int .i64 x)) :
    Calls Try.prog 52 #[.int .i64 k, .pointer (some ⟨b1, 0, none⟩), .pointer (some ⟨b2, 0, none⟩)] w fun e w' => e = .returned (.bool (x != d)) ∧ Kept Nil w w' := by
  obtain ⟨g, o, rfl, hc⟩ := hc
  have hk2 : (k : Int) < (n : Int) := by omega
  by_cases h : x = d
  · subst h
    have HM : Hid ((x != x) = false) := hide (by simp)
    go_enter Try.func52, Try.ntmps52
    go_wp2_with fail
    go_quiet (fail)
    go_wp2_with fail
    go_ret
    exact ⟨ret_no HM.out rfl, (Kept.refl _ w).drewN nq⟩
  · have h2 : (x == d) = false := by simpa using h
    clear h
    go_enter Try.func52, Try.ntmps52
    go_wp2_with fail
    go_quiet (fail)
    go_wp2_with fail
    go_ret
    exact ⟨rfl, (Kept.refl _ w).drewN nq⟩
/-- slices.IndexFunc of a closure. -/
theorem indexfunc_c {N : FuncId} {cap : Array Value} {q : Int → Bool} (hE : ∀ args w, (callFunc N args).run Try.prog w = .ok (.enter N args) w) (hv : Nums w v l) (hl : l.length ≤ 65536)
    (hC : ∀ W, Kept Nil w W → ∀ x ∈ l, Calls Try.prog N (#[.int .i64 x] ++ cap) W fun e w' => e = .returned (.bool (q x)) ∧ Kept Nil W w') :
    Calls Try.prog 37 #[v, .func (.func N) #[] cap] w fun e w' => ∃ k : Int, e = .returned (.int .i64 k) ∧ ((0 ≤ k ∧ l.any q = true) ∨ (k = -1 ∧ l.any q = false)) ∧ Kept Nil w w' := by
  have HC := hide hC
  clear hC
  obtain ⟨A, c, rfl, hp⟩ := hv
  have HP := hide hp
  clear hp
  go_enter Try.func37, Try.ntmps37
  go_wp2_with fail
  go_loopw [8] (fun i wr => ∃ k : Nat, k ≤ l.length ∧ i = .int .i64 k ∧ (∀ x ∈ l.take k, q x = false) ∧ Kept Nil w wr) (fun i _ => l.length - (intOf i).toNat)
  case atStart => exact ⟨0, Nat.zero_le _, rfl, by simp, Kept.refl _ _⟩
  case round =>
    obtain ⟨k, hk, rfl, hn, hkp⟩ := hrel
    have HN := hide hn
    have HK := hide hkp
    clear hn hkp
    by_cases hlt : k < l.length
    · obtain ⟨g, o, rfl, hg, hc⟩ := HP.out (by omega)
      have c1 := (HK.out.cell (p := ⟨g, o + k, none⟩) hg (fun c => c)).trans (hc k hlt)
      have HX := hide (fun h => all_not (q := q) hlt HN.out h)
      have HI := hide (getD_in hlt)
      have cC := HC.out wr HK.out _ HI.out
      clear hc
      obtain ⟨y, hy⟩ : ∃ y, l.getD k 0 = y := ⟨_, rfl⟩
      rw [hy] at c1 cC HX HI
      clear hy
      cases hq : q y with
      | true =>
        have HM := hide (show l.any q = true from List.any_eq_true.2 ⟨y, HI.out, hq⟩)
        rw [hq] at cC
        clear hq HX
        go_wp2_with fail
        refine cC.mono ?_
        rintro e w1 ⟨rfl, hk1⟩
        have HK1 := hide (HK.out.trans hk1 (fun _ _ z => z))
        clear hk1
        go_wp2_with fail
        go_ret
        exact ⟨_, rfl, .inl ⟨by omega, HM.out⟩, HK1.out⟩
      | false =>
        have HM := hide (HX.out hq)
        rw [hq] at cC
        clear hq HX
        go_wp2_with fail
        refine cC.mono ?_
        rintro e w1 ⟨rfl, hk1⟩
        have HK1 := hide (HK.out.trans hk1 (fun _ _ z => z))
        clear hk1
        go_wp2_with fail
        go_roundw
        case rel => exact ⟨k + 1, by omega, by go_num, HM.out, HK1.out⟩
        case measure => simp [intOf]; omega
    · obtain rfl : k = l.length := by omega
      have HM : Hid (l.any q = false) := hide (by have := HN.out; rw [List.take_length] at this; exact List.any_eq_false.2 fun x hx => by simp [this x hx])
      go_wp2_with fail
      go_ret
      exact ⟨_, rfl, .inr ⟨rfl, HM.out⟩, HK.out⟩
/-- slices.ContainsFunc of a closure. -/
theorem containsfunc_c {b : Bool} {N : FuncId} {cap : Array Value} {q : Int → Bool} (hE : ∀ args w, (callFunc N args).run Try.prog w = .ok (.enter N args) w) (hb : l.any q = b) (hv : Nums w v l) (hl : l.length ≤ 65536)
    (hC : ∀ W, Kept Nil w W → ∀ x ∈ l, Calls Try.prog N (#[.int .i64 x] ++ cap) W fun e w' => e = .returned (.bool (q x)) ∧ Kept Nil W w') :
    Calls Try.prog 51 #[v, .func (.func N) #[] cap] w fun e w' => e = .returned (.bool b) ∧ Kept Nil w w' := by
  have ci := indexfunc_c (q := q) hE hv hl hC
  have HB := hide hb
  clear hb hC hE
  obtain ⟨A, c, rfl, hp⟩ := hv
  clear hp
  go_enter Try.func51, Try.ntmps51
  go_wp2_with fail
  refine ci.mono ?_
  rintro e w' ⟨k, rfl, hk, hkp⟩
  have HK := hide hkp
  clear hkp
  rcases hk with ⟨h1, h2⟩ | ⟨rfl, h2⟩
  · have HM := hide h2
    clear h2 ci
    go_wp2_with fail
    go_ret
    exact ⟨ret_yes HM.out HB.out, HK.out⟩
  · have HM := hide h2
    clear h2 ci
    go_wp2_with fail
    go_ret
    exact ⟨ret_no HM.out HB.out, HK.out⟩
end
end Go.Proofs.Ytepajkakpkndmaa
