/- A thread's node, here and in the document's words; the entries of a trace. -/
import Derived.Test.YtefcjlacjafnoaaERow
import Derived.Test.YtefcjlacjafnoaaNums
import Derived.WalkMore
import Derived.Deep.AppendLies
namespace Go.Proofs.Ytefcjlacjafnoaa
open Go.RowKit
set_option maxRecDepth 100000

section
variable {w w0 w' : World} {v : Value} {N : List Int} {l : List Ev}
set_option maxHeartbeats 1000000
/-- Node. -/
theorem node_c (t : Int) (hv : Nums w v N) : Calls Try.prog 24 #[v, .int .i64 t] w fun e w' => e = .returned (.int .i64 (nd N t)) ∧ w = w' := by
  obtain ⟨A, c, rfl, hp⟩ := hv
  by_cases h0 : 0 ≤ t
  · by_cases h1 : t < N.length
    · obtain ⟨k, rfl⟩ : ∃ k : Nat, t = k := ⟨t.toNat, by omega⟩
      have hk : k < N.length := by omega
      obtain ⟨g, o, rfl, _, hc⟩ := hp (by omega)
      have c1 := hc k hk
      have HN := hide (nd_in hk)
      have d0 : decide ((k : Int) < 0) = false := by simp
      have d1 : decide ((N.length : Int) ≤ (k : Int)) = false := by simp; omega
      clear hc hp h0 h1
      generalize N.getD k 0 = x at *
      generalize nd N k = y at *
      go_enter Try.func24, Try.ntmps24
      go_wp2_with fail
      go_ret
      exact ⟨by rw [HN.out]; rfl, rfl⟩
    · have HN := hide (nd_out (N := N) (t := t) (fun z => h1 z.2))
      have d0 : decide (t < 0) = false := by simpa using h0
      have d1 : decide ((N.length : Int) ≤ t) = true := by simp; omega
      clear hp h0 h1
      generalize nd N t = y at *
      go_enter Try.func24, Try.ntmps24
      go_wp2_with fail
      go_ret
      exact ⟨by rw [HN.out]; rfl, rfl⟩
  · have HN := hide (nd_out (N := N) (t := t) (fun z => h0 z.1))
    have d0 : decide (t < 0) = true := by simp; omega
    clear hp h0
    generalize nd N t = y at *
    go_enter Try.func24, Try.ntmps24
    go_wp2_with fail
    go_ret
    exact ⟨by rw [HN.out]; rfl, rfl⟩
/-- The document's Node. -/
theorem rnode_c (t : Int) (hv : Nums w v N) (hN : N.length ≤ 65536) : Calls Try.prog 22 #[v, .int .i64 t] w fun e w' => e = .returned (.int .i64 (nd N t)) ∧ w = w' := by
  obtain ⟨A, c, rfl, hp⟩ := hv
  go_enter Try.func22, Try.ntmps22
  go_wp2_with fail
  go_loop [5] (fun i => ∃ k : Nat, k ≤ N.length ∧ i = .int .i64 k ∧ ∀ j : Nat, j < k → (j : Int) ≠ t) (fun i => N.length - (intOf i).toNat)
  case atStart => exact ⟨0, Nat.zero_le _, rfl, fun j h => absurd h (by omega)⟩
  case round =>
    obtain ⟨k, hk, rfl, hn⟩ := hrel
    have HN := hide hn
    clear hn
    by_cases hlt : k < N.length
    · obtain ⟨g, o, rfl, _, hc⟩ := hp (by omega)
      have c1 := hc k hlt
      have HX := hide (nd_in hlt)
      clear hc
      generalize N.getD k 0 = y at *
      by_cases hxy : (k : Int) = t
      · subst hxy
        clear HN
        go_wp2_with fail
        go_ret
        exact ⟨by rw [HX.out]; rfl, rfl⟩
      · have HM : Hid (∀ j : Nat, j < k + 1 → (j : Int) ≠ t) := hide (fun j hj => by
          rcases Nat.lt_or_ge j k with h | h
          · exact HN.out j h
          · obtain rfl : j = k := by omega
            exact hxy)
        have hne : ((k : Int) == t) = false := by simpa using hxy
        clear HX hxy HN
        go_wp2_with fail
        go_round
        case rel => exact ⟨k + 1, by omega, by go_num, HM.out⟩
        case measure => simp [intOf]; omega
    · obtain rfl : k = N.length := by omega
      have HM : Hid (nd N t = -1) := hide (nd_out (fun z => HN.out t.toNat (by omega) (by omega)))
      clear HN
      go_wp2_with fail
      go_ret
      exact ⟨by rw [HM.out]; rfl, rfl⟩

/-- The rest of a row of events. -/
theorem evs_drop {g o c k : Nat} (hk : k < l.length) (hlc : l.length ≤ c) (hg : g < w.heap.size) (hc : ∀ k, k < l.length → Four (fun i => w.cell? ⟨g, i, none⟩) (o + k * 4) (l.getD k e0)) : Evs w (.slice (some ⟨g, o + k * 4, none⟩) (l.length - k) (c - k)) (l.drop k) := by
  have hlen : (l.drop k).length = l.length - k := by rw [List.length_drop]
  refine ⟨some ⟨g, o + k * 4, none⟩, c - k, by rw [hlen], by omega, fun _ => ⟨g, o + k * 4, rfl, hg, fun j hj => ?_⟩⟩
  rw [hlen] at hj
  have h := hc (k + j) (by omega)
  rw [show (l.drop k).getD j e0 = l.getD (k + j) e0 by simp [List.getD], show o + k * 4 + j * 4 = o + (k + j) * 4 by omega]
  exact h
/-- What entries hands back. -/
def Ent (w : World) (E : List Ev) (e : Ending) (w' : World) : Prop := ∃ A c, e = .returned (.slice A E.length c) ∧ Gw 36 4 w w' A c E.length (ecells E)
end
end Go.Proofs.Ytefcjlacjafnoaa
