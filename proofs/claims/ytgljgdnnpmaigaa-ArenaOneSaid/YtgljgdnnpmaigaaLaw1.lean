/- The law ArenaPlays, walked: whatever is done, an arena and the document's tell and come to the same. -/
import Derived.Test.YtgljgdnnpmaigaaDoAll
import Derived.Test.YtgljgdnnpmaigaaAwake
namespace Go.Proofs.Ytgljgdnnpmaigaa
open Go.RowKit

/-- The acts that came in: a slice at (L, cap) of n acts, act i being (K i, P i, X i, Y i). -/
structure Acts (w : World) (L : Option Addr) (n : Nat) (K P X Y : Nat → Int) : Prop where
  at_ : 0 < n → ∃ ad, L = some ad ∧ ad.spot = none ∧ ad.block < w.heap.size ∧ ∀ i, i < n → w.cell? ⟨ad.block, ad.off + i * 4, none⟩ = some (.int .i64 (K i)) ∧ w.cell? ⟨ad.block, ad.off + i * 4 + 1, none⟩ = some (.int .i64 (P i)) ∧
    w.cell? ⟨ad.block, ad.off + i * 4 + 2, none⟩ = some (.int .i64 (X i)) ∧ w.cell? ⟨ad.block, ad.off + i * 4 + 3, none⟩ = some (.int .i64 (Y i))

section
variable {w : World} {L : Option Addr} {n cap : Nat} {K P X Y : Nat → Int}
set_option maxHeartbeats 800000

theorem plays_short (room : Int) (w : World) (hn : 60 < n ∨ 100 < room) : Calls Try.prog 3 #[.int .i64 room, .slice L n cap] w fun e w' => e = .returned (.bool true) ∧ Kept Nil w w' := by
  have Ha := hide (awake_c w)
  by_cases h1 : 60 < n
  · go_enter Try.func3, Try.ntmps3
    go_wp2_with fail
    refine Ha.out.mono ?_
    rintro e w1 ⟨rfl, k1⟩
    go_wp2_with fail
    go_ret
    exact ⟨rfl, k1⟩
  · have h2 : 100 < room := by omega
    have h3 : decide (60 < (n : Int)) = false := by simp; omega
    go_enter Try.func3, Try.ntmps3
    go_wp2_with fail
    refine Ha.out.mono ?_
    rintro e w1 ⟨rfl, k1⟩
    go_wp2_with fail
    go_ret
    exact ⟨rfl, k1⟩

theorem ofb_ge {B0 a b : Nat} {A B : Option Addr} (ha : B0 ≤ a) (hA : ∀ g, A = some ⟨g, 0, none⟩ → B0 ≤ g) (hb : B0 ≤ b) (hB : ∀ g, In B g → B0 ≤ g) : ∀ i, i < B0 → OfB (some ⟨a, 0, none⟩) A b B i → Nil i := by
  rintro i hi (e | e)
  · exact of_ge ha hA i hi (to_of a A i e)
  · rcases e with e | e
    · omega
    · have := hB i e
      omega

theorem plays_long (room : Int) (hacts : Acts w L n K P X Y) (hn : n ≤ 60) (hroom : room ≤ 100) : Calls Try.prog 3 #[.int .i64 room, .slice L n cap] w fun e w' => e = .returned (.bool true) ∧ Kept Nil w w' := by
  have h3 : decide (60 < (n : Int)) = false := by simp; omega
  have h4 : decide (100 < room) = false := by simp; omega
  have Hnew := hide (new_c room w)
  go_enter Try.func3, Try.ntmps3
  go_wp2_with fail
  refine Hnew.out.mono ?_
  rintro e w1 ⟨rfl, ha1, k1⟩
  go_wp2_with fail
  refine (rnew_c room w1).mono ?_
  rintro e w2 ⟨rfl, hb2, k2⟩
  have hboth : Both w2 (some ⟨w.heap.size + 1, 0, none⟩) (some ⟨w.heap.size, 0, none⟩) w1.heap.size none 0 (fresh room) (fresh room) := ⟨.of (ha1.keptNil k2), hb2⟩
  obtain ⟨a, hae⟩ : ∃ a, a = w.heap.size + 1 := ⟨_, rfl⟩
  obtain ⟨A, hAe⟩ : ∃ A : Option Addr, A = some ⟨w.heap.size, 0, none⟩ := ⟨_, rfl⟩
  obtain ⟨b, hbe⟩ : ∃ b, b = w1.heap.size := ⟨_, rfl⟩
  rw [← hae, ← hAe, ← hbe] at hboth
  rw [← hae, ← hbe]
  have ga : w.heap.size ≤ a := by omega
  have gA : ∀ g, A = some ⟨g, 0, none⟩ → w.heap.size ≤ g := fun g e => by rw [hAe] at e; injection e with e; injection e with e; omega
  have gb : w.heap.size ≤ b := by have := k1.size; omega
  have HG := hide (And.intro ga (And.intro gA gb))
  have HB := hide hboth
  have HK := hide (k1.trans k2 (fun _ _ z => z))
  clear hae hAe hbe hboth ha1 hb2 k1 k2 ga gA gb
  go_wp2_with fail
  go_loopw [7] (fun i wr => ∃ (k : Nat) (B : Option Addr) (c : Nat) (s : St), k ≤ n ∧ i = .int .i64 k ∧ Both wr (some ⟨a, 0, none⟩) A b B c s s ∧ s.ops ≤ k ∧ Kept Nil w wr ∧ (∀ g, In B g → w.heap.size ≤ g)) (fun i _ => n - (intOf i).toNat)
  case atStart => exact ⟨0, none, 0, fresh room, Nat.zero_le _, rfl, HB.out, Nat.le_refl _, HK.out, fun g hg => by cases hg⟩
  case round =>
    obtain ⟨k, B, c, s, hk, rfl, hb, hops, hkp, hB⟩ := hrel
    by_cases hlt : k < n
    · obtain ⟨⟨bl, ol, sp⟩, rfl, rfl, hbl, hcells⟩ := hacts.at_ (by omega)
      obtain ⟨e0, e1, e2, e3⟩ := hcells k hlt
      have e0 : wr.cell? ⟨bl, ol + k * 4, none⟩ = _ := (hkp.cell (p := ⟨bl, ol + k * 4, none⟩) hbl (fun z => z)).trans e0
      have e1 : wr.cell? ⟨bl, ol + k * 4 + 1, none⟩ = _ := (hkp.cell (p := ⟨bl, ol + k * 4 + 1, none⟩) hbl (fun z => z)).trans e1
      have e2 : wr.cell? ⟨bl, ol + k * 4 + 2, none⟩ = _ := (hkp.cell (p := ⟨bl, ol + k * 4 + 2, none⟩) hbl (fun z => z)).trans e2
      have e3 : wr.cell? ⟨bl, ol + k * 4 + 3, none⟩ = _ := (hkp.cell (p := ⟨bl, ol + k * 4 + 3, none⟩) hbl (fun z => z)).trans e3
      have Hdo := hide (do_c (K k) (P k) (X k) (Y k) hb (by omega))
      clear hcells
      go_wp2_with fail
      refine Hdo.out.mono ?_
      rintro e w3 ⟨rfl, B', c', hb3, k3, hin⟩
      have Hs := hide (same_c hb3.one.at_ hb3.two)
      go_wp2_with fail
      refine Hs.out.mono ?_
      rintro e w4 ⟨rfl, k4⟩
      go_wp2_with fail
      go_roundw
      case rel =>
        have hact := act_ops (s := s) (K k) (P k) (X k) (Y k)
        refine ⟨k + 1, B', c', _, by omega, by go_num, hb3.keptNil k4, by omega, (hkp.trans k3 (ofb_ge HG.out.1 HG.out.2.1 HG.out.2.2 hB)).trans k4 (fun _ _ z => z), fun g hg => ?_⟩
        rcases hin g hg with e | e
        · exact hB g e
        · exact Nat.le_trans hkp.size e
      case measure => simp [intOf]; omega
    · obtain rfl : k = n := by omega
      go_wp2_with fail
      refine (awake_c wr).mono ?_
      rintro e w3 ⟨rfl, k3⟩
      go_wp2_with fail
      go_ret
      exact ⟨rfl, hkp.trans k3 (fun _ _ z => z)⟩
end
end Go.Proofs.Ytgljgdnnpmaigaa
