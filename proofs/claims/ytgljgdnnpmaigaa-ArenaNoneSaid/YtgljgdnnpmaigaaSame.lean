/- Whether an arena is at what the document's is; both do the same. -/
import Derived.Test.YtgljgdnnpmaigaaRefTake
import Derived.Deep.RegionHeld3
import Derived.Deep.RegionWith
import Derived.Deep.DeepMust
import Derived.Deep.DeepFit
namespace Go.Proofs.Ytgljgdnnpmaigaa
open Go.RowKit

section
variable {a b c : Nat} {A B : Option Addr} {s : St} {w : World}
set_option maxHeartbeats 800000

theorem same_c (ha : ArenaAt w a A s) (hr : RefAt w b B c s) : Calls Try.prog 10 #[.pointer (some ⟨a, 0, none⟩), .pointer (some ⟨b, 0, none⟩)] w fun e w' => e = .returned (.bool true) ∧ Kept Nil w w' := by
  have cW := hide fun (W : World) (k : Kept Nil w W) => ((words_c (ha.keptNil k)).mono (R' := fun e w' => ∃ v, e = .returned v ∧ Ints w' v s.ws ∧ Kept Nil w w') (fun e w' ⟨v, h1, h2, h3⟩ => ⟨v, h1, h2, k.trans h3 (fun _ _ x => x)⟩))
  have cL := hide fun (W : World) (k : Kept Nil w W) => len_c (ha.keptNil k)
  have cO := hide fun (W : World) (k : Kept Nil w W) => ops_c (ha.keptNil k)
  have cT := hide fun (W : World) (k : Kept Nil w W) => ((last_c (ha.keptNil k)).mono (R' := fun e w' => e = .returned (.agg #[.int .i64 s.k, .int .i64 s.p, .bool s.wr]) ∧ Kept Nil w w') (fun e w' ⟨h1, h3⟩ => ⟨h1, k.trans h3 (fun _ _ x => x)⟩))
  have cS := hide fun (W : World) (v : Value) (k : Kept Nil w W) (hv : Ints W v s.ws) => ((same_yes (w := W) hv (hr.row.ints.kept k) (Nat.le_trans hr.fits hr.small)).mono (R' := fun e w' => e = .returned (.bool true) ∧ Kept Nil w w') (fun e w' ⟨h1, n, h3⟩ => ⟨h1, by subst h3; exact k.drewN n⟩))
  have CELLS := hide fun (W : World) (k : Kept Nil w W) => (And.intro (hr.keptNil k).c1 (And.intro (hr.keptNil k).c2 (And.intro (hr.keptNil k).c3 (And.intro (hr.keptNil k).c4 (hr.keptNil k).c5))))
  have hK : Kept Nil w w.drew := (Kept.refl _ w).drew
  have f1 := hr.fits
  have f2 := hr.small
  have g1 := hr.c1
  have g2 := hr.c2
  have g3 := hr.c3
  have g4 := hr.c4
  have g5 := hr.c5
  go_enter Try.func10, Try.ntmps10
  go_wp2_with fail
  go_region_held3 (fun W => W.cell? ⟨b, 1, none⟩ = some (.slice B s.ws.length c) ∧ W.cell? ⟨b, 2, none⟩ = some (.int .i64 s.ops) ∧ W.cell? ⟨b, 3, none⟩ = some (.int .i64 s.k) ∧ W.cell? ⟨b, 4, none⟩ = some (.int .i64 s.p) ∧ W.cell? ⟨b, 5, none⟩ = some (.bool s.wr))
    (first | exact CELLS.out _ (by assumption) | exact CELLS.out _ (Kept.drew (by assumption)))
    (first
      | (go_at_call 13; refine (cW.out _ (by assumption)).mono ?_; rintro e w1 ⟨v, rfl, hv, hk⟩)
      | (go_at_call 21; refine (cS.out _ _ (by assumption) (by assumption)).mono ?_; rintro e w1 ⟨rfl, hk⟩)
      | (go_at_call 11; refine (cL.out _ (by assumption)).mono ?_; rintro e w1 ⟨rfl, rfl⟩)
      | (go_at_call 12; refine (cO.out _ (by assumption)).mono ?_; rintro e w1 ⟨rfl, rfl⟩)
      | (go_at_call 14; refine (cT.out _ (by assumption)).mono ?_; rintro e w1 ⟨rfl, hk⟩))
  all_goals go_wp2_with fail
  all_goals go_ret
  all_goals exact ⟨rfl, by assumption⟩
end
end Go.Proofs.Ytgljgdnnpmaigaa
