/- ArenaOne: for every room and every row of acts, an op changes no word but its own, is counted and told as what it is, and what was laid down is there till something else is; on every input the law returns true and leaves its arguments as they were. No condition. -/
import Derived.Test.YtgljgdnnpmaigaaPlays
import Derived.Test.YtgljgdnnpmaigaaLaw3
namespace Go.Proofs.Ytgljgdnnpmaigaa
open Go.ChangeShapes Go.WideShapes Go.ChangeAt Go.RowKit Go.Deep

theorem one_walk {W : World} {L : Option Addr} {n cap : Nat} {K P X Y : Nat → Int} (room : Int) (h : Acts W L n K P X Y) : Calls Try.prog 5 #[.int .i64 room, .slice L n cap] W fun e w' => e = .returned (.bool true) ∧ Kept Nil W w' := by
  by_cases hn : 60 < n ∨ 100 < room
  · exact one_short room W hn
  · exact one_long room h (by omega) (by omega)

set_option maxRecDepth 100000 in
theorem one_lifted (os : Os) (started : os.Started) (H : Type) (enc : TypeId × Value → H) :
    ReturnsInHanded {} Try.checked os 5 .any (Rows.arenaOneSpec.pre6 enc Try.prog Try.f5 Rows.arenaOneRow.domain false) (Rows.arenaOneSpec.post enc Try.prog Try.f5 false true false false) := by
  refine returnsInHanded_of_change (C := Try.checked) own started (by kernel_rfl) Try.func5
    (ChangeSpec.witness6 (enc := enc) (C := Try.checked) false ⟨#[], #[.int .i64 0, .slice none 0 0], []⟩ 8 (by kernel_rfl) (by kernel_rfl) (by kernel_rfl) (by kernel_rfl)) ?_
  intro W base args ds gs before hval0 hW _ _
  have hval : ∀ (j : Nat) t v, Try.f5.params[j]? = some t → args[j]? = some v → Value.okWide Try.prog W .any base t v := hval0
  have hW2 : DataW.Whole enc Try.prog Try.f5.params.toList Rows.arenaOneSpec.vars false W args.toList ds gs before := hW
  obtain ⟨p, q, hA0, _, _, _, _⟩ := hW
  have hA : DataW.TrodAll enc Try.prog W 0 (fun _ => true) true Try.f5.params.toList args.toList ds p := hA0
  rw [Try.params5] at hA hval
  obtain ⟨v0, v1, d0, d1, p0, p1, rfl, rfl, rfl, h0, h1⟩ := trodAll_two hA
  obtain ⟨room, rfl, rfl, rfl, w0⟩ := open_int Try.underlying3 (hval 0 3 v0 rfl rfl) h0
  obtain ⟨L, n, cap, K, P, X, Y, rfl, hacts⟩ := acts_of (hval 1 22 v1 rfl rfl) h1
  refine (one_walk room hacts).mono fun e W' ⟨he, hk⟩ => ?_
  exact ⟨_, he, law_post laidOut hW2 rfl rfl Try.underlying4 (by rw [Try.params5]; decide +kernel) rfl hk.toBelow⟩

/-- THE STATEMENT. -/
theorem one_holds : Rows.ArenaOneSaid :=
  OpenClaim.holds_of_wide 5 Try.f5 rfl rfl rfl rfl rfl rfl rfl ⟨rfl, rfl, rfl, rfl, rfl⟩ rfl rfl rfl rfl rfl (by kernel_rfl) Try.func5 (by kernel_rfl)
    (of_decide_eq_true (by kernel_rfl)) (by unfold Func.isWrapper; first | (rw [if_pos (by decide +kernel)]; kernel_rfl) | (rw [if_neg (by decide +kernel)]; exact ⟨rfl, rfl⟩))
    (fun os started H enc _ => one_lifted os started H enc)
end Go.Proofs.Ytgljgdnnpmaigaa
