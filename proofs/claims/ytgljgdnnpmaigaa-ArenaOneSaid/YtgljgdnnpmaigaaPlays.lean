/- ArenaPlays: for every room and every row of acts, an arena tells what the document's own arena tells, and comes to the same words, ops and last op; on every input the law returns true and leaves its arguments as they were. No condition. -/
import Derived.Test.YtgljgdnnpmaigaaShell
import Derived.Test.YtgljgdnnpmaigaaLaw1
namespace Go.Proofs.Ytgljgdnnpmaigaa
open Go.ChangeShapes Go.WideShapes Go.ChangeAt Go.RowKit Go.Deep

theorem acts_of {H : Type} {enc : TypeId × Value → H} {W : World} {v : Value} {d : DataW H} {ps : List MemPlace} (hv : Value.okWide Try.prog W .any 0 22 v) (h : DataW.Trod enc Try.prog W 0 (fun _ => true) true 22 v d ps) :
    ∃ (L : Option Addr) (n cap : Nat) (K P X Y : Nat → Int), v = .slice L n cap ∧ Acts W L n K P X Y := by
  obtain ⟨A, len, cap, F, rfl, hF⟩ := open_int_structs Try.underlying22 Try.underlying30 (by kernel_rfl) (by kernel_rfl) (by decide) (by kernel_rfl) hv h
  refine ⟨A, len, cap, fun i => F i 0, fun i => F i 1, fun i => F i 2, fun i => F i 3, rfl, ⟨fun hp => ?_⟩⟩
  obtain ⟨b, o, rfl, hb, hc⟩ := hF hp
  refine ⟨⟨b, o, none⟩, rfl, rfl, hb, fun i hi => ⟨?_, ?_, ?_, ?_⟩⟩
  · simpa [Nat.add_assoc] using (hc i hi 0 (by decide)).1
  · simpa [Nat.add_assoc] using (hc i hi 1 (by decide)).1
  · simpa [Nat.add_assoc] using (hc i hi 2 (by decide)).1
  · simpa [Nat.add_assoc] using (hc i hi 3 (by decide)).1

theorem plays_walk {W : World} {L : Option Addr} {n cap : Nat} {K P X Y : Nat → Int} (room : Int) (h : Acts W L n K P X Y) : Calls Try.prog 3 #[.int .i64 room, .slice L n cap] W fun e w' => e = .returned (.bool true) ∧ Kept Nil W w' := by
  by_cases hn : 60 < n ∨ 100 < room
  · exact plays_short room W hn
  · exact plays_long room h (by omega) (by omega)

set_option maxRecDepth 100000 in
theorem plays_lifted (os : Os) (started : os.Started) (H : Type) (enc : TypeId × Value → H) :
    ReturnsInHanded {} Try.checked os 3 .any (Rows.arenaPlaysSpec.pre6 enc Try.prog Try.f3 Rows.arenaPlaysRow.domain false) (Rows.arenaPlaysSpec.post enc Try.prog Try.f3 false true false false) := by
  refine returnsInHanded_of_change (C := Try.checked) own started (by kernel_rfl) Try.func3
    (ChangeSpec.witness6 (enc := enc) (C := Try.checked) false ⟨#[], #[.int .i64 0, .slice none 0 0], []⟩ 8 (by kernel_rfl) (by kernel_rfl) (by kernel_rfl) (by kernel_rfl)) ?_
  intro W base args ds gs before hval0 hW _ _
  have hval : ∀ (j : Nat) t v, Try.f3.params[j]? = some t → args[j]? = some v → Value.okWide Try.prog W .any base t v := hval0
  have hW2 : DataW.Whole enc Try.prog Try.f3.params.toList Rows.arenaPlaysSpec.vars false W args.toList ds gs before := hW
  obtain ⟨p, q, hA0, _, _, _, _⟩ := hW
  have hA : DataW.TrodAll enc Try.prog W 0 (fun _ => true) true Try.f3.params.toList args.toList ds p := hA0
  rw [Try.params3] at hA hval
  obtain ⟨v0, v1, d0, d1, p0, p1, rfl, rfl, rfl, h0, h1⟩ := trodAll_two hA
  obtain ⟨room, rfl, rfl, rfl, w0⟩ := open_int Try.underlying3 (hval 0 3 v0 rfl rfl) h0
  obtain ⟨L, n, cap, K, P, X, Y, rfl, hacts⟩ := acts_of (hval 1 22 v1 rfl rfl) h1
  refine (plays_walk room hacts).mono fun e W' ⟨he, hk⟩ => ?_
  exact ⟨_, he, law_post laidOut hW2 rfl rfl Try.underlying4 (by rw [Try.params3]; decide +kernel) rfl hk.toBelow⟩

/-- THE STATEMENT. -/
theorem plays_holds : Rows.ArenaPlaysSaid :=
  OpenClaim.holds_of_wide 3 Try.f3 rfl rfl rfl rfl rfl rfl rfl ⟨rfl, rfl, rfl, rfl, rfl⟩ rfl rfl rfl rfl rfl (by kernel_rfl) Try.func3 (by kernel_rfl)
    (of_decide_eq_true (by kernel_rfl)) (by unfold Func.isWrapper; first | (rw [if_pos (by decide +kernel)]; kernel_rfl) | (rw [if_neg (by decide +kernel)]; exact ⟨rfl, rfl⟩))
    (fun os started H enc _ => plays_lifted os started H enc)
end Go.Proofs.Ytgljgdnnpmaigaa
