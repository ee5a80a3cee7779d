/- RingPlays: whatever is pushed, popped and cut, all that a row tells is as the document's row has it, and it is gone through in order as far as one likes; on every input the law returns true and leaves its arguments as they were. No condition. -/
import Derived.Test.YtfdndpbogljjeaaGOpens
import Derived.Test.YtfdndpbogljjeaaGPlays
namespace Go.Proofs.Ytfdndpbogljjeaa
open Go.ChangeShapes Go.WideShapes Go.ChangeAt Go.RowKit Go.Deep

theorem acts_of {H : Type} {enc : TypeId × Value → H} {W : World} {v : Value} {d : DataW H} {ps : List MemPlace} (hv : Value.okWide Try.prog W .any 0 42 v) (h : DataW.Trod enc Try.prog W 0 (fun _ => true) true 42 v d ps) :
    ∃ (L : Option Addr) (n cap : Nat) (K N : Nat → Int), v = .slice L n cap ∧ Acts W L n K N := by
  obtain ⟨A, len, cap, F, rfl, hF⟩ := open_int_structs Try.underlying42 Try.underlying44 (by kernel_rfl) (by kernel_rfl) (by decide) (by kernel_rfl) hv h
  refine ⟨A, len, cap, fun i => F i 0, fun i => F i 1, rfl, ⟨fun hp => ?_⟩⟩
  obtain ⟨b, o, rfl, hb, hc⟩ := hF hp
  refine ⟨b, o, rfl, hb, fun i hi => ⟨?_, ?_⟩⟩
  · simpa [Nat.add_assoc] using (hc i hi 0 (by decide)).1
  · simpa [Nat.add_assoc] using (hc i hi 1 (by decide)).1

theorem plays_walk {W : World} {L : Option Addr} {n cap : Nat} {K N : Nat → Int} (m : Int) (hm : 0 ≤ m ∧ m ≤ 255) (h : Acts W L n K N) : Calls Try.prog 5 #[.slice L n cap, .int .u8 m] W fun e w' => e = .returned (.bool true) ∧ Kept Nil W w' := by
  by_cases hn : 60 < n
  · exact plays_short m hn
  · exact plays_long m hm.1 hm.2 h (by omega)

set_option maxRecDepth 100000 in
theorem plays_lifted (os : Os) (started : os.Started) (H : Type) (enc : TypeId × Value → H) :
    ReturnsInHanded {} Try.checked os 5 .any (Rows.ringPlaysSpec.pre6 enc Try.prog Try.f5 Rows.ringPlaysRow.domain false) (Rows.ringPlaysSpec.post enc Try.prog Try.f5 false true false false) := by
  refine returnsInHanded_of_change (C := Try.checked) own started (by kernel_rfl) Try.func5
    (ChangeSpec.witness6 (enc := enc) (C := Try.checked) false ⟨#[], #[.slice none 0 0, .int .u8 0], []⟩ 8 (by kernel_rfl) (by kernel_rfl) (by kernel_rfl) (by kernel_rfl)) ?_
  intro W base args ds gs before hval0 hW _ _
  have hval : ∀ (j : Nat) t v, Try.f5.params[j]? = some t → args[j]? = some v → Value.okWide Try.prog W .any base t v := hval0
  have hW2 : DataW.Whole enc Try.prog Try.f5.params.toList Rows.ringPlaysSpec.vars false W args.toList ds gs before := hW
  obtain ⟨p, q, hA0, _, _, _, _⟩ := hW
  have hA : DataW.TrodAll enc Try.prog W 0 (fun _ => true) true Try.f5.params.toList args.toList ds p := hA0
  rw [Try.params5] at hA hval
  obtain ⟨v0, v1, d0, d1, p0, p1, rfl, rfl, rfl, h0, h1⟩ := trodAll_two hA
  obtain ⟨L, n, cap, K, N, rfl, hacts⟩ := acts_of (hval 0 42 v0 rfl rfl) h0
  obtain ⟨m, rfl, rfl, rfl, wm⟩ := open_int Try.underlying5 (hval 1 5 v1 rfl rfl) h1
  refine (plays_walk m (u8_of wm) hacts).mono fun e W' ⟨he, hk⟩ => ?_
  exact ⟨_, he, law_post laidOut hW2 rfl rfl Try.underlying4 (by rw [Try.params5]; decide +kernel) rfl hk.toBelow⟩

/-- THE STATEMENT. -/
theorem plays_holds : Rows.RingPlaysSaid :=
  OpenClaim.holds_of_wide 5 Try.f5 rfl rfl rfl rfl rfl rfl rfl ⟨rfl, rfl, rfl, rfl, rfl⟩ rfl rfl rfl rfl rfl (by kernel_rfl) Try.func5 (by kernel_rfl)
    (of_decide_eq_true (by kernel_rfl)) (by unfold Func.isWrapper; first | (rw [if_pos (by decide +kernel)]; kernel_rfl) | (rw [if_neg (by decide +kernel)]; exact ⟨rfl, rfl⟩))
    (fun os started H enc _ => plays_lifted os started H enc)
end Go.Proofs.Ytfdndpbogljjeaa
