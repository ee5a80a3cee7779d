/- RingOrder: whatever things are pushed, and however many are popped behind each, they come out as they came in, each once; on every input the law returns true and leaves its arguments as they were. No condition. -/
import Derived.Test.YtfdndpbogljjeaaGOpens
import Derived.Test.YtfdndpbogljjeaaGOrder
namespace Go.Proofs.Ytfdndpbogljjeaa
open Go.ChangeShapes Go.WideShapes Go.ChangeAt Go.RowKit Go.Deep

theorem order_walk {W : World} {L T : Option Addr} {cl ct : Nat} {l ts : List Int} (hl : Nums W (.slice L l.length cl) l) (ht : Bytes W (.slice T ts.length ct) ts) : Calls Try.prog 4 #[.slice L l.length cl, .slice T ts.length ct] W fun e w' => e = .returned (.bool true) ∧ Kept Nil W w' := by
  by_cases h : 60 < l.length ∨ 100 < ts.length
  · exact order_short _ _ h
  · exact order_long hl ht (by omega) (by omega)

set_option maxRecDepth 100000 in
theorem order_lifted (os : Os) (started : os.Started) (H : Type) (enc : TypeId × Value → H) :
    ReturnsInHanded {} Try.checked os 4 .any (Rows.ringOrderSpec.pre6 enc Try.prog Try.f4 Rows.ringOrderRow.domain false) (Rows.ringOrderSpec.post enc Try.prog Try.f4 false true false false) := by
  refine returnsInHanded_of_change (C := Try.checked) own started (by kernel_rfl) Try.func4
    (ChangeSpec.witness6 (enc := enc) (C := Try.checked) false ⟨#[], #[.slice none 0 0, .slice none 0 0], []⟩ 8 (by kernel_rfl) (by kernel_rfl) (by kernel_rfl) (by kernel_rfl)) ?_
  intro W base args ds gs before hval0 hW _ _
  have hval : ∀ (j : Nat) t v, Try.f4.params[j]? = some t → args[j]? = some v → Value.okWide Try.prog W .any base t v := hval0
  have hW2 : DataW.Whole enc Try.prog Try.f4.params.toList Rows.ringOrderSpec.vars false W args.toList ds gs before := hW
  obtain ⟨p, q, hA0, _, _, _, _⟩ := hW
  have hA : DataW.TrodAll enc Try.prog W 0 (fun _ => true) true Try.f4.params.toList args.toList ds p := hA0
  rw [Try.params4] at hA hval
  obtain ⟨v0, v1, d0, d1, p0, p1, rfl, rfl, rfl, h0, h1⟩ := trodAll_two hA
  obtain ⟨l, L, cl, rfl, hl⟩ := ints_arg (hval 0 23 v0 rfl rfl) h0
  obtain ⟨ts, T, ct, rfl, ht⟩ := bytes_arg (hval 1 39 v1 rfl rfl) h1
  refine (order_walk hl ht).mono fun e W' ⟨he, hk⟩ => ?_
  exact ⟨_, he, law_post laidOut hW2 rfl rfl Try.underlying4 (by rw [Try.params4]; decide +kernel) rfl hk.toBelow⟩

/-- THE STATEMENT. -/
theorem order_holds : Rows.RingOrderSaid :=
  OpenClaim.holds_of_wide 4 Try.f4 rfl rfl rfl rfl rfl rfl rfl ⟨rfl, rfl, rfl, rfl, rfl⟩ rfl rfl rfl rfl rfl (by kernel_rfl) Try.func4 (by kernel_rfl)
    (of_decide_eq_true (by kernel_rfl)) (by unfold Func.isWrapper; first | (rw [if_pos (by decide +kernel)]; kernel_rfl) | (rw [if_neg (by decide +kernel)]; exact ⟨rfl, rfl⟩))
    (fun os started H enc _ => order_lifted os started H enc)
end Go.Proofs.Ytfdndpbogljjeaa
