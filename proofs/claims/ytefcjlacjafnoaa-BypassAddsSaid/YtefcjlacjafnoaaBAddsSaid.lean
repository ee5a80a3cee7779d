/- BypassAdds: from place to place passes add up; on every input the law returns true and leaves its arguments as they were. No condition. -/
import Derived.Test.YtefcjlacjafnoaaBOpens
import Derived.Test.YtefcjlacjafnoaaBAdds
namespace Go.Proofs.Ytefcjlacjafnoaa
open Go.ChangeShapes Go.WideShapes Go.ChangeAt Go.RowKit Go.Deep

set_option maxRecDepth 100000 in
theorem badds_lifted (os : Os) (started : os.Started) (H : Type) (enc : TypeId × Value → H) :
    ReturnsInHanded {} Try.checked os 3 .any (Rows.bypassAddsSpec.pre6 enc Try.prog Try.f3 Rows.bypassAddsRow.domain false) (Rows.bypassAddsSpec.post enc Try.prog Try.f3 false true false false) := by
  refine returnsInHanded_of_change (C := Try.checked) own started (by kernel_rfl) Try.func3
    (ChangeSpec.witness6 (enc := enc) (C := Try.checked) false ⟨#[], #[.slice none 0 0, .slice none 0 0, .agg #[.int .u8 0, .int .u8 0, .int .u8 0, .int .u8 0]], []⟩ 8 (by kernel_rfl) (by kernel_rfl) (by kernel_rfl) (by kernel_rfl)) ?_
  intro W base args ds gs before hval0 hW _ _
  have hval : ∀ (j : Nat) t v, Try.f3.params[j]? = some t → args[j]? = some v → Value.okWide Try.prog W .any base t v := hval0
  have hW2 : DataW.Whole enc Try.prog Try.f3.params.toList Rows.bypassAddsSpec.vars false W args.toList ds gs before := hW
  obtain ⟨p, q, hA0, _, _, _, _⟩ := hW
  have hA : DataW.TrodAll enc Try.prog W 0 (fun _ => true) true Try.f3.params.toList args.toList ds p := hA0
  rw [Try.params3] at hA hval
  obtain ⟨v0, v1, v2, d0, d1, d2, p0, p1, p2, rfl, rfl, rfl, h0, h1, h2⟩ := trodAll_three hA
  obtain ⟨N, hn, hnw⟩ := open_nums_w Try.underlying22 Try.underlying3 cells_int (hval 0 22 v0 rfl rfl) h0
  obtain ⟨l, hl, hlw⟩ := evs_of_w (hval 1 23 v1 rfl rfl) h1
  obtain ⟨n0, n1, n2, n3, rfl, w0, w1, w2, w3⟩ := open_four8 Try.underlying24 Try.underlying5 cells_byte (by kernel_rfl) (hval 2 24 v2 rfl rfl) h2
  refine (badds_c w0 w1 w2 w3 hn hnw hl hlw).mono fun e W' ⟨he, hk⟩ => ?_
  exact ⟨_, he, law_post laidOut hW2 rfl rfl Try.underlying4 (by rw [Try.params3]; decide +kernel) rfl hk.toBelow⟩

/-- THE STATEMENT. -/
theorem badds_holds : Rows.BypassAddsSaid :=
  OpenClaim.holds_of_wide 3 Try.f3 rfl rfl rfl rfl rfl rfl rfl ⟨rfl, rfl, rfl, rfl, rfl⟩ rfl rfl rfl rfl rfl (by kernel_rfl) Try.func3 (by kernel_rfl)
    (of_decide_eq_true (by kernel_rfl)) (by unfold Func.isWrapper; first | (rw [if_pos (by decide +kernel)]; kernel_rfl) | (rw [if_neg (by decide +kernel)]; exact ⟨rfl, rfl⟩))
    (fun os started H enc _ => badds_lifted os started H enc)
end Go.Proofs.Ytefcjlacjafnoaa
