/- Traces as stays, plain: who enters; how many there are. It speaks of no program. -/
import Derived.Test.YtefcjlacjafnoaaYMath
namespace Go.Proofs.Ytefcjlacjafnoaa

section
variable {S : List Sy} {l r : List Ev} {v : Ev} {s : Sy} {i j k : Nat} {t : Int}
/-! ### who enters -/
def yenA : List Sy → Nat → List Ev → List Int
  | _, _, [] => []
  | S, i, v :: r => (if v.k = 2 ∧ ytk S v = true then [v.t] else []) ++ yenA (ystp S i v) (i + 1) r
/-- The threads that enter, in order. -/
def yen (l : List Ev) : List Int := yenA [] 0 l
theorem yenA_snoc : yenA S i (l ++ [v]) = yenA S i l ++ if v.k = 2 ∧ ytk (yofA S i l) v = true then [v.t] else [] := by
  induction l generalizing S i with
  | nil => show _ ++ [] = [] ++ _; rw [List.append_nil, List.nil_append]; rfl
  | cons a l ih =>
    show _ ++ yenA (ystp S i a) (i + 1) (l ++ [v]) = _ ++ yenA (ystp S i a) (i + 1) l ++ _
    rw [ih, List.append_assoc]
    rfl
theorem yen_take (h : k < l.length) : yen (l.take (k + 1)) = yen (l.take k) ++ if (l.getD k e0).k = 2 ∧ ytk (yof (l.take k)) (l.getD k e0) = true then [(l.getD k e0).t] else [] := by
  rw [ev_take h]
  exact yenA_snoc
theorem ystp_len : (ystp S i v).length ≤ S.length + 1 := by
  unfold ystp
  rw [List.length_append, List.length_map]
  split
  · exact Nat.le_refl _
  · exact Nat.le_succ _
theorem yof_len : (yof l).length ≤ l.length := by
  refine by_last (P := fun l => (yof l).length ≤ l.length) (Nat.le_refl _) (fun l v ih => ?_) l
  show (yof (l ++ [v])).length ≤ (l ++ [v]).length
  rw [yof_snoc, List.length_append]
  exact Nat.le_trans ystp_len (by simp; omega)
theorem yen_len : (yen l).length ≤ l.length := by
  refine by_last (P := fun l => (yen l).length ≤ l.length) (Nat.le_refl _) (fun l v ih => ?_) l
  show (yenA [] 0 (l ++ [v])).length ≤ (l ++ [v]).length
  rw [yenA_snoc, List.length_append, List.length_append]
  have ih : (yenA [] 0 l).length ≤ l.length := ih
  split
  · simp; omega
  · simp; omega
end
end Go.Proofs.Ytefcjlacjafnoaa
