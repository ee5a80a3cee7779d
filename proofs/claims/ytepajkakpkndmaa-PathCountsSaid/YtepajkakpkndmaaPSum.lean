/- The mates of all nodes are all threads; slots tell the threads of a node apart. Plain: no program. -/
import Derived.Test.YtepajkakpkndmaaPRefs
namespace Go.Proofs.Ytepajkakpkndmaa

/-- The mates of the first n nodes. -/
def sm (L T : List Int) (n : Nat) : Nat := ((L.take n).map (cnt T)).sum
section
variable {L T P l : List Int} {n k : Nat} {x : Int}
theorem sm_zero : sm L T 0 = 0 := by simp [sm]
theorem sm_next (h : n < L.length) : sm L T (n + 1) = sm L T n + cnt T (L.getD n 0) := by
  unfold sm
  rw [List.take_succ_eq_append_getElem h, List.map_append, List.sum_append]
  simp [List.getD, h]
theorem sm_le : sm L T n ≤ n * T.length := by
  induction n with
  | zero => simp [sm]
  | succ n ih =>
    rcases Nat.lt_or_ge n L.length with h | h
    · rw [sm_next h, Nat.succ_mul]
      have := @cnt_le T (L.getD n 0)
      omega
    · have : sm L T (n + 1) = sm L T n := by unfold sm; rw [List.take_of_length_le (by omega), List.take_of_length_le h]
      rw [this, Nat.succ_mul]
      omega
theorem ones (hn : l.Nodup) : (l.map fun y => if x == y then 1 else 0).sum = if l.contains x = true then 1 else 0 := by
  induction l with
  | nil => rfl
  | cons y t ih =>
    have hn2 := List.nodup_cons.1 hn
    rw [List.map_cons, List.sum_cons, ih hn2.2]
    by_cases h : x = y
    · subst h
      have : t.contains x = false := by simpa using hn2.1
      rw [if_pos (by simp), if_neg (by rw [this]; decide), if_pos (by simp)]
    · have h2 : (x == y) = false := by simpa using h
      simp [h2, h]
theorem sum_two (f g : Int → Nat) : (l.map fun y => f y + g y).sum = (l.map f).sum + (l.map g).sum := by
  induction l with
  | nil => rfl
  | cons y t ih => simp only [List.map_cons, List.sum_cons, ih]; omega
theorem cnt_cons {t : Int} : cnt (t :: T) x = (if t == x then 1 else 0) + cnt T x := by
  unfold cnt
  by_cases h : t = x
  · subst h
    simp
    omega
  · have h2 : (t == x) = false := by simpa using h
    simp [h2]
theorem sum_all (hn : L.Nodup) (h : ∀ t ∈ T, t ∈ L) : (L.map (cnt T)).sum = T.length := by
  induction T with
  | nil =>
    have : (L.map (cnt [])) = L.map fun _ => 0 := List.map_congr_left fun _ _ => rfl
    rw [this]
    clear this hn h
    induction L with
    | nil => rfl
    | cons y t ih => simpa using ih
  | cons t T ih =>
    have e : (L.map (cnt (t :: T))) = L.map fun y => (if t == y then 1 else 0) + cnt T y := List.map_congr_left fun y _ => cnt_cons
    rw [e, sum_two, ones hn, ih (fun y hy => h y (List.mem_cons_of_mem _ hy))]
    have : L.contains t = true := List.contains_iff_mem.2 (h t (List.mem_cons_self ..))
    rw [if_pos this, List.length_cons]
    omega
theorem sm_all (hz : chk P T = 0) : sm (lf P) T (lf P).length = T.length := by
  unfold sm
  rw [List.take_length]
  exact sum_all (lf_nodup P) (chk_zero hz).2.2.2
theorem cnt_mono {a b : Nat} (h : a ≤ b) : cnt (T.take a) x ≤ cnt (T.take b) x := by
  have e : T.take a = (T.take b).take a := by rw [List.take_take, Nat.min_eq_left h]
  rw [e]
  exact ((List.take_sublist a (T.take b)).filter _).length_le
/-- What is told of one thread. -/
theorem one_of (hz : chk P T = 0) (hk : k < T.length) : ∃ s nd m : Nat, slotT T k = (s : Int) ∧ nodeT (lf P) T k = (nd : Int) ∧ matesT (lf P) T nd = (m : Int) ∧ s < m := by
  obtain ⟨nd, h1, h2, h3⟩ := node_at hz hk
  refine ⟨cnt (T.take k) (T.getD k 0), nd, cnt T (T.getD k 0), ?_, h1, ?_, ?_⟩
  · unfold slotT
    rw [if_pos (by omega), Int.toNat_natCast]
  · unfold matesT
    rw [if_pos (by omega), Int.toNat_natCast, h3]
  · have e := cnt_yes (l := T) hk rfl
    have := @cnt_mono T (T.getD k 0) (k + 1) T.length (by omega)
    rw [List.take_length] at this
    omega
/-- The same over ints. -/
theorem one_int (hz : chk P T = 0) (hk : k < T.length) : ∃ s nd m : Int, slotT T k = s ∧ nodeT (lf P) T k = nd ∧ matesT (lf P) T nd = m ∧ decide (s < 0) = false ∧ decide (m ≤ s) = false := by
  obtain ⟨s, nd, m, h1, h2, h3, h4⟩ := one_of hz hk
  exact ⟨s, nd, m, h1, h2, h3, by simp, by simp; omega⟩
/-- Two threads of one node have two slots. -/
theorem two_of {i : Nat} (hz : chk P T = 0) (hi : i < T.length) (hk : k < i) (h : nodeT (lf P) T i = nodeT (lf P) T k) : slotT T i ≠ slotT T k := by
  obtain ⟨a, h1, h2, h3⟩ := node_at hz hi
  obtain ⟨b, h4, h5, h6⟩ := node_at hz (k := k) (by omega)
  have : a = b := by omega
  subst this
  unfold slotT
  rw [if_pos (by omega), if_pos (by omega), Int.toNat_natCast, Int.toNat_natCast, ← h3, ← h6]
  have e := cnt_yes (l := T) (k := k) (x := (lf P).getD a 0) (by omega) h6.symm
  have := @cnt_mono T ((lf P).getD a 0) (k + 1) i (by omega)
  omega
end
end Go.Proofs.Ytepajkakpkndmaa
