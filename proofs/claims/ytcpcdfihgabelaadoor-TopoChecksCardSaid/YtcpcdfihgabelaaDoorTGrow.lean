/- An even tree, grown level by level. Plain: no program. -/
import Derived.Test.YtcpcdfihgabelaaDoorTTree
namespace Go.Proofs.YtcpcdfihgabelaaDoor

/-- B, then the first j numbers of L, p times each, then the next one i times. -/
def fl (B L : List Int) (p j i : Nat) : List Int := B ++ ((L.take j).flatMap (fun x => List.replicate p x) ++ List.replicate i (L.getD j 0))
/-- Each number of L p times. -/
def each (L : List Int) (p : Nat) : List Int := L.flatMap fun x => List.replicate p x
/-- The places from f to n. -/
def lv (f n : Nat) : List Int := (List.range' f (n - f)).map Int.ofNat
/-- The parents behind k parts, and where the last level begins. -/
def gk (parts : List Int) : Nat → List Int × Nat
  | 0 => ([-1], 0)
  | k + 1 => ((gk parts k).1 ++ each (lv (gk parts k).2 (gk parts k).1.length) (parts.getD k 0).toNat, (gk parts k).1.length)
def evP (parts : List Int) : List Int := (gk parts parts.length).1
def evT (parts : List Int) (th : Int) : List Int := each (lf (evP parts)) th.toNat
def bad (parts : List Int) (th : Int) : Bool := decide (th < 1) || parts.any fun x => decide (x < 1)
/-- What Even answers. -/
def evE (parts : List Int) (th : Int) : Int := if bad parts th = true then 1 else chk (evP parts) (evT parts th)

section
variable {B L : List Int} {p j i f n k : Nat}
theorem lv_len : (lv f n).length = n - f := by simp [lv]
theorem lv_get (h : j < n - f) : (lv f n).getD j 0 = ((f + j : Nat) : Int) := by
  unfold lv
  simp [List.getD, h]
theorem lv_mem {x : Int} : x ∈ lv f n ↔ ∃ v : Nat, x = v ∧ f ≤ v ∧ v < n := by
  unfold lv
  simp only [List.mem_map, List.mem_range'_1]
  constructor
  · rintro ⟨v, h1, rfl⟩
    exact ⟨v, rfl, by omega, by omega⟩
  · rintro ⟨v, rfl, h1, h2⟩
    exact ⟨v, by omega, rfl⟩
theorem lv_next (h : f ≤ n) : lv f (n + 1) = lv f n ++ [(n : Int)] := by
  unfold lv
  rw [show n + 1 - f = n - f + 1 by omega, List.range'_1_concat, List.map_append, show f + (n - f) = n by omega]
  rfl
theorem fl_start : fl B L p 0 0 = B := by simp [fl]
theorem fl_more : fl B L p j (i + 1) = fl B L p j i ++ [L.getD j 0] := by
  unfold fl
  rw [List.replicate_succ']
  simp only [List.append_assoc]
theorem fl_next (h : j < L.length) : fl B L p (j + 1) 0 = fl B L p j p := by
  unfold fl
  rw [List.take_succ_eq_append_getElem h, List.flatMap_append]
  simp [List.getD, h]
theorem fl_all : fl B L p L.length 0 = B ++ each L p := by simp [fl, each]
theorem each_len : (each L p).length = L.length * p := by
  unfold each
  induction L with
  | nil => simp
  | cons x t ih =>
    rw [List.flatMap_cons, List.length_append, ih, List.length_replicate, List.length_cons, Nat.succ_mul, Nat.add_comm]
theorem fl_len (h : j ≤ L.length) : (fl B L p j i).length = B.length + j * p + i := by
  unfold fl
  have := @each_len (L.take j) p
  unfold each at this
  rw [List.length_append, List.length_append, this, List.length_replicate, List.length_take, Nat.min_eq_left h]
  omega
theorem fl_le (h : j < L.length) (hi : i ≤ p) : (fl B L p j i).length ≤ (B ++ each L p).length := by
  rw [fl_len (Nat.le_of_lt h), List.length_append, each_len]
  have : (j + 1) * p ≤ L.length * p := Nat.mul_le_mul_right _ h
  rw [Nat.succ_mul] at this
  omega
theorem each_mem {x : Int} : x ∈ each L p ↔ x ∈ L ∧ 0 < p := by
  unfold each
  simp [List.mem_flatMap]
  intro _
  omega
end

section
variable {P Q : List Int} {k v : Nat}
theorem dl_append (h : k ≤ P.length) : dl (P ++ Q) k = dl P k := by
  induction k with
  | zero => rfl
  | succ k ih =>
    have e : (P ++ Q).getD k 0 = P.getD k 0 := by
      simp only [List.getD_eq_getElem?_getD]
      rw [List.getElem?_append_left (by omega)]
    rw [dl, dl, ih (by omega), e]
theorem dv_append (h : v < P.length) : dv (P ++ Q) v = dv P v := by
  unfold dv
  rw [dl_append h]
theorem getD_left (h : v < P.length) : (P ++ Q).getD v 0 = P.getD v 0 := by
  simp only [List.getD_eq_getElem?_getD]
  rw [List.getElem?_append_left h]
theorem getD_right (h : P.length ≤ v) (h2 : v < (P ++ Q).length) : (P ++ Q).getD v 0 ∈ Q := by
  simp only [List.getD_eq_getElem?_getD]
  rw [List.getElem?_append_right h]
  rw [List.length_append] at h2
  have : v - P.length < Q.length := by omega
  simp [this]
end

section
variable {parts : List Int} {k m : Nat}
theorem gk_step : (gk parts k).1.length ≤ (gk parts (k + 1)).1.length := by
  show _ ≤ ((gk parts k).1 ++ _).length
  rw [List.length_append]
  omega
theorem gk_mono (h : k ≤ m) : (gk parts k).1.length ≤ (gk parts m).1.length := by
  induction m with
  | zero =>
    obtain rfl : k = 0 := by omega
    exact Nat.le_refl _
  | succ m ih =>
    rcases Nat.lt_or_ge m k with h1 | h1
    · obtain rfl : k = m + 1 := by omega
      exact Nat.le_refl _
    · exact Nat.le_trans (ih h1) gk_step
/-- What is known of a tree that has grown. -/
structure Grown (P : List Int) (f : Nat) (k : Nat) : Prop where
  lt : f < P.length
  form : formB P = true
  low : ∀ x ∈ P, x < (f : Int)
  full : ∀ v : Nat, v < f → (v : Int) ∈ P
  deep : ∀ v : Nat, f ≤ v → v < P.length → dv P v = (k : Int) + 1
theorem Grown.start : Grown [-1] 0 0 := by
  refine ⟨by decide, by decide, fun x hx => by simp at hx; subst hx; decide, fun v hv => absurd hv (Nat.not_lt_zero _), fun v _ h => ?_⟩
  obtain rfl : v = 0 := by simp at h; exact h
  decide
theorem Grown.step {P : List Int} {f k p : Nat} (h : Grown P f k) (hp : 0 < p) : Grown (P ++ each (lv f P.length) p) P.length (k + 1) := by
  have hlt := h.lt
  have hl : (P ++ each (lv f P.length) p).length = P.length + (P.length - f) * p := by rw [List.length_append, each_len, lv_len]
  have hpos : 0 < (P.length - f) * p := Nat.mul_pos (by omega) hp
  have hpar : ∀ v, P.length ≤ v → v < (P ++ each (lv f P.length) p).length → ∃ u : Nat, (P ++ each (lv f P.length) p).getD v 0 = u ∧ f ≤ u ∧ u < P.length := fun v h1 h2 => lv_mem.1 (each_mem.1 (getD_right h1 h2)).1
  have hform : formB (P ++ each (lv f P.length) p) = true := by
    refine form_ok fun v hv => ?_
    rcases Nat.lt_or_ge v P.length with h1 | h1
    · have := formB_at h.form h1
      unfold formAt at this ⊢
      rw [getD_left h1, getD_left (by omega)]
      exact this
    · obtain ⟨u, hu, h2, h3⟩ := hpar v h1 hv
      unfold formAt
      rw [if_neg (by omega), hu]
      simp
      omega
  refine ⟨by omega, hform, fun x hx => ?_, fun v hv => ?_, fun v h1 h2 => ?_⟩
  · rcases List.mem_append.1 hx with h1 | h1
    · have := h.low x h1
      omega
    · obtain ⟨u, rfl, _, h3⟩ := lv_mem.1 (each_mem.1 h1).1
      omega
  · rcases Nat.lt_or_ge v f with h1 | h1
    · exact List.mem_append.2 (.inl (h.full v h1))
    · exact List.mem_append.2 (.inr (each_mem.2 ⟨lv_mem.2 ⟨v, rfl, h1, hv⟩, hp⟩))
  · obtain ⟨u, hu, h3, h4⟩ := hpar v h1 h2
    rw [dv_par hform h2 (by omega), hu, Int.toNat_natCast, dv_append h4, h.deep u h3 h4]
    omega
theorem grown (h : ∀ x ∈ parts, 1 ≤ x) (hk : k ≤ parts.length) : Grown (gk parts k).1 (gk parts k).2 k := by
  induction k with
  | zero => exact Grown.start
  | succ k ih =>
    have hm : parts.getD k 0 ∈ parts := by simp [List.getD, show k < parts.length by omega]
    have := h _ hm
    exact (ih (by omega)).step (by omega)
theorem Grown.none {P : List Int} {f k : Nat} (h : Grown P f k) {m : Nat} (hm : m ≤ f) : lfk P m = [] := by
  induction m with
  | zero => rfl
  | succ m ih =>
    rw [lfk_no, ih (by omega)]
    unfold lfB
    rw [List.contains_iff_mem.2 (h.full m (by omega))]
    rfl
theorem Grown.leaves {P : List Int} {f k : Nat} (h : Grown P f k) : lf P = lv f P.length := by
  have key : ∀ m, f ≤ m → lfk P m = lv f m := by
    intro m hm
    induction m with
    | zero =>
      obtain rfl : f = 0 := by omega
      rfl
    | succ m ih =>
      rcases Nat.lt_or_ge m f with h1 | h1
      · obtain rfl : f = m + 1 := by omega
        rw [h.none (Nat.le_refl _)]
        simp [lv]
      · rw [lfk_yes, ih h1, lv_next h1]
        unfold lfB
        cases hc : P.contains (m : Int) with
        | false => rfl
        | true =>
          have := h.low _ (List.contains_iff_mem.1 hc)
          omega
  exact key _ (Nat.le_of_lt h.lt)
theorem Grown.depth {P : List Int} {f k : Nat} (h : Grown P f k) : d0 P = (k : Int) + 1 := by
  unfold d0
  have hlt := h.lt
  rw [h.leaves]
  have : (lv f P.length).headD 0 = (f : Int) := by
    have h1 := @lv_get 0 f P.length (by omega)
    have h2 : (lv f P.length).headD 0 = (lv f P.length).getD 0 0 := by cases lv f P.length <;> rfl
    rw [h2, h1]
    rfl
  rw [this, Int.toNat_natCast]
  exact h.deep f (Nat.le_refl _) hlt
theorem step_long {P : List Int} {f k p : Nat} (h : Grown P f k) : P.length + p ≤ (P ++ each (lv f P.length) p).length := by
  rw [List.length_append, each_len, lv_len]
  have hlt := h.lt
  have : 1 * p ≤ (P.length - f) * p := Nat.mul_le_mul_right _ (by omega)
  omega
theorem good_parts {th : Int} (h : bad parts th = false) : 1 ≤ th ∧ ∀ x ∈ parts, 1 ≤ x := by
  unfold bad at h
  rw [Bool.or_eq_false_iff] at h
  obtain ⟨h1, h2⟩ := h
  refine ⟨by simpa using h1, fun x hx => ?_⟩
  have := List.any_eq_false.1 h2 x hx
  simpa using this
/-- Too many places, or too many threads. -/
theorem ev_many {th : Int} (h : bad parts th = false) (hm : 32 < (evP parts).length ∨ 32 < th * (lf (evP parts)).length) : evE parts th = 8 := by
  unfold evE
  rw [if_neg (by simp [h])]
  refine chk_many fun ⟨_, h2, _, h4⟩ => ?_
  rcases hm with hm | hm
  · omega
  · have hg := (good_parts h).1
    have : (evT parts th).length = (lf (evP parts)).length * th.toNat := each_len
    rw [this] at h4
    have h5 : (((lf (evP parts)).length * th.toNat : Nat) : Int) = th * (lf (evP parts)).length := by
      rw [Int.natCast_mul, Int.mul_comm, Int.toNat_of_nonneg (by omega)]
    omega
theorem ev_bad {th : Int} (h : bad parts th = true) : evE parts th = 1 := if_pos h
theorem ev_chk {th : Int} (h : bad parts th = false) : evE parts th = chk (evP parts) (evT parts th) := by
  unfold evE
  rw [if_neg (by simp [h])]
theorem ev_depth {th : Int} (h : bad parts th = false) : d0 (evP parts) = (parts.length : Int) + 1 := (grown (good_parts h).2 (Nat.le_refl _)).depth
end
end Go.Proofs.YtcpcdfihgabelaaDoor
