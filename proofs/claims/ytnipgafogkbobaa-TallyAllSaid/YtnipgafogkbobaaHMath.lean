/- The automaton of readers and writers, plain: what each thread is at and whether as a reader, who is in, what an event is told. It speaks of no program. -/
import Derived.Test.YtnipgafogkbobaaUMath
namespace Go.Proofs.Ytnipgafogkbobaa

/-- What a thread is at, and whether as a reader. -/
abbrev Sd := Int × Bool
def z0 : Sd := (0, false)
/-- What an event makes of its thread's reading. -/
def rstp (e : Ev) (a : Bool) : Bool := if e.k = 1 then e.r else if e.k = 4 then false else a
/-- Does a thread read, behind events? -/
def rd (l : List Ev) (t : Int) : Bool := l.foldl (fun a e => if e.t = t then rstp e a else a) false
/-- All threads. -/
def sds (n : Nat) (l : List Ev) : List Sd := (List.range n).map fun (i : Nat) => (st l i, rd l i)
def wm (x : Sd) : Int := if x = (2, false) then 2 else 0
/-- The writer who is in. -/
def wri (A : List Sd) : Int := hol (A.map wm)
/-- How many are just so. -/
def cnt (x : Sd) (A : List Sd) : Nat := A.countP fun y => decide (y = x)
def rdn (A : List Sd) : Nat := cnt (2, true) A
def wrn (A : List Sd) : Nat := cnt (2, false) A
/-- What a thread must be ahead of an event of a kind. -/
def bef (k : Int) (r : Bool) : Sd := if k = 1 then z0 else (k - 1, r)
/-- What it is behind it. -/
def afr (k : Int) (r : Bool) : Sd := if k = 4 then z0 else (k, r)
/-- May it not be, on account of those who are in? -/
def shu (A : List Sd) (k : Int) (r : Bool) : Int := if k = 2 ∧ (0 ≤ wri A ∨ r = false ∧ 0 < rdn A) then 5 else 0
/-- Why an event of a thread there is may not be. -/
def swhy (A : List Sd) (k t : Int) (r : Bool) : Int :=
  if k = 1 then (if (A.getD t.toNat z0).1 = 0 then 0 else 5) else if (A.getD t.toNat z0).1 ≠ k - 1 then 6 else if r ≠ (A.getD t.toNat z0).2 then 7 else shu A k r
/-- What an event is told. -/
def sdof (A : List Sd) (e : Ev) : Int :=
  if e.k < 0 ∨ 5 < e.k then 7 else if e.k = 0 ∨ e.k = 5 then 0 else if e.t < 0 ∨ (A.length : Int) ≤ e.t then 4 else swhy A e.k e.t e.r
/-- What all are behind it. -/
def smov (A : List Sd) (e : Ev) : List Sd := if sdof A e = 0 ∧ 1 ≤ e.k ∧ e.k ≤ 4 then A.set e.t.toNat (afr e.k e.r) else A
/-- What one thread is. -/
def ssta (A : List Sd) (t : Int) : Sd := if 0 ≤ t ∧ t < A.length then A.getD t.toNat z0 else z0
/-- The place of the first event that may not be, and why. -/
def srun : List Sd → List Ev → Nat → Int × Int
  | _, [], i => (i, 0)
  | A, e :: l, i => if sdof A e = 0 then srun (smov A e) l (i + 1) else (i, sdof A e)
/-- Who is at rest reads not. -/
def Wf (A : List Sd) : Prop := ∀ x ∈ A, x.1 = 0 → x = z0
/-- A writer is in alone. -/
def Al (A : List Sd) : Prop := wrn A ≤ 1 ∧ (wrn A = 1 → rdn A = 0)

section
variable {A : List Sd} {l : List Ev} {e : Ev} {n k : Nat} {t : Int} {x y : Sd} {r : Bool}
theorem rd_nil : rd [] t = false := rfl
theorem rd_snoc : rd (l ++ [e]) t = if e.t = t then rstp e (rd l t) else rd l t := by
  unfold rd
  rw [List.foldl_append]
  rfl
theorem rd_rest : st l t = 0 → rd l t = false := by
  refine by_last (P := fun l => st l t = 0 → rd l t = false) (fun _ => rfl) (fun l e ih => ?_) l
  show st (l ++ [e]) t = 0 → rd (l ++ [e]) t = false
  rw [st_snoc, rd_snoc]
  by_cases ht : e.t = t
  · rw [if_pos ht, if_pos ht]
    unfold stp rstp
    by_cases h1 : e.k = 1
    · rw [if_pos h1]
      intro h
      omega
    · rw [if_neg h1, if_neg h1]
      by_cases h4 : e.k = 4
      · rw [if_pos h4, if_pos h4]
        intro _
        rfl
      · rw [if_neg h4, if_neg h4]
        split
        · intro h
          omega
        · split
          · intro h
            omega
          · exact ih
  · rw [if_neg ht, if_neg ht]
    exact ih
theorem sds_len : (sds n l).length = n := by unfold sds; rw [List.length_map, List.length_range]
theorem sds_nil : sds n [] = List.replicate n z0 := by
  unfold sds
  apply List.ext_getElem
  · simp
  · intro i _ _
    simp [st_nil, rd_nil, z0]
theorem sds_at (h : k < n) : (sds n l).getD k z0 = (st l k, rd l k) := by
  unfold sds
  simp [List.getD, h]
theorem wf_sds : Wf (sds n l) := by
  intro x hx h
  unfold sds at hx
  rw [List.mem_map] at hx
  obtain ⟨i, _, rfl⟩ := hx
  have h : st l i = 0 := h
  rw [h, rd_rest h]
  rfl
theorem wf_zero : Wf (List.replicate n z0) := by
  intro x hx _
  exact List.eq_of_mem_replicate hx
theorem wf_at (hw : Wf A) (h : k < A.length) (h0 : (A.getD k z0).1 = 0) : A.getD k z0 = z0 := by
  refine hw _ ?_ h0
  simp [List.getD, h]
theorem sds_set (h0 : 0 ≤ e.t) (_ : e.t < n) (hk : 1 ≤ e.k ∧ e.k ≤ 4) (hr : e.k ≠ 1 → e.r = rd l e.t) : sds n (l ++ [e]) = (sds n l).set e.t.toNat (afr e.k e.r) := by
  unfold sds
  apply List.ext_getElem
  · simp
  · intro i h2 h3
    simp only [List.getElem_map, List.getElem_range, List.getElem_set]
    rw [st_snoc, rd_snoc]
    have h2 : i < n := by simpa using h2
    by_cases hi : e.t.toNat = i
    · have ht : e.t = (i : Int) := by omega
      rw [if_pos hi, if_pos ht, if_pos ht]
      unfold stp rstp afr z0
      rw [ht] at hr
      rcases (show e.k = 1 ∨ e.k = 2 ∨ e.k = 3 ∨ e.k = 4 by omega) with h | h | h | h
      · rw [h]; rfl
      · rw [h] at hr ⊢
        rw [hr (by decide)]
        rfl
      · rw [h] at hr ⊢
        rw [hr (by decide)]
        rfl
      · rw [h]; rfl
    · have ht : ¬ e.t = (i : Int) := by omega
      rw [if_neg hi, if_neg ht, if_neg ht]
theorem sds_same (hk : e.k = 0 ∨ e.k = 5) : sds n (l ++ [e]) = sds n l := by
  unfold sds
  apply List.map_congr_left
  intro i _
  rw [st_snoc, rd_snoc]
  unfold stp rstp
  by_cases ht : e.t = (i : Int)
  · rw [if_pos ht, if_pos ht, if_neg (by omega), if_neg (by omega), if_neg (by omega), if_neg (by omega), if_neg (by omega), if_neg (by omega)]
  · rw [if_neg ht, if_neg ht]
theorem ssta_at (h : k < A.length) : ssta A k = A.getD k z0 := by
  unfold ssta
  rw [if_pos (by omega), Int.toNat_natCast]
theorem ssta_out (h : ¬ (0 ≤ t ∧ t < A.length)) : ssta A t = z0 := if_neg h
theorem rd_out (h : ∀ e ∈ l, e.t ≠ t) : rd l t = false := by
  revert h
  refine by_last (P := fun l => (∀ e ∈ l, e.t ≠ t) → rd l t = false) (fun _ => rfl) (fun l e ih h => ?_) l
  rw [rd_snoc, if_neg (h e (by simp)), ih (fun x hx => h x (by simp [hx]))]
theorem ssta_sds (h : ∀ e ∈ l, 0 ≤ e.t ∧ e.t < n) : ssta (sds n l) t = (st l t, rd l t) := by
  by_cases ht : 0 ≤ t ∧ t < n
  · unfold ssta
    rw [sds_len, if_pos ht, sds_at (by omega)]
    rw [Int.toNat_of_nonneg ht.1]
  · have ho : ∀ e ∈ l, e.t ≠ t := fun e he => by have := h e he; omega
    rw [ssta_out (by rw [sds_len]; exact ht), st_out ho, rd_out ho]
    rfl
theorem sdof_kind (h : e.k < 0 ∨ 5 < e.k) : sdof A e = 7 := if_pos h
theorem sdof_ok (h : e.k = 0 ∨ e.k = 5) : sdof A e = 0 := by
  unfold sdof
  rw [if_neg (by omega), if_pos h]
theorem sdof_none (h : 1 ≤ e.k ∧ e.k ≤ 4) (ht : e.t < 0 ∨ (A.length : Int) ≤ e.t) : sdof A e = 4 := by
  unfold sdof
  rw [if_neg (by omega), if_neg (by omega), if_pos ht]
theorem sdof_why (h : 1 ≤ e.k ∧ e.k ≤ 4) (ht : 0 ≤ e.t ∧ e.t < A.length) : sdof A e = swhy A e.k e.t e.r := by
  unfold sdof
  rw [if_neg (by omega), if_neg (by omega), if_neg (by omega)]
theorem smov_err (h : sdof A e ≠ 0) : smov A e = A := if_neg (fun z => h z.1)
theorem smov_still (h : ¬ (1 ≤ e.k ∧ e.k ≤ 4)) : smov A e = A := if_neg (fun z => h z.2)
theorem smov_yes (h : sdof A e = 0) (hk : 1 ≤ e.k ∧ e.k ≤ 4) : smov A e = A.set e.t.toNat (afr e.k e.r) := if_pos ⟨h, hk⟩
theorem smov_len : (smov A e).length = A.length := by
  unfold smov
  split
  · rw [List.length_set]
  · rfl
theorem afr_wf {k : Int} (hk : 1 ≤ k) (h : (afr k r).1 = 0) : afr k r = z0 := by
  unfold afr at h ⊢
  split
  · rfl
  · rename_i h4
    rw [if_neg h4] at h
    have h : k = 0 := h
    omega
theorem wf_mov (hw : Wf A) : Wf (smov A e) := by
  unfold smov
  split
  · rename_i h
    intro x hx h0
    rcases List.mem_or_eq_of_mem_set hx with h1 | h1
    · exact hw x h1 h0
    · rw [h1] at h0 ⊢
      exact afr_wf h.2.1 h0
  · exact hw
/-- What may be is of a kind, of a thread there is. -/
theorem sdof_in (h : sdof A e = 0) : (e.k = 0 ∨ e.k = 5) ∨ (1 ≤ e.k ∧ e.k ≤ 4 ∧ 0 ≤ e.t ∧ e.t < A.length ∧ swhy A e.k e.t e.r = 0) := by
  unfold sdof at h
  split at h
  · omega
  · rename_i h1
    split at h
    · rename_i h2
      exact .inl h2
    · split at h
      · omega
      · exact .inr ⟨by omega, by omega, by omega, by omega, h⟩
/-- What it asks of its thread and of those who are in. -/
theorem swhy_in {k : Int} (h : swhy A k t r = 0) : A.getD t.toNat z0 = A.getD t.toNat z0 ∧ (k ≠ 1 → A.getD t.toNat z0 = (k - 1, r)) ∧ (k = 2 → wri A < 0 ∧ (r = false → rdn A = 0)) := by
  refine ⟨rfl, ?_⟩
  unfold swhy at h
  split at h
  · rename_i h1
    exact ⟨fun z => absurd h1 z, fun z => by omega⟩
  · rename_i h1
    split at h
    · omega
    · rename_i h2
      split at h
      · omega
      · rename_i h3
        refine ⟨fun _ => ?_, fun hk => ?_⟩
        · have h2 : (A.getD t.toNat z0).1 = k - 1 := Decidable.not_not.1 h2
          have h3 : r = (A.getD t.toNat z0).2 := Decidable.not_not.1 h3
          rw [h3, ← h2]
        · unfold shu at h
          split at h
          · omega
          · rename_i h4
            have h5 : ¬ 0 ≤ wri A := fun z => h4 ⟨hk, .inl z⟩
            refine ⟨by omega, fun hr => ?_⟩
            have h6 : ¬ 0 < rdn A := fun z => h4 ⟨hk, .inr ⟨hr, z⟩⟩
            omega
theorem smov_sds (h : sdof (sds n l) e = 0) : smov (sds n l) e = sds n (l ++ [e]) := by
  rcases sdof_in h with h1 | ⟨h1, h2, h3, h4, h5⟩
  · rw [smov_still (by omega), sds_same h1]
  · rw [sds_len] at h4
    rw [smov_yes h ⟨h1, h2⟩, sds_set h3 h4 ⟨h1, h2⟩ (fun hk => ?_)]
    have h6 := (swhy_in h5).2.1 hk
    rw [sds_at (by omega), Int.toNat_of_nonneg h3] at h6
    injection h6 with _ h7
    exact h7.symm
theorem srun_err (h : sdof A e ≠ 0) : srun A (e :: l) k = ((k : Int), sdof A e) := if_neg h
theorem srun_ok (h : sdof A e = 0) : srun A (e :: l) k = srun (smov A e) l (k + 1) := if_pos h

theorem wm_two : wm x = 2 ↔ x = (2, false) := by
  unfold wm
  split
  · rename_i h
    exact ⟨fun _ => h, fun _ => rfl⟩
  · rename_i h
    exact ⟨fun z => by omega, fun z => absurd z h⟩
theorem wm_at (h : k < A.length) : (A.map wm).getD k 0 = wm (A.getD k z0) := by simp [List.getD, h]
theorem wri_hit (h : k < A.length) (h2 : A.getD k z0 = (2, false)) (hn : ∀ j, j < k → A.getD j z0 ≠ (2, false)) : wri A = k :=
  hol_hit (by simpa using h) (by rw [wm_at h]; exact wm_two.2 h2) (fun j hj => by rw [wm_at (by omega)]; exact fun z => hn j hj (wm_two.1 z))
theorem wri_miss (hn : ∀ j, j < A.length → A.getD j z0 ≠ (2, false)) : wri A = -1 :=
  hol_miss (fun j hj => by
    have hj : j < A.length := by simpa using hj
    rw [wm_at hj]
    exact fun z => hn j hj (wm_two.1 z))
theorem wri_in : -1 ≤ wri A ∧ wri A < A.length := by
  have := hol_in (A := A.map wm)
  rw [List.length_map] at this
  exact this
theorem cnt_take (h : k < A.length) : cnt x (A.take (k + 1)) = cnt x (A.take k) + if A.getD k z0 = x then 1 else 0 := by
  unfold cnt
  rw [List.take_succ_eq_append_getElem h, List.countP_append, List.countP_singleton]
  simp [List.getD, h]
theorem cnt_nil : cnt x [] = 0 := rfl
theorem cnt_le : cnt x A ≤ A.length := List.countP_le_length
theorem cnt_zero : cnt x A = 0 ↔ ∀ j, j < A.length → A.getD j z0 ≠ x := by
  unfold cnt
  rw [List.countP_eq_zero]
  constructor
  · intro h j hj
    have := h (A.getD j z0) (by simp [List.getD, hj])
    simpa using this
  · intro h y hy
    obtain ⟨j, hj, rfl⟩ := List.getElem_of_mem hy
    have := h j hj
    simpa [List.getD, hj] using this
theorem wri_wrn : wri A = -1 ↔ wrn A = 0 := by
  unfold wrn
  rw [cnt_zero]
  constructor
  · intro h j hj z
    unfold wri at h
    rcases hol_cases (A.map wm) with ⟨_, h2⟩ | ⟨m, h1, _⟩
    · have := h2 j (by simpa using hj)
      rw [wm_at hj] at this
      exact this (wm_two.2 z)
    · omega
  · exact wri_miss
theorem cnt_set {v : Sd} (h : k < A.length) : cnt x (A.set k v) + (if A.getD k z0 = x then 1 else 0) = cnt x A + (if v = x then 1 else 0) := by
  induction A generalizing k with
  | nil => simp at h
  | cons a A ih =>
    unfold cnt at ih ⊢
    cases k with
    | zero =>
      rw [List.set_cons_zero, List.countP_cons, List.countP_cons]
      simp only [List.getD_cons_zero, decide_eq_true_eq]
      omega
    | succ k =>
      have := ih (k := k) (by simpa using h)
      rw [List.set_cons_succ, List.countP_cons, List.countP_cons]
      simp only [List.getD_cons_succ, decide_eq_true_eq]
      omega
theorem al_zero : Al (List.replicate n z0) := by
  have h : ∀ x : Sd, x ≠ z0 → cnt x (List.replicate n z0) = 0 := fun x hx => by
    rw [cnt_zero]
    intro j hj
    rw [List.length_replicate] at hj
    simp [List.getD, hj]
    exact fun z => hx z.symm
  unfold Al wrn rdn
  rw [h (2, false) (by decide), h (2, true) (by decide)]
  exact ⟨by omega, fun _ => rfl⟩
theorem al_mov (ha : Al A) : Al (smov A e) := by
  unfold smov
  split
  · rename_i h
    obtain ⟨h0, hk1, hk4⟩ := h
    rcases sdof_in h0 with h1 | ⟨_, _, ht0, ht1, hw⟩
    · omega
    · obtain ⟨_, hb, he⟩ := swhy_in hw
      have hlt : e.t.toNat < A.length := by omega
      have c1 := cnt_set (x := (2, false)) (v := afr e.k e.r) hlt
      have c2 := cnt_set (x := (2, true)) (v := afr e.k e.r) hlt
      unfold Al wrn rdn at ha ⊢
      by_cases h2 : e.k = 2
      · have h3 := hb (by omega)
        obtain ⟨h4, h5⟩ := he h2
        have h6 : wrn A = 0 := wri_wrn.1 (by have := wri_in (A := A); omega)
        unfold wrn at h6
        unfold rdn at h5
        rw [h2] at h3 c1 c2 ⊢
        rw [h3] at c1 c2
        have e1 : afr 2 e.r = (2, e.r) := rfl
        rw [e1] at c1 c2 ⊢
        cases hr : e.r with
        | false =>
          rw [hr] at c1 c2
          have h7 := h5 hr
          rw [if_neg (by decide), if_neg (by decide)] at c2
          rw [if_neg (by decide), if_pos rfl] at c1
          exact ⟨by omega, fun _ => by omega⟩
        | true =>
          rw [hr] at c1 c2
          rw [if_neg (by decide), if_neg (by decide)] at c1
          exact ⟨by omega, fun _ => by omega⟩
      · have hne : ∀ b : Bool, afr e.k e.r ≠ (2, b) := fun b z => by
          unfold afr z0 at z
          split at z
          · injection z with z _
            omega
          · injection z with z _
            omega
        rw [if_neg (hne _)] at c1 c2
        exact ⟨by omega, fun _ => by omega⟩
  · exact ha
theorem al_alone (ha : Al A) : ¬ (1 < wrn A) ∧ ¬ (wrn A = 1 ∧ 0 < rdn A) ∧ (0 ≤ wri A ↔ wrn A = 1) := by
  obtain ⟨h1, h2⟩ := ha
  have h3 := wri_wrn (A := A)
  have h4 := wri_in (A := A)
  refine ⟨by omega, fun ⟨a, b⟩ => by have := h2 a; omega, ?_⟩
  constructor
  · intro h
    have : wrn A ≠ 0 := fun z => by have := h3.2 z; omega
    omega
  · intro h
    have : wri A ≠ -1 := fun z => by have := h3.1 z; omega
    omega

/-- Without readers: a lock's threads, none of whom reads. -/
def pla (B : List Int) : List Sd := B.map fun a => (a, false)
variable {B : List Int}
theorem pla_len : (pla B).length = B.length := by unfold pla; rw [List.length_map]
theorem pla_at (h : k < B.length) : (pla B).getD k z0 = (B.getD k 0, false) := by
  unfold pla
  simp [List.getD, h]
theorem pla_zero : pla (List.replicate n 0) = List.replicate n z0 := by
  unfold pla z0
  rw [List.map_replicate]
theorem pla_rdn : rdn (pla B) = 0 := by
  unfold rdn
  rw [cnt_zero]
  intro j hj z
  rw [pla_len] at hj
  rw [pla_at hj] at z
  injection z with _ z
  cases z
theorem pla_wri : wri (pla B) = hol B := by
  unfold wri pla
  rw [List.map_map]
  induction B with
  | nil => rfl
  | cons a B ih =>
    rw [List.map_cons]
    unfold hol
    rw [ih]
    have : (wm ∘ fun a => ((a, false) : Sd)) a = 2 ↔ a = 2 := by
      show wm (a, false) = 2 ↔ a = 2
      rw [wm_two]
      constructor
      · intro h
        injection h with h
      · intro h
        rw [h]
    by_cases ha : a = 2
    · rw [if_pos (this.2 ha), if_pos ha]
    · rw [if_neg (fun z => ha (this.1 z)), if_neg ha]
theorem pla_why {k : Int} (ht : 0 ≤ t ∧ t < B.length) : swhy (pla B) k t false = why B k t := by
  unfold swhy why shu
  rw [pla_at (by omega), pla_wri, pla_rdn]
  by_cases h1 : k = 1
  · rw [if_pos h1, if_pos h1]
  · rw [if_neg h1, if_neg h1]
    by_cases h2 : B.getD t.toNat 0 = k - 1
    · rw [if_neg (fun z => z h2), if_neg (fun z => z rfl)]
      by_cases h3 : k = 2 ∧ 0 ≤ hol B
      · rw [if_pos ⟨h3.1, .inl h3.2⟩, if_neg (fun z => z h2), if_pos h3]
      · rw [if_neg (fun z => ?_), if_neg (fun z => z h2), if_neg h3]
        rcases z.2 with z2 | z2
        · exact h3 ⟨z.1, z2⟩
        · exact absurd z2.2 (by decide)
    · rw [if_pos h2, if_pos h2]
theorem pla_dof (hr : e.r = false) : sdof (pla B) e = dof B e := by
  by_cases h1 : e.k < 0 ∨ 5 < e.k
  · rw [sdof_kind h1, dof_kind (.inr h1)]
  · by_cases h2 : e.k = 0 ∨ e.k = 5
    · rw [sdof_ok h2, dof_ok hr h2]
    · by_cases h3 : e.t < 0 ∨ (B.length : Int) ≤ e.t
      · rw [sdof_none (by omega) (by rw [pla_len]; exact h3), dof_none hr (by omega) h3]
      · rw [sdof_why (by omega) (by rw [pla_len]; omega), dof_why hr (by omega) (by omega), hr]
        exact pla_why (by omega)
theorem pla_mov (hr : e.r = false) : smov (pla B) e = pla (mov B e) := by
  unfold smov mov
  rw [pla_dof hr]
  split
  · rename_i h
    unfold pla
    rw [List.map_set, hr]
    congr 1
    unfold afr aft z0
    split <;> rfl
  · rfl
theorem wf_pla : Wf (pla B) := by
  intro x hx h
  unfold pla at hx
  rw [List.mem_map] at hx
  obtain ⟨a, _, rfl⟩ := hx
  have h : a = 0 := h
  rw [h]
  rfl
end
end Go.Proofs.Ytnipgafogkbobaa
