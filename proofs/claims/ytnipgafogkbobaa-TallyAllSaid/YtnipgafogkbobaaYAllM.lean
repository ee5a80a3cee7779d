/- Of what an automaton takes each event is a stay's, plain. It speaks of no program. -/
import Derived.Test.YtnipgafogkbobaaYCount
import Derived.Test.YtnipgafogkbobaaHMath
namespace Go.Proofs.Ytnipgafogkbobaa

/-- What the automaton says of a thread whose stay is under way. -/
def yph (s : Sy) : Int := if s.e = -1 then 1 else if s.x = -1 then 2 else 3
/-- One more, or not. -/
def yon (x : Int) : Nat := if x = -1 then 0 else 1
/-- What is known of a trace that an automaton has taken. -/
structure Yal (L : List Ev) : Prop where
  ph : ∃ f, Yix f (yof L) ∧ ∀ t, (f t = none ∧ st L t = 0) ∨ ∃ k, f t = some k ∧ st L t = yph ((yof L).getD k s0)
  sum : ymn Sy.a (yof L) + ymn Sy.e (yof L) + ymn Sy.x (yof L) + ymn Sy.z (yof L) = L.length
  ent : (yen L).length = ymn Sy.e (yof L)
section
variable {S : List Sy} {L : List Ev} {v : Ev} {s : Sy} {i j k : Nat} {t : Int} {p : Sy → Int}
theorem ymn_snoc : ymn p (S ++ [s]) = ymn p S + yon (p s) := by
  unfold ymn yon
  rw [List.countP_append, List.countP_singleton]
  congr 1
  by_cases e : p s = -1
  · rw [if_pos e, if_neg (by simp [e])]
  · rw [if_neg e, if_pos (by simp [e])]
theorem ymn_set (h : k < S.length) : ymn p (S.set k s) + yon (p (S.getD k s0)) = ymn p S + yon (p s) := by
  have hone : ∀ (s : Sy) (S : List Sy), ymn p (s :: S) = ymn p S + yon (p s) := fun s S => by
    unfold ymn yon
    rw [List.countP_cons]
    congr 1
    by_cases e : p s = -1
    · rw [if_pos e, if_neg (by simp [e])]
    · rw [if_neg e, if_pos (by simp [e])]
  induction S generalizing k with
  | nil => simp at h
  | cons a S ih =>
    cases k with
    | zero =>
      show ymn p (s :: S) + yon (p a) = _
      rw [hone, hone]
      omega
    | succ k =>
      show ymn p (a :: S.set k s) + yon (p (S.getD k s0)) = _
      rw [hone, hone]
      have := ih (k := k) (by simpa using h)
      omega
theorem yon_none : yon (-1) = 0 := rfl
theorem yon_place {x : Int} (h : x ≠ -1) : yon x = 1 := if_neg h
theorem yal_nil : Yal [] := ⟨⟨_, yix_nil, fun _ => .inl ⟨rfl, rfl⟩⟩, rfl, rfl⟩
theorem yen_snoc : yen (L ++ [v]) = yen L ++ if v.k = 2 ∧ ytk (yof L) v = true then [v.t] else [] := yenA_snoc
theorem yph_in : 1 ≤ yph s ∧ yph s ≤ 3 := by
  unfold yph
  repeat' split
  all_goals omega
theorem Yal.snoc (h : Yal L) (hk : 1 ≤ v.k ∧ v.k ≤ 4) (hs : st L v.t = v.k - 1) : Yal (L ++ [v]) := by
  obtain ⟨⟨f, hf, hp⟩, hsum, hent⟩ := h
  have hst : ∀ t, st (L ++ [v]) t = if v.t = t then stp v.k (st L t) else st L t := fun t => st_snoc
  have hg : ∀ k, k < (yof L).length → Ygd L ((yof L).getD k s0) := fun k h => ygd_at h
  by_cases h1 : v.k = 1
  · -- it asks
    have hn : f v.t = none := by
      rcases hp v.t with h2 | ⟨k, _, h3⟩
      · exact h2.1
      · have := (yph_in (s := (yof L).getD k s0)).1
        omega
    obtain ⟨e1, e2⟩ := free_ask (i := L.length) hf hn h1
    refine ⟨⟨fput f v.t (yof L).length, by rw [yof_snoc, e1]; exact yix_ask hf hn, fun t => ?_⟩, ?_, ?_⟩
    · rw [yof_snoc, e1, hst]
      by_cases ht : v.t = t
      · subst ht
        refine .inr ⟨(yof L).length, fput_same, ?_⟩
        rw [if_pos rfl, h1, show (yof L ++ [ynew L.length v]).getD (yof L).length s0 = ynew L.length v by simp [List.getD]]
        rfl
      · rw [if_neg ht, fput_other (fun z => ht z.symm)]
        rcases hp t with h2 | ⟨k, h2, h3⟩
        · exact .inl h2
        · have hkl := ((hf t k).1 h2).1
          refine .inr ⟨k, h2, ?_⟩
          rw [h3, show (yof L ++ [ynew L.length v]).getD k s0 = (yof L).getD k s0 by simp only [List.getD_eq_getElem?_getD]; rw [List.getElem?_append_left hkl]]
    · rw [yof_snoc, e1, ymn_snoc, ymn_snoc, ymn_snoc, ymn_snoc, List.length_append, List.length_singleton, ← hsum]
      show ymn _ _ + yon (L.length : Int) + (ymn _ _ + yon (-1)) + (ymn _ _ + yon (-1)) + (ymn _ _ + yon (-1)) = _
      rw [yon_place (show ((L.length : Nat) : Int) ≠ -1 by omega), yon_none]
      omega
    · rw [yen_snoc, if_neg (by omega), List.append_nil, hent, yof_snoc, e1, ymn_snoc]
      rfl
  · -- its stay goes on
    obtain ⟨i, hi, hph⟩ : ∃ i, f v.t = some i ∧ v.k - 1 = yph ((yof L).getD i s0) := by
      rcases hp v.t with h2 | ⟨k, h2, h3⟩
      · omega
      · exact ⟨k, h2, by omega⟩
    obtain ⟨hil, hit, hiz⟩ := (hf v.t i).1 hi
    obtain ⟨e1, e2⟩ := open_at (i := L.length) hf hi
    have hgi := hg i hil
    generalize hso : (yof L).getD i s0 = s at *
    have hex : s.e = -1 → s.x = -1 := fun z => by rcases hgi.exit with h2 | ⟨h2, _⟩; exact h2; exact absurd z h2
    have hother : ∀ (f' : Int → Option Nat) (s' : Sy), (∀ u, u ≠ v.t → f' u = f u) → ∀ t, v.t ≠ t → (f' t = none ∧ st (L ++ [v]) t = 0) ∨ ∃ k, f' t = some k ∧ st (L ++ [v]) t = yph (((yof L).set i s').getD k s0) := fun f' s' h2 t ht => by
      rw [hst, if_neg ht, h2 t (fun z => ht z.symm)]
      rcases hp t with h3 | ⟨k, h3, h4⟩
      · exact .inl h3
      · obtain ⟨hkl, hkt, _⟩ := (hf t k).1 h3
        refine .inr ⟨k, h3, ?_⟩
        rw [sy_set hkl, if_neg (fun z => ht (by rw [← hit, ← hkt, ← hso, z]))]
        exact h4
    have hcount : ∀ (q : Sy → Int) (s' : Sy), ymn q ((yof L).set i s') + yon (q s) = ymn q (yof L) + yon (q s') := fun q s' => by
      have := ymn_set (p := q) (s := s') hil
      rw [hso] at this
      exact this
    have hlen : (L ++ [v]).length = L.length + 1 := by simp
    unfold yph at hph
    rcases (show v.k = 2 ∨ v.k = 3 ∨ v.k = 4 by omega) with h2 | h2 | h2
    · have he : s.e = -1 := by
        split at hph
        · assumption
        · split at hph <;> omega
      have hx := hex he
      have hu : yupd L.length v s = ⟨s.t, s.r, s.a, L.length, s.x, s.z, v.c⟩ := upd_two hit hiz h2 he
      have hh : yhit v s = true := by unfold yhit; rw [decide_eq_true_eq]; exact ⟨hit, hiz, .inl ⟨h2, he⟩⟩
      rw [hu] at e1
      have c1 := hcount Sy.a ⟨s.t, s.r, s.a, L.length, s.x, s.z, v.c⟩
      have c2 := hcount Sy.e ⟨s.t, s.r, s.a, L.length, s.x, s.z, v.c⟩
      have c3 := hcount Sy.x ⟨s.t, s.r, s.a, L.length, s.x, s.z, v.c⟩
      have c4 := hcount Sy.z ⟨s.t, s.r, s.a, L.length, s.x, s.z, v.c⟩
      have y1 : yon (s.e) = 0 := by rw [he]; rfl
      have y2 : yon ((L.length : Nat) : Int) = 1 := yon_place (by omega)
      simp only [y1, y2] at c1 c2 c3 c4
      refine ⟨⟨f, by rw [yof_snoc, e1]; exact yix_on hf (by rw [hso]) (by rw [hso]), fun t => ?_⟩, by rw [yof_snoc, e1, hlen]; omega, ?_⟩
      · rw [yof_snoc, e1]
        by_cases ht : v.t = t
        · subst ht
          refine .inr ⟨i, hi, ?_⟩
          rw [hst, if_pos rfl, h2, sy_set hil, if_pos rfl]
          show (2 : Int) = yph ⟨s.t, s.r, s.a, L.length, s.x, s.z, v.c⟩
          unfold yph
          rw [if_neg (by show ((L.length : Nat) : Int) ≠ -1; omega), if_pos hx]
        · exact hother f _ (fun _ _ => rfl) t ht
      · rw [yen_snoc, e2, hh, if_pos ⟨h2, rfl⟩, List.length_append, List.length_singleton, yof_snoc, e1, hent]
        omega
    · have he : s.e ≠ -1 ∧ s.x = -1 := by
        split at hph
        · omega
        · split at hph
          · exact ⟨by assumption, by assumption⟩
          · omega
      have hu : yupd L.length v s = ⟨s.t, s.r, s.a, s.e, L.length, s.z, s.c⟩ := upd_three hit hiz h2 he.1 he.2
      rw [hu] at e1
      have c1 := hcount Sy.a ⟨s.t, s.r, s.a, s.e, L.length, s.z, s.c⟩
      have c2 := hcount Sy.e ⟨s.t, s.r, s.a, s.e, L.length, s.z, s.c⟩
      have c3 := hcount Sy.x ⟨s.t, s.r, s.a, s.e, L.length, s.z, s.c⟩
      have c4 := hcount Sy.z ⟨s.t, s.r, s.a, s.e, L.length, s.z, s.c⟩
      have y1 : yon (s.x) = 0 := by rw [he.2]; rfl
      have y2 : yon ((L.length : Nat) : Int) = 1 := yon_place (by omega)
      simp only [y1, y2] at c1 c2 c3 c4
      refine ⟨⟨f, by rw [yof_snoc, e1]; exact yix_on hf (by rw [hso]) (by rw [hso]), fun t => ?_⟩, by rw [yof_snoc, e1, hlen]; omega, ?_⟩
      · rw [yof_snoc, e1]
        by_cases ht : v.t = t
        · subst ht
          refine .inr ⟨i, hi, ?_⟩
          rw [hst, if_pos rfl, h2, sy_set hil, if_pos rfl]
          show (3 : Int) = yph ⟨s.t, s.r, s.a, s.e, L.length, s.z, s.c⟩
          unfold yph
          rw [if_neg he.1, if_neg (by show ((L.length : Nat) : Int) ≠ -1; omega)]
        · exact hother f _ (fun _ _ => rfl) t ht
      · rw [yen_snoc, if_neg (by omega), List.append_nil, yof_snoc, e1, hent]
        omega
    · have he : s.e ≠ -1 ∧ s.x ≠ -1 := by
        split at hph
        · omega
        · split at hph
          · omega
          · exact ⟨by assumption, by assumption⟩
      have hu : yupd L.length v s = ⟨s.t, s.r, s.a, s.e, s.x, L.length, s.c⟩ := upd_four hit hiz h2 he.2
      rw [hu] at e1
      have c1 := hcount Sy.a ⟨s.t, s.r, s.a, s.e, s.x, L.length, s.c⟩
      have c2 := hcount Sy.e ⟨s.t, s.r, s.a, s.e, s.x, L.length, s.c⟩
      have c3 := hcount Sy.x ⟨s.t, s.r, s.a, s.e, s.x, L.length, s.c⟩
      have c4 := hcount Sy.z ⟨s.t, s.r, s.a, s.e, s.x, L.length, s.c⟩
      have y1 : yon (s.z) = 0 := by rw [hiz]; rfl
      have y2 : yon ((L.length : Nat) : Int) = 1 := yon_place (by omega)
      simp only [y1, y2] at c1 c2 c3 c4
      refine ⟨⟨fdel f v.t, by rw [yof_snoc, e1]; exact yix_over hf hi (by show ((L.length : Nat) : Int) ≠ -1; omega), fun t => ?_⟩, by rw [yof_snoc, e1, hlen]; omega, ?_⟩
      · rw [yof_snoc, e1]
        by_cases ht : v.t = t
        · subst ht
          refine .inl ⟨fdel_same, ?_⟩
          rw [hst, if_pos rfl, h2]
          rfl
        · exact hother (fdel f v.t) _ (fun _ hu => fdel_other hu) t ht
      · rw [yen_snoc, if_neg (by omega), List.append_nil, yof_snoc, e1, hent]
        omega
/-- What the automaton takes is in its turn. -/
theorem taken_in {n : Nat} (h : sdof (sds n L) v = 0) (hk : 1 ≤ v.k ∧ v.k ≤ 4) : st L v.t = v.k - 1 := by
  rcases sdof_in h with h1 | ⟨_, _, h3, h4, h5⟩
  · omega
  · rw [sds_len] at h4
    have hat : (sds n L).getD v.t.toNat z0 = (st L v.t, rd L v.t) := by rw [sds_at (by omega), Int.toNat_of_nonneg h3]
    by_cases h1 : v.k = 1
    · rw [h1] at h5 ⊢
      unfold swhy at h5
      rw [if_pos rfl, hat] at h5
      split at h5
      · rename_i h6
        have h6 : st L v.t = 0 := h6
        rw [h6]
        rfl
      · omega
    · have := (swhy_in h5).2.1 h1
      rw [hat] at this
      injection this
end
end Go.Proofs.Ytnipgafogkbobaa
