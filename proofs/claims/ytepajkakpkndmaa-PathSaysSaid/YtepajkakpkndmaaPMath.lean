/- The places above a thread, and how far up two meet. Plain: no program. -/
import Derived.Test.YtepajkakpkndmaaTTree
namespace Go.Proofs.Ytepajkakpkndmaa

/-- The place i steps above v. -/
def anc (P : List Int) (v : Nat) : Nat → Nat
  | 0 => v
  | i + 1 => (P.getD (anc P v i) 0).toNat
/-- The first k places above v, v first. -/
def upk (P : List Int) (v k : Nat) : List Int := (List.range k).map fun i => (anc P v i : Int)
/-- How many places are above v. -/
def dn (P : List Int) (v : Nat) : Nat := (dv P v).toNat
/-- The places above v, v first. -/
def ups (P : List Int) (v : Nat) : List Int := upk P v (dn P v)
/-- Where a climb stands behind k steps. -/
def pl (P : List Int) (v k : Nat) : Int := if k < dn P v then (anc P v k : Int) else -1
/-- The place of the first that q holds of. -/
def fidx (q : Int → Bool) (l : List Int) : Int := if l.any q = true then (l.findIdx q : Int) else -1
/-- What is above a thread. -/
def upT (P T : List Int) (a : Int) : List Int := if 0 ≤ a ∧ a < T.length then ups P (T.getD a.toNat 0).toNat else []
/-- How far up two threads meet. -/
def farT (P T : List Int) (a b : Int) : Int := fidx (fun x => (upT P T b).contains x) (upT P T a)
/-- Where two threads meet. -/
def meetT (P T : List Int) (a b : Int) : Int := if farT P T a b = -1 then -1 else (upT P T a).getD (farT P T a b).toNat 0
/-- The node of a thread, by its leaf. -/
def nodeT (L T : List Int) (a : Int) : Int := if 0 ≤ a ∧ a < T.length then fidx (fun y => y == T.getD a.toNat 0) L else -1
/-- How many of the threads are at x. -/
def cnt (T : List Int) (x : Int) : Nat := (T.filter (· == x)).length
def slotT (T : List Int) (a : Int) : Int := if 0 ≤ a ∧ a < T.length then (cnt (T.take a.toNat) (T.getD a.toNat 0) : Int) else -1
def matesT (L T : List Int) (n : Int) : Int := if 0 ≤ n ∧ n < L.length then (cnt T (L.getD n.toNat 0) : Int) else 0

section
variable {P T L l : List Int} {v k i : Nat} {q : Int → Bool}

theorem upk_len : (upk P v k).length = k := by simp [upk]
theorem upk_succ : upk P v (k + 1) = upk P v k ++ [(anc P v k : Int)] := by simp [upk, List.range_succ]
theorem upk_at (h : i < k) : (upk P v k).getD i 0 = (anc P v i : Int) := by simp [upk, List.getD, h]
theorem ups_len : (ups P v).length = dn P v := upk_len
theorem ups_at (h : i < dn P v) : (ups P v).getD i 0 = (anc P v i : Int) := upk_at h
theorem dn_pos (hf : formB P = true) (hv : v < P.length) : 0 < dn P v ∧ (dn P v : Int) = dv P v ∧ dn P v ≤ P.length := by
  have := dv_bound hf v hv
  unfold dn
  omega
theorem anc_ok (hf : formB P = true) (hv : v < P.length) : ∀ i, i < dn P v → anc P v i < P.length ∧ dv P (anc P v i) = dv P v - i := by
  have h0 := dn_pos hf hv
  intro i
  induction i with
  | zero => intro _; exact ⟨hv, by show dv P v = _; omega⟩
  | succ i ih =>
    intro hi
    have h1 := ih (by omega)
    have h2 : 0 < anc P v i := by
      rcases Nat.eq_zero_or_pos (anc P v i) with hz | hz
      · rw [hz] at h1
        have hd : dv P 0 = 1 := dv_root hf (by omega)
        omega
      · exact hz
    have h3 := form_par hf h1.1 h2
    have h4 := dv_par hf h1.1 h2
    have h5 := h1.1
    show (P.getD (anc P v i) 0).toNat < _ ∧ dv P (P.getD (anc P v i) 0).toNat = _
    omega
theorem anc_top (hf : formB P = true) (hv : v < P.length) (hi : i + 1 = dn P v) : anc P v i = 0 := by
  have h0 := dn_pos hf hv
  have h1 := anc_ok hf hv i (by omega)
  rcases Nat.eq_zero_or_pos (anc P v i) with hz | hz
  · exact hz
  · have h3 := form_par hf h1.1 hz
    have h4 := dv_par hf h1.1 hz
    have h5 := dv_bound hf (P.getD (anc P v i) 0).toNat (by have := h1.1; omega)
    omega
theorem pl_zero (hf : formB P = true) (hv : v < P.length) : pl P v 0 = (v : Int) := by
  unfold pl
  rw [if_pos (dn_pos hf hv).1]
  rfl
theorem pl_in (h : k < dn P v) : pl P v k = (anc P v k : Int) := by unfold pl; rw [if_pos h]
theorem pl_out (h : ¬ k < dn P v) : pl P v k = -1 := by unfold pl; rw [if_neg h]
/-- One step up. -/
theorem pl_next (hf : formB P = true) (hv : v < P.length) (hk : k < dn P v) : P.getD (anc P v k) 0 = pl P v (k + 1) := by
  have h1 := anc_ok hf hv k hk
  by_cases h : k + 1 < dn P v
  · rw [pl_in h]
    have h2 : 0 < anc P v k := by
      rcases Nat.eq_zero_or_pos (anc P v k) with hz | hz
      · have h3 : dv P 0 = 1 := dv_root hf (by omega)
        have h4 := dn_pos hf hv
        rw [hz] at h1
        omega
      · exact hz
    have h3 := form_par hf h1.1 h2
    show _ = ((P.getD (anc P v k) 0).toNat : Int)
    omega
  · rw [pl_out h, anc_top hf hv (by omega)]
    exact form_root hf (by omega)

/-- What tells the first place that q holds of. -/
def Fst (q : Int → Bool) (l : List Int) (k : Int) : Prop := (k = -1 ∧ ∀ x ∈ l, q x = false) ∨ ∃ i : Nat, k = (i : Int) ∧ i < l.length ∧ q (l.getD i 0) = true ∧ ∀ x ∈ l.take i, q x = false
theorem Fst.eq {m : Int} (h : Fst q l m) : m = fidx q l := by
  unfold fidx
  rcases h with ⟨rfl, h⟩ | ⟨i, rfl, hi, hq, hn⟩
  · rw [if_neg]
    intro ha
    obtain ⟨x, hx, hq⟩ := List.any_eq_true.1 ha
    rw [h x hx] at hq
    cases hq
  · have hg : l.getD i 0 = l[i] := by simp [List.getD, hi]
    rw [hg] at hq
    rw [if_pos (List.any_eq_true.2 ⟨l[i], List.getElem_mem hi, hq⟩)]
    congr 1
    symm
    rw [List.findIdx_eq hi]
    refine ⟨hq, fun j hj => hn _ ?_⟩
    rw [List.mem_take_iff_getElem]
    exact ⟨j, by omega, rfl⟩
theorem fidx_fst (q : Int → Bool) (l : List Int) : Fst q l (fidx q l) := by
  unfold fidx
  by_cases h : l.any q = true
  · rw [if_pos h]
    have hlt : l.findIdx q < l.length := by
      obtain ⟨x, hx, hq⟩ := List.any_eq_true.1 h
      exact List.findIdx_lt_length_of_exists ⟨x, hx, hq⟩
    refine .inr ⟨_, rfl, hlt, ?_, fun x hx => ?_⟩
    · have := List.findIdx_getElem (w := hlt)
      simpa [List.getD, hlt] using this
    · obtain ⟨j, hj, rfl⟩ := List.mem_take_iff_getElem.1 hx
      have h1 : j < l.findIdx q := by omega
      cases hc : q l[j] with
      | false => rfl
      | true => exact absurd hc (by simpa using List.not_of_lt_findIdx h1)
  · rw [if_neg h]
    refine .inl ⟨rfl, fun x hx => ?_⟩
    cases hc : q x with
    | false => rfl
    | true => exact absurd (List.any_eq_true.2 ⟨x, hx, hc⟩) h
theorem fidx_nil : fidx q [] = -1 := rfl
theorem fidx_bound (q : Int → Bool) (l : List Int) : fidx q l = -1 ∨ ∃ i : Nat, fidx q l = (i : Int) ∧ i < l.length ∧ q (l.getD i 0) = true := by
  rcases fidx_fst q l with ⟨h, _⟩ | ⟨i, h, h1, h2, _⟩
  · exact .inl h
  · exact .inr ⟨i, h, h1, h2⟩
theorem upT_no {a : Int} (h : ¬ (0 ≤ a ∧ a < T.length)) : upT P T a = [] := by unfold upT; rw [if_neg h]
theorem upT_yes (h : i < T.length) : upT P T (i : Int) = ups P (T.getD i 0).toNat := by
  unfold upT
  rw [if_pos (by omega), Int.toNat_natCast]
end
end Go.Proofs.Ytepajkakpkndmaa
