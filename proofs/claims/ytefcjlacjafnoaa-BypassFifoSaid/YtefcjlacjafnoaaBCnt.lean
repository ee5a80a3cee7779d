/- What a counter of entries counts, plain: of a row of events that it was told; who passes a stay; the worst. It speaks of no program. -/
import Derived.Test.YtefcjlacjafnoaaBMath
namespace Go.Proofs.Ytefcjlacjafnoaa

/-- A pass. -/
structure Ps where
  s : Int
  o : Int
def p0 : Ps := ⟨0, 0⟩
def enB (e : Ev) : Bool := decide (e.k = 2)
def enN (N : List Int) (x : Int) (e : Ev) : Bool := decide (e.k = 2 ∧ nd N e.t = x)
def enT (t : Int) (e : Ev) : Bool := decide (e.k = 2 ∧ e.t = t)
/-- What is told between two places, up to a place. -/
def tol (f g : Int) (l : List Ev) : Nat → List Ev
  | 0 => []
  | k + 1 => if f < (k : Int) ∧ (k : Int) < g then tol f g l k ++ [l.getD k e0] else tol f g l k
/-- The nodes are ints. -/
def Nwf (N : List Int) : Prop := ∀ k, k < N.length → (Lit.int .i64 (N.getD k 0)).wf = true
/-- The passes between two places; the passes of a stay; of all stays of a trace. -/
def frm (N : List Int) (t f g : Int) (l : List Ev) : Ps := ⟨(frS N t f g l : Nat), (frO N t f g l : Nat)⟩
def pst (N : List Int) (l : List Ev) (s : Sy) : Ps := frm N s.t s.a (yto l.length s) l
def pof (N : List Int) (l : List Ev) : List Ps := (yof l).map (pst N l)
/-- What a counter tells ahead of a place, for a thread. -/
def cth (N : List Int) (t : Int) (P : List Ev) : Ps := ⟨(P.countP (psS N t) : Nat), (P.countP (psO N t) : Nat)⟩
def ahd (N : List Int) (l : List Ev) (i : Nat) : Ps := cth N (l.getD i e0).t (l.take i)
/-- The row of what is counted ahead, up to a place; zeros behind. -/
def ahl (N : List Int) (l : List Ev) (k : Nat) : List Ps := (List.range l.length).map fun i => if i < k then ahd N l i else p0
/-- The worst, after some rounds. -/
def wmx (w p : Ps) : Ps := ⟨if w.s < p.s then p.s else w.s, if w.o < p.o then p.o else w.o⟩
def wsk (L : List Ps) : Nat → Ps
  | 0 => L.getD 0 p0
  | k + 1 => wmx (wsk L k) (L.getD k p0)
def wst (L : List Ps) : Ps := wsk L L.length

section
variable {N : List Int} {P l : List Ev} {t x f g : Int} {k n a e : Nat} {q : Ev → Bool} {v : Ev} {s : Sy} {L : List Ps}
theorem cnt_snoc {p : Ev → Bool} : (P ++ [v]).countP p = P.countP p + if p v = true then 1 else 0 := by
  rw [List.countP_append]
  congr 1
  by_cases h : p v = true
  · rw [List.countP_cons_of_pos h, if_pos h]
    rfl
  · rw [List.countP_cons_of_neg h, if_neg h]
    rfl
theorem cnt_le {p : Ev → Bool} : P.countP p ≤ P.length := List.countP_le_length
/-- Others of the own node: those of the node, less the own. -/
theorem cnt_S : P.countP (enN N (nd N t)) = P.countP (psS N t) + P.countP (enT t) := by
  induction P with
  | nil => rfl
  | cons v P ih =>
    rw [List.countP_cons, List.countP_cons, List.countP_cons, ih]
    unfold enN psS enT
    by_cases h2 : v.k = 2
    · by_cases ht : v.t = t
      · subst ht
        simp [h2]
        omega
      · by_cases hn : nd N v.t = nd N t
        · simp [h2, ht, hn]
          omega
        · simp [h2, ht, hn]
    · simp [h2]
theorem cnt_O : P.countP enB = P.countP (psO N t) + P.countP (enN N (nd N t)) := by
  induction P with
  | nil => rfl
  | cons v P ih =>
    rw [List.countP_cons, List.countP_cons, List.countP_cons, ih]
    unfold enN psO enB
    by_cases h2 : v.k = 2
    · by_cases hn : nd N v.t = nd N t
      · simp [h2, hn]
        omega
      · have ht : v.t ≠ t := fun z => hn (by rw [z])
        simp [h2, ht, hn]
        omega
    · simp [h2]
theorem tol_len : (tol f g l k).length ≤ k := by
  induction k with
  | zero => exact Nat.le_refl _
  | succ k ih =>
    unfold tol
    split
    · rw [List.length_append]
      show _ + 1 ≤ _
      omega
    · omega
theorem tol_cnt : (tol f g l k).countP q = ctb (wnp q l f g) k := by
  induction k with
  | zero => rfl
  | succ k ih =>
    unfold tol ctb wnp
    by_cases h : f < (k : Int) ∧ (k : Int) < g
    · rw [if_pos h, cnt_snoc, ih, decide_eq_true h, Bool.true_and]
      rfl
    · rw [if_neg h, ih, decide_eq_false h, Bool.false_and]
      rfl
theorem tol_in (h : f < (k : Int) ∧ (k : Int) < g) : tol f g l (k + 1) = tol f g l k ++ [l.getD k e0] := if_pos h
theorem tol_out (h : ¬ (f < (k : Int) ∧ (k : Int) < g)) : tol f g l (k + 1) = tol f g l k := if_neg h
theorem tol_frm : cth N t (tol f g l l.length) = frm N t f g l := by
  unfold cth frm frS frO
  rw [tol_cnt, tol_cnt]
theorem take_cnt (h : k ≤ l.length) : (l.take k).countP q = ctb (fun i => q (l.getD i e0)) k := by
  induction k with
  | zero => rfl
  | succ k ih =>
    rw [ev_take (by omega), cnt_snoc, ih (by omega)]
    rfl
theorem ctb_succ {p : Nat → Bool} : ctb p (n + 1) = ctb p n + if p n = true then 1 else 0 := rfl
/-- Between two places as many enter as ahead of the one less those ahead of the other. -/
theorem ctb_diff {p r : Nat → Bool} (ha : p a = false) (hae : a < e) (hr : ∀ k : Nat, r k = (decide ((a : Int) < (k : Int) ∧ (k : Int) < (e : Int)) && p k)) : ctb p (min a n) + ctb r n = ctb p (min e n) := by
  induction n with
  | zero =>
    rw [Nat.min_zero, Nat.min_zero]
    rfl
  | succ n ih =>
    have h1 : ctb r (n + 1) = ctb r n + if r n = true then 1 else 0 := rfl
    have h0 := hr n
    rw [h1]
    rcases Nat.lt_trichotomy n a with h | h | h
    · rw [show min a (n + 1) = n + 1 by omega, show min e (n + 1) = n + 1 by omega]
      rw [show min a n = n by omega, show min e n = n by omega] at ih
      rw [show decide ((a : Int) < (n : Int) ∧ (n : Int) < (e : Int)) = false by rw [decide_eq_false_iff_not]; omega, Bool.false_and] at h0
      rw [h0, if_neg (by simp)]
      rw [ctb_succ]
      omega
    · subst h
      rw [show min n (n + 1) = n by omega, show min e (n + 1) = n + 1 by omega]
      rw [show min n n = n by omega, show min e n = n by omega] at ih
      rw [show decide ((n : Int) < (n : Int) ∧ (n : Int) < (e : Int)) = false by rw [decide_eq_false_iff_not]; omega, Bool.false_and] at h0
      rw [h0, if_neg (by simp), ctb_succ, ha, if_neg (by simp)]
      omega
    · rw [show min a (n + 1) = a by omega]
      rw [show min a n = a by omega] at ih
      by_cases he : n < e
      · rw [show min e (n + 1) = n + 1 by omega]
        rw [show min e n = n by omega] at ih
        rw [show decide ((a : Int) < (n : Int) ∧ (n : Int) < (e : Int)) = true by rw [decide_eq_true_eq]; omega, Bool.true_and] at h0
        rw [h0, ctb_succ]
        omega
      · rw [show min e (n + 1) = e by omega]
        rw [show min e n = e by omega] at ih
        rw [show decide ((a : Int) < (n : Int) ∧ (n : Int) < (e : Int)) = false by rw [decide_eq_false_iff_not]; omega, Bool.false_and] at h0
        rw [h0, if_neg (by simp)]
        omega
theorem take_diff (ha : q (l.getD a e0) = false) (hae : a < e) (he : e ≤ l.length) : (l.take a).countP q + ctb (wnp q l a e) l.length = (l.take e).countP q := by
  rw [take_cnt (by omega), take_cnt he]
  have h := ctb_diff (n := l.length) (p := fun i => q (l.getD i e0)) (r := wnp q l a e) ha hae (fun _ => rfl)
  rw [show min a l.length = a by omega, show min e l.length = e by omega] at h
  exact h
/-- The passes of a stay: what is told at its end, less what was told as it asked. -/
theorem pst_S {z : Int} (hg : Ygd l s) (hz : z = yto l.length s) : ((l.take s.a.toNat).countP (psS N s.t) : Int) + (pst N l s).s = (l.take z.toNat).countP (psS N s.t) ∧ ((l.take s.a.toNat).countP (psO N s.t) : Int) + (pst N l s).o = (l.take z.toNat).countP (psO N s.t) ∧ s.a < z ∧ z ≤ l.length := by
  obtain ⟨⟨a0, a1, a2, a3⟩, he, _, _⟩ := hg
  have hze : s.a < z ∧ z ≤ l.length := by
    rw [hz]
    unfold yto
    rcases he with h | ⟨h, h1, _⟩
    · rw [if_pos (by omega)]
      omega
    · rw [if_neg (by omega)]
      omega
  have q1 : ∀ (u : List Int → Int → Ev → Bool), (∀ e, u N s.t e = true → e.k = 2) → u N s.t (l.getD s.a.toNat e0) = false := fun u hu => by
    cases h : u N s.t (l.getD s.a.toNat e0) with
    | false => rfl
    | true => have := hu _ h; omega
  have s1 := take_diff (l := l) (q := psS N s.t) (a := s.a.toNat) (e := z.toNat) (q1 psS (fun e h => by unfold psS at h; rw [decide_eq_true_eq] at h; exact h.1)) (by omega) (by omega)
  have s2 := take_diff (l := l) (q := psO N s.t) (a := s.a.toNat) (e := z.toNat) (q1 psO (fun e h => by unfold psO at h; rw [decide_eq_true_eq] at h; exact h.1)) (by omega) (by omega)
  have e1 : ((s.a.toNat : Nat) : Int) = s.a := by omega
  have e2 : ((z.toNat : Nat) : Int) = z := by omega
  rw [e1, e2] at s1 s2
  refine ⟨?_, ?_, hze⟩
  · show _ + ((frS N s.t s.a (yto l.length s) l : Nat) : Int) = _
    rw [← hz]
    unfold frS
    omega
  · show _ + ((frO N s.t s.a (yto l.length s) l : Nat) : Int) = _
    rw [← hz]
    unfold frO
    omega
theorem ahl_len : (ahl N l k).length = l.length := by unfold ahl; simp
theorem ahl_at {i : Nat} (h : i < l.length) : (ahl N l k).getD i p0 = if i < k then ahd N l i else p0 := by
  unfold ahl
  simp [List.getD, h]
theorem ahl_set : (ahl N l k).set k (ahd N l k) = ahl N l (k + 1) := by
  unfold ahl
  refine List.ext_getElem (by simp) fun i h1 h2 => ?_
  rw [List.getElem_set]
  by_cases hi : k = i
  · subst hi
    simp
  · rw [if_neg hi]
    simp
    by_cases h3 : i < k
    · rw [if_pos h3, if_pos (by omega)]
    · rw [if_neg h3, if_neg (by omega)]
theorem ahl_zero : ahl N l 0 = List.replicate l.length p0 := by
  unfold ahl
  simp [List.map_const']
theorem pof_len : (pof N l).length = (yof l).length := by unfold pof; simp
theorem pof_at (h : k < (yof l).length) : (pof N l).getD k p0 = pst N l ((yof l).getD k s0) := by
  unfold pof
  simp [List.getD, h]
theorem ps_take (h : k < L.length) : L.take (k + 1) = L.take k ++ [L.getD k p0] := by
  rw [List.take_add_one, List.getElem?_eq_getElem h]
  simp [List.getD, h]
/-! ### the worst -/
theorem wsk_ge {i : Nat} (h : i < k) : (L.getD i p0).s ≤ (wsk L k).s ∧ (L.getD i p0).o ≤ (wsk L k).o := by
  induction k with
  | zero => omega
  | succ k ih =>
    have hm : ∀ w p : Ps, w.s ≤ (wmx w p).s ∧ p.s ≤ (wmx w p).s ∧ w.o ≤ (wmx w p).o ∧ p.o ≤ (wmx w p).o := fun w p => by
      unfold wmx
      dsimp only
      refine ⟨?_, ?_, ?_, ?_⟩ <;> split <;> omega
    have h1 := hm (wsk L k) (L.getD k p0)
    show _ ≤ (wmx (wsk L k) (L.getD k p0)).s ∧ _ ≤ (wmx (wsk L k) (L.getD k p0)).o
    rcases Nat.lt_or_ge i k with h2 | h2
    · have := ih h2
      omega
    · obtain rfl : i = k := by omega
      omega
theorem wsk_hitS (h : 0 < L.length) (hk : k ≤ L.length) : ∃ i, i < L.length ∧ (L.getD i p0).s = (wsk L k).s := by
  induction k with
  | zero => exact ⟨0, h, rfl⟩
  | succ k ih =>
    obtain ⟨i, hi, h1⟩ := ih (by omega)
    show ∃ i, i < L.length ∧ _ = (if (wsk L k).s < (L.getD k p0).s then (L.getD k p0).s else (wsk L k).s)
    split
    · exact ⟨k, by omega, rfl⟩
    · exact ⟨i, hi, h1⟩
theorem wsk_hitO (h : 0 < L.length) (hk : k ≤ L.length) : ∃ i, i < L.length ∧ (L.getD i p0).o = (wsk L k).o := by
  induction k with
  | zero => exact ⟨0, h, rfl⟩
  | succ k ih =>
    obtain ⟨i, hi, h1⟩ := ih (by omega)
    show ∃ i, i < L.length ∧ _ = (if (wsk L k).o < (L.getD k p0).o then (L.getD k p0).o else (wsk L k).o)
    split
    · exact ⟨k, by omega, rfl⟩
    · exact ⟨i, hi, h1⟩
/-- Behind the place where none enters any more. -/
theorem ctb_stop (hg : g ≤ (k : Int)) (hk : k ≤ n) : ctb (wnp q l f g) n = ctb (wnp q l f g) k := by
  induction n with
  | zero =>
    obtain rfl : k = 0 := by omega
    rfl
  | succ n ih =>
    rcases Nat.lt_or_ge n k with h | h
    · obtain rfl : k = n + 1 := by omega
      rfl
    · have h2 : wnp q l f g n = false := by
        unfold wnp
        rw [decide_eq_false (by omega), Bool.false_and]
      show ctb _ n + _ = _
      rw [ih h, h2]
      rfl
theorem nd_wf (h : Nwf N) (t : Int) : (Lit.int .i64 (nd N t)).wf = true := by
  by_cases ht : 0 ≤ t ∧ t < N.length
  · obtain ⟨k, rfl⟩ : ∃ k : Nat, t = k := ⟨t.toNat, by omega⟩
    rw [nd_in (by omega)]
    exact h k (by omega)
  · rw [nd_out ht]
    decide
end
end Go.Proofs.Ytefcjlacjafnoaa
