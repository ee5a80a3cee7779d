/- A topology's text, and what a text tells. Plain: no program. -/
import Derived.Test.YtcpcdfihgabelaaDoorTTree
import Derived.Test.YtcpcdfihgabelaaDoorDTxt
import Derived.Test.YtcpcdfihgabelaaDoorLTxt
namespace Go.Proofs.YtcpcdfihgabelaaDoor

/-- "nodes", "threads". -/
def wNodes : List UInt8 := [110, 111, 100, 101, 115]
def wThreads : List UInt8 := [116, 104, 114, 101, 97, 100, 115]
/-- A topology's text. -/
def ttxt (P T : List Int) : List UInt8 := ltext [wNodes ++ 32 :: ltxt P, wThreads ++ 32 :: ltxt T]
open Classical in
/-- The numbers of a line of two words, of which that is the first one. -/
noncomputable def pl (f s : List UInt8) : Option (List Int) := match wds s with
  | [a, x] => if a = f ∧ lerr x = 0 then some (lnum x) else none
  | _ => none
/-- What Parse answers. -/
noncomputable def prs (s : List UInt8) : List Int × List Int × Int := match lns s with
  | [a, b] => match pl wNodes a, pl wThreads b with
    | some P, some T => if chk P T = 0 then (P, T, 0) else ([], [], chk P T)
    | _, _ => ([], [], 2)
  | _ => ([], [], 2)

theorem pl_yes {f s x : List UInt8} (h : wds s = [f, x]) (hx : lerr x = 0) : pl f s = some (lnum x) := by
  unfold pl
  rw [h]
  simp [hx]
theorem pl_err {f s x : List UInt8} (h : wds s = [f, x]) (hx : lerr x ≠ 0) : pl f s = none := by
  unfold pl
  rw [h]
  simp [hx]
theorem pl_word {f s a x : List UInt8} (h : wds s = [a, x]) (ha : a ≠ f) : pl f s = none := by
  unfold pl
  rw [h]
  simp [ha]
theorem pl_len {f s : List UInt8} (h : (wds s).length ≠ 2) : pl f s = none := by
  unfold pl
  split
  · next e => rw [e] at h; exact absurd rfl h
  · rfl
theorem prs_len {s : List UInt8} (h : (lns s).length ≠ 2) : prs s = ([], [], 2) := by
  unfold prs
  split
  · next e => rw [e] at h; exact absurd rfl h
  · rfl
theorem prs_nodes {s a b : List UInt8} (h : lns s = [a, b]) (h1 : pl wNodes a = none) : prs s = ([], [], 2) := by
  unfold prs
  rw [h]
  simp only [h1]
theorem prs_threads {s a b : List UInt8} (h : lns s = [a, b]) (h1 : pl wThreads b = none) : prs s = ([], [], 2) := by
  unfold prs
  rw [h]
  simp only [h1]
  split
  · next e => cases e
  · rfl
theorem prs_bad {s a b : List UInt8} {P T : List Int} (h : lns s = [a, b]) (h1 : pl wNodes a = some P) (h2 : pl wThreads b = some T) (hc : chk P T ≠ 0) : prs s = ([], [], chk P T) := by
  unfold prs
  rw [h]
  simp only [h1, h2]
  rw [if_neg hc]
theorem prs_ok {s a b : List UInt8} {P T : List Int} (h : lns s = [a, b]) (h1 : pl wNodes a = some P) (h2 : pl wThreads b = some T) (hc : chk P T = 0) : prs s = (P, T, 0) := by
  unfold prs
  rw [h]
  simp only [h1, h2]
  rw [if_pos hc]

/-! ## What may be comes back -/
theorem fst_app {cs f : List UInt8} {d : UInt8} (t : List UInt8) (h : ∀ c ∈ f, cs.contains c = false) (hd : cs.contains d = true) : fst cs (f ++ d :: t) = f ∧ rst cs (f ++ d :: t) = d :: t := by
  induction f with
  | nil => exact ⟨fst_hit hd, rst_hit hd⟩
  | cons c u ih =>
    have h1 := ih (fun x hx => h x (List.mem_cons_of_mem _ hx))
    have h2 := h c (List.mem_cons_self ..)
    rw [List.cons_append, fst_miss h2, rst_miss h2, h1.1, h1.2]
    exact ⟨rfl, rfl⟩
theorem fst_all {cs f : List UInt8} (h : ∀ c ∈ f, cs.contains c = false) : fst cs f = f ∧ rst cs f = [] := by
  induction f with
  | nil => exact ⟨rfl, rfl⟩
  | cons c u ih =>
    have h1 := ih (fun x hx => h x (List.mem_cons_of_mem _ hx))
    have h2 := h c (List.mem_cons_self ..)
    rw [fst_miss h2, rst_miss h2, h1.1, h1.2]
    exact ⟨rfl, rfl⟩
theorem trim_word {cs f : List UInt8} (t : List UInt8) (h0 : f ≠ []) (h : ∀ c ∈ f, cs.contains c = false) : trim cs (f ++ t) = f ++ t := by
  cases f with
  | nil => exact absurd rfl h0
  | cons c u => exact trim_miss (h c (List.mem_cons_self ..))
theorem wds_two {f x : List UInt8} (h0 : f ≠ []) (h : ∀ c ∈ f, blanks.contains c = false) (h1 : x ≠ []) (hx : ∀ c ∈ x, blanks.contains c = false) : wds (f ++ 32 :: x) = [f, x] := by
  have hb : blanks.contains 32 = true := by decide
  have t1 := trim_word (32 :: x) h0 h
  have a1 := fst_app x h hb
  have e1 : hw (f ++ 32 :: x) = f := by unfold hw; rw [t1]; exact a1.1
  have e2 : hr (f ++ 32 :: x) = 32 :: x := by unfold hr; rw [t1]; exact a1.2
  have t2 : trim blanks (32 :: x) = x := by
    rw [trim_hit hb]
    have := trim_word [] h1 hx
    rwa [List.append_nil] at this
  have a2 := fst_all hx
  have e3 : hw (32 :: x) = x := by unfold hw; rw [t2]; exact a2.1
  have e4 : hr (32 :: x) = [] := by unfold hr; rw [t2]; exact a2.2
  rw [wds_cons (by rw [e1]; exact h0), e1, e2, wds_cons (by rw [e3]; exact h1), e3, e4, wds_nil rfl]
theorem join_bytes {Q : UInt8 → Prop} (hc : Q 44) : ∀ {l : List (List UInt8)}, (∀ a ∈ l, ∀ c ∈ a, Q c) → ∀ c ∈ join l, Q c
  | [], _ => fun c h => by cases h
  | [a], h => fun c hm => h a (List.mem_singleton.2 rfl) c hm
  | a :: b :: u, h => fun c hm => by
    have hm2 : c ∈ a ++ 44 :: join (b :: u) := hm
    rcases List.mem_append.1 hm2 with h1 | h1
    · exact h a (List.mem_cons_self ..) c h1
    · rcases List.mem_cons.1 h1 with h2 | h2
      · rw [h2]; exact hc
      · exact join_bytes hc (fun x hx => h x (List.mem_cons_of_mem _ hx)) c h2
theorem ltxt_bytes (l : List Int) : ∀ c ∈ ltxt l, 44 ≤ c.toNat := by
  refine join_bytes (Q := fun c => 44 ≤ c.toNat) (by decide) fun a ha c hc => ?_
  obtain ⟨n, _, rfl⟩ := List.mem_map.1 ha
  rcases txt_bytes n c hc with h | h
  · have := h.1
    omega
  · rw [h]; decide
theorem no_blank {c : UInt8} (h : 44 ≤ c.toNat) : blanks.contains c = false := by
  cases hb : blanks.contains c with
  | false => rfl
  | true =>
    have : c ∈ blanks := List.contains_iff_mem.1 hb
    simp [blanks] at this
    rcases this with rfl | rfl <;> exact absurd h (by decide)
theorem no_end {l : List UInt8} (h : ∀ c ∈ l, 44 ≤ c.toNat) {f : List UInt8} (hf : (10 : UInt8) ∉ f) : (10 : UInt8) ∉ f ++ 32 :: l := by
  intro hm
  rcases List.mem_append.1 hm with h1 | h1
  · exact hf h1
  · rcases List.mem_cons.1 h1 with h2 | h2
    · exact absurd h2 (by decide)
    · exact absurd (h _ h2) (by decide)
theorem pl_back {f : List UInt8} {l : List Int} (h0 : f ≠ []) (hf : ∀ c ∈ f, blanks.contains c = false) (hl : l ≠ []) (hr : ∀ n ∈ l, InR n) : pl f (f ++ 32 :: ltxt l) = some l := by
  have h := lnum_ltxt hr
  rw [pl_yes (wds_two h0 hf (ltxt_ne hl) (fun c hc => no_blank (ltxt_bytes l c hc))) h.2, h.1]
/-- WHAT MAY BE COMES BACK FROM ITS TEXT. -/
theorem prs_back {P T : List Int} (h : chk P T = 0) (hP : ∀ n ∈ P, InR n) (hT : ∀ n ∈ T, InR n) : prs (ttxt P T) = (P, T, 0) := by
  have hl := (chk_zero h).1
  have hn : P ≠ [] := by rintro rfl; simp at hl
  have ht : T ≠ [] := by rintro rfl; simp at hl
  refine prs_ok (a := wNodes ++ 32 :: ltxt P) (b := wThreads ++ 32 :: ltxt T) ?_ (pl_back (by decide) (by decide) hn hP) (pl_back (by decide) (by decide) ht hT) h
  refine lns_ltext fun a ha => ?_
  simp at ha
  rcases ha with rfl | rfl
  · exact no_end (ltxt_bytes P) (by decide)
  · exact no_end (ltxt_bytes T) (by decide)
theorem prs_empty : prs [] = ([], [], 2) := prs_len (by decide)
theorem prs_cases (s : List UInt8) : (prs s).2.2 = 0 ∨ prs s = ([], [], (prs s).2.2) := by
  unfold prs
  split
  · split
    · split
      · exact .inl rfl
      · exact .inr rfl
    · exact .inr rfl
  · exact .inr rfl

/-! ## Lengths -/
theorem lns_each : ∀ (n : Nat) (l : List UInt8), l.length ≤ n → ∀ a ∈ lns l, a.length ≤ n := by
  intro n
  induction n with
  | zero =>
    intro l hl a ha
    obtain rfl : l = [] := List.eq_nil_of_length_eq_zero (by omega)
    cases ha
  | succ n ih =>
    intro l hl a ha
    by_cases h : l = []
    · subst h
      cases ha
    · rw [lns_step h] at ha
      rcases List.mem_cons.1 ha with h1 | h1
      · rw [h1]
        exact Nat.le_trans (fst_len _ _) hl
      · have h2 := congrArg List.length (fst_rst [10] l)
        have h3 := List.length_pos_iff.2 h
        rw [List.length_append] at h2
        exact Nat.le_succ_of_le (ih _ (by rw [List.length_drop]; omega) a h1)
theorem wds_each : ∀ (n : Nat) (l : List UInt8), l.length ≤ n → ∀ a ∈ wds l, a.length ≤ n := by
  intro n
  induction n with
  | zero =>
    intro l hl a ha
    obtain rfl : l = [] := List.eq_nil_of_length_eq_zero (by omega)
    rw [wds_nil rfl] at ha
    cases ha
  | succ n ih =>
    intro l hl a ha
    by_cases h : hw l = []
    · rw [wds_nil h] at ha
      cases ha
    · rw [wds_cons h] at ha
      rcases List.mem_cons.1 ha with h1 | h1
      · rw [h1]
        exact Nat.le_trans (hw_le l) hl
      · have := hr_lt h
        exact Nat.le_succ_of_le (ih _ (by omega) a h1)
end Go.Proofs.YtcpcdfihgabelaaDoor
