/- Scripts of picks as lists of bytes: letters, words, texts with a blank between two, what a text's words are. It speaks of no program. -/
import Derived.Test.YtoegnnhnfkecoaaDoorDTxt
import Derived.Test.YtoegnnhnfkecoaaDoorLTxt
import Derived.Lib.Join
namespace Go.Proofs.YtoegnnhnfkecoaaDoor

/-- A pick: its thread, and what it wants. -/
abbrev Pk := Int × Int
def lets : List UInt8 := [115, 108, 117, 114, 118]
/-- The letter of what is wanted; may it be wanted? -/
def wc (x : Int) : UInt8 := lets.getD x.toNat 0
def wok (x : Int) : Bool := decide (0 ≤ x ∧ x ≤ 4)
/-- What a letter says; is it one? -/
def wb (c : UInt8) : Bool := lets.contains c
def wn (c : UInt8) : Int := if lets.contains c then (lets.idxOf c : Int) else 0

theorem wb_cases {c : UInt8} (h : wb c = true) : c = 115 ∨ c = 108 ∨ c = 117 ∨ c = 114 ∨ c = 118 := by
  unfold wb lets at h
  simp at h
  exact h
theorem wc_wn {c : UInt8} (h : wb c = true) : wc (wn c) = c := by
  rcases wb_cases h with rfl | rfl | rfl | rfl | rfl <;> decide
theorem wok_wn (c : UInt8) : wok (wn c) = true := by
  by_cases h : wb c = true
  · rcases wb_cases h with rfl | rfl | rfl | rfl | rfl <;> decide
  · unfold wb at h
    unfold wn
    rw [if_neg h]
    decide
theorem wok_cases {x : Int} (h : wok x = true) : x = 0 ∨ x = 1 ∨ x = 2 ∨ x = 3 ∨ x = 4 := by
  unfold wok at h
  have := of_decide_eq_true h
  omega
theorem wb_wc {x : Int} (h : wok x = true) : wb (wc x) = true := by
  rcases wok_cases h with rfl | rfl | rfl | rfl | rfl <;> decide
theorem wn_wc {x : Int} (h : wok x = true) : wn (wc x) = x := by
  rcases wok_cases h with rfl | rfl | rfl | rfl | rfl <;> decide
theorem wb_plain {c : UInt8} (h : wb c = true) : ¬ isD c ∧ c ≠ 45 ∧ c ≠ 32 ∧ c ≠ 9 ∧ c ≠ 10 := by
  rcases wb_cases h with rfl | rfl | rfl | rfl | rfl <;> decide

/-! ## A word -/
def word (p : Pk) : List UInt8 := txt p.1 ++ [wc p.2]
/-- Is a text a pick's word? -/
noncomputable def rb (x : List UInt8) : Bool := decide (pe x.dropLast = 0) && wb (x.getLastD 0)
/-- The pick of a word. -/
noncomputable def rp (x : List UInt8) : Pk := (pn x.dropLast, wn (x.getLastD 0))
noncomputable def rd (x : List UInt8) : Pk := if rb x = true then rp x else (0, 0)

theorem rb_yes {x : List UInt8} (h1 : pe x.dropLast = 0) (h2 : wb (x.getLastD 0) = true) : rb x = true := by
  unfold rb
  rw [decide_eq_true h1, h2]
  rfl
theorem rb_pe {x : List UInt8} (h : pe x.dropLast ≠ 0) : rb x = false := by
  unfold rb
  rw [decide_eq_false h]
  rfl
theorem rb_wb {x : List UInt8} (h : wb (x.getLastD 0) = false) : rb x = false := by
  unfold rb
  rw [h, Bool.and_false]
theorem rb_parts {x : List UInt8} (h : rb x = true) : pe x.dropLast = 0 ∧ wb (x.getLastD 0) = true := by
  unfold rb at h
  rw [Bool.and_eq_true] at h
  exact ⟨of_decide_eq_true h.1, h.2⟩
theorem last_split {x : List UInt8} (h : x ≠ []) : x = x.dropLast ++ [x.getLastD 0] := by
  have := (List.dropLast_concat_getLast h).symm
  rw [List.getLastD_eq_getLast?, List.getLast?_eq_some_getLast h]
  exact this
theorem rb_ne {x : List UInt8} (h : rb x = true) : x ≠ [] := by
  rintro rfl
  have := (rb_parts h).1
  rw [List.dropLast_nil] at this
  exact (pe_zero this).ne
theorem word_rp {x : List UInt8} (h : rb x = true) : word (rp x) = x := by
  obtain ⟨h1, h2⟩ := rb_parts h
  unfold word rp
  rw [(pe_zero h1).2, wc_wn h2]
  exact (last_split (rb_ne h)).symm
theorem rp_in {x : List UInt8} (h : rb x = true) : InR (rp x).1 := (pe_zero (rb_parts h).1).1
theorem rp_ok (x : List UInt8) : wok (rp x).2 = true := wok_wn _
theorem rb_word {p : Pk} (h1 : InR p.1) (h2 : wok p.2 = true) : rb (word p) = true ∧ rp (word p) = p := by
  have e1 : (word p).dropLast = txt p.1 := by simp [word]
  have e2 : (word p).getLastD 0 = wc p.2 := by simp [word]
  refine ⟨rb_yes (by rw [e1]; exact pe_yes ⟨h1, rfl⟩) (by rw [e2]; exact wb_wc h2), ?_⟩
  unfold rp
  rw [e1, e2, pn_yes ⟨h1, rfl⟩, wn_wc h2]
/-- The longest beginning that is a number's text tells whether a text is a word. -/
theorem read_short {x : List UInt8} (h : tk x = 0 ∨ tk x + 1 ≠ x.length) : rb x = false := by
  by_cases hr : rb x = true
  · exfalso
    obtain ⟨h1, h2⟩ := rb_parts hr
    have hn := pe_zero h1
    obtain ⟨g1, g2, _⟩ := wb_plain h2
    have hl := longest_then hn.1 g1 g2 []
    rw [hn.2, ← last_split (rb_ne hr)] at hl
    have e := hl.is.1
    have hx : x.length ≠ 0 := fun z => rb_ne hr (List.eq_nil_of_length_eq_zero z)
    have hd : x.dropLast.length ≠ 0 := fun z => by
      rw [List.eq_nil_of_length_eq_zero z] at hn
      exact hn.ne
    rw [List.length_dropLast] at e hd
    omega
  · simpa using hr
theorem read_full {x : List UInt8} (h0 : tk x ≠ 0) (h1 : tk x + 1 = x.length) : pe x.dropLast = 0 ∧ pn x.dropLast = tn x ∧ x.getLastD 0 = x.getD (tk x) 0 := by
  have hd : x.dropLast = x.take (tk x) := by rw [List.dropLast_eq_take, ← h1, Nat.add_sub_cancel]
  rcases (tk_spec x).here with ⟨e, _⟩ | ⟨_, q⟩
  · exact absurd e h0
  · rw [hd]
    refine ⟨pe_yes q, pn_yes q, ?_⟩
    rw [List.getLastD_eq_getLast?, List.getLast?_eq_getElem?, ← h1, Nat.add_sub_cancel]
    rfl
theorem word_len {p : Pk} (h : InR p.1) : (word p).length ≤ 21 := by
  have := txt_len h
  unfold word
  simp
  omega
theorem word_ne (p : Pk) : word p ≠ [] := by simp [word]
theorem word_plain {p : Pk} (h : wok p.2 = true) : ∀ c ∈ word p, c ≠ 32 ∧ c ≠ 9 ∧ c ≠ 10 := by
  intro c hc
  unfold word at hc
  rcases List.mem_append.1 hc with h1 | h1
  · rcases txt_bytes _ c h1 with e | e
    · refine ⟨?_, ?_, ?_⟩ <;> (rintro rfl; exact absurd e (by decide))
    · subst e; decide
  · simp at h1
    subst h1
    exact (wb_plain (wb_wc h)).2.2

/-! ## A blank between two -/
def bj : List (List UInt8) → List UInt8
  | [] => []
  | [a] => a
  | a :: b :: t => a ++ 32 :: bj (b :: t)
/-- How long words are, each with a blank behind it. -/
def wl : List (List UInt8) → Nat
  | [] => 0
  | a :: t => a.length + 1 + wl t
theorem bj_lib (l : List (List UInt8)) : Lib.join l [32] = bj l := by
  induction l with
  | nil => rfl
  | cons a t ih =>
    cases t with
    | nil => rw [Lib.join_one]; rfl
    | cons b u =>
      rw [Lib.join_cons] at ih ⊢
      show a ++ Lib.joinTail [32] (b :: u) = a ++ 32 :: bj (b :: u)
      rw [← ih]
      simp [Lib.joinTail]
theorem bj_snoc (l : List (List UInt8)) (a : List UInt8) (h : l ≠ []) : bj (l ++ [a]) = bj l ++ 32 :: a := by
  induction l with
  | nil => exact absurd rfl h
  | cons b t ih =>
    cases t with
    | nil => rfl
    | cons c u =>
      show b ++ 32 :: bj (c :: u ++ [a]) = (b ++ 32 :: bj (c :: u)) ++ 32 :: a
      rw [ih (by simp)]
      simp
theorem bj_wl (l : List (List UInt8)) (h : l ≠ []) : (bj l).length + 1 = wl l := by
  induction l with
  | nil => exact absurd rfl h
  | cons a t ih =>
    cases t with
    | nil => rfl
    | cons b u =>
      have := ih (by simp)
      show (a ++ 32 :: bj (b :: u)).length + 1 = a.length + 1 + wl (b :: u)
      rw [List.length_append, List.length_cons]
      omega
theorem wl_append (a b : List (List UInt8)) : wl (a ++ b) = wl a + wl b := by
  induction a with
  | nil => simp [wl]
  | cons x t ih => simp [wl, ih]; omega
theorem bj_mem {l : List (List UInt8)} {c : UInt8} (h : c ∈ bj l) : c = 32 ∨ ∃ a ∈ l, c ∈ a := by
  induction l with
  | nil => cases h
  | cons a t ih =>
    cases t with
    | nil => exact .inr ⟨a, by simp, h⟩
    | cons b u =>
      have h : c ∈ a ++ 32 :: bj (b :: u) := h
      rcases List.mem_append.1 h with h1 | h1
      · exact .inr ⟨a, by simp, h1⟩
      · rcases List.mem_cons.1 h1 with h2 | h2
        · exact .inl h2
        · rcases ih h2 with h3 | ⟨x, h3, h4⟩
          · exact .inl h3
          · exact .inr ⟨x, List.mem_cons_of_mem _ h3, h4⟩
theorem wl_len (l : List (List UInt8)) (n : Nat) (h : ∀ a ∈ l, a.length ≤ n) : wl l ≤ (n + 1) * l.length := by
  induction l with
  | nil => simp [wl]
  | cons a t ih =>
    have h1 := h a (by simp)
    have h2 := ih (fun x hx => h x (by simp [hx]))
    simp only [wl, List.length_cons, Nat.mul_add]
    omega

/-! ## Words of lines -/
theorem blank_no {c : UInt8} (h1 : c ≠ 32) (h2 : c ≠ 9) : blanks.contains c = false := by
  unfold blanks
  simp [h1, h2]
theorem blank_yes {c : UInt8} (h : blanks.contains c = true) : c = 32 ∨ c = 9 := by
  unfold blanks at h
  simpa using h
theorem fst_plain {a t : List UInt8} (h : ∀ c ∈ a, blanks.contains c = false) (ht : t = [] ∨ ∃ c u, t = c :: u ∧ blanks.contains c = true) : fst blanks (a ++ t) = a ∧ rst blanks (a ++ t) = t := by
  induction a with
  | nil =>
    rcases ht with rfl | ⟨c, u, rfl, hc⟩
    · exact ⟨rfl, rfl⟩
    · exact ⟨fst_hit hc, rst_hit hc⟩
  | cons x a ih =>
    obtain ⟨h1, h2⟩ := ih (fun c hc => h c (by simp [hc]))
    have hx := h x (by simp)
    rw [List.cons_append, fst_miss hx, rst_miss hx, h1, h2]
    exact ⟨rfl, rfl⟩
theorem hw_plain {a t : List UInt8} (ha : a ≠ []) (h : ∀ c ∈ a, blanks.contains c = false) (ht : t = [] ∨ ∃ c u, t = c :: u ∧ blanks.contains c = true) : hw (a ++ t) = a ∧ hr (a ++ t) = t := by
  have e : trim blanks (a ++ t) = a ++ t := by
    cases a with
    | nil => exact absurd rfl ha
    | cons x a => exact trim_miss (h x (by simp))
  unfold hw hr
  rw [e]
  exact fst_plain h ht
theorem wds_hit {c : UInt8} (h : blanks.contains c = true) (t : List UInt8) : wds (c :: t) = wds t := by
  have e1 : hw (c :: t) = hw t := by unfold hw; rw [trim_hit h]
  have e2 : hr (c :: t) = hr t := by unfold hr; rw [trim_hit h]
  by_cases hn : hw t = []
  · rw [wds_nil hn, wds_nil (e1.trans hn)]
  · rw [wds_cons hn, wds_cons (by rw [e1]; exact hn), e1, e2]
theorem wds_none : wds [] = [] := wds_nil rfl
theorem wds_bj {l : List (List UInt8)} (h0 : ∀ a ∈ l, a ≠ []) (h : ∀ a ∈ l, ∀ c ∈ a, blanks.contains c = false) : wds (bj l) = l := by
  induction l with
  | nil => exact wds_none
  | cons a t ih =>
    have ih := ih (fun x hx => h0 x (by simp [hx])) (fun x hx => h x (by simp [hx]))
    have ha := h0 a (by simp)
    have hb := h a (by simp)
    cases t with
    | nil =>
      obtain ⟨e1, e2⟩ := hw_plain (t := []) ha hb (.inl rfl)
      rw [List.append_nil] at e1 e2
      show wds a = [a]
      rw [wds_cons (by rw [e1]; exact ha), e1, e2, wds_none]
    | cons b u =>
      obtain ⟨e1, e2⟩ := hw_plain (t := 32 :: bj (b :: u)) ha hb (.inr ⟨32, _, rfl, rfl⟩)
      show wds (a ++ 32 :: bj (b :: u)) = a :: b :: u
      rw [wds_cons (by rw [e1]; exact ha), e1, e2, wds_hit rfl, ih]
theorem wl_wds (l : List UInt8) : wl (wds l) ≤ l.length + 1 := by
  obtain ⟨n, hn⟩ : ∃ n, n = l.length := ⟨_, rfl⟩
  induction n using Nat.strongRecOn generalizing l with
  | ind n ih =>
    by_cases h : hw l = []
    · rw [wds_nil h]; simp [wl]
    · have hlt := hr_lt h
      have h1 := rst_len blanks (trim blanks l)
      have h2 := trim_len blanks l
      have h4 := fst_len blanks (trim blanks l)
      rw [wds_cons h]
      show (hw l).length + 1 + wl (wds (hr l)) ≤ _
      rcases rst_form (cs := blanks) (trim blanks l) with e | ⟨c, t, e, hc⟩
      · rw [show hr l = [] from e, wds_none]
        unfold hw
        simp only [wl]
        omega
      · have e' : hr l = c :: t := e
        rw [e', wds_hit hc]
        rw [e'] at hlt
        simp only [List.length_cons] at hlt
        have := ih t.length (by omega) t rfl
        rw [e, List.length_cons] at h1
        unfold hw
        omega
theorem wl_lns (l : List UInt8) : wl (lns l) ≤ l.length + 1 := by
  induction l with
  | nil => simp [lns, wl]
  | cons c t ih =>
    unfold lns
    split
    · simp only [wl, List.length_nil, List.length_cons]; omega
    · cases e : lns t with
      | nil => simp [wl]
      | cons a u =>
        rw [e] at ih
        simp only [wl, List.length_cons] at ih ⊢
        omega
/-- The words of all lines. -/
def wof (s : List UInt8) : List (List UInt8) := (lns s).flatMap wds
theorem wl_flat (L : List (List UInt8)) : wl (L.flatMap wds) ≤ wl L := by
  induction L with
  | nil => simp [wl]
  | cons a t ih =>
    have := wl_wds a
    rw [List.flatMap_cons, wl_append]
    simp only [wl]
    omega
theorem wl_wof (s : List UInt8) : wl (wof s) ≤ s.length + 1 := Nat.le_trans (wl_flat _) (wl_lns s)
theorem len_wl (l : List (List UInt8)) : l.length ≤ wl l := by
  induction l with
  | nil => simp
  | cons a t ih => simp only [wl, List.length_cons]; omega
theorem bj_wof (s : List UInt8) : (bj (wof s)).length ≤ s.length := by
  by_cases h : wof s = []
  · rw [h]; simp [bj]
  · have h1 := bj_wl _ h
    have h2 := wl_wof s
    omega
theorem wds_ne {l : List UInt8} : ∀ a ∈ wds l, a ≠ [] := by
  obtain ⟨n, hn⟩ : ∃ n, n = l.length := ⟨_, rfl⟩
  induction n using Nat.strongRecOn generalizing l with
  | ind n ih =>
    intro a ha
    by_cases h : hw l = []
    · rw [wds_nil h] at ha; cases ha
    · rw [wds_cons h] at ha
      rcases List.mem_cons.1 ha with e | e
      · rw [e]; exact h
      · exact ih _ (by have := hr_lt h; omega) rfl a e
theorem wds_part {l : List UInt8} : ∀ a ∈ wds l, a.length ≤ l.length := by
  obtain ⟨n, hn⟩ : ∃ n, n = l.length := ⟨_, rfl⟩
  induction n using Nat.strongRecOn generalizing l with
  | ind n ih =>
    intro a ha
    by_cases h : hw l = []
    · rw [wds_nil h] at ha; cases ha
    · rw [wds_cons h] at ha
      rcases List.mem_cons.1 ha with e | e
      · rw [e]; exact hw_le l
      · have h1 := hr_lt h
        have := ih _ (by omega) rfl a e
        omega
theorem wl_mem {l : List (List UInt8)} {a : List UInt8} (h : a ∈ l) : a.length + 1 ≤ wl l := by
  induction l with
  | nil => cases h
  | cons x t ih =>
    simp only [wl]
    rcases List.mem_cons.1 h with e | e
    · subst e; omega
    · have := ih e; omega

/-! ## The text of picks -/
def tall (l : List Pk) : Bool := l.all fun p => wok p.2
def pt (l : List Pk) : List UInt8 := if tall l = true then bj (l.map word) else []
def pet (l : List Pk) : Int := if tall l = true then 0 else 1
theorem pt_yes {l : List Pk} (h : tall l = true) : pt l = bj (l.map word) ∧ pet l = 0 := ⟨if_pos h, if_pos h⟩
theorem pt_no {l : List Pk} (h : tall l = false) : pt l = [] ∧ pet l = 1 := by
  have h : ¬ tall l = true := by rw [h]; decide
  exact ⟨if_neg h, if_neg h⟩
theorem tall_at {l : List Pk} {k : Nat} (hk : k < l.length) (h : wok (l.getD k (0, 0)).2 = false) : tall l = false := by
  unfold tall
  rw [List.all_eq_false]
  refine ⟨l[k], List.getElem_mem hk, ?_⟩
  have : l.getD k (0, 0) = l[k] := by simp [List.getD, hk]
  rw [this] at h
  rw [h]
  decide
theorem tall_next {l : List Pk} {k : Nat} (hk : k < l.length) (h0 : tall (l.take k) = true) (h : wok (l.getD k (0, 0)).2 = true) : tall (l.take (k + 1)) = true := by
  unfold tall at h0 ⊢
  have : l.getD k (0, 0) = l[k] := by simp [List.getD, hk]
  rw [this] at h
  rw [List.take_succ_eq_append_getElem hk, List.all_append, h0]
  simp [h]
theorem tall_mem {l : List Pk} (h : tall l = true) : ∀ p ∈ l, wok p.2 = true := fun p hp => List.all_eq_true.1 h p hp
theorem bj_word_len (l : List Pk) (h : ∀ p ∈ l, InR p.1) : (bj (l.map word)).length ≤ 22 * l.length := by
  by_cases hl : l = []
  · subst hl; simp [bj]
  · have h1 := bj_wl (l.map word) (by simpa using hl)
    have h2 := wl_len (l.map word) 21 (fun a ha => by
      obtain ⟨p, hp, rfl⟩ := List.mem_map.1 ha
      exact word_len (h p hp))
    rw [List.length_map] at h2
    omega
theorem wof_bj {l : List Pk} (h : ∀ p ∈ l, wok p.2 = true) : wof (bj (l.map word)) = l.map word := by
  have hw' : wds (bj (l.map word)) = l.map word := wds_bj (fun a ha => by
      obtain ⟨p, _, rfl⟩ := List.mem_map.1 ha
      exact word_ne p) (fun a ha c hc => by
      obtain ⟨p, hp, rfl⟩ := List.mem_map.1 ha
      obtain ⟨h1, h2, _⟩ := word_plain (h p hp) c hc
      exact blank_no h1 h2)
  unfold wof
  by_cases he : bj (l.map word) = []
  · rw [he] at hw' ⊢
    rw [wds_none] at hw'
    rw [← hw']
    rfl
  · rw [lns_one (fun hc => ?_) he, List.flatMap_cons, List.flatMap_nil, List.append_nil, hw']
    rcases bj_mem hc with e | ⟨a, ha, hc⟩
    · exact absurd e (by decide)
    · obtain ⟨p, hp, rfl⟩ := List.mem_map.1 ha
      exact (word_plain (h p hp) _ hc).2.2 rfl

/-! ## The picks of words -/
noncomputable def good (ws : List (List UInt8)) : Bool := ws.all rb
noncomputable def pl (ws : List (List UInt8)) : List Pk := if good ws = true then ws.map rp else []
noncomputable def pi (ws : List (List UInt8)) : Nat := if good ws = true then 0 else (ws.takeWhile rb).length
noncomputable def pf (ws : List (List UInt8)) : Int := if good ws = true then 0 else 2
theorem pl_yes {ws : List (List UInt8)} (h : good ws = true) : pl ws = ws.map rp ∧ pi ws = 0 ∧ pf ws = 0 := ⟨if_pos h, if_pos h, if_pos h⟩
theorem pl_no {ws W R : List (List UInt8)} {x : List UInt8} (e : ws = W ++ x :: R) (h : good W = true) (hx : rb x = false) : pl ws = [] ∧ pi ws = W.length ∧ pf ws = 2 := by
  have hg : ¬ good ws = true := by
    unfold good
    rw [e, List.all_append, List.all_cons, hx]
    simp
  have ht : ws.takeWhile rb = W := by
    rw [e, List.takeWhile_append_of_pos (fun a ha => List.all_eq_true.1 h a ha), List.takeWhile_cons, hx]
    simp
  unfold pl pi pf
  rw [if_neg hg, if_neg hg, if_neg hg, ht]
  exact ⟨rfl, rfl, rfl⟩
theorem good_snoc {W : List (List UInt8)} {x : List UInt8} (h : good W = true) (hx : rb x = true) : good (W ++ [x]) = true := by
  unfold good at h ⊢
  rw [List.all_append, h]
  simp [hx]
theorem good_mem {ws : List (List UInt8)} (h : good ws = true) : ∀ a ∈ ws, rb a = true := fun a ha => List.all_eq_true.1 h a ha
theorem pf_two (ws : List (List UInt8)) : pf ws = 0 ∨ pf ws = 2 := by
  unfold pf
  split
  · exact .inl rfl
  · exact .inr rfl
theorem pf_zero {ws : List (List UInt8)} (h : pf ws = 0) : good ws = true := by
  unfold pf at h
  split at h
  · assumption
  · cases h
theorem pl_zero {ws : List (List UInt8)} (h : pf ws ≠ 0) : pl ws = [] := by
  unfold pf at h
  unfold pl
  split at h
  · exact absurd rfl h
  · rename_i hg
    exact if_neg hg
theorem pl_len (ws : List (List UInt8)) : (pl ws).length ≤ ws.length := by
  unfold pl
  split <;> simp
theorem pl_in (ws : List (List UInt8)) : ∀ p ∈ pl ws, InR p.1 ∧ wok p.2 = true := by
  intro p hp
  by_cases h : good ws = true
  · rw [(pl_yes h).1] at hp
    obtain ⟨a, ha, rfl⟩ := List.mem_map.1 hp
    exact ⟨rp_in (good_mem h a ha), rp_ok a⟩
  · unfold pl at hp
    rw [if_neg h] at hp
    cases hp
/-- Picks come back from their text. -/
theorem pl_words {l : List Pk} (h1 : ∀ p ∈ l, InR p.1) (h2 : ∀ p ∈ l, wok p.2 = true) : pl (l.map word) = l ∧ pi (l.map word) = 0 ∧ pf (l.map word) = 0 := by
  have hg : good (l.map word) = true := by
    unfold good
    rw [List.all_eq_true]
    intro a ha
    obtain ⟨p, hp, rfl⟩ := List.mem_map.1 ha
    exact (rb_word (h1 p hp) (h2 p hp)).1
  obtain ⟨a1, a2, a3⟩ := pl_yes hg
  refine ⟨?_, a2, a3⟩
  rw [a1, List.map_map]
  have : ∀ p ∈ l, (rp ∘ word) p = p := fun p hp => (rb_word (h1 p hp) (h2 p hp)).2
  rw [List.map_congr_left this, List.map_id'' (fun _ => rfl)]
/-- A text is that of its picks, but for blanks. -/
theorem words_pl {ws : List (List UInt8)} (h : good ws = true) : (pl ws).map word = ws := by
  rw [(pl_yes h).1, List.map_map]
  have : ∀ a ∈ ws, (word ∘ rp) a = a := fun a ha => word_rp (good_mem h a ha)
  rw [List.map_congr_left this, List.map_id'' (fun _ => rfl)]
theorem tall_pl (ws : List (List UInt8)) : tall (pl ws) = true := by
  unfold tall
  rw [List.all_eq_true]
  exact fun p hp => (pl_in ws p hp).2

/-! ## A pick for each byte -/
def d1 (c : UInt8) : Pk := ((c.toNat : Int) / 8, if (c.toNat : Int) % 8 ≤ 4 then (c.toNat : Int) % 8 else 0)
def dpk (s : List UInt8) : List Pk := s.map d1
end Go.Proofs.YtoegnnhnfkecoaaDoor
