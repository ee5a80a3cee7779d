/- Package auto: the lock's blocks; New, Threads, has, State, Holder, before, after. -/
import Derived.Test.YtmmncaabeiagaaaUEv
import Derived.Test.YtmmncaabeiagaaaURef
import Derived.Test.YtmmncaabeiagaaaNums
namespace Go.Proofs.Ytmmncaabeiagaaa
open Go.RowKit
set_option maxRecDepth 100000

/-- The lock at p (nil: no threads): what its threads are at lies in block g. -/
def Lk (w : World) (p : Option Addr) (g : Nat) (A : List Int) : Prop :=
  (p = none ∧ A = []) ∨ ∃ b q c, p = some ⟨b, 0, none⟩ ∧ Is w b 59 #[.slice q A.length c] ∧ (0 < A.length → q = some ⟨g, 0, none⟩ ∧ Is w g 3 (A.map (Value.int .i64)).toArray)
/-- A block that may be a lock's. -/
def OfL (w : World) (k : Nat) : Prop := ∃ t cs, Is w k t cs ∧ (t = 59 ∨ t = 3)

section
variable {w w' : World} {p : Option Addr} {g k : Nat} {A : List Int} {S : Nat → Prop}
theorem Lk.kept (h : Lk w p g A) (k : Kept S w w') (hs : ∀ i, OfL w i → ¬ S i) : Lk w' p g A := by
  rcases h with h | ⟨b, q, c, e, h1, h2⟩
  · exact .inl h
  · refine .inr ⟨b, q, c, e, h1.kept k (hs b ⟨_, _, h1, .inl rfl⟩), fun z => ?_⟩
    obtain ⟨e2, h3⟩ := h2 z
    exact ⟨e2, h3.kept k (hs g ⟨_, _, h3, .inr rfl⟩)⟩
theorem Lk.keep (h : Lk w p g A) (k : Kept Nil w w') : Lk w' p g A := h.kept k (fun _ _ z => z)
theorem at_cell (h : k < A.length) : (A.map (Value.int .i64)).toArray[k]? = some (.int .i64 (A.getD k 0)) := by
  rw [List.getElem?_toArray, List.getElem?_map, List.getElem?_eq_getElem h]
  simp [List.getD, h]
theorem Is.ints {l : List Int} (h : Is w g 3 (l.map (Value.int .i64)).toArray) {q : Option Addr} {c : Nat} (hq : 0 < l.length → q = some ⟨g, 0, none⟩) : Nums w (.slice q l.length c) l := by
  refine ⟨_, _, rfl, fun z => ⟨g, 0, hq z, h.lt, fun j hj => ?_⟩⟩
  rw [Nat.zero_add, h.cell j]
  exact at_cell hj
theorem u_make (n : Nat) (hn : n ≤ 65536) (w : World) : (Instr.makeSlice 57 (.int .i64 (n : Int)) (.int .i64 (n : Int))).run Try.prog w = .ok (.slice (some ⟨w.heap.size, 0, none⟩) n n) (w.alloc (.cells (Array.replicate n (Value.int .i64 0)) 3)) := by
  obtain ⟨i0, hi, hz0, hz1, hz2⟩ := info_parts info_int
  have h := run_make (P := Try.prog) w 57 3 i0 _ Try.underlying57 hi hz0 .i64 .i64 n n (by omega) (Int.le_refl _) (by rw [hz2]; omega) (by omega)
  rw [hz1, Int.toNat_natCast, Nat.mul_one] at h
  rw [← List.toArray_replicate, ← made_zeros]
  exact h
theorem um_min {t : Int} : min (max t 0) 32 = (um t : Int) := by unfold um; split <;> (try split) <;> omega

set_option maxHeartbeats 1000000
/-- New. -/
theorem unew_c (w : World) (t : Int) : Calls Try.prog 14 #[.int .i64 t] w fun e w' => ∃ p g, e = .returned (.pointer p) ∧ Lk w' p g (List.replicate (um t) 0) ∧ Kept Nil w w' ∧ w.heap.size ≤ g := by
  have hm := um_min (t := t)
  have hle := um_le (t := t)
  generalize um t = n at *
  have hmk := u_make n (by omega) w
  obtain ⟨z, hz⟩ : ∃ z, (if t < 0 then (0 : Int) else t) = z := ⟨_, rfl⟩
  have hz4 : (if 32 < z then (32 : Int) else z) = (n : Int) := by rw [← hz, ← hm]; repeat' split; all_goals omega
  have HK := hide (((Kept.refl Nil w).alloc (.cells (Array.replicate n (Value.int .i64 0)) 3)).alloc (.cells #[.slice (some ⟨w.heap.size, 0, none⟩) n n] 59))
  have H1 := hide ((Is.new w 3 (Array.replicate n (Value.int .i64 0))).alloc (.cells #[.slice (some ⟨w.heap.size, 0, none⟩) n n] 59))
  have H2 := hide (Is.new (w.alloc (.cells (Array.replicate n (Value.int .i64 0)) 3)) 59 #[.slice (some ⟨w.heap.size, 0, none⟩) n n])
  clear hm
  go_enter Try.func14, Try.ntmps14
  go_wp2_with fail
  go_ret
  refine ⟨_, w.heap.size, rfl, .inr ⟨_, _, n, rfl, ?_, fun _ => ⟨rfl, ?_⟩⟩, HK.out, Nat.le_refl _⟩
  · rw [List.length_replicate]
    have := H2.out
    simpa using this
  · have := H1.out
    simpa using this
/-- Threads. -/
theorem uthreads_c (h : Lk w p g A) : Calls Try.prog 34 #[.pointer p] w fun e w' => e = .returned (.int .i64 A.length) ∧ w = w' := by
  rcases h with ⟨rfl, rfl⟩ | ⟨b, q, c, rfl, h1, _⟩
  · go_enter Try.func34, Try.ntmps34
    go_wp2_with fail
    go_ret
    exact ⟨rfl, rfl⟩
  · have g0 : w.cell? ⟨b, 0, none⟩ = some (.slice q A.length c) := h1.cell 0
    go_enter Try.func34, Try.ntmps34
    go_wp2_with fail
    go_ret
    exact ⟨rfl, rfl⟩
/-- has. -/
theorem uhas_c (t : Int) {b : Bool} (hb : decide (0 ≤ t ∧ t < A.length) = b) (h : Lk w p g A) : Calls Try.prog 28 #[.pointer p, .int .i64 t] w fun e w' => e = .returned (.bool b) ∧ w = w' := by
  have HT := hide (uthreads_c h)
  have HB := hide hb
  clear hb h
  generalize (A.length : Int) = n at *
  by_cases h0 : 0 ≤ t
  · have d0 : decide (0 ≤ t) = true := by simpa using h0
    by_cases h1 : t < n
    · have d1 : decide (t < n) = true := by simpa using h1
      have HE : Hid (b = true) := hide (by rw [← HB.out]; exact decide_eq_true ⟨h0, h1⟩)
      clear h0 h1
      go_enter Try.func28, Try.ntmps28
      go_wp2_with fail
      refine HT.out.mono ?_
      rintro e w' ⟨rfl, rfl⟩
      go_wp2_with fail
      go_ret
      exact ⟨by rw [HE.out]; rfl, rfl⟩
    · have d1 : decide (t < n) = false := by simpa using h1
      have HE : Hid (b = false) := hide (by rw [← HB.out]; exact decide_eq_false (fun z => h1 z.2))
      clear h0 h1
      go_enter Try.func28, Try.ntmps28
      go_wp2_with fail
      refine HT.out.mono ?_
      rintro e w' ⟨rfl, rfl⟩
      go_wp2_with fail
      go_ret
      exact ⟨by rw [HE.out]; rfl, rfl⟩
  · have d0 : decide (0 ≤ t) = false := by simpa using h0
    have HE : Hid (b = false) := hide (by rw [← HB.out]; exact decide_eq_false (fun z => h0 z.1))
    clear h0
    go_enter Try.func28, Try.ntmps28
    go_wp2_with fail
    go_ret
    exact ⟨by rw [HE.out]; rfl, rfl⟩
/-- slices.Index: who is in. -/
theorem uindex_c {v : Value} (hv : Nums w v A) (hl : A.length ≤ 65536) : Calls Try.prog 31 #[v, .int .i64 2] w fun e w' => e = .returned (.int .i64 (hol A)) ∧ w = w' := by
  obtain ⟨q, c, rfl, hp⟩ := hv
  go_enter Try.func31, Try.ntmps31
  go_wp2_with fail
  go_loop [8] (fun i => ∃ k : Nat, k ≤ A.length ∧ i = .int .i64 k ∧ ∀ j, j < k → A.getD j 0 ≠ 2) (fun i => A.length - (intOf i).toNat)
  case atStart => exact ⟨0, Nat.zero_le _, rfl, fun j h => by omega⟩
  case round =>
    obtain ⟨k, hk, rfl, hn⟩ := hrel
    have HN := hide hn
    clear hn
    by_cases hlt : k < A.length
    · obtain ⟨g, o, rfl, _, hc⟩ := hp (by omega)
      have c1 := hc k hlt
      clear hc
      have HX := hide (fun h => hol_hit hlt h HN.out)
      have HY := hide (fun (h : A.getD k 0 ≠ 2) (j : Nat) (hj : j < k + 1) => show A.getD j 0 ≠ 2 from by
        by_cases e : j = k
        · rw [e]; exact h
        · exact HN.out j (by omega))
      generalize A.getD k 0 = y at *
      by_cases hy : y = 2
      · subst hy
        have HR := hide (HX.out rfl)
        clear HX HY
        go_wp2_with fail
        go_ret
        exact ⟨by rw [HR.out]; rfl, rfl⟩
      · have HR := hide (HY.out hy)
        have hb : ((2 : Int) == y) = false := by simp; omega
        clear HX HY hy
        go_wp2_with fail
        go_round
        case rel => exact ⟨k + 1, by omega, by go_num, HR.out⟩
        case measure => simp [intOf]; omega
    · obtain rfl : k = A.length := by omega
      have HR := hide (hol_miss HN.out)
      go_wp2_with fail
      go_ret
      exact ⟨by rw [HR.out]; rfl, rfl⟩
/-- Holder. -/
theorem ulholder_c (h : Lk w p g A) (hl : A.length ≤ 65536) : Calls Try.prog 16 #[.pointer p] w fun e w' => e = .returned (.int .i64 (hol A)) ∧ w = w' := by
  rcases h with ⟨rfl, rfl⟩ | ⟨b, q, c, rfl, h1, h2⟩
  · go_enter Try.func16, Try.ntmps16
    go_wp2_with fail
    go_ret
    exact ⟨rfl, rfl⟩
  · have g0 : w.cell? ⟨b, 0, none⟩ = some (.slice q A.length c) := h1.cell 0
    have hv : Nums w (.slice q A.length c) A := by
      rcases Nat.eq_zero_or_pos A.length with e | e
      · have : A = [] := List.eq_nil_of_length_eq_zero e
        subst this
        exact Nums.nil _ _ _
      · obtain ⟨e2, h3⟩ := h2 e
        exact h3.ints (fun _ => e2)
    have HI := hide (uindex_c hv hl)
    clear h1 h2 hv
    go_enter Try.func16, Try.ntmps16
    go_wp2_with fail
    refine HI.out.mono ?_
    rintro e w' ⟨rfl, rfl⟩
    go_wp2_with fail
    go_ret
    exact ⟨rfl, rfl⟩
/-- before. -/
theorem ubefore_c (w : World) (k : Int) {m : Int} (hm : k - 1 = m) (hk : 0 ≤ k ∧ k ≤ 100) : Calls Try.prog 35 #[.int .i64 k] w fun e w' => e = .returned (.int .i64 m) ∧ w = w' := by
  have HM := hide hm
  clear hm
  go_enter Try.func35, Try.ntmps35
  go_wp2_with fail
  go_ret
  exact ⟨by rw [← HM.out]; rfl, rfl⟩
/-- after. -/
theorem uafter_c (w : World) (k : Int) (hk : 1 ≤ k ∧ k ≤ 4) : Calls Try.prog 30 #[.int .i64 k] w fun e w' => e = .returned (.int .i64 (aft k)) ∧ w = w' := by
  by_cases h4 : k = 4
  · subst h4
    go_enter Try.func30, Try.ntmps30
    go_wp2_with fail
    go_ret
    exact ⟨rfl, rfl⟩
  · have b4 : (k == 4) = false := by simpa using h4
    have HA : Hid (aft k = k) := hide (if_neg h4)
    have HC := hide fun W => ubefore_c W (k + 1) (m := k) (by omega) (by omega)
    clear h4
    go_enter Try.func30, Try.ntmps30
    go_wp2_with fail
    refine (HC.out _).mono ?_
    rintro e w' ⟨rfl, rfl⟩
    go_wp2_with fail
    go_ret
    exact ⟨by rw [HA.out]; rfl, rfl⟩
end
end Go.Proofs.Ytmmncaabeiagaaa
