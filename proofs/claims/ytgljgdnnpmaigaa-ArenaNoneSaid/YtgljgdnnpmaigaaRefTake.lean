/- How the document's arena takes words; whether two slices hold the same numbers. -/
import Derived.Test.YtgljgdnnpmaigaaRefOps
namespace Go.Proofs.Ytgljgdnnpmaigaa
open Go.RowKit

/-- One more number behind those of a slice: what append leaves. -/
theorem Row.grow {w w' : World} {A : Option Addr} {c : Nat} {l : List Int} {v' : Value} (h : w'.ownsRow 0 3 1 v' (l.length + 1) (l.map (Value.int .i64) ++ [.int .i64 0])) (hg : w.grownBy w' (Value.slice A l.length c).ownBlock)
    (hat : v'.ownBlock = (Value.slice A l.length c).ownBlock ∨ v'.ownBlock = some w.heap.size) :
    ∃ A' c', v' = .slice A' (l.length + 1) c' ∧ Row w' (.slice A' (l.length + 1) c') (l ++ [0]) ∧ Kept (In A) w w' ∧ (∀ g, In A' g → In A g ∨ g = w.heap.size) := by
  have hr : Row w' v' (l ++ [0]) := by
    unfold Row
    rw [List.length_append, List.map_append]
    exact h
  obtain ⟨A', c', e, _, _⟩ := hr.form
  rw [List.length_append] at e
  have hob : ∀ (B : Option Addr) (n m : Nat), (Value.slice B n m).ownBlock = B.map (·.block) := fun B n m => by cases B <;> rfl
  subst e
  refine ⟨A', c', rfl, hr, ?_, ?_⟩
  · have := Kept.of_grown hg
    refine this.more fun i _ hi => ?_
    rw [hob] at hi
    exact hi
  · intro g hg2
    rw [hob, hob] at hat
    unfold In at hg2 ⊢
    rw [hg2] at hat
    rcases hat with hat | hat
    · exact .inl hat.symm
    · injection hat with hat
      exact .inr hat

section
variable {b c : Nat} {A : Option Addr} {s : St} {w w' : World} {S : Nat → Prop}
set_option maxHeartbeats 400000

theorem rtake_neg (n : Int) (hn : n < 0) : Calls Try.prog 22 #[.pointer (some ⟨b, 0, none⟩), .int .i64 n] w fun e w' => e = .returned (.tuple #[.int .i64 0, .int .i64 1]) ∧ w = w' := by
  go_enter Try.func22, Try.ntmps22
  go_wp2_with fail
  go_ret2
  exact ⟨rfl, rfl⟩
theorem rtake_full (n : Int) (h : RefAt w b A c s) (h0 : 0 ≤ n) (hn : (s.room : Int) - s.ws.length < n) : Calls Try.prog 22 #[.pointer (some ⟨b, 0, none⟩), .int .i64 n] w fun e w' => e = .returned (.tuple #[.int .i64 0, .int .i64 3]) ∧ ∃ k, w' = w.drewN k := by
  have g0 := h.c0
  have g1 := h.c1
  have f1 := h.fits
  have f2 := h.small
  go_enter Try.func22, Try.ntmps22
  go_wp2_with fail
  go_quiet (fail)
  go_wp2_with fail
  go_ret2
  exact ⟨rfl, _, rfl⟩

theorem RefAt.grown {w1 : World} {A2 : Option Addr} {c2 : Nat} {o : Obj} (h : RefAt w b A c s) (hroom : s.ws.length + 1 ≤ s.room) (hrow : Row w1 (.slice A2 (s.ws.length + 1) c2) (s.ws ++ [0]))
    (hk : Kept (In A) (w.alloc o) w1) (hin : ∀ g, In A2 g → In A g ∨ g = (w.alloc o).heap.size) :
    w1.cell? ⟨b, 1, none⟩ = some (.slice A s.ws.length c) ∧ w1.frozen? ⟨b, 1, none⟩ = false ∧ RefAt (w1.setCell ⟨b, 1, none⟩ (.slice A2 (s.ws.length + 1) c2)) b A2 c2 (s.take 1) ∧
    Kept (OfR b A) w (w1.setCell ⟨b, 1, none⟩ (.slice A2 (s.ws.length + 1) c2)) ∧ (∀ g, In A2 g → In A g ∨ w.heap.size ≤ g) := by
  have hb : ¬ In A b := h.row.ne h.own (by decide)
  have ho := (h.own.alloc o).kept hk hb
  have hb2 : ¬ In A2 b := by
    intro hg
    rcases hin b hg with e | e
    · exact hb e
    · have := h.own.lt
      simp at e
      omega
  refine ⟨ho.cell 1, ho.free 1, ⟨?_, ?_, ?_, h.small⟩, ?_, ?_⟩
  · have := ho.set 1 (.slice A2 (s.ws.length + 1) c2)
    simpa [St.take] using this
  · have := hrow.kept ((Kept.refl (fun i => i = b) w1).set (p := ⟨b, 1, none⟩) (fun _ => rfl) (.slice A2 (s.ws.length + 1) c2)) (fun g hg e => hb2 (e ▸ hg))
    simpa [St.take] using this
  · simpa [St.take] using hroom
  · refine Kept.set (S := OfR b A) ?_ (p := ⟨b, 1, none⟩) (fun _ => .inl rfl) _
    exact ((Kept.refl (OfR b A) w).alloc o).trans hk (fun i _ hi => .inr hi)
  · intro g hg
    rcases hin g hg with e | e
    · exact .inl e
    · right
      simp at e
      omega

theorem take_succ (k : Nat) : (s.take k).take 1 = s.take (k + 1) := by
  unfold St.take
  simp [List.replicate_succ']
theorem rtake_some (n : Nat) (h : RefAt w b A c s) (hn : s.ws.length + n ≤ s.room) : Calls Try.prog 22 #[.pointer (some ⟨b, 0, none⟩), .int .i64 n] w fun e w' =>
    e = .returned (.tuple #[.int .i64 ((s.ws.length : Int) + 1), .int .i64 0]) ∧ ∃ A' c', RefAt w' b A' c' (s.take n) ∧ Kept (OfR b A) w w' ∧ (∀ g, In A' g → In A g ∨ w.heap.size ≤ g) := by
  have g0 := h.c0
  have g1 := h.c1
  have f1 := h.fits
  have f2 := h.small
  obtain ⟨i0, hi, hz0, hz1, hz2⟩ := info_parts info_int
  go_enter Try.func22, Try.ntmps22
  go_wp2_with fail
  go_quiet (fail)
  go_wp2_with fail
  go_loopw [7] (fun i wr => ∃ (k : Nat) (A' : Option Addr) (c' : Nat), k ≤ n ∧ i = .int .i64 k ∧ RefAt wr b A' c' (s.take k) ∧ Kept (OfR b A) w wr ∧ (∀ g, In A' g → In A g ∨ w.heap.size ≤ g)) (fun i _ => n - (intOf i).toNat)
  case atStart => exact ⟨0, A, c, Nat.zero_le _, rfl, by simpa [St.take] using h.drewN _, (Kept.refl _ w).drewN _, fun g hg => .inl hg⟩
  case round =>
    obtain ⟨k, A', c', hk, rfl, hr, hkp, hin⟩ := hrel
    by_cases hlt : k < n
    · have c1 := hr.c1
      have z1 := hr.own.free 1
      have hlen : (s.take k).ws.length = s.ws.length + k := by simp [St.take]
      have hrow := hr.row
      have hrow1 : wr.ownsRow 0 3 1 (.slice A' (s.take k).ws.length c') (s.take k).ws.length ((s.take k).ws.map (Value.int .i64)) := hrow
      have hbs := hr.own.lt
      have HR := hide hr
      have hl2 := hide hlen
      clear hr hrow hlen
      have hm1 : (s.take k).ws.length + 1 ≤ maxLen := by rw [hl2.out]; simp only [maxLen]; omega
      have hm2 : ((s.take k).ws.length + 1) * 8 ≤ 140737488355328 := by rw [hl2.out]; omega
      have HM := hide (And.intro hm1 hm2)
      clear hm1 hm2
      have Hrow1 := hide hrow1
      clear hrow1
      have hroom : (s.take k).ws.length + 1 ≤ (s.take k).room := by rw [hl2.out]; show _ ≤ s.room; omega
      have HG := hide fun (w1 : World) (A2 : Option Addr) (c2 : Nat) (o : Obj) => RefAt.grown (w1 := w1) (A2 := A2) (c2 := c2) (o := o) HR.out hroom
      clear hroom
      go_wp2_with (at_builtin; refine wpList_append_own_at _ rfl (.tmp 37) (.tmp 38) _ rfl 0 3 i0 (.int .i64 0) 1 8 Try.underlying40 hi hz0 hz1 hz2 rfl (by decide) (.slice A' (s.take k).ws.length c') (s.take k).ws.length ((s.take k).ws.map (Value.int .i64)) rfl (Hrow1.out.alloc _) ⟨wr.heap.size, 0, none⟩ 1 1 [.int .i64 0] rfl rfl (cell_one_new _ _ _) (by intro u hu; simp at hu; subst hu; rfl) HM.out.1 HM.out.2 (Nat.zero_le _) ?_; intro v' w1 hown' hgrow _ hat; obtain ⟨A2, c2, rfl, hrow2, hk2, hin2⟩ := Row.grow hown' hgrow hat; obtain ⟨d1, d2, d3, d4, d5⟩ := HG.out w1 A2 c2 _ hrow2 hk2 hin2; have HD := hide (And.intro d3 (And.intro d4 d5)); clear hown' hgrow hat hrow2 hk2 hin2 d3 d4 d5)
      go_roundw
      case rel =>
        refine ⟨k + 1, A2, c2, by omega, by go_num, ?_, hkp.trans HD.out.2.1 ?_, ?_⟩
        · rw [← take_succ]
          exact HD.out.1
        · intro i hi2 hi3
          rcases hi3 with hi3 | hi3
          · exact .inl hi3
          · rcases hin i hi3 with e | e
            · exact .inr e
            · omega
        · intro g hg
          rcases HD.out.2.2 g hg with e | e
          · exact hin g e
          · exact .inr (Nat.le_trans hkp.size e)
      case measure => simp [intOf]; omega
    · obtain rfl : k = n := by omega
      go_wp2_with fail
      go_ret2
      exact ⟨rfl, A', c', hr, hkp, hin⟩

theorem Row.ints {A : Option Addr} {n c : Nat} {l : List Int} (h : Row w (.slice A n c) l) : Ints w (.slice A n c) l := by
  have hn := h.len
  subst hn
  obtain ⟨A', c', e, _, hp⟩ := h.form
  injection e with e1 e2 e3
  subst e1
  refine ⟨A, c, rfl, fun h0 => ?_⟩
  obtain ⟨g, cur, rfl, hi⟩ := hp h0
  refine ⟨g, cur, rfl, hi, fun k hk => ?_⟩
  obtain ⟨g', e', hc, _⟩ := h.cell hk
  injection e' with e'; injection e' with e'
  subst e'
  rw [← hi.cell k]
  exact hc

/-- Two slices of ints. -/
theorem same_yes {v1 v2 : Value} {l : List Int} (h1 : Ints w v1 l) (h2 : Ints w v2 l) (hl : l.length ≤ 4096) : Calls Try.prog 21 #[v1, v2] w fun e w' => e = .returned (.bool true) ∧ ∃ k, w' = w.drewN k := by
  obtain ⟨A1, c1, rfl, p1⟩ := h1
  obtain ⟨A2, c2, rfl, p2⟩ := h2
  go_enter Try.func21, Try.ntmps21
  go_wp2_with fail
  go_loopw [5] (fun i wr => ∃ (k : Nat), k ≤ l.length ∧ i = .int .i64 k ∧ ∃ q, wr = w.drewN q) (fun i _ => l.length - (intOf i).toNat)
  case atStart => exact ⟨0, Nat.zero_le _, rfl, 0, rfl⟩
  case round =>
    obtain ⟨k, hk, rfl, q, rfl⟩ := hrel
    by_cases hlt : k < l.length
    · obtain ⟨g1, cs1, rfl, i1, j1⟩ := p1 (by omega)
      obtain ⟨g2, cs2, rfl, i2, j2⟩ := p2 (by omega)
      have e1 : w.cell? ⟨g1, k, none⟩ = some (.int .i64 (l.getD k 0)) := (i1.cell k).trans (j1 k hlt)
      have e2 : w.cell? ⟨g2, k, none⟩ = some (.int .i64 (l.getD k 0)) := (i2.cell k).trans (j2 k hlt)
      clear j1 j2
      go_wp2_with fail
      go_quiet (fail)
      go_wp2_with fail
      go_roundw
      case rel => exact ⟨k + 1, by omega, by go_num, _, rfl⟩
      case measure => simp [intOf]; omega
    · obtain rfl : k = l.length := by omega
      go_wp2_with fail
      go_ret
      exact ⟨rfl, q, rfl⟩
end
end Go.Proofs.Ytgljgdnnpmaigaa
