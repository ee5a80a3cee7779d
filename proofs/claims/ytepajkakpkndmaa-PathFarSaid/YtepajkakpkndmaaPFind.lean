/- findAbove: what is above each thread, in a row of slices of the table's own. -/
import Derived.Test.YtepajkakpkndmaaPClimb
import Derived.Test.YtepajkakpkndmaaPOnce
import Derived.Deep.RegionLaw
import Derived.Deep.AppendLies
namespace Go.Proofs.Ytepajkakpkndmaa
open Go.RowKit
set_option maxRecDepth 100000

/-- A call of a function of the program's own, as one step of a region that draws. -/
theorem step_calls {P : Program} {ops : Array Oper} {o : Oper} {a : Act} {w : World} {K : Act → World → Prop} {Q : Exit → Act → World → Prop} {E : Prop} (hgd : o.guard = none) {f : FuncId} {args : Array Value}
    (hrun : (execOp a.eval o).run P w = .ok (.enter f args) w) {R : Ending → World → Prop} (hC : Calls P f args w R) (hn : ∀ e w', R e w' → ∃ v, e = .returned v) (h : ∀ v w', R (.returned v) w' → K (a.put o.dst v) w') :
    if Region.wanted o (yielded ops a.tmps) = true then Oper.wp P o a w K Q else E := by
  have hw : Region.wanted o (yielded ops a.tmps) = true := by simp [Region.wanted, hgd]
  rw [if_pos hw]
  unfold Oper.wp
  rw [hrun, Oper.upon_enter]
  refine hC.mono ?_
  intro e w' hR
  obtain ⟨v, rfl⟩ := hn e w' hR
  exact h v w' hR

/-- The table's cells. -/
def tcells (x0 x1 x2 : Value) (d s : Int) (x6 : Value) : Array Value := #[x0, x1, x2, .int .u32 d, .int .i32 s, .int .u32 0, x6]
theorem tcells_noInt (A0 A1 A2 A6 : Option Addr) (n0 c0 n1 c1 n2 c2 n6 c6 : Nat) (d s : Int) : NoInt (tcells (.slice A0 n0 c0) (.slice A1 n1 c1) (.slice A2 n2 c2) d s (.slice A6 n6 c6)) := by
  intro i x h
  unfold tcells at h
  have : i = 0 ∨ i = 1 ∨ i = 2 ∨ i = 3 ∨ i = 4 ∨ i = 5 ∨ i = 6 ∨ 7 ≤ i := by omega
  rcases this with e | e | e | e | e | e | e | e
  all_goals first
    | (subst e; simp at h)
    | (rw [Array.getElem?_eq_none (by simpa using e)] at h; cases h)

/-- The row of what has been found so far. -/
structure Fnd (w0 w : World) (b : Nat) (A0 A1 A2 : Option Addr) (n0 c0 n1 c1 n2 c2 : Nat) (EL : Nat → List Int) (A : Option Addr) (c : Nat) (vs : List Value) : Prop where
  is_ : Is w b 50 (tcells (.slice A0 n0 c0) (.slice A1 n1 c1) (.slice A2 n2 c2) 0 1 (.slice A vs.length c))
  row : VRow w (.slice A vs.length c) vs
  kept : Kept (fun i => i = b) w0 w
  own : ∀ g, In A g → w0.heap.size ≤ g
  els : ∀ k, k < vs.length → Row w (vs.getD k undef) (EL k)

section
variable {w0 w w5 w6 : World} {b : Nat} {A0 A1 A2 A : Option Addr} {n0 c0 n1 c1 n2 c2 c : Nat} {vs : List Value} {EL : Nat → List Int}
theorem Fnd.later (h : Fnd w0 w b A0 A1 A2 n0 c0 n1 c1 n2 c2 EL A c vs) (k : Kept Nil w w5) : Fnd w0 w5 b A0 A1 A2 n0 c0 n1 c1 n2 c2 EL A c vs :=
  ⟨h.is_.kept k (fun z => z), h.row.kept k (fun _ _ z => z), h.kept.trans k (fun _ _ z => z.elim), h.own, fun j hj => (h.els j hj).keep k⟩
theorem Fnd.at0 (h : Fnd w0 w b A0 A1 A2 n0 c0 n1 c1 n2 c2 EL A c vs) : w.cell? ⟨b, 0, none⟩ = some (.slice A0 n0 c0) := h.is_.cell 0
theorem Fnd.at6 (h : Fnd w0 w b A0 A1 A2 n0 c0 n1 c1 n2 c2 EL A c vs) : w.cell? ⟨b, 6, none⟩ = some (.slice A vs.length c) := h.is_.cell 6
theorem Is.at6 {x0 x1 x2 x6 : Value} {d s : Int} (h : Is w b 50 (tcells x0 x1 x2 d s x6)) : w.cell? ⟨b, 6, none⟩ = some x6 := h.cell 6
theorem Is.free6 {t : TypeId} {cs : Array Value} (h : Is w b t cs) : w.frozen? ⟨b, 6, none⟩ = false := h.free 6
/-- One more. -/
theorem Fnd.push {x : Value} {o : Obj} (hb : b < w0.heap.size) (hx : Row w5 x (EL vs.length)) (h : Fnd w0 w5 b A0 A1 A2 n0 c0 n1 c1 n2 c2 EL A c vs) {g cap : Nat} (hr : w6.ownsRow 0 22 1 (.slice (some ⟨g, 0, none⟩) (vs.length + 1) cap) (vs.length + 1) (vs ++ [x]))
    (hg : (w5.alloc o).grownBy w6 (Value.slice A vs.length c).ownBlock) (hat : (Value.slice A vs.length c).ownBlock = some g ∨ g = w5.heap.size + 1) :
    Is w6 b 50 (tcells (.slice A0 n0 c0) (.slice A1 n1 c1) (.slice A2 n2 c2) 0 1 (.slice A vs.length c)) ∧
    Fnd w0 (w6.setCell ⟨b, 6, none⟩ (.slice (some ⟨g, 0, none⟩) (vs.length + 1) cap)) b A0 A1 A2 n0 c0 n1 c1 n2 c2 EL (some ⟨g, 0, none⟩) cap (vs ++ [x]) ∧ g ≠ b := by
  have hob : (Value.slice A vs.length c).ownBlock = A.map (·.block) := by cases A <;> rfl
  have nb := h.row.ne h.is_ (by decide)
  have k1 : Kept (In A) (w5.alloc o) w6 := (Kept.of_grown hg).more (fun i _ e => by rw [hob] at e; exact e)
  have i6 := (h.is_.alloc o).kept k1 nb
  have hsz := h.kept.size
  have hgb : g ≠ b := by
    rcases hat with e | e
    · rw [hob] at e
      rintro rfl
      exact nb e
    · omega
  have hgo : w0.heap.size ≤ g := by
    rcases hat with e | e
    · rw [hob] at e
      exact h.own g e
    · omega
  have k2 : Kept (In A) w5 w6 := ((Kept.refl (In A) w5).alloc o).trans k1 (fun _ _ z => z)
  have k3 : Kept (fun i => i = b) w0 w6 := h.kept.trans k2 (fun i hi z => absurd (h.own i z) (by omega))
  have hrow : VRow w6 (.slice (some ⟨g, 0, none⟩) (vs ++ [x]).length cap) (vs ++ [x]) := by
    unfold VRow
    rw [List.length_append]
    exact hr
  refine ⟨i6, ⟨?_, hrow.kept (S := fun i => i = b) ((Kept.refl (fun i => i = b) w6).set (p := ⟨b, 6, none⟩) (fun _ => rfl) _) (fun g2 hg2 e => ?_), k3.set (p := ⟨b, 6, none⟩) (fun _ => rfl) _, fun g2 hg2 => ?_, fun j hj => ?_⟩, hgb⟩
  · have := i6.set 6 (.slice (some ⟨g, 0, none⟩) (vs.length + 1) cap)
    rw [show (vs ++ [x]).length = vs.length + 1 by simp]
    exact this
  · injection hg2 with hg2
    subst hg2
    exact hgb e
  · injection hg2 with hg2
    subst hg2
    exact hgo
  · have hset := (Kept.refl (fun i => i = b) w6).set (p := ⟨b, 6, none⟩) (fun _ => rfl) (.slice (some ⟨g, 0, none⟩) (vs.length + 1) cap)
    rw [List.length_append] at hj
    simp at hj
    rcases Nat.lt_or_ge j vs.length with h1 | h1
    · have := ((h.els j h1).far h.row k2).beside i6 (by decide) hset
      rw [show (vs ++ [x]).getD j undef = vs.getD j undef by simp only [List.getD_eq_getElem?_getD]; rw [List.getElem?_append_left h1]]
      exact this
    · obtain rfl : j = vs.length := by omega
      rw [show (vs ++ [x]).getD vs.length undef = x by simp]
      exact (hx.far h.row k2).beside i6 (by decide) hset

set_option maxHeartbeats 4000000
/-- findAbove. -/
theorem above_c {P T : List Int} (hi : Is w b 50 (tcells (.slice A0 P.length c0) (.slice A1 T.length c1) (.slice A2 n2 c2) 0 1 (.slice none 0 0))) (h0 : Nums w (.slice A0 P.length c0) P) (h1 : Nums w (.slice A1 T.length c1) T)
    (hf : formB P = true) (hT : ∀ x ∈ T, 0 ≤ x ∧ x < P.length) (hl0 : P.length ≤ 65536) (hl1 : T.length ≤ 65536) :
    Calls Try.prog 49 #[.pointer (some ⟨b, 0, none⟩)] w fun e w' => e = .returned (.tuple #[]) ∧ ∃ v6, Is w' b 50 (tcells (.slice A0 P.length c0) (.slice A1 T.length c1) (.slice A2 n2 c2) 0 1 v6) ∧
      Lists w' v6 (T.map fun x => ups P x.toNat) ∧ Kept (fun i => i = b) w w' := by
  obtain ⟨i0, hi0, hz0, hz1, hz2⟩ := info_parts info_ints
  have HI := hide hi
  have q1 : w.cell? ⟨b, 1, none⟩ = some (.slice A1 T.length c1) := hi.cell 1
  have HF := hide (And.intro hf hT)
  have HN := hide (And.intro h0 h1)
  have hbl := hi.lt
  have HS : Hid (Fnd w w b A0 A1 A2 P.length c0 T.length c1 n2 c2 (fun k => ups P (T.getD k 0).toNat) none 0 []) := hide ⟨hi, VRow.empty _, Kept.refl _ _, fun g hg => (by cases hg), fun j hj => absurd hj (by simp)⟩
  clear hi hf hT h0 h1
  go_enter Try.func49, Try.ntmps49
  go_wp2_with fail
  go_loopw [10] (fun v10 wr => ∃ (k : Nat) (vs : List Value) (A : Option Addr) (c : Nat), k ≤ T.length ∧ v10 = .int .i64 k ∧ vs.length = k ∧ Fnd w wr b A0 A1 A2 P.length c0 T.length c1 n2 c2 (fun k => ups P (T.getD k 0).toNat) A c vs) (fun v _ => T.length - (intOf v).toNat)
  case atStart => exact ⟨0, [], none, 0, Nat.zero_le _, rfl, rfl, HS.out⟩
  case round =>
    obtain ⟨k, vs, A, c, hk, rfl, rfl, hfn⟩ := hrel
    have HFN := hide hfn
    by_cases hlt : vs.length < T.length
    · have hni := tcells_noInt A0 A1 A2 none P.length c0 T.length c1 n2 c2 0 0 0 1
      have n0 := HN.out.1.apart HI.out hni hfn.kept
      have n1 := HN.out.2.apart HI.out hni hfn.kept
      obtain ⟨A1', c1', e1, p1⟩ := n1
      injection e1 with e1 _ e3
      subst e1 e3
      obtain ⟨g1, o1, rfl, hg1, j1⟩ := p1 (by omega)
      have d1 := j1 vs.length hlt
      have hx := HF.out.2 _ (getD_in hlt)
      obtain ⟨u, hu⟩ : ∃ u : Nat, T.getD vs.length 0 = u := ⟨(T.getD vs.length 0).toNat, by omega⟩
      rw [hu] at d1 hx
      have HE : Hid (ups P (T.getD vs.length 0).toNat = ups P u) := hide (by rw [hu, Int.toNat_natCast])
      have hup : u < P.length := by omega
      have cC := hide fun (W : World) (k : Kept Nil wr W) => (climb_c HF.out.1 hup (n0.kept k) hl0).mono (R' := fun e w' => ∃ A5 c5, e = .returned (.slice A5 (dn P u) c5) ∧ Row w' (.slice A5 (dn P u) c5) (ups P u) ∧ Kept Nil wr w') (fun e w' ⟨A5, c5, h1, h2, h3⟩ => ⟨A5, c5, h1, h2, k.trans h3 (fun _ _ z => z)⟩)
      have CELLS := hide fun (W : World) (k : Kept Nil wr W) => And.intro (HFN.out.later k).at0 (HFN.out.later k).at6
      have hK : Kept Nil wr wr.drew := (Kept.refl _ wr).drew
      have hm1 : vs.length + 1 ≤ maxLen := by simp only [maxLen]; omega
      have hm2 : (vs.length + 1) * 24 ≤ 140737488355328 := by omega
      have HM := hide (And.intro hm1 hm2)
      have hlt2 : (vs.length : Int) < (T.length : Int) := by omega
      clear hm1 hm2 hni n0 p1 j1 hfn hu hx hlt hup
      obtain ⟨D, hD⟩ : ∃ D, dn P u = D := ⟨_, rfl⟩
      rw [hD] at cC
      go_wp2_with fail
      have r0 := (CELLS.out _ hK).1
      have r6 := (CELLS.out _ hK).2
      go_region_law (first
        | (refine step_calls (by rfl) (f := 55) (args := #[.slice A0 P.length c0, .int .i64 u]) (by go_simp) (cC.out _ (by assumption)) (fun e w' h => by obtain ⟨A5, c5, h, _⟩ := h; exact ⟨_, h⟩) ?_; rintro v w5 ⟨A5, c5, e5, hr5, hk5⟩; injection e5 with e5; subst e5; have s6 := (CELLS.out _ hk5).2; have s9 := (HFN.out.later hk5).is_.lt)
        | (refine step_append_lies _ (by rfl) _ _ _ (by rfl) 0 22 i0 _ 1 24 Try.underlying48 hi0 hz0 hz1 hz2 rfl (by decide) (.slice A vs.length c) vs.length vs (by rfl) ((HFN.out.later hk5).row.alloc _) ⟨w5.heap.size, 0, none⟩ 1 1 [.slice A5 D c5] (by rfl) (by rfl) (World.news_of_block (cs := #[.slice A5 D c5]) (t := 22) (fr := (0, 0)) (heap_alloc_new w5 _)) (by simp [Value.oneCell']) (by omega) HM.out.1 HM.out.2 (Nat.zero_le _) (w5.heap.size + 1) (by simp) ?_; intro gg cap w6 hown6 hgrow hat _; obtain ⟨i6, hf6, hgb⟩ := Fnd.push hbl (show Row w5 (.slice A5 D c5) (ups P (T.getD vs.length 0).toNat) by rw [HE.out]; exact hr5) (HFN.out.later hk5) hown6 hgrow hat; have z6 := i6.at6; have z7 := i6.free6; have H6 := hide hf6; clear i6 hf6 hown6 hgrow hat hgb s6 s9))
      all_goals go_wp2_with fail
      all_goals go_roundw
      all_goals first
        | exact ⟨vs.length + 1, vs ++ [.slice A5 D c5], _, _, by omega, by go_num, by simp, H6.out⟩
        | (simp [intOf]; omega)
    · have hkd : vs.length = T.length := by omega
      have HL : Hid (Lists wr (.slice A vs.length c) (T.map fun x => ups P x.toNat)) := hide ⟨vs, hfn.row, by simp [hkd], fun j hj => by
        rw [List.length_map] at hj
        have := hfn.els j (by omega)
        rwa [show (T.map fun x => ups P x.toNat).getD j [] = ups P (T.getD j 0).toNat by simp [List.getD, hj]]⟩
      have hlt3 : ¬ (vs.length : Int) < (T.length : Int) := by omega
      clear hfn hkd hlt hk
      go_wp2_with fail
      go_end0
      exact ⟨rfl, _, HFN.out.is_, HL.out, HFN.out.kept⟩
end
end Go.Proofs.Ytepajkakpkndmaa
