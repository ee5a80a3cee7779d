/- begin, ask. -/
import Derived.Test.YtefcjlacjafnoaaYMap
import Derived.Deep.RegionLaw
import Derived.Deep.AppendLies
import Derived.Deep.RegionHeld3
namespace Go.Proofs.Ytefcjlacjafnoaa
open Go.RowKit
set_option maxRecDepth 100000

/-- What a tally's functions leave of the rest. -/
def Oth (w w' : World) : Prop := ∀ i t cs, t ≠ 57 → t ≠ 50 → Is w i t cs → Is w' i t cs
/-- A tally of the call's own with these stays. -/
def Tly (w0 w : World) (p : Nat) (S : List Sy) : Prop := ∃ m A c f, Ty w0 w p m A c S f
section
variable {w0 w w1 w' : World} {p m c : Nat} {A : Option Addr} {S : List Sy} {f : Int → Option Nat}
theorem Oth.refl (w : World) : Oth w w := fun _ _ _ _ _ h => h
theorem Oth.trans (h : Oth w w1) (k : Oth w1 w') : Oth w w' := fun i t cs h1 h2 hi => k i t cs h1 h2 (h i t cs h1 h2 hi)
theorem Oth.of (k : Kept Nil w w') : Oth w w' := fun _ _ _ _ _ h => h.kept k (fun z => z)
theorem Tly.keep (h : Tly w0 w p S) (k : Kept Nil w w') : Tly w0 w' p S := by
  obtain ⟨m, A, c, f, h⟩ := h
  exact ⟨m, A, c, f, h.keep k⟩
theorem Gw.block {e : TypeId} {sz n : Nat} {xs : List Value} (h : Gw e sz w0 w A c n xs) {g : Nat} (hg : In A g) : ∃ cur, Is w g e cur := by
  rcases h.row.2 with ⟨e, _⟩ | ⟨g', cap, cur, e, _, hh, _⟩
  · injection e with e _ _
    subst e
    cases hg
  · injection e with e _ _
    subst e
    injection hg with hg
    subst hg
    exact ⟨cur, hh⟩
theorem own_in (B : Option Addr) (n m : Nat) : (Value.slice B n m).ownBlock = B.map (·.block) := by cases B <;> rfl
/-- What an append to the stays and the store behind it leave. -/
theorem ty_push {w2 w6 : World} {o : Obj} {g cap n n' : Nat} {xs news : List Value} {f' : Int → Option Nat} (hbox : Is w2 p 57 #[.slice A n c, .map (some m)]) (hrow : Gw 50 7 w0 w2 A c n xs) (hund : Und w2 m n' f') (pn : w0.heap.size ≤ p)
    (hr : w6.ownsRow 0 50 7 (.slice (some ⟨g, 0, none⟩) (n + 1) cap) (n + 1) (xs ++ news)) (hg : (w2.drew.alloc o).grownBy w6 (Value.slice A n c).ownBlock) (hat : (Value.slice A n c).ownBlock = some g ∨ g = w2.drew.heap.size + 1) :
    Is w6 p 57 #[.slice A n c, .map (some m)] ∧ Is (w6.setCell ⟨p, 0, none⟩ (.slice (some ⟨g, 0, none⟩) (n + 1) cap)) p 57 #[.slice (some ⟨g, 0, none⟩) (n + 1) cap, .map (some m)] ∧
      Gw 50 7 w0 (w6.setCell ⟨p, 0, none⟩ (.slice (some ⟨g, 0, none⟩) (n + 1) cap)) (some ⟨g, 0, none⟩) cap (n + 1) (xs ++ news) ∧ Und (w6.setCell ⟨p, 0, none⟩ (.slice (some ⟨g, 0, none⟩) (n + 1) cap)) m n' f' ∧
      Oth w2 (w6.setCell ⟨p, 0, none⟩ (.slice (some ⟨g, 0, none⟩) (n + 1) cap)) := by
  have nb : ¬ In A p := fun z => by
    obtain ⟨cur, hc⟩ := hrow.block z
    exact hc.ne hbox (by decide) rfl
  have nm : ¬ In A m := fun z => by
    obtain ⟨cur, hc⟩ := hrow.block z
    exact hund.ne hc rfl
  have pm : p ≠ m := hund.ne hbox
  have k1 : Kept (In A) w2 w6 := ((Kept.refl (In A) w2).drew.alloc o).trans ((Kept.of_grown hg).more (S' := In A) (fun i _ e => by rw [own_in] at e; exact e)) (fun _ _ z => z)
  have hsz := hrow.kept.size
  have h6 : w2.drew.heap.size = w2.heap.size := rfl
  have hgp : g ≠ p := by
    rcases hat with e | e
    · rw [own_in] at e
      rintro rfl
      exact nb e
    · have := hbox.lt
      omega
  have hgo : w0.heap.size ≤ g := by
    rcases hat with e | e
    · rw [own_in] at e
      exact hrow.own g e
    · omega
  have i6 := hbox.kept k1 nb
  have ks := (Kept.refl (fun i => i = p) w6).set (p := ⟨p, 0, none⟩) (fun _ => rfl) (.slice (some ⟨g, 0, none⟩) (n + 1) cap)
  have k3 : Kept Nil w0 w6 := hrow.kept.trans k1 (fun i hi z => absurd (hrow.own i z) (by omega))
  refine ⟨i6, i6.set 0 _, ⟨owns_keep hr ks (fun i hi z => ?_), k3.set (p := ⟨p, 0, none⟩) (fun z => ?_) _, fun i hi => ?_⟩, (hund.kept k1 nm).kept ks (fun z => pm z.symm), fun i t cs h1 h2 hi => ?_⟩
  · injection hi with hi
    exact hgp (hi.trans z)
  · have z : p < w0.heap.size := z
    omega
  · injection hi with hi
    rw [← hi]
    exact hgo
  · refine (hi.kept k1 (fun z => ?_)).kept ks (fun z => ?_)
    · obtain ⟨cur, hc⟩ := hrow.block z
      exact hc.ne hi h2.symm rfl
    · subst z
      exact hi.ne hbox h1 rfl
theorem ty_fin {g cap : Nat} {s : Sy} {W : World} (h : Is W p 57 #[.slice (some ⟨g, 0, none⟩) (S.length + 1) cap, .map (some m)] ∧
      Gw 50 7 w0 W (some ⟨g, 0, none⟩) cap (S.length + 1) (ycells S ++ [.int .i64 s.t, .bool s.r, .int .i64 s.a, .int .i64 s.e, .int .i64 s.x, .int .i64 s.z, .int .i64 s.c]) ∧ Und W m (S.length + 1) f ∧ Oth w W) (hx : Yix f (S ++ [s])) (hp : w0.heap.size ≤ p ∧ w0.heap.size ≤ m) :
    Tly w0 W p (S ++ [s]) := by
  obtain ⟨h1, h2, h3, _⟩ := h
  refine ⟨m, some ⟨g, 0, none⟩, cap, f, ⟨by rw [List.length_append]; exact h1, ?_, by rw [List.length_append]; exact h3, hx, hp.1, hp.2⟩⟩
  rw [ycells_snoc, List.length_append]
  exact h2
theorem undrew {S : Nat → Prop} (h : Kept S w.drew w') : Kept S w w' := ⟨h.os, h.tape, h.output, h.size, h.block⟩
theorem Ty.row2 {w2 : World} (h : Ty w0 w1 p m A c S f) (k : Kept (fun i => i = m) w1 w2) : Gw 50 7 w0 w2 A c S.length (ycells S) := by
  refine ⟨owns_keep h.row.row k (fun i hi z => ?_), h.row.kept.trans k (fun i hi z => ?_), h.row.own⟩
  · obtain ⟨cur, hc⟩ := h.row.block hi
    exact h.und.ne hc z
  · have := h.mn
    omega
set_option maxHeartbeats 1000000
theorem tbegin_c (k : Kept Nil w0 w) : Calls Try.prog 18 #[] w fun e w' => ∃ p, e = .returned (.pointer (some ⟨p, 0, none⟩)) ∧ Tly w0 w' p [] ∧ Kept Nil w w' := by
  have hmm := @run_makeMap Try.prog
  have K1 := (Kept.refl Nil w).alloc (.map #[] 0)
  have K2 := K1.alloc (.cells #[.slice none 0 0, .map (some w.heap.size)] 57)
  have HI := Is.new (w.alloc (.map #[] 0)) 57 #[.slice none 0 0, .map (some w.heap.size)]
  have HU := (Und.new w).kept ((Kept.refl Nil _).alloc (.cells #[.slice none 0 0, .map (some w.heap.size)] 57)) (fun z => z)
  have H : Hid (Tly w0 ((w.alloc (.map #[] 0)).alloc (.cells #[.slice none 0 0, .map (some w.heap.size)] 57)) (w.alloc (.map #[] 0)).heap.size [] ∧ Kept Nil w ((w.alloc (.map #[] 0)).alloc (.cells #[.slice none 0 0, .map (some w.heap.size)] 57))) :=
    hide ⟨⟨w.heap.size, none, 0, fun _ => none, ⟨HI, Gw.from _ _ (k.trans K2 (fun _ _ z => z)), HU, yix_nil, Nat.le_trans k.size K1.size, k.size⟩⟩, K2⟩
  clear K1 K2 HI HU
  go_enter Try.func18, Try.ntmps18
  go_wp2_with fail
  go_ret
  exact ⟨_, rfl, by simpa using H.out.1, by simpa using H.out.2⟩
theorem ask_not {i : Nat} {v : Ev} (h : Ty w0 w p m A c S f) (hk : v.k ≠ 1) : Calls Try.prog 26 #[.pointer (some ⟨p, 0, none⟩), .int .i64 i, .agg #[.int .i64 v.k, .int .i64 v.t, .bool v.r, .int .i64 v.c]] w fun e w' => e = .returned (.bool false) ∧ Tly w0 w' p S ∧ Oth w w' := by
  have hb : (v.k != 1) = true := by simpa using hk
  have K := (Kept.refl Nil w).alloc (.cells #[.int .i64 v.k, .int .i64 v.t, .bool v.r, .int .i64 v.c] 36)
  have H : Hid (Tly w0 (w.alloc (.cells #[.int .i64 v.k, .int .i64 v.t, .bool v.r, .int .i64 v.c] 36)) p S ∧ Oth w (w.alloc (.cells #[.int .i64 v.k, .int .i64 v.t, .bool v.r, .int .i64 v.c] 36))) := hide ⟨⟨m, A, c, f, h.keep K⟩, .of K⟩
  clear h hk K
  go_enter Try.func26, Try.ntmps26
  go_wp2_with fail
  go_ret
  exact ⟨rfl, H.out⟩
theorem ask_yes {i : Nat} {t k5 : Int} {r : Bool} (h : Ty w0 w p m A c S f) (hn : f t = none) (hw : (Lit.int .i64 t).wf = true) (hl : S.length ≤ 65536) : Calls Try.prog 26 #[.pointer (some ⟨p, 0, none⟩), .int .i64 i, .agg #[.int .i64 1, .int .i64 t, .bool r, .int .i64 k5]] w fun e w' => e = .returned (.bool true) ∧ Tly w0 w' p (S ++ [ynew i ⟨1, t, r, k5⟩]) ∧ Oth w w' := by
  obtain ⟨i0, hi, hz0, hz1, hz2⟩ := info_parts info_stay
  obtain ⟨w1, hw1⟩ : ∃ w1, w.alloc (.cells #[.int .i64 1, .int .i64 t, .bool r, .int .i64 k5] 36) = w1 := ⟨_, rfl⟩
  have K : Kept Nil w w1 := by rw [← hw1]; exact (Kept.refl Nil w).alloc _
  have HB : Is w1 w.heap.size 36 #[.int .i64 1, .int .i64 t, .bool r, .int .i64 k5] := by rw [← hw1]; exact Is.new w _ _
  have h1 := h.keep K
  obtain ⟨w2, hrun, hu, hk2⟩ := Und.put (w := w1.drew) (h1.keep ((Kept.refl Nil w1).drew)).und (by unfold maxLen; omega) hw S.length (WalkArith.wf_i64 (by omega))
  have e1 : w1.cell? ⟨w.heap.size, 0, none⟩ = some (.int .i64 1) := HB.cell 0
  have q0 : w1.drew.cell? ⟨p, 0, none⟩ = some (.slice A S.length c) := h1.box.cell 0
  have q1 : w1.drew.cell? ⟨p, 1, none⟩ = some (.map (some m)) := h1.box.cell 1
  have e0 : w1.drew.cell? ⟨w.heap.size, 1, none⟩ = some (.int .i64 t) := HB.cell 1
  go_enter Try.func26, Try.ntmps26
  go_wp2_with fail
  go_region
  have hk2 := undrew hk2
  have HT := hide (And.intro (h1.box.kept hk2 (fun z => h1.und.ne h1.box z)) (And.intro (Ty.row2 h1 hk2) (And.intro hu (yix_ask (v := ⟨1, t, r, k5⟩) (i := i) h1.ix hn))))
  have HB2 := HB.kept hk2 (fun z => h1.und.ne HB z)
  have HO : Hid (Oth w w2) := hide ((Oth.of K).trans (fun j t cs a b hj => hj.kept hk2 (fun z => h1.und.ne hj z)))
  have HP := hide (And.intro h1.pn h1.mn)
  have r0 : w2.drew.cell? ⟨p, 0, none⟩ = some (.slice A S.length c) := HT.out.1.cell 0
  have r9 : w2.cell? ⟨p, 0, none⟩ = some (.slice A S.length c) := HT.out.1.cell 0
  have r1 : w2.drew.cell? ⟨w.heap.size, 1, none⟩ = some (.int .i64 t) := HB2.cell 1
  have r2 : w2.drew.cell? ⟨w.heap.size, 2, none⟩ = some (.bool r) := HB2.cell 2
  have l1 : p < w2.heap.size := HT.out.1.lt
  have l2 : w.heap.size < w2.heap.size := HB2.lt
  have HM : Hid (S.length + 1 ≤ maxLen ∧ (S.length + 1) * 56 ≤ 140737488355328) := hide ⟨by unfold maxLen; omega, by omega⟩
  clear hw1 hrun hu hk2 h h1 K HB HB2 q0 q1 e0 e1 hn hw
  go_wp2_with fail
  go_region_law (refine step_append_lies _ (by rfl) _ _ _ (by rfl) 0 50 i0 _ 7 56 Try.underlying31 hi hz0 hz1 hz2 rfl (by decide) (.slice A S.length c) S.length (ycells S) (by rfl) (HT.out.2.1.row.alloc _) ⟨w2.drew.heap.size, 0, none⟩ 1 1 [.int .i64 t, .bool r, .int .i64 i, .int .i64 (-1), .int .i64 (-1), .int .i64 (-1), .int .i64 0] (by rfl) (by rfl) (World.news_of_block (cs := #[.int .i64 t, .bool r, .int .i64 i, .int .i64 (-1), .int .i64 (-1), .int .i64 (-1), .int .i64 0]) (t := 50) (fr := (0, 0)) (heap_alloc_new w2.drew _)) (by simp [Value.oneCell']) (by omega) HM.out.1 HM.out.2 (Nat.zero_le _) (w2.drew.heap.size + 1) (by simp) ?_; intro gg cap w6 hown6 hgrow hat _; have HF := hide (ty_push HT.out.1 HT.out.2.1 HT.out.2.2.1 HP.out.1 hown6 hgrow hat); have z6 := HF.out.1.cell 0; have z7 := HF.out.1.free 0; clear hown6 hgrow hat)
  all_goals go_wp2_with fail
  all_goals go_ret
  all_goals exact ⟨rfl, ty_fin HF.out.2 HT.out.2.2.2 HP.out, HO.out.trans HF.out.2.2.2.2⟩
end
end Go.Proofs.Ytefcjlacjafnoaa
