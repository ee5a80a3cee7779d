/- The laws of layer 10: a lock and a row of events beside it; awake. -/
import Derived.Test.YtkdmodjfninekaaUCheck
namespace Go.Proofs.Ytkdmodjfninekaa
open Go.RowKit
set_option maxRecDepth 100000

/-- A lock of the law's own, laid since w0; nothing older than w0 has turned. -/
structure Uf (w0 w : World) (p : Option Addr) (g : Nat) (A : List Int) : Prop where
  lk : Lk w p g A
  kept : Kept Nil w0 w
  own : w0.heap.size ≤ g

section
variable {w0 w w' : World} {p : Option Addr} {g n c : Nat} {A : List Int} {R : Option Addr} {xs : List Value}
theorem Uf.keep (h : Uf w0 w p g A) (k : Kept Nil w w') : Uf w0 w' p g A := ⟨h.lk.keep k, h.kept.trans k (fun _ _ z => z), h.own⟩
/-- A row of events lies beside a lock. -/
theorem row_beside (h : w.ownsRow 0 23 4 (.slice R n c) n xs) {i : Nat} (hi : In R i) : ¬ OfL w i := by
  rintro ⟨t, cs, h1, h2⟩
  rcases h.2 with ⟨e, _⟩ | ⟨g', cap, cur', e, _, hh, _⟩
  · injection e with e1 _ _
    subst e1
    cases hi
  · injection e with e1 _ _
    subst e1
    injection hi with hi
    have hi : g' = i := hi
    subst hi
    have hh : Is w g' 23 cur' := hh
    rcases h2 with rfl | rfl
    · exact hh.ne h1 (by decide) rfl
    · exact hh.ne h1 (by decide) rfl
/-- A lock behind an append to a row of events. -/
theorem Uf.push (h : Uf w0 w p g A) (hr : Gw 23 4 w0 w R c n xs) (hg : w.grownBy w' (Value.slice R n c).ownBlock) : Uf w0 w' p g A := by
  have hob : ∀ (B : Option Addr) (n m : Nat), (Value.slice B n m).ownBlock = B.map (·.block) := fun B n m => by cases B <;> rfl
  refine ⟨h.lk.kept (Kept.of_grown hg) (fun i hi z => ?_), h.kept.trans (Kept.of_grown hg) (fun i hi z => ?_), h.own⟩
  · rw [hob] at z
    exact row_beside hr.row z hi
  · rw [hob] at z
    have := hr.own i z
    omega
set_option maxHeartbeats 1000000
theorem unewF (k : Kept Nil w0 w) (t : Int) : Calls Try.prog 6 #[.int .i64 t] w fun e w' => ∃ p g, e = .returned (.pointer p) ∧ Uf w0 w' p g (List.replicate (um t) 0) :=
  (unew_c w t).mono fun _ _ ⟨p, g, h1, h2, h3, h4⟩ => ⟨p, g, h1, h2, k.trans h3 (fun _ _ z => z), Nat.le_trans k.size h4⟩
theorem udoF (e : Ev) (h : Uf w0 w p g A) (hl : A.length ≤ 65536) : Calls Try.prog 7 #[.pointer p, .agg #[.int .i64 e.k, .int .i64 e.t, .bool e.r, .int .i64 e.c]] w fun x w' => x = .returned (.int .i64 (dof A e)) ∧ Uf w0 w' p g (mov A e) ∧ ∀ R c n xs, Gw 23 4 w0 w R c n xs → Gw 23 4 w0 w' R c n xs := by
  refine (udo_c e h.lk hl).mono ?_
  rintro x w' ⟨h1, h2, h3⟩
  have hk : Kept Nil w0 w' := h.kept.trans (S := Nil) h3 (fun i hi z => by have := h.own; omega)
  refine ⟨h1, ⟨h2, hk, h.own⟩, fun R c n xs hr => ⟨owns_keep hr.row h3 (fun i hi z => ?_), hk, hr.own⟩⟩
  obtain ⟨rfl, z⟩ := z
  rcases h.lk with ⟨_, rfl⟩ | ⟨b, q, cp, _, _, h5⟩
  · simp at z
  · exact row_beside hr.row hi ⟨_, _, (h5 z).2, .inr rfl⟩
theorem udoA {e : Ev} {x : Int} {B : List Int} (h : Uf w0 w p g A) (hl : A.length ≤ 65536) (hd : dof A e = x) (hm : mov A e = B) : Calls Try.prog 7 #[.pointer p, .agg #[.int .i64 e.k, .int .i64 e.t, .bool e.r, .int .i64 e.c]] w fun z w' => z = .returned (.int .i64 x) ∧ Uf w0 w' p g B :=
  (udoF e h hl).mono fun z w' ⟨h1, h2, _⟩ => ⟨by rw [h1, hd], by rw [← hm]; exact h2⟩
theorem uevs (w : World) : Evs (w.alloc (.cells #[.int .i64 1, .int .i64 0, .bool false, .int .i64 0, .int .i64 3, .int .i64 0, .bool false, .int .i64 0] 23)) (.slice (some ⟨w.heap.size, 0, none⟩) 2 2) [⟨1, 0, false, 0⟩, ⟨3, 0, false, 0⟩] :=
  Is.evs (l := [⟨1, 0, false, 0⟩, ⟨3, 0, false, 0⟩]) (Is.new w _ _)
/-- What must come, whatever the arguments are. -/
theorem uawake_c (w : World) : Calls Try.prog 12 #[] w fun e w' => e = .returned (.bool true) ∧ Kept Nil w w' := by
  have d1 : dof [0, 0] ⟨1, 0, false, 0⟩ = 0 := by decide +kernel
  have m1 : mov [0, 0] ⟨1, 0, false, 0⟩ = [1, 0] := by decide +kernel
  have d2 : dof [1, 0] ⟨1, 1, false, 0⟩ = 0 := by decide +kernel
  have m2 : mov [1, 0] ⟨1, 1, false, 0⟩ = [1, 1] := by decide +kernel
  have d3 : dof [1, 1] ⟨2, 1, false, 0⟩ = 0 := by decide +kernel
  have m3 : mov [1, 1] ⟨2, 1, false, 0⟩ = [1, 2] := by decide +kernel
  have d4 : dof [1, 2] ⟨2, 0, false, 0⟩ = 5 := by decide +kernel
  have m4 : mov [1, 2] ⟨2, 0, false, 0⟩ = [1, 2] := by decide +kernel
  have d5 : dof [1, 2] ⟨3, 1, false, 0⟩ = 0 := by decide +kernel
  have m5 : mov [1, 2] ⟨3, 1, false, 0⟩ = [1, 3] := by decide +kernel
  have hr : run (List.replicate (um 1) 0) [⟨1, 0, false, 0⟩, ⟨3, 0, false, 0⟩] 0 = (1, 6) := by decide +kernel
  have hn : List.replicate (um 2) (0 : Int) = [0, 0] := by decide +kernel
  have C0 := hide (unewF (Kept.refl Nil w) 2)
  rw [hn] at C0
  have C1 := hide fun V p g (h : Uf w V p g [0, 0]) => udoA h (by decide) d1 m1
  have C2 := hide fun V p g (h : Uf w V p g [1, 0]) => udoA h (by decide) d2 m2
  have C3 := hide fun V p g (h : Uf w V p g [1, 1]) => udoA h (by decide) d3 m3
  have C4 := hide fun V p g (h : Uf w V p g [1, 2]) => udoA h (by decide) d4 m4
  have C5 := hide fun V p g (h : Uf w V p g [1, 2]) => udoA h (by decide) d5 m5
  have C6 := hide fun V => ucheck_c 1 hr (uevs V) (by decide)
  have C7 := hide fun V p g (h : Uf w V p g [1, 3]) => ulholder_c h.lk (by decide)
  have C8 := hide fun V p g (h : Uf w V p g [1, 3]) => ulstate_c 0 h.lk
  have C9 := hide fun V p g (h : Uf w V p g [1, 3]) => ulstate_c 1 h.lk
  have C10 := hide fun V p g (h : Uf w V p g [1, 3]) => uthreads_c h.lk
  rw [show hol [1, 3] = -1 by decide +kernel] at C7
  rw [show sta [1, 3] 0 = 1 by decide +kernel] at C8
  rw [show sta [1, 3] 1 = 3 by decide +kernel] at C9
  rw [show (([1, 3] : List Int).length : Int) = 2 from rfl] at C10
  clear d1 m1 d2 m2 d3 m3 d4 m4 d5 m5 hr hn
  go_enter Try.func12, Try.ntmps12
  go_wp2_with fail
  refine C0.out.mono ?_
  rintro e w1 ⟨p, g, rfl, h⟩
  have H1 := hide h
  clear h C0
  go_wp2_with fail
  refine (C1.out _ _ _ H1.out).mono ?_
  rintro e w2 ⟨rfl, h⟩
  have H2 := hide h
  clear h H1 C1
  go_wp2_with fail
  refine (C2.out _ _ _ H2.out).mono ?_
  rintro e w3 ⟨rfl, h⟩
  have H3 := hide h
  clear h H2 C2
  go_wp2_with fail
  refine (C3.out _ _ _ H3.out).mono ?_
  rintro e w4 ⟨rfl, h⟩
  have H4 := hide h
  clear h H3 C3
  go_wp2_with fail
  refine (C4.out _ _ _ H4.out).mono ?_
  rintro e w5 ⟨rfl, h⟩
  have H5 := hide h
  clear h H4 C4
  go_wp2_with fail
  refine (C5.out _ _ _ H5.out).mono ?_
  rintro e w6 ⟨rfl, h⟩
  have H6 := hide h
  clear h H5 C5
  go_wp2_with fail
  refine (C6.out w6).mono ?_
  rintro e w7 ⟨rfl, h⟩
  have H7 := hide (H6.out.keep (((Kept.refl Nil w6).alloc (.cells #[.int .i64 1, .int .i64 0, .bool false, .int .i64 0, .int .i64 3, .int .i64 0, .bool false, .int .i64 0] 23)).trans h (fun _ _ z => z)))
  clear h H6 C6
  go_wp2_with fail
  refine (C7.out _ _ _ H7.out).mono ?_
  rintro e w8 ⟨rfl, rfl⟩
  go_wp2_with fail
  refine (C8.out _ _ _ H7.out).mono ?_
  rintro e w8 ⟨rfl, rfl⟩
  go_wp2_with fail
  refine (C9.out _ _ _ H7.out).mono ?_
  rintro e w8 ⟨rfl, rfl⟩
  go_wp2_with fail
  refine (C10.out _ _ _ H7.out).mono ?_
  rintro e w8 ⟨rfl, rfl⟩
  go_wp2_with fail
  go_ret
  exact ⟨rfl, H7.out.kept⟩
end
end Go.Proofs.Ytkdmodjfninekaa
