/- The laws of layer 11: a lock of readers and writers, a row of events beside it; awake. -/
import Derived.Test.YtmmncaabeiagaaaHCheck
namespace Go.Proofs.Ytmmncaabeiagaaa
open Go.RowKit
set_option maxRecDepth 100000

/-- A lock of the law's own, laid since w0; nothing older than w0 has turned. -/
structure Sf (w0 w : World) (p : Option Addr) (g : Nat) (A : List Sd) : Prop where
  lk : Sk w p g A
  kept : Kept Nil w0 w
  own : w0.heap.size ≤ g
  wf : Wf A

section
variable {w0 w w' : World} {p : Option Addr} {g n c : Nat} {A : List Sd} {R : Option Addr} {xs : List Value}
theorem Sf.keep (h : Sf w0 w p g A) (k : Kept Nil w w') : Sf w0 w' p g A := ⟨h.lk.keep k, h.kept.trans k (fun _ _ z => z), h.own, h.wf⟩
/-- A row of events lies beside a lock. -/
theorem srow_beside (h : w.ownsRow 0 29 4 (.slice R n c) n xs) {i : Nat} (hi : In R i) : ¬ OfS w i := by
  rintro ⟨t, cs, h1, h2⟩
  rcases h.2 with ⟨e, _⟩ | ⟨g', cap, cur', e, _, hh, _⟩
  · injection e with e1 _ _
    subst e1
    cases hi
  · injection e with e1 _ _
    subst e1
    injection hi with hi
    have hi : g' = i := hi
    subst hi
    have hh : Is w g' 29 cur' := hh
    rcases h2 with rfl | rfl
    · exact hh.ne h1 (by decide) rfl
    · exact hh.ne h1 (by decide) rfl
/-- A lock behind an append to a row of events. -/
theorem Sf.push (h : Sf w0 w p g A) (hr : Gw 29 4 w0 w R c n xs) (hg : w.grownBy w' (Value.slice R n c).ownBlock) : Sf w0 w' p g A := by
  have hob : ∀ (B : Option Addr) (n m : Nat), (Value.slice B n m).ownBlock = B.map (·.block) := fun B n m => by cases B <;> rfl
  refine ⟨h.lk.kept (Kept.of_grown hg) (fun i hi z => ?_), h.kept.trans (Kept.of_grown hg) (fun i hi z => ?_), h.own, h.wf⟩
  · rw [hob] at z
    exact srow_beside hr.row z hi
  · rw [hob] at z
    have := hr.own i z
    omega
/-- A lock behind a store into a variable of the call's own. -/
theorem Sf.store {b i : Nat} {t : TypeId} {cs : Array Value} {v : Value} (h : Sf w0 w p g A) (hb : Is w b t cs) (hn : w0.heap.size ≤ b) (h1 : t ≠ 36) (h2 : t ≠ 53) : Sf w0 (w.setCell ⟨b, i, none⟩ v) p g A := by
  have k := (Kept.refl (fun j => j = b) w).set (p := ⟨b, i, none⟩) (fun _ => rfl) v
  refine ⟨h.lk.kept k (fun j hj z => ?_), h.kept.set (p := ⟨b, i, none⟩) (fun z => ?_) v, h.own, h.wf⟩
  · subst z
    obtain ⟨t', cs', h3, h4⟩ := hj
    rcases h4 with rfl | rfl
    · exact hb.ne h3 h1 rfl
    · exact hb.ne h3 h2 rfl
  · have z : b < w0.heap.size := z
    omega
/-- What Do leaves of the rest. -/
theorem SDone.rest {e : Ev} {x : Ending} (h : SDone p g A e w x w') (hL : Sk w p g A) {i : Nat} {t : TypeId} {cs : Array Value} (hi : Is w i t cs) (ht : t ≠ 53) : Is w' i t cs := by
  refine hi.kept h.2.2 (fun ⟨z, y⟩ => ?_)
  subst z
  rcases hL with ⟨_, rfl⟩ | ⟨b, q, c, _, _, h2⟩
  · simp at y
  · exact hi.ne (h2 y).2 ht rfl
set_option maxHeartbeats 1000000
theorem snewF (k : Kept Nil w0 w) (t : Int) : Calls Try.prog 8 #[.int .i64 t] w fun e w' => ∃ p g, e = .returned (.pointer p) ∧ Sf w0 w' p g (List.replicate (um t) z0) ∧ Kept Nil w w' :=
  (snew_c w t).mono fun _ _ ⟨p, g, h1, h2, h3, h4⟩ => ⟨p, g, h1, ⟨h2, k.trans h3 (fun _ _ z => z), Nat.le_trans k.size h4, wf_zero⟩, h3⟩
theorem sdoF (e : Ev) (h : Sf w0 w p g A) (hl : A.length ≤ 65536) : Calls Try.prog 9 #[.pointer p, .agg #[.int .i64 e.k, .int .i64 e.t, .bool e.r, .int .i64 e.c]] w fun x w' => x = .returned (.int .i64 (sdof A e)) ∧ Sf w0 w' p g (smov A e) ∧ (∀ i t cs, t ≠ 53 → Is w i t cs → Is w' i t cs) ∧ ∀ R c n xs, Gw 29 4 w0 w R c n xs → Gw 29 4 w0 w' R c n xs := by
  refine (sdo_c e h.wf h.lk hl).mono ?_
  rintro x w' hd
  have hr := fun i t cs ht hi => SDone.rest hd h.lk (i := i) (t := t) (cs := cs) hi ht
  obtain ⟨h1, h2, h3⟩ := hd
  have hk : Kept Nil w0 w' := h.kept.trans (S := Nil) h3 (fun i hi z => by have := h.own; omega)
  refine ⟨h1, ⟨h2, hk, h.own, wf_mov h.wf⟩, hr, fun R c n xs hr => ⟨owns_keep hr.row h3 (fun i hi z => ?_), hk, hr.own⟩⟩
  obtain ⟨rfl, z⟩ := z
  rcases h.lk with ⟨_, rfl⟩ | ⟨b, q, cp, _, _, h5⟩
  · simp at z
  · exact srow_beside hr.row hi ⟨_, _, (h5 z).2, .inr rfl⟩
theorem sdoA {e : Ev} {x : Int} {B : List Sd} (h : Sf w0 w p g A) (hl : A.length ≤ 65536) (hd : sdof A e = x) (hm : smov A e = B) : Calls Try.prog 9 #[.pointer p, .agg #[.int .i64 e.k, .int .i64 e.t, .bool e.r, .int .i64 e.c]] w fun z w' => z = .returned (.int .i64 x) ∧ Sf w0 w' p g B ∧ ∀ i t cs, t ≠ 53 → Is w i t cs → Is w' i t cs :=
  (sdoF e h hl).mono fun z w' ⟨h1, h2, h3, _⟩ => ⟨by rw [h1, hd], by rw [← hm]; exact h2, h3⟩
theorem sevs (w : World) : Evs (w.alloc (.cells #[.int .i64 1, .int .i64 0, .bool true, .int .i64 0, .int .i64 2, .int .i64 0, .bool false, .int .i64 0] 29)) (.slice (some ⟨w.heap.size, 0, none⟩) 2 2) [⟨1, 0, true, 0⟩, ⟨2, 0, false, 0⟩] :=
  Is.evs (l := [⟨1, 0, true, 0⟩, ⟨2, 0, false, 0⟩]) (Is.new w _ _)
theorem six_eq (W : World) : (Op.equalIn 10000 49 (.agg #[.int .i64 0, .int .i64 0, .int .i64 0, .int .i64 5, .int .i64 0, .int .i64 0]) (.agg #[.int .i64 0, .int .i64 0, .int .i64 0, .int .i64 5, .int .i64 0, .int .i64 0])).run Try.prog W = .ok true W := by kernel_rfl
theorem six_guard (x y : Operand) (W : World) : (eqGuard .eql 49 x y (.agg #[.int .i64 0, .int .i64 0, .int .i64 0, .int .i64 5, .int .i64 0, .int .i64 0]) (.agg #[.int .i64 0, .int .i64 0, .int .i64 0, .int .i64 5, .int .i64 0, .int .i64 0])).run Try.prog W = .ok () W := run_eqGuard_agg W .eql _ x y _ _ (by kernel_rfl)
def awS : Nat → List Sd
  | 0 => [(0, false), (0, false), (0, false)]
  | 1 => [(1, true), (0, false), (0, false)]
  | 2 => [(2, true), (0, false), (0, false)]
  | 3 => [(2, true), (1, false), (0, false)]
  | 4 => [(2, true), (1, false), (0, false)]
  | 5 => [(2, true), (1, false), (1, true)]
  | _ => [(2, true), (1, false), (2, true)]
def awE : Nat → Array Value
  | 0 => #[.int .i64 0, .int .i64 0, .int .i64 0, .int .i64 0, .int .i64 0, .int .i64 0]
  | 1 => #[.int .i64 0, .int .i64 0, .int .i64 0, .int .i64 0, .int .i64 0, .int .i64 0]
  | 2 => #[.int .i64 0, .int .i64 0, .int .i64 0, .int .i64 0, .int .i64 0, .int .i64 0]
  | 3 => #[.int .i64 0, .int .i64 0, .int .i64 0, .int .i64 0, .int .i64 0, .int .i64 0]
  | 4 => #[.int .i64 0, .int .i64 0, .int .i64 0, .int .i64 5, .int .i64 0, .int .i64 0]
  | 5 => #[.int .i64 0, .int .i64 0, .int .i64 0, .int .i64 5, .int .i64 0, .int .i64 0]
  | _ => #[.int .i64 0, .int .i64 0, .int .i64 0, .int .i64 5, .int .i64 0, .int .i64 0]
theorem six_0 (w : World) : (Instr.index 50 (.agg #[.int .i64 1, .int .i64 0, .bool true, .int .i64 0, .int .i64 2, .int .i64 0, .bool true, .int .i64 0, .int .i64 1, .int .i64 1, .bool false, .int .i64 0, .int .i64 2, .int .i64 1, .bool false, .int .i64 0, .int .i64 1, .int .i64 2, .bool true, .int .i64 0, .int .i64 2, .int .i64 2, .bool true, .int .i64 0]) (.int .i64 0)).run Try.prog w = .ok (.agg #[.int .i64 1, .int .i64 0, .bool true, .int .i64 0]) w := by kernel_rfl
theorem six_1 (w : World) : (Instr.index 50 (.agg #[.int .i64 1, .int .i64 0, .bool true, .int .i64 0, .int .i64 2, .int .i64 0, .bool true, .int .i64 0, .int .i64 1, .int .i64 1, .bool false, .int .i64 0, .int .i64 2, .int .i64 1, .bool false, .int .i64 0, .int .i64 1, .int .i64 2, .bool true, .int .i64 0, .int .i64 2, .int .i64 2, .bool true, .int .i64 0]) (.int .i64 1)).run Try.prog w = .ok (.agg #[.int .i64 2, .int .i64 0, .bool true, .int .i64 0]) w := by kernel_rfl
theorem six_2 (w : World) : (Instr.index 50 (.agg #[.int .i64 1, .int .i64 0, .bool true, .int .i64 0, .int .i64 2, .int .i64 0, .bool true, .int .i64 0, .int .i64 1, .int .i64 1, .bool false, .int .i64 0, .int .i64 2, .int .i64 1, .bool false, .int .i64 0, .int .i64 1, .int .i64 2, .bool true, .int .i64 0, .int .i64 2, .int .i64 2, .bool true, .int .i64 0]) (.int .i64 2)).run Try.prog w = .ok (.agg #[.int .i64 1, .int .i64 1, .bool false, .int .i64 0]) w := by kernel_rfl
theorem six_3 (w : World) : (Instr.index 50 (.agg #[.int .i64 1, .int .i64 0, .bool true, .int .i64 0, .int .i64 2, .int .i64 0, .bool true, .int .i64 0, .int .i64 1, .int .i64 1, .bool false, .int .i64 0, .int .i64 2, .int .i64 1, .bool false, .int .i64 0, .int .i64 1, .int .i64 2, .bool true, .int .i64 0, .int .i64 2, .int .i64 2, .bool true, .int .i64 0]) (.int .i64 3)).run Try.prog w = .ok (.agg #[.int .i64 2, .int .i64 1, .bool false, .int .i64 0]) w := by kernel_rfl
theorem six_4 (w : World) : (Instr.index 50 (.agg #[.int .i64 1, .int .i64 0, .bool true, .int .i64 0, .int .i64 2, .int .i64 0, .bool true, .int .i64 0, .int .i64 1, .int .i64 1, .bool false, .int .i64 0, .int .i64 2, .int .i64 1, .bool false, .int .i64 0, .int .i64 1, .int .i64 2, .bool true, .int .i64 0, .int .i64 2, .int .i64 2, .bool true, .int .i64 0]) (.int .i64 4)).run Try.prog w = .ok (.agg #[.int .i64 1, .int .i64 2, .bool true, .int .i64 0]) w := by kernel_rfl
theorem six_5 (w : World) : (Instr.index 50 (.agg #[.int .i64 1, .int .i64 0, .bool true, .int .i64 0, .int .i64 2, .int .i64 0, .bool true, .int .i64 0, .int .i64 1, .int .i64 1, .bool false, .int .i64 0, .int .i64 2, .int .i64 1, .bool false, .int .i64 0, .int .i64 1, .int .i64 2, .bool true, .int .i64 0, .int .i64 2, .int .i64 2, .bool true, .int .i64 0]) (.int .i64 5)).run Try.prog w = .ok (.agg #[.int .i64 2, .int .i64 2, .bool true, .int .i64 0]) w := by kernel_rfl
/-- What must come, whatever the arguments are. -/
theorem sawake_c (w : World) : Calls Try.prog 7 #[] w fun e w' => e = .returned (.bool true) ∧ Kept Nil w w' := by
  have d0 : sdof [(0, false), (0, false), (0, false)] ⟨1, 0, true, 0⟩ = 0 := by decide +kernel
  have m0 : smov [(0, false), (0, false), (0, false)] ⟨1, 0, true, 0⟩ = [(1, true), (0, false), (0, false)] := by decide +kernel
  have d1 : sdof [(1, true), (0, false), (0, false)] ⟨2, 0, true, 0⟩ = 0 := by decide +kernel
  have m1 : smov [(1, true), (0, false), (0, false)] ⟨2, 0, true, 0⟩ = [(2, true), (0, false), (0, false)] := by decide +kernel
  have d2 : sdof [(2, true), (0, false), (0, false)] ⟨1, 1, false, 0⟩ = 0 := by decide +kernel
  have m2 : smov [(2, true), (0, false), (0, false)] ⟨1, 1, false, 0⟩ = [(2, true), (1, false), (0, false)] := by decide +kernel
  have d3 : sdof [(2, true), (1, false), (0, false)] ⟨2, 1, false, 0⟩ = 5 := by decide +kernel
  have m3 : smov [(2, true), (1, false), (0, false)] ⟨2, 1, false, 0⟩ = [(2, true), (1, false), (0, false)] := by decide +kernel
  have d4 : sdof [(2, true), (1, false), (0, false)] ⟨1, 2, true, 0⟩ = 0 := by decide +kernel
  have m4 : smov [(2, true), (1, false), (0, false)] ⟨1, 2, true, 0⟩ = [(2, true), (1, false), (1, true)] := by decide +kernel
  have d5 : sdof [(2, true), (1, false), (1, true)] ⟨2, 2, true, 0⟩ = 0 := by decide +kernel
  have m5 : smov [(2, true), (1, false), (1, true)] ⟨2, 2, true, 0⟩ = [(2, true), (1, false), (2, true)] := by decide +kernel
  have hr : srun (List.replicate (um 1) z0) [⟨1, 0, true, 0⟩, ⟨2, 0, false, 0⟩] 0 = (1, 7) := by decide +kernel
  have hn : List.replicate (um 3) z0 = [(0, false), (0, false), (0, false)] := by decide +kernel
  have C := hide (snewF (Kept.refl Nil w) 3)
  rw [hn] at C
  have C0 := hide fun V p g (h : Sf w V p g [(0, false), (0, false), (0, false)]) => sdoA h (by decide) d0 m0
  have C1 := hide fun V p g (h : Sf w V p g [(1, true), (0, false), (0, false)]) => sdoA h (by decide) d1 m1
  have C2 := hide fun V p g (h : Sf w V p g [(2, true), (0, false), (0, false)]) => sdoA h (by decide) d2 m2
  have C3 := hide fun V p g (h : Sf w V p g [(2, true), (1, false), (0, false)]) => sdoA h (by decide) d3 m3
  have C4 := hide fun V p g (h : Sf w V p g [(2, true), (1, false), (0, false)]) => sdoA h (by decide) d4 m4
  have C5 := hide fun V p g (h : Sf w V p g [(2, true), (1, false), (1, true)]) => sdoA h (by decide) d5 m5
  have C6 := hide fun V => scheck_c 1 hr (sevs V) (by decide)
  have C7 := hide fun V p g (h : Sf w V p g [(2, true), (1, false), (2, true)]) => sstate_c 2 h.lk
  have C8 := hide fun V p g (h : Sf w V p g [(2, true), (1, false), (2, true)]) => sreaders_c h.lk (by decide)
  have C9 := hide fun V p g (h : Sf w V p g [(2, true), (1, false), (2, true)]) => swriter_c h.lk (by decide)
  rw [show ssta [(2, true), (1, false), (2, true)] 2 = (2, true) by decide +kernel] at C7
  rw [show rdn [(2, true), (1, false), (2, true)] = 2 by decide +kernel] at C8
  rw [show wri [(2, true), (1, false), (2, true)] = -1 by decide +kernel] at C9
  have e1 := six_eq
  have e2 := six_guard
  clear d0 m0 d1 m1 d2 m2 d3 m3 d4 m4 d5 m5 hr hn
  go_enter Try.func7, Try.ntmps7
  go_wp2_with fail
  refine C.out.mono ?_
  rintro e w1 ⟨p, g, rfl, h, _⟩
  have H1 := hide (And.intro (h.keep ((Kept.refl Nil w1).alloc (.cells #[.int .i64 0, .int .i64 0, .int .i64 0, .int .i64 0, .int .i64 0, .int .i64 0] 49))) (And.intro (Is.new w1 49 #[.int .i64 0, .int .i64 0, .int .i64 0, .int .i64 0, .int .i64 0, .int .i64 0]) h.kept.size))
  clear h C
  go_wp2_with fail
  generalize hb : w1.heap.size = b at *
  clear hb
  go_loopw [17] (fun i wr => ∃ k : Nat, k ≤ 6 ∧ i = .int .i64 k ∧ Sf w wr p g (awS k) ∧ Is wr b 49 (awE k)) (fun i _ => 6 - (intOf i).toNat)
  case atStart => exact ⟨0, by omega, rfl, H1.out.1, H1.out.2.1⟩
  case round =>
    obtain ⟨k, hk, rfl, hs, hi⟩ := hrel
    have HB := H1.out.2.2
    rcases (show k = 0 ∨ k = 1 ∨ k = 2 ∨ k = 3 ∨ k = 4 ∨ k = 5 ∨ k = 6 by omega) with rfl | rfl | rfl | rfl | rfl | rfl | rfl
    · have hix := six_0 wr
      have KA := (Kept.refl Nil wr).alloc (.cells #[.int .i64 1, .int .i64 0, .bool true, .int .i64 0] 29)
      have HS := hide (And.intro (hs.keep KA) (hi.kept KA (fun z => z)))
      clear hs hi hk KA
      go_wp2_with fail
      refine (C0.out _ _ _ HS.out.1).mono ?_
      rintro e w2 ⟨rfl, h, hr⟩
      have hi := hr _ _ _ (by decide) HS.out.2
      have q0 : w2.cell? ⟨b, 0, none⟩ = some (.int .i64 0) := hi.cell 0
      have q1 := hi.free 0
      have H2 := hide (And.intro (Sf.store (i := 0) (v := .int .i64 0) h hi HB (by decide) (by decide)) (hi.set 0 (.int .i64 0)))
      clear h hr hi HS
      go_wp2_with fail
      go_roundw
      case rel => exact ⟨1, by omega, by go_num, H2.out.1, H2.out.2⟩
      case measure => simp [intOf]
    · have hix := six_1 wr
      have KA := (Kept.refl Nil wr).alloc (.cells #[.int .i64 2, .int .i64 0, .bool true, .int .i64 0] 29)
      have HS := hide (And.intro (hs.keep KA) (hi.kept KA (fun z => z)))
      clear hs hi hk KA
      go_wp2_with fail
      refine (C1.out _ _ _ HS.out.1).mono ?_
      rintro e w2 ⟨rfl, h, hr⟩
      have hi := hr _ _ _ (by decide) HS.out.2
      have q0 : w2.cell? ⟨b, 1, none⟩ = some (.int .i64 0) := hi.cell 1
      have q1 := hi.free 1
      have H2 := hide (And.intro (Sf.store (i := 1) (v := .int .i64 0) h hi HB (by decide) (by decide)) (hi.set 1 (.int .i64 0)))
      clear h hr hi HS
      go_wp2_with fail
      go_roundw
      case rel => exact ⟨2, by omega, by go_num, H2.out.1, H2.out.2⟩
      case measure => simp [intOf]
    · have hix := six_2 wr
      have KA := (Kept.refl Nil wr).alloc (.cells #[.int .i64 1, .int .i64 1, .bool false, .int .i64 0] 29)
      have HS := hide (And.intro (hs.keep KA) (hi.kept KA (fun z => z)))
      clear hs hi hk KA
      go_wp2_with fail
      refine (C2.out _ _ _ HS.out.1).mono ?_
      rintro e w2 ⟨rfl, h, hr⟩
      have hi := hr _ _ _ (by decide) HS.out.2
      have q0 : w2.cell? ⟨b, 2, none⟩ = some (.int .i64 0) := hi.cell 2
      have q1 := hi.free 2
      have H2 := hide (And.intro (Sf.store (i := 2) (v := .int .i64 0) h hi HB (by decide) (by decide)) (hi.set 2 (.int .i64 0)))
      clear h hr hi HS
      go_wp2_with fail
      go_roundw
      case rel => exact ⟨3, by omega, by go_num, H2.out.1, H2.out.2⟩
      case measure => simp [intOf]
    · have hix := six_3 wr
      have KA := (Kept.refl Nil wr).alloc (.cells #[.int .i64 2, .int .i64 1, .bool false, .int .i64 0] 29)
      have HS := hide (And.intro (hs.keep KA) (hi.kept KA (fun z => z)))
      clear hs hi hk KA
      go_wp2_with fail
      refine (C3.out _ _ _ HS.out.1).mono ?_
      rintro e w2 ⟨rfl, h, hr⟩
      have hi := hr _ _ _ (by decide) HS.out.2
      have q0 : w2.cell? ⟨b, 3, none⟩ = some (.int .i64 0) := hi.cell 3
      have q1 := hi.free 3
      have H2 := hide (And.intro (Sf.store (i := 3) (v := .int .i64 5) h hi HB (by decide) (by decide)) (hi.set 3 (.int .i64 5)))
      clear h hr hi HS
      go_wp2_with fail
      go_roundw
      case rel => exact ⟨4, by omega, by go_num, H2.out.1, H2.out.2⟩
      case measure => simp [intOf]
    · have hix := six_4 wr
      have KA := (Kept.refl Nil wr).alloc (.cells #[.int .i64 1, .int .i64 2, .bool true, .int .i64 0] 29)
      have HS := hide (And.intro (hs.keep KA) (hi.kept KA (fun z => z)))
      clear hs hi hk KA
      go_wp2_with fail
      refine (C4.out _ _ _ HS.out.1).mono ?_
      rintro e w2 ⟨rfl, h, hr⟩
      have hi := hr _ _ _ (by decide) HS.out.2
      have q0 : w2.cell? ⟨b, 4, none⟩ = some (.int .i64 0) := hi.cell 4
      have q1 := hi.free 4
      have H2 := hide (And.intro (Sf.store (i := 4) (v := .int .i64 0) h hi HB (by decide) (by decide)) (hi.set 4 (.int .i64 0)))
      clear h hr hi HS
      go_wp2_with fail
      go_roundw
      case rel => exact ⟨5, by omega, by go_num, H2.out.1, H2.out.2⟩
      case measure => simp [intOf]
    · have hix := six_5 wr
      have KA := (Kept.refl Nil wr).alloc (.cells #[.int .i64 2, .int .i64 2, .bool true, .int .i64 0] 29)
      have HS := hide (And.intro (hs.keep KA) (hi.kept KA (fun z => z)))
      clear hs hi hk KA
      go_wp2_with fail
      refine (C5.out _ _ _ HS.out.1).mono ?_
      rintro e w2 ⟨rfl, h, hr⟩
      have hi := hr _ _ _ (by decide) HS.out.2
      have q0 : w2.cell? ⟨b, 5, none⟩ = some (.int .i64 0) := hi.cell 5
      have q1 := hi.free 5
      have H2 := hide (And.intro (Sf.store (i := 5) (v := .int .i64 0) h hi HB (by decide) (by decide)) (hi.set 5 (.int .i64 0)))
      clear h hr hi HS
      go_wp2_with fail
      go_roundw
      case rel => exact ⟨6, by omega, by go_num, H2.out.1, H2.out.2⟩
      case measure => simp [intOf]
    · have q0 : ∀ W, Kept Nil wr W → W.cell? ⟨b, 0, none⟩ = some (.int .i64 0) ∧ W.cell? ⟨b, 1, none⟩ = some (.int .i64 0) ∧ W.cell? ⟨b, 2, none⟩ = some (.int .i64 0) ∧ W.cell? ⟨b, 3, none⟩ = some (.int .i64 5) ∧ W.cell? ⟨b, 4, none⟩ = some (.int .i64 0) ∧ W.cell? ⟨b, 5, none⟩ = some (.int .i64 0) := fun W z => ⟨(hi.kept z (fun c => c)).cell 0, (hi.kept z (fun c => c)).cell 1, (hi.kept z (fun c => c)).cell 2, (hi.kept z (fun c => c)).cell 3, (hi.kept z (fun c => c)).cell 4, (hi.kept z (fun c => c)).cell 5⟩
      have HQ := hide q0
      have HS := hide (show Sf w wr p g [(2, true), (1, false), (2, true)] from hs)
      clear hs hi hk q0
      go_wp2_with fail
      refine (C7.out _ _ _ HS.out).mono ?_
      rintro e w3 ⟨rfl, h3⟩
      have H3 := hide h3
      clear h3
      go_wp2_with fail
      refine (C6.out w3).mono ?_
      rintro e w4 ⟨rfl, h4⟩
      have H4 := hide (H3.out.trans (((Kept.refl Nil w3).alloc (.cells #[.int .i64 1, .int .i64 0, .bool true, .int .i64 0, .int .i64 2, .int .i64 0, .bool false, .int .i64 0] 29)).trans h4 (fun _ _ z => z)) (fun _ _ z => z))
      clear h4
      obtain ⟨r0, r1, r2, r3, r4, r5⟩ := HQ.out _ H4.out
      go_wp2_with fail
      refine (C8.out _ _ _ (HS.out.keep H4.out)).mono ?_
      rintro e w5 ⟨rfl, h5⟩
      have H5 := hide (H4.out.trans h5 (fun _ _ z => z))
      clear h5
      go_wp2_with fail
      refine (C9.out _ _ _ (HS.out.keep H5.out)).mono ?_
      rintro e w6 ⟨rfl, h6⟩
      have H6 := hide ((HS.out.keep (H5.out.trans h6 (fun _ _ z => z))).kept)
      clear h6
      go_wp2_with fail
      go_ret
      exact ⟨rfl, H6.out⟩
end
end Go.Proofs.Ytmmncaabeiagaaa
