/- The law SharedPlain, walked. wip/tools/genshared.py wrote it. -/
import Derived.Test.YtmmncaabeiagaaaHLaws
import Derived.Test.YtmmncaabeiagaaaULaws
namespace Go.Proofs.Ytmmncaabeiagaaa
open Go.RowKit
set_option maxRecDepth 100000

section
variable {w w0 w' : World} {v : Value} {l : List Ev} {p p' : Option Addr} {g g' b : Nat} {A : List Sd} {B : List Int} {e : Ev}
/-- A lock of threads through another's work. -/
theorem Lk.on (h : Lk w p g B) (f : ∀ i t cs, t ≠ 53 → Is w i t cs → Is w' i t cs) : Lk w' p g B := by
  rcases h with h | ⟨b, q, c, e, h1, h2⟩
  · exact .inl h
  · exact .inr ⟨b, q, c, e, f _ _ _ (by decide) h1, fun z => ⟨(h2 z).1, f _ _ _ (by decide) (h2 z).2⟩⟩
theorem Sk.on (h : Sk w p g A) (f : ∀ i t cs, t ≠ 3 → Is w i t cs → Is w' i t cs) : Sk w' p g A := by
  rcases h with h | ⟨b, q, c, e, h1, h2⟩
  · exact .inl h
  · exact .inr ⟨b, q, c, e, f _ _ _ (by decide) h1, fun z => ⟨(h2 z).1, f _ _ _ (by decide) (h2 z).2⟩⟩
theorem LDone.rest {x : Ending} (h : LDone p g B e w x w') (hL : Lk w p g B) {i : Nat} {t : TypeId} {cs : Array Value} (hi : Is w i t cs) (ht : t ≠ 3) : Is w' i t cs := by
  refine hi.kept h.2.2 (fun ⟨z, y⟩ => ?_)
  subst z
  rcases hL with ⟨_, rfl⟩ | ⟨b, q, c, _, _, h2⟩
  · simp at y
  · exact hi.ne (h2 y).2 ht rfl
/-- Both locks, and the event's box, which lies in block b. -/
structure Bo (w0 w : World) (p : Option Addr) (g : Nat) (p' : Option Addr) (g' b : Nat) (e : Ev) (A : List Sd) (B : List Int) : Prop where
  one : Sf w0 w p g A
  two : Uf w0 w p' g' B
  box : Is w b 29 #[.int .i64 e.k, .int .i64 e.t, .bool e.r, .int .i64 e.c]
theorem Bo.keep (h : Bo w0 w p g p' g' b e A B) (k : Kept Nil w w') : Bo w0 w' p g p' g' b e A B := ⟨h.one.keep k, h.two.keep k, h.box.kept k (fun z => z)⟩
theorem unewG (k : Kept Nil w0 w) (t : Int) : Calls Try.prog 14 #[.int .i64 t] w fun e w' => ∃ p g, e = .returned (.pointer p) ∧ Uf w0 w' p g (List.replicate (um t) 0) ∧ Kept Nil w w' :=
  (unew_c w t).mono fun _ _ ⟨p, g, h1, h2, h3, h4⟩ => ⟨p, g, h1, ⟨h2, k.trans h3 (fun _ _ z => z), Nat.le_trans k.size h4⟩, h3⟩
theorem Bo.drew (h : Bo w0 w p g p' g' b e A B) : Bo w0 w.drew p g p' g' b e A B := h.keep (Kept.refl _ w).drew
set_option maxHeartbeats 1000000
theorem Bo.doS (h : Bo w0 w p g p' g' b e A B) (hl : A.length ≤ 65536) : Calls Try.prog 9 #[.pointer p, .agg #[.int .i64 e.k, .int .i64 e.t, .bool e.r, .int .i64 e.c]] w fun x w' => x = .returned (.int .i64 (sdof A e)) ∧ Bo w0 w' p g p' g' b e (smov A e) B :=
  (sdoF e h.one hl).mono fun x w' ⟨h1, h2, h3, _⟩ => ⟨h1, h2, ⟨h.two.lk.on h3, h2.kept, h.two.own⟩, h3 _ _ _ (by decide) h.box⟩
theorem Bo.doU (h : Bo w0 w p g p' g' b e A B) (hl : B.length ≤ 65536) : Calls Try.prog 15 #[.pointer p', .agg #[.int .i64 e.k, .int .i64 e.t, .bool e.r, .int .i64 e.c]] w fun x w' => x = .returned (.int .i64 (dof B e)) ∧ Bo w0 w' p g p' g' b e A (mov B e) :=
  (udo_c e h.two.lk hl).mono fun x w' hd => by
    have hr := fun i t cs ht hi => LDone.rest hd h.two.lk (i := i) (t := t) (cs := cs) hi ht
    have hk : Kept Nil w0 w' := h.two.kept.trans (S := Nil) hd.2.2 (fun i hi z => by have := h.two.own; omega)
    exact ⟨hd.1, ⟨h.one.lk.on hr, hk, h.one.own, h.one.wf⟩, ⟨hd.2.1, hk, h.two.own⟩, hr _ _ _ (by decide) h.box⟩
theorem Bo.wri (h : Bo w0 w p g p' g' b e A B) (hl : A.length ≤ 65536) : Calls Try.prog 12 #[.pointer p] w fun x w' => x = .returned (.int .i64 (wri A)) ∧ Bo w0 w' p g p' g' b e A B :=
  (swriter_c h.one.lk hl).mono fun _ _ ⟨h1, h2⟩ => ⟨h1, h.keep h2⟩
theorem Bo.rdn (h : Bo w0 w p g p' g' b e A B) (hl : A.length ≤ 65536) : Calls Try.prog 11 #[.pointer p] w fun x w' => x = .returned (.int .i64 (rdn A : Nat)) ∧ Bo w0 w' p g p' g' b e A B :=
  (sreaders_c h.one.lk hl).mono fun _ _ ⟨h1, h2⟩ => ⟨h1, h.keep h2⟩
theorem Bo.hol (h : Bo w0 w p g p' g' b e A B) (hl : B.length ≤ 65536) : Calls Try.prog 16 #[.pointer p'] w fun x w' => x = .returned (.int .i64 (hol B)) ∧ Bo w0 w' p g p' g' b e A B :=
  (ulholder_c h.two.lk hl).mono fun _ _ ⟨h1, h2⟩ => ⟨h1, by rw [← h2]; exact h⟩
set_option maxHeartbeats 4000000
theorem splain_short (n : Int) (hv : Evs w v l) (hn : 60 < l.length) : Calls Try.prog 5 #[.int .i64 n, v] w fun x w' => x = .returned (.bool true) ∧ Kept Nil w w' := by
  obtain ⟨A, c, rfl, hx1, hx2⟩ := hv
  clear hx1 hx2
  have HA := hide (sawake_c w)
  go_enter Try.func5, Try.ntmps5
  go_wp2_with fail
  refine HA.out.mono ?_
  rintro x w1 ⟨rfl, k1⟩
  have HE := hide k1
  clear k1
  go_wp2_with fail
  go_ret
  exact ⟨rfl, HE.out⟩
theorem splain_long (n : Int) (hv : Evs w v l) (hn : l.length ≤ 60) : Calls Try.prog 5 #[.int .i64 n, v] w fun x w' => x = .returned (.bool true) ∧ Kept Nil w w' := by
  have hlen : decide (60 < (l.length : Int)) = false := by simp; omega
  have HN := hide fun W (z : Kept Nil w W) => snewF z n
  have HM := hide fun W (z : Kept Nil w W) => unewG z n
  have hum := um_le (t := n)
  rw [← pla_zero] at HN
  have HZ : Hid ((List.replicate (um n) (0 : Int)).length ≤ 32) := hide (by rw [List.length_replicate]; exact hum)
  clear hum
  generalize List.replicate (um n) (0 : Int) = B0 at *
  obtain ⟨A, c, rfl, _, hp⟩ := hv
  have HP := hide hp
  clear hp
  go_enter Try.func5, Try.ntmps5
  go_wp2_with fail
  refine (HN.out _ (Kept.refl _ _)).mono ?_
  rintro x w1 ⟨p, g, rfl, hS, _⟩
  have HS := hide hS
  clear hS HN
  go_wp2_with fail
  refine (HM.out _ HS.out.kept).mono ?_
  rintro x w2 ⟨p', g', rfl, hU, hk⟩
  have HU := hide (show Sf w w2 p g (pla B0) ∧ Uf w w2 p' g' B0 from ⟨HS.out.keep hk, hU⟩)
  clear hU HM
  go_wp2_with fail
  go_loopw [7] (fun i wr => ∃ (k : Nat) (B : List Int), k ≤ l.length ∧ i = .int .i64 k ∧ Sf w wr p g (pla B) ∧ Uf w wr p' g' B ∧ B.length ≤ 32) (fun i _ => l.length - (intOf i).toNat)
  case atStart => exact ⟨0, B0, Nat.zero_le _, rfl, HU.out.1, HU.out.2, HZ.out⟩
  case round =>
    obtain ⟨k, B, hk, rfl, hS, hU, hs⟩ := hrel
    have HK := hide (And.intro hS (And.intro hU hs))
    clear hS hU hs HU HZ
    by_cases hlt : k < l.length
    · obtain ⟨g1, o1, rfl, hg1, hc⟩ := HP.out (by omega)
      have hF := hide fun W (z : Kept Nil w W) => (hc k hlt).kept hg1 z
      clear hc hg1
      generalize l.getD k e0 = e at *
      have hF3 := hide fun W (z : Kept Nil w W) => show W.cell? ⟨g1, o1 + k * 4, none⟩ = some (.int .i64 e.k) ∧ W.cell? ⟨g1, o1 + k * 4 + 1, none⟩ = some (.int .i64 e.t) ∧ W.cell? ⟨g1, o1 + k * 4 + 2, none⟩ = some (.bool e.r) ∧ W.cell? ⟨g1, o1 + k * 4 + 3, none⟩ = some (.int .i64 e.c) from hF.out W z
      clear hF
      generalize hek : e.k = ek at *
      generalize het : e.t = et at *
      generalize her : e.r = er at *
      generalize hec : e.c = ec at *
      clear hek het her hec
      obtain ⟨f1, f2, f3, f4⟩ := hF3.out wr HK.out.1.kept
      obtain ⟨b, hb⟩ : ∃ b, wr.heap.size = b := ⟨_, rfl⟩
      obtain ⟨W1, hW1⟩ : ∃ W1, wr.alloc (.cells #[.int .i64 ek, .int .i64 et, .bool false, .int .i64 ec] 29) = W1 := ⟨_, rfl⟩
      have hka : Kept Nil wr W1 := by rw [← hW1]; exact (Kept.refl Nil wr).alloc _
      have hB : Bo w W1 p g p' g' b ⟨ek, et, false, ec⟩ (pla B) B := ⟨HK.out.1.keep hka, HK.out.2.1.keep hka, by rw [← hb, ← hW1]; exact Is.new wr _ _⟩
      have hB : Bo w W1.drew p g p' g' b ⟨ek, et, false, ec⟩ (pla B) B := hB.drew
      have hd : sdof (pla B) ⟨ek, et, false, ec⟩ = dof B ⟨ek, et, false, ec⟩ := pla_dof rfl
      have hm : smov (pla B) ⟨ek, et, false, ec⟩ = pla (mov B ⟨ek, et, false, ec⟩) := pla_mov rfl
      have hml : (mov B ⟨ek, et, false, ec⟩).length ≤ 32 := by rw [mov_len]; exact HK.out.2.2
      have hbl := HK.out.2.2
      obtain ⟨B2, hB2⟩ : ∃ B2, mov B ⟨ek, et, false, ec⟩ = B2 := ⟨_, rfl⟩
      obtain ⟨d, hd2⟩ : ∃ d, dof B ⟨ek, et, false, ec⟩ = d := ⟨_, rfl⟩
      rw [hB2] at hm hml
      rw [hd2] at hd
      have hpl := pla_len (B := B)
      have hpl2 := pla_len (B := B2)
      have D1 := hide fun (X : List Int) W (z : Bo w W p g p' g' b ⟨ek, et, false, ec⟩ (pla B) X) => show Calls Try.prog 9 #[.pointer p, .agg #[.int .i64 ek, .int .i64 et, .bool false, .int .i64 ec]] W fun x w' => x = .returned (.int .i64 d) ∧ Bo w w' p g p' g' b ⟨ek, et, false, ec⟩ (pla B2) X from by
        have h := z.doS (by omega)
        rw [hd, hm] at h
        exact h
      have D2 := hide fun (X : List Int) W (z : Bo w W p g p' g' b ⟨ek, et, false, ec⟩ (pla X) B) => show Calls Try.prog 15 #[.pointer p', .agg #[.int .i64 ek, .int .i64 et, .bool false, .int .i64 ec]] W fun x w' => x = .returned (.int .i64 d) ∧ Bo w w' p g p' g' b ⟨ek, et, false, ec⟩ (pla X) B2 from by
        have h := z.doU (by omega)
        rw [hd2, hB2] at h
        exact h
      have D3 := hide fun W (z : Bo w W p g p' g' b ⟨ek, et, false, ec⟩ (pla B2) B2) => show Calls Try.prog 12 #[.pointer p] W fun x w' => x = .returned (.int .i64 (hol B2)) ∧ Bo w w' p g p' g' b ⟨ek, et, false, ec⟩ (pla B2) B2 from by
        have h := z.wri (by omega)
        rw [pla_wri] at h
        exact h
      have D4 := hide fun W (z : Bo w W p g p' g' b ⟨ek, et, false, ec⟩ (pla B2) B2) => show Calls Try.prog 16 #[.pointer p'] W fun x w' => x = .returned (.int .i64 (hol B2)) ∧ Bo w w' p g p' g' b ⟨ek, et, false, ec⟩ (pla B2) B2 from z.hol (by omega)
      have D5 := hide fun W (z : Bo w W p g p' g' b ⟨ek, et, false, ec⟩ (pla B2) B2) => show Calls Try.prog 11 #[.pointer p] W fun x w' => x = .returned (.int .i64 0) ∧ Bo w w' p g p' g' b ⟨ek, et, false, ec⟩ (pla B2) B2 from by
        have h := z.rdn (by omega)
        rw [pla_rdn] at h
        exact h
      have CELLS := hide fun (X : List Sd) (Y : List Int) W (z : Bo w W p g p' g' b ⟨ek, et, false, ec⟩ X Y) => show W.cell? ⟨b, 0, none⟩ = some (.int .i64 ek) ∧ W.cell? ⟨b, 1, none⟩ = some (.int .i64 et) ∧ W.cell? ⟨b, 2, none⟩ = some (.bool false) ∧ W.cell? ⟨b, 3, none⟩ = some (.int .i64 ec) from ⟨z.box.cell 0, z.box.cell 1, z.box.cell 2, z.box.cell 3⟩
      have HL := hide hml
      generalize hol B2 = o at *
      clear hd hm hml hbl hB2 hd2 hpl hpl2 hF3 hka
      go_wp2_with fail
      go_region_held3 (fun W => W.cell? ⟨b, 0, none⟩ = some (.int .i64 ek) ∧ W.cell? ⟨b, 1, none⟩ = some (.int .i64 et) ∧ W.cell? ⟨b, 2, none⟩ = some (.bool false) ∧ W.cell? ⟨b, 3, none⟩ = some (.int .i64 ec))
        (exact CELLS.out _ _ _ (by assumption))
        (first
          | (go_at_call 9; refine (D1.out _ _ (by assumption)).mono ?_; rintro x v1 ⟨rfl, z1⟩)
          | (go_at_call 15; refine (D2.out _ _ (by assumption)).mono ?_; rintro x v2 ⟨rfl, z2⟩)
          | (go_at_call 12; refine (D3.out _ (by assumption)).mono ?_; rintro x v3 ⟨rfl, z3⟩)
          | (go_at_call 16; refine (D4.out _ (by assumption)).mono ?_; rintro x v4 ⟨rfl, z4⟩)
          | (go_at_call 11; refine (D5.out _ (by assumption)).mono ?_; rintro x v5 ⟨rfl, z5⟩))
      all_goals
        have HG := hide z5
        clear z1 z2 z3 z4 z5 hB D1 D2 D3 D4 D5 CELLS
        go_wp2_with fail
        go_roundw
        case rel => exact ⟨k + 1, B2, by omega, by go_num, HG.out.one, HG.out.two, HL.out⟩
        case measure => simp [intOf]; omega
    · obtain rfl : k = l.length := by omega
      have HA := hide (sawake_c wr)
      go_wp2_with fail
      refine HA.out.mono ?_
      rintro x w9 ⟨rfl, h9⟩
      have H9 := hide (HK.out.1.kept.trans h9 (fun _ _ z => z))
      clear h9
      go_wp2_with fail
      go_ret
      exact ⟨rfl, H9.out⟩
theorem splain_c (n : Int) (hv : Evs w v l) : Calls Try.prog 5 #[.int .i64 n, v] w fun x w' => x = .returned (.bool true) ∧ Kept Nil w w' := by
  rcases Nat.lt_or_ge 60 l.length with h | h
  · exact splain_short n hv h
  · exact splain_long n hv h
end
end Go.Proofs.Ytmmncaabeiagaaa
