/- The document's Of. -/
import Derived.Test.YtefcjlacjafnoaaBRef
namespace Go.Proofs.Ytefcjlacjafnoaa
open Go.RowKit
set_option maxRecDepth 100000

section
variable {w0 w w1 w' : World} {v0 v : Value} {N : List Int} {l : List Ev}
set_option maxHeartbeats 4000000
theorem rbof_c (hn : Nums w v0 N) (hN : N.length ≤ 65536) (hv : Evs w v l) (hl : l.length ≤ 65536) : Calls Try.prog 13 #[v0, v] w (Pfd w (pof N l)) := by
  obtain ⟨i0, hi0, hz0, hz1, hz2⟩ := info_parts info_pass
  have CO := hide (rof_c hv hl)
  have CF := hide fun W (z : Kept Nil w W) t f g => rfrom_c t f g (hn.kept z) hN (hv.kept z) hl
  have HSL : (yof l).length ≤ 65536 := Nat.le_trans yof_len hl
  obtain ⟨A0, c0, rfl, _⟩ := hn
  obtain ⟨A, c, rfl, _, _⟩ := hv
  go_enter Try.func13, Try.ntmps13
  go_wp2_with fail
  refine CO.out.mono ?_
  rintro e w3 ⟨A2, c2, rfl, hg3⟩
  have HG := hide hg3
  clear hg3 CO
  have hS : ∃ S, yof l = S := ⟨_, rfl⟩
  obtain ⟨S, hS⟩ := hS
  rw [hS] at HG HSL
  have hPL : (pof N l).length = S.length := by rw [pof_len, hS]
  have HPA := hide fun k (z : k < S.length) => show (pof N l).getD k p0 = pst N l (S.getD k s0) by rw [← hS]; exact pof_at (by rw [hS]; exact z)
  rw [hS]
  clear hS
  go_wp2_with fail
  go_loopw [5, 7] (fun v5 v7 wr => ∃ (k : Nat) (R : Option Addr) (c1 : Nat), k ≤ S.length ∧ v7 = .int .i64 k ∧ v5 = .slice R k c1 ∧ Gw 27 2 w3 wr R c1 k (pcells ((pof N l).take k))) (fun _ i _ => S.length - (intOf i).toNat)
  case atStart => exact ⟨0, none, 0, Nat.zero_le _, rfl, rfl, Gw.start _ _ _⟩
  case round =>
    obtain ⟨k, R, c1, hk, rfl, rfl, hgw⟩ := hrel
    have HW := hide hgw
    clear hgw
    by_cases hlt : k < S.length
    · obtain ⟨g, rfl, hgl, _, hlc, h7, _⟩ := (HG.out.keep HW.out.kept).at7 hlt
      obtain ⟨g', eg, hg3, _⟩ := HG.out.at7 hlt
      injection eg with eg
      injection eg with eg
      subst eg
      have HPK := HPA.out k hlt
      have hPT := ps_take (L := pof N l) (k := k) (by rw [hPL]; exact hlt)
      rw [HPK] at hPT
      clear HPK
      generalize S.getD k s0 = s at *
      obtain ⟨c0', _, c2', c3', _⟩ := h7
      have hps : pst N l s = frm N s.t s.a (yto l.length s) l := rfl
      obtain ⟨st, sr, sa, se, sx, sz, sc⟩ := s
      have c0' : wr.cell? ⟨g, k * 7, none⟩ = some (.int .i64 st) := c0'
      have c2' : wr.cell? ⟨g, k * 7 + 2, none⟩ = some (.int .i64 sa) := c2'
      have c3' : wr.cell? ⟨g, k * 7 + 3, none⟩ = some (.int .i64 se) := c3'
      have hkw : Kept Nil w wr := HG.out.kept.trans HW.out.kept (fun _ _ z => z)
      have hps : pst N l ⟨st, sr, sa, se, sx, sz, sc⟩ = frm N st sa (if se < 0 then (l.length : Int) else se) l := hps
      obtain ⟨z, hz⟩ : ∃ z : Int, (if se < 0 then (l.length : Int) else se) = z := ⟨_, rfl⟩
      rw [hz] at hps
      obtain ⟨ps, hps1⟩ : ∃ x, (frm N st sa z l).s = x := ⟨_, rfl⟩
      obtain ⟨po, hpo1⟩ : ∃ x, (frm N st sa z l).o = x := ⟨_, rfl⟩
      have hfr : frm N st sa z l = ⟨ps, po⟩ := by rw [← hps1, ← hpo1]
      have CF2 := hide fun W (y : Kept Nil w W) => CF.out W y st sa z
      rw [hfr] at CF2
      unfold psv at CF2
      have HPT : Hid (pcells ((pof N l).take (k + 1)) = pcells ((pof N l).take k) ++ [.int .i64 ps, .int .i64 po]) := hide (by rw [hPT, pcells_snoc, hps, hfr])
      have hgR : ¬ In R g := fun y => by
        have := HW.out.own _ y
        omega
      have CELLS : Hid (∀ W, Kept (In R) wr W → W.cell? ⟨g, k * 7, none⟩ = some (.int .i64 st) ∧ W.cell? ⟨g, k * 7 + 2, none⟩ = some (.int .i64 sa)) := hide fun W y =>
        ⟨(y.cell (p := ⟨g, k * 7, none⟩) hgl hgR).trans c0', (y.cell (p := ⟨g, k * 7 + 2, none⟩) hgl hgR).trans c2'⟩
      have HKW := hide hkw
      have HM : Hid (k + 1 ≤ maxLen ∧ (k + 1) * 16 ≤ 140737488355328) := hide ⟨by unfold maxLen; omega, by omega⟩
      have KZ : Kept (In R) wr wr := Kept.refl _ _
      have hi0' : (0 : Int) ≤ (k : Int) := Int.natCast_nonneg _
      have hi1 : (k : Int) < (S.length : Int) := by omega
      clear hkw hps hps1 hpo1 hfr hPT c0' c2' hgR hg3 CF
      by_cases h0 : se < 0
      · have d0 : decide (se < 0) = true := decide_eq_true h0
        rw [if_pos h0] at hz
        subst hz
        clear h0
        go_wp2_with fail
        go_region_held3 (fun W => W.cell? ⟨g, k * 7, none⟩ = some (.int .i64 st) ∧ W.cell? ⟨g, k * 7 + 2, none⟩ = some (.int .i64 sa))
          (first | exact CELLS.out _ (by assumption) | exact CELLS.out _ (Kept.drew (by assumption)) | exact CELLS.out _ (Kept.alloc (by assumption) _))
          (first
            | (go_at_call 14; refine (CF2.out _ (HKW.out.drew)).mono ?_; rintro e w7 ⟨rfl, hk7⟩; have hk8 : Kept (In R) wr w7 := (Kept.refl (In R) wr).drew.trans hk7 (fun _ _ z => absurd z (fun y => y)); have hg7 := HW.out.keep (undrew hk7))
            | (refine step_append_lies _ (by rfl) _ _ _ (by rfl) 0 27 i0 _ 2 16 Try.underlying33 hi0 hz0 hz1 hz2 rfl (by decide) (.slice R k c1) k (pcells ((pof N l).take k)) (by rfl) (hg7.row.alloc _) ⟨w7.heap.size, 0, none⟩ 1 1 [.int .i64 ps, .int .i64 po] (by rfl) (by rfl) (World.news_of_block (cs := #[.int .i64 ps, .int .i64 po]) (t := 27) (fr := (0, 0)) (heap_alloc_new w7 _)) (by simp [Value.oneCell']) (by omega) HM.out.1 HM.out.2 (Nat.zero_le _) (w7.heap.size + 1) (by simp) ?_; intro gg cap w8 hown8 hgrow hat _; have hg8 := hg7.lies ((Kept.refl Nil w7).alloc _) hown8 hgrow (by simpa using hat); have hk9 : Kept (In R) wr w8 := (hk8.alloc _).trans (Kept.of_grown hgrow) (fun i _ z => by rw [own_in] at z; exact z)))
        have H8 := hide hg8
        clear hown8 hgrow hat hg7 hg8 hk7 hk8 hk9 KZ CELLS HM
        go_wp2_with fail
        go_roundw
        case rel => exact ⟨k + 1, _, _, by omega, by go_num, rfl, by rw [HPT.out]; exact H8.out⟩
        case measure => simp [intOf]; omega
      · have d0 : decide (se < 0) = false := decide_eq_false h0
        rw [if_neg h0] at hz
        subst hz
        clear h0
        go_wp2_with fail
        go_region_held3 (fun W => W.cell? ⟨g, k * 7, none⟩ = some (.int .i64 st) ∧ W.cell? ⟨g, k * 7 + 2, none⟩ = some (.int .i64 sa))
          (first | exact CELLS.out _ (by assumption) | exact CELLS.out _ (Kept.drew (by assumption)) | exact CELLS.out _ (Kept.alloc (by assumption) _))
          (first
            | (go_at_call 14; refine (CF2.out _ (HKW.out.drew)).mono ?_; rintro e w7 ⟨rfl, hk7⟩; have hk8 : Kept (In R) wr w7 := (Kept.refl (In R) wr).drew.trans hk7 (fun _ _ z => absurd z (fun y => y)); have hg7 := HW.out.keep (undrew hk7))
            | (refine step_append_lies _ (by rfl) _ _ _ (by rfl) 0 27 i0 _ 2 16 Try.underlying33 hi0 hz0 hz1 hz2 rfl (by decide) (.slice R k c1) k (pcells ((pof N l).take k)) (by rfl) (hg7.row.alloc _) ⟨w7.heap.size, 0, none⟩ 1 1 [.int .i64 ps, .int .i64 po] (by rfl) (by rfl) (World.news_of_block (cs := #[.int .i64 ps, .int .i64 po]) (t := 27) (fr := (0, 0)) (heap_alloc_new w7 _)) (by simp [Value.oneCell']) (by omega) HM.out.1 HM.out.2 (Nat.zero_le _) (w7.heap.size + 1) (by simp) ?_; intro gg cap w8 hown8 hgrow hat _; have hg8 := hg7.lies ((Kept.refl Nil w7).alloc _) hown8 hgrow (by simpa using hat); have hk9 : Kept (In R) wr w8 := (hk8.alloc _).trans (Kept.of_grown hgrow) (fun i _ z => by rw [own_in] at z; exact z)))
        have H8 := hide hg8
        clear hown8 hgrow hat hg7 hg8 hk7 hk8 hk9 KZ CELLS HM
        go_wp2_with fail
        go_roundw
        case rel => exact ⟨k + 1, _, _, by omega, by go_num, rfl, by rw [HPT.out]; exact H8.out⟩
        case measure => simp [intOf]; omega
    · obtain rfl : k = S.length := by omega
      have HF := hide HG.out.kept
      go_wp2_with fail
      go_ret
      rw [← hPL] at HW
      refine ⟨R, c1, by rw [hPL]; rfl, ?_⟩
      exact (by have := HW.out; rw [List.take_length] at this; exact this.elder HF.out)
end
end Go.Proofs.Ytefcjlacjafnoaa
