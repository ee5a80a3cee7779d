/- The law ArenaOne, walked: an op changes no word but its own. -/
import Derived.Test.YtgljgdnnpmaigaaLaw1
import Derived.Test.YtgljgdnnpmaigaaAfter
import Derived.Deep.DeepCutAuto
import Derived.Deep.CutBlock
import Derived.Deep.LoopGhost
namespace Go.Proofs.Ytgljgdnnpmaigaa
open Go.RowKit

section
variable {w : World} {L : Option Addr} {n cap : Nat} {K P X Y : Nat → Int}
set_option maxHeartbeats 12800000
set_option maxRecDepth 100000

theorem op_k : ∀ (k p : Int) (b : Bool) (W : World), (Instr.field 35 (.agg #[.int .i64 k, .int .i64 p, .bool b]) 0).run Try.prog W = .ok (.int .i64 k) W := fun _ _ _ _ => by kernel_rfl
theorem op_p : ∀ (k p : Int) (b : Bool) (W : World), (Instr.field 35 (.agg #[.int .i64 k, .int .i64 p, .bool b]) 1).run Try.prog W = .ok (.int .i64 p) W := fun _ _ _ _ => by kernel_rfl
theorem op_wr : ∀ (k p : Int) (b : Bool) (W : World), (Instr.field 35 (.agg #[.int .i64 k, .int .i64 p, .bool b]) 2).run Try.prog W = .ok (.bool b) W := fun _ _ _ _ => by kernel_rfl
theorem load_ops {s : St} (p : Int) : (s.load p).ops ≤ s.ops + 1 := by
  unfold St.load St.note
  split <;> simp
theorem of_ge2 {B a : Nat} {A : Option Addr} (ha : B ≤ a) (hA : ∀ g, A = some ⟨g, 0, none⟩ → B ≤ g) : ∀ i, i < B → Of a A i → Nil i := of_ge ha hA

theorem one_short (room : Int) (w : World) (hn : 60 < n ∨ 100 < room) : Calls Try.prog 5 #[.int .i64 room, .slice L n cap] w fun e w' => e = .returned (.bool true) ∧ Kept Nil w w' := by
  have Ha := hide (awake_c w)
  by_cases h1 : 60 < n
  · go_enter Try.func5, Try.ntmps5
    go_wp2_with fail
    refine Ha.out.mono ?_
    rintro e w1 ⟨rfl, k1⟩
    go_wp2_with fail
    go_ret
    exact ⟨rfl, k1⟩
  · have h2 : 100 < room := by omega
    have h3 : decide (60 < (n : Int)) = false := by simp; omega
    go_enter Try.func5, Try.ntmps5
    go_wp2_with fail
    refine Ha.out.mono ?_
    rintro e w1 ⟨rfl, k1⟩
    go_wp2_with fail
    go_ret
    exact ⟨rfl, k1⟩

theorem one_long (room : Int) (hacts : Acts w L n K P X Y) (hn : n ≤ 60) (hroom : room ≤ 100) : Calls Try.prog 5 #[.int .i64 room, .slice L n cap] w fun e w' => e = .returned (.bool true) ∧ Kept Nil w w' := by
  have h3 : decide (60 < (n : Int)) = false := by simp; omega
  have h4 : decide (100 < room) = false := by simp; omega
  have Hnew := hide (new_c room w)
  go_enter Try.func5, Try.ntmps5
  go_wp2_with fail
  refine Hnew.out.mono ?_
  rintro e w1 ⟨rfl, ha1, k1⟩
  obtain ⟨a, hae⟩ : ∃ a, a = w.heap.size + 1 := ⟨_, rfl⟩
  obtain ⟨A, hAe⟩ : ∃ A : Option Addr, A = some ⟨w.heap.size, 0, none⟩ := ⟨_, rfl⟩
  rw [← hae, ← hAe] at ha1
  rw [← hae]
  have ga : w.heap.size ≤ a := by omega
  have gA : ∀ g, A = some ⟨g, 0, none⟩ → w.heap.size ≤ g := fun g e => by rw [hAe] at e; injection e with e; injection e with e; omega
  have HG := hide (And.intro ga gA)
  have HB := hide (And.intro ha1 k1)
  clear hae hAe ha1 k1 ga gA
  go_wp2_with fail
  go_loopg [6] n (fun m i wr => ∃ (k : Nat) (s : St), k ≤ n ∧ m + k = n ∧ i = .int .i64 k ∧ ArenaAt wr a A s ∧ s.ops ≤ 2 * k ∧ Kept Nil w wr)
  case atStart => exact ⟨0, fresh room, Nat.zero_le _, rfl, rfl, HB.out.1, Nat.le_refl _, HB.out.2⟩
  case round =>
    obtain ⟨k, s, hk, hm, rfl, ha, hops, hkp⟩ := hrel
    by_cases hlt : k < n
    · obtain ⟨⟨bl, ol, sp⟩, rfl, rfl, hbl, hcells⟩ := hacts.at_ (by omega)
      obtain ⟨e0, e1, e2, e3⟩ := hcells k hlt
      have e0 : wr.cell? ⟨bl, ol + k * 4, none⟩ = some (.int .i64 (K k)) := (hkp.cell (p := ⟨bl, ol + k * 4, none⟩) hbl (fun z => z)).trans e0
      have e1 : wr.cell? ⟨bl, ol + k * 4 + 1, none⟩ = some (.int .i64 (P k)) := (hkp.cell (p := ⟨bl, ol + k * 4 + 1, none⟩) hbl (fun z => z)).trans e1
      have e2 : wr.cell? ⟨bl, ol + k * 4 + 2, none⟩ = some (.int .i64 (X k)) := (hkp.cell (p := ⟨bl, ol + k * 4 + 2, none⟩) hbl (fun z => z)).trans e2
      have e3 : wr.cell? ⟨bl, ol + k * 4 + 3, none⟩ = some (.int .i64 (Y k)) := (hkp.cell (p := ⟨bl, ol + k * 4 + 3, none⟩) hbl (fun z => z)).trans e3
      have HW := hide (words_c ha)
      clear hcells
      generalize K k = kk at e0
      generalize P k = p at e1
      generalize X k = x at e2
      generalize Y k = y at e3
      go_wp2_with fail
      refine HW.out.mono ?_
      rintro e w2 ⟨v, rfl, hv, k2⟩
      have ha2 := ha.keptNil k2
      have HO := hide (ops_c ha2)
      have e0 : w2.cell? ⟨bl, ol + k * 4, none⟩ = some (.int .i64 kk) := (k2.cell (p := ⟨bl, ol + k * 4, none⟩) (Nat.lt_of_lt_of_le hbl hkp.size) (fun z => z)).trans e0
      have e1 : w2.cell? ⟨bl, ol + k * 4 + 1, none⟩ = some (.int .i64 p) := (k2.cell (p := ⟨bl, ol + k * 4 + 1, none⟩) (Nat.lt_of_lt_of_le hbl hkp.size) (fun z => z)).trans e1
      have e2 : w2.cell? ⟨bl, ol + k * 4 + 2, none⟩ = some (.int .i64 x) := (k2.cell (p := ⟨bl, ol + k * 4 + 2, none⟩) (Nat.lt_of_lt_of_le hbl hkp.size) (fun z => z)).trans e2
      have e3 : w2.cell? ⟨bl, ol + k * 4 + 3, none⟩ = some (.int .i64 y) := (k2.cell (p := ⟨bl, ol + k * 4 + 3, none⟩) (Nat.lt_of_lt_of_le hbl hkp.size) (fun z => z)).trans e3
      go_wp2_with fail
      refine HO.out.mono ?_
      rintro e w3 ⟨rfl, rfl⟩
      have hbx0 := Is.new w2 30 #[.int .i64 kk, .int .i64 p, .int .i64 x, .int .i64 y]
      have ha40 := ha2.alloc (.cells #[.int .i64 kk, .int .i64 p, .int .i64 x, .int .i64 y] 30)
      have hv40 := hv.kept ((Kept.refl Nil w2).alloc (.cells #[.int .i64 kk, .int .i64 p, .int .i64 x, .int .i64 y] 30))
      have hkb0 : Kept Nil w (w2.alloc (.cells #[.int .i64 kk, .int .i64 p, .int .i64 x, .int .i64 y] 30)) := (hkp.trans k2 (fun _ _ z => z)).alloc _
      go_upto_block 2 with fail
      clear e0 e1 e2 e3 HW HO ha ha2 hv k2 hkp
      generalize w2.alloc (.cells #[.int .i64 kk, .int .i64 p, .int .i64 x, .int .i64 y] 30) = w4 at *
      generalize w2.heap.size = bx at *
      have HA4 := hide ha40
      have HBX := hide hbx0
      have HV := hide hv40
      have HKB := hide hkb0
      clear ha40 hbx0 hv40 hkb0
      go_cut [9] (fun s9 wc => s9 = .pointer (some ⟨bx, 0, none⟩) ∧ ∃ s' : St, ArenaAt wc a A s' ∧ Kept Nil w wc ∧ Is wc bx 30 #[.int .i64 kk, .int .i64 p, .int .i64 x, .int .i64 y] ∧ 1 ≤ kk ∧ kk ≤ 5 ∧ After s s' kk p ∧ Ints wc v s.ws)
      case first =>
        rcases (show kk = 1 ∨ kk = 2 ∨ kk = 3 ∨ kk = 4 ∨ kk = 5 ∨ kk = 0 ∨ (kk < 0 ∨ 5 < kk) by omega) with rfl | rfl | rfl | rfl | rfl | rfl | hkk
        · as_aux_lemma =>
          have HC := hide (load_c p HA4.out (by omega))
          have d0 := HBX.out.cell 0
          have d1 := HBX.out.cell 1
          have d2 := HBX.out.cell 2
          have d3 := HBX.out.cell 3
          simp at d0 d1 d2 d3
          go_wp2_with fail
          refine HC.out.mono ?_
          rintro e w5 ⟨rfl, h5, k5⟩
          go_wp2_with fail
          go_meet
          exact ⟨rfl, s.load p, h5, HKB.out.trans k5 (of_ge2 HG.out.1 HG.out.2), HBX.out.kept k5 (HA4.out.other HBX.out (by decide) (by decide)), by omega, by omega, after_load s p, HV.out.keepBut k5 (fun g cs hi => HA4.out.other hi (by decide) (by decide))⟩
        · as_aux_lemma =>
          have HC := hide (store_c p x HA4.out (by omega))
          have d0 := HBX.out.cell 0
          have d1 := HBX.out.cell 1
          have d2 := HBX.out.cell 2
          have d3 := HBX.out.cell 3
          simp at d0 d1 d2 d3
          go_wp2_with fail
          refine HC.out.mono ?_
          rintro e w5 ⟨rfl, h5, k5⟩
          go_wp2_with fail
          go_meet
          exact ⟨rfl, s.store p x, h5, HKB.out.trans k5 (of_ge2 HG.out.1 HG.out.2), HBX.out.kept k5 (HA4.out.other HBX.out (by decide) (by decide)), by omega, by omega, after_put s 2 p x, HV.out.keepBut k5 (fun g cs hi => HA4.out.other hi (by decide) (by decide))⟩
        · as_aux_lemma =>
          have HC := hide (swap_c p x HA4.out (by omega))
          have d0 := HBX.out.cell 0
          have d1 := HBX.out.cell 1
          have d2 := HBX.out.cell 2
          have d3 := HBX.out.cell 3
          simp at d0 d1 d2 d3
          go_wp2_with fail
          refine HC.out.mono ?_
          rintro e w5 ⟨rfl, h5, k5⟩
          go_wp2_with fail
          go_meet
          exact ⟨rfl, s.swap p x, h5, HKB.out.trans k5 (of_ge2 HG.out.1 HG.out.2), HBX.out.kept k5 (HA4.out.other HBX.out (by decide) (by decide)), by omega, by omega, after_put s 3 p x, HV.out.keepBut k5 (fun g cs hi => HA4.out.other hi (by decide) (by decide))⟩
        · as_aux_lemma =>
          have HC := hide (cas_c p x y HA4.out (by omega))
          have d0 := HBX.out.cell 0
          have d1 := HBX.out.cell 1
          have d2 := HBX.out.cell 2
          have d3 := HBX.out.cell 3
          simp at d0 d1 d2 d3
          go_wp2_with fail
          refine HC.out.mono ?_
          rintro e w5 ⟨rfl, h5, k5⟩
          go_wp2_with fail
          go_meet
          exact ⟨rfl, s.cas p x y, h5, HKB.out.trans k5 (of_ge2 HG.out.1 HG.out.2), HBX.out.kept k5 (HA4.out.other HBX.out (by decide) (by decide)), by omega, by omega, after_cas s p x y, HV.out.keepBut k5 (fun g cs hi => HA4.out.other hi (by decide) (by decide))⟩
        · as_aux_lemma =>
          have HC := hide (add_c p x HA4.out (by omega))
          have d0 := HBX.out.cell 0
          have d1 := HBX.out.cell 1
          have d2 := HBX.out.cell 2
          have d3 := HBX.out.cell 3
          simp at d0 d1 d2 d3
          go_wp2_with fail
          refine HC.out.mono ?_
          rintro e w5 ⟨rfl, h5, k5⟩
          go_wp2_with fail
          go_meet
          exact ⟨rfl, s.add p x, h5, HKB.out.trans k5 (of_ge2 HG.out.1 HG.out.2), HBX.out.kept k5 (HA4.out.other HBX.out (by decide) (by decide)), by omega, by omega, after_put s 5 p _, HV.out.keepBut k5 (fun g cs hi => HA4.out.other hi (by decide) (by decide))⟩
        · as_aux_lemma =>
          have HC := hide (take_any x HA4.out)
          have d0 := HBX.out.cell 0
          have d2 := HBX.out.cell 2
          simp at d0 d2
          go_wp2_with fail
          refine HC.out.mono ?_
          rintro e w5 ⟨v5, s5, rfl, h5, o5, k5⟩
          go_wp2_with fail
          go_roundg (n - (k + 1))
          case measure => omega
          case rel => exact ⟨k + 1, s5, by omega, by omega, by go_num, h5, by omega, HKB.out.trans k5 (of_ge2 HG.out.1 HG.out.2)⟩
        · as_aux_lemma =>
          have n0 : (kk == 0) = false := by simp; omega
          have n1 : (kk == 1) = false := by simp; omega
          have n2 : (kk == 2) = false := by simp; omega
          have n3 : (kk == 3) = false := by simp; omega
          have n4 : (kk == 4) = false := by simp; omega
          have n5 : (kk == 5) = false := by simp; omega
          go_wp2_with fail
          go_roundg (n - (k + 1))
          case measure => omega
          case rel => exact ⟨k + 1, s, by omega, by omega, by go_num, HA4.out, by omega, HKB.out⟩
      case rest =>
        obtain ⟨rfl, s', ha', hk', hbx', hk1, hk5, haf, hv'⟩ := hcut
        have HWs := hide (words_c ha')
        have HA' := hide ha'
        have HK' := hide hk'
        have HBX' := hide hbx'
        have HV' := hide hv'
        have HAF := hide haf
        clear ha' hk' hbx' hv' haf
        go_wp2_with fail
        refine HWs.out.mono ?_
        rintro e w6 ⟨v2, rfl, hv2, k6⟩
        have HA6 := hide (HA'.out.keptNil k6)
        have HB6 := hide (HBX'.out.kept k6 (fun z => z))
        have HK6 := hide (HK'.out.trans k6 (fun _ _ z => z))
        have hv6 := HV'.out.kept k6
        have HL := hide HAF.out.len
        obtain ⟨A1, c1, rfl, p1⟩ := hv6
        obtain ⟨A2, c2, e2, p2⟩ := hv2
        rw [HL.out] at e2 p2
        subst e2
        have P1 := hide p1
        have P2 := hide p2
        have d0 := HB6.out.cell 0
        have d1 := HB6.out.cell 1
        simp at d0 d1
        have hbd : s.ws.length ≤ 4096 := by have h1 := HA6.out.fits; have h2 := HA6.out.small; rw [HL.out] at h1; omega
        clear p1 p2 k6
        go_upto_region 23 with fail
        go_cut [11] (fun s11 wx => s11 = .bool (s.has p) ∧ w6 = wx)
        case first =>
          by_cases hq : 1 ≤ p
          · go_wp2_with fail
            go_meet
            exact ⟨by simp [St.has, hq], rfl⟩
          · have hq2 : decide (1 ≤ p) = false := by simpa using hq
            go_wp2_with fail
            go_meet
            exact ⟨by simp [St.has]; omega, rfl⟩
        case rest =>
        obtain ⟨rfl, rfl⟩ := hcut
        cases hp : s.has p with
        | true => as_aux_lemma =>
          have hb := has_true hp
          have HY := hide (HAF.out.yes hp)
          have ho := ops_c HA6.out
          rw [show ((s'.ops : Nat) : Int) = (s.ops : Int) + 1 by rw [HY.out.1]; omega] at ho
          have HO := hide ho
          clear ho hp
          go_wp2_with fail
          refine HO.out.mono ?_
          rintro e w7 ⟨rfl, rfl⟩
          go_wp2_with fail
          go_loopw [12] (fun i wr => ∃ j : Nat, j ≤ s.ws.length ∧ i = .int .i64 j ∧ Kept Nil w6 wr) (fun i _ => s.ws.length - (intOf i).toNat)
          case atStart => exact ⟨0, Nat.zero_le _, rfl, Kept.refl _ _⟩
          case round =>
            obtain ⟨j, hj, rfl, hkr⟩ := hrel
            by_cases hjl : j < s.ws.length
            · obtain ⟨g1, cs1, rfl, i1, q1⟩ := P1.out (by omega)
              obtain ⟨g2, cs2, rfl, i2, q2⟩ := P2.out (by omega)
              have CELLS0 := hide fun (W : World) (k : Kept Nil w6 W) => (And.intro (((i1.kept k (fun z => z)).cell j).trans (q1 j hjl)) (And.intro (((i2.kept k (fun z => z)).cell j).trans (q2 j hjl)) ((HB6.out.kept k (fun z => z)).cell 1)))
              obtain ⟨z1, hz1⟩ : ∃ z1, s.ws.getD j 0 = z1 := ⟨_, rfl⟩
              obtain ⟨z2, hz2⟩ : ∃ z2, s'.ws.getD j 0 = z2 := ⟨_, rfl⟩
              rw [hz1, hz2] at CELLS0
              have CELLS := CELLS0
              clear CELLS0 q1 q2
              have c1 := (CELLS.out wr hkr).1
              have c2 := (CELLS.out wr hkr).2.1
              by_cases hz : z2 = z1
              · as_aux_lemma =>
                subst hz
                have HK := hide hkr
                clear hkr hz1 hz2
                go_wp2_with fail
                go_quiet (fail)
                go_wp2_with fail
                go_roundw
                case rel => exact ⟨j + 1, by omega, by go_num, HK.out.drewN _⟩
                case measure => simp [intOf]; omega
              · as_aux_lemma =>
                obtain ⟨hjp, hwr⟩ := HY.out.2.2.2 j (by rw [hz2, hz1]; exact hz)
                have hT := hide fun (W : World) (k : Kept Nil w6 W) => ((last_c (HA6.out.keptNil k)).mono (R' := fun e w' => e = .returned (.agg #[.int .i64 s'.k, .int .i64 s'.p, .bool true]) ∧ Kept Nil w6 w') (fun e w' ⟨h1, h3⟩ => ⟨by rw [h1, hwr], k.trans h3 (fun _ _ x => x)⟩))
                have b1 : (z2 != z1) = true := by simpa using hz
                have b2 : (((j : Nat) : Int) + 1 != p) = false := by simpa using hjp
                have hK1 : Kept Nil w6 wr.drew := hkr.drew
                have HK := hide hkr
                have b3 := hide (show IntKind.i64.wrap (((j : Nat) : Int) + 1) = ((j : Nat) : Int) + 1 from IntWalk.i64_in _ (by omega))
                clear hkr hz hjp hwr hz1 hz2
                go_wp2_with fail
                have b4 := b3.out
                have f2 := op_wr
                go_region_held3 (fun W => W.cell? ⟨g1, j, none⟩ = some (.int .i64 z1) ∧ W.cell? ⟨g2, j, none⟩ = some (.int .i64 z2) ∧ W.cell? ⟨bx, 1, none⟩ = some (.int .i64 p))
                  (first | exact CELLS.out _ (by assumption) | exact CELLS.out _ (Kept.drew (by assumption)))
                  (first
                    | (go_at_call 14; refine (hT.out _ (by assumption)).mono ?_; rintro e w8 ⟨rfl, hk8⟩))
                all_goals clear b4 f2
                all_goals go_wp2_with fail
                all_goals go_roundw
                case rel => exact ⟨j + 1, by omega, by go_num, by assumption⟩
                case measure => simp [intOf]; omega
            · as_aux_lemma =>
              obtain rfl : j = s.ws.length := by omega
              have HK := hide hkr
              clear hkr
              obtain ⟨g2, cs2, rfl, i2, q2⟩ := P2.out (by omega)
              have q2 := q2 (p.toNat - 1) (by omega)
              have hget : s'.ws.getD (p.toNat - 1) 0 = s'.get p := by
                have : s'.has p = true := by unfold St.has; rw [HL.out]; exact decide_eq_true hb
                unfold St.get
                rw [if_pos this]
              rw [hget] at q2
              have n2 := HA6.out.other i2 (by decide) (by decide)
              have nb := HA6.out.other HB6.out (by decide) (by decide)
              have CELLS := hide fun (W : World) (k : Kept (Of a A) w6 W) => (And.intro (((i2.kept k n2).cell (p.toNat - 1)).trans q2) (And.intro ((HB6.out.kept k nb).cell 0) ((HB6.out.kept k nb).cell 1)))
              have hT := hide fun (W : World) (h : ArenaAt W a A s') (k : Kept (Of a A) w6 W) => ((last_c h).mono (R' := fun e w' => e = .returned (.agg #[.int .i64 kk, .int .i64 p, .bool s'.wr]) ∧ ArenaAt w' a A s' ∧ Kept (Of a A) w6 w') (fun e w' ⟨h1, h3⟩ => ⟨by rw [h1, HY.out.2.2.1, HY.out.2.1], h.keptNil h3, k.trans h3 (fun _ _ x => x.elim)⟩))
              have hLd := hide fun (W : World) (h : ArenaAt W a A s') (k : Kept (Of a A) w6 W) => ((load_c p h (by rw [HY.out.1]; omega)).mono (R' := fun e w' => e = .returned (.int .i64 (s'.get p)) ∧ ArenaAt w' a A (s'.load p) ∧ Kept (Of a A) w6 w') (fun e w' ⟨h1, h2, h3⟩ => ⟨h1, h2, k.trans h3 (fun _ _ x => x)⟩))
              have hK1 : Kept (Of a A) w6 wr.drew := (HK.out.drew).more (fun _ _ z => z.elim)
              have hA1 : ArenaAt wr.drew a A s' := HA6.out.keptNil HK.out.drew
              have b3 := hide (And.intro (show IntKind.i64.wrap (p - 1) = p - 1 from IntWalk.i64_in _ (by omega)) (And.intro (show 0 ≤ p - 1 by omega) (And.intro (show (p - 1).toNat = p.toNat - 1 by omega) (show p - 1 < (s.ws.length : Int) by omega))))
              clear i2 q2 hget n2 nb
              go_wp2_with fail
              obtain ⟨b4, b5, b6, b7⟩ := b3.out
              have f0 := op_k
              have f1 := op_p
              go_region_held3 (fun W => W.cell? ⟨g2, p.toNat - 1, none⟩ = some (.int .i64 (s'.get p)) ∧ W.cell? ⟨bx, 0, none⟩ = some (.int .i64 kk) ∧ W.cell? ⟨bx, 1, none⟩ = some (.int .i64 p))
                (first | exact CELLS.out _ (by assumption) | exact CELLS.out _ (Kept.drew (by assumption)))
                (first
                  | (go_at_call 14; refine (hT.out _ (by assumption) (by assumption)).mono ?_; rintro e w8 ⟨rfl, ha8, hk8⟩)
                  | (go_at_call 16; refine (hLd.out _ (by assumption) (by assumption)).mono ?_; rintro e w9 ⟨rfl, ha9, hk9⟩))
              all_goals clear b4 b5 b6 b7 f0 f1
              all_goals go_wp2_with fail
              all_goals go_roundg (n - (k + 1))
              case measure => omega
              case rel => exact ⟨k + 1, s'.load p, by omega, by omega, by go_num, by assumption, by have := load_ops (s := s') p; rw [HY.out.1] at this; omega, HK6.out.trans (by assumption) (of_ge2 HG.out.1 HG.out.2)⟩
        | false => as_aux_lemma =>
          have HY := hide (HAF.out.no hp)
          have ho := ops_c HA6.out
          rw [HY.out.1] at ho
          have HO := hide ho
          have b1 : ((s.ops : Int) == (s.ops : Int) + 1) = false := beq_eq_false_iff_ne.2 (by omega)
          clear ho hp
          go_wp2_with fail
          refine HO.out.mono ?_
          rintro e w7 ⟨rfl, rfl⟩
          go_wp2_with fail
          refine HO.out.mono ?_
          rintro e w7 ⟨rfl, rfl⟩
          go_wp2_with fail
          go_loopw [12] (fun i wr => ∃ j : Nat, j ≤ s.ws.length ∧ i = .int .i64 j ∧ Kept Nil w6 wr) (fun i _ => s.ws.length - (intOf i).toNat)
          case atStart => exact ⟨0, Nat.zero_le _, rfl, Kept.refl _ _⟩
          case round =>
            obtain ⟨j, hj, rfl, hkr⟩ := hrel
            by_cases hjl : j < s.ws.length
            · obtain ⟨g1, cs1, rfl, i1, q1⟩ := P1.out (by omega)
              obtain ⟨g2, cs2, rfl, i2, q2⟩ := P2.out (by omega)
              have CELLS0 := hide fun (W : World) (k : Kept Nil w6 W) => (And.intro (((i1.kept k (fun z => z)).cell j).trans (q1 j hjl)) (And.intro (((i2.kept k (fun z => z)).cell j).trans (q2 j hjl)) ((HB6.out.kept k (fun z => z)).cell 1)))
              obtain ⟨z1, hz1⟩ : ∃ z1, s.ws.getD j 0 = z1 := ⟨_, rfl⟩
              obtain ⟨z2, hz2⟩ : ∃ z2, s'.ws.getD j 0 = z2 := ⟨_, rfl⟩
              rw [hz1, hz2] at CELLS0
              have CELLS := CELLS0
              clear CELLS0 q1 q2
              have c1 := (CELLS.out wr hkr).1
              have c2 := (CELLS.out wr hkr).2.1
              by_cases hz : z2 = z1
              · as_aux_lemma =>
                subst hz
                have HK := hide hkr
                clear hkr hz1 hz2
                go_wp2_with fail
                go_quiet (fail)
                go_wp2_with fail
                go_roundw
                case rel => exact ⟨j + 1, by omega, by go_num, HK.out.drewN _⟩
                case measure => simp [intOf]; omega
              · exact absurd (by rw [← hz1, ← hz2, HY.out.2]) hz
            · as_aux_lemma =>
              obtain rfl : j = s.ws.length := by omega
              have HK := hide hkr
              clear hkr
              go_wp2_with fail
              go_quiet (fail)
              go_wp2_with fail
              go_roundg (n - (k + 1))
              case measure => omega
              case rel => exact ⟨k + 1, s', by omega, by omega, by go_num, HA6.out.keptNil (HK.out.drewN _), by rw [HY.out.1]; omega, HK6.out.trans (HK.out.drewN _) (fun _ _ z => z)⟩
    · obtain rfl : k = n := by omega
      go_wp2_with fail
      refine (awake_c wr).mono ?_
      rintro e w3 ⟨rfl, k3⟩
      go_wp2_with fail
      go_ret
      exact ⟨rfl, hkp.trans k3 (fun _ _ z => z)⟩
end
end Go.Proofs.Ytgljgdnnpmaigaa
