/- Of. -/
import Derived.Test.YtefcjlacjafnoaaBFrom
import Derived.Deep.AppendLies
import Derived.Deep.RegionHeld3
namespace Go.Proofs.Ytefcjlacjafnoaa
open Go.RowKit
set_option maxRecDepth 100000

/-- What Of hands back. -/
def Pfd (w : World) (L : List Ps) (e : Ending) (w' : World) : Prop := ∃ A c, e = .returned (.slice A L.length c) ∧ Gw 27 2 w w' A c L.length (pcells L)
section
variable {w0 w w1 w' : World} {v0 v : Value} {N : List Int} {l : List Ev}
theorem Gw.elder {e : TypeId} {sz n c : Nat} {w0 w1 w : World} {A : Option Addr} {xs : List Value} (h : Gw e sz w1 w A c n xs) (k : Kept Nil w0 w1) : Gw e sz w0 w A c n xs := ⟨h.row, k.trans h.kept (fun _ _ z => z), fun g hg => Nat.le_trans k.size (h.own g hg)⟩
/-- What is known as Of's second loop begins: the counter was told of all, and what is counted ahead of each event lies in a block. -/
structure Hb (w0 w : World) (ba bn bb bt g : Nat) (v0 : Value) (N : List Int) (l : List Ev) : Prop where
  cn : Cn w0 w ba bn bb bt v0 N l
  row : Is w g 27 (pcells (ahl N l l.length)).toArray
theorem Hb.keep {ba bn bb bt g : Nat} (h : Hb w0 w ba bn bb bt g v0 N l) (k : Kept Nil w w') : Hb w0 w' ba bn bb bt g v0 N l := ⟨h.cn.keep k, h.row.kept k (fun z => z)⟩
theorem pass_zeros (n : Nat) : madeCells #[Value.int .i64 0, Value.int .i64 0] (n * 2) = (pcells (List.replicate n p0)).toArray := by
  unfold madeCells
  apply Array.ext'
  rw [show (pcells (List.replicate n p0)).toArray.toList = pcells (List.replicate n p0) by simp, pcells_zeros]
  apply List.ext_getElem
  · simp
  · intro i h1 h2
    simp
    have : i % 2 < 2 := Nat.mod_lt _ (by decide)
    rcases Nat.lt_or_ge (i % 2) 1 with e | e
    · have : i % 2 = 0 := by omega
      simp [this]
    · have : i % 2 = 1 := by omega
      simp [this]
theorem make_passes (n : Nat) (hn : n ≤ 65536) (w : World) : (Instr.makeSlice 33 (.int .i64 (n : Int)) (.int .i64 (n : Int))).run Try.prog w = .ok (.slice (some ⟨w.heap.size, 0, none⟩) n n) (w.alloc (.cells (pcells (List.replicate n p0)).toArray 27)) := by
  obtain ⟨i0, hi, hz0, hz1, hz2⟩ := info_parts info_pass
  have h := run_make (P := Try.prog) w 33 27 i0 _ Try.underlying33 hi hz0 .i64 .i64 n n (by omega) (Int.le_refl _) (by rw [hz2]; omega) (by omega)
  rw [hz1, Int.toNat_natCast] at h
  rw [← pass_zeros]
  exact h
-- BOF
set_option maxHeartbeats 4000000
theorem bof_c (hn : Nums w v0 N) (wn : Nwf N) (hv : Evs w v l) (hw : Ywf l) (hl : l.length ≤ 65536) : Calls Try.prog 10 #[v0, v] w (Pfd w (pof N l)) := by
  obtain ⟨i0, hi0, hz0, hz1, hz2⟩ := info_parts info_pass
  have CC := hide (counter_c hn wn)
  have CO := hide fun W (z : Kept Nil w W) => of_c (hv.kept z) hw hl
  have HGD := hide fun k (z : k < (yof l).length) => ygd_at (l := l) z
  have HSL : (yof l).length ≤ 65536 := Nat.le_trans yof_len hl
  have hmk := make_passes l.length hl
  obtain ⟨A0, c0, rfl, _⟩ := hn
  obtain ⟨A, c, rfl, _, hp⟩ := hv
  have HP := hide hp
  clear hp
  go_enter Try.func10, Try.ntmps10
  go_wp2_with fail
  refine CC.out.mono ?_
  rintro e w2 ⟨ba, bn, bb, bt, rfl, hc⟩
  unfold tellV othersV
  have HGA : Hid (w.heap.size ≤ w2.heap.size) := hide hc.kept.size
  have HC := hide (And.intro (hc.keep ((Kept.refl Nil w2).alloc (.cells (pcells (List.replicate l.length p0)).toArray 27))) (Is.new w2 27 (pcells (List.replicate l.length p0)).toArray))
  clear hc CC
  go_wp2_with fail
  generalize w2.heap.size = ga at *
  go_loopw [24] (fun v24 wr => ∃ k : Nat, k ≤ l.length ∧ v24 = .int .i64 k ∧ Cn w wr ba bn bb bt (.slice A0 N.length c0) N (l.take k) ∧ Is wr ga 27 (pcells (ahl N l k)).toArray) (fun i _ => l.length - (intOf i).toNat)
  case atStart => exact ⟨0, Nat.zero_le _, rfl, HC.out.1, by rw [ahl_zero]; exact HC.out.2⟩
  case round =>
    obtain ⟨k, hk, rfl, hcn, hrow⟩ := hrel
    have HN := hide (And.intro hcn hrow)
    clear hcn hrow HC hmk
    by_cases hlt : k < l.length
    · obtain ⟨g1, o1, rfl, hg1, hce⟩ := HP.out (by omega)
      obtain ⟨f1, f2, f3, f4⟩ := (hce k hlt).kept hg1 HN.out.1.kept
      have hwk := hw k hlt
      have hln : (l.take k).length ≤ 65536 := by rw [List.length_take]; omega
      have HT := hide (ev_take hlt)
      have HR := hide (ahl_set (N := N) (l := l) (k := k))
      have hdef : ahd N l k = cth N (l.getD k e0).t (l.take k) := rfl
      have hlen : (ahl N l k).length = l.length := ahl_len
      clear hce hg1
      generalize ahd N l k = r at *
      generalize l.getD k e0 = ev at *
      obtain ⟨wb, hwb⟩ : ∃ wb, wr.alloc (.cells #[.int .i64 ev.k, .int .i64 ev.t, .bool ev.r, .int .i64 ev.c] 36) = wb := ⟨_, rfl⟩
      have kb : Kept Nil wr wb := by rw [← hwb]; exact (Kept.refl Nil wr).alloc _
      have ib : Is wb wr.heap.size 36 #[.int .i64 ev.k, .int .i64 ev.t, .bool ev.r, .int .i64 ev.c] := by rw [← hwb]; exact Is.new wr _ _
      have CO2 := hide (others_c (th := ev.t) (HN.out.1.keep kb) hwk hln)
      rw [← hdef] at CO2
      have HB := hide (And.intro ib (And.intro (HN.out.1.keep kb) (HN.out.2.kept kb (fun z => z))))
      have CT := hide fun W (z : Cn w W ba bn bb bt (.slice A0 N.length c0) N (l.take k)) => tell_c z hwk hln
      clear kb ib hdef hwk hln
      obtain ⟨ek, et, er, ec⟩ := ev
      have f1 : wr.cell? ⟨g1, o1 + k * 4, none⟩ = some (.int .i64 ek) := f1
      have f2 : wr.cell? ⟨g1, o1 + k * 4 + 1, none⟩ = some (.int .i64 et) := f2
      have f3 : wr.cell? ⟨g1, o1 + k * 4 + 2, none⟩ = some (.bool er) := f3
      have f4 : wr.cell? ⟨g1, o1 + k * 4 + 3, none⟩ = some (.int .i64 ec) := f4
      have b1 : wb.cell? ⟨wr.heap.size, 1, none⟩ = some (.int .i64 et) := HB.out.1.cell 1
      obtain ⟨rs, ro⟩ := r
      unfold psv at CO2
      have CO2 : Hid (Calls Try.prog 25 #[.int .i64 et, .pointer (some ⟨bn, 0, none⟩), .pointer (some ⟨bb, 0, none⟩), .pointer (some ⟨bt, 0, none⟩), .pointer (some ⟨ba, 0, none⟩)] wb fun x w' => x = .returned (.agg #[.int .i64 rs, .int .i64 ro]) ∧ Kept Nil wb w') := CO2
      go_wp2_with fail
      refine CO2.out.mono ?_
      rintro e w3 ⟨rfl, hk3⟩
      have hk4 : k < (ahl N l k).length := by rw [hlen]; exact hlt
      have i3 := HB.out.2.2.kept hk3 (fun z => z)
      obtain ⟨t1, t2⟩ := i3.two hk4
      obtain ⟨w4, hw4⟩ : ∃ w4, w3.setCell ⟨ga, k * 2, none⟩ (.int .i64 rs) = w4 := ⟨_, rfl⟩
      obtain ⟨w5, hw5⟩ : ∃ w5, w4.setCell ⟨ga, k * 2 + 1, none⟩ (.int .i64 ro) = w5 := ⟨_, rfl⟩
      have z1 := i3.free (k * 2)
      have i5 := i3.lay (r := ⟨rs, ro⟩) hk4
      rw [show (w3.setCell ⟨ga, k * 2, none⟩ (.int .i64 (⟨rs, ro⟩ : Ps).s)).setCell ⟨ga, k * 2 + 1, none⟩ (.int .i64 (⟨rs, ro⟩ : Ps).o) = w5 by rw [← hw5, ← hw4], HR.out] at i5
      have k5 : Kept (fun i => i = ga) w3 w5 := by
        rw [← hw5, ← hw4]
        exact ((Kept.refl (fun i => i = ga) w3).set (p := ⟨ga, k * 2, none⟩) (fun _ => rfl) _).set (p := ⟨ga, k * 2 + 1, none⟩) (fun _ => rfl) _
      have z2 : w4.frozen? ⟨ga, k * 2 + 1, none⟩ = false := by rw [← hw4]; exact (i3.set _ _).free _
      have t3 : w4.cell? ⟨ga, k * 2 + 1, none⟩ = some (.int .i64 ((ahl N l k).getD k p0).o) := by rw [← hw4]; rw [(i3.set (k * 2) (.int .i64 rs)).cell, Array.getElem?_setIfInBounds, if_neg (by omega), ← i3.cell]; exact t2
      have e5 := HB.out.1.kept hk3 (fun z => z)
      have ne : wr.heap.size ≠ ga := e5.ne i3 (by decide)
      have e5 := e5.kept k5 ne
      have c5 := (HB.out.2.1.keep hk3).beside i3 k5 HGA.out
      have q0 : w5.cell? ⟨wr.heap.size, 0, none⟩ = some (.int .i64 ek) := e5.cell 0
      have q1 : w5.cell? ⟨wr.heap.size, 1, none⟩ = some (.int .i64 et) := e5.cell 1
      have q2 : w5.cell? ⟨wr.heap.size, 2, none⟩ = some (.bool er) := e5.cell 2
      have q3 : w5.cell? ⟨wr.heap.size, 3, none⟩ = some (.int .i64 ec) := e5.cell 3
      have CT2 := hide (CT.out _ c5)
      have HNE := hide (c5.ne i5 (by decide))
      have HI5 := hide i5
      clear i3 i5 k5 e5 c5 ne hk3 hk4 hlen t2 CO2 CT HB f1 f2 f3 f4 b1
      generalize ((ahl N l k).getD k p0).s = y1 at *
      generalize ((ahl N l k).getD k p0).o = y2 at *
      go_wp2_with fail
      refine CT2.out.mono ?_
      rintro e w6 ⟨rfl, h6, ho6⟩
      have H6 := hide (And.intro h6 (ho6 _ _ _ HNE.out HI5.out))
      clear h6 ho6 CT2 q0 q1 q2 q3
      go_wp2_with fail
      go_roundw
      case rel => exact ⟨k + 1, by omega, by go_num, by rw [HT.out]; exact H6.out.1, H6.out.2⟩
      case measure => simp [intOf]; omega
    · obtain rfl : k = l.length := by omega
      have HB : Hid (Hb w wr ba bn bb bt ga (.slice A0 N.length c0) N l) := hide ⟨by have := HN.out.1; rwa [List.take_length] at this, HN.out.2⟩
      have CO2 := hide (CO.out wr HN.out.1.kept)
      clear HN CO HP
      go_wp2_with fail
      refine CO2.out.mono ?_
      rintro e w3 ⟨A2, c2, rfl, hg3⟩
      have HG := hide hg3
      have HB3 := hide (HB.out.keep hg3.kept)
      clear hg3 CO2 HB
      generalize hS : yof l = S at *
      have hPL : (pof N l).length = S.length := by rw [pof_len, hS]
      have HPA := hide fun k (z : k < S.length) => show (pof N l).getD k p0 = pst N l (S.getD k s0) by rw [← hS]; exact pof_at (by rw [hS]; exact z)
      clear hS
      go_wp2_with fail
      go_loopw [10, 43] (fun v10 v43 wr => ∃ (k : Nat) (R : Option Addr) (c1 : Nat), k ≤ S.length ∧ v43 = .int .i64 k ∧ v10 = .slice R k c1 ∧ Gw 27 2 w3 wr R c1 k (pcells ((pof N l).take k))) (fun _ i _ => S.length - (intOf i).toNat)
      case atStart => exact ⟨0, none, 0, Nat.zero_le _, rfl, rfl, Gw.start _ _ _⟩
      case round =>
        obtain ⟨k, R, c1, hk, rfl, rfl, hgw⟩ := hrel
        have HW := hide hgw
        clear hgw
        by_cases hlt : k < S.length
        · obtain ⟨g, rfl, hgl, _, hlc, h7, _⟩ := (HG.out.keep HW.out.kept).at7 hlt
          have hgd := HGD.out k hlt
          have HPK := HPA.out k hlt
          have hPT := ps_take (L := pof N l) (k := k) (by rw [hPL]; exact hlt)
          rw [HPK] at hPT
          clear HPK
          generalize S.getD k s0 = s at *
          obtain ⟨z, hz⟩ : ∃ z, z = yto l.length s := ⟨_, rfl⟩
          obtain ⟨e1, e2, e3, e4⟩ := pst_S (N := N) hgd hz
          obtain ⟨⟨a1, a2, a3, a4⟩, hen, _, _⟩ := hgd
          have hwt : (Lit.int .i64 s.t).wf = true := by rw [← a4]; exact hw _ (by omega)
          obtain ⟨c0', c1', c2', c3', c4', c5', c6'⟩ := h7
          obtain ⟨st, sr, sa, se, sx, sz, sc⟩ := s
          obtain ⟨na, hna⟩ : ∃ na : Nat, sa = na := ⟨sa.toNat, by have a1 : 0 ≤ sa := a1; omega⟩
          subst hna
          have a2 : (na : Int) < l.length := a2
          have hnl : na < l.length := by omega
          have a4 : (l.getD na e0).t = st := a4
          obtain ⟨as_, has⟩ : ∃ x : Int, x = ((l.take na).countP (psS N st) : Nat) := ⟨_, rfl⟩
          obtain ⟨ao, hao⟩ : ∃ x : Int, x = ((l.take na).countP (psO N st) : Nat) := ⟨_, rfl⟩
          obtain ⟨zs, hzs⟩ : ∃ x : Int, x = ((l.take z.toNat).countP (psS N st) : Nat) := ⟨_, rfl⟩
          obtain ⟨zo, hzo⟩ : ∃ x : Int, x = ((l.take z.toNat).countP (psO N st) : Nat) := ⟨_, rfl⟩
          have e1 : as_ + (pst N l ⟨st, sr, na, se, sx, sz, sc⟩).s = zs := by rw [has, hzs]; exact e1
          have e2 : ao + (pst N l ⟨st, sr, na, se, sx, sz, sc⟩).o = zo := by rw [hao, hzo]; exact e2
          have bs1 := cnt_le (P := l.take na) (p := psS N st)
          have bs2 := cnt_le (P := l.take na) (p := psO N st)
          have bs3 := cnt_le (P := l.take z.toNat) (p := psS N st)
          have bs4 := cnt_le (P := l.take z.toNat) (p := psO N st)
          have bl1 : (l.take na).length ≤ l.length := by rw [List.length_take]; omega
          have bl2 : (l.take z.toNat).length ≤ l.length := by rw [List.length_take]; omega
          have HPT : Hid (pcells ((pof N l).take (k + 1)) = pcells ((pof N l).take k) ++ [.int .i64 (zs - as_), .int .i64 (zo - ao)]) := hide (by
            rw [hPT, pcells_snoc, show zs - as_ = (pst N l ⟨st, sr, na, se, sx, sz, sc⟩).s by omega, show zo - ao = (pst N l ⟨st, sr, na, se, sx, sz, sc⟩).o by omega])
          have HSI : Hid (∀ W, Calls Try.prog 20 #[.agg #[.int .i64 as_, .int .i64 ao], .agg #[.int .i64 zs, .int .i64 zo]] W fun e w' => e = .returned (.agg #[.int .i64 (zs - as_), .int .i64 (zo - ao)]) ∧ Kept Nil W w') := hide fun W => since_c W as_ ao zs zo (by omega) (by omega)
          have hah : ∀ i, i < l.length → (l.getD i e0).t = st → (ahl N l l.length).getD i p0 = cth N st (l.take i) := fun i hi ht => by
            rw [ahl_at hi, if_pos hi]
            unfold ahd
            rw [ht]
          have HAH := hide hah
          clear hah hPT e1 e2 bs1 bs2 bs3 bs4 bl1 bl2
          have c0' : wr.cell? ⟨g, k * 7, none⟩ = some (.int .i64 st) := c0'
          have c1' : wr.cell? ⟨g, k * 7 + 1, none⟩ = some (.bool sr) := c1'
          have c2' : wr.cell? ⟨g, k * 7 + 2, none⟩ = some (.int .i64 na) := c2'
          have c3' : wr.cell? ⟨g, k * 7 + 3, none⟩ = some (.int .i64 se) := c3'
          have c4' : wr.cell? ⟨g, k * 7 + 4, none⟩ = some (.int .i64 sx) := c4'
          have c5' : wr.cell? ⟨g, k * 7 + 5, none⟩ = some (.int .i64 sz) := c5'
          have c6' : wr.cell? ⟨g, k * 7 + 6, none⟩ = some (.int .i64 sc) := c6'
          obtain ⟨b12, hb12⟩ : ∃ b, wr.heap.size = b := ⟨_, rfl⟩
          obtain ⟨wb, hwb⟩ : ∃ wb, wr.alloc (.cells #[.int .i64 st, .bool sr, .int .i64 na, .int .i64 se, .int .i64 sx, .int .i64 sz, .int .i64 sc] 50) = wb := ⟨_, rfl⟩
          have kb : Kept Nil wr wb := by rw [← hwb]; exact (Kept.refl Nil wr).alloc _
          have ib : Is wb b12 50 #[.int .i64 st, .bool sr, .int .i64 na, .int .i64 se, .int .i64 sx, .int .i64 sz, .int .i64 sc] := by rw [← hwb, ← hb12]; exact Is.new wr _ _
          have HBI := hide (HB3.out.keep (HW.out.kept.trans kb (fun _ _ z => z)))
          have CO2 := hide (others_c (th := st) HBI.out.cn hwt hl)
          have m0 : wb.cell? ⟨b12, 0, none⟩ = some (.int .i64 st) := ib.cell 0
          have HKB := hide (And.intro kb ib)
          have HG1 := hide (HW.out.keep kb)
          clear kb ib
          obtain ⟨us, hus⟩ : ∃ x : Int, x = (l.countP (psS N st) : Nat) := ⟨_, rfl⟩
          obtain ⟨uo, huo⟩ : ∃ x : Int, x = (l.countP (psO N st) : Nat) := ⟨_, rfl⟩
          have CO2 : Hid (Calls Try.prog 25 #[.int .i64 st, .pointer (some ⟨bn, 0, none⟩), .pointer (some ⟨bb, 0, none⟩), .pointer (some ⟨bt, 0, none⟩), .pointer (some ⟨ba, 0, none⟩)] wb fun x w' => x = .returned (.agg #[.int .i64 us, .int .i64 uo]) ∧ Kept Nil wb w') := by rw [hus, huo]; exact CO2
          go_wp2_with fail
          refine CO2.out.mono ?_
          rintro e w4 ⟨rfl, hk4⟩
          obtain ⟨b13, hb13⟩ : ∃ b, w4.heap.size = b := ⟨_, rfl⟩
          obtain ⟨w5, hw5⟩ : ∃ w5, w4.alloc (.cells #[.int .i64 us, .int .i64 uo] 27) = w5 := ⟨_, rfl⟩
          have k5 : Kept Nil wb w5 := by rw [← hw5]; exact hk4.alloc _
          have i5 : Is w5 b13 27 #[.int .i64 us, .int .i64 uo] := by rw [← hw5, ← hb13]; exact Is.new w4 _ _
          have j5 := HKB.out.2.kept k5 (fun z => z)
          have HB5 := hide (HBI.out.keep k5)
          have HG5 := hide (HG1.out.keep k5)
          have m2 : w5.cell? ⟨b12, 2, none⟩ = some (.int .i64 na) := j5.cell 2
          have m3 : w5.cell? ⟨b12, 3, none⟩ = some (.int .i64 se) := j5.cell 3
          have hnR : ¬ In R b12 ∧ ¬ In R b13 ∧ ¬ In R ga := by
            refine ⟨fun z => ?_, fun z => ?_, fun z => ?_⟩
            · obtain ⟨cur, hc⟩ := HW.out.block z
              have := hc.lt
              omega
            · obtain ⟨cur, hc⟩ := HW.out.block z
              have h1 := hc.lt
              have h2 := HKB.out.1.size
              have h3 := hk4.size
              omega
            · have h1 := HW.out.own _ z
              have h2 := HB3.out.row.lt
              omega
          have nb : b13 ≠ ga := by
            have h2 := HB3.out.row.lt
            have h3 := HW.out.kept.size
            have h4 := HKB.out.1.size
            have h5 := hk4.size
            omega
          have hge : w3.heap.size ≤ b13 := by
            have h3 := HW.out.kept.size
            have h4 := HKB.out.1.size
            have h5 := hk4.size
            omega
          have HNR := hide (And.intro hnR nb)
          clear hk4 CO2 c0' c1' c2' c3' c4' c5' c6' m0 hwt
          have hla : (ahl N l l.length).length = l.length := ahl_len
          obtain ⟨ta1, ta2⟩ := HB5.out.row.two (k := na) (by rw [hla]; exact hnl)
          rw [HAH.out na hnl a4] at ta1 ta2
          have ta3 : w5.cell? ⟨ga, na * 2, none⟩ = some (.int .i64 as_) := by rw [has]; exact ta1
          have ta4 : w5.cell? ⟨ga, na * 2 + 1, none⟩ = some (.int .i64 ao) := by rw [hao]; exact ta2
          clear ta1 ta2
          by_cases h0 : 0 ≤ se
          · obtain ⟨ne, rfl⟩ : ∃ ne : Nat, se = ne := ⟨se.toNat, by omega⟩
            have hzn : z = (ne : Int) := by rw [hz]; unfold yto; rw [if_neg (show ¬ (ne : Int) < 0 by omega)]
            have hen2 : (na : Int) < (ne : Int) ∧ (ne : Int) < l.length ∧ (l.getD ne e0).k = 2 ∧ (l.getD ne e0).t = st := by
              rcases hen with h | h
              · exact absurd h (by show ¬ (ne : Int) = -1; omega)
              · exact h
            have hel : ne < l.length := by omega
            obtain ⟨te1, te2⟩ := HB5.out.row.two (k := ne) (by rw [hla]; exact hel)
            rw [HAH.out ne hel hen2.2.2.2] at te1 te2
            have te3 : w5.cell? ⟨ga, ne * 2, none⟩ = some (.int .i64 zs) := by rw [hzs, hzn]; exact te1
            have te4 : w5.cell? ⟨ga, ne * 2 + 1, none⟩ = some (.int .i64 zo) := by rw [hzo, hzn]; exact te2
            clear te1 te2
            obtain ⟨w6, hw6⟩ : ∃ w6, w5.setCell ⟨b13, 0, none⟩ (.int .i64 zs) = w6 := ⟨_, rfl⟩
            obtain ⟨wz, hwz⟩ : ∃ wz, w6.setCell ⟨b13, 1, none⟩ (.int .i64 zo) = wz := ⟨_, rfl⟩
            have i6 : Is w6 b13 27 #[.int .i64 zs, .int .i64 uo] := by rw [← hw6]; exact i5.set 0 _
            have iz : Is wz b13 27 #[.int .i64 zs, .int .i64 zo] := by rw [← hwz]; exact i6.set 1 _
            have kz : Kept (fun i => i = b13) w5 wz := by
              rw [← hwz, ← hw6]
              exact ((Kept.refl (fun i => i = b13) w5).set (p := ⟨b13, 0, none⟩) (fun _ => rfl) _).set (p := ⟨b13, 1, none⟩) (fun _ => rfl) _
            have d0 := i5.cell 0
            have d1 := i5.free 0
            have d2 : w6.cell? ⟨b13, 1, none⟩ = some (.int .i64 uo) := i6.cell 1
            have d3 := i6.free 1
            have d0 : w5.cell? ⟨b13, 0, none⟩ = some (.int .i64 us) := d0
            have HG2 : Hid (Gw 27 2 w3 wz R c1 k (pcells ((pof N l).take k))) := hide ⟨owns_keep HG5.out.row kz (fun i hi z => HNR.out.1.2.1 (by rw [← z]; exact hi)), HG5.out.kept.trans kz (fun i hi z => absurd hi (by omega)), HG5.out.own⟩
            have jz := j5.kept kz (fun z => (j5.ne i5 (by decide)) z)
            have rz := HB5.out.row.kept kz (fun z => HNR.out.2 z.symm)
            have CELLS : Hid (∀ W, Kept (In R) wz W → W.cell? ⟨b12, 2, none⟩ = some (.int .i64 na) ∧ W.cell? ⟨ga, na * 2, none⟩ = some (.int .i64 as_) ∧ W.cell? ⟨ga, na * 2 + 1, none⟩ = some (.int .i64 ao) ∧ W.cell? ⟨b13, 0, none⟩ = some (.int .i64 zs) ∧ W.cell? ⟨b13, 1, none⟩ = some (.int .i64 zo)) := hide fun W z => by
              have y1 := jz.kept z HNR.out.1.1
              have y2 := rz.kept z HNR.out.1.2.2
              have y3 := iz.kept z HNR.out.1.2.1
              refine ⟨y1.cell 2, ?_, ?_, y3.cell 0, y3.cell 1⟩
              · rw [y2.cell, ← HB5.out.row.cell]; exact ta3
              · rw [y2.cell, ← HB5.out.row.cell]; exact ta4
            have d9 : decide (0 ≤ (ne : Int)) = true := by simp
            have hj0 : (0 : Int) ≤ (ne : Int) := Int.natCast_nonneg _
            have hj1 : (ne : Int) < (l.length : Int) := hen2.2.1
            clear i6 iz kz jz rz i5 j5 k5 hen hen2 hzn hz hzs hzo has hao hus huo h0 HB5 HG5 HAH
            have HM : Hid (k + 1 ≤ maxLen ∧ (k + 1) * 16 ≤ 140737488355328) := hide ⟨by unfold maxLen; omega, by omega⟩
            have KZ : Kept (In R) wz wz := Kept.refl _ _
            have hi0' : (0 : Int) ≤ (na : Int) := Int.natCast_nonneg _
            have hi1 : (na : Int) < (l.length : Int) := by omega
            go_wp2_with fail
            go_region_held3 (fun W => W.cell? ⟨b12, 2, none⟩ = some (.int .i64 na) ∧ W.cell? ⟨ga, na * 2, none⟩ = some (.int .i64 as_) ∧ W.cell? ⟨ga, na * 2 + 1, none⟩ = some (.int .i64 ao) ∧ W.cell? ⟨b13, 0, none⟩ = some (.int .i64 zs) ∧ W.cell? ⟨b13, 1, none⟩ = some (.int .i64 zo))
              (first | exact CELLS.out _ (by assumption) | exact CELLS.out _ (Kept.drew (by assumption)) | exact CELLS.out _ (Kept.alloc (by assumption) _))
              (first
                | (go_at_call 20; refine (HSI.out _).mono ?_; rintro e w7 ⟨rfl, hk7⟩; have hk8 : Kept (In R) wz w7 := (Kept.refl (In R) wz).drew.trans hk7 (fun _ _ z => absurd z (fun y => y)); have hg7 := HG2.out.keep (undrew hk7))
                | (refine step_append_lies _ (by rfl) _ _ _ (by rfl) 0 27 i0 _ 2 16 Try.underlying33 hi0 hz0 hz1 hz2 rfl (by decide) (.slice R k c1) k (pcells ((pof N l).take k)) (by rfl) (hg7.row.alloc _) ⟨w7.heap.size, 0, none⟩ 1 1 [.int .i64 (zs - as_), .int .i64 (zo - ao)] (by rfl) (by rfl) (World.news_of_block (cs := #[.int .i64 (zs - as_), .int .i64 (zo - ao)]) (t := 27) (fr := (0, 0)) (heap_alloc_new w7 _)) (by simp [Value.oneCell']) (by omega) HM.out.1 HM.out.2 (Nat.zero_le _) (w7.heap.size + 1) (by simp) ?_; intro gg cap w8 hown8 hgrow hat _; have hg8 := hg7.lies ((Kept.refl Nil w7).alloc _) hown8 hgrow (by simpa using hat); have hk9 : Kept (In R) wz w8 := (hk8.alloc _).trans (Kept.of_grown hgrow) (fun i _ z => by rw [own_in] at z; exact z)))
            have H8 := hide hg8
            clear hown8 hgrow hat hg7 hg8 hk7 hk8 hk9 KZ CELLS HSI HM
            go_wp2_with fail
            go_roundw
            case rel => exact ⟨k + 1, _, _, by omega, by go_num, rfl, by rw [HPT.out]; exact H8.out⟩
            case measure => simp [intOf]; omega
          · have hzn : z = l.length := by rw [hz]; unfold yto; rw [if_pos (show se < 0 by omega)]
            have d9 : decide (0 ≤ se) = false := by simpa using h0
            have ezs : us = zs := by rw [hus, hzs, hzn, Int.toNat_natCast, List.take_length]
            have ezo : uo = zo := by rw [huo, hzo, hzn, Int.toNat_natCast, List.take_length]
            subst ezs ezo
            have HG2 := hide HG5.out
            have CELLS : Hid (∀ W, Kept (In R) w5 W → W.cell? ⟨b12, 2, none⟩ = some (.int .i64 na) ∧ W.cell? ⟨ga, na * 2, none⟩ = some (.int .i64 as_) ∧ W.cell? ⟨ga, na * 2 + 1, none⟩ = some (.int .i64 ao) ∧ W.cell? ⟨b13, 0, none⟩ = some (.int .i64 us) ∧ W.cell? ⟨b13, 1, none⟩ = some (.int .i64 uo)) := hide fun W z => by
              have y1 := j5.kept z HNR.out.1.1
              have y2 := HB5.out.row.kept z HNR.out.1.2.2
              have y3 := i5.kept z HNR.out.1.2.1
              refine ⟨y1.cell 2, ?_, ?_, y3.cell 0, y3.cell 1⟩
              · rw [y2.cell, ← HB5.out.row.cell]; exact ta3
              · rw [y2.cell, ← HB5.out.row.cell]; exact ta4
            have i5' : w5.cell? ⟨b13, 0, none⟩ = some (.int .i64 us) := i5.cell 0
            have hIs := hide (And.intro i5 j5)
            clear i5 j5 k5 hen hzn hz hzs hzo has hao hus huo h0 HG5 HAH
            have HM : Hid (k + 1 ≤ maxLen ∧ (k + 1) * 16 ≤ 140737488355328) := hide ⟨by unfold maxLen; omega, by omega⟩
            have KZ : Kept (In R) w5 w5 := Kept.refl _ _
            have hi0' : (0 : Int) ≤ (na : Int) := Int.natCast_nonneg _
            have hi1 : (na : Int) < (l.length : Int) := by omega
            go_wp2_with fail
            go_region_held3 (fun W => W.cell? ⟨b12, 2, none⟩ = some (.int .i64 na) ∧ W.cell? ⟨ga, na * 2, none⟩ = some (.int .i64 as_) ∧ W.cell? ⟨ga, na * 2 + 1, none⟩ = some (.int .i64 ao) ∧ W.cell? ⟨b13, 0, none⟩ = some (.int .i64 us) ∧ W.cell? ⟨b13, 1, none⟩ = some (.int .i64 uo))
              (first | exact CELLS.out _ (by assumption) | exact CELLS.out _ (Kept.drew (by assumption)) | exact CELLS.out _ (Kept.alloc (by assumption) _))
              (first
                | (go_at_call 20; refine (HSI.out _).mono ?_; rintro e w7 ⟨rfl, hk7⟩; have hk8 : Kept (In R) w5 w7 := (Kept.refl (In R) w5).drew.trans hk7 (fun _ _ z => absurd z (fun y => y)); have hg7 := HG2.out.keep (undrew hk7))
                | (refine step_append_lies _ (by rfl) _ _ _ (by rfl) 0 27 i0 _ 2 16 Try.underlying33 hi0 hz0 hz1 hz2 rfl (by decide) (.slice R k c1) k (pcells ((pof N l).take k)) (by rfl) (hg7.row.alloc _) ⟨w7.heap.size, 0, none⟩ 1 1 [.int .i64 (us - as_), .int .i64 (uo - ao)] (by rfl) (by rfl) (World.news_of_block (cs := #[.int .i64 (us - as_), .int .i64 (uo - ao)]) (t := 27) (fr := (0, 0)) (heap_alloc_new w7 _)) (by simp [Value.oneCell']) (by omega) HM.out.1 HM.out.2 (Nat.zero_le _) (w7.heap.size + 1) (by simp) ?_; intro gg cap w8 hown8 hgrow hat _; have hg8 := hg7.lies ((Kept.refl Nil w7).alloc _) hown8 hgrow (by simpa using hat); have hk9 : Kept (In R) w5 w8 := (hk8.alloc _).trans (Kept.of_grown hgrow) (fun i _ z => by rw [own_in] at z; exact z)))
            have H8 := hide hg8
            clear hown8 hgrow hat hg7 hg8 hk7 hk8 hk9 KZ CELLS HSI HM
            go_wp2_with fail
            go_roundw
            case rel => exact ⟨k + 1, _, _, by omega, by go_num, rfl, by rw [HPT.out]; exact H8.out⟩
            case measure => simp [intOf]; omega
        · obtain rfl : k = S.length := by omega
          have HF := hide (HB3.out.cn.kept)
          go_wp2_with fail
          go_ret
          rw [← hPL] at HW
          refine ⟨R, c1, by rw [hPL]; rfl, ?_⟩
          exact (by have := HW.out; rw [List.take_length] at this; exact this.elder HF.out)
end
end Go.Proofs.Ytefcjlacjafnoaa
