/- Of: the tenures of a trace. -/
import Derived.Test.YtpmnmckamgdbcaaEThru
import Derived.Deep.RegionHeld3
import Derived.Deep.DeepCutAuto
namespace Go.Proofs.Ytpmnmckamgdbcaa
open Go.RowKit
set_option maxRecDepth 100000

/-- A row that a call has grown lies in a block of the call's own. -/
theorem Gw.blk {e : TypeId} {sz n c : Nat} {w0 w : World} {A : Option Addr} {xs : List Value} (h : Gw e sz w0 w A c n xs) {g : Nat} (hg : In A g) : ∃ cur, Is w g e cur := by
  rcases h.row.2 with ⟨e, _⟩ | ⟨g', cap, cur', e, _, hh, _⟩
  · injection e with e1 _ _
    subst e1
    cases hg
  · injection e with e1 _ _
    subst e1
    injection hg with hg
    have hg : g' = g := hg
    subst hg
    exact ⟨cur', hh⟩
theorem Gw.older {e : TypeId} {sz n c : Nat} {w0 w1 w : World} {A : Option Addr} {xs : List Value} (h : Gw e sz w1 w A c n xs) (k : Kept Nil w0 w1) : Gw e sz w0 w A c n xs := ⟨h.row, k.trans h.kept (fun _ _ z => z), fun g hg => Nat.le_trans k.size (h.own g hg)⟩
theorem slice_in (B : Option Addr) (n m : Nat) : (Value.slice B n m).ownBlock = B.map (·.block) := by cases B <;> rfl

/-- A round of Of. -/
theorem of_step {N : List Int} {E : List Ev} {R : List Rn} {n m : Nat} {T : List Rn × Bool} {e : Ev} (h : n < E.length) (he : E.getD n e0 = e) (h1 : e.c = 1) (hg : ∀ e, (E.drop n).head? = some e → ¬ gon N R e) (hT : T = rgo N R n (E.drop n)) (hm : thr N (nd N e.t) 1 ((E.drop n).drop 1) = m) :
    T = rgo N (R ++ [⟨nd N e.t, n, m⟩]) (n + m) (E.drop (n + m)) ∧ (∀ e', (E.drop (n + m)).head? = some e' → ¬ gon N (R ++ [⟨nd N e.t, n, m⟩]) e') ∧ 1 ≤ m ∧ n + m ≤ E.length := by
  have hd := ev_drop h
  rw [he] at hd
  have hge := thr_ge N (nd N e.t) ((E.drop n).drop 1) 1
  have hgo := thr_go N (nd N e.t) R n ((E.drop n).drop 1) 1 (n + 1)
  rw [hm] at hge hgo
  have hlen : ((E.drop n).drop 1).length = E.length - n - 1 := by rw [List.length_drop, List.length_drop]
  have hdd : ((E.drop n).drop 1).drop (m - 1) = E.drop (n + m) := by
    rw [List.drop_drop, List.drop_drop]
    congr 1
    omega
  rw [hdd] at hgo
  refine ⟨?_, hgo.2, hge.1, by omega⟩
  rw [hT]
  have h2 : rgo N R n (E.drop n) = rgo N (R ++ [⟨nd N e.t, n, 1⟩]) (n + 1) ((E.drop n).drop 1) := by
    rw [hd]
    exact rgo_new (hg e (by rw [hd]; rfl)) h1
  rw [h2, hgo.1]
  congr 1
  omega
theorem of_end {N : List Int} {E : List Ev} {R : List Rn} {n : Nat} {T : List Rn × Bool} {e : Ev} (h : n < E.length) (he : E.getD n e0 = e) (h1 : ¬ e.c = 1) (hg : ∀ e, (E.drop n).head? = some e → ¬ gon N R e) (hT : T = rgo N R n (E.drop n)) : T = (R, false) := by
  have hd := ev_drop h
  rw [he] at hd
  rw [hT, hd]
  exact rgo_end (hg e (by rw [hd]; rfl)) h1
/-- What Of hands back. -/
def Tnd (w : World) (T : List Rn × Bool) (e : Ending) (w' : World) : Prop := ∃ A c, e = .returned (.tuple #[.slice A T.1.length c, .bool T.2]) ∧ Gw 31 3 w w' A c T.1.length (rcells T.1)
/-- The box of a tenure. -/
def Box (W wx : World) (s : Value) (a : Int) (n m : Nat) : Prop := ∃ b, s = .pointer (some ⟨b, 0, none⟩) ∧ Is wx b 31 #[.int .i64 a, .int .i64 n, .int .i64 m] ∧ Kept Nil W wx ∧ W.heap.size ≤ b
section
variable {w w0 w' : World} {v0 v : Value} {N : List Int} {l : List Ev}
set_option maxHeartbeats 2000000
theorem of_c (hn : Nums w v0 N) (hv : Evs w v l) (hl : l.length ≤ 65536) : Calls Try.prog 6 #[v0, v] w (Tnd w (tns N l)) := by
  obtain ⟨i0, hi, hz0, hz1, hz2⟩ := info_parts info_run
  have CE := hide (tentries_c hv hl)
  have hEl : (ens l).length ≤ 65536 := Nat.le_trans (ens_len l) hl
  have HT0 := hide (show tns N l = rgo N [] 0 ((ens l).drop 0) by rw [List.drop_zero]; rfl)
  generalize tns N l = T at *
  generalize ens l = E at *
  have HN := hide fun W (z : Kept Nil w W) => hn.kept z
  obtain ⟨A0, c0, rfl, _⟩ := hn
  obtain ⟨A, c, rfl, _, _⟩ := hv
  go_enter Try.func6, Try.ntmps6
  go_wp2_with fail
  refine CE.out.mono ?_
  rintro e w1 ⟨Ae, ce, rfl, he⟩
  have HE := hide (And.intro he.evs he.kept)
  clear he CE
  go_wp2_with fail
  go_loopw [7, 8] (fun v7 v8 wr => ∃ (n : Nat) (R : List Rn) (A1 : Option Addr) (c1 : Nat), n ≤ E.length ∧ v8 = .int .i64 n ∧ v7 = .slice A1 R.length c1 ∧ R.length ≤ n ∧ T = rgo N R n (E.drop n) ∧ (∀ e, (E.drop n).head? = some e → ¬ gon N R e) ∧ Gw 31 3 w1 wr A1 c1 R.length (rcells R)) (fun _ i _ => E.length - (intOf i).toNat)
  case atStart => exact ⟨0, [], none, 0, Nat.zero_le _, rfl, rfl, Nat.zero_le _, HT0.out, fun _ _ => gon_nil, Gw.start _ _ _⟩
  case round =>
    obtain ⟨n, R, A1, c1, hnl, rfl, rfl, hRn, hT, hgn, hg⟩ := hrel
    have HG := hide hg
    have HX := hide (And.intro hgn hT)
    clear hg hgn hT HT0
    by_cases hlt : n < E.length
    · obtain ⟨Ae', ce', ee, hlc, hpe⟩ := HE.out.1.kept HG.out.kept
      injection ee with ee1 _ ee3
      subst ee1 ee3
      obtain ⟨g1, o1, rfl, hg1, hc⟩ := hpe (by omega)
      have HV := hide (evs_drop hlt hlc hg1 hc)
      obtain ⟨f1, f2, f3, f4⟩ := hc n hlt
      have HO := hide fun m (z : (E.getD n e0).c = 1) hm => of_step (m := m) hlt rfl z HX.out.1 HX.out.2 hm
      have HZ := hide fun (z : ¬ (E.getD n e0).c = 1) => of_end hlt rfl z HX.out.1 HX.out.2
      have CN := hide fun W (z : Kept Nil w W) t => node_c t (HN.out W z)
      have CT := hide fun W (z : Kept Nil w W) (zr : Kept Nil wr W) => through_c (HN.out W z) (HV.out.kept zr) (by rw [List.length_drop]; omega) (by rw [List.length_drop]; omega)
      rw [show (E.drop n).getD 0 e0 = E.getD n e0 by simp [List.getD]] at CT
      obtain ⟨m, hm⟩ : ∃ m, thr N (nd N (E.getD n e0).t) 1 ((E.drop n).drop 1) = m := ⟨_, rfl⟩
      rw [hm] at CT
      have HO := hide fun z => HO.out m z hm
      have HWr := hide (HE.out.2.trans HG.out.kept (fun _ _ z => z))
      clear hc hpe HV HX hm
      generalize E.getD n e0 = e at *
      obtain ⟨ek, et, er, ec⟩ := e
      have f1 : wr.cell? ⟨g1, o1 + n * 4, none⟩ = some (.int .i64 ek) := f1
      have f2 : wr.cell? ⟨g1, o1 + n * 4 + 1, none⟩ = some (.int .i64 et) := f2
      have f3 : wr.cell? ⟨g1, o1 + n * 4 + 2, none⟩ = some (.bool er) := f3
      have f4 : wr.cell? ⟨g1, o1 + n * 4 + 3, none⟩ = some (.int .i64 ec) := f4
      by_cases h1 : ec = 1
      · subst h1
        have HO2 := hide (HO.out rfl)
        clear HO HZ
        have CN2 := hide fun W (z : Kept Nil wr W) => show Calls Try.prog 7 #[.slice A0 N.length c0, .int .i64 et] W fun e w' => e = .returned (.int .i64 (nd N et)) ∧ W = w' from CN.out W (HWr.out.trans z (fun _ _ c => c)) et
        have CT2 := hide fun W (z : Kept Nil wr W) => show Calls Try.prog 16 #[.slice A0 N.length c0, .slice (some ⟨g1, o1 + n * 4, none⟩) (E.length - n) (ce - n)] W fun e w' => e = .returned (.int .i64 m) ∧ W = w' from CT.out W (HWr.out.trans z (fun _ _ c => c)) z
        clear CN CT
        have HO3 : Hid (T = rgo N (R ++ [⟨nd N et, n, m⟩]) (n + m) (E.drop (n + m)) ∧ (∀ e', (E.drop (n + m)).head? = some e' → ¬ gon N (R ++ [⟨nd N et, n, m⟩]) e') ∧ 1 ≤ m ∧ n + m ≤ E.length) := HO2
        clear HO2
        generalize nd N et = a at *
        have CELLS := hide fun (W : World) (z : Kept Nil wr W) => show W.cell? ⟨g1, o1 + n * 4 + 1, none⟩ = some (.int .i64 et) from (z.cell (p := ⟨g1, o1 + n * 4 + 1, none⟩) hg1 (fun c => c)).trans f2
        have hb1 : (n : Int) ≤ (ce : Int) := by omega
        have hb2 : (0 : Int) ≤ (n : Int) := by omega
        have hb3 : n ≤ ce := by omega
        have hb4 : n ≤ E.length := hnl
        have hK : Kept Nil wr wr.drew := (Kept.refl Nil wr).drew
        go_upto_region 7 with fail
        go_cut [9] (fun s9 wx => Box wr wx s9 a n m)
        case first =>
          go_region_held3 (fun W => W.cell? ⟨g1, o1 + n * 4 + 1, none⟩ = some (.int .i64 et))
            (exact CELLS.out _ (by repeat (first | assumption | exact Kept.refl _ _ | refine Kept.drew ?_ | refine Kept.alloc ?_ _ | refine Kept.set ?_ (fun h => absurd h (by first | exact Nat.lt_irrefl _ | (show ¬ (_ < _); omega))) _)))
            (first
              | (go_at_call 7; refine (CN2.out wr.drew (by repeat (first | assumption | exact Kept.refl _ _ | refine Kept.drew ?_ | refine Kept.alloc ?_ _ | refine Kept.set ?_ (fun h => absurd h (by first | exact Nat.lt_irrefl _ | (show ¬ (_ < _); omega))) _))).mono ?_; rintro e w2 ⟨rfl, rfl⟩)
              | (go_at_call 7; refine (CN2.out (wr.alloc (.cells #[.int .i64 0, .int .i64 0, .int .i64 0] 31)).drew (by repeat (first | assumption | exact Kept.refl _ _ | refine Kept.drew ?_ | refine Kept.alloc ?_ _ | refine Kept.set ?_ (fun h => absurd h (by first | exact Nat.lt_irrefl _ | (show ¬ (_ < _); omega))) _))).mono ?_; rintro e w2 ⟨rfl, rfl⟩)
              | (go_at_call 16; refine (CT2.out wr.drew (by repeat (first | assumption | exact Kept.refl _ _ | refine Kept.drew ?_ | refine Kept.alloc ?_ _ | refine Kept.set ?_ (fun h => absurd h (by first | exact Nat.lt_irrefl _ | (show ¬ (_ < _); omega))) _))).mono ?_; rintro e w2 ⟨rfl, rfl⟩)
              | (go_at_call 16; refine (CT2.out (wr.alloc (.cells #[.int .i64 0, .int .i64 0, .int .i64 0] 31)).drew (by repeat (first | assumption | exact Kept.refl _ _ | refine Kept.drew ?_ | refine Kept.alloc ?_ _ | refine Kept.set ?_ (fun h => absurd h (by first | exact Nat.lt_irrefl _ | (show ¬ (_ < _); omega))) _))).mono ?_; rintro e w2 ⟨rfl, rfl⟩))
          all_goals
            go_wp2_with fail
            go_meet
            exact ⟨_, rfl, Is.new wr _ _, ((Kept.refl Nil wr).alloc _).drew, Nat.le_refl _⟩
        case rest =>
          obtain ⟨b, rfl, hbx, hkc, hbge⟩ := hcut
          have HG2 := hide (HG.out.keep hkc)
          have HB := hide hbx
          have r0 : wc.cell? ⟨b, 0, none⟩ = some (.int .i64 a) := hbx.cell 0
          have r1 : wc.cell? ⟨b, 1, none⟩ = some (.int .i64 n) := hbx.cell 1
          have r2 : wc.cell? ⟨b, 2, none⟩ = some (.int .i64 m) := hbx.cell 2
          have HNB : Hid (¬ In A1 b) := hide (fun z => by
            obtain ⟨cur, hc⟩ := HG.out.blk z
            have := hc.lt
            omega)
          have HS := hide (rcells_snoc R ⟨a, n, m⟩)
          have HL := hide (show (R ++ [(⟨a, n, m⟩ : Rn)]).length = R.length + 1 by simp)
          have HM : Hid (R.length + 1 ≤ maxLen ∧ (R.length + 1) * 24 ≤ 140737488355328) := hide ⟨by unfold maxLen; omega, by omega⟩
          have hm1 := HO3.out.2.2.1
          have hm2 := HO3.out.2.2.2
          clear hbx hkc hbge CELLS CN2 CT2 f1 f2 f3 f4 HG
          go_wp2_with (at_builtin; refine wpList_append_own_at _ rfl (.tmp 37) (.tmp 39) _ rfl 0 31 i0 (.agg #[.int .i64 0, .int .i64 0, .int .i64 0]) 3 24 Try.underlying27 hi hz0 hz1 hz2 rfl (by decide) (.slice A1 R.length c1) R.length (rcells R) rfl (HG2.out.row.alloc _) ⟨wc.heap.size, 0, none⟩ 1 1 [.int .i64 a, .int .i64 n, .int .i64 m] rfl rfl (World.news_of_block (cs := #[.int .i64 a, .int .i64 n, .int .i64 m]) (t := 31) (fr := (0, 0)) (heap_alloc_new wc _)) (by intro u hu; simp at hu; rcases hu with rfl | rfl | rfl <;> rfl) HM.out.1 HM.out.2 (Nat.zero_le _) ?_; intro v' w4 hown' hgrow _ hat; obtain ⟨R2, c2, rfl, hg2⟩ := HG2.out.push ((Kept.refl Nil wc).alloc _) hown' hgrow hat; have r3 : w4.cell? ⟨b, 2, none⟩ = some (.int .i64 m) := ((HB.out.alloc _).kept (Kept.of_grown hgrow) (fun z => HNB.out (by rw [slice_in] at z; exact z))).cell 2; have H4 := hide hg2; clear hown' hgrow hat hg2)
          go_roundw
          case rel => exact ⟨n + m, R ++ [⟨a, n, m⟩], R2, c2, by omega, by go_num, by rw [HL.out], by rw [HL.out]; omega, HO3.out.1, HO3.out.2.1, by rw [HL.out, HS.out]; exact H4.out⟩
          case measure => simp [intOf]; omega
      · have hb : (ec != 1) = true := by simpa using h1
        have HF := hide (HZ.out (show ¬ ec = 1 from h1))
        clear HO HZ CN CT h1
        go_wp2_with fail
        go_ret2
        rw [HF.out]
        exact ⟨A1, c1, rfl, HG.out.older HE.out.2⟩
    · obtain rfl : n = E.length := by omega
      have HF : Hid (T = (R, true)) := hide (by rw [HX.out.2, List.drop_length]; rfl)
      go_wp2_with fail
      go_ret2
      rw [HF.out]
      exact ⟨A1, c1, rfl, HG.out.older HE.out.2⟩
end
end Go.Proofs.Ytpmnmckamgdbcaa
