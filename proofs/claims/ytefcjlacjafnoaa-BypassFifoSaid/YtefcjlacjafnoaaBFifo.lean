/- BypassFifo: where all enter as they asked, nobody is passed by who asked later. -/
import Derived.Test.YtefcjlacjafnoaaBLaws
namespace Go.Proofs.Ytefcjlacjafnoaa
open Go.RowKit
set_option maxRecDepth 100000

theorem nwf_nil : Nwf [] := fun k hk => absurd hk (by simp)
theorem nd_nil (t : Int) : nd [] t = -1 := nd_out (by simp)
/-- Without nodes all are of one node. -/
theorem frO_nil (t f g : Int) (l : List Ev) : frO [] t f g l = 0 := by
  unfold frO
  refine ctb_zero fun k _ => ?_
  unfold wnp psO
  rw [nd_nil, nd_nil]
  simp
section
variable {w w' : World} {v : Value} {l : List Ev}
theorem Pss.at2 {A : Option Addr} {n c k : Nat} {R : List Ps} (h : Pss w (.slice A n c) R) (hk : k < R.length) : ∃ g o, A = some ⟨g, o, none⟩ ∧ g < w.heap.size ∧ Two (fun i => w.cell? ⟨g, i, none⟩) (o + k * 2) (R.getD k p0) := by
  obtain ⟨A', c', e, _, hp⟩ := h
  injection e with e1 _ _
  subst e1
  obtain ⟨g, o, e, hg, hc⟩ := hp (by omega)
  exact ⟨g, o, e, hg, hc k hk⟩
theorem pfd_two {f : Nat} {args : Array Value} {W : World} {L : List Ps} (k : Kept Nil w W) (h : Calls Try.prog f args W (Pfd W L)) : Calls Try.prog f args W fun e w' => ∃ A c, e = .returned (.slice A L.length c) ∧ Pss w' (.slice A L.length c) L ∧ Kept Nil w w' ∧ Kept Nil W w' :=
  h.mono fun _ _ ⟨A, c, h1, h2⟩ => ⟨A, c, h1, h2.pss, k.trans h2.kept (fun _ _ z => z), h2.kept⟩
set_option maxHeartbeats 2000000
theorem bfifo_long (hv : Evs w v l) (hw : Ywf l) (hl : l.length ≤ 60) (hf : yfi (yof l) = true) : Calls Try.prog 4 #[v] w fun x w' => x = .returned (.bool true) ∧ Kept Nil w w' := by
  have C0 := hide (fifo_c hv hw (by omega))
  rw [hf] at C0
  have C1 := hide fun W (z : Kept Nil w W) => ofd_at z (of_c (hv.kept z) hw (by omega))
  have C2 := hide fun W (z : Kept Nil w W) => pfd_two z (bof_c (Nums.nil W none 0) nwf_nil (hv.kept z) hw (by omega))
  have CA := hide fun W (z : Kept Nil w W) => calls_at z (bawake_c W)
  have HFP := hide fun i (z : i < (yof l).length) => fifo_pass (l := l) hf z (psS [] ((yof l).getD i s0).t) (fun e h => by unfold psS at h; rw [decide_eq_true_eq] at h; exact h.1)
  have HPA := hide fun k (z : k < (yof l).length) => pof_at (N := []) z
  have HPL : (pof [] l).length = (yof l).length := pof_len
  have HSL : (yof l).length ≤ 60 := Nat.le_trans yof_len hl
  have HPS := hide fun i (s : Sy) (z : s = (yof l).getD i s0) => show (pst [] l s).s = ((ctb (wnp (psS [] s.t) l s.a (yto l.length s)) l.length : Nat) : Int) ∧ (pst [] l s).o = 0 from ⟨rfl, by show ((frO [] s.t s.a (yto l.length s) l : Nat) : Int) = 0; rw [frO_nil]; rfl⟩
  obtain ⟨L, hL⟩ : ∃ L, pof [] l = L := ⟨_, rfl⟩
  obtain ⟨S, hS⟩ : ∃ S, yof l = S := ⟨_, rfl⟩
  rw [hL] at C2 HPA HPL
  rw [hS] at C1 HFP HPA HPL HSL
  have HLS : Hid (∀ i, i < S.length → (L.getD i p0).s ≤ (i : Int) + (ctb (fun k => decide ((l.getD k e0).k = 2) && stry S k) l.length : Nat) ∧ 0 ≤ (L.getD i p0).s ∧ (L.getD i p0).o = 0) := hide fun i hi => by
    rw [HPA.out i hi]
    have h1 := HFP.out i hi
    obtain ⟨h2, h3⟩ := HPS.out i (S.getD i s0) (by rw [hS])
    rw [h2, h3]
    exact ⟨by omega, by omega, rfl⟩
  clear HFP HPA HPS hL hS hf
  obtain ⟨P, hP⟩ : ∃ P, (fun k => decide ((l.getD k e0).k = 2) && stry S k) = P := ⟨_, rfl⟩
  rw [hP] at HLS
  have HPq := hide fun q => show P q = (decide ((l.getD q e0).k = 2) && stry S q) by rw [← hP]
  clear hP
  obtain ⟨A, c, rfl, _, hp⟩ := hv
  have HP := hide hp
  clear hp
  have d0 : decide (60 < (l.length : Int)) = false := by simp; omega
  go_enter Try.func4, Try.ntmps4
  go_wp2_with fail
  refine C0.out.mono ?_
  rintro e w1 ⟨rfl, hk1⟩
  have C11 := hide (C1.out w1 hk1)
  clear hk1 C0 C1
  go_wp2_with fail
  refine C11.out.mono ?_
  rintro e w2 ⟨A2, c2, rfl, hs2, hk2⟩
  have H2 := hide hs2
  have C21 := hide (C2.out w2 hk2)
  clear hs2 hk2 C11 C2
  go_wp2_with fail
  refine C21.out.mono ?_
  rintro e w3 ⟨A3, c3, rfl, hp3, hk3, hk3w⟩
  rw [HPL]
  rw [HPL] at hp3
  have HS := hide fun (q : Nat) => stray_c q (H2.out.kept hk3w) (by omega)
  have HPP := hide hp3
  have HE := hide fun k (z : k < l.length) => HP.out (by omega)
  have HK3 := hide hk3
  clear hk3 hp3 hk3w C21 H2
  go_wp2_with fail
  go_loop [5] (fun i => ∃ k : Nat, k ≤ S.length ∧ i = .int .i64 k) (fun i => S.length - (intOf i).toNat)
  case atStart => exact ⟨0, Nat.zero_le _, rfl⟩
  case round =>
    obtain ⟨k, hk, rfl⟩ := hrel
    by_cases hlt : k < S.length
    · go_wp2_with fail
      go_loop [6, 7] (fun v6 v7 => ∃ q : Nat, q ≤ l.length ∧ v7 = .int .i64 q ∧ v6 = .int .i64 (ctb P q : Nat)) (fun _ i => l.length - (intOf i).toNat)
      case atStart => exact ⟨0, Nat.zero_le _, rfl, rfl⟩
      case round =>
        obtain ⟨q, hq, rfl, rfl⟩ := hrel
        by_cases hql : q < l.length
        · obtain ⟨g1, o1, rfl, hg1, hce⟩ := HP.out (by omega)
          obtain ⟨f1, _, _, _⟩ := (hce q hql).kept hg1 HK3.out
          have hpq := HPq.out q
          have hst : ctb P (q + 1) = ctb P q + if P q = true then 1 else 0 := ctb_succ
          have hcl := ctb_le (p := P) (n := q)
          have CS := hide (HS.out q)
          clear hce hg1
          generalize (l.getD q e0).k = ek at *
          have f1 : w3.cell? ⟨g1, o1 + q * 4, none⟩ = some (.int .i64 ek) := f1
          generalize hx : ctb P q = x at *
          have s1 : IntKind.i64.wrap ((x : Int) + 1) = (x : Int) + 1 := IntWalk.i64_in _ (by omega)
          clear hx
          by_cases h2 : ek = 2
          · subst h2
            cases hs : stry S q with
            | true =>
              rw [hs] at CS
              have HX : Hid (ctb P (q + 1) = x + 1) := hide (by rw [hst, hpq, hs]; rfl)
              clear hst hpq hs hcl
              go_wp2_with fail
              refine CS.out.mono ?_
              rintro e w4 ⟨rfl, rfl⟩
              go_wp2_with fail
              go_round
              case rel => exact ⟨q + 1, by omega, by go_num, by rw [HX.out]; rfl⟩
              case measure => simp [intOf]; omega
            | false =>
              rw [hs] at CS
              have HX : Hid (ctb P (q + 1) = x) := hide (by rw [hst, hpq, hs]; rfl)
              clear hst hpq hs hcl
              go_wp2_with fail
              refine CS.out.mono ?_
              rintro e w4 ⟨rfl, rfl⟩
              go_wp2_with fail
              go_round
              case rel => exact ⟨q + 1, by omega, by go_num, by rw [HX.out]⟩
              case measure => simp [intOf]; omega
          · have b1 : (ek == 2) = false := by simpa using h2
            have HX : Hid (ctb P (q + 1) = x) := hide (by rw [hst, hpq, decide_eq_false h2]; rfl)
            clear hst hpq hcl h2 CS
            go_wp2_with fail
            go_round
            case rel => exact ⟨q + 1, by omega, by go_num, by rw [HX.out]⟩
            case measure => simp [intOf]; omega
        · obtain rfl : q = l.length := by omega
          obtain ⟨h1, h2, h3⟩ := HLS.out k hlt
          have hcl := ctb_le (p := P) (n := l.length)
          obtain ⟨g, o, rfl, _, ⟨t1, t2⟩⟩ := HPP.out.at2 (k := k) (by omega)
          generalize L.getD k p0 = p at *
          obtain ⟨ps, po⟩ := p
          obtain rfl : po = 0 := h3
          have h1 : ps ≤ (k : Int) + (ctb P l.length : Nat) := h1
          have t1 : w3.cell? ⟨g, o + k * 2, none⟩ = some (.int .i64 ps) := t1
          have t2 : w3.cell? ⟨g, o + k * 2 + 1, none⟩ = some (.int .i64 0) := t2
          generalize ctb P l.length = x at *
          have s1 : IntKind.i64.wrap ((k : Int) + (x : Int)) = (k : Int) + (x : Int) := IntWalk.i64_in _ (by omega)
          have d1 : decide ((k : Int) + (x : Int) < ps) = false := by simp; omega
          clear h1 h2 hcl
          go_wp2_with fail
          go_round
          case rel => exact ⟨k + 1, by omega, by go_num⟩
          case measure => simp [intOf]; omega
    · obtain rfl : k = S.length := by omega
      have CA2 := hide (CA.out w3 HK3.out)
      clear CA
      go_wp2_with fail
      refine CA2.out.mono ?_
      rintro e w4 ⟨rfl, hk4⟩
      have H4 := hide hk4
      clear hk4 CA2
      go_wp2_with fail
      go_ret
      exact ⟨rfl, H4.out⟩
/-- Too many events, or not in order. -/
theorem bfifo_short (hv : Evs w v l) (hw : Ywf l) (h : 60 < l.length ∨ l.length ≤ 60 ∧ yfi (yof l) = false) : Calls Try.prog 4 #[v] w fun x w' => x = .returned (.bool true) ∧ Kept Nil w w' := by
  have CA := hide fun W (z : Kept Nil w W) => calls_at z (bawake_c W)
  rcases h with h | ⟨h, hf⟩
  · have CA2 := hide (CA.out w (Kept.refl _ _))
    obtain ⟨A, c, rfl, _, hp⟩ := hv
    clear hp CA
    have d0 : decide (60 < (l.length : Int)) = true := by simp; omega
    go_enter Try.func4, Try.ntmps4
    go_wp2_with fail
    refine CA2.out.mono ?_
    rintro e w4 ⟨rfl, hk4⟩
    have H4 := hide hk4
    clear hk4 CA2
    go_wp2_with fail
    go_ret
    exact ⟨rfl, H4.out⟩
  · have C0 := hide (fifo_c hv hw (by omega))
    rw [hf] at C0
    obtain ⟨A, c, rfl, _, hp⟩ := hv
    clear hp hf
    have d0 : decide (60 < (l.length : Int)) = false := by simp; omega
    go_enter Try.func4, Try.ntmps4
    go_wp2_with fail
    refine C0.out.mono ?_
    rintro e w1 ⟨rfl, hk1⟩
    have CA2 := hide (CA.out w1 hk1)
    clear hk1 C0 CA
    go_wp2_with fail
    refine CA2.out.mono ?_
    rintro e w4 ⟨rfl, hk4⟩
    have H4 := hide hk4
    clear hk4 CA2
    go_wp2_with fail
    go_ret
    exact ⟨rfl, H4.out⟩
theorem bfifo_c (hv : Evs w v l) (hw : Ywf l) : Calls Try.prog 4 #[v] w fun x w' => x = .returned (.bool true) ∧ Kept Nil w w' := by
  rcases Nat.lt_or_ge 60 l.length with h | h
  · exact bfifo_short hv hw (.inl h)
  · cases hf : yfi (yof l) with
    | true => exact bfifo_long hv hw h hf
    | false => exact bfifo_short hv hw (.inr ⟨h, hf⟩)
end
end Go.Proofs.Ytefcjlacjafnoaa
