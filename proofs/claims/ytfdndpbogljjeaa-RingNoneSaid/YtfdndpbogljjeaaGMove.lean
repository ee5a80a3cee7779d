/- Package ring: At, Cut and Pop. -/
import Derived.Test.YtfdndpbogljjeaaGRing
import Derived.Deep.RegionHeld3
import Derived.Deep.RegionWith
import Derived.Deep.DeepMust
import Derived.Deep.DeepFit
namespace Go.Proofs.Ytfdndpbogljjeaa
open Go.RowKit

/-- What At tells. -/
def atX (xs : List Int) (i : Int) : Int := if 0 ≤ i ∧ i < xs.length then xs.getD i.toNat 0 else 0
def atB (xs : List Int) (i : Int) : Bool := decide (0 ≤ i ∧ i < xs.length)
/-- What is left when a place is cut. -/
def cutL (xs : List Int) (i : Int) : List Int := if 0 ≤ i ∧ i < xs.length then xs.eraseIdx i.toNat else xs
theorem at_in {xs : List Int} {i : Int} (h : 0 ≤ i ∧ i < xs.length) : atX xs i = xs.getD i.toNat 0 ∧ atB xs i = true := by unfold atX atB; simp [h]
theorem at_out {xs : List Int} {i : Int} (h : ¬ (0 ≤ i ∧ i < xs.length)) : atX xs i = 0 ∧ atB xs i = false := by unfold atX atB; rw [if_neg h]; exact ⟨rfl, decide_eq_false h⟩
theorem cut_in {xs : List Int} {i : Int} (h : 0 ≤ i ∧ i < xs.length) : cutL xs i = xs.eraseIdx i.toNat := if_pos h
theorem cut_out {xs : List Int} {i : Int} (h : ¬ (0 ≤ i ∧ i < xs.length)) : cutL xs i = xs := if_neg h

section
variable {w : World} {a : Nat} {A : Option Addr} {c f : Nat} {V : Nat → Int} {xs : List Int}
set_option maxHeartbeats 400000

theorem rat_c (i : Int) (h : Ring w a A xs) : Calls Try.prog 8 #[.pointer (some ⟨a, 0, none⟩), .int .i64 i] w fun e w' => e = .returned (.tuple #[.int .i64 (atX xs i), .bool (atB xs i)]) ∧ ∃ n, w' = w.drewN n := by
  have hl := hide (rlen_c h)
  by_cases h0 : i < 0
  · have hx := at_out (xs := xs) (i := i) (by omega)
    rw [hx.1, hx.2]
    have hd : decide (i < 0) = true := by simpa using h0
    go_enter Try.func8, Try.ntmps8
    go_wp2_with fail
    go_ret2
    exact ⟨rfl, 0, rfl⟩
  · have hd : decide (i < 0) = false := by simpa using h0
    by_cases h1 : (xs.length : Int) ≤ i
    · have hx := at_out (xs := xs) (i := i) (by omega)
      rw [hx.1, hx.2]
      have hd1 : decide ((xs.length : Int) ≤ i) = true := by simpa using h1
      go_enter Try.func8, Try.ntmps8
      go_wp2_with (go_at_call 10; refine hl.out.mono ?_; rintro e w' ⟨rfl, rfl⟩)
      go_ret2
      exact ⟨rfl, 0, rfl⟩
    · obtain ⟨k, rfl⟩ : ∃ k : Nat, i = k := ⟨i.toNat, by omega⟩
      have hk : k < xs.length := by omega
      have hx := at_in (xs := xs) (i := k) (by omega)
      rw [hx.1, hx.2]
      have hd1 : decide ((xs.length : Int) ≤ (k : Int)) = false := by simp; omega
      obtain ⟨c, f, V, hr⟩ := h
      obtain ⟨b, rfl, hb, hf⟩ := hr.have (by omega)
      have fits := hr.fits
      have small := hr.small
      have hs := fun n => slot_c k (hr.own.drewN n) hf (by omega) small
      have hlt : (f + k) % c < c := Nat.mod_lt _ (by omega)
      have hcell : w.cell? ⟨b, (f + k) % c, none⟩ = some (.int .i64 (xs.getD k 0)) := (hb.cell _).trans ((slotCells_at hlt).trans (by rw [hr.at_ k hk]))
      have g0 : w.cell? ⟨a, 0, none⟩ = some (.slice (some ⟨b, 0, none⟩) c c) := hr.own.cell 0
      generalize (f + k) % c = p at *
      rw [show (k : Int).toNat = k from rfl]
      generalize xs.getD k 0 = x at *
      go_enter Try.func8, Try.ntmps8
      go_wp2_with (go_at_call 10; refine hl.out.mono ?_; rintro e w' ⟨rfl, rfl⟩)
      go_quiet ((go_at_call 21; exact quiet_drew (hs _)))
      go_wp2
      go_ret2
      exact ⟨rfl, _, rfl⟩
theorem rat_nil (i : Int) : Calls Try.prog 8 #[.pointer none, .int .i64 i] w fun e w' => e = .returned (.tuple #[.int .i64 0, .bool false]) ∧ w = w' := by
  by_cases h0 : i < 0
  · have hd : decide (i < 0) = true := by simpa using h0
    go_enter Try.func8, Try.ntmps8
    go_wp2_with fail
    go_ret2
    exact ⟨rfl, rfl⟩
  · have hd : decide (i < 0) = false := by simpa using h0
    have hd1 : decide ((0 : Int) ≤ i) = true := by simp; omega
    go_enter Try.func8, Try.ntmps8
    go_wp2_with (go_at_call 10; refine rlen_nil.mono ?_; rintro e w' ⟨rfl, rfl⟩)
    go_ret2
    exact ⟨rfl, rfl⟩
end

/-- What is left, place by place. -/
theorem closed_at {U V : Nat → Int} {f c i : Nat} {xs : List Int} (hi : i < xs.length) (hc : xs.length ≤ c) (hf : f < c) (hrel : ∀ k, k < c → U ((f + k) % c) = if 0 < k ∧ k ≤ i then V ((f + (k - 1)) % c) else V ((f + k) % c))
    (hat : ∀ k, k < xs.length → V ((f + k) % c) = xs.getD k 0) : ∀ k, k < (xs.eraseIdx i).length → (fun p => if p = f then 0 else U p) (((f + 1) % c + k) % c) = (xs.eraseIdx i).getD k 0 := by
  intro k hk
  rw [List.length_eraseIdx_of_lt hi] at hk
  rw [place_next]
  have hne : ¬ (f + (k + 1)) % c = f := fun e => by
    have := place_inj (f := f) (c := c) (a := k + 1) (b := 0) (by omega) (by omega) (by rw [e, Nat.add_zero, Nat.mod_eq_of_lt hf])
    omega
  show (if (f + (k + 1)) % c = f then 0 else U ((f + (k + 1)) % c)) = _
  rw [if_neg hne, hrel (k + 1) (by omega), List.getD_eq_getElem?_getD, List.getElem?_eraseIdx]
  by_cases hki : k < i
  · rw [if_pos (by omega), if_pos hki, Nat.add_sub_cancel, hat k (by omega), List.getD_eq_getElem?_getD]
  · rw [if_neg (by omega), if_neg hki, hat (k + 1) (by omega), List.getD_eq_getElem?_getD]

section
variable {w : World} {a b : Nat} {c f : Nat} {V : Nat → Int} {xs : List Int}
set_option maxHeartbeats 800000
/-- The things ahead of a place are moved over it. -/
theorem close_c (i : Nat) (h : RingAt w a (some ⟨b, 0, none⟩) c f V xs) (hi : i < xs.length) :
    Calls Try.prog 22 #[.pointer (some ⟨a, 0, none⟩), .int .i64 i] w fun e w' => e = .returned (.tuple #[]) ∧ Ring w' a (some ⟨b, 0, none⟩) (xs.eraseIdx i) ∧ Kept (OfG a (some ⟨b, 0, none⟩)) w w' := by
  obtain ⟨b', eb, hb, hf⟩ := h.have (by omega)
  injection eb with eb; injection eb with eb
  subst eb
  have fits := h.fits
  have small := h.small
  have hab : a ≠ b := h.own.ne hb (by decide)
  go_enter Try.func22, Try.ntmps22
  go_wp2_with fail
  go_loopw [1] (fun v wr => ∃ (j : Nat) (U : Nat → Int), j ≤ i ∧ v = .int .i64 j ∧ Is wr a 25 #[.slice (some ⟨b, 0, none⟩) c c, .int .i64 f, .int .i64 xs.length] ∧ Is wr b 3 (slotCells c U) ∧
    (∀ k, k < c → U ((f + k) % c) = if j < k ∧ k ≤ i then V ((f + (k - 1)) % c) else V ((f + k) % c)) ∧ Kept (OfG a (some ⟨b, 0, none⟩)) w wr) (fun v _ => (intOf v).toNat)
  case atStart => exact ⟨i, V, Nat.le_refl _, rfl, h.own, hb, fun k _ => by rw [if_neg (by omega)], Kept.refl _ _⟩
  case round =>
    obtain ⟨j, U, hj, rfl, ho, hU, hrel, hk⟩ := hrel
    cases j with
    | zero =>
      have g0 : wr.cell? ⟨a, 0, none⟩ = some (.slice (some ⟨b, 0, none⟩) c c) := ho.cell 0
      have g1 : wr.cell? ⟨a, 1, none⟩ = some (.int .i64 f) := ho.cell 1
      have hc0 := (hU.cell f).trans (slotCells_at hf)
      have hz0 := hU.free f
      -- the world behind the slot that is cleared
      obtain ⟨w1, hw1⟩ : ∃ w1, (wr.setCell ⟨b, f, none⟩ (.int .i64 0)).drew = w1 := ⟨_, rfl⟩
      have ho1 : Is w1 a 25 #[.slice (some ⟨b, 0, none⟩) c c, .int .i64 f, .int .i64 xs.length] := by rw [← hw1]; exact (ho.other (p := ⟨b, f, none⟩) hab _).drew
      have hU1 : Is w1 b 3 (slotCells c (fun p => if p = f then 0 else U p)) := by rw [← hw1, ← slotCells_set]; exact (hU.set f (.int .i64 0)).drew
      have hk1 : Kept (OfG a (some ⟨b, 0, none⟩)) w w1 := by rw [← hw1]; exact (hk.set (p := ⟨b, f, none⟩) (fun _ => .inr rfl) _).drew
      have HS := hide (slot_c 1 ho1 hf (by omega) small)
      have q1 : w1.frozen? ⟨a, 1, none⟩ = false := ho1.free 1
      have q2 : w1.frozen? ⟨a, 2, none⟩ = false := ho1.free 2
      have q3 : w1.cell? ⟨a, 1, none⟩ = some (.int .i64 f) := ho1.cell 1
      have q4 : w1.cell? ⟨a, 2, none⟩ = some (.int .i64 xs.length) := ho1.cell 2
      have HAT := hide (closed_at hi fits hf hrel h.at_)
      have HO := hide ho1
      have HU := hide hU1
      have HK := hide hk1
      have hel : (xs.eraseIdx i).length = xs.length - 1 := List.length_eraseIdx_of_lt hi
      have hfl : (f + 1) % c < c := Nat.mod_lt _ (by omega)
      clear ho1 hU1 hk1 hrel
      go_wp2_with fail
      go_region
      go_wp2_with fail
      refine HS.out.mono ?_
      rintro e w2 ⟨rfl, n, rfl⟩
      generalize (f + 1) % c = f1 at *
      go_wp2_with fail
      go_end0
      refine ⟨rfl, ⟨c, f1, (fun p => if p = f then 0 else U p), ?_, .inr ⟨b, rfl, ?_, hfl⟩, by omega, small, fun k hk => HAT.out k hk⟩, ?_⟩
      · have := ((HO.out.drewN n).set 1 (.int .i64 (f1 : Int))).set 2 (.int .i64 ((xs.length : Int) - 1))
        rw [hel, show ((xs.length - 1 : Nat) : Int) = (xs.length : Int) - 1 by omega]
        simpa using this
      · exact ((HU.out.drewN n).other (p := ⟨a, 1, none⟩) (fun z => hab z.symm) _).other (p := ⟨a, 2, none⟩) (fun z => hab z.symm) _
      · exact ((HK.out.drewN n).set (p := ⟨a, 1, none⟩) (fun _ => .inl rfl) _).set (p := ⟨a, 2, none⟩) (fun _ => .inl rfl) _
    | succ j =>
      have g0 : wr.cell? ⟨a, 0, none⟩ = some (.slice (some ⟨b, 0, none⟩) c c) := ho.cell 0
      have hlt1 : (f + (j + 1)) % c < c := Nat.mod_lt _ (by omega)
      have hlt0 : (f + j) % c < c := Nat.mod_lt _ (by omega)
      obtain ⟨P, hP⟩ : ∃ P : Int → Nat, ∀ m : Nat, P m = (f + m) % c := ⟨fun m => (f + m.toNat) % c, fun m => rfl⟩
      have cS := hide fun (W : World) (k : Kept Nil wr W) (m : Int) (h0 : 0 ≤ m) (h1 : m ≤ c) => show Calls Try.prog 21 #[.pointer (some ⟨a, 0, none⟩), .int .i64 m] W fun e w' => e = .returned (.int .i64 (P m : Nat)) ∧ Kept Nil wr w' from by
        obtain ⟨m, rfl⟩ : ∃ n : Nat, m = n := ⟨m.toNat, by omega⟩
        rw [hP]
        exact (slot_c m (ho.kept k (fun z => z)) hf (by omega) small).mono (fun e w' ⟨h1, n, h3⟩ => ⟨h1, by subst h3; exact k.drewN n⟩)
      have hP1 : (f + (j + 1)) % c = P ((j : Int) + 1) := (hP (j + 1)).symm
      have hP0 : (f + j) % c = P (j : Int) := (hP j).symm
      clear hP
      obtain ⟨Z, hZ⟩ : ∃ Z : World → Value, ∀ (W : World) v, W.cell? ⟨b, (f + (j + 1)) % c, none⟩ = some v → W.cell? ⟨b, (f + (j + 1)) % c, none⟩ = some (Z W) := ⟨fun W => (W.cell? ⟨b, (f + (j + 1)) % c, none⟩).getD undef, fun W v e => by show _ = some ((W.cell? ⟨b, (f + (j + 1)) % c, none⟩).getD undef); rw [e]; rfl⟩
      have CELLS := hide fun (W : World) (k : Kept Nil wr W) => show W.cell? ⟨a, 0, none⟩ = some (.slice (some ⟨b, 0, none⟩) c c) ∧ W.cell? ⟨b, (f + j) % c, none⟩ = some (.int .i64 (U ((f + j) % c))) ∧ W.cell? ⟨b, (f + (j + 1)) % c, none⟩ = some (Z W) ∧ W.frozen? ⟨b, (f + (j + 1)) % c, none⟩ = false from
        ⟨(ho.kept k (fun z => z)).cell 0, ((hU.kept k (fun z => z)).cell _).trans (slotCells_at hlt0), hZ W _ (((hU.kept k (fun z => z)).cell _).trans (slotCells_at hlt1)), (hU.kept k (fun z => z)).free _⟩
      have hK : Kept Nil wr wr.drew := (Kept.refl _ wr).drew
      -- what the store leaves
      have FIN := hide fun (W : World) (k : Kept Nil wr W) => show ∃ U', Is (W.setCell ⟨b, (f + (j + 1)) % c, none⟩ (.int .i64 (U ((f + j) % c)))) a 25 #[.slice (some ⟨b, 0, none⟩) c c, .int .i64 f, .int .i64 xs.length] ∧ Is (W.setCell ⟨b, (f + (j + 1)) % c, none⟩ (.int .i64 (U ((f + j) % c)))) b 3 (slotCells c U') ∧
          (∀ k, k < c → U' ((f + k) % c) = if j < k ∧ k ≤ i then V ((f + (k - 1)) % c) else V ((f + k) % c)) ∧ Kept (OfG a (some ⟨b, 0, none⟩)) w (W.setCell ⟨b, (f + (j + 1)) % c, none⟩ (.int .i64 (U ((f + j) % c)))) from by
        refine ⟨fun p => if p = (f + (j + 1)) % c then U ((f + j) % c) else U p, (ho.kept k (fun z => z)).other (p := ⟨b, (f + (j + 1)) % c, none⟩) hab _, ?_, fun m hm => ?_, (hk.trans k (fun _ _ z => z.elim)).set (p := ⟨b, (f + (j + 1)) % c, none⟩) (fun _ => .inr rfl) _⟩
        · rw [← slotCells_set]
          exact (hU.kept k (fun z => z)).set _ _
        · show (if (f + m) % c = (f + (j + 1)) % c then U ((f + j) % c) else U ((f + m) % c)) = _
          by_cases hm1 : m = j + 1
          · subst hm1
            rw [if_pos rfl, if_pos (by omega), hrel j (by omega), if_neg (by omega), Nat.add_sub_cancel]
          · rw [if_neg (fun e => hm1 (place_inj hm (by omega) e)), hrel m hm]
            by_cases h2 : j + 1 < m ∧ m ≤ i
            · rw [if_pos h2, if_pos (by omega)]
            · rw [if_neg h2, if_neg (by omega)]
      have AFTER := hide fun (W : World) (k : Kept Nil wr W) => show (W.setCell ⟨b, (f + (j + 1)) % c, none⟩ (.int .i64 (U ((f + j) % c)))).cell? ⟨a, 0, none⟩ = some (.slice (some ⟨b, 0, none⟩) c c) ∧ (W.setCell ⟨b, (f + (j + 1)) % c, none⟩ (.int .i64 (U ((f + j) % c)))).cell? ⟨b, (f + j) % c, none⟩ = some (.int .i64 (U ((f + j) % c))) ∧
          (W.setCell ⟨b, (f + (j + 1)) % c, none⟩ (.int .i64 (U ((f + j) % c)))).cell? ⟨b, (f + (j + 1)) % c, none⟩ = some (Z (W.setCell ⟨b, (f + (j + 1)) % c, none⟩ (.int .i64 (U ((f + j) % c))))) ∧ (W.setCell ⟨b, (f + (j + 1)) % c, none⟩ (.int .i64 (U ((f + j) % c)))).frozen? ⟨b, (f + (j + 1)) % c, none⟩ = false from by
        obtain ⟨U', o1, o2, o3, _⟩ := FIN.out W k
        refine ⟨o1.cell 0, (o2.cell _).trans ((slotCells_at hlt0).trans ?_), hZ _ _ ((o2.cell _).trans (slotCells_at hlt1)), o2.free _⟩
        rw [o3 j (by omega), if_neg (by omega), hrel j (by omega), if_neg (by omega)]
      clear hrel hk hZ
      rw [hP1, hP0] at CELLS FIN AFTER
      rw [hP1] at hlt1
      rw [hP0] at hlt0
      clear hP0 hP1
      go_wp2_with fail
      have hwr : IntKind.i64.wrap (j : Int) = (j : Int) := IntWalk.i64_in _ (by omega)
      go_region_held3 (fun W => W.cell? ⟨a, 0, none⟩ = some (.slice (some ⟨b, 0, none⟩) c c) ∧ W.cell? ⟨b, P (j : Int), none⟩ = some (.int .i64 (U (P (j : Int)))) ∧ W.cell? ⟨b, P ((j : Int) + 1), none⟩ = some (Z W) ∧ W.frozen? ⟨b, P ((j : Int) + 1), none⟩ = false)
        (first | exact CELLS.out _ (by assumption) | exact CELLS.out _ (Kept.drew (by assumption)) | exact AFTER.out _ (by assumption))
        ((go_at_call 21; refine (cS.out _ (by assumption) _ (by omega) (by omega)).mono ?_; rintro e w1 ⟨rfl, hk1⟩))
      clear CELLS cS AFTER hwr
      obtain ⟨U', o1, o2, o3, o4⟩ := FIN.out _ (by assumption)
      have REL := hide (And.intro o1 (And.intro o2 (And.intro o3 o4)))
      clear o1 o2 o3 o4 FIN
      go_wp2_with fail
      go_roundw
      case rel => exact ⟨j, U', by omega, by go_num, REL.out.1, REL.out.2.1, REL.out.2.2.1, REL.out.2.2.2⟩
      case measure => simp [intOf]

/-- Cut. -/
theorem cut_c {A : Option Addr} (i : Int) (h : Ring w a A xs) : Calls Try.prog 9 #[.pointer (some ⟨a, 0, none⟩), .int .i64 i] w fun e w' => e = .returned (.tuple #[.int .i64 (atX xs i), .bool (atB xs i)]) ∧ Ring w' a A (cutL xs i) ∧ Kept (OfG a A) w w' := by
  have ha := hide (rat_c i h)
  by_cases hin : 0 ≤ i ∧ i < xs.length
  · have hx := at_in hin
    rw [cut_in hin, hx.2]
    rw [hx.2] at ha
    obtain ⟨k, rfl⟩ : ∃ k : Nat, i = k := ⟨i.toNat, by omega⟩
    obtain ⟨c, f, V, hr⟩ := h
    obtain ⟨b, rfl, _, _⟩ := hr.have (by omega)
    have hc := hide fun n => close_c k (hr.kept ((Kept.refl Nil w).drewN n) (fun _ _ z => z)) (by omega)
    rw [show (k : Int).toNat = k from rfl]
    clear hx
    generalize atX xs k = x at *
    go_enter Try.func9, Try.ntmps9
    go_wp2_with fail
    refine ha.out.mono ?_
    rintro e w1 ⟨rfl, n, rfl⟩
    go_wp2_with fail
    refine (hc.out n).mono ?_
    rintro e w2 ⟨rfl, hr2, hk2⟩
    go_wp2_with fail
    go_ret2
    exact ⟨rfl, hr2, ((Kept.refl _ w).drewN n).trans hk2 (fun _ _ z => z)⟩
  · have hx := at_out hin
    rw [cut_out hin, hx.1, hx.2]
    rw [hx.1, hx.2] at ha
    go_enter Try.func9, Try.ntmps9
    go_wp2_with fail
    refine ha.out.mono ?_
    rintro e w1 ⟨rfl, n, rfl⟩
    go_wp2_with fail
    go_ret2
    exact ⟨rfl, h.keptNil ((Kept.refl Nil w).drewN n), (Kept.refl _ w).drewN n⟩
theorem cut_nil (i : Int) : Calls Try.prog 9 #[.pointer none, .int .i64 i] w fun e w' => e = .returned (.tuple #[.int .i64 0, .bool false]) ∧ w = w' := by
  go_enter Try.func9, Try.ntmps9
  go_wp2_with fail
  refine (rat_nil i).mono ?_
  rintro e w1 ⟨rfl, rfl⟩
  go_wp2_with fail
  go_ret2
  exact ⟨rfl, rfl⟩
/-- Pop. -/
theorem pop_c {A : Option Addr} (h : Ring w a A xs) : Calls Try.prog 7 #[.pointer (some ⟨a, 0, none⟩)] w fun e w' => e = .returned (.tuple #[.int .i64 (atX xs 0), .bool (atB xs 0)]) ∧ Ring w' a A (cutL xs 0) ∧ Kept (OfG a A) w w' := by
  have hc := hide (cut_c 0 h)
  go_enter Try.func7, Try.ntmps7
  go_wp2_with fail
  refine hc.out.mono ?_
  rintro e w1 ⟨rfl, hr, hk⟩
  go_wp2_with fail
  go_ret2
  exact ⟨rfl, hr, hk⟩
theorem pop_nil : Calls Try.prog 7 #[.pointer none] w fun e w' => e = .returned (.tuple #[.int .i64 0, .bool false]) ∧ w = w' := by
  go_enter Try.func7, Try.ntmps7
  go_wp2_with fail
  refine (cut_nil 0).mono ?_
  rintro e w1 ⟨rfl, rfl⟩
  go_wp2_with fail
  go_ret2
  exact ⟨rfl, rfl⟩
end
end Go.Proofs.Ytfdndpbogljjeaa
