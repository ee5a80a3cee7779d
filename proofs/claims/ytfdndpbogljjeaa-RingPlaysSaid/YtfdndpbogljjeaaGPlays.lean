/- The law RingPlays, walked: all that is told, whatever is pushed, popped and cut. -/
import Derived.Test.YtfdndpbogljjeaaGBoth
namespace Go.Proofs.Ytfdndpbogljjeaa
open Go.RowKit

/-- The acts that came in: act i is (K i, N i). -/
structure Acts (w : World) (L : Option Addr) (n : Nat) (K N : Nat → Int) : Prop where
  at_ : 0 < n → ∃ b o, L = some ⟨b, o, none⟩ ∧ b < w.heap.size ∧ ∀ i, i < n → w.cell? ⟨b, o + i * 2, none⟩ = some (.int .i64 (K i)) ∧ w.cell? ⟨b, o + i * 2 + 1, none⟩ = some (.int .i64 (N i))

theorem cutL_len (xs : List Int) (i : Int) : (cutL xs i).length ≤ xs.length := by
  unfold cutL
  split
  · exact List.length_eraseIdx_le _ _
  · exact Nat.le_refl _

/-- A slice that the program built: nil, or a block's beginning. -/
theorem row_form {w : World} {A : Option Addr} {n c : Nat} {l : List Int} (h : Row w (.slice A n c) l) : (A = none ∧ c = 0 ∧ l.length = 0) ∨ ∃ g, A = some ⟨g, 0, none⟩ ∧ l.length ≤ c := by
  rcases h.2 with ⟨e, h0⟩ | ⟨g, cap, cur, e, _, hh, hc, _⟩
  · injection e with e1 e2 e3
    exact .inl ⟨e1, e3, h0⟩
  · injection e with e1 e2 e3
    exact .inr ⟨g, e1, by omega⟩
theorem row_take {w : World} {A : Option Addr} {n c t : Nat} {l : List Int} (h : Row w (.slice A n c) l) (ht : t ≤ l.length) : Nums w (.slice A t c) (l.take t) := by
  have hl : (l.take t).length = t := by rw [List.length_take]; omega
  refine ⟨A, c, by rw [hl], fun h0 => ?_⟩
  rw [hl] at h0
  obtain ⟨g, e, _, _⟩ := h.cell (k := 0) (by omega)
  subst e
  obtain ⟨cur, hi, _⟩ := h.block (g := g) rfl
  refine ⟨g, 0, rfl, hi.lt, fun k hk => ?_⟩
  rw [hl] at hk
  obtain ⟨g2, e2, hc, _⟩ := h.cell (k := k) (by omega)
  injection e2 with e2
  injection e2 with e2
  subst e2
  rw [Nat.zero_add, hc]
  simp [List.getD_eq_getElem?_getD, hk]

section
variable {w : World} {L : Option Addr} {n cap : Nat} {K N : Nat → Int}
set_option maxHeartbeats 4000000
set_option maxRecDepth 100000

theorem plays_short (m : Int) (h : 60 < n) : Calls Try.prog 5 #[.slice L n cap, .int .u8 m] w fun e w' => e = .returned (.bool true) ∧ Kept Nil w w' := by
  have Ha := hide (rawake_c w)
  go_enter Try.func5, Try.ntmps5
  go_wp2_with fail
  refine Ha.out.mono ?_
  rintro e w1 ⟨rfl, k1⟩
  go_wp2_with fail
  go_ret
  exact ⟨rfl, k1⟩

theorem plays_long (m : Int) (hm0 : 0 ≤ m) (hm1 : m ≤ 255) (hacts : Acts w L n K N) (hn : n ≤ 60) : Calls Try.prog 5 #[.slice L n cap, .int .u8 m] w fun e w' => e = .returned (.bool true) ∧ Kept Nil w w' := by
  have hmf : ∀ (fn : Fn) (first cap : Array Value) (w : World), (Instr.makeFunc fn first cap).run Try.prog w = .ok (.func fn first cap) w := fun _ _ _ _ => rfl
  obtain ⟨i0, hi, hz0, hz1, hz2⟩ := info_parts info_int
  have k0 := (Kept.refl Nil w).alloc (.cells #[.slice none 0 0, .int .i64 0, .int .i64 0] 25)
  have hr0 : RF w (w.alloc (.cells #[.slice none 0 0, .int .i64 0, .int .i64 0] 25)) (In none) w.heap.size [] :=
    ⟨⟨none, ring_new (Is.new w _ _), fun g e => ⟨Nat.le_of_eq (ofg_none e).symm, fun z => by cases z⟩⟩, k0, fun g z => by cases z⟩
  have HR0 := hide hr0
  have HAC := hide hacts
  clear hr0 k0 hacts
  go_enter Try.func5, Try.ntmps5
  go_wp2_with fail
  obtain ⟨a, ha⟩ : ∃ a, w.heap.size = a := ⟨_, rfl⟩
  rw [ha] at HR0 ⊢
  clear ha
  generalize w.alloc (.cells #[.slice none 0 0, .int .i64 0, .int .i64 0] 25) = w1 at *
  go_wp2_with fail
  go_loopw [6, 7] (fun v i wr => ∃ (k : Nat) (A : Option Addr) (c : Nat) (xs : List Int), k ≤ n ∧ i = .int .i64 k ∧ v = .slice A xs.length c ∧ Row wr (.slice A xs.length c) xs ∧ RF w wr (In A) a xs ∧ (∀ g, In A g → w.heap.size ≤ g) ∧ xs.length ≤ k) (fun _ i _ => n - (intOf i).toNat)
  case atStart => exact ⟨0, none, 0, [], Nat.zero_le _, rfl, rfl, Row.empty _, HR0.out, fun g z => absurd z (in_none g), Nat.le_refl _⟩
  case round =>
    obtain ⟨k, A, c, xs, hk, rfl, rfl, hrow, hrf, hge, hxk⟩ := hrel
    by_cases hlt : k < n
    · obtain ⟨bl, ol, rfl, hbl, hcells⟩ := HAC.out.at_ (by omega)
      obtain ⟨e0, e1⟩ := hcells k hlt
      have e0 : wr.cell? ⟨bl, ol + k * 2, none⟩ = _ := (hrf.kept.cell (p := ⟨bl, ol + k * 2, none⟩) hbl (fun z => z)).trans e0
      have e1 : wr.cell? ⟨bl, ol + k * 2 + 1, none⟩ = _ := (hrf.kept.cell (p := ⟨bl, ol + k * 2 + 1, none⟩) hbl (fun z => z)).trans e1
      have hblr : bl < wr.heap.size := Nat.lt_of_lt_of_le hbl hrf.kept.size
      have hps := PS.start hrf hrow hge (N k)
      have HP := hide hps
      clear hcells hps hrow hrf hge HR0
      generalize K k = κ at *
      generalize N k = x at *
      obtain ⟨B, hB⟩ : ∃ B, wr.heap.size = B := ⟨_, rfl⟩
      obtain ⟨w2, hw2⟩ : ∃ w2, wr.alloc (.cells #[.int .i64 x] 3) = w2 := ⟨_, rfl⟩
      have e2 : w2.cell? ⟨bl, ol + k * 2, none⟩ = some (.int .i64 κ) := by rw [← hw2]; exact (((Kept.refl Nil wr).alloc (.cells #[.int .i64 x] 3)).cell (p := ⟨bl, ol + k * 2, none⟩) hblr (fun z => z)).trans e0
      rw [hw2, hB] at HP
      rcases (show κ = 0 ∨ κ = 1 ∨ κ = 2 ∨ (¬ κ = 0 ∧ ¬ κ = 1 ∧ ¬ κ = 2) by omega) with rfl | rfl | rfl | ⟨hk0, hk1, hk2⟩
      · have cb0 := HP.out.box.cell 0
        simp at cb0
        have HP1 := hide (pushP x HP.out (by omega))
        go_wp2_with fail
        refine HP1.out.mono ?_
        rintro e w3 ⟨rfl, h3⟩
        have cb3 := h3.box.cell 0
        simp at cb3
        have HP3 := hide h3
        clear h3 HP1 HP cb0
        obtain ⟨L, hL⟩ : ∃ L, xs ++ [x] = L := ⟨_, rfl⟩
        have hLl : xs.length + 1 = L.length := by rw [← hL]; simp
        have HM := hide (show xs.length + 1 ≤ maxLen ∧ (xs.length + 1) * 8 ≤ 140737488355328 from ⟨by unfold maxLen; omega, by omega⟩)
        have HG := hide fun (w1 : World) (v' : Value) (o : Obj) => Row.push (w := w3.alloc o) (w' := w1) (l := xs) (A := A) (c := c) (v' := v') (x := x)
        have HLL := hide (And.intro hL hLl)
        clear hL
        go_wp2_with (at_builtin; refine wpList_append_own_at _ rfl (.tmp 48) (.tmp 50) _ rfl 0 3 i0 (.int .i64 0) 1 8 Try.underlying23 hi hz0 hz1 hz2 rfl (by decide) (.slice A xs.length c) xs.length (xs.map (Value.int .i64)) rfl (HP3.out.row.alloc _) ⟨w3.heap.size, 0, none⟩ 1 1 [.int .i64 x] rfl rfl (cell_one_new _ _ _) (by intro u hu; simp at hu; subst hu; rfl) HM.out.1 HM.out.2 (Nat.zero_le _) ?_; intro v' w4 hown' hgrow _ hat; obtain ⟨A3, c3, rfl, hrow2, hk2, hin2⟩ := HG.out w4 v' _ hown' hgrow hat; have HD := hide (And.intro hrow2 (And.intro hk2 hin2)); clear hown' hgrow hat hrow2 hk2 hin2; have cb4 : w4.cell? ⟨B, 0, none⟩ = some (.int .i64 x) := ((HP3.out.box.alloc _).kept HD.out.2.1 HP3.out.apart).cell 0; rw [hLl])
        have hll := HLL.out.2
        have h3' : PS w w3 a B x A c L xs := by rw [← HLL.out.1]; exact HP3.out
        have HP := hide (h3'.row' (zs := L) (A' := A3) (c' := c3) (by rw [← HLL.out.2, ← HLL.out.1]; exact HD.out.1) (((Kept.refl (In A) w3).alloc (.cells #[.int .i64 x] 3)).trans HD.out.2.1 (fun _ _ z => z)) (fun _ z => z) (fun g hg => (HD.out.2.2 g hg).imp id (fun e => by simp at e; omega)))
        clear h3' HP3 HD HM HG cb3 cb4 HLL
        have cb := HP.out.box.cell 0
        simp at cb
        have hxl : L.length ≤ 60 := by omega
        have HA1 := hide (atP x HP.out)
        refine HA1.out.mono ?_
        rintro e w5 ⟨rfl, h5, k5⟩
        have cb5 := h5.box.cell 0
        simp at cb5
        have HP5 := hide h5
        clear h5 k5 HA1 HP cb
        have HD1 := hide (datP x HP5.out)
        go_wp2_with fail
        refine HD1.out.mono ?_
        rintro e w6 ⟨rfl, rfl⟩
        clear HD1
        have cL := hide fun (W : World) (k : Kept Nil w5 W) => lenP (HP5.out.keptNil k)
        have cF := hide fun (W : World) (k : Kept Nil w5 W) => (findP (HP5.out.keptNil k) (by omega)).mono (R' := fun e w' => e = .returned (.int .i64 (findI L fun y => y == x)) ∧ Kept Nil w5 w') (fun e w' ⟨h1, h3⟩ => ⟨h1, k.trans h3 (fun _ _ z => z)⟩)
        have cD := hide fun (W : World) (k : Kept Nil w5 W) => dfindP x (HP5.out.keptNil k) (by omega)
        have CELLS := hide fun (W : World) (k : Kept Nil w5 W) => (HP5.out.box.kept k (fun z => z)).cell 0
        have hK : Kept Nil w5 w5.drew := (Kept.refl _ w5).drew
        have HP6 := hide fun (W : World) (k : Kept Nil w5 W) => HP5.out.keptNil k
        generalize findI L (fun y => y == x) = F at *
        go_wp2_with fail
        go_region_held3 (fun W => W.cell? ⟨B, 0, none⟩ = some (.int .i64 x))
          (first | exact CELLS.out _ (by assumption) | exact CELLS.out _ (Kept.drew (by assumption)))
          (first
            | (go_at_call 10; refine (cL.out _ (by assumption)).mono ?_; rintro e w7 ⟨rfl, rfl⟩)
            | (go_at_call 13; refine (cF.out _ (by assumption)).mono ?_; rintro e w7 ⟨rfl, hk7⟩)
            | (go_at_call 19; refine (cD.out _ (by assumption)).mono ?_; rintro e w7 ⟨rfl, rfl⟩))
        have HP7 := hide (HP6.out _ (by assumption))
        clear cL cF cD CELLS HP6 HP5
        go_wp2_with fail
        go_roundw
        case rel => exact ⟨k + 1, A3, c3, L, by omega, by go_num, rfl, HP7.out.row, HP7.out.done, HP7.out.new, by omega⟩
        case measure => simp [intOf]; omega
      · have HP1 := hide (popP HP.out)
        go_wp2_with fail
        refine HP1.out.mono ?_
        rintro e w3 ⟨rfl, h3⟩
        have HP3 := hide h3
        clear h3 HP1 HP
        have HD := hide (dcutP 0 HP3.out (by omega))
        go_wp2_with fail
        refine HD.out.mono ?_
        rintro e w4 ⟨A4, c4, rfl, h4⟩
        have hll := cutL_len xs 0
        have HP := hide h4
        clear h4 HD HP3
        generalize cutL xs 0 = L at *
        have cb := HP.out.box.cell 0
        simp at cb
        have hxl : L.length ≤ 60 := by omega
        have HA1 := hide (atP x HP.out)
        go_wp2_with fail
        refine HA1.out.mono ?_
        rintro e w5 ⟨rfl, h5, k5⟩
        have cb5 := h5.box.cell 0
        simp at cb5
        have HP5 := hide h5
        clear h5 k5 HA1 HP cb
        have HD1 := hide (datP x HP5.out)
        go_wp2_with fail
        refine HD1.out.mono ?_
        rintro e w6 ⟨rfl, rfl⟩
        clear HD1
        have cL := hide fun (W : World) (k : Kept Nil w5 W) => lenP (HP5.out.keptNil k)
        have cF := hide fun (W : World) (k : Kept Nil w5 W) => (findP (HP5.out.keptNil k) (by omega)).mono (R' := fun e w' => e = .returned (.int .i64 (findI L fun y => y == x)) ∧ Kept Nil w5 w') (fun e w' ⟨h1, h3⟩ => ⟨h1, k.trans h3 (fun _ _ z => z)⟩)
        have cD := hide fun (W : World) (k : Kept Nil w5 W) => dfindP x (HP5.out.keptNil k) (by omega)
        have CELLS := hide fun (W : World) (k : Kept Nil w5 W) => (HP5.out.box.kept k (fun z => z)).cell 0
        have hK : Kept Nil w5 w5.drew := (Kept.refl _ w5).drew
        have HP6 := hide fun (W : World) (k : Kept Nil w5 W) => HP5.out.keptNil k
        generalize findI L (fun y => y == x) = F at *
        go_wp2_with fail
        go_region_held3 (fun W => W.cell? ⟨B, 0, none⟩ = some (.int .i64 x))
          (first | exact CELLS.out _ (by assumption) | exact CELLS.out _ (Kept.drew (by assumption)))
          (first
            | (go_at_call 10; refine (cL.out _ (by assumption)).mono ?_; rintro e w7 ⟨rfl, rfl⟩)
            | (go_at_call 13; refine (cF.out _ (by assumption)).mono ?_; rintro e w7 ⟨rfl, hk7⟩)
            | (go_at_call 19; refine (cD.out _ (by assumption)).mono ?_; rintro e w7 ⟨rfl, rfl⟩))
        have HP7 := hide (HP6.out _ (by assumption))
        clear cL cF cD CELLS HP6 HP5
        go_wp2_with fail
        go_roundw
        case rel => exact ⟨k + 1, A4, c4, L, by omega, by go_num, rfl, HP7.out.row, HP7.out.done, HP7.out.new, by omega⟩
        case measure => simp [intOf]; omega
      · have cb0 := HP.out.box.cell 0
        simp at cb0
        have HP1 := hide (cutP x HP.out)
        go_wp2_with fail
        refine HP1.out.mono ?_
        rintro e w3 ⟨rfl, h3⟩
        have cb3 := h3.box.cell 0
        simp at cb3
        have HP3 := hide h3
        clear h3 HP1 HP cb0
        have HD := hide (dcutP x HP3.out (by omega))
        go_wp2_with fail
        refine HD.out.mono ?_
        rintro e w4 ⟨A4, c4, rfl, h4⟩
        have hll := cutL_len xs x
        have HP := hide h4
        clear h4 HD HP3 cb3
        generalize cutL xs x = L at *
        have cb := HP.out.box.cell 0
        simp at cb
        have hxl : L.length ≤ 60 := by omega
        have HA1 := hide (atP x HP.out)
        go_wp2_with fail
        refine HA1.out.mono ?_
        rintro e w5 ⟨rfl, h5, k5⟩
        have cb5 := h5.box.cell 0
        simp at cb5
        have HP5 := hide h5
        clear h5 k5 HA1 HP cb
        have HD1 := hide (datP x HP5.out)
        go_wp2_with fail
        refine HD1.out.mono ?_
        rintro e w6 ⟨rfl, rfl⟩
        clear HD1
        have cL := hide fun (W : World) (k : Kept Nil w5 W) => lenP (HP5.out.keptNil k)
        have cF := hide fun (W : World) (k : Kept Nil w5 W) => (findP (HP5.out.keptNil k) (by omega)).mono (R' := fun e w' => e = .returned (.int .i64 (findI L fun y => y == x)) ∧ Kept Nil w5 w') (fun e w' ⟨h1, h3⟩ => ⟨h1, k.trans h3 (fun _ _ z => z)⟩)
        have cD := hide fun (W : World) (k : Kept Nil w5 W) => dfindP x (HP5.out.keptNil k) (by omega)
        have CELLS := hide fun (W : World) (k : Kept Nil w5 W) => (HP5.out.box.kept k (fun z => z)).cell 0
        have hK : Kept Nil w5 w5.drew := (Kept.refl _ w5).drew
        have HP6 := hide fun (W : World) (k : Kept Nil w5 W) => HP5.out.keptNil k
        generalize findI L (fun y => y == x) = F at *
        go_wp2_with fail
        go_region_held3 (fun W => W.cell? ⟨B, 0, none⟩ = some (.int .i64 x))
          (first | exact CELLS.out _ (by assumption) | exact CELLS.out _ (Kept.drew (by assumption)))
          (first
            | (go_at_call 10; refine (cL.out _ (by assumption)).mono ?_; rintro e w7 ⟨rfl, rfl⟩)
            | (go_at_call 13; refine (cF.out _ (by assumption)).mono ?_; rintro e w7 ⟨rfl, hk7⟩)
            | (go_at_call 19; refine (cD.out _ (by assumption)).mono ?_; rintro e w7 ⟨rfl, rfl⟩))
        have HP7 := hide (HP6.out _ (by assumption))
        clear cL cF cD CELLS HP6 HP5
        go_wp2_with fail
        go_roundw
        case rel => exact ⟨k + 1, A4, c4, L, by omega, by go_num, rfl, HP7.out.row, HP7.out.done, HP7.out.new, by omega⟩
        case measure => simp [intOf]; omega
      · have q0 : (κ == 0) = false := by simpa using hk0
        have q1 : (κ == 1) = false := by simpa using hk1
        have q2 : (κ == 2) = false := by simpa using hk2
        have cb := HP.out.box.cell 0
        simp at cb
        have hxl : xs.length ≤ 60 := by omega
        have HA1 := hide (atP x HP.out)
        go_wp2_with fail
        refine HA1.out.mono ?_
        rintro e w5 ⟨rfl, h5, k5⟩
        have cb5 := h5.box.cell 0
        simp at cb5
        have HP5 := hide h5
        clear h5 k5 HA1 HP cb
        have HD1 := hide (datP x HP5.out)
        go_wp2_with fail
        refine HD1.out.mono ?_
        rintro e w6 ⟨rfl, rfl⟩
        clear HD1
        have cL := hide fun (W : World) (k : Kept Nil w5 W) => lenP (HP5.out.keptNil k)
        have cF := hide fun (W : World) (k : Kept Nil w5 W) => (findP (HP5.out.keptNil k) (by omega)).mono (R' := fun e w' => e = .returned (.int .i64 (findI xs fun y => y == x)) ∧ Kept Nil w5 w') (fun e w' ⟨h1, h3⟩ => ⟨h1, k.trans h3 (fun _ _ z => z)⟩)
        have cD := hide fun (W : World) (k : Kept Nil w5 W) => dfindP x (HP5.out.keptNil k) (by omega)
        have CELLS := hide fun (W : World) (k : Kept Nil w5 W) => (HP5.out.box.kept k (fun z => z)).cell 0
        have hK : Kept Nil w5 w5.drew := (Kept.refl _ w5).drew
        have HP6 := hide fun (W : World) (k : Kept Nil w5 W) => HP5.out.keptNil k
        generalize findI xs (fun y => y == x) = F at *
        go_wp2_with fail
        go_region_held3 (fun W => W.cell? ⟨B, 0, none⟩ = some (.int .i64 x))
          (first | exact CELLS.out _ (by assumption) | exact CELLS.out _ (Kept.drew (by assumption)))
          (first
            | (go_at_call 10; refine (cL.out _ (by assumption)).mono ?_; rintro e w7 ⟨rfl, rfl⟩)
            | (go_at_call 13; refine (cF.out _ (by assumption)).mono ?_; rintro e w7 ⟨rfl, hk7⟩)
            | (go_at_call 19; refine (cD.out _ (by assumption)).mono ?_; rintro e w7 ⟨rfl, rfl⟩))
        have HP7 := hide (HP6.out _ (by assumption))
        clear cL cF cD CELLS HP6 HP5
        go_wp2_with fail
        go_roundw
        case rel => exact ⟨k + 1, A, c, xs, by omega, by go_num, rfl, HP7.out.row, HP7.out.done, HP7.out.new, by omega⟩
        case measure => simp [intOf]; omega
    · obtain rfl : k = n := by omega
      have hform := row_form hrow
      have HX := hide (And.intro hrow (And.intro hrf hge))
      clear hrow hrf hge HR0
      obtain ⟨kk, hmax⟩ : ∃ kk : Nat, (if (1 : Int) < m then m else 1) = (kk : Int) := ⟨(if (1 : Int) < m then m else 1).toNat, by split <;> omega⟩
      have hkk : 1 ≤ (kk : Int) := by rw [← hmax]; split <;> omega
      obtain ⟨t, hmin⟩ : ∃ t : Nat, (if (xs.length : Int) < (kk : Int) then (xs.length : Int) else (kk : Int)) = (t : Int) := ⟨(if (xs.length : Int) < (kk : Int) then (xs.length : Int) else (kk : Int)).toNat, by split <;> omega⟩
      have htl : t ≤ xs.length ∧ xs.take (kk : Int).toNat = xs.take t := by
        rw [show (kk : Int).toNat = kk from rfl]
        by_cases z : (xs.length : Int) < (kk : Int)
        · rw [if_pos z] at hmin
          exact ⟨by omega, by rw [List.take_of_length_le (by omega), show t = xs.length by omega, List.take_length]⟩
        · rw [if_neg z] at hmin
          exact ⟨by omega, by rw [show kk = t by omega]⟩
      obtain ⟨htl, htk⟩ := htl
      have hmin2 : (if xs.length < kk then (xs.length : Int) else (kk : Int)) = (t : Int) := by rw [← hmin]; simp
      have hcol := fun (W : World) (k : Kept Nil wr W) => collectF (kk : Int) hkk (HX.out.2.1.keptNil k) (by omega)
      rw [htk] at hcol
      clear htk
      have hrowT := row_take HX.out.1 htl
      obtain ⟨l2, hl2⟩ : ∃ l2, xs.take t = l2 := ⟨_, rfl⟩
      have hl2l : l2.length ≤ 60 := by rw [← hl2, List.length_take]; omega
      rw [hl2] at hcol hrowT
      clear hl2
      have cA := hide fun (W : World) (k : Kept Nil wr W) => (hcol W k).mono (R' := fun e w' => ∃ v, e = .returned v ∧ Nums w' v l2 ∧ Kept Nil wr w') (fun e w' ⟨v, h1, h2, _, h3⟩ => ⟨v, h1, h2, k.trans h3 (fun _ _ z => z)⟩)
      have cS := hide fun (W : World) (v : Value) (k : Kept Nil wr W) (hv : Nums W v l2) => (same_nums hv (hrowT.kept k) (by omega)).mono (R' := fun e w' => e = .returned (.bool true) ∧ Kept Nil wr w') (fun e w' ⟨h1, n4, h3⟩ => ⟨h1, by subst h3; exact k.drewN n4⟩)
      have cW := hide fun (W : World) (k : Kept Nil wr W) => (rawake_c W).mono (R' := fun e w' => e = .returned (.bool true) ∧ Kept Nil wr w') (fun e w' ⟨h1, h3⟩ => ⟨h1, k.trans h3 (fun _ _ z => z)⟩)
      clear hcol hrowT
      have hK : Kept Nil wr wr.drew := (Kept.refl _ wr).drew
      rcases hform with ⟨rfl, rfl, hl0⟩ | ⟨gA, rfl, hlc⟩
      · obtain rfl : t = 0 := by omega
        clear hl0
        go_wp2_with fail
        go_region_held3 (fun _ => True)
          (trivial)
          (first
            | (go_at_call 12; refine (cA.out _ (by assumption)).mono ?_; rintro e w7 ⟨v7, rfl, hv7, hk7⟩)
            | (go_at_call 15; refine (cS.out _ _ (by assumption) (by assumption)).mono ?_; rintro e w8 ⟨rfl, hk8⟩)
            | (go_at_call 14; refine (cW.out _ (by assumption)).mono ?_; rintro e w9 ⟨rfl, hk9⟩))
        all_goals go_wp2_with fail
        all_goals go_ret
        all_goals exact ⟨rfl, HX.out.2.1.kept.trans (by assumption) (fun _ _ z => z)⟩
      · have htl2 : (t : Int) ≤ (c : Int) := by omega
        go_wp2_with fail
        go_region_held3 (fun _ => True)
          (trivial)
          (first
            | (go_at_call 12; refine (cA.out _ (by assumption)).mono ?_; rintro e w7 ⟨v7, rfl, hv7, hk7⟩)
            | (go_at_call 15; refine (cS.out _ _ (by assumption) (by assumption)).mono ?_; rintro e w8 ⟨rfl, hk8⟩)
            | (go_at_call 14; refine (cW.out _ (by assumption)).mono ?_; rintro e w9 ⟨rfl, hk9⟩))
        all_goals go_wp2_with fail
        all_goals go_ret
        all_goals exact ⟨rfl, HX.out.2.1.kept.trans (by assumption) (fun _ _ z => z)⟩
end
end Go.Proofs.Ytfdndpbogljjeaa
