/- What must come, whatever the arguments are: the laws' helper awake. -/
import Derived.Test.YtcpcdfihgabelaaDoorTREven
import Derived.Test.YtcpcdfihgabelaaDoorTRParse
import Derived.Test.YtcpcdfihgabelaaDoorTRMore
import Derived.Test.YtcpcdfihgabelaaDoorTTextP
namespace Go.Proofs.YtcpcdfihgabelaaDoor
open Go.RowKit
set_option maxRecDepth 100000

theorem Told.open {P T : List Int} {x : Int} {w : World} {e : Ending} {w' : World} (h : Told P T x w e w') : ∃ A1 c1 A2 c2, e = .returned (.tuple #[.agg #[.slice A1 P.length c1, .slice A2 T.length c2], .int .i64 x]) ∧ Nums w' (.slice A1 P.length c1) P ∧ Nums w' (.slice A2 T.length c2) T ∧ Kept Nil w w' := by
  obtain ⟨hk, v, rfl, a, b, rfl, ha, hb⟩ := h
  obtain ⟨A1, c1, rfl, _⟩ := id ha
  obtain ⟨A2, c2, rfl, _⟩ := id hb
  exact ⟨A1, c1, A2, c2, rfl, ha, hb, hk⟩
/-- A topology in a box. -/
structure Bx (W : World) (b : Nat) (A1 : Option Addr) (c1 : Nat) (A2 : Option Addr) (c2 : Nat) (P T : List Int) : Prop where
  is_ : Is W b 24 #[.slice A1 P.length c1, .slice A2 T.length c2]
  n1 : Nums W (.slice A1 P.length c1) P
  n2 : Nums W (.slice A2 T.length c2) T
section
variable {W w' : World} {b : Nat} {A1 A2 : Option Addr} {c1 c2 : Nat} {P T : List Int}
theorem Bx.keep (h : Bx W b A1 c1 A2 c2 P T) (k : Kept Nil W w') : Bx w' b A1 c1 A2 c2 P T := ⟨h.is_.kept k (fun z => z), h.n1.kept k, h.n2.kept k⟩
theorem Bx.new (h1 : Nums W (.slice A1 P.length c1) P) (h2 : Nums W (.slice A2 T.length c2) T) : Bx (W.alloc (.cells #[.slice A1 P.length c1, .slice A2 T.length c2] 24)) W.heap.size A1 c1 A2 c2 P T :=
  ⟨Is.new W _ _, h1.kept ((Kept.refl _ W).alloc _), h2.kept ((Kept.refl _ W).alloc _)⟩
theorem Bx.topo (h : Bx W b A1 c1 A2 c2 P T) : Topo W (.agg #[.slice A1 P.length c1, .slice A2 T.length c2]) P T := ⟨_, _, rfl, h.n1, h.n2⟩
end
theorem ints_new (w : World) (l : List Int) : Nums (w.alloc (.cells (l.map (Value.int .i64)).toArray 3)) (.slice (some ⟨w.heap.size, 0, none⟩) l.length l.length) l := by
  refine ⟨_, _, rfl, fun _ => ⟨w.heap.size, 0, rfl, by simp, fun k hk => ?_⟩⟩
  rw [Nat.zero_add, (Is.new w 3 (l.map (Value.int .i64)).toArray).cell k]
  simp [List.getD, hk]
theorem a_text : ttxt [-1, 0, 0] [1, 1, 1, 2, 2, 2] = [110, 111, 100, 101, 115, 32, 45, 49, 44, 48, 44, 48, 10, 116, 104, 114, 101, 97, 100, 115, 32, 49, 44, 49, 44, 49, 44, 50, 44, 50, 44, 50, 10] := by
  have h0 : nt 0 = [48] := nt_zero
  have h1 : nt 1 = [49] := nt_small (by decide)
  have h2 : nt 2 = [50] := nt_small (by decide)
  have e1 : txt (-1) = [45, 49] := by rw [txt_neg (by decide)]; show 45 :: nt 1 = _; rw [h1]
  have e0 : txt 0 = [48] := by rw [txt_pos (by decide)]; exact h0
  have e2 : txt 1 = [49] := by rw [txt_pos (by decide)]; exact h1
  have e3 : txt 2 = [50] := by rw [txt_pos (by decide)]; exact h2
  unfold ttxt ltxt
  simp only [List.map_cons, List.map_nil, e0, e1, e2, e3]
  rfl
theorem a_in : (∀ n ∈ ([-1, 0, 0] : List Int), InR n) ∧ ∀ n ∈ ([1, 1, 1, 2, 2, 2] : List Int), InR n := by
  constructor <;> intro n hn <;> simp at hn <;> unfold InR <;> omega
theorem a_chk : chk [-1, 0, 0] [1, 1, 1, 2, 2, 2] = 0 := by decide +kernel
theorem a_parse : prs [110, 111, 100, 101, 115, 32, 45, 49, 44, 48, 44, 48, 10, 116, 104, 114, 101, 97, 100, 115, 32, 49, 44, 49, 44, 49, 44, 50, 44, 50, 44, 50, 10] = ([-1, 0, 0], [1, 1, 1, 2, 2, 2], 0) := by
  rw [← a_text]
  exact prs_back a_chk a_in.1 a_in.2

section
variable (w : World)
set_option maxHeartbeats 1000000
theorem aw1 : Calls Tryd.prog 22 #[.slice (some ⟨w.heap.size, 0, none⟩) 1 1, .int .i64 3] (w.alloc (.cells #[.int .i64 2] 3)) (Told [-1, 0, 0] [1, 1, 1, 2, 2, 2] 0 (w.alloc (.cells #[.int .i64 2] 3))) :=
  even_c (parts := [2]) 3 (by decide +kernel) (ints_new w [2]) (by decide)
theorem aw2 {n : Nat} (hn : w.heap.size = n) : Calls Tryd.prog 22 #[.slice (some ⟨n, 0, none⟩) 2 2, .int .i64 3] (w.alloc (.cells #[.int .i64 2, .int .i64 0] 3)) (Told [] [] 1 (w.alloc (.cells #[.int .i64 2, .int .i64 0] 3))) :=
  hn ▸ even_c (parts := [2, 0]) 3 (by decide +kernel) (ints_new w [2, 0]) (by decide)
theorem aw3 (hm : MaxL w) : Calls Tryd.prog 10 #[.string ⟨#[110, 111, 100, 101, 115, 32, 45, 49, 44, 48, 44, 48, 10, 116, 104, 114, 101, 97, 100, 115, 32, 49, 44, 49, 44, 49, 44, 50, 44, 50, 44, 50, 10]⟩] w (Told [-1, 0, 0] [1, 1, 1, 2, 2, 2] 0 w) :=
  parse2_c ⟨#[110, 111, 100, 101, 115, 32, 45, 49, 44, 48, 44, 48, 10, 116, 104, 114, 101, 97, 100, 115, 32, 49, 44, 49, 44, 49, 44, 50, 44, 50, 44, 50, 10]⟩ a_parse (by decide) hm
theorem aw4 : Calls Tryd.prog 11 #[.agg #[.slice (some ⟨w.heap.size, 0, none⟩) 1 1, .slice (some ⟨w.heap.size + 1, 0, none⟩) 1 1]] ((w.alloc (.cells #[.int .i64 0] 3)).alloc (.cells #[.int .i64 0] 3)) fun e w' => e = .returned (.int .i64 9) ∧ Kept Nil w w' := by
  have h1 := (ints_new w [0]).kept ((Kept.refl Nil (w.alloc (.cells #[.int .i64 0] 3))).alloc (.cells #[.int .i64 0] 3))
  have h2 := ints_new (w.alloc (.cells #[.int .i64 0] 3)) [0]
  rw [show (w.alloc (.cells #[.int .i64 0] 3)).heap.size = w.heap.size + 1 by simp] at h2
  exact (tcheck_c (P := [0]) (T := [0]) ⟨_, _, rfl, h1, h2⟩).mono fun e w' ⟨h3, h4⟩ => ⟨h3, (((Kept.refl Nil w).alloc _).alloc _).trans h4 (fun _ _ z => z)⟩
theorem asame {l : List Int} {v : Value} {n : Nat} (h : Nums w v l) (hl : l.length ≤ 65536) (hn : w.heap.size = n) : Calls Tryd.prog 18 #[v, .slice (some ⟨n, 0, none⟩) l.length l.length] (w.alloc (.cells (l.map (Value.int .i64)).toArray 3)) fun e w' => e = .returned (.bool true) ∧ Kept Nil w w' := by
  subst hn
  have hk := (Kept.refl Nil w).alloc (.cells (l.map (Value.int .i64)).toArray 3)
  exact (rsame_c (b := true) (by simp) (h.kept hk) (ints_new w l) hl hl).mono fun e w' ⟨h1, q, h2⟩ => ⟨h1, by rw [h2]; exact hk.drewN q⟩
theorem awake_c (hm : MaxL w) : Calls Tryd.prog 8 #[] w fun e w' => e = .returned (.bool true) ∧ Kept Nil w w' := by
  have HM := hide hm
  clear hm
  go_enter Tryd.func8, Tryd.ntmps8
  go_wp2_with fail
  refine (aw1 w).mono ?_
  rintro e w1 ht
  obtain ⟨A1, c1, A2, c2, rfl, n1, n2, hk⟩ := ht.open
  have B1 := hide (show Bx (w1.alloc (.cells #[.slice A1 3 c1, .slice A2 6 c2] 24)) w1.heap.size A1 c1 A2 c2 [-1, 0, 0] [1, 1, 1, 2, 2, 2] from Bx.new n1 n2)
  have K1 := hide ((((Kept.refl Nil w).alloc (.cells #[.int .i64 2] 3)).trans hk (fun _ _ z => z)).alloc (.cells #[.slice A1 3 c1, .slice A2 6 c2] 24))
  clear ht n1 n2 hk
  go_wp2_with fail
  refine (aw2 (w1.alloc (.cells #[.slice A1 3 c1, .slice A2 6 c2] 24)) (by simp)).mono ?_
  rintro e w2 ht
  obtain ⟨A3, c3, A4, c4, rfl, _, _, hk⟩ := ht.open
  have hk2 := ((Kept.refl Nil (w1.alloc (.cells #[.slice A1 3 c1, .slice A2 6 c2] 24))).alloc (.cells #[.int .i64 2, .int .i64 0] 3)).trans hk (fun _ _ z => z)
  have hk3 := hk2.alloc (.cells #[.slice A3 0 c3, .slice A4 0 c4] 24)
  have B2 := hide (B1.out.keep hk3)
  have K2 := hide (K1.out.trans hk3 (fun _ _ z => z))
  clear ht hk hk2 hk3 B1 K1
  generalize w1.heap.size = b1 at *
  go_wp2_with fail
  refine (aw3 (w2.alloc (.cells #[.slice A3 0 c3, .slice A4 0 c4] 24)) (HM.out.kept K2.out)).mono ?_
  rintro e w3 ht
  obtain ⟨A5, c5, A6, c6, rfl, n5, n6, hk⟩ := ht.open
  have hk3 := hk.alloc (.cells #[.slice A5 3 c5, .slice A6 6 c6] 24)
  have B5 := hide (show Bx (w3.alloc (.cells #[.slice A5 3 c5, .slice A6 6 c6] 24)) w3.heap.size A5 c5 A6 c6 [-1, 0, 0] [1, 1, 1, 2, 2, 2] from Bx.new n5 n6)
  have B3 := hide (B2.out.keep hk3)
  have K3 := hide (K2.out.trans hk3 (fun _ _ z => z))
  have q0 := (B2.out.keep hk).is_.cell 0
  have hlt := (B2.out.keep hk).is_.lt
  have q1 := (B2.out.keep hk).is_.cell 1
  clear ht hk hk3 n5 n6 B2 K2
  go_wp2_with fail
  refine (asame (w3.alloc (.cells #[.slice A5 3 c5, .slice A6 6 c6] 24)) (l := [-1, 0, 0]) (n := w3.heap.size + 1) B3.out.n1 (by decide) (by simp)).mono ?_
  rintro e w4 ⟨rfl, hk⟩
  have B4 := hide (And.intro (B3.out.keep hk) (B5.out.keep hk))
  have K4 := hide (K3.out.trans hk (fun _ _ z => z))
  clear hk B3 B5 K3 q0 q1 hlt
  generalize w3.heap.size = b5 at *
  have q1 := B4.out.1.is_.cell 1
  have hlt := B4.out.1.is_.lt
  go_wp2_with fail
  refine (asame w4 (l := [1, 1, 1, 2, 2, 2]) B4.out.1.n2 (by decide) rfl).mono ?_
  rintro e w5 ⟨rfl, hk⟩
  have B5 := hide (And.intro (B4.out.1.keep hk) (B4.out.2.keep hk))
  have K5 := hide (K4.out.trans hk (fun _ _ z => z))
  clear hk B4 K4
  have q50 := B5.out.1.is_.cell 0
  have q51 := B5.out.1.is_.cell 1
  have r50 := B5.out.2.is_.cell 0
  have r51 := B5.out.2.is_.cell 1
  go_wp2_with fail
  refine (tsame_c (w := w5) (b := true) (by decide) B5.out.1.topo B5.out.2.topo (by decide) (by decide) (by decide) (by decide)).mono ?_
  rintro e w6 ⟨rfl, hk⟩
  have B6 := hide (And.intro (B5.out.1.keep hk) (B5.out.2.keep hk))
  have K6 := hide (K5.out.trans hk (fun _ _ z => z))
  clear hk B5 K5
  have q60 := B6.out.1.is_.cell 0
  have q61 := B6.out.1.is_.cell 1
  have r60 := B6.out.2.is_.cell 0
  have r61 := B6.out.2.is_.cell 1
  go_wp2_with fail
  refine (depth_c (w := w6) (d := 2) (by decide +kernel) B6.out.1.topo).mono ?_
  rintro e w7 ⟨rfl, hk⟩
  have B7 := hide (And.intro (B6.out.1.keep hk) (B6.out.2.keep hk))
  have K7 := hide (K6.out.trans hk (fun _ _ z => z))
  clear hk B6 K6
  have q70 := B7.out.1.is_.cell 0
  have q71 := B7.out.1.is_.cell 1
  have r70 := B7.out.2.is_.cell 0
  have r71 := B7.out.2.is_.cell 1
  go_wp2_with fail
  refine (leaves_c (w := w7) (L := [1, 2]) (by decide +kernel) B7.out.1.topo).mono ?_
  rintro e w8 ⟨v8, rfl, hv8, hk⟩
  have B8 := hide (And.intro (B7.out.1.keep hk) (B7.out.2.keep hk))
  have K8 := hide (K7.out.trans hk (fun _ _ z => z))
  clear hk B7 K7
  have q80 := B8.out.1.is_.cell 0
  have q81 := B8.out.1.is_.cell 1
  have r80 := B8.out.2.is_.cell 0
  have r81 := B8.out.2.is_.cell 1
  go_wp2_with fail
  refine (asame w8 (l := [1, 2]) hv8 (by decide) rfl).mono ?_
  rintro e w9 ⟨rfl, hk⟩
  have B9 := hide (And.intro (B8.out.1.keep hk) (B8.out.2.keep hk))
  have K9 := hide (K8.out.trans hk (fun _ _ z => z))
  clear hk B8 K8
  have q90 := B9.out.1.is_.cell 0
  have q91 := B9.out.1.is_.cell 1
  have r90 := B9.out.2.is_.cell 0
  have r91 := B9.out.2.is_.cell 1
  go_wp2_with fail
  refine (aw4 w9).mono ?_
  rintro e w10 ⟨rfl, hk⟩
  have B10 := hide (And.intro (B9.out.1.keep hk) (B9.out.2.keep hk))
  have K10 := hide (K9.out.trans hk (fun _ _ z => z))
  clear hk B9 K9
  have q100 := B10.out.1.is_.cell 0
  have q101 := B10.out.1.is_.cell 1
  have r100 := B10.out.2.is_.cell 0
  have r101 := B10.out.2.is_.cell 1
  go_wp2_with fail
  refine (ttext_c (w := w10) (s := [110, 111, 100, 101, 115, 32, 45, 49, 44, 48, 44, 48, 10, 116, 104, 114, 101, 97, 100, 115, 32, 49, 44, 49, 44, 49, 44, 50, 44, 50, 44, 50, 10]) (by rw [if_pos a_chk]; exact a_text) B10.out.1.topo a_in.1 a_in.2).mono ?_
  rintro e w11 ⟨rfl, hk⟩
  have B11 := hide (And.intro (B10.out.1.keep hk) (B10.out.2.keep hk))
  have K11 := hide (K10.out.trans hk (fun _ _ z => z))
  clear hk B10 K10
  go_wp2_with fail
  go_ret
  exact ⟨rfl, K11.out⟩
end
end Go.Proofs.YtcpcdfihgabelaaDoor
