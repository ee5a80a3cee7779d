/- Package ring: Find, which asks a closure of each thing; a panic of the closure's would be recovered. -/
import Derived.Test.YtfdndpbogljjeaaGPush
import Derived.Defers
import Derived.Recover
namespace Go.Proofs.Ytfdndpbogljjeaa
open Go.RowKit Go.Shelf

/-- The least place of a thing of which p is true; -1 without one. -/
def findI (xs : List Int) (p : Int → Bool) : Int := if xs.findIdx p < xs.length then xs.findIdx p else -1
theorem find_none {xs : List Int} {p : Int → Bool} (h : ∀ k, k < xs.length → p (xs.getD k 0) = false) : findI xs p = -1 := by
  have e : xs.findIdx p = xs.length := by
    rw [List.findIdx_eq_length]
    intro x hx
    obtain ⟨k, hk, rfl⟩ := List.getElem_of_mem hx
    have := h k hk
    simpa [List.getD_eq_getElem?_getD, hk] using this
  unfold findI
  rw [e, if_neg (Nat.lt_irrefl _)]
theorem find_some {xs : List Int} {p : Int → Bool} {k : Nat} (hk : k < xs.length) (h1 : p (xs.getD k 0) = true) (h2 : ∀ j, j < k → p (xs.getD j 0) = false) : findI xs p = k := by
  have e : xs.findIdx p = k := by
    rw [List.findIdx_eq hk]
    refine ⟨by simpa [List.getD_eq_getElem?_getD, hk] using h1, fun j hj => ?_⟩
    have := h2 j hj
    simpa [List.getD_eq_getElem?_getD, show j < xs.length by omega] using this
  unfold findI
  rw [e, if_pos hk]

section
variable {w : World} {a : Nat} {A : Option Addr} {xs : List Int}
set_option maxHeartbeats 1000000

/-- The deferred call of a frame that returns: there is nothing to recover. -/
theorem caught_c (w : World) : CallsD Try.prog 26 #[] .returning w fun e u' w' => e = .returned (.tuple #[]) ∧ u' = .returning ∧ w' = w := by
  refine callsD_of_wpS Try.func26 rfl fun c₀ cs hu => ?_
  apply wpS_region
  simp [wpOpsS, go_sem, recoverD, hu, Try.ntmps26]
  cases c₀
  simp_all [bodyPostS, results, Try.results26]

/-- What a closure tells of a thing. -/
theorem tells_c {N : FuncId} {cap : Array Value} {x : Int} {t : Bool} {w : World} (hE : ∀ args w, (callFunc N args).run Try.prog w = .ok (.enter N args) w)
    (hC : Calls Try.prog N (#[.int .i64 x] ++ cap) w fun e w' => e = .returned (.bool t) ∧ Kept Nil w w') :
    Calls Try.prog 24 #[.func (.func N) #[] cap, .int .i64 x] w fun e w' => e = .returned (.bool t) ∧ Kept Nil w w' := by
  go_enter_defers Try.func24, Try.ntmps24
  go_wp2_with fail
  refine hC.mono ?_
  rintro e w1 ⟨rfl, hk⟩
  have HK := hide hk
  clear hk
  go_wp2_with fail
  refine leaves_cons (f := 26) (args := #[]) (by simp) (by simp [go_sem]) ?_
  refine (caught_c _).mono ?_
  rintro e u' w'' ⟨rfl, rfl, rfl⟩
  simp [Leaves, settle, results, Try.results24, go_sem, HK.out]

/-- A call that leaves old memory alone keeps the loop's book-keeping. -/
theorem Kept.others {W W' : World} (k : Kept Nil W W') (B : Nat) : KeepsFrom B W W' := ⟨k.size, fun i o _ hi _ => by
  have hlt : i < W.heap.size := by
    rcases Nat.lt_or_ge i W.heap.size with h1 | h1
    · exact h1
    · rw [Array.getElem?_eq_none h1] at hi
      cases hi
  rw [k.block i hlt (fun z => z)]
  exact hi⟩
theorem mem_upto {n k j : Nat} (hk : k ≤ n) (hj : j < k) (h : j < n) : (⟨j, h⟩ : Fin n) ∈ upto n k := by
  have hm : j ∈ (upto n k).map (·.val) := by rw [upto_val hk]; exact List.mem_range.2 hj
  obtain ⟨y, hy, e⟩ := List.mem_map.1 hm
  have e2 : y = ⟨j, h⟩ := Fin.ext e
  rw [← e2]
  exact hy
theorem fn_nil (w : World) : (binOp .eql 38 .nilFunc .nilFunc).run Try.prog w = .ok (.bool true) w := by kernel_rfl
theorem fn_some (N : FuncId) (cap : Array Value) (w : World) : (binOp .eql 38 (.func (.func N) #[] cap) .nilFunc).run Try.prog w = .ok (.bool false) w := by kernel_rfl
/-- Find of a nil closure. -/
theorem find_nil (p : Option Addr) : Calls Try.prog 13 #[.pointer p, .nilFunc] w fun e w' => e = .returned (.int .i64 (-1)) ∧ Kept Nil w w' := by
  refine (callsIn_wide (n := 3)).1 ?_
  refine callsIn_of_wp_marks Try.func13 rfl trivial ?_ rfl
  simp only [Try.ntmps13, List.size_toArray, List.length_cons, List.length_nil, Nat.reduceAdd, Nat.reduceSub, Array.replicate_succ, Array.replicate_zero, List.push_toArray, List.append_toArray, List.nil_append, List.cons_append]
  have hq := fn_nil
  gi_wp2_with fail
  exact ⟨.int .i64 (-1), by simp [results, Try.results13, go_sem], rfl, ((Kept.refl Nil w).alloc _).alloc _⟩

set_option maxRecDepth 100000 in
/-- Find, at a row. -/
theorem find_c {N : FuncId} {cap : Array Value} {p : Int → Bool} (h : Ring w a A xs) (hx : xs.length ≤ 1048576) (hE : ∀ args w, (callFunc N args).run Try.prog w = .ok (.enter N args) w)
    (hC : ∀ W x, Kept Nil w W → Calls Try.prog N (#[.int .i64 x] ++ cap) W fun e w' => e = .returned (.bool (p x)) ∧ Kept Nil W w') :
    Calls Try.prog 13 #[.pointer (some ⟨a, 0, none⟩), .func (.func N) #[] cap] w fun e w' => e = .returned (.int .i64 (findI xs p)) ∧ Kept Nil w w' := by
  refine (callsIn_wide (n := 3)).1 ?_
  refine callsIn_of_wp_marks Try.func13 rfl trivial ?_ rfl
  simp only [Try.ntmps13, List.size_toArray, List.length_cons, List.length_nil, Nat.reduceAdd, Nat.reduceSub, Array.replicate_succ, Array.replicate_zero, List.push_toArray, List.append_toArray, List.nil_append, List.cons_append]
  have hq := fn_some N cap
  gi_wp2_with (refine ⟨trivial, ?_⟩; gi_at_call 11; refine (callsIn_wide.2 (gall_c _ _)).mono ?_; rintro e w' ⟨rfl, rfl⟩)
  obtain ⟨w3, hw3⟩ : ∃ w3, ((w.alloc (.cells #[.func (.func N) #[] cap] 38)).alloc (.cells #[.int .i64 0] 3)).alloc (.cells #[.pointer (some ⟨a, 0, none⟩)] 22) = w3 := ⟨_, rfl⟩
  obtain ⟨b0, hb0⟩ : ∃ b0, w.heap.size = b0 := ⟨_, rfl⟩
  have i0 : Is w3 b0 38 #[.func (.func N) #[] cap] := by rw [← hw3, ← hb0]; exact ((Is.new w _ _).alloc _).alloc _
  have i1 : Is w3 (b0 + 1) 3 #[.int .i64 0] := by
    have := (Is.new (w.alloc (.cells #[.func (.func N) #[] cap] 38)) 3 #[.int .i64 0]).alloc (.cells #[.pointer (some ⟨a, 0, none⟩)] 22)
    rw [World.size_alloc, hw3, hb0] at this
    exact this
  have i2 : Is w3 (b0 + 1 + 1) 22 #[.pointer (some ⟨a, 0, none⟩)] := by
    have := Is.new ((w.alloc (.cells #[.func (.func N) #[] cap] 38)).alloc (.cells #[.int .i64 0] 3)) 22 #[.pointer (some ⟨a, 0, none⟩)]
    rw [hw3, World.size_alloc, World.size_alloc, hb0] at this
    exact this
  have k3 : Kept Nil w w3 := by rw [← hw3]; exact (((Kept.refl Nil w).alloc _).alloc _).alloc _
  have s3 : w3.heap.size = b0 + 3 := by rw [← hw3, World.size_alloc, World.size_alloc, World.size_alloc, hb0]
  have hS : ∀ g, (g = b0 + 1 + 1 ∨ OfG a A g) → g < w3.heap.size := by
    rintro g (rfl | hg)
    · omega
    · have := h.lt hg
      omega
  obtain ⟨T, hT, hpair⟩ := pairs_of xs
  have hseq := gall_stops (w := w3) (a := a) (A := A) (xs := xs) 2 (by omega) (b0 + 1 + 1) hx i2 (h.keptNil k3)
  rw [hpair] at hseq
  rw [hw3, hb0]
  have TELL := hide fun (W : World) (l : Nat) (k : Kept Nil w3 W) (x : Int) => CallsIn.inRound l (callsIn_wide (n := 0).2 (tells_c (x := x) hE (hC W x (k3.trans k (fun _ _ z => z)))))
  clear hC
  refine wpIn_rangeFunc_ownG rfl (by omega) (gf := 23) (lb := #[.pointer (some ⟨b0 + 1 + 1, 0, none⟩)]) rfl trivial (enters_of Try.func23 (by kernel_rfl) rfl)
    hseq (fun h k => h.trans k) (Stay.put hS) (Below.refl _ _) (fun _ => rfl)
    (fun pre W => Is W b0 38 #[.func (.func N) #[] cap] ∧ Is W (b0 + 1) 3 #[.int .i64 0] ∧ Kept Nil w3 W ∧ ∀ k ∈ pre, p (T k) = false)
    (fun c pre W => c = .ret ∧ ∃ ini last, pre = ini ++ [last] ∧ (∀ k ∈ ini, p (T k) = false) ∧ p (T last) = true ∧ Is W (b0 + 1) 3 #[.int .i64 (last.val : Int)] ∧ Kept (fun i => i = b0 + 1) w3 W)
    (fun pre W W' row hs hg hr => ⟨hs.1.kept (grown_from hg hr) (by omega), hs.2.1.kept (grown_from hg hr) (by omega), hs.2.2.1.trans (grown_from hg hr) (fun i hi hz => absurd hz (by omega)), hs.2.2.2⟩)
    (fun c pre W W' row hs hg hr => by
      obtain ⟨e1, ini, last, e2, e3, e4, e5, e6⟩ := hs
      exact ⟨e1, ini, last, e2, e3, e4, e5.kept (grown_from hg hr) (by omega), e6.trans (grown_from hg hr) (fun i hi hz => absurd hz (by omega))⟩)
    ⟨i0, i1, Kept.refl _ _, fun k hk => by cases hk⟩
    (fun x => { tmps := #[.pointer (some ⟨a, 0, none⟩), .func (.func N) #[] cap, undef, .pointer (some ⟨b0, 0, none⟩), .pointer (some ⟨b0 + 1, 0, none⟩), .int .i64 (x.val : Int), .int .i64 (T x), .func (.func N) #[] cap, .bool false, .pointer (some ⟨a, 0, none⟩),
      .func (.func 23) #[] #[.pointer (some ⟨b0 + 1 + 1, 0, none⟩)], .int .i64 (x.val : Int), .int .i64 (T x), undef, undef, undef, undef], defers := [] }) ?assign ?body ?done ?stop
  case assign =>
    intro l x W K hK
    have hsem := fun ρ o h => Oper.semAt_some l ρ o h
    gi_wp2
    exact hK
  case body =>
    rintro l pre x W ⟨h0, h1, hk, hp⟩ _
    have hsem := fun ρ o h => Oper.semAt_some l ρ o h
    have c1 := h0.cell 0
    have c2 := h1.cell 0
    have c3 := h1.free 0
    simp at c1 c2
    have ht := TELL.out W l hk (T x)
    have HST := hide (And.intro h0 (And.intro h1 (And.intro hk hp)))
    clear h0 h1 hk hp
    cases hpx : p (T x) with
    | true =>
      rw [hpx] at ht
      gi_wp2_with (refine ⟨trivial, ?_⟩; gi_at_call 24; refine ht.mono ?_; rintro e w' ⟨rfl, hk2⟩; have c4 : w'.cell? ⟨b0 + 1, 0, none⟩ = some (.int .i64 0) := (HST.out.2.1.kept hk2 (fun z => z)).cell 0; have c5 : w'.frozen? ⟨b0 + 1, 0, none⟩ = false := (HST.out.2.1.kept hk2 (fun z => z)).free 0)
      rename_i w' hk2 _ _
      refine ⟨(hk2.others _).trans ((KeepsOthers.setCell _ _ _).from _), rfl, pre, x, rfl, HST.out.2.2.2, hpx, ?_, ?_⟩
      · have := (HST.out.2.1.kept hk2 (fun z => z)).set 0 (.int .i64 (x.val : Int))
        simpa using this
      · exact ((HST.out.2.2.1.trans hk2 (S := Nil) (fun _ _ z => z)).more (S' := fun i => i = b0 + 1) (fun _ _ z => z.elim)).set (p := ⟨b0 + 1, 0, none⟩) (fun _ => rfl) _
    | false =>
      rw [hpx] at ht
      gi_wp2_with (refine ⟨trivial, ?_⟩; gi_at_call 24; refine ht.mono ?_; rintro e w' ⟨rfl, hk2⟩)
      rename_i w' hk2
      obtain ⟨h0, h1, hk, hp⟩ := HST.out
      refine ⟨hk2.others _, hk2.stay fun g hg => ⟨fun z => z, Nat.lt_of_lt_of_le (hS g hg) hk.size⟩, h0.kept hk2 (fun z => z), h1.kept hk2 (fun z => z), hk.trans hk2 (fun _ _ z => z), fun k hk3 => ?_⟩
      rcases List.mem_append.1 hk3 with hk3 | hk3
      · exact hp k hk3
      · obtain rfl : k = x := by simpa using hk3
        exact hpx
  case done =>
    rintro D ys W hD rfl ⟨_, hb, hk, hp⟩ hK
    have c2 := hb.cell 0
    have c3 := hb.free 0
    simp at c2
    have hnone : findI xs p = -1 := find_none fun k hk1 => by
      rw [hT ⟨k, hk1⟩]
      exact hp ⟨k, hk1⟩ (mem_upto (Nat.le_refl _) hk1 hk1)
    have HF := hide hnone
    clear hnone
    have i5 : Is (W.setCell ⟨b0 + 1, 0, none⟩ (.int .i64 (-1))) (b0 + 1) 3 #[.int .i64 (-1)] := by simpa using hb.set 0 (.int .i64 (-1))
    have k5 : Kept Nil w (W.setCell ⟨b0 + 1, 0, none⟩ (.int .i64 (-1))) := (k3.trans hk (S := Nil) (fun _ _ z => z)).set (p := ⟨b0 + 1, 0, none⟩) (fun z => absurd (show b0 + 1 < w.heap.size from z) (by omega)) _
    have hK5 := (KeepsOthers.setCell W ⟨b0 + 1, 0, none⟩ (.int .i64 (-1))).same D _ hK rfl
    have HALL := hide (And.intro i5 (And.intro k5 hK5))
    clear i5 k5 hK5 hK hk hp
    gi_wp2
    obtain ⟨i5, k5, hK5⟩ := HALL.out
    generalize W.setCell ⟨b0 + 1, 0, none⟩ (.int .i64 (-1)) = W5 at *
    have hgr : Kept (fun k => k = D) W5 (W5.putObj D (.deferred none)) := (Kept.of_grown (grownBy_putObj' W5 D (.deferred none))).more fun i _ e => by injection e with e; exact e.symm
    refine ⟨by simp, .inl ⟨_, _, rfl, run_takeDeferred hK5, ?_⟩⟩
    have c6 := (i5.kept hgr (by omega)).cell 0
    simp at c6
    exact ⟨.int .i64 (-1), by simp [results, Try.results13, go_sem, c6], by rw [HF.out], k5.trans hgr (fun i hi hz => absurd hz (by omega))⟩
  case stop =>
    rintro D c pre W hD ⟨k, hk1, rfl⟩ ⟨rfl, ini, last, e2, hp, hl, hb, hk⟩ hK
    obtain ⟨k', rfl⟩ : ∃ k', k = k' + 1 := by
      cases k with
      | zero => simp [upto] at e2
      | succ k' => exact ⟨k', rfl⟩
    rw [upto_succ (show k' < xs.length by omega)] at e2
    obtain ⟨rfl, e5⟩ := List.append_inj' e2 rfl
    obtain rfl : (⟨k', by omega⟩ : Fin xs.length) = last := by simpa using e5
    have hsome : findI xs p = k' := find_some (by omega) (by rw [hT ⟨k', by omega⟩]; exact hl) fun j hj => by
      rw [hT ⟨j, by omega⟩]
      exact hp ⟨j, by omega⟩ (mem_upto (by omega) hj (by omega))
    have HF := hide hsome
    clear hsome
    have HALL := hide (And.intro hb (And.intro hk hK))
    clear hb hk hp hl e2 e5 hK
    gi_wp2
    obtain ⟨hb, hk, hK⟩ := HALL.out
    have hgr : Kept (fun k => k = D) W (W.putObj D (.deferred none)) := (Kept.of_grown (grownBy_putObj' W D (.deferred none))).more fun i _ e => by injection e with e; exact e.symm
    refine ⟨by simp, .inl ⟨_, _, rfl, run_takeDeferred hK, ?_⟩⟩
    have c6 := (hb.kept hgr (by omega)).cell 0
    simp at c6
    exact ⟨.int .i64 (k' : Int), by simp [results, Try.results13, go_sem, c6], by rw [HF.out], (k3.trans hk (S := Nil) (fun i hi hz => absurd hz (by omega))).trans hgr (fun i hi hz => absurd hz (by omega))⟩
end
end Go.Proofs.Ytfdndpbogljjeaa
