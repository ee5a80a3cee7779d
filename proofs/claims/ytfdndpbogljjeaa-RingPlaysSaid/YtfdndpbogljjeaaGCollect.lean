/- The law's helper all: the things of a row as it is gone through, at most so many. -/
import Derived.Test.YtfdndpbogljjeaaGFind
import Derived.RangeFuncBox
import Derived.Maps.AppendAt
namespace Go.Proofs.Ytfdndpbogljjeaa
open Go.RowKit Go.Shelf

theorem seq_some (cap : Array Value) (w : World) : (binOp .eql 33 (.func (.func 23) #[] cap) .nilFunc).run Try.prog w = .ok (.bool false) w := by kernel_rfl

theorem owns_weak {W : World} {B : Nat} {e : TypeId} {v : Value} {k : Nat} {xs : List Value} (h : W.ownsRow B e 1 v k xs) : W.ownsRow 0 e 1 v k xs := by
  refine ⟨h.1, ?_⟩
  rcases h.2 with h2 | ⟨g, cap, cur, e1, _, r⟩
  · exact .inl h2
  · exact .inr ⟨g, cap, cur, e1, Nat.zero_le _, r⟩
theorem owns_kept {W W' : World} {B : Nat} {e : TypeId} {v : Value} {k : Nat} {xs : List Value} {S : Nat → Prop} (h : W.ownsRow B e 1 v k xs) (hk : Kept S W W') (hS : ∀ g, v.ownBlock = some g → ¬ S g) : W'.ownsRow B e 1 v k xs := by
  refine ⟨h.1, ?_⟩
  rcases h.2 with h2 | ⟨g, cap, cur, e1, hb, hh, r⟩
  · exact .inl h2
  · exact .inr ⟨g, cap, cur, e1, hb, Is.kept (S := S) (w := W) hh hk (hS g (by rw [e1]; rfl)), r⟩
theorem owns_from {W : World} {B : Nat} {e : TypeId} {v : Value} {k : Nat} {xs : List Value} (h : W.ownsRow B e 1 v k xs) {g : Nat} (hg : v.ownBlock = some g) : B ≤ g ∧ ∃ cur, Is W g e cur := by
  rcases h.2 with ⟨rfl, _⟩ | ⟨g', cap, cur, rfl, hb, hh, _⟩
  · cases hg
  · injection hg with hg
    subst hg
    exact ⟨hb, cur, hh⟩
theorem owns_form {W : World} {B : Nat} {e : TypeId} {v : Value} {k : Nat} {xs : List Value} (h : W.ownsRow B e 1 v k xs) : ∃ A c, v = .slice A k c := by
  rcases h.2 with ⟨rfl, rfl⟩ | ⟨g', cap, cur, rfl, _⟩
  · exact ⟨_, _, rfl⟩
  · exact ⟨_, _, rfl⟩
/-- What a longer row leaves, its slice kept in a box. -/
theorem grow_box {W w1 : World} {B n₀ : Nat} {v v' : Value} {k m : Nat} {xs ys : List Value} {tmp : Obj} (hv : Is W B 23 #[v]) (hrow : W.ownsRow n₀ 3 1 v k xs) (hown' : w1.ownsRow n₀ 3 1 v' m ys) (hgrow : (W.alloc tmp).grownBy w1 v.ownBlock) :
    Is w1 B 23 #[v] ∧ Is (w1.setCell ⟨B, 0, none⟩ v') B 23 #[v'] ∧ (w1.setCell ⟨B, 0, none⟩ v').ownsRow n₀ 3 1 v' m ys ∧ KeepsOthers W (w1.setCell ⟨B, 0, none⟩ v') ∧ Kept (fun i => i = B ∨ n₀ ≤ i) W (w1.setCell ⟨B, 0, none⟩ v') := by
  have b := Boxed.appended (n₀ := 0) hv (by decide) (owns_weak hrow) (Nat.zero_le _) (Nat.zero_le _) (owns_weak hown') hgrow
  refine ⟨b.1, b.2.1, hown'.kept (grownBy_setCell' w1 B v') (.inr (b.1.not_row (by decide) hown').symm), b.2.2.2.1, ?_⟩
  refine Kept.set (p := ⟨B, 0, none⟩) ?_ (fun _ => .inl rfl) _
  exact ((Kept.refl (fun i => i = B ∨ n₀ ≤ i) W).alloc tmp).trans (Kept.of_grown hgrow) fun i _ e => .inr (owns_from hrow e).1

theorem upto_map {xs : List Int} {T : Fin xs.length → Int} (hT : ∀ k : Fin xs.length, xs.getD k.val 0 = T k) {n : Nat} (hn : n ≤ xs.length) : (upto xs.length n).map (fun k => Value.int .i64 (T k)) = (xs.take n).map (Value.int .i64) := by
  have e1 : (upto xs.length n).map (fun k => Value.int .i64 (T k)) = ((upto xs.length n).map (·.val)).map (fun j => Value.int .i64 (xs.getD j 0)) := by
    rw [List.map_map]
    refine List.map_congr_left fun k _ => ?_
    show _ = Value.int .i64 (xs.getD k.val 0)
    rw [hT]
  rw [e1, upto_val hn]
  apply List.ext_getElem
  · simp [hn]
  · intro j h1 h2
    simp at h1
    simp [List.getD_eq_getElem?_getD, show j < xs.length by omega]

/-- What is handed back behind the loop. -/
theorem handed {W : World} {b0 D n : Nat} {v : Value} {l : List Int} {w w3 : World} (k3 : Kept Nil w w3) (hb : w.heap.size = b0) (s3 : w3.heap.size = b0 + 4) (h1 : Is W (b0 + 1) 23 #[.slice none 0 0]) (h3 : W.ownsRow (b0 + 4) 3 1 v n (l.map (Value.int .i64))) (hn : n = l.length)
    (h4 : Kept (fun i => i = b0 + 1 + 1) w3 W) (hD : b0 + 4 ≤ D) (hK : W.heap[D]? = some (.deferred (some []))) :
    let W5 := W.setCell ⟨b0 + 1, 0, none⟩ v; W5.heap[D]? = some (.deferred (some [])) ∧ (W5.putObj D (.deferred none)).cell? ⟨b0 + 1, 0, none⟩ = some v ∧ Row (W5.putObj D (.deferred none)) v l ∧ Kept Nil w (W5.putObj D (.deferred none)) := by
  intro W5
  have i5 : Is W5 (b0 + 1) 23 #[v] := by simpa using h1.set 0 v
  have hK5 : W5.heap[D]? = some (.deferred (some [])) := (KeepsOthers.setCell W ⟨b0 + 1, 0, none⟩ v).same D _ hK rfl
  have hgr : Kept (fun k => k = D) W5 (W5.putObj D (.deferred none)) := (Kept.of_grown (grownBy_putObj' W5 D (.deferred none))).more fun i _ e => by injection e with e; exact e.symm
  have r5 : W5.ownsRow (b0 + 4) 3 1 v n (l.map (Value.int .i64)) := owns_kept h3 ((Kept.refl (fun i => i = b0 + 1) W).set (p := ⟨b0 + 1, 0, none⟩) (fun _ => rfl) v) fun g hg hz => by
    have := (owns_from h3 hg).1
    omega
  refine ⟨hK5, ?_, ?_, ?_⟩
  · have := (i5.kept hgr (by omega)).cell 0
    simpa using this
  · subst hn
    exact owns_weak (owns_kept r5 hgr fun g hg hz => by
      subst hz
      obtain ⟨_, cur, hi⟩ := owns_from r5 hg
      unfold Is at hi
      rw [hK5] at hi
      cases hi)
  · exact ((k3.trans h4 (S := Nil) (fun i hi hz => by omega)).set (p := ⟨b0 + 1, 0, none⟩) (fun z => absurd (show b0 + 1 < w.heap.size from z) (by omega)) v).trans hgr (fun i hi hz => by omega)

section
variable {w : World} {a : Nat} {A : Option Addr} {xs : List Int}
set_option maxHeartbeats 2000000

set_option maxRecDepth 100000 in
theorem collect_any (p : Option Addr) (most : Int) (hm : 1 ≤ most) (hx : xs.length ≤ 65536) (S0 : Nat → Prop) (hS0 : ∀ g, S0 g → g < w.heap.size)
    (hstop : ∀ w3 Bn, Kept Nil w w3 → Is w3 Bn 22 #[.pointer p] → SeqStopsK Fence.wide 2 Try.prog 23 #[.pointer (some ⟨Bn, 0, none⟩)] (pairOf xs) (Stay (fun g => g = Bn ∨ S0 g)) (fun ys => ys = upto xs.length xs.length) (fun pre => ∃ k, k ≤ xs.length ∧ pre = upto xs.length k) xs.length w3) :
    Calls Try.prog 12 #[.pointer p, .int .i64 most] w fun e w' => ∃ v, e = .returned v ∧ Row w' v (xs.take most.toNat) ∧ Kept Nil w w' := by
  refine (callsIn_wide (n := 3)).1 ?_
  refine callsIn_of_wp_marks Try.func12 rfl trivial ?_ rfl
  simp only [Try.ntmps12, List.size_toArray, List.length_cons, List.length_nil, Nat.reduceAdd, Nat.reduceSub, Array.replicate_succ, Array.replicate_zero, List.push_toArray, List.append_toArray, List.nil_append, List.cons_append]
  have hq := seq_some #[.pointer (some ⟨w.heap.size + 1 + 1 + 1, 0, none⟩)]
  obtain ⟨i00, hinf, hz0, hz1, hz2⟩ := info_parts info_int
  gi_wp2_with (refine ⟨trivial, ?_⟩; gi_at_call 11; refine (callsIn_wide.2 (gall_c _ _)).mono ?_; rintro e w' ⟨rfl, rfl⟩)
  clear hq
  obtain ⟨w3, hw3⟩ : ∃ w3, (((w.alloc (.cells #[.int .i64 most] 3)).alloc (.cells #[.slice none 0 0] 23)).alloc (.cells #[.slice none 0 0] 23)).alloc (.cells #[.pointer p] 22) = w3 := ⟨_, rfl⟩
  obtain ⟨b0, hb0⟩ : ∃ b0, w.heap.size = b0 := ⟨_, rfl⟩
  have i0 : Is w3 b0 3 #[.int .i64 most] := by rw [← hw3, ← hb0]; exact (((Is.new w _ _).alloc _).alloc _).alloc _
  have i1 : Is w3 (b0 + 1) 23 #[.slice none 0 0] := by
    have := ((Is.new (w.alloc (.cells #[.int .i64 most] 3)) 23 #[.slice none 0 0]).alloc (.cells #[.slice none 0 0] 23)).alloc (.cells #[.pointer p] 22)
    rw [World.size_alloc, hw3, hb0] at this
    exact this
  have i2 : Is w3 (b0 + 1 + 1) 23 #[.slice none 0 0] := by
    have := (Is.new ((w.alloc (.cells #[.int .i64 most] 3)).alloc (.cells #[.slice none 0 0] 23)) 23 #[.slice none 0 0]).alloc (.cells #[.pointer p] 22)
    rw [World.size_alloc, World.size_alloc, hw3, hb0] at this
    exact this
  have i3 : Is w3 (b0 + 1 + 1 + 1) 22 #[.pointer p] := by
    have := Is.new (((w.alloc (.cells #[.int .i64 most] 3)).alloc (.cells #[.slice none 0 0] 23)).alloc (.cells #[.slice none 0 0] 23)) 22 #[.pointer p]
    rw [hw3, World.size_alloc, World.size_alloc, World.size_alloc, hb0] at this
    exact this
  have k3 : Kept Nil w w3 := by rw [← hw3]; exact ((((Kept.refl Nil w).alloc _).alloc _).alloc _).alloc _
  have s3 : w3.heap.size = b0 + 4 := by rw [← hw3, World.size_alloc, World.size_alloc, World.size_alloc, World.size_alloc, hb0]
  have hS : ∀ g, (g = b0 + 1 + 1 + 1 ∨ S0 g) → g < w3.heap.size ∧ ¬ (g = b0 + 1 + 1 ∨ b0 + 4 ≤ g) := by
    rintro g (rfl | hg)
    · omega
    · have := hS0 g hg
      omega
  obtain ⟨T, hT, hpair⟩ := pairs_of xs
  have hseq := hstop w3 (b0 + 1 + 1 + 1) k3 i3
  rw [hpair] at hseq
  clear hstop
  rw [hw3, hb0]
  refine wpIn_rangeFunc_ownG rfl (by omega) (gf := 23) (lb := #[.pointer (some ⟨b0 + 1 + 1 + 1, 0, none⟩)]) rfl trivial (enters_of Try.func23 (by kernel_rfl) rfl)
    hseq (fun h k => h.trans k) (Stay.put fun g hg => (hS g hg).1) (Below.refl _ _) (fun _ => rfl)
    (fun pre W => ∃ v, Is W b0 3 #[.int .i64 most] ∧ Is W (b0 + 1) 23 #[.slice none 0 0] ∧ Is W (b0 + 1 + 1) 23 #[v] ∧ W.ownsRow (b0 + 4) 3 1 v pre.length (pre.map fun k => .int .i64 (T k)) ∧ Kept (fun i => i = b0 + 1 + 1) w3 W ∧ (pre.length : Int) < most)
    (fun c pre W => (c = .ret ∧ ∃ ini last, pre = ini ++ [last] ∧ ¬ last.val = ini.length) ∨ (c = .exit 0 ∧ ∃ v, Is W (b0 + 1) 23 #[.slice none 0 0] ∧ Is W (b0 + 1 + 1) 23 #[v] ∧ W.ownsRow (b0 + 4) 3 1 v pre.length (pre.map fun k => .int .i64 (T k)) ∧ Kept (fun i => i = b0 + 1 + 1) w3 W ∧ (pre.length : Int) = most))
    (fun pre W W' row hs hg hr => by
      obtain ⟨v, h0, h1, h2, h3, h4, h5⟩ := hs
      refine ⟨v, h0.kept (grown_from hg hr) (by omega), h1.kept (grown_from hg hr) (by omega), h2.kept (grown_from hg hr) (by omega), ?_, h4.trans (grown_from hg hr) (fun i hi hz => absurd hz (by omega)), h5⟩
      refine owns_kept h3 (Kept.of_grown hg) fun g e1 e2 => ?_
      obtain ⟨_, o, ho, hoc⟩ := hr g e2
      obtain ⟨_, cur, hi⟩ := owns_from h3 e1
      unfold Is at hi
      rw [hi] at ho
      injection ho with ho
      subst ho
      cases hoc)
    (fun c pre W W' row hs hg hr => by
      rcases hs with hs | ⟨e1, v, h1, h2, h3, h4, h5⟩
      · exact .inl hs
      · refine .inr ⟨e1, v, h1.kept (grown_from hg hr) (by omega), h2.kept (grown_from hg hr) (by omega), ?_, h4.trans (grown_from hg hr) (fun i hi hz => absurd hz (by omega)), h5⟩
        refine owns_kept h3 (Kept.of_grown hg) fun g e1 e2 => ?_
        obtain ⟨_, o, ho, hoc⟩ := hr g e2
        obtain ⟨_, cur, hi⟩ := owns_from h3 e1
        unfold Is at hi
        rw [hi] at ho
        injection ho with ho
        subst ho
        cases hoc)
    ⟨_, i0, i1, i2, World.ownsRow_nil _ _ _ _, Kept.refl _ _, by show ((0 : Nat) : Int) < most; omega⟩
    (fun x => { tmps := #[.pointer p, .int .i64 most, undef, .pointer (some ⟨b0, 0, none⟩), .pointer (some ⟨b0 + 1, 0, none⟩), .pointer (some ⟨b0 + 1 + 1, 0, none⟩), .func (.func 23) #[] #[.pointer (some ⟨b0 + 1 + 1 + 1, 0, none⟩)], .int .i64 (x.val : Int), .int .i64 (T x), .pointer p,
      .func (.func 23) #[] #[.pointer (some ⟨b0 + 1 + 1 + 1, 0, none⟩)], .func (.func 23) #[] #[.pointer (some ⟨b0 + 1 + 1 + 1, 0, none⟩)], .bool false, .func (.func 23) #[] #[.pointer (some ⟨b0 + 1 + 1 + 1, 0, none⟩)],
      .int .i64 (x.val : Int), .int .i64 (T x), undef, undef, undef, undef, undef, undef, undef, undef, undef, undef, undef, undef, undef], defers := [] }) ?assign ?body ?done ?stop
  case assign =>
    intro l x W K hK
    have hsem := fun ρ o h => Oper.semAt_some l ρ o h
    gi_wp2
    exact hK
  case body =>
    rintro l pre x W ⟨v, h0, h1, h2, h3, h4, h5⟩ hlen
    have hsem := fun ρ o h => Oper.semAt_some l ρ o h
    obtain ⟨A0, c0, rfl⟩ := owns_form h3
    have c1 := h0.cell 0
    have c2 := h1.cell 0
    have c3 := h1.free 0
    have c4 := h2.cell 0
    simp at c1 c2 c4
    have hz : b0 + 4 ≤ W.heap.size := by have := h4.size; omega
    by_cases hxp : x.val = pre.length
    · have hb : ((x.val : Int) != (pre.length : Int)) = false := by simp [hxp]
      have HST := hide (And.intro h0 (And.intro h1 (And.intro h2 (And.intro h3 (And.intro h4 (And.intro h5 hxp))))))
      clear h0 h1 h2 h4 hxp
      gi_wp2_with (gi_at_builtin; refine wpListIn_append_own _ rfl _ _ 23 rfl (b0 + 4) 3 i00 (.int .i64 0) 1 8 Try.underlying23 hinf hz0 hz1 hz2 rfl (by decide) _ _ _ rfl (World.ownsRow.alloc h3 _) ⟨W.heap.size, 0, none⟩ 1 1 [.int .i64 (T x)] rfl rfl (cell_one_new _ _ _) (by simp [Value.oneCell']) (by have : maxLen = 9223372036854775807 := rfl; omega) (by omega) (by simp; omega) ?_; intro v' w1 hown' hgrow _; obtain ⟨g', cap', rfl⟩ := ownsRow_succ hown'; obtain ⟨hv1, hv2, hr2, hk2, hb2⟩ := grow_box HST.out.2.2.1 h3 hown' hgrow; have d1 := hv1.cell 0; have d2 := hv1.free 0; have d3 := (HST.out.1.kept hb2 (by omega)).cell 0; have HV := hide (And.intro hv1 (And.intro hv2 (And.intro hr2 (And.intro hk2 hb2)))); clear hv1 hv2 hr2 hk2 hb2 hown' hgrow; simp at d1 d3)
      · have hle : most ≤ (pre.length : Int) + 1 := by assumption
        obtain ⟨hv1, hv2, hr2, hk2, hb2⟩ := HV.out
        obtain ⟨h0, h1, h2, h3, h4, h5, hxp⟩ := HST.out
        refine ⟨hk2.from _, .inr ⟨rfl, _, h1.kept hb2 (by omega), hv2, ?_, h4.trans hb2 (fun i hi hz => by omega), ?_⟩⟩
        · rw [List.length_append, List.map_append]
          exact hr2
        · rw [List.length_append]
          show ((pre.length + 1 : Nat) : Int) = most
          omega
      · have hle : (pre.length : Int) + 1 < most := by assumption
        obtain ⟨hv1, hv2, hr2, hk2, hb2⟩ := HV.out
        obtain ⟨h0, h1, h2, h3, h4, h5, hxp⟩ := HST.out
        refine ⟨hk2.from _, hb2.stay (fun g hg => ⟨(hS g hg).2, Nat.lt_of_lt_of_le (hS g hg).1 h4.size⟩), _, h0.kept hb2 (by omega), h1.kept hb2 (by omega), hv2, ?_, h4.trans hb2 (fun i hi hz => by omega), ?_⟩
        · rw [List.length_append, List.map_append]
          exact hr2
        · rw [List.length_append]
          show ((pre.length + 1 : Nat) : Int) < most
          omega
    · have hb : ((x.val : Int) != (pre.length : Int)) = true := by simp; omega
      clear h0 h1 h2 h3 h4 h5
      gi_wp2
      exact ⟨(KeepsOthers.setCell _ _ _).from _, .inl ⟨rfl, pre, x, rfl, hxp⟩⟩
  case done =>
    rintro D ys W hD rfl ⟨v, _, h1, h2, h3, h4, h5⟩ hK
    rw [upto_length (Nat.le_refl _)] at h3 h5
    rw [upto_map hT (Nat.le_refl _), List.take_length] at h3
    obtain ⟨A0, c0, rfl⟩ := owns_form h3
    have c1 := h1.cell 0
    have c2 := h1.free 0
    have c3 := h2.cell 0
    simp at c1 c3
    have HF := hide (handed k3 hb0 s3 h1 h3 rfl h4 (by omega) hK)
    have HT := hide (show xs.take most.toNat = xs from List.take_of_length_le (by omega))
    clear h1 h2 h3 h4 h5 hK
    gi_wp2
    obtain ⟨hK5, c6, hrow, hk⟩ := HF.out
    refine ⟨by simp, .inl ⟨_, _, rfl, run_takeDeferred hK5, ?_⟩⟩
    exact ⟨.slice A0 xs.length c0, by simp [results, Try.results12, go_sem, c6], _, rfl, by rw [HT.out]; exact hrow, hk⟩
  case stop =>
    rintro D c pre W hD ⟨k, hk1, rfl⟩ hix hK
    rcases hix with ⟨rfl, ini, last, e2, e3⟩ | ⟨rfl, v, h1, h2, h3, h4, h5⟩
    · exfalso
      obtain ⟨k', rfl⟩ : ∃ k', k = k' + 1 := by
        cases k with
        | zero => simp [upto] at e2
        | succ k' => exact ⟨k', rfl⟩
      rw [upto_succ (show k' < xs.length by omega)] at e2
      obtain ⟨rfl, e5⟩ := List.append_inj' e2 rfl
      obtain rfl : (⟨k', by omega⟩ : Fin xs.length) = last := by simpa using e5
      rw [upto_length (by omega)] at e3
      exact e3 rfl
    · rw [upto_length hk1] at h3 h5
      rw [upto_map hT hk1] at h3
      obtain ⟨A0, c0, rfl⟩ := owns_form h3
      have c1 := h1.cell 0
      have c2 := h1.free 0
      have c3 := h2.cell 0
      simp at c1 c3
      have HF := hide (handed k3 hb0 s3 h1 h3 (by rw [List.length_take]; omega) h4 (by omega) hK)
      have HT := hide (show most.toNat = k by omega)
      clear h1 h2 h3 h4 h5 hK
      gi_wp2
      obtain ⟨hK5, c6, hrow, hk⟩ := HF.out
      refine ⟨by simp, .inl ⟨_, _, rfl, run_takeDeferred hK5, ?_⟩⟩
      exact ⟨.slice A0 k c0, by simp [results, Try.results12, go_sem, c6], _, rfl, by rw [HT.out]; exact hrow, hk⟩

/-- .. of a row. -/
theorem collect_c (most : Int) (hm : 1 ≤ most) (h : Ring w a A xs) (hx : xs.length ≤ 65536) :
    Calls Try.prog 12 #[.pointer (some ⟨a, 0, none⟩), .int .i64 most] w fun e w' => ∃ v, e = .returned v ∧ Row w' v (xs.take most.toNat) ∧ Kept Nil w w' :=
  collect_any (some ⟨a, 0, none⟩) most hm hx (OfG a A) (fun _ hg => h.lt hg) fun _ Bn k3 hB => gall_stops 2 (by omega) Bn (by omega) hB (h.keptNil k3)
/-- .. of nil. -/
theorem collect_nil (most : Int) (hm : 1 ≤ most) :
    Calls Try.prog 12 #[.pointer none, .int .i64 most] w fun e w' => ∃ v, e = .returned v ∧ Row w' v [] ∧ Kept Nil w w' :=
  (collect_any (xs := []) none most hm (Nat.zero_le _) Nil (fun _ hg => hg.elim) fun _ Bn _ hB => gall_stops_nil 2 (by omega) Bn _ hB).mono fun e w' ⟨v, h1, h2, h3⟩ => ⟨v, h1, by simpa using h2, h3⟩
end
end Go.Proofs.Ytfdndpbogljjeaa
