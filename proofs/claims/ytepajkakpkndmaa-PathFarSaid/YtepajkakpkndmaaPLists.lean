/- Slices of slices of ints that the program itself has built; slices.Clone; what lies beside a struct's block. -/
import Derived.Test.YtepajkakpkndmaaTRow
import Derived.Test.YtepajkakpkndmaaPMath
import Derived.Laws.Cover3
namespace Go.Proofs.Ytepajkakpkndmaa
open Go.RowKit
set_option maxRecDepth 100000

theorem info_ints : (Try.prog.info? 22).map (fun i => (i.zero, i.size, i.bytes)) = some (some (.slice none 0 0), 1, 24) := by kernel_rfl

/-- The slice v holds just the slices vs, in a row of the program's own. -/
def VRow (w : World) (v : Value) (vs : List Value) : Prop := w.ownsRow 0 22 1 v vs.length vs
/-- The slice v reads as the lists LL. -/
def Lists (w : World) (v : Value) (LL : List (List Int)) : Prop := ∃ vs, VRow w v vs ∧ vs.length = LL.length ∧ ∀ k, k < LL.length → Row w (vs.getD k undef) (LL.getD k [])

section
variable {w w' : World} {v : Value} {vs : List Value} {A : Option Addr} {n c : Nat} {S : Nat → Prop}
theorem VRow.empty (w : World) : VRow w (.slice none 0 0) [] := World.ownsRow_nil w 0 _ 1
theorem VRow.form (h : VRow w v vs) : ∃ A c, v = .slice A vs.length c ∧ vs.length ≤ c ∧ (0 < vs.length → ∃ g cur, A = some ⟨g, 0, none⟩ ∧ Is w g 22 cur) := by
  rcases h.2 with ⟨rfl, h0⟩ | ⟨g, cap, cur, rfl, _, hh, hc, _⟩
  · exact ⟨none, 0, by rw [h0], by omega, fun hp => by omega⟩
  · exact ⟨_, cap, rfl, hc, fun _ => ⟨g, cur, rfl, hh⟩⟩
theorem VRow.len (h : VRow w (.slice A n c) vs) : n = vs.length := by
  obtain ⟨_, _, e, _⟩ := h.form
  injection e
theorem VRow.block (h : VRow w (.slice A n c) vs) {g : Nat} (hg : In A g) : ∃ cur, Is w g 22 cur ∧ A = some ⟨g, 0, none⟩ := by
  rcases h.2 with ⟨e, _⟩ | ⟨g', cap, cur, e, _, hh, _⟩
  · injection e with e; subst e; cases hg
  · injection e with e; subst e
    injection hg with hg
    subst hg
    exact ⟨cur, hh, rfl⟩
theorem VRow.kept (h : VRow w (.slice A n c) vs) (k : Kept S w w') (hs : ∀ g, In A g → ¬ S g) : VRow w' (.slice A n c) vs := by
  refine ⟨h.1, ?_⟩
  rcases h.2 with h2 | ⟨g, cap, cur, e, hb, hh, r⟩
  · exact .inl h2
  · refine .inr ⟨g, cap, cur, e, hb, ?_, r⟩
    injection e with e
    subst e
    exact Is.kept (S := S) (w := w) hh k (hs g rfl)
theorem VRow.ne {g : Nat} {t : TypeId} {cs : Array Value} (h : VRow w (.slice A n c) vs) (hi : Is w g t cs) (ht : t ≠ 22) : ¬ In A g := by
  intro hg
  obtain ⟨cur, hc, _⟩ := h.block hg
  exact hi.ne hc ht rfl
theorem VRow.lt (h : VRow w (.slice A n c) vs) {g : Nat} (hg : In A g) : g < w.heap.size := by
  obtain ⟨cur, hc, _⟩ := h.block hg
  exact hc.lt
theorem VRow.cell (h : VRow w (.slice A n c) vs) {k : Nat} (hk : k < vs.length) : ∃ g, A = some ⟨g, 0, none⟩ ∧ w.cell? ⟨g, k, none⟩ = some (vs.getD k undef) := by
  have hn := h.len
  subst hn
  obtain ⟨A', c', e, _, hp⟩ := h.form
  injection e with e1 e2 e3
  subst e1
  obtain ⟨g, cur, rfl, hi⟩ := hp (by omega)
  refine ⟨g, rfl, ?_⟩
  rw [World.ownsRow.cellAt h k (by omega)]
  simp [List.getD, hk]
theorem VRow.alloc (h : VRow w v vs) (o : Obj) : VRow (w.alloc o) v vs := World.ownsRow.alloc h o

/-- No cell of these is an int. -/
def NoInt (cs : Array Value) : Prop := ∀ (i : Nat) (x : Int), cs[i]? ≠ some (.int .i64 x)
/-- A slice of ints lies beside a block without ints. -/
theorem Nums.apart {l : List Int} {b : Nat} {t : TypeId} {cs : Array Value} (h : Nums w v l) (hi : Is w b t cs) (hn : NoInt cs) (k : Kept (fun i => i = b) w w') : Nums w' v l := by
  obtain ⟨A, c, e, hp⟩ := h
  refine ⟨A, c, e, fun h0 => ?_⟩
  obtain ⟨g, o, e1, hg, hc⟩ := hp h0
  have hne : ¬ g = b := by
    rintro rfl
    have h1 := hc 0 h0
    rw [hi.cell] at h1
    exact hn _ _ h1
  exact ⟨g, o, e1, Nat.lt_of_lt_of_le hg k.size, fun j hj => (k.cell (p := ⟨g, o + j, none⟩) hg hne).trans (hc j hj)⟩
theorem Row.beside {l : List Int} {b : Nat} {t : TypeId} {cs : Array Value} (h : Row w v l) (hi : Is w b t cs) (ht : t ≠ 3) (k : Kept (fun i => i = b) w w') : Row w' v l := by
  obtain ⟨A, c, rfl, _⟩ := h.form
  exact h.kept k fun g hg e => h.ne hi ht (e ▸ hg)
theorem Row.keep {l : List Int} (h : Row w v l) (k : Kept Nil w w') : Row w' v l := by
  obtain ⟨A, c, rfl, _⟩ := h.form
  exact h.kept k fun _ _ z => z
theorem Row.far {l : List Int} (h : Row w v l) (hr : VRow w (.slice A n c) vs) (k : Kept (In A) w w') : Row w' v l := by
  obtain ⟨A1, c1, rfl, _⟩ := h.form
  refine h.kept k fun g hg e => ?_
  obtain ⟨cur, hc, _⟩ := hr.block e
  exact h.ne hc (by decide) hg
theorem Lists.apart {LL : List (List Int)} {b : Nat} {t : TypeId} {cs : Array Value} (h : Lists w v LL) (hi : Is w b t cs) (h1 : t ≠ 3) (h2 : t ≠ 22) (k : Kept (fun i => i = b) w w') : Lists w' v LL := by
  obtain ⟨vs, hr, hl, hv⟩ := h
  obtain ⟨A, c, rfl, _⟩ := hr.form
  exact ⟨vs, hr.kept k (fun g hg e => hr.ne hi h2 (e ▸ hg)), hl, fun j hj => (hv j hj).beside hi h1 k⟩
theorem Lists.kept {LL : List (List Int)} (h : Lists w v LL) (k : Kept Nil w w') : Lists w' v LL := by
  obtain ⟨vs, hr, hl, hv⟩ := h
  obtain ⟨A, c, rfl, _⟩ := hr.form
  exact ⟨vs, hr.kept k (fun _ _ z => z), hl, fun j hj => (hv j hj).keep k⟩

/-- The first numbers of a slice. -/
theorem Nums.take {l : List Int} {k : Nat} (h : Nums w (.slice A n c) l) (hk : k ≤ l.length) : Nums w (.slice A k c) (l.take k) := by
  obtain ⟨A1, c1, e, hp⟩ := h
  injection e with e1 e2 e3
  subst e1 e2 e3
  have hlen : (l.take k).length = k := by simp; omega
  refine ⟨A, c, by rw [hlen], fun h0 => ?_⟩
  rw [hlen] at h0
  obtain ⟨g, o, rfl, hg, hc⟩ := hp (by omega)
  refine ⟨g, o, rfl, hg, fun j hj => ?_⟩
  rw [hlen] at hj
  rw [hc j (by omega)]
  simp [List.getD, hj]
end


theorem eql_nil (A : Option Addr) (n c : Nat) (w : World) : (binOp .eql 22 (.slice A n c) (.slice none 0 0)).run Try.prog w = .ok (.bool A.isNone) w := by
  simp only [binOp]
  simp [run_equal_slice_nil w 22 3 A n c Try.underlying22]

section
variable {w : World} {v : Value} {l : List Int}
set_option maxHeartbeats 1000000
/-- slices.Clone. -/
theorem sclone_c (hv : Nums w v l) (hl : l.length ≤ 65536) : Calls Try.prog 40 #[v] w fun e w' => ∃ A c, e = .returned (.slice A l.length c) ∧ l.length ≤ c ∧ Nums w' (.slice A l.length c) l ∧ Kept Nil w w' := by
  obtain ⟨i0, hi, hz0, hz1, hz2⟩ := info_parts info_int
  obtain ⟨A, c, rfl, hp⟩ := hv
  have hm1 : 0 + l.length ≤ maxLen := by simp only [maxLen]; omega
  have hm2 : (0 + l.length) * 8 ≤ 140737488355328 := by omega
  have HM := hide (And.intro hm1 hm2)
  clear hm1 hm2
  cases A with
  | none =>
    have hl0 : l = [] := by
      rcases Nat.eq_zero_or_pos l.length with h | h
      · exact List.length_eq_zero_iff.1 h
      · obtain ⟨g, o, e, _⟩ := hp h
        cases e
    subst hl0
    have he : ∀ W, (binOp .eql 22 (.slice none 0 c) (.slice none 0 0)).run Try.prog W = .ok (.bool true) W := eql_nil none 0 c
    clear hp
    go_enter Try.func40, Try.ntmps40
    go_wp2_with fail
    go_ret
    exact ⟨none, 0, rfl, Nat.le_refl _, Nums.nil _ _ _, Kept.refl _ _⟩
  | some ad =>
    have HN : Hid (∀ j u, (l.map (Value.int .i64))[j]? = some u → (w.alloc (.cells #[] 3)).cell? (ad.add j) = some u) := hide (fun j u hu => by
      rw [List.getElem?_map, Option.map_eq_some_iff] at hu
      obtain ⟨x, hx, rfl⟩ := hu
      have hj : j < l.length := (List.getElem?_eq_some_iff.1 hx).1
      obtain ⟨g, o, e, hg, hc⟩ := hp (by omega)
      injection e with e
      subst e
      have hadd : (⟨g, o, none⟩ : Addr).add j = ⟨g, o + j, none⟩ := by unfold Addr.add; split <;> simp_all
      have := hc j hj
      rw [hadd, World.cell?_alloc_past _ _ _ hg, this]
      simp [List.getD, hx])
    have he : ∀ W, (binOp .eql 22 (.slice (some ad) l.length c) (.slice none 0 0)).run Try.prog W = .ok (.bool false) W := eql_nil (some ad) l.length c
    clear hp
    go_enter Try.func40, Try.ntmps40
    go_wp2_with (at_builtin; refine wpList_append_own_at _ rfl (.tmp 5) (.tmp 6) _ rfl 0 3 i0 (.int .i64 0) 1 8 Try.underlying22 hi hz0 hz1 hz2 rfl (by decide) (.slice (some ⟨w.heap.size, 0, none⟩) 0 0) 0 [] rfl (World.ownsRow_made (base := 0) w #[] 0 (Nat.zero_le _) (by decide) rfl) ad l.length c (l.map (Value.int .i64)) rfl (by simp) HN.out (by intro u hu; rw [List.mem_map] at hu; obtain ⟨x, _, rfl⟩ := hu; rfl) HM.out.1 HM.out.2 (Nat.zero_le _) ?_; intro v' w1 hown' hgrow _ hat; have HD := hide (And.intro hown' (And.intro hgrow hat)); clear hown' hgrow hat)
    go_ret
    have h1 := HD.out.1
    rw [List.nil_append, Nat.zero_add] at h1
    have hr : Row w1 v' l := h1
    obtain ⟨A2, c2, e2, hc2, _⟩ := hr.form
    refine ⟨A2, c2, by rw [← e2]; rfl, hc2, by rw [← e2]; exact hr.nums, ?_⟩
    · have h1 := Kept.of_grown HD.out.2.1
      refine ((Kept.refl Nil w).alloc (.cells #[] 3)).trans h1 fun i hi he => ?_
      injection he with he
      simp at he
      omega
end
end Go.Proofs.Ytepajkakpkndmaa
