/- The counter: two closures over four variables, two of which are maps. -/
import Derived.Test.YtefcjlacjafnoaaBRow
import Derived.Test.YtefcjlacjafnoaaYAsk
import Derived.Test.YtefcjlacjafnoaaENode
namespace Go.Proofs.Ytefcjlacjafnoaa
open Go.RowKit Go.Maps
set_option maxRecDepth 100000

section
variable {w w' : World} {m n : Nat} {f : Int → Option Nat} {t : Int}
/-- A look-up without 'ok': 0 of nothing. -/
theorem Und.look (h : Und w m n f) (ht : (Lit.int .i64 t).wf = true) : (Instr.lookup 55 (.map (some m)) (.int .i64 t) false).run Try.prog w = .ok (.int .i64 ((f t).getD 0 : Nat)) w := by
  obtain ⟨D, hown, hD⟩ := h
  obtain ⟨c, hrun, hc, _⟩ := hown.lookup_int mlaw Try.underlying55 Try.underlying3 (mzero w) (keyOf_int_mk Try.underlying3 ht)
  obtain ⟨h1, h2⟩ := hD t ht
  cases hf : f t with
  | none =>
    rw [hf] at h1
    have h1 : Maps.has D (.int .i64 t) = false := h1
    rw [atKey_of_not_has h1] at hc
    injection hc with hc
    injection hc with _ hc
    rw [hrun, ← hc]
    rfl
  | some k =>
    rw [h2 k hf] at hc
    injection hc with hc
    injection hc with _ hc
    rw [hrun, ← hc]
    rfl
theorem Und.more (h : Und w m n f) {n' : Nat} (hn : n ≤ n') : Und w m n' f := by
  obtain ⟨D, hown, hD⟩ := h
  exact ⟨D, hown.mono hn, hD⟩
end

/-- A counter of the call's own, laid since w0, that was told P. -/
structure Ctr (w0 w : World) (a n b t m1 m2 : Nat) (f1 f2 : Int → Option Nat) (v0 : Value) (N : List Int) (P : List Ev) : Prop where
  all : Is w a 3 #[.int .i64 (P.countP enB : Nat)]
  node : Is w n 55 #[.map (some m1)]
  nodes : Is w b 22 #[v0]
  thr : Is w t 55 #[.map (some m2)]
  u1 : Und w m1 P.length f1
  u2 : Und w m2 P.length f2
  c1 : ∀ x, (f1 x).getD 0 = P.countP (enN N x)
  c2 : ∀ x, (f2 x).getD 0 = P.countP (enT x)
  nums : Nums w0 v0 N
  wn : Nwf N
  kept : Kept Nil w0 w
  new : w0.heap.size ≤ a ∧ w0.heap.size ≤ m1 ∧ w0.heap.size ≤ m2
  ne : m1 ≠ m2
def Cn (w0 w : World) (a n b t : Nat) (v0 : Value) (N : List Int) (P : List Ev) : Prop := ∃ m1 m2 f1 f2, Ctr w0 w a n b t m1 m2 f1 f2 v0 N P
/-- What is left of the rest. -/
def Otc (a : Nat) (w w' : World) : Prop := ∀ i t cs, i ≠ a → Is w i t cs → Is w' i t cs
def tellV (a n b t : Nat) : Value := .func (.func 23) #[] #[.pointer (some ⟨a, 0, none⟩), .pointer (some ⟨n, 0, none⟩), .pointer (some ⟨b, 0, none⟩), .pointer (some ⟨t, 0, none⟩)]
def othersV (a n b t : Nat) : Value := .func (.func 25) #[] #[.pointer (some ⟨n, 0, none⟩), .pointer (some ⟨b, 0, none⟩), .pointer (some ⟨t, 0, none⟩), .pointer (some ⟨a, 0, none⟩)]

section
variable {w0 w w1 w' : World} {a n b t m1 m2 : Nat} {f1 f2 : Int → Option Nat} {v0 : Value} {N : List Int} {P : List Ev} {e : Ev}
theorem Otc.of (k : Kept Nil w w') : Otc a w w' := fun _ _ _ _ h => h.kept k (fun z => z)
theorem Otc.trans (h : Otc a w w1) (k : Otc a w1 w') : Otc a w w' := fun i t cs hi h1 => k i t cs hi (h i t cs hi h1)
theorem Ctr.keep (h : Ctr w0 w a n b t m1 m2 f1 f2 v0 N P) (k : Kept Nil w w') : Ctr w0 w' a n b t m1 m2 f1 f2 v0 N P :=
  ⟨h.all.kept k (fun z => z), h.node.kept k (fun z => z), h.nodes.kept k (fun z => z), h.thr.kept k (fun z => z), h.u1.kept k (fun z => z), h.u2.kept k (fun z => z), h.c1, h.c2, h.nums, h.wn, h.kept.trans k (fun _ _ z => z), h.new, h.ne⟩
theorem Cn.keep (h : Cn w0 w a n b t v0 N P) (k : Kept Nil w w') : Cn w0 w' a n b t v0 N P := by
  obtain ⟨m1, m2, f1, f2, h⟩ := h
  exact ⟨m1, m2, f1, f2, h.keep k⟩
theorem Cn.kept (h : Cn w0 w a n b t v0 N P) : Kept Nil w0 w := by
  obtain ⟨m1, m2, f1, f2, h⟩ := h
  exact h.kept
/-- A row of another type beside the counter is written. -/
theorem Cn.beside {g : Nat} {ty : TypeId} {cs : Array Value} (h : Cn w0 w a n b t v0 N P) (hi : Is w g ty cs) (k : Kept (fun i => i = g) w w') (hg : w0.heap.size ≤ g) (h1 : ty ≠ 3 := by decide) (h2 : ty ≠ 55 := by decide) (h3 : ty ≠ 22 := by decide) : Cn w0 w' a n b t v0 N P := by
  obtain ⟨m1, m2, f1, f2, h⟩ := h
  refine ⟨m1, m2, f1, f2, ⟨h.all.kept k (fun z => hi.ne h.all h1 z.symm), h.node.kept k (fun z => hi.ne h.node h2 z.symm), h.nodes.kept k (fun z => hi.ne h.nodes h3 z.symm), h.thr.kept k (fun z => hi.ne h.thr h2 z.symm), h.u1.kept k (fun z => h.u1.ne hi z.symm), h.u2.kept k (fun z => h.u2.ne hi z.symm), h.c1, h.c2, h.nums, h.wn, h.kept.trans k (fun i hi z => ?_), h.new, h.ne⟩⟩
  omega
theorem Cn.ne {g : Nat} {ty : TypeId} {cs : Array Value} (h : Cn w0 w a n b t v0 N P) (hi : Is w g ty cs) (h1 : ty ≠ 3) : g ≠ a := by
  obtain ⟨m1, m2, f1, f2, h⟩ := h
  exact hi.ne h.all h1
/-- What is no entry turns nothing. -/
theorem Cn.same (h : Cn w0 w a n b t v0 N P) (hk : e.k ≠ 2) : Cn w0 w a n b t v0 N (P ++ [e]) := by
  obtain ⟨m1, m2, f1, f2, h⟩ := h
  have hz : ∀ p : Ev → Bool, (p e = true → e.k = 2) → (P ++ [e]).countP p = P.countP p := fun p hp => by
    rw [cnt_snoc, if_neg (fun z => hk (hp z))]
    rfl
  have hl : P.length ≤ (P ++ [e]).length := by simp
  refine ⟨m1, m2, f1, f2, ⟨?_, h.node, h.nodes, h.thr, h.u1.more hl, h.u2.more hl, fun x => ?_, fun x => ?_, h.nums, h.wn, h.kept, h.new, h.ne⟩⟩
  · rw [hz _ (fun z => by unfold enB at z; rwa [decide_eq_true_eq] at z)]
    exact h.all
  · rw [hz _ (fun z => by unfold enN at z; rw [decide_eq_true_eq] at z; exact z.1)]
    exact h.c1 x
  · rw [hz _ (fun z => by unfold enT at z; rw [decide_eq_true_eq] at z; exact z.1)]
    exact h.c2 x
/-- One more entry, step by step. -/
theorem Ctr.up (h : Ctr w0 w a n b t m1 m2 f1 f2 v0 N P) (hk : e.k = 2) {w3 w4 : World} (hi : Is w1 a 3 #[.int .i64 ((P.countP enB : Nat) + 1 : Int)]) (k1 : Kept (fun i => i = a) w w1)
    (k3 : Kept (fun i => i = m1) w1 w3) (u1 : Und w3 m1 (P.length + 1) (fput f1 (nd N e.t) ((f1 (nd N e.t)).getD 0 + 1))) (k4 : Kept (fun i => i = m2) w3 w4) (u2 : Und w4 m2 (P.length + 1) (fput f2 e.t ((f2 e.t).getD 0 + 1))) :
    Cn w0 w4 a n b t v0 N (P ++ [e]) ∧ Otc a w w4 := by
  have hl : (P ++ [e]).length = P.length + 1 := by simp
  have ht : ∀ i ty cs, i ≠ a → Is w i ty cs → Is w4 i ty cs := fun i ty cs hia hi =>
    ((hi.kept k1 hia).kept k3 (fun z => (h.u1.kept k1 (fun y => h.u1.ne h.all y.symm)).ne (hi.kept k1 hia) z)).kept k4 (fun z => by
      have := (h.u2.kept k1 (fun y => h.u2.ne h.all y.symm)).ne (hi.kept k1 hia)
      exact this z)
  have tn : ∀ {i ty cs}, Is w i ty cs → ty ≠ 3 → i ≠ a := fun hi hty => hi.ne h.all hty
  refine ⟨⟨m1, m2, fput f1 (nd N e.t) ((f1 (nd N e.t)).getD 0 + 1), fput f2 e.t ((f2 e.t).getD 0 + 1), ⟨?_, ht _ _ _ (tn h.node (by decide)) h.node, ht _ _ _ (tn h.nodes (by decide)) h.nodes, ht _ _ _ (tn h.thr (by decide)) h.thr, ?_, ?_, fun x => ?_, fun x => ?_, h.nums, h.wn, ?_, h.new, h.ne⟩⟩, ht⟩
  · rw [cnt_snoc, if_pos (by unfold enB; rwa [decide_eq_true_eq])]
    have e1 : ((P.countP enB + 1 : Nat) : Int) = (P.countP enB : Nat) + 1 := by omega
    rw [e1]
    refine (hi.kept k3 (fun z => ?_)).kept k4 (fun z => ?_)
    · exact (h.u1.ne h.all) z
    · exact (h.u2.ne h.all) z
  · rw [hl]
    exact u1.kept k4 (fun z => h.ne z)
  · rw [hl]
    exact u2
  · rw [cnt_snoc]
    by_cases hx : x = nd N e.t
    · subst hx
      rw [fput_same, if_pos (by unfold enN; rw [decide_eq_true_eq]; exact ⟨hk, rfl⟩), ← h.c1]
      rfl
    · rw [fput_other hx, if_neg (by unfold enN; rw [decide_eq_true_eq]; exact fun z => hx z.2.symm), h.c1]
      rfl
  · rw [cnt_snoc]
    by_cases hx : x = e.t
    · subst hx
      rw [fput_same, if_pos (by unfold enT; rw [decide_eq_true_eq]; exact ⟨hk, rfl⟩), ← h.c2]
      rfl
    · rw [fput_other hx, if_neg (by unfold enT; rw [decide_eq_true_eq]; exact fun z => hx z.2.symm), h.c2]
      rfl
  · refine ((h.kept.trans k1 (fun i hi z => ?_)).trans k3 (fun i hi z => ?_)).trans k4 (fun i hi z => ?_)
    · have := h.new.1
      omega
    · have := h.new.2.1
      omega
    · have := h.new.2.2
      omega
set_option maxHeartbeats 1000000
theorem counter_c (hn : Nums w v0 N) (wn : Nwf N) : Calls Try.prog 16 #[v0] w fun x w' => ∃ a n b t, x = .returned (.tuple #[tellV a n b t, othersV a n b t]) ∧ Cn w w' a n b t v0 N [] := by
  have hmm := @run_makeMap Try.prog
  have hmf : ∀ (fn : Fn) (first cap : Array Value) (w : World), (Instr.makeFunc fn first cap).run Try.prog w = .ok (.func fn first cap) w := fun _ _ _ _ => rfl
  obtain ⟨W1, h1⟩ : ∃ W, w.alloc (.cells #[v0] 22) = W := ⟨_, rfl⟩
  obtain ⟨W2, h2⟩ : ∃ W, W1.alloc (.cells #[.int .i64 0] 3) = W := ⟨_, rfl⟩
  obtain ⟨W3, h3⟩ : ∃ W, W2.alloc (.map #[] 0) = W := ⟨_, rfl⟩
  obtain ⟨W4, h4⟩ : ∃ W, W3.alloc (.map #[] 0) = W := ⟨_, rfl⟩
  obtain ⟨W5, h5⟩ : ∃ W, W4.alloc (.cells #[.map (some W2.heap.size)] 55) = W := ⟨_, rfl⟩
  obtain ⟨W6, h6⟩ : ∃ W, W5.alloc (.cells #[.map (some W3.heap.size)] 55) = W := ⟨_, rfl⟩
  have I1 : Is W1 w.heap.size 22 #[v0] := by rw [← h1]; exact Is.new _ _ _
  have I2 : Is W2 W1.heap.size 3 #[.int .i64 0] := by rw [← h2]; exact Is.new _ _ _
  have I3 : Und W3 W2.heap.size 0 (fun _ => none) := by rw [← h3]; exact Und.new _
  have I4 : Und W4 W3.heap.size 0 (fun _ => none) := by rw [← h4]; exact Und.new _
  have I5 : Is W5 W4.heap.size 55 #[.map (some W2.heap.size)] := by rw [← h5]; exact Is.new _ _ _
  have I6 : Is W6 W5.heap.size 55 #[.map (some W3.heap.size)] := by rw [← h6]; exact Is.new _ _ _
  have K6 : Kept Nil W5 W6 := by rw [← h6]; exact (Kept.refl Nil _).alloc _
  have K5 : Kept Nil W4 W6 := Kept.trans (S := Nil) (by rw [← h5]; exact (Kept.refl Nil _).alloc _) K6 (fun _ _ z => z)
  have K4 : Kept Nil W3 W6 := Kept.trans (S := Nil) (by rw [← h4]; exact (Kept.refl Nil _).alloc _) K5 (fun _ _ z => z)
  have K3 : Kept Nil W2 W6 := Kept.trans (S := Nil) (by rw [← h3]; exact (Kept.refl Nil _).alloc _) K4 (fun _ _ z => z)
  have K2 : Kept Nil W1 W6 := Kept.trans (S := Nil) (by rw [← h2]; exact (Kept.refl Nil _).alloc _) K3 (fun _ _ z => z)
  have K1 : Kept Nil w W6 := Kept.trans (S := Nil) (by rw [← h1]; exact (Kept.refl Nil _).alloc _) K2 (fun _ _ z => z)
  have s1 : W1.heap.size = w.heap.size + 1 := by rw [← h1]; simp
  have s2 : W2.heap.size = w.heap.size + 1 + 1 := by rw [← h2]; simp [s1]
  have s3 : W3.heap.size = w.heap.size + 1 + 1 + 1 := by rw [← h3]; simp [s2]
  have s4 : W4.heap.size = w.heap.size + 1 + 1 + 1 + 1 := by rw [← h4]; simp [s3]
  have s5 : W5.heap.size = w.heap.size + 1 + 1 + 1 + 1 + 1 := by rw [← h5]; simp [s4]
  have HC : Hid (Cn w W6 W1.heap.size W4.heap.size w.heap.size W5.heap.size v0 N []) := hide ⟨W2.heap.size, W3.heap.size, fun _ => none, fun _ => none,
    ⟨I2.kept K3 (fun z => z), I5.kept K6 (fun z => z), I1.kept K2 (fun z => z), I6, I3.kept K4 (fun z => z), I4.kept K5 (fun z => z), fun _ => rfl, fun _ => rfl, hn, wn, K1, ⟨by omega, by omega, by omega⟩, by omega⟩⟩
  rw [s1, s4, s5] at HC
  have e6 : ((((((w.alloc (.cells #[v0] 22)).alloc (.cells #[.int .i64 0] 3)).alloc (.map #[] 0)).alloc (.map #[] 0)).alloc (.cells #[.map (some (w.heap.size + 1 + 1))] 55)).alloc (.cells #[.map (some (w.heap.size + 1 + 1 + 1))] 55)) = W6 := by
    rw [h1, h2, h3, h4, ← s3, ← s2, h5, h6]
  have HE := hide e6
  clear I1 I2 I3 I4 I5 I6 K1 K2 K3 K4 K5 K6 h1 h2 h3 h4 h5 h6 s1 s2 s3 s4 s5 e6
  obtain ⟨A0, c0, rfl, _⟩ := hn
  go_enter Try.func16, Try.ntmps16
  go_wp2_with fail
  go_ret2
  exact ⟨_, _, _, _, rfl, by rw [HE.out]; exact HC.out⟩
/-- What is no entry. -/
theorem tell_no (h : Cn w0 w a n b t v0 N P) (hk : e.k ≠ 2) : Calls Try.prog 23 #[.agg #[.int .i64 e.k, .int .i64 e.t, .bool e.r, .int .i64 e.c], .pointer (some ⟨a, 0, none⟩), .pointer (some ⟨n, 0, none⟩), .pointer (some ⟨b, 0, none⟩), .pointer (some ⟨t, 0, none⟩)] w fun x w' => x = .returned (.tuple #[]) ∧ Cn w0 w' a n b t v0 N (P ++ [e]) ∧ Otc a w w' := by
  have K := (Kept.refl Nil w).alloc (.cells #[.int .i64 e.k, .int .i64 e.t, .bool e.r, .int .i64 e.c] 36)
  have H := hide (And.intro ((h.keep K).same hk) (Otc.of (a := a) K))
  have hb : (e.k != 2) = true := by simpa using hk
  clear h hk K
  go_enter Try.func23, Try.ntmps23
  go_wp2_with fail
  refine bodyPost_ret (results_none rfl _ _ _) rfl ?_
  exact ⟨rfl, H.out⟩
theorem tell_yes {et ec : Int} {er : Bool} (h : Cn w0 w a n b t v0 N P) (hw : (Lit.int .i64 et).wf = true) (hl : P.length ≤ 65536) : Calls Try.prog 23 #[.agg #[.int .i64 2, .int .i64 et, .bool er, .int .i64 ec], .pointer (some ⟨a, 0, none⟩), .pointer (some ⟨n, 0, none⟩), .pointer (some ⟨b, 0, none⟩), .pointer (some ⟨t, 0, none⟩)] w fun x w' => x = .returned (.tuple #[]) ∧ Cn w0 w' a n b t v0 N (P ++ [⟨2, et, er, ec⟩]) ∧ Otc a w w' := by
  obtain ⟨m1, m2, f1, f2, h⟩ := h
  obtain ⟨w1, hw1⟩ : ∃ w1, w.alloc (.cells #[.int .i64 2, .int .i64 et, .bool er, .int .i64 ec] 36) = w1 := ⟨_, rfl⟩
  have K : Kept Nil w w1 := by rw [← hw1]; exact (Kept.refl Nil w).alloc _
  have HB : Is w1 w.heap.size 36 #[.int .i64 2, .int .i64 et, .bool er, .int .i64 ec] := by rw [← hw1]; exact Is.new w _ _
  have h1 := h.keep K
  have cA := cnt_le (P := P) (p := enB)
  have cN := cnt_le (P := P) (p := enN N (nd N et))
  have cT := cnt_le (P := P) (p := enT et)
  rw [← h1.c1] at cN
  rw [← h1.c2] at cT
  have q0 : w1.cell? ⟨a, 0, none⟩ = some (.int .i64 (P.countP enB : Nat)) := h1.all.cell 0
  have z0 := h1.all.free 0
  have p0 : w1.cell? ⟨w.heap.size, 0, none⟩ = some (.int .i64 2) := HB.cell 0
  -- the count of all
  obtain ⟨w2, hw2⟩ : ∃ w2, w1.setCell ⟨a, 0, none⟩ (.int .i64 ((P.countP enB : Nat) + 1 : Int)) = w2 := ⟨_, rfl⟩
  have i2 : Is w2 a 3 #[.int .i64 ((P.countP enB : Nat) + 1 : Int)] := by rw [← hw2]; exact h1.all.set 0 _
  have k2 : Kept (fun i => i = a) w1 w2 := by rw [← hw2]; exact (Kept.refl (fun i => i = a) w1).set (p := ⟨a, 0, none⟩) (fun _ => rfl) _
  have u1 := h1.u1.kept k2 (fun y => h1.u1.ne h1.all y.symm)
  have u2 := h1.u2.kept k2 (fun y => h1.u2.ne h1.all y.symm)
  have na : ∀ {i ty cs}, Is w1 i ty cs → ty ≠ 3 → i ≠ a := fun hi hty => hi.ne h1.all hty
  have j5 := HB.kept k2 (na HB (by decide))
  have jn := h1.node.kept k2 (na h1.node (by decide))
  have jb := h1.nodes.kept k2 (na h1.nodes (by decide))
  have jt := h1.thr.kept k2 (na h1.thr (by decide))
  have hy := nd_wf h1.wn et
  have hNU : Nums w2 v0 N := by
    obtain ⟨A0, c0, q, hp⟩ := h1.nums
    refine ⟨A0, c0, q, fun h0 => ?_⟩
    obtain ⟨g, o, e1, hg, hc⟩ := hp h0
    refine ⟨g, o, e1, Nat.lt_of_lt_of_le hg (h1.kept.trans k2 (fun i hi z => by have := h1.new.1; omega) : Kept Nil w0 w2).size, fun j hj => ?_⟩
    have kk : Kept Nil w0 w2 := h1.kept.trans k2 (fun i hi z => by have := h1.new.1; omega)
    exact (kk.cell (p := ⟨g, o + j, none⟩) hg (fun c => c)).trans (hc j hj)
  have CN := hide (node_c et (hNU.kept ((Kept.refl Nil w2).drew)))
  have look1 := (u1.kept ((Kept.refl Nil w2).drew) (fun z => z)).look hy
  obtain ⟨w3, hrun1, v1, k3⟩ := (u1.kept ((Kept.refl Nil w2).drew) (fun z => z)).put (by unfold maxLen; omega) hy ((f1 (nd N et)).getD 0 + 1) (WalkArith.wf_i64 (by omega))
  have k3 : Kept (fun i => i = m1) w2 w3 := undrew k3
  have u2' := u2.kept k3 (fun z => h1.ne z.symm)
  have look2 := u2'.look hw
  obtain ⟨w4, hrun2, v2, k4⟩ := u2'.put (by unfold maxLen; omega) hw ((f2 et).getD 0 + 1) (WalkArith.wf_i64 (by omega))
  have nm : ∀ {i ty cs}, Is w2 i ty cs → i ≠ m1 := fun hi => u1.ne hi
  have jt3 := jt.kept k3 (nm jt)
  have j53 := j5.kept k3 (nm j5)
  have r6 : w3.cell? ⟨n, 0, none⟩ = some (.map (some m1)) := (jn.kept k3 (nm jn)).cell 0
  have r7 : w3.cell? ⟨b, 0, none⟩ = some v0 := (jb.kept k3 (nm jb)).cell 0
  have HF := hide (h1.up (e := ⟨2, et, er, ec⟩) rfl i2 k2 k3 v1 k4 v2)
  have HO := hide (Otc.of (a := a) K)
  have r1 : w2.drew.cell? ⟨n, 0, none⟩ = some (.map (some m1)) := jn.cell 0
  have r2 : w2.drew.cell? ⟨b, 0, none⟩ = some v0 := jb.cell 0
  have r3 : w2.drew.cell? ⟨w.heap.size, 1, none⟩ = some (.int .i64 et) := j5.cell 1
  have r4 : w3.cell? ⟨t, 0, none⟩ = some (.map (some m2)) := jt3.cell 0
  have r5 : w3.cell? ⟨w.heap.size, 1, none⟩ = some (.int .i64 et) := j53.cell 1
  obtain ⟨A0, c0, rfl, _⟩ := h1.nums
  clear h h1 K HB i2 k2 u1 u2 na j5 jn jb jt hNU v1 k3 u2' v2 k4 nm jt3 j53
  generalize (f1 (nd N et)).getD 0 = x1 at *
  generalize (f2 et).getD 0 = x2 at *
  generalize nd N et = y at *
  generalize P.countP enB = ca at *
  have s0 : IntKind.i64.wrap ((ca : Int) + 1) = (ca : Int) + 1 := IntWalk.i64_in _ (by omega)
  have s1 : IntKind.i64.wrap ((x1 : Int) + 1) = (x1 : Int) + 1 := IntWalk.i64_in _ (by omega)
  have s2 : IntKind.i64.wrap ((x2 : Int) + 1) = (x2 : Int) + 1 := IntWalk.i64_in _ (by omega)
  have hx1 : ((x1 + 1 : Nat) : Int) = (x1 : Int) + 1 := by omega
  have hx2 : ((x2 + 1 : Nat) : Int) = (x2 : Int) + 1 := by omega
  rw [hx1] at hrun1
  rw [hx2] at hrun2
  go_enter Try.func23, Try.ntmps23
  go_wp2_with fail
  go_region_held3 (fun W => W.cell? ⟨n, 0, none⟩ = some (.map (some m1)) ∧ W.cell? ⟨b, 0, none⟩ = some (.slice A0 N.length c0) ∧ W.cell? ⟨w.heap.size, 1, none⟩ = some (.int .i64 et))
    (exact ⟨by assumption, by assumption, by assumption⟩)
    (first | (go_at_call 24; refine CN.out.mono ?_; rintro e w5 ⟨rfl, rfl⟩))
  go_wp2_with fail
  go_end0
  exact ⟨rfl, HF.out.1, HO.out.trans HF.out.2⟩
theorem tell_c (h : Cn w0 w a n b t v0 N P) (hw : (Lit.int .i64 e.t).wf = true) (hl : P.length ≤ 65536) : Calls Try.prog 23 #[.agg #[.int .i64 e.k, .int .i64 e.t, .bool e.r, .int .i64 e.c], .pointer (some ⟨a, 0, none⟩), .pointer (some ⟨n, 0, none⟩), .pointer (some ⟨b, 0, none⟩), .pointer (some ⟨t, 0, none⟩)] w fun x w' => x = .returned (.tuple #[]) ∧ Cn w0 w' a n b t v0 N (P ++ [e]) ∧ Otc a w w' := by
  by_cases hk : e.k = 2
  · obtain ⟨ek, et, er, ec⟩ := e
    obtain rfl : ek = 2 := hk
    exact tell_yes h hw hl
  · exact tell_no h hk
/-- What the counter tells of others than a thread. -/
theorem others_c {th : Int} (h : Cn w0 w a n b t v0 N P) (hw : (Lit.int .i64 th).wf = true) (hl : P.length ≤ 65536) : Calls Try.prog 25 #[.int .i64 th, .pointer (some ⟨n, 0, none⟩), .pointer (some ⟨b, 0, none⟩), .pointer (some ⟨t, 0, none⟩), .pointer (some ⟨a, 0, none⟩)] w fun x w' => x = .returned (psv (cth N th P)) ∧ Kept Nil w w' := by
  obtain ⟨m1, m2, f1, f2, h⟩ := h
  obtain ⟨w1, hw1⟩ : ∃ w1, w.alloc (.cells #[.int .i64 0, .int .i64 0] 27) = w1 := ⟨_, rfl⟩
  have K : Kept Nil w w1 := by rw [← hw1]; exact (Kept.refl Nil w).alloc _
  have HB : Is w1 w.heap.size 27 #[.int .i64 0, .int .i64 0] := by rw [← hw1]; exact Is.new w _ _
  have h1 := h.keep K
  have KD := (Kept.refl Nil w1).drew
  have hy := nd_wf h1.wn th
  have CN := hide (node_c th (h1.nums.kept (h1.kept.trans KD (fun _ _ z => z))))
  have look1 := (h1.u1.kept KD (fun z => z)).look hy
  have look2 := (h1.u2.kept KD (fun z => z)).look hw
  rw [h1.c1] at look1
  rw [h1.c2] at look2
  have eS := cnt_S (P := P) (N := N) (t := th)
  have eO := cnt_O (P := P) (N := N) (t := th)
  have lA := cnt_le (P := P) (p := enB)
  have r1 : w1.drew.cell? ⟨n, 0, none⟩ = some (.map (some m1)) := h1.node.cell 0
  have r2 : w1.drew.cell? ⟨b, 0, none⟩ = some v0 := h1.nodes.cell 0
  have r4 : w1.drew.cell? ⟨t, 0, none⟩ = some (.map (some m2)) := h1.thr.cell 0
  have r5 : w1.drew.cell? ⟨a, 0, none⟩ = some (.int .i64 (P.countP enB : Nat)) := h1.all.cell 0
  have HW := hide (And.intro K.drew HB)
  have z1 : w1.drew.cell? ⟨w.heap.size, 0, none⟩ = some (.int .i64 0) := HB.cell 0
  have z2 : w1.drew.cell? ⟨w.heap.size, 1, none⟩ = some (.int .i64 0) := HB.cell 1
  have z3 : w1.drew.frozen? ⟨w.heap.size, 0, none⟩ = false := HB.free 0
  have z4 : w1.drew.frozen? ⟨w.heap.size, 1, none⟩ = false := HB.free 1
  obtain ⟨A0, c0, rfl, _⟩ := h1.nums
  clear h h1 K HB KD
  have HS : Hid (cth N th P = ⟨(P.countP (psS N th) : Nat), (P.countP (psO N th) : Nat)⟩) := hide rfl
  generalize P.countP (psS N th) = xs at *
  generalize P.countP (psO N th) = xo at *
  generalize P.countP (enN N (nd N th)) = xn at *
  generalize P.countP (enT th) = xt at *
  generalize P.countP enB = xa at *
  generalize nd N th = y at *
  have s1 : IntKind.i64.wrap ((xn : Int) - (xt : Int)) = (xs : Int) := by rw [IntWalk.i64_in _ (by omega)]; omega
  have s2 : IntKind.i64.wrap ((xa : Int) - (xn : Int)) = (xo : Int) := by rw [IntWalk.i64_in _ (by omega)]; omega
  clear eS eO
  obtain ⟨w2, hw2⟩ : ∃ w2, w1.setCell ⟨w.heap.size, 0, none⟩ (.int .i64 xs) = w2 := ⟨_, rfl⟩
  obtain ⟨w3, hw3⟩ : ∃ w3, w2.setCell ⟨w.heap.size, 1, none⟩ (.int .i64 xo) = w3 := ⟨_, rfl⟩
  have I2 : Is w2 w.heap.size 27 #[.int .i64 xs, .int .i64 0] := by rw [← hw2]; exact HW.out.2.set 0 _
  have I3 : Is w3 w.heap.size 27 #[.int .i64 xs, .int .i64 xo] := by rw [← hw3]; exact I2.set 1 _
  have K3 : Kept Nil w w3.drew := by
    rw [← hw3, ← hw2]
    exact ((HW.out.1.set (p := ⟨w.heap.size, 0, none⟩) (fun z => absurd z (Nat.lt_irrefl _)) _).set (p := ⟨w.heap.size, 1, none⟩) (fun z => absurd z (Nat.lt_irrefl _)) _)
  have z5 : w2.drew.cell? ⟨w.heap.size, 1, none⟩ = some (.int .i64 0) := I2.cell 1
  have z6 : w2.drew.frozen? ⟨w.heap.size, 1, none⟩ = false := I2.free 1
  have H3 := hide (And.intro I3 K3)
  clear I2 I3 K3
  go_enter Try.func25, Try.ntmps25
  go_wp2_with fail
  go_region_held3 (fun W => W.cell? ⟨n, 0, none⟩ = some (.map (some m1)) ∧ W.cell? ⟨b, 0, none⟩ = some (.slice A0 N.length c0))
    (exact ⟨by assumption, by assumption⟩)
    (first | (go_at_call 24; refine CN.out.mono ?_; rintro e w5 ⟨rfl, rfl⟩))
  go_wp2_with fail
  exact bodyPost_ret (results_pass rfl _ rfl (H3.out.1.cell 0) (H3.out.1.cell 1)) rfl ⟨by rw [HS.out]; rfl, H3.out.2⟩
end
end Go.Proofs.Ytefcjlacjafnoaa
