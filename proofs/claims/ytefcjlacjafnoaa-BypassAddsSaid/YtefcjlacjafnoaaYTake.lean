/- take. -/
import Derived.Test.YtefcjlacjafnoaaYAsk
namespace Go.Proofs.Ytefcjlacjafnoaa
open Go.RowKit
set_option maxRecDepth 100000

/-- delete, as one step of a region that draws. -/
theorem step_deletes {P : Program} {ops : Array Oper} {o : Oper} {a : Act} {w w' : World} {K : Act → World → Prop} {Q : Exit → Act → World → Prop} {E : Prop} (hgd : o.guard = none) (m x : Operand) (t k : TypeId)
    (hop : o.op = Op.call { callee := Callee.builtin Builtin.delete, args := #[m, x], argTypes := #[t, k] }) {u key : Value} (hm : a.eval m = u) (hx : a.eval x = key)
    (hrun : (Builtin.delete_ #[t, k] o.type #[u, key]).run P w = .ok (.tuple #[]) w') (h : K (a.put o.dst (.tuple #[])) w') :
    if Region.wanted o (yielded ops a.tmps) = true then Oper.wp P o a w K Q else E := by
  have hw : Region.wanted o (yielded ops a.tmps) = true := by simp [Region.wanted, hgd]
  rw [if_pos hw]
  unfold Oper.wp
  simp [execOp, hop, resolve, invoke, builtin, hm, hx, hrun, Result.andThen]
  exact h
/-- A tally but for what is under way. -/
structure Tz (w0 w : World) (p m g c : Nat) (S : List Sy) (f : Int → Option Nat) : Prop where
  box : Is w p 57 #[.slice (some ⟨g, 0, none⟩) S.length c, .map (some m)]
  row : Gw 50 7 w0 w (some ⟨g, 0, none⟩) c S.length (ycells S)
  und : Und w m S.length f
  pn : w0.heap.size ≤ p
  mn : w0.heap.size ≤ m
section
variable {w0 w w' : World} {p m g c k j : Nat} {S : List Sy} {f : Int → Option Nat} {s : Sy} {v : Value}
theorem Tz.keep (h : Tz w0 w p m g c S f) (k : Kept Nil w w') : Tz w0 w' p m g c S f := ⟨h.box.kept k (fun z => z), h.row.keep k, h.und.kept k (fun z => z), h.pn, h.mn⟩
theorem Tz.tly (h : Tz w0 w p m g c S f) (hx : Yix f S) : Tly w0 w p S := ⟨m, some ⟨g, 0, none⟩, c, f, ⟨h.box, h.row, h.und, hx, h.pn, h.mn⟩⟩
/-- Behind a store into one of the stays. -/
theorem Tz.store (h : Tz w0 w p m g c S f) (hk : k < S.length) (hj : j < 7) (he : (scs (S.getD k s0)).set j v = scs s) : Tz w0 (w.setCell ⟨g, k * 7 + j, none⟩ v) p m g c (S.set k s) f ∧ Oth w (w.setCell ⟨g, k * 7 + j, none⟩ v) := by
  obtain ⟨cur, hc⟩ := h.row.block (g := g) rfl
  have ks := (Kept.refl (fun i => i = g) w).set (p := ⟨g, k * 7 + j, none⟩) (fun _ => rfl) v
  refine ⟨⟨?_, h.row.store7 hk hj he, ?_, h.pn, h.mn⟩, fun i t cs h1 h2 hi => hi.kept ks (fun z => ?_)⟩
  · rw [List.length_set]
    exact h.box.kept ks (fun z => hc.ne h.box (by decide) z.symm)
  · rw [List.length_set]
    exact h.und.kept ks (fun z => h.und.ne hc z.symm)
  · subst z
    exact hi.ne hc h2 rfl
/-- Behind a delete. -/
theorem Tz.over {f' : Int → Option Nat} (h : Tz w0 w p m g c S f) (k : Kept (fun i => i = m) w w') (hu : Und w' m S.length f') : Tz w0 w' p m g c S f' ∧ Oth w w' := by
  obtain ⟨cur, hc⟩ := h.row.block (g := g) rfl
  refine ⟨⟨h.box.kept k (fun z => h.und.ne h.box z), ⟨owns_keep h.row.row k (fun i hi z => ?_), h.row.kept.trans k (fun i hi z => ?_), h.row.own⟩, hu, h.pn, h.mn⟩, fun i t cs h1 h2 hi => hi.kept k (fun z => h.und.ne hi z)⟩
  · injection hi with hi
    have hi : g = i := hi
    subst hi
    exact h.und.ne hc z
  · have := h.mn
    omega
theorem Tz.cells (h : Tz w0 w p m g c S f) (hk : k < S.length) : g < w.heap.size ∧ S.length ≤ c ∧ Seven (fun i => w.cell? ⟨g, i, none⟩) (k * 7) (S.getD k s0) ∧ ∀ i, w.frozen? ⟨g, i, none⟩ = false := by
  obtain ⟨g', e, h1, _, h2, h3, h4⟩ := h.row.at7 hk
  injection e with e
  injection e with e
  subst e
  exact ⟨h1, h2, h3, h4⟩
theorem Ty.tz {A : Option Addr} (h : Ty w0 w p m A c S f) (hk : k < S.length) : ∃ g, A = some ⟨g, 0, none⟩ ∧ Tz w0 w p m g c S f := by
  obtain ⟨g, rfl, _⟩ := h.row.at7 hk
  exact ⟨g, rfl, h.box, h.row, h.und, h.pn, h.mn⟩
end

section
variable {w0 w w1 w' : World} {p m c : Nat} {A : Option Addr} {S : List Sy} {f : Int → Option Nat}
set_option maxHeartbeats 1000000
theorem take_free {i : Nat} {v : Ev} (h : Ty w0 w p m A c S f) (hn : f v.t = none) (hw : (Lit.int .i64 v.t).wf = true) (hl : S.length ≤ 65536) : Calls Try.prog 19 #[.pointer (some ⟨p, 0, none⟩), .int .i64 i, .agg #[.int .i64 v.k, .int .i64 v.t, .bool v.r, .int .i64 v.c]] w fun e w' => e = .returned (.bool (ytk S v)) ∧ Tly w0 w' p (ystp S i v) ∧ Oth w w' := by
  have HA : Hid (∀ W, Kept Nil w W → Calls Try.prog 26 #[.pointer (some ⟨p, 0, none⟩), .int .i64 i, .agg #[.int .i64 v.k, .int .i64 v.t, .bool v.r, .int .i64 v.c]] W fun e w' => e = .returned (.bool (ytk S v)) ∧ Tly w0 w' p (ystp S i v) ∧ Oth w w') := hide fun W k => by
    by_cases hk : v.k = 1
    · obtain ⟨e1, e2⟩ := free_ask (i := i) h.ix hn hk
      rw [e1, e2]
      obtain ⟨vk, vt, vr, vc⟩ := v
      obtain rfl : vk = 1 := hk
      exact (ask_yes (h.keep k) hn hw hl).mono fun _ _ ⟨a, b, d⟩ => ⟨a, b, (Oth.of k).trans d⟩
    · obtain ⟨e1, e2⟩ := free_not (i := i) h.ix hn hk
      rw [e1, e2]
      exact (ask_not (h.keep k) hk).mono fun _ _ ⟨a, b, d⟩ => ⟨a, b, (Oth.of k).trans d⟩
  obtain ⟨w1, hw1⟩ : ∃ w1, w.alloc (.cells #[.int .i64 v.k, .int .i64 v.t, .bool v.r, .int .i64 v.c] 36) = w1 := ⟨_, rfl⟩
  have K : Kept Nil w w1 := by rw [← hw1]; exact (Kept.refl Nil w).alloc _
  have HB : Is w1 w.heap.size 36 #[.int .i64 v.k, .int .i64 v.t, .bool v.r, .int .i64 v.c] := by rw [← hw1]; exact Is.new w _ _
  have h1 := h.keep K
  have hlook := (h1.keep ((Kept.refl Nil w1).drew)).und.none_ hw hn
  have q1 : w1.drew.cell? ⟨p, 1, none⟩ = some (.map (some m)) := h1.box.cell 1
  have e1 : w1.drew.cell? ⟨w.heap.size, 1, none⟩ = some (.int .i64 v.t) := HB.cell 1
  have g0 : w1.drew.cell? ⟨w.heap.size, 0, none⟩ = some (.int .i64 v.k) := HB.cell 0
  have g2 : w1.drew.cell? ⟨w.heap.size, 2, none⟩ = some (.bool v.r) := HB.cell 2
  have g3 : w1.drew.cell? ⟨w.heap.size, 3, none⟩ = some (.int .i64 v.c) := HB.cell 3
  have HK := hide K.drew
  clear h h1 K HB hn hw hl
  go_enter Try.func19, Try.ntmps19
  go_wp2_with fail
  go_region
  go_wp2_with fail
  refine (HA.out _ HK.out).mono ?_
  rintro e w' ⟨rfl, h2⟩
  go_wp2_with fail
  go_ret
  exact ⟨rfl, h2⟩
/-- What is known as take begins, of a thread whose stay is under way. -/
structure Tg (w0 w w1 : World) (p m g c k : Nat) (S : List Sy) (f : Int → Option Nat) (v : Ev) (s : Sy) : Prop where
  kt : Kept Nil w w1
  ev : Is w1 w.heap.size 36 #[.int .i64 v.k, .int .i64 v.t, .bool v.r, .int .i64 v.c]
  tz : Tz w0 w1 p m g c S f
  ix : Yix f S
  at_ : f v.t = some k
  kl : k < S.length
  is_ : S.getD k s0 = s
  wf : (Lit.int .i64 v.t).wf = true
  small : S.length ≤ 65536
/-- A step of the walk through take: nothing is done. -/
theorem Tg.none_ {g k i : Nat} {v : Ev} {s : Sy} (h : Tg w0 w w1 p m g c k S f v s) (hh : yhit v s = false) (kk : Kept Nil w1 w') : (Value.bool false) = .bool (ytk S v) ∧ Tly w0 w' p (ystp S i v) ∧ Oth w w' := by
  obtain ⟨e1, e2⟩ := open_at (i := i) h.ix h.at_
  rw [e1, e2, h.is_, hh, upd_miss hh, ← h.is_, set_same h.kl]
  exact ⟨rfl, (h.tz.keep kk).tly h.ix, (Oth.of h.kt).trans (Oth.of kk)⟩
theorem Tg.yes {g k i : Nat} {v : Ev} {s s' : Sy} {W : World} {f' : Int → Option Nat} (h : Tg w0 w w1 p m g c k S f v s) (hh : yhit v s = true) (hu : yupd i v s = s') (hz : Tz w0 W p m g c (S.set k s') f') (hx : Yix f' (S.set k s')) (ho : Oth w1 W) :
    (Value.bool true) = .bool (ytk S v) ∧ Tly w0 W p (ystp S i v) ∧ Oth w W := by
  obtain ⟨e1, e2⟩ := open_at (i := i) h.ix h.at_
  rw [e1, e2, h.is_, hh, hu]
  exact ⟨rfl, hz.tly hx, (Oth.of h.kt).trans ho⟩
theorem Tg.two {g k i : Nat} {vt vc st sa sx sc : Int} {vr sr : Bool} {W : World} (h : Tg w0 w w1 p m g c k S f ⟨2, vt, vr, vc⟩ ⟨st, sr, sa, -1, sx, -1, sc⟩) (ht : st = vt) (kk : Kept Nil w1 W) :
    (Value.bool true) = .bool (ytk S ⟨2, vt, vr, vc⟩) ∧ Tly w0 ((W.setCell ⟨g, k * 7 + 3, none⟩ (.int .i64 i)).setCell ⟨g, k * 7 + 6, none⟩ (.int .i64 vc)) p (ystp S i ⟨2, vt, vr, vc⟩) ∧ Oth w ((W.setCell ⟨g, k * 7 + 3, none⟩ (.int .i64 i)).setCell ⟨g, k * 7 + 6, none⟩ (.int .i64 vc)) := by
  have hu : yupd i ⟨2, vt, vr, vc⟩ ⟨st, sr, sa, -1, sx, -1, sc⟩ = ⟨st, sr, sa, i, sx, -1, vc⟩ := upd_two ht rfl rfl rfl
  have h1 := Tz.store (h.tz.keep kk) (k := k) (j := 3) (v := .int .i64 i) (s := ⟨st, sr, sa, i, sx, -1, sc⟩) h.kl (by decide) (by rw [h.is_]; rfl)
  have hk2 : k < (S.set k ⟨st, sr, sa, i, sx, -1, sc⟩).length := by rw [List.length_set]; exact h.kl
  have h2 := Tz.store h1.1 (k := k) (j := 6) (v := .int .i64 vc) (s := ⟨st, sr, sa, i, sx, -1, vc⟩) hk2 (by decide) (by rw [sy_set h.kl, if_pos rfl]; rfl)
  rw [List.set_set] at h2
  exact h.yes (by unfold yhit; rw [decide_eq_true_eq]; exact ⟨ht, rfl, .inl ⟨rfl, rfl⟩⟩) hu h2.1 (yix_on h.ix (by rw [h.is_]) (by rw [h.is_])) ((Oth.of kk).trans (h1.2.trans h2.2))
theorem Tg.three {g k i : Nat} {vt vc st sa se sc : Int} {vr sr : Bool} {W : World} (h : Tg w0 w w1 p m g c k S f ⟨3, vt, vr, vc⟩ ⟨st, sr, sa, se, -1, -1, sc⟩) (ht : st = vt) (he : se ≠ -1) (kk : Kept Nil w1 W) :
    (Value.bool true) = .bool (ytk S ⟨3, vt, vr, vc⟩) ∧ Tly w0 (W.setCell ⟨g, k * 7 + 4, none⟩ (.int .i64 i)) p (ystp S i ⟨3, vt, vr, vc⟩) ∧ Oth w (W.setCell ⟨g, k * 7 + 4, none⟩ (.int .i64 i)) := by
  have hu : yupd i ⟨3, vt, vr, vc⟩ ⟨st, sr, sa, se, -1, -1, sc⟩ = ⟨st, sr, sa, se, i, -1, sc⟩ := upd_three ht rfl rfl he rfl
  have h1 := Tz.store (h.tz.keep kk) (k := k) (j := 4) (v := .int .i64 i) (s := ⟨st, sr, sa, se, i, -1, sc⟩) h.kl (by decide) (by rw [h.is_]; rfl)
  exact h.yes (by unfold yhit; rw [decide_eq_true_eq]; exact ⟨ht, rfl, .inr (.inl ⟨rfl, he, rfl⟩)⟩) hu h1.1 (yix_on h.ix (by rw [h.is_]) (by rw [h.is_])) ((Oth.of kk).trans h1.2)
theorem Tg.four {g k i : Nat} {vt vc st sa se sx sc : Int} {vr sr : Bool} {W : World} (h : Tg w0 w w1 p m g c k S f ⟨4, vt, vr, vc⟩ ⟨st, sr, sa, se, sx, -1, sc⟩) (ht : st = vt) (hx : sx ≠ -1) (kk : Kept Nil w1 W) (ty : TypeId) :
    Tz w0 (W.setCell ⟨g, k * 7 + 5, none⟩ (.int .i64 i)) p m g c (S.set k ⟨st, sr, sa, se, sx, i, sc⟩) f ∧ Is (W.setCell ⟨g, k * 7 + 5, none⟩ (.int .i64 i)) w.heap.size 36 #[.int .i64 4, .int .i64 vt, .bool vr, .int .i64 vc] ∧
    ∃ w4, (Builtin.delete_ #[55, 3] ty #[.map (some m), .int .i64 vt]).run Try.prog (W.setCell ⟨g, k * 7 + 5, none⟩ (.int .i64 i)).drew = .ok (.tuple #[]) w4 ∧
      ((Value.bool true) = .bool (ytk S ⟨4, vt, vr, vc⟩) ∧ Tly w0 w4 p (ystp S i ⟨4, vt, vr, vc⟩) ∧ Oth w w4) := by
  have hu : yupd i ⟨4, vt, vr, vc⟩ ⟨st, sr, sa, se, sx, -1, sc⟩ = ⟨st, sr, sa, se, sx, i, sc⟩ := upd_four ht rfl rfl hx
  have h1 := Tz.store (h.tz.keep kk) (k := k) (j := 5) (v := .int .i64 i) (s := ⟨st, sr, sa, se, sx, i, sc⟩) h.kl (by decide) (by rw [h.is_]; rfl)
  obtain ⟨w4, hrun, hund, hk4⟩ := Und.del (h1.1.keep ((Kept.refl Nil _).drew)).und h.wf ty
  have h4 := Tz.over (h1.1.keep ((Kept.refl Nil _).drew)) hk4 hund
  exact ⟨h1.1, h1.2 _ _ _ (by decide) (by decide) (h.ev.kept kk (fun z => z)), w4, hrun, h.yes (by unfold yhit; rw [decide_eq_true_eq]; exact ⟨ht, rfl, .inr (.inr ⟨rfl, hx⟩)⟩) hu h4.1 (yix_over h.ix h.at_ (by show (i : Int) ≠ -1; omega)) ((Oth.of kk).trans (h1.2.trans (Oth.trans (Oth.of ((Kept.refl Nil _).drew)) h4.2)))⟩
theorem take_at {i : Nat} {v : Ev} {k : Nat} (h : Ty w0 w p m A c S f) (hn : f v.t = some k) (hw : (Lit.int .i64 v.t).wf = true) (hl : S.length ≤ 65536) : Calls Try.prog 19 #[.pointer (some ⟨p, 0, none⟩), .int .i64 i, .agg #[.int .i64 v.k, .int .i64 v.t, .bool v.r, .int .i64 v.c]] w fun e w' => e = .returned (.bool (ytk S v)) ∧ Tly w0 w' p (ystp S i v) ∧ Oth w w' := by
  obtain ⟨hkl, hst, hsz⟩ := (h.ix v.t k).1 hn
  obtain ⟨g, rfl, htz⟩ := h.tz hkl
  obtain ⟨w1, hw1⟩ : ∃ w1, w.alloc (.cells #[.int .i64 v.k, .int .i64 v.t, .bool v.r, .int .i64 v.c] 36) = w1 := ⟨_, rfl⟩
  have K : Kept Nil w w1 := by rw [← hw1]; exact (Kept.refl Nil w).alloc _
  have HB : Is w1 w.heap.size 36 #[.int .i64 v.k, .int .i64 v.t, .bool v.r, .int .i64 v.c] := by rw [← hw1]; exact Is.new w _ _
  have HG : Hid (Tg w0 w w1 p m g c k S f v (S.getD k s0)) := hide ⟨K, HB, htz.keep K, h.ix, hn, hkl, rfl, hw, hl⟩
  have h1 := h.keep K
  have hlook := (h1.keep ((Kept.refl Nil w1).drew)).und.some_ hw hn
  have q1 : w1.drew.cell? ⟨p, 1, none⟩ = some (.map (some m)) := h1.box.cell 1
  have q0 : w1.drew.cell? ⟨p, 0, none⟩ = some (.slice (some ⟨g, 0, none⟩) S.length c) := h1.box.cell 0
  have e1 : w1.drew.cell? ⟨w.heap.size, 1, none⟩ = some (.int .i64 v.t) := HB.cell 1
  have g0 : w1.drew.cell? ⟨w.heap.size, 0, none⟩ = some (.int .i64 v.k) := HB.cell 0
  have g3 : w1.drew.cell? ⟨w.heap.size, 3, none⟩ = some (.int .i64 v.c) := HB.cell 3
  obtain ⟨_, hlc, h7, _⟩ := (htz.keep K).cells hkl
  have hs := hide (And.intro hst hsz)
  generalize hsk : S.getD k s0 = s at *
  clear hsk
  obtain ⟨st, sr, sa, se, sx, sz, sc⟩ := s
  have s3 : w1.drew.cell? ⟨g, k * 7 + 3, none⟩ = some (.int .i64 se) := h7.e
  have s4 : w1.drew.cell? ⟨g, k * 7 + 4, none⟩ = some (.int .i64 sx) := h7.x
  obtain ⟨vk, vt, vr, vc⟩ := v
  clear h h1 K HB hn hw hl htz h7
  obtain ⟨rfl, rfl⟩ := hs.out
  have HK := hide ((Kept.refl Nil w1).drew)
  have HK2 := hide ((Kept.refl Nil w1).drew.drew)
  by_cases hh : yhit ⟨vk, st, vr, vc⟩ ⟨st, sr, sa, se, sx, -1, sc⟩ = true
  · have hh2 := hh
    unfold yhit at hh2
    rw [decide_eq_true_eq] at hh2
    rcases hh2.2.2 with ⟨k2, e2⟩ | ⟨k3, e3, x3⟩ | ⟨k4, x4⟩
    · obtain rfl : vk = 2 := k2
      obtain rfl : se = -1 := e2
      clear hh hh2
      have y3 : w1.drew.drew.cell? ⟨g, k * 7 + 3, none⟩ = some (.int .i64 (-1)) := s3
      have z3 : w1.drew.drew.cell? ⟨w.heap.size, 3, none⟩ = some (.int .i64 vc) := g3
      obtain ⟨_, _, y7, yf⟩ := (HG.out.tz.keep (HK2.out)).cells HG.out.kl
      rw [HG.out.is_] at y7
      have y6 : w1.drew.drew.cell? ⟨g, k * 7 + 6, none⟩ = some (.int .i64 sc) := y7.c
      have f3 := yf (k * 7 + 3)
      have f6 := yf (k * 7 + 6)
      have x3 : w1.cell? ⟨g, k * 7 + 3, none⟩ = some (.int .i64 (-1)) := s3
      have x6 : w1.cell? ⟨g, k * 7 + 6, none⟩ = some (.int .i64 sc) := y6
      have x0 : w1.cell? ⟨w.heap.size, 3, none⟩ = some (.int .i64 vc) := g3
      have h3 : w1.frozen? ⟨g, k * 7 + 3, none⟩ = false := f3
      have h6 : w1.frozen? ⟨g, k * 7 + 6, none⟩ = false := f6
      have hgb : g ≠ w.heap.size := fun e => by
        obtain ⟨cur, hc⟩ := HG.out.tz.row.block (g := g) rfl
        exact hc.ne HG.out.ev (by decide) e
      have hbg : ¬ w.heap.size = g := fun e => hgb e.symm
      clear y7 yf
      have HE := hide (HG.out.two rfl HK2.out (i := i))
      go_enter Try.func19, Try.ntmps19
      go_wp2_with fail
      go_region
      go_wp2_with fail
      go_region
      all_goals go_wp2_with fail
      go_ret
      exact ⟨congrArg Ending.returned HE.out.1, HE.out.2⟩
    · obtain rfl : vk = 3 := k3
      obtain rfl : sx = -1 := x3
      clear hh hh2
      have be : (se == -1) = false := by simpa using e3
      have be2 : (se != -1) = true := by simpa using e3
      obtain ⟨_, _, y7, yf⟩ := (HG.out.tz).cells HG.out.kl
      have f4 := yf (k * 7 + 4)
      have f5 : w1.drew.frozen? ⟨g, k * 7 + 4, none⟩ = false := yf (k * 7 + 4)
      clear y7 yf
      have HE := hide (HG.out.three rfl e3 HK.out (i := i))
      clear e3
      go_enter Try.func19, Try.ntmps19
      go_wp2_with fail
      go_region
      go_wp2_with fail
      go_ret
      exact ⟨congrArg Ending.returned HE.out.1, HE.out.2⟩
    · obtain rfl : vk = 4 := k4
      clear hh hh2
      have bx : (sx != -1) = true := by simpa using x4
      obtain ⟨_, _, y7, yf⟩ := (HG.out.tz).cells HG.out.kl
      rw [HG.out.is_] at y7
      have y5 : w1.cell? ⟨g, k * 7 + 5, none⟩ = some (.int .i64 (-1)) := y7.z
      have z5 : w1.drew.cell? ⟨g, k * 7 + 5, none⟩ = some (.int .i64 (-1)) := y7.z
      have f4 := yf (k * 7 + 5)
      have f5 : w1.drew.frozen? ⟨g, k * 7 + 5, none⟩ = false := yf (k * 7 + 5)
      clear y7 yf
      have HE := HG.out.four rfl x4 HK.out (i := i) 0
      obtain ⟨w2, hw2⟩ : ∃ w2, w1.drew.setCell ⟨g, k * 7 + 5, none⟩ (.int .i64 i) = w2 := ⟨_, rfl⟩
      rw [hw2] at HE
      obtain ⟨T2, E2, w4, hrun, HE5⟩ := HE
      have p0 : w2.drew.cell? ⟨p, 1, none⟩ = some (.map (some m)) := T2.box.cell 1
      have p1 : w2.drew.cell? ⟨w.heap.size, 1, none⟩ = some (.int .i64 st) := E2.cell 1
      have HE := hide HE5
      clear x4 T2 E2 HE5
      go_enter Try.func19, Try.ntmps19
      go_wp2_with fail
      go_region
      go_wp2_with fail
      go_region_law (refine step_deletes (by rfl) _ _ _ _ (by rfl) (by rfl) (by rfl) hrun ?_)
      all_goals go_wp2_with fail
      all_goals go_ret
      all_goals exact ⟨congrArg Ending.returned HE.out.1, HE.out.2⟩
  · have hh : yhit ⟨vk, st, vr, vc⟩ ⟨st, sr, sa, se, sx, -1, sc⟩ = false := by simpa using hh
    have HE := hide (HG.out.none_ hh HK.out (i := i))
    unfold yhit at hh
    rw [decide_eq_false_iff_not] at hh
    by_cases k2 : vk = 2
    · subst k2
      have be : (se == -1) = false := by
        have : se ≠ -1 := fun e => hh ⟨rfl, rfl, .inl ⟨rfl, e⟩⟩
        simpa using this
      clear hh
      go_enter Try.func19, Try.ntmps19
      go_wp2_with fail
      go_region
      go_wp2_with fail
      go_ret
      exact ⟨congrArg Ending.returned HE.out.1, HE.out.2⟩
    · by_cases k3 : vk = 3
      · subst k3
        by_cases e3 : se = -1
        · subst e3
          clear hh
          go_enter Try.func19, Try.ntmps19
          go_wp2_with fail
          go_region
          go_wp2_with fail
          go_ret
          exact ⟨congrArg Ending.returned HE.out.1, HE.out.2⟩
        · have be2 : (se != -1) = true := by simpa using e3
          have bx : (sx == -1) = false := by
            have : sx ≠ -1 := fun e => hh ⟨rfl, rfl, .inr (.inl ⟨rfl, e3, e⟩)⟩
            simpa using this
          clear hh e3
          go_enter Try.func19, Try.ntmps19
          go_wp2_with fail
          go_region
          go_wp2_with fail
          go_ret
          exact ⟨congrArg Ending.returned HE.out.1, HE.out.2⟩
      · by_cases k4 : vk = 4
        · subst k4
          have ex : sx = -1 := Classical.byContradiction fun e => hh ⟨rfl, rfl, .inr (.inr ⟨rfl, e⟩)⟩
          subst ex
          clear hh
          go_enter Try.func19, Try.ntmps19
          go_wp2_with fail
          go_region
          go_wp2_with fail
          go_ret
          exact ⟨congrArg Ending.returned HE.out.1, HE.out.2⟩
        · have b2 : (vk == 2) = false := by simpa using k2
          have b3 : (vk == 3) = false := by simpa using k3
          have b4 : (vk == 4) = false := by simpa using k4
          clear hh k2 k3 k4
          go_enter Try.func19, Try.ntmps19
          go_wp2_with fail
          go_region
          go_wp2_with fail
          go_ret
          exact ⟨congrArg Ending.returned HE.out.1, HE.out.2⟩
theorem take_c {i : Nat} {v : Ev} (h : Tly w0 w p S) (hw : (Lit.int .i64 v.t).wf = true) (hl : S.length ≤ 65536) : Calls Try.prog 19 #[.pointer (some ⟨p, 0, none⟩), .int .i64 i, .agg #[.int .i64 v.k, .int .i64 v.t, .bool v.r, .int .i64 v.c]] w fun e w' => e = .returned (.bool (ytk S v)) ∧ Tly w0 w' p (ystp S i v) ∧ Oth w w' := by
  obtain ⟨m, A, c, f, h⟩ := h
  cases hf : f v.t with
  | none => exact take_free h hf hw hl
  | some k => exact take_at h hf hw hl
end
end Go.Proofs.Ytefcjlacjafnoaa
