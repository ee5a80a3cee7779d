/- What the ops of the document's arena do, and how it takes words; whether two slices hold the same numbers. -/
import Derived.Test.YtgljgdnnpmaigaaRef
import Derived.LoopTactic
namespace Go.Proofs.Ytgljgdnnpmaigaa
open Go.RowKit

section
variable {b c : Nat} {A : Option Addr} {s : St} {w w' : World} {S : Nat → Prop}
set_option maxHeartbeats 400000

theorem op_load (p : Int) : s.op 1 p 0 false = s.load p := by unfold St.op St.load; simp
theorem op_store (p v : Int) : s.op 2 p v true = s.store p v := by unfold St.op St.store; simp
theorem op_swap (p v : Int) : s.op 3 p v true = s.swap p v := by unfold St.op St.swap; simp
theorem op_cas (p o v : Int) : s.op 4 p v (decide (s.get p = o)) = s.cas p o v := by
  unfold St.op St.cas
  by_cases h : s.get p = o <;> simp [h]
theorem op_add (p d : Int) : s.op 5 p (wrap64 (s.get p + d)) true = s.add p d := by unfold St.op St.add; simp

theorem rat_c (p : Int) (h : RefAt w b A c s) : Calls Try.prog 37 #[.pointer (some ⟨b, 0, none⟩), .int .i64 p] w fun e w' => e = .returned (.int .i64 (s.get p)) ∧ w = w' := by
  have g1 := h.c1
  have f1 := h.fits
  have f2 := h.small
  by_cases hp : s.has p = true
  · have hb := has_true hp
    obtain ⟨g, rfl, hc, _, _⟩ := h.word hp
    go_enter Try.func37, Try.ntmps37
    go_wp2_with fail
    go_ret
    exact ⟨rfl, rfl⟩
  · have hp' : s.has p = false := by simpa using hp
    have Hf := hide (show s.get p = 0 by simp [St.get, hp'])
    have hd := has_false hp'
    clear hp hp'
    rcases Int.lt_or_le p 1 with e1 | e1
    · go_enter Try.func37, Try.ntmps37
      go_wp2_with fail
      go_ret
      exact ⟨by rw [Hf.out]; rfl, rfl⟩
    · have e2 : (s.ws.length : Int) < p := by omega
      have e3 : decide (p < 1) = false := by simp; omega
      go_enter Try.func37, Try.ntmps37
      go_wp2_with fail
      go_ret
      exact ⟨by rw [Hf.out]; rfl, rfl⟩

theorem rload_c (p : Int) (h : RefAt w b A c s) (hn : s.ops < 4611686018427387904) : Calls Try.prog 23 #[.pointer (some ⟨b, 0, none⟩), .int .i64 p] w fun e w' => e = .returned (.int .i64 (s.get p)) ∧ RefAt w' b A c (s.load p) ∧ Kept (OfR b A) w w' := by
  have ho := rop_c 1 p 0 false h hn
  rw [op_load] at ho
  have Ho := hide ho
  clear ho
  go_enter Try.func23, Try.ntmps23
  go_wp2_with fail
  refine Ho.out.mono ?_
  rintro e w1 ⟨rfl, h1, k1⟩
  go_wp2_with fail
  go_ret
  exact ⟨rfl, h1, k1⟩
theorem rstore_c (p v : Int) (h : RefAt w b A c s) (hn : s.ops < 4611686018427387904) : Calls Try.prog 24 #[.pointer (some ⟨b, 0, none⟩), .int .i64 p, .int .i64 v] w fun e w' => e = .returned (.tuple #[]) ∧ RefAt w' b A c (s.store p v) ∧ Kept (OfR b A) w w' := by
  have ho := rop_c 2 p v true h hn
  rw [op_store] at ho
  have Ho := hide ho
  clear ho
  go_enter Try.func24, Try.ntmps24
  go_wp2_with fail
  refine Ho.out.mono ?_
  rintro e w1 ⟨rfl, h1, k1⟩
  go_wp2_with fail
  go_end0
  exact ⟨rfl, h1, k1⟩
theorem rswap_c (p v : Int) (h : RefAt w b A c s) (hn : s.ops < 4611686018427387904) : Calls Try.prog 25 #[.pointer (some ⟨b, 0, none⟩), .int .i64 p, .int .i64 v] w fun e w' => e = .returned (.int .i64 (s.get p)) ∧ RefAt w' b A c (s.swap p v) ∧ Kept (OfR b A) w w' := by
  have ho := rop_c 3 p v true h hn
  rw [op_swap] at ho
  have Ho := hide ho
  clear ho
  go_enter Try.func25, Try.ntmps25
  go_wp2_with fail
  refine Ho.out.mono ?_
  rintro e w1 ⟨rfl, h1, k1⟩
  go_wp2_with fail
  go_ret
  exact ⟨rfl, h1, k1⟩
theorem rcas_c (p o v : Int) (h : RefAt w b A c s) (hn : s.ops < 4611686018427387904) : Calls Try.prog 26 #[.pointer (some ⟨b, 0, none⟩), .int .i64 p, .int .i64 o, .int .i64 v] w fun e w' => e = .returned (.bool (s.hits p o)) ∧ RefAt w' b A c (s.cas p o v) ∧ Kept (OfR b A) w w' := by
  have Ha := hide (rat_c p h)
  have ho := rop_c 4 p v (decide (s.get p = o)) h hn
  rw [op_cas] at ho
  have Hs := hide (show s.hits p o = (s.has p && decide (s.get p = o)) from rfl)
  cases hq : decide (s.get p = o) with
  | true =>
    have e1 : (s.get p == o) = true := by simpa using hq
    rw [hq] at ho
    have Hq := hide hq
    have Ho := hide ho
    clear ho hq
    go_enter Try.func26, Try.ntmps26
    go_wp2_with fail
    refine Ha.out.mono ?_
    rintro e w1 ⟨rfl, rfl⟩
    go_wp2_with fail
    refine Ho.out.mono ?_
    rintro e w1 ⟨rfl, h1, k1⟩
    cases hp : s.has p with
    | true =>
      have Hp := hide hp
      clear hp
      go_wp2_with fail
      go_ret
      exact ⟨by rw [Hs.out, Hp.out, Hq.out]; rfl, h1, k1⟩
    | false =>
      have Hp := hide hp
      clear hp
      go_wp2_with fail
      go_ret
      exact ⟨by rw [Hs.out, Hp.out, Hq.out]; rfl, h1, k1⟩
  | false =>
    have e1 : (s.get p == o) = false := by simpa using hq
    rw [hq] at ho
    have Hq := hide hq
    have Ho := hide ho
    clear ho hq
    go_enter Try.func26, Try.ntmps26
    go_wp2_with fail
    refine Ha.out.mono ?_
    rintro e w1 ⟨rfl, rfl⟩
    go_wp2_with fail
    refine Ho.out.mono ?_
    rintro e w1 ⟨rfl, h1, k1⟩
    cases hp : s.has p with
    | true =>
      have Hp := hide hp
      clear hp
      go_wp2_with fail
      go_ret
      exact ⟨by rw [Hs.out, Hp.out, Hq.out]; rfl, h1, k1⟩
    | false =>
      have Hp := hide hp
      clear hp
      go_wp2_with fail
      go_ret
      exact ⟨by rw [Hs.out, Hp.out, Hq.out]; rfl, h1, k1⟩
theorem get_put {p v : Int} (hp : s.has p = true) : ((s.put p v).get p) = v := by
  have hb := has_true hp
  have hp2 : (s.put p v).has p = true := by
    unfold St.has St.put
    simp only [List.length_set]
    exact hp
  unfold St.get
  rw [if_pos hp2]
  have : p.toNat - 1 < s.ws.length := by omega
  simp [St.put, List.getD, this]
theorem radd_c (p d : Int) (h : RefAt w b A c s) (hn : s.ops < 4611686018427387904) : Calls Try.prog 27 #[.pointer (some ⟨b, 0, none⟩), .int .i64 p, .int .i64 d] w fun e w' => e = .returned (.int .i64 (s.sum p d)) ∧ RefAt w' b A c (s.add p d) ∧ Kept (OfR b A) w w' := by
  have Ha := hide (rat_c p h)
  have ho := rop_c 5 p (wrap64 (s.get p + d)) true h hn
  rw [op_add] at ho
  have Ho := hide ho
  clear ho
  cases hp : s.has p with
  | true =>
    have hs1 : s.sum p d = wrap64 (s.get p + d) ∧ (s.add p d).get p = wrap64 (s.get p + d) := by
      refine ⟨by simp [St.sum, hp], ?_⟩
      unfold St.add
      rw [if_pos hp]
      exact get_put hp
    have Hs := hide hs1
    rw [hp] at Ho
    clear hs1 hp
    go_enter Try.func27, Try.ntmps27
    go_wp2_with fail
    refine Ha.out.mono ?_
    rintro e w1 ⟨rfl, rfl⟩
    go_wp2_with fail
    refine Ho.out.mono ?_
    rintro e w1 ⟨rfl, h1, k1⟩
    have Ha2 := hide (rat_c p h1)
    go_wp2_with fail
    refine Ha2.out.mono ?_
    rintro e w2 ⟨rfl, rfl⟩
    go_wp2_with fail
    go_ret
    exact ⟨by rw [Hs.out.1, ← Hs.out.2]; rfl, h1, k1⟩
  | false =>
    have Hs := hide (show s.sum p d = 0 by simp [St.sum, hp])
    rw [hp] at Ho
    clear hp
    go_enter Try.func27, Try.ntmps27
    go_wp2_with fail
    refine Ha.out.mono ?_
    rintro e w1 ⟨rfl, rfl⟩
    go_wp2_with fail
    refine Ho.out.mono ?_
    rintro e w1 ⟨rfl, h1, k1⟩
    go_wp2_with fail
    go_ret
    exact ⟨by rw [Hs.out]; rfl, h1, k1⟩
end
end Go.Proofs.Ytgljgdnnpmaigaa
