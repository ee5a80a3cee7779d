/- Package ring: All, an iterator over the things of a row with their places. -/
import Derived.Test.YtfdndpbogljjeaaGMove
import Derived.RangeFuncNested
import Derived.RangeFuncBound
import Derived.RangeFuncCalls
import Derived.RangeFuncLeaves
import Derived.Shelf.Abstract
import Derived.Shelf.RegionOpen
import Derived.OwnWalkIn
import Derived.TacticsInMore
import Derived.LoopNIn
import Derived.LoopIn
namespace Go.Proofs.Ytfdndpbogljjeaa
open Go.RowKit Go.Shelf

/-- What has come when k rounds are over: the places, from 0 on. -/
def upto (n k : Nat) : List (Fin n) := (List.range k).filterMap fun j => if h : j < n then some ⟨j, h⟩ else none
theorem upto_succ {n k : Nat} (h : k < n) : upto n (k + 1) = upto n k ++ [⟨k, h⟩] := by
  unfold upto
  rw [List.range_succ, List.filterMap_append]
  simp [h]
theorem upto_length {n k : Nat} (h : k ≤ n) : (upto n k).length = k := by
  induction k with
  | zero => rfl
  | succ k ih => rw [upto_succ h, List.length_append, ih (by omega)]; rfl
theorem upto_val {n k : Nat} (h : k ≤ n) : (upto n k).map (·.val) = List.range k := by
  induction k with
  | zero => rfl
  | succ k ih => rw [upto_succ h, List.map_append, ih (by omega), List.range_succ]; rfl
/-- A place and its thing, as they are handed on. -/
def pairOf (xs : List Int) (k : Fin xs.length) : Array Value := #[.int .i64 (k.val : Int), .int .i64 (xs.getD k.val 0)]

/-- These blocks lie as they lay. -/
def Stay (S : Nat → Prop) (W W' : World) : Prop := ∀ g, S g → W'.heap[g]? = W.heap[g]?
theorem Stay.trans {S : Nat → Prop} {A B C : World} (h : Stay S A B) (k : Stay S B C) : Stay S A C := fun g hg => (k g hg).trans (h g hg)
theorem Stay.put {S : Nat → Prop} {w : World} (hS : ∀ g, S g → g < w.heap.size) (W : World) (l : Nat) (o o' : Obj) (hl : w.heap.size ≤ l) (_ : W.heap[l]? = some o) (_ : o.isCells = false) (_ : o.isWalk = false) : Stay S W (W.putObj l o') :=
  fun g hg => World.putObj_heap_other (by have := hS g hg; omega)
theorem Kept.stay {S S' : Nat → Prop} {W W' : World} (k : Kept S' W W') (h : ∀ g, S g → ¬ S' g ∧ g < W.heap.size) : Stay S W W' := fun g hg => k.block g (h g hg).2 (h g hg).1
theorem Is.stay {S : Nat → Prop} {W W' : World} {g : Nat} {t : TypeId} {cs : Array Value} (h : Is W g t cs) (k : Stay S W W') (hg : S g) : Is W' g t cs := (k g hg).trans h
theorem Ring.stay {S : Nat → Prop} {W W' : World} {a : Nat} {A : Option Addr} {xs : List Int} (h : Ring W a A xs) (k : Stay S W W') (hg : ∀ g, OfG a A g → S g) : Ring W' a A xs := by
  obtain ⟨c, f, V, h⟩ := h
  exact ⟨c, f, V, h.own.stay k (hg a (.inl rfl)), h.slots.imp id (fun ⟨b, e, hb, hf⟩ => ⟨b, e, hb.stay k (hg b (.inr e)), hf⟩), h.fits, h.small, h.at_⟩
theorem abides_drew {β : Type} {B : Nat} {J : β → World → Prop} (h : AbidesFrom B J) {s : β} {W : World} (n : Nat) (hs : J s W) : J s (W.drewN n) :=
  h s W (W.drewN n) none hs (((Kept.refl Nil W).drewN n).to_grown none) (fun r e => by cases e)

section
variable {w : World} {a : Nat} {A : Option Addr} {xs : List Int}
set_option maxHeartbeats 1000000

theorem gall_c (p : Option Addr) (w : World) : Calls Try.prog 11 #[.pointer p] w fun e w' => e = .returned (.func (.func 23) #[] #[.pointer (some ⟨w.heap.size, 0, none⟩)]) ∧ w.alloc (.cells #[.pointer p] 22) = w' := by
  have hmf : ∀ (fn : Fn) (first cap : Array Value) (w : World), (Instr.makeFunc fn first cap).run Try.prog w = .ok (.func fn first cap) w := fun _ _ _ _ => rfl
  go_enter Try.func11, Try.ntmps11
  go_wp2
  go_ret
  exact ⟨rfl, rfl⟩

set_option maxRecDepth 100000 in
/-- The things that come, one by one; or a part of them, where a round has said that it was enough. -/
theorem gall_in (n : Nat) (hn : 1 ≤ n) (l Bn : Nat) (J Jx : List (Fin xs.length) → World → Prop) (B0 : Nat) (hJ : AbidesFrom B0 J) (hx : xs.length ≤ 1048576)
    (hY : ∀ pre x W, J pre W → pre.length < xs.length → YieldAt Fence.wide (n - 1) Try.prog l (pairOf xs x) W fun e W' =>
      (e = .returned (.bool true) ∧ J (pre ++ [x]) W' ∧ Stay (fun g => g = Bn ∨ OfG a A g) W W') ∨ (e = .returned (.bool false) ∧ Jx (pre ++ [x]) W'))
    (W : World) (hBn : Is W Bn 22 #[.pointer (some ⟨a, 0, none⟩)]) (hr : Ring W a A xs) (h0 : J [] W) :
    CallsIn Fence.wide n Try.prog 23 #[.func (.yield l) #[] #[], .pointer (some ⟨Bn, 0, none⟩)] W fun e W' => (∃ v, e = .returned v) ∧
      ((∃ ys, ys = upto xs.length xs.length ∧ J ys W') ∨ (∃ pre, (∃ k, k ≤ xs.length ∧ pre = upto xs.length k) ∧ Jx pre W')) := by
  refine callsIn_of_wp Try.func23 rfl trivial ?_ rfl
  simp only [Try.ntmps23, List.size_toArray, List.length_cons, List.length_nil, Nat.reduceAdd, Nat.reduceSub, Array.replicate_succ, Array.replicate_zero, List.push_toArray, List.append_toArray, List.nil_append, List.cons_append]
  have hb : W.cell? ⟨Bn, 0, none⟩ = some (.pointer (some ⟨a, 0, none⟩)) := hBn.cell 0
  have hl := hide (callsIn_wide (n := n - 1).2 (rlen_c hr))
  have HS := hide (And.intro hBn (And.intro hr h0))
  have HY := hide hY
  clear hBn hr h0 hY
  gi_wp2_with (refine ⟨trivial, ?_⟩; gi_at_call 10; refine hl.out.mono ?_; rintro e w' ⟨rfl, rfl⟩)
  gi_loopw [8] (fun i wr => ∃ k : Nat, k ≤ xs.length ∧ i = .int .i64 k ∧ J (upto xs.length k) wr ∧ Is wr Bn 22 #[.pointer (some ⟨a, 0, none⟩)] ∧ Ring wr a A xs)
    (fun i _ => xs.length - (intOf i).toNat)
  case atStart => exact ⟨0, Nat.zero_le _, rfl, HS.out.2.2, HS.out.1, HS.out.2.1⟩
  case round =>
    obtain ⟨k, hk, rfl, hJs, hBs, hrs⟩ := hrel
    by_cases hlt : k < xs.length
    · have hb2 : wr.cell? ⟨Bn, 0, none⟩ = some (.pointer (some ⟨a, 0, none⟩)) := hBs.cell 0
      have ha : CallsIn Fence.wide (n - 1) Try.prog 8 #[.pointer (some ⟨a, 0, none⟩), .int .i64 k] wr fun e w' => e = .returned (.tuple #[.int .i64 (xs.getD k 0), .bool true]) ∧ ∃ n, w' = wr.drewN n := by
        refine callsIn_wide.2 ?_
        have h := rat_c (k : Int) hrs
        have hx := at_in (xs := xs) (i := (k : Int)) (by omega)
        rw [hx.1, hx.2] at h
        exact h
      have HA := hide ha
      have HR := hide (And.intro hBs (And.intro hrs hJs))
      clear ha hBs hrs hJs
      have HX := hide (upto_succ hlt)
      obtain ⟨x, hxk⟩ : ∃ x, xs.getD k 0 = x := ⟨_, rfl⟩
      rw [hxk] at HA
      have HXK := hide hxk
      clear hxk
      gi_wp2_with (refine ⟨trivial, ?_⟩; gi_at_call 8; refine HA.out.mono ?_; rintro e w' ⟨rfl, m, rfl⟩)
      obtain ⟨fn, tmps, assign, body, hy, hR⟩ := HY.out (upto xs.length k) ⟨k, hlt⟩ (wr.drewN m) (abides_drew hJ m HR.out.2.2) (by rw [upto_length hk]; exact hlt)
      dsimp only [pairOf] at hy
      rw [HXK.out] at hy
      rw [hy]
      gi_wp2
      refine hR.mono ?_
      rintro e W3 (⟨rfl, hJ3, hk3⟩ | ⟨rfl, hJx3⟩)
      · have HJ3 := hide hJ3
        have HK3 := hide hk3
        clear hJ3 hk3
        gi_wp2
        go_roundw
        case rel =>
          have hst : Stay (fun g => g = Bn ∨ OfG a A g) wr W3 := HK3.out
          exact ⟨k + 1, by omega, by go_num, by rw [HX.out]; exact HJ3.out, HR.out.1.stay hst (.inl rfl), HR.out.2.1.stay hst (fun g hg => .inr hg)⟩
        case measure => simp [intOf]; omega
      · have HJx := hide hJx3
        clear hJx3
        gi_wp2
        refine bodyPost_ret (results_none rfl _ _ _) rfl ?_
        exact ⟨⟨_, rfl⟩, .inr ⟨_, ⟨k + 1, by omega, HX.out.symm⟩, HJx.out⟩⟩
    · obtain rfl : k = xs.length := by omega
      gi_wp2
      go_end0
      exact ⟨⟨_, rfl⟩, .inl ⟨_, rfl, hJs⟩⟩

/-- What All hands back, at a row. -/
theorem gall_stops (n : Nat) (hn : 1 ≤ n) (Bn : Nat) (hx : xs.length ≤ 1048576) (hBn : Is w Bn 22 #[.pointer (some ⟨a, 0, none⟩)]) (hr : Ring w a A xs) :
    SeqStopsK Fence.wide n Try.prog 23 #[.pointer (some ⟨Bn, 0, none⟩)] (pairOf xs) (Stay (fun g => g = Bn ∨ OfG a A g)) (fun ys => ys = upto xs.length xs.length) (fun pre => ∃ k, k ≤ xs.length ∧ pre = upto xs.length k) xs.length w :=
  fun l J Jx W hW hJ _ hY h0 =>
    have k := Below.kept hW
    gall_in n hn l Bn J Jx W.heap.size hJ hx hY W (hBn.kept k (fun z => z)) (hr.keptNil k) h0

set_option maxRecDepth 100000 in
/-- .. and of nil: no round. -/
theorem gall_stops_nil (n : Nat) (hn : 1 ≤ n) (Bn : Nat) (S : Nat → Prop) (hBn : Is w Bn 22 #[.pointer none]) :
    SeqStopsK Fence.wide n Try.prog 23 #[.pointer (some ⟨Bn, 0, none⟩)] (pairOf []) (Stay S) (fun ys => ys = upto 0 0) (fun pre => ∃ k, k ≤ 0 ∧ pre = upto 0 k) 0 w := fun l J Jx W hW _ _ _ h0 => by
  have k := Below.kept hW
  have hBn2 := hBn.kept k (fun z => z)
  refine callsIn_of_wp Try.func23 rfl trivial ?_ rfl
  simp only [Try.ntmps23, List.size_toArray, List.length_cons, List.length_nil, Nat.reduceAdd, Nat.reduceSub, Array.replicate_succ, Array.replicate_zero, List.push_toArray, List.append_toArray, List.nil_append, List.cons_append]
  have hb : W.cell? ⟨Bn, 0, none⟩ = some (.pointer none) := hBn2.cell 0
  have H0 := hide h0
  clear h0 k hBn hBn2
  gi_wp2_with (refine ⟨trivial, ?_⟩; gi_at_call 10; refine (callsIn_wide (n := n - 1).2 rlen_nil).mono ?_; rintro e w' ⟨rfl, rfl⟩)
  gi_loopw [8] (fun i wr => i = .int .i64 0 ∧ J [] wr) (fun _ _ => 0)
  case atStart => exact ⟨rfl, H0.out⟩
  case round =>
    obtain ⟨rfl, hJs⟩ := hrel
    gi_wp2
    go_end0
    exact ⟨⟨_, rfl⟩, .inl ⟨[], rfl, hJs⟩⟩
end
end Go.Proofs.Ytfdndpbogljjeaa
