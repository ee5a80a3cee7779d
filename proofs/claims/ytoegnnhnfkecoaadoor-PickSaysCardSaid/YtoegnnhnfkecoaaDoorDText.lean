/- Contracts of package dec: Text. -/
import Derived.Test.YtoegnnhnfkecoaaDoorDTxt
import Derived.Test.YtoegnnhnfkecoaaDoorMem
import Derived.Test.YtoegnnhnfkecoaaDoorProg
import Derived.WalkMore
import Derived.ScopeJumps
import Derived.Laws.BytesArg
namespace Go.Proofs.YtoegnnhnfkecoaaDoor
open Go.RowKit
set_option maxRecDepth 100000

theorem ret_int {k : IntKind} {a b : Int} (h : a = b) : Ending.returned (.int k a) = .returned (.int k b) := by rw [h]

section
variable (n : Int) (w : World)
set_option maxHeartbeats 400000
theorem last_c : Calls Tryd.prog 27 #[.int .i64 n] w fun e w' => e = .returned (.int .i64 (n.natAbs % 10 : Nat)) ∧ w = w' := by
  have h9 : n.natAbs % 10 < 10 := Nat.mod_lt _ (by omega)
  go_enter Tryd.func27, Tryd.ntmps27
  have ht := tmod_two n
  go_wp2
  all_goals
    go_ret
    refine ⟨ret_int ?_, rfl⟩
    omega

end

/-- The array that Text fills from behind. -/
def Filled (w : World) (b a : Nat) (t : List UInt8) : Prop := Is w b 51 (List.replicate a (Value.int .u8 0) ++ t.map fun c => Value.int .u8 c.toNat).toArray

section
variable {w w' : World} {b a : Nat} {t : List UInt8}
theorem Filled.zero (h : Filled w b (a + 1) t) : w.cell? ⟨b, a, none⟩ = some (.int .u8 0) ∧ w.frozen? ⟨b, a, none⟩ = false := by
  refine ⟨?_, Is.free h a⟩
  rw [Is.cell h a]
  simp [List.getElem?_append_left]
theorem Filled.put (h : Filled w b (a + 1) t) {x : Int} {c : UInt8} (hx : x = c.toNat) : Filled (w.setCell ⟨b, a, none⟩ (.int .u8 x)) b a (c :: t) := by
  have := Is.set h a (.int .u8 x)
  unfold Filled
  have e : ((List.replicate (a + 1) (Value.int .u8 0) ++ t.map fun c => Value.int .u8 c.toNat).toArray.setIfInBounds a (.int .u8 x)) = (List.replicate a (Value.int .u8 0) ++ (c :: t).map fun c => Value.int .u8 c.toNat).toArray := by
    rw [List.replicate_succ', hx]
    simp
  rwa [e] at this
theorem Filled.string (h : Filled w b a t) (c : Nat) : (convert 53 9 (.slice (some ⟨b, a, none⟩) t.length c)).run Tryd.prog w = .ok (.string ⟨t.toArray⟩) w := by
  have := run_convert_bytes_arg (P := Tryd.prog) w 53 5 Tryd.underlying53 Tryd.underlying5 b a t.length c (t.map fun c => (c.toNat : Int)) (by simp) (fun i hi => by
    rw [Is.cell h (a + i)]
    simp [hi]) 9 Tryd.underlying9
  rw [this]
  have e : (t.map fun c => (c.toNat : Int)).map (fun n => UInt8.ofNat n.toNat) = t := by
    rw [List.map_map]
    exact (List.map_congr_left (fun x _ => UInt8.toNat_inj.1 (by simp))).trans (List.map_id'' (fun _ => rfl) t)
  rw [strOfNums, e]
theorem slice_text (W : World) (b l L : Nat) (x : Int) (hx : x = l) (h : l + L = 20) (h1 : 1 ≤ L) : (Instr.sliceAt 51 (.pointer (some ⟨b, 0, none⟩)) (some (.int .i64 x)) none none).run Tryd.prog W = .ok (.slice (some ⟨b, l, none⟩) L L) W := by
  have ha : Tryd.prog.arrayLen 51 = 20 := by kernel_rfl
  have he : Tryd.prog.elem 51 = 5 := by kernel_rfl
  have hz : ∀ W : World, (sizeOf 5).run Tryd.prog W = .ok 1 W := fun W => by kernel_rfl
  rw [run_sliceAt_array_l W 51 ⟨b, 0, none⟩ (by rw [ha, he]; exact Tryd.underlying51) .i64 x (by omega) (by rw [ha]; omega), he, hz, ha, hx]
  unfold slicedAt Addr.add
  simp only [Result.andThen_ok, Int.toNat_natCast, Nat.mul_one]
  rw [if_neg (by omega), show 20 - l = L by omega]
  by_cases hl : l = 0
  · subst hl
    simp
  · simp [hl]
theorem Filled.below {B : Nat} {W : World} (h : Below B W w) (hb : B ≤ b) (v : Value) : Below B W (w.setCell ⟨b, a, none⟩ v) := h.setCell hb v
end

/-- At each jump back: at stands at c + 2; the digits that are read are t; of the number r is left. -/
structure Left (n : Int) (c : Nat) (r : Int) (t : List UInt8) : Prop where
  size : c + 2 + t.length = 20
  small : r.natAbs < 10 ^ (c + 1)
  text : nt n.natAbs = nt r.natAbs ++ t
theorem Left.start {n : Int} (h : InR n) : Left n 18 n [] := ⟨rfl, by unfold InR at h; show _ < 10000000000000000000; omega, by simp⟩
theorem Left.last {n r : Int} {c : Nat} {t : List UInt8} (h : Left n c r t) (hr : r.tdiv 10 = 0) : nt n.natAbs = dg r.natAbs :: t := by
  have h2 := natAbs_tdiv r
  rw [hr] at h2
  rw [h.text, nt_small (by simp at h2; omega)]
  rfl
theorem Left.more {n r : Int} {c : Nat} {t : List UInt8} (h : Left n c r t) (hr : r.tdiv 10 ≠ 0) : ∃ d, c = d + 1 ∧ Left n d (r.tdiv 10) (dg r.natAbs :: t) := by
  have h2 := natAbs_tdiv r
  have h10 : 10 ≤ r.natAbs := by omega
  have hc : c ≠ 0 := by
    rintro rfl
    have := h.small
    simp at this
    omega
  obtain ⟨d, rfl⟩ : ∃ d, c = d + 1 := ⟨c - 1, by omega⟩
  refine ⟨d, rfl, ⟨?_, ?_, ?_⟩⟩
  · have := h.size
    simp
    omega
  · have := h.small
    rw [Nat.pow_succ] at this
    omega
  · rw [h.text, h2, nt_step h10]
    simp

section
variable (n : Int) (w : World)
set_option maxHeartbeats 400000
/-- What holds at a jump back. -/
def Back (n : Int) (w : World) (r0 : Int) (a' : Act) (w' : World) : Prop := ∃ (c : Nat) (r : Int) (t : List UInt8) (u6 u7 u8 u9 u10 u11 u12 u13 u14 u15 u16 u17 u18 : Value), a' = { tmps := #[.int .i64 n, undef, .string ⟨#[]⟩, .pointer (some ⟨w.heap.size, 0, none⟩), .int .i64 ((c : Int) + 2), .int .i64 r, u6, u7, u8, u9, u10, u11, u12, u13, u14, u15, u16, u17, u18, undef, undef, undef, undef, undef, undef, undef, undef, undef, undef], defers := [] } ∧ InR r ∧ Left n c r t ∧ r.natAbs ≤ r0.natAbs ∧ Filled w' w.heap.size (c + 2) t ∧ Below w.heap.size w w'

theorem text_c (hn : InR n) : Calls Tryd.prog 18 #[.int .i64 n] w fun e w' => e = .returned (.string ⟨(txt n).toArray⟩) ∧ Below w.heap.size w w' := by
  go_enter Tryd.func18, Tryd.ntmps18
  go_wp2
  refine wp_scope_jumps 0 (Back n w n) (fun a' _ => (intOf (a'.tmps.getD 5 undef)).natAbs) rfl ?_ ?_
  · go_wp2
    go_step3
    have hf : Filled (w.alloc (.cells #[.int .u8 0, .int .u8 0, .int .u8 0, .int .u8 0, .int .u8 0, .int .u8 0, .int .u8 0, .int .u8 0, .int .u8 0, .int .u8 0, .int .u8 0, .int .u8 0, .int .u8 0, .int .u8 0, .int .u8 0, .int .u8 0, .int .u8 0, .int .u8 0, .int .u8 0, .int .u8 0] 51)) w.heap.size (18 + 2) [] := Is.new w 51 _
    have hb := (Below.refl w.heap.size w).alloc (Nat.le_refl _) (.cells #[.int .u8 0, .int .u8 0, .int .u8 0, .int .u8 0, .int .u8 0, .int .u8 0, .int .u8 0, .int .u8 0, .int .u8 0, .int .u8 0, .int .u8 0, .int .u8 0, .int .u8 0, .int .u8 0, .int .u8 0, .int .u8 0, .int .u8 0, .int .u8 0, .int .u8 0, .int .u8 0] 51)
    generalize w.alloc (.cells #[.int .u8 0, .int .u8 0, .int .u8 0, .int .u8 0, .int .u8 0, .int .u8 0, .int .u8 0, .int .u8 0, .int .u8 0, .int .u8 0, .int .u8 0, .int .u8 0, .int .u8 0, .int .u8 0, .int .u8 0, .int .u8 0, .int .u8 0, .int .u8 0, .int .u8 0, .int .u8 0] 51) = wr at hf hb ⊢
    obtain ⟨c0, f0⟩ := hf.zero
    have HF := hide hf
    have HL := hide (Left.start hn)
    clear hf
    unfold InR at hn
    by_cases hr : n.tdiv 10 = 0
    · have hr' : (n.tdiv 10 != 0) = false := by simpa using hr
      have ht := hide (HL.out.last hr)
      have hp : Filled (wr.setCell ⟨w.heap.size, 19, none⟩ (.int .u8 (48 + (n.natAbs : Int) % 10))) w.heap.size 19 [dg n.natAbs] := HF.out.put (by rw [dg_nat]; omega)
      have HP := hide hp
      clear hp
      by_cases hneg : n < 0
      · clear hr
        obtain ⟨c1, f1⟩ := (show Filled (wr.setCell ⟨w.heap.size, 19, none⟩ (.int .u8 (48 + (n.natAbs : Int) % 10))) w.heap.size (18 + 1) [dg n.natAbs] from HP.out).zero
        have hs : (convert 53 9 (.slice (some ⟨w.heap.size, 18, none⟩) 2 2)).run Tryd.prog ((wr.setCell ⟨w.heap.size, 19, none⟩ (.int .u8 (48 + (n.natAbs : Int) % 10))).setCell ⟨w.heap.size, 18, none⟩ (.int .u8 (((⟨#[45]⟩ : ByteArray)[0]'(by decide)).toNat : Int))) = .ok (.string ⟨(45 :: [dg n.natAbs]).toArray⟩) _ :=
          (HP.out.put (x := 45) (c := 45) rfl).string 2
        go_wp2_with (go_at_call 27; refine (last_c _ _).mono ?_; rintro e w' ⟨rfl, rfl⟩)
        simp only [Exit.jump]
        go_ret
        have ez : (txt n).toArray = #[45, dg n.natAbs] := by rw [txt_neg hneg, ht.out]
        exact ⟨by rw [ez]; rfl, (hb.setCell (Nat.le_refl _) _).setCell (Nat.le_refl _) _⟩
      · have hr2 : (n / 10 != 0) = false := by rw [Int.tdiv_eq_ediv_of_nonneg (by omega)] at hr; simpa using hr
        have h0 : 0 ≤ n := by omega
        clear hr
        have hs : (convert 53 9 (.slice (some ⟨w.heap.size, 19, none⟩) 1 1)).run Tryd.prog (wr.setCell ⟨w.heap.size, 19, none⟩ (.int .u8 (48 + (n.natAbs : Int) % 10))) = .ok (.string ⟨([dg n.natAbs]).toArray⟩) _ := HP.out.string 1
        go_wp2_with (go_at_call 27; refine (last_c _ _).mono ?_; rintro e w' ⟨rfl, rfl⟩)
        simp only [Exit.jump]
        go_ret
        have ez : (txt n).toArray = #[dg n.natAbs] := by rw [txt_pos (by omega), ht.out]
        exact ⟨by rw [ez]; rfl, hb.setCell (Nat.le_refl _) _⟩
    · have hr' : (n.tdiv 10 != 0) = true := by simpa using hr
      obtain ⟨d, hd, hl⟩ := HL.out.more hr
      obtain rfl : d = 17 := by omega
      have hp := HF.out.put (x := 48 + (n.natAbs : Int) % 10) (c := dg n.natAbs) (by rw [dg_nat]; omega)
      have HR := hide (And.intro hr (And.intro hl hp))
      clear hr hd hl hp
      go_wp2_with (go_at_call 27; refine (last_c _ _).mono ?_; rintro e w' ⟨rfl, rfl⟩)
      go_step3
      exact ⟨rfl, 17, _, _, _, _, _, _, _, _, _, _, _, _, _, _, _, rfl, by have := natAbs_tdiv n; unfold InR; omega, HR.out.2.1, by rw [natAbs_tdiv]; omega, HR.out.2.2, hb.setCell (Nat.le_refl _) _⟩
  · rintro a' wr ⟨c, r, t, u6, u7, u8, u9, u10, u11, u12, u13, u14, u15, u16, u17, u18, rfl, hr0, hl0, hle, hf, hb⟩
    have hr0' := hide hr0
    unfold InR at hn hr0
    have hsz := hide hl0.size
    have hc18 : c ≤ 18 := by have := hl0.size; omega
    obtain ⟨c0, f0⟩ := (show Filled wr w.heap.size ((c + 1) + 1) t from hf).zero
    have HF := hide hf
    have HL := hide hl0
    clear hf hl0
    by_cases hr : r.tdiv 10 = 0
    · have hr' : (r.tdiv 10 != 0) = false := by simpa using hr
      have ht := hide (HL.out.last hr)
      have hp : Filled (wr.setCell ⟨w.heap.size, c + 1, none⟩ (.int .u8 (48 + (r.natAbs : Int) % 10))) w.heap.size (c + 1) (dg r.natAbs :: t) := HF.out.put (by rw [dg_nat]; omega)
      have HP := hide hp
      clear hr hp
      by_cases hneg : n < 0
      · obtain ⟨c1, f1⟩ := HP.out.zero
        obtain ⟨L, hL⟩ : ∃ L, L = (45 :: dg r.natAbs :: t).length := ⟨_, rfl⟩
        have hsl := fun W => slice_text W w.heap.size c L ((c : Int) + 2 - 1 - 1) (by omega) (by have := hsz.out; simp at hL; omega) (by simp at hL; omega)
        have hs : (convert 53 9 (.slice (some ⟨w.heap.size, c, none⟩) L L)).run Tryd.prog ((wr.setCell ⟨w.heap.size, c + 1, none⟩ (.int .u8 (48 + (r.natAbs : Int) % 10))).setCell ⟨w.heap.size, c, none⟩ (.int .u8 (((⟨#[45]⟩ : ByteArray)[0]'(by decide)).toNat : Int))) = .ok (.string ⟨(45 :: dg r.natAbs :: t).toArray⟩) ((wr.setCell ⟨w.heap.size, c + 1, none⟩ (.int .u8 (48 + (r.natAbs : Int) % 10))).setCell ⟨w.heap.size, c, none⟩ (.int .u8 (((⟨#[45]⟩ : ByteArray)[0]'(by decide)).toNat : Int))) := by
          have := (HP.out.put (x := (((⟨#[45]⟩ : ByteArray)[0]'(by decide)).toNat : Int)) (c := 45) rfl).string L
          rwa [← hL] at this
        clear hL
        rw [← ht.out, ← txt_neg hneg] at hs
        go_wp2_with (go_at_call 27; refine (last_c _ _).mono ?_; rintro e w' ⟨rfl, rfl⟩)
        simp only [Exit.jump]
        go_ret
        exact ⟨rfl, (hb.setCell (Nat.le_refl _) _).setCell (Nat.le_refl _) _⟩
      · obtain ⟨L, hL⟩ : ∃ L, L = (dg r.natAbs :: t).length := ⟨_, rfl⟩
        have hsl := fun W => slice_text W w.heap.size (c + 1) L ((c : Int) + 2 - 1) (by omega) (by have := hsz.out; simp at hL; omega) (by simp at hL; omega)
        have hs : (convert 53 9 (.slice (some ⟨w.heap.size, c + 1, none⟩) L L)).run Tryd.prog (wr.setCell ⟨w.heap.size, c + 1, none⟩ (.int .u8 (48 + (r.natAbs : Int) % 10))) = .ok (.string ⟨(dg r.natAbs :: t).toArray⟩) (wr.setCell ⟨w.heap.size, c + 1, none⟩ (.int .u8 (48 + (r.natAbs : Int) % 10))) := by
          have := HP.out.string L
          rwa [← hL] at this
        clear hL
        rw [← ht.out, ← txt_pos (by omega)] at hs
        go_wp2_with (go_at_call 27; refine (last_c _ _).mono ?_; rintro e w' ⟨rfl, rfl⟩)
        simp only [Exit.jump]
        go_ret
        exact ⟨rfl, hb.setCell (Nat.le_refl _) _⟩
    · have hr' : (r.tdiv 10 != 0) = true := by simpa using hr
      obtain ⟨d, hd, hl⟩ := HL.out.more hr
      subst hd
      have hp : Filled (wr.setCell ⟨w.heap.size, d + 1 + 1, none⟩ (.int .u8 (48 + (r.natAbs : Int) % 10))) w.heap.size (d + 1 + 1) (dg r.natAbs :: t) := HF.out.put (by rw [dg_nat]; omega)
      have HR := hide (And.intro hr (And.intro hl hp))
      clear hr hl hp
      go_wp2_with (go_at_call 27; refine (last_c _ _).mono ?_; rintro e w' ⟨rfl, rfl⟩)
      go_step3
      rw [show (d : Int) + 1 + 2 - 1 = d + 2 by omega]
      have h2 := natAbs_tdiv r
      exact ⟨rfl, ⟨d, _, _, _, _, _, _, _, _, _, _, _, _, _, _, _, rfl, by unfold InR; omega, HR.out.2.1, by omega, HR.out.2.2, hb.setCell (Nat.le_refl _) _⟩, by have := HR.out.1; show (r.tdiv 10).natAbs < r.natAbs; omega⟩
end
end Go.Proofs.YtoegnnhnfkecoaaDoor
