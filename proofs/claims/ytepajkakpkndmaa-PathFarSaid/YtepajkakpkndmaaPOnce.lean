/- sync.Once in a field of a struct, one goroutine: its lock, its deferred calls, doSlow, Do the first time and later. -/
import Derived.Test.YtepajkakpkndmaaMem
import Derived.Test.YtepajkakpkndmaaProg
import Derived.WalkKit
namespace Go.Proofs.Ytepajkakpkndmaa
open Go.RowKit
set_option maxRecDepth 100000

theorem once_disable (w : World) : (callFunc 64 #[]).run Try.prog w = .ok (.value (.tuple #[])) w := run_call_mark0 Try.func64 (by kernel_rfl) (by kernel_rfl) (by kernel_rfl) .disable (by kernel_rfl) w
theorem once_enable (w : World) : (callFunc 66 #[]).run Try.prog w = .ok (.value (.tuple #[])) w := run_call_mark0 Try.func66 (by kernel_rfl) (by kernel_rfl) (by kernel_rfl) .enable (by kernel_rfl) w
theorem once_acquire (a : Addr) (w : World) : (callFunc 67 #[.pointer (some a)]).run Try.prog w = .ok (.value (.tuple #[])) w := run_call_marked Try.func67 (by kernel_rfl) (by kernel_rfl) (by kernel_rfl) .acquire (by kernel_rfl) a w
theorem once_merge (a : Addr) (w : World) : (callFunc 69 #[.pointer (some a)]).run Try.prog w = .ok (.value (.tuple #[])) w := run_call_marked Try.func69 (by kernel_rfl) (by kernel_rfl) (by kernel_rfl) .releaseMerge (by kernel_rfl) a w

/-- The flag's Store(true), entered as a deferred call. -/
theorem store_deferred (a : Addr) (x : Value) (u : FrameMode) (w : World) (hc : w.cell? a = some x) (hz : w.frozen? a = false) :
    CallsD Try.prog 59 #[.pointer (some a), .bool true] u w fun e u' w' => u' = u ∧ (e = .returned (.tuple #[]) ∧ w' = w.drew.setCell a (.int .u32 1)) := by
  have hc' : w.drew.cell? a = some x := by go_simp
  have hz' : w.drew.frozen? a = false := by go_simp
  have hst := run_call_store (P := Try.prog) Try.func62 (by kernel_rfl) (by kernel_rfl) (by kernel_rfl) (by kernel_rfl) (k := .u32) (y := 1) hc' hz'
  go_enter_d Try.func59, Try.ntmps59
  go_wp2
  go_region_calls
  all_goals (go_end0; exact ⟨rfl, rfl⟩)
/-- Unlock, entered as a deferred call, the lock held and nobody waiting. -/
theorem unlock_deferred (a : Addr) (u : FrameMode) (w : World) (hc : w.cell? a = some (.int .i32 1)) (hz : w.frozen? a = false) :
    CallsD Try.prog 58 #[.pointer (some a)] u w fun e u' w' => u' = u ∧ (e = .returned (.tuple #[]) ∧ w' = w.setCell a (.int .i32 0)) := by
  have hd := once_disable
  have he := once_enable
  have hr := once_merge
  have hadd := run_call_add (P := Try.prog) Try.func70 (by kernel_rfl) (by kernel_rfl) (by kernel_rfl) .i32 (by kernel_rfl) (y := -1) (s := 0) hc hz (by simp [go_sem]; rfl)
  have hcv := run_convert_to_unsafe (P := Try.prog) (src := 83) (dst := 87) Try.underlying83 Try.underlying87 (by kernel_rfl) hc
  go_enter_d Try.func58, Try.ntmps58
  go_wp2
  go_end0
  go_wp2
  go_end0
  exact ⟨rfl, rfl⟩
/-- Lock, the lock free. -/
theorem lock_free (a : Addr) (w : World) (hc : w.cell? a = some (.int .i32 0)) (hz : w.frozen? a = false) :
    Calls Try.prog 57 #[.pointer (some a)] w fun e w' => e = .returned (.tuple #[]) ∧ w' = w.setCell a (.int .i32 1) := by
  have hd := once_disable
  have he := once_enable
  have ha := once_acquire
  have hcas := run_call_cas_hit (P := Try.prog) Try.func65 (by kernel_rfl) (by kernel_rfl) (by kernel_rfl) .i32 (by kernel_rfl) (y := 1) hc hz
  have hc' : (w.setCell a (.int .i32 1)).cell? a = some (.int .i32 1) := World.cell?_setCell_same w a _ hc
  have hcv := run_convert_to_unsafe (P := Try.prog) (src := 83) (dst := 87) Try.underlying83 Try.underlying87 (by kernel_rfl) hc'
  go_enter Try.func57, Try.ntmps57
  go_wp2
  first | go_end0 | (simp only [Exit.inBlock, Exit.then]; refine bodyPost_ret (results_none rfl _ _ _) rfl ?_) | refine bodyPost_ret (results_none rfl _ _ _) rfl ?_
  go_wp2
  go_end0
  exact ⟨rfl, rfl⟩

section
variable {w : World} {b o : Nat} {T : TypeId} {cs : Array Value} {F : FuncId} {args : Array Value} {Q : World → Array Value → Prop}
set_option maxHeartbeats 1600000
theorem not_bool (x : Bool) (w : World) : (Op.unary .not (.bool x)).run Try.prog w = .ok (.bool (!x)) w := rfl
/-- The flag's Load. -/
theorem flag_load {a : Addr} {x : Int} {v : Bool} (hx : (x != 0) = v) (hc : w.cell? a = some (.int .u32 x)) : Calls Try.prog 53 #[.pointer (some a)] w fun e w' => e = .returned (.bool v) ∧ w' = w := by
  have hl := run_call_load (P := Try.prog) Try.func56 (by kernel_rfl) (by kernel_rfl) (by kernel_rfl) .u32 (by kernel_rfl) hc
  go_enter Try.func53, Try.ntmps53
  go_wp2
  go_ret
  exact ⟨by first | rfl | simp_all, rfl⟩
/-- What the function that Do was handed must do: it leaves the flag and the lock, and Q. -/
def Fills (w : World) (b o : Nat) (T : TypeId) (cs : Array Value) (F : FuncId) (args : Array Value) (Q : World → Array Value → Prop) : Prop :=
  ∀ W, Is W b T (cs.setIfInBounds (o + 1) (.int .i32 1)) → Kept (fun i => i = b) w W →
    Calls Try.prog F args W fun e w' => e = .returned (.tuple #[]) ∧ ∃ cs', Is w' b T cs' ∧ cs'[o]? = some (.int .u32 0) ∧ cs'[o + 1]? = some (.int .i32 1) ∧ Kept (fun i => i = b) W w' ∧ Q w' cs'
/-- How the world stands behind it. -/
def Filled (w : World) (b o : Nat) (T : TypeId) (Q : World → Array Value → Prop) (w' : World) : Prop :=
  ∃ W cs', Is W b T cs' ∧ cs'[o]? = some (.int .u32 0) ∧ cs'[o + 1]? = some (.int .i32 1) ∧ Kept (fun i => i = b) w W ∧ Q W cs' ∧ w' = (W.drew.setCell ⟨b, o, none⟩ (.int .u32 1)).setCell ⟨b, o + 1, none⟩ (.int .i32 0)
theorem slow_c (hE : ∀ w, (callFunc F args).run Try.prog w = .ok (.enter F args) w) (hi : Is w b T cs) (h0 : cs[o]? = some (.int .u32 0)) (h1 : cs[o + 1]? = some (.int .i32 0)) (hF : Fills w b o T cs F args Q) :
    Calls Try.prog 54 #[.pointer (some ⟨b, o, none⟩), .func (.func F) args #[]] w fun e w' => e = .returned (.tuple #[]) ∧ Filled w b o T Q w' := by
  have HF := hide hF
  have hsz : o + 1 < cs.size := by
    rcases Nat.lt_or_ge (o + 1) cs.size with h | h
    · exact h
    · rw [Array.getElem?_eq_none h] at h1; cases h1
  have q0 : w.cell? ⟨b, o, none⟩ = some (.int .u32 0) := (hi.cell o).trans h0
  have q1 : w.cell? ⟨b, o + 1, none⟩ = some (.int .i32 0) := (hi.cell (o + 1)).trans h1
  have f1 := hi.free (o + 1)
  have hi1 := hi.set (o + 1) (.int .i32 1)
  have HI1 := hide hi1
  have HK1 := hide ((Kept.refl (fun i => i = b) w).set (p := ⟨b, o + 1, none⟩) (fun _ => rfl) (.int .i32 1))
  have q2 : (w.setCell ⟨b, o + 1, none⟩ (.int .i32 1)).cell? ⟨b, o, none⟩ = some (.int .u32 0) := (hi1.cell o).trans (by rw [Array.getElem?_setIfInBounds_ne (by omega)]; exact h0)
  have hld := flag_load (v := false) (by decide) q2
  have hnot := not_bool
  clear hi h0 h1 hF hi1 hsz
  go_enter_defers Try.func54, Try.ntmps54
  go_wp2_with (go_at_call 57; refine (lock_free ⟨b, o + 1, none⟩ _ q1 f1).mono ?_; rintro e w' ⟨rfl, rfl⟩)
  refine hld.mono ?_
  rintro e w' ⟨rfl, rfl⟩
  go_wp2_with fail
  refine (HF.out _ HI1.out HK1.out).mono ?_
  rintro e w' ⟨rfl, cs', hi', h0', h1', hk', hQ⟩
  have H2 := hide (And.intro hi' (And.intro h0' (And.intro h1' (And.intro (HK1.out.trans hk' (fun _ _ z => z)) hQ))))
  clear hi' h0' h1' hk' hQ
  go_wp2_with fail
  refine leaves_cons (f := 59) (args := #[.pointer (some ⟨b, o, none⟩), .bool true]) (by simp) (by simp [go_sem]) ?_
  refine (store_deferred ⟨b, o, none⟩ (.int .u32 0) .returning _ ((H2.out.1.cell o).trans H2.out.2.1) (H2.out.1.free o)).mono ?_
  rintro e u' w'' ⟨rfl, rfl, rfl⟩
  refine leaves_cons (f := 58) (args := #[.pointer (some ⟨b, o + 1, none⟩)]) (by simp [settle]) (by simp [go_sem]) ?_
  refine (unlock_deferred ⟨b, o + 1, none⟩ _ _ (((H2.out.1.drew.set o (.int .u32 1)).cell (o + 1)).trans (by rw [Array.getElem?_setIfInBounds_ne (by omega)]; exact H2.out.2.2.1)) ((H2.out.1.drew.set o (.int .u32 1)).free (o + 1))).mono ?_
  rintro e u' w'' ⟨rfl, rfl, rfl⟩
  have HE := hide (show Filled w b o T Q _ from ⟨w', cs', H2.out.1, H2.out.2.1, H2.out.2.2.1, H2.out.2.2.2.1, H2.out.2.2.2.2, rfl⟩)
  simp [Leaves, settle, results, Try.results54]
  exact HE.out
/-- Do, the first time. -/
theorem do_first (hE : ∀ w, (callFunc F args).run Try.prog w = .ok (.enter F args) w) (hi : Is w b T cs) (h0 : cs[o]? = some (.int .u32 0)) (h1 : cs[o + 1]? = some (.int .i32 0)) (hF : Fills w b o T cs F args Q) :
    Calls Try.prog 48 #[.pointer (some ⟨b, o, none⟩), .func (.func F) args #[]] w fun e w' => e = .returned (.tuple #[]) ∧ Filled w b o T Q w' := by
  have q0 : w.cell? ⟨b, o, none⟩ = some (.int .u32 0) := (hi.cell o).trans h0
  have hld := flag_load (v := false) (by decide) q0
  have hnot := not_bool
  have cs2 := hide (slow_c hE hi h0 h1 hF)
  clear hi h0 h1 hF hE
  go_enter Try.func48, Try.ntmps48
  go_wp2_with fail
  refine hld.mono ?_
  rintro e w' ⟨rfl, rfl⟩
  go_wp2_with fail
  refine cs2.out.mono ?_
  rintro e w' ⟨rfl, hw⟩
  have HW := hide hw
  clear hw
  go_wp2_with fail
  go_end0
  exact ⟨rfl, HW.out⟩
/-- Do, done already. -/
theorem do_done (hi : Is w b T cs) (h0 : cs[o]? = some (.int .u32 1)) (fv : Value) : Calls Try.prog 48 #[.pointer (some ⟨b, o, none⟩), fv] w fun e w' => e = .returned (.tuple #[]) ∧ w' = w := by
  have q0 : w.cell? ⟨b, o, none⟩ = some (.int .u32 1) := (hi.cell o).trans h0
  have hld := flag_load (v := true) (by decide) q0
  have hnot := not_bool
  clear hi h0
  go_enter Try.func48, Try.ntmps48
  go_wp2_with fail
  refine hld.mono ?_
  rintro e w' ⟨rfl, rfl⟩
  go_wp2_with fail
  go_end0
  exact ⟨rfl, rfl⟩
end
end Go.Proofs.Ytepajkakpkndmaa
