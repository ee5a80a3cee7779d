/- Of, Entries. -/
import Derived.Test.YtefcjlacjafnoaaYTake
import Derived.Test.YtefcjlacjafnoaaYMore
namespace Go.Proofs.Ytefcjlacjafnoaa
open Go.RowKit
set_option maxRecDepth 100000

/-- The threads of events are ints. -/
def Ywf (l : List Ev) : Prop := ∀ k, k < l.length → (Lit.int .i64 (l.getD k e0).t).wf = true
section
variable {w0 w w1 w' : World} {p c : Nat} {A : Option Addr} {S : List Sy} {v : Value} {l : List Ev}
theorem Tly.kept (h : Tly w0 w p S) : Kept Nil w0 w := by
  obtain ⟨m, A, c, f, h⟩ := h
  exact h.row.kept
/-- A row of the call's own of other things stays. -/
theorem Gw.oth {e : TypeId} {sz n : Nat} {xs : List Value} (h : Gw e sz w0 w A c n xs) (k : Oth w w') (h1 : e ≠ 57) (h2 : e ≠ 50) (h3 : Kept Nil w0 w') : Gw e sz w0 w' A c n xs := by
  refine ⟨⟨h.row.1, ?_⟩, h3, h.own⟩
  rcases h.row.2 with h4 | ⟨g, cap, cur, e, hb, hh, r⟩
  · exact .inl h4
  · exact .inr ⟨g, cap, cur, e, hb, k g _ cur h1 h2 hh, r⟩
/-- What Of hands back. -/
def Ofd (w : World) (S : List Sy) (e : Ending) (w' : World) : Prop := ∃ A c, e = .returned (.slice A S.length c) ∧ Gw 50 7 w w' A c S.length (ycells S)
theorem Tly.of (h : Tly w w1 p S) : ∃ A c, w1.cell? ⟨p, 0, none⟩ = some (.slice A S.length c) ∧ Ofd w S (.returned (.slice A S.length c)) w1 := by
  obtain ⟨m, A, c, f, h⟩ := h
  exact ⟨A, c, h.box.cell 0, A, c, rfl, h.row⟩
set_option maxHeartbeats 1000000
theorem of_c (hv : Evs w v l) (hw : Ywf l) (hl : l.length ≤ 65536) : Calls Try.prog 9 #[v] w (Ofd w (yof l)) := by
  have CB := hide (tbegin_c (Kept.refl Nil w))
  obtain ⟨A, c, rfl, _, hp⟩ := hv
  have HP := hide hp
  clear hp
  go_enter Try.func9, Try.ntmps9
  go_wp2_with fail
  refine CB.out.mono ?_
  rintro e w1 ⟨p, rfl, ht, _⟩
  have HT := hide ht
  clear ht CB
  go_wp2_with fail
  go_loopw [9] (fun v9 wr => ∃ k : Nat, k ≤ l.length ∧ v9 = .int .i64 k ∧ Tly w wr p (yof (l.take k))) (fun i _ => l.length - (intOf i).toNat)
  case atStart => exact ⟨0, Nat.zero_le _, rfl, HT.out⟩
  case round =>
    obtain ⟨k, hk, rfl, ht⟩ := hrel
    have HK := hide ht
    clear ht HT
    by_cases hlt : k < l.length
    · obtain ⟨g1, o1, rfl, hg1, hc⟩ := HP.out (by omega)
      obtain ⟨f1, f2, f3, f4⟩ := (hc k hlt).kept hg1 HK.out.kept
      have hwk := hw k hlt
      have HS := hide (yof_take hlt)
      have hsl : (yof (l.take k)).length ≤ 65536 := Nat.le_trans yof_len (by rw [List.length_take]; omega)
      clear hc hg1
      generalize l.getD k e0 = ev at *
      have CT := hide (take_c (i := k) (v := ev) (HK.out.keep ((Kept.refl Nil wr).alloc (.cells #[.int .i64 ev.k, .int .i64 ev.t, .bool ev.r, .int .i64 ev.c] 36))) hwk hsl)
      generalize ytk (yof (l.take k)) ev = b at *
      obtain ⟨ek, et, er, ec⟩ := ev
      have f1 : wr.cell? ⟨g1, o1 + k * 4, none⟩ = some (.int .i64 ek) := f1
      have f2 : wr.cell? ⟨g1, o1 + k * 4 + 1, none⟩ = some (.int .i64 et) := f2
      have f3 : wr.cell? ⟨g1, o1 + k * 4 + 2, none⟩ = some (.bool er) := f3
      have f4 : wr.cell? ⟨g1, o1 + k * 4 + 3, none⟩ = some (.int .i64 ec) := f4
      clear hwk hsl
      go_wp2_with fail
      refine CT.out.mono ?_
      rintro e w2 ⟨rfl, h2, _⟩
      have H2 := hide h2
      clear h2 f1 f2 f3 f4 CT
      go_wp2_with fail
      go_roundw
      case rel => exact ⟨k + 1, by omega, by go_num, by rw [HS.out]; exact H2.out⟩
      case measure => simp [intOf]; omega
    · obtain rfl : k = l.length := by omega
      obtain ⟨A2, c2, q0, hd⟩ := (show Tly w wr p (yof l) by have := HK.out; rwa [List.take_length] at this).of
      have HD := hide hd
      clear hd
      go_wp2_with fail
      go_ret
      exact HD.out
end
end Go.Proofs.Ytefcjlacjafnoaa
