/- A thread's node, here and in the document's words; the entries of a trace. -/
import Derived.Test.YtpmnmckamgdbcaaERow
import Derived.Test.YtpmnmckamgdbcaaNums
import Derived.WalkMore
import Derived.Deep.AppendLies
namespace Go.Proofs.Ytpmnmckamgdbcaa
open Go.RowKit
set_option maxRecDepth 100000

section
variable {w w0 w' : World} {v : Value} {N : List Int} {l : List Ev}
set_option maxHeartbeats 1000000
/-- Node. -/
theorem node_c (t : Int) (hv : Nums w v N) : Calls Try.prog 7 #[v, .int .i64 t] w fun e w' => e = .returned (.int .i64 (nd N t)) ∧ w = w' := by
  obtain ⟨A, c, rfl, hp⟩ := hv
  by_cases h0 : 0 ≤ t
  · by_cases h1 : t < N.length
    · obtain ⟨k, rfl⟩ : ∃ k : Nat, t = k := ⟨t.toNat, by omega⟩
      have hk : k < N.length := by omega
      obtain ⟨g, o, rfl, _, hc⟩ := hp (by omega)
      have c1 := hc k hk
      have HN := hide (nd_in hk)
      have d0 : decide ((k : Int) < 0) = false := by simp
      have d1 : decide ((N.length : Int) ≤ (k : Int)) = false := by simp; omega
      clear hc hp h0 h1
      generalize N.getD k 0 = x at *
      generalize nd N k = y at *
      go_enter Try.func7, Try.ntmps7
      go_wp2_with fail
      go_ret
      exact ⟨by rw [HN.out]; rfl, rfl⟩
    · have HN := hide (nd_out (N := N) (t := t) (fun z => h1 z.2))
      have d0 : decide (t < 0) = false := by simpa using h0
      have d1 : decide ((N.length : Int) ≤ t) = true := by simp; omega
      clear hp h0 h1
      generalize nd N t = y at *
      go_enter Try.func7, Try.ntmps7
      go_wp2_with fail
      go_ret
      exact ⟨by rw [HN.out]; rfl, rfl⟩
  · have HN := hide (nd_out (N := N) (t := t) (fun z => h0 z.1))
    have d0 : decide (t < 0) = true := by simp; omega
    clear hp h0
    generalize nd N t = y at *
    go_enter Try.func7, Try.ntmps7
    go_wp2_with fail
    go_ret
    exact ⟨by rw [HN.out]; rfl, rfl⟩
/-- The document's Node. -/
theorem rnode_c (t : Int) (hv : Nums w v N) (hN : N.length ≤ 65536) : Calls Try.prog 13 #[v, .int .i64 t] w fun e w' => e = .returned (.int .i64 (nd N t)) ∧ w = w' := by
  obtain ⟨A, c, rfl, hp⟩ := hv
  go_enter Try.func13, Try.ntmps13
  go_wp2_with fail
  go_loop [5] (fun i => ∃ k : Nat, k ≤ N.length ∧ i = .int .i64 k ∧ ∀ j : Nat, j < k → (j : Int) ≠ t) (fun i => N.length - (intOf i).toNat)
  case atStart => exact ⟨0, Nat.zero_le _, rfl, fun j h => absurd h (by omega)⟩
  case round =>
    obtain ⟨k, hk, rfl, hn⟩ := hrel
    have HN := hide hn
    clear hn
    by_cases hlt : k < N.length
    · obtain ⟨g, o, rfl, _, hc⟩ := hp (by omega)
      have c1 := hc k hlt
      have HX := hide (nd_in hlt)
      clear hc
      generalize N.getD k 0 = y at *
      by_cases hxy : (k : Int) = t
      · subst hxy
        clear HN
        go_wp2_with fail
        go_ret
        exact ⟨by rw [HX.out]; rfl, rfl⟩
      · have HM : Hid (∀ j : Nat, j < k + 1 → (j : Int) ≠ t) := hide (fun j hj => by
          rcases Nat.lt_or_ge j k with h | h
          · exact HN.out j h
          · obtain rfl : j = k := by omega
            exact hxy)
        have hne : ((k : Int) == t) = false := by simpa using hxy
        clear HX hxy HN
        go_wp2_with fail
        go_round
        case rel => exact ⟨k + 1, by omega, by go_num, HM.out⟩
        case measure => simp [intOf]; omega
    · obtain rfl : k = N.length := by omega
      have HM : Hid (nd N t = -1) := hide (nd_out (fun z => HN.out t.toNat (by omega) (by omega)))
      clear HN
      go_wp2_with fail
      go_ret
      exact ⟨by rw [HM.out]; rfl, rfl⟩

/-- The rest of a row of events. -/
theorem evs_drop {g o c k : Nat} (hk : k < l.length) (hlc : l.length ≤ c) (hg : g < w.heap.size) (hc : ∀ k, k < l.length → Four (fun i => w.cell? ⟨g, i, none⟩) (o + k * 4) (l.getD k e0)) : Evs w (.slice (some ⟨g, o + k * 4, none⟩) (l.length - k) (c - k)) (l.drop k) := by
  have hlen : (l.drop k).length = l.length - k := by rw [List.length_drop]
  refine ⟨some ⟨g, o + k * 4, none⟩, c - k, by rw [hlen], by omega, fun _ => ⟨g, o + k * 4, rfl, hg, fun j hj => ?_⟩⟩
  rw [hlen] at hj
  have h := hc (k + j) (by omega)
  rw [show (l.drop k).getD j e0 = l.getD (k + j) e0 by simp [List.getD], show o + k * 4 + j * 4 = o + (k + j) * 4 by omega]
  exact h
/-- What entries hands back. -/
def Ent (w : World) (E : List Ev) (e : Ending) (w' : World) : Prop := ∃ A c, e = .returned (.slice A E.length c) ∧ Gw 26 4 w w' A c E.length (ecells E)
theorem tentries_c (hv : Evs w v l) (hl : l.length ≤ 65536) : Calls Try.prog 15 #[v] w (Ent w (ens l)) := by
  obtain ⟨i0, hi, hz0, hz1, hz2⟩ := info_parts info_event
  obtain ⟨A, c, rfl, _, hp⟩ := hv
  have HP := hide hp
  clear hp
  go_enter Try.func15, Try.ntmps15
  go_wp2_with fail
  go_loopw [3, 8] (fun v3 v8 wr => ∃ (k : Nat) (L : List Ev) (R : Option Addr) (c1 : Nat), k ≤ l.length ∧ v8 = .int .i64 k ∧ v3 = .slice R L.length c1 ∧ L = ens (l.take k) ∧ Gw 26 4 w wr R c1 L.length (ecells L)) (fun _ i _ => l.length - (intOf i).toNat)
  case atStart => exact ⟨0, [], none, 0, Nat.zero_le _, rfl, rfl, rfl, Gw.start _ _ _⟩
  case round =>
    obtain ⟨k, L, R, c1, hk, rfl, rfl, hL, hg⟩ := hrel
    have HG := hide hg
    have hLk : L.length ≤ k := by rw [hL]; exact Nat.le_trans (ens_len _) (by rw [List.length_take]; omega)
    clear hg
    by_cases hlt : k < l.length
    · obtain ⟨g1, o1, rfl, hg1, hc⟩ := HP.out (by omega)
      obtain ⟨f1, f2, f3, f4⟩ := (hc k hlt).kept hg1 HG.out.kept
      have HE := hide (ens_take hlt)
      rw [← hL] at HE
      clear hc hg1 hL
      generalize l.getD k e0 = e at *
      have HS := hide (ecells_snoc L e)
      obtain ⟨ek, et, er, ec⟩ := e
      have f1 : wr.cell? ⟨g1, o1 + k * 4, none⟩ = some (.int .i64 ek) := f1
      have f2 : wr.cell? ⟨g1, o1 + k * 4 + 1, none⟩ = some (.int .i64 et) := f2
      have f3 : wr.cell? ⟨g1, o1 + k * 4 + 2, none⟩ = some (.bool er) := f3
      have f4 : wr.cell? ⟨g1, o1 + k * 4 + 3, none⟩ = some (.int .i64 ec) := f4
      obtain ⟨w2, hw2⟩ : ∃ w2, wr.alloc (.cells #[.int .i64 ek, .int .i64 et, .bool er, .int .i64 ec] 26) = w2 := ⟨_, rfl⟩
      have HI : Hid (Is w2 wr.heap.size 26 #[.int .i64 ek, .int .i64 et, .bool er, .int .i64 ec] ∧ Gw 26 4 w w2 R c1 L.length (ecells L)) := hide (by rw [← hw2]; exact ⟨Is.new wr _ _, HG.out.keep ((Kept.refl Nil wr).alloc _)⟩)
      have q0 : w2.cell? ⟨wr.heap.size, 0, none⟩ = some (.int .i64 ek) := HI.out.1.cell 0
      have q1 : w2.cell? ⟨wr.heap.size, 1, none⟩ = some (.int .i64 et) := HI.out.1.cell 1
      have q2 : w2.cell? ⟨wr.heap.size, 2, none⟩ = some (.bool er) := HI.out.1.cell 2
      have q3 : w2.cell? ⟨wr.heap.size, 3, none⟩ = some (.int .i64 ec) := HI.out.1.cell 3
      have HM : Hid (L.length + 1 ≤ maxLen ∧ (L.length + 1) * 32 ≤ 140737488355328) := hide ⟨by unfold maxLen; omega, by omega⟩
      by_cases h2 : ek = 2
      · subst h2
        have HF : Hid (L ++ [⟨2, et, er, ec⟩] = ens (l.take (k + 1))) := hide (by rw [HE.out, if_pos rfl])
        have HL := hide (show (L ++ [(⟨2, et, er, ec⟩ : Ev)]).length = L.length + 1 by simp)
        clear HE
        go_wp2_with (at_builtin; refine wpList_append_own_at _ rfl (.tmp 15) (.tmp 17) _ rfl 0 26 i0 (.agg #[.int .i64 0, .int .i64 0, .bool false, .int .i64 0]) 4 32 Try.underlying23 hi hz0 hz1 hz2 rfl (by decide) (.slice R L.length c1) L.length (ecells L) rfl (HI.out.2.row.alloc _) ⟨w2.heap.size, 0, none⟩ 1 1 [.int .i64 2, .int .i64 et, .bool er, .int .i64 ec] rfl rfl (World.news_of_block (cs := #[.int .i64 2, .int .i64 et, .bool er, .int .i64 ec]) (t := 26) (fr := (0, 0)) (heap_alloc_new w2 _)) (by intro u hu; simp at hu; rcases hu with rfl | rfl | rfl | rfl <;> rfl) HM.out.1 HM.out.2 (Nat.zero_le _) ?_; intro v' w4 hown' hgrow _ hat; obtain ⟨R2, c2, rfl, hg2⟩ := HI.out.2.push ((Kept.refl Nil w2).alloc _) hown' hgrow hat; have H4 := hide hg2; clear hown' hgrow hat hg2)
        go_roundw
        case rel => exact ⟨k + 1, L ++ [⟨2, et, er, ec⟩], R2, c2, by omega, by go_num, by rw [HL.out], HF.out, by rw [HL.out, HS.out]; exact H4.out⟩
        case measure => simp [intOf]; omega
      · have hb : (ek == 2) = false := by simpa using h2
        have HF : Hid (L = ens (l.take (k + 1))) := hide (by rw [HE.out, if_neg h2, List.append_nil])
        clear HE h2
        go_wp2_with fail
        go_roundw
        case rel => exact ⟨k + 1, L, R, c1, by omega, by go_num, rfl, HF.out, HI.out.2⟩
        case measure => simp [intOf]; omega
    · obtain rfl : k = l.length := by omega
      rw [List.take_length] at hL
      go_wp2_with fail
      go_ret
      rw [← hL]
      exact ⟨R, c1, rfl, HG.out⟩
end
end Go.Proofs.Ytpmnmckamgdbcaa
