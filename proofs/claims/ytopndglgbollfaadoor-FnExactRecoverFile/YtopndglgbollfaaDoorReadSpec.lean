/-
  Logs read from bytes, the specification's side: the contracts of spec.l1Read and spec.ReadLog.
-/
import Derived.Test.YtopndglgbollfaaDoorRead5
namespace Go.Proofs.YtopndglgbollfaaDoor
open Go.RowKit

set_option maxRecDepth 100000 in
set_option maxHeartbeats 4000000 in
theorem l1Read_any (s : ByteArray) (w : World) (hs : s.size ≤ 2000000) :
    Calls Tryd.prog 19 #[.string s] w fun r w' => ∃ qs a c, r = .returned (.tuple #[.slice a qs.length c, .int .i64 ((readL s.data.toList).2 : Nat)]) ∧ qsB qs = (readL s.data.toList).1 ∧ RdSt w w' (.slice a qs.length c) qs := by
  obtain ⟨i0, hi, hz0, hz1, hz2⟩ := info_parts Tryd.infoBatch
  have hsl : s.data.toList.length = s.size := size_len s
  go_enter Tryd.func19, Tryd.ntmps19
  go_wp2_with fail
  go_loopw [4, 5] (fun v av wr => ∃ (qs : List Q) (at_ : Nat), av = .int .i64 (at_ : Int) ∧ at_ ≤ s.size ∧ 2 * qs.length ≤ at_ ∧ LeftR s.data.toList (qsB qs) at_ ∧ RdSt w wr v qs) (fun _ av _ => s.size - (intOf av).toNat)
  case atStart => exact ⟨[], 0, rfl, Nat.zero_le _, Nat.le_refl _, left_start _, rd_start w⟩
  case round =>
    obtain ⟨qs, at_, rfl, hat, h2, hleft, hst⟩ := hrel
    have HL : Hid (LeftR s.data.toList (qsB qs) at_) := hleft
    clear hleft
    obtain ⟨av, cv, rfl⟩ := owns_form hst.own
    by_cases hlt : at_ < s.size
    · go_wp2_with fail
      refine (l1Take_any s at_ _ hs (by omega)).mono ?_
      rintro r w2 ⟨b, a2, c2, z, rfl, hD, hB2⟩
      have hst2 := rd_below hst hB2
      have hab : ∀ o, Below w2.heap.size w2 (w2.alloc o) := fun o => (Below.refl _ _).alloc (Nat.le_refl _) o
      rcases hD with ⟨⟨e, rfl, he0, hd⟩, hown⟩ | ⟨rfl, rfl, rfl, rfl, hd⟩
      · have HD : Hid (specTake s.data.toList at_ = some (b, e)) := hd
        have he := specTake_end2 hd
        have hgr := good_recs (specTake_good hd)
        have HGR : Hid (∀ s, s ∈ b.recs → s.size < 256) := fun s hs => by have := hgr.2 s hs; omega
        have hg8 := hgr.1
        rw [hsl] at he
        clear hd hgr
        have hez : ((e : Int) == 0) = false := by simp; omega
        cases hq : qs.getLast? with
        | none =>
          obtain rfl : qs = [] := List.getLast?_eq_none_iff.1 hq
          have HN : Hid (LeftR s.data.toList (qsB [] ++ [b]) e) := left_step HL.out HD.out (by simp [qsB, followB])
          have hl0 : decide ((0 : Int) < (([] : List Q).length : Int)) = false := by simp
          go_wp2_with fail
          go_quiet (fail)
          have hbd : Below w2.heap.size w2 ((w2.alloc (.cells #[.int .i64 b.off, .int .i64 b.ep, .int .i64 b.pr, .int .i64 b.sq, .slice a2 b.recs.length c2] 60)).drewN nq) := below_drewN (hab _) nq
          have hst3 := rd_below hst2 hbd
          have hB3w := hB2.trans (hbd.mono hB2.size)
          have ho3 := owns_below hown hbd
          have k3 : ((w2.alloc (.cells #[.int .i64 b.off, .int .i64 b.ep, .int .i64 b.pr, .int .i64 b.sq, .slice a2 b.recs.length c2] 60)).drewN nq).cell? ⟨w2.heap.size, 0, none⟩ = some (.int .i64 b.off) ∧ ((w2.alloc (.cells #[.int .i64 b.off, .int .i64 b.ep, .int .i64 b.pr, .int .i64 b.sq, .slice a2 b.recs.length c2] 60)).drewN nq).cell? ⟨w2.heap.size, 1, none⟩ = some (.int .i64 b.ep) ∧ ((w2.alloc (.cells #[.int .i64 b.off, .int .i64 b.ep, .int .i64 b.pr, .int .i64 b.sq, .slice a2 b.recs.length c2] 60)).drewN nq).cell? ⟨w2.heap.size, 2, none⟩ = some (.int .i64 b.pr) ∧ ((w2.alloc (.cells #[.int .i64 b.off, .int .i64 b.ep, .int .i64 b.pr, .int .i64 b.sq, .slice a2 b.recs.length c2] 60)).drewN nq).cell? ⟨w2.heap.size, 3, none⟩ = some (.int .i64 b.sq) ∧ ((w2.alloc (.cells #[.int .i64 b.off, .int .i64 b.ep, .int .i64 b.pr, .int .i64 b.sq, .slice a2 b.recs.length c2] 60)).drewN nq).cell? ⟨w2.heap.size, 4, none⟩ = some (.slice a2 b.recs.length c2) := by simp
          generalize (w2.alloc (.cells #[.int .i64 b.off, .int .i64 b.ep, .int .i64 b.pr, .int .i64 b.sq, .slice a2 b.recs.length c2] 60)).drewN nq = w3 at *
          clear hbd
          go_wp2_with (at_builtin; refine wpList_append_lies _ rfl _ _ 29 rfl w.heap.size 60 i0 _ 5 56 Tryd.underlying29 hi hz0 hz1 hz2 rfl (by decide) (.slice av [].length cv) [].length (qsCells []) rfl (hst3.own.alloc _) ⟨w3.heap.size, 0, none⟩ 1 1 (qCells ⟨b, a2, c2⟩) rfl rfl ?c1 ?c2 (by omega) ?c3 ?c4 ?c5 (w3.heap.size + 1) ?c6 ?_)
          case c1 => exact World.news_of_block (cs := qArr ⟨b, a2, c2⟩) (t := 60) (fr := (0, 0)) (heap_alloc_new w3 _)
          case c2 => simp [qCells, Value.oneCell']
          case c3 => unfold maxLen; omega
          case c4 => omega
          case c5 => have := hst3.bel.size; simp; omega
          case c6 => simp
          intro g4 cap4 w4 hown4 hgrow hat4 _
          have hst4 := rd_step (q := ⟨b, a2, c2⟩) hst (hB3w.trans (((Below.refl w3.heap.size w3).alloc (Nat.le_refl _) _).mono hB3w.size)) (ho3.alloc _) HGR.out hg8 hgrow hown4 (by simpa using hat4)
          have HS4 : Hid (RdSt w w4 (.slice (some ⟨g4, 0, none⟩) (([] : List Q).length + 1) cap4) ([] ++ [⟨b, a2, c2⟩])) := hst4
          clear hst4 hown4 hgrow hat4 ho3 hB3w hst3 hst2 hst hB2 hown hab
          go_wp2_with fail
          go_roundw
          case rel => exact ⟨[] ++ [⟨b, a2, c2⟩], e, rfl, by omega, by rw [List.length_append, List.length_singleton]; omega, by rw [qsB_app]; exact HN.out, HS4.out⟩
          case measure => simp [intOf]; omega
        | some p =>
          obtain ⟨m, hm⟩ : ∃ m, qs.length = m + 1 := ⟨qs.length - 1, by
            cases qs with
            | nil => simp at hq
            | cons q r => simp⟩
          have hqm : qs[m]? = some p := by rw [List.getLast?_eq_getElem?, hm] at hq; exact hq
          have hbq : (qsB qs)[m]? = some p.b := by simp [qsB, hqm]
          have HLQ : Hid ((qsB qs).getLast? = some p.b) := by show _ = _; rw [List.getLast?_eq_getElem?, qsB_len, hm]; exact hbq
          obtain ⟨kb, ob, hav, ra, rc, d0, d1, d2, d3, d4, -, -⟩ := rd_bats (rd_below hst2 (hab (.cells #[.int .i64 b.off, .int .i64 b.ep, .int .i64 b.pr, .int .i64 b.sq, .slice a2 b.recs.length c2] 60))) m p.b hbq
          subst hav
          have hm6 : m ≤ 1000000 := by omega
          have hx3 : m + 1 + 1 ≤ maxLen := by unfold maxLen; omega
          have hx4 : (m + 1 + 1) * 56 ≤ 140737488355328 := by omega
          have hx5 : e ≤ s.size ∧ 2 * (qs.length + 1) ≤ e := by omega
          obtain ⟨nx, hnx⟩ : ∃ nx, nextB p.b b = nx := ⟨_, rfl⟩
          have HNX : Hid (nextB p.b b = nx) := hnx
          have HF : Hid (followB (qsB qs).getLast? b = nx) := by show _ = _; rw [HLQ.out]; exact hnx
          clear hnx hq hqm hbq
          cases nx with
          | false =>
            have HE : Hid (readL s.data.toList = (qsB qs, at_)) := left_stop HL.out (.inr ⟨b, e, HD.out, HF.out⟩)
            go_wp2_with fail
            refine rd5 _ kb ob m cv w2.heap.size e p.b b ra a2 rc c2 _ _ _ _ _ _ _ _ _ _ _ _ _ _ _ _ _ _ _ _ _ _ _ _ _ _ _ _ _ _ _ _ _ _ _ _ _ _ _ _ _ _ he0 hm6 ?_ HNX ?_
            · simp [d0, d1, d2, d3, d4]
            intro v18 v19 v20 v21 v22 v23 v24 v25 v26 v27 v28 v29 v30 v31 v32 v33 v34 w3 hB3
            have hst3 := rd_below (rd_below hst2 (hab _)) hB3
            go_wp2
            go_ret2
            exact ⟨qs, some ⟨kb, ob, none⟩, cv, by rw [HE.out, hm]; rfl, by rw [HE.out], hst3⟩
          | true =>
            have HN : Hid (LeftR s.data.toList (qsB qs ++ [b]) e) := left_step HL.out HD.out HF.out
            go_wp2_with fail
            refine rd5 _ kb ob m cv w2.heap.size e p.b b ra a2 rc c2 _ _ _ _ _ _ _ _ _ _ _ _ _ _ _ _ _ _ _ _ _ _ _ _ _ _ _ _ _ _ _ _ _ _ _ _ _ _ _ _ _ _ he0 hm6 ?_ HNX ?_
            · simp [d0, d1, d2, d3, d4]
            intro v18 v19 v20 v21 v22 v23 v24 v25 v26 v27 v28 v29 v30 v31 v32 v33 v34 w3 hB3
            have hst3 := rd_below (rd_below hst2 (hab _)) hB3
            have hB3w := hB2.trans (((hab _).trans (hB3.mono (hab _).size)).mono hB2.size)
            have ho3 := owns_below (owns_below hown (hab _)) hB3
            have hso : w3.ownsRow w.heap.size 60 5 (.slice (some ⟨kb, ob, none⟩) (m + 1) cv) (m + 1) (qsCells qs) := by have := hst3.own; rw [hm] at this; exact this
            have k3 := box_keep (N := w2.heap.size) (v0 := .int .i64 b.off) (v1 := .int .i64 b.ep) (v2 := .int .i64 b.pr) (v3 := .int .i64 b.sq) (v4 := .slice a2 b.recs.length c2) hB3 (by simp)
            go_wp2_with (at_builtin; refine wpList_append_lies _ rfl _ _ 29 rfl w.heap.size 60 i0 _ 5 56 Tryd.underlying29 hi hz0 hz1 hz2 rfl (by decide) (.slice (some ⟨kb, ob, none⟩) (m + 1) cv) (m + 1) (qsCells qs) rfl (hso.alloc _) ⟨w3.heap.size, 0, none⟩ 1 1 (qCells ⟨b, a2, c2⟩) rfl rfl ?c1 ?c2 (by omega) ?c3 ?c4 ?c5 (w3.heap.size + 1) ?c6 ?_)
            case c1 => exact World.news_of_block (cs := qArr ⟨b, a2, c2⟩) (t := 60) (fr := (0, 0)) (heap_alloc_new w3 _)
            case c2 => simp [qCells, Value.oneCell']
            case c3 => exact hx3
            case c4 => exact hx4
            case c5 => exact Nat.le_trans hst3.bel.size (by simp)
            case c6 => simp
            intro g4 cap4 w4 hown4 hgrow hat4 _
            rw [← hm] at hown4
            have hst4 := rd_step (q := ⟨b, a2, c2⟩) hst (hB3w.trans (((Below.refl w3.heap.size w3).alloc (Nat.le_refl _) _).mono hB3w.size)) (ho3.alloc _) HGR.out hg8 hgrow hown4 (by simpa [Value.ownBlock] using hat4)
            have HS4 : Hid (RdSt w w4 (.slice (some ⟨g4, 0, none⟩) (m + 1 + 1) cap4) (qs ++ [⟨b, a2, c2⟩])) := by rw [hm] at hst4; exact hst4
            clear hst4 hso hown4 hgrow hat4 ho3 hB3w hst3 hst2 hst hB2 hown hab
            go_wp2_with fail
            go_roundw
            case rel => exact ⟨qs ++ [⟨b, a2, c2⟩], e, rfl, hx5.1, by rw [List.length_append, List.length_singleton]; exact hx5.2, by rw [qsB_app]; exact HN.out, HS4.out⟩
            case measure => simp [intOf]; omega
      · have HE : Hid (readL s.data.toList = (qsB qs, at_)) := left_stop HL.out (.inl hd)
        clear hd
        go_wp2_with fail
        go_quiet (fail)
        have hst3 := fun o => rd_below hst2 (below_drewN (hab o) nq)
        go_wp2
        go_ret2
        exact ⟨qs, av, cv, by rw [HE.out]; rfl, by rw [HE.out], hst3 _⟩
    · have HE : Hid (readL s.data.toList = (qsB qs, at_)) := by
        have e : at_ = s.size := by omega
        refine left_stop HL.out (.inl (specTake_end (by rw [hsl]; omega)))
      go_wp2
      go_ret2
      exact ⟨qs, av, cv, by rw [HE.out]; rfl, by rw [HE.out], hst⟩

theorem implReadAll_any (s : ByteArray) (w : World) (hl : s.size ≤ maxLen) (hTab : TabAt w) :
    Calls Tryd.prog 23 #[.string s] w fun r w' => RdAns w (if s.size ≤ 600 then (readL s.data.toList).1 else []) (if s.size ≤ 600 then ((readL s.data.toList).2 : Nat) else 0) (if s.size ≤ 600 then decide ((readL s.data.toList).2 = s.size) else false) r w' := by
  by_cases h6 : s.size ≤ 600
  · simp only [if_pos h6]
    exact implRead_in s w h6 hTab
  · simp only [if_neg h6]
    exact implRead_out s w h6 hl

end Go.Proofs.YtopndglgbollfaaDoor
