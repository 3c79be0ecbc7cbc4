/-
  Logs read from bytes, the program's side: the contract of impl.ReadLog.
-/
import Derived.Test.YtopndglgbollfaaDoorRead
namespace Go.Proofs.YtopndglgbollfaaDoor
open Go.RowKit

theorem took_in {l : List UInt8} {n : Nat} (h6 : l.length ≤ 600) (hn : n ≤ l.length) : tookOf l (n : Int) = specTake l n := by
  unfold tookOf
  by_cases h : n < l.length
  · rw [if_pos ⟨h6, by omega, by omega⟩]; rfl
  · rw [if_neg (by omega), specTake_end (by omega)]

/-- The cells of a batch, as the walk spells them. -/
abbrev qArr (q : Q) : Array Value := #[.int .i64 q.b.off, .int .i64 q.b.ep, .int .i64 q.b.pr, .int .i64 q.b.sq, .slice q.a q.b.recs.length q.c]

/-- What ReadLog answers. -/
def RdAns (w : World) (bs : List Bt) (z : Int) (ok : Bool) (r : Ending) (w' : World) : Prop :=
  ∃ qs a c, r = .returned (.tuple #[.slice a qs.length c, .int .i64 z, .bool ok]) ∧ qsB qs = bs ∧ RdSt w w' (.slice a qs.length c) qs

theorem rd_ans {w w' : World} {l : List UInt8} {n : Nat} {qs : List Q} {a : Option Addr} {c at_ : Nat} (HE : readL l = (qsB qs, at_)) (hst : RdSt w w' (.slice a qs.length c) qs) :
    RdAns w (readL l).1 (readL l).2 (decide ((readL l).2 = n)) (.returned (.tuple #[.slice a qs.length c, .int .i64 (at_ : Int), .bool ((at_ : Int) == (n : Int))])) w' := by
  rw [HE]
  refine ⟨qs, a, c, ?_, rfl, hst⟩
  have e : ((at_ : Int) == (n : Int)) = decide (at_ = n) := by
    by_cases h : at_ = n
    · subst h; simp
    · simp [h]; omega
  rw [e]

set_option maxRecDepth 100000 in
set_option maxHeartbeats 4000000 in
theorem implRead_in (s : ByteArray) (w : World) (h6 : s.size ≤ 600) (hTab : TabAt w) :
    Calls Tryd.prog 23 #[.string s] w fun r w' => RdAns w (readL s.data.toList).1 (readL s.data.toList).2 (decide ((readL s.data.toList).2 = s.size)) r w' := by
  have hw0 : 0 < w.heap.size := lt_of_cell (hTab 0 (by omega))
  obtain ⟨i0, hi, hz0, hz1, hz2⟩ := info_parts Tryd.infoBatch
  have hsl : s.data.toList.length = s.size := size_len s
  have h6I : ¬ ((600 : Int) < s.size) := by omega
  go_enter Tryd.func23, Tryd.ntmps23
  go_wp2_with fail
  go_loopw [5, 6] (fun v av wr => ∃ (qs : List Q) (at_ : Nat), av = .int .i64 (at_ : Int) ∧ at_ ≤ s.size ∧ 2 * qs.length ≤ at_ ∧ LeftR s.data.toList (qsB qs) at_ ∧ RdSt w wr v qs) (fun _ av _ => s.size - (intOf av).toNat)
  case atStart => exact ⟨[], 0, rfl, Nat.zero_le _, Nat.le_refl _, left_start _, rd_start w⟩
  case round =>
    obtain ⟨qs, at_, rfl, hat, h2, hleft, hst⟩ := hrel
    have HL : Hid (LeftR s.data.toList (qsB qs) at_) := hleft
    clear hleft
    obtain ⟨av, cv, rfl⟩ := owns_form hst.own
    go_wp2_with fail
    refine (implTakeT_any s at_ _ (by unfold maxLen; omega) (hTab.below hst.bel hw0)).mono ?_
    rintro r w2 ⟨b, a2, c2, z, ok, rfl, hD, hB2⟩
    have hT := took_in (l := s.data.toList) (n := at_) (by omega) (by omega)
    unfold TookT at hD
    rw [hT] at hD
    clear hT
    have hst2 := rd_below hst hB2
    have hab : ∀ o, Below w2.heap.size w2 (w2.alloc o) := fun o => (Below.refl _ _).alloc (Nat.le_refl _) o
    rcases hD with ⟨rfl, ⟨e, rfl, hd⟩, hown⟩ | ⟨rfl, rfl, rfl, rfl, hd⟩
    · have HD : Hid (specTake s.data.toList at_ = some (b, e)) := hd
      have he := specTake_end2 hd
      have hgr := good_recs (specTake_good hd)
      have HGR : Hid (∀ s, s ∈ b.recs → s.size < 256) := fun s hs => by have := hgr.2 s hs; omega
      have hg8 := hgr.1
      rw [hsl] at he
      clear hd hgr
      have hbt := rd_bats (rd_below hst2 (hab (.cells #[.int .i64 b.off, .int .i64 b.ep, .int .i64 b.pr, .int .i64 b.sq, .slice a2 b.recs.length c2] 60)))
      have hmf := mayFollow_any (qsB qs) b av a2 cv c2 (w2.alloc (.cells #[.int .i64 b.off, .int .i64 b.ep, .int .i64 b.pr, .int .i64 b.sq, .slice a2 b.recs.length c2] 60)) hbt (by rw [qsB_len]; unfold maxLen; omega)
      rw [qsB_len] at hmf
      clear hbt
      obtain ⟨fo, hfo⟩ : ∃ fo, followB (qsB qs).getLast? b = fo := ⟨_, rfl⟩
      have HF : Hid (followB (qsB qs).getLast? b = fo) := hfo
      rw [hfo] at hmf
      clear hfo
      cases fo with
      | false =>
        have HE : Hid (readL s.data.toList = (qsB qs, at_)) := left_stop HL.out (.inr ⟨b, e, HD.out, HF.out⟩)
        go_wp2_with (go_at_call 41; refine hmf.mono ?_; rintro r w3 ⟨rfl, hB3⟩)
        have hst3 := rd_below (rd_below hst2 (hab _)) hB3
        go_ret3
        exact rd_ans HE.out hst3
      | true =>
        have HN : Hid (LeftR s.data.toList (qsB qs ++ [b]) e) := left_step HL.out HD.out HF.out
        have ho2 := hown
        go_wp2_with (first
          | (go_at_call 41; refine hmf.mono ?_; rintro r w3 ⟨rfl, hB3⟩; have hst3 := rd_below (rd_below hst2 (hab _)) hB3; have k3 := box_keep (N := w2.heap.size) (v0 := .int .i64 b.off) (v1 := .int .i64 b.ep) (v2 := .int .i64 b.pr) (v3 := .int .i64 b.sq) (v4 := .slice a2 b.recs.length c2) hB3 (by simp); have hB3w := hB2.trans (((hab _).trans (hB3.mono (hab _).size)).mono hB2.size); have ho3 := owns_below (owns_below hown (hab _)) hB3)
          | (at_builtin; refine wpList_append_lies _ rfl _ _ 29 rfl w.heap.size 60 i0 _ 5 56 Tryd.underlying29 hi hz0 hz1 hz2 rfl (by decide) (.slice av qs.length cv) qs.length (qsCells qs) rfl (hst3.own.alloc _) ⟨w3.heap.size, 0, none⟩ 1 1 (qCells ⟨b, a2, c2⟩) rfl rfl ?c1 ?c2 (by omega) ?c3 ?c4 ?c5 (w3.heap.size + 1) ?c6 ?_))
        case c1 => exact World.news_of_block (cs := qArr ⟨b, a2, c2⟩) (t := 60) (fr := (0, 0)) (heap_alloc_new w3 _)
        case c2 => simp [qCells, Value.oneCell']
        case c3 => unfold maxLen; omega
        case c4 => omega
        case c5 => have := hst3.bel.size; simp; omega
        case c6 => simp
        intro g4 cap4 w4 hown4 hgrow hat4 _
        have hst4 := rd_step (q := ⟨b, a2, c2⟩) hst (hB3w.trans (((Below.refl w3.heap.size w3).alloc (Nat.le_refl _) _).mono hB3w.size)) (ho3.alloc _) HGR.out hg8 hgrow hown4 (by simpa using hat4)
        have HS4 : Hid (RdSt w w4 (.slice (some ⟨g4, 0, none⟩) (qs.length + 1) cap4) (qs ++ [⟨b, a2, c2⟩])) := hst4
        clear hst4 hown4 hgrow hat4 ho3 hB3w k3 hst3 hst2 hst hB2 hB3 hmf hown ho2 hab
        go_wp2_with fail
        go_roundw
        case rel => exact ⟨qs ++ [⟨b, a2, c2⟩], e, rfl, by omega, by rw [List.length_append, List.length_singleton]; omega, by rw [qsB_app]; exact HN.out, HS4.out⟩
        case measure => simp [intOf]; omega
    · have HE : Hid (readL s.data.toList = (qsB qs, at_)) := left_stop HL.out (.inl hd)
      clear hd
      have hst3 := fun o => rd_below hst2 (hab o)
      go_wp2
      go_ret3
      exact rd_ans HE.out (hst3 _)

theorem implRead_out (s : ByteArray) (w : World) (h6 : ¬ s.size ≤ 600) (hl : s.size ≤ maxLen) :
    Calls Tryd.prog 23 #[.string s] w fun r w' => RdAns w [] 0 false r w' := by
  unfold maxLen at hl
  have h6I : (600 : Int) < s.size := by omega
  go_enter Tryd.func23, Tryd.ntmps23
  go_wp2
  go_ret3
  exact ⟨[], none, 0, rfl, rfl, rd_start w⟩

end Go.Proofs.YtopndglgbollfaaDoor
