/-
  The marks of a segment's batches, the program's side: the contracts of impl.markedAt and impl.marksFor.
-/
import Derived.Test.YtomigekigcklfaaDoorIm
namespace Go.Proofs.YtomigekigcklfaaDoor
open Go.RowKit

/-- The marks, one more where it is due. -/
def imAdd (ms : List Im) (off : Int) (at_ : Nat) : List Im := if dueB ms at_ = true then ms ++ [⟨off, at_⟩] else ms

set_option maxRecDepth 100000 in
set_option maxHeartbeats 2000000 in
theorem markedAt_any (w wr : World) (a : Option Addr) (c : Nat) (ms : List Im) (off : Int) (at_ : Nat) (hst : ImSt w wr (.slice a ms.length c) ms) (hlen : ms.length ≤ 1000000) (hat : at_ ≤ 200000000) (hms : ∀ m, m ∈ ms → 0 ≤ m.at_ ∧ m.at_ ≤ 200000000) :
    Calls Tryd.prog 54 #[.slice a ms.length c, .int .i64 off, .int .i64 (at_ : Int)] wr fun r w' => ∃ v, r = .returned v ∧ ImSt w w' v (imAdd ms off at_) ∧ (∀ p o, p < wr.heap.size → (Value.slice a ms.length c).ownBlock ≠ some p → w'.cell? ⟨p, o, none⟩ = wr.cell? ⟨p, o, none⟩) ∧ wr.heap.size ≤ w'.heap.size := by
  obtain ⟨i0, hi, hz0, hz1, hz2⟩ := info_parts Tryd.infoIm
  have hst2 : ∀ o, ImSt w (wr.alloc o) (.slice a ms.length c) ms := fun o => imst_below hst ((Below.refl _ _).alloc (Nat.le_refl _) o)
  have hws := hst.bel.size
  cases hlast : ms.getLast? with
  | none =>
    obtain rfl : ms = [] := List.getLast?_eq_none_iff.1 hlast
    have HN : Hid (imAdd [] off at_ = [] ++ [⟨off, at_⟩]) := by show _ = _; simp [imAdd, dueB]
    clear hlast hms
    go_enter Tryd.func54, Tryd.ntmps54
    go_wp2_with (at_builtin; refine wpList_append_lies _ rfl _ _ 50 rfl w.heap.size 96 i0 _ 2 16 Tryd.underlying50 hi hz0 hz1 hz2 rfl (by decide) (.slice a ([] : List Im).length c) ([] : List Im).length (imCells ([] : List Im)) rfl (hst2 _).own ⟨wr.heap.size, 0, none⟩ 1 1 (imCells [⟨off, at_⟩]) rfl rfl ?c1 ?c2 (by omega) ?c3 ?c4 ?c5 (wr.heap.size + 1) ?c6 ?_)
    case c1 => exact World.news_of_block (cs := imArr ⟨off, at_⟩) (t := 96) (fr := (0, 0)) (by first | exact (heap_alloc_new wr _) | simpa using (heap_alloc_new wr _))
    case c2 => simp [imCells, Value.oneCell']
    case c3 => unfold maxLen; first | omega | (simp; done)
    case c4 => first | omega | (simp; done)
    case c5 => simp; omega
    case c6 => simp
    intro g4 cap4 w4 hown4 hgrow hat4 hsz4
    have HS4 : Hid (ImSt w w4 (.slice (some ⟨g4, 0, none⟩) (([] : List Im).length + 1) cap4) (([] : List Im) ++ [⟨off, at_⟩])) := imst_step (q := ⟨off, at_⟩) (hst2 _) hgrow hown4
    have HF : Hid (∀ p o, p < wr.heap.size → (Value.slice a ([] : List Im).length c).ownBlock ≠ some p → w4.cell? ⟨p, o, none⟩ = wr.cell? ⟨p, o, none⟩) := fun p o hp hne => (hgrow.cell_far ⟨p, o, none⟩ (by simp; omega) (fun h => hne h.symm)).trans (World.cell?_alloc_old wr _ ⟨p, o, none⟩ (by show p ≠ wr.heap.size; omega))
    have HZ : Hid (wr.heap.size ≤ w4.heap.size) := Nat.le_trans (by simp) hgrow.size
    clear hown4 hgrow hat4 hst2 hst
    go_wp2
    go_ret
    exact ⟨_, rfl, by rw [HN.out]; exact HS4.out, HF.out, HZ.out⟩
  | some m =>
    obtain ⟨n, hn⟩ : ∃ n, ms.length = n + 1 := ⟨ms.length - 1, by
      cases ms with
      | nil => simp at hlast
      | cons q r => simp⟩
    have hmn : ms[n]? = some m := by rw [List.getLast?_eq_getElem?, hn] at hlast; exact hlast
    obtain ⟨kb, ob, hav, c0, c1⟩ := (ims_of_owns hst.own).1 n m hmn
    obtain ⟨m0, m1⟩ := hms m (List.mem_of_getElem? hmn)
    subst hav
    have hdue : dueB ms at_ = decide (m.at_ + 40 ≤ at_) := by unfold dueB; rw [hlast]
    have hl1 : decide ((0 : Int) < ((ms.length : Nat) : Int)) = true := decide_eq_true (by omega)
    have hl2 : decide (0 < ms.length) = true := decide_eq_true (by omega)
    have hkj3 : ((ms.length : Nat) : Int) - 1 = (n : Int) := by omega
    have h0m : (0 : Int) ≤ (n : Int) := by omega
    have hjl2 : (n : Int) < ((ms.length : Nat) : Int) := by omega
    have hkj : IntKind.i64.wrap (n : Int) = (n : Int) := by rw [IntKind.wrap_i64]; omega
    by_cases hd : m.at_ + 40 ≤ at_
    · have HN : Hid (imAdd ms off at_ = ms ++ [⟨off, at_⟩]) := by show _ = _; unfold imAdd; rw [hdue, if_pos (decide_eq_true hd)]
      have hlt : decide (IntKind.i64.wrap ((at_ : Int) - m.at_) < 40) = false := by rw [IntKind.wrap_i64]; simp; omega
      have hlt2 : decide ((at_ : Int) - m.at_ < 40) = false := by simp; omega
      clear hlast hms hdue hmn hd hn
      go_enter Tryd.func54, Tryd.ntmps54
      go_wp2_with (at_builtin; refine wpList_append_lies _ rfl _ _ 50 rfl w.heap.size 96 i0 _ 2 16 Tryd.underlying50 hi hz0 hz1 hz2 rfl (by decide) (.slice (some ⟨kb, ob, none⟩) ms.length c) (ms).length (imCells (ms)) rfl (hst2 _).own ⟨wr.heap.size, 0, none⟩ 1 1 (imCells [⟨off, at_⟩]) rfl rfl ?c1 ?c2 (by omega) ?c3 ?c4 ?c5 (wr.heap.size + 1) ?c6 ?_)
      case c1 => exact World.news_of_block (cs := imArr ⟨off, at_⟩) (t := 96) (fr := (0, 0)) (by first | exact (heap_alloc_new wr _) | simpa using (heap_alloc_new wr _))
      case c2 => simp [imCells, Value.oneCell']
      case c3 => unfold maxLen; first | omega | (simp; done)
      case c4 => first | omega | (simp; done)
      case c5 => simp; omega
      case c6 => simp
      intro g4 cap4 w4 hown4 hgrow hat4 hsz4
      have HS4 : Hid (ImSt w w4 (.slice (some ⟨g4, 0, none⟩) ((ms).length + 1) cap4) ((ms) ++ [⟨off, at_⟩])) := imst_step (q := ⟨off, at_⟩) (hst2 _) hgrow hown4
      have HF : Hid (∀ p o, p < wr.heap.size → (Value.slice (some ⟨kb, ob, none⟩) ms.length c).ownBlock ≠ some p → w4.cell? ⟨p, o, none⟩ = wr.cell? ⟨p, o, none⟩) := fun p o hp hne => (hgrow.cell_far ⟨p, o, none⟩ (by simp; omega) (fun h => hne h.symm)).trans (World.cell?_alloc_old wr _ ⟨p, o, none⟩ (by show p ≠ wr.heap.size; omega))
      have HZ : Hid (wr.heap.size ≤ w4.heap.size) := Nat.le_trans (by simp) hgrow.size
      clear hown4 hgrow hat4 hst2 hst
      go_wp2
      go_ret
      exact ⟨_, rfl, by rw [HN.out]; exact HS4.out, HF.out, HZ.out⟩
    · have HN : Hid (imAdd ms off at_ = ms) := by show _ = _; unfold imAdd; rw [hdue, if_neg (by simpa using hd)]
      have hlt : decide (IntKind.i64.wrap ((at_ : Int) - m.at_) < 40) = true := by rw [IntKind.wrap_i64]; simp; omega
      have hlt2 : decide ((at_ : Int) - m.at_ < 40) = true := by simp; omega
      have HS : Hid (ImSt w wr (.slice (some ⟨kb, ob, none⟩) ms.length c) ms) := hst
      clear hlast hms hdue hmn hd hn hst hst2
      go_enter Tryd.func54, Tryd.ntmps54
      go_wp2
      go_ret
      exact ⟨_, rfl, by rw [HN.out]; exact HS.out, fun _ _ _ _ => rfl, Nat.le_refl _⟩

/-- While a segment's marks are gathered. -/
theorem imTo_add {bs : List Bt} {k : Nat} {b : Bt} (h : bs[k]? = some b) : imTo bs (k + 1) = (imAdd (imTo bs k).1 b.off (imTo bs k).2, (imTo bs k).2 + (14 + recLen b.recs)) := imTo_succ h

set_option maxRecDepth 100000 in
set_option maxHeartbeats 2000000 in
theorem marksFor_any (a : Option Addr) (c : Nat) (bs : List Bt) (w : World) (hs : Bats w a bs) (hl : bs.length ≤ 1000000) (hg : ∀ b, b ∈ bs → b.recs.length ≤ 8 ∧ ∀ s, s ∈ b.recs → s.size ≤ 20) :
    Calls Tryd.prog 76 #[.slice a bs.length c] w fun r w' => ∃ v, r = .returned v ∧ ImSt w w' v (imL bs) := by
  have HF := imTo_facts hg
  have HFF : Hid (∀ k, k ≤ bs.length → (imTo bs k).1.length ≤ k ∧ (imTo bs k).2 ≤ 182 * k ∧ (∀ m, m ∈ (imTo bs k).1 → 0 ≤ m.at_ ∧ m.at_ ≤ 182 * k) ∧ ((imTo bs k).1 = [] ↔ k = 0)) := HF
  have HG : Hid (∀ b, b ∈ bs → b.recs.length ≤ 8 ∧ ∀ s, s ∈ b.recs → s.size ≤ 20) := hg
  clear HF hg
  go_enter Tryd.func76, Tryd.ntmps76
  go_wp2_with fail
  go_loopw [3, 4, 9] (fun v at_ i wr => ∃ k : Nat, k ≤ bs.length ∧ i = .int .i64 (k : Int) ∧ at_ = .int .i64 ((imTo bs k).2 : Int) ∧ ImSt w wr v (imTo bs k).1) (fun _ _ i _ => bs.length - (intOf i).toNat)
  case atStart => exact ⟨0, Nat.zero_le _, rfl, rfl, imst_start w⟩
  case round =>
    obtain ⟨k, hk, rfl, rfl, hst⟩ := hrel
    obtain ⟨f1, f2, f3, -⟩ := HFF.out k hk
    by_cases hlt : k < bs.length
    · obtain ⟨b, hb⟩ : ∃ b, bs[k]? = some b := ⟨_, List.getElem?_eq_getElem hlt⟩
      obtain ⟨kb, ob, hae, ra, rc, e0, e1, e2, e3, e4, eS, -⟩ := hs k b hb
      subst hae
      have lt := lt_of_cell e0
      have d0 := (hst.bel.cell (p := ⟨kb, ob + k * 5, none⟩) lt).trans e0
      have d1 := (hst.bel.cell (p := ⟨kb, ob + k * 5 + 1, none⟩) lt).trans e1
      have d2 := (hst.bel.cell (p := ⟨kb, ob + k * 5 + 2, none⟩) lt).trans e2
      have d3 := (hst.bel.cell (p := ⟨kb, ob + k * 5 + 3, none⟩) lt).trans e3
      have d4 := (hst.bel.cell (p := ⟨kb, ob + k * 5 + 4, none⟩) lt).trans e4
      obtain ⟨hb8, hb20⟩ := HG.out b (List.mem_of_getElem? hb)
      have H20 : Hid (∀ s, s ∈ b.recs → s.size ≤ 20) := hb20
      have hrl := recLen_le b.recs hb20
      have HT : Hid (imTo bs (k + 1) = (imAdd (imTo bs k).1 b.off (imTo bs k).2, (imTo bs k).2 + (14 + recLen b.recs))) := imTo_add hb
      generalize imTo bs k = I at *
      obtain ⟨ms, n⟩ := I
      simp only at hst f1 f2 f3
      obtain ⟨av, cv, rfl⟩ := ownsIm_form hst.own
      have hown : (Value.slice av ms.length cv).ownBlock ≠ some wr.heap.size := fun h => by have := (hst.own.lt _ h).2; omega
      have hst1 : ∀ o, ImSt w (wr.alloc o) (.slice av ms.length cv) ms := fun o => imst_below hst ((Below.refl _ _).alloc (Nat.le_refl _) o)
      have hfm : ∀ m, m ∈ ms → 0 ≤ m.at_ ∧ m.at_ ≤ 200000000 := fun m hm => by have := f3 m hm; omega
      clear hs hb hb20 e0 e1 e2 e3 e4 f3 hst
      go_wp2_with fail
      refine (markedAt_any w _ av cv ms b.off n (hst1 _) (by omega) (by omega) hfm).mono ?_
      rintro r w2 ⟨v, rfl, hst2, hfar, hz2⟩
      have kX : w2.cell? ⟨wr.heap.size, 0, none⟩ = some (.int .i64 b.off) ∧ w2.cell? ⟨wr.heap.size, 1, none⟩ = some (.int .i64 b.ep) ∧ w2.cell? ⟨wr.heap.size, 2, none⟩ = some (.int .i64 b.pr) ∧ w2.cell? ⟨wr.heap.size, 3, none⟩ = some (.int .i64 b.sq) ∧ w2.cell? ⟨wr.heap.size, 4, none⟩ = some (.slice ra b.recs.length rc) :=
        ⟨(hfar _ _ (by simp) hown).trans (by simp), (hfar _ _ (by simp) hown).trans (by simp), (hfar _ _ (by simp) hown).trans (by simp), (hfar _ _ (by simp) hown).trans (by simp), (hfar _ _ (by simp) hown).trans (by simp)⟩
      obtain ⟨x0, x1, x2, x3, x4⟩ := kX
      have eS2 := eS.below hst2.bel
      clear hfar hst1 hown hfm d0 d1 d2 d3 d4
      go_wp2_with fail
      refine (sizeOf_any _ _ _ _ _ _ _ _ eS2 hb8 H20.out).mono ?_
      rintro r w3 ⟨rfl, hB3⟩
      have HS3 : Hid (ImSt w w3 v (imAdd ms b.off n)) := imst_below hst2 hB3
      clear hst2 hB3 eS2 x0 x1 x2 x3 x4
      go_wp2_with fail
      go_roundw
      case rel => exact ⟨k + 1, by omega, by go_num, by rw [HT.out]; go_num, by rw [HT.out]; exact HS3.out⟩
      case measure => simp [intOf]; omega
    · obtain rfl : k = bs.length := by omega
      have HS : Hid (ImSt w wr _ (imL bs)) := hst
      clear hs hst f3
      go_wp2
      go_ret
      exact ⟨_, rfl, HS.out⟩

end Go.Proofs.YtomigekigcklfaaDoor
