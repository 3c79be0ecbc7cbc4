/-
  A batch that comes behind a file's log: the contract of (impl.entry).behind.
-/
import Derived.Test.YteklkdnkfgfdiaaDoorSurv
import Derived.Test.YteklkdnkfgfdiaaDoorDskApp
namespace Go.Proofs.YteklkdnkfgfdiaaDoor
open Go.RowKit

def entryF (b : Bt) (s : ByteArray) (f : Fl) : Option Fl := if (readL f.bytes.data.toList).2 = f.bytes.size ∧ followB (readL f.bytes.data.toList).1.getLast? b = true then tailF s f else none

theorem RdAns.form2 {w w' : World} {bs : List Bt} {z : Int} {ok : Bool} {r : Ending} (h : RdAns w bs z ok r w') : ∃ a c, r = .returned (.tuple #[.slice a bs.length c, .int .i64 z, .bool ok]) ∧ Bats w' a bs ∧ Below w.heap.size w w' := by
  obtain ⟨qs, a, c, rfl, rfl, hst⟩ := h
  exact ⟨a, c, by rw [qsB_len], rd_bats hst, hst.bel⟩

set_option maxRecDepth 100000 in
set_option maxHeartbeats 2000000 in
theorem ent_any (b : Bt) (s : ByteArray) (a2 : Option Addr) (c2 : Nat) (f : Fl) (w : World) (hTab : TabAt w) (hz : f.bytes.size ≤ 400) (hs : s.size ≤ maxLen) :
    Calls Tryd.prog 27 #[.agg #[.int .i64 b.off, .int .i64 b.ep, .int .i64 b.pr, .int .i64 b.sq, .slice a2 b.recs.length c2, .string s], .agg #[.string f.bytes, .int .i64 f.syn]] w fun r w' => ∃ f' : Fl, r = .returned (.tuple #[.agg #[.string f'.bytes, .int .i64 f'.syn], .bool (entryF b s f).isSome]) ∧ (∀ x, entryF b s f = some x → x = f') ∧ Below w.heap.size w w' := by
  have hw0 : 0 < w.heap.size := lt_of_cell (hTab 0 (by omega))
  have hb3 : ∀ x y z, Below w.heap.size w (((w.alloc x).alloc y).alloc z) := fun _ _ _ => (((Below.refl _ _).alloc (Nat.le_refl _) _).alloc (by simp) _).alloc (by simp; omega) _
  have hTb : ∀ x y z, TabAt (((w.alloc x).alloc y).alloc z) := fun x y z => hTab.below (hb3 x y z) hw0
  have hrl := readR_len f.bytes.data.toList (f.bytes.data.toList.length + 1) none 0 (Nat.zero_le _)
  rw [size_len] at hrl
  have hbm : (readL f.bytes.data.toList).1.length ≤ maxLen := by unfold readL maxLen; rw [size_len]; omega
  obtain ⟨al, hal⟩ : ∃ al, decide ((readL f.bytes.data.toList).2 = f.bytes.size) = al := ⟨_, rfl⟩
  obtain ⟨fo, hfo⟩ : ∃ fo, followB (readL f.bytes.data.toList).1.getLast? b = fo := ⟨_, rfl⟩
  have HAL : Hid (decide ((readL f.bytes.data.toList).2 = f.bytes.size) = al) := hal
  have HFO : Hid (followB (readL f.bytes.data.toList).1.getLast? b = fo) := hfo
  cases al with
  | false =>
    have e : entryF b s f = none := by unfold entryF; rw [if_neg (fun h => by simp at hal; exact hal h.1)]
    rw [e]
    clear hal hfo hrl
    go_enter Tryd.func27, Tryd.ntmps27
    go_wp2_with fail
    refine (implRead_in f.bytes _ (by omega) (hTb _ _ _)).mono ?_
    intro r w1 hr
    obtain ⟨a1, c1, rfl, HB, hB1⟩ := hr.form2
    rw [HAL.out]
    have BB := (hb3 _ _ _).trans (hB1.mono (hb3 _ _ _).size)
    obtain ⟨hc1, hf1⟩ := fbcell hB1
    simp only [World.size_alloc] at hc1 hf1
    clear hB1 hr
    go_wp2
    refine bodyPost_ret (v := .tuple #[.agg #[.string ⟨#[]⟩, .int .i64 0], .bool false]) (by simp [results, Tryd.results27, go_sem, hc1]) rfl ⟨⟨⟨#[]⟩, 0⟩, rfl, (fun x h => by cases h), (BB.setCell (by simp; omega) _).setCell (by simp; omega) _⟩
  | true =>
    cases fo with
    | false =>
      have e : entryF b s f = none := by unfold entryF; rw [if_neg (fun h => by rw [hfo] at h; exact absurd h.2 (by simp))]
      rw [e]
      clear hal hfo hrl
      go_enter Tryd.func27, Tryd.ntmps27
      go_wp2_with fail
      refine (implRead_in f.bytes _ (by omega) (hTb _ _ _)).mono ?_
      intro r w1 hr
      obtain ⟨a1, c1, rfl, HB, hB1⟩ := hr.form2
      rw [HAL.out]
      have BB := (hb3 _ _ _).trans (hB1.mono (hb3 _ _ _).size)
      obtain ⟨hc1, hf1⟩ := fbcell hB1
      have l1 := hB1.size
      simp only [World.size_alloc] at hc1 hf1 l1
      clear hB1 hr
      go_wp2_with fail
      refine (mayFollow_any _ b _ _ _ _ _ HB hbm).mono ?_
      rintro r w2 ⟨hr, hB2⟩
      rw [HFO.out] at hr; subst hr
      have BB2 := BB.trans (hB2.mono BB.size)
      obtain ⟨hc2, hf2⟩ := fbcell hB2
      have hc12 := fun b o (h : b < w.heap.size + 1 + 1 + 1) => (hc2 b o (by omega)).trans (hc1 b o h)
      have hf12 := fun b o (h : b < w.heap.size + 1 + 1 + 1) => (hf2 b o (by omega)).trans (hf1 b o h)
      clear hB2 hc1 hf1 hc2 hf2
      go_wp2
      refine bodyPost_ret (v := .tuple #[.agg #[.string ⟨#[]⟩, .int .i64 0], .bool false]) (by simp [results, Tryd.results27, go_sem, hc12]) rfl ⟨⟨⟨#[]⟩, 0⟩, rfl, (fun x h => by cases h), (BB2.setCell (by simp; omega) _).setCell (by simp; omega) _⟩
    | true =>
      have e : entryF b s f = tailF s f := by unfold entryF; rw [if_pos ⟨by simpa using hal, hfo⟩]
      rw [e]
      clear hal hfo hrl
      go_enter Tryd.func27, Tryd.ntmps27
      go_wp2_with fail
      refine (implRead_in f.bytes _ (by omega) (hTb _ _ _)).mono ?_
      intro r w1 hr
      obtain ⟨a1, c1, rfl, HB, hB1⟩ := hr.form2
      rw [HAL.out]
      have BB := (hb3 _ _ _).trans (hB1.mono (hb3 _ _ _).size)
      obtain ⟨hc1, hf1⟩ := fbcell hB1
      have l1 := hB1.size
      simp only [World.size_alloc] at hc1 hf1 l1
      clear hB1 hr
      go_wp2_with fail
      refine (mayFollow_any _ b _ _ _ _ _ HB hbm).mono ?_
      rintro r w2 ⟨hr, hB2⟩
      rw [HFO.out] at hr; subst hr
      have BB2 := BB.trans (hB2.mono BB.size)
      obtain ⟨hc2, hf2⟩ := fbcell hB2
      have l2 := hB2.size
      have hc12 := fun b o (h : b < w.heap.size + 1 + 1 + 1) => (hc2 b o (by omega)).trans (hc1 b o h)
      have hf12 := fun b o (h : b < w.heap.size + 1 + 1 + 1) => (hf2 b o (by omega)).trans (hf1 b o h)
      clear hB2 hc1 hf1 hc2 hf2
      go_wp2_with fail
      refine (tail_any s f _ hz hs).mono ?_
      rintro r w3 ⟨f', rfl, hf', hB3⟩
      have BB3 := BB2.trans (hB3.mono BB2.size)
      obtain ⟨hc3, hf3⟩ := fbcell hB3
      have hc13 := fun b o (h : b < w.heap.size + 1 + 1 + 1) => (hc3 b o (by omega)).trans (hc12 b o h)
      have hf13 := fun b o (h : b < w.heap.size + 1 + 1 + 1) => (hf3 b o (by omega)).trans (hf12 b o h)
      clear hB3 hc12 hf12 hc3 hf3
      go_wp2
      refine bodyPost_ret (v := .tuple #[.agg #[.string f'.bytes, .int .i64 f'.syn], .bool (tailF s f).isSome]) (by simp [results, Tryd.results27, go_sem, hc13]) rfl ⟨f', rfl, hf', (BB3.setCell (by simp; omega) _).setCell (by simp; omega) _⟩

end Go.Proofs.YteklkdnkfgfdiaaDoor
