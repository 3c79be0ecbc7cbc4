/-
  spec.WriteBatch, where there is no such file or the batch is not good: it answers none.
-/
import Derived.Test.YteklkdnkfgfdiaaDoorWrite
namespace Go.Proofs.YteklkdnkfgfdiaaDoor
open Go.RowKit

set_option maxRecDepth 100000 in
set_option maxHeartbeats 2000000 in
theorem specWrite_out (a : Option Addr) (c : Nat) (fs : List Fl) (k : Int) (b : Bt) (a2 : Option Addr) (c2 : Nat) (w : World) (hs : Fls w a fs) (hl : fs.length ≤ maxLen) (hb : Strs w a2 b.recs) (hbl : b.recs.length ≤ maxLen) (hout : inF fs k = false ∨ b.good = false) :
    Calls Tryd.prog 6 #[.agg #[.slice a fs.length c], .int .i64 k, .agg #[.int .i64 b.off, .int .i64 b.ep, .int .i64 b.pr, .int .i64 b.sq, .slice a2 b.recs.length c2]] w fun r w' => ∃ a' c', r = .returned (.tuple #[.agg #[.slice a' (filesOf (wrote fs k b)).length c'], .bool (wrote fs k b).isSome]) ∧ Fls w' a' (filesOf (wrote fs k b)) ∧ RowF w' w.heap.size a' (filesOf (wrote fs k b)).length ∧ Below w.heap.size w w' := by
  have hb3 : ∀ x y z, Below w.heap.size w (((w.alloc x).alloc y).alloc z) := fun _ _ _ => (((Below.refl _ _).alloc (Nat.le_refl _) _).alloc (by simp) _).alloc (by simp; omega) _
  have e : wrote fs k b = none := by
    unfold wrote
    rcases hout with h | h
    · rw [chg_none h]; split <;> rfl
    · rw [h]; rfl
  rw [e]
  obtain ⟨gi, hgi⟩ : ∃ gi, inF fs k = gi := ⟨_, rfl⟩
  have HI : Hid (inF fs k = gi) := hgi
  cases gi with
  | false =>
    clear hgi hout e
    go_enter Tryd.func6, Tryd.ntmps6
    go_wp2_with fail
    refine (specFile_any _ _ _ _ _ (hs.below (hb3 _ _ _)) hl).mono ?_
    rintro r w1 ⟨hr, hB1⟩
    rw [HI.out] at hr; subst hr
    have BB := (hb3 _ _ _).trans (hB1.mono (hb3 _ _ _).size)
    obtain ⟨hc1, hf1⟩ := fbcell hB1
    simp only [World.size_alloc] at hc1 hf1
    clear hB1
    go_wp2
    refine bodyPost_ret (v := .tuple #[.agg #[.slice none 0 0], .bool false]) (by simp [results, Tryd.results6, go_sem, hc1]) rfl ⟨none, 0, rfl, Fls.nil _ _, .inl rfl, BB.setCell (by simp; omega) _⟩
  | true =>
    have hg : b.good = false := by
      rcases hout with h | h
      · rw [hgi] at h; cases h
      · exact h
    have HG : Hid (Bt.good ⟨b.off, b.ep, b.pr, b.sq, b.recs⟩ = false) := hg
    clear hgi hout e hg
    go_enter Tryd.func6, Tryd.ntmps6
    go_wp2_with fail
    refine (specFile_any _ _ _ _ _ (hs.below (hb3 _ _ _)) hl).mono ?_
    rintro r w1 ⟨hr, hB1⟩
    rw [HI.out] at hr; subst hr
    have BB := (hb3 _ _ _).trans (hB1.mono (hb3 _ _ _).size)
    have HB := (hb.below (hb3 _ _ _)).below hB1
    obtain ⟨hc1, hf1⟩ := fbcell hB1
    have l1 := hB1.size
    simp only [World.size_alloc] at hc1 hf1 l1
    clear hB1
    go_wp2_with fail
    refine (specGood_any _ _ _ _ _ _ _ _ HB hbl).mono ?_
    rintro r w2 ⟨hr, hB2⟩
    rw [HG.out] at hr; subst hr
    have BB2 := BB.trans (hB2.mono BB.size)
    obtain ⟨hc2, hf2⟩ := fbcell hB2
    have hc12 := fun b o (h : b < w.heap.size + 1 + 1 + 1) => (hc2 b o (by omega)).trans (hc1 b o h)
    have hf12 := fun b o (h : b < w.heap.size + 1 + 1 + 1) => (hf2 b o (by omega)).trans (hf1 b o h)
    clear hB2 hc1 hf1 hc2 hf2
    go_wp2
    refine bodyPost_ret (v := .tuple #[.agg #[.slice none 0 0], .bool false]) (by simp [results, Tryd.results6, go_sem, hc12]) rfl ⟨none, 0, rfl, Fls.nil _ _, .inl rfl, BB2.setCell (by simp; omega) _⟩

end Go.Proofs.YteklkdnkfgfdiaaDoor
