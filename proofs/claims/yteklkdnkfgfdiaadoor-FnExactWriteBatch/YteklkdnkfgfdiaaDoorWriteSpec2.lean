/-
  spec.WriteBatch, where the file's bytes are no whole log: it answers none.
-/
import Derived.Test.YteklkdnkfgfdiaaDoorWriteSpec
import Derived.BigQuiet
namespace Go.Proofs.YteklkdnkfgfdiaaDoor
open Go.RowKit

set_option maxRecDepth 100000 in
set_option maxHeartbeats 2000000 in
theorem specWrite_torn (a : Option Addr) (c : Nat) (fs : List Fl) (i : Nat) (f : Fl) (b : Bt) (a2 : Option Addr) (c2 : Nat) (w : World) (hs : Fls w a fs) (hl : fs.length ≤ maxLen) (hb : Strs w a2 b.recs) (hbl : b.recs.length ≤ maxLen) (hin : inF fs i = true) (hf : fs[i]? = some f) (hgd : b.good = true) (hne : (readL f.bytes.data.toList).2 ≠ f.bytes.size) :
    Calls Tryd.prog 6 #[.agg #[.slice a fs.length c], .int .i64 i, .agg #[.int .i64 b.off, .int .i64 b.ep, .int .i64 b.pr, .int .i64 b.sq, .slice a2 b.recs.length c2]] w fun r w' => ∃ a' c', r = .returned (.tuple #[.agg #[.slice a' (filesOf (wrote fs i b)).length c'], .bool (wrote fs i b).isSome]) ∧ Fls w' a' (filesOf (wrote fs i b)) ∧ RowF w' w.heap.size a' (filesOf (wrote fs i b)).length ∧ Below w.heap.size w w' := by
  have hb3 : ∀ x y z, Below w.heap.size w (((w.alloc x).alloc y).alloc z) := fun _ _ _ => (((Below.refl _ _).alloc (Nat.le_refl _) _).alloc (by simp) _).alloc (by simp; omega) _
  have e : wrote fs i b = none := by
    unfold wrote
    rw [if_pos hgd, chg_some hin hf]
    unfold entryF
    rw [if_neg (fun h => hne h.1)]
    rfl
  rw [e]
  have HI : Hid (inF fs i = true) := hin
  have HG : Hid (Bt.good ⟨b.off, b.ep, b.pr, b.sq, b.recs⟩ = true) := hgd
  obtain ⟨hgD, hk0, hk1⟩ := inF_t hin
  obtain ⟨l1, l4, hok⟩ := goodD_t hgD
  obtain ⟨f4, f0, f1⟩ := okF_parts (hok f (List.mem_of_getElem? hf))
  have HF0 : Hid (fs[i]? = some f) := hf
  have hfb : f.bytes.size ≤ 2000000 := by omega
  have hneI : (((readL f.bytes.data.toList).2 : Int) != (f.bytes.size : Int)) = true := by simp; omega
  generalize hnn : (readL f.bytes.data.toList).2 = n at *
  have HNN : Hid ((readL f.bytes.data.toList).2 = n) := hnn
  clear hnn
  clear hin hgd hok hgD hf e
  go_enter Tryd.func6, Tryd.ntmps6
  go_wp2_with fail
  refine (specFile_any _ _ _ _ _ (hs.below (hb3 _ _ _)) hl).mono ?_
  rintro r w1 ⟨hr, hB1⟩
  rw [HI.out] at hr; subst hr
  have BB := (hb3 _ _ _).trans (hB1.mono (hb3 _ _ _).size)
  have HA := (hs.below (hb3 _ _ _)).below hB1
  have HB := (hb.below (hb3 _ _ _)).below hB1
  obtain ⟨hc1, hf1⟩ := fbcell hB1
  have l1 := hB1.size
  simp only [World.size_alloc] at hc1 hf1 l1
  clear hB1
  go_wp2_with fail
  refine (specGood_any _ _ _ _ _ _ _ _ HB hbl).mono ?_
  rintro r w2 ⟨hr, hB2⟩
  rw [HG.out] at hr; subst hr
  have BB2 := BB.trans (hB2.mono BB.size)
  obtain ⟨hc2, hf2⟩ := fbcell hB2
  have l2 := hB2.size
  have hc12 := fun b o (h : b < w.heap.size + 1 + 1 + 1) => (hc2 b o (by omega)).trans (hc1 b o h)
  have hf12 := fun b o (h : b < w.heap.size + 1 + 1 + 1) => (hf2 b o (by omega)).trans (hf1 b o h)
  have HA2 := HA.below hB2
  obtain ⟨kb, ob, hae, d0, d1, -⟩ := HA2 i f HF0.out
  subst hae
  clear hB2 hc1 hf1 hc2 hf2 hs hb HB
  go_wp2_with fail
  refine (l1Read_any f.bytes _ hfb).mono ?_
  rintro r w3 ⟨qs, a3, c3, rfl, hq, hst⟩
  rw [HNN.out]
  have hB3 := hst.bel
  have BB3 := BB2.trans (hB3.mono BB2.size)
  obtain ⟨hc3, hf3⟩ := fbcell hB3
  have hc13 := fun b o (h : b < w.heap.size + 1 + 1 + 1) => (hc3 b o (by omega)).trans (hc12 b o h)
  have hf13 := fun b o (h : b < w.heap.size + 1 + 1 + 1) => (hf3 b o (by omega)).trans (hf12 b o h)
  obtain ⟨kb', ob', hae, e0, e1, -⟩ := (HA2.below hB3) i f HF0.out
  simp only [Option.some.injEq, Addr.mk.injEq, and_true] at hae
  obtain ⟨rfl, rfl⟩ := hae
  have x0 : w3.cell? ⟨w.heap.size, 0, none⟩ = some (.slice (some ⟨kb, ob, none⟩) fs.length c) := (hc13 _ _ (by omega)).trans (by simp [go_sem])
  have rr : w3.cell? ⟨w.heap.size + 1 + 1, 0, none⟩ = some (.slice none 0 0) := (hc13 _ _ (by omega)).trans (by simp [go_sem])
  have rf : w3.frozen? ⟨w.heap.size + 1 + 1, 0, none⟩ = false := (hf13 _ _ (by omega)).trans (by simp [go_sem])
  have hlI : (i : Int) < (fs.length : Int) := by omega
  clear hB3 hc12 hf12 hc3 hf3 hc13 hf13 hst HA2 HA d0 d1
  go_wp2_with fail
  go_quiet (fail)
  all_goals
    go_wp2
    refine bodyPost_ret (v := .tuple #[.agg #[.slice none 0 0], .bool false]) (by simp [results, Tryd.results6, go_sem, rr]) rfl ⟨none, 0, rfl, Fls.nil _ _, .inl rfl, (below_drewN BB3 _).setCell (by show w.heap.size ≤ w.heap.size + 1 + 1; omega) _⟩

end Go.Proofs.YteklkdnkfgfdiaaDoor
