/-
  spec.CutFile's contract.
-/
import Derived.Test.YtljocofhefpapaaDskCut
namespace Go.Proofs.Ytljocofhefpapaa
open Go.RowKit

set_option maxRecDepth 100000 in
set_option maxHeartbeats 2000000 in
theorem specCut_any (a : Option Addr) (c : Nat) (fs : List Fl) (k p : Int) (w : World) (hs : Fls w a fs) (hl : fs.length ≤ maxLen) :
    Calls Try.prog 27 #[.agg #[.slice a fs.length c], .int .i64 k, .int .i64 p] w fun r w' => ∃ a' c', r = .returned (.tuple #[.agg #[.slice a' (filesOf (chg fs k (cutF p))).length c'], .bool (chg fs k (cutF p)).isSome]) ∧ Fls w' a' (filesOf (chg fs k (cutF p))) ∧ RowF w' w.heap.size a' (filesOf (chg fs k (cutF p))).length ∧ Below w.heap.size w w' := by
  have hb2 : ∀ x y, Below w.heap.size w ((w.alloc x).alloc y) := fun _ _ => ((Below.refl _ _).alloc (Nat.le_refl _) _).alloc (by simp) _
  obtain ⟨gd, hgd⟩ : ∃ gd, inF fs k = gd := ⟨_, rfl⟩
  have HG : Hid (inF fs k = gd) := hgd
  clear hgd
  cases gd with
  | false =>
    rw [chg_none HG.out]
    go_enter Try.func27, Try.ntmps27
    go_wp2_with fail
    refine (specFile_any _ _ _ _ _ (hs.below (hb2 _ _)) hl).mono ?_
    rintro r w1 ⟨hr, hB1⟩
    rw [HG.out] at hr; subst hr
    have BB := (hb2 _ _).trans (hB1.mono (hb2 _ _).size)
    obtain ⟨hc1, hf1⟩ := fbcell hB1
    simp only [World.size_alloc] at hc1 hf1
    clear hB1
    go_wp2
    refine bodyPost_ret (v := .tuple #[.agg #[.slice none 0 0], .bool false]) (by simp [results, Try.results27, go_sem, hc1]) rfl ⟨none, 0, rfl, Fls.nil _ _, .inl rfl, BB.setCell (by simp) _⟩
  | true =>
    obtain ⟨hgD, hk0, hk1⟩ := inF_t HG.out
    obtain ⟨i, rfl⟩ := Int.eq_ofNat_of_zero_le hk0
    obtain ⟨l1, l4, hok⟩ := goodD_t hgD
    obtain ⟨f, hf⟩ := getFl (fs := fs) (k := i) (by omega)
    have hfz := (okF_parts (hok f (List.mem_of_getElem? hf))).1
    clear hok hgD
    by_cases hp0 : p < 0
    · have HR : Hid (chg fs (i : Int) (cutF p) = none) := by
        show _ = _
        rw [chg_some HG.out hf]; unfold cutF; rw [inB_f.2 (by omega)]; rfl
      rw [HR.out]
      go_enter Try.func27, Try.ntmps27
      go_wp2_with fail
      refine (specFile_any _ _ _ _ _ (hs.below (hb2 _ _)) hl).mono ?_
      rintro r w1 ⟨hr, hB1⟩
      rw [HG.out] at hr; subst hr
      have BB := (hb2 _ _).trans (hB1.mono (hb2 _ _).size)
      obtain ⟨hc1, hf1⟩ := fbcell hB1
      simp only [World.size_alloc] at hc1 hf1
      clear hB1
      go_wp2
      refine bodyPost_ret (v := .tuple #[.agg #[.slice none 0 0], .bool false]) (by simp [results, Try.results27, go_sem, hc1]) rfl ⟨none, 0, rfl, Fls.nil _ _, .inl rfl, BB.setCell (by simp) _⟩
    by_cases hp1 : (f.bytes.size : Int) < p
    · have HR : Hid (chg fs (i : Int) (cutF p) = none) := by
        show _ = _
        rw [chg_some HG.out hf]; unfold cutF; rw [inB_f.2 (by omega)]; rfl
      rw [HR.out]
      go_enter Try.func27, Try.ntmps27
      go_wp2_with fail
      refine (specFile_any _ _ _ _ _ (hs.below (hb2 _ _)) hl).mono ?_
      rintro r w1 ⟨hr, hB1⟩
      rw [HG.out] at hr; subst hr
      have BB := (hb2 _ _).trans (hB1.mono (hb2 _ _).size)
      obtain ⟨kb, ob, rfl, d0, d1, -⟩ := ((hs.below (hb2 _ _)).below hB1) i f hf
      obtain ⟨hc1, hf1⟩ := fbcell hB1
      simp only [World.size_alloc] at hc1 hf1
      clear hB1 hs hf
      go_wp2
      refine bodyPost_ret (v := .tuple #[.agg #[.slice none 0 0], .bool false]) (by simp [results, Try.results27, go_sem, hc1]) rfl ⟨none, 0, rfl, Fls.nil _ _, .inl rfl, BB.setCell (by simp) _⟩
    · obtain ⟨n, rfl⟩ := Int.eq_ofNat_of_zero_le (by omega : 0 ≤ p)
      have HR : Hid (chg fs (i : Int) (cutF (n : Int)) = some (fs.set i ⟨f.bytes.extract 0 n, min f.syn n⟩)) := by
        show _ = _
        rw [chg_some HG.out hf]; unfold cutF; rw [inB_t.2 (by omega)]; rfl
      rw [HR.out]
      have HF0 : Hid (fs[i]? = some f) := hf
      go_enter Try.func27, Try.ntmps27
      go_wp2_with fail
      refine (specFile_any _ _ _ _ _ (hs.below (hb2 _ _)) hl).mono ?_
      rintro r w1 ⟨hr, hB1⟩
      rw [HG.out] at hr; subst hr
      have BB := (hb2 _ _).trans (hB1.mono (hb2 _ _).size)
      have HA := (hs.below (hb2 _ _)).below hB1
      obtain ⟨kb, ob, hae, d0, d1, -⟩ := HA i f hf
      subst hae
      obtain ⟨hc1, hf1⟩ := fbcell hB1
      have l1s := hB1.size
      simp only [World.size_alloc] at hc1 hf1 l1s
      have r1 : w1.cell? ⟨w.heap.size + 1, 0, none⟩ = some (.slice none 0 0) := (hc1 _ _ (by omega)).trans (by simp [go_sem])
      have f1 : w1.frozen? ⟨w.heap.size + 1, 0, none⟩ = false := (hf1 _ _ (by omega)).trans (by simp [go_sem])
      clear hB1 hf
      go_wp2_with fail
      refine (l3Cut_any _ _ _ _ n f _ HA l4 HF0.out hfz (by omega)).mono ?_
      rintro r w2 ⟨a2, c2, rfl, H2, R2, hB2⟩
      have BB := BB.trans (hB2.mono BB.size)
      obtain ⟨hc2, hf2⟩ := fbcell hB2
      have r0 : w2.cell? ⟨w.heap.size + 1, 0, none⟩ = some (.slice none 0 0) := (hc2 _ _ (by omega)).trans r1
      have rf : w2.frozen? ⟨w.heap.size + 1, 0, none⟩ = false := (hf2 _ _ (by omega)).trans f1
      have hset : ∀ v b, InB a2 fs.length b → (w2.setCell ⟨w.heap.size + 1, 0, none⟩ v).heap[b]? = w2.heap[b]? := fun v b hb => by
        have := (R2.lt hb).1
        exact Below.heap_setCell _ ⟨w.heap.size + 1, 0, none⟩ v b (by simp; omega)
      have HFe : Hid (∀ v, Fls (w2.setCell ⟨w.heap.size + 1, 0, none⟩ v) a2 (fs.set i ⟨f.bytes.extract 0 n, min f.syn n⟩)) := fun v => H2.of_block (by rw [List.length_set]; exact hset v)
      have HRe : Hid (∀ v, RowF (w2.setCell ⟨w.heap.size + 1, 0, none⟩ v) w.heap.size a2 (fs.set i ⟨f.bytes.extract 0 n, min f.syn n⟩).length) := fun v => by
        rw [List.length_set]
        exact (R2.of_block (hset v)).mono (by omega)
      clear hc1 hf1 hc2 hf2 hB2 HA H2 R2 hset
      go_wp2
      refine bodyPost_ret (v := .tuple #[.agg #[.slice a2 fs.length c2], .bool true]) (by simp [results, Try.results27, go_sem, r0]) rfl ⟨a2, c2, by simp [filesOf], HFe.out _, HRe.out _, BB.setCell (by simp) _⟩

end Go.Proofs.Ytljocofhefpapaa
