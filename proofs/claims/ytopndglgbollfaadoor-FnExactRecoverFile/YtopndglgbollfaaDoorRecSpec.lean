/-
  spec.RecoverFile's contract.
-/
import Derived.Test.YtopndglgbollfaaDoorRec
import Derived.Test.YtopndglgbollfaaDoorDskCut
namespace Go.Proofs.YtopndglgbollfaaDoor
open Go.RowKit

set_option maxRecDepth 100000 in
set_option maxHeartbeats 2000000 in
theorem specRec_any (a : Option Addr) (c : Nat) (fs : List Fl) (k : Int) (w : World) (hs : Fls w a fs) (hl : fs.length ≤ maxLen) :
    Calls Tryd.prog 6 #[.agg #[.slice a fs.length c], .int .i64 k] w fun r w' => RecAns w (filesOf (chg fs k (keptF (recN fs k)))) (recB fs k) (inF fs k) r w' := by
  have hb2 : ∀ x y, Below w.heap.size w ((w.alloc x).alloc y) := fun _ _ => ((Below.refl _ _).alloc (Nat.le_refl _) _).alloc (by simp) _
  obtain ⟨gd, hgd⟩ : ∃ gd, inF fs k = gd := ⟨_, rfl⟩
  have HG : Hid (inF fs k = gd) := hgd
  rw [hgd]
  cases gd with
  | false =>
    rw [recB_none hgd, chg_none hgd]
    clear hgd
    go_enter Tryd.func6, Tryd.ntmps6
    go_wp2_with fail
    refine (specFile_any _ _ _ _ _ (hs.below (hb2 _ _)) hl).mono ?_
    rintro r w1 ⟨hr, hB1⟩
    rw [HG.out] at hr; subst hr
    have BB := (hb2 _ _).trans (hB1.mono (hb2 _ _).size)
    obtain ⟨hc1, hf1⟩ := fbcell hB1
    simp only [World.size_alloc] at hc1 hf1
    clear hB1
    go_wp2
    refine bodyPost_ret (v := .tuple #[.agg #[.slice none 0 0], .slice none 0 0, .bool false]) (by simp [results, Tryd.results6, go_sem, hc1]) rfl (rec_none (BB.setCell (by simp) _))
  | true =>
    obtain ⟨hgD, hk0, hk1⟩ := inF_t hgd
    obtain ⟨i, rfl⟩ := Int.eq_ofNat_of_zero_le hk0
    obtain ⟨l1, l4, hok⟩ := goodD_t hgD
    obtain ⟨f, hf⟩ := getFl (fs := fs) (k := i) (by omega)
    obtain ⟨f4, f0, f1⟩ := okF_parts (hok f (List.mem_of_getElem? hf))
    have hnle := readL_le f.bytes.data.toList
    rw [size_len] at hnle
    rw [recB_some hgd hf, recN_some hf, chg_some hgd hf]
    have HF0 : Hid (fs[i]? = some f) := hf
    generalize hbs : (readL f.bytes.data.toList).1 = bs at *
    generalize hnn : (readL f.bytes.data.toList).2 = n at *
    have HBS : Hid ((readL f.bytes.data.toList).1 = bs) := hbs
    have HNN : Hid ((readL f.bytes.data.toList).2 = n) := hnn
    have hge : filesOf ((keptF n f).map (fun x => fs.set i x)) = fs.set i ⟨f.bytes.extract 0 n, (n : Int)⟩ := rfl
    rw [hge]
    have hz0 := hs.sizes
    have HZ0 : Hid (∀ f, f ∈ fs → f.bytes.size ≤ maxLen) := hz0
    have hzz : (f.bytes.extract 0 n).size ≤ maxLen := by rw [ByteArray.size_extract]; unfold maxLen; omega
    have HZZ : Hid ((f.bytes.extract 0 n).size ≤ maxLen) := hzz
    have hfb : f.bytes.size ≤ 2000000 := by omega
    have hlI : (i : Int) < (fs.length : Int) := by omega
    clear hok hgD hgd hf hbs hnn hge hz0 hzz
    go_enter Tryd.func6, Tryd.ntmps6
    go_wp2_with fail
    refine (specFile_any _ _ _ _ _ (hs.below (hb2 _ _)) hl).mono ?_
    rintro r w1 ⟨hr, hB1⟩
    rw [HG.out] at hr; subst hr
    have BB := (hb2 _ _).trans (hB1.mono (hb2 _ _).size)
    have HA := (hs.below (hb2 _ _)).below hB1
    obtain ⟨kb, ob, hae, d0, d1, -⟩ := HA i f HF0.out
    subst hae
    obtain ⟨hc1, hf1⟩ := fbcell hB1
    have l1s := hB1.size
    simp only [World.size_alloc] at hc1 hf1 l1s
    have a0 : w1.cell? ⟨w.heap.size, 0, none⟩ = some (.slice (some ⟨kb, ob, none⟩) fs.length c) := (hc1 _ _ (by omega)).trans (by simp [go_sem])
    have r0 : w1.cell? ⟨w.heap.size + 1, 0, none⟩ = some (.slice none 0 0) := (hc1 _ _ (by omega)).trans (by simp [go_sem])
    have rf : w1.frozen? ⟨w.heap.size + 1, 0, none⟩ = false := (hf1 _ _ (by omega)).trans (by simp [go_sem])
    clear hB1 hs hc1 hf1
    go_wp2_with fail
    refine (l1Read_any f.bytes _ hfb).mono ?_
    rintro r w2 ⟨qs, a2, c2, rfl, hq, hst⟩
    rw [HNN.out]
    have hB2 := hst.bel
    have BB2 := BB.trans (hB2.mono BB.size)
    have HA2 := HA.below hB2
    obtain ⟨hc2, hf2⟩ := fbcell hB2
    have l2s := hB2.size
    have a0 : w2.cell? ⟨w.heap.size, 0, none⟩ = some (.slice (some ⟨kb, ob, none⟩) fs.length c) := (hc2 _ _ (by omega)).trans a0
    have r0 : w2.cell? ⟨w.heap.size + 1, 0, none⟩ = some (.slice none 0 0) := (hc2 _ _ (by omega)).trans r0
    have rf : w2.frozen? ⟨w.heap.size + 1, 0, none⟩ = false := (hf2 _ _ (by omega)).trans rf
    have HST : Hid (RdSt w1 w2 (.slice a2 qs.length c2) qs) := hst
    clear hB2 hc2 hf2 hst HA d0 d1
    go_wp2_with fail
    refine (l3Cut_any _ _ _ _ n f _ HA2 l4 HF0.out f4 hnle).mono ?_
    rintro r w3 ⟨a3, c3, rfl, H3, R3, hB3⟩
    obtain ⟨g, m, h, rfl, hg, hm, hR⟩ := R3.form (by omega)
    have HTo := FlTo.of_fls H3 hR (by rw [List.length_set]; exact hm)
    rw [List.length_set] at HTo
    have HTO : Hid (FlTo h (fs.set i ⟨f.bytes.extract 0 n, min f.syn n⟩) fs.length) := HTo
    have hi : i < fs.length := by omega
    obtain ⟨e0, e1⟩ := HTo i ⟨f.bytes.extract 0 n, min f.syn n⟩ hi (List.getElem?_set_self hi)
    have hgl := hR.lt
    have BB3 := BB2.trans (hB3.mono BB2.size)
    obtain ⟨hc3, hf3⟩ := fbcell hB3
    have l3s := hB3.size
    have r0 : w3.cell? ⟨w.heap.size + 1, 0, none⟩ = some (.slice none 0 0) := (hc3 _ _ (by omega)).trans r0
    have rf : w3.frozen? ⟨w.heap.size + 1, 0, none⟩ = false := (hf3 _ _ (by omega)).trans rf
    have fz := hR.frozen
    have d1 : w3.cell? ⟨g, i * 2 + 1, none⟩ = some (.int .i64 (min f.syn n)) := by rw [hR.cell (by omega), e1]
    have D1 : ∀ o, (w3.alloc o).cell? ⟨g, i * 2 + 1, none⟩ = some (.int .i64 (min f.syn n)) := fun o => (World.cell?_alloc_old w3 o ⟨g, i * 2 + 1, none⟩ (by simp; omega)).trans d1
    have FF : ∀ o j, (w3.alloc o).frozen? ⟨g, j, none⟩ = false := fun o j => (World.frozen?_alloc_old w3 o ⟨g, j, none⟩ (by simp; omega)).trans (fz j)
    have R0 : ∀ o, (w3.alloc o).cell? ⟨w.heap.size + 1, 0, none⟩ = some (.slice none 0 0) := fun o => (World.cell?_alloc_old w3 o ⟨w.heap.size + 1, 0, none⟩ (by simp; omega)).trans r0
    have RF : ∀ o, (w3.alloc o).frozen? ⟨w.heap.size + 1, 0, none⟩ = false := fun o => (World.frozen?_alloc_old w3 o ⟨w.heap.size + 1, 0, none⟩ (by simp; omega)).trans rf
    have n1 : ¬ g = w.heap.size + 1 := by omega
    have n2 : ¬ w.heap.size + 1 = g := by omega
    have n3 : ¬ w3.heap.size = g := by omega
    have n4 : ¬ g = w3.heap.size := by omega
    have n5 : ¬ w.heap.size + 1 = w3.heap.size := by omega
    have n6 : ¬ w3.heap.size = w.heap.size + 1 := by omega
    have X0 : ∀ v o, ((w3.setCell ⟨g, i * 2 + 1, none⟩ v).alloc o).cell? ⟨w.heap.size + 1, 0, none⟩ = some (.slice none 0 0) := fun v o => (World.cell?_alloc_old _ o ⟨w.heap.size + 1, 0, none⟩ (by simp; omega)).trans ((World.cell?_of_block (a := ⟨w.heap.size + 1, 0, none⟩) (Below.heap_setCell w3 ⟨g, i * 2 + 1, none⟩ v _ (by simp; omega))).trans r0)
    have XF : ∀ v o, ((w3.setCell ⟨g, i * 2 + 1, none⟩ v).alloc o).frozen? ⟨w.heap.size + 1, 0, none⟩ = false := fun v o => (World.frozen?_alloc_old _ o ⟨w.heap.size + 1, 0, none⟩ (by simp; omega)).trans ((World.frozen?_of_block (a := ⟨w.heap.size + 1, 0, none⟩) (Below.heap_setCell w3 ⟨g, i * 2 + 1, none⟩ v _ (by simp; omega))).trans rf)
    have HE : Hid (∀ o v, RecAns w (fs.set i ⟨f.bytes.extract 0 n, (n : Int)⟩) bs true (.returned (.tuple #[.agg #[.slice (some ⟨g, 0, none⟩) fs.length c3], .slice a2 qs.length c2, .bool true])) (((w3.setCell ⟨g, i * 2 + 1, none⟩ (.int .i64 (n : Int))).alloc o).setCell ⟨w.heap.size + 1, 0, none⟩ v)) := fun o v => by
      have hR1 := hR.set (i * 2 + 1) (.int .i64 (n : Int))
      have hRa := hR1.of_block (((Below.refl _ _).alloc (Nat.le_refl _) o).block g hR1.lt)
      have hRn := World.rowIs.setOther hRa (a := ⟨w.heap.size + 1, 0, none⟩) (by simp; omega) v
      have hTn := HTO.out.upd (f' := ⟨f.bytes.extract 0 n, (n : Int)⟩) (i := i) (h' := fun j => if j = i * 2 + 1 then .int .i64 (n : Int) else h j) (by rw [if_neg (by omega)]; exact e0) (by rw [if_pos rfl]) (fun j h0 h1 => by rw [if_neg h1])
      rw [List.set_set] at hTn
      have q := fls_end (B := w2.heap.size) hRn (by omega) hm hTn HZ0.out HZZ.out
      refine ⟨_, c3, qs, a2, c2, w1, w2, by rw [List.length_set], hq.trans HBS.out, q.1, q.2, HST.out, by omega, by simp; omega, fun x h1 h2 => ?_, ((BB3.setCell (by simp; omega) _).alloc (by simp; omega) o).setCell (by simp) _⟩
      rw [Below.heap_setCell _ ⟨w.heap.size + 1, 0, none⟩ v x (by simp; omega), ((Below.refl _ _).alloc (Nat.le_refl _) o).block x (by simp; omega), Below.heap_setCell _ ⟨g, i * 2 + 1, none⟩ _ x (by simp; omega)]
      exact hB3.block x h2
    clear hB3 hc3 hf3 H3 R3 HST HTo hR
    go_wp2
    refine bodyPost_ret (v := .tuple #[.agg #[.slice (some ⟨g, 0, none⟩) fs.length c3], .slice a2 qs.length c2, .bool true]) (by simp [results, Tryd.results6, go_sem, X0]) rfl (HE.out _ _)

end Go.Proofs.YtopndglgbollfaaDoor
