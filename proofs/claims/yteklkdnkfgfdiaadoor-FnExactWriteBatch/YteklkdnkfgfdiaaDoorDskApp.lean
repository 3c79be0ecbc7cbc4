/-
  Bytes behind a file's: the contracts of spec.AppendTo and (impl.tail).behind.
-/
import Derived.Test.YteklkdnkfgfdiaaDoorDskImpl
namespace Go.Proofs.YteklkdnkfgfdiaaDoor
open Go.RowKit

def tailF (s : ByteArray) (f : Fl) : Option Fl := if (s.size : Int) ≤ 400 - f.bytes.size then some ⟨f.bytes ++ s, f.syn⟩ else none

theorem tail_any (s : ByteArray) (f : Fl) (w : World) (hz : f.bytes.size ≤ 400) (_hs : s.size ≤ maxLen) :
    Calls Tryd.prog 49 #[.string s, .agg #[.string f.bytes, .int .i64 f.syn]] w fun r w' => ∃ f' : Fl, r = .returned (.tuple #[.agg #[.string f'.bytes, .int .i64 f'.syn], .bool (tailF s f).isSome]) ∧ (∀ x, tailF s f = some x → x = f') ∧ Below w.heap.size w w' := by
  have hb2 : ∀ x y, Below w.heap.size w ((w.alloc x).alloc y) := fun _ _ => ((Below.refl _ _).alloc (Nat.le_refl _) _).alloc (by simp) _
  by_cases h : (400 : Int) - f.bytes.size < s.size
  · have e : tailF s f = none := by unfold tailF; rw [if_neg (by omega)]
    rw [e]
    go_enter Tryd.func49, Tryd.ntmps49
    go_wp2
    refine bodyPost_ret (v := .tuple #[.agg #[.string ⟨#[]⟩, .int .i64 0], .bool false]) (by simp [results, Tryd.results49, go_sem]) rfl ⟨⟨⟨#[]⟩, 0⟩, rfl, (fun x h => by cases h), hb2 _ _⟩
  · have e : tailF s f = some ⟨f.bytes ++ s, f.syn⟩ := by unfold tailF; rw [if_pos (by omega)]
    rw [e]
    have NA : ¬ (9223372036854775807 < f.bytes.size + s.size) := by omega
    go_enter Tryd.func49, Tryd.ntmps49
    go_wp2
    refine bodyPost_ret (v := .tuple #[.agg #[.string (f.bytes ++ s), .int .i64 f.syn], .bool true]) (by simp [results, Tryd.results49, go_sem]) rfl ⟨⟨f.bytes ++ s, f.syn⟩, rfl, rfl, hb2 _ _⟩

set_option maxRecDepth 100000 in
set_option maxHeartbeats 2000000 in
theorem specApp_any (a : Option Addr) (c : Nat) (fs : List Fl) (k : Int) (s : ByteArray) (w : World) (hs : Fls w a fs) (hl : fs.length ≤ maxLen) (_hsz : s.size ≤ maxLen) :
    Calls Tryd.prog 21 #[.agg #[.slice a fs.length c], .int .i64 k, .string s] w fun r w' => ∃ a' c', r = .returned (.tuple #[.agg #[.slice a' (filesOf (chg fs k (tailF s))).length c'], .bool (chg fs k (tailF s)).isSome]) ∧ Fls w' a' (filesOf (chg fs k (tailF s))) ∧ RowF w' w.heap.size a' (filesOf (chg fs k (tailF s))).length ∧ Below w.heap.size w w' := by
  have hb2 : ∀ x y, Below w.heap.size w ((w.alloc x).alloc y) := fun _ _ => ((Below.refl _ _).alloc (Nat.le_refl _) _).alloc (by simp) _
  obtain ⟨gd, hgd⟩ : ∃ gd, inF fs k = gd := ⟨_, rfl⟩
  have HG : Hid (inF fs k = gd) := hgd
  clear hgd
  cases gd with
  | false =>
    rw [chg_none HG.out]
    go_enter Tryd.func21, Tryd.ntmps21
    go_wp2_with fail
    refine (specFile_any _ _ _ _ _ (hs.below (hb2 _ _)) hl).mono ?_
    rintro r w1 ⟨hr, hB1⟩
    rw [HG.out] at hr; subst hr
    have BB := (hb2 _ _).trans (hB1.mono (hb2 _ _).size)
    obtain ⟨hc1, hf1⟩ := fbcell hB1
    simp only [World.size_alloc] at hc1 hf1
    clear hB1
    go_wp2
    refine bodyPost_ret (v := .tuple #[.agg #[.slice none 0 0], .bool false]) (by simp [results, Tryd.results21, go_sem, hc1]) rfl ⟨none, 0, rfl, Fls.nil _ _, .inl rfl, BB.setCell (by simp) _⟩
  | true =>
    obtain ⟨hgD, hk0, hk1⟩ := inF_t HG.out
    obtain ⟨i, rfl⟩ := Int.eq_ofNat_of_zero_le hk0
    obtain ⟨l1, l4, hok⟩ := goodD_t hgD
    obtain ⟨f, hf⟩ := getFl (fs := fs) (k := i) (by omega)
    have hz := hs.sizes
    have hfz := (okF_parts (hok f (List.mem_of_getElem? hf))).1
    have HF0 : Hid (fs[i]? = some f) := hf
    clear hok hgD
    by_cases hbig : (400 : Int) - f.bytes.size < s.size
    · have HR : Hid (chg fs (i : Int) (tailF s) = none) := by
        show _ = _
        rw [chg_some HG.out hf]; unfold tailF; rw [if_neg (by omega)]; rfl
      rw [HR.out]
      go_enter Tryd.func21, Tryd.ntmps21
      go_wp2_with fail
      refine (specFile_any _ _ _ _ _ (hs.below (hb2 _ _)) hl).mono ?_
      rintro r w1 ⟨hr, hB1⟩
      rw [HG.out] at hr; subst hr
      have BB := (hb2 _ _).trans (hB1.mono (hb2 _ _).size)
      obtain ⟨kb, ob, rfl, d0, d1, -⟩ := ((hs.below (hb2 _ _)).below hB1) i f hf
      obtain ⟨hc1, hf1⟩ := fbcell hB1
      simp only [World.size_alloc] at hc1 hf1
      clear hB1 hs hf
      go_wp2
      refine bodyPost_ret (v := .tuple #[.agg #[.slice none 0 0], .bool false]) (by simp [results, Tryd.results21, go_sem, hc1]) rfl ⟨none, 0, rfl, Fls.nil _ _, .inl rfl, BB.setCell (by simp) _⟩
    · have HR : Hid (chg fs (i : Int) (tailF s) = some (fs.set i ⟨f.bytes ++ s, f.syn⟩)) := by
        show _ = _
        rw [chg_some HG.out hf]; unfold tailF; rw [if_pos (by omega)]; rfl
      rw [HR.out]
      have NA : ¬ (9223372036854775807 < f.bytes.size + s.size) := by omega
      have hzz : (f.bytes ++ s).size ≤ maxLen := by rw [ByteArray.size_append]; unfold maxLen; omega
      go_enter Tryd.func21, Tryd.ntmps21
      go_wp2_with fail
      refine (specFile_any _ _ _ _ _ (hs.below (hb2 _ _)) hl).mono ?_
      rintro r w1 ⟨hr, hB1⟩
      rw [HG.out] at hr; subst hr
      have BB := (hb2 _ _).trans (hB1.mono (hb2 _ _).size)
      have HA := (hs.below (hb2 _ _)).below hB1
      obtain ⟨kb, ob, hae, d0, d1, -⟩ := HA i f hf
      subst hae
      obtain ⟨hc1, hf1⟩ := fbcell hB1
      have l1s := hB1.size
      simp only [World.size_alloc] at hc1 hf1 l1s
      clear hB1 hf
      go_wp2_with fail
      refine (specOwn_any _ _ _ _ HA l1 l4).mono ?_
      rintro r w2 ⟨a2, c2, rfl, H2, R2, hB2⟩
      obtain ⟨g, m, h, rfl, hg, hm, hR⟩ := R2.form (by omega)
      have HTo := FlTo.of_fls H2 hR hm
      obtain ⟨e0, e1⟩ := HTo i f (by omega) HF0.out
      have d0 : w2.cell? ⟨g, i * 2, none⟩ = some (.string f.bytes) := by rw [hR.cell (by omega), e0]
      have fz := hR.frozen
      have hgl := hR.lt
      have BB := BB.trans (hB2.mono BB.size)
      obtain ⟨hc2, hf2⟩ := fbcell hB2
      have r0 : w2.cell? ⟨w.heap.size + 1, 0, none⟩ = some (.slice none 0 0) := (hc2 _ _ (by omega)).trans ((hc1 _ _ (by omega)).trans (by simp [go_sem]))
      have rf : w2.frozen? ⟨w.heap.size + 1, 0, none⟩ = false := (hf2 _ _ (by omega)).trans ((hf1 _ _ (by omega)).trans (by simp [go_sem]))
      have l2s := hB2.size
      clear hc1 hf1 hc2 hf2 hB2 HA
      have D0 : ∀ o, (w2.alloc o).cell? ⟨g, i * 2, none⟩ = some (.string f.bytes) := fun o => (World.cell?_alloc_old w2 o ⟨g, i * 2, none⟩ (by simp; omega)).trans d0
      have FZ : ∀ o j, (w2.alloc o).frozen? ⟨g, j, none⟩ = false := fun o j => (World.frozen?_alloc_old w2 o ⟨g, j, none⟩ (by simp; omega)).trans (fz j)
      have R0 : ∀ x v o, ((w2.setCell ⟨g, x, none⟩ v).alloc o).cell? ⟨w.heap.size + 1, 0, none⟩ = some (.slice none 0 0) := fun x v o => (World.cell?_alloc_old _ o ⟨w.heap.size + 1, 0, none⟩ (by simp; omega)).trans ((World.cell?_of_block (a := ⟨w.heap.size + 1, 0, none⟩) (Below.heap_setCell w2 ⟨g, x, none⟩ v _ (by simp; omega))).trans r0)
      have RF : ∀ x v o, ((w2.setCell ⟨g, x, none⟩ v).alloc o).frozen? ⟨w.heap.size + 1, 0, none⟩ = false := fun x v o => (World.frozen?_alloc_old _ o ⟨w.heap.size + 1, 0, none⟩ (by simp; omega)).trans ((World.frozen?_of_block (a := ⟨w.heap.size + 1, 0, none⟩) (Below.heap_setCell w2 ⟨g, x, none⟩ v _ (by simp; omega))).trans rf)
      have n1 : ¬ g = w.heap.size + 1 := by omega
      have n2 : ¬ w.heap.size + 1 = g := by omega
      have n3 : ¬ w2.heap.size = g := by omega
      have n4 : ¬ g = w2.heap.size := by omega
      have n5 : ¬ w.heap.size + 1 = w2.heap.size := by omega
      have n6 : ¬ w2.heap.size = w.heap.size + 1 := by omega
      have hlI : (i : Int) < (fs.length : Int) := by omega
      clear d0 fz r0 rf
      have HE : Hid (∀ o, Fls (((w2.setCell ⟨g, i * 2, none⟩ (.string (f.bytes ++ s))).alloc o).setCell ⟨w.heap.size + 1, 0, none⟩ (.slice (some ⟨g, 0, none⟩) fs.length c2)) (some ⟨g, 0, none⟩) (fs.set i ⟨f.bytes ++ s, f.syn⟩) ∧ RowF (((w2.setCell ⟨g, i * 2, none⟩ (.string (f.bytes ++ s))).alloc o).setCell ⟨w.heap.size + 1, 0, none⟩ (.slice (some ⟨g, 0, none⟩) fs.length c2)) w.heap.size (some ⟨g, 0, none⟩) (fs.set i ⟨f.bytes ++ s, f.syn⟩).length) := fun o =>
        fls_end (row_end (hR.set (i * 2) (.string (f.bytes ++ s))) o (by omega) _) (by omega) hm (HTo.upd (by rw [if_pos rfl]) (by rw [if_neg (by omega)]; exact e1) (fun j h0 h1 => by rw [if_neg h0])) hz hzz
      have HBB : Hid (∀ o, Below w.heap.size w (((w2.setCell ⟨g, i * 2, none⟩ (.string (f.bytes ++ s))).alloc o).setCell ⟨w.heap.size + 1, 0, none⟩ (.slice (some ⟨g, 0, none⟩) fs.length c2))) := fun o =>
        ((BB.setCell (by simp; omega) _).alloc (by simp; omega) o).setCell (by simp) _
      clear H2 R2 hR HTo e0 e1
      go_wp2
      refine bodyPost_ret (v := .tuple #[.agg #[.slice (some ⟨g, 0, none⟩) fs.length c2], .bool true]) (by simp [results, Tryd.results21, go_sem, R0]) rfl ⟨some ⟨g, 0, none⟩, c2, by simp [filesOf], (HE.out _).1, (HE.out _).2, HBB.out _⟩

end Go.Proofs.YteklkdnkfgfdiaaDoor
