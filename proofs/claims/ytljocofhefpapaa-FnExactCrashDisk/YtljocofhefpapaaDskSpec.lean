/-
  A file of a disk turned, the specification's side: the contracts of spec.SyncFile, spec.AppendTo, spec.l3Cut, spec.CutFile.
-/
import Derived.Test.YtljocofhefpapaaDskOps
import Derived.RegionTactic
import Derived.Laws.Concat
namespace Go.Proofs.Ytljocofhefpapaa
open Go.RowKit

theorem FlTo.upd {h h' : Nat → Value} {fs : List Fl} {n i : Nat} {f' : Fl} (H : FlTo h fs n) (h0 : h' (i * 2) = .string f'.bytes) (h1 : h' (i * 2 + 1) = .int .i64 f'.syn) (hr : ∀ j, j ≠ i * 2 → j ≠ i * 2 + 1 → h' j = h j) : FlTo h' (fs.set i f') n := fun j b hj hb => by
  by_cases e : j = i
  · subst e
    have hlt := (List.getElem?_eq_some_iff.1 hb).1
    rw [List.length_set] at hlt
    rw [List.getElem?_set_self hlt] at hb
    simp only [Option.some.injEq] at hb
    subst hb
    exact ⟨h0, h1⟩
  · rw [List.getElem?_set_ne (fun h => e h.symm)] at hb
    rw [hr _ (by omega) (by omega), hr _ (by omega) (by omega)]
    exact H j b hj hb

theorem FlTo.of_fls {w : World} {g m : Nat} {t : TypeId} {h : Nat → Value} {fs : List Fl} (hF : Fls w (some ⟨g, 0, none⟩) fs) (hR : w.rowIs g t m h) (hm : fs.length * 2 ≤ m) : FlTo h fs fs.length := fun i b hi hb => by
  obtain ⟨k, o, e, h0, h1, -⟩ := hF i b hb
  simp only [Option.some.injEq, Addr.mk.injEq] at e
  obtain ⟨rfl, rfl, -⟩ := e
  rw [Nat.zero_add] at h0 h1
  rw [hR.cell (by omega)] at h0 h1
  exact ⟨by simpa using h0, by simpa using h1⟩

theorem RowF.form {w : World} {B : Nat} {a : Option Addr} {n : Nat} (h : RowF w B a n) (h0 : 0 < n) : ∃ g m f, a = some ⟨g, 0, none⟩ ∧ B ≤ g ∧ n * 2 ≤ m ∧ w.rowIs g 54 m f := by
  rcases h with h | h
  · omega
  · exact h

theorem set_sizes {fs : List Fl} {i : Nat} {f' : Fl} (hz : ∀ f, f ∈ fs → f.bytes.size ≤ maxLen) (h' : f'.bytes.size ≤ maxLen) : ∀ f, f ∈ fs.set i f' → f.bytes.size ≤ maxLen := fun f hf => by
  rcases List.mem_or_eq_of_mem_set hf with h | rfl
  · exact hz f h
  · exact h'

theorem row_end {u : World} {g m r : Nat} {t : TypeId} {h : Nat → Value} (hR : u.rowIs g t m h) (o : Obj) (hr : r ≠ g) (x : Value) : ((u.alloc o).setCell ⟨r, 0, none⟩ x).rowIs g t m h :=
  World.rowIs.setOther (hR.of_block (((Below.refl u.heap.size u).alloc (Nat.le_refl _) o).block g hR.lt)) (by simp; omega) x

theorem row_drew {u : World} {g m : Nat} {t : TypeId} {h : Nat → Value} (hR : u.rowIs g t m h) : u.drew.rowIs g t m h :=
  hR.of_block ((Below.refl u.heap.size u).drew.block _ hR.lt)

/-- What a row that was turned in one file reads as. -/
theorem fls_end {u : World} {g m B : Nat} {h' : Nat → Value} {fs : List Fl} {i : Nat} {f' : Fl} (hR : u.rowIs g 54 m h') (hB : B ≤ g) (hm : fs.length * 2 ≤ m) (hT : FlTo h' (fs.set i f') fs.length) (hz : ∀ f, f ∈ fs → f.bytes.size ≤ maxLen) (hz' : f'.bytes.size ≤ maxLen) :
    Fls u (some ⟨g, 0, none⟩) (fs.set i f') ∧ RowF u B (some ⟨g, 0, none⟩) (fs.set i f').length :=
  ⟨Fls.of_row hR (by rw [List.length_set]; exact hm) (by rw [List.length_set]; exact hT) (set_sizes hz hz'), .inr ⟨g, m, h', rfl, hB, by rw [List.length_set]; exact hm, hR⟩⟩

def syncF (f : Fl) : Option Fl := some ⟨f.bytes, f.bytes.size⟩

/-- What is answered: the files and whether. -/
def filesOf (o : Option (List Fl)) : List Fl := o.getD []

set_option maxRecDepth 100000 in
set_option maxHeartbeats 2000000 in
theorem specSync_any (a : Option Addr) (c : Nat) (fs : List Fl) (k : Int) (w : World) (hs : Fls w a fs) (hl : fs.length ≤ maxLen) :
    Calls Try.prog 20 #[.agg #[.slice a fs.length c], .int .i64 k] w fun r w' => ∃ a' c', r = .returned (.tuple #[.agg #[.slice a' (filesOf (chg fs k syncF)).length c'], .bool (chg fs k syncF).isSome]) ∧ Fls w' a' (filesOf (chg fs k syncF)) ∧ RowF w' w.heap.size a' (filesOf (chg fs k syncF)).length ∧ Below w.heap.size w w' := by
  have ha : ∀ (u : World) o, Below u.heap.size u (u.alloc o) := fun u o => (Below.refl _ _).alloc (Nat.le_refl _) o
  have hb2 : ∀ x y, Below w.heap.size w ((w.alloc x).alloc y) := fun _ _ => ((Below.refl _ _).alloc (Nat.le_refl _) _).alloc (by simp) _
  obtain ⟨gd, hgd⟩ : ∃ gd, inF fs k = gd := ⟨_, rfl⟩
  have HG : Hid (inF fs k = gd) := hgd
  clear hgd
  cases gd with
  | false =>
    rw [chg_none HG.out]
    go_enter Try.func20, Try.ntmps20
    go_wp2_with fail
    refine (specFile_any _ _ _ _ _ (hs.below (hb2 _ _)) hl).mono ?_
    rintro r w1 ⟨hr, hB1⟩
    rw [HG.out] at hr; subst hr
    have BB := (hb2 _ _).trans (hB1.mono (hb2 _ _).size)
    obtain ⟨hc1, hf1⟩ := fbcell hB1
    simp only [World.size_alloc] at hc1 hf1
    clear hB1
    go_wp2
    refine bodyPost_ret (v := .tuple #[.agg #[.slice none 0 0], .bool false]) (by simp [results, Try.results20, go_sem, hc1]) rfl ⟨none, 0, rfl, Fls.nil _ _, .inl rfl, BB.setCell (by simp) _⟩
  | true =>
    obtain ⟨hgD, hk0, hk1⟩ := inF_t HG.out
    obtain ⟨i, rfl⟩ := Int.eq_ofNat_of_zero_le hk0
    obtain ⟨l1, l4, hok⟩ := goodD_t hgD
    obtain ⟨f, hf⟩ := getFl (fs := fs) (k := i) (by omega)
    have hz := hs.sizes
    have hfz := (okF_parts (hok f (List.mem_of_getElem? hf))).1
    have HR : Hid (chg fs (i : Int) syncF = some (fs.set i ⟨f.bytes, f.bytes.size⟩)) := by
      show _ = _
      rw [chg_some HG.out hf]; rfl
    have HF0 : Hid (fs[i]? = some f) := hf
    rw [HR.out]
    clear hok hgD hf
    go_enter Try.func20, Try.ntmps20
    go_wp2_with fail
    refine (specFile_any _ _ _ _ _ (hs.below (hb2 _ _)) hl).mono ?_
    rintro r w1 ⟨hr, hB1⟩
    rw [HG.out] at hr; subst hr
    have BB := (hb2 _ _).trans (hB1.mono (hb2 _ _).size)
    obtain ⟨hc1, hf1⟩ := fbcell hB1
    have HA := (hs.below (hb2 _ _)).below hB1
    have l1s := hB1.size
    simp only [World.size_alloc] at hc1 hf1 l1s
    clear hB1
    go_wp2_with fail
    refine (specOwn_any _ _ _ _ HA l1 l4).mono ?_
    rintro r w2 ⟨a2, c2, rfl, H2, R2, hB2⟩
    obtain ⟨g, m, h, rfl, hg, hm, hR⟩ := R2.form (by omega)
    have HTo := FlTo.of_fls H2 hR hm
    obtain ⟨e0, e1⟩ := HTo i f (by omega) HF0.out
    have d0 : w2.cell? ⟨g, i * 2, none⟩ = some (.string f.bytes) := by rw [hR.cell (by omega), e0]
    have d1 : w2.cell? ⟨g, i * 2 + 1, none⟩ = some (.int .i64 f.syn) := by rw [hR.cell (by omega), e1]
    have fz := hR.frozen
    have hgl := hR.lt
    have BB := BB.trans (hB2.mono BB.size)
    obtain ⟨hc2, hf2⟩ := fbcell hB2
    have r0 : w2.cell? ⟨w.heap.size + 1, 0, none⟩ = some (.slice none 0 0) := (hc2 _ _ (by omega)).trans ((hc1 _ _ (by omega)).trans (by simp [go_sem]))
    have rf : w2.frozen? ⟨w.heap.size + 1, 0, none⟩ = false := (hf2 _ _ (by omega)).trans ((hf1 _ _ (by omega)).trans (by simp [go_sem]))
    have l2s := hB2.size
    clear hc1 hf1 hc2 hf2 hB2 HA
    have D0 : ∀ o, (w2.alloc o).cell? ⟨g, i * 2, none⟩ = some (.string f.bytes) := fun o => (World.cell?_alloc_old w2 o ⟨g, i * 2, none⟩ (by simp; omega)).trans d0
    have D1 : ∀ o, (w2.alloc o).cell? ⟨g, i * 2 + 1, none⟩ = some (.int .i64 f.syn) := fun o => (World.cell?_alloc_old w2 o ⟨g, i * 2 + 1, none⟩ (by simp; omega)).trans d1
    have FZ : ∀ o j, (w2.alloc o).frozen? ⟨g, j, none⟩ = false := fun o j => (World.frozen?_alloc_old w2 o ⟨g, j, none⟩ (by simp; omega)).trans (fz j)
    have R0 : ∀ x v o, ((w2.setCell ⟨g, x, none⟩ v).alloc o).cell? ⟨w.heap.size + 1, 0, none⟩ = some (.slice none 0 0) := fun x v o => (World.cell?_alloc_old _ o ⟨w.heap.size + 1, 0, none⟩ (by simp; omega)).trans ((World.cell?_of_block (a := ⟨w.heap.size + 1, 0, none⟩) (Below.heap_setCell w2 ⟨g, x, none⟩ v _ (by simp; omega))).trans r0)
    have RF : ∀ x v o, ((w2.setCell ⟨g, x, none⟩ v).alloc o).frozen? ⟨w.heap.size + 1, 0, none⟩ = false := fun x v o => (World.frozen?_alloc_old _ o ⟨w.heap.size + 1, 0, none⟩ (by simp; omega)).trans ((World.frozen?_of_block (a := ⟨w.heap.size + 1, 0, none⟩) (Below.heap_setCell w2 ⟨g, x, none⟩ v _ (by simp; omega))).trans rf)
    have n1 : ¬ g = w.heap.size + 1 := by omega
    have n2 : ¬ w.heap.size + 1 = g := by omega
    have n3 : ¬ w2.heap.size = g := by omega
    have n4 : ¬ g = w2.heap.size := by omega
    have n5 : ¬ w.heap.size + 1 = w2.heap.size := by omega
    have n6 : ¬ w2.heap.size = w.heap.size + 1 := by omega
    have hlI : (i : Int) < (fs.length : Int) := by omega
    clear d0 d1 fz r0 rf
    go_wp2_with fail
    have HE : Hid (∀ o, Fls (((w2.setCell ⟨g, i * 2 + 1, none⟩ (.int .i64 f.bytes.size)).alloc o).setCell ⟨w.heap.size + 1, 0, none⟩ (.slice (some ⟨g, 0, none⟩) fs.length c2)).drew (some ⟨g, 0, none⟩) (fs.set i ⟨f.bytes, f.bytes.size⟩) ∧ RowF (((w2.setCell ⟨g, i * 2 + 1, none⟩ (.int .i64 f.bytes.size)).alloc o).setCell ⟨w.heap.size + 1, 0, none⟩ (.slice (some ⟨g, 0, none⟩) fs.length c2)).drew w.heap.size (some ⟨g, 0, none⟩) (fs.set i ⟨f.bytes, f.bytes.size⟩).length) := fun o =>
      fls_end (row_drew (row_end (hR.set (i * 2 + 1) (.int .i64 f.bytes.size)) o (by omega) _)) (by omega) hm (HTo.upd (by rw [if_neg (by omega)]; exact e0) (by rw [if_pos rfl]) (fun j h0 h1 => by rw [if_neg h1])) hz (by unfold maxLen; simp only; omega)
    have HBB : Hid (∀ o, Below w.heap.size w (((w2.setCell ⟨g, i * 2 + 1, none⟩ (.int .i64 f.bytes.size)).alloc o).setCell ⟨w.heap.size + 1, 0, none⟩ (.slice (some ⟨g, 0, none⟩) fs.length c2)).drew) := fun o =>
      (((BB.setCell (by simp; omega) _).alloc (by simp; omega) o).setCell (by simp) _).drew
    clear H2 R2 hR HTo e0 e1
    go_region
    all_goals
      go_wp2
      refine bodyPost_ret (v := .tuple #[.agg #[.slice (some ⟨g, 0, none⟩) fs.length c2], .bool true]) (by simp [results, Try.results20, go_sem, R0]) rfl ⟨some ⟨g, 0, none⟩, c2, by simp [filesOf], (HE.out _).1, (HE.out _).2, HBB.out _⟩

end Go.Proofs.Ytljocofhefpapaa
