/-
  A file cut: the contracts of spec.l3Cut, spec.CutFile and (impl.place).cut.
-/
import Derived.Test.YtopndglgbollfaaDoorDskImpl
namespace Go.Proofs.YtopndglgbollfaaDoor
open Go.RowKit

def cutF (p : Int) (f : Fl) : Option Fl := if inB p 0 f.bytes.size = true then some ⟨f.bytes.extract 0 p.toNat, min f.syn p⟩ else none

set_option maxRecDepth 100000 in
set_option maxHeartbeats 4000000 in
/-- spec.l3Cut, at a file that is there and a place within it. -/
theorem l3Cut_any (a : Option Addr) (c : Nat) (fs : List Fl) (i p : Nat) (f : Fl) (w : World) (hs : Fls w a fs) (l4 : fs.length ≤ 4) (hf : fs[i]? = some f) (hz : f.bytes.size ≤ 400) (hp : p ≤ f.bytes.size) :
    Calls Tryd.prog 20 #[.agg #[.slice a fs.length c], .int .i64 i, .int .i64 p] w fun r w' => ∃ a' c', r = .returned (.agg #[.slice a' fs.length c']) ∧ Fls w' a' (fs.set i ⟨f.bytes.extract 0 p, min f.syn p⟩) ∧ RowF w' w.heap.size a' fs.length ∧ Below w.heap.size w w' := by
  have hb2 : ∀ x y, Below w.heap.size w ((w.alloc x).alloc y) := fun _ _ => ((Below.refl _ _).alloc (Nat.le_refl _) _).alloc (by simp) _
  have hi := (List.getElem?_eq_some_iff.1 hf).1
  have hz0 := hs.sizes
  have hpI : (p : Int) ≤ (f.bytes.size : Int) := by omega
  have hzz : (f.bytes.extract 0 p).size ≤ maxLen := by rw [ByteArray.size_extract]; unfold maxLen; omega
  have HF0 : Hid (fs[i]? = some f) := hf
  clear hf
  by_cases hq : f.syn ≤ (p : Int)
  · rw [show min f.syn (p : Int) = f.syn from by omega]
    go_enter Tryd.func20, Tryd.ntmps20
    go_wp2_with fail
    refine (specOwn_any _ _ _ _ (hs.below (hb2 _ _)) (by omega) l4).mono ?_
    rintro r w2 ⟨a2, c2, rfl, H2, R2, hB2⟩
    obtain ⟨g, m, h, rfl, hg, hm, hR⟩ := R2.form (by omega)
    have HTo := FlTo.of_fls H2 hR hm
    obtain ⟨e0, e1⟩ := HTo i f (by omega) HF0.out
    have d0 : w2.cell? ⟨g, i * 2, none⟩ = some (.string f.bytes) := by rw [hR.cell (by omega), e0]
    have d1 : w2.cell? ⟨g, i * 2 + 1, none⟩ = some (.int .i64 f.syn) := by rw [hR.cell (by omega), e1]
    have fz := hR.frozen
    have hgl := hR.lt
    have BB := (hb2 _ _).trans (hB2.mono (hb2 _ _).size)
    obtain ⟨hc2, hf2⟩ := fbcell hB2
    have l2s := hB2.size
    simp only [World.size_alloc] at hc2 hf2 l2s hg
    have r0 : w2.cell? ⟨w.heap.size + 1, 0, none⟩ = some (.slice none 0 0) := (hc2 _ _ (by omega)).trans (by simp [go_sem])
    have rf : w2.frozen? ⟨w.heap.size + 1, 0, none⟩ = false := (hf2 _ _ (by omega)).trans (by simp [go_sem])
    clear hc2 hf2 hB2
    have D0 : ∀ o, (w2.alloc o).cell? ⟨g, i * 2, none⟩ = some (.string f.bytes) := fun o => (World.cell?_alloc_old w2 o ⟨g, i * 2, none⟩ (by simp; omega)).trans d0
    have D1 : ∀ o, (w2.alloc o).cell? ⟨g, i * 2 + 1, none⟩ = some (.int .i64 f.syn) := fun o => (World.cell?_alloc_old w2 o ⟨g, i * 2 + 1, none⟩ (by simp; omega)).trans d1
    have DD0 : ∀ o o', ((w2.alloc o).alloc o').cell? ⟨g, i * 2, none⟩ = some (.string f.bytes) := fun o o' => (World.cell?_alloc_old _ o' ⟨g, i * 2, none⟩ (by simp; omega)).trans (D0 o)
    have DD1 : ∀ o o', ((w2.alloc o).alloc o').cell? ⟨g, i * 2 + 1, none⟩ = some (.int .i64 f.syn) := fun o o' => (World.cell?_alloc_old _ o' ⟨g, i * 2 + 1, none⟩ (by simp; omega)).trans (D1 o)
    have FF : ∀ o o' j, ((w2.alloc o).alloc o').frozen? ⟨g, j, none⟩ = false := fun o o' j => (World.frozen?_alloc_old _ o' ⟨g, j, none⟩ (by simp; omega)).trans ((World.frozen?_alloc_old w2 o ⟨g, j, none⟩ (by simp; omega)).trans (fz j))
    have n1 : ¬ g = w.heap.size + 1 := by omega
    have n2 : ¬ w.heap.size + 1 = g := by omega
    have n3 : ¬ w2.heap.size = g := by omega
    have n4 : ¬ g = w2.heap.size := by omega
    have n5 : ¬ w.heap.size + 1 = w2.heap.size := by omega
    have n6 : ¬ w2.heap.size = w.heap.size + 1 := by omega
    have n7 : ¬ g = w2.heap.size + 1 := by omega
    have n8 : ¬ w2.heap.size + 1 = g := by omega
    have hlI : (i : Int) < (fs.length : Int) := by omega
    have X0 : ∀ v v' o o', ((((w2.setCell ⟨g, i * 2, none⟩ v).setCell ⟨g, i * 2 + 1, none⟩ v').alloc o).alloc o').cell? ⟨w.heap.size + 1, 0, none⟩ = some (.slice none 0 0) := fun v v' o o' => (World.cell?_alloc_old _ o' ⟨w.heap.size + 1, 0, none⟩ (by simp; omega)).trans ((World.cell?_alloc_old _ o ⟨w.heap.size + 1, 0, none⟩ (by simp; omega)).trans ((World.cell?_of_block (a := ⟨w.heap.size + 1, 0, none⟩) ((Below.heap_setCell _ ⟨g, i * 2 + 1, none⟩ v' _ (by simp; omega)).trans (Below.heap_setCell w2 ⟨g, i * 2, none⟩ v _ (by simp; omega)))).trans r0))
    have XF : ∀ v v' o o', ((((w2.setCell ⟨g, i * 2, none⟩ v).setCell ⟨g, i * 2 + 1, none⟩ v').alloc o).alloc o').frozen? ⟨w.heap.size + 1, 0, none⟩ = false := fun v v' o o' => (World.frozen?_alloc_old _ o' ⟨w.heap.size + 1, 0, none⟩ (by simp; omega)).trans ((World.frozen?_alloc_old _ o ⟨w.heap.size + 1, 0, none⟩ (by simp; omega)).trans ((World.frozen?_of_block (a := ⟨w.heap.size + 1, 0, none⟩) ((Below.heap_setCell _ ⟨g, i * 2 + 1, none⟩ v' _ (by simp; omega)).trans (Below.heap_setCell w2 ⟨g, i * 2, none⟩ v _ (by simp; omega)))).trans rf))
    have E1 : ∀ v o o', (((w2.setCell ⟨g, i * 2, none⟩ v).alloc o).alloc o').cell? ⟨g, i * 2 + 1, none⟩ = some (.int .i64 f.syn) := fun v o o' => (World.cell?_alloc_old _ o' ⟨g, i * 2 + 1, none⟩ (by simp; omega)).trans ((World.cell?_alloc_old _ o ⟨g, i * 2 + 1, none⟩ (by simp; omega)).trans (by simp [go_sem, d1]))
    have EF : ∀ v o o' j, (((w2.setCell ⟨g, i * 2, none⟩ v).alloc o).alloc o').frozen? ⟨g, j, none⟩ = false := fun v o o' j => (World.frozen?_alloc_old _ o' ⟨g, j, none⟩ (by simp; omega)).trans ((World.frozen?_alloc_old _ o ⟨g, j, none⟩ (by simp; omega)).trans (by simp [go_sem, fz]))
    have L0 : ∀ v v' x o', ((((w2.setCell ⟨g, i * 2, none⟩ v).setCell ⟨g, i * 2 + 1, none⟩ v').alloc (.cells #[x] 28)).alloc o').cell? ⟨w2.heap.size, 0, none⟩ = some x := fun v v' x o' => by simp [go_sem]
    have hR2 := (hR.set (i * 2) (.string (f.bytes.extract 0 p))).set (i * 2 + 1) (.int .i64 f.syn)
    have HE : Hid (∀ o o', Fls (((((w2.setCell ⟨g, i * 2, none⟩ (.string (f.bytes.extract 0 p))).setCell ⟨g, i * 2 + 1, none⟩ (.int .i64 f.syn)).alloc o).alloc o').setCell ⟨w.heap.size + 1, 0, none⟩ (.slice (some ⟨g, 0, none⟩) fs.length c2)) (some ⟨g, 0, none⟩) (fs.set i ⟨f.bytes.extract 0 p, f.syn⟩) ∧ RowF (((((w2.setCell ⟨g, i * 2, none⟩ (.string (f.bytes.extract 0 p))).setCell ⟨g, i * 2 + 1, none⟩ (.int .i64 f.syn)).alloc o).alloc o').setCell ⟨w.heap.size + 1, 0, none⟩ (.slice (some ⟨g, 0, none⟩) fs.length c2)) w.heap.size (some ⟨g, 0, none⟩) fs.length) := fun o o' => by
      have q := fls_end (f' := ⟨f.bytes.extract 0 p, f.syn⟩) (B := w.heap.size) (row_end (x := .slice (some ⟨g, 0, none⟩) fs.length c2) (r := w.heap.size + 1) (hR2.of_block (((Below.refl _ _).alloc (Nat.le_refl _) o).block g hR2.lt)) o' (by omega)) (by omega) hm (HTo.upd (by rw [if_neg (by omega), if_pos rfl]) (by rw [if_pos rfl]) (fun j h0 h1 => by rw [if_neg h1, if_neg h0])) hz0 hzz
      rw [List.length_set] at q
      exact q
    have HBB : Hid (∀ o o', Below w.heap.size w (((((w2.setCell ⟨g, i * 2, none⟩ (.string (f.bytes.extract 0 p))).setCell ⟨g, i * 2 + 1, none⟩ (.int .i64 f.syn)).alloc o).alloc o').setCell ⟨w.heap.size + 1, 0, none⟩ (.slice (some ⟨g, 0, none⟩) fs.length c2))) := fun o o' =>
      ((((BB.setCell (by simp; omega) _).setCell (by simp; omega) _).alloc (by simp; omega) o).alloc (by simp; omega) o').setCell (by simp) _
    clear H2 R2 hR hR2 HTo e0 e1 d0 d1 fz r0 rf
    go_wp2
    refine bodyPost_ret (v := .agg #[.slice (some ⟨g, 0, none⟩) fs.length c2]) (by simp [results, Tryd.results20, go_sem, X0]) rfl ⟨some ⟨g, 0, none⟩, c2, rfl, (HE.out _ _).1, (HE.out _ _).2, HBB.out _ _⟩
  · rw [show min f.syn (p : Int) = (p : Int) from by omega]
    go_enter Tryd.func20, Tryd.ntmps20
    go_wp2_with fail
    refine (specOwn_any _ _ _ _ (hs.below (hb2 _ _)) (by omega) l4).mono ?_
    rintro r w2 ⟨a2, c2, rfl, H2, R2, hB2⟩
    obtain ⟨g, m, h, rfl, hg, hm, hR⟩ := R2.form (by omega)
    have HTo := FlTo.of_fls H2 hR hm
    obtain ⟨e0, e1⟩ := HTo i f (by omega) HF0.out
    have d0 : w2.cell? ⟨g, i * 2, none⟩ = some (.string f.bytes) := by rw [hR.cell (by omega), e0]
    have d1 : w2.cell? ⟨g, i * 2 + 1, none⟩ = some (.int .i64 f.syn) := by rw [hR.cell (by omega), e1]
    have fz := hR.frozen
    have hgl := hR.lt
    have BB := (hb2 _ _).trans (hB2.mono (hb2 _ _).size)
    obtain ⟨hc2, hf2⟩ := fbcell hB2
    have l2s := hB2.size
    simp only [World.size_alloc] at hc2 hf2 l2s hg
    have r0 : w2.cell? ⟨w.heap.size + 1, 0, none⟩ = some (.slice none 0 0) := (hc2 _ _ (by omega)).trans (by simp [go_sem])
    have rf : w2.frozen? ⟨w.heap.size + 1, 0, none⟩ = false := (hf2 _ _ (by omega)).trans (by simp [go_sem])
    clear hc2 hf2 hB2
    have D0 : ∀ o, (w2.alloc o).cell? ⟨g, i * 2, none⟩ = some (.string f.bytes) := fun o => (World.cell?_alloc_old w2 o ⟨g, i * 2, none⟩ (by simp; omega)).trans d0
    have D1 : ∀ o, (w2.alloc o).cell? ⟨g, i * 2 + 1, none⟩ = some (.int .i64 f.syn) := fun o => (World.cell?_alloc_old w2 o ⟨g, i * 2 + 1, none⟩ (by simp; omega)).trans d1
    have DD0 : ∀ o o', ((w2.alloc o).alloc o').cell? ⟨g, i * 2, none⟩ = some (.string f.bytes) := fun o o' => (World.cell?_alloc_old _ o' ⟨g, i * 2, none⟩ (by simp; omega)).trans (D0 o)
    have DD1 : ∀ o o', ((w2.alloc o).alloc o').cell? ⟨g, i * 2 + 1, none⟩ = some (.int .i64 f.syn) := fun o o' => (World.cell?_alloc_old _ o' ⟨g, i * 2 + 1, none⟩ (by simp; omega)).trans (D1 o)
    have FF : ∀ o o' j, ((w2.alloc o).alloc o').frozen? ⟨g, j, none⟩ = false := fun o o' j => (World.frozen?_alloc_old _ o' ⟨g, j, none⟩ (by simp; omega)).trans ((World.frozen?_alloc_old w2 o ⟨g, j, none⟩ (by simp; omega)).trans (fz j))
    have n1 : ¬ g = w.heap.size + 1 := by omega
    have n2 : ¬ w.heap.size + 1 = g := by omega
    have n3 : ¬ w2.heap.size = g := by omega
    have n4 : ¬ g = w2.heap.size := by omega
    have n5 : ¬ w.heap.size + 1 = w2.heap.size := by omega
    have n6 : ¬ w2.heap.size = w.heap.size + 1 := by omega
    have n7 : ¬ g = w2.heap.size + 1 := by omega
    have n8 : ¬ w2.heap.size + 1 = g := by omega
    have hlI : (i : Int) < (fs.length : Int) := by omega
    have X0 : ∀ v v' o o', ((((w2.setCell ⟨g, i * 2, none⟩ v).setCell ⟨g, i * 2 + 1, none⟩ v').alloc o).alloc o').cell? ⟨w.heap.size + 1, 0, none⟩ = some (.slice none 0 0) := fun v v' o o' => (World.cell?_alloc_old _ o' ⟨w.heap.size + 1, 0, none⟩ (by simp; omega)).trans ((World.cell?_alloc_old _ o ⟨w.heap.size + 1, 0, none⟩ (by simp; omega)).trans ((World.cell?_of_block (a := ⟨w.heap.size + 1, 0, none⟩) ((Below.heap_setCell _ ⟨g, i * 2 + 1, none⟩ v' _ (by simp; omega)).trans (Below.heap_setCell w2 ⟨g, i * 2, none⟩ v _ (by simp; omega)))).trans r0))
    have XF : ∀ v v' o o', ((((w2.setCell ⟨g, i * 2, none⟩ v).setCell ⟨g, i * 2 + 1, none⟩ v').alloc o).alloc o').frozen? ⟨w.heap.size + 1, 0, none⟩ = false := fun v v' o o' => (World.frozen?_alloc_old _ o' ⟨w.heap.size + 1, 0, none⟩ (by simp; omega)).trans ((World.frozen?_alloc_old _ o ⟨w.heap.size + 1, 0, none⟩ (by simp; omega)).trans ((World.frozen?_of_block (a := ⟨w.heap.size + 1, 0, none⟩) ((Below.heap_setCell _ ⟨g, i * 2 + 1, none⟩ v' _ (by simp; omega)).trans (Below.heap_setCell w2 ⟨g, i * 2, none⟩ v _ (by simp; omega)))).trans rf))
    have E1 : ∀ v o o', (((w2.setCell ⟨g, i * 2, none⟩ v).alloc o).alloc o').cell? ⟨g, i * 2 + 1, none⟩ = some (.int .i64 f.syn) := fun v o o' => (World.cell?_alloc_old _ o' ⟨g, i * 2 + 1, none⟩ (by simp; omega)).trans ((World.cell?_alloc_old _ o ⟨g, i * 2 + 1, none⟩ (by simp; omega)).trans (by simp [go_sem, d1]))
    have EF : ∀ v o o' j, (((w2.setCell ⟨g, i * 2, none⟩ v).alloc o).alloc o').frozen? ⟨g, j, none⟩ = false := fun v o o' j => (World.frozen?_alloc_old _ o' ⟨g, j, none⟩ (by simp; omega)).trans ((World.frozen?_alloc_old _ o ⟨g, j, none⟩ (by simp; omega)).trans (by simp [go_sem, fz]))
    have L0 : ∀ v v' x o', ((((w2.setCell ⟨g, i * 2, none⟩ v).setCell ⟨g, i * 2 + 1, none⟩ v').alloc (.cells #[x] 28)).alloc o').cell? ⟨w2.heap.size, 0, none⟩ = some x := fun v v' x o' => by simp [go_sem]
    have hR2 := (hR.set (i * 2) (.string (f.bytes.extract 0 p))).set (i * 2 + 1) (.int .i64 (p : Int))
    have HE : Hid (∀ o o', Fls (((((w2.setCell ⟨g, i * 2, none⟩ (.string (f.bytes.extract 0 p))).setCell ⟨g, i * 2 + 1, none⟩ (.int .i64 (p : Int))).alloc o).alloc o').setCell ⟨w.heap.size + 1, 0, none⟩ (.slice (some ⟨g, 0, none⟩) fs.length c2)) (some ⟨g, 0, none⟩) (fs.set i ⟨f.bytes.extract 0 p, (p : Int)⟩) ∧ RowF (((((w2.setCell ⟨g, i * 2, none⟩ (.string (f.bytes.extract 0 p))).setCell ⟨g, i * 2 + 1, none⟩ (.int .i64 (p : Int))).alloc o).alloc o').setCell ⟨w.heap.size + 1, 0, none⟩ (.slice (some ⟨g, 0, none⟩) fs.length c2)) w.heap.size (some ⟨g, 0, none⟩) fs.length) := fun o o' => by
      have q := fls_end (f' := ⟨f.bytes.extract 0 p, (p : Int)⟩) (B := w.heap.size) (row_end (x := .slice (some ⟨g, 0, none⟩) fs.length c2) (r := w.heap.size + 1) (hR2.of_block (((Below.refl _ _).alloc (Nat.le_refl _) o).block g hR2.lt)) o' (by omega)) (by omega) hm (HTo.upd (by rw [if_neg (by omega), if_pos rfl]) (by rw [if_pos rfl]) (fun j h0 h1 => by rw [if_neg h1, if_neg h0])) hz0 hzz
      rw [List.length_set] at q
      exact q
    have HBB : Hid (∀ o o', Below w.heap.size w (((((w2.setCell ⟨g, i * 2, none⟩ (.string (f.bytes.extract 0 p))).setCell ⟨g, i * 2 + 1, none⟩ (.int .i64 (p : Int))).alloc o).alloc o').setCell ⟨w.heap.size + 1, 0, none⟩ (.slice (some ⟨g, 0, none⟩) fs.length c2))) := fun o o' =>
      ((((BB.setCell (by simp; omega) _).setCell (by simp; omega) _).alloc (by simp; omega) o).alloc (by simp; omega) o').setCell (by simp) _
    clear H2 R2 hR hR2 HTo e0 e1 d0 d1 fz r0 rf
    go_wp2
    refine bodyPost_ret (v := .agg #[.slice (some ⟨g, 0, none⟩) fs.length c2]) (by simp [results, Tryd.results20, go_sem, X0]) rfl ⟨some ⟨g, 0, none⟩, c2, rfl, (HE.out _ _).1, (HE.out _ _).2, HBB.out _ _⟩

end Go.Proofs.YtopndglgbollfaaDoor
