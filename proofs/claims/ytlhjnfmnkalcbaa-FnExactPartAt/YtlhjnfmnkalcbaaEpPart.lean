/-
  Where two logs part: impl.beginning, the first entries as an array.
-/
import Derived.Test.YtlhjnfmnkalcbaaFol
import Derived.Laws.CopyOwn
namespace Go.Proofs.Ytlhjnfmnkalcbaa
open Go.RowKit

def begZ (zs : List Int) (n i : Nat) : Int := if i < n then zA zs i else 0
def begC (zs : List Int) (n : Nat) : List Value := (List.range 30).map fun i => Value.int .i64 (begZ zs n i)

theorem Try.sizeOne : (Try.prog.info? 3).map (·.size) = some 1 := by kernel_rfl

def zer30 : List Value := List.replicate 30 (Value.int .i64 0)

theorem beg_splice {zs : List Int} {n : Nat} (hn : n ≤ zs.length) (hl : zs.length ≤ 30) : splice zer30 0 (zCells (zs.take n)) = begC zs n := by
  have hlen : (zCells (zs.take n)).length = n := by simp [zCells]; omega
  unfold splice begC zer30
  rw [hlen]
  apply List.ext_getElem?
  intro i
  rw [List.take_zero, List.nil_append, Nat.zero_add]
  by_cases h : i < n
  · rw [List.getElem?_append_left (by omega)]
    have e := zA_get (zs := zs) (k := i) (by omega)
    have h30 : i < 30 := by omega
    simp [zCells, List.getElem?_take_of_lt h, e, h30, begZ, h]
  · rw [List.getElem?_append_right (by omega), hlen, List.drop_replicate, List.getElem?_replicate]
    by_cases h30 : i < 30
    · rw [if_pos (by omega)]; simp [h30, begZ, h]
    · rw [if_neg (by omega), List.getElem?_eq_none (by simp; omega)]

theorem begC_len (zs : List Int) (n : Nat) : (begC zs n).length = 30 := by simp [begC]
theorem begC_one (zs : List Int) (n : Nat) : (begC zs n).toArray.all (·.oneCell') = true := by
  rw [Array.all_eq_true_iff_forall_mem]
  intro u hu
  simp only [begC, List.mem_toArray, List.mem_map] at hu
  obtain ⟨_, _, rfl⟩ := hu
  rfl
theorem Try.size30 : (Try.prog.info? 58).map (·.size) = some 30 := by kernel_rfl

set_option maxRecDepth 100000 in
set_option maxHeartbeats 2000000 in
theorem beginning_any (g : Nat) (zs : List Int) (n : Nat) (w : World) (hs : Ints w (some ⟨g, 0, none⟩) zs) (hn : n ≤ zs.length) (hl : zs.length ≤ 30) :
    Calls Try.prog 43 #[.slice (some ⟨g, 0, none⟩) zs.length zs.length, .int .i64 (n : Int)] w fun e w' => e = .returned (.agg (begC zs n).toArray) ∧ Below w.heap.size w w' := by
  have hb2 : ∀ x y, Below w.heap.size w ((w.alloc x).alloc y) := fun _ _ => ((Below.refl _ _).alloc (Nat.le_refl _) _).alloc (by simp) _
  have c1 : (n : Int) ≤ (zs.length : Int) := by omega
  obtain ⟨X, hX⟩ : ∃ X, X = zCells (zs.take n) := ⟨_, rfl⟩
  have hXl : X.length = n := by rw [hX]; simp [zCells]; omega
  have HSP : Hid (splice zer30 0 X = begC zs n) := by rw [hX]; exact beg_splice hn hl
  have HX1 : Hid (∀ v ∈ X, v.oneCell' = true) := by rw [hX]; exact zCells_one _
  have HXS : Hid (∀ u : World, Ints u (some ⟨g, 0, none⟩) zs → ∀ j v, X[j]? = some v → u.cell? ((⟨g, 0, none⟩ : Addr).add j) = some v) := by rw [hX]; exact fun u hu => news_take hu
  have HXL : Hid (X.length = n) := hXl
  clear hX hXl
  go_enter Try.func43, Try.ntmps43
  go_wp2_with fail
  go_region_law (refine step_copy_splice rfl (.tmp 6) (.tmp 9) 22 22 rfl 3 Try.underlying22 Try.sizeOne _ _ 30 30 n zs.length rfl rfl (w.heap.size + 1) 0 zer30 58 (by exact heap_alloc2_new w _ _) X (by rw [HXL.out]; exact (Nat.min_eq_left (by omega)).symm) (fun _ => ⟨rfl, _, rfl, HXS.out _ (hs.below (hb2 _ _).drew)⟩) (by rw [HXL.out]; show 0 + n ≤ 30; omega) HX1.out (w.heap.size + 1) _ (Below.refl _ _) (Nat.le_refl _) ?_; intro w4 HG4 HB4)
  all_goals
    have HG : Hid (w4.heap[w.heap.size + 1]? = some (.cells (begC zs n).toArray 58 (0, 0))) := by have := HG4.out; rwa [HSP.out] at this
    have HN : Hid (w4.heap[w.heap.size]? = some (.cells zer30.toArray 58 (0, 0))) := (HB4.block w.heap.size (Nat.lt_succ_self _)).trans (heap_alloc2_old w _ _)
    have BB : Below w.heap.size w w4 := ((hb2 _ _).drew).trans (HB4.mono (Nat.le_succ _))
    clear HG4 HB4 HXS HX1 HSP hs
    have h58 := Try.size30
    go_wp2_with (first
      | refine wpList_load_row rfl 58 _ rfl (w.heap.size + 1) rfl 58 (begC zs n).toArray (0, 0) _ HG.out Try.underlying58 rfl (by rw [Try.size30]; simp [begC_len]) ?_
      | refine wpList_store_row rfl 58 _ _ rfl w.heap.size (begC zs n).toArray rfl rfl 58 zer30.toArray HN.out (by rw [Try.size30]; simp [begC_len]) (by simp [begC_len, zer30]) (begC_one _ _) ?_)
    exact bodyPost_ret (v := .agg (begC zs n).toArray) (results_cell_row Try.results43 _ _ w.heap.size 58 _ (0, 0) _ rfl (setRow_heap w4 w.heap.size _ _ _ _ HN.out) Try.underlying58 rfl (by rw [Try.size30]; simp [begC_len])) rfl ⟨rfl, below_setRow BB (Nat.le_refl _) _⟩

end Go.Proofs.Ytlhjnfmnkalcbaa
