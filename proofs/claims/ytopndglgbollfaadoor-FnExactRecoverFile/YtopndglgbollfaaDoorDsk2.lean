/-
  Disks compared, marked and looked at again by the laws: the contracts of eqFile, eqFileS, eqDisk, markFileS, heldFileS, markDisk, heldDisk.
-/
import Derived.Test.YtopndglgbollfaaDoorDsk
import Derived.Test.YtopndglgbollfaaDoorMark
namespace Go.Proofs.YtopndglgbollfaaDoor
open Go.RowKit

set_option maxHeartbeats 1000000 in
theorem eqFile_same (f : Fl) (w : World) :
    Calls Tryd.prog 44 #[.agg #[.string f.bytes, .int .i64 f.syn], .agg #[.string f.bytes, .int .i64 f.syn]] w fun r w' => r = .returned (.bool true) ∧ Below w.heap.size w w' := by
  have hb : ∀ x y, Below w.heap.size w ((w.alloc x).alloc y) := fun _ _ => ((Below.refl _ _).alloc (Nat.le_refl _) _).alloc (by simp) _
  have hne : (!f.bytes.toList == f.bytes.toList) = false := by simp
  go_enter Tryd.func44, Tryd.ntmps44
  go_wp2
  go_ret
  exact ⟨rfl, hb _ _⟩

set_option maxHeartbeats 1000000 in
theorem eqFileS_same (a a2 : Option Addr) (c c2 : Nat) (fs : List Fl) (w : World) (hx : Fls w a fs) (hy : Fls w a2 fs) (hl : fs.length ≤ maxLen) :
    Calls Tryd.prog 26 #[.slice a fs.length c, .slice a2 fs.length c2] w fun e w' => e = .returned (.bool true) ∧ Below w.heap.size w w' := by
  unfold maxLen at hl
  go_enter Tryd.func26, Tryd.ntmps26
  go_wp2
  go_loopw [5] (fun i wr => ∃ k : Nat, k ≤ fs.length ∧ i = .int .i64 k ∧ Below w.heap.size w wr) (fun i _ => fs.length - (intOf i).toNat)
  case atStart => exact ⟨0, Nat.zero_le _, rfl, Below.refl _ _⟩
  case round =>
    obtain ⟨k, hk, rfl, hB⟩ := hrel
    by_cases hlt : k < fs.length
    · obtain ⟨b, hkb⟩ := getFl hlt
      obtain ⟨kb, ob, rfl, c0, c1, -⟩ := (hx.below hB) k b hkb
      obtain ⟨kb2, ob2, rfl, d0, d1, -⟩ := (hy.below hB) k b hkb
      clear hx hy hkb
      go_wp2
      go_region_with (go_at_call 44; refine (eqFile_same _ _).mono ?_; rintro r w1 ⟨rfl, hB1⟩)
      all_goals
        go_wp2
        go_roundw
        case rel => exact ⟨k + 1, by omega, by go_num, hB.drew.trans (hB1.mono (by simpa using hB.size))⟩
        case measure => simp [intOf]; omega
    · go_wp2
      go_ret
      exact ⟨rfl, hB⟩

set_option maxHeartbeats 1000000 in
theorem eqDisk_same (a a2 : Option Addr) (c c2 : Nat) (fs : List Fl) (w : World) (hx : Fls w a fs) (hy : Fls w a2 fs) (hl : fs.length ≤ maxLen) :
    Calls Tryd.prog 9 #[.agg #[.slice a fs.length c], .agg #[.slice a2 fs.length c2]] w fun e w' => e = .returned (.bool true) ∧ Below w.heap.size w w' := by
  have hb : ∀ x y, Below w.heap.size w ((w.alloc x).alloc y) := fun _ _ => ((Below.refl _ _).alloc (Nat.le_refl _) _).alloc (by simp) _
  go_enter Tryd.func9, Tryd.ntmps9
  go_wp2_with fail
  refine (eqFileS_same _ _ _ _ fs _ (hx.below (hb _ _)) (hy.below (hb _ _)) hl).mono ?_
  rintro r w1 ⟨rfl, hB1⟩
  have hBB := (hb _ _).trans (hB1.mono (hb _ _).size)
  clear hB1
  go_wp2
  go_ret
  exact ⟨rfl, hBB⟩

/-- n marked files from k on. -/
def markFs (k n : Nat) : List Fl := (List.range n).map fun i => ⟨markOf (k + 2 * i), ((k + 2 * i + 1 : Nat) : Int)⟩

theorem markFs_length (k n : Nat) : (markFs k n).length = n := by simp [markFs]
theorem markFs_get {k n i : Nat} (h : i < n) : (markFs k n)[i]? = some ⟨markOf (k + 2 * i), ((k + 2 * i + 1 : Nat) : Int)⟩ := by simp [markFs, h]

set_option maxRecDepth 100000 in
set_option maxHeartbeats 1000000 in
theorem markFileS_any (a : Option Addr) (c n B k : Nat) (w : World) (h : RowF w B a n) (h1 : 1 ≤ k) (h2 : k + 2 * n ≤ 1000000000) (hBw : B ≤ w.heap.size) :
    Calls Tryd.prog 28 #[.slice a n c, .int .i64 k] w fun r w' => r = .returned (.int .i64 ((k + 2 * n : Nat) : Int)) ∧ Fls w' a (markFs k n) ∧ RowF w' B a n ∧ Below B w w' ∧ ∀ b, b < w.heap.size → ¬ InB a n b → w'.heap[b]? = w.heap[b]? := by
  by_cases h0 : n = 0
  · subst h0
    go_enter Tryd.func28, Tryd.ntmps28
    go_wp2
    go_loopw [1, 5] (fun c i wr => c = .int .i64 (k : Int) ∧ i = .int .i64 0 ∧ w = wr) (fun _ _ _ => 0)
    case atStart => exact ⟨rfl, rfl, rfl⟩
    case round =>
      obtain ⟨rfl, rfl, rfl⟩ := hrel
      go_wp2
      go_ret
      exact ⟨ret_int (by simp), (fun i s hi => by simp [markFs] at hi), .inl rfl, Below.refl _ _, fun _ _ _ => rfl⟩
  · obtain ⟨g, m, f, rfl, hg, hm, hR⟩ := h.resolve_left h0
    go_enter Tryd.func28, Tryd.ntmps28
    go_wp2
    go_loopw [1, 5] (fun c i wr => ∃ j : Nat, j ≤ n ∧ c = .int .i64 ((k + 2 * j : Nat) : Int) ∧ i = .int .i64 (j : Int) ∧ (∃ f', wr.rowIs g 45 m f' ∧ ∀ q, q < j → f' (q * 2) = .string (markOf (k + 2 * q)) ∧ f' (q * 2 + 1) = .int .i64 ((k + 2 * q + 1 : Nat) : Int) ∧ (markOf (k + 2 * q)).size ≤ 1000000001) ∧ Below B w wr ∧ ∀ b, b < w.heap.size → b ≠ g → wr.heap[b]? = w.heap[b]?) (fun _ i _ => n - (intOf i).toNat)
    case atStart => exact ⟨0, Nat.zero_le _, rfl, rfl, ⟨f, hR, fun q hq => absurd hq (Nat.not_lt_zero _)⟩, Below.refl _ _, fun _ _ _ => rfl⟩
    case round =>
      clear hR
      obtain ⟨j, hj, rfl, rfl, ⟨f', hR, hq⟩, hB, hO⟩ := hrel
      have HQ : Hid (∀ q, q < j → f' (q * 2) = .string (markOf (k + 2 * q)) ∧ f' (q * 2 + 1) = .int .i64 ((k + 2 * q + 1 : Nat) : Int) ∧ (markOf (k + 2 * q)).size ≤ 1000000001) := hq
      have HO : Hid (∀ b, b < w.heap.size → b ≠ g → wr.heap[b]? = w.heap[b]?) := hO
      clear hq hO
      by_cases hlt : j < n
      · have hBz := hB.size
        go_wp2_with fail
        refine (markText_any (k + 2 * j) _ (by omega) (by omega)).mono ?_
        rintro r w1 ⟨rfl, hz, hB1⟩
        have hR1 := hR.of_block (hB1.block _ hR.lt)
        have c0 := hR1.cell (i := j * 2) (by omega)
        have c1 := hR1.cell (i := j * 2 + 1) (by omega)
        have f0 := hR1.frozen
        have hR2 := (hR1.set (j * 2) (.string (markOf (k + 2 * j)))).set (j * 2 + 1) (.int .i64 ((k + 2 * j + 1 : Nat) : Int))
        have hBn : Below B w ((w1.setCell ⟨g, j * 2, none⟩ (.string (markOf (k + 2 * j)))).setCell ⟨g, j * 2 + 1, none⟩ (.int .i64 ((k + 2 * j + 1 : Nat) : Int))) := ((hB.trans (hB1.mono (Nat.le_trans hBw hBz))).setCell hg _).setCell hg _
        have HN : Hid (∀ b, b < w.heap.size → b ≠ g → ((w1.setCell ⟨g, j * 2, none⟩ (.string (markOf (k + 2 * j)))).setCell ⟨g, j * 2 + 1, none⟩ (.int .i64 ((k + 2 * j + 1 : Nat) : Int))).heap[b]? = w.heap[b]?) := fun b hb hne => by
          rw [Below.heap_setCell _ ⟨g, j * 2 + 1, none⟩ _ b (by simpa using hne), Below.heap_setCell w1 ⟨g, j * 2, none⟩ _ b (by simpa using hne), hB1.block b (by omega), HO.out b hb hne]
        have HZ : Hid ((markOf (k + 2 * j)).size ≤ 1000000001) := hz
        clear hR hR1 hB hB1 HO hz
        go_wp2
        go_roundw
        case rel =>
          refine ⟨j + 1, by omega, by go_num, by go_num, ⟨_, hR2, fun q hq' => ?_⟩, hBn, HN.out⟩
          by_cases e : q = j
          · subst e
            refine ⟨?_, ?_, HZ.out⟩
            · rw [if_neg (by omega), if_pos rfl]
            · rw [if_pos rfl]
          · obtain ⟨g0, g1, g2⟩ := HQ.out q (by omega)
            refine ⟨?_, ?_, g2⟩
            · rw [if_neg (by omega), if_neg (by omega)]; exact g0
            · rw [if_neg (by omega), if_neg (by omega)]; exact g1
        case measure => simp [intOf]; omega
      · obtain rfl : j = n := by omega
        go_wp2
        go_ret
        refine ⟨rfl, fun i s hi => ?_, .inr ⟨g, m, f', rfl, hg, hm, hR⟩, hB, fun b hb hne => ?_⟩
        · have hi' : i < j := by have := (List.getElem?_eq_some_iff.1 hi).1; simpa [markFs_length] using this
          rw [markFs_get hi'] at hi
          simp only [Option.some.injEq] at hi
          subst hi
          obtain ⟨g0, g1, g2⟩ := HQ.out i hi'
          refine ⟨g, 0, rfl, ?_, ?_, by unfold maxLen; simp only; omega⟩
          · rw [Nat.zero_add, hR.cell (by omega), g0]
          · rw [Nat.zero_add, hR.cell (by omega), g1]
        · by_cases e : b = g
          · subst e
            exact absurd ⟨by omega, 0, none, rfl⟩ hne
          · exact HO.out b hb e

set_option maxRecDepth 100000 in
set_option maxHeartbeats 1000000 in
theorem heldFileS_any (a : Option Addr) (c n k : Nat) (w : World) (h : Fls w a (markFs k n)) (h1 : 1 ≤ k) (h2 : k + 2 * n ≤ 1000000000) :
    Calls Tryd.prog 30 #[.slice a n c, .int .i64 k] w fun r w' => r = .returned (.int .i64 ((k + 2 * n : Nat) : Int)) ∧ Below w.heap.size w w' := by
  go_enter Tryd.func30, Tryd.ntmps30
  go_wp2
  go_loopw [1, 5] (fun c i wr => ∃ j : Nat, j ≤ n ∧ c = .int .i64 ((k + 2 * j : Nat) : Int) ∧ i = .int .i64 (j : Int) ∧ Below w.heap.size w wr) (fun _ i _ => n - (intOf i).toNat)
  case atStart => exact ⟨0, Nat.zero_le _, rfl, rfl, Below.refl _ _⟩
  case round =>
    obtain ⟨j, hj, rfl, rfl, hB⟩ := hrel
    by_cases hlt : j < n
    · obtain ⟨b, off, rfl, hc, hd, hz⟩ := (h.below hB) j _ (markFs_get hlt)
      obtain ⟨mk, hmk⟩ : ∃ mk, markOf (k + 2 * j) = mk := ⟨_, rfl⟩
      have HM : Hid (markOf (k + 2 * j) = mk) := hmk
      simp only [hmk] at hc hz
      unfold maxLen at hz
      clear hmk h
      have hne : (!mk.toList == mk.toList) = false := by simp
      have hlc := lt_of_cell hc
      go_wp2
      go_region_with (go_at_call 46; refine (markText_any (k + 2 * j) _ (by omega) (by omega)).mono ?_; rintro r w1 ⟨hr, hz1, hB1⟩; rw [HM.out] at hr hz1; subst hr; have d0 := (hB1.cell (p := ⟨b, off + j * 2, none⟩) (by simpa using hlc)).trans hc; have d1 := (hB1.cell (p := ⟨b, off + j * 2 + 1, none⟩) (by simpa using hlc)).trans hd)
      all_goals
        have hBn := hB.drew.trans (hB1.mono (by simpa using hB.size))
        clear hB hB1
        go_wp2
        go_roundw
        case rel => exact ⟨j + 1, by omega, by go_num, by go_num, hBn⟩
        case measure => simp [intOf]; omega
    · obtain rfl : j = n := by omega
      go_wp2
      go_ret
      exact ⟨rfl, hB⟩

set_option maxHeartbeats 1000000 in
theorem markDisk_any (a : Option Addr) (c n B k : Nat) (w : World) (h : RowF w B a n) (h1 : 1 ≤ k) (h2 : k + 2 * n ≤ 1000000000) (hBw : B ≤ w.heap.size) :
    Calls Tryd.prog 11 #[.agg #[.slice a n c], .int .i64 k] w fun r w' => r = .returned (.int .i64 ((k + 2 * n : Nat) : Int)) ∧ Fls w' a (markFs k n) ∧ RowF w' B a n ∧ Below B w w' ∧ ∀ b, b < w.heap.size → ¬ InB a n b → w'.heap[b]? = w.heap[b]? := by
  have hb0 : ∀ x, Below w.heap.size w (w.alloc x) := fun _ => (Below.refl _ _).alloc (Nat.le_refl _) _
  go_enter Tryd.func11, Tryd.ntmps11
  go_wp2_with fail
  refine (markFileS_any _ _ n B k _ (h.below (hb0 _)) h1 h2 (Nat.le_trans hBw (hb0 _).size)).mono ?_
  rintro r w1 ⟨rfl, hS, hF, hB1, hO⟩
  have HO : Hid (∀ b, b < w.heap.size → ¬ InB a n b → w1.heap[b]? = w.heap[b]?) := fun b hb hne => by
    rw [hO b (by simp; omega) hne, (hb0 _).block b hb]
  have hBB := ((hb0 _).mono hBw).trans hB1
  clear hO
  go_wp2
  go_ret
  exact ⟨rfl, hS, hF, hBB, HO.out⟩

set_option maxHeartbeats 1000000 in
theorem heldDisk_any (a : Option Addr) (c n k : Nat) (w : World) (h : Fls w a (markFs k n)) (h1 : 1 ≤ k) (h2 : k + 2 * n ≤ 1000000000) :
    Calls Tryd.prog 13 #[.agg #[.slice a n c], .int .i64 k] w fun r w' => r = .returned (.int .i64 ((k + 2 * n : Nat) : Int)) ∧ Below w.heap.size w w' := by
  have hb0 : ∀ x, Below w.heap.size w (w.alloc x) := fun _ => (Below.refl _ _).alloc (Nat.le_refl _) _
  go_enter Tryd.func13, Tryd.ntmps13
  go_wp2_with fail
  refine (heldFileS_any _ _ n k _ (h.below (hb0 _)) h1 h2).mono ?_
  rintro r w1 ⟨rfl, hB1⟩
  have hBB := (hb0 _).trans (hB1.mono (hb0 _).size)
  have hp : ¬ (((k + 2 * n : Nat) : Int) < 0) := by omega
  go_wp2
  go_ret
  exact ⟨rfl, hBB⟩

end Go.Proofs.YtopndglgbollfaaDoor
