/-
  The members of a number as a list, and a list without one: the contracts of spec.l6List and spec.l6Without.
-/
import Derived.Test.YtdibddkhjefmlaaDoorQList
namespace Go.Proofs.YtdibddkhjefmlaaDoor
open Go.RowKit

/-- The members below k. -/
def preM (n k : Nat) : List Int := ((List.range k).filter fun i => n.testBit i).map fun (i : Nat) => ((i : Nat) : Int)
theorem preM_succ (n k : Nat) : preM n (k + 1) = preM n k ++ (if n.testBit k then [(k : Int)] else []) := by
  unfold preM
  rw [List.range_succ, List.filter_append, List.map_append]
  by_cases h : n.testBit k <;> simp [h]
theorem preM_all {n k : Nat} (hk : k ≤ 7) (h : n < 2 ^ k) : preM n k = mi n := by
  have e : ∀ d, k + d ≤ 7 → preM n (k + d) = preM n k := by
    intro d
    induction d with
    | zero => intro _; rfl
    | succ d ih =>
      intro hd
      rw [← Nat.add_assoc, preM_succ, ih (by omega)]
      have : n.testBit (k + d) = false := Nat.testBit_lt_two_pow (Nat.lt_of_lt_of_le h (Nat.pow_le_pow_right (by omega) (by omega)))
      simp [this]
  have := e (7 - k) (by omega)
  rw [show k + (7 - k) = 7 by omega] at this
  rw [← this]; rfl
theorem preM_len (n : Nat) : ∀ k, (preM n k).length ≤ k
  | 0 => by simp [preM]
  | k + 1 => by
    have := preM_len n k
    rw [preM_succ, List.length_append]
    split <;> simp <;> omega

theorem i64_and1 (a : Nat) (ha : a < 131072) : bits .and .i64 (a : Int) 1 = ((a % 2 : Nat) : Int) := by
  have e : a &&& 1 = a % 2 := Nat.and_one_is_mod a
  show IntKind.i64.wrap ((BitVec.ofInt 64 (a : Int) &&& BitVec.ofInt 64 ((1 : Nat) : Int)).toNat : Int) = _
  rw [BitVec.toNat_and, ofInt_u64 a (by omega), ofInt_u64 1 (by omega), IntKind.wrap_i64, e]
  omega

theorem shr_pos : ∀ n, n < 128 → ∀ k, k ≤ 7 → (n / 2 ^ k = 0 ↔ n < 2 ^ k) := by decide +kernel
theorem shr_bit : ∀ n, n < 128 → ∀ k, k < 7 → (n / 2 ^ k % 2 = 1 ↔ n.testBit k = true) := by decide +kernel

set_option maxRecDepth 100000 in
set_option maxHeartbeats 2000000 in
theorem l6List_any (n : Nat) (h : n < 128) (w : World) :
    Calls Tryd.prog 31 #[.int .i64 (n : Int)] w fun r w' => ZAns w (mi n) r w' := by
  obtain ⟨i0, hi, hz0, hz1, hz2⟩ := info_parts Tryd.infoInt
  go_enter Tryd.func31, Tryd.ntmps31
  go_wp2
  go_loopw [3, 4] (fun v l wr => ∃ k : Nat, k ≤ 7 ∧ l = .int .i64 (k : Int) ∧ ZSt w.heap.size w wr v (preM n k)) (fun _ l _ => 7 - (intOf l).toNat)
  case atStart => exact ⟨0, by omega, rfl, World.ownsRow_nil _ _ _ _, Below.refl _ _⟩
  case round =>
    obtain ⟨k, hk, rfl, hst⟩ := hrel
    have hlen := preM_len n k
    obtain ⟨av, cv, rfl, hcv, hcm⟩ := ownsZ_cap hst.own
    rcases (by omega : k = 0 ∨ k = 1 ∨ k = 2 ∨ k = 3 ∨ k = 4 ∨ k = 5 ∨ k = 6 ∨ k = 7) with rfl | rfl | rfl | rfl | rfl | rfl | rfl | rfl
    · by_cases hp : n < 1
      · have q1 : ¬ (0 < (n : Int)) := by omega
        have q2 : ¬ (0 < n / 1) := by omega
        have q3 : ¬ (0 < n) := by omega
        have HE : Hid (preM n 0 = mi n) := preM_all (by omega) hp
        go_wp2
        go_ret
        rw [← HE.out]
        exact zans_of hst
      have q1 : 0 < (n : Int) := by omega
      have q2 : 0 < n / 1 := by omega
      have q3 : 0 < n := by omega
      have hst2 : ∀ o, ZSt w.heap.size w (wr.alloc o) (.slice av (preM n 0).length cv) (preM n 0) := fun o => zst_below hst ((Below.refl _ _).alloc (Nat.le_refl _) o)
      have hsz := hst.bel.size
      have hb1 : bits .and .i64 ((n : Int)) 1 = ((n / 1 % 2 : Nat) : Int) := by
        rw [← i64_and1 (n / 1) (by omega)]; simp
      by_cases hbit : n / 1 % 2 = 1
      · have q4 : (bits .and .i64 ((n : Int)) 1 == 1) = true := by rw [hb1, hbit]; rfl
        have HN : Hid (preM n 1 = preM n 0 ++ [(0 : Int)]) := by show _ = _; rw [preM_succ, (shr_bit n h 0 (by omega)).1 hbit]; rfl
        clear hb1 hbit hst
        go_wp2_with (at_builtin; refine wpList_append_lies _ rfl _ _ 31 rfl w.heap.size 3 i0 _ 1 8 Tryd.underlying31 hi hz0 hz1 hz2 rfl (by decide) (.slice av (preM n 0).length cv) (preM n 0).length (zCells (preM n 0)) rfl (hst2 _).own ⟨wr.heap.size, 0, none⟩ 1 1 (zCells [(0 : Int)]) rfl rfl ?c10 ?c20 (by omega) ?c30 ?c40 ?c50 (wr.heap.size + 1) ?c60 ?_)
        case c10 => exact World.news_of_block (cs := #[.int .i64 (0 : Int)]) (t := 3) (fr := (0, 0)) (by first | exact (heap_alloc_new wr _) | simpa using (heap_alloc_new wr _))
        case c20 => simp [zCells, Value.oneCell']
        case c30 => unfold maxLen; omega
        case c40 => omega
        case c50 => simp; omega
        case c60 => simp
        intro g4 cap4 w4 hown4 hgrow hat4 _
        have hst4 := zst_step (q := (0 : Int)) (hst2 _) (Nat.le_refl _) hgrow hown4
        have HS4 : Hid (ZSt w.heap.size w w4 (.slice (some ⟨g4, 0, none⟩) ((preM n 0).length + 1) cap4) (preM n 0 ++ [(0 : Int)])) := hst4
        clear hst4 hown4 hgrow hat4 hst2
        go_wp2_with fail
        go_roundw
        case rel => exact ⟨1, by omega, rfl, by rw [HN.out]; exact HS4.out⟩
        case measure => simp [intOf]
      · have q4 : (bits .and .i64 ((n : Int)) 1 == 1) = false := by rw [hb1, show n / 1 % 2 = 0 by omega]; rfl
        have HN : Hid (preM n 1 = preM n 0) := by
          show _ = _
          rw [preM_succ]
          have : n.testBit 0 = false := by rw [Bool.eq_false_iff]; exact fun g => hbit ((shr_bit n h 0 (by omega)).2 g)
          simp [this]
        have HS : Hid (ZSt w.heap.size w wr (.slice av (preM n 0).length cv) (preM n 0)) := hst
        clear hb1 hbit hst hst2
        go_wp2
        go_roundw
        case rel => exact ⟨1, by omega, rfl, by rw [HN.out]; exact HS.out⟩
        case measure => simp [intOf]
    · by_cases hp : n < 2
      · have q1 : ¬ (0 < (n : Int) / 2) := by omega
        have q2 : ¬ (0 < n / 2) := by omega
        have HE : Hid (preM n 1 = mi n) := preM_all (by omega) hp
        go_wp2
        go_ret
        rw [← HE.out]
        exact zans_of hst
      have q1 : 0 < (n : Int) / 2 := by omega
      have q2 : 0 < n / 2 := by omega
      have hst2 : ∀ o, ZSt w.heap.size w (wr.alloc o) (.slice av (preM n 1).length cv) (preM n 1) := fun o => zst_below hst ((Below.refl _ _).alloc (Nat.le_refl _) o)
      have hsz := hst.bel.size
      have hb1 : bits .and .i64 ((n : Int) / 2) 1 = ((n / 2 % 2 : Nat) : Int) := by
        rw [← i64_and1 (n / 2) (by omega)]; simp
      by_cases hbit : n / 2 % 2 = 1
      · have q4 : (bits .and .i64 ((n : Int) / 2) 1 == 1) = true := by rw [hb1, hbit]; rfl
        have HN : Hid (preM n 2 = preM n 1 ++ [(1 : Int)]) := by show _ = _; rw [preM_succ, (shr_bit n h 1 (by omega)).1 hbit]; rfl
        clear hb1 hbit hst
        go_wp2_with (at_builtin; refine wpList_append_lies _ rfl _ _ 31 rfl w.heap.size 3 i0 _ 1 8 Tryd.underlying31 hi hz0 hz1 hz2 rfl (by decide) (.slice av (preM n 1).length cv) (preM n 1).length (zCells (preM n 1)) rfl (hst2 _).own ⟨wr.heap.size, 0, none⟩ 1 1 (zCells [(1 : Int)]) rfl rfl ?c11 ?c21 (by omega) ?c31 ?c41 ?c51 (wr.heap.size + 1) ?c61 ?_)
        case c11 => exact World.news_of_block (cs := #[.int .i64 (1 : Int)]) (t := 3) (fr := (0, 0)) (by first | exact (heap_alloc_new wr _) | simpa using (heap_alloc_new wr _))
        case c21 => simp [zCells, Value.oneCell']
        case c31 => unfold maxLen; omega
        case c41 => omega
        case c51 => simp; omega
        case c61 => simp
        intro g4 cap4 w4 hown4 hgrow hat4 _
        have hst4 := zst_step (q := (1 : Int)) (hst2 _) (Nat.le_refl _) hgrow hown4
        have HS4 : Hid (ZSt w.heap.size w w4 (.slice (some ⟨g4, 0, none⟩) ((preM n 1).length + 1) cap4) (preM n 1 ++ [(1 : Int)])) := hst4
        clear hst4 hown4 hgrow hat4 hst2
        go_wp2_with fail
        go_roundw
        case rel => exact ⟨2, by omega, rfl, by rw [HN.out]; exact HS4.out⟩
        case measure => simp [intOf]
      · have q4 : (bits .and .i64 ((n : Int) / 2) 1 == 1) = false := by rw [hb1, show n / 2 % 2 = 0 by omega]; rfl
        have HN : Hid (preM n 2 = preM n 1) := by
          show _ = _
          rw [preM_succ]
          have : n.testBit 1 = false := by rw [Bool.eq_false_iff]; exact fun g => hbit ((shr_bit n h 1 (by omega)).2 g)
          simp [this]
        have HS : Hid (ZSt w.heap.size w wr (.slice av (preM n 1).length cv) (preM n 1)) := hst
        clear hb1 hbit hst hst2
        go_wp2
        go_roundw
        case rel => exact ⟨2, by omega, rfl, by rw [HN.out]; exact HS.out⟩
        case measure => simp [intOf]
    · by_cases hp : n < 4
      · have q1 : ¬ (0 < (n : Int) / 4) := by omega
        have q2 : ¬ (0 < n / 4) := by omega
        have HE : Hid (preM n 2 = mi n) := preM_all (by omega) hp
        go_wp2
        go_ret
        rw [← HE.out]
        exact zans_of hst
      have q1 : 0 < (n : Int) / 4 := by omega
      have q2 : 0 < n / 4 := by omega
      have hst2 : ∀ o, ZSt w.heap.size w (wr.alloc o) (.slice av (preM n 2).length cv) (preM n 2) := fun o => zst_below hst ((Below.refl _ _).alloc (Nat.le_refl _) o)
      have hsz := hst.bel.size
      have hb1 : bits .and .i64 ((n : Int) / 4) 1 = ((n / 4 % 2 : Nat) : Int) := by
        rw [← i64_and1 (n / 4) (by omega)]; simp
      by_cases hbit : n / 4 % 2 = 1
      · have q4 : (bits .and .i64 ((n : Int) / 4) 1 == 1) = true := by rw [hb1, hbit]; rfl
        have HN : Hid (preM n 3 = preM n 2 ++ [(2 : Int)]) := by show _ = _; rw [preM_succ, (shr_bit n h 2 (by omega)).1 hbit]; rfl
        clear hb1 hbit hst
        go_wp2_with (at_builtin; refine wpList_append_lies _ rfl _ _ 31 rfl w.heap.size 3 i0 _ 1 8 Tryd.underlying31 hi hz0 hz1 hz2 rfl (by decide) (.slice av (preM n 2).length cv) (preM n 2).length (zCells (preM n 2)) rfl (hst2 _).own ⟨wr.heap.size, 0, none⟩ 1 1 (zCells [(2 : Int)]) rfl rfl ?c12 ?c22 (by omega) ?c32 ?c42 ?c52 (wr.heap.size + 1) ?c62 ?_)
        case c12 => exact World.news_of_block (cs := #[.int .i64 (2 : Int)]) (t := 3) (fr := (0, 0)) (by first | exact (heap_alloc_new wr _) | simpa using (heap_alloc_new wr _))
        case c22 => simp [zCells, Value.oneCell']
        case c32 => unfold maxLen; omega
        case c42 => omega
        case c52 => simp; omega
        case c62 => simp
        intro g4 cap4 w4 hown4 hgrow hat4 _
        have hst4 := zst_step (q := (2 : Int)) (hst2 _) (Nat.le_refl _) hgrow hown4
        have HS4 : Hid (ZSt w.heap.size w w4 (.slice (some ⟨g4, 0, none⟩) ((preM n 2).length + 1) cap4) (preM n 2 ++ [(2 : Int)])) := hst4
        clear hst4 hown4 hgrow hat4 hst2
        go_wp2_with fail
        go_roundw
        case rel => exact ⟨3, by omega, rfl, by rw [HN.out]; exact HS4.out⟩
        case measure => simp [intOf]
      · have q4 : (bits .and .i64 ((n : Int) / 4) 1 == 1) = false := by rw [hb1, show n / 4 % 2 = 0 by omega]; rfl
        have HN : Hid (preM n 3 = preM n 2) := by
          show _ = _
          rw [preM_succ]
          have : n.testBit 2 = false := by rw [Bool.eq_false_iff]; exact fun g => hbit ((shr_bit n h 2 (by omega)).2 g)
          simp [this]
        have HS : Hid (ZSt w.heap.size w wr (.slice av (preM n 2).length cv) (preM n 2)) := hst
        clear hb1 hbit hst hst2
        go_wp2
        go_roundw
        case rel => exact ⟨3, by omega, rfl, by rw [HN.out]; exact HS.out⟩
        case measure => simp [intOf]
    · by_cases hp : n < 8
      · have q1 : ¬ (0 < (n : Int) / 8) := by omega
        have q2 : ¬ (0 < n / 8) := by omega
        have HE : Hid (preM n 3 = mi n) := preM_all (by omega) hp
        go_wp2
        go_ret
        rw [← HE.out]
        exact zans_of hst
      have q1 : 0 < (n : Int) / 8 := by omega
      have q2 : 0 < n / 8 := by omega
      have hst2 : ∀ o, ZSt w.heap.size w (wr.alloc o) (.slice av (preM n 3).length cv) (preM n 3) := fun o => zst_below hst ((Below.refl _ _).alloc (Nat.le_refl _) o)
      have hsz := hst.bel.size
      have hb1 : bits .and .i64 ((n : Int) / 8) 1 = ((n / 8 % 2 : Nat) : Int) := by
        rw [← i64_and1 (n / 8) (by omega)]; simp
      by_cases hbit : n / 8 % 2 = 1
      · have q4 : (bits .and .i64 ((n : Int) / 8) 1 == 1) = true := by rw [hb1, hbit]; rfl
        have HN : Hid (preM n 4 = preM n 3 ++ [(3 : Int)]) := by show _ = _; rw [preM_succ, (shr_bit n h 3 (by omega)).1 hbit]; rfl
        clear hb1 hbit hst
        go_wp2_with (at_builtin; refine wpList_append_lies _ rfl _ _ 31 rfl w.heap.size 3 i0 _ 1 8 Tryd.underlying31 hi hz0 hz1 hz2 rfl (by decide) (.slice av (preM n 3).length cv) (preM n 3).length (zCells (preM n 3)) rfl (hst2 _).own ⟨wr.heap.size, 0, none⟩ 1 1 (zCells [(3 : Int)]) rfl rfl ?c13 ?c23 (by omega) ?c33 ?c43 ?c53 (wr.heap.size + 1) ?c63 ?_)
        case c13 => exact World.news_of_block (cs := #[.int .i64 (3 : Int)]) (t := 3) (fr := (0, 0)) (by first | exact (heap_alloc_new wr _) | simpa using (heap_alloc_new wr _))
        case c23 => simp [zCells, Value.oneCell']
        case c33 => unfold maxLen; omega
        case c43 => omega
        case c53 => simp; omega
        case c63 => simp
        intro g4 cap4 w4 hown4 hgrow hat4 _
        have hst4 := zst_step (q := (3 : Int)) (hst2 _) (Nat.le_refl _) hgrow hown4
        have HS4 : Hid (ZSt w.heap.size w w4 (.slice (some ⟨g4, 0, none⟩) ((preM n 3).length + 1) cap4) (preM n 3 ++ [(3 : Int)])) := hst4
        clear hst4 hown4 hgrow hat4 hst2
        go_wp2_with fail
        go_roundw
        case rel => exact ⟨4, by omega, rfl, by rw [HN.out]; exact HS4.out⟩
        case measure => simp [intOf]
      · have q4 : (bits .and .i64 ((n : Int) / 8) 1 == 1) = false := by rw [hb1, show n / 8 % 2 = 0 by omega]; rfl
        have HN : Hid (preM n 4 = preM n 3) := by
          show _ = _
          rw [preM_succ]
          have : n.testBit 3 = false := by rw [Bool.eq_false_iff]; exact fun g => hbit ((shr_bit n h 3 (by omega)).2 g)
          simp [this]
        have HS : Hid (ZSt w.heap.size w wr (.slice av (preM n 3).length cv) (preM n 3)) := hst
        clear hb1 hbit hst hst2
        go_wp2
        go_roundw
        case rel => exact ⟨4, by omega, rfl, by rw [HN.out]; exact HS.out⟩
        case measure => simp [intOf]
    · by_cases hp : n < 16
      · have q1 : ¬ (0 < (n : Int) / 16) := by omega
        have q2 : ¬ (0 < n / 16) := by omega
        have HE : Hid (preM n 4 = mi n) := preM_all (by omega) hp
        go_wp2
        go_ret
        rw [← HE.out]
        exact zans_of hst
      have q1 : 0 < (n : Int) / 16 := by omega
      have q2 : 0 < n / 16 := by omega
      have hst2 : ∀ o, ZSt w.heap.size w (wr.alloc o) (.slice av (preM n 4).length cv) (preM n 4) := fun o => zst_below hst ((Below.refl _ _).alloc (Nat.le_refl _) o)
      have hsz := hst.bel.size
      have hb1 : bits .and .i64 ((n : Int) / 16) 1 = ((n / 16 % 2 : Nat) : Int) := by
        rw [← i64_and1 (n / 16) (by omega)]; simp
      by_cases hbit : n / 16 % 2 = 1
      · have q4 : (bits .and .i64 ((n : Int) / 16) 1 == 1) = true := by rw [hb1, hbit]; rfl
        have HN : Hid (preM n 5 = preM n 4 ++ [(4 : Int)]) := by show _ = _; rw [preM_succ, (shr_bit n h 4 (by omega)).1 hbit]; rfl
        clear hb1 hbit hst
        go_wp2_with (at_builtin; refine wpList_append_lies _ rfl _ _ 31 rfl w.heap.size 3 i0 _ 1 8 Tryd.underlying31 hi hz0 hz1 hz2 rfl (by decide) (.slice av (preM n 4).length cv) (preM n 4).length (zCells (preM n 4)) rfl (hst2 _).own ⟨wr.heap.size, 0, none⟩ 1 1 (zCells [(4 : Int)]) rfl rfl ?c14 ?c24 (by omega) ?c34 ?c44 ?c54 (wr.heap.size + 1) ?c64 ?_)
        case c14 => exact World.news_of_block (cs := #[.int .i64 (4 : Int)]) (t := 3) (fr := (0, 0)) (by first | exact (heap_alloc_new wr _) | simpa using (heap_alloc_new wr _))
        case c24 => simp [zCells, Value.oneCell']
        case c34 => unfold maxLen; omega
        case c44 => omega
        case c54 => simp; omega
        case c64 => simp
        intro g4 cap4 w4 hown4 hgrow hat4 _
        have hst4 := zst_step (q := (4 : Int)) (hst2 _) (Nat.le_refl _) hgrow hown4
        have HS4 : Hid (ZSt w.heap.size w w4 (.slice (some ⟨g4, 0, none⟩) ((preM n 4).length + 1) cap4) (preM n 4 ++ [(4 : Int)])) := hst4
        clear hst4 hown4 hgrow hat4 hst2
        go_wp2_with fail
        go_roundw
        case rel => exact ⟨5, by omega, rfl, by rw [HN.out]; exact HS4.out⟩
        case measure => simp [intOf]
      · have q4 : (bits .and .i64 ((n : Int) / 16) 1 == 1) = false := by rw [hb1, show n / 16 % 2 = 0 by omega]; rfl
        have HN : Hid (preM n 5 = preM n 4) := by
          show _ = _
          rw [preM_succ]
          have : n.testBit 4 = false := by rw [Bool.eq_false_iff]; exact fun g => hbit ((shr_bit n h 4 (by omega)).2 g)
          simp [this]
        have HS : Hid (ZSt w.heap.size w wr (.slice av (preM n 4).length cv) (preM n 4)) := hst
        clear hb1 hbit hst hst2
        go_wp2
        go_roundw
        case rel => exact ⟨5, by omega, rfl, by rw [HN.out]; exact HS.out⟩
        case measure => simp [intOf]
    · by_cases hp : n < 32
      · have q1 : ¬ (0 < (n : Int) / 32) := by omega
        have q2 : ¬ (0 < n / 32) := by omega
        have HE : Hid (preM n 5 = mi n) := preM_all (by omega) hp
        go_wp2
        go_ret
        rw [← HE.out]
        exact zans_of hst
      have q1 : 0 < (n : Int) / 32 := by omega
      have q2 : 0 < n / 32 := by omega
      have hst2 : ∀ o, ZSt w.heap.size w (wr.alloc o) (.slice av (preM n 5).length cv) (preM n 5) := fun o => zst_below hst ((Below.refl _ _).alloc (Nat.le_refl _) o)
      have hsz := hst.bel.size
      have hb1 : bits .and .i64 ((n : Int) / 32) 1 = ((n / 32 % 2 : Nat) : Int) := by
        rw [← i64_and1 (n / 32) (by omega)]; simp
      by_cases hbit : n / 32 % 2 = 1
      · have q4 : (bits .and .i64 ((n : Int) / 32) 1 == 1) = true := by rw [hb1, hbit]; rfl
        have HN : Hid (preM n 6 = preM n 5 ++ [(5 : Int)]) := by show _ = _; rw [preM_succ, (shr_bit n h 5 (by omega)).1 hbit]; rfl
        clear hb1 hbit hst
        go_wp2_with (at_builtin; refine wpList_append_lies _ rfl _ _ 31 rfl w.heap.size 3 i0 _ 1 8 Tryd.underlying31 hi hz0 hz1 hz2 rfl (by decide) (.slice av (preM n 5).length cv) (preM n 5).length (zCells (preM n 5)) rfl (hst2 _).own ⟨wr.heap.size, 0, none⟩ 1 1 (zCells [(5 : Int)]) rfl rfl ?c15 ?c25 (by omega) ?c35 ?c45 ?c55 (wr.heap.size + 1) ?c65 ?_)
        case c15 => exact World.news_of_block (cs := #[.int .i64 (5 : Int)]) (t := 3) (fr := (0, 0)) (by first | exact (heap_alloc_new wr _) | simpa using (heap_alloc_new wr _))
        case c25 => simp [zCells, Value.oneCell']
        case c35 => unfold maxLen; omega
        case c45 => omega
        case c55 => simp; omega
        case c65 => simp
        intro g4 cap4 w4 hown4 hgrow hat4 _
        have hst4 := zst_step (q := (5 : Int)) (hst2 _) (Nat.le_refl _) hgrow hown4
        have HS4 : Hid (ZSt w.heap.size w w4 (.slice (some ⟨g4, 0, none⟩) ((preM n 5).length + 1) cap4) (preM n 5 ++ [(5 : Int)])) := hst4
        clear hst4 hown4 hgrow hat4 hst2
        go_wp2_with fail
        go_roundw
        case rel => exact ⟨6, by omega, rfl, by rw [HN.out]; exact HS4.out⟩
        case measure => simp [intOf]
      · have q4 : (bits .and .i64 ((n : Int) / 32) 1 == 1) = false := by rw [hb1, show n / 32 % 2 = 0 by omega]; rfl
        have HN : Hid (preM n 6 = preM n 5) := by
          show _ = _
          rw [preM_succ]
          have : n.testBit 5 = false := by rw [Bool.eq_false_iff]; exact fun g => hbit ((shr_bit n h 5 (by omega)).2 g)
          simp [this]
        have HS : Hid (ZSt w.heap.size w wr (.slice av (preM n 5).length cv) (preM n 5)) := hst
        clear hb1 hbit hst hst2
        go_wp2
        go_roundw
        case rel => exact ⟨6, by omega, rfl, by rw [HN.out]; exact HS.out⟩
        case measure => simp [intOf]
    · by_cases hp : n < 64
      · have q1 : ¬ (0 < (n : Int) / 64) := by omega
        have q2 : ¬ (0 < n / 64) := by omega
        have HE : Hid (preM n 6 = mi n) := preM_all (by omega) hp
        go_wp2
        go_ret
        rw [← HE.out]
        exact zans_of hst
      have q1 : 0 < (n : Int) / 64 := by omega
      have q2 : 0 < n / 64 := by omega
      have hst2 : ∀ o, ZSt w.heap.size w (wr.alloc o) (.slice av (preM n 6).length cv) (preM n 6) := fun o => zst_below hst ((Below.refl _ _).alloc (Nat.le_refl _) o)
      have hsz := hst.bel.size
      have hb1 : bits .and .i64 ((n : Int) / 64) 1 = ((n / 64 % 2 : Nat) : Int) := by
        rw [← i64_and1 (n / 64) (by omega)]; simp
      by_cases hbit : n / 64 % 2 = 1
      · have q4 : (bits .and .i64 ((n : Int) / 64) 1 == 1) = true := by rw [hb1, hbit]; rfl
        have HN : Hid (preM n 7 = preM n 6 ++ [(6 : Int)]) := by show _ = _; rw [preM_succ, (shr_bit n h 6 (by omega)).1 hbit]; rfl
        clear hb1 hbit hst
        go_wp2_with (at_builtin; refine wpList_append_lies _ rfl _ _ 31 rfl w.heap.size 3 i0 _ 1 8 Tryd.underlying31 hi hz0 hz1 hz2 rfl (by decide) (.slice av (preM n 6).length cv) (preM n 6).length (zCells (preM n 6)) rfl (hst2 _).own ⟨wr.heap.size, 0, none⟩ 1 1 (zCells [(6 : Int)]) rfl rfl ?c16 ?c26 (by omega) ?c36 ?c46 ?c56 (wr.heap.size + 1) ?c66 ?_)
        case c16 => exact World.news_of_block (cs := #[.int .i64 (6 : Int)]) (t := 3) (fr := (0, 0)) (by first | exact (heap_alloc_new wr _) | simpa using (heap_alloc_new wr _))
        case c26 => simp [zCells, Value.oneCell']
        case c36 => unfold maxLen; omega
        case c46 => omega
        case c56 => simp; omega
        case c66 => simp
        intro g4 cap4 w4 hown4 hgrow hat4 _
        have hst4 := zst_step (q := (6 : Int)) (hst2 _) (Nat.le_refl _) hgrow hown4
        have HS4 : Hid (ZSt w.heap.size w w4 (.slice (some ⟨g4, 0, none⟩) ((preM n 6).length + 1) cap4) (preM n 6 ++ [(6 : Int)])) := hst4
        clear hst4 hown4 hgrow hat4 hst2
        go_wp2_with fail
        go_roundw
        case rel => exact ⟨7, by omega, rfl, by rw [HN.out]; exact HS4.out⟩
        case measure => simp [intOf]
      · have q4 : (bits .and .i64 ((n : Int) / 64) 1 == 1) = false := by rw [hb1, show n / 64 % 2 = 0 by omega]; rfl
        have HN : Hid (preM n 7 = preM n 6) := by
          show _ = _
          rw [preM_succ]
          have : n.testBit 6 = false := by rw [Bool.eq_false_iff]; exact fun g => hbit ((shr_bit n h 6 (by omega)).2 g)
          simp [this]
        have HS : Hid (ZSt w.heap.size w wr (.slice av (preM n 6).length cv) (preM n 6)) := hst
        clear hb1 hbit hst hst2
        go_wp2
        go_roundw
        case rel => exact ⟨7, by omega, rfl, by rw [HN.out]; exact HS.out⟩
        case measure => simp [intOf]
    · by_cases hp : n < 128
      · have q1 : ¬ (0 < (n : Int) / 128) := by omega
        have q2 : ¬ (0 < n / 128) := by omega
        have HE : Hid (preM n 7 = mi n) := preM_all (by omega) hp
        go_wp2
        go_ret
        rw [← HE.out]
        exact zans_of hst
      · exact absurd h (by omega)

-- behind l6List
theorem news_takeO {w : World} {g o n : Nat} {zs : List Int} (h : Ints w (some ⟨g, o, none⟩) zs) : ∀ j u, (zCells (zs.take n))[j]? = some u → w.cell? ((⟨g, o, none⟩ : Addr).add j) = some u := fun j u hu => by
  simp only [zCells, List.getElem?_map, Option.map_eq_some_iff] at hu
  obtain ⟨z, hz, rfl⟩ := hu
  have hlt := (List.getElem?_eq_some_iff.1 hz).1
  rw [List.length_take] at hlt
  rw [List.getElem?_take_of_lt (by omega)] at hz
  obtain ⟨b, o', e, hc⟩ := h j z hz
  simp only [Option.some.injEq, Addr.mk.injEq, and_true] at e
  obtain ⟨rfl, rfl⟩ := e
  rw [Go.WideShapes.add_plain]; exact hc

theorem news_dropO {w : World} {g o n : Nat} {zs : List Int} (h : Ints w (some ⟨g, o, none⟩) zs) : ∀ j u, (zCells (zs.drop n))[j]? = some u → w.cell? ((⟨g, o + n, none⟩ : Addr).add j) = some u := fun j u hu => by
  simp only [zCells, List.getElem?_map, Option.map_eq_some_iff, List.getElem?_drop] at hu
  obtain ⟨z, hz, rfl⟩ := hu
  obtain ⟨b, o', e, hc⟩ := h (n + j) z hz
  simp only [Option.some.injEq, Addr.mk.injEq, and_true] at e
  obtain ⟨rfl, rfl⟩ := e
  rw [Go.WideShapes.add_plain, Nat.add_assoc]; exact hc

set_option maxRecDepth 100000 in
set_option maxHeartbeats 2000000 in
theorem l6Without_any (a : Option Addr) (c i : Nat) (zs : List Int) (w : World) (hs : Ints w a zs) (hi0 : i < zs.length) (hl : zs.length ≤ 100) (hc : zs.length ≤ c) (hcm : c ≤ maxLen) :
    Calls Tryd.prog 33 #[.slice a zs.length c, .int .i64 (i : Int)] w fun r w' => ZAns w (zs.eraseIdx i) r w' := by
  unfold maxLen at hcm
  obtain ⟨i0, hi, hz0, hz1, hz2⟩ := info_parts Tryd.infoInt
  obtain ⟨g, o, rfl, -⟩ := hs i _ (zA_get hi0)
  have ha : ∀ (u : World) ob, Below u.heap.size u (u.alloc ob) := fun u ob => (Below.refl _ _).alloc (Nat.le_refl _) ob
  have c1 : (i : Int) ≤ (c : Int) := by omega
  have c2 : (i : Int) + 1 ≤ (zs.length : Int) := by omega
  have c3 : ((i : Int) + 1).toNat = i + 1 := by omega
  have hw2 : (w.alloc (.cells #[] 3)).ownsRow w.heap.size 3 1 (.slice (some ⟨w.heap.size, 0, none⟩) 0 0) 0 [] := World.ownsRow_made w #[] 0 (Nat.le_refl _) (by unfold maxLen; omega) rfl
  go_enter Tryd.func33, Tryd.ntmps33
  go_wp2_with (at_builtin; refine wpList_append_own _ rfl _ _ 31 rfl w.heap.size 3 i0 (.int .i64 0) 1 8 Tryd.underlying31 hi hz0 hz1 hz2 rfl (by decide) _ 0 [] rfl hw2 ⟨g, o, none⟩ i c (zCells (zs.take i)) rfl ?d1 (news_takeO (hs.below (ha _ _))) (zCells_one _) ?d3 ?d4 ?d5 ?_)
  case d1 => rw [zCells_len, List.length_take]; omega
  case d3 => unfold maxLen; omega
  case d4 => omega
  case d5 => simp
  intro v4 w4 hown4 hgrow4 _
  have B4 : Below w.heap.size w w4 := (ha w _).grown hgrow4 (by simp) (fun k hk => by simp [Value.ownBlock] at hk; omega)
  try simp only [Nat.zero_add, List.nil_append] at hown4
  obtain ⟨a4, c4, rfl⟩ := ownsZ_form hown4
  have HL4 := hs.below B4
  have hl4 := B4.size
  clear hgrow4 hw2 hs
  have HE : Hid (zs.eraseIdx i = zs.take i ++ zs.drop (i + 1)) := List.eraseIdx_eq_take_drop_succ zs i
  have e2 : (zs.take i ++ zs.drop (i + 1)).length = zs.length - 1 := by rw [List.length_append, List.length_take, List.length_drop]; omega
  have E2 : Hid ((zs.take i ++ zs.drop (i + 1)).length = zs.length - 1) := e2
  clear e2
  by_cases hcc : c = i + 1
  · have hz : Hid (zs.length = i + 1) := by show _ = _; omega
    have hcc2 : i + 1 = c := hcc.symm
    clear hcc
    go_wp2_with (at_builtin; refine wpList_append_own _ rfl _ _ 31 rfl w.heap.size 3 i0 (.int .i64 0) 1 8 Tryd.underlying31 hi hz0 hz1 hz2 rfl (by decide) _ i (zCells (zs.take i)) rfl hown4 ⟨g, o, none⟩ 0 0 [] rfl rfl (fun j u h => by simp at h) (fun u h => by simp at h) ?e3 ?e4 ?e5 ?_)
    case e3 => have := hz.out; unfold maxLen; omega
    case e4 => have := hz.out; omega
    case e5 => omega
    intro v5 w5 hown5 hgrow5 _
    have B5 := B4.grown hgrow5 (by omega) (fun k hk => (hown4.lt k hk).1)
    have HF : Hid (w5.ownsRow w.heap.size 3 1 v5 (zs.eraseIdx i).length (zCells (zs.eraseIdx i))) := by
      show w5.ownsRow _ _ _ _ _ _
      have e1 : zs.drop (i + 1) = [] := List.drop_eq_nil_of_le (by have := hz.out; omega)
      have e3 : (zs.take i).length = i := by rw [List.length_take]; omega
      rw [HE.out, e1, List.append_nil, e3]
      simpa using hown5
    clear hown5 hgrow5 hown4 HL4
    go_wp2
    go_ret
    exact zans_of ⟨HF.out, B5⟩
  · have q1 : ¬ (c = i + 1) := hcc
    clear hcc
    go_wp2_with (at_builtin; refine wpList_append_own _ rfl _ _ 31 rfl w.heap.size 3 i0 (.int .i64 0) 1 8 Tryd.underlying31 hi hz0 hz1 hz2 rfl (by decide) _ i (zCells (zs.take i)) rfl hown4 ⟨g, o + (i + 1), none⟩ (zs.length - (i + 1)) (c - (i + 1)) (zCells (zs.drop (i + 1))) rfl ?f1 (news_dropO HL4) (zCells_one _) ?f3 ?f4 ?f5 ?_)
    case f1 => rw [zCells_len, List.length_drop]
    case f3 => unfold maxLen; omega
    case f4 => omega
    case f5 => omega
    intro v5 w5 hown5 hgrow5 _
    have B5 := B4.grown hgrow5 (by omega) (fun k hk => (hown4.lt k hk).1)
    have HF : Hid (w5.ownsRow w.heap.size 3 1 v5 (zs.eraseIdx i).length (zCells (zs.eraseIdx i))) := by
      show w5.ownsRow _ _ _ _ _ _
      have e3 : i + (zs.length - (i + 1)) = zs.length - 1 := by omega
      rw [HE.out, E2.out, zCells_app]
      rw [e3] at hown5
      exact hown5
    clear hown5 hgrow5 hown4 HL4
    go_wp2
    go_ret
    exact zans_of ⟨HF.out, B5⟩

end Go.Proofs.YtdibddkhjefmlaaDoor
