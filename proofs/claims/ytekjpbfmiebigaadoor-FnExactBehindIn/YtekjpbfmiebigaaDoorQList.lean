/-
  The members of a set as a list, the program's side: the contracts of bits.TrailingZeros64, bits.TrailingZeros, (impl.setOf).list, without, weightOf.
-/
import Derived.Test.YtekjpbfmiebigaaDoorQImpl
import Derived.Test.YtekjpbfmiebigaaDoorZCell
namespace Go.Proofs.YtekjpbfmiebigaaDoor
open Go.RowKit

/-- The table of math/bits holds what its initialiser lays, at the places that numbers below 128 come to. -/
def TabQ (w : World) : Prop := w.cell? ⟨2, 0, none⟩ = some (.int .u8 0) ∧ w.cell? ⟨2, 1, none⟩ = some (.int .u8 1) ∧ w.cell? ⟨2, 3, none⟩ = some (.int .u8 2) ∧ w.cell? ⟨2, 7, none⟩ = some (.int .u8 3) ∧ w.cell? ⟨2, 15, none⟩ = some (.int .u8 4) ∧ w.cell? ⟨2, 31, none⟩ = some (.int .u8 5) ∧ w.cell? ⟨2, 63, none⟩ = some (.int .u8 6)

theorem TabQ.lt {w : World} (h : TabQ w) : 2 < w.heap.size := lt_of_cell h.1
theorem TabQ.below {w w' : World} {B : Nat} (h : TabQ w) (hb : Below B w w') (hB : 2 < B) : TabQ w' := by
  obtain ⟨h0, h1, h2, h3, h4, h5, h6⟩ := h
  exact ⟨(hb.cell (p := ⟨2, 0, none⟩) hB).trans h0, (hb.cell (p := ⟨2, 1, none⟩) hB).trans h1, (hb.cell (p := ⟨2, 3, none⟩) hB).trans h2, (hb.cell (p := ⟨2, 7, none⟩) hB).trans h3, (hb.cell (p := ⟨2, 15, none⟩) hB).trans h4, (hb.cell (p := ⟨2, 31, none⟩) hB).trans h5, (hb.cell (p := ⟨2, 63, none⟩) hB).trans h6⟩
theorem TabQ.bel {w w' : World} (h : TabQ w) (hb : Below w.heap.size w w') : TabQ w' := h.below hb h.lt

theorem low_bit : ∀ n, n < 128 → n ≠ 0 → n &&& (18446744073709551616 - n) = 2 ^ tz7 n := by decide +kernel
theorem neg_and {n : Nat} (h : n < 128) (h0 : n ≠ 0) : bits .and .u64 (n : Int) (IntKind.u64.wrap (-(n : Int))) = ((2 ^ tz7 n : Nat) : Int) := by
  have e : IntKind.u64.wrap (-(n : Int)) = ((18446744073709551616 - n : Nat) : Int) := by
    simp [IntKind.wrap, IntKind.bits, IntKind.signed]; omega
  rw [e, u64_and_nat _ _ (by omega) (by omega), low_bit n h h0]

set_option maxHeartbeats 1000000 in
theorem tz64_any (n : Nat) (h : n < 128) (h0 : n ≠ 0) (w : World) (hT : TabQ w) :
    Calls Tryd.prog 64 #[.int .u64 (n : Int)] w fun r w' => r = .returned (.int .i64 (tz7 n : Int)) ∧ w' = w := by
  have hna := neg_and h h0
  have hne : ((n : Int) == 0) = false := by simp; omega
  have ht := (mem7_step n h h0).2.2
  obtain ⟨t0, t1, t2, t3, t4, t5, t6⟩ := hT
  generalize tz7 n = t at *
  rcases (by omega : t = 0 ∨ t = 1 ∨ t = 2 ∨ t = 3 ∨ t = 4 ∨ t = 5 ∨ t = 6) with rfl | rfl | rfl | rfl | rfl | rfl | rfl
  all_goals
    go_enter Tryd.func64, Tryd.ntmps64
    go_wp2
    go_ret
    exact ⟨rfl, rfl⟩

theorem tz_any (n : Nat) (h : n < 128) (h0 : n ≠ 0) (w : World) (hT : TabQ w) :
    Calls Tryd.prog 46 #[.int .u64 (n : Int)] w fun r w' => r = .returned (.int .i64 (tz7 n : Int)) ∧ w' = w := by
  go_enter Tryd.func46, Tryd.ntmps46
  go_wp2_with (go_at_call 64; refine (tz64_any _ h h0 _ hT).mono ?_; rintro r w1 ⟨rfl, rfl⟩)
  go_ret
  exact ⟨rfl, rfl⟩

/-- The members as numbers. -/
def mi (n : Nat) : List Int := (mem7 n).map fun (i : Nat) => ((i : Nat) : Int)
theorem mi_step {n : Nat} (h : n < 128) (h0 : n ≠ 0) : mi n = (tz7 n : Int) :: mi (n &&& (n - 1)) := by
  unfold mi; rw [(mem7_step n h h0).1]; rfl
theorem mi_zero : mi 0 = [] := by simp [mi, mem7_zero]
theorem mi_len (n : Nat) : (mi n).length ≤ 7 := by unfold mi; rw [List.length_map]; exact mem7_len n

/-- While numbers are gathered. -/
structure ZSt (B : Nat) (w wr : World) (v : Value) (zs : List Int) : Prop where
  own : wr.ownsRow B 3 1 v zs.length (zCells zs)
  bel : Below w.heap.size w wr

theorem zst_below {B : Nat} {w wr u : World} {v : Value} {zs : List Int} (h : ZSt B w wr v zs) (hb : Below wr.heap.size wr u) : ZSt B w u v zs :=
  ⟨ownsZ_below h.own hb, h.bel.trans (hb.mono h.bel.size)⟩

theorem zst_step {B : Nat} {w u w6 : World} {v : Value} {zs : List Int} {q : Int} {g2 cap2 : Nat} (h : ZSt B w u v zs) (hB : w.heap.size ≤ B)
    (hgrow : u.grownBy w6 v.ownBlock) (hown : w6.ownsRow B 3 1 (.slice (some ⟨g2, 0, none⟩) (zs.length + 1) cap2) (zs.length + 1) (zCells zs ++ zCells [q])) :
    ZSt B w w6 (.slice (some ⟨g2, 0, none⟩) (zs.length + 1) cap2) (zs ++ [q]) := by
  refine ⟨?_, h.bel.grown hgrow (by have := h.bel.size; omega) (fun k hk => Nat.le_trans hB (h.own.lt k hk).1)⟩
  rw [zCells_app, List.length_append, List.length_singleton]
  exact hown

/-- What a function answers that gathers numbers. -/
def ZAns (w : World) (zs : List Int) (r : Ending) (w' : World) : Prop :=
  ∃ a c, r = .returned (.slice a zs.length c) ∧ zs.length ≤ c ∧ c ≤ maxLen ∧ w'.ownsRow w.heap.size 3 1 (.slice a zs.length c) zs.length (zCells zs) ∧ Below w.heap.size w w'

theorem ownsZ_cap {w : World} {B : Nat} {e : TypeId} {size : Nat} {v : Value} {n : Nat} {xs : List Value} (h : w.ownsRow B e size v n xs) : ∃ a cap, v = .slice a n cap ∧ n ≤ cap ∧ cap ≤ maxLen := by
  obtain ⟨-, ⟨rfl, rfl⟩ | ⟨g, cap, cur, rfl, -, -, hc, hm, -⟩⟩ := h
  · exact ⟨none, 0, rfl, Nat.le_refl _, by unfold maxLen; omega⟩
  · exact ⟨_, cap, rfl, hc, hm⟩

theorem zans_of {w wr : World} {v : Value} {zs : List Int} (h : ZSt w.heap.size w wr v zs) : ZAns w zs (.returned v) wr := by
  obtain ⟨a, c, rfl, h1, h2⟩ := ownsZ_cap h.own
  exact ⟨a, c, rfl, h1, h2, h.own, h.bel⟩

theorem ZAns.ints {w : World} {zs : List Int} {r : Ending} {w' : World} (h : ZAns w zs r w') : ∃ a c, r = .returned (.slice a zs.length c) ∧ zs.length ≤ c ∧ c ≤ maxLen ∧ Ints w' a zs ∧ RowI w' w.heap.size a zs.length ∧ Below w.heap.size w w' := by
  obtain ⟨a, c, h1, h2, h3, h4, h5⟩ := h
  exact ⟨a, c, h1, h2, h3, (ints_of_owns h4).1, (ints_of_owns h4).2, h5⟩

theorem sub_and {m : Nat} (h : m < 128) (h0 : m ≠ 0) : bits .and .u64 (m : Int) ((m : Int) - 1) = ((m &&& (m - 1) : Nat) : Int) := by
  rw [show (m : Int) - 1 = ((m - 1 : Nat) : Int) by omega]
  exact b_and h (by omega)
theorem sub_wrap {m : Nat} (h : m < 128) (h0 : m ≠ 0) : IntKind.u64.wrap ((m : Int) - 1) = (m : Int) - 1 := by
  simp [IntKind.wrap, IntKind.bits, IntKind.signed]; omega

set_option maxRecDepth 100000 in
set_option maxHeartbeats 2000000 in
theorem list_any (n : Nat) (h : n < 128) (w : World) (hT : TabQ w) :
    Calls Tryd.prog 21 #[setV n] w fun r w' => ZAns w (mi n) r w' := by
  obtain ⟨i0, hi, hz0, hz1, hz2⟩ := info_parts Tryd.infoInt
  have hb0 : ∀ o, Below w.heap.size w (w.alloc o) := fun o => (Below.refl _ _).alloc (Nat.le_refl _) o
  go_enter Tryd.func21, Tryd.ntmps21
  go_wp2
  go_loopw [3, 4] (fun v l wr => ∃ m : Nat, ∃ zs : List Int, m < 128 ∧ l = .int .u64 (m : Int) ∧ zs ++ mi m = mi n ∧ ZSt w.heap.size w wr v zs) (fun _ l _ => (intOf l).toNat)
  case atStart => exact ⟨n, [], h, rfl, rfl, World.ownsRow_nil _ _ _ _, hb0 _⟩
  case round =>
    clear hb0
    obtain ⟨m, zs, hm, rfl, hz, hst⟩ := hrel
    have hT1 := hT.bel hst.bel
    have hlen : zs.length ≤ 7 := by have := mi_len n; have := congrArg List.length hz; simp at this; omega
    by_cases h0 : m = 0
    · subst h0
      have HZ : Hid (zs = mi n) := by show _ = _; rw [← hz, mi_zero, List.append_nil]
      clear hz hT hT1
      go_wp2
      go_ret
      rw [← HZ.out]
      exact zans_of hst
    · have hne : ((m : Int) != 0) = true := by simp; omega
      obtain ⟨-, hlt, ht⟩ := mem7_step m hm h0
      have HZ : Hid ((zs ++ [(tz7 m : Int)]) ++ mi (m &&& (m - 1)) = mi n) := by show _ = _; rw [← hz, mi_step hm h0]; simp
      have hsa := sub_and hm h0
      have hsw := sub_wrap hm h0
      have HLT : Hid (m &&& (m - 1) < m) := hlt
      obtain ⟨av, cv, rfl, hcv, hcm⟩ := ownsZ_cap hst.own
      have hst2 : ∀ o, ZSt w.heap.size w (wr.alloc o) (.slice av zs.length cv) zs := fun o => zst_below hst ((Below.refl _ _).alloc (Nat.le_refl _) o)
      have hsz := hst.bel.size
      have HM0 : Hid (m ≠ 0) := h0
      clear hz hT hlt
      go_wp2_with fail
      refine (tz_any m hm h0 _ hT1).mono ?_
      rintro r w1 ⟨rfl, hw1⟩
      rw [hw1]
      clear hw1 w1 h0 hT1
      go_wp2_with (at_builtin; refine wpList_append_lies _ rfl _ _ 22 rfl w.heap.size 3 i0 _ 1 8 Tryd.underlying22 hi hz0 hz1 hz2 rfl (by decide) (.slice av zs.length cv) zs.length (zCells zs) rfl (hst2 _).own ⟨wr.heap.size, 0, none⟩ 1 1 (zCells [(tz7 m : Int)]) rfl rfl ?c1 ?c2 (by omega) ?c3 ?c4 ?c5 (wr.heap.size + 1) ?c6 ?_)
      case c1 => exact World.news_of_block (cs := #[.int .i64 (tz7 m : Int)]) (t := 3) (fr := (0, 0)) (by first | exact (heap_alloc_new wr _) | simpa using (heap_alloc_new wr _))
      case c2 => simp [zCells, Value.oneCell']
      case c3 => unfold maxLen; omega
      case c4 => omega
      case c5 => simp; omega
      case c6 => simp
      intro g4 cap4 w4 hown4 hgrow hat4 _
      have hst4 := zst_step (q := (tz7 m : Int)) (hst2 _) (Nat.le_refl _) hgrow hown4
      have HS4 : Hid (ZSt w.heap.size w w4 (.slice (some ⟨g4, 0, none⟩) (zs.length + 1) cap4) (zs ++ [(tz7 m : Int)])) := hst4
      clear hst4 hown4 hgrow hat4 hst2 hst
      go_wp2_with fail
      go_roundw
      case rel => exact ⟨m &&& (m - 1), zs ++ [(tz7 m : Int)], by have := HLT.out; omega, rfl, HZ.out, HS4.out⟩
      case measure => have := HLT.out; simp [intOf]; omega

/-- The weights of some members together. -/
def sumTo (zs ks : List Int) : Nat → Int
  | 0 => 0
  | k + 1 => sumTo zs ks k + zA zs (zA ks k).toNat
def sumW (zs ks : List Int) : Int := sumTo zs ks ks.length

end Go.Proofs.YtekjpbfmiebigaaDoor
