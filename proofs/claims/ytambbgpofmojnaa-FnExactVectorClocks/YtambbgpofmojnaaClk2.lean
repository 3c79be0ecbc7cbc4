/-
  Two clocks joined, the program's side: the contracts of impl.pairsOf, impl.joinedClock.
-/
import Derived.Test.YtambbgpofmojnaaClk
namespace Go.Proofs.Ytambbgpofmojnaa
open Go.RowKit

/-- One pair as the program holds it. -/
abbrev cAt (xs ys : List Int) (i : Nat) : Value := .complex .f64 (floatOfInt .f64 (zA xs i)) (floatOfInt .f64 (zA ys i))
def cTo (xs ys : List Int) (k : Nat) : List Value := (List.range k).map (cAt xs ys)
theorem cTo_len (xs ys : List Int) (k : Nat) : (cTo xs ys k).length = k := by simp [cTo]
theorem cTo_succ (xs ys : List Int) (k : Nat) : cTo xs ys (k + 1) = cTo xs ys k ++ [cAt xs ys k] := by
  unfold cTo; rw [List.range_succ, List.map_append]; rfl

theorem Try.infoComplex : (Try.prog.info? 71).map (fun i => (i.zero, i.size, i.bytes)) = some (some (.complex .f64 0 0), 1, 16) := by kernel_rfl

/-- What pairsOf answers. -/
def CAns (w : World) (xs ys : List Int) (k : Nat) (v : Value) (w' : World) : Prop := w'.ownsRow w.heap.size 71 1 v k (cTo xs ys k) ∧ Below w.heap.size w w'

theorem cans_below {w w1 w' : World} {xs ys : List Int} {k : Nat} {v : Value} (h : CAns w xs ys k v w1) (hb : Below w1.heap.size w1 w') : CAns w xs ys k v w' :=
  ⟨ownsZ_below h.1 hb, h.2.trans (hb.mono h.2.size)⟩

theorem cans_cell {w w1 : World} {xs ys : List Int} {k i : Nat} {a : Option Addr} {c : Nat} (h : CAns w xs ys k (.slice a k c) w1) (hi : i < k) : ∃ g, a = some ⟨g, 0, none⟩ ∧ w1.cell? ⟨g, i, none⟩ = some (cAt xs ys i) := by
  obtain ⟨g, cap, f, hv, hg, hn, hR, hxs⟩ := row_of_ownsZ h.1 (by omega)
  simp only [Value.slice.injEq] at hv
  obtain ⟨rfl, -, rfl⟩ := hv
  refine ⟨g, rfl, ?_⟩
  rw [Nat.mul_one] at hR
  have e := hxs i (by omega)
  rw [cTo, List.getElem?_map, List.getElem?_range (by omega)] at e
  rw [hR.cell (by omega)]
  exact e.symm

theorem conv_if (n : Int) (w : World) : (convert 3 75 (.int .i64 n)).run Try.prog w = .ok (.float .f64 (floatOfInt .f64 n)) w :=
  run_convert_int_float w _ _ _ _ n (by rw [Try.underlying3]; rfl) Try.underlying75

theorem conv_fi {b n : Nat} (h : FNum b n) (hn : n < 2 ^ 53) (w : World) : (convert 75 3 (.float .f64 b)).run Try.prog w = .ok (.int .i64 (n : Int)) w :=
  run_convert_float_int w _ _ _ _ b n (by rw [Try.underlying75]; rfl) Try.underlying3 (h.toInt hn)

set_option maxRecDepth 100000 in
set_option maxHeartbeats 2000000 in
theorem pairsOf_any (a a2 : Option Addr) (c c2 n : Nat) (xs ys : List Int) (w : World) (hx : Ints w a xs) (hy : Ints w a2 ys) (h1 : xs.length = n) (h2 : ys.length = n) (hn : n ≤ 100) :
    Calls Try.prog 52 #[.slice a n c, .slice a2 n c2] w fun r w' => ∃ v, r = .returned v ∧ CAns w xs ys n v w' := by
  obtain ⟨i0, hi, hz0, hz1, hz2⟩ := info_partsC Try.infoComplex
  have HX : Hid (xs.length = n) := h1
  have HY : Hid (ys.length = n) := h2
  clear h1 h2
  go_enter Try.func52, Try.ntmps52
  go_wp2_with (at_make; refine wpList_make_own _ rfl _ _ 72 rfl w.heap.size 71 i0 (.complex .f64 0 0) 1 Try.underlying72 hi hz0 hz1 .i64 .i64 (n : Int) n rfl rfl rfl ?k1 ?k2 ?k3 ?_)
  case k1 => rw [hz2]; omega
  case k2 => unfold maxLen; omega
  case k3 => exact Nat.le_refl _
  intro wm hown hgr
  have hst0 : CAns w xs ys 0 (.slice (some ⟨w.heap.size, 0, none⟩) 0 n) wm := ⟨hown, (Below.refl _ _).grown hgr (Nat.le_refl _) (fun k hk => by cases hk)⟩
  clear hown hgr
  go_wp2
  go_loopw [5, 12] (fun v i wr => ∃ k : Nat, k ≤ n ∧ i = .int .i64 k ∧ CAns w xs ys k v wr) (fun _ i _ => n - (intOf i).toNat)
  case atStart => exact ⟨0, Nat.zero_le _, rfl, hst0⟩
  case round =>
    clear hst0
    obtain ⟨k, hk, rfl, hst⟩ := hrel
    by_cases hlt : k < n
    · obtain ⟨b, off, rfl, d0⟩ := (hx.below hst.2) k _ (zA_get (by have := HX.out; omega))
      obtain ⟨b2, off2, rfl, d1⟩ := (hy.below hst.2) k _ (zA_get (by have := HY.out; omega))
      obtain ⟨av, cv, rfl, -, -⟩ := ownsZ_cap hst.1
      have hst2 : ∀ o, CAns w xs ys k (.slice av k cv) (wr.drew.alloc o) := fun o => cans_below hst ((Below.refl _ _).drew.alloc (Nat.le_refl _) o)
      have hsz := hst.2.size
      have hvb : ∀ q, (Value.slice av k cv).ownBlock = some q → w.heap.size ≤ q := fun q hq => (hst.1.lt q hq).1
      have hcx := conv_if (zA xs k)
      have hcy := conv_if (zA ys k)
      have hk0 : (0 : Int) ≤ (k : Int) := by omega
      have hk1 : (k : Int) < (n : Int) := by omega
      have HS : Hid (cTo xs ys (k + 1) = cTo xs ys k ++ [cAt xs ys k]) := cTo_succ xs ys k
      clear hx hy hst
      go_wp2_with fail
      go_region_law (first | (refine step_append_lies _ (by rfl) _ _ _ (by rfl) w.heap.size 71 i0 _ 1 16 Try.underlying72 hi hz0 hz1 hz2 rfl (by omega) (.slice av k cv) k (cTo xs ys k) (by rfl) (hst2 _).1 ⟨wr.heap.size, 0, none⟩ 1 1 [cAt xs ys k] (by rfl) (by rfl) (World.news_of_block (cs := #[cAt xs ys k]) (t := 71) (fr := (0, 0)) (heap_alloc_new wr.drew _)) (by simp [Value.oneCell']) (by omega) (by unfold maxLen; omega) (by omega) (by simp; omega) (wr.heap.size + 1) (by simp) ?_; intro g2 cap2 w6 hown6 hgrow6 hat6 hlt6))
      all_goals
        have HS6 : Hid (CAns w xs ys (k + 1) (.slice (some ⟨g2, 0, none⟩) (k + 1) cap2) w6) := ⟨by rw [HS.out]; exact hown6, (hst2 _).2.grown hgrow6 (by simp; omega) hvb⟩
        clear hown6 hgrow6 hat6 hlt6 hst2 hvb
        go_wp2_with fail
        go_roundw
        case rel => exact ⟨k + 1, by omega, by go_num, HS6.out⟩
        case measure => simp [intOf]; omega
    · obtain rfl : k = n := by omega
      go_wp2
      go_ret
      exact ⟨_, rfl, hst⟩

/-- The greater ones, place by place. -/
def joinL (xs ys : List Int) (k : Nat) : List Int := (List.range k).map fun i => max (zA xs i) (zA ys i)
theorem joinL_len (xs ys : List Int) (k : Nat) : (joinL xs ys k).length = k := by simp [joinL]
theorem joinL_succ (xs ys : List Int) (k : Nat) : joinL xs ys (k + 1) = joinL xs ys k ++ [max (zA xs k) (zA ys k)] := by
  unfold joinL; rw [List.range_succ, List.map_append]; rfl
theorem joinL_at {xs ys : List Int} {k i : Nat} (h : i < k) : zA (joinL xs ys k) i = max (zA xs i) (zA ys i) :=
  zA_some (by rw [joinL, List.getElem?_map, List.getElem?_range h]; rfl)

set_option maxRecDepth 100000 in
set_option maxHeartbeats 2000000 in
theorem joinedClock_any (a a2 : Option Addr) (c c2 n : Nat) (xs ys : List Int) (w : World) (hx : Ints w a xs) (hy : Ints w a2 ys) (h1 : xs.length = n) (h2 : ys.length = n) (hn : n ≤ 100) (hox : okC xs n) (hoy : okC ys n) :
    Calls Try.prog 42 #[.slice a n c, .slice a2 n c2] w fun r w' => ∃ v, r = .returned v ∧ ZSt w.heap.size w w' v (joinL xs ys n) := by
  obtain ⟨i0, hi, hz0, hz1, hz2⟩ := info_partsC Try.infoInt
  have HX : Hid (xs.length = n) := h1
  have HY : Hid (ys.length = n) := h2
  clear h1 h2
  go_enter Try.func42, Try.ntmps42
  go_wp2_with (at_make; refine wpList_make_own _ rfl _ _ 29 rfl w.heap.size 3 i0 (.int .i64 0) 1 Try.underlying29 hi hz0 hz1 .i64 .i64 (n : Int) n rfl rfl rfl ?k1 ?k2 ?k3 ?_)
  case k1 => rw [hz2]; omega
  case k2 => unfold maxLen; omega
  case k3 => exact Nat.le_refl _
  intro wm hown hgr
  have hst0 : ZSt w.heap.size w wm (.slice (some ⟨w.heap.size, 0, none⟩) 0 n) [] := ⟨hown, (Below.refl _ _).grown hgr (Nat.le_refl _) (fun k hk => by cases hk)⟩
  clear hown hgr
  go_wp2_with fail
  refine (pairsOf_any a a2 c c2 n xs ys _ (hx.below hst0.bel) (hy.below hst0.bel) HX.out HY.out hn).mono ?_
  rintro r w1 ⟨v, rfl, hC⟩
  obtain ⟨av, cv, rfl, -, -⟩ := ownsZ_cap hC.1
  have hst1 := zst_below hst0 hC.2
  have hlt0 := (hst0.own.lt w.heap.size rfl).2
  have HC0 : Hid (∀ i, i < n → ∃ g, av = some ⟨g, 0, none⟩ ∧ w1.cell? ⟨g, i, none⟩ = some (cAt xs ys i) ∧ (Value.slice (some ⟨w.heap.size, 0, none⟩) 0 n).ownBlock ≠ some g) := fun i hin => by
    obtain ⟨g, rfl, hc⟩ := cans_cell hC hin
    refine ⟨g, rfl, hc, fun e => ?_⟩
    have h1 := (hC.1.lt g rfl).1
    simp only [Value.ownBlock, Option.some.injEq] at e
    omega
  clear hst0 hx hy hC hlt0
  go_wp2
  go_loopw [5, 15] (fun v i wr => ∃ k : Nat, k ≤ n ∧ i = .int .i64 k ∧ (∀ i, i < n → ∃ g, av = some ⟨g, 0, none⟩ ∧ wr.cell? ⟨g, i, none⟩ = some (cAt xs ys i) ∧ v.ownBlock ≠ some g) ∧ ZSt w.heap.size w wr v (joinL xs ys k)) (fun _ i _ => n - (intOf i).toNat)
  case atStart => exact ⟨0, Nat.zero_le _, rfl, HC0.out, hst1⟩
  case round =>
    clear hst1 HC0
    obtain ⟨k, hk, rfl, hcc, hst⟩ := hrel
    by_cases hlt : k < n
    · obtain ⟨g, rfl, hc0, -⟩ := hcc k hlt
      obtain ⟨p, hp⟩ := Int.eq_ofNat_of_zero_le (hox k hlt).1
      obtain ⟨q, hq⟩ := Int.eq_ofNat_of_zero_le (hoy k hlt).1
      have hp1 : p < 2 ^ 53 := by have := (hox k hlt).2; omega
      have hq1 : q < 2 ^ 53 := by have := (hoy k hlt).2; omega
      have hm1 : (if p < q then q else p) < 2 ^ 53 := by split <;> omega
      have HN : Hid (joinL xs ys (k + 1) = joinL xs ys k ++ [(((if p < q then q else p) : Nat) : Int)]) := by
        show _ = _
        rw [joinL_succ, hp, hq]
        congr 2
        split <;> omega
      have f1 := fnum_of hp1
      have f2 := fnum_of hq1
      rw [← hp] at f1
      rw [← hq] at f2
      have hmx := fun ts t w => FNum.max (P := Try.prog) f1 f2 ts t w
      have hcv := fun w => conv_fi (fnum_ite f1 f2) hm1 w
      have hjl := joinL_len xs ys k
      have hzl : (joinL xs ys k).length ≤ 100 := by omega
      have HCC : Hid (∀ i, i < n → wr.cell? ⟨g, i, none⟩ = some (cAt xs ys i)) := fun i hin => by
        obtain ⟨g', e, hc, -⟩ := hcc i hin
        simp only [Option.some.injEq, Addr.mk.injEq, and_true] at e
        subst e
        exact hc
      obtain ⟨aw, cw, rfl, -, -⟩ := ownsZ_cap hst.own
      have HNE : Hid ((Value.slice aw (joinL xs ys k).length cw).ownBlock ≠ some g) := by
        obtain ⟨g', e, -, hne⟩ := hcc k hlt
        simp only [Option.some.injEq, Addr.mk.injEq, and_true] at e
        subst e
        exact hne
      clear f1 f2 hp hq hp1 hq1 hm1 hjl hcc
      have hc1 : wr.cell? ⟨g, k, none⟩ = some (.complex .f64 (floatOfInt .f64 (zA xs k)) (floatOfInt .f64 (zA ys k))) := hc0
      clear hc0
      generalize floatOfInt .f64 (zA xs k) = bx at *
      generalize floatOfInt .f64 (zA ys k) = by' at *
      generalize (if p < q then by' else bx) = bz at *
      generalize (if p < q then q else p) = z at *
      generalize joinL xs ys k = zs at *
      obtain ⟨wv, hwv⟩ : ∃ u, wr = u := ⟨_, rfl⟩
      rw [hwv] at hst hc1 HCC ⊢
      have hst2 : ∀ o, ZSt w.heap.size w (wv.alloc o) (.slice aw zs.length cw) zs := fun o => zst_below hst ((Below.refl _ _).alloc (Nat.le_refl _) o)
      have hsz := hst.bel.size
      have hgl := lt_of_cell hc1
      clear hwv hst
      go_wp2_with (at_builtin; refine wpList_append_lies _ rfl _ _ 29 rfl w.heap.size 3 i0 _ 1 8 Try.underlying29 hi hz0 hz1 hz2 rfl (by decide) (.slice aw zs.length cw) zs.length (zCells zs) rfl (hst2 _).own ⟨wv.heap.size, 0, none⟩ 1 1 (zCells [(z : Int)]) rfl rfl ?c1 ?c2 (by omega) ?c3 ?c4 ?c5 (wv.heap.size + 1) ?c6 ?_)
      case c1 => first | exact (fun j u h => h) | exact World.news_of_block (cs := #[.int .i64 (z : Int)]) (t := 3) (fr := (0, 0)) (by first | exact (heap_alloc_new wv _) | simpa using (heap_alloc_new wv _))
      case c2 => simp [zCells, Value.oneCell']
      case c3 => unfold maxLen; omega
      case c4 => omega
      case c5 => first | omega | (simp; omega)
      try (case c6 => simp)
      intro g4 cap4 w4 hown4 hgrow4 hat4 _
      have HS4 : Hid (ZSt w.heap.size w w4 (.slice (some ⟨g4, 0, none⟩) (zs.length + 1) cap4) (zs ++ [(z : Int)])) := zst_step (q := (z : Int)) (hst2 _) (Nat.le_refl _) hgrow4 hown4
      have HC4 : Hid (∀ i, i < n → ∃ g', some (⟨g, 0, none⟩ : Addr) = some ⟨g', 0, none⟩ ∧ w4.cell? ⟨g', i, none⟩ = some (cAt xs ys i) ∧ (Value.slice (some ⟨g4, 0, none⟩) (zs.length + 1) cap4).ownBlock ≠ some g') := fun i hin => by
        refine ⟨g, rfl, (hgrow4.cell_far ⟨g, i, none⟩ (by simp; omega) (fun e => HNE.out e.symm)).trans ((World.cell?_alloc_old wv _ ⟨g, i, none⟩ (by simp; omega)).trans (HCC.out i hin)), fun e => ?_⟩
        have e2 : g4 = g := by simpa [Value.ownBlock] using e
        subst e2
        rcases hat4 with h | h
        · exact HNE.out h
        · omega
      clear hown4 hgrow4 hat4 hst2 HCC HNE
      go_wp2_with fail
      go_roundw
      case rel => exact ⟨k + 1, by omega, by go_num, HC4.out, by rw [HN.out]; exact HS4.out⟩
      case measure => simp [intOf]; omega
    · obtain rfl : k = n := by omega
      go_wp2
      go_ret
      exact ⟨_, rfl, hst⟩

end Go.Proofs.Ytambbgpofmojnaa
