/-
  Marks held against marks: the contracts of spec.l2SameMarks and of slices.Equal at marks.
-/
import Derived.Test.YtomigekigcklfaaDoorIm
import Derived.Test.YtomigekigcklfaaDoorLogs2J
import Derived.BigQuiet
namespace Go.Proofs.YtomigekigcklfaaDoor
open Go.RowKit

theorem imNe_run (e s e2 s2 : Int) (w : World) : (binOp .neq 96 (.agg #[.int .i64 e, .int .i64 s]) (.agg #[.int .i64 e2, .int .i64 s2])).run Tryd.prog w = .ok (.bool (!(decide (e = e2) && decide (s = s2)))) w := by
  rw [run_neq_struct, show (10000 : Nat) = 9999 + 1 from rfl, run_equalIn_agg w 9999 96 _ _ (by kernel_rfl) (by kernel_rfl)]
  have u3 := Tryd.underlying3
  simp only [Program.fieldsOf, Tryd.underlying96]
  by_cases h1 : e = e2
  · by_cases h2 : s = s2
    · simp [Op.eqFields, part, isAgg, run_underlying u3, run_equalIn_int w _ 3 .i64 .i64 _ _ u3, h1, h2]
    · simp [Op.eqFields, part, isAgg, run_underlying u3, run_equalIn_int w _ 3 .i64 .i64 _ _ u3, h1, h2]
  · simp [Op.eqFields, part, isAgg, run_underlying u3, run_equalIn_int w _ 3 .i64 .i64 _ _ u3, h1]

theorem imGuard : Tryd.prog.eqGuardType Tryd.prog.depth 96 = false := by kernel_rfl

theorem take_eq_succ {xs ys : List Im} {k : Nat} {x : Im} (h : xs.take k = ys.take k) (hx : xs[k]? = some x) (hy : ys[k]? = some x) : xs.take (k + 1) = ys.take (k + 1) := by
  rw [List.take_add_one, List.take_add_one, h, hx, hy]

set_option maxRecDepth 100000 in
set_option maxHeartbeats 2000000 in
theorem l2SameMarks_any (a a2 : Option Addr) (c c2 : Nat) (xs ys : List Im) (w : World) (hx : Ims w a xs) (hy : Ims w a2 ys) (hl : xs.length ≤ maxLen) :
    Calls Tryd.prog 40 #[.slice a xs.length c, .slice a2 ys.length c2] w fun e w' => e = .returned (.bool (decide (xs = ys))) ∧ Below w.heap.size w w' := by
  unfold maxLen at hl
  have hne := imNe_run
  have hgd := imGuard
  by_cases hll : xs.length = ys.length
  · have HLL : Hid (xs.length = ys.length) := hll
    have hn : ((xs.length : Int) != (ys.length : Int)) = false := by simp; omega
    clear hll
    go_enter Tryd.func40, Tryd.ntmps40
    go_wp2
    clear hn
    go_loopw [13] (fun i wr => ∃ k n : Nat, k ≤ xs.length ∧ i = .int .i64 k ∧ wr = w.drewN n ∧ xs.take k = ys.take k) (fun i _ => xs.length - (intOf i).toNat)
    case atStart => exact ⟨0, 0, Nat.zero_le _, rfl, rfl, rfl⟩
    case round =>
      obtain ⟨k, n, hk, rfl, rfl, htk⟩ := hrel
      by_cases hlt : k < xs.length
      · obtain ⟨x, hkx⟩ := getIm hlt
        obtain ⟨y, hky⟩ := getIm (fs := ys) (k := k) (by have := HLL.out; omega)
        obtain ⟨kb, ob, rfl, c0, c1⟩ := hx k x hkx
        obtain ⟨kb2, ob2, rfl, d0, d1⟩ := hy k y hky
        have hlt2 : k < ys.length := by have := HLL.out; omega
        have hltI : (k : Int) < (ys.length : Int) := by omega
        have hltJ : (k : Int) < (xs.length : Int) := by omega
        by_cases hxy : x = y
        · subst hxy
          have HT : Hid (xs.take (k + 1) = ys.take (k + 1)) := take_eq_succ htk hkx hky
          have hb : (!(decide (x.off = x.off) && decide (x.at_ = x.at_))) = false := by simp
          clear hx hy hkx hky htk
          go_wp2
          go_quiet (fail)
          go_wp2
          go_roundw
          case rel => exact ⟨k + 1, n + nq, by omega, by go_num, by simp, HT.out⟩
          case measure => simp [intOf]; omega
        · have HT : Hid (decide (xs = ys) = false) := by
            show _ = _
            refine decide_eq_false fun e => hxy ?_
            rw [e, hky] at hkx
            simpa using hkx.symm
          have hb : (!(decide (x.off = y.off) && decide (x.at_ = y.at_))) = true := by
            obtain ⟨x0, x1⟩ := x
            obtain ⟨y0, y1⟩ := y
            by_cases h0 : x0 = y0
            · subst h0
              have h1 : ¬ x1 = y1 := fun h => hxy (by rw [h])
              simp [h1]
            · simp [h0]
          have hne2 : ∀ u, (binOp .neq 96 (.agg #[.int .i64 x.off, .int .i64 x.at_]) (.agg #[.int .i64 y.off, .int .i64 y.at_])).run Tryd.prog u = .ok (.bool true) u := fun u => by rw [imNe_run, hb]
          clear hx hy hkx hky htk hxy hne hb
          go_wp2
          go_quiet (fail)
          go_wp2
          go_ret
          exact ⟨ret_bool HT.out.symm, below_drewN (below_drewN (Below.refl _ _) n) _⟩
      · have HT : Hid (decide (xs = ys) = true) := by
          show _ = _
          refine decide_eq_true ?_
          rw [List.take_of_length_le (by omega), List.take_of_length_le (by have := HLL.out; omega)] at htk
          exact htk
        clear hx hy htk
        go_wp2
        go_ret
        exact ⟨ret_bool HT.out.symm, below_drewN (Below.refl _ _) n⟩
  · have HT : Hid (decide (xs = ys) = false) := decide_eq_false fun e => hll (by rw [e])
    have hn : ((xs.length : Int) != (ys.length : Int)) = true := by simp; omega
    clear hx hy
    go_enter Tryd.func40, Tryd.ntmps40
    go_wp2
    go_ret
    exact ⟨ret_bool HT.out.symm, Below.refl _ _⟩

set_option maxRecDepth 100000 in
set_option maxHeartbeats 2000000 in
theorem equalMarks_any (a a2 : Option Addr) (c c2 : Nat) (xs ys : List Im) (w : World) (hx : Ims w a xs) (hy : Ims w a2 ys) (hl : xs.length ≤ maxLen) :
    Calls Tryd.prog 75 #[.slice a xs.length c, .slice a2 ys.length c2] w fun e w' => e = .returned (.bool (decide (xs = ys))) ∧ Below w.heap.size w w' := by
  unfold maxLen at hl
  have hne := imNe_run
  have hgd := imGuard
  by_cases hll : xs.length = ys.length
  · have HLL : Hid (xs.length = ys.length) := hll
    have hn : ((xs.length : Int) != (ys.length : Int)) = false := by simp; omega
    clear hll
    go_enter Tryd.func75, Tryd.ntmps75
    go_wp2
    clear hn
    go_loopw [13] (fun i wr => ∃ k n : Nat, k ≤ xs.length ∧ i = .int .i64 k ∧ wr = w.drewN n ∧ xs.take k = ys.take k) (fun i _ => xs.length - (intOf i).toNat)
    case atStart => exact ⟨0, 0, Nat.zero_le _, rfl, rfl, rfl⟩
    case round =>
      obtain ⟨k, n, hk, rfl, rfl, htk⟩ := hrel
      by_cases hlt : k < xs.length
      · obtain ⟨x, hkx⟩ := getIm hlt
        obtain ⟨y, hky⟩ := getIm (fs := ys) (k := k) (by have := HLL.out; omega)
        obtain ⟨kb, ob, rfl, c0, c1⟩ := hx k x hkx
        obtain ⟨kb2, ob2, rfl, d0, d1⟩ := hy k y hky
        have hlt2 : k < ys.length := by have := HLL.out; omega
        have hltI : (k : Int) < (ys.length : Int) := by omega
        have hltJ : (k : Int) < (xs.length : Int) := by omega
        by_cases hxy : x = y
        · subst hxy
          have HT : Hid (xs.take (k + 1) = ys.take (k + 1)) := take_eq_succ htk hkx hky
          have hb : (!(decide (x.off = x.off) && decide (x.at_ = x.at_))) = false := by simp
          clear hx hy hkx hky htk
          go_wp2
          go_quiet (fail)
          go_wp2
          go_roundw
          case rel => exact ⟨k + 1, n + nq, by omega, by go_num, by simp, HT.out⟩
          case measure => simp [intOf]; omega
        · have HT : Hid (decide (xs = ys) = false) := by
            show _ = _
            refine decide_eq_false fun e => hxy ?_
            rw [e, hky] at hkx
            simpa using hkx.symm
          have hb : (!(decide (x.off = y.off) && decide (x.at_ = y.at_))) = true := by
            obtain ⟨x0, x1⟩ := x
            obtain ⟨y0, y1⟩ := y
            by_cases h0 : x0 = y0
            · subst h0
              have h1 : ¬ x1 = y1 := fun h => hxy (by rw [h])
              simp [h1]
            · simp [h0]
          have hne2 : ∀ u, (binOp .neq 96 (.agg #[.int .i64 x.off, .int .i64 x.at_]) (.agg #[.int .i64 y.off, .int .i64 y.at_])).run Tryd.prog u = .ok (.bool true) u := fun u => by rw [imNe_run, hb]
          clear hx hy hkx hky htk hxy hne hb
          go_wp2
          go_quiet (fail)
          go_wp2
          go_ret
          exact ⟨ret_bool HT.out.symm, below_drewN (below_drewN (Below.refl _ _) n) _⟩
      · have HT : Hid (decide (xs = ys) = true) := by
          show _ = _
          refine decide_eq_true ?_
          rw [List.take_of_length_le (by omega), List.take_of_length_le (by have := HLL.out; omega)] at htk
          exact htk
        clear hx hy htk
        go_wp2
        go_ret
        exact ⟨ret_bool HT.out.symm, below_drewN (Below.refl _ _) n⟩
  · have HT : Hid (decide (xs = ys) = false) := decide_eq_false fun e => hll (by rw [e])
    have hn : ((xs.length : Int) != (ys.length : Int)) = true := by simp; omega
    clear hx hy
    go_enter Tryd.func75, Tryd.ntmps75
    go_wp2
    go_ret
    exact ⟨ret_bool HT.out.symm, Below.refl _ _⟩

end Go.Proofs.YtomigekigcklfaaDoor
