/-
  Histories, the program's side: slices.Values of a list that a box holds, slices.Collect of it, slices.Sorted of at most 12 numbers.
-/
import Derived.RangeFuncNested
import Derived.RangeFuncBound
import Derived.RangeFuncCalls
import Derived.RangeFuncLeaves
import Derived.RangeFuncBox
import Derived.Shelf.Abstract
import Derived.OwnWalkIn
import Derived.TacticsInMore
import Derived.LoopNIn
import Derived.LoopIn
import Derived.Maps.AppendAt
import Derived.Test.YtmbfdonefpegeaaDoorHmT
import Derived.Test.YtmbfdonefpegeaaDoorZan
import Derived.Test.YtmbfdonefpegeaaDoorAppZ
namespace Go.Proofs.YtmbfdonefpegeaaDoor
open Go.RowKit Go.Shelf

attribute [local go_sem] Oper.semAt_some

theorem takeZ_snoc {zs : List Int} {p : Nat} (h : p < zs.length) : zs.take (p + 1) = zs.take p ++ [zA zs p] := by
  rw [List.take_add_one, zA_get h]; rfl

set_option maxRecDepth 100000 in
set_option maxHeartbeats 2000000 in
/-- The iterator's body, for every loop body that keeps what lay below n₀. -/
theorem val1_in (F : Fence) (n : Nat) (h8 : F.fn 52) (hro : F.round = none) (hn : 1 ≤ n) (l BP n₀ : Nat) (a : Option Addr) (c : Nat) (zs : List Int) (hl : zs.length ≤ 1000) (_hN : BP < n₀) (J Jx : List Int → World → Prop)
    (hY : ∀ pre x W, J pre W → pre.length < zs.length → YieldAt F (n - 1) Tryd.prog l #[.int .i64 x] W fun e W' =>
      (e = .returned (.bool true) ∧ J (pre ++ [x]) W' ∧ Below n₀ W W') ∨ (e = .returned (.bool false) ∧ Jx (pre ++ [x]) W'))
    (W : World) (cP : W.cell? ⟨BP, 0, none⟩ = some (.slice a zs.length c)) (hz : ∀ W', Below n₀ W W' → Ints W' a zs) (h0 : J [] W) :
    CallsIn F n Tryd.prog 52 #[.func (.yield l) #[] #[], .pointer (some ⟨BP, 0, none⟩)] W fun e W' => (∃ v, e = .returned v) ∧
      ((∃ ys, ys = zs ∧ J ys W') ∨ (∃ pre, True ∧ Jx pre W')) := by
  refine callsIn_of_wp Tryd.func52 rfl h8 ?_ hro
  simp only [Tryd.ntmps52, List.size_toArray, List.length_cons, List.length_nil, Nat.reduceAdd, Nat.reduceSub, Array.replicate_succ, Array.replicate_zero, List.push_toArray, List.append_toArray, List.nil_append, List.cons_append]
  gi_wp2
  gi_loopw [7] (fun i wr => ∃ p : Nat, p ≤ zs.length ∧ i = .int .i64 (p : Int) ∧ J (zs.take p) wr ∧ Below n₀ W wr)
    (fun i _ => zs.length - (intOf i).toNat)
  case atStart => exact ⟨0, Nat.zero_le _, rfl, by simpa using h0, Below.refl _ _⟩
  case round =>
    obtain ⟨p, hp, rfl, hJs, hnx⟩ := hrel
    by_cases hlt : p < zs.length
    · obtain ⟨b, off, rfl, hc⟩ := (hz wr hnx) p _ (zA_get hlt)
      obtain ⟨x, hx⟩ : ∃ x, zA zs p = x := ⟨_, rfl⟩
      have HN : Hid (zs.take (p + 1) = zs.take p ++ [x]) := by show _ = _; rw [← hx]; exact takeZ_snoc hlt
      rw [hx] at hc
      clear hx
      obtain ⟨fn, tmps, assign, body, hy, hR⟩ := hY _ x wr hJs (by simp; omega)
      have d2 : (p : Int) < (zs.length : Int) := by omega
      clear hJs
      gi_wp2
      refine hR.mono ?_
      rintro e W3 (⟨rfl, hJ3, hk3⟩ | ⟨rfl, hJx3⟩)
      · gi_wp2
        go_roundw
        case rel => exact ⟨p + 1, by omega, by go_num, by rw [HN.out]; exact hJ3, hnx.trans hk3⟩
        case measure => simp [intOf]; omega
      · gi_wp2
        refine bodyPost_ret (results_none rfl _ _ _) rfl ?_
        exact ⟨⟨_, rfl⟩, .inr ⟨_, trivial, hJx3⟩⟩
    · have HE : Hid (zs.take p = zs) := by show _ = _; exact List.take_of_length_le (by omega)
      have d2 : (zs.length : Int) ≤ (p : Int) := by omega
      gi_wp2
      go_end0
      exact ⟨⟨_, rfl⟩, .inl ⟨_, HE.out, hJs⟩⟩

theorem val_stops (F : Fence) (n : Nat) (h8 : F.fn 52) (hro : F.round = none) (hn : 1 ≤ n) (BP n₀ : Nat) (a : Option Addr) (c : Nat) (zs : List Int) (hl : zs.length ≤ 1000) (w : World) (hP : BP < n₀) (hn₀ : n₀ ≤ w.heap.size)
    (cP : w.cell? ⟨BP, 0, none⟩ = some (.slice a zs.length c)) (hz : ∀ W', Below n₀ w W' → Ints W' a zs) :
    SeqStopsK F n Tryd.prog 52 #[.pointer (some ⟨BP, 0, none⟩)] (fun x : Int => #[Value.int .i64 x]) (Below n₀) (fun ys => ys = zs) (fun _ => True) zs.length w := fun l J Jx W hW _ _ hY h0 =>
  val1_in F n h8 hro hn l BP n₀ a c zs hl hP J Jx hY W ((hW.cell (p := ⟨BP, 0, none⟩) (by show BP < _; omega)).trans cP) (fun W' hW' => hz W' (Below.trans (Below.mono hW hn₀) hW')) h0

abbrev valV (BP : Nat) : Value := .func (.func 52) #[] #[.pointer (some ⟨BP, 0, none⟩)]

set_option maxRecDepth 100000 in
set_option maxHeartbeats 2000000 in
/-- slices.AppendSeq of nothing and the iterator. -/
theorem appendVal_in (F : Fence) (n : Nat) (h7 : F.fn 54) (h8 : F.fn 52) (hro : F.round = none) (hn : 3 ≤ n) (BP : Nat) (a : Option Addr) (c : Nat) (zs : List Int) (hl : zs.length ≤ 1000) (w : World) (hP : BP < w.heap.size)
    (cP : w.cell? ⟨BP, 0, none⟩ = some (.slice a zs.length c)) (hz : Ints w a zs) :
    CallsIn F n Tryd.prog 54 #[.slice none 0 0, valV BP] w fun e W' => ∃ v, e = .returned v ∧ W'.ownsRow w.heap.size 3 1 v zs.length (zCells zs) ∧ Below w.heap.size w W' := by
  have h1 : 1 ≤ n := by omega
  obtain ⟨i0, hi, hz0, hz1, hz2⟩ := infoZ Tryd.infoInt
  refine callsIn_of_wp_marks Tryd.func54 rfl h7 ?_ hro
  simp only [Tryd.ntmps54, List.size_toArray, List.length_cons, List.length_nil, Nat.reduceAdd, Nat.reduceSub, Array.replicate_succ, Array.replicate_zero, List.push_toArray, List.append_toArray, List.nil_append, List.cons_append]
  gi_wp2
  have bO := Boxed.new w 24 (.slice none 0 0)
  have hB0 : Below w.heap.size w (w.alloc (.cells #[.slice none 0 0] 24)) := (Below.refl _ w).alloc (Nat.le_refl _) _
  refine wpIn_rangeFunc_ownG hro h1 (gf := 52) (lb := #[.pointer (some ⟨BP, 0, none⟩)]) rfl h8 (enters_of Tryd.func52 (by kernel_rfl) rfl)
    (val_stops F (n - 1) h8 hro (by omega) BP w.heap.size a c zs hl _ hP (by simp) (celB hB0 cP) (fun W' hW' => hz.below (hB0.trans hW'))) belowK_t (belowK_b (by simp)) (Below.refl _ _) (fun _ => rfl)
    (fun pre W => (∃ v, Boxed W w.heap.size 24 v ∧ W.ownsRow w.heap.size 3 1 v pre.length (zCells pre) ∧ True) ∧ Below w.heap.size w W)
    (fun _ _ _ => False)
    (OwnFrom.and (Own.from (holdsRow_own w.heap.size w.heap.size 24 3 1 (fun pre : List Int => pre.length) (fun pre => zCells pre) (fun _ _ => True)) _) (ownFrom_below (Nat.le_refl _) (by simp)))
    (fun _ _ _ _ _ hs _ _ => hs)
    ⟨⟨_, bO, World.ownsRow_nil _ _ _ _, trivial⟩, hB0⟩
    (fun x => { tmps := #[.slice none 0 0, valV BP, .pointer (some ⟨w.heap.size, 0, none⟩), undef, .slice none 0 0, .int .i64 x, valV BP, .int .i64 x, undef, undef, undef, undef, undef], defers := [] }) ?assign ?body ?done ?stop
  case assign =>
    intro l x W K hK
    gi_wp2
    exact hK
  case body =>
    rintro l pre x W ⟨⟨v, hv, hrow, -⟩, hB⟩ hlt
    have hc := hv.cell
    gi_wp2_with (gi_at_builtin; refine wpListIn_append_own _ rfl _ _ 24 rfl w.heap.size 3 i0 (.int .i64 0) 1 8 Tryd.underlying24 hi hz0 hz1 hz2 rfl (by decide) _ _ _ rfl (hrow.alloc _) ⟨W.heap.size, 0, none⟩ 1 1 [.int .i64 x] rfl rfl (cell_one_new _ _ _) (by simp [Value.oneCell']) (by unfold maxLen; omega) (by omega) (by have := hB.size; simp; omega) ?_; intro v' w1 hown' hgrow _; obtain ⟨g', cap', rfl⟩ := ownsRow_succ hown'; obtain ⟨hv1, hv2, hr2, hk2, hb2⟩ := hv.appended (by decide) hrow hB.size (Nat.le_refl _) hown' hgrow; have hc1 := hv1.cell; have hf1 := hv1.frozen)
    exact ⟨hk2.from _, hb2, ⟨_, hv2, by simpa [zCells] using hr2, trivial⟩, hB.trans hb2⟩
  case done =>
    rintro D ys W hD rfl ⟨⟨v, hv, hrow, -⟩, hB⟩ hK
    have hc := hv.cell
    gi_wp2
    refine ⟨by simp, .inl ⟨_, _, rfl, run_takeDeferred hK, ?_⟩⟩
    exact ⟨_, results_tmp rfl _ _ _, v, rfl, ownsRow_putObj hrow _ hK rfl, hB.trans (belowK_b (w := w) (Nat.le_refl _) W D _ _ (by simp at hD; omega) hK rfl rfl)⟩
  case stop =>
    rintro D c pre W _ _ h _
    exact h.elim

set_option maxHeartbeats 1000000 in
theorem collectVal_in (F : Fence) (n : Nat) (h6 : F.fn 50) (h7 : F.fn 54) (h8 : F.fn 52) (hro : F.round = none) (hn : 4 ≤ n) (BP : Nat) (a : Option Addr) (c : Nat) (zs : List Int) (hl : zs.length ≤ 1000) (w : World) (hP : BP < w.heap.size)
    (cP : w.cell? ⟨BP, 0, none⟩ = some (.slice a zs.length c)) (hz : Ints w a zs) :
    CallsIn F n Tryd.prog 50 #[valV BP] w fun e W' => ∃ v, e = .returned v ∧ W'.ownsRow w.heap.size 3 1 v zs.length (zCells zs) ∧ Below w.heap.size w W' := by
  refine callsIn_of_wp Tryd.func50 rfl h6 ?_ hro
  simp only [Tryd.ntmps50, List.size_toArray, List.length_cons, List.length_nil, Nat.reduceAdd, Nat.reduceSub, Array.replicate_succ, Array.replicate_zero, List.push_toArray, List.append_toArray, List.nil_append, List.cons_append]
  gi_wp2
  refine ⟨fun _ => by omega, ?_⟩
  refine (appendVal_in F (n - 1) h7 h8 hro (by omega) BP a c zs hl _ hP cP hz).mono ?_
  rintro e w' ⟨v, rfl, hrow, hb⟩
  gi_wp2
  go_ret
  exact ⟨v, rfl, hrow, hb⟩

/-- slices.Collect of a list's values: the list, in memory of its own. -/
theorem collectVal_any (BP : Nat) (a : Option Addr) (c : Nat) (zs : List Int) (hl : zs.length ≤ 1000) (w : World) (hP : w.cell? ⟨BP, 0, none⟩ = some (.slice a zs.length c)) (hz : Ints w a zs) :
    Calls Tryd.prog 50 #[valV BP] w fun e W' => ∃ v, e = .returned v ∧ W'.ownsRow w.heap.size 3 1 v zs.length (zCells zs) ∧ Below w.heap.size w W' :=
  (callsIn_wide (n := 9)).1 (collectVal_in Fence.wide 9 trivial trivial trivial rfl (by omega) BP a c zs hl w (lt_of_cell hP) hP hz)

set_option maxRecDepth 100000 in
theorem sort0_any (a : Option Addr) (c : Nat) (w : World) :
    Calls Tryd.prog 51 #[.slice a 0 c] w fun e w' => e = .returned (.tuple #[]) ∧ w' = w := by
  have hins : ∀ w : World, Calls Tryd.prog 59 #[.slice a 0 c, .int .i64 0, .int .i64 0] w fun e w' => e = .returned (.tuple #[]) ∧ w' = w := fun w => by
    go_enter Tryd.func59, Tryd.ntmps59
    go_wp2
    refine wp_loop_rounds 1 ?_
    rw [rounds_succ]
    go_wp2
    go_end0
    exact ⟨rfl, rfl⟩
  have hpdq : ∀ (z : Int) (w : World), Calls Tryd.prog 55 #[.slice a 0 c, .int .i64 0, .int .i64 0, .int .i64 z] w fun e w' => e = .returned (.tuple #[]) ∧ w' = w := fun z w => by
    go_enter Tryd.func55, Tryd.ntmps55
    go_wp2
    refine wp_loop_rounds 1 ?_
    rw [rounds_succ]
    go_wp2_with (go_at_call 59; refine (hins _).mono ?_; rintro e w1 ⟨rfl, hw⟩; rw [hw]; clear hw w1)
    exact bodyPost_ret (v := .tuple #[]) (by simp [results, Tryd.results55, go_sem]) rfl ⟨rfl, rfl⟩
  have hlen : ∀ w : World, Calls Tryd.prog 56 #[.int .u64 0] w fun e w' => (∃ z, e = .returned (.int .i64 z)) ∧ w' = w := fun w => bitsLen_c 0 (by omega) w
  go_enter Tryd.func51, Tryd.ntmps51
  go_wp2_with (first | (go_at_call 56; refine (hlen _).mono ?_; rintro e w' ⟨⟨z, rfl⟩, hw⟩; rw [hw]; clear hw w') | (go_at_call 55; refine (hpdq _ _).mono ?_; rintro e w1 ⟨rfl, hw⟩; rw [hw]; clear hw w1))
  go_end0
  exact ⟨rfl, rfl⟩

set_option maxRecDepth 100000 in
set_option maxHeartbeats 2000000 in
/-- slices.Sorted of a list's values. -/
theorem sortedVal_any (BP : Nat) (a : Option Addr) (c : Nat) (zs : List Int) (hl : zs.length ≤ 12) (w : World) (hP : w.cell? ⟨BP, 0, none⟩ = some (.slice a zs.length c)) (hz : Ints w a zs) :
    Calls Tryd.prog 37 #[valV BP] w fun e W' => ∃ a' c' L, e = .returned (.slice a' L.length c') ∧ L.Perm zs ∧ L.Pairwise (fun a b => a ≤ b) ∧ Ints W' a' L ∧ Below w.heap.size w W' := by
  go_enter Tryd.func37, Tryd.ntmps37
  go_wp2_with fail
  refine (collectVal_any BP a c zs (by omega) _ hP hz).mono ?_
  rintro e w1 ⟨v, rfl, hrow, hb⟩
  by_cases h0 : zs.length = 0
  · obtain ⟨a', c', rfl, -, -⟩ := ownsZ_cap hrow
    have hz0 : zs = [] := List.length_eq_zero_iff.1 h0
    subst hz0
    go_wp2_with fail
    refine (sort0_any _ _ _).mono ?_
    rintro e w2 ⟨rfl, rfl⟩
    go_wp2
    go_ret
    exact ⟨a', c', [], rfl, List.Perm.refl _, List.Pairwise.nil, Ints.nil _ _, hb⟩
  · obtain ⟨g, cap, f, rfl, hg, hn, hR, hf⟩ := row_of_ownsZ hrow (by omega)
    have hI := (ints_of_owns hrow).1
    have hIR : IR w1 g cap zs := ⟨by omega, f, by simpa using hR, fun i hi => by
      obtain ⟨b, off, e, hc⟩ := hI i _ (zA_get hi)
      simp only [Option.some.injEq, Addr.mk.injEq, and_true] at e
      obtain ⟨rfl, rfl⟩ := e
      have h1 := hR.cell (i := i) (by omega)
      rw [Nat.zero_add, h1] at hc
      exact Option.some.inj hc⟩
    have hgg : w.heap.size ≤ g := hg
    clear hrow hI hR hf
    go_wp2_with fail
    refine (sortZ_any g cap cap zs _ hIR hl (by omega)).mono ?_
    rintro e w2 ⟨rfl, L, k1, k2, k3, k4⟩
    have hLn : L.length = zs.length := k2.length_eq
    have HB : Hid (Below w.heap.size w w2) := hb.grown k4 hb.size (fun k hk => by cases hk; exact hgg)
    have HI : Hid (Ints w2 (some ⟨g, 0, none⟩) L) := k1.ints
    clear hIR k1 k4
    go_wp2
    go_ret
    exact ⟨some ⟨g, 0, none⟩, cap, L, by rw [hLn]; rfl, k2, k3, HI.out, HB.out⟩

end Go.Proofs.YtmbfdonefpegeaaDoor
