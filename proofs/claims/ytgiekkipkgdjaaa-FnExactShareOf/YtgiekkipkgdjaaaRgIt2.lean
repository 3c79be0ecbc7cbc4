/-
  Groups that read, the program's side: the iterator of parts walked, and what slices.AppendSeq and slices.Collect gather of it.
-/
import Derived.Test.YtgiekkipkgdjaaaRgIt
namespace Go.Proofs.Ytgiekkipkgdjaaa
open Go.RowKit Go.Shelf

attribute [local go_sem] Oper.semAt_some

set_option maxRecDepth 100000 in
set_option maxHeartbeats 2000000 in
/-- The iterator's body, for every loop body that keeps what lay below n₀. -/
theorem deal1_in (F : Fence) (n : Nat) (h8 : F.fn 87) (hro : F.round = none) (hn : 1 ≤ n) (l BP BN BM n₀ m pl parts : Nat) (hm : 0 < m) (hpl : pl < m) (hm5 : m ≤ 1000) (hp6 : parts ≤ 1000) (hN : BN < n₀) (hM : BM < n₀) (J Jx : List Int → World → Prop)
    (hY : ∀ pre x W, J pre W → pre.length < parts → YieldAt F (n - 1) Try.prog l #[.int .i64 x] W fun e W' =>
      (e = .returned (.bool true) ∧ J (pre ++ [x]) W' ∧ Below n₀ W W') ∨ (e = .returned (.bool false) ∧ Jx (pre ++ [x]) W'))
    (W : World) (cP : W.cell? ⟨BP, 0, none⟩ = some (.int .i64 (pl : Int))) (cN : W.cell? ⟨BN, 0, none⟩ = some (.int .i64 (parts : Int))) (cM : W.cell? ⟨BM, 0, none⟩ = some (.int .i64 (m : Int))) (h0 : J [] W) :
    CallsIn F n Try.prog 87 #[.func (.yield l) #[] #[], .pointer (some ⟨BP, 0, none⟩), .pointer (some ⟨BN, 0, none⟩), .pointer (some ⟨BM, 0, none⟩)] W fun e W' => (∃ v, e = .returned v) ∧
      ((∃ ys, ys = shTo m pl parts ∧ J ys W') ∨ (∃ pre, True ∧ Jx pre W')) := by
  refine callsIn_of_wp Try.func87 rfl h8 ?_ hro
  simp only [Try.ntmps87, List.size_toArray, List.length_cons, List.length_nil, Nat.reduceAdd, Nat.reduceSub, Array.replicate_succ, Array.replicate_zero, List.push_toArray, List.append_toArray, List.nil_append, List.cons_append]
  gi_wp2
  gi_loopw [5] (fun i wr => ∃ p : Nat, i = .int .i64 (p : Int) ∧ p % m = pl ∧ p < parts + m ∧ J (shTo m pl p) wr ∧ Below n₀ W wr)
    (fun i _ => parts - (intOf i).toNat)
  case atStart => exact ⟨pl, rfl, Nat.mod_eq_of_lt hpl, by omega, by rw [shTo_start hpl]; exact h0, Below.refl _ _⟩
  case round =>
    obtain ⟨p, rfl, hpm, hpt, hJs, hnx⟩ := hrel
    have dN : wr.cell? ⟨BN, 0, none⟩ = some (.int .i64 (parts : Int)) := (hnx.cell (p := ⟨BN, 0, none⟩) hN).trans cN
    have HPM : Hid (p % m = pl) := hpm
    by_cases hlt : p < parts
    · have hlen := shTo_len m pl p
      obtain ⟨fn, tmps, assign, body, hy, hR⟩ := hY _ (p : Int) wr hJs (by omega)
      have HN : Hid (shTo m pl (p + m) = shTo m pl p ++ [(p : Int)]) := shTo_next hm hpm
      have HM : Hid ((p + m) % m = pl) := by show _ = _; rw [Nat.add_mod_right]; exact hpm
      have d1 : decide ((p : Int) < (parts : Int)) = true := by simp; omega
      have d2 : (p : Int) < (parts : Int) := by omega
      clear hpm hlen hJs
      gi_wp2
      refine hR.mono ?_
      rintro e W3 (⟨rfl, hJ3, hk3⟩ | ⟨rfl, hJx3⟩)
      · have dM : W3.cell? ⟨BM, 0, none⟩ = some (.int .i64 (m : Int)) := (hk3.cell (p := ⟨BM, 0, none⟩) hM).trans ((hnx.cell (p := ⟨BM, 0, none⟩) hM).trans cM)
        gi_wp2
        go_roundw
        case rel => exact ⟨p + m, by go_num, HM.out, by omega, by rw [HN.out]; exact hJ3, hnx.trans hk3⟩
        case measure => simp [intOf]; omega
      · gi_wp2
        refine bodyPost_ret (results_none rfl _ _ _) rfl ?_
        exact ⟨⟨_, rfl⟩, .inr ⟨_, trivial, hJx3⟩⟩
    · have HE : Hid (shTo m pl p = shTo m pl parts) := by
        show _ = _
        rw [shTo_back hm hpm (p - parts) (by omega) (by omega), show p - (p - parts) = parts by omega]
      have d1 : decide ((p : Int) < (parts : Int)) = false := by simp; omega
      have d2 : (parts : Int) ≤ (p : Int) := by omega
      clear hpm
      gi_wp2
      go_end0
      exact ⟨⟨_, rfl⟩, .inl ⟨_, HE.out, hJs⟩⟩

/-- It is an iterator that gives the parts of one who gets them. -/
theorem deal_stops (F : Fence) (n : Nat) (h8 : F.fn 87) (hro : F.round = none) (hn : 1 ≤ n) (BP BN BM n₀ m pl parts : Nat) (hm : 0 < m) (hpl : pl < m) (hm5 : m ≤ 1000) (hp6 : parts ≤ 1000) (w : World) (hP : BP < n₀) (hN : BN < n₀) (hM : BM < n₀) (hn₀ : n₀ ≤ w.heap.size)
    (cP : w.cell? ⟨BP, 0, none⟩ = some (.int .i64 (pl : Int))) (cN : w.cell? ⟨BN, 0, none⟩ = some (.int .i64 (parts : Int))) (cM : w.cell? ⟨BM, 0, none⟩ = some (.int .i64 (m : Int))) :
    SeqStopsK F n Try.prog 87 #[.pointer (some ⟨BP, 0, none⟩), .pointer (some ⟨BN, 0, none⟩), .pointer (some ⟨BM, 0, none⟩)] (fun x : Int => #[Value.int .i64 x]) (Below n₀) (fun ys => ys = shTo m pl parts) (fun _ => True) parts w := fun l J Jx W hW _ _ hY h0 =>
  deal1_in F n h8 hro hn l BP BN BM n₀ m pl parts hm hpl hm5 hp6 hN hM J Jx hY W ((hW.cell (p := ⟨BP, 0, none⟩) (by show BP < _; omega)).trans cP) ((hW.cell (p := ⟨BN, 0, none⟩) (by show BN < _; omega)).trans cN) ((hW.cell (p := ⟨BM, 0, none⟩) (by show BM < _; omega)).trans cM) h0

abbrev dealV (BP BN BM : Nat) : Value := .func (.func 87) #[] #[.pointer (some ⟨BP, 0, none⟩), .pointer (some ⟨BN, 0, none⟩), .pointer (some ⟨BM, 0, none⟩)]

set_option maxRecDepth 100000 in
set_option maxHeartbeats 2000000 in
/-- slices.AppendSeq of nothing and the iterator. -/
theorem appendSeq_in (F : Fence) (n : Nat) (h7 : F.fn 88) (h8 : F.fn 87) (hro : F.round = none) (hn : 3 ≤ n) (BP BN BM m pl parts : Nat) (hm : 0 < m) (hpl : pl < m) (hm5 : m ≤ 1000) (hp6 : parts ≤ 1000) (w : World) (hP : BP < w.heap.size) (hN : BN < w.heap.size) (hM : BM < w.heap.size)
    (cP : w.cell? ⟨BP, 0, none⟩ = some (.int .i64 (pl : Int))) (cN : w.cell? ⟨BN, 0, none⟩ = some (.int .i64 (parts : Int))) (cM : w.cell? ⟨BM, 0, none⟩ = some (.int .i64 (m : Int))) :
    CallsIn F n Try.prog 88 #[.slice none 0 0, dealV BP BN BM] w fun e W' => ∃ v, e = .returned v ∧ W'.ownsRow w.heap.size 3 1 v (shTo m pl parts).length (zCells (shTo m pl parts)) ∧ Below w.heap.size w W' := by
  have h1 : 1 ≤ n := by omega
  obtain ⟨i0, hi, hz0, hz1, hz2⟩ := infoZ Try.infoInt
  refine callsIn_of_wp_marks Try.func88 rfl h7 ?_ hro
  simp only [Try.ntmps88, List.size_toArray, List.length_cons, List.length_nil, Nat.reduceAdd, Nat.reduceSub, Array.replicate_succ, Array.replicate_zero, List.push_toArray, List.append_toArray, List.nil_append, List.cons_append]
  gi_wp2
  have bO := Boxed.new w 22 (.slice none 0 0)
  have hB0 : Below w.heap.size w (w.alloc (.cells #[.slice none 0 0] 22)) := (Below.refl _ w).alloc (Nat.le_refl _) _
  refine wpIn_rangeFunc_ownG hro h1 (gf := 87) (lb := #[.pointer (some ⟨BP, 0, none⟩), .pointer (some ⟨BN, 0, none⟩), .pointer (some ⟨BM, 0, none⟩)]) rfl h8 (enters_of Try.func87 (by kernel_rfl) rfl)
    (deal_stops F (n - 1) h8 hro (by omega) BP BN BM w.heap.size m pl parts hm hpl hm5 hp6 _ hP hN hM (by simp) (celB hB0 cP) (celB hB0 cN) (celB hB0 cM)) belowK_t (belowK_b (by simp)) (Below.refl _ _) (fun _ => rfl)
    (fun pre W => (∃ v, Boxed W w.heap.size 22 v ∧ W.ownsRow w.heap.size 3 1 v pre.length (zCells pre) ∧ True) ∧ Below w.heap.size w W)
    (fun _ _ _ => False)
    (OwnFrom.and (Own.from (holdsRow_own w.heap.size w.heap.size 22 3 1 (fun pre : List Int => pre.length) (fun pre => zCells pre) (fun _ _ => True)) _) (ownFrom_below (Nat.le_refl _) (by simp)))
    (fun _ _ _ _ _ hs _ _ => hs)
    ⟨⟨_, bO, World.ownsRow_nil _ _ _ _, trivial⟩, hB0⟩
    (fun x => { tmps := #[.slice none 0 0, dealV BP BN BM, .pointer (some ⟨w.heap.size, 0, none⟩), undef, .slice none 0 0, .int .i64 x, dealV BP BN BM, .int .i64 x, undef, undef, undef, undef, undef], defers := [] }) ?assign ?body ?done ?stop
  case assign =>
    intro l x W K hK
    gi_wp2
    exact hK
  case body =>
    rintro l pre x W ⟨⟨v, hv, hrow, -⟩, hB⟩ hlt
    have hc := hv.cell
    gi_wp2_with (gi_at_builtin; refine wpListIn_append_own _ rfl _ _ 22 rfl w.heap.size 3 i0 (.int .i64 0) 1 8 Try.underlying22 hi hz0 hz1 hz2 rfl (by decide) _ _ _ rfl (hrow.alloc _) ⟨W.heap.size, 0, none⟩ 1 1 [.int .i64 x] rfl rfl (cell_one_new _ _ _) (by simp [Value.oneCell']) (by unfold maxLen; omega) (by omega) (by have := hB.size; simp; omega) ?_; intro v' w1 hown' hgrow _; obtain ⟨g', cap', rfl⟩ := ownsRow_succ hown'; obtain ⟨hv1, hv2, hr2, hk2, hb2⟩ := hv.appended (by decide) hrow hB.size (Nat.le_refl _) hown' hgrow; have hc1 := hv1.cell; have hf1 := hv1.frozen)
    exact ⟨hk2.from _, hb2, ⟨_, hv2, by simpa [zCells] using hr2, trivial⟩, hB.trans hb2⟩
  case done =>
    rintro D ys W hD rfl ⟨⟨v, hv, hrow, -⟩, hB⟩ hK
    have hc := hv.cell
    gi_wp2
    refine ⟨by simp, .inl ⟨_, _, rfl, run_takeDeferred hK, ?_⟩⟩
    exact ⟨_, results_tmp rfl _ _ _, v, rfl, ownsRow_putObj hrow _ hK rfl, hB.trans (belowK_b (w := w) (Nat.le_refl _) W D _ _ (by simp at hD; omega) hK rfl rfl)⟩
  case stop =>
    rintro D c pre W _ _ h _
    exact h.elim

set_option maxHeartbeats 1000000 in
theorem collect_in (F : Fence) (n : Nat) (h6 : F.fn 83) (h7 : F.fn 88) (h8 : F.fn 87) (hro : F.round = none) (hn : 4 ≤ n) (BP BN BM m pl parts : Nat) (hm : 0 < m) (hpl : pl < m) (hm5 : m ≤ 1000) (hp6 : parts ≤ 1000) (w : World) (hP : BP < w.heap.size) (hN : BN < w.heap.size) (hM : BM < w.heap.size)
    (cP : w.cell? ⟨BP, 0, none⟩ = some (.int .i64 (pl : Int))) (cN : w.cell? ⟨BN, 0, none⟩ = some (.int .i64 (parts : Int))) (cM : w.cell? ⟨BM, 0, none⟩ = some (.int .i64 (m : Int))) :
    CallsIn F n Try.prog 83 #[dealV BP BN BM] w fun e W' => ∃ v, e = .returned v ∧ W'.ownsRow w.heap.size 3 1 v (shTo m pl parts).length (zCells (shTo m pl parts)) ∧ Below w.heap.size w W' := by
  refine callsIn_of_wp Try.func83 rfl h6 ?_ hro
  simp only [Try.ntmps83, List.size_toArray, List.length_cons, List.length_nil, Nat.reduceAdd, Nat.reduceSub, Array.replicate_succ, Array.replicate_zero, List.push_toArray, List.append_toArray, List.nil_append, List.cons_append]
  gi_wp2
  refine ⟨fun _ => by omega, ?_⟩
  refine (appendSeq_in F (n - 1) h7 h8 hro (by omega) BP BN BM m pl parts hm hpl hm5 hp6 _ hP hN hM cP cN cM).mono ?_
  rintro e w' ⟨v, rfl, hrow, hb⟩
  gi_wp2
  go_ret
  exact ⟨v, rfl, hrow, hb⟩

/-- slices.Collect of the parts that are dealt out. -/
theorem collect_any (BP BN BM m pl parts : Nat) (hm : 0 < m) (hpl : pl < m) (hm5 : m ≤ 1000) (hp6 : parts ≤ 1000) (w : World)
    (hP : Boxed w BP 3 (.int .i64 (pl : Int))) (hN : Boxed w BN 3 (.int .i64 (parts : Int))) (hM : Boxed w BM 3 (.int .i64 (m : Int))) :
    Calls Try.prog 83 #[dealV BP BN BM] w fun e W' => ∃ a c, e = .returned (.slice a (shTo m pl parts).length c) ∧ Ints W' a (shTo m pl parts) ∧ (shTo m pl parts).length ≤ c ∧ RowI W' w.heap.size a (shTo m pl parts).length ∧ Below w.heap.size w W' := by
  refine ((callsIn_wide (n := 9)).1 (collect_in Fence.wide 9 trivial trivial trivial rfl (by omega) BP BN BM m pl parts hm hpl hm5 hp6 w hP.lt hN.lt hM.lt hP.cell hN.cell hM.cell)).mono ?_
  rintro e W' ⟨v, rfl, hrow, hb⟩
  obtain ⟨a, c, rfl, h1, h2⟩ := ownsZ_cap hrow
  exact ⟨a, c, rfl, (ints_of_owns hrow).1, h1, (ints_of_owns hrow).2, hb⟩

set_option maxRecDepth 100000 in
set_option maxHeartbeats 2000000 in
/-- What one who is in gets. -/
theorem shareFor_any (s : Rg) (k : Nat) (a0 a1 a2 : Option Addr) (c0 c1 c2 : Nat) (w : World) (hs : Rxs w a0 s.rds) (hk : k < s.rds.length) (hin : (rxA s.rds k).inn = true) (hn : s.rds.length ≤ 1000) (he : s.ends.length ≤ 1000) :
    Calls Try.prog 66 #[rgV s a0 c0 a1 c1 a2 c2, .int .i64 (k : Int)] w fun e w' => ∃ a' c', e = .returned (.slice a' (shareL s k).length c') ∧ Ints w' a' (shareL s k) ∧ (shareL s k).length ≤ c' ∧ RowI w' w.heap.size a' (shareL s k).length ∧ Below w.heap.size w w' := by
  obtain ⟨u0, hu0⟩ : ∃ u0, (w.alloc (.cells #[.int .i64 s.gen, .slice a0 s.rds.length c0, .slice a1 s.com.length c1, .slice a2 s.ends.length c2] 25)) = u0 := ⟨_, rfl⟩
  have q1 : u0.cell? ⟨w.heap.size, 1, none⟩ = some (.slice a0 s.rds.length c0) := by rw [← hu0]; simp [go_sem]
  have q3 : u0.cell? ⟨w.heap.size, 3, none⟩ = some (.slice a2 s.ends.length c2) := by rw [← hu0]; simp [go_sem]
  have bB : Below w.heap.size w u0 := by rw [← hu0]; exact alRg _ _
  have hml := manyTo_le s.rds s.rds.length
  have hlt : manyTo s.rds k < manyTo s.rds s.rds.length := by
    have h1 : manyTo s.rds (k + 1) = manyTo s.rds k + 1 := by rw [manyTo, if_pos hin]
    have h2 : ∀ d, manyTo s.rds (k + 1) ≤ manyTo s.rds (k + 1 + d) := by
      intro d
      induction d with
      | zero => exact Nat.le_refl _
      | succ d ih => exact Nat.le_trans ih (by show _ ≤ manyTo s.rds (k + 1 + d) + _; exact Nat.le_add_right _ _)
    have h3 := h2 (s.rds.length - (k + 1))
    rw [show k + 1 + (s.rds.length - (k + 1)) = s.rds.length by omega] at h3
    omega
  go_enter Try.func66, Try.ntmps66
  go_wp2_with fail
  refine (dealtTo_any s.rds k s.ends.length _ _ _ (hs.below bB) (by omega) hn).mono ?_
  rintro e w1 ⟨rfl, ⟨bP, bN, bM⟩, hB1⟩
  go_wp2_with fail
  refine (collect_any _ _ _ (manyTo s.rds s.rds.length) (manyTo s.rds k) s.ends.length (by omega) hlt (by omega) (by omega) _ bP bN bM).mono ?_
  rintro e w2 ⟨a', c', rfl, hI, hc, hR, hB2⟩
  have HL : Hid (shareL s k = shTo (manyTo s.rds s.rds.length) (manyTo s.rds k) s.ends.length) := rfl
  have BB := stRg bB (stRg hB1 hB2)
  have h1 := hB1.size
  have h2 := bB.size
  have hR' : RowI w2 w.heap.size a' (shTo (manyTo s.rds s.rds.length) (manyTo s.rds k) s.ends.length).length := by
    rcases hR with hR | ⟨g, N, f, r1, r2, r3, r4⟩
    · exact .inl hR
    · exact .inr ⟨g, N, f, r1, by omega, r3, r4⟩
  clear hu0 hR bP bN bM hlt
  go_wp2
  refine bodyPost_ret (v := .slice a' (shTo (manyTo s.rds s.rds.length) (manyTo s.rds k) s.ends.length).length c') (by simp [results, Try.results66, go_sem]) rfl ⟨a', c', by rw [HL.out], by rw [HL.out]; exact hI, by rw [HL.out]; exact hc, by rw [HL.out]; exact hR', BB⟩

end Go.Proofs.Ytgiekkipkgdjaaa
