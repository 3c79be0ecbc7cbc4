/-
  Places, the program's side: roomsFor.
-/
import Derived.Test.YtmpchddfijcjfaaHmI6
namespace Go.Proofs.Ytmpchddfijcjfaa
open Go.RowKit Go.Maps

set_option maxRecDepth 100000 in
set_option maxHeartbeats 2000000 in
theorem stable_any (f : Int → Option Int) (Bx Bm n g m cap : Nat) (l : List Int) (w : World) (cB : w.cell? ⟨Bx, 0, none⟩ = some (.map (some Bm))) (hM : HM w Bm n f) (hv : ∀ z, 0 ≤ ldv f z ∧ ldv f z ≤ 1000) (hx : Bx ≠ g) (hm : Bm ≠ g)
    (hR : IR w g m l) (hl : l.length ≤ 12) (h1 : 1 ≤ l.length) (hz : ∀ z, z ∈ l → 0 ≤ z ∧ z ≤ 1000) (ha : l.Pairwise (fun a b => a < b)) :
    Calls Try.prog 65 #[.slice (some ⟨g, 0, none⟩) l.length cap, .int .i64 (l.length : Int), .func (.func 53) #[] #[.pointer (some ⟨Bx, 0, none⟩)]] w fun e w' =>
      e = .returned (.tuple #[]) ∧ ∃ L, IR w' g m L ∧ L.Perm l ∧ L.Pairwise (btH (ldv f)) ∧ w.grownBy w' (some g) := by
  have HC := (show Hid _ from insCmp_any f Bx Bm n g m cap l w cB hM hv hx hm hR (by omega) h1 hz ha)
  have d1 : ¬ (20 : Int) ≤ (l.length : Int) := by omega
  have d2 : ¬ (20 : Int) < (l.length : Int) := by omega
  clear cB hM hv hR hz ha
  go_enter Try.func65, Try.ntmps65
  go_wp2
  refine wp_loop_rounds 1 ?_
  rw [rounds_succ]
  go_wp2_with fail
  refine Calls.mono HC.out ?_
  rintro e w1 ⟨rfl, L, k1, k2, k3, k4⟩
  clear HC
  go_wp2
  refine wp_loop_rounds 1 ?_
  rw [rounds_succ]
  go_wp2
  go_end0
  exact ⟨rfl, L, k1, k2, k3, k4⟩

theorem sortStable_any (f : Int → Option Int) (Bx Bm n g m cap : Nat) (l : List Int) (w : World) (cB : w.cell? ⟨Bx, 0, none⟩ = some (.map (some Bm))) (hM : HM w Bm n f) (hv : ∀ z, 0 ≤ ldv f z ∧ ldv f z ≤ 1000) (hx : Bx ≠ g) (hm : Bm ≠ g)
    (hR : IR w g m l) (hl : l.length ≤ 12) (h1 : 1 ≤ l.length) (hz : ∀ z, z ∈ l → 0 ≤ z ∧ z ≤ 1000) (ha : l.Pairwise (fun a b => a < b)) :
    Calls Try.prog 52 #[.slice (some ⟨g, 0, none⟩) l.length cap, .func (.func 53) #[] #[.pointer (some ⟨Bx, 0, none⟩)]] w fun e w' =>
      e = .returned (.tuple #[]) ∧ ∃ L, IR w' g m L ∧ L.Perm l ∧ L.Pairwise (btH (ldv f)) ∧ w.grownBy w' (some g) := by
  have HC := (show Hid _ from stable_any f Bx Bm n g m cap l w cB hM hv hx hm hR hl h1 hz ha)
  clear cB hM hv hR hz ha
  go_enter Try.func52, Try.ntmps52
  go_wp2_with fail
  refine Calls.mono HC.out ?_
  rintro e w1 ⟨rfl, L, k1, k2, k3, k4⟩
  clear HC
  go_wp2
  go_end0
  exact ⟨rfl, L, k1, k2, k3, k4⟩

set_option maxRecDepth 100000 in
set_option maxHeartbeats 4000000 in
theorem roomsFor_any (B N items : Nat) (f : Int → Option Int) (w : World) (hM : HM w B 100 f) (hN : N ≤ 6) (hf : ∀ z, (f z).isSome = true → 0 ≤ z ∧ z < (N : Int)) (h0 : 0 < (keysL N f).length) (hv : ∀ z, 0 ≤ ldv f z ∧ ldv f z ≤ 1000) (hi : items ≤ 16) :
    Calls Try.prog 47 #[.map (some B), .int .i64 (items : Int)] w fun e w' => ∃ (B2 : Nat) (L : List Int), e = .returned (.map (some B2)) ∧ w.heap.size ≤ B2 ∧ L.Perm (keysL N f) ∧ L.Pairwise (btH (ldv f)) ∧ HM w' B2 100 (rkF L ((items / L.length : Nat) : Int) (items % L.length) L.length) ∧ Below w.heap.size w w' := by
  have HB : ∀ o, Below w.heap.size w (w.alloc o) := fun o => alHm w o
  have hM1 : ∀ o, HM (w.alloc o) B 100 f := fun o => hM.below (HB o)
  have HV : Hid (∀ z, 0 ≤ ldv f z ∧ ldv f z ≤ 1000) := hv
  have HKL := (show Hid _ from keysL_lt N f)
  have HKM : Hid (∀ z, z ∈ keysL N f → 0 ≤ z ∧ z ≤ 1000) := fun z hz => by have := hf z ((keysL_mem hf z).1 hz); omega
  have hkn := keysL_len N f
  have HIN := (show Hid _ from fun (u : World) (hu : HM u B 100 f) => inOrder_any B 100 N f u hu (by omega) hf h0 (by omega))
  have hbl := hM.lt
  clear hf hv
  obtain ⟨ks, hks⟩ : ∃ ks, keysL N f = ks := ⟨_, rfl⟩
  rw [hks] at HKL HKM hkn HIN h0 ⊢
  clear hks hM
  go_enter Try.func47, Try.ntmps47
  go_wp2_with fail
  refine Calls.mono (HIN.out _ (hM1 _)) ?_
  rintro e w1 ⟨g, m, c, rfl, hir, hg, hB1⟩
  clear HIN
  obtain ⟨u0, hu0⟩ : ∃ u, w.alloc (.cells #[.map (some B)] 42) = u := ⟨_, rfl⟩
  have hu0s : u0.heap.size = w.heap.size + 1 := by rw [← hu0]; simp
  have cB0 : u0.cell? ⟨w.heap.size, 0, none⟩ = some (.map (some B)) := by rw [← hu0]; simp [go_sem]
  have hMu : HM u0 B 100 f := by rw [← hu0]; exact hM1 _
  have HBu : Below w.heap.size w u0 := by rw [← hu0]; exact HB _
  rw [hu0] at hg hB1
  clear hu0 hM1 HB
  have cB1 := celHm hB1 cB0
  have hMw := hMu.below hB1
  have BB1 := stHm HBu hB1
  have hxg : w.heap.size ≠ g := by omega
  have hmg : B ≠ g := by omega
  have hsg : w.heap.size ≤ g := by omega
  clear hMu HBu cB0 hB1 hu0s hg
  go_wp2_with fail
  refine (sortStable_any f w.heap.size B 100 g m c ks w1 cB1 hMw HV.out hxg hmg hir (by omega) (by omega) HKM.out HKL.out).mono ?_
  rintro e w2 ⟨rfl, L, k1, k2, k3, k4⟩
  have BB2 := BB1.grown k4 BB1.size (fun j hj => by cases hj; exact hsg)
  have hLL : ks.length = L.length := k2.length_eq.symm
  rw [hLL] at hkn h0 ⊢
  have HP : Hid (L.Perm ks) := k2
  have HO : Hid (L.Pairwise (btH (ldv f))) := k3
  have HZ : Hid (∀ i, i < L.length → 0 ≤ zA L i ∧ zA L i ≤ 1000) := fun i hi => HKM.out _ (k2.mem_iff.1 (List.mem_of_getElem? (zA_get hi)))
  have hint := k1.ints
  have hgl := k1.lt
  clear cB1 hMw hir BB1 k2 k3 k4 hLL k1 HV HKL HKM
  have hmm := run_makeMapN (L.length : Int) w2
  have hM0 : HM (w2.alloc (.map #[] 0)) w2.heap.size 0 (fun _ => none) := ⟨.map [], World.ownsMap_made _ _ _ _, RdM.empty⟩
  have hBm : Below w2.heap.size w2 (w2.alloc (.map #[] 0)) := alHm _ _
  obtain ⟨u3, hu3⟩ : ∃ u, w2.alloc (.map #[] 0) = u := ⟨_, rfl⟩
  rw [hu3] at hmm hM0 hBm
  have BB3 := stHm BB2 hBm
  have hint3 := hint.below hBm
  have hB2 : w.heap.size ≤ w2.heap.size := BB2.size
  obtain ⟨B2, hB2e⟩ : ∃ b, w2.heap.size = b := ⟨_, rfl⟩
  rw [hB2e] at hmm hM0 hB2 hgl
  have hgB : g ≠ B2 := by omega
  obtain ⟨q, hq⟩ : ∃ q, items / L.length = q := ⟨_, rfl⟩
  obtain ⟨r, hr⟩ : ∃ r, items % L.length = r := ⟨_, rfl⟩
  have hql : q ≤ 16 := by rw [← hq]; exact Nat.le_trans (Nat.div_le_self _ _) hi
  have hdv : Int.tdiv (items : Int) (L.length : Int) = (q : Int) := by rw [← hq]; rfl
  have hrm : Int.tmod (items : Int) (L.length : Int) = (r : Int) := by rw [← hr]; rfl
  have hwq : IntKind.i64.wrap (q : Int) = (q : Int) := by rw [IntKind.wrap_i64]; omega
  have hL0 : ¬ (L.length : Int) = 0 := by omega
  have hrl : r ≤ 16 := by rw [← hr]; exact Nat.le_trans (Nat.mod_le _ _) hi
  have hwr : IntKind.i64.wrap (r : Int) = (r : Int) := by rw [IntKind.wrap_i64]; omega
  have HQ : Hid (items / L.length = q) := hq
  have HRR : Hid (items % L.length = r) := hr
  clear hu3 hB2e hBm BB2 hint hq hr
  go_wp2
  clear hmm
  go_loopw [20] (fun vi wr => ∃ i : Nat, i ≤ L.length ∧ vi = .int .i64 i ∧ HM wr B2 i (rkF L (q : Int) r i) ∧ g < wr.heap.size ∧ Ints wr (some ⟨g, 0, none⟩) L ∧ Below w.heap.size w wr) (fun vi _ => L.length - (intOf vi).toNat)
  case atStart => exact ⟨0, Nat.zero_le _, rfl, hM0, by have := hM0.lt; omega, hint3, BB3⟩
  case round =>
    clear hM0 hint3 BB3 hgl
    obtain ⟨i, hiL, rfl, hMi, hgl, hint, hB⟩ := hrel
    by_cases hlt : i < L.length
    · obtain ⟨b1, o1, e1, hc1⟩ := hint i _ (zA_get hlt)
      simp only [Option.some.injEq, Addr.mk.injEq, and_true] at e1
      obtain ⟨rfl, rfl⟩ := e1
      rw [Nat.zero_add] at hc1
      have hki : (i : Int) < (L.length : Int) := by omega
      have hxb := HZ.out i hlt
      obtain ⟨x, hx⟩ : ∃ x, zA L i = x := ⟨_, rfl⟩
      have HX : Hid (zA L i = x) := hx
      rw [hx] at hc1 hxb
      obtain ⟨D, hown, hrd⟩ := hMi
      have HRD : Hid (RdM D (rkF L (q : Int) r i)) := hrd
      have HINT : Hid (Ints wr (some ⟨g, 0, none⟩) L) := hint
      have hwz := hB.size
      clear hx hrd hint
      have KEEP : Hid (∀ w5, wr.grownBy w5 (some B2) → g < w5.heap.size ∧ Ints w5 (some ⟨g, 0, none⟩) L ∧ Below w.heap.size w w5) := fun w5 hg5 => ⟨Nat.lt_of_lt_of_le hgl hg5.size, HINT.out.of_block (fun b hb => hg5.block b (HINT.out.lt b hb) (by obtain ⟨-, o, s, e⟩ := hb; simp only [Option.some.injEq, Addr.mk.injEq] at e; rw [← e.1]; simpa using hgB)), hB.grown hg5 hB.size (fun j hj => by cases hj; exact hB2)⟩
      by_cases hir : i < r
      · have hir2 : (i : Int) < (r : Int) := by omega
        have HS : Hid (rkF L (q : Int) r (i + 1) = upM (rkF L (q : Int) r i) x (some ((q : Int) + 1))) := by show _ = _; rw [rkF, rmAt, if_pos hir, if_pos (by omega), HX.out]
        go_wp2_with (first | (at_mapUpdate; refine wpList_mapUpdate_own _ rfl _ _ _ 42 rfl 3 3 Try.keyI Try.underlying42 _ B2 i _ rfl hown (by unfold maxLen; omega) _ _ _ rfl rfl (keyOfI (by omega)) _ [] (elemI (by omega)) ?_; intro w5 hown5 hgr5) | go_in)
        obtain ⟨p1, p2, p3⟩ := KEEP.out w5 hgr5
        go_roundw
        case rel => exact ⟨i + 1, by omega, by go_num, ⟨_, hown5, by rw [HS.out]; exact HRD.out.put hown.isMap _ _⟩, p1, p2, p3⟩
        case measure => simp [intOf]; omega
      · have hir2 : ¬ (i : Int) < (r : Int) := by omega
        by_cases hq0 : 0 < q
        · have HS : Hid (rkF L (q : Int) r (i + 1) = upM (rkF L (q : Int) r i) x (some (q : Int))) := by show _ = _; rw [rkF, rmAt, if_neg hir, if_pos (by omega), HX.out]
          have dq : decide ((0 : Int) < (q : Int)) = true := by simp; omega
          have dq1 : decide (0 < q) = true := by simp; omega
          go_wp2_with (first | (at_mapUpdate; refine wpList_mapUpdate_own _ rfl _ _ _ 42 rfl 3 3 Try.keyI Try.underlying42 _ B2 i _ rfl hown (by unfold maxLen; omega) _ _ _ rfl rfl (keyOfI (by omega)) _ [] (elemI (by omega)) ?_; intro w5 hown5 hgr5) | go_in)
          obtain ⟨p1, p2, p3⟩ := KEEP.out w5 hgr5
          go_roundw
          case rel => exact ⟨i + 1, by omega, by go_num, ⟨_, hown5, by rw [HS.out]; exact HRD.out.put hown.isMap _ _⟩, p1, p2, p3⟩
          case measure => simp [intOf]; omega
        · have HS : Hid (rkF L (q : Int) r (i + 1) = rkF L (q : Int) r i) := by show _ = _; rw [rkF, rmAt, if_neg hir, if_neg (by omega)]
          have dq : decide ((0 : Int) < (q : Int)) = false := by simp; omega
          have dq1 : decide (0 < q) = false := by simp; omega
          have hM2 : HM wr B2 (i + 1) (rkF L (q : Int) r (i + 1)) := by rw [HS.out]; exact ⟨D, hown.mono (by omega), HRD.out⟩
          clear hq0
          go_wp2
          go_roundw
          case rel => exact ⟨i + 1, by omega, by go_num, hM2, hgl, HINT.out, hB⟩
          case measure => simp [intOf]; omega
    · obtain rfl : i = L.length := by omega
      have hM2 := hMi.mono (by omega : L.length ≤ 100)
      clear hMi
      go_wp2
      go_ret
      exact ⟨B2, L, rfl, hB2, HP.out, HO.out, by rw [HQ.out, HRR.out]; exact hM2, hB⟩

end Go.Proofs.Ytmpchddfijcjfaa
