/-
  Groups that read, the program's side: how parts are dealt out: impl.dealtTo and the function that it answers (an iterator).
-/
import Derived.RangeFuncNested
import Derived.RangeFuncBound
import Derived.RangeFuncCalls
import Derived.RangeFuncLeaves
import Derived.RangeFuncBox
import Derived.Shelf.Abstract
import Derived.OwnWalkIn
import Derived.TacticsInMore
import Derived.LoopNIn
import Derived.LoopIn
import Derived.Maps.AppendAt
import Derived.Test.YtgiekkipkgdjaaaRgS
namespace Go.Proofs.Ytgiekkipkgdjaaa
open Go.RowKit

theorem stB {w a b : World} (h : Below w.heap.size w a) (k : Below a.heap.size a b) : Below w.heap.size w b := h.trans (k.mono h.size)

/-- How many of the first j come ahead of k. -/
theorem manyTo_min (l : List Rx) (k j : Nat) : manyTo l (min k (j + 1)) = manyTo l (min k j) + if (rxA l j).inn = true ∧ j < k then 1 else 0 := by
  by_cases h : j < k
  · rw [show min k (j + 1) = j + 1 by omega, show min k j = j by omega, manyTo]
    by_cases hb : (rxA l j).inn = true
    · rw [if_pos hb, if_pos ⟨hb, h⟩]
    · rw [if_neg hb, if_neg (fun g => hb g.1)]
  · rw [show min k (j + 1) = k by omega, show min k j = k by omega, if_neg (fun g => h g.2), Nat.add_zero]

/-- Between two parts of one who gets parts there is none. -/
theorem shTo_gap {m pl p : Nat} (hm : 0 < m) (hp : p % m = pl) : ∀ d, d < m → shTo m pl (p + 1 + d) = shTo m pl p ++ [(p : Int)]
  | 0, _ => by rw [Nat.add_zero]; exact shTo_t ⟨hm, hp⟩
  | d + 1, hd => by
    rw [show p + 1 + (d + 1) = (p + 1 + d) + 1 by omega, shTo_f, shTo_gap hm hp d (by omega)]
    rintro ⟨-, h⟩
    have h2 : (p + (1 + d)) % m = p % m := by rw [show p + (1 + d) = p + 1 + d by omega, h, hp]
    have h3 : (p + (1 + d) - p) % m = 0 := Nat.sub_mod_eq_zero_of_mod_eq h2
    rw [show p + (1 + d) - p = 1 + d by omega, Nat.mod_eq_of_lt (by omega)] at h3
    omega
theorem shTo_next {m pl p : Nat} (hm : 0 < m) (hp : p % m = pl) : shTo m pl (p + m) = shTo m pl p ++ [(p : Int)] := by
  have := shTo_gap hm hp (m - 1) (by omega)
  rwa [show p + 1 + (m - 1) = p + m by omega] at this
theorem shTo_back {m pl p : Nat} (hm : 0 < m) (hp : p % m = pl) : ∀ d, d < m → d ≤ p → shTo m pl p = shTo m pl (p - d)
  | 0, _, _ => by rw [Nat.sub_zero]
  | d + 1, hd, hdp => by
    rw [shTo_back hm hp d (by omega) (by omega), show p - d = (p - (d + 1)) + 1 by omega, shTo_f]
    rintro ⟨-, h⟩
    have h2 : p % m = (p - (d + 1)) % m := by rw [h, hp]
    have h3 : (p - (p - (d + 1))) % m = 0 := Nat.sub_mod_eq_zero_of_mod_eq h2
    rw [show p - (p - (d + 1)) = d + 1 by omega, Nat.mod_eq_of_lt (by omega)] at h3
    omega
theorem shTo_start {m pl : Nat} (h : pl < m) : shTo m pl pl = [] := by
  have h1 : ∀ q, q ≤ pl → shTo m pl q = [] := by
    intro q
    induction q with
    | zero => intro _; rfl
    | succ q ih =>
      intro hq
      rw [shTo_f, ih (by omega)]
      rintro ⟨-, g⟩
      rw [Nat.mod_eq_of_lt (by omega)] at g
      omega
  exact h1 pl (Nat.le_refl _)

set_option maxRecDepth 100000 in
set_option maxHeartbeats 4000000 in
theorem dealtTo_any (l : List Rx) (k parts : Nat) (a : Option Addr) (c : Nat) (w : World) (hs : Rxs w a l) (hk : k ≤ l.length) (hn : l.length ≤ 1000) :
    Calls Try.prog 82 #[.slice a l.length c, .int .i64 (k : Int), .int .i64 (parts : Int)] w fun e w' =>
      e = .returned (.func (.func 87) #[] #[.pointer (some ⟨w.heap.size + 1, 0, none⟩), .pointer (some ⟨w.heap.size, 0, none⟩), .pointer (some ⟨w.heap.size + 2, 0, none⟩)])
      ∧ (Boxed w' (w.heap.size + 1) 3 (.int .i64 ((manyTo l k : Nat) : Int)) ∧ Boxed w' w.heap.size 3 (.int .i64 (parts : Int)) ∧ Boxed w' (w.heap.size + 2) 3 (.int .i64 ((manyTo l l.length : Nat) : Int))) ∧ Below w.heap.size w w' := by
  have b0 := Boxed.new w 3 (.int .i64 (parts : Int))
  have b1 := Boxed.new (w.alloc (.cells #[.int .i64 (parts : Int)] 3)) 3 (.int .i64 0)
  have b2 := Boxed.new ((w.alloc (.cells #[.int .i64 (parts : Int)] 3)).alloc (.cells #[.int .i64 0] 3)) 3 (.int .i64 0)
  obtain ⟨u0, hu0⟩ : ∃ u, ((w.alloc (.cells #[.int .i64 (parts : Int)] 3)).alloc (.cells #[.int .i64 0] 3)).alloc (.cells #[.int .i64 0] 3) = u := ⟨_, rfl⟩
  have B0 : Boxed u0 w.heap.size 3 (.int .i64 (parts : Int)) := by rw [← hu0]; exact (b0.alloc _).alloc _
  have B1 : Boxed u0 (w.heap.size + 1) 3 (.int .i64 0) := by rw [← hu0]; simpa using b1.alloc _
  have B2 : Boxed u0 (w.heap.size + 2) 3 (.int .i64 0) := by rw [← hu0]; simpa using b2
  have bB : Below w.heap.size w u0 := by rw [← hu0]; exact (((Below.refl _ w).alloc (Nat.le_refl _) _).alloc (by simp) _).alloc (by simp; omega) _
  have HU := (show Hid (_ = u0) from hu0)
  clear b0 b1 b2 hu0
  go_enter Try.func82, Try.ntmps82
  go_wp2
  try rw [HU.out]
  go_loopw [13] (fun i wr => ∃ j : Nat, j ≤ l.length ∧ i = .int .i64 j ∧ Hid (Boxed wr (w.heap.size + 1) 3 (.int .i64 ((manyTo l (min k j) : Nat) : Int)) ∧ Boxed wr w.heap.size 3 (.int .i64 (parts : Int)) ∧ Boxed wr (w.heap.size + 2) 3 (.int .i64 ((manyTo l j : Nat) : Int))) ∧ Below w.heap.size w wr) (fun i _ => l.length - (intOf i).toNat)
  case atStart => exact ⟨0, Nat.zero_le _, rfl, ⟨by simpa [manyTo] using B1, B0, by simpa [manyTo] using B2⟩, bB⟩
  case round =>
    clear B0 B1 B2 bB HU
    obtain ⟨j, hj, rfl, HB, hB⟩ := hrel
    have h1 := manyTo_le l (min k j)
    have h2 := manyTo_le l j
    by_cases hlt : j < l.length
    · obtain ⟨kb, ob, rfl, r2, k2, r3, k3, e0, e1, e2, e3, z2, m2, z3, m3⟩ := (hs.below hB) j _ (rxA_get hlt)
      have hji : (j : Int) < (l.length : Int) := by omega
      have HP : Hid (manyTo l (min k (j + 1)) = manyTo l (min k j) + if (rxA l j).inn = true ∧ j < k then 1 else 0) := manyTo_min l k j
      have HM : Hid (manyTo l (j + 1) = manyTo l j + if (rxA l j).inn = true then 1 else 0) := rfl
      obtain ⟨x, hx⟩ : ∃ x, rxA l j = x := ⟨_, rfl⟩
      obtain ⟨M, hM⟩ : ∃ M, manyTo l j = M := ⟨_, rfl⟩
      obtain ⟨Q, hQ⟩ : ∃ Q, manyTo l (min k j) = Q := ⟨_, rfl⟩
      rw [hM, hQ] at HB
      rw [hQ, hx] at HP
      rw [hM, hx] at HM
      rw [hM] at h2
      rw [hQ] at h1
      rw [hx] at e0 e1 e2 e3
      obtain ⟨b, hb⟩ : ∃ b, x.inn = b := ⟨_, rfl⟩
      rw [hb] at e0 HM HP
      obtain ⟨bP, bN, bM⟩ := HB.out
      have hMn : M ≤ 1000 := by omega
      have hQn : Q ≤ 1000 := by omega
      have cP : ∀ o, (wr.alloc o).cell? ⟨w.heap.size + 1, 0, none⟩ = some (.int .i64 (Q : Int)) := fun o => (bP.alloc o).cell
      have fP : ∀ o, (wr.alloc o).frozen? ⟨w.heap.size + 1, 0, none⟩ = false := fun o => (bP.alloc o).frozen
      have cM : ∀ o, (wr.alloc o).cell? ⟨w.heap.size + 1 + 1, 0, none⟩ = some (.int .i64 (M : Int)) := fun o => (bM.alloc o).cell
      have fM : ∀ o, (wr.alloc o).frozen? ⟨w.heap.size + 1 + 1, 0, none⟩ = false := fun o => (bM.alloc o).frozen
      have cM2 : ∀ o v, ((wr.alloc o).setCell ⟨w.heap.size + 1, 0, none⟩ v).cell? ⟨w.heap.size + 1 + 1, 0, none⟩ = some (.int .i64 (M : Int)) := fun o v => ((bM.alloc o).other (by omega) v).cell
      have cR : ∀ v, ((wr.alloc (.cells #[.bool b, .int .i64 x.gen, .slice r2 x.share.length k2, .slice r3 x.read.length k3] 67)).setCell ⟨w.heap.size + 1, 0, none⟩ v).cell? ⟨wr.heap.size, 0, none⟩ = some (.bool b) := fun v => by
        have hne : wr.heap.size ≠ w.heap.size + 1 := by have := bP.lt; omega
        simp [go_sem]
      have fM2 : ∀ o v, ((wr.alloc o).setCell ⟨w.heap.size + 1, 0, none⟩ v).frozen? ⟨w.heap.size + 1 + 1, 0, none⟩ = false := fun o v => ((bM.alloc o).other (by omega) v).frozen
      have HBP : Hid (Boxed wr (w.heap.size + 1) 3 (.int .i64 (Q : Int))) := bP
      have HBN : Hid (Boxed wr w.heap.size 3 (.int .i64 (parts : Int))) := bN
      have HBM : Hid (Boxed wr (w.heap.size + 1 + 1) 3 (.int .i64 (M : Int))) := bM
      have bA : ∀ o, Below w.heap.size w (wr.alloc o) := fun o => hB.alloc hB.size o
      clear hx hM hQ hb z2 z3 m2 m3 HB bP bN bM hs h1 h2
      by_cases hjk : j < k
      · have d1 : decide ((j : Int) < (k : Int)) = true := by simp; omega
        have d2 : (j : Int) < (k : Int) := by omega
        cases b
        · have HP' : Hid (manyTo l (min k (j + 1)) = Q) := by show _ = _; rw [HP.out]; simp
          have HM' : Hid (manyTo l (j + 1) = M) := by show _ = _; rw [HM.out]; simp
          clear HP HM
          go_wp2
          go_roundw
          case rel => exact ⟨j + 1, by omega, by go_num, ⟨by rw [HP'.out]; exact HBP.out.alloc _, HBN.out.alloc _, by rw [HM'.out]; exact HBM.out.alloc _⟩, bA _⟩
          case measure => simp [intOf]; omega
        · have HP' : Hid (manyTo l (min k (j + 1)) = Q + 1) := by show _ = _; rw [HP.out]; simp [hjk]
          have HM' : Hid (manyTo l (j + 1) = M + 1) := by show _ = _; rw [HM.out]; simp
          clear HP HM
          go_wp2
          go_roundw
          case rel =>
            refine ⟨j + 1, by omega, by go_num, ⟨?_, (((HBN.out.alloc _).other (by omega) _).other (by omega) _), ?_⟩, ((bA _).setCell (Nat.le_succ _) _).setCell (Nat.le_succ_of_le (Nat.le_succ _)) _⟩
            · rw [HP'.out]
              have := (((HBP.out.alloc (.cells #[.bool true, .int .i64 x.gen, .slice r2 x.share.length k2, .slice r3 x.read.length k3] 67)).set (.int .i64 ((Q : Int) + 1))).other (B' := w.heap.size + 1 + 1) (by omega) (.int .i64 ((M : Int) + 1)))
              simpa using this
            · rw [HM'.out]
              have := (((HBM.out.alloc (.cells #[.bool true, .int .i64 x.gen, .slice r2 x.share.length k2, .slice r3 x.read.length k3] 67)).other (B' := w.heap.size + 1) (by omega) (.int .i64 ((Q : Int) + 1))).set (.int .i64 ((M : Int) + 1)))
              simpa using this
          case measure => simp [intOf]; omega
      · have d1 : decide ((j : Int) < (k : Int)) = false := by simp; omega
        have d2 : (k : Int) ≤ (j : Int) := by omega
        cases b
        · have HP' : Hid (manyTo l (min k (j + 1)) = Q) := by show _ = _; rw [HP.out]; simp
          have HM' : Hid (manyTo l (j + 1) = M) := by show _ = _; rw [HM.out]; simp
          clear HP HM
          go_wp2
          go_roundw
          case rel => exact ⟨j + 1, by omega, by go_num, ⟨by rw [HP'.out]; exact HBP.out.alloc _, HBN.out.alloc _, by rw [HM'.out]; exact HBM.out.alloc _⟩, bA _⟩
          case measure => simp [intOf]; omega
        · have HP' : Hid (manyTo l (min k (j + 1)) = Q) := by show _ = _; rw [HP.out]; simp [hjk]
          have HM' : Hid (manyTo l (j + 1) = M + 1) := by show _ = _; rw [HM.out]; simp
          clear HP HM
          go_wp2
          go_roundw
          case rel =>
            refine ⟨j + 1, by omega, by go_num, ⟨by rw [HP'.out]; exact (HBP.out.alloc _).other (by omega) _, (HBN.out.alloc _).other (by omega) _, ?_⟩, (bA _).setCell (Nat.le_succ_of_le (Nat.le_succ _)) _⟩
            rw [HM'.out]
            have := ((HBM.out.alloc (.cells #[.bool true, .int .i64 x.gen, .slice r2 x.share.length k2, .slice r3 x.read.length k3] 67)).set (.int .i64 ((M : Int) + 1)))
            simpa using this
          case measure => simp [intOf]; omega
    · obtain rfl : j = l.length := by omega
      have HBk : Hid (min k l.length = k) := by show _ = _; omega
      clear hs
      go_wp2
      exact bodyPost_ret (v := .func (.func 87) #[] #[.pointer (some ⟨w.heap.size + 1, 0, none⟩), .pointer (some ⟨w.heap.size, 0, none⟩), .pointer (some ⟨w.heap.size + 1 + 1, 0, none⟩)]) (by simp [results, Try.results82, go_sem]) rfl ⟨rfl, ⟨by have := HB.out.1; rwa [HBk.out] at this, HB.out.2.1, HB.out.2.2⟩, hB⟩

end Go.Proofs.Ytgiekkipkgdjaaa
