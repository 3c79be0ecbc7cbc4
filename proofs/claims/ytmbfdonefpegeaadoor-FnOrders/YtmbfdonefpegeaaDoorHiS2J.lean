/-
  Histories, the specification's side: l15Call, GoodCalls. Made by mkhis.py.
  Histories, the specification's side: orders, which are legal, which respect time. Made by mkhis.py.
-/
import Derived.Test.YtmbfdonefpegeaaDoorHiM
import Derived.Test.YtmbfdonefpegeaaDoorQSpec
import Derived.Deep.RegionHeld3
import Derived.WalkMore
import Derived.BigQuiet
namespace Go.Proofs.YtmbfdonefpegeaaDoor
open Go.RowKit

abbrev clV (x : Cl) : Value := .agg #[.int .i64 x.client, .int .i64 x.object, .bool x.write, .int .i64 x.value, .int .i64 x.beg, .int .i64 x.fin]
theorem alHi (u : World) (o : Obj) : Below u.heap.size u (u.alloc o) := (Below.refl _ _).alloc (Nat.le_refl _) o
theorem stHi {w u v : World} (h1 : Below w.heap.size w u) (h2 : Below u.heap.size u v) : Below w.heap.size w v := h1.trans (h2.mono h1.size)

theorem l1In_c (n lo hi : Int) (b : Bool) (w : World) (h : inB n lo hi = b) : Calls Tryd.prog 31 #[.int .i64 n, .int .i64 lo, .int .i64 hi] w fun e w' => e = .returned (.bool b) ∧ w' = w := by
  rw [← h]; exact l1In_any n lo hi w

set_option maxRecDepth 100000 in
set_option maxHeartbeats 4000000 in
theorem l15Call_any (x : Cl) (w : World) :
    Calls Tryd.prog 39 #[clV x] w fun r w' => r = .returned (.bool (okCl x)) ∧ Below w.heap.size w w' := by
  have HB : ∀ o, Below w.heap.size w (w.alloc o) := fun o => alHi w o
  cases h0 : x.write with
  | true =>
    cases g1 : inB x.client 0 3 with
    | false =>
      have HE : Hid (okCl x = false) := by show _ = _; simp [okCl, h0, g1]
      rw [HE.out]
      unfold clV
      rw [h0]
      go_enter Tryd.func39, Tryd.ntmps39
      go_wp2_with (go_at_call 31; refine (l1In_c _ _ _ _ _ (by first | exact g1 | exact g2 | exact g3 | exact g5 | exact g6)).mono ?_; rintro e w' ⟨rfl, rfl⟩)
      go_ret
      exact ⟨ret_bool (by first | rfl | (simp; omega)), HB _⟩
    | true =>
      cases g2 : inB x.object 0 2 with
      | false =>
        have HE : Hid (okCl x = false) := by show _ = _; simp [okCl, h0, g1, g2]
        rw [HE.out]
        unfold clV
        rw [h0]
        go_enter Tryd.func39, Tryd.ntmps39
        go_wp2_with (go_at_call 31; refine (l1In_c _ _ _ _ _ (by first | exact g1 | exact g2 | exact g3 | exact g5 | exact g6)).mono ?_; rintro e w' ⟨rfl, rfl⟩)
        go_ret
        exact ⟨ret_bool (by first | rfl | (simp; omega)), HB _⟩
      | true =>
        cases g3 : inB x.value 0 9 with
        | false =>
          have HE : Hid (okCl x = false) := by show _ = _; simp [okCl, h0, g1, g2, g3]
          rw [HE.out]
          unfold clV
          rw [h0]
          go_enter Tryd.func39, Tryd.ntmps39
          go_wp2_with (go_at_call 31; refine (l1In_c _ _ _ _ _ (by first | exact g1 | exact g2 | exact g3 | exact g5 | exact g6)).mono ?_; rintro e w' ⟨rfl, rfl⟩)
          go_ret
          exact ⟨ret_bool (by first | rfl | (simp; omega)), HB _⟩
        | true =>
          cases g4 : decide (0 < x.value) with
          | false =>
            have HE : Hid (okCl x = false) := by show _ = _; simp [okCl, h0, g1, g2, g3, g4]
            have g4' : x.value ≤ (0 : Int) := by have := of_decide_eq_false g4; omega
            clear g4
            rw [HE.out]
            unfold clV
            rw [h0]
            go_enter Tryd.func39, Tryd.ntmps39
            go_wp2_with (go_at_call 31; refine (l1In_c _ _ _ _ _ (by first | exact g1 | exact g2 | exact g3 | exact g5 | exact g6)).mono ?_; rintro e w' ⟨rfl, rfl⟩)
            go_ret
            exact ⟨ret_bool (by first | rfl | (simp; omega)), HB _⟩
          | true =>
            cases g5 : inB x.beg 0 100 with
            | false =>
              have HE : Hid (okCl x = false) := by show _ = _; simp [okCl, h0, g1, g2, g3, g4, g5]
              have g4' : (0 : Int) < x.value := of_decide_eq_true g4
              clear g4
              rw [HE.out]
              unfold clV
              rw [h0]
              go_enter Tryd.func39, Tryd.ntmps39
              go_wp2_with (go_at_call 31; refine (l1In_c _ _ _ _ _ (by first | exact g1 | exact g2 | exact g3 | exact g5 | exact g6)).mono ?_; rintro e w' ⟨rfl, rfl⟩)
              go_ret
              exact ⟨ret_bool (by first | rfl | (simp; omega)), HB _⟩
            | true =>
              cases g6 : inB x.fin 0 100 with
              | false =>
                have HE : Hid (okCl x = false) := by show _ = _; simp [okCl, h0, g1, g2, g3, g4, g5, g6]
                have g4' : (0 : Int) < x.value := of_decide_eq_true g4
                clear g4
                rw [HE.out]
                unfold clV
                rw [h0]
                go_enter Tryd.func39, Tryd.ntmps39
                go_wp2_with (go_at_call 31; refine (l1In_c _ _ _ _ _ (by first | exact g1 | exact g2 | exact g3 | exact g5 | exact g6)).mono ?_; rintro e w' ⟨rfl, rfl⟩)
                go_ret
                exact ⟨ret_bool (by first | rfl | (simp; omega)), HB _⟩
              | true =>
                cases g7 : decide (x.beg < x.fin) with
                | false =>
                  have HE : Hid (okCl x = false) := by show _ = _; simp [okCl, h0, g1, g2, g3, g4, g5, g6, g7]
                  have g4' : (0 : Int) < x.value := of_decide_eq_true g4
                  clear g4
                  have g7' : x.fin ≤ x.beg := by have := of_decide_eq_false g7; omega
                  clear g7
                  rw [HE.out]
                  unfold clV
                  rw [h0]
                  go_enter Tryd.func39, Tryd.ntmps39
                  go_wp2_with (go_at_call 31; refine (l1In_c _ _ _ _ _ (by first | exact g1 | exact g2 | exact g3 | exact g5 | exact g6)).mono ?_; rintro e w' ⟨rfl, rfl⟩)
                  go_ret
                  exact ⟨ret_bool (by first | rfl | (simp; omega)), HB _⟩
                | true =>
                  have HE : Hid (okCl x = true) := by show _ = _; simp [okCl, h0, g1, g2, g3, g4, g5, g6, g7]
                  have g4' : (0 : Int) < x.value := of_decide_eq_true g4
                  clear g4
                  have g7' : x.beg < x.fin := of_decide_eq_true g7
                  clear g7
                  rw [HE.out]
                  unfold clV
                  rw [h0]
                  go_enter Tryd.func39, Tryd.ntmps39
                  go_wp2_with (go_at_call 31; refine (l1In_c _ _ _ _ _ (by first | exact g1 | exact g2 | exact g3 | exact g5 | exact g6)).mono ?_; rintro e w' ⟨rfl, rfl⟩)
                  go_ret
                  exact ⟨ret_bool (by first | rfl | (simp; omega)), HB _⟩
  | false =>
    cases g1 : inB x.client 0 3 with
    | false =>
      have HE : Hid (okCl x = false) := by show _ = _; simp [okCl, h0, g1]
      rw [HE.out]
      unfold clV
      rw [h0]
      go_enter Tryd.func39, Tryd.ntmps39
      go_wp2_with (go_at_call 31; refine (l1In_c _ _ _ _ _ (by first | exact g1 | exact g2 | exact g3 | exact g5 | exact g6)).mono ?_; rintro e w' ⟨rfl, rfl⟩)
      go_ret
      exact ⟨ret_bool (by first | rfl | (simp; omega)), HB _⟩
    | true =>
      cases g2 : inB x.object 0 2 with
      | false =>
        have HE : Hid (okCl x = false) := by show _ = _; simp [okCl, h0, g1, g2]
        rw [HE.out]
        unfold clV
        rw [h0]
        go_enter Tryd.func39, Tryd.ntmps39
        go_wp2_with (go_at_call 31; refine (l1In_c _ _ _ _ _ (by first | exact g1 | exact g2 | exact g3 | exact g5 | exact g6)).mono ?_; rintro e w' ⟨rfl, rfl⟩)
        go_ret
        exact ⟨ret_bool (by first | rfl | (simp; omega)), HB _⟩
      | true =>
        cases g3 : inB x.value 0 9 with
        | false =>
          have HE : Hid (okCl x = false) := by show _ = _; simp [okCl, h0, g1, g2, g3]
          rw [HE.out]
          unfold clV
          rw [h0]
          go_enter Tryd.func39, Tryd.ntmps39
          go_wp2_with (go_at_call 31; refine (l1In_c _ _ _ _ _ (by first | exact g1 | exact g2 | exact g3 | exact g5 | exact g6)).mono ?_; rintro e w' ⟨rfl, rfl⟩)
          go_ret
          exact ⟨ret_bool (by first | rfl | (simp; omega)), HB _⟩
        | true =>
          cases g5 : inB x.beg 0 100 with
          | false =>
            have HE : Hid (okCl x = false) := by show _ = _; simp [okCl, h0, g1, g2, g3, g5]
            rw [HE.out]
            unfold clV
            rw [h0]
            go_enter Tryd.func39, Tryd.ntmps39
            go_wp2_with (go_at_call 31; refine (l1In_c _ _ _ _ _ (by first | exact g1 | exact g2 | exact g3 | exact g5 | exact g6)).mono ?_; rintro e w' ⟨rfl, rfl⟩)
            go_ret
            exact ⟨ret_bool (by first | rfl | (simp; omega)), HB _⟩
          | true =>
            cases g6 : inB x.fin 0 100 with
            | false =>
              have HE : Hid (okCl x = false) := by show _ = _; simp [okCl, h0, g1, g2, g3, g5, g6]
              rw [HE.out]
              unfold clV
              rw [h0]
              go_enter Tryd.func39, Tryd.ntmps39
              go_wp2_with (go_at_call 31; refine (l1In_c _ _ _ _ _ (by first | exact g1 | exact g2 | exact g3 | exact g5 | exact g6)).mono ?_; rintro e w' ⟨rfl, rfl⟩)
              go_ret
              exact ⟨ret_bool (by first | rfl | (simp; omega)), HB _⟩
            | true =>
              cases g7 : decide (x.beg < x.fin) with
              | false =>
                have HE : Hid (okCl x = false) := by show _ = _; simp [okCl, h0, g1, g2, g3, g5, g6, g7]
                have g7' : x.fin ≤ x.beg := by have := of_decide_eq_false g7; omega
                clear g7
                rw [HE.out]
                unfold clV
                rw [h0]
                go_enter Tryd.func39, Tryd.ntmps39
                go_wp2_with (go_at_call 31; refine (l1In_c _ _ _ _ _ (by first | exact g1 | exact g2 | exact g3 | exact g5 | exact g6)).mono ?_; rintro e w' ⟨rfl, rfl⟩)
                go_ret
                exact ⟨ret_bool (by first | rfl | (simp; omega)), HB _⟩
              | true =>
                have HE : Hid (okCl x = true) := by show _ = _; simp [okCl, h0, g1, g2, g3, g5, g6, g7]
                have g7' : x.beg < x.fin := of_decide_eq_true g7
                clear g7
                rw [HE.out]
                unfold clV
                rw [h0]
                go_enter Tryd.func39, Tryd.ntmps39
                go_wp2_with (go_at_call 31; refine (l1In_c _ _ _ _ _ (by first | exact g1 | exact g2 | exact g3 | exact g5 | exact g6)).mono ?_; rintro e w' ⟨rfl, rfl⟩)
                go_ret
                exact ⟨ret_bool (by first | rfl | (simp; omega)), HB _⟩

theorem l15Call_c (x : Cl) (w : World) (b : Bool) (h : okCl x = b) :
    Calls Tryd.prog 39 #[clV x] w fun r w' => r = .returned (.bool b) ∧ Below w.heap.size w w' := by
  rw [← h]; exact l15Call_any x w

set_option maxRecDepth 100000 in
set_option maxHeartbeats 4000000 in
theorem specGoodCl_any (a : Option Addr) (c : Nat) (l : List Cl) (w : World) (hs : Cls w a l) (hl : l.length ≤ maxLen) (hc : l.length ≤ c) :
    Calls Tryd.prog 22 #[.slice a l.length c] w fun r w' => r = .returned (.bool (goodCl l)) ∧ Below w.heap.size w w' := by
  have hl' := hl
  unfold maxLen at hl'
  go_enter Tryd.func22, Tryd.ntmps22
  go_wp2
  go_loopw [9] (fun i wr => ∃ k : Nat, k ≤ l.length ∧ i = .int .i64 k ∧ Hid (clTo l k) ∧ Below w.heap.size w wr) (fun i _ => l.length - (intOf i).toNat)
  case atStart => exact ⟨0, Nat.zero_le _, rfl, (fun i hi => absurd hi (Nat.not_lt_zero _)), Below.refl _ _⟩
  case round =>
    obtain ⟨k, hk, rfl, HO, hB⟩ := hrel
    by_cases hlt : k < l.length
    · obtain ⟨cb, co, rfl, c0, c1, c2, c3, c4, c5⟩ := (hs.below hB) k _ (clA_get hlt)
      obtain ⟨x, hx⟩ : ∃ x, clA l k = x := ⟨_, rfl⟩
      have HX : Hid (clA l k = x) := hx
      rw [hx] at c0 c1 c2 c3 c4 c5
      clear hx
      have hki : (k : Int) < (l.length : Int) := by omega
      have hkc : (k : Int) ≤ (c : Int) := by omega
      cases g : okCl x with
      | false =>
        have HE : Hid (goodCl l = false) := goodCl_bad hlt (fun h => by have := h.1; rw [HX.out, g] at this; cases this)
        go_wp2_with fail
        refine (l15Call_c x _ _ g).mono ?_
        rintro r w1 ⟨rfl, hB1⟩
        go_wp2
        go_ret
        exact ⟨ret_bool HE.out.symm, stHi (stHi hB (alHi _ _)) hB1⟩
      | true =>
        have G : Hid (okCl x = true) := g
        go_wp2_with fail
        refine (l15Call_c x _ _ g).mono ?_
        rintro r w1 ⟨rfl, hB1⟩
        have B1 := stHi (stHi hB (alHi _ _)) hB1
        have q0 : w1.cell? ⟨wr.heap.size, 0, none⟩ = some (.int .i64 x.client) := celB hB1 (by simp [go_sem])
        have q1 : w1.cell? ⟨wr.heap.size, 1, none⟩ = some (.int .i64 x.object) := celB hB1 (by simp [go_sem])
        have q2 : w1.cell? ⟨wr.heap.size, 2, none⟩ = some (.bool x.write) := celB hB1 (by simp [go_sem])
        have q3 : w1.cell? ⟨wr.heap.size, 3, none⟩ = some (.int .i64 x.value) := celB hB1 (by simp [go_sem])
        have q4 : w1.cell? ⟨wr.heap.size, 4, none⟩ = some (.int .i64 x.beg) := celB hB1 (by simp [go_sem])
        have q5 : w1.cell? ⟨wr.heap.size, 5, none⟩ = some (.int .i64 x.fin) := celB hB1 (by simp [go_sem])
        clear hB1 g c0 c1 c2 c3 c4 c5
        go_wp2
        go_loopw [21] (fun i wr2 => ∃ j : Nat, j ≤ k ∧ i = .int .i64 j ∧ Hid (∀ t, t < j → clash (clA l t) (clA l k) = false) ∧ Below w1.heap.size w1 wr2) (fun i _ => k - (intOf i).toNat)
        case atStart => exact ⟨0, Nat.zero_le _, rfl, (fun i hi => absurd hi (Nat.not_lt_zero _)), Below.refl _ _⟩
        case round =>
          obtain ⟨j, hj, rfl, HJ, hB2⟩ := hrel
          have p0 := celB hB2 q0
          have p1 := celB hB2 q1
          have p2 := celB hB2 q2
          have p3 := celB hB2 q3
          have p4 := celB hB2 q4
          have p5 := celB hB2 q5
          have B2 := stHi B1 hB2
          by_cases hlt2 : j < k
          · obtain ⟨eb, eo, ea, e0, e1, e2, e3, e4, e5⟩ := (hs.below B2) j _ (clA_get (by omega))
            simp only [Option.some.injEq, Addr.mk.injEq, and_true] at ea
            obtain ⟨rfl, rfl⟩ := ea
            obtain ⟨o, ho⟩ : ∃ o, clA l j = o := ⟨_, rfl⟩
            have HO2 : Hid (clA l j = o) := ho
            rw [ho] at e0 e1 e2 e3 e4 e5
            clear ho
            have hji : (j : Int) < (k : Int) := by omega
            have r0 := fun o => celB (alHi wr o) p0
            have r1 := fun o => celB (alHi wr o) p1
            have r2 := fun o => celB (alHi wr o) p2
            have r3 := fun o => celB (alHi wr o) p3
            have r4 := fun o => celB (alHi wr o) p4
            have r5 := fun o => celB (alHi wr o) p5
            have HN : Hid (clash o x = false → ∀ t, t < j + 1 → clash (clA l t) (clA l k) = false) := fun h t ht => by
              rcases Nat.lt_or_eq_of_le (Nat.le_of_lt_succ ht) with h1 | rfl
              · exact HJ.out t h1
              · rw [HO2.out, HX.out]; exact h
            have HBad : Hid (clash o x = true → goodCl l = false) := fun h => goodCl_bad hlt (fun h2 => by have := h2.2 j hlt2; rw [HO2.out, HX.out, h] at this; cases this)
            by_cases f1 : o.client = x.client
            · have f1' : (o.client == x.client) = true := by simp [f1]
              by_cases f2 : x.beg < o.fin
              · by_cases f3 : o.beg < x.fin
                · have HE : Hid (goodCl l = false) := HBad.out (by simp [clash, f1, f2, f3])
                  clear f1
                  go_wp2
                  go_ret
                  exact ⟨ret_bool HE.out.symm, stHi B2 (alHi _ _)⟩
                · have HE : Hid (∀ t, t < j + 1 → clash (clA l t) (clA l k) = false) := HN.out (by simp [clash, f3])
                  clear f1
                  go_wp2
                  go_roundw
                  case rel => exact ⟨j + 1, by omega, by go_num, HE.out, stHi hB2 (alHi _ _)⟩
                  case measure => simp [intOf]; omega
              · have HE : Hid (∀ t, t < j + 1 → clash (clA l t) (clA l k) = false) := HN.out (by simp [clash, f2])
                clear f1
                go_wp2
                go_roundw
                case rel => exact ⟨j + 1, by omega, by go_num, HE.out, stHi hB2 (alHi _ _)⟩
                case measure => simp [intOf]; omega
            · have f1' : (o.client == x.client) = false := by simp [f1]
              have HE : Hid (∀ t, t < j + 1 → clash (clA l t) (clA l k) = false) := HN.out (by simp [clash, f1])
              clear f1
              go_wp2
              go_roundw
              case rel => exact ⟨j + 1, by omega, by go_num, HE.out, stHi hB2 (alHi _ _)⟩
              case measure => simp [intOf]; omega
          · obtain rfl : j = k := by omega
            have HE : Hid (clTo l (j + 1)) := clTo_succ HO.out ⟨by rw [HX.out]; exact G.out, HJ.out⟩
            go_wp2
            go_roundw
            case rel => exact ⟨j + 1, by omega, by go_num, HE.out, B2⟩
            case measure => simp [intOf]; omega
    · obtain rfl : k = l.length := by omega
      have HE : Hid (goodCl l = decide (l.length ≤ 7)) := goodCl_done HO.out
      by_cases h7 : l.length ≤ 7
      · have h7' : (l.length : Int) ≤ 7 := by omega
        have HF : Hid (goodCl l = true) := by show _ = _; rw [HE.out]; simp [h7]
        go_wp2
        go_ret
        exact ⟨ret_bool (by first | exact HF.out.symm | (rw [HF.out]; simp; omega)), hB⟩
      · have h7' : (7 : Int) < (l.length : Int) := by omega
        have HF : Hid (goodCl l = false) := by show _ = _; rw [HE.out]; simp [h7]
        go_wp2
        go_ret
        exact ⟨ret_bool (by first | exact HF.out.symm | (rw [HF.out]; simp; omega)), hB⟩

theorem specGoodCl_c (a : Option Addr) (c : Nat) (l : List Cl) (w : World) (hs : Cls w a l) (hl : l.length ≤ maxLen) (hc : l.length ≤ c) (b : Bool) (h : goodCl l = b) :
    Calls Tryd.prog 22 #[.slice a l.length c] w fun r w' => r = .returned (.bool b) ∧ Below w.heap.size w w' := by
  rw [← h]; exact specGoodCl_any a c l w hs hl hc

end Go.Proofs.YtmbfdonefpegeaaDoor

namespace Go.Proofs.YtmbfdonefpegeaaDoor
open Go.RowKit

theorem l1Has_ch (a : Option Addr) (c : Nat) (zs : List Int) (m : Nat) (k : Int) (b : Bool) (w : World) (hs : Ints w a zs) (hm : m ≤ zs.length) (hl : zs.length ≤ maxLen) (h : (zs.take m).contains k = b) :
    Calls Tryd.prog 40 #[.slice a m c, .int .i64 k] w fun e w' => e = .returned (.bool b) ∧ w' = w := by
  have hlm : (zs.take m).length = m := by simp; omega
  have ht : Ints w a (zs.take m) := fun i z hi => by
    have hlt : i < m := by have := (List.getElem?_eq_some_iff.1 hi).1; omega
    rw [List.getElem?_take_of_lt hlt] at hi
    exact hs i z hi
  have := l1Has_any a c (zs.take m) k w ht (by omega)
  rw [hlm] at this
  rw [← h]
  exact this

set_option maxRecDepth 100000 in
set_option maxHeartbeats 4000000 in
theorem l15Order_any (n : Nat) (a : Option Addr) (c : Nat) (zs : List Int) (w : World) (hs : Ints w a zs) (hl : zs.length ≤ maxLen) (hc : zs.length ≤ c) :
    Calls Tryd.prog 23 #[.int .i64 (n : Int), .slice a zs.length c] w fun r w' => r = .returned (.bool (ordB n zs)) ∧ w' = w := by
  have hl' := hl
  unfold maxLen at hl'
  go_enter Tryd.func23, Tryd.ntmps23
  go_wp2
  go_loop [9] (fun i => ∃ k : Nat, k ≤ zs.length ∧ i = .int .i64 k ∧ Hid (odTo n zs k)) (fun i => zs.length - (intOf i).toNat)
  case atStart => exact ⟨0, Nat.zero_le _, rfl, (fun i hi => absurd hi (Nat.not_lt_zero _))⟩
  case round =>
    obtain ⟨k, hk, rfl, HO⟩ := hrel
    by_cases hlt : k < zs.length
    · obtain ⟨b, off, rfl, c0⟩ := hs k _ (zA_get hlt)
      obtain ⟨z, hz⟩ : ∃ z, zA zs k = z := ⟨_, rfl⟩
      have HZ : Hid (zA zs k = z) := hz
      rw [hz] at c0
      clear hz
      have hkc : (k : Int) ≤ (c : Int) := by omega
      have hki : (k : Int) < (zs.length : Int) := by omega
      by_cases h1 : z < 0
      · have HE : Hid (ordB n zs = false) := ordB_bad hlt (fun h => by have := h.1.1; rw [HZ.out] at this; omega)
        go_wp2
        go_ret
        exact ⟨ret_bool HE.out.symm, rfl⟩
      · by_cases h2 : (n : Int) ≤ z
        · have HE : Hid (ordB n zs = false) := ordB_bad hlt (fun h => by have := h.1.2; rw [HZ.out] at this; omega)
          go_wp2
          go_ret
          exact ⟨ret_bool HE.out.symm, rfl⟩
        · cases g : (zs.take k).contains z with
          | true =>
            have HE : Hid (ordB n zs = false) := ordB_bad hlt (fun h => by have := h.2; rw [HZ.out, g] at this; cases this)
            go_wp2_with (go_at_call 40; refine (l1Has_ch _ _ zs k _ _ _ hs (by omega) hl g).mono ?_; rintro e w' ⟨rfl, rfl⟩)
            go_ret
            exact ⟨ret_bool HE.out.symm, rfl⟩
          | false =>
            have HN : Hid (odTo n zs (k + 1)) := odTo_succ HO.out ⟨by rw [HZ.out]; omega, by rw [HZ.out]; exact g⟩
            go_wp2_with (go_at_call 40; refine (l1Has_ch _ _ zs k _ _ _ hs (by omega) hl g).mono ?_; rintro e w' ⟨rfl, rfl⟩)
            go_round
            case rel => exact ⟨k + 1, by omega, by go_num, HN.out⟩
            case measure => simp [intOf]; omega
    · obtain rfl : k = zs.length := by omega
      have HE : Hid (ordB n zs = decide (zs.length = n)) := ordB_done HO.out
      by_cases hn : zs.length = n
      · have hn' : ((zs.length : Int) == (n : Int)) = true := by simp [hn]
        have HF : Hid (ordB n zs = true) := by show _ = _; rw [HE.out]; simp [hn]
        clear hn
        go_wp2
        go_ret
        exact ⟨ret_bool HF.out.symm, rfl⟩
      · have hn' : ((zs.length : Int) == (n : Int)) = false := by simp; omega
        have HF : Hid (ordB n zs = false) := by show _ = _; rw [HE.out]; simp [hn]
        clear hn
        go_wp2
        go_ret
        exact ⟨ret_bool HF.out.symm, rfl⟩

theorem l15Order_c (n : Nat) (a : Option Addr) (c : Nat) (zs : List Int) (w : World) (hs : Ints w a zs) (hl : zs.length ≤ maxLen) (hc : zs.length ≤ c) (b : Bool) (h : ordB n zs = b) :
    Calls Tryd.prog 23 #[.int .i64 (n : Int), .slice a zs.length c] w fun r w' => r = .returned (.bool b) ∧ w' = w := by
  rw [← h]; exact l15Order_any n a c zs w hs hl hc

theorem dec_beqH (a b : Int) : decide (a = b) = (a == b) := by rw [Bool.eq_iff_iff]; simp

set_option maxRecDepth 100000 in
set_option maxHeartbeats 4000000 in
theorem l15Before_any (x y : Cl) (cl : Bool) (w : World) :
    Calls Tryd.prog 26 #[clV x, clV y, .bool cl] w fun r w' => r = .returned (.bool (befB cl x y)) ∧ ∃ p q, w' = (w.alloc p).alloc q := by
  cases cl with
  | true =>
    cases g1 : (x.client == y.client) with
    | true =>
      by_cases g2 : x.beg < y.beg
      · have HE : Hid (befB true x y = true) := by show _ = _; simp [befB, g2]; simpa using g1
        go_enter Tryd.func26, Tryd.ntmps26
        go_wp2
        go_ret
        exact ⟨ret_bool HE.out.symm, _, _, rfl⟩
      · have HE : Hid (befB true x y = false) := by show _ = _; simp [befB, g2]
        go_enter Tryd.func26, Tryd.ntmps26
        go_wp2
        go_ret
        exact ⟨ret_bool HE.out.symm, _, _, rfl⟩
    | false =>
      have HE : Hid (befB true x y = false) := by show _ = _; unfold befB; rw [if_pos rfl, dec_beqH, g1]; rfl
      go_enter Tryd.func26, Tryd.ntmps26
      go_wp2
      go_ret
      exact ⟨ret_bool HE.out.symm, _, _, rfl⟩
  | false =>
    obtain ⟨t, ht⟩ : ∃ t, decide (x.fin ≤ y.beg) = t := ⟨_, rfl⟩
    have HE : Hid (befB false x y = t) := by show _ = _; simp [befB, ht]
    go_enter Tryd.func26, Tryd.ntmps26
    go_wp2
    go_ret
    exact ⟨ret_bool (by rw [HE.out]), _, _, rfl⟩

theorem l15Before_c (x y : Cl) (cl b : Bool) (w : World) (h : befB cl x y = b) :
    Calls Tryd.prog 26 #[clV x, clV y, .bool cl] w fun e w' => e = .returned (.bool b) ∧ Below w.heap.size w w' :=
  (l15Before_any x y cl w).mono fun _ _ ⟨h1, p, q, h2⟩ => ⟨by rw [← h]; exact h1, by rw [h2]; exact stHi (alHi _ _) (alHi _ _)⟩

/-- The values, in a row of their own. -/
def VsR (w : World) (R : Nat) (vs : List Int) : Prop := vs.length = 3 ∧ w.rowIs R 3 3 (fun i => .int .i64 (zA vs i))
theorem VsR.below {w w' : World} {R : Nat} {vs : List Int} (h : VsR w R vs) (hb : Below w.heap.size w w') : VsR w' R vs := ⟨h.1, h.2.of_block (hb.block R h.2.lt)⟩
theorem VsR.cell {w : World} {R : Nat} {vs : List Int} (h : VsR w R vs) {i : Nat} (hi : i < 3) : w.cell? ⟨R, i, none⟩ = some (.int .i64 (zA vs i)) := h.2.cell hi
theorem VsR.set {w : World} {R : Nat} {vs : List Int} (h : VsR w R vs) {i : Nat} (hi : i < 3) (z : Int) : VsR (w.setCell ⟨R, i, none⟩ (.int .i64 z)) R (vs.set i z) := by
  refine ⟨by simp [h.1], (h.2.set i (.int .i64 z)).congr fun j hj => ?_⟩
  have hv : j < vs.length := by rw [h.1]; exact hj
  by_cases e : j = i
  · subst e; simp [zA, List.getD_eq_getElem?_getD, hv]
  · have e' : ¬ i = j := fun h => e h.symm
    simp [zA, List.getD_eq_getElem?_getD, e, e']

set_option maxRecDepth 100000 in
set_option maxHeartbeats 4000000 in
theorem l15Legal_any (a a2 : Option Addr) (c c2 : Nat) (l : List Cl) (zs : List Int) (w : World) (hs : Cls w a l) (hl : l.length ≤ maxLen) (hg : goodCl l = true) (hz : Ints w a2 zs) (hzl : zs.length ≤ maxLen) (hor : ∀ k, k < zs.length → 0 ≤ zA zs k ∧ zA zs k < (l.length : Int)) :
    Calls Tryd.prog 24 #[.slice a l.length c, .slice a2 zs.length c2] w fun r w' => r = .returned (.bool (legB l zs)) ∧ Below w.heap.size w w' := by
  have hl' := hl
  unfold maxLen at hl'
  have hzl' := hzl
  unfold maxLen at hzl'
  have HG : Hid (clTo l l.length ∧ l.length ≤ 7) := goodCl_t hg
  have hmk := run_make_row' (P := Tryd.prog) 24 3 (.int .i64 0) 8 Tryd.underlying24 Tryd.infoInt rfl .i64 .i64 3 (by omega) (by omega)
  have e3 : ((3 : Nat) : Int) = 3 := rfl
  rw [e3] at hmk
  clear e3
  obtain ⟨u1, hu1⟩ : ∃ u, (w.alloc (.cells (madeCells #[Value.int .i64 0] 3) 3)) = u := ⟨_, rfl⟩
  have hR : u1.rowIs w.heap.size 3 3 (fun _ => .int .i64 0) := by rw [← hu1]; exact World.rowIs_made _ _ _ _
  have hV : VsR u1 w.heap.size [0, 0, 0] := ⟨rfl, hR.congr fun j hj => by match j, hj with | 0, _ => rfl | 1, _ => rfl | 2, _ => rfl⟩
  have B1 : Below w.heap.size w u1 := by rw [← hu1]; exact alHi _ _
  have hS1 : w.heap.size < u1.heap.size := by rw [← hu1]; simp
  go_enter Tryd.func24, Tryd.ntmps24
  go_wp2
  clear hmk hR
  go_loopw [12] (fun i wr => ∃ (k : Nat) (vs : List Int), k ≤ zs.length ∧ i = .int .i64 k ∧ Hid (lgTo l zs k = some vs) ∧ VsR wr w.heap.size vs ∧ Below w.heap.size w wr) (fun i _ => zs.length - (intOf i).toNat)
  case atStart => exact ⟨0, [0, 0, 0], Nat.zero_le _, rfl, rfl, hV, B1⟩
  case round =>
    clear hV B1 hu1
    obtain ⟨k, vs, hk, rfl, HL, hV, hB⟩ := hrel
    by_cases hlt : k < zs.length
    · obtain ⟨zb, zo, rfl, z0⟩ := (hz.below hB) k _ (zA_get hlt)
      obtain ⟨h1, h2⟩ := hor k hlt
      obtain ⟨f, hf⟩ : ∃ f : Nat, zA zs k = f := ⟨(zA zs k).toNat, by omega⟩
      have HF : Hid ((zA zs k).toNat = f) := by show _ = _; omega
      rw [hf] at z0 h1 h2
      clear hf
      have hfl : f < l.length := by omega
      have hfi : (f : Int) < (l.length : Int) := by omega
      have hki : (k : Int) < (zs.length : Int) := by omega
      obtain ⟨cb, co, ea, c0, c1, c2, c3, c4, c5⟩ := (hs.below hB) f _ (clA_get hfl)
      subst ea
      obtain ⟨x, hx⟩ : ∃ x, clA l f = x := ⟨_, rfl⟩
      have HX : Hid (clA l f = x) := hx
      rw [hx] at c0 c1 c2 c3 c4 c5
      clear hx
      obtain ⟨ho1, ho2⟩ := (okCl_t (HG.out.1 f hfl).1).2.1
      rw [HX.out] at ho1 ho2
      obtain ⟨o, hoo⟩ : ∃ o : Nat, x.object = o := ⟨x.object.toNat, by omega⟩
      have HOO : Hid (x.object.toNat = o) := by show _ = _; omega
      rw [hoo] at c1 ho1 ho2
      have ho3 : o < 3 := by omega
      have ho3i : (o : Int) < 3 := by omega
      clear hoo
      have HS : Hid (lgTo l zs (k + 1) = lgS vs x) := by show _ = _; rw [lgTo, HL.out]; show lgS vs (clA l (zA zs k).toNat) = _; rw [HF.out, HX.out]
      have BA : ∀ p, Below wr.heap.size wr (wr.alloc p) := fun p => alHi wr p
      have vc := fun p => (hV.below (BA p)).cell ho3
      have vf : ∀ p, (wr.alloc p).frozen? ⟨w.heap.size, o, none⟩ = false := fun p => (hV.below (BA p)).2.frozen o
      have Hlw : w.heap.size < wr.heap.size := hV.2.lt
      cases hw : x.write with
      | true =>
        rw [hw] at c2
        have HN : Hid (lgTo l zs (k + 1) = some (vs.set o x.value)) := by show _ = _; rw [HS.out, lgS, hw, HOO.out]; rfl
        have HV : Hid (∀ p, VsR ((wr.setCell ⟨w.heap.size, o, none⟩ (.int .i64 x.value)).alloc p) w.heap.size (vs.set o x.value)) := fun p => (hV.set ho3 _).below (alHi _ p)
        clear hV hw
        go_wp2
        go_roundw
        case rel => exact ⟨k + 1, _, by omega, by go_num, HN.out, HV.out _, stHi (hB.setCell (Nat.le_refl _) _) (alHi _ _)⟩
        case measure => simp [intOf]; omega
      | false =>
        rw [hw] at c2
        by_cases hv : zA vs o = x.value
        · have HN : Hid (lgTo l zs (k + 1) = some vs) := by show _ = _; rw [HS.out, lgS, hw, HOO.out, if_neg (by simp), if_pos hv]
          have HV : Hid (∀ p, VsR (wr.alloc p) w.heap.size vs) := fun p => hV.below (BA p)
          have hd : (zA vs o != x.value) = false := by simp [hv]
          obtain ⟨t, ht⟩ : ∃ t, zA vs o = t := ⟨_, rfl⟩
          rw [ht] at vc hd
          clear hV hw hv ht
          go_wp2
          go_quiet (fail)
          go_wp2
          go_roundw
          case rel => exact ⟨k + 1, vs, by omega, by go_num, HN.out, (HV.out _).below (below_drewN (Below.refl _ _) _), below_drewN (stHi hB (BA _)) _⟩
          case measure => simp [intOf]; omega
        · have HE : Hid (legB l zs = false) := legB_bad (k := k + 1) (by omega) (by rw [HS.out, lgS, hw, HOO.out, if_neg (by simp), if_neg hv])
          have hd : (zA vs o != x.value) = true := by simp [hv]
          obtain ⟨t, ht⟩ : ∃ t, zA vs o = t := ⟨_, rfl⟩
          rw [ht] at vc hd
          clear hV hw hv ht
          go_wp2
          go_quiet (fail)
          go_wp2
          go_ret
          exact ⟨ret_bool HE.out.symm, below_drewN (stHi hB (BA _)) _⟩
    · obtain rfl : k = zs.length := by omega
      have HE : Hid (legB l zs = true) := legB_done HL.out
      go_wp2
      go_ret
      exact ⟨ret_bool HE.out.symm, hB⟩

theorem l15Legal_c (a a2 : Option Addr) (c c2 : Nat) (l : List Cl) (zs : List Int) (w : World) (hs : Cls w a l) (hl : l.length ≤ maxLen) (hg : goodCl l = true) (hz : Ints w a2 zs) (hzl : zs.length ≤ maxLen) (hor : ∀ k, k < zs.length → 0 ≤ zA zs k ∧ zA zs k < (l.length : Int)) (b : Bool) (h : legB l zs = b) :
    Calls Tryd.prog 24 #[.slice a l.length c, .slice a2 zs.length c2] w fun r w' => r = .returned (.bool b) ∧ Below w.heap.size w w' := by
  rw [← h]; exact l15Legal_any a a2 c c2 l zs w hs hl hg hz hzl hor

set_option maxRecDepth 100000 in
set_option maxHeartbeats 4000000 in
theorem specIsLegal_any (a a2 : Option Addr) (c c2 : Nat) (l : List Cl) (zs : List Int) (w : World) (hs : Cls w a l) (hz : Ints w a2 zs) (hl : l.length ≤ maxLen) (hzl : zs.length ≤ maxLen) (hc : l.length ≤ c) (hc2 : zs.length ≤ c2) :
    Calls Tryd.prog 6 #[.slice a l.length c, .slice a2 zs.length c2] w fun r w' => r = .returned (.tuple #[.bool (lglA l zs), .bool (isB l zs)]) ∧ Below w.heap.size w w' := by
  have hl' := hl
  have hzl' := hzl
  unfold maxLen at hl' hzl'
  cases hg : goodCl l with
  | false =>
    have HE : Hid (lglA l zs = false ∧ isB l zs = false) := by show _ ∧ _; simp [lglA, isB, hg]
    go_enter Tryd.func6, Tryd.ntmps6
    go_wp2_with fail
    refine (specGoodCl_c _ _ _ _ hs hl hc _ hg).mono ?_
    rintro r w1 ⟨rfl, BB⟩
    go_wp2
    refine bodyPost_ret (v := .tuple #[.bool false, .bool false]) (by simp [results, Tryd.results6, go_sem]) rfl ⟨by rw [HE.out.1, HE.out.2], BB⟩
  | true =>
    cases ho : ordB l.length zs with
    | false =>
      have HE : Hid (lglA l zs = false ∧ isB l zs = false) := by show _ ∧ _; simp [lglA, isB, ho]
      go_enter Tryd.func6, Tryd.ntmps6
      go_wp2_with fail
      refine (specGoodCl_c _ _ _ _ hs hl hc _ hg).mono ?_
      rintro r w1 ⟨rfl, BB⟩
      go_wp2_with fail
      refine (l15Order_c l.length _ _ _ _ (hz.below BB) hzl hc2 _ ho).mono ?_
      rintro r w2 ⟨rfl, rfl⟩
      go_wp2
      refine bodyPost_ret (v := .tuple #[.bool false, .bool false]) (by simp [results, Tryd.results6, go_sem]) rfl ⟨by rw [HE.out.1, HE.out.2], BB⟩
    | true =>
      have hor : ∀ k, k < zs.length → 0 ≤ zA zs k ∧ zA zs k < (l.length : Int) := fun k hk => ((ordB_t ho).1 k hk).1
      obtain ⟨t, ht⟩ : ∃ t, legB l zs = t := ⟨_, rfl⟩
      have HE : Hid (lglA l zs = t ∧ isB l zs = true) := by show _ ∧ _; simp [lglA, isB, hg, ho, ht]
      go_enter Tryd.func6, Tryd.ntmps6
      go_wp2_with fail
      refine (specGoodCl_c _ _ _ _ hs hl hc _ hg).mono ?_
      rintro r w1 ⟨rfl, BB⟩
      go_wp2_with fail
      refine (l15Order_c l.length _ _ _ _ (hz.below BB) hzl hc2 _ ho).mono ?_
      rintro r w2 ⟨rfl, rfl⟩
      go_wp2_with fail
      refine (l15Legal_c _ _ _ _ l zs _ (hs.below BB) hl hg (hz.below BB) hzl hor _ ht).mono ?_
      rintro r w3 ⟨rfl, hB3⟩
      clear ht
      go_wp2
      refine bodyPost_ret (v := .tuple #[.bool t, .bool true]) (by simp [results, Tryd.results6, go_sem]) rfl ⟨by rw [HE.out.1, HE.out.2], stHi BB hB3⟩

set_option maxRecDepth 100000 in
set_option maxHeartbeats 4000000 in
theorem specRespectsTime_any (a a2 : Option Addr) (c c2 : Nat) (l : List Cl) (zs : List Int) (w : World) (hs : Cls w a l) (hz : Ints w a2 zs) (hl : l.length ≤ maxLen) (hzl : zs.length ≤ maxLen) (hc : l.length ≤ c) (hc2 : zs.length ≤ c2) :
    Calls Tryd.prog 8 #[.slice a l.length c, .slice a2 zs.length c2] w fun r w' => r = .returned (.tuple #[.bool (rspA l zs), .bool (isB l zs)]) ∧ Below w.heap.size w w' := by
  have hl' := hl
  have hzl' := hzl
  unfold maxLen at hl' hzl'
  cases hg : goodCl l with
  | false =>
    have HE : Hid (rspA l zs = false ∧ isB l zs = false) := by show _ ∧ _; simp [rspA, isB, hg]
    go_enter Tryd.func8, Tryd.ntmps8
    go_wp2_with fail
    refine (specGoodCl_c _ _ _ _ hs hl hc _ hg).mono ?_
    rintro r w1 ⟨rfl, BB⟩
    go_wp2
    refine bodyPost_ret (v := .tuple #[.bool false, .bool false]) (by simp [results, Tryd.results8, go_sem]) rfl ⟨by rw [HE.out.1, HE.out.2], BB⟩
  | true =>
    cases ho : ordB l.length zs with
    | false =>
      have HE : Hid (rspA l zs = false ∧ isB l zs = false) := by show _ ∧ _; simp [rspA, isB, ho]
      go_enter Tryd.func8, Tryd.ntmps8
      go_wp2_with fail
      refine (specGoodCl_c _ _ _ _ hs hl hc _ hg).mono ?_
      rintro r w1 ⟨rfl, BB⟩
      go_wp2_with fail
      refine (l15Order_c l.length _ _ _ _ (hz.below BB) hzl hc2 _ ho).mono ?_
      rintro r w2 ⟨rfl, rfl⟩
      go_wp2
      refine bodyPost_ret (v := .tuple #[.bool false, .bool false]) (by simp [results, Tryd.results8, go_sem]) rfl ⟨by rw [HE.out.1, HE.out.2], BB⟩
    | true =>
      have hor : ∀ k, k < zs.length → 0 ≤ zA zs k ∧ zA zs k < (l.length : Int) := fun k hk => ((ordB_t ho).1 k hk).1
      have HI : Hid (isB l zs = true) := by show _ = _; simp [isB, hg, ho]
      have HR : Hid (rspA l zs = rspB l zs) := by show _ = _; simp [rspA, HI.out]
      go_enter Tryd.func8, Tryd.ntmps8
      go_wp2_with fail
      refine (specGoodCl_c _ _ _ _ hs hl hc _ hg).mono ?_
      rintro r w1 ⟨rfl, BB⟩
      go_wp2_with fail
      refine (l15Order_c l.length _ _ _ _ (hz.below BB) hzl hc2 _ ho).mono ?_
      rintro r w2 ⟨rfl, rfl⟩
      go_wp2
      go_loopw [22] (fun i wr => ∃ k : Nat, k ≤ zs.length ∧ i = .int .i64 k ∧ Hid (rtTo l zs k) ∧ Below w2.heap.size w2 wr) (fun i _ => zs.length - (intOf i).toNat)
      case atStart => exact ⟨0, Nat.zero_le _, rfl, (fun i hi => absurd hi (Nat.not_lt_zero _)), Below.refl _ _⟩
      case round =>
        obtain ⟨k, hk, rfl, HO, hB⟩ := hrel
        have B1 := stHi BB hB
        by_cases hlt : k < zs.length
        · obtain ⟨zb, zo, rfl, z0⟩ := (hz.below B1) k _ (zA_get hlt)
          obtain ⟨h1, h2⟩ := hor k hlt
          obtain ⟨f, hf⟩ : ∃ f : Nat, zA zs k = f := ⟨(zA zs k).toNat, by omega⟩
          have HF : Hid ((zA zs k).toNat = f) := by show _ = _; omega
          rw [hf] at z0 h1 h2
          clear hf
          have hfl : f < l.length := by omega
          have hfi : (f : Int) < (l.length : Int) := by omega
          have hki : (k : Int) < (zs.length : Int) := by omega
          have hkc : (k : Int) + 1 ≤ (zs.length : Int) := by omega
          have hkd : (k : Int) + 1 ≤ (c2 : Int) := by omega
          obtain ⟨n, hn⟩ : ∃ n : Nat, zs.length - (k + 1) = n := ⟨_, rfl⟩
          have hni : (zs.length : Int) - ((k : Int) + 1) = (n : Int) := by omega
          have hnn : ((zs.length - (k + 1) : Nat) : Int) = (zs.length : Int) - ((k : Int) + 1) := by omega
          obtain ⟨mb, mo, ea, m0, m1, m2, m3, m4, m5⟩ := (hs.below B1) f _ (clA_get hfl)
          subst ea
          obtain ⟨x, hx⟩ : ∃ x, clA l f = x := ⟨_, rfl⟩
          have HX : Hid (clA l f = x) := hx
          rw [hx] at m0 m1 m2 m3 m4 m5
          clear hx
          clear hn hni hnn
          by_cases hcz : c2 = k + 1
          · have hz0 : zs.length - (k + 1) = 0 := by omega
            have HO1 : Hid (rtTo l zs (k + 1)) := rtTo_succ HO.out (fun j h1 h2 => by omega)
            go_wp2
            go_loopw [32] (fun i wr2 => i = .int .i64 0 ∧ Below wr.heap.size wr wr2) (fun _ _ => 0)
            case atStart => exact ⟨rfl, Below.refl _ _⟩
            case round =>
              obtain ⟨rfl, hB2⟩ := hrel
              have B2 := stHi hB hB2
              go_wp2
              go_roundw
              case rel => exact ⟨k + 1, by omega, by go_num, HO1.out, B2⟩
              case measure => simp [intOf]; omega
          · go_wp2
            go_loopw [32] (fun i wr2 => ∃ j : Nat, j ≤ zs.length - (k + 1) ∧ i = .int .i64 j ∧ Hid (∀ t, k < t → t < k + 1 + j → befB false (clA l (zA zs t).toNat) (clA l (zA zs k).toNat) = false) ∧ Below wr.heap.size wr wr2) (fun i _ => (zs.length - (k + 1)) - (intOf i).toNat)
            case atStart => exact ⟨0, Nat.zero_le _, rfl, (fun t h1 h2 => by omega), Below.refl _ _⟩
            case round =>
              obtain ⟨j, hj, rfl, HJ, hB2⟩ := hrel
              have B2 := stHi hB hB2
              have B3 := stHi B1 hB2
              by_cases hlt2 : j < zs.length - (k + 1)
              · have hm : k + 1 + j < zs.length := by omega
                obtain ⟨zb', zo', ez, y0⟩ := (hz.below B3) (k + 1 + j) _ (zA_get hm)
                simp only [Option.some.injEq, Addr.mk.injEq, and_true] at ez
                obtain ⟨rfl, rfl⟩ := ez
                obtain ⟨h3, h4⟩ := hor (k + 1 + j) hm
                obtain ⟨g, hg'⟩ : ∃ g : Nat, zA zs (k + 1 + j) = g := ⟨(zA zs (k + 1 + j)).toNat, by omega⟩
                have HGG : Hid ((zA zs (k + 1 + j)).toNat = g) := by show _ = _; omega
                rw [hg'] at y0 h3 h4
                clear hg'
                have hgl : g < l.length := by omega
                have hgi : (g : Int) < (l.length : Int) := by omega
                have hji : (j : Int) < ((zs.length - (k + 1) : Nat) : Int) := by omega
                have y1 : wr.cell? ⟨zb, zo + (k + 1) + j, none⟩ = some (.int .i64 (g : Int)) := by rw [Nat.add_assoc]; exact y0
                clear y0
                obtain ⟨eb, eo, ea, e0, e1, e2, e3, e4, e5⟩ := (hs.below B3) g _ (clA_get hgl)
                simp only [Option.some.injEq, Addr.mk.injEq, and_true] at ea
                obtain ⟨rfl, rfl⟩ := ea
                obtain ⟨y, hy⟩ : ∃ y, clA l g = y := ⟨_, rfl⟩
                have HY : Hid (clA l g = y) := hy
                rw [hy] at e0 e1 e2 e3 e4 e5
                clear hy
                have v0 := celB hB2 m0
                have v1 := celB hB2 m1
                have v2 := celB hB2 m2
                have v3 := celB hB2 m3
                have v4 := celB hB2 m4
                have v5 := celB hB2 m5
                cases hbf : befB false y x with
                | true =>
                  have HE : Hid (rspA l zs = false) := by show _ = _; rw [HR.out]; exact rspB_bad (i := k) (j := k + 1 + j) (by omega) hm (by rw [HGG.out, HF.out, HY.out, HX.out]; exact hbf)
                  clear HJ HO HF HGG
                  go_wp2_with fail
                  have kk : wr.drew.cell? ⟨mb, mo + f * 6, none⟩ = some (.int .i64 x.client) ∧ wr.drew.cell? ⟨mb, mo + f * 6 + 1, none⟩ = some (.int .i64 x.object) ∧ wr.drew.cell? ⟨mb, mo + f * 6 + 2, none⟩ = some (.bool x.write) ∧ wr.drew.cell? ⟨mb, mo + f * 6 + 3, none⟩ = some (.int .i64 x.value) ∧ wr.drew.cell? ⟨mb, mo + f * 6 + 4, none⟩ = some (.int .i64 x.beg) ∧ wr.drew.cell? ⟨mb, mo + f * 6 + 5, none⟩ = some (.int .i64 x.fin) ∧ wr.drew.cell? ⟨mb, mo + g * 6, none⟩ = some (.int .i64 y.client) ∧ wr.drew.cell? ⟨mb, mo + g * 6 + 1, none⟩ = some (.int .i64 y.object) ∧ wr.drew.cell? ⟨mb, mo + g * 6 + 2, none⟩ = some (.bool y.write) ∧ wr.drew.cell? ⟨mb, mo + g * 6 + 3, none⟩ = some (.int .i64 y.value) ∧ wr.drew.cell? ⟨mb, mo + g * 6 + 4, none⟩ = some (.int .i64 y.beg) ∧ wr.drew.cell? ⟨mb, mo + g * 6 + 5, none⟩ = some (.int .i64 y.fin) := ⟨v0, v1, v2, v3, v4, v5, e0, e1, e2, e3, e4, e5⟩
                  go_region_held3 (fun w' => w'.cell? ⟨mb, mo + f * 6, none⟩ = some (.int .i64 x.client) ∧ w'.cell? ⟨mb, mo + f * 6 + 1, none⟩ = some (.int .i64 x.object) ∧ w'.cell? ⟨mb, mo + f * 6 + 2, none⟩ = some (.bool x.write) ∧ w'.cell? ⟨mb, mo + f * 6 + 3, none⟩ = some (.int .i64 x.value) ∧ w'.cell? ⟨mb, mo + f * 6 + 4, none⟩ = some (.int .i64 x.beg) ∧ w'.cell? ⟨mb, mo + f * 6 + 5, none⟩ = some (.int .i64 x.fin) ∧ w'.cell? ⟨mb, mo + g * 6, none⟩ = some (.int .i64 y.client) ∧ w'.cell? ⟨mb, mo + g * 6 + 1, none⟩ = some (.int .i64 y.object) ∧ w'.cell? ⟨mb, mo + g * 6 + 2, none⟩ = some (.bool y.write) ∧ w'.cell? ⟨mb, mo + g * 6 + 3, none⟩ = some (.int .i64 y.value) ∧ w'.cell? ⟨mb, mo + g * 6 + 4, none⟩ = some (.int .i64 y.beg) ∧ w'.cell? ⟨mb, mo + g * 6 + 5, none⟩ = some (.int .i64 y.fin))
                    (first | exact kk | go_keep)
                    (first | (go_at_call 26; refine (l15Before_c y x false _ _ hbf).mono ?_; rintro r wa ⟨rfl, hBa⟩; have Ba : Below wr.heap.size wr wa := stHi (Below.refl _ _).drew hBa; have kk : wa.cell? ⟨mb, mo + f * 6, none⟩ = some (.int .i64 x.client) ∧ wa.cell? ⟨mb, mo + f * 6 + 1, none⟩ = some (.int .i64 x.object) ∧ wa.cell? ⟨mb, mo + f * 6 + 2, none⟩ = some (.bool x.write) ∧ wa.cell? ⟨mb, mo + f * 6 + 3, none⟩ = some (.int .i64 x.value) ∧ wa.cell? ⟨mb, mo + f * 6 + 4, none⟩ = some (.int .i64 x.beg) ∧ wa.cell? ⟨mb, mo + f * 6 + 5, none⟩ = some (.int .i64 x.fin) ∧ wa.cell? ⟨mb, mo + g * 6, none⟩ = some (.int .i64 y.client) ∧ wa.cell? ⟨mb, mo + g * 6 + 1, none⟩ = some (.int .i64 y.object) ∧ wa.cell? ⟨mb, mo + g * 6 + 2, none⟩ = some (.bool y.write) ∧ wa.cell? ⟨mb, mo + g * 6 + 3, none⟩ = some (.int .i64 y.value) ∧ wa.cell? ⟨mb, mo + g * 6 + 4, none⟩ = some (.int .i64 y.beg) ∧ wa.cell? ⟨mb, mo + g * 6 + 5, none⟩ = some (.int .i64 y.fin) := by obtain ⟨t0, t1, t2, t3, t4, t5, t6, t7, t8, t9, t10, t11⟩ := kk; exact ⟨celB hBa t0, celB hBa t1, celB hBa t2, celB hBa t3, celB hBa t4, celB hBa t5, celB hBa t6, celB hBa t7, celB hBa t8, celB hBa t9, celB hBa t10, celB hBa t11⟩))
                  go_wp2
                  refine bodyPost_ret (v := .tuple #[.bool false, .bool true]) (by simp [results, Tryd.results8, go_sem]) rfl ⟨by rw [HE.out, HI.out], stHi B3 Ba⟩
                | false =>
                  have HN : Hid (∀ t, k < t → t < k + 1 + (j + 1) → befB false (clA l (zA zs t).toNat) (clA l (zA zs k).toNat) = false) := fun t h1 h2 => by
                    by_cases e : t = k + 1 + j
                    · subst e; rw [HGG.out, HF.out, HY.out, HX.out]; exact hbf
                    · exact HJ.out t h1 (by omega)
                  clear HJ HO HF HGG
                  go_wp2_with fail
                  have kk : wr.drew.cell? ⟨mb, mo + f * 6, none⟩ = some (.int .i64 x.client) ∧ wr.drew.cell? ⟨mb, mo + f * 6 + 1, none⟩ = some (.int .i64 x.object) ∧ wr.drew.cell? ⟨mb, mo + f * 6 + 2, none⟩ = some (.bool x.write) ∧ wr.drew.cell? ⟨mb, mo + f * 6 + 3, none⟩ = some (.int .i64 x.value) ∧ wr.drew.cell? ⟨mb, mo + f * 6 + 4, none⟩ = some (.int .i64 x.beg) ∧ wr.drew.cell? ⟨mb, mo + f * 6 + 5, none⟩ = some (.int .i64 x.fin) ∧ wr.drew.cell? ⟨mb, mo + g * 6, none⟩ = some (.int .i64 y.client) ∧ wr.drew.cell? ⟨mb, mo + g * 6 + 1, none⟩ = some (.int .i64 y.object) ∧ wr.drew.cell? ⟨mb, mo + g * 6 + 2, none⟩ = some (.bool y.write) ∧ wr.drew.cell? ⟨mb, mo + g * 6 + 3, none⟩ = some (.int .i64 y.value) ∧ wr.drew.cell? ⟨mb, mo + g * 6 + 4, none⟩ = some (.int .i64 y.beg) ∧ wr.drew.cell? ⟨mb, mo + g * 6 + 5, none⟩ = some (.int .i64 y.fin) := ⟨v0, v1, v2, v3, v4, v5, e0, e1, e2, e3, e4, e5⟩
                  go_region_held3 (fun w' => w'.cell? ⟨mb, mo + f * 6, none⟩ = some (.int .i64 x.client) ∧ w'.cell? ⟨mb, mo + f * 6 + 1, none⟩ = some (.int .i64 x.object) ∧ w'.cell? ⟨mb, mo + f * 6 + 2, none⟩ = some (.bool x.write) ∧ w'.cell? ⟨mb, mo + f * 6 + 3, none⟩ = some (.int .i64 x.value) ∧ w'.cell? ⟨mb, mo + f * 6 + 4, none⟩ = some (.int .i64 x.beg) ∧ w'.cell? ⟨mb, mo + f * 6 + 5, none⟩ = some (.int .i64 x.fin) ∧ w'.cell? ⟨mb, mo + g * 6, none⟩ = some (.int .i64 y.client) ∧ w'.cell? ⟨mb, mo + g * 6 + 1, none⟩ = some (.int .i64 y.object) ∧ w'.cell? ⟨mb, mo + g * 6 + 2, none⟩ = some (.bool y.write) ∧ w'.cell? ⟨mb, mo + g * 6 + 3, none⟩ = some (.int .i64 y.value) ∧ w'.cell? ⟨mb, mo + g * 6 + 4, none⟩ = some (.int .i64 y.beg) ∧ w'.cell? ⟨mb, mo + g * 6 + 5, none⟩ = some (.int .i64 y.fin))
                    (first | exact kk | go_keep)
                    (first | (go_at_call 26; refine (l15Before_c y x false _ _ hbf).mono ?_; rintro r wa ⟨rfl, hBa⟩; have Ba : Below wr.heap.size wr wa := stHi (Below.refl _ _).drew hBa; have kk : wa.cell? ⟨mb, mo + f * 6, none⟩ = some (.int .i64 x.client) ∧ wa.cell? ⟨mb, mo + f * 6 + 1, none⟩ = some (.int .i64 x.object) ∧ wa.cell? ⟨mb, mo + f * 6 + 2, none⟩ = some (.bool x.write) ∧ wa.cell? ⟨mb, mo + f * 6 + 3, none⟩ = some (.int .i64 x.value) ∧ wa.cell? ⟨mb, mo + f * 6 + 4, none⟩ = some (.int .i64 x.beg) ∧ wa.cell? ⟨mb, mo + f * 6 + 5, none⟩ = some (.int .i64 x.fin) ∧ wa.cell? ⟨mb, mo + g * 6, none⟩ = some (.int .i64 y.client) ∧ wa.cell? ⟨mb, mo + g * 6 + 1, none⟩ = some (.int .i64 y.object) ∧ wa.cell? ⟨mb, mo + g * 6 + 2, none⟩ = some (.bool y.write) ∧ wa.cell? ⟨mb, mo + g * 6 + 3, none⟩ = some (.int .i64 y.value) ∧ wa.cell? ⟨mb, mo + g * 6 + 4, none⟩ = some (.int .i64 y.beg) ∧ wa.cell? ⟨mb, mo + g * 6 + 5, none⟩ = some (.int .i64 y.fin) := by obtain ⟨t0, t1, t2, t3, t4, t5, t6, t7, t8, t9, t10, t11⟩ := kk; exact ⟨celB hBa t0, celB hBa t1, celB hBa t2, celB hBa t3, celB hBa t4, celB hBa t5, celB hBa t6, celB hBa t7, celB hBa t8, celB hBa t9, celB hBa t10, celB hBa t11⟩))
                  go_wp2
                  go_roundw
                  case rel => exact ⟨j + 1, by omega, by go_num, HN.out, stHi hB2 Ba⟩
                  case measure => simp [intOf]; omega
              · obtain rfl : j = zs.length - (k + 1) := by omega
                have HO1 : Hid (rtTo l zs (k + 1)) := rtTo_succ HO.out (fun t h1 h2 => HJ.out t h1 (by omega))
                go_wp2
                go_roundw
                case rel => exact ⟨k + 1, by omega, by go_num, HO1.out, B2⟩
                case measure => simp [intOf]; omega
        · obtain rfl : k = zs.length := by omega
          have HE : Hid (rspA l zs = true) := by show _ = _; rw [HR.out]; exact rspB_done HO.out
          go_wp2
          refine bodyPost_ret (v := .tuple #[.bool true, .bool true]) (by simp [results, Tryd.results8, go_sem]) rfl ⟨by rw [HE.out, HI.out], B1⟩

end Go.Proofs.YtmbfdonefpegeaaDoor
