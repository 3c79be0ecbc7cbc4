/-
  Histories, the specification's side: l15Call, GoodCalls. Made by mkhis.py.
-/
import Derived.Test.YthnkncmhbeeiaaaDoorHiM
import Derived.Test.YthnkncmhbeeiaaaDoorQSpec
import Derived.Deep.RegionHeld3
import Derived.WalkMore
import Derived.BigQuiet
namespace Go.Proofs.YthnkncmhbeeiaaaDoor
open Go.RowKit

abbrev clV (x : Cl) : Value := .agg #[.int .i64 x.client, .int .i64 x.object, .bool x.write, .int .i64 x.value, .int .i64 x.beg, .int .i64 x.fin]
theorem alHi (u : World) (o : Obj) : Below u.heap.size u (u.alloc o) := (Below.refl _ _).alloc (Nat.le_refl _) o
theorem stHi {w u v : World} (h1 : Below w.heap.size w u) (h2 : Below u.heap.size u v) : Below w.heap.size w v := h1.trans (h2.mono h1.size)

theorem l1In_c (n lo hi : Int) (b : Bool) (w : World) (h : inB n lo hi = b) : Calls Tryd.prog 39 #[.int .i64 n, .int .i64 lo, .int .i64 hi] w fun e w' => e = .returned (.bool b) ∧ w' = w := by
  rw [← h]; exact l1In_any n lo hi w

set_option maxRecDepth 100000 in
set_option maxHeartbeats 4000000 in
theorem l15Call_any (x : Cl) (w : World) :
    Calls Tryd.prog 27 #[clV x] w fun r w' => r = .returned (.bool (okCl x)) ∧ Below w.heap.size w w' := by
  have HB : ∀ o, Below w.heap.size w (w.alloc o) := fun o => alHi w o
  cases h0 : x.write with
  | true =>
    cases g1 : inB x.client 0 3 with
    | false =>
      have HE : Hid (okCl x = false) := by show _ = _; simp [okCl, h0, g1]
      rw [HE.out]
      unfold clV
      rw [h0]
      go_enter Tryd.func27, Tryd.ntmps27
      go_wp2_with (go_at_call 39; refine (l1In_c _ _ _ _ _ (by first | exact g1 | exact g2 | exact g3 | exact g5 | exact g6)).mono ?_; rintro e w' ⟨rfl, rfl⟩)
      go_ret
      exact ⟨ret_bool (by first | rfl | (simp; omega)), HB _⟩
    | true =>
      cases g2 : inB x.object 0 2 with
      | false =>
        have HE : Hid (okCl x = false) := by show _ = _; simp [okCl, h0, g1, g2]
        rw [HE.out]
        unfold clV
        rw [h0]
        go_enter Tryd.func27, Tryd.ntmps27
        go_wp2_with (go_at_call 39; refine (l1In_c _ _ _ _ _ (by first | exact g1 | exact g2 | exact g3 | exact g5 | exact g6)).mono ?_; rintro e w' ⟨rfl, rfl⟩)
        go_ret
        exact ⟨ret_bool (by first | rfl | (simp; omega)), HB _⟩
      | true =>
        cases g3 : inB x.value 0 9 with
        | false =>
          have HE : Hid (okCl x = false) := by show _ = _; simp [okCl, h0, g1, g2, g3]
          rw [HE.out]
          unfold clV
          rw [h0]
          go_enter Tryd.func27, Tryd.ntmps27
          go_wp2_with (go_at_call 39; refine (l1In_c _ _ _ _ _ (by first | exact g1 | exact g2 | exact g3 | exact g5 | exact g6)).mono ?_; rintro e w' ⟨rfl, rfl⟩)
          go_ret
          exact ⟨ret_bool (by first | rfl | (simp; omega)), HB _⟩
        | true =>
          cases g4 : decide (0 < x.value) with
          | false =>
            have HE : Hid (okCl x = false) := by show _ = _; simp [okCl, h0, g1, g2, g3, g4]
            have g4' : x.value ≤ (0 : Int) := by have := of_decide_eq_false g4; omega
            clear g4
            rw [HE.out]
            unfold clV
            rw [h0]
            go_enter Tryd.func27, Tryd.ntmps27
            go_wp2_with (go_at_call 39; refine (l1In_c _ _ _ _ _ (by first | exact g1 | exact g2 | exact g3 | exact g5 | exact g6)).mono ?_; rintro e w' ⟨rfl, rfl⟩)
            go_ret
            exact ⟨ret_bool (by first | rfl | (simp; omega)), HB _⟩
          | true =>
            cases g5 : inB x.beg 0 100 with
            | false =>
              have HE : Hid (okCl x = false) := by show _ = _; simp [okCl, h0, g1, g2, g3, g4, g5]
              have g4' : (0 : Int) < x.value := of_decide_eq_true g4
              clear g4
              rw [HE.out]
              unfold clV
              rw [h0]
              go_enter Tryd.func27, Tryd.ntmps27
              go_wp2_with (go_at_call 39; refine (l1In_c _ _ _ _ _ (by first | exact g1 | exact g2 | exact g3 | exact g5 | exact g6)).mono ?_; rintro e w' ⟨rfl, rfl⟩)
              go_ret
              exact ⟨ret_bool (by first | rfl | (simp; omega)), HB _⟩
            | true =>
              cases g6 : inB x.fin 0 100 with
              | false =>
                have HE : Hid (okCl x = false) := by show _ = _; simp [okCl, h0, g1, g2, g3, g4, g5, g6]
                have g4' : (0 : Int) < x.value := of_decide_eq_true g4
                clear g4
                rw [HE.out]
                unfold clV
                rw [h0]
                go_enter Tryd.func27, Tryd.ntmps27
                go_wp2_with (go_at_call 39; refine (l1In_c _ _ _ _ _ (by first | exact g1 | exact g2 | exact g3 | exact g5 | exact g6)).mono ?_; rintro e w' ⟨rfl, rfl⟩)
                go_ret
                exact ⟨ret_bool (by first | rfl | (simp; omega)), HB _⟩
              | true =>
                cases g7 : decide (x.beg < x.fin) with
                | false =>
                  have HE : Hid (okCl x = false) := by show _ = _; simp [okCl, h0, g1, g2, g3, g4, g5, g6, g7]
                  have g4' : (0 : Int) < x.value := of_decide_eq_true g4
                  clear g4
                  have g7' : x.fin ≤ x.beg := by have := of_decide_eq_false g7; omega
                  clear g7
                  rw [HE.out]
                  unfold clV
                  rw [h0]
                  go_enter Tryd.func27, Tryd.ntmps27
                  go_wp2_with (go_at_call 39; refine (l1In_c _ _ _ _ _ (by first | exact g1 | exact g2 | exact g3 | exact g5 | exact g6)).mono ?_; rintro e w' ⟨rfl, rfl⟩)
                  go_ret
                  exact ⟨ret_bool (by first | rfl | (simp; omega)), HB _⟩
                | true =>
                  have HE : Hid (okCl x = true) := by show _ = _; simp [okCl, h0, g1, g2, g3, g4, g5, g6, g7]
                  have g4' : (0 : Int) < x.value := of_decide_eq_true g4
                  clear g4
                  have g7' : x.beg < x.fin := of_decide_eq_true g7
                  clear g7
                  rw [HE.out]
                  unfold clV
                  rw [h0]
                  go_enter Tryd.func27, Tryd.ntmps27
                  go_wp2_with (go_at_call 39; refine (l1In_c _ _ _ _ _ (by first | exact g1 | exact g2 | exact g3 | exact g5 | exact g6)).mono ?_; rintro e w' ⟨rfl, rfl⟩)
                  go_ret
                  exact ⟨ret_bool (by first | rfl | (simp; omega)), HB _⟩
  | false =>
    cases g1 : inB x.client 0 3 with
    | false =>
      have HE : Hid (okCl x = false) := by show _ = _; simp [okCl, h0, g1]
      rw [HE.out]
      unfold clV
      rw [h0]
      go_enter Tryd.func27, Tryd.ntmps27
      go_wp2_with (go_at_call 39; refine (l1In_c _ _ _ _ _ (by first | exact g1 | exact g2 | exact g3 | exact g5 | exact g6)).mono ?_; rintro e w' ⟨rfl, rfl⟩)
      go_ret
      exact ⟨ret_bool (by first | rfl | (simp; omega)), HB _⟩
    | true =>
      cases g2 : inB x.object 0 2 with
      | false =>
        have HE : Hid (okCl x = false) := by show _ = _; simp [okCl, h0, g1, g2]
        rw [HE.out]
        unfold clV
        rw [h0]
        go_enter Tryd.func27, Tryd.ntmps27
        go_wp2_with (go_at_call 39; refine (l1In_c _ _ _ _ _ (by first | exact g1 | exact g2 | exact g3 | exact g5 | exact g6)).mono ?_; rintro e w' ⟨rfl, rfl⟩)
        go_ret
        exact ⟨ret_bool (by first | rfl | (simp; omega)), HB _⟩
      | true =>
        cases g3 : inB x.value 0 9 with
        | false =>
          have HE : Hid (okCl x = false) := by show _ = _; simp [okCl, h0, g1, g2, g3]
          rw [HE.out]
          unfold clV
          rw [h0]
          go_enter Tryd.func27, Tryd.ntmps27
          go_wp2_with (go_at_call 39; refine (l1In_c _ _ _ _ _ (by first | exact g1 | exact g2 | exact g3 | exact g5 | exact g6)).mono ?_; rintro e w' ⟨rfl, rfl⟩)
          go_ret
          exact ⟨ret_bool (by first | rfl | (simp; omega)), HB _⟩
        | true =>
          cases g5 : inB x.beg 0 100 with
          | false =>
            have HE : Hid (okCl x = false) := by show _ = _; simp [okCl, h0, g1, g2, g3, g5]
            rw [HE.out]
            unfold clV
            rw [h0]
            go_enter Tryd.func27, Tryd.ntmps27
            go_wp2_with (go_at_call 39; refine (l1In_c _ _ _ _ _ (by first | exact g1 | exact g2 | exact g3 | exact g5 | exact g6)).mono ?_; rintro e w' ⟨rfl, rfl⟩)
            go_ret
            exact ⟨ret_bool (by first | rfl | (simp; omega)), HB _⟩
          | true =>
            cases g6 : inB x.fin 0 100 with
            | false =>
              have HE : Hid (okCl x = false) := by show _ = _; simp [okCl, h0, g1, g2, g3, g5, g6]
              rw [HE.out]
              unfold clV
              rw [h0]
              go_enter Tryd.func27, Tryd.ntmps27
              go_wp2_with (go_at_call 39; refine (l1In_c _ _ _ _ _ (by first | exact g1 | exact g2 | exact g3 | exact g5 | exact g6)).mono ?_; rintro e w' ⟨rfl, rfl⟩)
              go_ret
              exact ⟨ret_bool (by first | rfl | (simp; omega)), HB _⟩
            | true =>
              cases g7 : decide (x.beg < x.fin) with
              | false =>
                have HE : Hid (okCl x = false) := by show _ = _; simp [okCl, h0, g1, g2, g3, g5, g6, g7]
                have g7' : x.fin ≤ x.beg := by have := of_decide_eq_false g7; omega
                clear g7
                rw [HE.out]
                unfold clV
                rw [h0]
                go_enter Tryd.func27, Tryd.ntmps27
                go_wp2_with (go_at_call 39; refine (l1In_c _ _ _ _ _ (by first | exact g1 | exact g2 | exact g3 | exact g5 | exact g6)).mono ?_; rintro e w' ⟨rfl, rfl⟩)
                go_ret
                exact ⟨ret_bool (by first | rfl | (simp; omega)), HB _⟩
              | true =>
                have HE : Hid (okCl x = true) := by show _ = _; simp [okCl, h0, g1, g2, g3, g5, g6, g7]
                have g7' : x.beg < x.fin := of_decide_eq_true g7
                clear g7
                rw [HE.out]
                unfold clV
                rw [h0]
                go_enter Tryd.func27, Tryd.ntmps27
                go_wp2_with (go_at_call 39; refine (l1In_c _ _ _ _ _ (by first | exact g1 | exact g2 | exact g3 | exact g5 | exact g6)).mono ?_; rintro e w' ⟨rfl, rfl⟩)
                go_ret
                exact ⟨ret_bool (by first | rfl | (simp; omega)), HB _⟩

theorem l15Call_c (x : Cl) (w : World) (b : Bool) (h : okCl x = b) :
    Calls Tryd.prog 27 #[clV x] w fun r w' => r = .returned (.bool b) ∧ Below w.heap.size w w' := by
  rw [← h]; exact l15Call_any x w

set_option maxRecDepth 100000 in
set_option maxHeartbeats 4000000 in
theorem specGoodCl_any (a : Option Addr) (c : Nat) (l : List Cl) (w : World) (hs : Cls w a l) (hl : l.length ≤ maxLen) (hc : l.length ≤ c) :
    Calls Tryd.prog 19 #[.slice a l.length c] w fun r w' => r = .returned (.bool (goodCl l)) ∧ Below w.heap.size w w' := by
  have hl' := hl
  unfold maxLen at hl'
  go_enter Tryd.func19, Tryd.ntmps19
  go_wp2
  go_loopw [9] (fun i wr => ∃ k : Nat, k ≤ l.length ∧ i = .int .i64 k ∧ Hid (clTo l k) ∧ Below w.heap.size w wr) (fun i _ => l.length - (intOf i).toNat)
  case atStart => exact ⟨0, Nat.zero_le _, rfl, (fun i hi => absurd hi (Nat.not_lt_zero _)), Below.refl _ _⟩
  case round =>
    obtain ⟨k, hk, rfl, HO, hB⟩ := hrel
    by_cases hlt : k < l.length
    · obtain ⟨cb, co, rfl, c0, c1, c2, c3, c4, c5⟩ := (hs.below hB) k _ (clA_get hlt)
      obtain ⟨x, hx⟩ : ∃ x, clA l k = x := ⟨_, rfl⟩
      have HX : Hid (clA l k = x) := hx
      rw [hx] at c0 c1 c2 c3 c4 c5
      clear hx
      have hki : (k : Int) < (l.length : Int) := by omega
      have hkc : (k : Int) ≤ (c : Int) := by omega
      cases g : okCl x with
      | false =>
        have HE : Hid (goodCl l = false) := goodCl_bad hlt (fun h => by have := h.1; rw [HX.out, g] at this; cases this)
        go_wp2_with fail
        refine (l15Call_c x _ _ g).mono ?_
        rintro r w1 ⟨rfl, hB1⟩
        go_wp2
        go_ret
        exact ⟨ret_bool HE.out.symm, stHi (stHi hB (alHi _ _)) hB1⟩
      | true =>
        have G : Hid (okCl x = true) := g
        go_wp2_with fail
        refine (l15Call_c x _ _ g).mono ?_
        rintro r w1 ⟨rfl, hB1⟩
        have B1 := stHi (stHi hB (alHi _ _)) hB1
        have q0 : w1.cell? ⟨wr.heap.size, 0, none⟩ = some (.int .i64 x.client) := celB hB1 (by simp [go_sem])
        have q1 : w1.cell? ⟨wr.heap.size, 1, none⟩ = some (.int .i64 x.object) := celB hB1 (by simp [go_sem])
        have q2 : w1.cell? ⟨wr.heap.size, 2, none⟩ = some (.bool x.write) := celB hB1 (by simp [go_sem])
        have q3 : w1.cell? ⟨wr.heap.size, 3, none⟩ = some (.int .i64 x.value) := celB hB1 (by simp [go_sem])
        have q4 : w1.cell? ⟨wr.heap.size, 4, none⟩ = some (.int .i64 x.beg) := celB hB1 (by simp [go_sem])
        have q5 : w1.cell? ⟨wr.heap.size, 5, none⟩ = some (.int .i64 x.fin) := celB hB1 (by simp [go_sem])
        clear hB1 g c0 c1 c2 c3 c4 c5
        go_wp2
        go_loopw [21] (fun i wr2 => ∃ j : Nat, j ≤ k ∧ i = .int .i64 j ∧ Hid (∀ t, t < j → clash (clA l t) (clA l k) = false) ∧ Below w1.heap.size w1 wr2) (fun i _ => k - (intOf i).toNat)
        case atStart => exact ⟨0, Nat.zero_le _, rfl, (fun i hi => absurd hi (Nat.not_lt_zero _)), Below.refl _ _⟩
        case round =>
          obtain ⟨j, hj, rfl, HJ, hB2⟩ := hrel
          have p0 := celB hB2 q0
          have p1 := celB hB2 q1
          have p2 := celB hB2 q2
          have p3 := celB hB2 q3
          have p4 := celB hB2 q4
          have p5 := celB hB2 q5
          have B2 := stHi B1 hB2
          by_cases hlt2 : j < k
          · obtain ⟨eb, eo, ea, e0, e1, e2, e3, e4, e5⟩ := (hs.below B2) j _ (clA_get (by omega))
            simp only [Option.some.injEq, Addr.mk.injEq, and_true] at ea
            obtain ⟨rfl, rfl⟩ := ea
            obtain ⟨o, ho⟩ : ∃ o, clA l j = o := ⟨_, rfl⟩
            have HO2 : Hid (clA l j = o) := ho
            rw [ho] at e0 e1 e2 e3 e4 e5
            clear ho
            have hji : (j : Int) < (k : Int) := by omega
            have r0 := fun o => celB (alHi wr o) p0
            have r1 := fun o => celB (alHi wr o) p1
            have r2 := fun o => celB (alHi wr o) p2
            have r3 := fun o => celB (alHi wr o) p3
            have r4 := fun o => celB (alHi wr o) p4
            have r5 := fun o => celB (alHi wr o) p5
            have HN : Hid (clash o x = false → ∀ t, t < j + 1 → clash (clA l t) (clA l k) = false) := fun h t ht => by
              rcases Nat.lt_or_eq_of_le (Nat.le_of_lt_succ ht) with h1 | rfl
              · exact HJ.out t h1
              · rw [HO2.out, HX.out]; exact h
            have HBad : Hid (clash o x = true → goodCl l = false) := fun h => goodCl_bad hlt (fun h2 => by have := h2.2 j hlt2; rw [HO2.out, HX.out, h] at this; cases this)
            by_cases f1 : o.client = x.client
            · have f1' : (o.client == x.client) = true := by simp [f1]
              by_cases f2 : x.beg < o.fin
              · by_cases f3 : o.beg < x.fin
                · have HE : Hid (goodCl l = false) := HBad.out (by simp [clash, f1, f2, f3])
                  clear f1
                  go_wp2
                  go_ret
                  exact ⟨ret_bool HE.out.symm, stHi B2 (alHi _ _)⟩
                · have HE : Hid (∀ t, t < j + 1 → clash (clA l t) (clA l k) = false) := HN.out (by simp [clash, f3])
                  clear f1
                  go_wp2
                  go_roundw
                  case rel => exact ⟨j + 1, by omega, by go_num, HE.out, stHi hB2 (alHi _ _)⟩
                  case measure => simp [intOf]; omega
              · have HE : Hid (∀ t, t < j + 1 → clash (clA l t) (clA l k) = false) := HN.out (by simp [clash, f2])
                clear f1
                go_wp2
                go_roundw
                case rel => exact ⟨j + 1, by omega, by go_num, HE.out, stHi hB2 (alHi _ _)⟩
                case measure => simp [intOf]; omega
            · have f1' : (o.client == x.client) = false := by simp [f1]
              have HE : Hid (∀ t, t < j + 1 → clash (clA l t) (clA l k) = false) := HN.out (by simp [clash, f1])
              clear f1
              go_wp2
              go_roundw
              case rel => exact ⟨j + 1, by omega, by go_num, HE.out, stHi hB2 (alHi _ _)⟩
              case measure => simp [intOf]; omega
          · obtain rfl : j = k := by omega
            have HE : Hid (clTo l (j + 1)) := clTo_succ HO.out ⟨by rw [HX.out]; exact G.out, HJ.out⟩
            go_wp2
            go_roundw
            case rel => exact ⟨j + 1, by omega, by go_num, HE.out, B2⟩
            case measure => simp [intOf]; omega
    · obtain rfl : k = l.length := by omega
      have HE : Hid (goodCl l = decide (l.length ≤ 7)) := goodCl_done HO.out
      by_cases h7 : l.length ≤ 7
      · have h7' : (l.length : Int) ≤ 7 := by omega
        have HF : Hid (goodCl l = true) := by show _ = _; rw [HE.out]; simp [h7]
        go_wp2
        go_ret
        exact ⟨ret_bool (by first | exact HF.out.symm | (rw [HF.out]; simp; omega)), hB⟩
      · have h7' : (7 : Int) < (l.length : Int) := by omega
        have HF : Hid (goodCl l = false) := by show _ = _; rw [HE.out]; simp [h7]
        go_wp2
        go_ret
        exact ⟨ret_bool (by first | exact HF.out.symm | (rw [HF.out]; simp; omega)), hB⟩

theorem specGoodCl_c (a : Option Addr) (c : Nat) (l : List Cl) (w : World) (hs : Cls w a l) (hl : l.length ≤ maxLen) (hc : l.length ≤ c) (b : Bool) (h : goodCl l = b) :
    Calls Tryd.prog 19 #[.slice a l.length c] w fun r w' => r = .returned (.bool b) ∧ Below w.heap.size w w' := by
  rw [← h]; exact specGoodCl_any a c l w hs hl hc

end Go.Proofs.YthnkncmhbeeiaaaDoor
