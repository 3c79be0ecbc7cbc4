/-
  Histories, the program's side: which call ends ahead of which, which overlap, which are good; impl.GoodCalls. Made by mkhii.py.
  Histories, the program's side: impl.isOrderOf (an order sorted has each number once), objectValues.behind. Made by mkhii2.py.
-/
import Derived.Test.YtmbfdonefpegeaaDoorHiS2J
import Derived.Test.YtmbfdonefpegeaaDoorVot
import Derived.Deep.RegionHeld3
import Derived.WalkMore
import Derived.Handy
import Derived.Test.YtmbfdonefpegeaaDoorHiV
import Derived.Test.YtmbfdonefpegeaaDoorQImpl
namespace Go.Proofs.YtmbfdonefpegeaaDoor
open Go.RowKit

theorem within_c (n hi : Int) (b : Bool) (w : World) (h : inB n 0 hi = b) : Calls Tryd.prog 30 #[.int .i64 n, .int .i64 hi] w fun e w' => e = .returned (.bool b) ∧ w' = w := by
  rw [← h]; exact within_any n hi w

/-- A call in a box of its own. -/
def Bx (w : World) (K : Nat) (x : Cl) : Prop := w.cell? ⟨K, 0, none⟩ = some (.int .i64 x.client) ∧ w.cell? ⟨K, 1, none⟩ = some (.int .i64 x.object) ∧ w.cell? ⟨K, 2, none⟩ = some (.bool x.write) ∧ w.cell? ⟨K, 3, none⟩ = some (.int .i64 x.value) ∧ w.cell? ⟨K, 4, none⟩ = some (.int .i64 x.beg) ∧ w.cell? ⟨K, 5, none⟩ = some (.int .i64 x.fin)
theorem Bx.below {w w' : World} {K : Nat} {x : Cl} (h : Bx w K x) (hb : Below w.heap.size w w') : Bx w' K x := ⟨celB hb h.1, celB hb h.2.1, celB hb h.2.2.1, celB hb h.2.2.2.1, celB hb h.2.2.2.2.1, celB hb h.2.2.2.2.2⟩
theorem Bx.new (w : World) (x : Cl) : Bx (w.alloc (.cells #[.int .i64 x.client, .int .i64 x.object, .bool x.write, .int .i64 x.value, .int .i64 x.beg, .int .i64 x.fin] 53)) w.heap.size x := by unfold Bx; simp [go_sem]
theorem Bx.lt {w : World} {K : Nat} {x : Cl} (h : Bx w K x) : K < w.heap.size := lt_of_cell h.1

theorem ends_c (x y : Cl) (b : Bool) (w : World) (h : decide (x.fin ≤ y.beg) = b) :
    Calls Tryd.prog 25 #[clV x, clV y] w fun r w' => r = .returned (.bool b) ∧ Below w.heap.size w w' := by
  have HB : ∀ o p, Below w.heap.size w ((w.alloc o).alloc p) := fun _ _ => stHi (alHi _ _) (alHi _ _)
  have HH : Hid (decide (x.fin ≤ y.beg) = b) := h
  clear h
  go_enter Tryd.func25, Tryd.ntmps25
  go_wp2
  go_ret
  exact ⟨ret_bool HH.out, HB _ _⟩

set_option maxRecDepth 100000 in
set_option maxHeartbeats 4000000 in
theorem overlaps_c (x y : Cl) (b : Bool) (w : World) (h : ovB y x = b) :
    Calls Tryd.prog 28 #[clV x, clV y] w fun r w' => r = .returned (.bool b) ∧ Below w.heap.size w w' := by
  obtain ⟨u0, hu0⟩ : ∃ u0, ((w.alloc (.cells #[.int .i64 x.client, .int .i64 x.object, .bool x.write, .int .i64 x.value, .int .i64 x.beg, .int .i64 x.fin] 53)).alloc (.cells #[.int .i64 y.client, .int .i64 y.object, .bool y.write, .int .i64 y.value, .int .i64 y.beg, .int .i64 y.fin] 53)) = u0 := ⟨_, rfl⟩
  have kx : Bx u0 w.heap.size x := by rw [← hu0]; exact (Bx.new w x).below (alHi _ _)
  have ky : Bx u0 (w.heap.size + 1) y := by rw [← hu0]; simpa using Bx.new (w.alloc _) y
  have bB : Below w.heap.size w u0 := by rw [← hu0]; exact stHi (alHi _ _) (alHi _ _)
  have HX : Hid (Bx u0 w.heap.size x) := kx
  have HY : Hid (Bx u0 (w.heap.size + 1) y) := ky
  obtain ⟨q0, q1, q2, q3, q4, q5⟩ := kx
  obtain ⟨p0, p1, p2, p3, p4, p5⟩ := ky
  by_cases h1 : x.fin ≤ y.beg
  · have HE : Hid (b = false) := by show _ = _; rw [← h]; simp [ovB]; omega
    go_enter Tryd.func28, Tryd.ntmps28
    go_wp2_with fail
    try rw [hu0]
    refine (ends_c x y true _ (by simp [h1])).mono ?_
    rintro r w1 ⟨rfl, hB1⟩
    clear hu0
    go_wp2
    go_ret
    exact ⟨ret_bool (by rw [HE.out]), stHi bB hB1⟩
  · have h2 : decide (x.fin ≤ y.beg) = false := decide_eq_false h1
    obtain ⟨t, ht⟩ : ∃ t, decide (y.fin ≤ x.beg) = t := ⟨_, rfl⟩
    have HE : Hid (b = !t) := by show _ = _; rw [← h, ← ht, Bool.eq_iff_iff]; simp [ovB]; omega
    clear h1 h
    go_enter Tryd.func28, Tryd.ntmps28
    go_wp2_with fail
    try rw [hu0]
    refine (ends_c x y false _ h2).mono ?_
    rintro r w1 ⟨rfl, hB1⟩
    obtain ⟨t0, t1, t2, t3, t4, t5⟩ := HX.out.below hB1
    obtain ⟨s0, s1, s2, s3, s4, s5⟩ := HY.out.below hB1
    have B1 := stHi bB hB1
    clear hu0 hB1 q0 q1 q2 q3 q4 q5 p0 p1 p2 p3 p4 p5 h2
    go_wp2_with fail
    refine (ends_c y x t _ ht).mono ?_
    rintro r w2 ⟨rfl, hB2⟩
    clear ht
    have B2 := stHi B1 hB2
    cases t
    all_goals
      go_wp2
      go_ret
      exact ⟨ret_bool (by rw [HE.out]; rfl), B2⟩

/-- One that must not overlap another. -/
abbrev litA (K : Nat) : Value := .func (.func 48) #[] #[.pointer (some ⟨K, 0, none⟩)]
set_option maxRecDepth 100000 in
set_option maxHeartbeats 4000000 in
theorem lit_c (o x : Cl) (K : Nat) (b : Bool) (w : World) (hx : Bx w K x) (h : clash o x = b) :
    Calls Tryd.prog 48 #[clV o, .pointer (some ⟨K, 0, none⟩)] w fun r w' => r = .returned (.bool (!b)) ∧ Below w.heap.size w w' := by
  obtain ⟨u0, hu0⟩ : ∃ u0, (w.alloc (.cells #[.int .i64 o.client, .int .i64 o.object, .bool o.write, .int .i64 o.value, .int .i64 o.beg, .int .i64 o.fin] 53)) = u0 := ⟨_, rfl⟩
  have ko : Bx u0 w.heap.size o := by rw [← hu0]; exact Bx.new w o
  have bB : Below w.heap.size w u0 := by rw [← hu0]; exact alHi _ _
  have kx : Bx u0 K x := hx.below bB
  obtain ⟨q0, q1, q2, q3, q4, q5⟩ := ko
  obtain ⟨p0, p1, p2, p3, p4, p5⟩ := kx
  by_cases h1 : o.client = x.client
  · have d1 : (o.client != x.client) = false := by simp [h1]
    have hO : ovB x o = b := by rw [← h]; simp [clash, ovB, h1]
    clear h1 h
    go_enter Tryd.func48, Tryd.ntmps48
    go_wp2_with fail
    try rw [hu0]
    refine (overlaps_c o x b _ hO).mono ?_
    rintro r w1 ⟨rfl, hB1⟩
    clear hu0 hO
    go_wp2
    go_ret
    exact ⟨ret_bool (by first | rfl | simp), stHi bB hB1⟩
  · have d1 : (o.client != x.client) = true := by simp [h1]
    have HE : Hid (b = false) := by show _ = _; rw [← h]; simp [clash, h1]
    clear h1 h
    go_enter Tryd.func48, Tryd.ntmps48
    go_wp2
    go_ret
    exact ⟨ret_bool (by rw [HE.out]; rfl), by first | exact bB | exact alHi _ _⟩

def apTo (l : List Cl) (x : Cl) (k : Nat) : Prop := ∀ t, t < k → clash (clA l t) x = false
instance (l : List Cl) (x : Cl) (k : Nat) : Decidable (apTo l x k) := by unfold apTo; infer_instance
theorem apTo_succ {l : List Cl} {x : Cl} {k : Nat} (h : apTo l x k) (hk : clash (clA l k) x = false) : apTo l x (k + 1) := fun i hi => by
  rcases Nat.lt_or_eq_of_le (Nat.le_of_lt_succ hi) with h1 | rfl
  · exact h i h1
  · exact hk
def apB (l : List Cl) (x : Cl) (k : Nat) : Bool := decide (apTo l x k)
theorem apB_bad {l : List Cl} {x : Cl} {k j : Nat} (hj : j < k) (h : clash (clA l j) x = true) : apB l x k = false := decide_eq_false fun g => by have := g j hj; rw [h] at this; cases this
theorem apB_done {l : List Cl} {x : Cl} {k : Nat} (h : apTo l x k) : apB l x k = true := decide_eq_true h

set_option maxRecDepth 100000 in
set_option maxHeartbeats 4000000 in
theorem allOfA_any (x : Cl) (K : Nat) (a : Option Addr) (c k : Nat) (l : List Cl) (w : World) (hs : Cls w a l) (hk : k ≤ l.length) (hl : l.length ≤ maxLen) (hx : Bx w K x) :
    Calls Tryd.prog 47 #[.slice a k c, litA K] w fun r w' => r = .returned (.bool (apB l x k)) ∧ Below w.heap.size w w' := by
  unfold maxLen at hl
  go_enter Tryd.func47, Tryd.ntmps47
  go_wp2
  go_loopw [9] (fun i wr => ∃ j : Nat, j ≤ k ∧ i = .int .i64 j ∧ Hid (apTo l x j) ∧ Below w.heap.size w wr) (fun i _ => k - (intOf i).toNat)
  case atStart => exact ⟨0, Nat.zero_le _, rfl, (fun i hi => absurd hi (Nat.not_lt_zero _)), Below.refl _ _⟩
  case round =>
    obtain ⟨j, hj, rfl, HO, hB⟩ := hrel
    by_cases hlt : j < k
    · obtain ⟨o, ho⟩ : ∃ o, clA l j = o := ⟨_, rfl⟩
      obtain ⟨b, off, rfl, c0, c1, c2, c3, c4, c5⟩ := (hs.below hB) j _ (clA_get (by omega))
      have HX : Hid (clA l j = o) := ho
      rw [ho] at c0 c1 c2 c3 c4 c5
      clear ho
      have hx' := hx.below hB
      have hki : (j : Int) < (k : Int) := by omega
      cases g : clash o x with
      | true =>
        have HE : Hid (apB l x k = false) := apB_bad hlt (by rw [HX.out]; exact g)
        go_wp2_with fail
        refine (lit_c o x K _ _ (hx'.below (alHi _ _)) g).mono ?_
        rintro r w1 ⟨rfl, hB1⟩
        have BB := stHi (stHi hB (alHi _ _)) hB1
        go_wp2
        go_ret
        exact ⟨ret_bool HE.out.symm, BB⟩
      | false =>
        have HN : Hid (apTo l x (j + 1)) := apTo_succ HO.out (by rw [HX.out]; exact g)
        go_wp2_with fail
        refine (lit_c o x K _ _ (hx'.below (alHi _ _)) g).mono ?_
        rintro r w1 ⟨rfl, hB1⟩
        have BB := stHi (stHi hB (alHi _ _)) hB1
        go_wp2
        go_roundw
        case rel => exact ⟨j + 1, by omega, by go_num, HN.out, BB⟩
        case measure => simp [intOf]; omega
    · obtain rfl : j = k := by omega
      have HE : Hid (apB l x j = true) := apB_done HO.out
      go_wp2
      go_ret
      exact ⟨ret_bool HE.out.symm, hB⟩

theorem isApart_c (x : Cl) (a : Option Addr) (c k : Nat) (l : List Cl) (b : Bool) (w : World) (hs : Cls w a l) (hk : k ≤ l.length) (hl : l.length ≤ maxLen) (h : apB l x k = b) :
    Calls Tryd.prog 35 #[clV x, .slice a k c] w fun r w' => r = .returned (.bool b) ∧ Below w.heap.size w w' := by
  go_enter Tryd.func35, Tryd.ntmps35
  go_wp2_with fail
  refine (allOfA_any x w.heap.size a c k l _ (hs.below (alHi _ _)) hk hl (Bx.new w x)).mono ?_
  rintro r w1 ⟨rfl, hB1⟩
  go_wp2
  go_ret
  exact ⟨ret_bool (by first | rfl | exact h), stHi (alHi _ _) hB1⟩

theorem okCl_iff (x : Cl) : okCl x = true ↔ ((0 ≤ x.client ∧ x.client ≤ 3) ∧ (0 ≤ x.object ∧ x.object ≤ 2) ∧ (0 ≤ x.value ∧ x.value ≤ 9) ∧ (x.write = true → 0 < x.value) ∧ (0 ≤ x.beg ∧ x.beg ≤ 100) ∧ (0 ≤ x.fin ∧ x.fin ≤ 100) ∧ x.beg < x.fin) := by
  simp only [okCl, Bool.and_eq_true, Bool.or_eq_true, Bool.not_eq_true', decide_eq_true_eq, inB_t]
  cases x.write <;> simp
theorem okCl_no {x : Cl} (h : ¬ ((0 ≤ x.client ∧ x.client ≤ 3) ∧ (0 ≤ x.object ∧ x.object ≤ 2) ∧ (0 ≤ x.value ∧ x.value ≤ 9) ∧ (x.write = true → 0 < x.value) ∧ (0 ≤ x.beg ∧ x.beg ≤ 100) ∧ (0 ≤ x.fin ∧ x.fin ≤ 100) ∧ x.beg < x.fin)) : okCl x = false := by
  rw [Bool.eq_false_iff]; exact fun g => h ((okCl_iff x).1 g)

set_option maxRecDepth 100000 in
set_option maxHeartbeats 8000000 in
theorem goodCall_any (x : Cl) (w : World) :
    Calls Tryd.prog 34 #[clV x] w fun r w' => r = .returned (.bool (okCl x)) ∧ Below w.heap.size w w' := by
  have HB : ∀ o, Below w.heap.size w (w.alloc o) := fun o => alHi w o
  cases h0 : x.write with
  | true =>
    cases g1 : inB x.client 0 3 with
    | false =>
      have HE : Hid (okCl x = false) := okCl_no (by rintro ⟨k1, k2, k3, k4, k5, k6, k7⟩; exact inB_f.1 g1 k1)
      rw [HE.out]
      unfold clV
      rw [h0]
      go_enter Tryd.func34, Tryd.ntmps34
      go_wp2_with (go_at_call 30; refine (within_c _ _ _ _ (by first | exact g1 | exact g2)).mono ?_; rintro e w' ⟨rfl, hw⟩; rw [hw]; clear hw w')
      go_ret
      exact ⟨ret_bool (by first | rfl | (simp; omega)), HB _⟩
    | true =>
      cases g2 : inB x.object 0 2 with
      | false =>
        have HE : Hid (okCl x = false) := okCl_no (by rintro ⟨k1, k2, k3, k4, k5, k6, k7⟩; exact inB_f.1 g2 k2)
        rw [HE.out]
        unfold clV
        rw [h0]
        go_enter Tryd.func34, Tryd.ntmps34
        go_wp2_with (go_at_call 30; refine (within_c _ _ _ _ (by first | exact g1 | exact g2)).mono ?_; rintro e w' ⟨rfl, hw⟩; rw [hw]; clear hw w')
        go_ret
        exact ⟨ret_bool (by first | rfl | (simp; omega)), HB _⟩
      | true =>
        by_cases g3 : x.value < 1
        · have HE : Hid (okCl x = false) := okCl_no (by rintro ⟨k1, k2, k3, k4, k5, k6, k7⟩; have := k4 h0; omega)
          rw [HE.out]
          unfold clV
          rw [h0]
          go_enter Tryd.func34, Tryd.ntmps34
          go_wp2_with (go_at_call 30; refine (within_c _ _ _ _ (by first | exact g1 | exact g2)).mono ?_; rintro e w' ⟨rfl, hw⟩; rw [hw]; clear hw w')
          go_ret
          exact ⟨ret_bool (by first | rfl | (simp; omega)), HB _⟩
        · by_cases g4 : 9 < x.value
          · have HE : Hid (okCl x = false) := okCl_no (by rintro ⟨k1, k2, k3, k4, k5, k6, k7⟩; omega)
            rw [HE.out]
            unfold clV
            rw [h0]
            go_enter Tryd.func34, Tryd.ntmps34
            go_wp2_with (go_at_call 30; refine (within_c _ _ _ _ (by first | exact g1 | exact g2)).mono ?_; rintro e w' ⟨rfl, hw⟩; rw [hw]; clear hw w')
            go_ret
            exact ⟨ret_bool (by first | rfl | (simp; omega)), HB _⟩
          · by_cases g5 : x.beg < 0
            · have HE : Hid (okCl x = false) := okCl_no (by rintro ⟨k1, k2, k3, k4, k5, k6, k7⟩; omega)
              rw [HE.out]
              unfold clV
              rw [h0]
              go_enter Tryd.func34, Tryd.ntmps34
              go_wp2_with (go_at_call 30; refine (within_c _ _ _ _ (by first | exact g1 | exact g2)).mono ?_; rintro e w' ⟨rfl, hw⟩; rw [hw]; clear hw w')
              go_ret
              exact ⟨ret_bool (by first | rfl | (simp; omega)), HB _⟩
            · by_cases g6 : x.fin ≤ x.beg
              · have HE : Hid (okCl x = false) := okCl_no (by rintro ⟨k1, k2, k3, k4, k5, k6, k7⟩; omega)
                rw [HE.out]
                unfold clV
                rw [h0]
                go_enter Tryd.func34, Tryd.ntmps34
                go_wp2_with (go_at_call 30; refine (within_c _ _ _ _ (by first | exact g1 | exact g2)).mono ?_; rintro e w' ⟨rfl, hw⟩; rw [hw]; clear hw w')
                go_ret
                exact ⟨ret_bool (by first | rfl | (simp; omega)), HB _⟩
              · by_cases g7 : 100 < x.fin
                · have HE : Hid (okCl x = false) := okCl_no (by rintro ⟨k1, k2, k3, k4, k5, k6, k7⟩; omega)
                  rw [HE.out]
                  unfold clV
                  rw [h0]
                  go_enter Tryd.func34, Tryd.ntmps34
                  go_wp2_with (go_at_call 30; refine (within_c _ _ _ _ (by first | exact g1 | exact g2)).mono ?_; rintro e w' ⟨rfl, hw⟩; rw [hw]; clear hw w')
                  go_ret
                  exact ⟨ret_bool (by first | rfl | (simp; omega)), HB _⟩
                · have HE : Hid (okCl x = true) := (okCl_iff x).2 ⟨inB_t.1 g1, inB_t.1 g2, ⟨by omega, by omega⟩, (fun h => by first | omega | (rw [h0] at h; cases h)), ⟨by omega, by omega⟩, ⟨by omega, by omega⟩, by omega⟩
                  rw [HE.out]
                  unfold clV
                  rw [h0]
                  go_enter Tryd.func34, Tryd.ntmps34
                  go_wp2_with (go_at_call 30; refine (within_c _ _ _ _ (by first | exact g1 | exact g2)).mono ?_; rintro e w' ⟨rfl, hw⟩; rw [hw]; clear hw w')
                  go_ret
                  exact ⟨ret_bool (by first | rfl | (simp; omega)), HB _⟩
  | false =>
    cases g1 : inB x.client 0 3 with
    | false =>
      have HE : Hid (okCl x = false) := okCl_no (by rintro ⟨k1, k2, k3, k4, k5, k6, k7⟩; exact inB_f.1 g1 k1)
      rw [HE.out]
      unfold clV
      rw [h0]
      go_enter Tryd.func34, Tryd.ntmps34
      go_wp2_with (go_at_call 30; refine (within_c _ _ _ _ (by first | exact g1 | exact g2)).mono ?_; rintro e w' ⟨rfl, hw⟩; rw [hw]; clear hw w')
      go_ret
      exact ⟨ret_bool (by first | rfl | (simp; omega)), HB _⟩
    | true =>
      cases g2 : inB x.object 0 2 with
      | false =>
        have HE : Hid (okCl x = false) := okCl_no (by rintro ⟨k1, k2, k3, k4, k5, k6, k7⟩; exact inB_f.1 g2 k2)
        rw [HE.out]
        unfold clV
        rw [h0]
        go_enter Tryd.func34, Tryd.ntmps34
        go_wp2_with (go_at_call 30; refine (within_c _ _ _ _ (by first | exact g1 | exact g2)).mono ?_; rintro e w' ⟨rfl, hw⟩; rw [hw]; clear hw w')
        go_ret
        exact ⟨ret_bool (by first | rfl | (simp; omega)), HB _⟩
      | true =>
        by_cases g3 : x.value < 0
        · have HE : Hid (okCl x = false) := okCl_no (by rintro ⟨k1, k2, k3, k4, k5, k6, k7⟩; omega)
          rw [HE.out]
          unfold clV
          rw [h0]
          go_enter Tryd.func34, Tryd.ntmps34
          go_wp2_with (go_at_call 30; refine (within_c _ _ _ _ (by first | exact g1 | exact g2)).mono ?_; rintro e w' ⟨rfl, hw⟩; rw [hw]; clear hw w')
          go_ret
          exact ⟨ret_bool (by first | rfl | (simp; omega)), HB _⟩
        · by_cases g4 : 9 < x.value
          · have HE : Hid (okCl x = false) := okCl_no (by rintro ⟨k1, k2, k3, k4, k5, k6, k7⟩; omega)
            rw [HE.out]
            unfold clV
            rw [h0]
            go_enter Tryd.func34, Tryd.ntmps34
            go_wp2_with (go_at_call 30; refine (within_c _ _ _ _ (by first | exact g1 | exact g2)).mono ?_; rintro e w' ⟨rfl, hw⟩; rw [hw]; clear hw w')
            go_ret
            exact ⟨ret_bool (by first | rfl | (simp; omega)), HB _⟩
          · by_cases g5 : x.beg < 0
            · have HE : Hid (okCl x = false) := okCl_no (by rintro ⟨k1, k2, k3, k4, k5, k6, k7⟩; omega)
              rw [HE.out]
              unfold clV
              rw [h0]
              go_enter Tryd.func34, Tryd.ntmps34
              go_wp2_with (go_at_call 30; refine (within_c _ _ _ _ (by first | exact g1 | exact g2)).mono ?_; rintro e w' ⟨rfl, hw⟩; rw [hw]; clear hw w')
              go_ret
              exact ⟨ret_bool (by first | rfl | (simp; omega)), HB _⟩
            · by_cases g6 : x.fin ≤ x.beg
              · have HE : Hid (okCl x = false) := okCl_no (by rintro ⟨k1, k2, k3, k4, k5, k6, k7⟩; omega)
                rw [HE.out]
                unfold clV
                rw [h0]
                go_enter Tryd.func34, Tryd.ntmps34
                go_wp2_with (go_at_call 30; refine (within_c _ _ _ _ (by first | exact g1 | exact g2)).mono ?_; rintro e w' ⟨rfl, hw⟩; rw [hw]; clear hw w')
                go_ret
                exact ⟨ret_bool (by first | rfl | (simp; omega)), HB _⟩
              · by_cases g7 : 100 < x.fin
                · have HE : Hid (okCl x = false) := okCl_no (by rintro ⟨k1, k2, k3, k4, k5, k6, k7⟩; omega)
                  rw [HE.out]
                  unfold clV
                  rw [h0]
                  go_enter Tryd.func34, Tryd.ntmps34
                  go_wp2_with (go_at_call 30; refine (within_c _ _ _ _ (by first | exact g1 | exact g2)).mono ?_; rintro e w' ⟨rfl, hw⟩; rw [hw]; clear hw w')
                  go_ret
                  exact ⟨ret_bool (by first | rfl | (simp; omega)), HB _⟩
                · have HE : Hid (okCl x = true) := (okCl_iff x).2 ⟨inB_t.1 g1, inB_t.1 g2, ⟨by omega, by omega⟩, (fun h => by first | omega | (rw [h0] at h; cases h)), ⟨by omega, by omega⟩, ⟨by omega, by omega⟩, by omega⟩
                  rw [HE.out]
                  unfold clV
                  rw [h0]
                  go_enter Tryd.func34, Tryd.ntmps34
                  go_wp2_with (go_at_call 30; refine (within_c _ _ _ _ (by first | exact g1 | exact g2)).mono ?_; rintro e w' ⟨rfl, hw⟩; rw [hw]; clear hw w')
                  go_ret
                  exact ⟨ret_bool (by first | rfl | (simp; omega)), HB _⟩

theorem goodCall_c (x : Cl) (w : World) (b : Bool) (h : okCl x = b) :
    Calls Tryd.prog 34 #[clV x] w fun r w' => r = .returned (.bool b) ∧ Below w.heap.size w w' := by
  rw [← h]; exact goodCall_any x w

set_option maxRecDepth 100000 in
set_option maxHeartbeats 8000000 in
theorem implGoodCl_any (a : Option Addr) (c : Nat) (l : List Cl) (w : World) (hs : Cls w a l) (hl : l.length ≤ maxLen) (hc : l.length ≤ c) :
    Calls Tryd.prog 19 #[.slice a l.length c] w fun r w' => r = .returned (.bool (goodCl l)) ∧ Below w.heap.size w w' := by
  have hl' := hl
  unfold maxLen at hl'
  by_cases h7 : l.length ≤ 7
  · have h7' : (l.length : Int) ≤ 7 := by omega
    have H7 : Hid (l.length ≤ 7) := h7
    clear h7
    go_enter Tryd.func19, Tryd.ntmps19
    go_wp2
    go_loopw [10] (fun i wr => ∃ k : Nat, k ≤ l.length ∧ i = .int .i64 k ∧ Hid (clTo l k) ∧ Below w.heap.size w wr) (fun i _ => l.length - (intOf i).toNat)
    case atStart => exact ⟨0, Nat.zero_le _, rfl, (fun i hi => absurd hi (Nat.not_lt_zero _)), Below.refl _ _⟩
    case round =>
      obtain ⟨k, hk, rfl, HO, hB⟩ := hrel
      by_cases hlt : k < l.length
      · obtain ⟨x, hx⟩ : ∃ x, clA l k = x := ⟨_, rfl⟩
        obtain ⟨cb, co, rfl, c0, c1, c2, c3, c4, c5⟩ := (hs.below hB) k _ (clA_get hlt)
        have HX : Hid (clA l k = x) := hx
        rw [hx] at c0 c1 c2 c3 c4 c5
        clear hx
        have hki : (k : Int) < (l.length : Int) := by omega
        have hkc : (k : Int) ≤ (c : Int) := by omega
        obtain ⟨u, hu⟩ : ∃ u, wr.alloc (.cells #[.int .i64 x.client, .int .i64 x.object, .bool x.write, .int .i64 x.value, .int .i64 x.beg, .int .i64 x.fin] 53) = u := ⟨_, rfl⟩
        have bU : Below wr.heap.size wr u := by rw [← hu]; exact alHi _ _
        have B1 := stHi hB bU
        have BD : Below u.heap.size u u.drew := (Below.refl _ _).drew
        have kk0 : Bx u wr.heap.size x := by rw [← hu]; exact Bx.new wr x
        have kk : u.drew.cell? ⟨wr.heap.size, 0, none⟩ = some (.int .i64 x.client) ∧ u.drew.cell? ⟨wr.heap.size, 1, none⟩ = some (.int .i64 x.object) ∧ u.drew.cell? ⟨wr.heap.size, 2, none⟩ = some (.bool x.write) ∧ u.drew.cell? ⟨wr.heap.size, 3, none⟩ = some (.int .i64 x.value) ∧ u.drew.cell? ⟨wr.heap.size, 4, none⟩ = some (.int .i64 x.beg) ∧ u.drew.cell? ⟨wr.heap.size, 5, none⟩ = some (.int .i64 x.fin) := kk0.below BD
        obtain ⟨q0, q1, q2, q3, q4, q5⟩ := kk0
        cases g : okCl x with
        | false =>
          have HE : Hid (goodCl l = false) := goodCl_bad hlt (fun h => by have := h.1; rw [HX.out, g] at this; cases this)
          go_wp2_with fail
          try rw [hu]
          refine wp_region_noPanic ?_
          refine wp_region_held_drew (S := fun w' => w'.cell? ⟨wr.heap.size, 0, none⟩ = some (.int .i64 x.client) ∧ w'.cell? ⟨wr.heap.size, 1, none⟩ = some (.int .i64 x.object) ∧ w'.cell? ⟨wr.heap.size, 2, none⟩ = some (.bool x.write) ∧ w'.cell? ⟨wr.heap.size, 3, none⟩ = some (.int .i64 x.value) ∧ w'.cell? ⟨wr.heap.size, 4, none⟩ = some (.int .i64 x.beg) ∧ w'.cell? ⟨wr.heap.size, 5, none⟩ = some (.int .i64 x.fin)) (by kernel_rfl) kk (fun hH => ?_)
          refine wpAnyH_take (i := 0) (oi := ⟨_, _, _, _, _, _⟩) (v := ?va0) rfl (by kernel_rfl) (by kernel_rfl) (by kernel_rfl) (fun _ _ _ h => h) (Or.inl ⟨by rfl, ?ya0⟩) (by assumption) ?ra0
          case ya0 => intro w hSw; (try dsimp only at hSw); go_simp; try with_reducible rfl
          try simp only [Act.put, List.setIfInBounds_toArray, List.set_cons_zero, List.set_cons_succ]
          refine wpAnyH_ready (rs := [1]) (by kernel_rfl) (by simp) ?_
          refine AllReadyH.cons (o := ⟨_, _, _, _, _, _⟩) rfl (fun KK hK => ?_) AllReadyH.nil
          go_simp
          refine (goodCall_c x _ _ g).mono ?_
          rintro r W1 ⟨rfl, hBk⟩
          have kk1 : W1.cell? ⟨wr.heap.size, 0, none⟩ = some (.int .i64 x.client) ∧ W1.cell? ⟨wr.heap.size, 1, none⟩ = some (.int .i64 x.object) ∧ W1.cell? ⟨wr.heap.size, 2, none⟩ = some (.bool x.write) ∧ W1.cell? ⟨wr.heap.size, 3, none⟩ = some (.int .i64 x.value) ∧ W1.cell? ⟨wr.heap.size, 4, none⟩ = some (.int .i64 x.beg) ∧ W1.cell? ⟨wr.heap.size, 5, none⟩ = some (.int .i64 x.fin) := by exact Bx.below (w := u.drew) (K := wr.heap.size) (x := x) kk hBk
          have BE := stHi BD hBk
          clear hBk
          go_wp2_with fail
          refine hK.out _ _ kk1 (fun hH1 => ?_)
          clear hK KK hH
          try simp only [Act.put, List.setIfInBounds_toArray, List.set_cons_zero, List.set_cons_succ]
          refine wpAnyH_take (i := 2) (oi := ⟨_, _, _, _, _, _⟩) (v := ?va2) rfl (by kernel_rfl) (by kernel_rfl) (by kernel_rfl) (fun _ _ _ h => h) (Or.inl ⟨by rfl, ?ya2⟩) (by assumption) ?ra2
          case ya2 => intro w hSw; (try dsimp only at hSw); go_simp; try with_reducible rfl
          try simp only [Act.put, List.setIfInBounds_toArray, List.set_cons_zero, List.set_cons_succ]
          refine wpAnyH_take (i := 3) (oi := ⟨_, _, _, _, _, _⟩) (v := ?va3) rfl (by kernel_rfl) (by kernel_rfl) (by kernel_rfl) (fun _ _ _ h => h) (Or.inl ⟨by rfl, ?ya3⟩) (by assumption) ?ra3
          case ya3 => intro w hSw; (try dsimp only at hSw); go_simp; try with_reducible rfl
          try simp only [Act.put, List.setIfInBounds_toArray, List.set_cons_zero, List.set_cons_succ]
          refine wpAnyH_take (i := 4) (oi := ⟨_, _, _, _, _, _⟩) (v := undef) rfl (by kernel_rfl) (by kernel_rfl) (by kernel_rfl) (fun _ _ _ h => h) (Or.inr ⟨by rfl, rfl⟩) (by assumption) ?_
          try simp only [Act.put, List.setIfInBounds_toArray, List.set_cons_zero, List.set_cons_succ]
          refine wpAnyH_take (i := 5) (oi := ⟨_, _, _, _, _, _⟩) (v := undef) rfl (by kernel_rfl) (by kernel_rfl) (by kernel_rfl) (fun _ _ _ h => h) (Or.inr ⟨by rfl, rfl⟩) (by assumption) ?_
          try simp only [Act.put, List.setIfInBounds_toArray, List.set_cons_zero, List.set_cons_succ]
          refine wpAnyH_take (i := 6) (oi := ⟨_, _, _, _, _, _⟩) (v := undef) rfl (by kernel_rfl) (by kernel_rfl) (by kernel_rfl) (fun _ _ _ h => h) (Or.inr ⟨by rfl, rfl⟩) (by assumption) ?_
          try simp only [Act.put, List.setIfInBounds_toArray, List.set_cons_zero, List.set_cons_succ]
          refine wpAnyH_take (i := 7) (oi := ⟨_, _, _, _, _, _⟩) (v := undef) rfl (by kernel_rfl) (by kernel_rfl) (by kernel_rfl) (fun _ _ _ h => h) (Or.inr ⟨by rfl, rfl⟩) (by assumption) ?_
          try simp only [Act.put, List.setIfInBounds_toArray, List.set_cons_zero, List.set_cons_succ]
          refine wpAnyH_take (i := 8) (oi := ⟨_, _, _, _, _, _⟩) (v := undef) rfl (by kernel_rfl) (by kernel_rfl) (by kernel_rfl) (fun _ _ _ h => h) (Or.inr ⟨by rfl, rfl⟩) (by assumption) ?_
          try simp only [Act.put, List.setIfInBounds_toArray, List.set_cons_zero, List.set_cons_succ]
          refine wpAnyH_take (i := 9) (oi := ⟨_, _, _, _, _, _⟩) (v := undef) rfl (by kernel_rfl) (by kernel_rfl) (by kernel_rfl) (fun _ _ _ h => h) (Or.inr ⟨by rfl, rfl⟩) (by assumption) ?_
          try simp only [Act.put, List.setIfInBounds_toArray, List.set_cons_zero, List.set_cons_succ]
          refine wpAnyH_take (i := 10) (oi := ⟨_, _, _, _, _, _⟩) (v := ?va10) rfl (by kernel_rfl) (by kernel_rfl) (by kernel_rfl) (fun _ _ _ h => h) (Or.inl ⟨by rfl, ?ya10⟩) (by assumption) ?ra10
          case ya10 => intro w hSw; (try dsimp only at hSw); go_simp; try with_reducible rfl
          try simp only [Act.put, List.setIfInBounds_toArray, List.set_cons_zero, List.set_cons_succ]
          refine wpAnyH_done (by kernel_rfl) (NoPanic.normal ?_) _
          clear hu
          go_wp2
          go_ret
          exact ⟨ret_bool HE.out.symm, stHi B1 BE⟩
        | true =>
          have G : Hid (okCl x = true) := g
          cases g2 : apB l x k with
          | false =>
            have HE : Hid (goodCl l = false) := goodCl_bad hlt (fun h => by have := apB_done (l := l) (x := x) (k := k) (fun t ht => by rw [← HX.out]; exact h.2 t ht); rw [g2] at this; cases this)
            go_wp2_with fail
            try rw [hu]
            refine wp_region_noPanic ?_
            refine wp_region_held_drew (S := fun w' => w'.cell? ⟨wr.heap.size, 0, none⟩ = some (.int .i64 x.client) ∧ w'.cell? ⟨wr.heap.size, 1, none⟩ = some (.int .i64 x.object) ∧ w'.cell? ⟨wr.heap.size, 2, none⟩ = some (.bool x.write) ∧ w'.cell? ⟨wr.heap.size, 3, none⟩ = some (.int .i64 x.value) ∧ w'.cell? ⟨wr.heap.size, 4, none⟩ = some (.int .i64 x.beg) ∧ w'.cell? ⟨wr.heap.size, 5, none⟩ = some (.int .i64 x.fin)) (by kernel_rfl) kk (fun hH => ?_)
            refine wpAnyH_take (i := 0) (oi := ⟨_, _, _, _, _, _⟩) (v := ?vb0) rfl (by kernel_rfl) (by kernel_rfl) (by kernel_rfl) (fun _ _ _ h => h) (Or.inl ⟨by rfl, ?yb0⟩) (by assumption) ?rb0
            case yb0 => intro w hSw; (try dsimp only at hSw); go_simp; try with_reducible rfl
            try simp only [Act.put, List.setIfInBounds_toArray, List.set_cons_zero, List.set_cons_succ]
            refine wpAnyH_ready (rs := [1]) (by kernel_rfl) (by simp) ?_
            refine AllReadyH.cons (o := ⟨_, _, _, _, _, _⟩) rfl (fun KK hK => ?_) AllReadyH.nil
            go_simp
            refine (goodCall_c x _ _ g).mono ?_
            rintro r W1 ⟨rfl, hBk⟩
            have kk1 : W1.cell? ⟨wr.heap.size, 0, none⟩ = some (.int .i64 x.client) ∧ W1.cell? ⟨wr.heap.size, 1, none⟩ = some (.int .i64 x.object) ∧ W1.cell? ⟨wr.heap.size, 2, none⟩ = some (.bool x.write) ∧ W1.cell? ⟨wr.heap.size, 3, none⟩ = some (.int .i64 x.value) ∧ W1.cell? ⟨wr.heap.size, 4, none⟩ = some (.int .i64 x.beg) ∧ W1.cell? ⟨wr.heap.size, 5, none⟩ = some (.int .i64 x.fin) := by exact Bx.below (w := u.drew) (K := wr.heap.size) (x := x) kk hBk
            have BE := stHi BD hBk
            clear hBk
            go_wp2_with fail
            refine hK.out _ _ kk1 (fun hH1 => ?_)
            clear hK KK hH
            try simp only [Act.put, List.setIfInBounds_toArray, List.set_cons_zero, List.set_cons_succ]
            refine wpAnyH_take (i := 2) (oi := ⟨_, _, _, _, _, _⟩) (v := ?vb2) rfl (by kernel_rfl) (by kernel_rfl) (by kernel_rfl) (fun _ _ _ h => h) (Or.inl ⟨by rfl, ?yb2⟩) (by assumption) ?rb2
            case yb2 => intro w hSw; (try dsimp only at hSw); go_simp; try with_reducible rfl
            try simp only [Act.put, List.setIfInBounds_toArray, List.set_cons_zero, List.set_cons_succ]
            refine wpAnyH_take (i := 3) (oi := ⟨_, _, _, _, _, _⟩) (v := ?vb3) rfl (by kernel_rfl) (by kernel_rfl) (by kernel_rfl) (fun _ _ _ h => h) (Or.inl ⟨by rfl, ?yb3⟩) (by assumption) ?rb3
            case yb3 => intro w hSw; (try dsimp only at hSw); go_simp; try with_reducible rfl
            try simp only [Act.put, List.setIfInBounds_toArray, List.set_cons_zero, List.set_cons_succ]
            refine wpAnyH_take (i := 4) (oi := ⟨_, _, _, _, _, _⟩) (v := ?vb4) rfl (by kernel_rfl) (by kernel_rfl) (by kernel_rfl) (fun _ _ _ h => h) (Or.inl ⟨by rfl, ?yb4⟩) (by assumption) ?rb4
            case yb4 => intro w hSw; (try dsimp only at hSw); go_simp; try with_reducible rfl
            try simp only [Act.put, List.setIfInBounds_toArray, List.set_cons_zero, List.set_cons_succ]
            refine wpAnyH_take (i := 5) (oi := ⟨_, _, _, _, _, _⟩) (v := ?vb5) rfl (by kernel_rfl) (by kernel_rfl) (by kernel_rfl) (fun _ _ _ h => h) (Or.inl ⟨by rfl, ?yb5⟩) (by assumption) ?rb5
            case yb5 => intro w hSw; (try dsimp only at hSw); go_simp; try with_reducible rfl
            try simp only [Act.put, List.setIfInBounds_toArray, List.set_cons_zero, List.set_cons_succ]
            refine wpAnyH_take (i := 6) (oi := ⟨_, _, _, _, _, _⟩) (v := ?vb6) rfl (by kernel_rfl) (by kernel_rfl) (by kernel_rfl) (fun _ _ _ h => h) (Or.inl ⟨by rfl, ?yb6⟩) (by assumption) ?rb6
            case yb6 => intro w hSw; (try dsimp only at hSw); go_simp; try with_reducible rfl
            try simp only [Act.put, List.setIfInBounds_toArray, List.set_cons_zero, List.set_cons_succ]
            refine wpAnyH_take (i := 7) (oi := ⟨_, _, _, _, _, _⟩) (v := ?vb7) rfl (by kernel_rfl) (by kernel_rfl) (by kernel_rfl) (fun _ _ _ h => h) (Or.inl ⟨by rfl, ?yb7⟩) (by assumption) ?rb7
            case yb7 => intro w hSw; (try dsimp only at hSw); go_simp; try with_reducible rfl
            try simp only [Act.put, List.setIfInBounds_toArray, List.set_cons_zero, List.set_cons_succ]
            refine wpAnyH_ready (rs := [8]) (by kernel_rfl) (by simp) ?_
            refine AllReadyH.cons (o := ⟨_, _, _, _, _, _⟩) rfl (fun KK hK => ?_) AllReadyH.nil
            go_simp
            refine (isApart_c x _ _ _ l _ _ (hs.below (stHi B1 BE)) hk hl g2).mono ?_
            rintro r W2 ⟨rfl, hBk⟩
            have kk2 : W2.cell? ⟨wr.heap.size, 0, none⟩ = some (.int .i64 x.client) ∧ W2.cell? ⟨wr.heap.size, 1, none⟩ = some (.int .i64 x.object) ∧ W2.cell? ⟨wr.heap.size, 2, none⟩ = some (.bool x.write) ∧ W2.cell? ⟨wr.heap.size, 3, none⟩ = some (.int .i64 x.value) ∧ W2.cell? ⟨wr.heap.size, 4, none⟩ = some (.int .i64 x.beg) ∧ W2.cell? ⟨wr.heap.size, 5, none⟩ = some (.int .i64 x.fin) := by exact Bx.below (w := W1) (K := wr.heap.size) (x := x) kk1 hBk
            have BF := stHi BE hBk
            clear hBk
            go_wp2_with fail
            refine hK.out _ _ kk2 (fun hH8 => ?_)
            clear hK KK hH1
            try simp only [Act.put, List.setIfInBounds_toArray, List.set_cons_zero, List.set_cons_succ]
            refine wpAnyH_take (i := 9) (oi := ⟨_, _, _, _, _, _⟩) (v := ?vb9) rfl (by kernel_rfl) (by kernel_rfl) (by kernel_rfl) (fun _ _ _ h => h) (Or.inl ⟨by rfl, ?yb9⟩) (by assumption) ?rb9
            case yb9 => intro w hSw; (try dsimp only at hSw); go_simp; try with_reducible rfl
            try simp only [Act.put, List.setIfInBounds_toArray, List.set_cons_zero, List.set_cons_succ]
            refine wpAnyH_take (i := 10) (oi := ⟨_, _, _, _, _, _⟩) (v := ?vb10) rfl (by kernel_rfl) (by kernel_rfl) (by kernel_rfl) (fun _ _ _ h => h) (Or.inl ⟨by rfl, ?yb10⟩) (by assumption) ?rb10
            case yb10 => intro w hSw; (try dsimp only at hSw); go_simp; try with_reducible rfl
            try simp only [Act.put, List.setIfInBounds_toArray, List.set_cons_zero, List.set_cons_succ]
            refine wpAnyH_done (by kernel_rfl) (NoPanic.normal ?_) _
            clear hu
            go_wp2
            go_ret
            exact ⟨ret_bool HE.out.symm, stHi B1 BF⟩
          | true =>
            have HN : Hid (clTo l (k + 1)) := clTo_succ HO.out ⟨by rw [HX.out]; exact g, fun t ht => by rw [HX.out]; exact of_decide_eq_true g2 t ht⟩
            go_wp2_with fail
            try rw [hu]
            refine wp_region_noPanic ?_
            refine wp_region_held_drew (S := fun w' => w'.cell? ⟨wr.heap.size, 0, none⟩ = some (.int .i64 x.client) ∧ w'.cell? ⟨wr.heap.size, 1, none⟩ = some (.int .i64 x.object) ∧ w'.cell? ⟨wr.heap.size, 2, none⟩ = some (.bool x.write) ∧ w'.cell? ⟨wr.heap.size, 3, none⟩ = some (.int .i64 x.value) ∧ w'.cell? ⟨wr.heap.size, 4, none⟩ = some (.int .i64 x.beg) ∧ w'.cell? ⟨wr.heap.size, 5, none⟩ = some (.int .i64 x.fin)) (by kernel_rfl) kk (fun hH => ?_)
            refine wpAnyH_take (i := 0) (oi := ⟨_, _, _, _, _, _⟩) (v := ?vc0) rfl (by kernel_rfl) (by kernel_rfl) (by kernel_rfl) (fun _ _ _ h => h) (Or.inl ⟨by rfl, ?yc0⟩) (by assumption) ?rc0
            case yc0 => intro w hSw; (try dsimp only at hSw); go_simp; try with_reducible rfl
            try simp only [Act.put, List.setIfInBounds_toArray, List.set_cons_zero, List.set_cons_succ]
            refine wpAnyH_ready (rs := [1]) (by kernel_rfl) (by simp) ?_
            refine AllReadyH.cons (o := ⟨_, _, _, _, _, _⟩) rfl (fun KK hK => ?_) AllReadyH.nil
            go_simp
            refine (goodCall_c x _ _ g).mono ?_
            rintro r W1 ⟨rfl, hBk⟩
            have kk1 : W1.cell? ⟨wr.heap.size, 0, none⟩ = some (.int .i64 x.client) ∧ W1.cell? ⟨wr.heap.size, 1, none⟩ = some (.int .i64 x.object) ∧ W1.cell? ⟨wr.heap.size, 2, none⟩ = some (.bool x.write) ∧ W1.cell? ⟨wr.heap.size, 3, none⟩ = some (.int .i64 x.value) ∧ W1.cell? ⟨wr.heap.size, 4, none⟩ = some (.int .i64 x.beg) ∧ W1.cell? ⟨wr.heap.size, 5, none⟩ = some (.int .i64 x.fin) := by exact Bx.below (w := u.drew) (K := wr.heap.size) (x := x) kk hBk
            have BE := stHi BD hBk
            clear hBk
            go_wp2_with fail
            refine hK.out _ _ kk1 (fun hH1 => ?_)
            clear hK KK hH
            try simp only [Act.put, List.setIfInBounds_toArray, List.set_cons_zero, List.set_cons_succ]
            refine wpAnyH_take (i := 2) (oi := ⟨_, _, _, _, _, _⟩) (v := ?vc2) rfl (by kernel_rfl) (by kernel_rfl) (by kernel_rfl) (fun _ _ _ h => h) (Or.inl ⟨by rfl, ?yc2⟩) (by assumption) ?rc2
            case yc2 => intro w hSw; (try dsimp only at hSw); go_simp; try with_reducible rfl
            try simp only [Act.put, List.setIfInBounds_toArray, List.set_cons_zero, List.set_cons_succ]
            refine wpAnyH_take (i := 3) (oi := ⟨_, _, _, _, _, _⟩) (v := ?vc3) rfl (by kernel_rfl) (by kernel_rfl) (by kernel_rfl) (fun _ _ _ h => h) (Or.inl ⟨by rfl, ?yc3⟩) (by assumption) ?rc3
            case yc3 => intro w hSw; (try dsimp only at hSw); go_simp; try with_reducible rfl
            try simp only [Act.put, List.setIfInBounds_toArray, List.set_cons_zero, List.set_cons_succ]
            refine wpAnyH_take (i := 4) (oi := ⟨_, _, _, _, _, _⟩) (v := ?vc4) rfl (by kernel_rfl) (by kernel_rfl) (by kernel_rfl) (fun _ _ _ h => h) (Or.inl ⟨by rfl, ?yc4⟩) (by assumption) ?rc4
            case yc4 => intro w hSw; (try dsimp only at hSw); go_simp; try with_reducible rfl
            try simp only [Act.put, List.setIfInBounds_toArray, List.set_cons_zero, List.set_cons_succ]
            refine wpAnyH_take (i := 5) (oi := ⟨_, _, _, _, _, _⟩) (v := ?vc5) rfl (by kernel_rfl) (by kernel_rfl) (by kernel_rfl) (fun _ _ _ h => h) (Or.inl ⟨by rfl, ?yc5⟩) (by assumption) ?rc5
            case yc5 => intro w hSw; (try dsimp only at hSw); go_simp; try with_reducible rfl
            try simp only [Act.put, List.setIfInBounds_toArray, List.set_cons_zero, List.set_cons_succ]
            refine wpAnyH_take (i := 6) (oi := ⟨_, _, _, _, _, _⟩) (v := ?vc6) rfl (by kernel_rfl) (by kernel_rfl) (by kernel_rfl) (fun _ _ _ h => h) (Or.inl ⟨by rfl, ?yc6⟩) (by assumption) ?rc6
            case yc6 => intro w hSw; (try dsimp only at hSw); go_simp; try with_reducible rfl
            try simp only [Act.put, List.setIfInBounds_toArray, List.set_cons_zero, List.set_cons_succ]
            refine wpAnyH_take (i := 7) (oi := ⟨_, _, _, _, _, _⟩) (v := ?vc7) rfl (by kernel_rfl) (by kernel_rfl) (by kernel_rfl) (fun _ _ _ h => h) (Or.inl ⟨by rfl, ?yc7⟩) (by assumption) ?rc7
            case yc7 => intro w hSw; (try dsimp only at hSw); go_simp; try with_reducible rfl
            try simp only [Act.put, List.setIfInBounds_toArray, List.set_cons_zero, List.set_cons_succ]
            refine wpAnyH_ready (rs := [8]) (by kernel_rfl) (by simp) ?_
            refine AllReadyH.cons (o := ⟨_, _, _, _, _, _⟩) rfl (fun KK hK => ?_) AllReadyH.nil
            go_simp
            refine (isApart_c x _ _ _ l _ _ (hs.below (stHi B1 BE)) hk hl g2).mono ?_
            rintro r W2 ⟨rfl, hBk⟩
            have kk2 : W2.cell? ⟨wr.heap.size, 0, none⟩ = some (.int .i64 x.client) ∧ W2.cell? ⟨wr.heap.size, 1, none⟩ = some (.int .i64 x.object) ∧ W2.cell? ⟨wr.heap.size, 2, none⟩ = some (.bool x.write) ∧ W2.cell? ⟨wr.heap.size, 3, none⟩ = some (.int .i64 x.value) ∧ W2.cell? ⟨wr.heap.size, 4, none⟩ = some (.int .i64 x.beg) ∧ W2.cell? ⟨wr.heap.size, 5, none⟩ = some (.int .i64 x.fin) := by exact Bx.below (w := W1) (K := wr.heap.size) (x := x) kk1 hBk
            have BF := stHi BE hBk
            clear hBk
            go_wp2_with fail
            refine hK.out _ _ kk2 (fun hH8 => ?_)
            clear hK KK hH1
            try simp only [Act.put, List.setIfInBounds_toArray, List.set_cons_zero, List.set_cons_succ]
            refine wpAnyH_take (i := 9) (oi := ⟨_, _, _, _, _, _⟩) (v := ?vc9) rfl (by kernel_rfl) (by kernel_rfl) (by kernel_rfl) (fun _ _ _ h => h) (Or.inl ⟨by rfl, ?yc9⟩) (by assumption) ?rc9
            case yc9 => intro w hSw; (try dsimp only at hSw); go_simp; try with_reducible rfl
            try simp only [Act.put, List.setIfInBounds_toArray, List.set_cons_zero, List.set_cons_succ]
            refine wpAnyH_take (i := 10) (oi := ⟨_, _, _, _, _, _⟩) (v := ?vc10) rfl (by kernel_rfl) (by kernel_rfl) (by kernel_rfl) (fun _ _ _ h => h) (Or.inl ⟨by rfl, ?yc10⟩) (by assumption) ?rc10
            case yc10 => intro w hSw; (try dsimp only at hSw); go_simp; try with_reducible rfl
            try simp only [Act.put, List.setIfInBounds_toArray, List.set_cons_zero, List.set_cons_succ]
            refine wpAnyH_done (by kernel_rfl) (NoPanic.normal ?_) _
            have BW := stHi B1 BF
            clear hu BF BE BD bU B1
            go_wp2
            go_roundw
            case rel => exact ⟨k + 1, by omega, by go_num, HN.out, BW⟩
            case measure => simp [intOf]; omega
      · obtain rfl : k = l.length := by omega
        have HF : Hid (goodCl l = true) := by show _ = _; rw [goodCl_done HO.out]; simpa using H7.out
        go_wp2
        go_ret
        exact ⟨ret_bool HF.out.symm, hB⟩
  · have h7' : (7 : Int) < (l.length : Int) := by omega
    have HF : Hid (goodCl l = false) := by show _ = _; unfold goodCl; rw [decide_eq_false h7]; simp
    clear h7
    go_enter Tryd.func19, Tryd.ntmps19
    go_wp2
    go_ret
    exact ⟨ret_bool HF.out.symm, Below.refl _ _⟩

theorem implGoodCl_c (a : Option Addr) (c : Nat) (l : List Cl) (w : World) (hs : Cls w a l) (hl : l.length ≤ maxLen) (hc : l.length ≤ c) (b : Bool) (h : goodCl l = b) :
    Calls Tryd.prog 19 #[.slice a l.length c] w fun r w' => r = .returned (.bool b) ∧ Below w.heap.size w w' := by
  rw [← h]; exact implGoodCl_any a c l w hs hl hc

end Go.Proofs.YtmbfdonefpegeaaDoor

namespace Go.Proofs.YtmbfdonefpegeaaDoor
open Go.RowKit

theorem zA_el {zs : List Int} {i : Nat} (h : i < zs.length) : zA zs i = zs[i] := by
  have := zA_get h
  rw [List.getElem?_eq_getElem h] at this
  exact (Option.some.inj this).symm
theorem odTo_iff {n : Nat} {zs : List Int} : odTo n zs zs.length ↔ (∀ z ∈ zs, 0 ≤ z ∧ z < (n : Int)) ∧ zs.Nodup := by
  constructor
  · intro h
    refine ⟨fun z hz => ?_, ?_⟩
    · obtain ⟨i, hi⟩ := List.getElem?_of_mem hz
      have hlt := (List.getElem?_eq_some_iff.1 hi).1
      have := (h i hlt).1
      rw [zA_get hlt] at hi
      rw [Option.some.inj hi] at this
      exact this
    · rw [List.Nodup, List.pairwise_iff_getElem]
      intro i j hi hj hij e
      have h2 := (h j hj).2
      have hm : zA zs j ∈ zs.take j := by
        rw [List.mem_take_iff_getElem]
        exact ⟨i, by omega, by rw [zA_el hj]; exact e⟩
      rw [List.contains_iff_mem.2 hm] at h2
      cases h2
  · rintro ⟨h1, h2⟩ i hi
    refine ⟨h1 _ (List.mem_of_getElem? (zA_get hi)), ?_⟩
    rw [Bool.eq_false_iff]
    intro hc
    have hc := List.contains_iff_mem.1 hc
    rw [List.mem_take_iff_getElem] at hc
    obtain ⟨j, hj, e⟩ := hc
    rw [List.Nodup, List.pairwise_iff_getElem] at h2
    rw [zA_el hi] at e
    exact h2 j i (by omega) hi (by omega) e
theorem rise_iff {L : List Int} {m : Int} : riseTo L m L.length ↔ (∀ z ∈ L, 0 ≤ z ∧ z < m) ∧ L.Pairwise (fun a b => a < b) := by
  constructor
  · intro h
    refine ⟨fun z hz => ?_, ?_⟩
    · obtain ⟨i, hi⟩ := List.getElem?_of_mem hz
      have hlt := (List.getElem?_eq_some_iff.1 hi).1
      have := h i hlt
      rw [zA_get hlt] at hi
      rw [Option.some.inj hi] at this
      exact ⟨this.1, this.2.1⟩
    · have key : ∀ d i, i + d + 1 < L.length → zA L i < zA L (i + d + 1) := by
        intro d
        induction d with
        | zero => intro i hi; have := (h (i + 1) hi).2.2 (by omega); simpa using this
        | succ d ih =>
          intro i hi
          have h1 := ih i (by omega)
          have h2 := (h (i + (d + 1) + 1) hi).2.2 (by omega)
          rw [show i + (d + 1) + 1 - 1 = i + d + 1 by omega] at h2
          exact Int.lt_trans h1 h2
      rw [List.pairwise_iff_getElem]
      intro i j hi hj hij
      have := key (j - i - 1) i (by omega)
      rw [show i + (j - i - 1) + 1 = j by omega, zA_el hi, zA_el hj] at this
      exact this
  · rintro ⟨h1, h2⟩ i hi
    obtain ⟨a, b⟩ := h1 _ (List.mem_of_getElem? (zA_get hi))
    refine ⟨a, b, fun h0 => ?_⟩
    rw [List.pairwise_iff_getElem] at h2
    rw [zA_el hi, zA_el (by omega : i - 1 < L.length)]
    exact h2 (i - 1) i (by omega) hi (by omega)
theorem ord_rise {L zs : List Int} {n : Nat} (hp : L.Perm zs) (hs : L.Pairwise (fun a b => a ≤ b)) (hl : zs.length = n) : riseB L n = ordB n zs := by
  rw [Bool.eq_iff_iff, riseB_t, rise_iff]
  have e : ordB n zs = true ↔ odTo n zs zs.length := by simp [ordB, hl]
  rw [e, odTo_iff]
  refine and_congr ⟨fun h z hz => h z (hp.mem_iff.2 hz), fun h z hz => h z (hp.mem_iff.1 hz)⟩ ?_
  rw [← hp.nodup_iff]
  exact ⟨fun h => h.imp (fun h => Int.ne_of_lt h), fun h => (List.Pairwise.and hs h).imp (fun {a b} h => by have h1 := h.1; have h2 : a ≠ b := h.2; omega)⟩

theorem values_c (a : Option Addr) (n c : Nat) (w : World) :
    Calls Tryd.prog 38 #[.slice a n c] w fun r w' => r = .returned (valV w.heap.size) ∧ w' = w.alloc (.cells #[.slice a n c] 24) := by
  go_enter Tryd.func38, Tryd.ntmps38
  go_wp2
  go_ret
  exact ⟨rfl, rfl⟩

set_option maxRecDepth 100000 in
set_option maxHeartbeats 4000000 in
theorem isOrderOf_c (m : Nat) (zs : List Int) (a a2 : Option Addr) (c c2 : Nat) (b : Bool) (w : World) (hz : Ints w a2 zs) (hzl : zs.length ≤ maxLen) (h7 : m ≤ 7) (h : ordB m zs = b) :
    Calls Tryd.prog 20 #[.slice a m c, .slice a2 zs.length c2] w fun r w' => r = .returned (.bool b) ∧ Below w.heap.size w w' := by
  have hzl' := hzl
  unfold maxLen at hzl'
  by_cases hn : zs.length = m
  · have hd : ((zs.length : Int) != (m : Int)) = false := by simp [hn]
    have HN : Hid (zs.length = m) := hn
    have HH : Hid (ordB m zs = b) := h
    have h12 : zs.length ≤ 12 := by omega
    have hm7 : (m : Int) ≤ 7 := by omega
    clear hn h
    go_enter Tryd.func20, Tryd.ntmps20
    go_wp2_with fail
    refine (values_c _ _ _ _).mono ?_
    rintro r w1 ⟨rfl, rfl⟩
    go_wp2_with fail
    refine (sortedVal_any w.heap.size a2 c2 zs h12 _ (by simp [go_sem]) (hz.below (alHi _ _))).mono ?_
    rintro r w2 ⟨a', c', L, rfl, hp, hs, hI, hB2⟩
    have B2 := stHi (alHi w _) hB2
    have hE : riseB L m = b := by rw [ord_rise hp hs HN.out]; exact HH.out
    have hLl : L.length ≤ maxLen := by rw [hp.length_eq]; exact hzl
    clear hp hs hB2
    go_wp2_with fail
    refine (setFrom_any _ _ L m _ hI hLl hm7).mono ?_
    rintro r w3 ⟨rfl, hB3⟩
    have B3 := stHi B2 hB3
    rw [hE]
    clear hE hI hB3 B2
    go_wp2
    go_ret
    exact ⟨ret_bool rfl, stHi B3 (alHi _ _)⟩
  · have hd : ((zs.length : Int) != (m : Int)) = true := by simp; omega
    have HE : Hid (b = false) := by show _ = _; rw [← h]; simp [ordB, hn]
    clear hn h
    go_enter Tryd.func20, Tryd.ntmps20
    go_wp2
    go_ret
    exact ⟨ret_bool (by rw [HE.out]), Below.refl _ _⟩

abbrev arV (p q r : Int) : Value := .agg #[.int .i64 p, .int .i64 q, .int .i64 r]
/-- The three values, in a box. -/
def Vx (w : World) (R : Nat) (p q r : Int) : Prop := w.rowIs R 49 3 (fun i => .int .i64 (zA [p, q, r] i))
theorem Vx.below {w w' : World} {R : Nat} {p q r : Int} (h : Vx w R p q r) (hb : Below w.heap.size w w') : Vx w' R p q r := World.rowIs.of_block h (hb.block R (World.rowIs.lt h))
theorem Vx.cells {w : World} {R : Nat} {p q r : Int} (h : Vx w R p q r) : w.cell? ⟨R, 0, none⟩ = some (.int .i64 p) ∧ w.cell? ⟨R, 1, none⟩ = some (.int .i64 q) ∧ w.cell? ⟨R, 2, none⟩ = some (.int .i64 r) :=
  ⟨World.rowIs.cell h (i := 0) (by omega), World.rowIs.cell h (i := 1) (by omega), World.rowIs.cell h (i := 2) (by omega)⟩
theorem Vx.new (w : World) (p q r : Int) : Vx (w.alloc (.cells #[.int .i64 p, .int .i64 q, .int .i64 r] 49)) w.heap.size p q r :=
  World.rowIs_alloc w _ _ _ (fun i hi => by
    have : i < 3 := hi
    rcases (by omega : i = 0 ∨ i = 1 ∨ i = 2) with rfl | rfl | rfl <;> rfl)
theorem Vx.put {w : World} {R : Nat} {p q r : Int} (h : Vx w R p q r) (p' q' r' : Int) : Vx (((w.setCell ⟨R, 0, none⟩ (.int .i64 p')).setCell ⟨R, 1, none⟩ (.int .i64 q')).setCell ⟨R, 2, none⟩ (.int .i64 r')) R p' q' r' := by
  refine World.rowIs.congr (((World.rowIs.set h 0 (.int .i64 p')).set 1 (.int .i64 q')).set 2 (.int .i64 r')) fun j hj => ?_
  rcases (by omega : j = 0 ∨ j = 1 ∨ j = 2) with rfl | rfl | rfl <;> simp [zA]

/-- What the objects hold behind a call that may be done next. -/
theorem lgS_three {p q r : Int} {x : Cl} {us : List Int} (h : lgS [p, q, r] x = some us) : ∃ p' q' r', us = [p', q', r'] := by
  have := lgS_len h
  match us, this with
  | [p', q', r'], _ => exact ⟨p', q', r', rfl⟩

set_option maxRecDepth 100000 in
set_option maxHeartbeats 8000000 in
theorem behind_any (p q r : Int) (x : Cl) (w : World) (ho : 0 ≤ x.object ∧ x.object ≤ 2) :
    Calls Tryd.prog 21 #[arV p q r, clV x] w fun e w' => ((∃ p' q' r', lgS [p, q, r] x = some [p', q', r'] ∧ e = .returned (.tuple #[arV p' q' r', .bool true])) ∨ (lgS [p, q, r] x = none ∧ e = .returned (.tuple #[arV p q r, .bool false]))) ∧ Below w.heap.size w w' := by
  have HB : ∀ o p q, Below w.heap.size w (((w.alloc o).alloc p).alloc q) := fun _ _ _ => stHi (stHi (alHi _ _) (alHi _ _)) (alHi _ _)
  rcases (by omega : x.object = 0 ∨ x.object = 1 ∨ x.object = 2) with h0 | h0 | h0
  · cases hw : x.write with
    | true =>
      have HE : Hid (lgS [p, q, r] x = some [x.value, q, r]) := by show _ = _; simp [lgS, hw, h0]
      unfold clV
      rw [h0, hw]
      go_enter Tryd.func21, Tryd.ntmps21
      go_wp2
      go_region
      all_goals
        go_wp2
        refine bodyPost_ret (v := .tuple #[arV x.value q r, .bool true]) (by simp [results, Tryd.results21, go_sem]) rfl ⟨.inl ⟨_, _, _, HE.out, rfl⟩, ?_⟩
        first | exact HB _ _ _ | exact (HB _ _ _).drew | (repeat (first | exact HB _ _ _ | refine Below.drew ?_ | refine Below.setCell ?_ (by simp) _))
    | false =>
      by_cases hv : p = x.value
      · have hd : (p == x.value) = true := by simp [hv]
        have HE : Hid (lgS [p, q, r] x = some [p, q, r]) := by show _ = _; simp [lgS, hw, h0, zA, hv]
        clear hv
        unfold clV
        rw [h0, hw]
        go_enter Tryd.func21, Tryd.ntmps21
        go_wp2
        go_region
        all_goals
          go_wp2
          refine bodyPost_ret (v := .tuple #[arV p q r, .bool true]) (by simp [results, Tryd.results21, go_sem]) rfl ⟨.inl ⟨_, _, _, HE.out, rfl⟩, ?_⟩
          first | exact HB _ _ _ | exact (HB _ _ _).drew | (repeat (first | exact HB _ _ _ | refine Below.drew ?_ | refine Below.setCell ?_ (by simp) _))
      · have hd : (p == x.value) = false := by simp [hv]
        have HE : Hid (lgS [p, q, r] x = none) := by show _ = _; simp [lgS, hw, h0, zA, hv]
        clear hv
        unfold clV
        rw [h0, hw]
        go_enter Tryd.func21, Tryd.ntmps21
        go_wp2
        go_region
        all_goals
          go_wp2
          refine bodyPost_ret (v := .tuple #[arV p q r, .bool false]) (by simp [results, Tryd.results21, go_sem]) rfl ⟨.inr ⟨HE.out, rfl⟩, ?_⟩
          first | exact HB _ _ _ | exact (HB _ _ _).drew | (repeat (first | exact HB _ _ _ | refine Below.drew ?_ | refine Below.setCell ?_ (by simp) _))
  · cases hw : x.write with
    | true =>
      have HE : Hid (lgS [p, q, r] x = some [p, x.value, r]) := by show _ = _; simp [lgS, hw, h0]
      unfold clV
      rw [h0, hw]
      go_enter Tryd.func21, Tryd.ntmps21
      go_wp2
      go_region
      all_goals
        go_wp2
        refine bodyPost_ret (v := .tuple #[arV p x.value r, .bool true]) (by simp [results, Tryd.results21, go_sem]) rfl ⟨.inl ⟨_, _, _, HE.out, rfl⟩, ?_⟩
        first | exact HB _ _ _ | exact (HB _ _ _).drew | (repeat (first | exact HB _ _ _ | refine Below.drew ?_ | refine Below.setCell ?_ (by simp) _))
    | false =>
      by_cases hv : q = x.value
      · have hd : (q == x.value) = true := by simp [hv]
        have HE : Hid (lgS [p, q, r] x = some [p, q, r]) := by show _ = _; simp [lgS, hw, h0, zA, hv]
        clear hv
        unfold clV
        rw [h0, hw]
        go_enter Tryd.func21, Tryd.ntmps21
        go_wp2
        go_region
        all_goals
          go_wp2
          refine bodyPost_ret (v := .tuple #[arV p q r, .bool true]) (by simp [results, Tryd.results21, go_sem]) rfl ⟨.inl ⟨_, _, _, HE.out, rfl⟩, ?_⟩
          first | exact HB _ _ _ | exact (HB _ _ _).drew | (repeat (first | exact HB _ _ _ | refine Below.drew ?_ | refine Below.setCell ?_ (by simp) _))
      · have hd : (q == x.value) = false := by simp [hv]
        have HE : Hid (lgS [p, q, r] x = none) := by show _ = _; simp [lgS, hw, h0, zA, hv]
        clear hv
        unfold clV
        rw [h0, hw]
        go_enter Tryd.func21, Tryd.ntmps21
        go_wp2
        go_region
        all_goals
          go_wp2
          refine bodyPost_ret (v := .tuple #[arV p q r, .bool false]) (by simp [results, Tryd.results21, go_sem]) rfl ⟨.inr ⟨HE.out, rfl⟩, ?_⟩
          first | exact HB _ _ _ | exact (HB _ _ _).drew | (repeat (first | exact HB _ _ _ | refine Below.drew ?_ | refine Below.setCell ?_ (by simp) _))
  · cases hw : x.write with
    | true =>
      have HE : Hid (lgS [p, q, r] x = some [p, q, x.value]) := by show _ = _; simp [lgS, hw, h0]
      unfold clV
      rw [h0, hw]
      go_enter Tryd.func21, Tryd.ntmps21
      go_wp2
      go_region
      all_goals
        go_wp2
        refine bodyPost_ret (v := .tuple #[arV p q x.value, .bool true]) (by simp [results, Tryd.results21, go_sem]) rfl ⟨.inl ⟨_, _, _, HE.out, rfl⟩, ?_⟩
        first | exact HB _ _ _ | exact (HB _ _ _).drew | (repeat (first | exact HB _ _ _ | refine Below.drew ?_ | refine Below.setCell ?_ (by simp) _))
    | false =>
      by_cases hv : r = x.value
      · have hd : (r == x.value) = true := by simp [hv]
        have HE : Hid (lgS [p, q, r] x = some [p, q, r]) := by show _ = _; simp [lgS, hw, h0, zA, hv]
        clear hv
        unfold clV
        rw [h0, hw]
        go_enter Tryd.func21, Tryd.ntmps21
        go_wp2
        go_region
        all_goals
          go_wp2
          refine bodyPost_ret (v := .tuple #[arV p q r, .bool true]) (by simp [results, Tryd.results21, go_sem]) rfl ⟨.inl ⟨_, _, _, HE.out, rfl⟩, ?_⟩
          first | exact HB _ _ _ | exact (HB _ _ _).drew | (repeat (first | exact HB _ _ _ | refine Below.drew ?_ | refine Below.setCell ?_ (by simp) _))
      · have hd : (r == x.value) = false := by simp [hv]
        have HE : Hid (lgS [p, q, r] x = none) := by show _ = _; simp [lgS, hw, h0, zA, hv]
        clear hv
        unfold clV
        rw [h0, hw]
        go_enter Tryd.func21, Tryd.ntmps21
        go_wp2
        go_region
        all_goals
          go_wp2
          refine bodyPost_ret (v := .tuple #[arV p q r, .bool false]) (by simp [results, Tryd.results21, go_sem]) rfl ⟨.inr ⟨HE.out, rfl⟩, ?_⟩
          first | exact HB _ _ _ | exact (HB _ _ _).drew | (repeat (first | exact HB _ _ _ | refine Below.drew ?_ | refine Below.setCell ?_ (by simp) _))
end Go.Proofs.YtmbfdonefpegeaaDoor
