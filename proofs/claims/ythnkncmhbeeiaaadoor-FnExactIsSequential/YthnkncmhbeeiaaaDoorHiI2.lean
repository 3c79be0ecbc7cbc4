/-
  Histories, the program's side: impl.isOrderOf (an order sorted has each number once), objectValues.behind. Made by mkhii2.py.
-/
import Derived.Test.YthnkncmhbeeiaaaDoorHiV
import Derived.Test.YthnkncmhbeeiaaaDoorHiI1
import Derived.Test.YthnkncmhbeeiaaaDoorQImpl
namespace Go.Proofs.YthnkncmhbeeiaaaDoor
open Go.RowKit

theorem zA_el {zs : List Int} {i : Nat} (h : i < zs.length) : zA zs i = zs[i] := by
  have := zA_get h
  rw [List.getElem?_eq_getElem h] at this
  exact (Option.some.inj this).symm
theorem odTo_iff {n : Nat} {zs : List Int} : odTo n zs zs.length ↔ (∀ z ∈ zs, 0 ≤ z ∧ z < (n : Int)) ∧ zs.Nodup := by
  constructor
  · intro h
    refine ⟨fun z hz => ?_, ?_⟩
    · obtain ⟨i, hi⟩ := List.getElem?_of_mem hz
      have hlt := (List.getElem?_eq_some_iff.1 hi).1
      have := (h i hlt).1
      rw [zA_get hlt] at hi
      rw [Option.some.inj hi] at this
      exact this
    · rw [List.Nodup, List.pairwise_iff_getElem]
      intro i j hi hj hij e
      have h2 := (h j hj).2
      have hm : zA zs j ∈ zs.take j := by
        rw [List.mem_take_iff_getElem]
        exact ⟨i, by omega, by rw [zA_el hj]; exact e⟩
      rw [List.contains_iff_mem.2 hm] at h2
      cases h2
  · rintro ⟨h1, h2⟩ i hi
    refine ⟨h1 _ (List.mem_of_getElem? (zA_get hi)), ?_⟩
    rw [Bool.eq_false_iff]
    intro hc
    have hc := List.contains_iff_mem.1 hc
    rw [List.mem_take_iff_getElem] at hc
    obtain ⟨j, hj, e⟩ := hc
    rw [List.Nodup, List.pairwise_iff_getElem] at h2
    rw [zA_el hi] at e
    exact h2 j i (by omega) hi (by omega) e
theorem rise_iff {L : List Int} {m : Int} : riseTo L m L.length ↔ (∀ z ∈ L, 0 ≤ z ∧ z < m) ∧ L.Pairwise (fun a b => a < b) := by
  constructor
  · intro h
    refine ⟨fun z hz => ?_, ?_⟩
    · obtain ⟨i, hi⟩ := List.getElem?_of_mem hz
      have hlt := (List.getElem?_eq_some_iff.1 hi).1
      have := h i hlt
      rw [zA_get hlt] at hi
      rw [Option.some.inj hi] at this
      exact ⟨this.1, this.2.1⟩
    · have key : ∀ d i, i + d + 1 < L.length → zA L i < zA L (i + d + 1) := by
        intro d
        induction d with
        | zero => intro i hi; have := (h (i + 1) hi).2.2 (by omega); simpa using this
        | succ d ih =>
          intro i hi
          have h1 := ih i (by omega)
          have h2 := (h (i + (d + 1) + 1) hi).2.2 (by omega)
          rw [show i + (d + 1) + 1 - 1 = i + d + 1 by omega] at h2
          exact Int.lt_trans h1 h2
      rw [List.pairwise_iff_getElem]
      intro i j hi hj hij
      have := key (j - i - 1) i (by omega)
      rw [show i + (j - i - 1) + 1 = j by omega, zA_el hi, zA_el hj] at this
      exact this
  · rintro ⟨h1, h2⟩ i hi
    obtain ⟨a, b⟩ := h1 _ (List.mem_of_getElem? (zA_get hi))
    refine ⟨a, b, fun h0 => ?_⟩
    rw [List.pairwise_iff_getElem] at h2
    rw [zA_el hi, zA_el (by omega : i - 1 < L.length)]
    exact h2 (i - 1) i (by omega) hi (by omega)
theorem ord_rise {L zs : List Int} {n : Nat} (hp : L.Perm zs) (hs : L.Pairwise (fun a b => a ≤ b)) (hl : zs.length = n) : riseB L n = ordB n zs := by
  rw [Bool.eq_iff_iff, riseB_t, rise_iff]
  have e : ordB n zs = true ↔ odTo n zs zs.length := by simp [ordB, hl]
  rw [e, odTo_iff]
  refine and_congr ⟨fun h z hz => h z (hp.mem_iff.2 hz), fun h z hz => h z (hp.mem_iff.1 hz)⟩ ?_
  rw [← hp.nodup_iff]
  exact ⟨fun h => h.imp (fun h => Int.ne_of_lt h), fun h => (List.Pairwise.and hs h).imp (fun {a b} h => by have h1 := h.1; have h2 : a ≠ b := h.2; omega)⟩

abbrev arV (p q r : Int) : Value := .agg #[.int .i64 p, .int .i64 q, .int .i64 r]
/-- The three values, in a box. -/
def Vx (w : World) (R : Nat) (p q r : Int) : Prop := w.rowIs R 54 3 (fun i => .int .i64 (zA [p, q, r] i))
theorem Vx.below {w w' : World} {R : Nat} {p q r : Int} (h : Vx w R p q r) (hb : Below w.heap.size w w') : Vx w' R p q r := World.rowIs.of_block h (hb.block R (World.rowIs.lt h))
theorem Vx.cells {w : World} {R : Nat} {p q r : Int} (h : Vx w R p q r) : w.cell? ⟨R, 0, none⟩ = some (.int .i64 p) ∧ w.cell? ⟨R, 1, none⟩ = some (.int .i64 q) ∧ w.cell? ⟨R, 2, none⟩ = some (.int .i64 r) :=
  ⟨World.rowIs.cell h (i := 0) (by omega), World.rowIs.cell h (i := 1) (by omega), World.rowIs.cell h (i := 2) (by omega)⟩
theorem Vx.new (w : World) (p q r : Int) : Vx (w.alloc (.cells #[.int .i64 p, .int .i64 q, .int .i64 r] 54)) w.heap.size p q r :=
  World.rowIs_alloc w _ _ _ (fun i hi => by
    have : i < 3 := hi
    rcases (by omega : i = 0 ∨ i = 1 ∨ i = 2) with rfl | rfl | rfl <;> rfl)
theorem Vx.put {w : World} {R : Nat} {p q r : Int} (h : Vx w R p q r) (p' q' r' : Int) : Vx (((w.setCell ⟨R, 0, none⟩ (.int .i64 p')).setCell ⟨R, 1, none⟩ (.int .i64 q')).setCell ⟨R, 2, none⟩ (.int .i64 r')) R p' q' r' := by
  refine World.rowIs.congr (((World.rowIs.set h 0 (.int .i64 p')).set 1 (.int .i64 q')).set 2 (.int .i64 r')) fun j hj => ?_
  rcases (by omega : j = 0 ∨ j = 1 ∨ j = 2) with rfl | rfl | rfl <;> simp [zA]

/-- What the objects hold behind a call that may be done next. -/
theorem lgS_three {p q r : Int} {x : Cl} {us : List Int} (h : lgS [p, q, r] x = some us) : ∃ p' q' r', us = [p', q', r'] := by
  have := lgS_len h
  match us, this with
  | [p', q', r'], _ => exact ⟨p', q', r', rfl⟩

set_option maxRecDepth 100000 in
set_option maxHeartbeats 8000000 in
theorem behind_any (p q r : Int) (x : Cl) (w : World) (ho : 0 ≤ x.object ∧ x.object ≤ 2) :
    Calls Tryd.prog 35 #[arV p q r, clV x] w fun e w' => ((∃ p' q' r', lgS [p, q, r] x = some [p', q', r'] ∧ e = .returned (.tuple #[arV p' q' r', .bool true])) ∨ (lgS [p, q, r] x = none ∧ e = .returned (.tuple #[arV p q r, .bool false]))) ∧ Below w.heap.size w w' := by
  have HB : ∀ o p q, Below w.heap.size w (((w.alloc o).alloc p).alloc q) := fun _ _ _ => stHi (stHi (alHi _ _) (alHi _ _)) (alHi _ _)
  rcases (by omega : x.object = 0 ∨ x.object = 1 ∨ x.object = 2) with h0 | h0 | h0
  · cases hw : x.write with
    | true =>
      have HE : Hid (lgS [p, q, r] x = some [x.value, q, r]) := by show _ = _; simp [lgS, hw, h0]
      unfold clV
      rw [h0, hw]
      go_enter Tryd.func35, Tryd.ntmps35
      go_wp2
      go_region
      all_goals
        go_wp2
        refine bodyPost_ret (v := .tuple #[arV x.value q r, .bool true]) (by simp [results, Tryd.results35, go_sem]) rfl ⟨.inl ⟨_, _, _, HE.out, rfl⟩, ?_⟩
        first | exact HB _ _ _ | exact (HB _ _ _).drew | (repeat (first | exact HB _ _ _ | refine Below.drew ?_ | refine Below.setCell ?_ (by simp) _))
    | false =>
      by_cases hv : p = x.value
      · have hd : (p == x.value) = true := by simp [hv]
        have HE : Hid (lgS [p, q, r] x = some [p, q, r]) := by show _ = _; simp [lgS, hw, h0, zA, hv]
        clear hv
        unfold clV
        rw [h0, hw]
        go_enter Tryd.func35, Tryd.ntmps35
        go_wp2
        go_region
        all_goals
          go_wp2
          refine bodyPost_ret (v := .tuple #[arV p q r, .bool true]) (by simp [results, Tryd.results35, go_sem]) rfl ⟨.inl ⟨_, _, _, HE.out, rfl⟩, ?_⟩
          first | exact HB _ _ _ | exact (HB _ _ _).drew | (repeat (first | exact HB _ _ _ | refine Below.drew ?_ | refine Below.setCell ?_ (by simp) _))
      · have hd : (p == x.value) = false := by simp [hv]
        have HE : Hid (lgS [p, q, r] x = none) := by show _ = _; simp [lgS, hw, h0, zA, hv]
        clear hv
        unfold clV
        rw [h0, hw]
        go_enter Tryd.func35, Tryd.ntmps35
        go_wp2
        go_region
        all_goals
          go_wp2
          refine bodyPost_ret (v := .tuple #[arV p q r, .bool false]) (by simp [results, Tryd.results35, go_sem]) rfl ⟨.inr ⟨HE.out, rfl⟩, ?_⟩
          first | exact HB _ _ _ | exact (HB _ _ _).drew | (repeat (first | exact HB _ _ _ | refine Below.drew ?_ | refine Below.setCell ?_ (by simp) _))
  · cases hw : x.write with
    | true =>
      have HE : Hid (lgS [p, q, r] x = some [p, x.value, r]) := by show _ = _; simp [lgS, hw, h0]
      unfold clV
      rw [h0, hw]
      go_enter Tryd.func35, Tryd.ntmps35
      go_wp2
      go_region
      all_goals
        go_wp2
        refine bodyPost_ret (v := .tuple #[arV p x.value r, .bool true]) (by simp [results, Tryd.results35, go_sem]) rfl ⟨.inl ⟨_, _, _, HE.out, rfl⟩, ?_⟩
        first | exact HB _ _ _ | exact (HB _ _ _).drew | (repeat (first | exact HB _ _ _ | refine Below.drew ?_ | refine Below.setCell ?_ (by simp) _))
    | false =>
      by_cases hv : q = x.value
      · have hd : (q == x.value) = true := by simp [hv]
        have HE : Hid (lgS [p, q, r] x = some [p, q, r]) := by show _ = _; simp [lgS, hw, h0, zA, hv]
        clear hv
        unfold clV
        rw [h0, hw]
        go_enter Tryd.func35, Tryd.ntmps35
        go_wp2
        go_region
        all_goals
          go_wp2
          refine bodyPost_ret (v := .tuple #[arV p q r, .bool true]) (by simp [results, Tryd.results35, go_sem]) rfl ⟨.inl ⟨_, _, _, HE.out, rfl⟩, ?_⟩
          first | exact HB _ _ _ | exact (HB _ _ _).drew | (repeat (first | exact HB _ _ _ | refine Below.drew ?_ | refine Below.setCell ?_ (by simp) _))
      · have hd : (q == x.value) = false := by simp [hv]
        have HE : Hid (lgS [p, q, r] x = none) := by show _ = _; simp [lgS, hw, h0, zA, hv]
        clear hv
        unfold clV
        rw [h0, hw]
        go_enter Tryd.func35, Tryd.ntmps35
        go_wp2
        go_region
        all_goals
          go_wp2
          refine bodyPost_ret (v := .tuple #[arV p q r, .bool false]) (by simp [results, Tryd.results35, go_sem]) rfl ⟨.inr ⟨HE.out, rfl⟩, ?_⟩
          first | exact HB _ _ _ | exact (HB _ _ _).drew | (repeat (first | exact HB _ _ _ | refine Below.drew ?_ | refine Below.setCell ?_ (by simp) _))
  · cases hw : x.write with
    | true =>
      have HE : Hid (lgS [p, q, r] x = some [p, q, x.value]) := by show _ = _; simp [lgS, hw, h0]
      unfold clV
      rw [h0, hw]
      go_enter Tryd.func35, Tryd.ntmps35
      go_wp2
      go_region
      all_goals
        go_wp2
        refine bodyPost_ret (v := .tuple #[arV p q x.value, .bool true]) (by simp [results, Tryd.results35, go_sem]) rfl ⟨.inl ⟨_, _, _, HE.out, rfl⟩, ?_⟩
        first | exact HB _ _ _ | exact (HB _ _ _).drew | (repeat (first | exact HB _ _ _ | refine Below.drew ?_ | refine Below.setCell ?_ (by simp) _))
    | false =>
      by_cases hv : r = x.value
      · have hd : (r == x.value) = true := by simp [hv]
        have HE : Hid (lgS [p, q, r] x = some [p, q, r]) := by show _ = _; simp [lgS, hw, h0, zA, hv]
        clear hv
        unfold clV
        rw [h0, hw]
        go_enter Tryd.func35, Tryd.ntmps35
        go_wp2
        go_region
        all_goals
          go_wp2
          refine bodyPost_ret (v := .tuple #[arV p q r, .bool true]) (by simp [results, Tryd.results35, go_sem]) rfl ⟨.inl ⟨_, _, _, HE.out, rfl⟩, ?_⟩
          first | exact HB _ _ _ | exact (HB _ _ _).drew | (repeat (first | exact HB _ _ _ | refine Below.drew ?_ | refine Below.setCell ?_ (by simp) _))
      · have hd : (r == x.value) = false := by simp [hv]
        have HE : Hid (lgS [p, q, r] x = none) := by show _ = _; simp [lgS, hw, h0, zA, hv]
        clear hv
        unfold clV
        rw [h0, hw]
        go_enter Tryd.func35, Tryd.ntmps35
        go_wp2
        go_region
        all_goals
          go_wp2
          refine bodyPost_ret (v := .tuple #[arV p q r, .bool false]) (by simp [results, Tryd.results35, go_sem]) rfl ⟨.inr ⟨HE.out, rfl⟩, ?_⟩
          first | exact HB _ _ _ | exact (HB _ _ _).drew | (repeat (first | exact HB _ _ _ | refine Below.drew ?_ | refine Below.setCell ?_ (by simp) _))
end Go.Proofs.YthnkncmhbeeiaaaDoor
