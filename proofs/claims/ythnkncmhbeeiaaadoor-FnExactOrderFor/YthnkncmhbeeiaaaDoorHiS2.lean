/-
  Histories, the specification's side: orders, which are legal, which respect time. Made by mkhis.py.
-/
import Derived.Test.YthnkncmhbeeiaaaDoorHiS
namespace Go.Proofs.YthnkncmhbeeiaaaDoor
open Go.RowKit

theorem l1Has_ch (a : Option Addr) (c : Nat) (zs : List Int) (m : Nat) (k : Int) (b : Bool) (w : World) (hs : Ints w a zs) (hm : m ≤ zs.length) (hl : zs.length ≤ maxLen) (h : (zs.take m).contains k = b) :
    Calls Tryd.prog 29 #[.slice a m c, .int .i64 k] w fun e w' => e = .returned (.bool b) ∧ w' = w := by
  have hlm : (zs.take m).length = m := by simp; omega
  have ht : Ints w a (zs.take m) := fun i z hi => by
    have hlt : i < m := by have := (List.getElem?_eq_some_iff.1 hi).1; omega
    rw [List.getElem?_take_of_lt hlt] at hi
    exact hs i z hi
  have := l1Has_any a c (zs.take m) k w ht (by omega)
  rw [hlm] at this
  rw [← h]
  exact this

theorem dec_beqH (a b : Int) : decide (a = b) = (a == b) := by rw [Bool.eq_iff_iff]; simp

set_option maxRecDepth 100000 in
set_option maxHeartbeats 4000000 in
theorem l15Before_any (x y : Cl) (cl : Bool) (w : World) :
    Calls Tryd.prog 30 #[clV x, clV y, .bool cl] w fun r w' => r = .returned (.bool (befB cl x y)) ∧ ∃ p q, w' = (w.alloc p).alloc q := by
  cases cl with
  | true =>
    cases g1 : (x.client == y.client) with
    | true =>
      by_cases g2 : x.beg < y.beg
      · have HE : Hid (befB true x y = true) := by show _ = _; simp [befB, g2]; simpa using g1
        go_enter Tryd.func30, Tryd.ntmps30
        go_wp2
        go_ret
        exact ⟨ret_bool HE.out.symm, _, _, rfl⟩
      · have HE : Hid (befB true x y = false) := by show _ = _; simp [befB, g2]
        go_enter Tryd.func30, Tryd.ntmps30
        go_wp2
        go_ret
        exact ⟨ret_bool HE.out.symm, _, _, rfl⟩
    | false =>
      have HE : Hid (befB true x y = false) := by show _ = _; unfold befB; rw [if_pos rfl, dec_beqH, g1]; rfl
      go_enter Tryd.func30, Tryd.ntmps30
      go_wp2
      go_ret
      exact ⟨ret_bool HE.out.symm, _, _, rfl⟩
  | false =>
    obtain ⟨t, ht⟩ : ∃ t, decide (x.fin ≤ y.beg) = t := ⟨_, rfl⟩
    have HE : Hid (befB false x y = t) := by show _ = _; simp [befB, ht]
    go_enter Tryd.func30, Tryd.ntmps30
    go_wp2
    go_ret
    exact ⟨ret_bool (by rw [HE.out]), _, _, rfl⟩

theorem l15Before_c (x y : Cl) (cl b : Bool) (w : World) (h : befB cl x y = b) :
    Calls Tryd.prog 30 #[clV x, clV y, .bool cl] w fun e w' => e = .returned (.bool b) ∧ Below w.heap.size w w' :=
  (l15Before_any x y cl w).mono fun _ _ ⟨h1, p, q, h2⟩ => ⟨by rw [← h]; exact h1, by rw [h2]; exact stHi (alHi _ _) (alHi _ _)⟩

/-- The values, in a row of their own. -/
def VsR (w : World) (R : Nat) (vs : List Int) : Prop := vs.length = 3 ∧ w.rowIs R 3 3 (fun i => .int .i64 (zA vs i))
theorem VsR.below {w w' : World} {R : Nat} {vs : List Int} (h : VsR w R vs) (hb : Below w.heap.size w w') : VsR w' R vs := ⟨h.1, h.2.of_block (hb.block R h.2.lt)⟩
theorem VsR.cell {w : World} {R : Nat} {vs : List Int} (h : VsR w R vs) {i : Nat} (hi : i < 3) : w.cell? ⟨R, i, none⟩ = some (.int .i64 (zA vs i)) := h.2.cell hi
theorem VsR.set {w : World} {R : Nat} {vs : List Int} (h : VsR w R vs) {i : Nat} (hi : i < 3) (z : Int) : VsR (w.setCell ⟨R, i, none⟩ (.int .i64 z)) R (vs.set i z) := by
  refine ⟨by simp [h.1], (h.2.set i (.int .i64 z)).congr fun j hj => ?_⟩
  have hv : j < vs.length := by rw [h.1]; exact hj
  by_cases e : j = i
  · subst e; simp [zA, List.getD_eq_getElem?_getD, hv]
  · have e' : ¬ i = j := fun h => e h.symm
    simp [zA, List.getD_eq_getElem?_getD, e, e']

set_option maxRecDepth 100000 in
set_option maxHeartbeats 4000000 in
theorem l15Legal_any (a a2 : Option Addr) (c c2 : Nat) (l : List Cl) (zs : List Int) (w : World) (hs : Cls w a l) (hl : l.length ≤ maxLen) (hg : goodCl l = true) (hz : Ints w a2 zs) (hzl : zs.length ≤ maxLen) (hor : ∀ k, k < zs.length → 0 ≤ zA zs k ∧ zA zs k < (l.length : Int)) :
    Calls Tryd.prog 28 #[.slice a l.length c, .slice a2 zs.length c2] w fun r w' => r = .returned (.bool (legB l zs)) ∧ Below w.heap.size w w' := by
  have hl' := hl
  unfold maxLen at hl'
  have hzl' := hzl
  unfold maxLen at hzl'
  have HG : Hid (clTo l l.length ∧ l.length ≤ 7) := goodCl_t hg
  have hmk := run_make_row' (P := Tryd.prog) 30 3 (.int .i64 0) 8 Tryd.underlying30 Tryd.infoInt rfl .i64 .i64 3 (by omega) (by omega)
  have e3 : ((3 : Nat) : Int) = 3 := rfl
  rw [e3] at hmk
  clear e3
  obtain ⟨u1, hu1⟩ : ∃ u, (w.alloc (.cells (madeCells #[Value.int .i64 0] 3) 3)) = u := ⟨_, rfl⟩
  have hR : u1.rowIs w.heap.size 3 3 (fun _ => .int .i64 0) := by rw [← hu1]; exact World.rowIs_made _ _ _ _
  have hV : VsR u1 w.heap.size [0, 0, 0] := ⟨rfl, hR.congr fun j hj => by match j, hj with | 0, _ => rfl | 1, _ => rfl | 2, _ => rfl⟩
  have B1 : Below w.heap.size w u1 := by rw [← hu1]; exact alHi _ _
  have hS1 : w.heap.size < u1.heap.size := by rw [← hu1]; simp
  go_enter Tryd.func28, Tryd.ntmps28
  go_wp2
  clear hmk hR
  go_loopw [12] (fun i wr => ∃ (k : Nat) (vs : List Int), k ≤ zs.length ∧ i = .int .i64 k ∧ Hid (lgTo l zs k = some vs) ∧ VsR wr w.heap.size vs ∧ Below w.heap.size w wr) (fun i _ => zs.length - (intOf i).toNat)
  case atStart => exact ⟨0, [0, 0, 0], Nat.zero_le _, rfl, rfl, hV, B1⟩
  case round =>
    clear hV B1 hu1
    obtain ⟨k, vs, hk, rfl, HL, hV, hB⟩ := hrel
    by_cases hlt : k < zs.length
    · obtain ⟨zb, zo, rfl, z0⟩ := (hz.below hB) k _ (zA_get hlt)
      obtain ⟨h1, h2⟩ := hor k hlt
      obtain ⟨f, hf⟩ : ∃ f : Nat, zA zs k = f := ⟨(zA zs k).toNat, by omega⟩
      have HF : Hid ((zA zs k).toNat = f) := by show _ = _; omega
      rw [hf] at z0 h1 h2
      clear hf
      have hfl : f < l.length := by omega
      have hfi : (f : Int) < (l.length : Int) := by omega
      have hki : (k : Int) < (zs.length : Int) := by omega
      obtain ⟨cb, co, ea, c0, c1, c2, c3, c4, c5⟩ := (hs.below hB) f _ (clA_get hfl)
      subst ea
      obtain ⟨x, hx⟩ : ∃ x, clA l f = x := ⟨_, rfl⟩
      have HX : Hid (clA l f = x) := hx
      rw [hx] at c0 c1 c2 c3 c4 c5
      clear hx
      obtain ⟨ho1, ho2⟩ := (okCl_t (HG.out.1 f hfl).1).2.1
      rw [HX.out] at ho1 ho2
      obtain ⟨o, hoo⟩ : ∃ o : Nat, x.object = o := ⟨x.object.toNat, by omega⟩
      have HOO : Hid (x.object.toNat = o) := by show _ = _; omega
      rw [hoo] at c1 ho1 ho2
      have ho3 : o < 3 := by omega
      have ho3i : (o : Int) < 3 := by omega
      clear hoo
      have HS : Hid (lgTo l zs (k + 1) = lgS vs x) := by show _ = _; rw [lgTo, HL.out]; show lgS vs (clA l (zA zs k).toNat) = _; rw [HF.out, HX.out]
      have BA : ∀ p, Below wr.heap.size wr (wr.alloc p) := fun p => alHi wr p
      have vc := fun p => (hV.below (BA p)).cell ho3
      have vf : ∀ p, (wr.alloc p).frozen? ⟨w.heap.size, o, none⟩ = false := fun p => (hV.below (BA p)).2.frozen o
      have Hlw : w.heap.size < wr.heap.size := hV.2.lt
      cases hw : x.write with
      | true =>
        rw [hw] at c2
        have HN : Hid (lgTo l zs (k + 1) = some (vs.set o x.value)) := by show _ = _; rw [HS.out, lgS, hw, HOO.out]; rfl
        have HV : Hid (∀ p, VsR ((wr.setCell ⟨w.heap.size, o, none⟩ (.int .i64 x.value)).alloc p) w.heap.size (vs.set o x.value)) := fun p => (hV.set ho3 _).below (alHi _ p)
        clear hV hw
        go_wp2
        go_roundw
        case rel => exact ⟨k + 1, _, by omega, by go_num, HN.out, HV.out _, stHi (hB.setCell (Nat.le_refl _) _) (alHi _ _)⟩
        case measure => simp [intOf]; omega
      | false =>
        rw [hw] at c2
        by_cases hv : zA vs o = x.value
        · have HN : Hid (lgTo l zs (k + 1) = some vs) := by show _ = _; rw [HS.out, lgS, hw, HOO.out, if_neg (by simp), if_pos hv]
          have HV : Hid (∀ p, VsR (wr.alloc p) w.heap.size vs) := fun p => hV.below (BA p)
          have hd : (zA vs o != x.value) = false := by simp [hv]
          obtain ⟨t, ht⟩ : ∃ t, zA vs o = t := ⟨_, rfl⟩
          rw [ht] at vc hd
          clear hV hw hv ht
          go_wp2
          go_quiet (fail)
          go_wp2
          go_roundw
          case rel => exact ⟨k + 1, vs, by omega, by go_num, HN.out, (HV.out _).below (below_drewN (Below.refl _ _) _), below_drewN (stHi hB (BA _)) _⟩
          case measure => simp [intOf]; omega
        · have HE : Hid (legB l zs = false) := legB_bad (k := k + 1) (by omega) (by rw [HS.out, lgS, hw, HOO.out, if_neg (by simp), if_neg hv])
          have hd : (zA vs o != x.value) = true := by simp [hv]
          obtain ⟨t, ht⟩ : ∃ t, zA vs o = t := ⟨_, rfl⟩
          rw [ht] at vc hd
          clear hV hw hv ht
          go_wp2
          go_quiet (fail)
          go_wp2
          go_ret
          exact ⟨ret_bool HE.out.symm, below_drewN (stHi hB (BA _)) _⟩
    · obtain rfl : k = zs.length := by omega
      have HE : Hid (legB l zs = true) := legB_done HL.out
      go_wp2
      go_ret
      exact ⟨ret_bool HE.out.symm, hB⟩

theorem l15Legal_c (a a2 : Option Addr) (c c2 : Nat) (l : List Cl) (zs : List Int) (w : World) (hs : Cls w a l) (hl : l.length ≤ maxLen) (hg : goodCl l = true) (hz : Ints w a2 zs) (hzl : zs.length ≤ maxLen) (hor : ∀ k, k < zs.length → 0 ≤ zA zs k ∧ zA zs k < (l.length : Int)) (b : Bool) (h : legB l zs = b) :
    Calls Tryd.prog 28 #[.slice a l.length c, .slice a2 zs.length c2] w fun r w' => r = .returned (.bool b) ∧ Below w.heap.size w w' := by
  rw [← h]; exact l15Legal_any a a2 c c2 l zs w hs hl hg hz hzl hor

end Go.Proofs.YthnkncmhbeeiaaaDoor
