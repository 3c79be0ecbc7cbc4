/-
  spec.l1Read, the test whether a batch may follow the one ahead: what it leaves, over a frame of letters.
-/
import Derived.Test.YtopndglgbollfaaDoorReadImpl
import Derived.Deep.RegionHeld3
namespace Go.Proofs.YtopndglgbollfaaDoor
open Go.RowKit

def find5 : Code → Option Code
  | .region 5 o b => some (.region 5 o b)
  | .seq a b => match find5 a with
    | some c => some c
    | none => find5 b
  | .block _ c => find5 c
  | .scope c => find5 c
  | .loop c => find5 c
  | .cond _ a b => match find5 a with
    | some c => some c
    | none => find5 b
  | _ => none

noncomputable def reg5 : Code := ((Tryd.f19.body.bind find5).getD .skip)

theorem ten_keep {W w1 : World} {K o N : Nat} {x y : Bt} {ra a2 : Option Addr} {rc c2 : Nat} (hB : Below W.heap.size W w1)
    (h : (W.cell? ⟨K, o, none⟩ = some (.int .i64 x.off) ∧ W.cell? ⟨K, o + 1, none⟩ = some (.int .i64 x.ep) ∧ W.cell? ⟨K, o + 2, none⟩ = some (.int .i64 x.pr) ∧ W.cell? ⟨K, o + 3, none⟩ = some (.int .i64 x.sq) ∧ W.cell? ⟨K, o + 4, none⟩ = some (.slice ra x.recs.length rc)) ∧ W.cell? ⟨N, 0, none⟩ = some (.int .i64 y.off) ∧ W.cell? ⟨N, 1, none⟩ = some (.int .i64 y.ep) ∧ W.cell? ⟨N, 2, none⟩ = some (.int .i64 y.pr) ∧ W.cell? ⟨N, 3, none⟩ = some (.int .i64 y.sq) ∧ W.cell? ⟨N, 4, none⟩ = some (.slice a2 y.recs.length c2)) :
    (w1.cell? ⟨K, o, none⟩ = some (.int .i64 x.off) ∧ w1.cell? ⟨K, o + 1, none⟩ = some (.int .i64 x.ep) ∧ w1.cell? ⟨K, o + 2, none⟩ = some (.int .i64 x.pr) ∧ w1.cell? ⟨K, o + 3, none⟩ = some (.int .i64 x.sq) ∧ w1.cell? ⟨K, o + 4, none⟩ = some (.slice ra x.recs.length rc)) ∧ w1.cell? ⟨N, 0, none⟩ = some (.int .i64 y.off) ∧ w1.cell? ⟨N, 1, none⟩ = some (.int .i64 y.ep) ∧ w1.cell? ⟨N, 2, none⟩ = some (.int .i64 y.pr) ∧ w1.cell? ⟨N, 3, none⟩ = some (.int .i64 y.sq) ∧ w1.cell? ⟨N, 4, none⟩ = some (.slice a2 y.recs.length c2) := by
  have lt := lt_of_cell h.1.1
  obtain ⟨hc, -⟩ := bcell hB
  exact ⟨⟨(hc _ _ lt).trans h.1.1, (hc _ _ lt).trans h.1.2.1, (hc _ _ lt).trans h.1.2.2.1, (hc _ _ lt).trans h.1.2.2.2.1, (hc _ _ lt).trans h.1.2.2.2.2⟩, box_keep hB h.2⟩

set_option maxRecDepth 1000000 in
set_option maxHeartbeats 8000000 in
theorem rd5 (Q : Exit → Act → World → Prop) (kb ob m cv K e : Nat) (x b : Bt) (ra a2 : Option Addr) (rc c2 : Nat) (nx : Bool) (u0 u1 u2 u3 u5 u8 u9 u10 u11 u12 u13 u14 u15 u16 u17 u18 u19 u20 u21 u22 u23 u24 u25 u26 u27 u28 u29 u30 u31 u32 u33 u34 u35 u36 u37 u38 u39 u40 u41 u42 : Value) (wr : World)
    (he : 0 < e) (hm : m ≤ 1000000)
    (kk : (wr.cell? ⟨kb, ob + m * 5, none⟩ = some (.int .i64 x.off) ∧ wr.cell? ⟨kb, ob + m * 5 + 1, none⟩ = some (.int .i64 x.ep) ∧ wr.cell? ⟨kb, ob + m * 5 + 2, none⟩ = some (.int .i64 x.pr) ∧ wr.cell? ⟨kb, ob + m * 5 + 3, none⟩ = some (.int .i64 x.sq) ∧ wr.cell? ⟨kb, ob + m * 5 + 4, none⟩ = some (.slice ra x.recs.length rc)) ∧ wr.cell? ⟨K, 0, none⟩ = some (.int .i64 b.off) ∧ wr.cell? ⟨K, 1, none⟩ = some (.int .i64 b.ep) ∧ wr.cell? ⟨K, 2, none⟩ = some (.int .i64 b.pr) ∧ wr.cell? ⟨K, 3, none⟩ = some (.int .i64 b.sq) ∧ wr.cell? ⟨K, 4, none⟩ = some (.slice a2 b.recs.length c2)) (HN : Hid (nextB x b = nx))
    (h : ∀ (v18 v19 v20 v21 v22 v23 v24 v25 v26 v27 v28 v29 v30 v31 v32 v33 v34 : Value) (w5 : World), Below wr.heap.size wr w5 → Q .normal { tmps := #[u0, u1, u2, u3, Value.slice (some ⟨kb, ob, none⟩) (m + 1) cv, u5, Value.pointer (some ⟨K, 0, none⟩), Value.int .i64 (e : Int), u8, u9, u10, u11, u12, u13, u14, u15, u16, u17, v18, v19, v20, v21, v22, v23, v24, v25, v26, v27, v28, v29, v30, v31, v32, v33, v34, Value.bool (!nx), u36, u37, u38, u39, u40, u41, u42], defers := [] } w5) :
    Code.wp Tryd.prog reg5 Q { tmps := #[u0, u1, u2, u3, Value.slice (some ⟨kb, ob, none⟩) (m + 1) cv, u5, Value.pointer (some ⟨K, 0, none⟩), Value.int .i64 (e : Int), u8, u9, u10, u11, u12, u13, u14, u15, u16, u17, u18, u19, u20, u21, u22, u23, u24, u25, u26, u27, u28, u29, u30, u31, u32, u33, u34, u35, u36, u37, u38, u39, u40, u41, u42], defers := [] } wr := by
  have hez : ((e : Int) == 0) = false := by simp; omega
  have hl1 : decide ((0 : Int) < ((m + 1 : Nat) : Int)) = true := decide_eq_true (by omega)
  have h0m : (0 : Int) ≤ (m : Int) := by omega
  have h0n : (m : Int) < (m : Int) + 1 := by omega
  have h0w : IntKind.i64.wrap ((m : Int) + 1) = (m : Int) + 1 := by rw [IntKind.wrap_i64]; omega
  have hkj : IntKind.i64.wrap (m : Int) = (m : Int) := by rw [IntKind.wrap_i64]; omega
  have hkj2 : wrap64 (m : Int) = (m : Int) := by unfold wrap64; omega
  have hkj3 : ((m + 1 : Nat) : Int) - 1 = (m : Int) := by omega
  have hjl2 : (m : Int) < ((m + 1 : Nat) : Int) := by omega
  have k0 := kk
  obtain ⟨⟨y0, y1, y2, y3, y4⟩, z0, z1, z2, z3, z4⟩ := k0
  conv => arg 2; whnf
  go_region_held3 (fun w' => (w'.cell? ⟨kb, ob + m * 5, none⟩ = some (.int .i64 x.off) ∧ w'.cell? ⟨kb, ob + m * 5 + 1, none⟩ = some (.int .i64 x.ep) ∧ w'.cell? ⟨kb, ob + m * 5 + 2, none⟩ = some (.int .i64 x.pr) ∧ w'.cell? ⟨kb, ob + m * 5 + 3, none⟩ = some (.int .i64 x.sq) ∧ w'.cell? ⟨kb, ob + m * 5 + 4, none⟩ = some (.slice ra x.recs.length rc)) ∧ w'.cell? ⟨K, 0, none⟩ = some (.int .i64 b.off) ∧ w'.cell? ⟨K, 1, none⟩ = some (.int .i64 b.ep) ∧ w'.cell? ⟨K, 2, none⟩ = some (.int .i64 b.pr) ∧ w'.cell? ⟨K, 3, none⟩ = some (.int .i64 b.sq) ∧ w'.cell? ⟨K, 4, none⟩ = some (.slice a2 b.recs.length c2))
    (first | exact kk | go_keep)
    (first
      | (go_at_call 35; refine (l1Next_any x b _ _ _ _ _).mono ?_; rintro r w5 ⟨hr, hB5⟩; rw [HN.out] at hr; subst hr; have kk := ten_keep (K := kb) (o := ob + m * 5) (N := K) (x := x) (y := b) (ra := ra) (rc := rc) (a2 := a2) (c2 := c2) hB5 (by first | exact kk | simp [y0, y1, y2, y3, y4, z0, z1, z2, z3, z4])))
  exact h _ _ _ _ _ _ _ _ _ _ _ _ _ _ _ _ _ _ ((Below.refl _ _).drew.trans (hB5.mono (by simp)))

end Go.Proofs.YtopndglgbollfaaDoor
