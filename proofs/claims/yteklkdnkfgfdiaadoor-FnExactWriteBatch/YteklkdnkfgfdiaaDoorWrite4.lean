/-
  spec.WriteBatch, the test whether the batch may follow the log's last: what it leaves, over a frame of letters.
-/
import Derived.Test.YteklkdnkfgfdiaaDoorWriteSpec2
import Derived.Deep.RegionHeld3
namespace Go.Proofs.YteklkdnkfgfdiaaDoor
open Go.RowKit

def findW4 : Code → Option Code
  | .region 4 o b => some (.region 4 o b)
  | .seq a b => match findW4 a with
    | some c => some c
    | none => findW4 b
  | .block _ c => findW4 c
  | .scope c => findW4 c
  | .loop c => findW4 c
  | .cond _ a b => match findW4 a with
    | some c => some c
    | none => findW4 b
  | _ => none

noncomputable def regW4 : Code := ((Tryd.f6.body.bind findW4).getD .skip)

theorem twelve_keep {W w1 : World} {D kd od i n c : Nat} {s : ByteArray} {K kb o : Nat} {x b : Bt} {ra a2 : Option Addr} {rc c2 : Nat} (hB : Below W.heap.size W w1)
    (h : (W.cell? ⟨D, 0, none⟩ = some (.slice (some ⟨kd, od, none⟩) n c) ∧ W.cell? ⟨kd, od + i * 2, none⟩ = some (.string s)) ∧ (W.cell? ⟨kb, o, none⟩ = some (.int .i64 x.off) ∧ W.cell? ⟨kb, o + 1, none⟩ = some (.int .i64 x.ep) ∧ W.cell? ⟨kb, o + 2, none⟩ = some (.int .i64 x.pr) ∧ W.cell? ⟨kb, o + 3, none⟩ = some (.int .i64 x.sq) ∧ W.cell? ⟨kb, o + 4, none⟩ = some (.slice ra x.recs.length rc)) ∧ W.cell? ⟨K, 0, none⟩ = some (.int .i64 b.off) ∧ W.cell? ⟨K, 1, none⟩ = some (.int .i64 b.ep) ∧ W.cell? ⟨K, 2, none⟩ = some (.int .i64 b.pr) ∧ W.cell? ⟨K, 3, none⟩ = some (.int .i64 b.sq) ∧ W.cell? ⟨K, 4, none⟩ = some (.slice a2 b.recs.length c2)) : (w1.cell? ⟨D, 0, none⟩ = some (.slice (some ⟨kd, od, none⟩) n c) ∧ w1.cell? ⟨kd, od + i * 2, none⟩ = some (.string s)) ∧ (w1.cell? ⟨kb, o, none⟩ = some (.int .i64 x.off) ∧ w1.cell? ⟨kb, o + 1, none⟩ = some (.int .i64 x.ep) ∧ w1.cell? ⟨kb, o + 2, none⟩ = some (.int .i64 x.pr) ∧ w1.cell? ⟨kb, o + 3, none⟩ = some (.int .i64 x.sq) ∧ w1.cell? ⟨kb, o + 4, none⟩ = some (.slice ra x.recs.length rc)) ∧ w1.cell? ⟨K, 0, none⟩ = some (.int .i64 b.off) ∧ w1.cell? ⟨K, 1, none⟩ = some (.int .i64 b.ep) ∧ w1.cell? ⟨K, 2, none⟩ = some (.int .i64 b.pr) ∧ w1.cell? ⟨K, 3, none⟩ = some (.int .i64 b.sq) ∧ w1.cell? ⟨K, 4, none⟩ = some (.slice a2 b.recs.length c2) := by
  have l0 := lt_of_cell h.1.1
  have l1 := lt_of_cell h.1.2
  obtain ⟨hc, -⟩ := bcell hB
  exact ⟨⟨(hc _ _ l0).trans h.1.1, (hc _ _ l1).trans h.1.2⟩, ten_keep hB h.2⟩

set_option maxRecDepth 1000000 in
set_option maxHeartbeats 8000000 in
theorem wb4 (Q : Exit → Act → World → Prop) (D kd od n c i kb ob m cv K : Nat) (s : ByteArray) (x b : Bt) (ra a2 : Option Addr) (rc c2 : Nat) (nx : Bool) (u0 u2 u4 u6 u7 u10 u11 u12 u13 u14 u15 u16 u17 u18 u19 u20 u21 u22 u23 u24 u25 u26 u27 u28 u29 u30 u31 u32 u33 u34 u35 u36 u37 u38 u39 u40 u41 u42 u43 u44 u45 u46 u47 u48 u49 u50 u51 u52 u53 u54 u55 u56 u57 u58 u59 u60 u61 u62 : Value) (wr : World)
    (hm : m ≤ 1000000) (hin : i < n)
    (kk : (wr.cell? ⟨D, 0, none⟩ = some (.slice (some ⟨kd, od, none⟩) n c) ∧ wr.cell? ⟨kd, od + i * 2, none⟩ = some (.string s)) ∧ (wr.cell? ⟨kb, ob + m * 5, none⟩ = some (.int .i64 x.off) ∧ wr.cell? ⟨kb, ob + m * 5 + 1, none⟩ = some (.int .i64 x.ep) ∧ wr.cell? ⟨kb, ob + m * 5 + 2, none⟩ = some (.int .i64 x.pr) ∧ wr.cell? ⟨kb, ob + m * 5 + 3, none⟩ = some (.int .i64 x.sq) ∧ wr.cell? ⟨kb, ob + m * 5 + 4, none⟩ = some (.slice ra x.recs.length rc)) ∧ wr.cell? ⟨K, 0, none⟩ = some (.int .i64 b.off) ∧ wr.cell? ⟨K, 1, none⟩ = some (.int .i64 b.ep) ∧ wr.cell? ⟨K, 2, none⟩ = some (.int .i64 b.pr) ∧ wr.cell? ⟨K, 3, none⟩ = some (.int .i64 b.sq) ∧ wr.cell? ⟨K, 4, none⟩ = some (.slice a2 b.recs.length c2)) (HN : Hid (nextB x b = nx))
    (h : ∀ (v30 v31 v32 v33 v34 v35 v36 v37 v38 v39 v40 v41 v42 v43 v44 v45 v46 v47 v48 v49 v50 v51 v52 v53 : Value) (w5 : World), Below wr.heap.size wr w5 → Q .normal { tmps := #[u0, Value.int .i64 (i : Int), u2, Value.pointer (some ⟨D, 0, none⟩), u4, Value.pointer (some ⟨K, 0, none⟩), u6, u7, Value.slice (some ⟨kb, ob, none⟩) (m + 1) cv, Value.int .i64 (s.size : Int), u10, u11, u12, u13, u14, u15, u16, u17, u18, u19, u20, u21, u22, u23, u24, u25, u26, u27, u28, u29, v30, v31, v32, v33, v34, v35, v36, v37, v38, v39, v40, v41, v42, v43, v44, v45, v46, v47, v48, v49, v50, v51, v52, v53, Value.bool (!nx), u55, u56, u57, u58, u59, u60, u61, u62], defers := [] } w5) :
    Code.wp Tryd.prog regW4 Q { tmps := #[u0, Value.int .i64 (i : Int), u2, Value.pointer (some ⟨D, 0, none⟩), u4, Value.pointer (some ⟨K, 0, none⟩), u6, u7, Value.slice (some ⟨kb, ob, none⟩) (m + 1) cv, Value.int .i64 (s.size : Int), u10, u11, u12, u13, u14, u15, u16, u17, u18, u19, u20, u21, u22, u23, u24, u25, u26, u27, u28, u29, u30, u31, u32, u33, u34, u35, u36, u37, u38, u39, u40, u41, u42, u43, u44, u45, u46, u47, u48, u49, u50, u51, u52, u53, u54, u55, u56, u57, u58, u59, u60, u61, u62], defers := [] } wr := by
  have hnz : (((s.size : Nat) : Int) != ((s.size : Nat) : Int)) = false := by simp
  have hl1 : decide ((0 : Int) < ((m + 1 : Nat) : Int)) = true := decide_eq_true (by omega)
  have h0m : (0 : Int) ≤ (m : Int) := by omega
  have h0n : (m : Int) < (m : Int) + 1 := by omega
  have h0w : IntKind.i64.wrap ((m : Int) + 1) = (m : Int) + 1 := by rw [IntKind.wrap_i64]; omega
  have hkj : IntKind.i64.wrap (m : Int) = (m : Int) := by rw [IntKind.wrap_i64]; omega
  have hkj2 : wrap64 (m : Int) = (m : Int) := by unfold wrap64; omega
  have hkj3 : ((m + 1 : Nat) : Int) - 1 = (m : Int) := by omega
  have hjl2 : (m : Int) < ((m + 1 : Nat) : Int) := by omega
  have hiI : (i : Int) < (n : Int) := by omega
  have k0 := kk
  obtain ⟨⟨q0, q1⟩, ⟨y0, y1, y2, y3, y4⟩, z0, z1, z2, z3, z4⟩ := k0
  conv => arg 2; whnf
  go_region_held3 (fun w' => (w'.cell? ⟨D, 0, none⟩ = some (.slice (some ⟨kd, od, none⟩) n c) ∧ w'.cell? ⟨kd, od + i * 2, none⟩ = some (.string s)) ∧ (w'.cell? ⟨kb, ob + m * 5, none⟩ = some (.int .i64 x.off) ∧ w'.cell? ⟨kb, ob + m * 5 + 1, none⟩ = some (.int .i64 x.ep) ∧ w'.cell? ⟨kb, ob + m * 5 + 2, none⟩ = some (.int .i64 x.pr) ∧ w'.cell? ⟨kb, ob + m * 5 + 3, none⟩ = some (.int .i64 x.sq) ∧ w'.cell? ⟨kb, ob + m * 5 + 4, none⟩ = some (.slice ra x.recs.length rc)) ∧ w'.cell? ⟨K, 0, none⟩ = some (.int .i64 b.off) ∧ w'.cell? ⟨K, 1, none⟩ = some (.int .i64 b.ep) ∧ w'.cell? ⟨K, 2, none⟩ = some (.int .i64 b.pr) ∧ w'.cell? ⟨K, 3, none⟩ = some (.int .i64 b.sq) ∧ w'.cell? ⟨K, 4, none⟩ = some (.slice a2 b.recs.length c2))
    (first | exact kk | go_keep)
    (first
      | (go_at_call 20; refine (l1Next_any x b _ _ _ _ _).mono ?_; rintro r w5 ⟨hr, hB5⟩; rw [HN.out] at hr; subst hr; have kk := twelve_keep (D := D) (kd := kd) (od := od) (i := i) (n := n) (c := c) (s := s) (kb := kb) (o := ob + m * 5) (K := K) (x := x) (b := b) (ra := ra) (rc := rc) (a2 := a2) (c2 := c2) hB5 (by first | exact kk | simp [q0, q1, y0, y1, y2, y3, y4, z0, z1, z2, z3, z4])))
  exact h _ _ _ _ _ _ _ _ _ _ _ _ _ _ _ _ _ _ _ _ _ _ _ _ _ ((Below.refl _ _).drew.trans (hB5.mono (by simp)))

end Go.Proofs.YteklkdnkfgfdiaaDoor
