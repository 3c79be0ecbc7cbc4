/-
  spec.WriteBatch, the bytes appended: what the region leaves, over a frame of letters.
-/
import Derived.Test.YteklkdnkfgfdiaaDoorWrite4
namespace Go.Proofs.YteklkdnkfgfdiaaDoor
open Go.RowKit

def findW6 : Code → Option Code
  | .region 6 o b => some (.region 6 o b)
  | .seq a b => match findW6 a with
    | some c => some c
    | none => findW6 b
  | .block _ c => findW6 c
  | .scope c => findW6 c
  | .loop c => findW6 c
  | .cond _ a b => match findW6 a with
    | some c => some c
    | none => findW6 b
  | _ => none

noncomputable def regW6 : Code := ((Tryd.f6.body.bind findW6).getD .skip)

theorem six_keep {W w1 : World} {D : Nat} {v v0 v1 v2 v3 v4 : Value} (hB : Below W.heap.size W w1)
    (h : W.cell? ⟨D, 0, none⟩ = some v ∧ W.cell? ⟨D + 1, 0, none⟩ = some v0 ∧ W.cell? ⟨D + 1, 1, none⟩ = some v1 ∧ W.cell? ⟨D + 1, 2, none⟩ = some v2 ∧ W.cell? ⟨D + 1, 3, none⟩ = some v3 ∧ W.cell? ⟨D + 1, 4, none⟩ = some v4) :
    w1.cell? ⟨D, 0, none⟩ = some v ∧ w1.cell? ⟨D + 1, 0, none⟩ = some v0 ∧ w1.cell? ⟨D + 1, 1, none⟩ = some v1 ∧ w1.cell? ⟨D + 1, 2, none⟩ = some v2 ∧ w1.cell? ⟨D + 1, 3, none⟩ = some v3 ∧ w1.cell? ⟨D + 1, 4, none⟩ = some v4 := by
  have l0 := lt_of_cell h.1
  obtain ⟨hc, -⟩ := bcell hB
  exact ⟨(hc _ _ l0).trans h.1, box_keep hB h.2⟩

theorem six_set {W : World} {D : Nat} {u v v0 v1 v2 v3 v4 : Value}
    (h : W.cell? ⟨D, 0, none⟩ = some v ∧ W.cell? ⟨D + 1, 0, none⟩ = some v0 ∧ W.cell? ⟨D + 1, 1, none⟩ = some v1 ∧ W.cell? ⟨D + 1, 2, none⟩ = some v2 ∧ W.cell? ⟨D + 1, 3, none⟩ = some v3 ∧ W.cell? ⟨D + 1, 4, none⟩ = some v4) :
    (W.setCell ⟨D + 1 + 1, 0, none⟩ u).cell? ⟨D, 0, none⟩ = some v ∧ (W.setCell ⟨D + 1 + 1, 0, none⟩ u).cell? ⟨D + 1, 0, none⟩ = some v0 ∧ (W.setCell ⟨D + 1 + 1, 0, none⟩ u).cell? ⟨D + 1, 1, none⟩ = some v1 ∧ (W.setCell ⟨D + 1 + 1, 0, none⟩ u).cell? ⟨D + 1, 2, none⟩ = some v2 ∧ (W.setCell ⟨D + 1 + 1, 0, none⟩ u).cell? ⟨D + 1, 3, none⟩ = some v3 ∧ (W.setCell ⟨D + 1 + 1, 0, none⟩ u).cell? ⟨D + 1, 4, none⟩ = some v4 := by
  have t : ∀ b o, b < D + 1 + 1 → (W.setCell ⟨D + 1 + 1, 0, none⟩ u).cell? ⟨b, o, none⟩ = W.cell? ⟨b, o, none⟩ := fun b o hb => World.cell?_of_block (a := ⟨b, o, none⟩) (Below.heap_setCell W ⟨D + 1 + 1, 0, none⟩ u _ (by show b ≠ D + 1 + 1; omega))
  exact ⟨(t _ _ (by omega)).trans h.1, (t _ _ (by omega)).trans h.2.1, (t _ _ (by omega)).trans h.2.2.1, (t _ _ (by omega)).trans h.2.2.2.1, (t _ _ (by omega)).trans h.2.2.2.2.1, (t _ _ (by omega)).trans h.2.2.2.2.2⟩

theorem one_keep {W w1 : World} {R : Nat} {v : Value} (hB : Below W.heap.size W w1) (h : W.cell? ⟨R, 0, none⟩ = some v ∧ W.frozen? ⟨R, 0, none⟩ = false) : w1.cell? ⟨R, 0, none⟩ = some v ∧ w1.frozen? ⟨R, 0, none⟩ = false :=
  ⟨((bcell hB).1 _ _ (lt_of_cell h.1)).trans h.1, ((bcell hB).2 _ _ (lt_of_cell h.1)).trans h.2⟩

set_option maxRecDepth 1000000 in
set_option maxHeartbeats 8000000 in
theorem wb6 (Q : Exit → Act → World → Prop) (D : Nat) (a : Option Addr) (fs : List Fl) (c : Nat) (k : Int) (o e p q : Nat) (ss : List ByteArray) (a2 : Option Addr) (c2 : Nat) (u0 u2 u4 u7 u8 u9 u10 u11 u12 u13 u14 u15 u16 u17 u18 u19 u20 u21 u22 u23 u24 u25 u26 u27 u28 u29 u30 u31 u32 u33 u34 u35 u36 u37 u38 u39 u40 u41 u42 u43 u44 u45 u46 u47 u48 u49 u50 u51 u52 u53 u54 u55 u56 u57 u58 u59 u60 u61 u62 : Value) (wr : World)
    (hs : Fls wr a fs) (hl : fs.length ≤ maxLen) (hb : Strs wr a2 ss) (h1 : o ≤ 100000) (h2 : e ≤ 1000) (h3 : p ≤ 65535) (h4 : q ≤ 65535) (h5 : ss.length ≤ 8) (H6 : Hid (∀ s, s ∈ ss → s.size ≤ 20)) (hsz : (ByteArray.mk (bytesOf o e p q ss).toArray).size ≤ maxLen)
    (kk : wr.cell? ⟨D, 0, none⟩ = some (.slice a fs.length c) ∧ wr.cell? ⟨D + 1, 0, none⟩ = some (.int .i64 (o : Int)) ∧ wr.cell? ⟨D + 1, 1, none⟩ = some (.int .i64 (e : Int)) ∧ wr.cell? ⟨D + 1, 2, none⟩ = some (.int .i64 (p : Int)) ∧ wr.cell? ⟨D + 1, 3, none⟩ = some (.int .i64 (q : Int)) ∧ wr.cell? ⟨D + 1, 4, none⟩ = some (.slice a2 ss.length c2)) (ro : wr.cell? ⟨D + 1 + 1, 0, none⟩ = some (.slice none 0 0) ∧ wr.frozen? ⟨D + 1 + 1, 0, none⟩ = false)
    (h : ∀ (v56 v57 v58 v59 v60 v61 v62 : Value) (w5 : World) (a' : Option Addr) (c' : Nat), Below wr.heap.size wr w5 → Fls w5 a' (filesOf (chg fs k (tailF ⟨(bytesOf o e p q ss).toArray⟩))) → RowF w5 wr.heap.size a' (filesOf (chg fs k (tailF ⟨(bytesOf o e p q ss).toArray⟩))).length → Q .normal { tmps := #[u0, Value.int .i64 k, u2, Value.pointer (some ⟨D, 0, none⟩), u4, Value.pointer (some ⟨D + 1, 0, none⟩), Value.pointer (some ⟨D + 1 + 1, 0, none⟩), Value.bool (chg fs k (tailF ⟨(bytesOf o e p q ss).toArray⟩)).isSome, u8, u9, u10, u11, u12, u13, u14, u15, u16, u17, u18, u19, u20, u21, u22, u23, u24, u25, u26, u27, u28, u29, u30, u31, u32, u33, u34, u35, u36, u37, u38, u39, u40, u41, u42, u43, u44, u45, u46, u47, u48, u49, u50, u51, u52, u53, u54, u55, v56, v57, v58, v59, v60, v61, v62], defers := [] } (w5.setCell ⟨D + 1 + 1, 0, none⟩ (.slice a' (filesOf (chg fs k (tailF ⟨(bytesOf o e p q ss).toArray⟩))).length c'))) :
    Code.wp Tryd.prog regW6 Q { tmps := #[u0, Value.int .i64 k, u2, Value.pointer (some ⟨D, 0, none⟩), u4, Value.pointer (some ⟨D + 1, 0, none⟩), Value.pointer (some ⟨D + 1 + 1, 0, none⟩), u7, u8, u9, u10, u11, u12, u13, u14, u15, u16, u17, u18, u19, u20, u21, u22, u23, u24, u25, u26, u27, u28, u29, u30, u31, u32, u33, u34, u35, u36, u37, u38, u39, u40, u41, u42, u43, u44, u45, u46, u47, u48, u49, u50, u51, u52, u53, u54, u55, u56, u57, u58, u59, u60, u61, u62], defers := [] } wr := by
  have k0 := kk
  obtain ⟨q0, z0, z1, z2, z3, z4⟩ := k0
  obtain ⟨r0, r1⟩ := ro
  conv => arg 2; whnf
  go_region_held3 (fun w' => w'.cell? ⟨D, 0, none⟩ = some (.slice a fs.length c) ∧ w'.cell? ⟨D + 1, 0, none⟩ = some (.int .i64 (o : Int)) ∧ w'.cell? ⟨D + 1, 1, none⟩ = some (.int .i64 (e : Int)) ∧ w'.cell? ⟨D + 1, 2, none⟩ = some (.int .i64 (p : Int)) ∧ w'.cell? ⟨D + 1, 3, none⟩ = some (.int .i64 (q : Int)) ∧ w'.cell? ⟨D + 1, 4, none⟩ = some (.slice a2 ss.length c2))
    (first | exact kk | exact six_set kk | go_keep)
    (first
      | (go_at_call 22; refine (l1Batch_any o e p q ss _ _ _ (hb.below (Below.refl _ _).drew) h1 h2 h3 h4 h5 H6.out).mono ?_; rintro r w1 ⟨rfl, hB1⟩; have kk := six_keep (D := D) (v := .slice a fs.length c) (v0 := .int .i64 (o : Int)) (v1 := .int .i64 (e : Int)) (v2 := .int .i64 (p : Int)) (v3 := .int .i64 (q : Int)) (v4 := .slice a2 ss.length c2) hB1 (by first | exact kk | simp [q0, z0, z1, z2, z3, z4]); have r2 := one_keep (R := D + 1 + 1) (v := .slice none 0 0) hB1 (by simp [r0, r1]))
      | (go_at_call 21; refine (specApp_any _ _ _ _ _ _ ((hs.below (Below.refl _ _).drew).below hB1) hl hsz).mono ?_; rintro r w2 ⟨a', c', rfl, hF, hR, hB2⟩; have kk := six_keep (D := D) (v := .slice a fs.length c) (v0 := .int .i64 (o : Int)) (v1 := .int .i64 (e : Int)) (v2 := .int .i64 (p : Int)) (v3 := .int .i64 (q : Int)) (v4 := .slice a2 ss.length c2) hB2 kk; have r3 := one_keep (R := D + 1 + 1) (v := .slice none 0 0) hB2 r2; obtain ⟨r4, r5⟩ := r3))
  have hT : Below wr.heap.size wr w1 := (Below.refl _ _).drew.trans (hB1.mono (by simp))
  exact h _ _ _ _ _ _ _ _ _ _ (hT.trans (hB2.mono hT.size)) hF (hR.mono hT.size)

end Go.Proofs.YteklkdnkfgfdiaaDoor
