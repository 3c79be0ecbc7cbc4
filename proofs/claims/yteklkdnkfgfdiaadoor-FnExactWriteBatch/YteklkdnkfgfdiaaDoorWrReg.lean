/-
  The law FnExactWriteBatch: what its regions leave that copy the disk and the batch, call the function and keep its answer, over frames of letters.
-/
import Derived.Test.YteklkdnkfgfdiaaDoorWriteSpec3
import Derived.Test.YteklkdnkfgfdiaaDoorDsk2
namespace Go.Proofs.YteklkdnkfgfdiaaDoor
open Go.RowKit

theorem Fls.setR {w : World} {a : Option Addr} {gs : List Fl} {B R : Nat} {v : Value} (h : Fls w a gs) (hr : RowF w B a gs.length) (hR : R < B) : Fls (w.setCell ⟨R, 0, none⟩ v) a gs :=
  h.of_block fun x hx => Below.heap_setCell w ⟨R, 0, none⟩ v x (by have := (hr.lt hx).1; show x ≠ R; omega)

theorem six_setR {W : World} {A R : Nat} {u v v0 v1 v2 v3 v4 : Value} (hA : A + 1 < R)
    (h : W.cell? ⟨A, 0, none⟩ = some v ∧ W.cell? ⟨A + 1, 0, none⟩ = some v0 ∧ W.cell? ⟨A + 1, 1, none⟩ = some v1 ∧ W.cell? ⟨A + 1, 2, none⟩ = some v2 ∧ W.cell? ⟨A + 1, 3, none⟩ = some v3 ∧ W.cell? ⟨A + 1, 4, none⟩ = some v4) :
    (W.setCell ⟨R, 0, none⟩ u).cell? ⟨A, 0, none⟩ = some v ∧ (W.setCell ⟨R, 0, none⟩ u).cell? ⟨A + 1, 0, none⟩ = some v0 ∧ (W.setCell ⟨R, 0, none⟩ u).cell? ⟨A + 1, 1, none⟩ = some v1 ∧ (W.setCell ⟨R, 0, none⟩ u).cell? ⟨A + 1, 2, none⟩ = some v2 ∧ (W.setCell ⟨R, 0, none⟩ u).cell? ⟨A + 1, 3, none⟩ = some v3 ∧ (W.setCell ⟨R, 0, none⟩ u).cell? ⟨A + 1, 4, none⟩ = some v4 := by
  have t : ∀ b o, b < R → (W.setCell ⟨R, 0, none⟩ u).cell? ⟨b, o, none⟩ = W.cell? ⟨b, o, none⟩ := fun b o hb => World.cell?_of_block (a := ⟨b, o, none⟩) (Below.heap_setCell W ⟨R, 0, none⟩ u _ (by show b ≠ R; omega))
  exact ⟨(t _ _ (by omega)).trans h.1, (t _ _ (by omega)).trans h.2.1, (t _ _ (by omega)).trans h.2.2.1, (t _ _ (by omega)).trans h.2.2.2.1, (t _ _ (by omega)).trans h.2.2.2.2.1, (t _ _ (by omega)).trans h.2.2.2.2.2⟩

theorem one_new {w w1 : World} {v : Value} {t : TypeId} (hB : Below (w.alloc (.cells #[v] t)).heap.size (w.alloc (.cells #[v] t)) w1) : w1.cell? ⟨w.heap.size, 0, none⟩ = some v ∧ w1.frozen? ⟨w.heap.size, 0, none⟩ = false := one_keep hB (by simp)

theorem one_newd {w w1 : World} {v : Value} {t : TypeId} (hB : Below (w.alloc (.cells #[v] t)).drew.heap.size (w.alloc (.cells #[v] t)).drew w1) : w1.cell? ⟨w.heap.size, 0, none⟩ = some v ∧ w1.frozen? ⟨w.heap.size, 0, none⟩ = false := one_keep hB (by simp)

theorem one_newe {w w1 : World} {v : Value} {t : TypeId} (hB : Below (w.drew.alloc (.cells #[v] t)).heap.size (w.drew.alloc (.cells #[v] t)) w1) : w1.cell? ⟨w.heap.size, 0, none⟩ = some v ∧ w1.frozen? ⟨w.heap.size, 0, none⟩ = false := by
  have h := one_new hB
  rw [show w.drew.heap.size = w.heap.size from rfl] at h
  exact h

theorem cell_setR {w : World} {R : Nat} {u v : Value} (h : w.cell? ⟨R, 0, none⟩ = some u) : (w.setCell ⟨R, 0, none⟩ v).cell? ⟨R, 0, none⟩ = some v := by
  have := lt_of_cell h
  simp [go_sem, h]

def findL8 : Code → Option Code
  | .region 8 o b => some (.region 8 o b)
  | .seq a b => match findL8 a with
    | some c => some c
    | none => findL8 b
  | .block _ c => findL8 c
  | .scope c => findL8 c
  | .loop c => findL8 c
  | .cond _ a b => match findL8 a with
    | some c => some c
    | none => findL8 b
  | _ => none

noncomputable def regL8 : Code := ((Tryd.f3.body.bind findL8).getD .skip)

set_option maxRecDepth 1000000 in
set_option maxHeartbeats 8000000 in
theorem wrL8 (Q : Exit → Act → World → Prop) (A : Nat) (a : Option Addr) (fs gs : List Fl) (ok : Bool) (c : Nat) (k : Int) (b : Bt) (a2 : Option Addr) (c2 : Nat) (u0 u2 u4 u6 u7 u8 u9 u10 u11 u12 u13 u14 u15 u16 u17 u18 u19 u20 u21 u22 u23 u24 u25 u26 u27 u28 u29 u30 u31 u32 u33 u34 u35 u36 u37 u38 u39 u40 u41 u42 u43 u44 u45 u46 u47 u48 u49 u50 u51 u52 u53 u54 u55 u56 u57 u58 u59 u60 u61 u62 u63 u64 u65 u66 u67 u68 u69 u70 u71 u72 u73 u74 u75 u76 u77 u78 u79 u80 u81 u82 u83 u84 u85 u86 u87 u88 u89 u90 u91 u92 u93 u94 u95 u96 u97 u98 u99 u100 u101 u102 u103 u104 u105 u106 u107 u108 u109 u110 u111 u112 u113 u114 u115 u116 u117 u118 u119 u120 u121 u122 u123 : Value) (wr : World)
    (hs : Fls wr a fs) (hlen : fs.length ≤ 1048576) (hb : Strs wr a2 b.recs) (hbl : b.recs.length ≤ 1048576) (hTab : TabAt wr) (hw0 : 0 < wr.heap.size)
    (HC : Hid (∀ (w : World) (a : Option Addr) (c : Nat) (a2 : Option Addr) (c2 : Nat), TabAt w → Fls w a fs → Strs w a2 b.recs → Calls Tryd.prog 6 #[.agg #[.slice a fs.length c], .int .i64 k, .agg #[.int .i64 b.off, .int .i64 b.ep, .int .i64 b.pr, .int .i64 b.sq, .slice a2 b.recs.length c2]] w fun r w' => ∃ a' c', r = .returned (.tuple #[.agg #[.slice a' gs.length c'], .bool ok]) ∧ Fls w' a' gs ∧ RowF w' w.heap.size a' gs.length ∧ Below w.heap.size w w'))
    (kk : wr.cell? ⟨A, 0, none⟩ = some (.slice a fs.length c) ∧ wr.cell? ⟨A + 1, 0, none⟩ = some (.int .i64 b.off) ∧ wr.cell? ⟨A + 1, 1, none⟩ = some (.int .i64 b.ep) ∧ wr.cell? ⟨A + 1, 2, none⟩ = some (.int .i64 b.pr) ∧ wr.cell? ⟨A + 1, 3, none⟩ = some (.int .i64 b.sq) ∧ wr.cell? ⟨A + 1, 4, none⟩ = some (.slice a2 b.recs.length c2))
    (h : ∀ (v29 v30 v31 v32 v33 v34 v35 v36 v37 : Value) (w5 : World) (R : Nat) (a5 : Option Addr) (c5 : Nat), Below wr.heap.size wr w5 → Fls w5 a5 gs → wr.heap.size ≤ R → w5.cell? ⟨R, 0, none⟩ = some (.slice a5 gs.length c5) → Q .normal { tmps := #[u0, Value.int .i64 k, u2, Value.pointer (some ⟨A, 0, none⟩), u4, Value.pointer (some ⟨A + 1, 0, none⟩), u6, u7, Value.pointer (some ⟨R, 0, none⟩), Value.bool ok, u10, u11, u12, u13, u14, u15, u16, u17, u18, u19, u20, u21, u22, u23, u24, u25, u26, u27, u28, v29, v30, v31, v32, v33, v34, v35, v36, v37, u38, u39, u40, u41, u42, u43, u44, u45, u46, u47, u48, u49, u50, u51, u52, u53, u54, u55, u56, u57, u58, u59, u60, u61, u62, u63, u64, u65, u66, u67, u68, u69, u70, u71, u72, u73, u74, u75, u76, u77, u78, u79, u80, u81, u82, u83, u84, u85, u86, u87, u88, u89, u90, u91, u92, u93, u94, u95, u96, u97, u98, u99, u100, u101, u102, u103, u104, u105, u106, u107, u108, u109, u110, u111, u112, u113, u114, u115, u116, u117, u118, u119, u120, u121, u122, u123], defers := [] } w5) :
    Code.wp Tryd.prog regL8 Q { tmps := #[u0, Value.int .i64 k, u2, Value.pointer (some ⟨A, 0, none⟩), u4, Value.pointer (some ⟨A + 1, 0, none⟩), u6, u7, u8, u9, u10, u11, u12, u13, u14, u15, u16, u17, u18, u19, u20, u21, u22, u23, u24, u25, u26, u27, u28, u29, u30, u31, u32, u33, u34, u35, u36, u37, u38, u39, u40, u41, u42, u43, u44, u45, u46, u47, u48, u49, u50, u51, u52, u53, u54, u55, u56, u57, u58, u59, u60, u61, u62, u63, u64, u65, u66, u67, u68, u69, u70, u71, u72, u73, u74, u75, u76, u77, u78, u79, u80, u81, u82, u83, u84, u85, u86, u87, u88, u89, u90, u91, u92, u93, u94, u95, u96, u97, u98, u99, u100, u101, u102, u103, u104, u105, u106, u107, u108, u109, u110, u111, u112, u113, u114, u115, u116, u117, u118, u119, u120, u121, u122, u123], defers := [] } wr := by
  have k0 := kk
  have kw := kk
  have hA : A + 1 < wr.heap.size := lt_of_cell kk.2.1
  obtain ⟨q0, z0, z1, z2, z3, z4⟩ := k0
  have al : ∀ (u : World) (o : Obj), Below u.heap.size u (u.alloc o) := fun u o => (Below.refl _ _).alloc (Nat.le_refl _) o
  have st : ∀ {u v x : World}, Below u.heap.size u v → Below v.heap.size v x → Below u.heap.size u x := fun h k => h.trans (k.mono h.size)
  have d0 : Below wr.heap.size wr wr.drew := (Below.refl _ _).drew
  conv => arg 2; whnf
  go_region_held3 (fun w' => w'.cell? ⟨A, 0, none⟩ = some (.slice a fs.length c) ∧ w'.cell? ⟨A + 1, 0, none⟩ = some (.int .i64 b.off) ∧ w'.cell? ⟨A + 1, 1, none⟩ = some (.int .i64 b.ep) ∧ w'.cell? ⟨A + 1, 2, none⟩ = some (.int .i64 b.pr) ∧ w'.cell? ⟨A + 1, 3, none⟩ = some (.int .i64 b.sq) ∧ w'.cell? ⟨A + 1, 4, none⟩ = some (.slice a2 b.recs.length c2))
    (first | exact kk | exact six_setR (by omega) kk | go_keep)
    (first
      | (go_at_call 7; refine (toDisk_any _ _ _ _ (hs.below ?_) hlen).mono ?_; (first | exact d0 | exact st d0 (al _ _)); rintro r w1 ⟨a1, rfl, H1, -, hB1⟩; have kk : w1.cell? ⟨A, 0, none⟩ = some (.slice a fs.length c) ∧ w1.cell? ⟨A + 1, 0, none⟩ = some (.int .i64 b.off) ∧ w1.cell? ⟨A + 1, 1, none⟩ = some (.int .i64 b.ep) ∧ w1.cell? ⟨A + 1, 2, none⟩ = some (.int .i64 b.pr) ∧ w1.cell? ⟨A + 1, 3, none⟩ = some (.int .i64 b.sq) ∧ w1.cell? ⟨A + 1, 4, none⟩ = some (.slice a2 b.recs.length c2) := (by first | exact six_keep (D := A) (v := .slice a fs.length c) (v0 := .int .i64 b.off) (v1 := .int .i64 b.ep) (v2 := .int .i64 b.pr) (v3 := .int .i64 b.sq) (v4 := .slice a2 b.recs.length c2) (st d0 hB1) kw | exact six_keep (D := A) (v := .slice a fs.length c) (v0 := .int .i64 b.off) (v1 := .int .i64 b.ep) (v2 := .int .i64 b.pr) (v3 := .int .i64 b.sq) (v4 := .slice a2 b.recs.length c2) (st (st d0 (al _ _)) hB1) kw); have kw1 := kk; have hT1 : Below wr.heap.size wr w1 := (by first | exact st d0 hB1 | exact st (st d0 (al _ _)) hB1); have l1 := hT1.size; (first | have r1 : w1.cell? ⟨wr.heap.size, 0, none⟩ = some (.slice none 0 0) ∧ w1.frozen? ⟨wr.heap.size, 0, none⟩ = false := one_newe hB1 | have r1 : w1.cell? ⟨wr.heap.size, 0, none⟩ = some (.slice none 0 0) ∧ w1.frozen? ⟨wr.heap.size, 0, none⟩ = false := one_newd hB1 | have r1 : w1.cell? ⟨wr.heap.size, 0, none⟩ = some (.slice none 0 0) ∧ w1.frozen? ⟨wr.heap.size, 0, none⟩ = false := one_new hB1 | skip))
      | (go_at_call 8; refine (toBatch_any _ _ _ _ _ _ _ _ (hb.below ?_) hbl).mono ?_; (first | exact hT1 | exact st hT1 (al _ _)); rintro r w2 ⟨a3, rfl, H3, hB2, -⟩; have kk : w2.cell? ⟨A, 0, none⟩ = some (.slice a fs.length c) ∧ w2.cell? ⟨A + 1, 0, none⟩ = some (.int .i64 b.off) ∧ w2.cell? ⟨A + 1, 1, none⟩ = some (.int .i64 b.ep) ∧ w2.cell? ⟨A + 1, 2, none⟩ = some (.int .i64 b.pr) ∧ w2.cell? ⟨A + 1, 3, none⟩ = some (.int .i64 b.sq) ∧ w2.cell? ⟨A + 1, 4, none⟩ = some (.slice a2 b.recs.length c2) := (by first | exact six_keep (D := A) (v := .slice a fs.length c) (v0 := .int .i64 b.off) (v1 := .int .i64 b.ep) (v2 := .int .i64 b.pr) (v3 := .int .i64 b.sq) (v4 := .slice a2 b.recs.length c2) hB2 kw1 | exact six_keep (D := A) (v := .slice a fs.length c) (v0 := .int .i64 b.off) (v1 := .int .i64 b.ep) (v2 := .int .i64 b.pr) (v3 := .int .i64 b.sq) (v4 := .slice a2 b.recs.length c2) (st (al _ _) hB2) kw1); have kw2 := kk; have H1 : Fls w2 a1 fs := (by first | exact H1.below hB2 | exact H1.below (st (al _ _) hB2)); have hT2 : Below wr.heap.size wr w2 := (by first | exact st hT1 hB2 | exact st (st hT1 (al _ _)) hB2); have l2 : w1.heap.size ≤ w2.heap.size := (by have := hB2.size; first | exact this | (simp at this; omega)); (first | have r2 : w2.cell? ⟨wr.heap.size, 0, none⟩ = some (.slice none 0 0) ∧ w2.frozen? ⟨wr.heap.size, 0, none⟩ = false := one_keep hB2 r1 | have r2 : w2.cell? ⟨w1.heap.size, 0, none⟩ = some (.slice none 0 0) ∧ w2.frozen? ⟨w1.heap.size, 0, none⟩ = false := one_new hB2 | skip))
      | (go_at_call 6; refine (HC.out _ _ _ _ _ (hTab.below (?_ : Below wr.heap.size wr _) hw0) (H1.below ?_) (H3.below ?_)).mono ?_; (first | exact hT2 | exact st hT2 (al _ _)); (first | exact Below.refl _ _ | exact al _ _); (first | exact Below.refl _ _ | exact al _ _); rintro r w3 ⟨a5, c5, rfl, hF, hR, hB3⟩; have kk : w3.cell? ⟨A, 0, none⟩ = some (.slice a fs.length c) ∧ w3.cell? ⟨A + 1, 0, none⟩ = some (.int .i64 b.off) ∧ w3.cell? ⟨A + 1, 1, none⟩ = some (.int .i64 b.ep) ∧ w3.cell? ⟨A + 1, 2, none⟩ = some (.int .i64 b.pr) ∧ w3.cell? ⟨A + 1, 3, none⟩ = some (.int .i64 b.sq) ∧ w3.cell? ⟨A + 1, 4, none⟩ = some (.slice a2 b.recs.length c2) := (by first | exact six_keep (D := A) (v := .slice a fs.length c) (v0 := .int .i64 b.off) (v1 := .int .i64 b.ep) (v2 := .int .i64 b.pr) (v3 := .int .i64 b.sq) (v4 := .slice a2 b.recs.length c2) hB3 kw2 | exact six_keep (D := A) (v := .slice a fs.length c) (v0 := .int .i64 b.off) (v1 := .int .i64 b.ep) (v2 := .int .i64 b.pr) (v3 := .int .i64 b.sq) (v4 := .slice a2 b.recs.length c2) (st (al _ _) hB3) kw2); have hT3 : Below wr.heap.size wr w3 := (by first | exact st hT2 hB3 | exact st (st hT2 (al _ _)) hB3); have l3 : w2.heap.size ≤ w3.heap.size := (by have := hB3.size; first | exact this | (simp at this; omega)); (first | (have r3 := one_keep hB3 r2; obtain ⟨r4, r5⟩ := r3) | (have r3 : w3.cell? ⟨w2.heap.size, 0, none⟩ = some (.slice none 0 0) ∧ w3.frozen? ⟨w2.heap.size, 0, none⟩ = false := one_new hB3; obtain ⟨r4, r5⟩ := r3) | skip)))
  all_goals
    first
      | exact h _ _ _ _ _ _ _ _ _ _ w3.heap.size a5 c5 (st hT3 (al _ _)) (hF.below (al _ _)) (by omega) (by simp)
      | exact h _ _ _ _ _ _ _ _ _ _ _ a5 c5 (hT3.setCell (by simp; omega) _) (hF.setR hR (by have := lt_of_cell r2.1; omega)) (by omega) (cell_setR r4)
      | exact h _ _ _ _ _ _ _ _ _ _ _ a5 c5 (hT3.setCell (by simp; omega) _) (hF.setR hR (by simp)) (by omega) (cell_setR r4)
      | exact h _ _ _ _ _ _ _ _ _ _ _ a5 c5 (hT3.setCell (Nat.le_refl _) _) (hF.setR hR (by have := lt_of_cell r2.1; omega)) (by omega) (cell_setR r4)

def findL31 : Code → Option Code
  | .region 31 o b => some (.region 31 o b)
  | .seq a b => match findL31 a with
    | some c => some c
    | none => findL31 b
  | .block _ c => findL31 c
  | .scope c => findL31 c
  | .loop c => findL31 c
  | .cond _ a b => match findL31 a with
    | some c => some c
    | none => findL31 b
  | _ => none

noncomputable def regL31 : Code := ((Tryd.f3.body.bind findL31).getD .skip)

set_option maxRecDepth 1000000 in
set_option maxHeartbeats 8000000 in
theorem wrL31 (Q : Exit → Act → World → Prop) (A : Nat) (a : Option Addr) (fs gs : List Fl) (ok : Bool) (c : Nat) (k : Int) (b : Bt) (a2 : Option Addr) (c2 : Nat) (u0 u2 u4 u6 u7 u8 u9 u10 u11 u12 u13 u14 u15 u16 u17 u18 u19 u20 u21 u22 u23 u24 u25 u26 u27 u28 u29 u30 u31 u32 u33 u34 u35 u36 u37 u38 u39 u40 u41 u42 u43 u44 u45 u46 u47 u48 u49 u50 u51 u52 u53 u54 u55 u56 u57 u58 u59 u60 u61 u62 u63 u64 u65 u66 u67 u68 u69 u70 u71 u72 u73 u74 u75 u76 u77 u78 u79 u80 u81 u82 u83 u84 u85 u86 u87 u88 u89 u90 u91 u92 u93 u94 u95 u96 u97 u98 u99 u100 u101 u102 u103 u104 u105 u106 u107 u108 u109 u110 u111 u112 u113 u114 u115 u116 u117 u118 u119 u120 u121 u122 u123 : Value) (wr : World)
    (hs : Fls wr a fs) (hlen : fs.length ≤ 1048576) (hb : Strs wr a2 b.recs) (hbl : b.recs.length ≤ 1048576) (hTab : TabAt wr) (hw0 : 0 < wr.heap.size)
    (HC : Hid (∀ (w : World) (a : Option Addr) (c : Nat) (a2 : Option Addr) (c2 : Nat), TabAt w → Fls w a fs → Strs w a2 b.recs → Calls Tryd.prog 9 #[.agg #[.slice a fs.length c], .int .i64 k, .agg #[.int .i64 b.off, .int .i64 b.ep, .int .i64 b.pr, .int .i64 b.sq, .slice a2 b.recs.length c2]] w fun r w' => ∃ a' c', r = .returned (.tuple #[.agg #[.slice a' gs.length c'], .bool ok]) ∧ Fls w' a' gs ∧ RowF w' w.heap.size a' gs.length ∧ Below w.heap.size w w'))
    (kk : wr.cell? ⟨A, 0, none⟩ = some (.slice a fs.length c) ∧ wr.cell? ⟨A + 1, 0, none⟩ = some (.int .i64 b.off) ∧ wr.cell? ⟨A + 1, 1, none⟩ = some (.int .i64 b.ep) ∧ wr.cell? ⟨A + 1, 2, none⟩ = some (.int .i64 b.pr) ∧ wr.cell? ⟨A + 1, 3, none⟩ = some (.int .i64 b.sq) ∧ wr.cell? ⟨A + 1, 4, none⟩ = some (.slice a2 b.recs.length c2))
    (h : ∀ (v98 v99 v100 v101 v102 v103 v104 v105 v106 : Value) (w5 : World) (R : Nat) (a5 : Option Addr) (c5 : Nat), Below wr.heap.size wr w5 → Fls w5 a5 gs → wr.heap.size ≤ R → w5.cell? ⟨R, 0, none⟩ = some (.slice a5 gs.length c5) → Q .normal { tmps := #[u0, Value.int .i64 k, u2, Value.pointer (some ⟨A, 0, none⟩), u4, Value.pointer (some ⟨A + 1, 0, none⟩), u6, u7, u8, u9, u10, u11, u12, u13, u14, u15, u16, Value.pointer (some ⟨R, 0, none⟩), Value.bool ok, u19, u20, u21, u22, u23, u24, u25, u26, u27, u28, u29, u30, u31, u32, u33, u34, u35, u36, u37, u38, u39, u40, u41, u42, u43, u44, u45, u46, u47, u48, u49, u50, u51, u52, u53, u54, u55, u56, u57, u58, u59, u60, u61, u62, u63, u64, u65, u66, u67, u68, u69, u70, u71, u72, u73, u74, u75, u76, u77, u78, u79, u80, u81, u82, u83, u84, u85, u86, u87, u88, u89, u90, u91, u92, u93, u94, u95, u96, u97, v98, v99, v100, v101, v102, v103, v104, v105, v106, u107, u108, u109, u110, u111, u112, u113, u114, u115, u116, u117, u118, u119, u120, u121, u122, u123], defers := [] } w5) :
    Code.wp Tryd.prog regL31 Q { tmps := #[u0, Value.int .i64 k, u2, Value.pointer (some ⟨A, 0, none⟩), u4, Value.pointer (some ⟨A + 1, 0, none⟩), u6, u7, u8, u9, u10, u11, u12, u13, u14, u15, u16, u17, u18, u19, u20, u21, u22, u23, u24, u25, u26, u27, u28, u29, u30, u31, u32, u33, u34, u35, u36, u37, u38, u39, u40, u41, u42, u43, u44, u45, u46, u47, u48, u49, u50, u51, u52, u53, u54, u55, u56, u57, u58, u59, u60, u61, u62, u63, u64, u65, u66, u67, u68, u69, u70, u71, u72, u73, u74, u75, u76, u77, u78, u79, u80, u81, u82, u83, u84, u85, u86, u87, u88, u89, u90, u91, u92, u93, u94, u95, u96, u97, u98, u99, u100, u101, u102, u103, u104, u105, u106, u107, u108, u109, u110, u111, u112, u113, u114, u115, u116, u117, u118, u119, u120, u121, u122, u123], defers := [] } wr := by
  have k0 := kk
  have kw := kk
  have hA : A + 1 < wr.heap.size := lt_of_cell kk.2.1
  obtain ⟨q0, z0, z1, z2, z3, z4⟩ := k0
  have al : ∀ (u : World) (o : Obj), Below u.heap.size u (u.alloc o) := fun u o => (Below.refl _ _).alloc (Nat.le_refl _) o
  have st : ∀ {u v x : World}, Below u.heap.size u v → Below v.heap.size v x → Below u.heap.size u x := fun h k => h.trans (k.mono h.size)
  have d0 : Below wr.heap.size wr wr.drew := (Below.refl _ _).drew
  conv => arg 2; whnf
  go_region_held3 (fun w' => w'.cell? ⟨A, 0, none⟩ = some (.slice a fs.length c) ∧ w'.cell? ⟨A + 1, 0, none⟩ = some (.int .i64 b.off) ∧ w'.cell? ⟨A + 1, 1, none⟩ = some (.int .i64 b.ep) ∧ w'.cell? ⟨A + 1, 2, none⟩ = some (.int .i64 b.pr) ∧ w'.cell? ⟨A + 1, 3, none⟩ = some (.int .i64 b.sq) ∧ w'.cell? ⟨A + 1, 4, none⟩ = some (.slice a2 b.recs.length c2))
    (first | exact kk | exact six_setR (by omega) kk | go_keep)
    (first
      | (go_at_call 7; refine (toDisk_any _ _ _ _ (hs.below ?_) hlen).mono ?_; (first | exact d0 | exact st d0 (al _ _)); rintro r w1 ⟨a1, rfl, H1, -, hB1⟩; have kk : w1.cell? ⟨A, 0, none⟩ = some (.slice a fs.length c) ∧ w1.cell? ⟨A + 1, 0, none⟩ = some (.int .i64 b.off) ∧ w1.cell? ⟨A + 1, 1, none⟩ = some (.int .i64 b.ep) ∧ w1.cell? ⟨A + 1, 2, none⟩ = some (.int .i64 b.pr) ∧ w1.cell? ⟨A + 1, 3, none⟩ = some (.int .i64 b.sq) ∧ w1.cell? ⟨A + 1, 4, none⟩ = some (.slice a2 b.recs.length c2) := (by first | exact six_keep (D := A) (v := .slice a fs.length c) (v0 := .int .i64 b.off) (v1 := .int .i64 b.ep) (v2 := .int .i64 b.pr) (v3 := .int .i64 b.sq) (v4 := .slice a2 b.recs.length c2) (st d0 hB1) kw | exact six_keep (D := A) (v := .slice a fs.length c) (v0 := .int .i64 b.off) (v1 := .int .i64 b.ep) (v2 := .int .i64 b.pr) (v3 := .int .i64 b.sq) (v4 := .slice a2 b.recs.length c2) (st (st d0 (al _ _)) hB1) kw); have kw1 := kk; have hT1 : Below wr.heap.size wr w1 := (by first | exact st d0 hB1 | exact st (st d0 (al _ _)) hB1); have l1 := hT1.size; (first | have r1 : w1.cell? ⟨wr.heap.size, 0, none⟩ = some (.slice none 0 0) ∧ w1.frozen? ⟨wr.heap.size, 0, none⟩ = false := one_newe hB1 | have r1 : w1.cell? ⟨wr.heap.size, 0, none⟩ = some (.slice none 0 0) ∧ w1.frozen? ⟨wr.heap.size, 0, none⟩ = false := one_newd hB1 | have r1 : w1.cell? ⟨wr.heap.size, 0, none⟩ = some (.slice none 0 0) ∧ w1.frozen? ⟨wr.heap.size, 0, none⟩ = false := one_new hB1 | skip))
      | (go_at_call 8; refine (toBatch_any _ _ _ _ _ _ _ _ (hb.below ?_) hbl).mono ?_; (first | exact hT1 | exact st hT1 (al _ _)); rintro r w2 ⟨a3, rfl, H3, hB2, -⟩; have kk : w2.cell? ⟨A, 0, none⟩ = some (.slice a fs.length c) ∧ w2.cell? ⟨A + 1, 0, none⟩ = some (.int .i64 b.off) ∧ w2.cell? ⟨A + 1, 1, none⟩ = some (.int .i64 b.ep) ∧ w2.cell? ⟨A + 1, 2, none⟩ = some (.int .i64 b.pr) ∧ w2.cell? ⟨A + 1, 3, none⟩ = some (.int .i64 b.sq) ∧ w2.cell? ⟨A + 1, 4, none⟩ = some (.slice a2 b.recs.length c2) := (by first | exact six_keep (D := A) (v := .slice a fs.length c) (v0 := .int .i64 b.off) (v1 := .int .i64 b.ep) (v2 := .int .i64 b.pr) (v3 := .int .i64 b.sq) (v4 := .slice a2 b.recs.length c2) hB2 kw1 | exact six_keep (D := A) (v := .slice a fs.length c) (v0 := .int .i64 b.off) (v1 := .int .i64 b.ep) (v2 := .int .i64 b.pr) (v3 := .int .i64 b.sq) (v4 := .slice a2 b.recs.length c2) (st (al _ _) hB2) kw1); have kw2 := kk; have H1 : Fls w2 a1 fs := (by first | exact H1.below hB2 | exact H1.below (st (al _ _) hB2)); have hT2 : Below wr.heap.size wr w2 := (by first | exact st hT1 hB2 | exact st (st hT1 (al _ _)) hB2); have l2 : w1.heap.size ≤ w2.heap.size := (by have := hB2.size; first | exact this | (simp at this; omega)); (first | have r2 : w2.cell? ⟨wr.heap.size, 0, none⟩ = some (.slice none 0 0) ∧ w2.frozen? ⟨wr.heap.size, 0, none⟩ = false := one_keep hB2 r1 | have r2 : w2.cell? ⟨w1.heap.size, 0, none⟩ = some (.slice none 0 0) ∧ w2.frozen? ⟨w1.heap.size, 0, none⟩ = false := one_new hB2 | skip))
      | (go_at_call 9; refine (HC.out _ _ _ _ _ (hTab.below (?_ : Below wr.heap.size wr _) hw0) (H1.below ?_) (H3.below ?_)).mono ?_; (first | exact hT2 | exact st hT2 (al _ _)); (first | exact Below.refl _ _ | exact al _ _); (first | exact Below.refl _ _ | exact al _ _); rintro r w3 ⟨a5, c5, rfl, hF, hR, hB3⟩; have kk : w3.cell? ⟨A, 0, none⟩ = some (.slice a fs.length c) ∧ w3.cell? ⟨A + 1, 0, none⟩ = some (.int .i64 b.off) ∧ w3.cell? ⟨A + 1, 1, none⟩ = some (.int .i64 b.ep) ∧ w3.cell? ⟨A + 1, 2, none⟩ = some (.int .i64 b.pr) ∧ w3.cell? ⟨A + 1, 3, none⟩ = some (.int .i64 b.sq) ∧ w3.cell? ⟨A + 1, 4, none⟩ = some (.slice a2 b.recs.length c2) := (by first | exact six_keep (D := A) (v := .slice a fs.length c) (v0 := .int .i64 b.off) (v1 := .int .i64 b.ep) (v2 := .int .i64 b.pr) (v3 := .int .i64 b.sq) (v4 := .slice a2 b.recs.length c2) hB3 kw2 | exact six_keep (D := A) (v := .slice a fs.length c) (v0 := .int .i64 b.off) (v1 := .int .i64 b.ep) (v2 := .int .i64 b.pr) (v3 := .int .i64 b.sq) (v4 := .slice a2 b.recs.length c2) (st (al _ _) hB3) kw2); have hT3 : Below wr.heap.size wr w3 := (by first | exact st hT2 hB3 | exact st (st hT2 (al _ _)) hB3); have l3 : w2.heap.size ≤ w3.heap.size := (by have := hB3.size; first | exact this | (simp at this; omega)); (first | (have r3 := one_keep hB3 r2; obtain ⟨r4, r5⟩ := r3) | (have r3 : w3.cell? ⟨w2.heap.size, 0, none⟩ = some (.slice none 0 0) ∧ w3.frozen? ⟨w2.heap.size, 0, none⟩ = false := one_new hB3; obtain ⟨r4, r5⟩ := r3) | skip)))
  all_goals
    first
      | exact h _ _ _ _ _ _ _ _ _ _ w3.heap.size a5 c5 (st hT3 (al _ _)) (hF.below (al _ _)) (by omega) (by simp)
      | exact h _ _ _ _ _ _ _ _ _ _ _ a5 c5 (hT3.setCell (by simp; omega) _) (hF.setR hR (by have := lt_of_cell r2.1; omega)) (by omega) (cell_setR r4)
      | exact h _ _ _ _ _ _ _ _ _ _ _ a5 c5 (hT3.setCell (by simp; omega) _) (hF.setR hR (by simp)) (by omega) (cell_setR r4)
      | exact h _ _ _ _ _ _ _ _ _ _ _ a5 c5 (hT3.setCell (Nat.le_refl _) _) (hF.setR hR (by have := lt_of_cell r2.1; omega)) (by omega) (cell_setR r4)

end Go.Proofs.YteklkdnkfgfdiaaDoor
