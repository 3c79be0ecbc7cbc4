/-
  A new group of replicas: what NewGroup answers, and how it is gathered.
-/
import Derived.Test.YtkhbgdnhkaeamaaDoorGrpM
import Derived.Test.YtkhbgdnhkaeamaaDoorAppZ
import Derived.Test.YtkhbgdnhkaeamaaDoorGrM
namespace Go.Proofs.YtkhbgdnhkaeamaaDoor
open Go.RowKit

def iotaZ (k : Nat) : List Int := (List.range k).map fun i : Nat => (i : Int)
theorem iotaZ_succ (k : Nat) : iotaZ (k + 1) = iotaZ k ++ [(k : Int)] := by simp [iotaZ, List.range_succ]
theorem iotaZ_len (k : Nat) : (iotaZ k).length = k := by simp [iotaZ]

def rpZ : Rp := ⟨[], 0, 0⟩
def newGr (z : Int) : Gr := if inB z 2 4 = true then ⟨0, 0, iotaZ z.toNat, 0, List.replicate z.toNat rpZ⟩ else ⟨0, 0, [], 0, []⟩
theorem newGr_f {z : Int} (h : inB z 2 4 = false) : newGr z = ⟨0, 0, [], 0, []⟩ := by simp [newGr, h]
theorem newGr_t {n : Nat} (h : inB (n : Int) 2 4 = true) : newGr (n : Int) = ⟨0, 0, iotaZ n, 0, List.replicate n rpZ⟩ := by simp [newGr, h]

theorem newGr_zero (w : World) (B : Nat) : GrO w B ⟨0, 0, [], 0, []⟩ none none (fun _ => none) (fun _ => 0) :=
  ⟨Ints.nil _ _, .inl rfl, .inl rfl, by constructor <;> (intros; simp_all)⟩

theorem newGr_small (z : Int) : GrS (newGr z) ∧ GrL (newGr z) := by
  cases h : inB z 2 4 with
  | false => rw [newGr_f h]; exact ⟨⟨by simp, by simp, fun c hc => by simp at hc, fun k hk => by simp [RpK]; omega⟩, ⟨by simp, by simp⟩⟩
  | true =>
    have hz := inB_t.1 h
    obtain ⟨n, rfl⟩ : ∃ n : Nat, z = n := ⟨z.toNat, by omega⟩
    rw [newGr_t h]
    have hn : n = 2 ∨ n = 3 ∨ n = 4 := by omega
    refine ⟨⟨by simp [iotaZ_len]; omega, by simp; omega, fun c hc => by rw [List.eq_of_mem_replicate hc]; simp [rpZ], fun k hk => ?_⟩, ⟨by simp [iotaZ_len]; unfold maxLen; omega, by simp; unfold maxLen; omega⟩⟩
    rcases hn with rfl | rfl | rfl <;> simp [RpK, RpT, iotaZ_len, List.replicate, rpZ] <;> omega

theorem rowIs_madeV (w : World) (z : Array Value) (n : Nat) (t : TypeId) : (w.alloc (.cells (madeCells z n) t)).rowIs w.heap.size t n (fun j => z[j % z.size]!) := by
  have := World.rowIs_alloc w (madeCells z n) t (fun j => z[j % z.size]!) (fun i hi => by
    rw [size_madeCells] at hi
    simp [madeCells, hi])
  rwa [size_madeCells] at this

/-- Replicas of zeros, their row at R. -/
theorem zeroRps {w : World} {R n B : Nat} (hR : w.rowIs R 81 (n * 3) (fun j => (#[.slice none 0 0, .int .i64 0, .int .i64 0] : Array Value)[j % 3]!)) (hB : B ≤ R) : RpO w B (some ⟨R, 0, none⟩) (List.replicate n rpZ) (fun _ => none) (fun _ => 0) := by
  refine .inr ⟨R, n * 3, _, rfl, hB, by simp, hR, fun j c hj => ?_⟩
  have hc : c = rpZ := List.eq_of_mem_replicate (List.mem_of_getElem? hj)
  subst hc
  have e0 : (j * 3) % 3 = 0 := by omega
  have e1 : (j * 3 + 1) % 3 = 1 := by omega
  have e2 : (j * 3 + 2) % 3 = 2 := by omega
  exact ⟨by simp [e0, rpZ], by simp [e1, rpZ], by simp [e2, rpZ], Rws.nil _ _, .inl rfl⟩

structure GnSt (S : Nat) (u wr : World) (v rv : Value) (k : Nat) : Prop where
  own : wr.ownsRow (S + 1) 3 1 v k (zCells (iotaZ k))
  c0 : wr.cell? ⟨S, 0, none⟩ = some (.int .i64 0)
  c1 : wr.cell? ⟨S, 1, none⟩ = some (.int .i64 0)
  c2 : wr.cell? ⟨S, 2, none⟩ = some v
  c3 : wr.cell? ⟨S, 3, none⟩ = some (.int .i64 0)
  c4 : wr.cell? ⟨S, 4, none⟩ = some rv
  fr : ∀ o, wr.frozen? ⟨S, o, none⟩ = false
  bel : Below S u wr
  Bw : S + 1 ≤ wr.heap.size

theorem GnSt.below {S : Nat} {u wr x : World} {v rv : Value} {k : Nat} (h : GnSt S u wr v rv k) (hb : Below wr.heap.size wr x) : GnSt S u x v rv k :=
  ⟨ownsZ_below h.own hb, celB hb h.c0, celB hb h.c1, celB hb h.c2, celB hb h.c3, celB hb h.c4, fun o => frzB hb (lt_of_cell h.c0) (h.fr o), h.bel.trans (hb.mono (by have := h.Bw; omega)), by have := h.Bw; have := hb.size; omega⟩

theorem GnSt.step {S : Nat} {u x w5 : World} {v rv : Value} {k g cap : Nat} (h : GnSt S u x v rv k) (hgrow : x.grownBy w5 v.ownBlock)
    (hown : w5.ownsRow (S + 1) 3 1 (.slice (some ⟨g, 0, none⟩) (k + 1) cap) (k + 1) (zCells (iotaZ k) ++ [.int .i64 (k : Int)])) :
    GnSt S u (w5.setCell ⟨S, 2, none⟩ (.slice (some ⟨g, 0, none⟩) (k + 1) cap)) (.slice (some ⟨g, 0, none⟩) (k + 1) cap) rv (k + 1) := by
  have hBw := h.Bw
  have hvb : ∀ b, v.ownBlock = some b → S + 1 ≤ b ∧ b < x.heap.size := fun b hb => h.own.lt b hb
  have hS : S < x.heap.size ∧ some S ≠ v.ownBlock := ⟨by omega, fun e => by have := (hvb S e.symm).1; omega⟩
  have cel : ∀ o y, x.cell? ⟨S, o, none⟩ = some y → w5.cell? ⟨S, o, none⟩ = some y := fun o y hc => (World.cell?_of_block (a := ⟨S, o, none⟩) (hgrow.block S hS.1 hS.2)).trans hc
  have c2 := cel 2 _ h.c2
  refine ⟨?_, ?_, ?_, ?_, ?_, ?_, ?_, ?_, ?_⟩
  · have e : zCells (iotaZ (k + 1)) = zCells (iotaZ k) ++ [.int .i64 (k : Int)] := by rw [iotaZ_succ, zCells_app]; rfl
    rw [e]
    obtain ⟨o1, o2⟩ := hown
    refine ⟨o1, o2.imp id fun ⟨g', cap', cur, hv, hg, hh, r⟩ => ⟨g', cap', cur, hv, hg, ?_, r⟩⟩
    exact (Below.heap_setCell w5 ⟨S, 2, none⟩ _ g' (by simp; omega)).trans hh
  · have := cel 0 _ h.c0; simp [go_sem, this]
  · have := cel 1 _ h.c1; simp [go_sem, this]
  · simp [go_sem, c2]
  · have := cel 3 _ h.c3; simp [go_sem, this]
  · have := cel 4 _ h.c4; simp [go_sem, this]
  · intro o
    have hf : w5.frozen? ⟨S, o, none⟩ = false := (World.frozen?_of_block (a := ⟨S, o, none⟩) (hgrow.block S hS.1 hS.2)).trans (h.fr o)
    simp [go_sem, hf]
  · exact (h.bel.grown hgrow (by omega) (fun b hb => by have := (hvb b hb).1; omega)).setCell (Nat.le_refl _) _
  · have := hgrow.size
    simp; omega

end Go.Proofs.YtkhbgdnhkaeamaaDoor
