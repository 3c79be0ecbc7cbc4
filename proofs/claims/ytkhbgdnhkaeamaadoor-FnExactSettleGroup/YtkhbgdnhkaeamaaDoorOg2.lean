/-
  Groups turned at one replica, in plain mathematics, and the same for groups that a call owns.
-/
import Derived.Test.YtkhbgdnhkaeamaaDoorOg
namespace Go.Proofs.YtkhbgdnhkaeamaaDoor
open Go.RowKit

/-- The replica at place j becomes p. -/
def putR (s : Gr) (j : Nat) (p : Rp) : Gr := { s with reps := s.reps.set j p }
theorem putR_len (s : Gr) (j : Nat) (p : Rp) : (putR s j p).reps.length = s.reps.length := by simp [putR]
/-- It has this log, and knows it. -/
def upN (s : Gr) (j : Nat) (l : List Rw) : Gr := putR s j ⟨l, s.epoch, (l.length : Int)⟩

theorem Gow.put {w : World} {B : Nat} {s : Gr} {a0 : Option Addr} {R : Nat} {qs : List Rq} (h : Gow w B s a0 R qs) {j : Nat} (hj : j < qs.length) (q : Rq)
    (hl : Rws w q.a q.p.log) (hm : q.p.log.length ≤ maxLen) (hc : q.p.log.length ≤ q.c) (hr : RowRw w B q.a q.p.log.length) (hR : ∀ b, InI q.a q.p.log.length b → b ≠ R)
    (hA : ∀ b, InI q.a q.p.log.length b → ∀ (i : Nat) (p : Rq), qs[i]? = some p → i ≠ j → ¬ InI p.a p.p.log.length b) :
    Gow (((w.setCell ⟨R, j * 3, none⟩ (.slice q.a q.p.log.length q.c)).setCell ⟨R, j * 3 + 1, none⟩ (.int .i64 q.p.epoch)).setCell ⟨R, j * 3 + 2, none⟩ (.int .i64 q.p.known)) B (putR s j q.p) a0 R (qs.set j q) := by
  have hb : ∀ b, b ≠ R → (((w.setCell ⟨R, j * 3, none⟩ (.slice q.a q.p.log.length q.c)).setCell ⟨R, j * 3 + 1, none⟩ (.int .i64 q.p.epoch)).setCell ⟨R, j * 3 + 2, none⟩ (.int .i64 q.p.known)).heap[b]? = w.heap[b]? := fun b hb => by
    rw [Below.heap_setCell _ ⟨R, _, none⟩ _ b (fun e => hb e), Below.heap_setCell _ ⟨R, _, none⟩ _ b (fun e => hb e), Below.heap_setCell _ ⟨R, _, none⟩ _ b (fun e => hb e)]
  refine ⟨by rw [List.map_set, h.eqs]; rfl, h.steps.of_block fun b hi => hb b (h.stepsA b hi), h.stepsR.of_block fun b hi => hb b (h.stepsA b hi), h.stepsA, ?_⟩
  rw [List.length_set]
  exact h.og.set3 hj q (fun i hi _ => hi) hl hm hc hr hR (fun b hb i p hp hne _ => hA b hb i p hp hne)

/-- The log stays where it is. -/
theorem Gow.keep {w : World} {B : Nat} {s : Gr} {a0 : Option Addr} {R : Nat} {qs : List Rq} (h : Gow w B s a0 R qs) {j : Nat} {q : Rq} (hq : qs[j]? = some q) (e n : Int) :
    Gow (((w.setCell ⟨R, j * 3, none⟩ (.slice q.a q.p.log.length q.c)).setCell ⟨R, j * 3 + 1, none⟩ (.int .i64 e)).setCell ⟨R, j * 3 + 2, none⟩ (.int .i64 n)) B (putR s j ⟨q.p.log, e, n⟩) a0 R (qs.set j ⟨⟨q.p.log, e, n⟩, q.a, q.c⟩) := by
  have hj := (List.getElem?_eq_some_iff.1 hq).1
  exact h.put hj ⟨⟨q.p.log, e, n⟩, q.a, q.c⟩ (h.og.lie j q hq).1 (h.og.lie j q hq).2 (h.og.cap j q hq hj) (h.og.own j q hq hj) (fun b hi => h.og.ap j q b hq hi) (fun b hi i p hp hne hi' => h.og.dj j i q p b hq hp (fun e => hne e.symm) hj (List.getElem?_eq_some_iff.1 hp).1 hi hi')

/-- A log of the call's own that is new. -/
theorem Gow.fresh {w w0 : World} {B : Nat} {s : Gr} {a0 : Option Addr} {R : Nat} {qs : List Rq} (h : Gow w B s a0 R qs) (h0 : Gow w0 B s a0 R qs) {j : Nat} (hj : j < qs.length) (q : Rq) (hl : Rws w q.a q.p.log) (hm : q.p.log.length ≤ maxLen) (hc : q.p.log.length ≤ q.c) (hr : RowRw w w0.heap.size q.a q.p.log.length) :
    Gow (((w.setCell ⟨R, j * 3, none⟩ (.slice q.a q.p.log.length q.c)).setCell ⟨R, j * 3 + 1, none⟩ (.int .i64 q.p.epoch)).setCell ⟨R, j * 3 + 2, none⟩ (.int .i64 q.p.known)) B (putR s j q.p) a0 R (qs.set j q) :=
  h.put hj q hl hm hc (hr.mono (by have := h0.og.hB; have := h0.og.size; omega)) (fun b hi => by have := (hr.lt hi).1; have := h0.og.size; omega) (fun b hi i p hp _ hi' => by have := (hr.lt hi).1; have := h0.og.lt i p b hp hi'; omega)

/-- What the row's cells are. -/
theorem Gow.row {w : World} {B : Nat} {s : Gr} {a0 : Option Addr} {R : Nat} {qs : List Rq} (h : Gow w B s a0 R qs) : (∀ (i : Nat) (q : Rq), qs[i]? = some q → w.cell? ⟨R, i * 3, none⟩ = some (.slice q.a q.p.log.length q.c) ∧ w.cell? ⟨R, i * 3 + 1, none⟩ = some (.int .i64 q.p.epoch) ∧ w.cell? ⟨R, i * 3 + 2, none⟩ = some (.int .i64 q.p.known)) ∧ ∀ o, w.frozen? ⟨R, o, none⟩ = false := by
  obtain ⟨m, f, hm, hr, hp⟩ := h.og.row
  refine ⟨fun i q hq => ?_, hr.frozen⟩
  have hlt := (List.getElem?_eq_some_iff.1 hq).1
  obtain ⟨c0, c1, c2⟩ := hp i q hq
  exact ⟨by rw [hr.cell (by omega), c0], by rw [hr.cell (by omega), c1], by rw [hr.cell (by omega), c2]⟩

theorem Gow.set3b {w : World} {B R j : Nat} {v0 v1 v2 : Value} {W : World} (h : Below B W w) (hR : B ≤ R) : Below B W (((w.setCell ⟨R, j * 3, none⟩ v0).setCell ⟨R, j * 3 + 1, none⟩ v1).setCell ⟨R, j * 3 + 2, none⟩ v2) := ((h.setCell hR _).setCell hR _).setCell hR _

end Go.Proofs.YtkhbgdnhkaeamaaDoor
