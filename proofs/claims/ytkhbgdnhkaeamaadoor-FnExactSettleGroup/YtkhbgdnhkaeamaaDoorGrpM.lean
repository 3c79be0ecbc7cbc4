/-
  Group that a call owns, marked and held. Made by mkstrong.py.
-/
import Derived.Test.YtkhbgdnhkaeamaaDoorWkAid
import Derived.Test.YtkhbgdnhkaeamaaDoorGrp
import Derived.Test.YtkhbgdnhkaeamaaDoorRplM
import Derived.Test.YtkhbgdnhkaeamaaDoorGrpWJ
namespace Go.Proofs.YtkhbgdnhkaeamaaDoor
open Go.RowKit

theorem RpO.typ {w : World} {B : Nat} {a : Option Addr} {l : List Rp} {r0 : Nat → Option Addr} {k0 : Nat → Nat} (h : RpO w B a l r0 k0) {b : Nat} (hb : RpIn a l r0 b) : ∃ t m f, w.rowIs b t m f ∧ t ∈ ([81, 98] : List TypeId) := by
  rcases h with rfl | ⟨R, m, f, rfl, hR, hm, hrow, hp⟩
  · rcases hb with ⟨h, -⟩ | ⟨j, c, hj, -⟩
    · simp at h
    · simp at hj
  · rcases hb with ⟨-, o, s, e⟩ | ⟨j, c, hj, hb⟩
    · simp only [Option.some.injEq, Addr.mk.injEq] at e
      obtain ⟨rfl, -⟩ := e
      exact ⟨_, m, f, hrow, by simp⟩
    · obtain ⟨-, -, -, -, w0⟩ := hp j c hj
      exact w0.typ (by simp) b hb

theorem RpIn_marked {a : Option Addr} {l : List Rp} {kk : Nat} {r0 : Nat → Option Addr} {b : Nat} (h : RpIn a (RpMs l kk) r0 b) : RpIn a l r0 b := by
  rcases h with h | ⟨j, c, hj, h⟩
  · rw [RpMs_length] at h; exact .inl h
  · obtain ⟨d, hd, rfl⟩ := RpMs_get hj
    simp only [RpM_log] at h
    exact .inr ⟨j, d, hd, h⟩

theorem apart2 {w : World} {b : Nat} {t1 t2 : List TypeId} (h1 : ∃ t m f, w.rowIs b t m f ∧ t ∈ t1) (h2 : ∃ t m f, w.rowIs b t m f ∧ t ∈ t2) (hd : ∀ t ∈ t1, t ∉ t2) : False := by
  obtain ⟨x, _, _, r1, m1⟩ := h1
  obtain ⟨y, _, _, r2, m2⟩ := h2
  exact hd x m1 (row_type r1 r2 ▸ m2)

/-- It lies in memory from B on that may be written, all of it apart. -/
structure GrO (w : World) (B : Nat) (s : Gr) (a0 a1 : Option Addr) (r10 : Nat → Option Addr) (k10 : Nat → Nat) : Prop where
  steps : Ints w a0 s.steps
  stepsR : RowI w B a0 s.steps.length
  reps : RpO w B a1 s.reps r10 k10
  repsD : RpD a1 s.reps r10

/-- Whose block it is. -/
def GrIn (a0 a1 : Option Addr) (s : Gr) (r10 : Nat → Option Addr) (b : Nat) : Prop := InI a0 s.steps.length b ∨ RpIn a1 s.reps r10 b

theorem GrO.below {w w' : World} {B : Nat} {s : Gr} {a0 a1 : Option Addr} {r10 : Nat → Option Addr} {k10 : Nat → Nat} (h : GrO w B s a0 a1 r10 k10) (hb : Below w.heap.size w w') : GrO w' B s a0 a1 r10 k10 :=
  ⟨h.steps.below hb, h.stepsR.below hb, h.reps.below hb, h.repsD⟩

theorem GrO.lt {w : World} {B : Nat} {s : Gr} {a0 a1 : Option Addr} {r10 : Nat → Option Addr} {k10 : Nat → Nat} (h : GrO w B s a0 a1 r10 k10) {b : Nat} (hb : GrIn a0 a1 s r10 b) : B ≤ b ∧ b < w.heap.size := by
  rcases hb with hb | hb
  · exact h.stepsR.lt hb
  · exact h.reps.lt hb

theorem GrO.of_block {w w' : World} {B : Nat} {s : Gr} {a0 a1 : Option Addr} {r10 : Nat → Option Addr} {k10 : Nat → Nat} (h : GrO w B s a0 a1 r10 k10) (hs : ∀ b, GrIn a0 a1 s r10 b → w'.heap[b]? = w.heap[b]?) : GrO w' B s a0 a1 r10 k10 :=
  ⟨h.steps.of_block fun b hb => hs b (.inl hb), h.stepsR.of_block fun b hb => hs b (.inl hb), h.reps.of_block fun b hb => hs b (.inr (hb)), h.repsD⟩

structure GrS (s : Gr) : Prop where
  steps : s.steps.length ≤ 1000000
  reps : s.reps.length ≤ 1000000
  repsI : ∀ c, c ∈ s.reps → c.log.length ≤ maxLen
  tot : ∀ k, k ≤ 1 → (RpK s.reps (k + s.steps.length) s.reps.length) ≤ 1000000000

theorem GrO.reads {w : World} {B : Nat} {s : Gr} {a0 a1 : Option Addr} {r10 : Nat → Option Addr} {k10 : Nat → Nat} (h : GrO w B s a0 a1 r10 k10) (hs : GrS s) : GrR w s a0 a1 :=
  ⟨h.steps, h.reps.reads hs.repsI⟩

/-- Marked from k on. -/
structure GrH (w : World) (B : Nat) (s : Gr) (k : Nat) (a0 a1 : Option Addr) (r10 : Nat → Option Addr) (k10 : Nat → Nat) : Prop where
  steps : Ints w a0 (markZ k s.steps.length)
  reps : RpO w B a1 (RpMs s.reps (k + s.steps.length)) r10 k10

theorem GrH.below {w w' : World} {B : Nat} {s : Gr} {k : Nat} {a0 a1 : Option Addr} {r10 : Nat → Option Addr} {k10 : Nat → Nat} (h : GrH w B s k a0 a1 r10 k10) (hb : Below w.heap.size w w') : GrH w' B s k a0 a1 r10 k10 :=
  ⟨h.steps.below hb, h.reps.below hb⟩

set_option maxRecDepth 100000 in
set_option maxHeartbeats 8000000 in
theorem markGroup_any (s : Gr) (k B : Nat) (a0 a1 : Option Addr) (c0 c1 : Nat) (r10 : Nat → Option Addr) (k10 : Nat → Nat) (w : World) (h : GrO w B s a0 a1 r10 k10) (hz : GrS s) (hk : k ≤ 1) (hBw : B ≤ w.heap.size) :
    Calls Tryd.prog 10 #[grV s a0 c0 a1 c1, .int .i64 (k : Int)] w fun r w' => r = .returned (.int .i64 (((RpK s.reps (k + s.steps.length) s.reps.length) : Nat) : Int)) ∧ GrH w' B s k a0 a1 r10 k10 ∧ Below B w w' ∧ ∀ b, b < w.heap.size → ¬ GrIn a0 a1 s r10 b → w'.heap[b]? = w.heap[b]? := by
  have tot := hz.tot k hk
  have l0 := hz.steps
  have g0 : k ≤ (k + s.steps.length) := by omega
  have l1 := hz.reps
  have g1 : (k + s.steps.length) ≤ (RpK s.reps (k + s.steps.length) s.reps.length) := RpK_mono s.reps (k + s.steps.length) 0 s.reps.length (Nat.zero_le _)
  have hlt : ∀ b, GrIn a0 a1 s r10 b → b < w.heap.size := fun b hb => (h.lt hb).2
  obtain ⟨u0, hu0⟩ : ∃ u0, (w.alloc (.cells #[.int .i64 s.epoch, .int .i64 s.leader, .slice a0 s.steps.length c0, .int .i64 s.high, .slice a1 s.reps.length c1] 25)) = u0 := ⟨_, rfl⟩
  have p0 : u0.cell? ⟨w.heap.size, 0, none⟩ = some (.int .i64 s.epoch) := by rw [← hu0]; simp [go_sem]
  have p1 : u0.cell? ⟨w.heap.size, 1, none⟩ = some (.int .i64 s.leader) := by rw [← hu0]; simp [go_sem]
  have p2 : u0.cell? ⟨w.heap.size, 2, none⟩ = some (.slice a0 s.steps.length c0) := by rw [← hu0]; simp [go_sem]
  have p3 : u0.cell? ⟨w.heap.size, 3, none⟩ = some (.int .i64 s.high) := by rw [← hu0]; simp [go_sem]
  have p4 : u0.cell? ⟨w.heap.size, 4, none⟩ = some (.slice a1 s.reps.length c1) := by rw [← hu0]; simp [go_sem]
  have bB : Below w.heap.size w u0 := by rw [← hu0]; exact alGr _ _
  have z0 : w.heap.size < u0.heap.size := by rw [← hu0]; simp
  obtain ⟨h0, e0, h1, e1⟩ := h.below bB
  have BB : Below B w u0 := bB.mono hBw
  have HF : Hid (∀ b, b < w.heap.size → ¬ GrIn a0 a1 s r10 b → u0.heap[b]? = w.heap[b]?) := fun b hb _ => bB.block b hb
  clear h
  go_enter Tryd.func10, Tryd.ntmps10
  go_wp2_with fail
  clear hu0
  have T1 : ∀ b, RpIn a1 s.reps r10 b → ∃ t m f, u0.rowIs b t m f ∧ t ∈ ([81, 98] : List TypeId) := fun b hb => h1.typ hb
  have TB : ∀ b, InI a0 s.steps.length b → ∃ t m f, u0.rowIs b t m f ∧ t ∈ ([3] : List TypeId) := fun b hb => e0.typ (by simp) b hb
  refine (markIntS_any _ _ s.steps.length B k _ e0 (by omega)).mono ?_
  rintro r w1 ⟨rfl, M0, S0, hB, hO⟩
  replace p3 := (World.cell?_of_block (a := ⟨w.heap.size, 3, none⟩) (hO w.heap.size (lt_of_cell p3) (fun hb => Nat.lt_irrefl _ (hlt _ (.inl hb))))).trans p3
  replace p4 := (World.cell?_of_block (a := ⟨w.heap.size, 4, none⟩) (hO w.heap.size (lt_of_cell p4) (fun hb => Nat.lt_irrefl _ (hlt _ (.inl hb))))).trans p4
  replace h1 := h1.of_block (fun x hb => hO x (h1.lt hb).2 (fun hx => apart2 (T1 x hb) (TB x hx) (by decide)))
  have HF2 : Hid (∀ b, b < w.heap.size → ¬ GrIn a0 a1 s r10 b → w1.heap[b]? = w.heap[b]?) := fun b hb hn => (hO b (by have := bB.size; omega) (fun hx => hn (.inl hx))).trans (HF.out b hb hn)
  replace HF := HF2
  replace BB := BB.trans hB
  have z1 : w.heap.size < w1.heap.size := by have := hB.size; omega
  clear hB hO HF2 TB T1
  go_wp2_with fail
  have TB : ∀ b, RpIn a1 s.reps r10 b → ∃ t m f, w1.rowIs b t m f ∧ t ∈ ([81, 98] : List TypeId) := fun b hb => h1.typ hb
  refine (markReplicaS_any _ _ B (k + s.steps.length) s.reps r10 k10 _ h1 e1 l1 (by omega)).mono ?_
  rintro r w2 ⟨rfl, M1, hB, hO⟩
  replace M0 := M0.of_block (fun x hb => hO x (M0.lt x hb) (fun hx => apart2 (S0.typ (ts := [3]) (by simp) x (by rw [markZ_length] at hb; exact hb)) (TB x hx) (by decide)))
  replace S0 := S0.of_block (fun x hb => hO x (S0.lt hb).2 (fun hx => apart2 (S0.typ (ts := [3]) (by simp) x hb) (TB x hx) (by decide)))
  have HF2 : Hid (∀ b, b < w.heap.size → ¬ GrIn a0 a1 s r10 b → w2.heap[b]? = w.heap[b]?) := fun b hb hn => (hO b (by omega) (fun hx => hn (.inr (hx)))).trans (HF.out b hb hn)
  replace HF := HF2
  replace BB := BB.trans hB
  have z2 : w.heap.size < w2.heap.size := by have := hB.size; omega
  clear hB hO HF2 TB 
  have HH : Hid (GrH w2 B s k a0 a1 r10 k10) := ⟨M0, M1⟩
  clear M0 M1
  go_wp2
  go_ret
  exact ⟨rfl, HH.out, BB, HF.out⟩

set_option maxRecDepth 100000 in
set_option maxHeartbeats 8000000 in
theorem heldGroup_any (s : Gr) (k B : Nat) (a0 a1 : Option Addr) (c0 c1 : Nat) (r10 : Nat → Option Addr) (k10 : Nat → Nat) (w : World) (h : GrH w B s k a0 a1 r10 k10) (hz : GrS s) (hk : k ≤ 1) :
    Calls Tryd.prog 11 #[grV s a0 c0 a1 c1, .int .i64 (k : Int)] w fun r w' => r = .returned (.int .i64 (((RpK s.reps (k + s.steps.length) s.reps.length) : Nat) : Int)) ∧ Below w.heap.size w w' := by
  have tot := hz.tot k hk
  have l0 := hz.steps
  have g0 : k ≤ (k + s.steps.length) := by omega
  have l1 := hz.reps
  have g1 : (k + s.steps.length) ≤ (RpK s.reps (k + s.steps.length) s.reps.length) := RpK_mono s.reps (k + s.steps.length) 0 s.reps.length (Nat.zero_le _)
  obtain ⟨u0, hu0⟩ : ∃ u0, (w.alloc (.cells #[.int .i64 s.epoch, .int .i64 s.leader, .slice a0 s.steps.length c0, .int .i64 s.high, .slice a1 s.reps.length c1] 25)) = u0 := ⟨_, rfl⟩
  have p0 : u0.cell? ⟨w.heap.size, 0, none⟩ = some (.int .i64 s.epoch) := by rw [← hu0]; simp [go_sem]
  have p1 : u0.cell? ⟨w.heap.size, 1, none⟩ = some (.int .i64 s.leader) := by rw [← hu0]; simp [go_sem]
  have p2 : u0.cell? ⟨w.heap.size, 2, none⟩ = some (.slice a0 s.steps.length c0) := by rw [← hu0]; simp [go_sem]
  have p3 : u0.cell? ⟨w.heap.size, 3, none⟩ = some (.int .i64 s.high) := by rw [← hu0]; simp [go_sem]
  have p4 : u0.cell? ⟨w.heap.size, 4, none⟩ = some (.slice a1 s.reps.length c1) := by rw [← hu0]; simp [go_sem]
  have bB : Below w.heap.size w u0 := by rw [← hu0]; exact alGr _ _
  obtain ⟨h0, h1⟩ := h.below bB
  clear h
  go_enter Tryd.func11, Tryd.ntmps11
  go_wp2_with fail
  clear hu0
  refine (heldIntS_any _ _ s.steps.length k _ h0 (by omega)).mono ?_
  rintro r w1 ⟨rfl, hw⟩
  rw [hw]
  clear hw w1
  have n0 : ¬ (((k + s.steps.length) : Nat) : Int) < 0 := by omega
  go_wp2_with fail
  refine (heldReplicaS_any _ _ B (k + s.steps.length) s.reps r10 k10 _ h1 (by omega) l1).mono ?_
  rintro r w2 ⟨rfl, hw⟩
  rw [hw]
  clear hw w2
  have n1 : ¬ (((RpK s.reps (k + s.steps.length) s.reps.length) : Nat) : Int) < 0 := by omega
  go_wp2
  go_ret
  exact ⟨rfl, bB⟩

end Go.Proofs.YtkhbgdnhkaeamaaDoor
