/-
  Parts that a call owns, marked and held: markPart, heldPart.
-/
import Derived.Test.YthbhokpjedndaaaMarkPr
import Derived.Test.YthbhokpjedndaaaMarkLog3P
namespace Go.Proofs.Ythbhokpjedndaaa
open Go.RowKit

/-- Producers stay where the blocks that they lie in stay. -/
theorem Prs.stay {w w' : World} {B : Nat} {a : Option Addr} {qs : List PQ} {k : Nat} (h : Prs w a (markPs qs k)) (hR : PsRow w B a qs) (hs : ∀ b, InPs a qs b → w'.heap[b]? = w.heap[b]?) : Prs w' a (markPs qs k) := fun i b hi => by
  obtain ⟨kb, o, e, ra, rc, h0, h1, h2, h3, hst, hl⟩ := h i b hi
  have hlt := (List.getElem?_eq_some_iff.1 hi).1
  rw [markPs_len] at hlt
  obtain ⟨q, hq⟩ := getPQ hlt
  have hm := markPs_get qs k i q hq
  rw [hi] at hm
  simp only [Option.some.injEq] at hm
  obtain ⟨g, m, f, rfl, hg, hmm, hL⟩ := hR.resolve_left (by omega)
  simp only [Option.some.injEq, Addr.mk.injEq] at e
  obtain ⟨rfl, rfl, -⟩ := e
  have c : ∀ j, w'.cell? ⟨g, j, none⟩ = w.cell? ⟨g, j, none⟩ := fun j => World.cell?_of_block (a := ⟨g, j, none⟩) (hs g (.inl ⟨by omega, 0, none, rfl⟩))
  have hx := (hL.rcs i q hq).1
  have hcell := hL.row.cell (i := i * 4 + 3) (by omega)
  rw [hx] at hcell
  rw [Nat.zero_add] at h3
  rw [hcell] at h3
  simp only [Option.some.injEq, Value.slice.injEq] at h3
  obtain ⟨e1, e2, e3⟩ := h3
  subst e1
  refine ⟨g, 0, rfl, q.a, rc, (c _).trans h0, (c _).trans h1, (c _).trans h2, ?_, hst.of_block fun b' hb' => hs b' (.inr ⟨i, q, hq, by rw [e2]; exact hb'⟩), hl⟩
  rw [c, Nat.zero_add, hcell, e2, e3]

set_option maxRecDepth 100000 in
set_option maxHeartbeats 2000000 in
theorem markPart_any (a d : Option Addr) (c e B k : Nat) (z : Int) (ps : List PQ) (qs : List Q) (w : World) (h : PsRow w B a ps) (h8 : ∀ q, q ∈ ps → q.b.win.length ≤ 1000000) (hp4 : ps.length ≤ 1000000)
    (g : LogRow w B d qs) (g8 : ∀ q, q ∈ qs → q.b.recs.length ≤ 8) (hq4 : qs.length ≤ 1000000) (hdis : ∀ b, InPs a ps b → ¬ InLog d qs b) (h2 : kTo qs (pTo ps k) ≤ 1000000000) (hBw : B ≤ w.heap.size) :
    Calls Try.prog 8 #[.agg #[.slice a ps.length c, .slice d qs.length e, .int .i64 z], .int .i64 k] w fun r w' => r = .returned (.int .i64 ((kTo qs (pTo ps k) : Nat) : Int)) ∧ Prs w' a (markPs ps k) ∧ Bats w' d (markQs qs (pTo ps k)) ∧ Below B w w' ∧ ∀ b, b < w.heap.size → ¬ InPs a ps b → ¬ InLog d qs b → w'.heap[b]? = w.heap[b]? := by
  have hk2 := kTo_ge qs (pTo ps k)
  have hk1 := pTo_ge ps k
  have ha : ∀ o, Below w.heap.size w (w.alloc o) := fun o => (Below.refl _ _).alloc (Nat.le_refl _) o
  have hR1 : ∀ o, PsRow (w.alloc o) B a ps := fun o => h.below (ha o)
  have hG1 : ∀ o, LogRow (w.alloc o) B d qs := fun o => g.below (ha o)
  have ltP : ∀ b, InPs a ps b → b < w.heap.size := fun b hb => (h.lt hb).2
  have ltL : ∀ b, InLog d qs b → b < w.heap.size := fun b hb => (g.lt hb).2
  go_enter Try.func8, Try.ntmps8
  go_wp2_with fail
  refine (markProducerS_row _ _ B k ps _ (hR1 _) h8 (by omega) hp4).mono ?_
  rintro r w1 ⟨rfl, hP, hPR, hB1, hO1⟩
  have c0 : ∀ o, w1.cell? ⟨w.heap.size, o, none⟩ = (w.alloc (.cells #[.slice a ps.length c, .slice d qs.length e, .int .i64 z] 25)).cell? ⟨w.heap.size, o, none⟩ := fun o => World.cell?_of_block (a := ⟨w.heap.size, o, none⟩) (hO1 _ fun hb => Nat.lt_irrefl _ (ltP _ hb))
  have c1 : w1.cell? ⟨w.heap.size, 1, none⟩ = some (.slice d qs.length e) := by rw [c0]; simp
  have hG2 : LogRow w1 B d qs := (hG1 _).of_block fun b hb => hO1 b fun hb' => hdis b hb' hb
  have hz1 := hB1.size
  have hzz : w.heap.size + 1 ≤ w1.heap.size := by simpa using hz1
  have HX : Hid (∀ b, b < w.heap.size → ¬ InPs a ps b → w1.heap[b]? = w.heap[b]?) := fun b hb hn => by
    rw [hO1 b hn]; exact (ha _).block b hb
  have HPB : Hid (Below B w w1) := ((Below.refl B w).alloc hBw _).trans hB1
  have HP : Hid (Prs w1 a (markPs ps k)) := hP
  clear c0 hO1 hB1 hR1 hG1 hP h
  go_wp2_with fail
  refine (markBatchS_row _ _ B (pTo ps k) qs _ hG2 g8 h2 (by omega) hq4).mono ?_
  rintro r w2 ⟨rfl, hL, hB2, hO2⟩
  go_wp2
  go_ret
  refine ⟨rfl, ?_, hL, HPB.out.trans hB2, fun b hb n1 n2 => (hO2 b (by omega) n2).trans (HX.out b hb n1)⟩
  exact HP.out.stay hPR fun b hb => hO2 b (by have := ltP b hb; omega) (hdis b hb)

set_option maxRecDepth 100000 in
set_option maxHeartbeats 2000000 in
theorem heldPart_any (a d : Option Addr) (c e k : Nat) (z : Int) (ps : List PQ) (qs : List Q) (w : World) (h : Prs w a (markPs ps k)) (hp4 : ps.length ≤ 1000000) (g : Bats w d (markQs qs (pTo ps k))) (hq4 : qs.length ≤ 1000000) (h1 : 1 ≤ k) (h2 : kTo qs (pTo ps k) ≤ 1000000000) :
    Calls Try.prog 9 #[.agg #[.slice a ps.length c, .slice d qs.length e, .int .i64 z], .int .i64 k] w fun r w' => r = .returned (.int .i64 ((kTo qs (pTo ps k) : Nat) : Int)) ∧ Below w.heap.size w w' := by
  have hk2 := kTo_ge qs (pTo ps k)
  have hk1 := pTo_ge ps k
  have ha : ∀ o, Below w.heap.size w (w.alloc o) := fun o => (Below.refl _ _).alloc (Nat.le_refl _) o
  have n1 : ¬ (((pTo ps k : Nat) : Int) < 0) := by omega
  have n2 : ¬ (((kTo qs (pTo ps k) : Nat) : Int) < 0) := by omega
  go_enter Try.func9, Try.ntmps9
  go_wp2_with fail
  refine (heldProducerS_any _ _ k ps _ (h.below (ha _)) (by omega) hp4).mono ?_
  rintro r w1 ⟨rfl, rfl⟩
  go_wp2_with fail
  refine (heldBatchS_any _ _ (pTo ps k) qs _ (g.below (ha _)) (by omega) h2 hq4).mono ?_
  rintro r w2 ⟨rfl, hB2⟩
  have hBn := (ha _).trans (hB2.mono (ha _).size)
  clear hB2
  go_wp2
  go_ret
  exact ⟨rfl, hBn⟩

end Go.Proofs.Ythbhokpjedndaaa
