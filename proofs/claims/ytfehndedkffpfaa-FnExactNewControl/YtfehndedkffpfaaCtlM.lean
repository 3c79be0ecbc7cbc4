/-
  Control that a call owns, marked and held. Made by mkstrong.py.
-/
import Derived.Test.YtfehndedkffpfaaWkAid
import Derived.Test.YtfehndedkffpfaaCtl
import Derived.Test.YtfehndedkffpfaaBrkM
import Derived.Test.YtfehndedkffpfaaPrnM
import Derived.Test.YtfehndedkffpfaaBrkW
namespace Go.Proofs.Ytfehndedkffpfaa
open Go.RowKit

theorem PnO.typ {w : World} {B : Nat} {a : Option Addr} {l : List Pn} {r0 r1 : Nat → Option Addr} {k0 k1 : Nat → Nat} (h : PnO w B a l r0 r1 k0 k1) {b : Nat} (hb : PnIn a l r0 r1 b) : ∃ t m f, w.rowIs b t m f ∧ t ∈ ([76, 3] : List TypeId) := by
  rcases h with rfl | ⟨R, m, f, rfl, hR, hm, hrow, hp⟩
  · rcases hb with ⟨h, -⟩ | ⟨j, c, hj, -⟩
    · simp at h
    · simp at hj
  · rcases hb with ⟨-, o, s, e⟩ | ⟨j, c, hj, hb⟩
    · simp only [Option.some.injEq, Addr.mk.injEq] at e
      obtain ⟨rfl, -⟩ := e
      exact ⟨_, m, f, hrow, by simp⟩
    · obtain ⟨-, -, -, -, -, -, w0, -, w1⟩ := hp j c hj
      rcases hb with hb | hb
      · exact w0.typ (by simp) b hb
      · exact w1.typ (by simp) b hb

theorem PnIn_marked {a : Option Addr} {l : List Pn} {kk : Nat} {r0 r1 : Nat → Option Addr} {b : Nat} (h : PnIn a (PnMs l kk) r0 r1 b) : PnIn a l r0 r1 b := by
  rcases h with h | ⟨j, c, hj, h⟩
  · rw [PnMs_length] at h; exact .inl h
  · obtain ⟨d, hd, rfl⟩ := PnMs_get hj
    simp only [PnM_homes, PnM_steps] at h
    exact .inr ⟨j, d, hd, h⟩

theorem apart2 {w : World} {b : Nat} {t1 t2 : List TypeId} (h1 : ∃ t m f, w.rowIs b t m f ∧ t ∈ t1) (h2 : ∃ t m f, w.rowIs b t m f ∧ t ∈ t2) (hd : ∀ t ∈ t1, t ∉ t2) : False := by
  obtain ⟨x, _, _, r1, m1⟩ := h1
  obtain ⟨y, _, _, r2, m2⟩ := h2
  exact hd x m1 (row_type r1 r2 ▸ m2)

/-- It lies in memory from B on that may be written, all of it apart. -/
structure CtO (w : World) (B : Nat) (s : Ct) (a0 a1 : Option Addr) (r10 r11 : Nat → Option Addr) (k10 k11 : Nat → Nat) : Prop where
  brks : Brs w a0 s.brks
  brksR : RowBr w B a0 s.brks.length
  parts : PnO w B a1 s.parts r10 r11 k10 k11
  partsD : PnD a1 s.parts r10 r11

/-- Whose block it is. -/
def CtIn (a0 a1 : Option Addr) (s : Ct) (r10 r11 : Nat → Option Addr) (b : Nat) : Prop := InI a0 s.brks.length b ∨ PnIn a1 s.parts r10 r11 b

theorem CtO.below {w w' : World} {B : Nat} {s : Ct} {a0 a1 : Option Addr} {r10 r11 : Nat → Option Addr} {k10 k11 : Nat → Nat} (h : CtO w B s a0 a1 r10 r11 k10 k11) (hb : Below w.heap.size w w') : CtO w' B s a0 a1 r10 r11 k10 k11 :=
  ⟨h.brks.below hb, h.brksR.below hb, h.parts.below hb, h.partsD⟩

theorem CtO.lt {w : World} {B : Nat} {s : Ct} {a0 a1 : Option Addr} {r10 r11 : Nat → Option Addr} {k10 k11 : Nat → Nat} (h : CtO w B s a0 a1 r10 r11 k10 k11) {b : Nat} (hb : CtIn a0 a1 s r10 r11 b) : B ≤ b ∧ b < w.heap.size := by
  rcases hb with hb | hb
  · exact h.brksR.lt hb
  · exact h.parts.lt hb

theorem CtO.of_block {w w' : World} {B : Nat} {s : Ct} {a0 a1 : Option Addr} {r10 r11 : Nat → Option Addr} {k10 k11 : Nat → Nat} (h : CtO w B s a0 a1 r10 r11 k10 k11) (hs : ∀ b, CtIn a0 a1 s r10 r11 b → w'.heap[b]? = w.heap[b]?) : CtO w' B s a0 a1 r10 r11 k10 k11 :=
  ⟨h.brks.of_block fun b hb => hs b (.inl hb), h.brksR.of_block fun b hb => hs b (.inl hb), h.parts.of_block fun b hb => hs b (.inr (hb)), h.partsD⟩

structure CtS (s : Ct) : Prop where
  brks : s.brks.length ≤ 1000000
  parts : s.parts.length ≤ 1000000
  partsI : ∀ c, c ∈ s.parts → c.homes.length ≤ maxLen ∧ c.steps.length ≤ maxLen
  tot : ∀ k, k ≤ 1 → (PnK s.parts (k + 3 * s.brks.length) s.parts.length) ≤ 1000000000

theorem CtO.reads {w : World} {B : Nat} {s : Ct} {a0 a1 : Option Addr} {r10 r11 : Nat → Option Addr} {k10 k11 : Nat → Nat} (h : CtO w B s a0 a1 r10 r11 k10 k11) (hs : CtS s) : CtR w s a0 a1 :=
  ⟨h.brks, h.parts.reads hs.partsI⟩

/-- Marked from k on. -/
structure CtH (w : World) (B : Nat) (s : Ct) (k : Nat) (a0 a1 : Option Addr) (r10 r11 : Nat → Option Addr) (k10 k11 : Nat → Nat) : Prop where
  brks : Brs w a0 (BrMk k s.brks.length)
  parts : PnO w B a1 (PnMs s.parts (k + 3 * s.brks.length)) r10 r11 k10 k11

theorem CtH.below {w w' : World} {B : Nat} {s : Ct} {k : Nat} {a0 a1 : Option Addr} {r10 r11 : Nat → Option Addr} {k10 k11 : Nat → Nat} (h : CtH w B s k a0 a1 r10 r11 k10 k11) (hb : Below w.heap.size w w') : CtH w' B s k a0 a1 r10 r11 k10 k11 :=
  ⟨h.brks.below hb, h.parts.below hb⟩

set_option maxRecDepth 100000 in
set_option maxHeartbeats 8000000 in
theorem markControl_any (s : Ct) (k B : Nat) (a0 a1 : Option Addr) (c0 c1 : Nat) (r10 r11 : Nat → Option Addr) (k10 k11 : Nat → Nat) (w : World) (h : CtO w B s a0 a1 r10 r11 k10 k11) (hz : CtS s) (hk : k ≤ 1) (hBw : B ≤ w.heap.size) :
    Calls Try.prog 12 #[ctV s a0 c0 a1 c1, .int .i64 (k : Int)] w fun r w' => r = .returned (.int .i64 (((PnK s.parts (k + 3 * s.brks.length) s.parts.length) : Nat) : Int)) ∧ CtH w' B s k a0 a1 r10 r11 k10 k11 ∧ Below B w w' ∧ ∀ b, b < w.heap.size → ¬ CtIn a0 a1 s r10 r11 b → w'.heap[b]? = w.heap[b]? := by
  have tot := hz.tot k hk
  have l0 := hz.brks
  have g0 : k ≤ (k + 3 * s.brks.length) := by omega
  have l1 := hz.parts
  have g1 : (k + 3 * s.brks.length) ≤ (PnK s.parts (k + 3 * s.brks.length) s.parts.length) := PnK_mono s.parts (k + 3 * s.brks.length) 0 s.parts.length (Nat.zero_le _)
  have hlt : ∀ b, CtIn a0 a1 s r10 r11 b → b < w.heap.size := fun b hb => (h.lt hb).2
  obtain ⟨u0, hu0⟩ : ∃ u0, (w.alloc (.cells #[.slice a0 s.brks.length c0, .slice a1 s.parts.length c1, .int .i64 s.next] 25)) = u0 := ⟨_, rfl⟩
  have p0 : u0.cell? ⟨w.heap.size, 0, none⟩ = some (.slice a0 s.brks.length c0) := by rw [← hu0]; simp [go_sem]
  have p1 : u0.cell? ⟨w.heap.size, 1, none⟩ = some (.slice a1 s.parts.length c1) := by rw [← hu0]; simp [go_sem]
  have p2 : u0.cell? ⟨w.heap.size, 2, none⟩ = some (.int .i64 s.next) := by rw [← hu0]; simp [go_sem]
  have bB : Below w.heap.size w u0 := by rw [← hu0]; exact alCt _ _
  have z0 : w.heap.size < u0.heap.size := by rw [← hu0]; simp
  obtain ⟨h0, e0, h1, e1⟩ := h.below bB
  have BB : Below B w u0 := bB.mono hBw
  have HF : Hid (∀ b, b < w.heap.size → ¬ CtIn a0 a1 s r10 r11 b → u0.heap[b]? = w.heap[b]?) := fun b hb _ => bB.block b hb
  clear h
  go_enter Try.func12, Try.ntmps12
  go_wp2_with fail
  clear hu0
  have T1 : ∀ b, PnIn a1 s.parts r10 r11 b → ∃ t m f, u0.rowIs b t m f ∧ t ∈ ([76, 3] : List TypeId) := fun b hb => h1.typ hb
  have TB : ∀ b, InI a0 s.brks.length b → ∃ t m f, u0.rowIs b t m f ∧ t ∈ ([67] : List TypeId) := fun b hb => e0.typ (by simp) b hb
  refine (markBrokerS_any _ _ s.brks.length B k _ e0 (by omega)).mono ?_
  rintro r w1 ⟨rfl, M0, S0, hB, hO⟩
  replace p1 := (World.cell?_of_block (a := ⟨w.heap.size, 1, none⟩) (hO w.heap.size (lt_of_cell p1) (fun hb => Nat.lt_irrefl _ (hlt _ (.inl hb))))).trans p1
  replace p2 := (World.cell?_of_block (a := ⟨w.heap.size, 2, none⟩) (hO w.heap.size (lt_of_cell p2) (fun hb => Nat.lt_irrefl _ (hlt _ (.inl hb))))).trans p2
  replace h1 := h1.of_block (fun x hb => hO x (h1.lt hb).2 (fun hx => apart2 (T1 x hb) (TB x hx) (by decide)))
  have HF2 : Hid (∀ b, b < w.heap.size → ¬ CtIn a0 a1 s r10 r11 b → w1.heap[b]? = w.heap[b]?) := fun b hb hn => (hO b (by have := bB.size; omega) (fun hx => hn (.inl hx))).trans (HF.out b hb hn)
  replace HF := HF2
  replace BB := BB.trans hB
  have z1 : w.heap.size < w1.heap.size := by have := hB.size; omega
  clear hB hO HF2 TB T1
  go_wp2_with fail
  have TB : ∀ b, PnIn a1 s.parts r10 r11 b → ∃ t m f, w1.rowIs b t m f ∧ t ∈ ([76, 3] : List TypeId) := fun b hb => h1.typ hb
  refine (markPartitionS_any _ _ B (k + 3 * s.brks.length) s.parts r10 r11 k10 k11 _ h1 e1 l1 (by omega)).mono ?_
  rintro r w2 ⟨rfl, M1, hB, hO⟩
  replace p2 := (World.cell?_of_block (a := ⟨w.heap.size, 2, none⟩) (hO w.heap.size (lt_of_cell p2) (fun hb => Nat.lt_irrefl _ (hlt _ (.inr (hb)))))).trans p2
  replace M0 := M0.of_block (fun x hb => hO x (M0.lt x hb) (fun hx => apart2 (S0.typ (ts := [67]) (by simp) x (by rw [BrMk_length] at hb; exact hb)) (TB x hx) (by decide)))
  replace S0 := S0.of_block (fun x hb => hO x (S0.lt hb).2 (fun hx => apart2 (S0.typ (ts := [67]) (by simp) x hb) (TB x hx) (by decide)))
  have HF2 : Hid (∀ b, b < w.heap.size → ¬ CtIn a0 a1 s r10 r11 b → w2.heap[b]? = w.heap[b]?) := fun b hb hn => (hO b (by omega) (fun hx => hn (.inr (hx)))).trans (HF.out b hb hn)
  replace HF := HF2
  replace BB := BB.trans hB
  have z2 : w.heap.size < w2.heap.size := by have := hB.size; omega
  clear hB hO HF2 TB 
  have HH : Hid (CtH w2 B s k a0 a1 r10 r11 k10 k11) := ⟨M0, M1⟩
  clear M0 M1
  go_wp2
  go_ret
  exact ⟨rfl, HH.out, BB, HF.out⟩

set_option maxRecDepth 100000 in
set_option maxHeartbeats 8000000 in
theorem heldControl_any (s : Ct) (k B : Nat) (a0 a1 : Option Addr) (c0 c1 : Nat) (r10 r11 : Nat → Option Addr) (k10 k11 : Nat → Nat) (w : World) (h : CtH w B s k a0 a1 r10 r11 k10 k11) (hz : CtS s) (hk : k ≤ 1) :
    Calls Try.prog 13 #[ctV s a0 c0 a1 c1, .int .i64 (k : Int)] w fun r w' => r = .returned (.int .i64 (((PnK s.parts (k + 3 * s.brks.length) s.parts.length) : Nat) : Int)) ∧ Below w.heap.size w w' := by
  have tot := hz.tot k hk
  have l0 := hz.brks
  have g0 : k ≤ (k + 3 * s.brks.length) := by omega
  have l1 := hz.parts
  have g1 : (k + 3 * s.brks.length) ≤ (PnK s.parts (k + 3 * s.brks.length) s.parts.length) := PnK_mono s.parts (k + 3 * s.brks.length) 0 s.parts.length (Nat.zero_le _)
  obtain ⟨u0, hu0⟩ : ∃ u0, (w.alloc (.cells #[.slice a0 s.brks.length c0, .slice a1 s.parts.length c1, .int .i64 s.next] 25)) = u0 := ⟨_, rfl⟩
  have p0 : u0.cell? ⟨w.heap.size, 0, none⟩ = some (.slice a0 s.brks.length c0) := by rw [← hu0]; simp [go_sem]
  have p1 : u0.cell? ⟨w.heap.size, 1, none⟩ = some (.slice a1 s.parts.length c1) := by rw [← hu0]; simp [go_sem]
  have p2 : u0.cell? ⟨w.heap.size, 2, none⟩ = some (.int .i64 s.next) := by rw [← hu0]; simp [go_sem]
  have bB : Below w.heap.size w u0 := by rw [← hu0]; exact alCt _ _
  obtain ⟨h0, h1⟩ := h.below bB
  clear h
  go_enter Try.func13, Try.ntmps13
  go_wp2_with fail
  clear hu0
  refine (heldBrokerS_any _ _ s.brks.length k _ h0 (by omega)).mono ?_
  rintro r w1 ⟨rfl, hw⟩
  rw [hw]
  clear hw w1
  have n0 : ¬ (((k + 3 * s.brks.length) : Nat) : Int) < 0 := by omega
  go_wp2_with fail
  refine (heldPartitionS_any _ _ B (k + 3 * s.brks.length) s.parts r10 r11 k10 k11 _ h1 (by omega) l1).mono ?_
  rintro r w2 ⟨rfl, hw⟩
  rw [hw]
  clear hw w2
  have n1 : ¬ (((PnK s.parts (k + 3 * s.brks.length) s.parts.length) : Nat) : Int) < 0 := by omega
  go_wp2
  go_ret
  exact ⟨rfl, bB⟩

end Go.Proofs.Ytfehndedkffpfaa
