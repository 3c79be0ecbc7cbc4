/-
  Cluster that a call owns, marked and held. Made by mkstrong.py.
-/
import Derived.Test.YtekjpbfmiebigaaDoorWkAid
import Derived.Test.YtekjpbfmiebigaaDoorClu
import Derived.Test.YtekjpbfmiebigaaDoorNdeM
import Derived.Test.YtekjpbfmiebigaaDoorRwiM
import Derived.Test.YtekjpbfmiebigaaDoorRwiW
namespace Go.Proofs.YtekjpbfmiebigaaDoor
open Go.RowKit

theorem NdO.typ {w : World} {B : Nat} {a : Option Addr} {l : List Nd} {r2 r3 r4 : Nat → Option Addr} {k2 k3 k4 : Nat → Nat} (h : NdO w B a l r2 r3 r4 k2 k3 k4) {b : Nat} (hb : NdIn a l r2 r3 r4 b) : ∃ t m f, w.rowIs b t m f ∧ t ∈ ([49, 3, 81] : List TypeId) := by
  rcases h with rfl | ⟨R, m, f, rfl, hR, hm, hrow, hp⟩
  · rcases hb with ⟨h, -⟩ | ⟨j, c, hj, -⟩
    · simp at h
    · simp at hj
  · rcases hb with ⟨-, o, s, e⟩ | ⟨j, c, hj, hb⟩
    · simp only [Option.some.injEq, Addr.mk.injEq] at e
      obtain ⟨rfl, -⟩ := e
      exact ⟨_, m, f, hrow, by simp⟩
    · obtain ⟨-, -, -, -, -, -, -, w2, -, w3, -, w4⟩ := hp j c hj
      rcases hb with hb | hb | hb
      · exact w2.typ (by simp) b hb
      · exact w3.typ (by simp) b hb
      · exact w4.typ (by simp) b hb

theorem NdIn_marked {a : Option Addr} {l : List Nd} {kk : Nat} {r2 r3 r4 : Nat → Option Addr} {b : Nat} (h : NdIn a (NdMs l kk) r2 r3 r4 b) : NdIn a l r2 r3 r4 b := by
  rcases h with h | ⟨j, c, hj, h⟩
  · rw [NdMs_length] at h; exact .inl h
  · obtain ⟨d, hd, rfl⟩ := NdMs_get hj
    simp only [NdM_steps, NdM_log, NdM_known] at h
    exact .inr ⟨j, d, hd, h⟩

theorem apart2 {w : World} {b : Nat} {t1 t2 : List TypeId} (h1 : ∃ t m f, w.rowIs b t m f ∧ t ∈ t1) (h2 : ∃ t m f, w.rowIs b t m f ∧ t ∈ t2) (hd : ∀ t ∈ t1, t ∉ t2) : False := by
  obtain ⟨x, _, _, r1, m1⟩ := h1
  obtain ⟨y, _, _, r2, m2⟩ := h2
  exact hd x m1 (row_type r1 r2 ▸ m2)

/-- It lies in memory from B on that may be written, all of it apart. -/
structure CuO (w : World) (B : Nat) (s : Cu) (a0 a1 a2 : Option Addr) (r12 r13 r14 : Nat → Option Addr) (k12 k13 k14 : Nat → Nat) : Prop where
  tst : Ints w a0 s.tst
  tstR : RowI w B a0 s.tst.length
  nodes : NdO w B a1 s.nodes r12 r13 r14 k12 k13 k14
  nodesD : NdD a1 s.nodes r12 r13 r14
  acked : Rws w a2 s.acked
  ackedR : RowRw w B a2 s.acked.length
  dj01 : ∀ x, InI a0 s.tst.length x → NdIn a1 s.nodes r12 r13 r14 x → False
  dj12 : ∀ x, NdIn a1 s.nodes r12 r13 r14 x → InI a2 s.acked.length x → False

/-- Whose block it is. -/
def CuIn (a0 a1 a2 : Option Addr) (s : Cu) (r12 r13 r14 : Nat → Option Addr) (b : Nat) : Prop := InI a0 s.tst.length b ∨ NdIn a1 s.nodes r12 r13 r14 b ∨ InI a2 s.acked.length b

theorem CuO.below {w w' : World} {B : Nat} {s : Cu} {a0 a1 a2 : Option Addr} {r12 r13 r14 : Nat → Option Addr} {k12 k13 k14 : Nat → Nat} (h : CuO w B s a0 a1 a2 r12 r13 r14 k12 k13 k14) (hb : Below w.heap.size w w') : CuO w' B s a0 a1 a2 r12 r13 r14 k12 k13 k14 :=
  ⟨h.tst.below hb, h.tstR.below hb, h.nodes.below hb, h.nodesD, h.acked.below hb, h.ackedR.below hb, h.dj01, h.dj12⟩

theorem CuO.lt {w : World} {B : Nat} {s : Cu} {a0 a1 a2 : Option Addr} {r12 r13 r14 : Nat → Option Addr} {k12 k13 k14 : Nat → Nat} (h : CuO w B s a0 a1 a2 r12 r13 r14 k12 k13 k14) {b : Nat} (hb : CuIn a0 a1 a2 s r12 r13 r14 b) : B ≤ b ∧ b < w.heap.size := by
  rcases hb with hb | hb | hb
  · exact h.tstR.lt hb
  · exact h.nodes.lt hb
  · exact h.ackedR.lt hb

theorem CuO.of_block {w w' : World} {B : Nat} {s : Cu} {a0 a1 a2 : Option Addr} {r12 r13 r14 : Nat → Option Addr} {k12 k13 k14 : Nat → Nat} (h : CuO w B s a0 a1 a2 r12 r13 r14 k12 k13 k14) (hs : ∀ b, CuIn a0 a1 a2 s r12 r13 r14 b → w'.heap[b]? = w.heap[b]?) : CuO w' B s a0 a1 a2 r12 r13 r14 k12 k13 k14 :=
  ⟨h.tst.of_block fun b hb => hs b (.inl hb), h.tstR.of_block fun b hb => hs b (.inl hb), h.nodes.of_block fun b hb => hs b (.inr (.inl hb)), h.nodesD, h.acked.of_block fun b hb => hs b (.inr (.inr (hb))), h.ackedR.of_block fun b hb => hs b (.inr (.inr (hb))), h.dj01, h.dj12⟩

structure CuS (s : Cu) : Prop where
  tst : s.tst.length ≤ 1000000
  nodes : s.nodes.length ≤ 1000000
  acked : s.acked.length ≤ 1000000
  nodesI : ∀ c, c ∈ s.nodes → c.steps.length ≤ maxLen ∧ c.log.length ≤ maxLen ∧ c.known.length ≤ maxLen
  tot : ∀ k, k ≤ 1 → ((NdK s.nodes (k + s.tst.length) s.nodes.length) + 2 * s.acked.length) ≤ 1000000000

theorem CuO.reads {w : World} {B : Nat} {s : Cu} {a0 a1 a2 : Option Addr} {r12 r13 r14 : Nat → Option Addr} {k12 k13 k14 : Nat → Nat} (h : CuO w B s a0 a1 a2 r12 r13 r14 k12 k13 k14) (hs : CuS s) : CuR w s a0 a1 a2 :=
  ⟨h.tst, h.nodes.reads hs.nodesI, h.acked⟩

/-- Marked from k on. -/
structure CuH (w : World) (B : Nat) (s : Cu) (k : Nat) (a0 a1 a2 : Option Addr) (r12 r13 r14 : Nat → Option Addr) (k12 k13 k14 : Nat → Nat) : Prop where
  tst : Ints w a0 (markZ k s.tst.length)
  nodes : NdO w B a1 (NdMs s.nodes (k + s.tst.length)) r12 r13 r14 k12 k13 k14
  acked : Rws w a2 (RwMk (NdK s.nodes (k + s.tst.length) s.nodes.length) s.acked.length)

theorem CuH.below {w w' : World} {B : Nat} {s : Cu} {k : Nat} {a0 a1 a2 : Option Addr} {r12 r13 r14 : Nat → Option Addr} {k12 k13 k14 : Nat → Nat} (h : CuH w B s k a0 a1 a2 r12 r13 r14 k12 k13 k14) (hb : Below w.heap.size w w') : CuH w' B s k a0 a1 a2 r12 r13 r14 k12 k13 k14 :=
  ⟨h.tst.below hb, h.nodes.below hb, h.acked.below hb⟩

theorem markView_in (e d : Int) (a : Option Addr) (c n B k : Nat) (w : World) (h : RowI w B a n) (hB : B ≤ w.heap.size) (h2 : k + n ≤ 1000000000) :
    Calls Tryd.prog 26 #[.agg #[.int .i64 e, .int .i64 d, .slice a n c], .int .i64 (k : Int)] w fun r w' => r = .returned (.int .i64 ((k + n : Nat) : Int)) ∧ Ints w' a (markZ k n) ∧ RowI w' B a n ∧ Below B w w' ∧ ∀ b, b < w.heap.size → ¬ InI a n b → w'.heap[b]? = w.heap[b]? := by
  have bB : ∀ o, Below w.heap.size w (w.alloc o) := fun o => (Below.refl _ _).alloc (Nat.le_refl _) o
  go_enter Tryd.func26, Tryd.ntmps26
  go_wp2_with fail
  refine (markIntS_any _ _ n B k _ (h.below (bB _)) h2).mono ?_
  rintro r w1 ⟨rfl, M, S, hb, hO⟩
  have X : Below B w w1 := ((bB _).mono hB).trans hb
  have Y : ∀ b, b < w.heap.size → ¬ InI a n b → w1.heap[b]? = w.heap[b]? := fun b hl hn => (hO b (by simp; omega) hn).trans ((bB _).block b hl)
  clear hb hO bB h
  go_wp2
  go_ret
  exact ⟨rfl, M, S, X, Y⟩

theorem heldView_in (e d : Int) (a : Option Addr) (c n k : Nat) (w : World) (h : Ints w a (markZ k n)) (h2 : k + n ≤ 1000000000) :
    Calls Tryd.prog 29 #[.agg #[.int .i64 e, .int .i64 d, .slice a n c], .int .i64 (k : Int)] w fun r w' => r = .returned (.int .i64 ((k + n : Nat) : Int)) ∧ Below w.heap.size w w' := by
  have bB : ∀ o, Below w.heap.size w (w.alloc o) := fun o => (Below.refl _ _).alloc (Nat.le_refl _) o
  have n0 : ¬ ((k + n : Nat) : Int) < 0 := by omega
  go_enter Tryd.func29, Tryd.ntmps29
  go_wp2_with fail
  refine (heldIntS_any _ _ n k _ (h.below (bB _)) h2).mono ?_
  rintro r w1 ⟨rfl, hw⟩
  rw [hw]
  clear hw w1 h
  go_wp2
  go_ret
  exact ⟨rfl, bB _⟩

set_option maxRecDepth 100000 in
set_option maxHeartbeats 8000000 in
theorem markCluster_any (s : Cu) (k B : Nat) (a0 a1 a2 : Option Addr) (c0 c1 c2 : Nat) (r12 r13 r14 : Nat → Option Addr) (k12 k13 k14 : Nat → Nat) (w : World) (h : CuO w B s a0 a1 a2 r12 r13 r14 k12 k13 k14) (hz : CuS s) (hk : k ≤ 1) (hBw : B ≤ w.heap.size) :
    Calls Tryd.prog 8 #[cuV s a0 c0 a1 c1 a2 c2, .int .i64 (k : Int)] w fun r w' => r = .returned (.int .i64 ((((NdK s.nodes (k + s.tst.length) s.nodes.length) + 2 * s.acked.length) : Nat) : Int)) ∧ CuH w' B s k a0 a1 a2 r12 r13 r14 k12 k13 k14 ∧ Below B w w' ∧ ∀ b, b < w.heap.size → ¬ CuIn a0 a1 a2 s r12 r13 r14 b → w'.heap[b]? = w.heap[b]? := by
  have tot := hz.tot k hk
  have l0 := hz.tst
  have g0 : k ≤ (k + s.tst.length) := by omega
  have l1 := hz.nodes
  have g1 : (k + s.tst.length) ≤ (NdK s.nodes (k + s.tst.length) s.nodes.length) := NdK_mono s.nodes (k + s.tst.length) 0 s.nodes.length (Nat.zero_le _)
  have l2 := hz.acked
  have g2 : (NdK s.nodes (k + s.tst.length) s.nodes.length) ≤ ((NdK s.nodes (k + s.tst.length) s.nodes.length) + 2 * s.acked.length) := by omega
  have hlt : ∀ b, CuIn a0 a1 a2 s r12 r13 r14 b → b < w.heap.size := fun b hb => (h.lt hb).2
  obtain ⟨u0, hu0⟩ : ∃ u0, (w.alloc (.cells #[.int .i64 s.tep, .int .i64 s.tld, .slice a0 s.tst.length c0, .slice a1 s.nodes.length c1, .slice a2 s.acked.length c2] 28)) = u0 := ⟨_, rfl⟩
  have p0 : u0.cell? ⟨w.heap.size, 0, none⟩ = some (.int .i64 s.tep) := by rw [← hu0]; simp [go_sem]
  have p1 : u0.cell? ⟨w.heap.size, 1, none⟩ = some (.int .i64 s.tld) := by rw [← hu0]; simp [go_sem]
  have p2 : u0.cell? ⟨w.heap.size, 2, none⟩ = some (.slice a0 s.tst.length c0) := by rw [← hu0]; simp [go_sem]
  have p3 : u0.cell? ⟨w.heap.size, 3, none⟩ = some (.slice a1 s.nodes.length c1) := by rw [← hu0]; simp [go_sem]
  have p4 : u0.cell? ⟨w.heap.size, 4, none⟩ = some (.slice a2 s.acked.length c2) := by rw [← hu0]; simp [go_sem]
  have bB : Below w.heap.size w u0 := by rw [← hu0]; exact alCu _ _
  have z0 : w.heap.size < u0.heap.size := by rw [← hu0]; simp
  obtain ⟨h0, e0, h1, e1, h2, e2, d01, d12⟩ := h.below bB
  have HD01 : Hid (∀ x, InI a0 s.tst.length x → NdIn a1 s.nodes r12 r13 r14 x → False) := d01
  clear d01
  have HD12 : Hid (∀ x, NdIn a1 s.nodes r12 r13 r14 x → InI a2 s.acked.length x → False) := d12
  clear d12
  have BB : Below B w u0 := bB.mono hBw
  have HF : Hid (∀ b, b < w.heap.size → ¬ CuIn a0 a1 a2 s r12 r13 r14 b → u0.heap[b]? = w.heap[b]?) := fun b hb _ => bB.block b hb
  clear h
  go_enter Tryd.func8, Tryd.ntmps8
  go_wp2_with fail
  clear hu0
  have T1 : ∀ b, NdIn a1 s.nodes r12 r13 r14 b → ∃ t m f, u0.rowIs b t m f ∧ t ∈ ([49, 3, 81] : List TypeId) := fun b hb => h1.typ hb
  have T2 : ∀ b, InI a2 s.acked.length b → ∃ t m f, u0.rowIs b t m f ∧ t ∈ ([81] : List TypeId) := fun b hb => e2.typ (by simp) b hb
  have TB : ∀ b, InI a0 s.tst.length b → ∃ t m f, u0.rowIs b t m f ∧ t ∈ ([3] : List TypeId) := fun b hb => e0.typ (by simp) b hb
  refine (markView_in s.tep s.tld a0 c0 s.tst.length B k _ e0 (by omega) (by omega)).mono ?_
  rintro r w1 ⟨rfl, M0, S0, hB, hO⟩
  replace p3 := (World.cell?_of_block (a := ⟨w.heap.size, 3, none⟩) (hO w.heap.size z0 (fun hb => Nat.lt_irrefl _ (hlt _ (.inl hb))))).trans p3
  replace p4 := (World.cell?_of_block (a := ⟨w.heap.size, 4, none⟩) (hO w.heap.size z0 (fun hb => Nat.lt_irrefl _ (hlt _ (.inl hb))))).trans p4
  replace h1 := h1.of_block (fun x hb => hO x (h1.lt hb).2 (fun hx => HD01.out x hx hb))
  replace h2 := h2.of_block (fun x hb => hO x (h2.lt x hb) (fun hx => apart2 (T2 x hb) (TB x hx) (by decide)))
  replace e2 := e2.of_block (fun x hb => hO x (e2.lt hb).2 (fun hx => apart2 (T2 x hb) (TB x hx) (by decide)))
  have HF2 : Hid (∀ b, b < w.heap.size → ¬ CuIn a0 a1 a2 s r12 r13 r14 b → w1.heap[b]? = w.heap[b]?) := fun b hb hn => (hO b (by have := bB.size; omega) (fun hx => hn (.inl hx))).trans (HF.out b hb hn)
  replace HF := HF2
  replace BB := BB.trans hB
  have z1 : w.heap.size < w1.heap.size := by have := hB.size; omega
  clear hB hO HF2 TB T1 T2
  go_wp2_with fail
  have T2 : ∀ b, InI a2 s.acked.length b → ∃ t m f, w1.rowIs b t m f ∧ t ∈ ([81] : List TypeId) := fun b hb => e2.typ (by simp) b hb
  have TB : ∀ b, NdIn a1 s.nodes r12 r13 r14 b → ∃ t m f, w1.rowIs b t m f ∧ t ∈ ([49, 3, 81] : List TypeId) := fun b hb => h1.typ hb
  refine (markNodeS_any _ _ B (k + s.tst.length) s.nodes r12 r13 r14 k12 k13 k14 _ h1 e1 l1 (by omega)).mono ?_
  rintro r w2 ⟨rfl, M1, hB, hO⟩
  replace p4 := (World.cell?_of_block (a := ⟨w.heap.size, 4, none⟩) (hO w.heap.size (lt_of_cell p4) (fun hb => Nat.lt_irrefl _ (hlt _ (.inr (.inl hb)))))).trans p4
  replace M0 := M0.of_block (fun x hb => hO x (M0.lt x hb) (fun hx => HD01.out x (by rw [markZ_length] at hb; exact hb) hx))
  replace S0 := S0.of_block (fun x hb => hO x (S0.lt hb).2 (fun hx => HD01.out x hb hx))
  replace h2 := h2.of_block (fun x hb => hO x (h2.lt x hb) (fun hx => HD12.out x hx hb))
  replace e2 := e2.of_block (fun x hb => hO x (e2.lt hb).2 (fun hx => HD12.out x hx hb))
  have HF2 : Hid (∀ b, b < w.heap.size → ¬ CuIn a0 a1 a2 s r12 r13 r14 b → w2.heap[b]? = w.heap[b]?) := fun b hb hn => (hO b (by omega) (fun hx => hn (.inr (.inl hx)))).trans (HF.out b hb hn)
  replace HF := HF2
  replace BB := BB.trans hB
  have z2 : w.heap.size < w2.heap.size := by have := hB.size; omega
  clear hB hO HF2 TB T2
  go_wp2_with fail
  have TB : ∀ b, InI a2 s.acked.length b → ∃ t m f, w2.rowIs b t m f ∧ t ∈ ([81] : List TypeId) := fun b hb => e2.typ (by simp) b hb
  refine (markRowS_any _ _ s.acked.length B (NdK s.nodes (k + s.tst.length) s.nodes.length) _ e2 (by omega)).mono ?_
  rintro r w3 ⟨rfl, M2, S2, hB, hO⟩
  replace M0 := M0.of_block (fun x hb => hO x (M0.lt x hb) (fun hx => apart2 (S0.typ (ts := [3]) (by simp) x (by rw [markZ_length] at hb; exact hb)) (TB x hx) (by decide)))
  replace S0 := S0.of_block (fun x hb => hO x (S0.lt hb).2 (fun hx => apart2 (S0.typ (ts := [3]) (by simp) x hb) (TB x hx) (by decide)))
  replace M1 := M1.of_block (fun x hb => hO x (M1.lt hb).2 (fun hx => HD12.out x (NdIn_marked hb) hx))
  have HF2 : Hid (∀ b, b < w.heap.size → ¬ CuIn a0 a1 a2 s r12 r13 r14 b → w3.heap[b]? = w.heap[b]?) := fun b hb hn => (hO b (by omega) (fun hx => hn (.inr (.inr (hx))))).trans (HF.out b hb hn)
  replace HF := HF2
  replace BB := BB.trans hB
  have z3 : w.heap.size < w3.heap.size := by have := hB.size; omega
  clear hB hO HF2 TB 
  have HH : Hid (CuH w3 B s k a0 a1 a2 r12 r13 r14 k12 k13 k14) := ⟨M0, M1, M2⟩
  clear M0 M1 M2
  go_wp2
  go_ret
  exact ⟨rfl, HH.out, BB, HF.out⟩

set_option maxRecDepth 100000 in
set_option maxHeartbeats 8000000 in
theorem heldCluster_any (s : Cu) (k B : Nat) (a0 a1 a2 : Option Addr) (c0 c1 c2 : Nat) (r12 r13 r14 : Nat → Option Addr) (k12 k13 k14 : Nat → Nat) (w : World) (h : CuH w B s k a0 a1 a2 r12 r13 r14 k12 k13 k14) (hz : CuS s) (hk : k ≤ 1) :
    Calls Tryd.prog 9 #[cuV s a0 c0 a1 c1 a2 c2, .int .i64 (k : Int)] w fun r w' => r = .returned (.int .i64 ((((NdK s.nodes (k + s.tst.length) s.nodes.length) + 2 * s.acked.length) : Nat) : Int)) ∧ Below w.heap.size w w' := by
  have tot := hz.tot k hk
  have l0 := hz.tst
  have g0 : k ≤ (k + s.tst.length) := by omega
  have l1 := hz.nodes
  have g1 : (k + s.tst.length) ≤ (NdK s.nodes (k + s.tst.length) s.nodes.length) := NdK_mono s.nodes (k + s.tst.length) 0 s.nodes.length (Nat.zero_le _)
  have l2 := hz.acked
  have g2 : (NdK s.nodes (k + s.tst.length) s.nodes.length) ≤ ((NdK s.nodes (k + s.tst.length) s.nodes.length) + 2 * s.acked.length) := by omega
  obtain ⟨u0, hu0⟩ : ∃ u0, (w.alloc (.cells #[.int .i64 s.tep, .int .i64 s.tld, .slice a0 s.tst.length c0, .slice a1 s.nodes.length c1, .slice a2 s.acked.length c2] 28)) = u0 := ⟨_, rfl⟩
  have p0 : u0.cell? ⟨w.heap.size, 0, none⟩ = some (.int .i64 s.tep) := by rw [← hu0]; simp [go_sem]
  have p1 : u0.cell? ⟨w.heap.size, 1, none⟩ = some (.int .i64 s.tld) := by rw [← hu0]; simp [go_sem]
  have p2 : u0.cell? ⟨w.heap.size, 2, none⟩ = some (.slice a0 s.tst.length c0) := by rw [← hu0]; simp [go_sem]
  have p3 : u0.cell? ⟨w.heap.size, 3, none⟩ = some (.slice a1 s.nodes.length c1) := by rw [← hu0]; simp [go_sem]
  have p4 : u0.cell? ⟨w.heap.size, 4, none⟩ = some (.slice a2 s.acked.length c2) := by rw [← hu0]; simp [go_sem]
  have bB : Below w.heap.size w u0 := by rw [← hu0]; exact alCu _ _
  obtain ⟨h0, h1, h2⟩ := h.below bB
  clear h
  go_enter Tryd.func9, Tryd.ntmps9
  go_wp2_with fail
  clear hu0
  refine (heldView_in s.tep s.tld a0 c0 s.tst.length k _ h0 (by omega)).mono ?_
  rintro r u1 ⟨rfl, hb⟩
  replace p3 := celB hb p3
  replace p4 := celB hb p4
  replace h1 := h1.below hb
  replace h2 := h2.below hb
  replace bB : Below w.heap.size w u1 := bB.trans (hb.mono bB.size)
  clear hb h0
  have n0 : ¬ (((k + s.tst.length) : Nat) : Int) < 0 := by omega
  go_wp2_with fail
  refine (heldNodeS_any _ _ B (k + s.tst.length) s.nodes r12 r13 r14 k12 k13 k14 _ h1 (by omega) l1).mono ?_
  rintro r w2 ⟨rfl, hw⟩
  rw [hw]
  clear hw w2
  have n1 : ¬ (((NdK s.nodes (k + s.tst.length) s.nodes.length) : Nat) : Int) < 0 := by omega
  go_wp2_with fail
  refine (heldRowS_any _ _ s.acked.length (NdK s.nodes (k + s.tst.length) s.nodes.length) _ h2 (by omega)).mono ?_
  rintro r w3 ⟨rfl, hw⟩
  rw [hw]
  clear hw w3
  have n2 : ¬ ((((NdK s.nodes (k + s.tst.length) s.nodes.length) + 2 * s.acked.length) : Nat) : Int) < 0 := by omega
  go_wp2
  go_ret
  exact ⟨rfl, bB⟩

end Go.Proofs.YtekjpbfmiebigaaDoor
