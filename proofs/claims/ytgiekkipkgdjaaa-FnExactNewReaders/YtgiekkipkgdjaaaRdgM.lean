/-
  Readers that a call owns, marked and held. Made by mkstrong.py.
-/
import Derived.Test.YtgiekkipkgdjaaaWkAid
import Derived.Test.YtgiekkipkgdjaaaRdg
import Derived.Test.YtgiekkipkgdjaaaRdrM
namespace Go.Proofs.Ytgiekkipkgdjaaa
open Go.RowKit

theorem RxO.typ {w : World} {B : Nat} {a : Option Addr} {l : List Rx} {r2 r3 : Nat → Option Addr} {k2 k3 : Nat → Nat} (h : RxO w B a l r2 r3 k2 k3) {b : Nat} (hb : RxIn a l r2 r3 b) : ∃ t m f, w.rowIs b t m f ∧ t ∈ ([67, 3] : List TypeId) := by
  rcases h with rfl | ⟨R, m, f, rfl, hR, hm, hrow, hp⟩
  · rcases hb with ⟨h, -⟩ | ⟨j, c, hj, -⟩
    · simp at h
    · simp at hj
  · rcases hb with ⟨-, o, s, e⟩ | ⟨j, c, hj, hb⟩
    · simp only [Option.some.injEq, Addr.mk.injEq] at e
      obtain ⟨rfl, -⟩ := e
      exact ⟨_, m, f, hrow, by simp⟩
    · obtain ⟨-, -, -, -, -, w2, -, w3⟩ := hp j c hj
      rcases hb with hb | hb
      · exact w2.typ (by simp) b hb
      · exact w3.typ (by simp) b hb

theorem RxIn_marked {a : Option Addr} {l : List Rx} {kk : Nat} {r2 r3 : Nat → Option Addr} {b : Nat} (h : RxIn a (RxMs l kk) r2 r3 b) : RxIn a l r2 r3 b := by
  rcases h with h | ⟨j, c, hj, h⟩
  · rw [RxMs_length] at h; exact .inl h
  · obtain ⟨d, hd, rfl⟩ := RxMs_get hj
    simp only [RxM_share, RxM_read] at h
    exact .inr ⟨j, d, hd, h⟩

theorem apart2 {w : World} {b : Nat} {t1 t2 : List TypeId} (h1 : ∃ t m f, w.rowIs b t m f ∧ t ∈ t1) (h2 : ∃ t m f, w.rowIs b t m f ∧ t ∈ t2) (hd : ∀ t ∈ t1, t ∉ t2) : False := by
  obtain ⟨x, _, _, r1, m1⟩ := h1
  obtain ⟨y, _, _, r2, m2⟩ := h2
  exact hd x m1 (row_type r1 r2 ▸ m2)

/-- It lies in memory from B on that may be written, all of it apart. -/
structure RgO (w : World) (B : Nat) (s : Rg) (a0 a1 a2 : Option Addr) (r02 r03 : Nat → Option Addr) (k02 k03 : Nat → Nat) : Prop where
  rds : RxO w B a0 s.rds r02 r03 k02 k03
  rdsD : RxD a0 s.rds r02 r03
  com : Ints w a1 s.com
  comR : RowI w B a1 s.com.length
  ends : Ints w a2 s.ends
  endsR : RowI w B a2 s.ends.length
  dj01 : ∀ x, RxIn a0 s.rds r02 r03 x → InI a1 s.com.length x → False
  dj02 : ∀ x, RxIn a0 s.rds r02 r03 x → InI a2 s.ends.length x → False
  dj12 : ∀ x, InI a1 s.com.length x → InI a2 s.ends.length x → False

/-- Whose block it is. -/
def RgIn (a0 a1 a2 : Option Addr) (s : Rg) (r02 r03 : Nat → Option Addr) (b : Nat) : Prop := RxIn a0 s.rds r02 r03 b ∨ InI a1 s.com.length b ∨ InI a2 s.ends.length b

theorem RgO.below {w w' : World} {B : Nat} {s : Rg} {a0 a1 a2 : Option Addr} {r02 r03 : Nat → Option Addr} {k02 k03 : Nat → Nat} (h : RgO w B s a0 a1 a2 r02 r03 k02 k03) (hb : Below w.heap.size w w') : RgO w' B s a0 a1 a2 r02 r03 k02 k03 :=
  ⟨h.rds.below hb, h.rdsD, h.com.below hb, h.comR.below hb, h.ends.below hb, h.endsR.below hb, h.dj01, h.dj02, h.dj12⟩

theorem RgO.lt {w : World} {B : Nat} {s : Rg} {a0 a1 a2 : Option Addr} {r02 r03 : Nat → Option Addr} {k02 k03 : Nat → Nat} (h : RgO w B s a0 a1 a2 r02 r03 k02 k03) {b : Nat} (hb : RgIn a0 a1 a2 s r02 r03 b) : B ≤ b ∧ b < w.heap.size := by
  rcases hb with hb | hb | hb
  · exact h.rds.lt hb
  · exact h.comR.lt hb
  · exact h.endsR.lt hb

theorem RgO.of_block {w w' : World} {B : Nat} {s : Rg} {a0 a1 a2 : Option Addr} {r02 r03 : Nat → Option Addr} {k02 k03 : Nat → Nat} (h : RgO w B s a0 a1 a2 r02 r03 k02 k03) (hs : ∀ b, RgIn a0 a1 a2 s r02 r03 b → w'.heap[b]? = w.heap[b]?) : RgO w' B s a0 a1 a2 r02 r03 k02 k03 :=
  ⟨h.rds.of_block fun b hb => hs b (.inl hb), h.rdsD, h.com.of_block fun b hb => hs b (.inr (.inl hb)), h.comR.of_block fun b hb => hs b (.inr (.inl hb)), h.ends.of_block fun b hb => hs b (.inr (.inr (hb))), h.endsR.of_block fun b hb => hs b (.inr (.inr (hb))), h.dj01, h.dj02, h.dj12⟩

structure RgS (s : Rg) : Prop where
  rds : s.rds.length ≤ 1000000
  com : s.com.length ≤ 1000000
  ends : s.ends.length ≤ 1000000
  rdsI : ∀ c, c ∈ s.rds → c.share.length ≤ maxLen ∧ c.read.length ≤ maxLen
  tot : ∀ k, k ≤ 1 → (((RxK s.rds k s.rds.length) + s.com.length) + s.ends.length) ≤ 1000000000

theorem RgO.reads {w : World} {B : Nat} {s : Rg} {a0 a1 a2 : Option Addr} {r02 r03 : Nat → Option Addr} {k02 k03 : Nat → Nat} (h : RgO w B s a0 a1 a2 r02 r03 k02 k03) (hs : RgS s) : RgR w s a0 a1 a2 :=
  ⟨h.rds.reads hs.rdsI, h.com, h.ends⟩

/-- Marked from k on. -/
structure RgH (w : World) (B : Nat) (s : Rg) (k : Nat) (a0 a1 a2 : Option Addr) (r02 r03 : Nat → Option Addr) (k02 k03 : Nat → Nat) : Prop where
  rds : RxO w B a0 (RxMs s.rds k) r02 r03 k02 k03
  com : Ints w a1 (markZ (RxK s.rds k s.rds.length) s.com.length)
  ends : Ints w a2 (markZ ((RxK s.rds k s.rds.length) + s.com.length) s.ends.length)

theorem RgH.below {w w' : World} {B : Nat} {s : Rg} {k : Nat} {a0 a1 a2 : Option Addr} {r02 r03 : Nat → Option Addr} {k02 k03 : Nat → Nat} (h : RgH w B s k a0 a1 a2 r02 r03 k02 k03) (hb : Below w.heap.size w w') : RgH w' B s k a0 a1 a2 r02 r03 k02 k03 :=
  ⟨h.rds.below hb, h.com.below hb, h.ends.below hb⟩

set_option maxRecDepth 100000 in
set_option maxHeartbeats 8000000 in
theorem markReaders_any (s : Rg) (k B : Nat) (a0 a1 a2 : Option Addr) (c0 c1 c2 : Nat) (r02 r03 : Nat → Option Addr) (k02 k03 : Nat → Nat) (w : World) (h : RgO w B s a0 a1 a2 r02 r03 k02 k03) (hz : RgS s) (hk : k ≤ 1) (hBw : B ≤ w.heap.size) :
    Calls Try.prog 16 #[rgV s a0 c0 a1 c1 a2 c2, .int .i64 (k : Int)] w fun r w' => r = .returned (.int .i64 (((((RxK s.rds k s.rds.length) + s.com.length) + s.ends.length) : Nat) : Int)) ∧ RgH w' B s k a0 a1 a2 r02 r03 k02 k03 ∧ Below B w w' ∧ ∀ b, b < w.heap.size → ¬ RgIn a0 a1 a2 s r02 r03 b → w'.heap[b]? = w.heap[b]? := by
  have tot := hz.tot k hk
  have l0 := hz.rds
  have g0 : k ≤ (RxK s.rds k s.rds.length) := RxK_mono s.rds k 0 s.rds.length (Nat.zero_le _)
  have l1 := hz.com
  have g1 : (RxK s.rds k s.rds.length) ≤ ((RxK s.rds k s.rds.length) + s.com.length) := by omega
  have l2 := hz.ends
  have g2 : ((RxK s.rds k s.rds.length) + s.com.length) ≤ (((RxK s.rds k s.rds.length) + s.com.length) + s.ends.length) := by omega
  have hlt : ∀ b, RgIn a0 a1 a2 s r02 r03 b → b < w.heap.size := fun b hb => (h.lt hb).2
  obtain ⟨u0, hu0⟩ : ∃ u0, (w.alloc (.cells #[.int .i64 s.gen, .slice a0 s.rds.length c0, .slice a1 s.com.length c1, .slice a2 s.ends.length c2] 25)) = u0 := ⟨_, rfl⟩
  have p0 : u0.cell? ⟨w.heap.size, 0, none⟩ = some (.int .i64 s.gen) := by rw [← hu0]; simp [go_sem]
  have p1 : u0.cell? ⟨w.heap.size, 1, none⟩ = some (.slice a0 s.rds.length c0) := by rw [← hu0]; simp [go_sem]
  have p2 : u0.cell? ⟨w.heap.size, 2, none⟩ = some (.slice a1 s.com.length c1) := by rw [← hu0]; simp [go_sem]
  have p3 : u0.cell? ⟨w.heap.size, 3, none⟩ = some (.slice a2 s.ends.length c2) := by rw [← hu0]; simp [go_sem]
  have bB : Below w.heap.size w u0 := by rw [← hu0]; exact alRg _ _
  have z0 : w.heap.size < u0.heap.size := by rw [← hu0]; simp
  obtain ⟨h0, e0, h1, e1, h2, e2, d01, d02, d12⟩ := h.below bB
  have HD01 : Hid (∀ x, RxIn a0 s.rds r02 r03 x → InI a1 s.com.length x → False) := d01
  clear d01
  have HD02 : Hid (∀ x, RxIn a0 s.rds r02 r03 x → InI a2 s.ends.length x → False) := d02
  clear d02
  have HD12 : Hid (∀ x, InI a1 s.com.length x → InI a2 s.ends.length x → False) := d12
  clear d12
  have BB : Below B w u0 := bB.mono hBw
  have HF : Hid (∀ b, b < w.heap.size → ¬ RgIn a0 a1 a2 s r02 r03 b → u0.heap[b]? = w.heap[b]?) := fun b hb _ => bB.block b hb
  clear h
  go_enter Try.func16, Try.ntmps16
  go_wp2_with fail
  clear hu0
  have T1 : ∀ b, InI a1 s.com.length b → ∃ t m f, u0.rowIs b t m f ∧ t ∈ ([3] : List TypeId) := fun b hb => e1.typ (by simp) b hb
  have T2 : ∀ b, InI a2 s.ends.length b → ∃ t m f, u0.rowIs b t m f ∧ t ∈ ([3] : List TypeId) := fun b hb => e2.typ (by simp) b hb
  have TB : ∀ b, RxIn a0 s.rds r02 r03 b → ∃ t m f, u0.rowIs b t m f ∧ t ∈ ([67, 3] : List TypeId) := fun b hb => h0.typ hb
  refine (markReaderS_any _ _ B k s.rds r02 r03 k02 k03 _ h0 e0 l0 (by omega)).mono ?_
  rintro r w1 ⟨rfl, M0, hB, hO⟩
  replace p2 := (World.cell?_of_block (a := ⟨w.heap.size, 2, none⟩) (hO w.heap.size (lt_of_cell p2) (fun hb => Nat.lt_irrefl _ (hlt _ (.inl hb))))).trans p2
  replace p3 := (World.cell?_of_block (a := ⟨w.heap.size, 3, none⟩) (hO w.heap.size (lt_of_cell p3) (fun hb => Nat.lt_irrefl _ (hlt _ (.inl hb))))).trans p3
  replace h1 := h1.of_block (fun x hb => hO x (h1.lt x hb) (fun hx => HD01.out x hx hb))
  replace e1 := e1.of_block (fun x hb => hO x (e1.lt hb).2 (fun hx => HD01.out x hx hb))
  replace h2 := h2.of_block (fun x hb => hO x (h2.lt x hb) (fun hx => HD02.out x hx hb))
  replace e2 := e2.of_block (fun x hb => hO x (e2.lt hb).2 (fun hx => HD02.out x hx hb))
  have HF2 : Hid (∀ b, b < w.heap.size → ¬ RgIn a0 a1 a2 s r02 r03 b → w1.heap[b]? = w.heap[b]?) := fun b hb hn => (hO b (by have := bB.size; omega) (fun hx => hn (.inl hx))).trans (HF.out b hb hn)
  replace HF := HF2
  replace BB := BB.trans hB
  have z1 : w.heap.size < w1.heap.size := by have := hB.size; omega
  clear hB hO HF2 TB T1 T2
  go_wp2_with fail
  have T2 : ∀ b, InI a2 s.ends.length b → ∃ t m f, w1.rowIs b t m f ∧ t ∈ ([3] : List TypeId) := fun b hb => e2.typ (by simp) b hb
  have TB : ∀ b, InI a1 s.com.length b → ∃ t m f, w1.rowIs b t m f ∧ t ∈ ([3] : List TypeId) := fun b hb => e1.typ (by simp) b hb
  refine (markIntS_any _ _ s.com.length B (RxK s.rds k s.rds.length) _ e1 (by omega)).mono ?_
  rintro r w2 ⟨rfl, M1, S1, hB, hO⟩
  replace p3 := (World.cell?_of_block (a := ⟨w.heap.size, 3, none⟩) (hO w.heap.size (lt_of_cell p3) (fun hb => Nat.lt_irrefl _ (hlt _ (.inr (.inl hb)))))).trans p3
  replace M0 := M0.of_block (fun x hb => hO x (M0.lt hb).2 (fun hx => HD01.out x (RxIn_marked hb) hx))
  replace h2 := h2.of_block (fun x hb => hO x (h2.lt x hb) (fun hx => HD12.out x hx hb))
  replace e2 := e2.of_block (fun x hb => hO x (e2.lt hb).2 (fun hx => HD12.out x hx hb))
  have HF2 : Hid (∀ b, b < w.heap.size → ¬ RgIn a0 a1 a2 s r02 r03 b → w2.heap[b]? = w.heap[b]?) := fun b hb hn => (hO b (by omega) (fun hx => hn (.inr (.inl hx)))).trans (HF.out b hb hn)
  replace HF := HF2
  replace BB := BB.trans hB
  have z2 : w.heap.size < w2.heap.size := by have := hB.size; omega
  clear hB hO HF2 TB T2
  go_wp2_with fail
  have TB : ∀ b, InI a2 s.ends.length b → ∃ t m f, w2.rowIs b t m f ∧ t ∈ ([3] : List TypeId) := fun b hb => e2.typ (by simp) b hb
  refine (markIntS_any _ _ s.ends.length B ((RxK s.rds k s.rds.length) + s.com.length) _ e2 (by omega)).mono ?_
  rintro r w3 ⟨rfl, M2, S2, hB, hO⟩
  replace M0 := M0.of_block (fun x hb => hO x (M0.lt hb).2 (fun hx => HD02.out x (RxIn_marked hb) hx))
  replace M1 := M1.of_block (fun x hb => hO x (M1.lt x hb) (fun hx => HD12.out x (by rw [markZ_length] at hb; exact hb) hx))
  replace S1 := S1.of_block (fun x hb => hO x (S1.lt hb).2 (fun hx => HD12.out x hb hx))
  have HF2 : Hid (∀ b, b < w.heap.size → ¬ RgIn a0 a1 a2 s r02 r03 b → w3.heap[b]? = w.heap[b]?) := fun b hb hn => (hO b (by omega) (fun hx => hn (.inr (.inr (hx))))).trans (HF.out b hb hn)
  replace HF := HF2
  replace BB := BB.trans hB
  have z3 : w.heap.size < w3.heap.size := by have := hB.size; omega
  clear hB hO HF2 TB 
  have HH : Hid (RgH w3 B s k a0 a1 a2 r02 r03 k02 k03) := ⟨M0, M1, M2⟩
  clear M0 M1 M2
  go_wp2
  go_ret
  exact ⟨rfl, HH.out, BB, HF.out⟩

set_option maxRecDepth 100000 in
set_option maxHeartbeats 8000000 in
theorem heldReaders_any (s : Rg) (k B : Nat) (a0 a1 a2 : Option Addr) (c0 c1 c2 : Nat) (r02 r03 : Nat → Option Addr) (k02 k03 : Nat → Nat) (w : World) (h : RgH w B s k a0 a1 a2 r02 r03 k02 k03) (hz : RgS s) (hk : k ≤ 1) :
    Calls Try.prog 17 #[rgV s a0 c0 a1 c1 a2 c2, .int .i64 (k : Int)] w fun r w' => r = .returned (.int .i64 (((((RxK s.rds k s.rds.length) + s.com.length) + s.ends.length) : Nat) : Int)) ∧ Below w.heap.size w w' := by
  have tot := hz.tot k hk
  have l0 := hz.rds
  have g0 : k ≤ (RxK s.rds k s.rds.length) := RxK_mono s.rds k 0 s.rds.length (Nat.zero_le _)
  have l1 := hz.com
  have g1 : (RxK s.rds k s.rds.length) ≤ ((RxK s.rds k s.rds.length) + s.com.length) := by omega
  have l2 := hz.ends
  have g2 : ((RxK s.rds k s.rds.length) + s.com.length) ≤ (((RxK s.rds k s.rds.length) + s.com.length) + s.ends.length) := by omega
  obtain ⟨u0, hu0⟩ : ∃ u0, (w.alloc (.cells #[.int .i64 s.gen, .slice a0 s.rds.length c0, .slice a1 s.com.length c1, .slice a2 s.ends.length c2] 25)) = u0 := ⟨_, rfl⟩
  have p0 : u0.cell? ⟨w.heap.size, 0, none⟩ = some (.int .i64 s.gen) := by rw [← hu0]; simp [go_sem]
  have p1 : u0.cell? ⟨w.heap.size, 1, none⟩ = some (.slice a0 s.rds.length c0) := by rw [← hu0]; simp [go_sem]
  have p2 : u0.cell? ⟨w.heap.size, 2, none⟩ = some (.slice a1 s.com.length c1) := by rw [← hu0]; simp [go_sem]
  have p3 : u0.cell? ⟨w.heap.size, 3, none⟩ = some (.slice a2 s.ends.length c2) := by rw [← hu0]; simp [go_sem]
  have bB : Below w.heap.size w u0 := by rw [← hu0]; exact alRg _ _
  obtain ⟨h0, h1, h2⟩ := h.below bB
  clear h
  go_enter Try.func17, Try.ntmps17
  go_wp2_with fail
  clear hu0
  refine (heldReaderS_any _ _ B k s.rds r02 r03 k02 k03 _ h0 (by omega) l0).mono ?_
  rintro r w1 ⟨rfl, hw⟩
  rw [hw]
  clear hw w1
  have n0 : ¬ (((RxK s.rds k s.rds.length) : Nat) : Int) < 0 := by omega
  go_wp2_with fail
  refine (heldIntS_any _ _ s.com.length (RxK s.rds k s.rds.length) _ h1 (by omega)).mono ?_
  rintro r w2 ⟨rfl, hw⟩
  rw [hw]
  clear hw w2
  have n1 : ¬ ((((RxK s.rds k s.rds.length) + s.com.length) : Nat) : Int) < 0 := by omega
  go_wp2_with fail
  refine (heldIntS_any _ _ s.ends.length ((RxK s.rds k s.rds.length) + s.com.length) _ h2 (by omega)).mono ?_
  rintro r w3 ⟨rfl, hw⟩
  rw [hw]
  clear hw w3
  have n2 : ¬ (((((RxK s.rds k s.rds.length) + s.com.length) + s.ends.length) : Nat) : Int) < 0 := by omega
  go_wp2
  go_ret
  exact ⟨rfl, bB⟩

end Go.Proofs.Ytgiekkipkgdjaaa
