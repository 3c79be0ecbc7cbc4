/-
  A world of chapter 8 that a call owns, and the contracts of markSnap and heldSnap on it.
-/
import Derived.Test.YtaoecafibmfphaaSnp
import Derived.Test.YtaoecafibmfphaaChnM
import Derived.Test.YtaoecafibmfphaaPicM
namespace Go.Proofs.Ytaoecafibmfphaa
open Go.RowKit

/-- The world lies in memory from B on that may be written, all of it apart. -/
structure SnW (w : World) (B : Nat) (s : Sn) (a0 a1 a2 : Option Addr) (r : Nat → Option Addr) (k : Nat → Nat) (p2 p3 : Nat → Option Addr) (m2 m3 : Nat → Nat) : Prop where
  am : Ints w a0 s.am
  amr : RowI w B a0 s.am.length
  chs : ChO w B a1 s.chs r k
  chd : ChD a1 s.chs r
  pcs : PcO w B a2 s.pcs p2 p3 m2 m3
  pcd : PcD a2 s.pcs p2 p3
  x01 : ∀ b, InI a0 s.am.length b → ¬ ChIn a1 s.chs r b
  x02 : ∀ b, InI a0 s.am.length b → ¬ PcIn a2 s.pcs p2 p3 b
  x12 : ∀ b, ChIn a1 s.chs r b → ¬ PcIn a2 s.pcs p2 p3 b

theorem SnW.below {w w' : World} {B : Nat} {s : Sn} {a0 a1 a2 : Option Addr} {r : Nat → Option Addr} {k : Nat → Nat} {p2 p3 : Nat → Option Addr} {m2 m3 : Nat → Nat} (h : SnW w B s a0 a1 a2 r k p2 p3 m2 m3) (hb : Below w.heap.size w w') : SnW w' B s a0 a1 a2 r k p2 p3 m2 m3 :=
  ⟨h.am.below hb, h.amr.below hb, h.chs.below hb, h.chd, h.pcs.below hb, h.pcd, h.x01, h.x02, h.x12⟩

structure SnS8 (s : Sn) : Prop where
  ways : ∀ c, c ∈ s.chs → c.way.length ≤ maxLen
  pics : ∀ c, c ∈ s.pcs → c.ins.length ≤ maxLen ∧ c.cl.length ≤ maxLen

theorem SnW.reads {w : World} {B : Nat} {s : Sn} {a0 a1 a2 : Option Addr} {r : Nat → Option Addr} {k : Nat → Nat} {p2 p3 : Nat → Option Addr} {m2 m3 : Nat → Nat} (h : SnW w B s a0 a1 a2 r k p2 p3 m2 m3) (hs : SnS8 s) : SnR w s a0 a1 a2 :=
  ⟨h.am, h.chs.reads hs.ways, h.pcs.reads hs.pics⟩

/-- The counters of the marks, list by list. -/
def snK1 (s : Sn) (k : Nat) : Nat := k + s.am.length
def snK2 (s : Sn) (k : Nat) : Nat := ChK s.chs (snK1 s k) s.chs.length
def snK3 (s : Sn) (k : Nat) : Nat := PcK s.pcs (snK2 s k) s.pcs.length

/-- It lies there marked. -/
structure SnH (w : World) (B : Nat) (s : Sn) (kk : Nat) (a0 a1 a2 : Option Addr) (r : Nat → Option Addr) (k : Nat → Nat) (p2 p3 : Nat → Option Addr) (m2 m3 : Nat → Nat) : Prop where
  am : Ints w a0 (markZ kk s.am.length)
  chs : ChO w B a1 (ChMs s.chs (snK1 s kk)) r k
  pcs : PcO w B a2 (PcMs s.pcs (snK2 s kk)) p2 p3 m2 m3

theorem SnH.below {w w' : World} {B : Nat} {s : Sn} {kk : Nat} {a0 a1 a2 : Option Addr} {r : Nat → Option Addr} {k : Nat → Nat} {p2 p3 : Nat → Option Addr} {m2 m3 : Nat → Nat} (h : SnH w B s kk a0 a1 a2 r k p2 p3 m2 m3) (hb : Below w.heap.size w w') : SnH w' B s kk a0 a1 a2 r k p2 p3 m2 m3 :=
  ⟨h.am.below hb, h.chs.below hb, h.pcs.below hb⟩

theorem chIn_marked {a : Option Addr} {l : List Ch} {kk : Nat} {r : Nat → Option Addr} {b : Nat} (h : ChIn a (ChMs l kk) r b) : ChIn a l r b := by
  rcases h with h | ⟨j, c, hj, h⟩
  · rw [ChMs_length] at h; exact .inl h
  · obtain ⟨d, hd, rfl⟩ := ChMs_get hj
    exact .inr ⟨j, d, hd, by rwa [ChM_way] at h⟩

structure SnSz (s : Sn) (k : Nat) : Prop where
  n : s.am.length ≤ 1000000
  c : s.chs.length ≤ 1000000
  p : s.pcs.length ≤ 1000000
  k3 : snK3 s k ≤ 1000000000

theorem SnSz.k2 {s : Sn} {k : Nat} (h : SnSz s k) : snK2 s k ≤ 1000000000 := by
  have h1 : snK2 s k ≤ snK3 s k := PcK_mono s.pcs (snK2 s k) 0 s.pcs.length (Nat.zero_le _)
  have := h.k3
  omega
theorem SnSz.k1 {s : Sn} {k : Nat} (h : SnSz s k) : snK1 s k ≤ 1000000000 := by
  have h1 : snK1 s k ≤ snK2 s k := ChK_mono s.chs (snK1 s k) 0 s.chs.length (Nat.zero_le _)
  have := h.k2
  omega

set_option maxRecDepth 100000 in
set_option maxHeartbeats 4000000 in
theorem markSnap_any (s : Sn) (kk B : Nat) (a0 a1 a2 : Option Addr) (c0 c1 c2 : Nat) (r : Nat → Option Addr) (k : Nat → Nat) (p2 p3 : Nat → Option Addr) (m2 m3 : Nat → Nat) (w : World) (h : SnW w B s a0 a1 a2 r k p2 p3 m2 m3) (hz : SnSz s kk) (hBw : B ≤ w.heap.size) :
    Calls Try.prog 13 #[snV s a0 c0 a1 c1 a2 c2, .int .i64 (kk : Int)] w fun e w' => e = .returned (.int .i64 ((snK3 s kk : Nat) : Int)) ∧ SnH w' B s kk a0 a1 a2 r k p2 p3 m2 m3 ∧ Below B w w' ∧ (∀ b, b < w.heap.size → ¬ InI a0 s.am.length b → ¬ ChIn a1 s.chs r b → ¬ PcIn a2 s.pcs p2 p3 b → w'.heap[b]? = w.heap[b]?) := by
  have hk1 := hz.k1
  have hk2 := hz.k2
  have hk3 := hz.k3
  obtain ⟨u0, hu0⟩ : ∃ u0, (w.alloc (.cells #[.slice a0 s.am.length c0, .slice a1 s.chs.length c1, .slice a2 s.pcs.length c2, .int .i64 s.sent, .int .i64 s.total] 26)) = u0 := ⟨_, rfl⟩
  have q0 : u0.cell? ⟨w.heap.size, 0, none⟩ = some (.slice a0 s.am.length c0) := by rw [← hu0]; simp [go_sem]
  have q1 : u0.cell? ⟨w.heap.size, 1, none⟩ = some (.slice a1 s.chs.length c1) := by rw [← hu0]; simp [go_sem]
  have q2 : u0.cell? ⟨w.heap.size, 2, none⟩ = some (.slice a2 s.pcs.length c2) := by rw [← hu0]; simp [go_sem]
  have bB : Below w.heap.size w u0 := by rw [← hu0]; exact alB _ _
  have hz0 : u0.heap.size = w.heap.size + 1 := by rw [← hu0]; simp
  have h0 := h.below bB
  have n0 : ¬ InI a0 s.am.length w.heap.size := fun hi => by have := (h.amr.lt hi).2; omega
  have n1 : ¬ ChIn a1 s.chs r w.heap.size := fun hi => by have := (h.chs.lt hi).2; omega
  have n2 : ¬ PcIn a2 s.pcs p2 p3 w.heap.size := fun hi => by have := (h.pcs.lt hi).2; omega
  have l1 : ∀ b, ChIn a1 s.chs r b → b < w.heap.size := fun b hb => (h.chs.lt hb).2
  have l2 : ∀ b, PcIn a2 s.pcs p2 p3 b → b < w.heap.size := fun b hb => (h.pcs.lt hb).2
  have l0 : ∀ b, InI a0 s.am.length b → b < w.heap.size := fun b hb => (h.amr.lt hb).2
  go_enter Try.func13, Try.ntmps13
  go_wp2_with fail
  clear hu0
  refine (markIntS_any _ _ _ B kk _ h0.amr (by unfold snK1 at hk1; omega)).mono ?_
  rintro e w1 ⟨rfl, H0, S0, hB1, hO1⟩
  have z1 := hB1.size
  replace q1 := (World.cell?_of_block (a := ⟨w.heap.size, 1, none⟩) (hO1 w.heap.size (by omega) n0)).trans q1
  replace q2 := (World.cell?_of_block (a := ⟨w.heap.size, 2, none⟩) (hO1 w.heap.size (by omega) n0)).trans q2
  have C1 := h0.chs.of_block (w' := w1) fun b hb => hO1 b (by have := l1 b hb; omega) (fun hi => h.x01 b hi hb)
  have P1 := h0.pcs.of_block (w' := w1) fun b hb => hO1 b (by have := l2 b hb; omega) (fun hi => h.x02 b hi hb)
  go_wp2_with fail
  refine (markChanS_any _ _ B (snK1 s kk) s.chs r k _ C1 h.chd hz.c (by exact hk2)).mono ?_
  rintro e w2 ⟨rfl, C2, hB2, hO2⟩
  have z2 := hB2.size
  replace q2 := (World.cell?_of_block (a := ⟨w.heap.size, 2, none⟩) (hO2 w.heap.size (by omega) n1)).trans q2
  have H0' := H0.of_block (w' := w2) fun b hb => hO2 b (by rw [markZ_length] at hb; have := l0 b hb; omega) (fun hi => h.x01 b (by rw [markZ_length] at hb; exact hb) hi)
  have P2 := P1.of_block (w' := w2) fun b hb => hO2 b (by have := l2 b hb; omega) (fun hi => h.x12 b hi hb)
  go_wp2_with fail
  refine (markPictureS_any _ _ B (snK2 s kk) s.pcs p2 p3 m2 m3 _ P2 h.pcd hz.p (by exact hk3)).mono ?_
  rintro e w3 ⟨rfl, P3, hB3, hO3⟩
  have z3 := hB3.size
  have H0'' := H0'.of_block (w' := w3) fun b hb => hO3 b (by rw [markZ_length] at hb; have := l0 b hb; omega) (fun hi => h.x02 b (by rw [markZ_length] at hb; exact hb) hi)
  have C3 := C2.of_block (w' := w3) fun b hb => hO3 b (by have := l1 b (chIn_marked hb); omega) (fun hi => h.x12 b (chIn_marked hb) hi)
  have HH : Hid (SnH w3 B s kk a0 a1 a2 r k p2 p3 m2 m3) := ⟨H0'', C3, P3⟩
  have BB : Below B w w3 := (((bB.mono hBw).trans hB1).trans hB2).trans hB3
  have HF : Hid (∀ b, b < w.heap.size → ¬ InI a0 s.am.length b → ¬ ChIn a1 s.chs r b → ¬ PcIn a2 s.pcs p2 p3 b → w3.heap[b]? = w.heap[b]?) := fun b hb i0 i1 i2 => by
    rw [hO3 b (by omega) i2, hO2 b (by omega) i1, hO1 b (by omega) i0]
    exact bB.block b hb
  clear H0 H0' H0'' C1 C2 C3 P1 P2 P3 hO1 hO2 hO3 S0 h h0 l0 l1 l2 n0 n1 n2
  go_wp2
  go_ret
  exact ⟨rfl, HH.out, BB, HF.out⟩

set_option maxRecDepth 100000 in
set_option maxHeartbeats 4000000 in
theorem heldSnap_any (s : Sn) (kk B : Nat) (a0 a1 a2 : Option Addr) (c0 c1 c2 : Nat) (r : Nat → Option Addr) (k : Nat → Nat) (p2 p3 : Nat → Option Addr) (m2 m3 : Nat → Nat) (w : World) (h : SnH w B s kk a0 a1 a2 r k p2 p3 m2 m3) (hz : SnSz s kk) :
    Calls Try.prog 14 #[snV s a0 c0 a1 c1 a2 c2, .int .i64 (kk : Int)] w fun e w' => e = .returned (.int .i64 ((snK3 s kk : Nat) : Int)) ∧ Below w.heap.size w w' := by
  have hk1 := hz.k1
  have hk2 := hz.k2
  have hk3 := hz.k3
  obtain ⟨u0, hu0⟩ : ∃ u0, (w.alloc (.cells #[.slice a0 s.am.length c0, .slice a1 s.chs.length c1, .slice a2 s.pcs.length c2, .int .i64 s.sent, .int .i64 s.total] 26)) = u0 := ⟨_, rfl⟩
  have q0 : u0.cell? ⟨w.heap.size, 0, none⟩ = some (.slice a0 s.am.length c0) := by rw [← hu0]; simp [go_sem]
  have q1 : u0.cell? ⟨w.heap.size, 1, none⟩ = some (.slice a1 s.chs.length c1) := by rw [← hu0]; simp [go_sem]
  have q2 : u0.cell? ⟨w.heap.size, 2, none⟩ = some (.slice a2 s.pcs.length c2) := by rw [← hu0]; simp [go_sem]
  have bB : Below w.heap.size w u0 := by rw [← hu0]; exact alB _ _
  have h0 := h.below bB
  go_enter Try.func14, Try.ntmps14
  go_wp2_with fail
  clear hu0
  refine (heldIntS_any _ _ _ kk _ h0.am (by unfold snK1 at hk1; omega)).mono ?_
  rintro e w1 ⟨rfl, hw⟩
  rw [hw]
  clear hw w1
  go_wp2_with fail
  refine (heldChanS_any _ _ B (snK1 s kk) s.chs r k _ h0.chs (by exact hk2) hz.c).mono ?_
  rintro e w1 ⟨rfl, hw⟩
  rw [hw]
  clear hw w1
  go_wp2_with fail
  refine (heldPictureS_any _ _ B (snK2 s kk) s.pcs p2 p3 m2 m3 _ h0.pcs (by exact hk3) hz.p).mono ?_
  rintro e w1 ⟨rfl, hw⟩
  rw [hw]
  clear hw w1
  go_wp2
  go_ret
  exact ⟨rfl, bB⟩

end Go.Proofs.Ytaoecafibmfphaa
