/-
  Raft that a call owns, marked and held. Made by mkstrong.py.
-/
import Derived.Test.YtglncbhbeikclaaWkAid
import Derived.Test.YtglncbhbeikclaaRft
import Derived.Test.YtglncbhbeikclaaPerM
import Derived.Test.YtglncbhbeikclaaMalM
import Derived.Test.YtglncbhbeikclaaEryW
namespace Go.Proofs.Ytglncbhbeikclaa
open Go.RowKit

theorem PeO.typ {w : World} {B : Nat} {a : Option Addr} {l : List Pe} {r2 r4 : Nat → Option Addr} {k2 k4 : Nat → Nat} (h : PeO w B a l r2 r4 k2 k4) {b : Nat} (hb : PeIn a l r2 r4 b) : ∃ t m f, w.rowIs b t m f ∧ t ∈ ([63, 56, 3] : List TypeId) := by
  rcases h with rfl | ⟨R, m, f, rfl, hR, hm, hrow, hp⟩
  · rcases hb with ⟨h, -⟩ | ⟨j, c, hj, -⟩
    · simp at h
    · simp at hj
  · rcases hb with ⟨-, o, s, e⟩ | ⟨j, c, hj, hb⟩
    · simp only [Option.some.injEq, Addr.mk.injEq] at e
      obtain ⟨rfl, -⟩ := e
      exact ⟨_, m, f, hrow, by simp⟩
    · obtain ⟨-, -, -, -, -, -, w2, -, w4⟩ := hp j c hj
      rcases hb with hb | hb
      · exact w2.typ (by simp) b hb
      · exact w4.typ (by simp) b hb

theorem PeIn_marked {a : Option Addr} {l : List Pe} {kk : Nat} {r2 r4 : Nat → Option Addr} {b : Nat} (h : PeIn a (PeMs l kk) r2 r4 b) : PeIn a l r2 r4 b := by
  rcases h with h | ⟨j, c, hj, h⟩
  · rw [PeMs_length] at h; exact .inl h
  · obtain ⟨d, hd, rfl⟩ := PeMs_get hj
    simp only [PeM_log, PeM_mat] at h
    exact .inr ⟨j, d, hd, h⟩

theorem MaO.typ {w : World} {B : Nat} {a : Option Addr} {l : List Ma} {r6 : Nat → Option Addr} {k6 : Nat → Nat} (h : MaO w B a l r6 k6) {b : Nat} (hb : MaIn a l r6 b) : ∃ t m f, w.rowIs b t m f ∧ t ∈ ([73, 56] : List TypeId) := by
  rcases h with rfl | ⟨R, m, f, rfl, hR, hm, hrow, hp⟩
  · rcases hb with ⟨h, -⟩ | ⟨j, c, hj, -⟩
    · simp at h
    · simp at hj
  · rcases hb with ⟨-, o, s, e⟩ | ⟨j, c, hj, hb⟩
    · simp only [Option.some.injEq, Addr.mk.injEq] at e
      obtain ⟨rfl, -⟩ := e
      exact ⟨_, m, f, hrow, by simp⟩
    · obtain ⟨-, -, -, -, -, -, -, -, -, -, w6⟩ := hp j c hj
      exact w6.typ (by simp) b hb

theorem MaIn_marked {a : Option Addr} {l : List Ma} {kk : Nat} {r6 : Nat → Option Addr} {b : Nat} (h : MaIn a (MaMs l kk) r6 b) : MaIn a l r6 b := by
  rcases h with h | ⟨j, c, hj, h⟩
  · rw [MaMs_length] at h; exact .inl h
  · obtain ⟨d, hd, rfl⟩ := MaMs_get hj
    simp only [MaM_entry] at h
    exact .inr ⟨j, d, hd, h⟩

theorem apart2 {w : World} {b : Nat} {t1 t2 : List TypeId} (h1 : ∃ t m f, w.rowIs b t m f ∧ t ∈ t1) (h2 : ∃ t m f, w.rowIs b t m f ∧ t ∈ t2) (hd : ∀ t ∈ t1, t ∉ t2) : False := by
  obtain ⟨x, _, _, r1, m1⟩ := h1
  obtain ⟨y, _, _, r2, m2⟩ := h2
  exact hd x m1 (row_type r1 r2 ▸ m2)

/-- It lies in memory from B on that may be written, all of it apart. -/
structure RaO (w : World) (B : Nat) (s : Ra) (a0 a1 : Option Addr) (r02 r04 r16 : Nat → Option Addr) (k02 k04 k16 : Nat → Nat) : Prop where
  prs : PeO w B a0 s.prs r02 r04 k02 k04
  prsD : PeD a0 s.prs r02 r04
  mail : MaO w B a1 s.mail r16 k16
  mailD : MaD a1 s.mail r16
  dj01 : ∀ x, PeIn a0 s.prs r02 r04 x → MaIn a1 s.mail r16 x → False

/-- Whose block it is. -/
def RaIn (a0 a1 : Option Addr) (s : Ra) (r02 r04 r16 : Nat → Option Addr) (b : Nat) : Prop := PeIn a0 s.prs r02 r04 b ∨ MaIn a1 s.mail r16 b

theorem RaO.below {w w' : World} {B : Nat} {s : Ra} {a0 a1 : Option Addr} {r02 r04 r16 : Nat → Option Addr} {k02 k04 k16 : Nat → Nat} (h : RaO w B s a0 a1 r02 r04 r16 k02 k04 k16) (hb : Below w.heap.size w w') : RaO w' B s a0 a1 r02 r04 r16 k02 k04 k16 :=
  ⟨h.prs.below hb, h.prsD, h.mail.below hb, h.mailD, h.dj01⟩

theorem RaO.lt {w : World} {B : Nat} {s : Ra} {a0 a1 : Option Addr} {r02 r04 r16 : Nat → Option Addr} {k02 k04 k16 : Nat → Nat} (h : RaO w B s a0 a1 r02 r04 r16 k02 k04 k16) {b : Nat} (hb : RaIn a0 a1 s r02 r04 r16 b) : B ≤ b ∧ b < w.heap.size := by
  rcases hb with hb | hb
  · exact h.prs.lt hb
  · exact h.mail.lt hb

theorem RaO.of_block {w w' : World} {B : Nat} {s : Ra} {a0 a1 : Option Addr} {r02 r04 r16 : Nat → Option Addr} {k02 k04 k16 : Nat → Nat} (h : RaO w B s a0 a1 r02 r04 r16 k02 k04 k16) (hs : ∀ b, RaIn a0 a1 s r02 r04 r16 b → w'.heap[b]? = w.heap[b]?) : RaO w' B s a0 a1 r02 r04 r16 k02 k04 k16 :=
  ⟨h.prs.of_block fun b hb => hs b (.inl hb), h.prsD, h.mail.of_block fun b hb => hs b (.inr (hb)), h.mailD, h.dj01⟩

structure RaS (s : Ra) : Prop where
  prs : s.prs.length ≤ 1000000
  mail : s.mail.length ≤ 1000000
  prsI : ∀ c, c ∈ s.prs → c.log.length ≤ maxLen ∧ c.mat.length ≤ maxLen
  mailI : ∀ c, c ∈ s.mail → c.entry.length ≤ maxLen
  tot : ∀ k, k ≤ 1 → (MaK s.mail (PeK s.prs k s.prs.length) s.mail.length) ≤ 1000000000

theorem RaO.reads {w : World} {B : Nat} {s : Ra} {a0 a1 : Option Addr} {r02 r04 r16 : Nat → Option Addr} {k02 k04 k16 : Nat → Nat} (h : RaO w B s a0 a1 r02 r04 r16 k02 k04 k16) (hs : RaS s) : RaR w s a0 a1 :=
  ⟨h.prs.reads hs.prsI, h.mail.reads hs.mailI⟩

/-- Marked from k on. -/
structure RaH (w : World) (B : Nat) (s : Ra) (k : Nat) (a0 a1 : Option Addr) (r02 r04 r16 : Nat → Option Addr) (k02 k04 k16 : Nat → Nat) : Prop where
  prs : PeO w B a0 (PeMs s.prs k) r02 r04 k02 k04
  mail : MaO w B a1 (MaMs s.mail (PeK s.prs k s.prs.length)) r16 k16

theorem RaH.below {w w' : World} {B : Nat} {s : Ra} {k : Nat} {a0 a1 : Option Addr} {r02 r04 r16 : Nat → Option Addr} {k02 k04 k16 : Nat → Nat} (h : RaH w B s k a0 a1 r02 r04 r16 k02 k04 k16) (hb : Below w.heap.size w w') : RaH w' B s k a0 a1 r02 r04 r16 k02 k04 k16 :=
  ⟨h.prs.below hb, h.mail.below hb⟩

set_option maxRecDepth 100000 in
set_option maxHeartbeats 8000000 in
theorem markRaft_any (s : Ra) (k B : Nat) (a0 a1 : Option Addr) (c0 c1 : Nat) (r02 r04 r16 : Nat → Option Addr) (k02 k04 k16 : Nat → Nat) (w : World) (h : RaO w B s a0 a1 r02 r04 r16 k02 k04 k16) (hz : RaS s) (hk : k ≤ 1) (hBw : B ≤ w.heap.size) :
    Calls Try.prog 12 #[raV s a0 c0 a1 c1, .int .i64 (k : Int)] w fun r w' => r = .returned (.int .i64 (((MaK s.mail (PeK s.prs k s.prs.length) s.mail.length) : Nat) : Int)) ∧ RaH w' B s k a0 a1 r02 r04 r16 k02 k04 k16 ∧ Below B w w' ∧ ∀ b, b < w.heap.size → ¬ RaIn a0 a1 s r02 r04 r16 b → w'.heap[b]? = w.heap[b]? := by
  have tot := hz.tot k hk
  have l0 := hz.prs
  have g0 : k ≤ (PeK s.prs k s.prs.length) := PeK_mono s.prs k 0 s.prs.length (Nat.zero_le _)
  have l1 := hz.mail
  have g1 : (PeK s.prs k s.prs.length) ≤ (MaK s.mail (PeK s.prs k s.prs.length) s.mail.length) := MaK_mono s.mail (PeK s.prs k s.prs.length) 0 s.mail.length (Nat.zero_le _)
  have hlt : ∀ b, RaIn a0 a1 s r02 r04 r16 b → b < w.heap.size := fun b hb => (h.lt hb).2
  obtain ⟨u0, hu0⟩ : ∃ u0, (w.alloc (.cells #[.slice a0 s.prs.length c0, .slice a1 s.mail.length c1] 25)) = u0 := ⟨_, rfl⟩
  have p0 : u0.cell? ⟨w.heap.size, 0, none⟩ = some (.slice a0 s.prs.length c0) := by rw [← hu0]; simp [go_sem]
  have p1 : u0.cell? ⟨w.heap.size, 1, none⟩ = some (.slice a1 s.mail.length c1) := by rw [← hu0]; simp [go_sem]
  have bB : Below w.heap.size w u0 := by rw [← hu0]; exact alRa _ _
  have z0 : w.heap.size < u0.heap.size := by rw [← hu0]; simp
  obtain ⟨h0, e0, h1, e1, d01⟩ := h.below bB
  have HD01 : Hid (∀ x, PeIn a0 s.prs r02 r04 x → MaIn a1 s.mail r16 x → False) := d01
  clear d01
  have BB : Below B w u0 := bB.mono hBw
  have HF : Hid (∀ b, b < w.heap.size → ¬ RaIn a0 a1 s r02 r04 r16 b → u0.heap[b]? = w.heap[b]?) := fun b hb _ => bB.block b hb
  clear h
  go_enter Try.func12, Try.ntmps12
  go_wp2_with fail
  clear hu0
  have T1 : ∀ b, MaIn a1 s.mail r16 b → ∃ t m f, u0.rowIs b t m f ∧ t ∈ ([73, 56] : List TypeId) := fun b hb => h1.typ hb
  have TB : ∀ b, PeIn a0 s.prs r02 r04 b → ∃ t m f, u0.rowIs b t m f ∧ t ∈ ([63, 56, 3] : List TypeId) := fun b hb => h0.typ hb
  refine (markPeerS_any _ _ B k s.prs r02 r04 k02 k04 _ h0 e0 l0 (by omega)).mono ?_
  rintro r w1 ⟨rfl, M0, hB, hO⟩
  replace p1 := (World.cell?_of_block (a := ⟨w.heap.size, 1, none⟩) (hO w.heap.size (lt_of_cell p1) (fun hb => Nat.lt_irrefl _ (hlt _ (.inl hb))))).trans p1
  replace h1 := h1.of_block (fun x hb => hO x (h1.lt hb).2 (fun hx => HD01.out x hx hb))
  have HF2 : Hid (∀ b, b < w.heap.size → ¬ RaIn a0 a1 s r02 r04 r16 b → w1.heap[b]? = w.heap[b]?) := fun b hb hn => (hO b (by have := bB.size; omega) (fun hx => hn (.inl hx))).trans (HF.out b hb hn)
  replace HF := HF2
  replace BB := BB.trans hB
  have z1 : w.heap.size < w1.heap.size := by have := hB.size; omega
  clear hB hO HF2 TB T1
  go_wp2_with fail
  have TB : ∀ b, MaIn a1 s.mail r16 b → ∃ t m f, w1.rowIs b t m f ∧ t ∈ ([73, 56] : List TypeId) := fun b hb => h1.typ hb
  refine (markMailS_any _ _ B (PeK s.prs k s.prs.length) s.mail r16 k16 _ h1 e1 l1 (by omega)).mono ?_
  rintro r w2 ⟨rfl, M1, hB, hO⟩
  replace M0 := M0.of_block (fun x hb => hO x (M0.lt hb).2 (fun hx => HD01.out x (PeIn_marked hb) hx))
  have HF2 : Hid (∀ b, b < w.heap.size → ¬ RaIn a0 a1 s r02 r04 r16 b → w2.heap[b]? = w.heap[b]?) := fun b hb hn => (hO b (by omega) (fun hx => hn (.inr (hx)))).trans (HF.out b hb hn)
  replace HF := HF2
  replace BB := BB.trans hB
  have z2 : w.heap.size < w2.heap.size := by have := hB.size; omega
  clear hB hO HF2 TB 
  have HH : Hid (RaH w2 B s k a0 a1 r02 r04 r16 k02 k04 k16) := ⟨M0, M1⟩
  clear M0 M1
  go_wp2
  go_ret
  exact ⟨rfl, HH.out, BB, HF.out⟩

set_option maxRecDepth 100000 in
set_option maxHeartbeats 8000000 in
theorem heldRaft_any (s : Ra) (k B : Nat) (a0 a1 : Option Addr) (c0 c1 : Nat) (r02 r04 r16 : Nat → Option Addr) (k02 k04 k16 : Nat → Nat) (w : World) (h : RaH w B s k a0 a1 r02 r04 r16 k02 k04 k16) (hz : RaS s) (hk : k ≤ 1) :
    Calls Try.prog 13 #[raV s a0 c0 a1 c1, .int .i64 (k : Int)] w fun r w' => r = .returned (.int .i64 (((MaK s.mail (PeK s.prs k s.prs.length) s.mail.length) : Nat) : Int)) ∧ Below w.heap.size w w' := by
  have tot := hz.tot k hk
  have l0 := hz.prs
  have g0 : k ≤ (PeK s.prs k s.prs.length) := PeK_mono s.prs k 0 s.prs.length (Nat.zero_le _)
  have l1 := hz.mail
  have g1 : (PeK s.prs k s.prs.length) ≤ (MaK s.mail (PeK s.prs k s.prs.length) s.mail.length) := MaK_mono s.mail (PeK s.prs k s.prs.length) 0 s.mail.length (Nat.zero_le _)
  obtain ⟨u0, hu0⟩ : ∃ u0, (w.alloc (.cells #[.slice a0 s.prs.length c0, .slice a1 s.mail.length c1] 25)) = u0 := ⟨_, rfl⟩
  have p0 : u0.cell? ⟨w.heap.size, 0, none⟩ = some (.slice a0 s.prs.length c0) := by rw [← hu0]; simp [go_sem]
  have p1 : u0.cell? ⟨w.heap.size, 1, none⟩ = some (.slice a1 s.mail.length c1) := by rw [← hu0]; simp [go_sem]
  have bB : Below w.heap.size w u0 := by rw [← hu0]; exact alRa _ _
  obtain ⟨h0, h1⟩ := h.below bB
  clear h
  go_enter Try.func13, Try.ntmps13
  go_wp2_with fail
  clear hu0
  refine (heldPeerS_any _ _ B k s.prs r02 r04 k02 k04 _ h0 (by omega) l0).mono ?_
  rintro r w1 ⟨rfl, hw⟩
  rw [hw]
  clear hw w1
  have n0 : ¬ (((PeK s.prs k s.prs.length) : Nat) : Int) < 0 := by omega
  go_wp2_with fail
  refine (heldMailS_any _ _ B (PeK s.prs k s.prs.length) s.mail r16 k16 _ h1 (by omega) l1).mono ?_
  rintro r w2 ⟨rfl, hw⟩
  rw [hw]
  clear hw w2
  have n1 : ¬ (((MaK s.mail (PeK s.prs k s.prs.length) s.mail.length) : Nat) : Int) < 0 := by omega
  go_wp2
  go_ret
  exact ⟨rfl, bB⟩

end Go.Proofs.Ytglncbhbeikclaa
