/-
  Election that a call owns, marked and held. Made by mkstrong.py.
-/
import Derived.Test.YthbhokpjedndaaaWkAid
import Derived.Test.YthbhokpjedndaaaElc
import Derived.Test.YthbhokpjedndaaaSrvM
import Derived.Test.YthbhokpjedndaaaLtrM
import Derived.Test.YthbhokpjedndaaaVteM
import Derived.Test.YthbhokpjedndaaaLtrW
import Derived.Test.YthbhokpjedndaaaVteW
namespace Go.Proofs.Ythbhokpjedndaaa
open Go.RowKit

theorem SvO.typ {w : World} {B : Nat} {a : Option Addr} {l : List Sv} {r4 r5 : Nat → Option Addr} {k4 k5 : Nat → Nat} (h : SvO w B a l r4 r5 k4 k5) {b : Nat} (hb : SvIn a l r4 r5 b) : ∃ t m f, w.rowIs b t m f ∧ t ∈ ([59, 3] : List TypeId) := by
  rcases h with rfl | ⟨R, m, f, rfl, hR, hm, hrow, hp⟩
  · rcases hb with ⟨h, -⟩ | ⟨j, c, hj, -⟩
    · simp at h
    · simp at hj
  · rcases hb with ⟨-, o, s, e⟩ | ⟨j, c, hj, hb⟩
    · simp only [Option.some.injEq, Addr.mk.injEq] at e
      obtain ⟨rfl, -⟩ := e
      exact ⟨_, m, f, hrow, by simp⟩
    · obtain ⟨-, -, -, -, -, -, -, w4, -, w5⟩ := hp j c hj
      rcases hb with hb | hb
      · exact w4.typ (by simp) b hb
      · exact w5.typ (by simp) b hb

theorem SvIn_marked {a : Option Addr} {l : List Sv} {kk : Nat} {r4 r5 : Nat → Option Addr} {b : Nat} (h : SvIn a (SvMs l kk) r4 r5 b) : SvIn a l r4 r5 b := by
  rcases h with h | ⟨j, c, hj, h⟩
  · rw [SvMs_length] at h; exact .inl h
  · obtain ⟨d, hd, rfl⟩ := SvMs_get hj
    simp only [SvM_got, SvM_log] at h
    exact .inr ⟨j, d, hd, h⟩

theorem apart2 {w : World} {b : Nat} {t1 t2 : List TypeId} (h1 : ∃ t m f, w.rowIs b t m f ∧ t ∈ t1) (h2 : ∃ t m f, w.rowIs b t m f ∧ t ∈ t2) (hd : ∀ t ∈ t1, t ∉ t2) : False := by
  obtain ⟨x, _, _, r1, m1⟩ := h1
  obtain ⟨y, _, _, r2, m2⟩ := h2
  exact hd x m1 (row_type r1 r2 ▸ m2)

/-- It lies in memory from B on that may be written, all of it apart. -/
structure ElO (w : World) (B : Nat) (s : El) (a0 a1 a2 : Option Addr) (r04 r05 : Nat → Option Addr) (k04 k05 : Nat → Nat) : Prop where
  svs : SvO w B a0 s.svs r04 r05 k04 k05
  svsD : SvD a0 s.svs r04 r05
  post : Lts w a1 s.post
  postR : RowLt w B a1 s.post.length
  led : Vts w a2 s.led
  ledR : RowVt w B a2 s.led.length

/-- Whose block it is. -/
def ElIn (a0 a1 a2 : Option Addr) (s : El) (r04 r05 : Nat → Option Addr) (b : Nat) : Prop := SvIn a0 s.svs r04 r05 b ∨ InI a1 s.post.length b ∨ InI a2 s.led.length b

theorem ElO.below {w w' : World} {B : Nat} {s : El} {a0 a1 a2 : Option Addr} {r04 r05 : Nat → Option Addr} {k04 k05 : Nat → Nat} (h : ElO w B s a0 a1 a2 r04 r05 k04 k05) (hb : Below w.heap.size w w') : ElO w' B s a0 a1 a2 r04 r05 k04 k05 :=
  ⟨h.svs.below hb, h.svsD, h.post.below hb, h.postR.below hb, h.led.below hb, h.ledR.below hb⟩

theorem ElO.lt {w : World} {B : Nat} {s : El} {a0 a1 a2 : Option Addr} {r04 r05 : Nat → Option Addr} {k04 k05 : Nat → Nat} (h : ElO w B s a0 a1 a2 r04 r05 k04 k05) {b : Nat} (hb : ElIn a0 a1 a2 s r04 r05 b) : B ≤ b ∧ b < w.heap.size := by
  rcases hb with hb | hb | hb
  · exact h.svs.lt hb
  · exact h.postR.lt hb
  · exact h.ledR.lt hb

theorem ElO.of_block {w w' : World} {B : Nat} {s : El} {a0 a1 a2 : Option Addr} {r04 r05 : Nat → Option Addr} {k04 k05 : Nat → Nat} (h : ElO w B s a0 a1 a2 r04 r05 k04 k05) (hs : ∀ b, ElIn a0 a1 a2 s r04 r05 b → w'.heap[b]? = w.heap[b]?) : ElO w' B s a0 a1 a2 r04 r05 k04 k05 :=
  ⟨h.svs.of_block fun b hb => hs b (.inl hb), h.svsD, h.post.of_block fun b hb => hs b (.inr (.inl hb)), h.postR.of_block fun b hb => hs b (.inr (.inl hb)), h.led.of_block fun b hb => hs b (.inr (.inr (hb))), h.ledR.of_block fun b hb => hs b (.inr (.inr (hb)))⟩

structure ElS (s : El) : Prop where
  svs : s.svs.length ≤ 1000000
  post : s.post.length ≤ 1000000
  led : s.led.length ≤ 1000000
  svsI : ∀ c, c ∈ s.svs → c.got.length ≤ maxLen ∧ c.log.length ≤ maxLen
  tot : ∀ k, k ≤ 1 → (((SvK s.svs k s.svs.length) + 7 * s.post.length) + 2 * s.led.length) ≤ 1000000000

theorem ElO.reads {w : World} {B : Nat} {s : El} {a0 a1 a2 : Option Addr} {r04 r05 : Nat → Option Addr} {k04 k05 : Nat → Nat} (h : ElO w B s a0 a1 a2 r04 r05 k04 k05) (hs : ElS s) : ElR w s a0 a1 a2 :=
  ⟨h.svs.reads hs.svsI, h.post, h.led⟩

/-- Marked from k on. -/
structure ElH (w : World) (B : Nat) (s : El) (k : Nat) (a0 a1 a2 : Option Addr) (r04 r05 : Nat → Option Addr) (k04 k05 : Nat → Nat) : Prop where
  svs : SvO w B a0 (SvMs s.svs k) r04 r05 k04 k05
  post : Lts w a1 (LtMk (SvK s.svs k s.svs.length) s.post.length)
  led : Vts w a2 (VtMk ((SvK s.svs k s.svs.length) + 7 * s.post.length) s.led.length)

theorem ElH.below {w w' : World} {B : Nat} {s : El} {k : Nat} {a0 a1 a2 : Option Addr} {r04 r05 : Nat → Option Addr} {k04 k05 : Nat → Nat} (h : ElH w B s k a0 a1 a2 r04 r05 k04 k05) (hb : Below w.heap.size w w') : ElH w' B s k a0 a1 a2 r04 r05 k04 k05 :=
  ⟨h.svs.below hb, h.post.below hb, h.led.below hb⟩

set_option maxRecDepth 100000 in
set_option maxHeartbeats 8000000 in
theorem markElection_any (s : El) (k B : Nat) (a0 a1 a2 : Option Addr) (c0 c1 c2 : Nat) (r04 r05 : Nat → Option Addr) (k04 k05 : Nat → Nat) (w : World) (h : ElO w B s a0 a1 a2 r04 r05 k04 k05) (hz : ElS s) (hk : k ≤ 1) (hBw : B ≤ w.heap.size) :
    Calls Try.prog 17 #[elV s a0 c0 a1 c1 a2 c2, .int .i64 (k : Int)] w fun r w' => r = .returned (.int .i64 (((((SvK s.svs k s.svs.length) + 7 * s.post.length) + 2 * s.led.length) : Nat) : Int)) ∧ ElH w' B s k a0 a1 a2 r04 r05 k04 k05 ∧ Below B w w' ∧ ∀ b, b < w.heap.size → ¬ ElIn a0 a1 a2 s r04 r05 b → w'.heap[b]? = w.heap[b]? := by
  have tot := hz.tot k hk
  have l0 := hz.svs
  have g0 : k ≤ (SvK s.svs k s.svs.length) := SvK_mono s.svs k 0 s.svs.length (Nat.zero_le _)
  have l1 := hz.post
  have g1 : (SvK s.svs k s.svs.length) ≤ ((SvK s.svs k s.svs.length) + 7 * s.post.length) := by omega
  have l2 := hz.led
  have g2 : ((SvK s.svs k s.svs.length) + 7 * s.post.length) ≤ (((SvK s.svs k s.svs.length) + 7 * s.post.length) + 2 * s.led.length) := by omega
  have hlt : ∀ b, ElIn a0 a1 a2 s r04 r05 b → b < w.heap.size := fun b hb => (h.lt hb).2
  obtain ⟨u0, hu0⟩ : ∃ u0, (w.alloc (.cells #[.slice a0 s.svs.length c0, .slice a1 s.post.length c1, .slice a2 s.led.length c2] 36)) = u0 := ⟨_, rfl⟩
  have p0 : u0.cell? ⟨w.heap.size, 0, none⟩ = some (.slice a0 s.svs.length c0) := by rw [← hu0]; simp [go_sem]
  have p1 : u0.cell? ⟨w.heap.size, 1, none⟩ = some (.slice a1 s.post.length c1) := by rw [← hu0]; simp [go_sem]
  have p2 : u0.cell? ⟨w.heap.size, 2, none⟩ = some (.slice a2 s.led.length c2) := by rw [← hu0]; simp [go_sem]
  have bB : Below w.heap.size w u0 := by rw [← hu0]; exact alEl _ _
  have z0 : w.heap.size < u0.heap.size := by rw [← hu0]; simp
  obtain ⟨h0, e0, h1, e1, h2, e2⟩ := h.below bB
  have BB : Below B w u0 := bB.mono hBw
  have HF : Hid (∀ b, b < w.heap.size → ¬ ElIn a0 a1 a2 s r04 r05 b → u0.heap[b]? = w.heap[b]?) := fun b hb _ => bB.block b hb
  clear h
  go_enter Try.func17, Try.ntmps17
  go_wp2_with fail
  clear hu0
  have T1 : ∀ b, InI a1 s.post.length b → ∃ t m f, u0.rowIs b t m f ∧ t ∈ ([91] : List TypeId) := fun b hb => e1.typ (by simp) b hb
  have T2 : ∀ b, InI a2 s.led.length b → ∃ t m f, u0.rowIs b t m f ∧ t ∈ ([94] : List TypeId) := fun b hb => e2.typ (by simp) b hb
  have TB : ∀ b, SvIn a0 s.svs r04 r05 b → ∃ t m f, u0.rowIs b t m f ∧ t ∈ ([59, 3] : List TypeId) := fun b hb => h0.typ hb
  refine (markServerS_any _ _ B k s.svs r04 r05 k04 k05 _ h0 e0 l0 (by omega)).mono ?_
  rintro r w1 ⟨rfl, M0, hB, hO⟩
  replace p1 := (World.cell?_of_block (a := ⟨w.heap.size, 1, none⟩) (hO w.heap.size (lt_of_cell p1) (fun hb => Nat.lt_irrefl _ (hlt _ (.inl hb))))).trans p1
  replace p2 := (World.cell?_of_block (a := ⟨w.heap.size, 2, none⟩) (hO w.heap.size (lt_of_cell p2) (fun hb => Nat.lt_irrefl _ (hlt _ (.inl hb))))).trans p2
  replace h1 := h1.of_block (fun x hb => hO x (h1.lt x hb) (fun hx => apart2 (T1 x hb) (TB x hx) (by decide)))
  replace e1 := e1.of_block (fun x hb => hO x (e1.lt hb).2 (fun hx => apart2 (T1 x hb) (TB x hx) (by decide)))
  replace h2 := h2.of_block (fun x hb => hO x (h2.lt x hb) (fun hx => apart2 (T2 x hb) (TB x hx) (by decide)))
  replace e2 := e2.of_block (fun x hb => hO x (e2.lt hb).2 (fun hx => apart2 (T2 x hb) (TB x hx) (by decide)))
  have HF2 : Hid (∀ b, b < w.heap.size → ¬ ElIn a0 a1 a2 s r04 r05 b → w1.heap[b]? = w.heap[b]?) := fun b hb hn => (hO b (by have := bB.size; omega) (fun hx => hn (.inl hx))).trans (HF.out b hb hn)
  replace HF := HF2
  replace BB := BB.trans hB
  have z1 : w.heap.size < w1.heap.size := by have := hB.size; omega
  clear hB hO HF2 TB T1 T2
  go_wp2_with fail
  have T2 : ∀ b, InI a2 s.led.length b → ∃ t m f, w1.rowIs b t m f ∧ t ∈ ([94] : List TypeId) := fun b hb => e2.typ (by simp) b hb
  have TB : ∀ b, InI a1 s.post.length b → ∃ t m f, w1.rowIs b t m f ∧ t ∈ ([91] : List TypeId) := fun b hb => e1.typ (by simp) b hb
  refine (markLetterS_any _ _ s.post.length B (SvK s.svs k s.svs.length) _ e1 (by omega)).mono ?_
  rintro r w2 ⟨rfl, M1, S1, hB, hO⟩
  replace p2 := (World.cell?_of_block (a := ⟨w.heap.size, 2, none⟩) (hO w.heap.size (lt_of_cell p2) (fun hb => Nat.lt_irrefl _ (hlt _ (.inr (.inl hb)))))).trans p2
  replace M0 := M0.of_block (fun x hb => hO x (M0.lt hb).2 (fun hx => apart2 (M0.typ hb) (TB x hx) (by decide)))
  replace h2 := h2.of_block (fun x hb => hO x (h2.lt x hb) (fun hx => apart2 (T2 x hb) (TB x hx) (by decide)))
  replace e2 := e2.of_block (fun x hb => hO x (e2.lt hb).2 (fun hx => apart2 (T2 x hb) (TB x hx) (by decide)))
  have HF2 : Hid (∀ b, b < w.heap.size → ¬ ElIn a0 a1 a2 s r04 r05 b → w2.heap[b]? = w.heap[b]?) := fun b hb hn => (hO b (by omega) (fun hx => hn (.inr (.inl hx)))).trans (HF.out b hb hn)
  replace HF := HF2
  replace BB := BB.trans hB
  have z2 : w.heap.size < w2.heap.size := by have := hB.size; omega
  clear hB hO HF2 TB T2
  go_wp2_with fail
  have TB : ∀ b, InI a2 s.led.length b → ∃ t m f, w2.rowIs b t m f ∧ t ∈ ([94] : List TypeId) := fun b hb => e2.typ (by simp) b hb
  refine (markVoteS_any _ _ s.led.length B ((SvK s.svs k s.svs.length) + 7 * s.post.length) _ e2 (by omega)).mono ?_
  rintro r w3 ⟨rfl, M2, S2, hB, hO⟩
  replace M0 := M0.of_block (fun x hb => hO x (M0.lt hb).2 (fun hx => apart2 (M0.typ hb) (TB x hx) (by decide)))
  replace M1 := M1.of_block (fun x hb => hO x (M1.lt x hb) (fun hx => apart2 (S1.typ (ts := [91]) (by simp) x (by rw [LtMk_length] at hb; exact hb)) (TB x hx) (by decide)))
  replace S1 := S1.of_block (fun x hb => hO x (S1.lt hb).2 (fun hx => apart2 (S1.typ (ts := [91]) (by simp) x hb) (TB x hx) (by decide)))
  have HF2 : Hid (∀ b, b < w.heap.size → ¬ ElIn a0 a1 a2 s r04 r05 b → w3.heap[b]? = w.heap[b]?) := fun b hb hn => (hO b (by omega) (fun hx => hn (.inr (.inr (hx))))).trans (HF.out b hb hn)
  replace HF := HF2
  replace BB := BB.trans hB
  have z3 : w.heap.size < w3.heap.size := by have := hB.size; omega
  clear hB hO HF2 TB 
  have HH : Hid (ElH w3 B s k a0 a1 a2 r04 r05 k04 k05) := ⟨M0, M1, M2⟩
  clear M0 M1 M2
  go_wp2
  go_ret
  exact ⟨rfl, HH.out, BB, HF.out⟩

set_option maxRecDepth 100000 in
set_option maxHeartbeats 8000000 in
theorem heldElection_any (s : El) (k B : Nat) (a0 a1 a2 : Option Addr) (c0 c1 c2 : Nat) (r04 r05 : Nat → Option Addr) (k04 k05 : Nat → Nat) (w : World) (h : ElH w B s k a0 a1 a2 r04 r05 k04 k05) (hz : ElS s) (hk : k ≤ 1) :
    Calls Try.prog 18 #[elV s a0 c0 a1 c1 a2 c2, .int .i64 (k : Int)] w fun r w' => r = .returned (.int .i64 (((((SvK s.svs k s.svs.length) + 7 * s.post.length) + 2 * s.led.length) : Nat) : Int)) ∧ Below w.heap.size w w' := by
  have tot := hz.tot k hk
  have l0 := hz.svs
  have g0 : k ≤ (SvK s.svs k s.svs.length) := SvK_mono s.svs k 0 s.svs.length (Nat.zero_le _)
  have l1 := hz.post
  have g1 : (SvK s.svs k s.svs.length) ≤ ((SvK s.svs k s.svs.length) + 7 * s.post.length) := by omega
  have l2 := hz.led
  have g2 : ((SvK s.svs k s.svs.length) + 7 * s.post.length) ≤ (((SvK s.svs k s.svs.length) + 7 * s.post.length) + 2 * s.led.length) := by omega
  obtain ⟨u0, hu0⟩ : ∃ u0, (w.alloc (.cells #[.slice a0 s.svs.length c0, .slice a1 s.post.length c1, .slice a2 s.led.length c2] 36)) = u0 := ⟨_, rfl⟩
  have p0 : u0.cell? ⟨w.heap.size, 0, none⟩ = some (.slice a0 s.svs.length c0) := by rw [← hu0]; simp [go_sem]
  have p1 : u0.cell? ⟨w.heap.size, 1, none⟩ = some (.slice a1 s.post.length c1) := by rw [← hu0]; simp [go_sem]
  have p2 : u0.cell? ⟨w.heap.size, 2, none⟩ = some (.slice a2 s.led.length c2) := by rw [← hu0]; simp [go_sem]
  have bB : Below w.heap.size w u0 := by rw [← hu0]; exact alEl _ _
  obtain ⟨h0, h1, h2⟩ := h.below bB
  clear h
  go_enter Try.func18, Try.ntmps18
  go_wp2_with fail
  clear hu0
  refine (heldServerS_any _ _ B k s.svs r04 r05 k04 k05 _ h0 (by omega) l0).mono ?_
  rintro r w1 ⟨rfl, hw⟩
  rw [hw]
  clear hw w1
  have n0 : ¬ (((SvK s.svs k s.svs.length) : Nat) : Int) < 0 := by omega
  go_wp2_with fail
  refine (heldLetterS_any _ _ s.post.length (SvK s.svs k s.svs.length) _ h1 (by omega)).mono ?_
  rintro r w2 ⟨rfl, hw⟩
  rw [hw]
  clear hw w2
  have n1 : ¬ ((((SvK s.svs k s.svs.length) + 7 * s.post.length) : Nat) : Int) < 0 := by omega
  go_wp2_with fail
  refine (heldVoteS_any _ _ s.led.length ((SvK s.svs k s.svs.length) + 7 * s.post.length) _ h2 (by omega)).mono ?_
  rintro r w3 ⟨rfl, hw⟩
  rw [hw]
  clear hw w3
  have n2 : ¬ (((((SvK s.svs k s.svs.length) + 7 * s.post.length) + 2 * s.led.length) : Nat) : Int) < 0 := by omega
  go_wp2
  go_ret
  exact ⟨rfl, bB⟩

end Go.Proofs.Ythbhokpjedndaaa
