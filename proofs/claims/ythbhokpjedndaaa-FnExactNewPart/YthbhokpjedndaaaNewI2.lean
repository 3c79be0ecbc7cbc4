/-
  A new part, the program's side: impl.RebuildFrom of one batch, impl.NewPart.
-/
import Derived.Test.YthbhokpjedndaaaWithA
namespace Go.Proofs.Ythbhokpjedndaaa
open Go.RowKit

/-- A part with one producer and one batch, in memory from B on. -/
def OnePart (B : Nat) (w' : World) (id ep z : Int) (ss : List ByteArray) (gp cp gl cl : Nat) : Prop := ∃ gw cw vR,
      w'.ownsRow B 84 4 (.slice (some ⟨gp, 0, none⟩) 1 cp) 1 [.int .i64 id, .int .i64 ep, .int .i64 ss.length, .slice (some ⟨gw, 0, none⟩) 1 cw] ∧
      w'.ownsRow B 103 3 (.slice (some ⟨gw, 0, none⟩) 1 cw) 1 [.int .i64 0, .int .i64 ss.length, .int .i64 z] ∧
      w'.ownsRow B 48 5 (.slice (some ⟨gl, 0, none⟩) 1 cl) 1 [.int .i64 z, .int .i64 ep, .int .i64 id, .int .i64 0, vR] ∧
      w'.ownsRow B 9 1 vR ss.length (strVals ss) ∧ gw < gp ∧ gp < gl ∧ (∀ b, vR.ownBlock = some b → gp < b ∧ b < gl)

theorem OnePart.below {B : Nat} {w w' : World} {id ep z : Int} {ss : List ByteArray} {gp cp gl cl : Nat} (h : OnePart B w id ep z ss gp cp gl cl) (hb : Below w.heap.size w w') : OnePart B w' id ep z ss gp cp gl cl := by
  obtain ⟨gw, cw, vR, h1, h2, h3, h4, h5⟩ := h
  exact ⟨gw, cw, vR, owns_below h1 hb, owns_below h2 hb, owns_below h3 hb, owns_below h4 hb, h5⟩

theorem OnePart.mono {B B' : Nat} {w : World} {id ep z : Int} {ss : List ByteArray} {gp cp gl cl : Nat} (h : OnePart B w id ep z ss gp cp gl cl) (hb : B' ≤ B) : OnePart B' w id ep z ss gp cp gl cl := by
  obtain ⟨gw, cw, vR, h1, h2, h3, h4, h5⟩ := h
  exact ⟨gw, cw, vR, owns_mono h1 hb, owns_mono h2 hb, owns_mono h3 hb, owns_mono h4 hb, h5⟩

theorem OnePart.set {B : Nat} {w : World} {id ep z : Int} {ss : List ByteArray} {gp cp gl cl k o : Nat} {x : Value} (h : OnePart B w id ep z ss gp cp gl cl) (hb : k < B) : OnePart B (w.setCell ⟨k, o, none⟩ x) id ep z ss gp cp gl cl := by
  obtain ⟨gw, cw, vR, h1, h2, h3, h4, h5⟩ := h
  exact ⟨gw, cw, vR, own5 h1 (fun q hq => by have := h1.lt q hq; omega), own5 h2 (fun q hq => by have := h2.lt q hq; omega), own5 h3 (fun q hq => by have := h3.lt q hq; omega), own5 h4 (fun q hq => by have := h4.lt q hq; omega), h5⟩

/-- While one batch is taken up. -/
def RbSt (w : World) (ep pr : Int) (ss : List ByteArray) (wr : World) : Prop :=
  ∃ gp cp gl cl, wr.cell? ⟨w.heap.size + 1, 0, none⟩ = some (.slice (some ⟨gp, 0, none⟩) 1 cp) ∧ wr.cell? ⟨w.heap.size + 1, 1, none⟩ = some (.slice (some ⟨gl, 0, none⟩) 1 cl) ∧ wr.cell? ⟨w.heap.size + 1, 2, none⟩ = some (.int .i64 ss.length) ∧
    (∃ x0 x1 x2, wr.cell? ⟨w.heap.size, 0, none⟩ = some x0 ∧ wr.cell? ⟨w.heap.size, 1, none⟩ = some x1 ∧ wr.cell? ⟨w.heap.size, 2, none⟩ = some x2) ∧ (∀ o, wr.frozen? ⟨w.heap.size, o, none⟩ = false) ∧
    OnePart (w.heap.size + 1 + 1) wr pr ep 0 ss gp cp gl cl ∧ Below w.heap.size w wr

set_option maxRecDepth 100000 in
set_option maxHeartbeats 4000000 in
theorem rebuild_one (ep pr : Int) (ss : List ByteArray) (k o c : Nat) (w : World) (hb : BatAt w k o ⟨0, ep, pr, 0, ss⟩) (hg : Bt.good ⟨0, ep, pr, 0, ss⟩ = true) (hl : ss.length ≤ 8) (hz : ∀ s, s ∈ ss → s.size ≤ 20) :
    Calls Try.prog 21 #[.slice (some ⟨k, o, none⟩) 1 c] w fun r w' => ∃ gp cp gl cl, r = .returned (.tuple #[.agg #[.slice (some ⟨gp, 0, none⟩) 1 cp, .slice (some ⟨gl, 0, none⟩) 1 cl, .int .i64 ss.length], .bool true]) ∧ OnePart w.heap.size w' pr ep 0 ss gp cp gl cl ∧ Below w.heap.size w w' := by
  have hb2 : ∀ x y, Below w.heap.size w ((w.alloc x).alloc y) := fun _ _ => ((Below.refl _ _).alloc (Nat.le_refl _) _).alloc (by simp) _
  go_enter Try.func21, Try.ntmps21
  go_wp2
  go_loopw [12] (fun i wr => (i = .int .i64 0 ∧ wr = (w.alloc (.cells #[.slice none 0 0, .slice none 0 0, .int .i64 0] 25)).alloc (.cells #[.slice none 0 0, .slice none 0 0, .int .i64 0] 25)) ∨ (i = .int .i64 1 ∧ RbSt w ep pr ss wr)) (fun i _ => 1 - (intOf i).toNat)
  case atStart => exact .inl ⟨rfl, rfl⟩
  case round =>
    rcases hrel with ⟨rfl, rfl⟩ | ⟨rfl, gp, cp, gl, cl, c0, c1, c2, ⟨x0, x1, x2, d0, d1, d2⟩, fr, hO, hB⟩
    · obtain ⟨ra, rc, c0, c1, c2, c3, c4, hst, hsl⟩ := hb.below (hb2 (.cells #[.slice none 0 0, .slice none 0 0, .int .i64 0] 25) (.cells #[.slice none 0 0, .slice none 0 0, .int .i64 0] 25))
      have HB2 := hb2 (.cells #[.slice none 0 0, .slice none 0 0, .int .i64 0] 25) (.cells #[.slice none 0 0, .slice none 0 0, .int .i64 0] 25)
      simp only at c0 c1 c2 c3 c4 hst hsl
      obtain ⟨u0, hu0⟩ : ∃ u0, (w.alloc (.cells #[.slice none 0 0, .slice none 0 0, .int .i64 0] 25)).alloc (.cells #[.slice none 0 0, .slice none 0 0, .int .i64 0] 25) = u0 := ⟨_, rfl⟩
      have hsz : w.heap.size + 1 + 1 = u0.heap.size := by rw [← hu0]; simp
      have p0 : u0.cell? ⟨w.heap.size + 1, 0, none⟩ = some (.slice none 0 0) := by rw [← hu0]; simp [go_sem]
      have p1 : u0.cell? ⟨w.heap.size + 1, 1, none⟩ = some (.slice none 0 0) := by rw [← hu0]; simp [go_sem]
      have p2 : u0.cell? ⟨w.heap.size + 1, 2, none⟩ = some (.int .i64 0) := by rw [← hu0]; simp [go_sem]
      have r0 : u0.cell? ⟨w.heap.size, 0, none⟩ = some (.slice none 0 0) := by rw [← hu0]; simp [go_sem]
      have r1 : u0.cell? ⟨w.heap.size, 1, none⟩ = some (.slice none 0 0) := by rw [← hu0]; simp [go_sem]
      have r2 : u0.cell? ⟨w.heap.size, 2, none⟩ = some (.int .i64 0) := by rw [← hu0]; simp [go_sem]
      have f1 : ∀ o, u0.frozen? ⟨w.heap.size + 1, o, none⟩ = false := fun o => by rw [← hu0]; simp [go_sem]
      have f0 : ∀ o, u0.frozen? ⟨w.heap.size, o, none⟩ = false := fun o => by rw [← hu0]; simp [go_sem]
      rw [hu0] at c0 c1 c2 c3 c4 hst HB2 ⊢
      clear hu0 hb2 hb
      have a2 : ∀ o, (u0.alloc o).cell? ⟨w.heap.size + 1, 2, none⟩ = some (.int .i64 0) := fun o => cel5 (al5 _ o) p2
      go_wp2_with fail
      refine (implGood_any 0 ep pr 0 ss ra rc _ (hst.below (al5 _ _)) hsl).mono ?_
      rintro r w1 ⟨rfl, hB1⟩
      rw [hg]
      have l1 := hB1.size
      simp only [World.size_alloc] at l1
      replace p0 : w1.cell? ⟨w.heap.size + 1, 0, none⟩ = some (.slice none 0 0) := cel5 hB1 (cel5 (al5 _ _) p0)
      replace p1 : w1.cell? ⟨w.heap.size + 1, 1, none⟩ = some (.slice none 0 0) := cel5 hB1 (cel5 (al5 _ _) p1)
      replace p2 : w1.cell? ⟨w.heap.size + 1, 2, none⟩ = some (.int .i64 0) := cel5 hB1 (cel5 (al5 _ _) p2)
      replace r0 : w1.cell? ⟨w.heap.size, 0, none⟩ = some (.slice none 0 0) := cel5 hB1 (cel5 (al5 _ _) r0)
      replace r1 : w1.cell? ⟨w.heap.size, 1, none⟩ = some (.slice none 0 0) := cel5 hB1 (cel5 (al5 _ _) r1)
      replace r2 : w1.cell? ⟨w.heap.size, 2, none⟩ = some (.int .i64 0) := cel5 hB1 (cel5 (al5 _ _) r2)
      replace f0 : ∀ o, w1.frozen? ⟨w.heap.size, o, none⟩ = false := fun o => fz5 hB1 (by simp; omega) (fz5 (al5 _ _) (by omega) (f0 o))
      replace f1 : ∀ o, w1.frozen? ⟨w.heap.size + 1, o, none⟩ = false := fun o => fz5 hB1 (by simp; omega) (fz5 (al5 _ _) (by omega) (f1 o))
      have b0 : w1.cell? ⟨u0.heap.size, 0, none⟩ = some (.int .i64 0) := cel5 hB1 (by simp [go_sem])
      have b1 : w1.cell? ⟨u0.heap.size, 1, none⟩ = some (.int .i64 ep) := cel5 hB1 (by simp [go_sem])
      have b2 : w1.cell? ⟨u0.heap.size, 2, none⟩ = some (.int .i64 pr) := cel5 hB1 (by simp [go_sem])
      have b3 : w1.cell? ⟨u0.heap.size, 3, none⟩ = some (.int .i64 0) := cel5 hB1 (by simp [go_sem])
      have b4 : w1.cell? ⟨u0.heap.size, 4, none⟩ = some (.slice ra ss.length rc) := cel5 hB1 (by simp [go_sem])
      have hst1 := (hst.below (al5 _ _)).below hB1
      have BB := st5 (st5 HB2 (al5 _ _)) hB1
      clear hB1 a2 c0 c1 c2 c3 c4 HB2 hst
      have p0a : ∀ o, (w1.alloc o).cell? ⟨w.heap.size + 1, 0, none⟩ = some (.slice none 0 0) := fun o => cel5 (al5 _ o) p0
      have p1a : ∀ o, (w1.alloc o).cell? ⟨w.heap.size + 1, 1, none⟩ = some (.slice none 0 0) := fun o => cel5 (al5 _ o) p1
      have p2a : ∀ o, (w1.alloc o).cell? ⟨w.heap.size + 1, 2, none⟩ = some (.int .i64 0) := fun o => cel5 (al5 _ o) p2
      go_wp2_with fail
      refine (codeFor_nil _ _ _ _ _ _ hl _).mono ?_
      rintro r w2 ⟨rfl, hB2⟩
      have l2 := hB2.size
      simp only [World.size_alloc] at l2
      replace p0 : w2.cell? ⟨w.heap.size + 1, 0, none⟩ = some (.slice none 0 0) := cel5 hB2 (cel5 (al5 _ _) p0)
      replace p1 : w2.cell? ⟨w.heap.size + 1, 1, none⟩ = some (.slice none 0 0) := cel5 hB2 (cel5 (al5 _ _) p1)
      replace p2 : w2.cell? ⟨w.heap.size + 1, 2, none⟩ = some (.int .i64 0) := cel5 hB2 (cel5 (al5 _ _) p2)
      replace r0 : w2.cell? ⟨w.heap.size, 0, none⟩ = some (.slice none 0 0) := cel5 hB2 (cel5 (al5 _ _) r0)
      replace r1 : w2.cell? ⟨w.heap.size, 1, none⟩ = some (.slice none 0 0) := cel5 hB2 (cel5 (al5 _ _) r1)
      replace r2 : w2.cell? ⟨w.heap.size, 2, none⟩ = some (.int .i64 0) := cel5 hB2 (cel5 (al5 _ _) r2)
      replace f0 : ∀ o, w2.frozen? ⟨w.heap.size, o, none⟩ = false := fun o => fz5 hB2 (by simp; omega) (fz5 (al5 _ _) (by omega) (f0 o))
      replace f1 : ∀ o, w2.frozen? ⟨w.heap.size + 1, o, none⟩ = false := fun o => fz5 hB2 (by simp; omega) (fz5 (al5 _ _) (by omega) (f1 o))
      have q0 : w2.cell? ⟨w1.heap.size, 0, none⟩ = some (.int .i64 pr) := cel5 hB2 (by simp [go_sem])
      have q1 : w2.cell? ⟨w1.heap.size, 1, none⟩ = some (.int .i64 ep) := cel5 hB2 (by simp [go_sem])
      have q2 : w2.cell? ⟨w1.heap.size, 2, none⟩ = some (.int .i64 0) := cel5 hB2 (by simp [go_sem])
      have q3 : w2.cell? ⟨w1.heap.size, 3, none⟩ = some (.slice ra ss.length rc) := cel5 hB2 (by simp [go_sem])
      have hst2 := (hst1.below (al5 _ _)).below hB2
      replace BB := st5 (st5 BB (al5 _ _)) hB2
      clear hB2 p0a p1a p2a b0 b1 b2 b3 b4 hst1
      go_wp2_with fail
      refine (withAsked_nil _ _ _ _ _ ss _ hst2 hl hz (Int.le_refl _) (by omega)).mono ?_
      rintro r w3 ⟨gp, cp, gl, cl, gw, cw, vR, rfl, o1, o2, o3, o4, o5, o6, o7, hB3⟩
      have l3 := hB3.size
      have HO : Hid (OnePart (w.heap.size + 1 + 1) w3 pr ep 0 ss gp cp gl cl) := OnePart.mono ⟨gw, cw, vR, o1, o2, o3, o4, o5, o6, o7⟩ (by omega)
      replace p0 : w3.cell? ⟨w.heap.size + 1, 0, none⟩ = some (.slice none 0 0) := cel5 hB3 p0
      replace p1 : w3.cell? ⟨w.heap.size + 1, 1, none⟩ = some (.slice none 0 0) := cel5 hB3 p1
      replace p2 : w3.cell? ⟨w.heap.size + 1, 2, none⟩ = some (.int .i64 0) := cel5 hB3 p2
      replace r0 : w3.cell? ⟨w.heap.size, 0, none⟩ = some (.slice none 0 0) := cel5 hB3 r0
      replace r1 : w3.cell? ⟨w.heap.size, 1, none⟩ = some (.slice none 0 0) := cel5 hB3 r1
      replace r2 : w3.cell? ⟨w.heap.size, 2, none⟩ = some (.int .i64 0) := cel5 hB3 r2
      replace f0 : ∀ o, w3.frozen? ⟨w.heap.size, o, none⟩ = false := fun o => fz5 hB3 (by omega) (f0 o)
      replace f1 : ∀ o, w3.frozen? ⟨w.heap.size + 1, o, none⟩ = false := fun o => fz5 hB3 (by omega) (f1 o)
      replace BB := st5 BB hB3
      have hzz : (0 : Int) + (ss.length : Int) = (ss.length : Int) := by omega
      clear hB3 o1 o2 o3 o4 o5 o6 o7 q0 q1 q2 q3 hst2
      have HR : Hid (RbSt w ep pr ss (((w3.setCell ⟨w.heap.size + 1, 0, none⟩ (.slice (some ⟨gp, 0, none⟩) 1 cp)).setCell ⟨w.heap.size + 1, 1, none⟩ (.slice (some ⟨gl, 0, none⟩) 1 cl)).setCell ⟨w.heap.size + 1, 2, none⟩ (.int .i64 ss.length))) := by
        refine ⟨gp, cp, gl, cl, by simp [go_sem, p0], by simp [go_sem, p1], by simp [go_sem, p2], ⟨_, _, _, sc5 (by omega) (sc5 (by omega) (sc5 (by omega) r0)), sc5 (by omega) (sc5 (by omega) (sc5 (by omega) r1)), sc5 (by omega) (sc5 (by omega) (sc5 (by omega) r2))⟩, fun o => by simp [go_sem, f0], ?_, ?_⟩
        · exact ((HO.out.set (by omega)).set (by omega)).set (by omega)
        · exact ((BB.setCell (by simp) _).setCell (by simp) _).setCell (by simp) _
      go_wp2
      go_roundw
      case rel => exact .inr ⟨by first | rfl | go_num, HR.out⟩
      case measure => simp [intOf]
    · go_wp2
      refine bodyPost_ret (v := .tuple #[.agg #[.slice (some ⟨gp, 0, none⟩) 1 cp, .slice (some ⟨gl, 0, none⟩) 1 cl, .int .i64 ss.length], .bool true]) (by simp [results, Try.results21, go_sem, d0, d1, d2]) rfl ⟨gp, cp, gl, cl, rfl, ?_, ?_⟩
      · exact (((hO.set (by omega)).set (by omega)).set (by omega)).mono (by omega)
      · exact ((hB.setCell (Nat.le_refl _) _).setCell (Nat.le_refl _) _).setCell (Nat.le_refl _) _

theorem good_first : Bt.good ⟨0, 0, 0, 0, [⟨#[]⟩]⟩ = true := by decide +kernel

set_option maxRecDepth 100000 in
set_option maxHeartbeats 4000000 in
theorem implNewPart_any (w : World) :
    Calls Try.prog 6 #[] w fun r w' => ∃ gp cp gl cl, r = .returned (.agg #[.slice (some ⟨gp, 0, none⟩) 1 cp, .slice (some ⟨gl, 0, none⟩) 1 cl, .int .i64 1]) ∧ OnePart w.heap.size w' 0 0 0 [⟨#[]⟩] gp cp gl cl ∧ Below w.heap.size w w' := by
  go_enter Try.func6, Try.ntmps6
  go_wp2_with fail
  have hw3 : ∀ x y z, Below w.heap.size w (((w.alloc x).alloc y).alloc z) := fun _ _ _ => (((Below.refl _ _).alloc (Nat.le_refl _) _).alloc (by simp) _).alloc (by simp; omega) _
  refine (rebuild_one 0 0 [⟨#[]⟩] _ _ _ _ ⟨some ⟨w.heap.size + 1, 0, none⟩, 1, ?c0, ?c1, ?c2, ?c3, ?c4, ?c5, ?c6⟩ good_first (by simp) (fun s hs => by obtain rfl := List.mem_singleton.1 hs; exact Nat.zero_le _)).mono ?_
  case c0 => simp [go_sem]
  case c1 => simp [go_sem]
  case c2 => simp [go_sem]
  case c3 => simp [go_sem]
  case c4 => simp [go_sem]
  case c5 =>
    intro i s hi
    have h0 : i = 0 := by have := (List.getElem?_eq_some_iff.1 hi).1; simp at this; exact this
    subst h0
    simp at hi
    subst hi
    exact ⟨_, 0, rfl, cel5 (al5 _ _) (by simp [go_sem]), Nat.zero_le _⟩
  case c6 => unfold maxLen; simp
  rintro r w1 ⟨gp, cp, gl, cl, rfl, hO, hB1⟩
  have l1 := hB1.size
  simp only [World.size_alloc] at l1
  have BB := st5 (hw3 _ _ _) hB1
  have r0 : w1.cell? ⟨w.heap.size, 0, none⟩ = some (.slice none 0 0) := cel5 hB1 (cel5 (al5 _ _) (by simp [go_sem]))
  have r1 : w1.cell? ⟨w.heap.size, 1, none⟩ = some (.slice none 0 0) := cel5 hB1 (cel5 (al5 _ _) (by simp [go_sem]))
  have r2 : w1.cell? ⟨w.heap.size, 2, none⟩ = some (.int .i64 0) := cel5 hB1 (cel5 (al5 _ _) (by simp [go_sem]))
  have f0 : ∀ o, w1.frozen? ⟨w.heap.size, o, none⟩ = false := fun o => fz5 hB1 (by simp; omega) (fz5 (al5 _ _) (by simp; omega) (fz5 (al5 _ _) (by simp) (by simp [go_sem])))
  have r0a : ∀ o, (w1.alloc o).cell? ⟨w.heap.size, 0, none⟩ = some (.slice none 0 0) := fun o => cel5 (al5 _ o) r0
  have r1a : ∀ o, (w1.alloc o).cell? ⟨w.heap.size, 1, none⟩ = some (.slice none 0 0) := fun o => cel5 (al5 _ o) r1
  have r2a : ∀ o, (w1.alloc o).cell? ⟨w.heap.size, 2, none⟩ = some (.int .i64 0) := fun o => cel5 (al5 _ o) r2
  have f0a : ∀ o q, (w1.alloc o).frozen? ⟨w.heap.size, q, none⟩ = false := fun o q => fz5 (al5 _ o) (by omega) (f0 q)
  simp only [World.size_alloc] at hO
  have HO : ∀ x, OnePart (w.heap.size + 1 + 1 + 1) (w1.alloc x) 0 0 0 [⟨#[]⟩] gp cp gl cl := fun x => hO.below (al5 _ _)
  have HOO : Hid (∀ x, OnePart (w.heap.size + 1 + 1 + 1) (w1.alloc x) 0 0 0 [⟨#[]⟩] gp cp gl cl) := HO
  have BBB : ∀ x, Below w.heap.size w (w1.alloc x) := fun x => st5 BB (al5 _ _)
  clear hO HO hB1 BB r0 r1 r2 f0
  go_wp2
  refine bodyPost_ret (v := .agg #[.slice (some ⟨gp, 0, none⟩) 1 cp, .slice (some ⟨gl, 0, none⟩) 1 cl, .int .i64 1]) (by simp [results, Try.results6, go_sem, r0a, r1a, r2a]) rfl ⟨gp, cp, gl, cl, rfl, ?_, ?_⟩
  · exact ((((HOO.out _).set (by omega)).set (by omega)).set (by omega)).mono (by omega)
  · exact (((BBB _).setCell (Nat.le_refl _) _).setCell (Nat.le_refl _) _).setCell (Nat.le_refl _) _

end Go.Proofs.Ythbhokpjedndaaa
