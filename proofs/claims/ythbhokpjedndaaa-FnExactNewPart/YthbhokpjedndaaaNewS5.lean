/-
  A new part, the specification's side: spec.l5Rebuild of the first batch and spec.NewPart, the contract of spec.l5Ask given.
-/
import Derived.Test.YthbhokpjedndaaaLawNP
import Derived.Deep.RegionWith
namespace Go.Proofs.Ythbhokpjedndaaa
open Go.RowKit

/-- While the one batch is taken up. -/
def RsSt (w : World) (wr : World) : Prop :=
  ∃ gp cp gl cl, wr.cell? ⟨w.heap.size + 1, 0, none⟩ = some (.slice (some ⟨gp, 0, none⟩) 1 cp) ∧ wr.cell? ⟨w.heap.size + 1, 1, none⟩ = some (.slice (some ⟨gl, 0, none⟩) 1 cl) ∧ wr.cell? ⟨w.heap.size + 1, 2, none⟩ = some (.int .i64 1) ∧
    (∃ x0 x1 x2, wr.cell? ⟨w.heap.size, 0, none⟩ = some x0 ∧ wr.cell? ⟨w.heap.size, 1, none⟩ = some x1 ∧ wr.cell? ⟨w.heap.size, 2, none⟩ = some x2) ∧ (∀ o, wr.frozen? ⟨w.heap.size, o, none⟩ = false) ∧
    SPart (w.heap.size + 1 + 1) wr 0 0 gp cp gl cl ∧ Below w.heap.size w wr

set_option maxRecDepth 100000 in
set_option maxHeartbeats 4000000 in
theorem l5Rebuild_one (HA : AskC) (k c g rc : Nat) (w : World) (h0 : w.cell? ⟨k, 0, none⟩ = some (.int .i64 0)) (h1 : w.cell? ⟨k, 1, none⟩ = some (.int .i64 0)) (h2 : w.cell? ⟨k, 2, none⟩ = some (.int .i64 0)) (h3 : w.cell? ⟨k, 3, none⟩ = some (.int .i64 0)) (h4 : w.cell? ⟨k, 4, none⟩ = some (.slice (some ⟨g, 0, none⟩) 1 rc)) (hs : w.cell? ⟨g, 0, none⟩ = some (.string ⟨#[]⟩)) :
    Calls Try.prog 19 #[.slice (some ⟨k, 0, none⟩) 1 c] w fun r w' => ∃ gp cp gl cl, r = .returned (.tuple #[.agg #[.slice (some ⟨gp, 0, none⟩) 1 cp, .slice (some ⟨gl, 0, none⟩) 1 cl, .int .i64 1], .bool true]) ∧ SPart w.heap.size w' 0 0 gp cp gl cl ∧ Below w.heap.size w w' := by
  have hb2 : ∀ x y, Below w.heap.size w ((w.alloc x).alloc y) := fun _ _ => ((Below.refl _ _).alloc (Nat.le_refl _) _).alloc (by simp) _
  go_enter Try.func19, Try.ntmps19
  go_wp2
  go_loopw [13] (fun i wr => (i = .int .i64 0 ∧ wr = (w.alloc (.cells #[.slice none 0 0, .slice none 0 0, .int .i64 0] 25)).alloc (.cells #[.slice none 0 0, .slice none 0 0, .int .i64 0] 25)) ∨ (i = .int .i64 1 ∧ RsSt w wr)) (fun i _ => 1 - (intOf i).toNat)
  case atStart => exact .inl ⟨rfl, rfl⟩
  case round =>
    rcases hrel with ⟨rfl, rfl⟩ | ⟨rfl, gp, cp, gl, cl, c0, c1, c2, ⟨x0, x1, x2, d0, d1, d2⟩, fr, hO, hB⟩
    · have HB2 := hb2 (.cells #[.slice none 0 0, .slice none 0 0, .int .i64 0] 25) (.cells #[.slice none 0 0, .slice none 0 0, .int .i64 0] 25)
      obtain ⟨u0, hu0⟩ : ∃ u0, (w.alloc (.cells #[.slice none 0 0, .slice none 0 0, .int .i64 0] 25)).alloc (.cells #[.slice none 0 0, .slice none 0 0, .int .i64 0] 25) = u0 := ⟨_, rfl⟩
      have hsz : w.heap.size + 1 + 1 = u0.heap.size := by rw [← hu0]; simp
      have p0 : u0.cell? ⟨w.heap.size + 1, 0, none⟩ = some (.slice none 0 0) := by rw [← hu0]; simp [go_sem]
      have p1 : u0.cell? ⟨w.heap.size + 1, 1, none⟩ = some (.slice none 0 0) := by rw [← hu0]; simp [go_sem]
      have p2 : u0.cell? ⟨w.heap.size + 1, 2, none⟩ = some (.int .i64 0) := by rw [← hu0]; simp [go_sem]
      have r0 : u0.cell? ⟨w.heap.size, 0, none⟩ = some (.slice none 0 0) := by rw [← hu0]; simp [go_sem]
      have r1 : u0.cell? ⟨w.heap.size, 1, none⟩ = some (.slice none 0 0) := by rw [← hu0]; simp [go_sem]
      have r2 : u0.cell? ⟨w.heap.size, 2, none⟩ = some (.int .i64 0) := by rw [← hu0]; simp [go_sem]
      have f1 : ∀ o, u0.frozen? ⟨w.heap.size + 1, o, none⟩ = false := fun o => by rw [← hu0]; simp [go_sem]
      have f0 : ∀ o, u0.frozen? ⟨w.heap.size, o, none⟩ = false := fun o => by rw [← hu0]; simp [go_sem]
      rw [hu0] at HB2 ⊢
      replace h0 := cel5 HB2 h0
      replace h1 := cel5 HB2 h1
      replace h2 := cel5 HB2 h2
      replace h3 := cel5 HB2 h3
      replace h4 := cel5 HB2 h4
      replace hs := cel5 HB2 hs
      clear hu0 hb2
      have a0 : ∀ o, (u0.alloc o).cell? ⟨w.heap.size + 1, 0, none⟩ = some (.slice none 0 0) := fun o => cel5 (al5 _ o) p0
      have a1 : ∀ o, (u0.alloc o).cell? ⟨w.heap.size + 1, 1, none⟩ = some (.slice none 0 0) := fun o => cel5 (al5 _ o) p1
      have a2 : ∀ o, (u0.alloc o).cell? ⟨w.heap.size + 1, 2, none⟩ = some (.int .i64 0) := fun o => cel5 (al5 _ o) p2
      go_wp2_with fail
      refine (HA 0 0 g rc _ (cel5 (al5 _ _) hs)).mono ?_
      rintro r w1 ⟨gp, cp, gl, cl, rfl, hO1, hB1⟩
      have l1 := hB1.size
      simp only [World.size_alloc] at l1 hO1
      replace p0 : w1.cell? ⟨w.heap.size + 1, 0, none⟩ = some (.slice none 0 0) := cel5 hB1 (a0 _)
      replace p1 : w1.cell? ⟨w.heap.size + 1, 1, none⟩ = some (.slice none 0 0) := cel5 hB1 (a1 _)
      replace p2 : w1.cell? ⟨w.heap.size + 1, 2, none⟩ = some (.int .i64 0) := cel5 hB1 (a2 _)
      replace r0 : w1.cell? ⟨w.heap.size, 0, none⟩ = some (.slice none 0 0) := cel5 hB1 (cel5 (al5 _ _) r0)
      replace r1 : w1.cell? ⟨w.heap.size, 1, none⟩ = some (.slice none 0 0) := cel5 hB1 (cel5 (al5 _ _) r1)
      replace r2 : w1.cell? ⟨w.heap.size, 2, none⟩ = some (.int .i64 0) := cel5 hB1 (cel5 (al5 _ _) r2)
      replace f0 : ∀ o, w1.frozen? ⟨w.heap.size, o, none⟩ = false := fun o => fz5 hB1 (by simp; omega) (fz5 (al5 _ _) (by omega) (f0 o))
      replace f1 : ∀ o, w1.frozen? ⟨w.heap.size + 1, o, none⟩ = false := fun o => fz5 hB1 (by simp; omega) (fz5 (al5 _ _) (by omega) (f1 o))
      have b0 : w1.cell? ⟨u0.heap.size, 0, none⟩ = some (.int .i64 0) := cel5 hB1 (by simp [go_sem])
      have b1 : w1.cell? ⟨u0.heap.size, 1, none⟩ = some (.int .i64 0) := cel5 hB1 (by simp [go_sem])
      have b2 : w1.cell? ⟨u0.heap.size, 2, none⟩ = some (.int .i64 0) := cel5 hB1 (by simp [go_sem])
      have b3 : w1.cell? ⟨u0.heap.size, 3, none⟩ = some (.int .i64 0) := cel5 hB1 (by simp [go_sem])
      have b4 : w1.cell? ⟨u0.heap.size, 4, none⟩ = some (.slice (some ⟨g, 0, none⟩) 1 rc) := cel5 hB1 (by simp [go_sem])
      have hs1 := cel5 hB1 (cel5 (al5 _ _) hs)
      have BB := st5 (st5 HB2 (al5 _ _)) hB1
      have HO : Hid (SPart (w.heap.size + 1 + 1) w1 0 0 gp cp gl cl) := hO1.mono (by omega)
      clear hB1 a0 a1 a2 h0 h1 h2 h3 h4 HB2 hs hO1
      have b0a : ∀ o, (w1.alloc o).cell? ⟨u0.heap.size, 0, none⟩ = some (.int .i64 0) := fun o => cel5 (al5 _ o) b0
      have b1a : ∀ o, (w1.alloc o).cell? ⟨u0.heap.size, 1, none⟩ = some (.int .i64 0) := fun o => cel5 (al5 _ o) b1
      have b2a : ∀ o, (w1.alloc o).cell? ⟨u0.heap.size, 2, none⟩ = some (.int .i64 0) := fun o => cel5 (al5 _ o) b2
      have b3a : ∀ o, (w1.alloc o).cell? ⟨u0.heap.size, 3, none⟩ = some (.int .i64 0) := fun o => cel5 (al5 _ o) b3
      have b4a : ∀ o, (w1.alloc o).cell? ⟨u0.heap.size, 4, none⟩ = some (.slice (some ⟨g, 0, none⟩) 1 rc) := fun o => cel5 (al5 _ o) b4
      go_wp2_with fail
      refine (specGood_any 0 0 0 0 [⟨#[]⟩] _ _ _ (strs_one (cel5 (al5 _ _) hs1)) (by unfold maxLen; simp)).mono ?_
      rintro r w2 ⟨rfl, hB2⟩
      rw [good_first]
      have l2 := hB2.size
      simp only [World.size_alloc] at l2
      replace p0 : w2.cell? ⟨w.heap.size + 1, 0, none⟩ = some (.slice none 0 0) := cel5 hB2 (cel5 (al5 _ _) p0)
      replace p1 : w2.cell? ⟨w.heap.size + 1, 1, none⟩ = some (.slice none 0 0) := cel5 hB2 (cel5 (al5 _ _) p1)
      replace p2 : w2.cell? ⟨w.heap.size + 1, 2, none⟩ = some (.int .i64 0) := cel5 hB2 (cel5 (al5 _ _) p2)
      replace r0 : w2.cell? ⟨w.heap.size, 0, none⟩ = some (.slice none 0 0) := cel5 hB2 (cel5 (al5 _ _) r0)
      replace r1 : w2.cell? ⟨w.heap.size, 1, none⟩ = some (.slice none 0 0) := cel5 hB2 (cel5 (al5 _ _) r1)
      replace r2 : w2.cell? ⟨w.heap.size, 2, none⟩ = some (.int .i64 0) := cel5 hB2 (cel5 (al5 _ _) r2)
      replace f0 : ∀ o, w2.frozen? ⟨w.heap.size, o, none⟩ = false := fun o => fz5 hB2 (by simp; omega) (fz5 (al5 _ _) (by omega) (f0 o))
      replace f1 : ∀ o, w2.frozen? ⟨w.heap.size + 1, o, none⟩ = false := fun o => fz5 hB2 (by simp; omega) (fz5 (al5 _ _) (by omega) (f1 o))
      replace b0 : w2.cell? ⟨u0.heap.size, 0, none⟩ = some (.int .i64 0) := cel5 hB2 (b0a _)
      have q0 : w2.cell? ⟨w1.heap.size, 0, none⟩ = some (.slice (some ⟨gp, 0, none⟩) 1 cp) := cel5 hB2 (by simp [go_sem])
      have q1 : w2.cell? ⟨w1.heap.size, 1, none⟩ = some (.slice (some ⟨gl, 0, none⟩) 1 cl) := cel5 hB2 (by simp [go_sem])
      have q2 : w2.cell? ⟨w1.heap.size, 2, none⟩ = some (.int .i64 1) := cel5 hB2 (by simp [go_sem])
      have HO2 : Hid (SPart (w.heap.size + 1 + 1) w2 0 0 gp cp gl cl) := (HO.out.below (al5 _ _)).below hB2
      replace BB := st5 (st5 BB (al5 _ _)) hB2
      clear hB2 b0a b1a b2a b3a b4a b1 b2 b3 b4 hs1 HO
      have HR : Hid (RsSt w (((w2.setCell ⟨w.heap.size + 1, 0, none⟩ (.slice (some ⟨gp, 0, none⟩) 1 cp)).setCell ⟨w.heap.size + 1, 1, none⟩ (.slice (some ⟨gl, 0, none⟩) 1 cl)).setCell ⟨w.heap.size + 1, 2, none⟩ (.int .i64 1))) := by
        refine ⟨gp, cp, gl, cl, by simp [go_sem, p0], by simp [go_sem, p1], by simp [go_sem, p2], ⟨_, _, _, sc5 (by omega) (sc5 (by omega) (sc5 (by omega) r0)), sc5 (by omega) (sc5 (by omega) (sc5 (by omega) r1)), sc5 (by omega) (sc5 (by omega) (sc5 (by omega) r2))⟩, fun o => by simp [go_sem, f0], ?_, ?_⟩
        · exact ((HO2.out.set (by omega)).set (by omega)).set (by omega)
        · exact ((BB.setCell (by simp) _).setCell (by simp) _).setCell (by simp) _
      go_wp2
      go_roundw
      case rel => exact .inr ⟨by first | rfl | go_num, HR.out⟩
      case measure => simp [intOf]
    · go_wp2
      refine bodyPost_ret (v := .tuple #[.agg #[.slice (some ⟨gp, 0, none⟩) 1 cp, .slice (some ⟨gl, 0, none⟩) 1 cl, .int .i64 1], .bool true]) (by simp [results, Try.results19, go_sem, d0, d1, d2]) rfl ⟨gp, cp, gl, cl, rfl, ?_, ?_⟩
      · exact (((hO.set (by omega)).set (by omega)).set (by omega)).mono (by omega)
      · exact ((hB.setCell (Nat.le_refl _) _).setCell (Nat.le_refl _) _).setCell (Nat.le_refl _) _

set_option maxRecDepth 100000 in
set_option maxHeartbeats 4000000 in
theorem specNewPart_any (HA : AskC) (w : World) : Calls Try.prog 5 #[] w fun r w' => NpAns w r w' := by
  go_enter Try.func5, Try.ntmps5
  go_wp2_with fail
  refine (l5First_any _).mono ?_
  rintro r w1 ⟨g, rfl, hst, hB1⟩
  have hs : w1.cell? ⟨g, 0, none⟩ = some (.string ⟨#[]⟩) := by
    obtain ⟨b, o, e, hc, -⟩ := hst 0 ⟨#[]⟩ rfl
    simp only [Option.some.injEq, Addr.mk.injEq, and_true] at e
    obtain ⟨rfl, rfl⟩ := e
    exact hc
  have l1 := hB1.size
  simp only [World.size_alloc] at l1
  have BB := st5 (al5 w _) hB1
  have r0 : w1.cell? ⟨w.heap.size, 0, none⟩ = some (.slice none 0 0) := cel5 hB1 (by simp [go_sem])
  have r1 : w1.cell? ⟨w.heap.size, 1, none⟩ = some (.slice none 0 0) := cel5 hB1 (by simp [go_sem])
  have r2 : w1.cell? ⟨w.heap.size, 2, none⟩ = some (.int .i64 0) := cel5 hB1 (by simp [go_sem])
  have f0 : ∀ o, w1.frozen? ⟨w.heap.size, o, none⟩ = false := fun o => fz5 hB1 (by simp) (by simp [go_sem])
  clear hB1 hst
  go_wp2_with fail
  refine (l5Rebuild_one HA _ _ g 1 _ ?c0 ?c1 ?c2 ?c3 ?c4 (cel5 (al5 _ _) hs)).mono ?_
  case c0 => simp [go_sem]
  case c1 => simp [go_sem]
  case c2 => simp [go_sem]
  case c3 => simp [go_sem]
  case c4 => simp [go_sem]
  rintro r w2 ⟨gp, cp, gl, cl, rfl, hO, hB2⟩
  have l2 := hB2.size
  simp only [World.size_alloc] at l2 hO
  replace r0 := cel5 hB2 (cel5 (al5 _ _) r0)
  replace r1 := cel5 hB2 (cel5 (al5 _ _) r1)
  replace r2 := cel5 hB2 (cel5 (al5 _ _) r2)
  replace f0 : ∀ o, w2.frozen? ⟨w.heap.size, o, none⟩ = false := fun o => fz5 hB2 (by simp; omega) (fz5 (al5 _ _) (by omega) (f0 o))
  replace BB := st5 (st5 BB (al5 _ _)) hB2
  have HO : Hid (SPart (w.heap.size + 1) w2 0 0 gp cp gl cl) := hO.mono (by omega)
  clear hO hB2 hs
  have r0a : ∀ o, (w2.alloc o).cell? ⟨w.heap.size, 0, none⟩ = some (.slice none 0 0) := fun o => cel5 (al5 _ o) r0
  have r1a : ∀ o, (w2.alloc o).cell? ⟨w.heap.size, 1, none⟩ = some (.slice none 0 0) := fun o => cel5 (al5 _ o) r1
  have r2a : ∀ o, (w2.alloc o).cell? ⟨w.heap.size, 2, none⟩ = some (.int .i64 0) := fun o => cel5 (al5 _ o) r2
  have f0a : ∀ o q, (w2.alloc o).frozen? ⟨w.heap.size, q, none⟩ = false := fun o q => fz5 (al5 _ o) (by omega) (f0 q)
  have HOO : Hid (∀ x, SPart (w.heap.size + 1) (w2.alloc x) 0 0 gp cp gl cl) := fun x => HO.out.below (al5 _ _)
  have BBB : ∀ x, Below w.heap.size w (w2.alloc x) := fun x => st5 BB (al5 _ _)
  clear r0 r1 r2 f0 BB HO
  go_wp2
  have HF := fun x a b c => (((HOO.out x).set (k := w.heap.size) (o := 0) (x := a) (by omega)).set (k := w.heap.size) (o := 1) (x := b) (by omega)).set (k := w.heap.size) (o := 2) (x := c) (by omega)
  refine bodyPost_ret (v := .agg #[.slice (some ⟨gp, 0, none⟩) 1 cp, .slice (some ⟨gl, 0, none⟩) 1 cl, .int .i64 1]) (by simp [results, Try.results5, go_sem, r0a, r1a, r2a]) rfl ⟨gp, cp, gl, cl, rfl, ?_, ?_, ?_⟩
  · exact (HF _ _ _ _).out.1
  · exact (HF _ _ _ _).out.2
  · exact (((BBB _).setCell (Nat.le_refl _) _).setCell (Nat.le_refl _) _).setCell (Nat.le_refl _) _

end Go.Proofs.Ythbhokpjedndaaa
