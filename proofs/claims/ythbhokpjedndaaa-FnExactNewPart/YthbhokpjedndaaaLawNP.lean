/-
  The walk of the law FnExactNewPart, the contract of spec.NewPart given: it answers true and leaves what was there as it was.
-/
import Derived.Test.YthbhokpjedndaaaOneP
namespace Go.Proofs.Ythbhokpjedndaaa
open Go.RowKit

/-- What spec.NewPart answers. -/
def NpAns (w : World) (r : Ending) (w' : World) : Prop :=
  ∃ gp cp gl cl, r = .returned (.agg #[.slice (some ⟨gp, 0, none⟩) 1 cp, .slice (some ⟨gl, 0, none⟩) 1 cl, .int .i64 1]) ∧ Prs w' (some ⟨gp, 0, none⟩) [prOne 0 0 0 [⟨#[]⟩]] ∧ Bats w' (some ⟨gl, 0, none⟩) [btOne 0 0 0 [⟨#[]⟩]] ∧ Below w.heap.size w w'

set_option maxRecDepth 100000 in
set_option maxHeartbeats 4000000 in
theorem lawNewPartH (w : World) (HS : ∀ u, Calls Try.prog 5 #[] u fun r u' => NpAns u r u') :
    Calls Try.prog 3 #[] w fun r w' => r = .returned (.bool true) ∧ Below w.heap.size w w' := by
  have hone : (1 : Nat) ≤ maxLen := by unfold maxLen; omega
  have hsm : ∀ s, s ∈ [(⟨#[]⟩ : ByteArray)] → s.size ≤ maxLen := fun s h => by obtain rfl := List.mem_singleton.1 h; exact Nat.zero_le _
  go_enter Try.func3, Try.ntmps3
  go_wp2_with fail
  refine (HS _).mono ?_
  rintro r w1 ⟨gp, cp, gl, cl, rfl, HP, HL, BB⟩
  have l0 := BB.size
  clear HS
  go_wp2_with fail
  refine (implNewPart_any _).mono ?_
  rintro r w2 ⟨hp, kp, hl, kl, rfl, hO, hB2⟩
  simp only [World.size_alloc] at hO
  have v0 : w2.cell? ⟨w1.heap.size, 0, none⟩ = some (.slice (some ⟨gp, 0, none⟩) 1 cp) := cel5 hB2 (by simp)
  have v1 : w2.cell? ⟨w1.heap.size, 1, none⟩ = some (.slice (some ⟨gl, 0, none⟩) 1 cl) := cel5 hB2 (by simp)
  have v2 : w2.cell? ⟨w1.heap.size, 2, none⟩ = some (.int .i64 1) := cel5 hB2 (by simp)
  have l1 := hB2.size
  simp only [World.size_alloc] at l1
  have BW : Below w1.heap.size w1 w2 := st5 (al5 _ _) hB2
  clear hB2
  obtain ⟨pq, q, e1, e2, hPr, hBt, hPR, hLR, hdis⟩ := hO.out hsm (by simp)
  have lP : ∀ b, InPs (some ⟨hp, 0, none⟩) [pq] b → w1.heap.size + 1 ≤ b ∧ b < w2.heap.size := fun b hb => hPR.lt hb
  have lL : ∀ b, InLog (some ⟨hl, 0, none⟩) [q] b → w1.heap.size + 1 ≤ b ∧ b < w2.heap.size := fun b hb => hLR.lt hb
  have E1 : Hid (pq.b.win.length = 1) := by show _ = _; rw [e1]; rfl
  have E2 : Hid (q.b.recs.length = 1) := by show _ = _; rw [e2]; rfl
  clear hO e1 e2
  have v0a : ∀ o, (w2.alloc o).cell? ⟨w1.heap.size, 0, none⟩ = some (.slice (some ⟨gp, 0, none⟩) 1 cp) := fun o => cel5 (al5 _ o) v0
  have v1a : ∀ o, (w2.alloc o).cell? ⟨w1.heap.size, 1, none⟩ = some (.slice (some ⟨gl, 0, none⟩) 1 cl) := fun o => cel5 (al5 _ o) v1
  have v2a : ∀ o, (w2.alloc o).cell? ⟨w1.heap.size, 2, none⟩ = some (.int .i64 1) := fun o => cel5 (al5 _ o) v2
  have BWa : ∀ o, Below w1.heap.size w1 (w2.alloc o) := fun o => st5 BW (al5 _ o)
  go_wp2_with fail
  refine (eqPart_same _ _ _ _ _ _ _ _ 1 [prOne 0 0 0 [⟨#[]⟩]] [btOne 0 0 0 [⟨#[]⟩]] _ (hPr.below (al5 _ _)) (HP.below (BWa _)) hone (hBt.below (al5 _ _)) (HL.below (BWa _)) hone).mono ?_
  rintro r w3 ⟨rfl, hB3⟩
  have k0 : w3.cell? ⟨w2.heap.size, 0, none⟩ = some (.slice (some ⟨hp, 0, none⟩) 1 kp) := cel5 hB3 (by simp)
  have k1 : w3.cell? ⟨w2.heap.size, 1, none⟩ = some (.slice (some ⟨hl, 0, none⟩) 1 kl) := cel5 hB3 (by simp)
  have k2 : w3.cell? ⟨w2.heap.size, 2, none⟩ = some (.int .i64 1) := cel5 hB3 (by simp)
  replace v0 := cel5 hB3 (v0a _)
  replace v1 := cel5 hB3 (v1a _)
  replace v2 := cel5 hB3 (v2a _)
  have l2 := hB3.size
  simp only [World.size_alloc] at l2
  replace BW := st5 (BWa _) hB3
  replace hPR := (hPR.below (al5 _ _)).below hB3
  replace hLR := (hLR.below (al5 _ _)).below hB3
  clear hB3 hPr hBt v0a v1a v2a BWa
  have hK : kTo [q] (pTo [pq] 1) ≤ 1000 := by
    have h1 := E1.out
    have h2 := E2.out
    simp only [kTo, pTo]
    omega
  have hK1 : 1 ≤ kTo [q] (pTo [pq] 1) := Nat.le_trans (pTo_ge [pq] 1) (kTo_ge [q] _)
  go_wp2_with fail
  refine (markPart_any _ _ _ _ (w1.heap.size + 1) 1 1 [pq] [q] _ hPR (fun x hx => by obtain rfl := List.mem_singleton.1 hx; have := E1.out; omega) (by simp) hLR (fun x hx => by obtain rfl := List.mem_singleton.1 hx; have := E2.out; omega) (by simp) hdis (by omega) (by omega)).mono ?_
  rintro r w4 ⟨rfl, HM, HN, hB4, hO4⟩
  have off : ∀ b o x, (b = w1.heap.size ∨ b = w2.heap.size) → w3.cell? ⟨b, o, none⟩ = some x → w4.cell? ⟨b, o, none⟩ = some x := fun b o x hb hx => by
    have hlt := lt_of_cell hx
    rw [World.cell?_of_block (a := ⟨b, o, none⟩) (hO4 b hlt (fun h => by have := lP b h; omega) (fun h => by have := lL b h; omega))]
    exact hx
  replace v0 := off _ _ _ (.inl rfl) v0
  replace v1 := off _ _ _ (.inl rfl) v1
  replace v2 := off _ _ _ (.inl rfl) v2
  replace k0 := off _ _ _ (.inr rfl) k0
  replace k1 := off _ _ _ (.inr rfl) k1
  replace k2 := off _ _ _ (.inr rfl) k2
  replace BW := BW.trans (hB4.mono (by omega))
  generalize hKK : kTo [q] (pTo [pq] 1) = K at *
  have HKK : Hid (kTo [q] (pTo [pq] 1) = K) := hKK
  clear hKK hB4 hO4 off hPR hLR
  have hm : (((K : Nat) : Int) != ((K : Nat) : Int)) = false := by simp
  have hp0 : ¬ (((K : Nat) : Int) < 0) := by omega
  go_wp2_with fail
  refine (heldPart_any _ _ _ _ 1 1 [pq] [q] _ HM (by simp) HN (by simp) (by omega) (by rw [HKK.out]; omega)).mono ?_
  rintro r w5 ⟨hr, hB5⟩
  rw [HKK.out] at hr
  subst hr
  replace v0 := cel5 hB5 v0
  replace v1 := cel5 hB5 v1
  replace v2 := cel5 hB5 v2
  replace k0 := cel5 hB5 k0
  replace k1 := cel5 hB5 k1
  replace k2 := cel5 hB5 k2
  replace BW := st5 BW hB5
  replace HM := HM.below hB5
  replace HN := HN.below hB5
  clear hB5
  go_wp2_with fail
  refine (implNewPart_any _).mono ?_
  rintro r w6 ⟨jp, mp, jl, ml, rfl, hO6, hB6⟩
  obtain ⟨pq6, q6, -, -, hPr6, hBt6, -, -, -⟩ := hO6.out hsm (by simp)
  have v0a : ∀ o, (w6.alloc o).cell? ⟨w1.heap.size, 0, none⟩ = some (.slice (some ⟨gp, 0, none⟩) 1 cp) := fun o => cel5 (al5 _ o) (cel5 hB6 v0)
  have v1a : ∀ o, (w6.alloc o).cell? ⟨w1.heap.size, 1, none⟩ = some (.slice (some ⟨gl, 0, none⟩) 1 cl) := fun o => cel5 (al5 _ o) (cel5 hB6 v1)
  have v2a : ∀ o, (w6.alloc o).cell? ⟨w1.heap.size, 2, none⟩ = some (.int .i64 1) := fun o => cel5 (al5 _ o) (cel5 hB6 v2)
  have BWa : ∀ o, Below w1.heap.size w1 (w6.alloc o) := fun o => st5 (st5 BW hB6) (al5 _ o)
  replace k0 := cel5 hB6 k0
  replace k1 := cel5 hB6 k1
  replace k2 := cel5 hB6 k2
  replace HM := HM.below hB6
  replace HN := HN.below hB6
  clear hB6 v0 v1 v2 hO6 BW
  go_wp2_with fail
  refine (eqPart_same _ _ _ _ _ _ _ _ 1 [prOne 0 0 0 [⟨#[]⟩]] [btOne 0 0 0 [⟨#[]⟩]] _ (hPr6.below (al5 _ _)) (HP.below (BWa _)) hone (hBt6.below (al5 _ _)) (HL.below (BWa _)) hone).mono ?_
  rintro r w7 ⟨rfl, hB7⟩
  have BW7 := st5 (BWa _) hB7
  replace k0 := cel5 hB7 (cel5 (al5 _ _) k0)
  replace k1 := cel5 hB7 (cel5 (al5 _ _) k1)
  replace k2 := cel5 hB7 (cel5 (al5 _ _) k2)
  replace HM := (HM.below (al5 _ _)).below hB7
  replace HN := (HN.below (al5 _ _)).below hB7
  clear hB7 v0a v1a v2a BWa hPr6 hBt6
  go_wp2_with fail
  refine (heldPart_any _ _ _ _ 1 1 [pq] [q] _ HM (by simp) HN (by simp) (by omega) (by rw [HKK.out]; omega)).mono ?_
  rintro r w8 ⟨hr, hB8⟩
  rw [HKK.out] at hr
  subst hr
  have BF := BB.trans ((st5 BW7 hB8).mono l0)
  clear hB8 HM HN BW7
  go_wp2
  go_ret
  exact ⟨rfl, BF⟩

end Go.Proofs.Ythbhokpjedndaaa
