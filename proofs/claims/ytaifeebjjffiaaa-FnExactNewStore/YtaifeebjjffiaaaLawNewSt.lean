/-
  The walk of the law FnExactNewStore: at every number it answers true and leaves what was there as it was.
-/
import Derived.Test.YtaifeebjjffiaaaNewSt
namespace Go.Proofs.Ytaifeebjjffiaaa
open Go.RowKit

theorem Below.stepN {W a b : World} (h : Below W.heap.size W a) (k : Below a.heap.size a b) : Below W.heap.size W b := h.trans (k.mono h.size)

theorem SegV.form {w : World} {B : Nat} {v : Value} {n : Nat} {x : Int} {s : ByteArray} (h : SegV w B v n x s) : ∃ a c, v = .slice a n c := by
  rcases h with ⟨rfl, rfl⟩ | ⟨rfl, g, rfl, -⟩
  · exact ⟨none, 0, rfl⟩
  · exact ⟨_, 1, rfl⟩

theorem ownBlock_of {w : World} {B : Nat} {v : Value} {n : Nat} {x : Int} {s : ByteArray} (h : SegV w B v n x s) {b : Nat} (e : v.ownBlock = some b) : B ≤ b := by
  rcases h with ⟨rfl, rfl⟩ | ⟨rfl, g, rfl, hg, -⟩
  · cases e
  · simp [Value.ownBlock] at e; omega

theorem own_lt {w : World} {B : Nat} {v : Value} {n : Nat} {x : Int} {s : ByteArray} (h : SegV w B v n x s) {b : Nat} (e : v.ownBlock = some b) : b < w.heap.size := by
  rcases h with ⟨rfl, rfl⟩ | ⟨rfl, g, rfl, hg, hR⟩
  · cases e
  · simp [Value.ownBlock] at e; have := hR.lt; omega

theorem SegV.stay {w w' : World} {B : Nat} {v : Value} {n : Nat} {x : Int} {s : ByteArray} (h : SegV w B v n x s) (hs : ∀ b, v.ownBlock = some b → w'.heap[b]? = w.heap[b]?) : SegV w' B v n x s := by
  rcases h with h | ⟨h, g, rfl, hg, hR⟩
  · exact .inl h
  · exact .inr ⟨h, g, rfl, hg, hR.of_block (hs g rfl)⟩

set_option maxRecDepth 100000 in
set_option maxHeartbeats 2000000 in
theorem lawNewStore_any (x : Int) (w : World) : Calls Try.prog 3 #[.int .i64 x] w fun r w' => r = .returned (.bool true) ∧ Below w.heap.size w w' := by
  have ha : ∀ (u : World) o, Below u.heap.size u (u.alloc o) := fun u o => (Below.refl _ _).alloc (Nat.le_refl _) o
  have hT : ∀ i : Bool, (i != i) = false := fun i => by cases i <;> rfl
  have hn : nOf x ≤ 1 := by unfold nOf; split <;> omega
  have HI0 := implNew_any x
  have HS := specNew_any x w
  generalize yOf x = y at *
  generalize nOf x = n at *
  generalize inB x 0 100000 = i at *
  have HI : Hid (∀ (w : World), Calls Try.prog 5 #[.int .i64 x] w fun r w' => ∃ v, r = .returned (.tuple #[.agg #[v, .int .i64 y], .bool i]) ∧ SegV w' w.heap.size v n x ⟨#[]⟩ ∧ Below w.heap.size w w') := HI0
  clear HI0
  go_enter Try.func3, Try.ntmps3
  go_wp2_with fail
  refine HS.mono ?_
  rintro r w1 ⟨v1, rfl, hV1, hB1⟩
  obtain ⟨a1, c1, rfl⟩ := hV1.form
  have hW1 := hB1
  clear HS
  go_wp2_with fail
  refine (HI.out _).mono ?_
  rintro r w2 ⟨v2, rfl, hV2, hB2⟩
  obtain ⟨a2, c2, rfl⟩ := hV2.form
  obtain ⟨k2, -⟩ := bcellN hB2
  have hV1w := hV1
  have hV1 := (hV1.below (ha _ _)).below hB2
  have hW2 := Below.stepN (Below.stepN hB1 (ha _ _)) hB2
  simp only [World.size_alloc] at k2 hV2
  have l2 : w1.heap.size < w2.heap.size := by have := hB2.size; simp at this; omega
  have l1 := hB1.size
  clear hB1 hB2 hW1
  go_wp2_with fail
  refine (eqStore_one _ _ n x y _ _ _ (hV2.below (ha _ _)) (hV1.below (ha _ _))).mono ?_
  rintro r w3 ⟨rfl, hB3⟩
  obtain ⟨k3, -⟩ := bcellN hB3
  have hV2' := (hV2.below (ha _ _)).below hB3
  have hV1' := (hV1.below (ha _ _)).below hB3
  have hW3 := Below.stepN (Below.stepN hW2 (ha _ _)) hB3
  simp only [World.size_alloc] at k3
  have l3 : w2.heap.size < w3.heap.size := by have := hB3.size; simp at this; omega
  have hi := hT i
  clear hB3 hW2
  go_wp2_with fail
  have HL1 : Hid (∀ b, (Value.slice a1 n c1).ownBlock = some b → b < w1.heap.size) := fun b e => own_lt hV1w e
  have n1 : (Value.slice a2 n c2).ownBlock ≠ some w1.heap.size := fun e => by
    have := ownBlock_of hV2' e; omega
  have n2 : (Value.slice a2 n c2).ownBlock ≠ some w2.heap.size := fun e => by
    have := own_lt hV2 e; omega
  refine (markStore_one _ n x y _ _ 1 _ hV2' (by omega) (by omega) (by omega)).mono ?_
  rintro r w4 ⟨rfl, hM4, hB4, hO4⟩
  have d0 : w3.cell? ⟨w2.heap.size, 0, none⟩ = some (.slice a2 n c2) := by rw [k3 _ _ (Nat.lt_succ_self _)]; simp
  have d1 : w3.cell? ⟨w2.heap.size, 1, none⟩ = some (.int .i64 y) := by rw [k3 _ _ (Nat.lt_succ_self _)]; simp
  have e0 : w3.cell? ⟨w1.heap.size, 0, none⟩ = some (.slice a1 n c1) := by
    rw [k3 _ _ (by omega), World.cell?_alloc_old w2 _ ⟨w1.heap.size, 0, none⟩ (by simp; omega), k2 _ _ (Nat.lt_succ_self _)]; simp
  have e1 : w3.cell? ⟨w1.heap.size, 1, none⟩ = some (.int .i64 y) := by
    rw [k3 _ _ (by omega), World.cell?_alloc_old w2 _ ⟨w1.heap.size, 1, none⟩ (by simp; omega), k2 _ _ (Nat.lt_succ_self _)]; simp
  have p2 := hO4 w2.heap.size l3 n2
  have p1 := hO4 w1.heap.size (by omega) n1
  have d0 := (World.cell?_of_block (a := ⟨w2.heap.size, 0, none⟩) p2).trans d0
  have d1 := (World.cell?_of_block (a := ⟨w2.heap.size, 1, none⟩) p2).trans d1
  have e0 := (World.cell?_of_block (a := ⟨w1.heap.size, 0, none⟩) p1).trans e0
  have e1 := (World.cell?_of_block (a := ⟨w1.heap.size, 1, none⟩) p1).trans e1
  have hW4 : Below w.heap.size w w4 := hW3.trans (hB4.mono (by have := hW3.size; omega))
  have hX1 := hV1'.stay (w' := w4) (fun b e => hB4.block b (by have := HL1.out b e; omega))
  have hm : (((1 : Nat) : Int) + 2 * (n : Int) != ((1 : Nat) : Int) + 2 * (n : Int)) = false := by simp
  have hp : ¬ (((1 : Nat) : Int) + 2 * (n : Int) < 0) := by omega
  clear k2 k3 p1 p2 hO4 hV2 hV2' hB4 hW3 hV1 hV1' HL1 n1 n2 hV1w
  go_wp2_with fail
  refine (heldStore_one _ n y _ 1 _ hM4 (by omega) (by omega)).mono ?_
  rintro r w5 ⟨rfl, hB5⟩
  obtain ⟨k5, -⟩ := bcellN hB5
  have hW5 := Below.stepN hW4 hB5
  have d0 := (k5 _ _ (lt_of_cell d0)).trans d0
  have d1 := (k5 _ _ (lt_of_cell d1)).trans d1
  have e0 := (k5 _ _ (lt_of_cell e0)).trans e0
  have e1 := (k5 _ _ (lt_of_cell e1)).trans e1
  have hM5 := hM4.below hB5
  have hX5 := hX1.below hB5
  clear k5 hB5 hW4 hM4 hX1
  go_wp2_with fail
  refine (HI.out _).mono ?_
  rintro r w6 ⟨v6, rfl, hV6, hB6⟩
  obtain ⟨a6, c6, rfl⟩ := hV6.form
  obtain ⟨k6, -⟩ := bcellN hB6
  have hW6 := Below.stepN hW5 hB6
  have m1 := lt_of_cell d0
  have m2 := lt_of_cell e0
  have d0 := (k6 _ _ (lt_of_cell d0)).trans d0
  have d1 := (k6 _ _ (lt_of_cell d1)).trans d1
  have e0 := (k6 _ _ (lt_of_cell e0)).trans e0
  have e1 := (k6 _ _ (lt_of_cell e1)).trans e1
  have hM6 := hM5.below hB6
  have hX6 := hX5.below hB6
  have l6 := hB6.size
  have j1 : ¬ w2.heap.size = w6.heap.size := by omega
  have j2 : ¬ w1.heap.size = w6.heap.size := by omega
  have D0 : ∀ o, (w6.alloc o).cell? ⟨w2.heap.size, 0, none⟩ = some (.slice a2 n c2) := fun o => (World.cell?_alloc_old w6 _ ⟨w2.heap.size, 0, none⟩ (by simpa using j1)).trans d0
  have D1 : ∀ o, (w6.alloc o).cell? ⟨w2.heap.size, 1, none⟩ = some (.int .i64 y) := fun o => (World.cell?_alloc_old w6 _ ⟨w2.heap.size, 1, none⟩ (by simpa using j1)).trans d1
  have E0 : ∀ o, (w6.alloc o).cell? ⟨w1.heap.size, 0, none⟩ = some (.slice a1 n c1) := fun o => (World.cell?_alloc_old w6 _ ⟨w1.heap.size, 0, none⟩ (by simpa using j2)).trans e0
  have E1 : ∀ o, (w6.alloc o).cell? ⟨w1.heap.size, 1, none⟩ = some (.int .i64 y) := fun o => (World.cell?_alloc_old w6 _ ⟨w1.heap.size, 1, none⟩ (by simpa using j2)).trans e1
  clear k6 hB6 hW5 hM5 hX5 HI d0 d1 e0 e1
  go_wp2_with fail
  refine (eqStore_one _ _ n x y _ _ _ (hV6.below (ha _ _)) (hX6.below (ha _ _))).mono ?_
  rintro r w7 ⟨rfl, hB7⟩
  obtain ⟨k7, -⟩ := bcellN hB7
  have hW7 := Below.stepN (Below.stepN hW6 (ha _ _)) hB7
  have d0 := (k7 w2.heap.size 0 (by simp; omega)).trans (D0 _)
  have d1 := (k7 w2.heap.size 1 (by simp; omega)).trans (D1 _)
  have hM7 := (hM6.below (ha _ _)).below hB7
  clear k7 hB7 hW6 hM6 hX6 hV6 E0 E1 D0 D1
  go_wp2_with fail
  refine (heldStore_one _ n y _ 1 _ hM7 (by omega) (by omega)).mono ?_
  rintro r w8 ⟨rfl, hB8⟩
  have hW8 := Below.stepN hW7 hB8
  clear hB8 hW7 hM7
  go_wp2
  go_ret
  exact ⟨rfl, hW8⟩

end Go.Proofs.Ytaifeebjjffiaaa
