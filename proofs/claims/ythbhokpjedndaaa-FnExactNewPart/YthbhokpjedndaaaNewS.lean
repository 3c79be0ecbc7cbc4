/-
  A new part, the specification's side: what spec's helpers answer at a part with no producer.
-/
import Derived.Test.YthbhokpjedndaaaNewI2
namespace Go.Proofs.Ythbhokpjedndaaa
open Go.RowKit

set_option maxHeartbeats 1000000 in
theorem l5At_nil (a : Option Addr) (c : Nat) (id : Int) (w : World) :
    Calls Try.prog 77 #[.slice a 0 c, .int .i64 id] w fun r w' => r = .returned (.int .i64 (-1)) ∧ Below w.heap.size w w' := by
  go_enter Try.func77, Try.ntmps77
  go_wp2
  go_loopw [9] (fun i wr => i = .int .i64 0 ∧ Below w.heap.size w wr) (fun _ _ => 0)
  case atStart => exact ⟨rfl, Below.refl _ _⟩
  case round =>
    obtain ⟨rfl, hB⟩ := hrel
    go_wp2
    go_ret
    exact ⟨rfl, hB⟩

set_option maxHeartbeats 2000000 in
theorem l5Code_nil (id ep z : Int) (a : Option Addr) (n c : Nat) (hn : n ≤ 8) (w : World) :
    Calls Try.prog 63 #[.agg #[.slice none 0 0, .slice none 0 0, .int .i64 z], .agg #[.int .i64 id, .int .i64 ep, .int .i64 0, .slice a n c]] w fun r w' => r = .returned (.tuple #[.int .i64 0, .int .i64 z]) ∧ Below w.heap.size w w' := by
  have hb : ∀ x y, Below w.heap.size w ((w.alloc x).alloc y) := fun _ _ => ((Below.refl _ _).alloc (Nat.le_refl _) _).alloc (by simp) _
  have hd : decide (65535 < (n : Int) - 1) = false := decide_eq_false (by omega)
  go_enter Try.func63, Try.ntmps63
  go_wp2_with fail
  refine (l5At_nil _ _ _ _).mono ?_
  rintro r w1 ⟨rfl, hB1⟩
  have BB := st5 (hb _ _) hB1
  have p0 : w1.cell? ⟨w.heap.size, 0, none⟩ = some (.slice none 0 0) := cel5 hB1 (by simp)
  have p1 : w1.cell? ⟨w.heap.size, 1, none⟩ = some (.slice none 0 0) := cel5 hB1 (by simp)
  have p2 : w1.cell? ⟨w.heap.size, 2, none⟩ = some (.int .i64 z) := cel5 hB1 (by simp)
  have q0 : w1.cell? ⟨w.heap.size + 1, 0, none⟩ = some (.int .i64 id) := cel5 hB1 (by simp)
  have q1 : w1.cell? ⟨w.heap.size + 1, 1, none⟩ = some (.int .i64 ep) := cel5 hB1 (by simp)
  have q2 : w1.cell? ⟨w.heap.size + 1, 2, none⟩ = some (.int .i64 0) := cel5 hB1 (by simp)
  have q3 : w1.cell? ⟨w.heap.size + 1, 3, none⟩ = some (.slice a n c) := cel5 hB1 (by simp)
  clear hB1
  go_wp2
  go_quiet (fail)
  go_wp2
  go_quiet (fail)
  go_wp2
  go_quiet (fail)
  go_wp2
  exact bodyPost_ret (v := .tuple #[.int .i64 0, .int .i64 z]) (by simp [results, Try.results63, go_sem]) rfl ⟨rfl, below_drewN (below_drewN BB _) _⟩

theorem strs_one {w : World} {g : Nat} (h : w.cell? ⟨g, 0, none⟩ = some (.string ⟨#[]⟩)) : Strs w (some ⟨g, 0, none⟩) [⟨#[]⟩] := fun i s hi => by
  have h0 : i = 0 := by have := (List.getElem?_eq_some_iff.1 hi).1; simp at this; exact this
  subst h0
  simp at hi
  subst hi
  exact ⟨_, 0, rfl, h, Nat.zero_le _⟩

set_option maxHeartbeats 1000000 in
theorem l5First_any (w : World) :
    Calls Try.prog 20 #[] w fun r w' => ∃ g, r = .returned (.agg #[.int .i64 0, .int .i64 0, .int .i64 0, .int .i64 0, .slice (some ⟨g, 0, none⟩) 1 1]) ∧ Strs w' (some ⟨g, 0, none⟩) [⟨#[]⟩] ∧ Below w.heap.size w w' := by
  go_enter Try.func20, Try.ntmps20
  go_wp2
  refine bodyPost_ret (v := .agg #[.int .i64 0, .int .i64 0, .int .i64 0, .int .i64 0, .slice (some ⟨w.heap.size + 1, 0, none⟩) 1 1]) (by simp [results, Try.results20, go_sem]) rfl ⟨_, rfl, strs_one (by simp [go_sem]), ?_⟩
  exact ((Below.refl _ _).alloc (Nat.le_refl _) _).alloc (by simp) _

theorem owns_empty {w : World} {B g : Nat} {t : TypeId} {size : Nat} (h : w.heap[g]? = some (.cells #[] t (0, 0))) (hg : B ≤ g) : w.ownsRow B t size (.slice (some ⟨g, 0, none⟩) 0 0) 0 [] := by
  refine ⟨by simp, .inr ⟨g, 0, #[], rfl, hg, h, Nat.le_refl _, ?_, by simp, by simp⟩⟩
  unfold maxLen; omega

end Go.Proofs.Ythbhokpjedndaaa
