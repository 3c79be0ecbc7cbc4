/-
  A new part, the program's side: what impl's helpers answer at a part with no producer.
-/
import Derived.Test.YthbhokpjedndaaaPartMk
import Derived.WalkMore
import Derived.ScopeJumps
namespace Go.Proofs.Ythbhokpjedndaaa
open Go.RowKit

theorem cel5 {w w' : World} {b o : Nat} {v : Value} (hb : Below w.heap.size w w') (h : w.cell? ⟨b, o, none⟩ = some v) : w'.cell? ⟨b, o, none⟩ = some v := (hb.cell (p := ⟨b, o, none⟩) (lt_of_cell h)).trans h

theorem al5 (u : World) (o : Obj) : Below u.heap.size u (u.alloc o) := (Below.refl _ _).alloc (Nat.le_refl _) o

theorem st5 {W a b : World} (h : Below W.heap.size W a) (k : Below a.heap.size a b) : Below W.heap.size W b := h.trans (k.mono h.size)

set_option maxHeartbeats 1000000 in
theorem bsf_nil (id : Int) (fv : Value) (w : World) :
    Calls Try.prog 79 #[.slice none 0 0, .int .i64 id, fv] w fun r w' => r = .returned (.tuple #[.int .i64 0, .bool false]) ∧ w' = w := by
  go_enter Try.func79, Try.ntmps79
  go_wp2
  go_loopw [9, 10] (fun lo hi wr => lo = .int .i64 0 ∧ hi = .int .i64 0 ∧ w = wr) (fun _ _ _ => 0)
  case atStart => exact ⟨rfl, rfl, rfl⟩
  case round =>
    obtain ⟨rfl, rfl, rfl⟩ := hrel
    go_wp2
    exact bodyPost_ret (v := .tuple #[.int .i64 0, .bool false]) (by simp [results, Try.results79, go_sem]) rfl ⟨rfl, rfl⟩

set_option maxHeartbeats 1000000 in
theorem placeOf_nil (id : Int) (w : World) :
    Calls Try.prog 71 #[.slice none 0 0, .int .i64 id] w fun r w' => r = .returned (.tuple #[.int .i64 0, .bool false]) ∧ w' = w := by
  go_enter Try.func71, Try.ntmps71
  go_wp2_with fail
  refine (bsf_nil _ _ _).mono ?_
  rintro r w1 ⟨rfl, rfl⟩
  go_wp2
  exact bodyPost_ret (v := .tuple #[.int .i64 0, .bool false]) (by simp [results, Try.results71, go_sem]) rfl ⟨rfl, rfl⟩

set_option maxHeartbeats 1000000 in
theorem standing_nil (id ep sq : Int) (a : Option Addr) (n c : Nat) (w : World) :
    Calls Try.prog 68 #[.slice none 0 0, .agg #[.int .i64 id, .int .i64 ep, .int .i64 sq, .slice a n c]] w fun r w' => r = .returned (.agg #[.int .i64 id, .int .i64 ep, .int .i64 0, .slice none 0 0]) ∧ Below w.heap.size w w' := by
  have hb : ∀ x y, Below w.heap.size w ((w.alloc x).alloc y) := fun _ _ => ((Below.refl _ _).alloc (Nat.le_refl _) _).alloc (by simp) _
  go_enter Try.func68, Try.ntmps68
  go_wp2_with fail
  refine (placeOf_nil _ _).mono ?_
  rintro r w1 ⟨rfl, rfl⟩
  go_wp2
  go_quiet (fail)
  go_wp2
  refine bodyPost_ret (v := .agg #[.int .i64 id, .int .i64 ep, .int .i64 0, .slice none 0 0]) (by simp [results, Try.results68, go_sem]) rfl ⟨rfl, ?_⟩
  have hs : ∀ (u : World) (o : Nat) (v : Value), Below w.heap.size w u → Below w.heap.size w (u.setCell ⟨w.heap.size + 1, o, none⟩ v) := fun u o v h => h.setCell (by simp) _
  exact hs _ _ _ (hs _ _ _ (hs _ _ _ (hs _ _ _ (below_drewN (hb _ _) _))))

set_option maxHeartbeats 1000000 in
theorem doneBefore_nil (id ep sq : Int) (a : Option Addr) (n c : Nat) (w : World) :
    Calls Try.prog 69 #[.slice none 0 0, .agg #[.int .i64 id, .int .i64 ep, .int .i64 sq, .slice a n c]] w fun r w' => r = .returned (.tuple #[.int .i64 0, .bool false]) ∧ Below w.heap.size w w' := by
  have hb : ∀ x, Below w.heap.size w (w.alloc x) := fun _ => (Below.refl _ _).alloc (Nat.le_refl _) _
  go_enter Try.func69, Try.ntmps69
  go_wp2
  go_loopw [10] (fun i wr => i = .int .i64 0 ∧ Below w.heap.size w wr) (fun _ _ => 0)
  case atStart => exact ⟨rfl, hb _⟩
  case round =>
    obtain ⟨rfl, hB⟩ := hrel
    go_wp2
    exact bodyPost_ret (v := .tuple #[.int .i64 0, .bool false]) (by simp [results, Try.results69, go_sem]) rfl ⟨rfl, hB⟩

set_option maxHeartbeats 1000000 in
theorem roomFor_nil (id ep z : Int) (a : Option Addr) (n c : Nat) (hn : n ≤ 8) (w : World) :
    Calls Try.prog 70 #[.agg #[.slice none 0 0, .slice none 0 0, .int .i64 z], .agg #[.int .i64 id, .int .i64 ep, .int .i64 0, .slice a n c]] w fun r w' => r = .returned (.bool true) ∧ Below w.heap.size w w' := by
  have hb : ∀ x y, Below w.heap.size w ((w.alloc x).alloc y) := fun _ _ => ((Below.refl _ _).alloc (Nat.le_refl _) _).alloc (by simp) _
  go_enter Try.func70, Try.ntmps70
  go_wp2_with fail
  refine (placeOf_nil _ _).mono ?_
  rintro r w1 ⟨rfl, rfl⟩
  go_wp2
  go_ret
  refine ⟨?_, hb _ _⟩
  show Ending.returned (.bool (decide _)) = _
  exact ret_bool (decide_eq_true (by omega))

set_option maxHeartbeats 1000000 in
theorem codeFor_nil (id ep z : Int) (a : Option Addr) (n c : Nat) (hn : n ≤ 8) (w : World) :
    Calls Try.prog 51 #[.agg #[.slice none 0 0, .slice none 0 0, .int .i64 z], .agg #[.int .i64 id, .int .i64 ep, .int .i64 0, .slice a n c]] w fun r w' => r = .returned (.tuple #[.int .i64 0, .int .i64 z]) ∧ Below w.heap.size w w' := by
  have hb : ∀ x y, Below w.heap.size w ((w.alloc x).alloc y) := fun _ _ => ((Below.refl _ _).alloc (Nat.le_refl _) _).alloc (by simp) _
  have hi : ¬ (ep < ep) := by omega
  go_enter Try.func51, Try.ntmps51
  go_wp2_with fail
  refine (standing_nil _ _ _ _ _ _ _).mono ?_
  rintro r w1 ⟨rfl, hB1⟩
  have BB := st5 (hb _ _) hB1
  have p0 : w1.cell? ⟨w.heap.size, 0, none⟩ = some (.slice none 0 0) := cel5 hB1 (by simp)
  have p1 : w1.cell? ⟨w.heap.size, 1, none⟩ = some (.slice none 0 0) := cel5 hB1 (by simp)
  have p2 : w1.cell? ⟨w.heap.size, 2, none⟩ = some (.int .i64 z) := cel5 hB1 (by simp)
  have q0 : w1.cell? ⟨w.heap.size + 1, 0, none⟩ = some (.int .i64 id) := cel5 hB1 (by simp)
  have q1 : w1.cell? ⟨w.heap.size + 1, 1, none⟩ = some (.int .i64 ep) := cel5 hB1 (by simp)
  have q2 : w1.cell? ⟨w.heap.size + 1, 2, none⟩ = some (.int .i64 0) := cel5 hB1 (by simp)
  have q3 : w1.cell? ⟨w.heap.size + 1, 3, none⟩ = some (.slice a n c) := cel5 hB1 (by simp)
  replace p0 := fun o => cel5 (al5 w1 o) p0
  replace p1 := fun o => cel5 (al5 w1 o) p1
  replace p2 := fun o => cel5 (al5 w1 o) p2
  replace q0 := fun o => cel5 (al5 w1 o) q0
  replace q1 := fun o => cel5 (al5 w1 o) q1
  replace q2 := fun o => cel5 (al5 w1 o) q2
  replace q3 := fun o => cel5 (al5 w1 o) q3
  clear hB1
  go_wp2_with fail
  refine (doneBefore_nil _ _ _ _ _ _ _).mono ?_
  rintro r w2 ⟨rfl, hB2⟩
  replace p0 := cel5 hB2 (p0 _)
  replace p1 := cel5 hB2 (p1 _)
  replace p2 := cel5 hB2 (p2 _)
  replace q0 := cel5 hB2 (q0 _)
  replace q1 := cel5 hB2 (q1 _)
  replace q2 := cel5 hB2 (q2 _)
  replace q3 := cel5 hB2 (q3 _)
  have o2 : w2.cell? ⟨w1.heap.size, 2, none⟩ = some (.int .i64 0) := cel5 hB2 (by simp)
  replace BB := st5 (st5 BB (al5 _ _)) hB2
  clear hB2
  go_wp2_with fail
  refine (roomFor_nil _ _ _ _ _ _ hn _).mono ?_
  rintro r w3 ⟨rfl, hB3⟩
  replace p2 := cel5 hB3 p2
  replace BB := st5 BB hB3
  clear hB3 p0 p1 q0 q1 q2 q3 o2
  go_wp2
  go_quiet (fail)
  go_wp2
  exact bodyPost_ret (v := .tuple #[.int .i64 0, .int .i64 z]) (by simp [results, Try.results51, go_sem]) rfl ⟨rfl, below_drewN BB _⟩

end Go.Proofs.Ythbhokpjedndaaa
