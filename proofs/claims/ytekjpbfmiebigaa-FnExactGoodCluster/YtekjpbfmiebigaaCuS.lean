/-
  Clusters, the specification's side: l17View, l17Thinks, l17Same. Made by mkcus.py.
-/
import Derived.Test.YtekjpbfmiebigaaCuM
import Derived.Test.YtekjpbfmiebigaaRwS
namespace Go.Proofs.Ytekjpbfmiebigaa
open Go.RowKit

theorem l6Group_c (a : Option Addr) (c : Nat) (zs : List Int) (many : Int) (b : Bool) (w : World) (hs : Ints w a zs) (hl : zs.length ≤ maxLen) (h : riseB zs many = b) :
    Calls Try.prog 44 #[.slice a zs.length c, .int .i64 many] w fun e w' => e = .returned (.bool b) ∧ w' = w := by
  rw [← h]; exact l6Group_any a c zs many w hs hl
theorem l1Has_c (a : Option Addr) (c : Nat) (zs : List Int) (n : Int) (b : Bool) (w : World) (hs : Ints w a zs) (hl : zs.length ≤ maxLen) (h : zs.contains n = b) :
    Calls Try.prog 45 #[.slice a zs.length c, .int .i64 n] w fun e w' => e = .returned (.bool b) ∧ w' = w := by
  rw [← h]; exact l1Has_any a c zs n w hs hl

set_option maxRecDepth 100000 in
set_option maxHeartbeats 4000000 in
theorem l17View_c (e l n : Int) (a : Option Addr) (c : Nat) (st : List Int) (b : Bool) (w : World) (hs : Ints w a st) (hl : st.length ≤ maxLen) (h : vwB e l st n = b) :
    Calls Try.prog 20 #[.agg #[.int .i64 e, .int .i64 l, .slice a st.length c], .int .i64 n] w fun r w' => r = .returned (.bool b) ∧ Below w.heap.size w w' := by
  subst h
  have HB : ∀ o, Below w.heap.size w (w.alloc o) := fun o => (Below.refl _ _).alloc (Nat.le_refl _) o
  have hI : ∀ o, Ints (w.alloc o) a st := fun o => hs.below (HB o)
  replace hI := hI (.cells #[.int .i64 e, .int .i64 l, .slice a st.length c] 31)
  cases h1 : inB e 0 100 with
  | false =>
    have HE : Hid (vwB e l st n = false) := by show _ = _; simp [vwB, h1]
    go_enter Try.func20, Try.ntmps20
    go_wp2_with (first | (go_at_call 19; refine (l1In_c _ _ _ _ _ h1).mono ?_; rintro e w' ⟨rfl, hw⟩; rw [hw]; clear hw w') | (go_at_call 44; refine (l6Group_c _ _ _ _ _ _ hI hl h2).mono ?_; rintro e w' ⟨rfl, hw⟩; rw [hw]; clear hw w') | (go_at_call 45; refine (l1Has_c _ _ _ _ _ _ hI hl h3).mono ?_; rintro e w' ⟨rfl, hw⟩; rw [hw]; clear hw w'))
    go_ret
    exact ⟨ret_bool HE.out.symm, HB _⟩
  | true =>
    cases h2 : riseB st n with
    | false =>
      have HE : Hid (vwB e l st n = false) := by show _ = _; simp [vwB, h2]
      go_enter Try.func20, Try.ntmps20
      go_wp2_with (first | (go_at_call 19; refine (l1In_c _ _ _ _ _ h1).mono ?_; rintro e w' ⟨rfl, hw⟩; rw [hw]; clear hw w') | (go_at_call 44; refine (l6Group_c _ _ _ _ _ _ hI hl h2).mono ?_; rintro e w' ⟨rfl, hw⟩; rw [hw]; clear hw w') | (go_at_call 45; refine (l1Has_c _ _ _ _ _ _ hI hl h3).mono ?_; rintro e w' ⟨rfl, hw⟩; rw [hw]; clear hw w'))
      go_ret
      exact ⟨ret_bool HE.out.symm, HB _⟩
    | true =>
      obtain ⟨x, h3⟩ : ∃ x, st.contains l = x := ⟨_, rfl⟩
      have HE : Hid (vwB e l st n = x) := by show _ = _; rw [vwB, h1, h2, h3]; rfl
      go_enter Try.func20, Try.ntmps20
      go_wp2_with (first | (go_at_call 19; refine (l1In_c _ _ _ _ _ h1).mono ?_; rintro e w' ⟨rfl, hw⟩; rw [hw]; clear hw w') | (go_at_call 44; refine (l6Group_c _ _ _ _ _ _ hI hl h2).mono ?_; rintro e w' ⟨rfl, hw⟩; rw [hw]; clear hw w') | (go_at_call 45; refine (l1Has_c _ _ _ _ _ _ hI hl h3).mono ?_; rintro e w' ⟨rfl, hw⟩; rw [hw]; clear hw w'))
      go_ret
      exact ⟨ret_bool (by rw [HE.out]), HB _⟩

set_option maxRecDepth 100000 in
set_option maxHeartbeats 4000000 in
theorem l17Thinks_c (s : Cu) (a0 a1 a2 : Option Addr) (c0 c1 c2 : Nat) (k : Nat) (x : Nd) (b : Bool) (w : World) (hs : CuR w s a0 a1 a2) (hl : CuL s) (hk : s.nodes[k]? = some x) (h : thinks k x = b) :
    Calls Try.prog 35 #[cuV s a0 c0 a1 c1 a2 c2, .int .i64 (k : Int)] w fun r w' => r = .returned (.bool b) ∧ Below w.heap.size w w' := by
  subst h
  have HB : ∀ o, Below w.heap.size w (w.alloc o) := fun o => (Below.refl _ _).alloc (Nat.le_refl _) o
  have hkn := (List.getElem?_eq_some_iff.1 hk).1
  have hki : (k : Int) < (s.nodes.length : Int) := by omega
  have mm := hl.nodes
  unfold maxLen at mm
  obtain ⟨kb, ob, rfl, r2, k2, r3, k3, r4, k4, -, e1, -⟩ := hs.nodes k x hk
  have q1 := fun o => celB (HB o) e1
  clear e1 hk hs hl
  go_enter Try.func35, Try.ntmps35
  go_wp2
  go_ret
  exact ⟨ret_bool (by simp [thinks]), HB _⟩

end Go.Proofs.Ytekjpbfmiebigaa
