/-
  Clusters, the specification's side: l17View, l17Thinks, l17Same. Made by mkcus.py.
-/
import Derived.Test.YtekjpbfmiebigaaDoorCuM
import Derived.Test.YtekjpbfmiebigaaDoorRwS
namespace Go.Proofs.YtekjpbfmiebigaaDoor
open Go.RowKit

theorem l6Group_c (a : Option Addr) (c : Nat) (zs : List Int) (many : Int) (b : Bool) (w : World) (hs : Ints w a zs) (hl : zs.length ≤ maxLen) (h : riseB zs many = b) :
    Calls Tryd.prog 65 #[.slice a zs.length c, .int .i64 many] w fun e w' => e = .returned (.bool b) ∧ w' = w := by
  rw [← h]; exact l6Group_any a c zs many w hs hl
theorem l1Has_c (a : Option Addr) (c : Nat) (zs : List Int) (n : Int) (b : Bool) (w : World) (hs : Ints w a zs) (hl : zs.length ≤ maxLen) (h : zs.contains n = b) :
    Calls Tryd.prog 66 #[.slice a zs.length c, .int .i64 n] w fun e w' => e = .returned (.bool b) ∧ w' = w := by
  rw [← h]; exact l1Has_any a c zs n w hs hl

theorem l6Has_g (a a2 : Option Addr) (c c2 : Nat) (xs ys : List Int) (b : Bool) (w : World) (hx : Ints w a xs) (hy : Ints w a2 ys) (hl : xs.length ≤ maxLen) (hl2 : ys.length ≤ maxLen) (h : hasL xs ys = b) :
    Calls Tryd.prog 69 #[.slice a xs.length c, .slice a2 ys.length c2] w fun e w' => e = .returned (.bool b) ∧ w' = w := by
  rw [← h]; exact l6Has_any a a2 c c2 xs ys w hx hy hl hl2

theorem l14Same_any (a a2 : Option Addr) (c c2 : Nat) (xs ys : List Int) (w : World) (hx : Ints w a xs) (hy : Ints w a2 ys) (hl : xs.length ≤ maxLen) (hl2 : ys.length ≤ maxLen) :
    Calls Tryd.prog 55 #[.slice a xs.length c, .slice a2 ys.length c2] w fun e w' => e = .returned (.bool (sameB xs ys)) ∧ w' = w := by
  have hl' := hl
  have hl2' := hl2
  unfold maxLen at hl' hl2'
  cases h1 : hasL xs ys with
  | false =>
    have HE : Hid (sameB xs ys = false) := by show _ = _; simp [sameB, h1]
    go_enter Tryd.func55, Tryd.ntmps55
    go_wp2_with (go_at_call 69; refine (l6Has_g _ _ _ _ _ _ _ _ hx hy hl hl2 h1).mono ?_; rintro e w' ⟨rfl, rfl⟩)
    go_ret
    exact ⟨ret_bool HE.out.symm, rfl⟩
  | true =>
    obtain ⟨x, hx'⟩ : ∃ x, (((xs.length : Nat) : Int) == ((ys.length : Nat) : Int)) = x := ⟨_, rfl⟩
    have HE : Hid (sameB xs ys = x) := by show _ = _; rw [sameB, h1, ← hx', Bool.true_and, Bool.eq_iff_iff]; simp only [decide_eq_true_eq, beq_iff_eq]; omega
    go_enter Tryd.func55, Tryd.ntmps55
    go_wp2_with (go_at_call 69; refine (l6Has_g _ _ _ _ _ _ _ _ hx hy hl hl2 h1).mono ?_; rintro e w' ⟨rfl, rfl⟩)
    go_ret
    exact ⟨ret_bool (by rw [HE.out]), rfl⟩

theorem l14Same_c (a a2 : Option Addr) (c c2 : Nat) (xs ys : List Int) (b : Bool) (w : World) (hx : Ints w a xs) (hy : Ints w a2 ys) (hl : xs.length ≤ maxLen) (hl2 : ys.length ≤ maxLen) (h : sameB xs ys = b) :
    Calls Tryd.prog 55 #[.slice a xs.length c, .slice a2 ys.length c2] w fun e w' => e = .returned (.bool b) ∧ w' = w := by
  rw [← h]; exact l14Same_any a a2 c c2 xs ys w hx hy hl hl2

set_option maxRecDepth 100000 in
set_option maxHeartbeats 4000000 in
theorem l17View_c (e l n : Int) (a : Option Addr) (c : Nat) (st : List Int) (b : Bool) (w : World) (hs : Ints w a st) (hl : st.length ≤ maxLen) (h : vwB e l st n = b) :
    Calls Tryd.prog 52 #[.agg #[.int .i64 e, .int .i64 l, .slice a st.length c], .int .i64 n] w fun r w' => r = .returned (.bool b) ∧ Below w.heap.size w w' := by
  subst h
  have HB : ∀ o, Below w.heap.size w (w.alloc o) := fun o => (Below.refl _ _).alloc (Nat.le_refl _) o
  have hI : ∀ o, Ints (w.alloc o) a st := fun o => hs.below (HB o)
  replace hI := hI (.cells #[.int .i64 e, .int .i64 l, .slice a st.length c] 24)
  cases h1 : inB e 0 100 with
  | false =>
    have HE : Hid (vwB e l st n = false) := by show _ = _; simp [vwB, h1]
    go_enter Tryd.func52, Tryd.ntmps52
    go_wp2_with (first | (go_at_call 17; refine (l1In_c _ _ _ _ _ h1).mono ?_; rintro e w' ⟨rfl, hw⟩; rw [hw]; clear hw w') | (go_at_call 65; refine (l6Group_c _ _ _ _ _ _ hI hl h2).mono ?_; rintro e w' ⟨rfl, hw⟩; rw [hw]; clear hw w') | (go_at_call 66; refine (l1Has_c _ _ _ _ _ _ hI hl h3).mono ?_; rintro e w' ⟨rfl, hw⟩; rw [hw]; clear hw w'))
    go_ret
    exact ⟨ret_bool HE.out.symm, HB _⟩
  | true =>
    cases h2 : riseB st n with
    | false =>
      have HE : Hid (vwB e l st n = false) := by show _ = _; simp [vwB, h2]
      go_enter Tryd.func52, Tryd.ntmps52
      go_wp2_with (first | (go_at_call 17; refine (l1In_c _ _ _ _ _ h1).mono ?_; rintro e w' ⟨rfl, hw⟩; rw [hw]; clear hw w') | (go_at_call 65; refine (l6Group_c _ _ _ _ _ _ hI hl h2).mono ?_; rintro e w' ⟨rfl, hw⟩; rw [hw]; clear hw w') | (go_at_call 66; refine (l1Has_c _ _ _ _ _ _ hI hl h3).mono ?_; rintro e w' ⟨rfl, hw⟩; rw [hw]; clear hw w'))
      go_ret
      exact ⟨ret_bool HE.out.symm, HB _⟩
    | true =>
      obtain ⟨x, h3⟩ : ∃ x, st.contains l = x := ⟨_, rfl⟩
      have HE : Hid (vwB e l st n = x) := by show _ = _; rw [vwB, h1, h2, h3]; rfl
      go_enter Tryd.func52, Tryd.ntmps52
      go_wp2_with (first | (go_at_call 17; refine (l1In_c _ _ _ _ _ h1).mono ?_; rintro e w' ⟨rfl, hw⟩; rw [hw]; clear hw w') | (go_at_call 65; refine (l6Group_c _ _ _ _ _ _ hI hl h2).mono ?_; rintro e w' ⟨rfl, hw⟩; rw [hw]; clear hw w') | (go_at_call 66; refine (l1Has_c _ _ _ _ _ _ hI hl h3).mono ?_; rintro e w' ⟨rfl, hw⟩; rw [hw]; clear hw w'))
      go_ret
      exact ⟨ret_bool (by rw [HE.out]), HB _⟩

set_option maxRecDepth 100000 in
set_option maxHeartbeats 4000000 in
theorem l17Thinks_c (s : Cu) (a0 a1 a2 : Option Addr) (c0 c1 c2 : Nat) (k : Nat) (x : Nd) (b : Bool) (w : World) (hs : CuR w s a0 a1 a2) (hl : CuL s) (hk : s.nodes[k]? = some x) (h : thinks k x = b) :
    Calls Tryd.prog 67 #[cuV s a0 c0 a1 c1 a2 c2, .int .i64 (k : Int)] w fun r w' => r = .returned (.bool b) ∧ Below w.heap.size w w' := by
  subst h
  have HB : ∀ o, Below w.heap.size w (w.alloc o) := fun o => (Below.refl _ _).alloc (Nat.le_refl _) o
  have hkn := (List.getElem?_eq_some_iff.1 hk).1
  have hki : (k : Int) < (s.nodes.length : Int) := by omega
  have mm := hl.nodes
  unfold maxLen at mm
  obtain ⟨kb, ob, rfl, r2, k2, r3, k3, r4, k4, -, e1, -⟩ := hs.nodes k x hk
  have q1 := fun o => celB (HB o) e1
  clear e1 hk hs hl
  go_enter Tryd.func67, Tryd.ntmps67
  go_wp2
  go_ret
  exact ⟨ret_bool (by simp [thinks]), HB _⟩

set_option maxRecDepth 100000 in
set_option maxHeartbeats 4000000 in
theorem l17Same_c (e l e2 l2 : Int) (a a2 : Option Addr) (c c2 : Nat) (st st2 : List Int) (b : Bool) (w : World) (hx : Ints w a st) (hy : Ints w a2 st2) (hl : st.length ≤ maxLen) (hl2 : st2.length ≤ maxLen) (h : ((e == e2) && ((l == l2) && sameB st st2)) = b) :
    Calls Tryd.prog 36 #[.agg #[.int .i64 e, .int .i64 l, .slice a st.length c], .agg #[.int .i64 e2, .int .i64 l2, .slice a2 st2.length c2]] w fun r w' => r = .returned (.bool b) ∧ Below w.heap.size w w' := by
  subst h
  have HB : ∀ o p, Below w.heap.size w ((w.alloc o).alloc p) := fun o p => ((Below.refl _ _).alloc (Nat.le_refl _) o).alloc (by simp) p
  by_cases h1 : e = e2
  · by_cases h2 : l = l2
    · obtain ⟨x, h3⟩ : ∃ x, sameB st st2 = x := ⟨_, rfl⟩
      have HE : Hid (((e == e2) && ((l == l2) && sameB st st2)) = x) := by show _ = _; rw [h1, h2, h3]; simp
      go_enter Tryd.func36, Tryd.ntmps36
      go_wp2_with (go_at_call 55; refine (l14Same_c _ _ _ _ _ _ _ _ (hx.below (HB _ _)) (hy.below (HB _ _)) hl hl2 h3).mono ?_; rintro e w' ⟨rfl, hw⟩; rw [hw]; clear hw w')
      go_ret
      exact ⟨ret_bool (by rw [HE.out]), HB _ _⟩
    · have HE : Hid (((e == e2) && ((l == l2) && sameB st st2)) = false) := by show _ = _; simp [h2]
      go_enter Tryd.func36, Tryd.ntmps36
      go_wp2_with fail
      go_ret
      exact ⟨ret_bool (by rw [HE.out]), HB _ _⟩
  · have HE : Hid (((e == e2) && ((l == l2) && sameB st st2)) = false) := by show _ = _; simp [h1]
    go_enter Tryd.func36, Tryd.ntmps36
    go_wp2_with fail
    go_ret
    exact ⟨ret_bool (by rw [HE.out]), HB _ _⟩

end Go.Proofs.YtekjpbfmiebigaaDoor
