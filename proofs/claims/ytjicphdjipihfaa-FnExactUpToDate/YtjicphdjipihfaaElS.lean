/-
  Elections, the specification's side: spec.l9Last, l9Up, UpToDate, l9There, l9Server, l9Letter. Made by mkels.py.
-/
import Derived.Test.YtjicphdjipihfaaElM
import Derived.Test.YtjicphdjipihfaaQSpec
import Derived.Deep.RegionHeld3
import Derived.WalkMore
namespace Go.Proofs.Ytjicphdjipihfaa
open Go.RowKit

theorem l1In_c (n lo hi : Int) (b : Bool) (w : World) (h : inB n lo hi = b) : Calls Try.prog 32 #[.int .i64 n, .int .i64 lo, .int .i64 hi] w fun e w' => e = .returned (.bool b) ∧ w' = w := by
  rw [← h]; exact l1In_any n lo hi w

theorem goodE_c (a : Option Addr) (c : Nat) (zs : List Int) (b : Bool) (w : World) (hs : Ints w a zs) (hl : zs.length ≤ maxLen) (h : goodE zs = b) : Calls Try.prog 30 #[.slice a zs.length c] w fun e w' => e = .returned (.bool b) ∧ w' = w := by
  rw [← h]; exact specGoodE_any a c zs w hs hl

theorem l6Group_c (a : Option Addr) (c : Nat) (zs : List Int) (many : Int) (b : Bool) (w : World) (hs : Ints w a zs) (hl : zs.length ≤ maxLen) (h : riseB zs many = b) : Calls Try.prog 68 #[.slice a zs.length c, .int .i64 many] w fun e w' => e = .returned (.bool b) ∧ w' = w := by
  rw [← h]; exact l6Group_any a c zs many w hs hl

theorem l9Last_any (a : Option Addr) (c : Nat) (zs : List Int) (w : World) (hs : Ints w a zs) (hl : zs.length ≤ maxLen) :
    Calls Try.prog 31 #[.slice a zs.length c] w fun e w' => e = .returned (.int .i64 (lastZ zs)) ∧ w' = w := by
  unfold maxLen at hl
  by_cases h0 : zs.length = 0
  · have HE : Hid (lastZ zs = -1) := by show _ = _; unfold lastZ; rw [if_pos h0]
    rw [h0]
    clear h0 hs
    go_enter Try.func31, Try.ntmps31
    go_wp2
    go_ret
    exact ⟨ret_int (by rw [HE.out]), rfl⟩
  · obtain ⟨j, hj⟩ : ∃ j, zs.length = j + 1 := ⟨zs.length - 1, by omega⟩
    obtain ⟨b, off, rfl, hc⟩ := hs j _ (zA_get (by omega))
    have HE : Hid (lastZ zs = zA zs j) := by show _ = _; unfold lastZ; rw [if_neg h0, hj]; rfl
    rw [hj] at hl ⊢
    have hj1 : ((j + 1 : Nat) : Int) - 1 = (j : Int) := by omega
    have hz : (((j + 1 : Nat) : Int) == 0) = false := by simp; omega
    clear h0 hs hj
    go_enter Try.func31, Try.ntmps31
    go_wp2
    go_ret
    exact ⟨ret_int (by rw [HE.out]), rfl⟩

theorem l9Up_any (last long : Int) (a : Option Addr) (c : Nat) (zs : List Int) (w : World) (hs : Ints w a zs) (hl : zs.length ≤ maxLen) :
    Calls Try.prog 59 #[.int .i64 last, .int .i64 long, .slice a zs.length c] w fun e w' => e = .returned (.bool (upZ last long zs)) ∧ w' = w := by
  have hm := hl
  unfold maxLen at hm
  obtain ⟨z, hz⟩ : ∃ z, lastZ zs = z := ⟨_, rfl⟩
  have HZ : Hid (lastZ zs = z) := hz
  by_cases h1 : z < last
  · have HE : Hid (upZ last long zs = true) := by show _ = _; unfold upZ; rw [hz]; simp [h1]
    clear hz
    go_enter Try.func59, Try.ntmps59
    go_wp2_with (go_at_call 31; refine (l9Last_any _ _ _ _ hs hl).mono ?_; rintro e w' ⟨he, rfl⟩; rw [HZ.out] at he; subst he)
    go_ret
    exact ⟨ret_bool HE.out.symm, rfl⟩
  · by_cases h2 : last = z
    · have d2 : (last == z) = true := by simp [h2]
      by_cases h3 : (zs.length : Int) ≤ long
      · have HE : Hid (upZ last long zs = true) := by show _ = _; unfold upZ; rw [hz]; simp [h2, h3]
        clear hz h2
        go_enter Try.func59, Try.ntmps59
        go_wp2_with (go_at_call 31; refine (l9Last_any _ _ _ _ hs hl).mono ?_; rintro e w' ⟨he, rfl⟩; rw [HZ.out] at he; subst he)
        go_ret
        exact ⟨ret_bool HE.out.symm, rfl⟩
      · have HE : Hid (upZ last long zs = false) := by show _ = _; unfold upZ; rw [hz]; simp [h1, h3]
        clear hz h2
        go_enter Try.func59, Try.ntmps59
        go_wp2_with (go_at_call 31; refine (l9Last_any _ _ _ _ hs hl).mono ?_; rintro e w' ⟨he, rfl⟩; rw [HZ.out] at he; subst he)
        go_ret
        exact ⟨ret_bool (by rw [HE.out]; simp [h1, h3]), rfl⟩
    · have d2 : (last == z) = false := by simp [h2]
      have HE : Hid (upZ last long zs = false) := by show _ = _; unfold upZ; rw [hz]; simp [h1, h2]
      clear hz h2
      go_enter Try.func59, Try.ntmps59
      go_wp2_with (go_at_call 31; refine (l9Last_any _ _ _ _ hs hl).mono ?_; rintro e w' ⟨he, rfl⟩; rw [HZ.out] at he; subst he)
      go_ret
      exact ⟨ret_bool (by rw [HE.out]; simp [h1]), rfl⟩

/-- What UpToDate answers. -/
def utdB (xs ys : List Int) : Bool := goodE xs && goodE ys
def utdA (xs ys : List Int) : Bool := utdB xs ys && upZ (lastZ xs) xs.length ys

theorem specUpToDate_any (a b : Option Addr) (c d : Nat) (xs ys : List Int) (w : World) (hx : Ints w a xs) (hy : Ints w b ys) (hl : xs.length ≤ maxLen) (hm : ys.length ≤ maxLen) :
    Calls Try.prog 23 #[.slice a xs.length c, .slice b ys.length d] w fun e w' => e = .returned (.tuple #[.bool (utdA xs ys), .bool (utdB xs ys)]) ∧ w' = w := by
  cases h1 : goodE xs with
  | false =>
    have E1 : Hid (utdA xs ys = false ∧ utdB xs ys = false) := by constructor <;> simp [utdA, utdB, h1]
    rw [E1.out.1, E1.out.2]
    go_enter Try.func23, Try.ntmps23
    go_wp2_with (go_at_call 30; refine (goodE_c _ _ _ _ _ hx hl h1).mono ?_; rintro e w' ⟨rfl, rfl⟩)
    exact bodyPost_ret (v := .tuple #[.bool false, .bool false]) (by simp [results, Try.results23, go_sem]) rfl ⟨rfl, rfl⟩
  | true =>
    cases h2 : goodE ys with
    | false =>
      have E1 : Hid (utdA xs ys = false ∧ utdB xs ys = false) := by constructor <;> simp [utdA, utdB, h2]
      rw [E1.out.1, E1.out.2]
      go_enter Try.func23, Try.ntmps23
      go_wp2_with (go_at_call 30; refine (specGoodE_any _ _ _ _ (by first | exact hx | exact hy) (by first | exact hl | exact hm)).mono ?_; rintro e w' ⟨he, rfl⟩; (first | rw [h1] at he | rw [h2] at he); subst he)
      exact bodyPost_ret (v := .tuple #[.bool false, .bool false]) (by simp [results, Try.results23, go_sem]) rfl ⟨rfl, rfl⟩
    | true =>
      obtain ⟨u, hu⟩ : ∃ u, upZ (lastZ xs) xs.length ys = u := ⟨_, rfl⟩
      have E1 : Hid (utdA xs ys = u ∧ utdB xs ys = true) := by constructor <;> simp [utdA, utdB, h1, h2, hu]
      have HU : Hid (upZ (lastZ xs) xs.length ys = u) := hu
      rw [E1.out.1, E1.out.2]
      clear hu
      have hl' := hl
      unfold maxLen at hl'
      go_enter Try.func23, Try.ntmps23
      go_wp2_with (first | (go_at_call 30; refine (specGoodE_any _ _ _ _ (by first | exact hx | exact hy) (by first | exact hl | exact hm)).mono ?_; rintro e w' ⟨he, rfl⟩; (first | rw [h1] at he | rw [h2] at he); subst he) | (go_at_call 31; refine (l9Last_any _ _ _ _ hx hl).mono ?_; rintro e w' ⟨rfl, rfl⟩) | (go_at_call 59; refine (l9Up_any _ _ _ _ _ _ hy hm).mono ?_; rintro e w' ⟨he, rfl⟩; rw [HU.out] at he; subst he))
      exact bodyPost_ret (v := .tuple #[.bool u, .bool true]) (by simp [results, Try.results23, go_sem]) rfl ⟨rfl, rfl⟩

theorem l9There_any (s : El) (a0 a1 a2 : Option Addr) (c0 c1 c2 : Nat) (k : Int) (b : Bool) (w : World) (h : thB s.svs.length k = b) :
    Calls Try.prog 52 #[elV s a0 c0 a1 c1 a2 c2, .int .i64 k] w fun e w' => e = .returned (.bool b) ∧ ∃ o, w' = w.alloc o := by
  by_cases h1 : 0 ≤ k
  · by_cases h2 : k < (s.svs.length : Int)
    · have E : Hid (b = true) := by show _ = _; rw [← h]; exact thB_t.2 ⟨h1, h2⟩
      clear h
      go_enter Try.func52, Try.ntmps52
      go_wp2
      go_ret
      exact ⟨ret_bool E.out.symm, _, rfl⟩
    · have E : Hid (b = false) := by show _ = _; rw [← h]; exact thB_f.2 (fun g => h2 g.2)
      clear h
      go_enter Try.func52, Try.ntmps52
      go_wp2
      go_ret
      exact ⟨ret_bool E.out.symm, _, rfl⟩
  · have E : Hid (b = false) := by show _ = _; rw [← h]; exact thB_f.2 (fun g => h1 g.1)
    clear h
    go_enter Try.func52, Try.ntmps52
    go_wp2
    go_ret
    exact ⟨ret_bool E.out.symm, _, rfl⟩

set_option maxRecDepth 100000 in
set_option maxHeartbeats 8000000 in
theorem l9Server_any (s : El) (a0 a1 a2 : Option Addr) (c0 c1 c2 : Nat) (x : Sv) (r4 r5 : Option Addr) (k4 k5 : Nat) (w : World) (h4 : Ints w r4 x.got) (l4 : x.got.length ≤ maxLen) (h5 : Ints w r5 x.log) (l5 : x.log.length ≤ maxLen) :
    Calls Try.prog 50 #[elV s a0 c0 a1 c1 a2 c2, .agg #[.int .i64 x.term, .int .i64 x.voted, .bool x.stands, .bool x.leads, .slice r4 x.got.length k4, .slice r5 x.log.length k5]] w fun e w' => e = .returned (.bool (okSv s.svs.length x)) ∧ Below w.heap.size w w' := by
  have HB : ∀ x y, Below w.heap.size w ((w.alloc x).alloc y) := fun _ _ => ((Below.refl _ _).alloc (Nat.le_refl _) _).alloc (by simp) _
  have HB3 : ∀ x y z, Below w.heap.size w (((w.alloc x).alloc y).alloc z) := fun _ _ _ => (((Below.refl _ _).alloc (Nat.le_refl _) _).alloc (by simp) _).alloc (by simp; omega) _
  have hl4 := l4
  unfold maxLen at hl4
  obtain ⟨term, voted, stands, leads, got, log⟩ := x
  simp only at *
  cases hg : inB term 0 100 with
  | false =>
    have HE : Hid (okSv s.svs.length ⟨term, voted, stands, leads, got, log⟩ = false) := by show _ = _; simp [okSv, hg]
    go_enter Try.func50, Try.ntmps50
    go_wp2_with (first | (go_at_call 32; refine (l1In_c _ _ _ _ _ hg).mono ?_; rintro e w' ⟨rfl, rfl⟩))
    go_ret
    exact ⟨ret_bool HE.out.symm, by first | exact HB _ _ | exact HB3 _ _ _⟩
  | true =>
    by_cases hv : voted = -1
    · have dv : (voted != -1) = false := by simp [hv]
      cases stands with
      | true =>
        cases leads with
        | true =>
          have HE : Hid (okSv s.svs.length ⟨term, voted, true, true, got, log⟩ = false) := by show _ = _; simp [okSv, hg, hv]
          clear hv
          go_enter Try.func50, Try.ntmps50
          go_wp2_with (first | (go_at_call 32; refine (l1In_c _ _ _ _ _ hg).mono ?_; rintro e w' ⟨rfl, rfl⟩))
          go_ret
          exact ⟨ret_bool HE.out.symm, by first | exact HB _ _ | exact HB3 _ _ _⟩
        | false =>
          cases he : goodE log with
          | false =>
            have HE : Hid (okSv s.svs.length ⟨term, voted, true, false, got, log⟩ = false) := by show _ = _; simp [okSv, hg, hv, he]
            clear hv
            go_enter Try.func50, Try.ntmps50
            go_wp2_with (first | (go_at_call 32; refine (l1In_c _ _ _ _ _ hg).mono ?_; rintro e w' ⟨rfl, rfl⟩) | (go_at_call 30; refine (goodE_c _ _ _ _ _ (by first | exact h5.below (HB _ _) | exact h5.below (HB3 _ _ _)) l5 he).mono ?_; rintro e w' ⟨rfl, rfl⟩))
            go_ret
            exact ⟨ret_bool HE.out.symm, by first | exact HB _ _ | exact HB3 _ _ _⟩
          | true =>
            obtain ⟨b, hr⟩ : ∃ b, riseB got s.svs.length = b := ⟨_, rfl⟩
            have HE : Hid (okSv s.svs.length ⟨term, voted, true, false, got, log⟩ = b) := by show _ = _; simp [okSv, hg, hv, he, hr]
            clear hv
            go_enter Try.func50, Try.ntmps50
            go_wp2_with (first | (go_at_call 32; refine (l1In_c _ _ _ _ _ hg).mono ?_; rintro e w' ⟨rfl, rfl⟩) | (go_at_call 30; refine (goodE_c _ _ _ _ _ (by first | exact h5.below (HB _ _) | exact h5.below (HB3 _ _ _)) l5 he).mono ?_; rintro e w' ⟨rfl, rfl⟩) | (go_at_call 68; refine (l6Group_c _ _ _ _ _ _ (by first | exact h4.below (HB _ _) | exact h4.below (HB3 _ _ _)) l4 hr).mono ?_; rintro e w' ⟨rfl, rfl⟩))
            go_ret
            exact ⟨ret_bool HE.out.symm, by first | exact HB _ _ | exact HB3 _ _ _⟩
      | false =>
        cases leads with
        | true =>
          cases he : goodE log with
          | false =>
            have HE : Hid (okSv s.svs.length ⟨term, voted, false, true, got, log⟩ = false) := by show _ = _; simp [okSv, hg, hv, he]
            clear hv
            go_enter Try.func50, Try.ntmps50
            go_wp2_with (first | (go_at_call 32; refine (l1In_c _ _ _ _ _ hg).mono ?_; rintro e w' ⟨rfl, rfl⟩) | (go_at_call 30; refine (goodE_c _ _ _ _ _ (by first | exact h5.below (HB _ _) | exact h5.below (HB3 _ _ _)) l5 he).mono ?_; rintro e w' ⟨rfl, rfl⟩))
            go_ret
            exact ⟨ret_bool HE.out.symm, by first | exact HB _ _ | exact HB3 _ _ _⟩
          | true =>
            obtain ⟨b, hr⟩ : ∃ b, riseB got s.svs.length = b := ⟨_, rfl⟩
            have HE : Hid (okSv s.svs.length ⟨term, voted, false, true, got, log⟩ = b) := by show _ = _; simp [okSv, hg, hv, he, hr]
            clear hv
            go_enter Try.func50, Try.ntmps50
            go_wp2_with (first | (go_at_call 32; refine (l1In_c _ _ _ _ _ hg).mono ?_; rintro e w' ⟨rfl, rfl⟩) | (go_at_call 30; refine (goodE_c _ _ _ _ _ (by first | exact h5.below (HB _ _) | exact h5.below (HB3 _ _ _)) l5 he).mono ?_; rintro e w' ⟨rfl, rfl⟩) | (go_at_call 68; refine (l6Group_c _ _ _ _ _ _ (by first | exact h4.below (HB _ _) | exact h4.below (HB3 _ _ _)) l4 hr).mono ?_; rintro e w' ⟨rfl, rfl⟩))
            go_ret
            exact ⟨ret_bool HE.out.symm, by first | exact HB _ _ | exact HB3 _ _ _⟩
        | false =>
          cases he : goodE log with
          | false =>
            have HE : Hid (okSv s.svs.length ⟨term, voted, false, false, got, log⟩ = false) := by show _ = _; simp [okSv, hg, hv, he]
            clear hv
            go_enter Try.func50, Try.ntmps50
            go_wp2_with (first | (go_at_call 32; refine (l1In_c _ _ _ _ _ hg).mono ?_; rintro e w' ⟨rfl, rfl⟩) | (go_at_call 30; refine (goodE_c _ _ _ _ _ (by first | exact h5.below (HB _ _) | exact h5.below (HB3 _ _ _)) l5 he).mono ?_; rintro e w' ⟨rfl, rfl⟩))
            go_ret
            exact ⟨ret_bool HE.out.symm, by first | exact HB _ _ | exact HB3 _ _ _⟩
          | true =>
            by_cases h0 : got.length = 0
            · have d0 : (((got.length : Nat) : Int) == 0) = true := by rw [h0]; rfl
              have HE : Hid (okSv s.svs.length ⟨term, voted, false, false, got, log⟩ = true) := by show _ = _; simp [okSv, hg, hv, he, List.eq_nil_of_length_eq_zero h0]
              clear hv h0
              go_enter Try.func50, Try.ntmps50
              go_wp2_with (first | (go_at_call 32; refine (l1In_c _ _ _ _ _ hg).mono ?_; rintro e w' ⟨rfl, rfl⟩) | (go_at_call 30; refine (goodE_c _ _ _ _ _ (by first | exact h5.below (HB _ _) | exact h5.below (HB3 _ _ _)) l5 he).mono ?_; rintro e w' ⟨rfl, rfl⟩))
              go_ret
              exact ⟨ret_bool HE.out.symm, by first | exact HB _ _ | exact HB3 _ _ _⟩
            · have d0 : (((got.length : Nat) : Int) == 0) = false := by rw [beq_eq_false_iff_ne]; omega
              have h0' : ¬ got = [] := fun e => h0 (by simp [e])
              have HE : Hid (okSv s.svs.length ⟨term, voted, false, false, got, log⟩ = false) := by show _ = _; simp [okSv, hg, hv, he, h0']
              clear hv h0 h0'
              go_enter Try.func50, Try.ntmps50
              go_wp2_with (first | (go_at_call 32; refine (l1In_c _ _ _ _ _ hg).mono ?_; rintro e w' ⟨rfl, rfl⟩) | (go_at_call 30; refine (goodE_c _ _ _ _ _ (by first | exact h5.below (HB _ _) | exact h5.below (HB3 _ _ _)) l5 he).mono ?_; rintro e w' ⟨rfl, rfl⟩))
              go_ret
              exact ⟨ret_bool HE.out.symm, by first | exact HB _ _ | exact HB3 _ _ _⟩
    · have dv : (voted != -1) = true := by simp [hv]
      cases ht : thB s.svs.length voted with
      | false =>
        have HE : Hid (okSv s.svs.length ⟨term, voted, stands, leads, got, log⟩ = false) := by show _ = _; simp [okSv, hg, hv, ht]
        clear hv
        go_enter Try.func50, Try.ntmps50
        go_wp2_with (first | (go_at_call 32; refine (l1In_c _ _ _ _ _ hg).mono ?_; rintro e w' ⟨rfl, rfl⟩) | (go_at_call 52; refine (l9There_any _ _ _ _ _ _ _ _ _ _ ht).mono ?_; rintro e w' ⟨rfl, o, rfl⟩))
        go_ret
        exact ⟨ret_bool HE.out.symm, by first | exact HB _ _ | exact HB3 _ _ _⟩
      | true =>
        cases stands with
        | true =>
          cases leads with
          | true =>
            have HE : Hid (okSv s.svs.length ⟨term, voted, true, true, got, log⟩ = false) := by show _ = _; simp [okSv, hg, hv, ht]
            clear hv
            go_enter Try.func50, Try.ntmps50
            go_wp2_with (first | (go_at_call 32; refine (l1In_c _ _ _ _ _ hg).mono ?_; rintro e w' ⟨rfl, rfl⟩) | (go_at_call 52; refine (l9There_any _ _ _ _ _ _ _ _ _ _ ht).mono ?_; rintro e w' ⟨rfl, o, rfl⟩))
            go_ret
            exact ⟨ret_bool HE.out.symm, by first | exact HB _ _ | exact HB3 _ _ _⟩
          | false =>
            cases he : goodE log with
            | false =>
              have HE : Hid (okSv s.svs.length ⟨term, voted, true, false, got, log⟩ = false) := by show _ = _; simp [okSv, hg, hv, ht, he]
              clear hv
              go_enter Try.func50, Try.ntmps50
              go_wp2_with (first | (go_at_call 32; refine (l1In_c _ _ _ _ _ hg).mono ?_; rintro e w' ⟨rfl, rfl⟩) | (go_at_call 52; refine (l9There_any _ _ _ _ _ _ _ _ _ _ ht).mono ?_; rintro e w' ⟨rfl, o, rfl⟩) | (go_at_call 30; refine (goodE_c _ _ _ _ _ (by first | exact h5.below (HB _ _) | exact h5.below (HB3 _ _ _)) l5 he).mono ?_; rintro e w' ⟨rfl, rfl⟩))
              go_ret
              exact ⟨ret_bool HE.out.symm, by first | exact HB _ _ | exact HB3 _ _ _⟩
            | true =>
              obtain ⟨b, hr⟩ : ∃ b, riseB got s.svs.length = b := ⟨_, rfl⟩
              have HE : Hid (okSv s.svs.length ⟨term, voted, true, false, got, log⟩ = b) := by show _ = _; simp [okSv, hg, hv, ht, he, hr]
              clear hv
              go_enter Try.func50, Try.ntmps50
              go_wp2_with (first | (go_at_call 32; refine (l1In_c _ _ _ _ _ hg).mono ?_; rintro e w' ⟨rfl, rfl⟩) | (go_at_call 52; refine (l9There_any _ _ _ _ _ _ _ _ _ _ ht).mono ?_; rintro e w' ⟨rfl, o, rfl⟩) | (go_at_call 30; refine (goodE_c _ _ _ _ _ (by first | exact h5.below (HB _ _) | exact h5.below (HB3 _ _ _)) l5 he).mono ?_; rintro e w' ⟨rfl, rfl⟩) | (go_at_call 68; refine (l6Group_c _ _ _ _ _ _ (by first | exact h4.below (HB _ _) | exact h4.below (HB3 _ _ _)) l4 hr).mono ?_; rintro e w' ⟨rfl, rfl⟩))
              go_ret
              exact ⟨ret_bool HE.out.symm, by first | exact HB _ _ | exact HB3 _ _ _⟩
        | false =>
          cases leads with
          | true =>
            cases he : goodE log with
            | false =>
              have HE : Hid (okSv s.svs.length ⟨term, voted, false, true, got, log⟩ = false) := by show _ = _; simp [okSv, hg, hv, ht, he]
              clear hv
              go_enter Try.func50, Try.ntmps50
              go_wp2_with (first | (go_at_call 32; refine (l1In_c _ _ _ _ _ hg).mono ?_; rintro e w' ⟨rfl, rfl⟩) | (go_at_call 52; refine (l9There_any _ _ _ _ _ _ _ _ _ _ ht).mono ?_; rintro e w' ⟨rfl, o, rfl⟩) | (go_at_call 30; refine (goodE_c _ _ _ _ _ (by first | exact h5.below (HB _ _) | exact h5.below (HB3 _ _ _)) l5 he).mono ?_; rintro e w' ⟨rfl, rfl⟩))
              go_ret
              exact ⟨ret_bool HE.out.symm, by first | exact HB _ _ | exact HB3 _ _ _⟩
            | true =>
              obtain ⟨b, hr⟩ : ∃ b, riseB got s.svs.length = b := ⟨_, rfl⟩
              have HE : Hid (okSv s.svs.length ⟨term, voted, false, true, got, log⟩ = b) := by show _ = _; simp [okSv, hg, hv, ht, he, hr]
              clear hv
              go_enter Try.func50, Try.ntmps50
              go_wp2_with (first | (go_at_call 32; refine (l1In_c _ _ _ _ _ hg).mono ?_; rintro e w' ⟨rfl, rfl⟩) | (go_at_call 52; refine (l9There_any _ _ _ _ _ _ _ _ _ _ ht).mono ?_; rintro e w' ⟨rfl, o, rfl⟩) | (go_at_call 30; refine (goodE_c _ _ _ _ _ (by first | exact h5.below (HB _ _) | exact h5.below (HB3 _ _ _)) l5 he).mono ?_; rintro e w' ⟨rfl, rfl⟩) | (go_at_call 68; refine (l6Group_c _ _ _ _ _ _ (by first | exact h4.below (HB _ _) | exact h4.below (HB3 _ _ _)) l4 hr).mono ?_; rintro e w' ⟨rfl, rfl⟩))
              go_ret
              exact ⟨ret_bool HE.out.symm, by first | exact HB _ _ | exact HB3 _ _ _⟩
          | false =>
            cases he : goodE log with
            | false =>
              have HE : Hid (okSv s.svs.length ⟨term, voted, false, false, got, log⟩ = false) := by show _ = _; simp [okSv, hg, hv, ht, he]
              clear hv
              go_enter Try.func50, Try.ntmps50
              go_wp2_with (first | (go_at_call 32; refine (l1In_c _ _ _ _ _ hg).mono ?_; rintro e w' ⟨rfl, rfl⟩) | (go_at_call 52; refine (l9There_any _ _ _ _ _ _ _ _ _ _ ht).mono ?_; rintro e w' ⟨rfl, o, rfl⟩) | (go_at_call 30; refine (goodE_c _ _ _ _ _ (by first | exact h5.below (HB _ _) | exact h5.below (HB3 _ _ _)) l5 he).mono ?_; rintro e w' ⟨rfl, rfl⟩))
              go_ret
              exact ⟨ret_bool HE.out.symm, by first | exact HB _ _ | exact HB3 _ _ _⟩
            | true =>
              by_cases h0 : got.length = 0
              · have d0 : (((got.length : Nat) : Int) == 0) = true := by rw [h0]; rfl
                have HE : Hid (okSv s.svs.length ⟨term, voted, false, false, got, log⟩ = true) := by show _ = _; simp [okSv, hg, hv, ht, he, List.eq_nil_of_length_eq_zero h0]
                clear hv h0
                go_enter Try.func50, Try.ntmps50
                go_wp2_with (first | (go_at_call 32; refine (l1In_c _ _ _ _ _ hg).mono ?_; rintro e w' ⟨rfl, rfl⟩) | (go_at_call 52; refine (l9There_any _ _ _ _ _ _ _ _ _ _ ht).mono ?_; rintro e w' ⟨rfl, o, rfl⟩) | (go_at_call 30; refine (goodE_c _ _ _ _ _ (by first | exact h5.below (HB _ _) | exact h5.below (HB3 _ _ _)) l5 he).mono ?_; rintro e w' ⟨rfl, rfl⟩))
                go_ret
                exact ⟨ret_bool HE.out.symm, by first | exact HB _ _ | exact HB3 _ _ _⟩
              · have d0 : (((got.length : Nat) : Int) == 0) = false := by rw [beq_eq_false_iff_ne]; omega
                have h0' : ¬ got = [] := fun e => h0 (by simp [e])
                have HE : Hid (okSv s.svs.length ⟨term, voted, false, false, got, log⟩ = false) := by show _ = _; simp [okSv, hg, hv, ht, he, h0']
                clear hv h0 h0'
                go_enter Try.func50, Try.ntmps50
                go_wp2_with (first | (go_at_call 32; refine (l1In_c _ _ _ _ _ hg).mono ?_; rintro e w' ⟨rfl, rfl⟩) | (go_at_call 52; refine (l9There_any _ _ _ _ _ _ _ _ _ _ ht).mono ?_; rintro e w' ⟨rfl, o, rfl⟩) | (go_at_call 30; refine (goodE_c _ _ _ _ _ (by first | exact h5.below (HB _ _) | exact h5.below (HB3 _ _ _)) l5 he).mono ?_; rintro e w' ⟨rfl, rfl⟩))
                go_ret
                exact ⟨ret_bool HE.out.symm, by first | exact HB _ _ | exact HB3 _ _ _⟩

end Go.Proofs.Ytjicphdjipihfaa
