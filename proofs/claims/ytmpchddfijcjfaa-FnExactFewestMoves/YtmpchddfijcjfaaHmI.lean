/-
  Places, the program's side: GoodPlaces, MovesTo.
-/
import Derived.Test.YtmpchddfijcjfaaHmM
import Derived.Test.YtmpchddfijcjfaaHmQ0
import Derived.Deep.RegionHeld3
import Derived.WalkMore
import Derived.Handy
namespace Go.Proofs.Ytmpchddfijcjfaa
open Go.RowKit

theorem oneUpToH (n hi : Int) (b : Bool) (w : World) (h : inB n 1 hi = b) : Calls Try.prog 29 #[.int .i64 n, .int .i64 hi] w fun e w' => e = .returned (.bool b) ∧ w' = w := by
  subst h
  by_cases h1 : n < 1
  · have HE : Hid (inB n 1 hi = false) := by show _ = _; simp [inB]; omega
    go_enter Try.func29, Try.ntmps29
    go_wp2
    go_ret
    exact ⟨ret_bool HE.out.symm, rfl⟩
  · by_cases h2 : n ≤ hi
    · have HE : Hid (inB n 1 hi = true) := by show _ = _; simp [inB]; omega
      go_enter Try.func29, Try.ntmps29
      go_wp2
      go_ret
      exact ⟨ret_bool HE.out.symm, rfl⟩
    · have HE : Hid (inB n 1 hi = false) := by show _ = _; simp [inB]; omega
      go_enter Try.func29, Try.ntmps29
      go_wp2
      go_ret
      exact ⟨ret_bool HE.out.symm, rfl⟩

def lowH (z : Int) : Bool := decide (-1 ≤ z)
theorem isPlace_c (z : Int) (b : Bool) (w : World) (h : lowH z = b) : Calls Try.prog 32 #[.int .i64 z] w fun e w' => e = .returned (.bool b) ∧ w' = w := by
  subst h
  by_cases h1 : -1 ≤ z
  · have HE : Hid (lowH z = true) := by show _ = _; simp [lowH]; omega
    go_enter Try.func32, Try.ntmps32
    go_wp2
    go_ret
    exact ⟨ret_bool (by rw [HE.out]), rfl⟩
  · have HE : Hid (lowH z = false) := by show _ = _; simp [lowH]; omega
    go_enter Try.func32, Try.ntmps32
    go_wp2
    go_ret
    exact ⟨ret_bool (by rw [HE.out]), rfl⟩

theorem litPl_c (z n : Int) (Bv : Nat) (w : World) (cN : w.cell? ⟨Bv, 0, none⟩ = some (.int .i64 n)) (y : Bool) (h : okHm n z = y) :
    Calls Try.prog 31 #[.int .i64 z, .pointer (some ⟨Bv, 0, none⟩)] w fun r w' => r = .returned (.bool y) ∧ Below w.heap.size w w' := by
  subst h
  cases g1 : lowH z with
  | false =>
    have HE : Hid (okHm n z = false) := by show _ = _; unfold okHm; rw [show decide (-1 ≤ z) = false from g1]; rfl
    go_enter Try.func31, Try.ntmps31
    go_wp2_with (go_at_call 32; refine (isPlace_c _ _ _ g1).mono ?_; rintro e w' ⟨rfl, hw⟩; rw [hw]; clear hw w')
    go_ret
    exact ⟨ret_bool HE.out.symm, Below.refl _ _⟩
  | true =>
    obtain ⟨x, hx⟩ : ∃ x, decide (z < n) = x := ⟨_, rfl⟩
    have HE : Hid (okHm n z = x) := by show _ = _; unfold okHm; rw [show decide (-1 ≤ z) = true from g1, ← hx]; rfl
    go_enter Try.func31, Try.ntmps31
    go_wp2_with (go_at_call 32; refine (isPlace_c _ _ _ g1).mono ?_; rintro e w' ⟨rfl, hw⟩; rw [hw]; clear hw w')
    go_ret
    exact ⟨ret_bool HE.out.symm, Below.refl _ _⟩

abbrev litP (Bv : Nat) : Value := .func (.func 31) #[] #[.pointer (some ⟨Bv, 0, none⟩)]
theorem celHm {w w' : World} {b o : Nat} {v : Value} (h : Below w.heap.size w w') (hc : w.cell? ⟨b, o, none⟩ = some v) : w'.cell? ⟨b, o, none⟩ = some v := (h.cell (p := ⟨b, o, none⟩) (lt_of_cell hc)).trans hc

set_option maxRecDepth 100000 in
set_option maxHeartbeats 4000000 in
theorem allOfP_any (n : Int) (Bv : Nat) (a : Option Addr) (c : Nat) (l : List Int) (w : World) (hs : Ints w a l) (hl : l.length ≤ maxLen) (cN : w.cell? ⟨Bv, 0, none⟩ = some (.int .i64 n)) :
    Calls Try.prog 30 #[.slice a l.length c, litP Bv] w fun r w' => r = .returned (.bool (l.all (okHm n))) ∧ Below w.heap.size w w' := by
  unfold maxLen at hl
  go_enter Try.func30, Try.ntmps30
  go_wp2
  go_loopw [9] (fun i wr => ∃ k : Nat, k ≤ l.length ∧ i = .int .i64 k ∧ Hid (allTo (okHm n) l k) ∧ Below w.heap.size w wr) (fun i _ => l.length - (intOf i).toNat)
  case atStart => exact ⟨0, Nat.zero_le _, rfl, allTo_zero _ _, Below.refl _ _⟩
  case round =>
    obtain ⟨k, hk, rfl, HO, hB⟩ := hrel
    by_cases hlt : k < l.length
    · obtain ⟨b, off, rfl, c0⟩ := (hs.below hB) k _ (zA_get hlt)
      have dN := celHm hB cN
      have HK : Hid (l[k]? = some (zA l k)) := zA_get hlt
      have hki : (k : Int) < (l.length : Int) := by omega
      generalize zA l k = x at *
      cases g : (okHm n) x with
      | false =>
        have HE : Hid (l.all (okHm n) = false) := all_bad HK.out g
        go_wp2_with fail
        refine (litPl_c x n Bv _ dN _ g).mono ?_
        rintro r w1 ⟨rfl, hB1⟩
        have BB := stHm hB hB1
        go_wp2
        go_ret
        exact ⟨ret_bool HE.out.symm, BB⟩
      | true =>
        have HN : Hid (allTo (okHm n) l (k + 1)) := allTo_succ HO.out HK.out g
        go_wp2_with fail
        refine (litPl_c x n Bv _ dN _ g).mono ?_
        rintro r w1 ⟨rfl, hB1⟩
        have BB := stHm hB hB1
        go_wp2
        go_roundw
        case rel => exact ⟨k + 1, by omega, by go_num, HN.out, BB⟩
        case measure => simp [intOf]; omega
    · obtain rfl : k = l.length := by omega
      have HE : Hid (l.all (okHm n) = true) := all_done HO.out
      go_wp2
      go_ret
      exact ⟨ret_bool HE.out.symm, hB⟩

theorem allOfP_c (n : Int) (Bv : Nat) (a : Option Addr) (c : Nat) (l : List Int) (w : World) (hs : Ints w a l) (hl : l.length ≤ maxLen) (cN : w.cell? ⟨Bv, 0, none⟩ = some (.int .i64 n)) (y : Bool) (h : l.all (okHm n) = y) :
    Calls Try.prog 30 #[.slice a l.length c, litP Bv] w fun r w' => r = .returned (.bool y) ∧ Below w.heap.size w w' := by
  subst h; exact allOfP_any n Bv a c l w hs hl cN

set_option maxRecDepth 100000 in
set_option maxHeartbeats 4000000 in
theorem allOfL_any (a : Option Addr) (c : Nat) (l : List Int) (w : World) (hs : Ints w a l) (hl : l.length ≤ maxLen) :
    Calls Try.prog 30 #[.slice a l.length c, .func (.func 32) #[] #[]] w fun r w' => r = .returned (.bool (lowB l)) ∧ w' = w := by
  unfold maxLen at hl
  go_enter Try.func30, Try.ntmps30
  go_wp2
  go_loop [9] (fun i => ∃ k : Nat, k ≤ l.length ∧ i = .int .i64 k ∧ Hid (allTo (fun h => decide (-1 ≤ h)) l k)) (fun i => l.length - (intOf i).toNat)
  case atStart => exact ⟨0, Nat.zero_le _, rfl, allTo_zero _ _⟩
  case round =>
    obtain ⟨k, hk, rfl, HO⟩ := hrel
    by_cases hlt : k < l.length
    · obtain ⟨b, off, rfl, c0⟩ := hs k _ (zA_get hlt)
      have HK : Hid (l[k]? = some (zA l k)) := zA_get hlt
      have hki : (k : Int) < (l.length : Int) := by omega
      generalize zA l k = x at *
      cases g : lowH x with
      | false =>
        have HE : Hid (lowB l = false) := all_bad HK.out g
        go_wp2_with fail
        refine (isPlace_c x _ _ g).mono ?_
        rintro r w1 ⟨rfl, hw⟩
        rw [hw]; clear hw w1
        go_wp2
        go_ret
        exact ⟨ret_bool HE.out.symm, rfl⟩
      | true =>
        have HN : Hid (allTo (fun h => decide (-1 ≤ h)) l (k + 1)) := allTo_succ HO.out HK.out g
        go_wp2_with fail
        refine (isPlace_c x _ _ g).mono ?_
        rintro r w1 ⟨rfl, hw⟩
        rw [hw]; clear hw w1
        go_wp2
        go_round
        case rel => exact ⟨k + 1, by omega, by go_num, HN.out⟩
        case measure => simp [intOf]; omega
    · obtain rfl : k = l.length := by omega
      have HE : Hid (lowB l = true) := all_done HO.out
      go_wp2
      go_ret
      exact ⟨ret_bool HE.out.symm, rfl⟩

theorem allOfL_c (a : Option Addr) (c : Nat) (l : List Int) (w : World) (hs : Ints w a l) (hl : l.length ≤ maxLen) (y : Bool) (h : lowB l = y) :
    Calls Try.prog 30 #[.slice a l.length c, .func (.func 32) #[] #[]] w fun r w' => r = .returned (.bool y) ∧ w' = w := by
  subst h; exact allOfL_any a c l w hs hl

set_option maxRecDepth 100000 in
set_option maxHeartbeats 4000000 in
theorem implGoodPl_any (n : Int) (a : Option Addr) (c : Nat) (l : List Int) (w : World) (hs : Ints w a l) (hl : l.length ≤ maxLen) :
    Calls Try.prog 12 #[.int .i64 n, .slice a l.length c] w fun e w' => e = .returned (.bool (plB n l)) ∧ Below w.heap.size w w' := by
  have HB : ∀ o, Below w.heap.size w (w.alloc o) := fun o => alHm w o
  have hs1 : ∀ o, Ints (w.alloc o) a l := fun o => hs.below (HB o)
  cases g1 : inB n 1 6 with
  | false =>
    have HE : Hid (plB n l = false) := by show _ = _; unfold plB; rw [g1]; simp
    go_enter Try.func12, Try.ntmps12
    go_wp2_with (go_at_call 29; refine (oneUpToH _ _ _ _ g1).mono ?_; rintro e w' ⟨rfl, hw⟩; rw [hw]; clear hw w')
    go_ret
    exact ⟨ret_bool HE.out.symm, HB _⟩
  | true =>
    by_cases g2 : l.length ≤ 16
    · have d2 : decide ((l.length : Int) ≤ 16) = true := by simp; omega
      have HE : Hid (plB n l = l.all (okHm n)) := by show _ = _; unfold plB; rw [g1]; simp [g2]
      cases g3 : l.all (okHm n)
      all_goals
        go_enter Try.func12, Try.ntmps12
        go_wp2_with (first | (go_at_call 29; refine (oneUpToH _ _ _ _ g1).mono ?_; rintro e w' ⟨rfl, hw⟩; rw [hw]; clear hw w') | (go_at_call 30; refine (allOfP_c n w.heap.size _ _ _ _ (hs1 _) hl (by simp [go_sem]) _ g3).mono ?_; rintro r w1 ⟨rfl, hB1⟩; have BB := stHm (HB _) hB1))
        go_ret
        exact ⟨ret_bool (HE.out.trans g3).symm, BB⟩
    · have d2 : decide ((l.length : Int) ≤ 16) = false := by simp; omega
      have HE : Hid (plB n l = false) := by show _ = _; unfold plB; rw [g1]; simp [g2]
      clear g2
      go_enter Try.func12, Try.ntmps12
      go_wp2_with (go_at_call 29; refine (oneUpToH _ _ _ _ g1).mono ?_; rintro e w' ⟨rfl, hw⟩; rw [hw]; clear hw w')
      go_ret
      exact ⟨ret_bool HE.out.symm, HB _⟩

theorem implGoodPl_c (n : Int) (a : Option Addr) (c : Nat) (l : List Int) (b : Bool) (w : World) (hs : Ints w a l) (hl : l.length ≤ maxLen) (h : plB n l = b) :
    Calls Try.prog 12 #[.int .i64 n, .slice a l.length c] w fun e w' => e = .returned (.bool b) ∧ Below w.heap.size w w' := by
  subst h; exact implGoodPl_any n a c l w hs hl

set_option maxRecDepth 100000 in
set_option maxHeartbeats 8000000 in
theorem implMovesTo_any (a b : Option Addr) (c d : Nat) (xs ys : List Int) (w : World) (hx : Ints w a xs) (hy : Ints w b ys) (hl : xs.length ≤ maxLen) (hm : ys.length ≤ maxLen) :
    Calls Try.prog 23 #[.slice a xs.length c, .slice b ys.length d] w fun e w' => e = .returned (.tuple #[.int .i64 (mvN xs ys), .bool (mvB xs ys)]) ∧ Below w.heap.size w w' := by
  have hl' := hl
  have hm' := hm
  unfold maxLen at hl' hm'
  by_cases h3 : xs.length = ys.length
  · have d3 : (((xs.length : Nat) : Int) != ((ys.length : Nat) : Int)) = false := by simp [h3]
    have H3 : Hid (xs.length = ys.length) := h3
    clear h3
    cases g1 : lowB xs with
    | false =>
      have HE : Hid (mvN xs ys = 0 ∧ mvB xs ys = false) := mv_f (by simp [mvB, g1])
      go_enter Try.func23, Try.ntmps23
      go_wp2_with (go_at_call 30; refine (allOfL_c _ _ _ _ hx hl _ g1).mono ?_; rintro e w' ⟨rfl, hw⟩; rw [hw]; clear hw w')
      exact bodyPost_ret (v := .tuple #[.int .i64 0, .bool false]) (by simp [results, Try.results23, go_sem]) rfl ⟨by rw [HE.out.1, HE.out.2], Below.refl _ _⟩
    | true =>
      cases g2 : lowB ys with
      | false =>
        have HE : Hid (mvN xs ys = 0 ∧ mvB xs ys = false) := mv_f (by simp [mvB, g2])
        go_enter Try.func23, Try.ntmps23
        go_wp2_with fail
        refine (allOfL_c _ _ _ _ hx hl _ g1).mono ?_
        rintro e w' ⟨rfl, hw⟩
        rw [hw]; clear hw w'
        go_wp2_with fail
        refine (allOfL_c _ _ _ _ hy hm _ g2).mono ?_
        rintro e w' ⟨rfl, hw⟩
        rw [hw]; clear hw w'
        go_wp2
        exact bodyPost_ret (v := .tuple #[.int .i64 0, .bool false]) (by simp [results, Try.results23, go_sem]) rfl ⟨by rw [HE.out.1, HE.out.2], Below.refl _ _⟩
      | true =>
        have HE : Hid (mvN xs ys = ((mvTo xs ys xs.length : Nat) : Int) ∧ mvB xs ys = true) := mv_t (by simp [mvB, g1, g2, H3.out])
        go_enter Try.func23, Try.ntmps23
        go_wp2_with fail
        refine (allOfL_c _ _ _ _ hx hl _ g1).mono ?_
        rintro e w' ⟨rfl, hw⟩
        rw [hw]; clear hw w'
        go_wp2_with fail
        refine (allOfL_c _ _ _ _ hy hm _ g2).mono ?_
        rintro e w' ⟨rfl, hw⟩
        rw [hw]; clear hw w'
        go_wp2
        go_loopw [6, 25] (fun n i wr => ∃ k : Nat, k ≤ xs.length ∧ i = .int .i64 k ∧ n = .int .i64 ((mvTo xs ys k : Nat) : Int) ∧ Below w.heap.size w wr) (fun _ i _ => xs.length - (intOf i).toNat)
        case atStart => exact ⟨0, Nat.zero_le _, rfl, rfl, Below.refl _ _⟩
        case round =>
          obtain ⟨k, hk, rfl, rfl, hB⟩ := hrel
          have hcl := mvTo_le xs ys k
          by_cases hlt : k < xs.length
          · obtain ⟨b1, o1, rfl, hc1⟩ := (hx.below hB) k _ (zA_get hlt)
            obtain ⟨b2, o2, rfl, hc2⟩ := (hy.below hB) k _ (zA_get (by have := H3.out; omega : k < ys.length))
            have hki : (k : Int) < (xs.length : Int) := by omega
            have hki2 : (k : Int) < (ys.length : Int) := by have := H3.out; omega
            have HN : Hid (mvTo xs ys (k + 1) = mvTo xs ys k + if zA xs k = zA ys k then 0 else 1) := rfl
            obtain ⟨x, hx'⟩ : ∃ x, zA xs k = x := ⟨_, rfl⟩
            obtain ⟨y, hy'⟩ : ∃ y, zA ys k = y := ⟨_, rfl⟩
            obtain ⟨C, hC⟩ : ∃ C, mvTo xs ys k = C := ⟨_, rfl⟩
            rw [hC, hx', hy'] at HN
            rw [hC] at hcl ⊢
            rw [hx'] at hc1
            rw [hy'] at hc2
            clear hx hy hx' hy' hC
            by_cases hxy : x = y
            · have dxy : (x != y) = false := by simp [hxy]
              have HM : Hid (mvTo xs ys (k + 1) = C) := by show _ = _; rw [HN.out, if_pos hxy, Nat.add_zero]
              clear hxy HN
              go_wp2
              go_quiet (fail)
              go_wp2
              go_roundw
              case rel => exact ⟨k + 1, by omega, by go_num, by rw [HM.out], below_drewN hB _⟩
              case measure => simp [intOf]; omega
            · have dxy : (x != y) = true := by simp [hxy]
              have HM : Hid (mvTo xs ys (k + 1) = C + 1) := by show _ = _; rw [HN.out, if_neg hxy]
              clear hxy HN
              go_wp2
              go_quiet (fail)
              go_wp2
              go_roundw
              case rel => exact ⟨k + 1, by omega, by go_num, by rw [HM.out]; go_num, below_drewN hB _⟩
              case measure => simp [intOf]; omega
          · obtain rfl : k = xs.length := by omega
            go_wp2
            exact bodyPost_ret (v := .tuple #[.int .i64 ((mvTo xs ys xs.length : Nat) : Int), .bool true]) (by simp [results, Try.results23, go_sem]) rfl ⟨by rw [HE.out.1, HE.out.2], hB⟩
  · have d3 : (((xs.length : Nat) : Int) != ((ys.length : Nat) : Int)) = true := by simp; omega
    have HE : Hid (mvN xs ys = 0 ∧ mvB xs ys = false) := mv_f (by simp [mvB, h3])
    clear h3
    go_enter Try.func23, Try.ntmps23
    go_wp2
    exact bodyPost_ret (v := .tuple #[.int .i64 0, .bool false]) (by simp [results, Try.results23, go_sem]) rfl ⟨by rw [HE.out.1, HE.out.2], Below.refl _ _⟩

end Go.Proofs.Ytmpchddfijcjfaa
