/-
  Places, the specification's side: GoodPlaces, l13Loads, LoadsOf, IsEven, MovesTo.
-/
import Derived.Test.YtmpchddfijcjfaaHmM
import Derived.Test.YtmpchddfijcjfaaQSpec
import Derived.Test.YtmpchddfijcjfaaZCell
import Derived.Test.YtmpchddfijcjfaaBagAid
import Derived.BigQuiet
namespace Go.Proofs.Ytmpchddfijcjfaa
open Go.RowKit

theorem l1In_m (n lo hi : Int) (b : Bool) (w : World) (h : inB n lo hi = b) : Calls Try.prog 28 #[.int .i64 n, .int .i64 lo, .int .i64 hi] w fun e w' => e = .returned (.bool b) ∧ w' = w := by
  rw [← h]; exact l1In_any n lo hi w
theorem l1Has_m (a : Option Addr) (c : Nat) (zs : List Int) (n : Int) (b : Bool) (w : World) (hs : Ints w a zs) (hl : zs.length ≤ maxLen) (h : zs.contains n = b) :
    Calls Try.prog 36 #[.slice a zs.length c, .int .i64 n] w fun e w' => e = .returned (.bool b) ∧ w' = w := by
  rw [← h]; exact l1Has_any a c zs n w hs hl

set_option maxHeartbeats 1000000 in
theorem specGoodPl_any (n : Int) (a : Option Addr) (c : Nat) (l : List Int) (w : World) (hs : Ints w a l) (hl : l.length ≤ maxLen) :
    Calls Try.prog 10 #[.int .i64 n, .slice a l.length c] w fun e w' => e = .returned (.bool (plB n l)) ∧ w' = w := by
  unfold maxLen at hl
  go_enter Try.func10, Try.ntmps10
  go_wp2
  go_loop [9] (fun i => ∃ k : Nat, k ≤ l.length ∧ i = .int .i64 k ∧ Hid (allTo (okHm n) l k)) (fun i => l.length - (intOf i).toNat)
  case atStart => exact ⟨0, Nat.zero_le _, rfl, allTo_zero _ _⟩
  case round =>
    obtain ⟨k, hk, rfl, HO⟩ := hrel
    by_cases hlt : k < l.length
    · obtain ⟨b, off, rfl, hc⟩ := hs k _ (zA_get hlt)
      have HK : Hid (l[k]? = some (zA l k)) := zA_get hlt
      have hki : (k : Int) < (l.length : Int) := by omega
      obtain ⟨z, hz⟩ : ∃ z, zA l k = z := ⟨_, rfl⟩
      rw [hz] at hc HK
      clear hs hz
      by_cases h1 : z < -1
      · have HE : Hid (plB n l = false) := plB_f (all_bad HK.out (by simp [okHm]; omega))
        go_wp2
        go_ret
        exact ⟨ret_bool HE.out.symm, rfl⟩
      by_cases h2 : n ≤ z
      · have HE : Hid (plB n l = false) := plB_f (all_bad HK.out (by simp [okHm]; omega))
        go_wp2
        go_ret
        exact ⟨ret_bool HE.out.symm, rfl⟩
      have HN : Hid (allTo (okHm n) l (k + 1)) := allTo_succ HO.out HK.out (by simp [okHm]; omega)
      go_wp2
      go_round
      case rel => exact ⟨k + 1, by omega, by go_num, HN.out⟩
      case measure => simp [intOf]; omega
    · obtain rfl : k = l.length := by omega
      have HP : Hid (plB n l = (inB n 1 6 && decide (l.length ≤ 16))) := plB_t (all_done HO.out)
      cases h1 : inB n 1 6 with
      | false =>
        have HE : Hid (plB n l = false) := by show _ = _; rw [HP.out, h1]; rfl
        go_wp2_with (go_at_call 28; refine (l1In_m _ _ _ _ _ h1).mono ?_; rintro e w' ⟨rfl, rfl⟩)
        go_ret
        exact ⟨ret_bool HE.out.symm, rfl⟩
      | true =>
        obtain ⟨x, hx⟩ : ∃ x, decide ((l.length : Int) ≤ 16) = x := ⟨_, rfl⟩
        have HE : Hid (plB n l = x) := by show _ = _; rw [HP.out, h1, ← hx, Bool.true_and]; exact decide_eq_decide.2 (by omega)
        go_wp2_with (go_at_call 28; refine (l1In_m _ _ _ _ _ h1).mono ?_; rintro e w' ⟨rfl, rfl⟩)
        go_ret
        exact ⟨ret_bool (by rw [HE.out]), rfl⟩

theorem specGoodPl_c (n : Int) (a : Option Addr) (c : Nat) (l : List Int) (b : Bool) (w : World) (hs : Ints w a l) (hl : l.length ≤ maxLen) (h : plB n l = b) :
    Calls Try.prog 10 #[.int .i64 n, .slice a l.length c] w fun e w' => e = .returned (.bool b) ∧ w' = w := by
  rw [← h]; exact specGoodPl_any n a c l w hs hl

/-- The row of loads over the first k. -/
def loadF (l : List Int) (k : Nat) (j : Nat) : Value := .int .i64 ((cntTo l (j : Int) k : Nat) : Int)

set_option maxRecDepth 100000 in
set_option maxHeartbeats 2000000 in
theorem l13Loads_any (n : Nat) (a : Option Addr) (c : Nat) (l : List Int) (w : World) (hs : Ints w a l) (hn : n ≤ 1000) (hl : l.length ≤ 1000) (hr : ∀ z, z ∈ l → z < (n : Int)) :
    Calls Try.prog 33 #[.int .i64 (n : Int), .slice a l.length c] w fun e w' => ∃ g, e = .returned (.slice (some ⟨g, 0, none⟩) n n) ∧ Ints w' (some ⟨g, 0, none⟩) (loadL n l) ∧ RowI w' w.heap.size (some ⟨g, 0, none⟩) n ∧ Below w.heap.size w w' := by
  have HR : Hid (∀ z, z ∈ l → z < (n : Int)) := hr
  have hmk := run_make_manyV (P := Try.prog) 22 3 _ 1 8 Try.underlying22 Try.infoInt .i64 .i64 n (by omega) (by omega)
  have hR0 : (w.alloc (.cells (madeCells #[.int .i64 0] n) 3)).rowIs w.heap.size 3 n (loadF l 0) := (World.rowIs_made _ _ _ _).congr (fun j _ => by simp [loadF, cntTo])
  have hB0 : ∀ o, Below w.heap.size w (w.alloc o) := fun o => (Below.refl _ _).alloc (Nat.le_refl _) o
  simp only [Value.cells, Nat.mul_one] at hmk
  clear hr
  go_enter Try.func33, Try.ntmps33
  go_wp2
  clear hmk
  go_loopw [12] (fun i wr => ∃ k : Nat, k ≤ l.length ∧ i = .int .i64 k ∧ wr.rowIs w.heap.size 3 n (loadF l k) ∧ Below w.heap.size w wr) (fun i _ => l.length - (intOf i).toNat)
  case atStart => exact ⟨0, Nat.zero_le _, rfl, hR0, hB0 _⟩
  case round =>
    clear hR0 hB0
    obtain ⟨k, hk, rfl, hR, hB⟩ := hrel
    by_cases hlt : k < l.length
    · obtain ⟨b, off, rfl, hc⟩ := (hs.below hB) k _ (zA_get hlt)
      have hlt2 := HR.out _ (List.mem_of_getElem? (zA_get hlt))
      have hki : (k : Int) < (l.length : Int) := by omega
      obtain ⟨z, hz⟩ : ∃ z, zA l k = z := ⟨_, rfl⟩
      have HZ : Hid (zA l k = z) := hz
      rw [hz] at hc hlt2
      clear hs hz
      by_cases h0 : 0 ≤ z
      · obtain ⟨f, rfl⟩ : ∃ f : Nat, z = f := ⟨z.toNat, by omega⟩
        have hfn : f < n := by omega
        have hd := hR.cell hfn
        have hfz := hR.frozen f
        have hcl := cntTo_le l (f : Int) k
        have hd' : wr.cell? ⟨w.heap.size, f, none⟩ = some (.int .i64 ((cntTo l (f : Int) k : Nat) : Int)) := hd
        obtain ⟨C, hC⟩ : ∃ C, cntTo l (f : Int) k = C := ⟨_, rfl⟩
        rw [hC] at hd' hcl
        have HC : Hid (cntTo l (f : Int) k = C) := hC
        have HRw : Hid (wr.rowIs w.heap.size 3 n (loadF l k)) := hR
        clear hd hC hR
        go_wp2
        go_roundw
        case rel =>
          refine ⟨k + 1, by omega, by go_num, ?_, hB.setCell (Nat.le_refl _) _⟩
          refine (HRw.out.set f _).congr fun j hj => ?_
          simp only [loadF, cntTo, HZ.out]
          by_cases e : j = f
          · subst e
            rw [HC.out]
            simp
          · have e' : ¬ ((f : Int) = (j : Int)) := by omega
            simp [e, e']
        case measure => simp [intOf]; omega
      · have HRw : Hid (wr.rowIs w.heap.size 3 n (loadF l k)) := hR
        clear hR
        go_wp2
        go_roundw
        case rel =>
          refine ⟨k + 1, by omega, by go_num, HRw.out.congr fun j hj => ?_, hB⟩
          have e' : ¬ (z = (j : Int)) := by omega
          simp [loadF, cntTo, HZ.out, e']
        case measure => simp [intOf]; omega
    · obtain rfl : k = l.length := by omega
      have HI : Hid (Ints wr (some ⟨w.heap.size, 0, none⟩) (loadL n l)) := Ints.of_row hR (by rw [loadL_len]; exact Nat.le_refl _) (fun i z hi => by
        have hlt := (List.getElem?_eq_some_iff.1 hi).1
        rw [loadL_len] at hlt
        rw [loadL_get hlt] at hi
        simp only [Option.some.injEq] at hi
        rw [← hi]; rfl)
      have HW : Hid (RowI wr w.heap.size (some ⟨w.heap.size, 0, none⟩) n) := .inr ⟨_, _, _, rfl, Nat.le_refl _, by simp, hR⟩
      clear hR
      go_wp2
      go_ret
      exact ⟨_, rfl, HI.out, HW.out, hB⟩

set_option maxHeartbeats 1000000 in
theorem specLoadsOf_any (n : Int) (a : Option Addr) (c : Nat) (l : List Int) (w : World) (hs : Ints w a l) (hl : l.length ≤ maxLen) :
    Calls Try.prog 14 #[.int .i64 n, .slice a l.length c] w fun e w' => ∃ a' c', e = .returned (.tuple #[.slice a' (lofL n l).length c', .bool (plB n l)]) ∧ Ints w' a' (lofL n l) ∧ RowI w' w.heap.size a' (lofL n l).length ∧ Below w.heap.size w w' := by
  cases h : plB n l with
  | false =>
    have HE : Hid (lofL n l = []) := by show _ = _; simp [lofL, h]
    go_enter Try.func14, Try.ntmps14
    go_wp2_with (go_at_call 10; refine (specGoodPl_c _ _ _ _ _ _ hs hl h).mono ?_; rintro e w' ⟨rfl, rfl⟩)
    exact bodyPost_ret (v := .tuple #[.slice none 0 0, .bool false]) (by simp [results, Try.results14, go_sem]) rfl ⟨none, 0, by rw [HE.out]; rfl, by rw [HE.out]; exact Ints.nil _ _, by rw [HE.out]; exact .inl rfl, Below.refl _ _⟩
  | true =>
    obtain ⟨h1, h2, h3, h4⟩ := plB_is h
    obtain ⟨m, rfl⟩ : ∃ m : Nat, n = m := ⟨n.toNat, by omega⟩
    have HE : Hid (lofL (m : Int) l = loadL m l) := by show _ = _; simp [lofL, h]
    have H4 : Hid (∀ z, z ∈ l → z < (m : Int)) := fun z hz => (h4 z hz).2
    clear h4
    go_enter Try.func14, Try.ntmps14
    go_wp2_with (go_at_call 10; refine (specGoodPl_c _ _ _ _ _ _ hs hl h).mono ?_; rintro e w' ⟨rfl, rfl⟩)
    refine (l13Loads_any m _ _ l _ hs (by omega) (by omega) H4.out).mono ?_
    rintro r w1 ⟨g, rfl, HI, HW, hB⟩
    go_wp2
    exact bodyPost_ret (v := .tuple #[.slice (some ⟨g, 0, none⟩) m m, .bool true]) (by simp [results, Try.results14, go_sem]) rfl ⟨_, _, by rw [HE.out, loadL_len], by rw [HE.out]; exact HI, by rw [HE.out, loadL_len]; exact HW, hB⟩

end Go.Proofs.Ytmpchddfijcjfaa
