/-
  Places, the specification's side: IsEven, MovesTo.
-/
import Derived.Test.YtmpchddfijcjfaaHmS
namespace Go.Proofs.Ytmpchddfijcjfaa
open Go.RowKit

theorem evenL_f {ls : List Int} {i j : Nat} {a b : Int} (hi : ls[i]? = some a) (hj : ls[j]? = some b) (h : b + 1 < a) : evenL ls = false := by
  unfold evenL
  refine all_bad hi ?_
  exact all_bad hj (by simp; omega)

theorem loadL_small {n : Nat} {l : List Int} {i : Nat} {z : Int} (h : (loadL n l)[i]? = some z) : 0 ≤ z ∧ z ≤ (l.length : Int) := by
  have hlt := (List.getElem?_eq_some_iff.1 h).1
  rw [loadL_len] at hlt
  rw [loadL_get hlt] at h
  simp only [Option.some.injEq] at h
  have := cntTo_le l (i : Int) l.length
  omega

set_option maxRecDepth 100000 in
set_option maxHeartbeats 4000000 in
theorem specIsEven_any (n : Int) (a : Option Addr) (c : Nat) (l : List Int) (w : World) (hs : Ints w a l) (hl : l.length ≤ maxLen) :
    Calls Try.prog 18 #[.int .i64 n, .slice a l.length c] w fun e w' => e = .returned (.tuple #[.bool (evA n l), .bool (plB n l)]) ∧ Below w.heap.size w w' := by
  cases h : plB n l with
  | false =>
    have HE : Hid (evA n l = false) := by show _ = _; simp [evA, h]
    go_enter Try.func18, Try.ntmps18
    go_wp2_with (go_at_call 10; refine (specGoodPl_c _ _ _ _ _ _ hs hl h).mono ?_; rintro e w' ⟨rfl, rfl⟩)
    exact bodyPost_ret (v := .tuple #[.bool false, .bool false]) (by simp [results, Try.results18, go_sem]) rfl ⟨by rw [HE.out], Below.refl _ _⟩
  | true =>
    obtain ⟨h1, h2, h3, h4⟩ := plB_is h
    obtain ⟨m, rfl⟩ : ∃ m : Nat, n = m := ⟨n.toNat, by omega⟩
    have H4 : Hid (∀ z, z ∈ l → z < (m : Int)) := fun z hz => (h4 z hz).2
    clear h4
    cases h5 : l.contains (-1) with
    | true =>
      have HE : Hid (evA (m : Int) l = false) := by show _ = _; rw [evA, h5]; simp
      go_enter Try.func18, Try.ntmps18
      go_wp2_with (first | (go_at_call 10; refine (specGoodPl_c _ _ _ _ _ _ hs hl h).mono ?_; rintro e w' ⟨rfl, rfl⟩) | (go_at_call 36; refine (l1Has_m _ _ _ _ _ _ hs hl h5).mono ?_; rintro e w' ⟨rfl, rfl⟩))
      exact bodyPost_ret (v := .tuple #[.bool false, .bool true]) (by simp [results, Try.results18, go_sem]) rfl ⟨by rw [HE.out], Below.refl _ _⟩
    | false =>
      have HQ : Hid (evA (m : Int) l = evenL (loadL m l)) := by show _ = _; rw [evA, h, h5]; rfl
      go_enter Try.func18, Try.ntmps18
      go_wp2_with (first | (go_at_call 10; refine (specGoodPl_c _ _ _ _ _ _ hs hl h).mono ?_; rintro e w' ⟨rfl, rfl⟩) | (go_at_call 36; refine (l1Has_m _ _ _ _ _ _ hs hl h5).mono ?_; rintro e w' ⟨rfl, rfl⟩))
      refine (l13Loads_any m _ _ l _ hs (by omega) (by omega) H4.out).mono ?_
      rintro r w1 ⟨g, rfl, HI, -, hB⟩
      have HL : Hid ((loadL m l).length = m) := loadL_len m l
      have HS : Hid (∀ (i : Nat) z, (loadL m l)[i]? = some z → 0 ≤ z ∧ z ≤ (l.length : Int)) := fun i z hz => loadL_small hz
      obtain ⟨ls, hls⟩ : ∃ ls, loadL m l = ls := ⟨_, rfl⟩
      rw [hls] at HI HL HQ HS
      clear hls h5 h H4
      go_wp2
      go_loop [22] (fun i => ∃ k : Nat, k ≤ m ∧ i = .int .i64 k ∧ Hid (allTo (fun a => ls.all fun b => decide (a ≤ b + 1)) ls k)) (fun i => m - (intOf i).toNat)
      case atStart => exact ⟨0, Nat.zero_le _, rfl, allTo_zero _ _⟩
      case round =>
        obtain ⟨k, hk, rfl, HO⟩ := hrel
        by_cases hlt : k < m
        · have hlk : k < ls.length := by rw [HL.out]; exact hlt
          obtain ⟨b1, o1, e1, hc1⟩ := HI k _ (zA_get hlk)
          simp only [Option.some.injEq, Addr.mk.injEq, and_true] at e1
          obtain ⟨rfl, rfl⟩ := e1
          have HK : Hid (ls[k]? = some (zA ls k)) := zA_get hlk
          obtain ⟨x, hx⟩ : ∃ x, zA ls k = x := ⟨_, rfl⟩
          rw [hx] at hc1 HK
          rw [Nat.zero_add] at hc1
          have hki : (k : Int) < (m : Int) := by omega
          obtain ⟨x0, x1⟩ := HS.out _ _ HK.out
          clear hx
          go_wp2
          go_loop [28] (fun i => ∃ j : Nat, j ≤ m ∧ i = .int .i64 j ∧ Hid (allTo (fun b => decide (x ≤ b + 1)) ls j)) (fun i => m - (intOf i).toNat)
          case atStart => exact ⟨0, Nat.zero_le _, rfl, allTo_zero _ _⟩
          case round =>
            obtain ⟨j, hj, rfl, HJ⟩ := hrel
            by_cases hlj : j < m
            · have hlj2 : j < ls.length := by rw [HL.out]; exact hlj
              obtain ⟨b2, o2, e2, hc2⟩ := HI j _ (zA_get hlj2)
              simp only [Option.some.injEq, Addr.mk.injEq, and_true] at e2
              obtain ⟨rfl, rfl⟩ := e2
              have HK2 : Hid (ls[j]? = some (zA ls j)) := zA_get hlj2
              obtain ⟨y, hy⟩ : ∃ y, zA ls j = y := ⟨_, rfl⟩
              rw [hy] at hc2 HK2
              rw [Nat.zero_add] at hc2
              have hji : (j : Int) < (m : Int) := by omega
              obtain ⟨y0, y1⟩ := HS.out _ _ HK2.out
              clear hy
              by_cases hxy : y + 1 < x
              · have HE : Hid (evA (m : Int) l = false) := by show _ = _; rw [HQ.out]; exact evenL_f HK.out HK2.out hxy
                go_wp2
                exact bodyPost_ret (v := .tuple #[.bool false, .bool true]) (by simp [results, Try.results18, go_sem]) rfl ⟨by rw [HE.out], hB⟩
              · have HN : Hid (allTo (fun b => decide (x ≤ b + 1)) ls (j + 1)) := allTo_succ HJ.out HK2.out (by simp; omega)
                go_wp2
                go_round
                case rel => exact ⟨j + 1, by omega, by go_num, HN.out⟩
                case measure => simp [intOf]; omega
            · obtain rfl : j = m := by omega
              have HN : Hid (allTo (fun a => ls.all fun b => decide (a ≤ b + 1)) ls (k + 1)) := allTo_succ HO.out HK.out (all_done (by rw [HL.out]; exact HJ.out))
              clear HJ
              go_wp2
              go_round
              case rel => exact ⟨k + 1, by omega, by go_num, HN.out⟩
              case measure => simp [intOf]; omega
        · obtain rfl : k = m := by omega
          have HE : Hid (evA (k : Int) l = true) := by show _ = _; rw [HQ.out]; unfold evenL; exact all_done (by rw [HL.out]; exact HO.out)
          clear HO
          go_wp2
          exact bodyPost_ret (v := .tuple #[.bool true, .bool true]) (by simp [results, Try.results18, go_sem]) rfl ⟨by rw [HE.out], hB⟩

set_option maxRecDepth 100000 in
set_option maxHeartbeats 4000000 in
theorem l13Moves_any (a b : Option Addr) (c d : Nat) (xs ys : List Int) (w : World) (hx : Ints w a xs) (hy : Ints w b ys) (hl : xs.length ≤ maxLen) (he : xs.length = ys.length) :
    Calls Try.prog 42 #[.slice a xs.length c, .slice b ys.length d] w fun e w' => e = .returned (.int .i64 ((mvTo xs ys xs.length : Nat) : Int)) ∧ Below w.heap.size w w' := by
  unfold maxLen at hl
  go_enter Try.func42, Try.ntmps42
  go_wp2
  go_loopw [5, 9] (fun n i wr => ∃ k : Nat, k ≤ xs.length ∧ i = .int .i64 k ∧ n = .int .i64 ((mvTo xs ys k : Nat) : Int) ∧ Below w.heap.size w wr) (fun _ i _ => xs.length - (intOf i).toNat)
  case atStart => exact ⟨0, Nat.zero_le _, rfl, rfl, Below.refl _ _⟩
  case round =>
    obtain ⟨k, hk, rfl, rfl, hB⟩ := hrel
    have hcl := mvTo_le xs ys k
    by_cases hlt : k < xs.length
    · obtain ⟨b1, o1, rfl, hc1⟩ := (hx.below hB) k _ (zA_get hlt)
      obtain ⟨b2, o2, rfl, hc2⟩ := (hy.below hB) k _ (zA_get (by omega : k < ys.length))
      have hki : (k : Int) < (xs.length : Int) := by omega
      have hki2 : (k : Int) < (ys.length : Int) := by omega
      have HN : Hid (mvTo xs ys (k + 1) = mvTo xs ys k + if zA xs k = zA ys k then 0 else 1) := rfl
      obtain ⟨x, hx'⟩ : ∃ x, zA xs k = x := ⟨_, rfl⟩
      obtain ⟨y, hy'⟩ : ∃ y, zA ys k = y := ⟨_, rfl⟩
      obtain ⟨C, hC⟩ : ∃ C, mvTo xs ys k = C := ⟨_, rfl⟩
      rw [hC, hx', hy'] at HN
      rw [hC] at hcl ⊢
      rw [hx'] at hc1
      rw [hy'] at hc2
      clear hx hy hx' hy' hC he
      by_cases hxy : x = y
      · have dxy : (x != y) = false := by simp [hxy]
        have HM : Hid (mvTo xs ys (k + 1) = C) := by show _ = _; rw [HN.out, if_pos hxy, Nat.add_zero]
        clear hxy HN
        go_wp2
        go_quiet (fail)
        go_wp2
        go_roundw
        case rel => exact ⟨k + 1, by omega, by go_num, by rw [HM.out], below_drewN hB _⟩
        case measure => simp [intOf]; omega
      · have dxy : (x != y) = true := by simp [hxy]
        have HM : Hid (mvTo xs ys (k + 1) = C + 1) := by show _ = _; rw [HN.out, if_neg hxy]
        clear hxy HN
        go_wp2
        go_quiet (fail)
        go_wp2
        go_roundw
        case rel => exact ⟨k + 1, by omega, by go_num, by rw [HM.out]; go_num, below_drewN hB _⟩
        case measure => simp [intOf]; omega
    · obtain rfl : k = xs.length := by omega
      go_wp2
      go_ret
      exact ⟨rfl, hB⟩

theorem mvB_1 {a b : List Int} (h : lowB a = false) : mvB a b = false := by simp [mvB, h]
theorem mvB_2 {a b : List Int} (h : lowB b = false) : mvB a b = false := by simp [mvB, h]
theorem mvB_3 {a b : List Int} (h : ¬ a.length = b.length) : mvB a b = false := by simp [mvB, h]
theorem mvB_4 {a b : List Int} (h1 : lowB a = true) (h2 : lowB b = true) (h3 : a.length = b.length) : mvB a b = true := by simp [mvB, h1, h2, h3]

set_option maxRecDepth 100000 in
set_option maxHeartbeats 4000000 in
theorem specMovesTo_any (a b : Option Addr) (c d : Nat) (xs ys : List Int) (w : World) (hx : Ints w a xs) (hy : Ints w b ys) (hl : xs.length ≤ maxLen) (hm : ys.length ≤ maxLen) :
    Calls Try.prog 22 #[.slice a xs.length c, .slice b ys.length d] w fun e w' => e = .returned (.tuple #[.int .i64 (mvN xs ys), .bool (mvB xs ys)]) ∧ Below w.heap.size w w' := by
  have hl' := hl
  have hm' := hm
  unfold maxLen at hl' hm'
  go_enter Try.func22, Try.ntmps22
  go_wp2
  go_loop [12] (fun i => ∃ k : Nat, k ≤ xs.length ∧ i = .int .i64 k ∧ Hid (allTo (fun h => decide (-1 ≤ h)) xs k)) (fun i => xs.length - (intOf i).toNat)
  case atStart => exact ⟨0, Nat.zero_le _, rfl, allTo_zero _ _⟩
  case round =>
    obtain ⟨k, hk, rfl, HO⟩ := hrel
    by_cases hlt : k < xs.length
    · obtain ⟨b1, o1, rfl, hc1⟩ := hx k _ (zA_get hlt)
      have HK : Hid (xs[k]? = some (zA xs k)) := zA_get hlt
      have hki : (k : Int) < (xs.length : Int) := by omega
      obtain ⟨z, hz⟩ : ∃ z, zA xs k = z := ⟨_, rfl⟩
      rw [hz] at hc1 HK
      clear hz
      by_cases h1 : z < -1
      · have HE : Hid (mvN xs ys = 0 ∧ mvB xs ys = false) := mv_f (mvB_1 (all_bad HK.out (by simp; omega)))
        go_wp2
        exact bodyPost_ret (v := .tuple #[.int .i64 0, .bool false]) (by simp [results, Try.results22, go_sem]) rfl ⟨by rw [HE.out.1, HE.out.2], Below.refl _ _⟩
      · have HN : Hid (allTo (fun h => decide (-1 ≤ h)) xs (k + 1)) := allTo_succ HO.out HK.out (by simp; omega)
        go_wp2
        go_round
        case rel => exact ⟨k + 1, by omega, by go_num, HN.out⟩
        case measure => simp [intOf]; omega
    · obtain rfl : k = xs.length := by omega
      have H1 : Hid (lowB xs = true) := all_done HO.out
      clear HO
      go_wp2
      go_loop [21] (fun i => ∃ k : Nat, k ≤ ys.length ∧ i = .int .i64 k ∧ Hid (allTo (fun h => decide (-1 ≤ h)) ys k)) (fun i => ys.length - (intOf i).toNat)
      case atStart => exact ⟨0, Nat.zero_le _, rfl, allTo_zero _ _⟩
      case round =>
        obtain ⟨k, hk, rfl, HO⟩ := hrel
        by_cases hlt : k < ys.length
        · obtain ⟨b1, o1, rfl, hc1⟩ := hy k _ (zA_get hlt)
          have HK : Hid (ys[k]? = some (zA ys k)) := zA_get hlt
          have hki : (k : Int) < (ys.length : Int) := by omega
          obtain ⟨z, hz⟩ : ∃ z, zA ys k = z := ⟨_, rfl⟩
          rw [hz] at hc1 HK
          clear hz
          by_cases h1 : z < -1
          · have HE : Hid (mvN xs ys = 0 ∧ mvB xs ys = false) := mv_f (mvB_2 (all_bad HK.out (by simp; omega)))
            go_wp2
            exact bodyPost_ret (v := .tuple #[.int .i64 0, .bool false]) (by simp [results, Try.results22, go_sem]) rfl ⟨by rw [HE.out.1, HE.out.2], Below.refl _ _⟩
          · have HN : Hid (allTo (fun h => decide (-1 ≤ h)) ys (k + 1)) := allTo_succ HO.out HK.out (by simp; omega)
            go_wp2
            go_round
            case rel => exact ⟨k + 1, by omega, by go_num, HN.out⟩
            case measure => simp [intOf]; omega
        · obtain rfl : k = ys.length := by omega
          have H2 : Hid (lowB ys = true) := all_done HO.out
          clear HO
          by_cases h3 : xs.length = ys.length
          · have d3 : (((xs.length : Nat) : Int) != ((ys.length : Nat) : Int)) = false := by simp [h3]
            have HE : Hid (mvN xs ys = ((mvTo xs ys xs.length : Nat) : Int) ∧ mvB xs ys = true) := mv_t (mvB_4 H1.out H2.out h3)
            have H3 : Hid (xs.length = ys.length) := h3
            obtain ⟨X, hX⟩ : ∃ X : Nat, xs.length = X := ⟨_, rfl⟩
            clear h3 hX
            go_wp2_with fail
            refine (l13Moves_any _ _ _ _ _ _ _ hx hy hl H3.out).mono ?_
            rintro r w1 ⟨rfl, hB⟩
            go_wp2
            exact bodyPost_ret (v := .tuple #[.int .i64 ((mvTo xs ys xs.length : Nat) : Int), .bool true]) (by simp [results, Try.results22, go_sem]) rfl ⟨by rw [HE.out.1, HE.out.2], hB⟩
          · have d3 : (((xs.length : Nat) : Int) != ((ys.length : Nat) : Int)) = true := by simp; omega
            have HE : Hid (mvN xs ys = 0 ∧ mvB xs ys = false) := mv_f (mvB_3 h3)
            clear h3
            go_wp2
            exact bodyPost_ret (v := .tuple #[.int .i64 0, .bool false]) (by simp [results, Try.results22, go_sem]) rfl ⟨by rw [HE.out.1, HE.out.2], Below.refl _ _⟩

end Go.Proofs.Ytmpchddfijcjfaa
