/-
  The walk of the law FnRacks: at all bytes it answers true and leaves what was there as it was.
-/
import Derived.Test.YtilongjiacphmaaDoorFrD3
import Derived.Test.YtilongjiacphmaaDoorRkL
import Derived.Test.YtilongjiacphmaaDoorHmRJ
import Derived.Test.YtilongjiacphmaaDoorHmKI
namespace Go.Proofs.YtilongjiacphmaaDoor
open Go.RowKit

set_option maxRecDepth 100000 in
set_option maxHeartbeats 4000000 in
theorem sameInts_same (a b : Option Addr) (c d : Nat) (zs : List Int) (w : World) (hx : Ints w a zs) (hy : Ints w b zs) (hl : zs.length ≤ maxLen) :
    Calls Tryd.prog 23 #[.slice a zs.length c, .slice b zs.length d] w fun e w' => e = .returned (.bool true) ∧ ∃ m, w' = w.drewN m := by
  unfold maxLen at hl
  go_enter Tryd.func23, Tryd.ntmps23
  go_wp2
  go_loopw [13] (fun i wr => ∃ k m : Nat, k ≤ zs.length ∧ i = .int .i64 k ∧ wr = w.drewN m) (fun i _ => zs.length - (intOf i).toNat)
  case atStart => exact ⟨0, 0, Nat.zero_le _, rfl, rfl⟩
  case round =>
    obtain ⟨k, m, hk, rfl, hwr⟩ := hrel
    have hB : Below w.heap.size w wr := by rw [hwr]; exact below_drewN (Below.refl _ _) m
    have HW : Hid (wr = w.drewN m) := hwr
    clear hwr
    by_cases hlt : k < zs.length
    · obtain ⟨b1, o1, rfl, hc1⟩ := (hx.below hB) k _ (zA_get hlt)
      obtain ⟨b2, o2, rfl, hc2⟩ := (hy.below hB) k _ (zA_get hlt)
      have hki : (k : Int) < (zs.length : Int) := by omega
      generalize zA zs k = y at *
      have dy : (y != y) = false := by simp
      clear hx hy hB
      go_wp2
      go_quiet (fail)
      go_wp2
      go_roundw
      case rel => exact ⟨k + 1, _, by omega, by go_num, by rw [HW.out, World.drewN_drewN]⟩
      case measure => simp [intOf]; omega
    · obtain rfl : k = zs.length := by omega
      clear hx hy hB
      go_wp2
      go_ret
      exact ⟨rfl, m, HW.out⟩

set_option maxRecDepth 100000 in
set_option maxHeartbeats 4000000 in
theorem sameLists_same (a b : Option Addr) (c d : Nat) (L : List (List Int)) (w : World) (hx : Intss w a L) (hy : Intss w b L) (hl : L.length ≤ maxLen) :
    Calls Tryd.prog 7 #[.slice a L.length c, .slice b L.length d] w fun e w' => e = .returned (.bool true) ∧ ∃ m, w' = w.drewN m := by
  unfold maxLen at hl
  go_enter Tryd.func7, Tryd.ntmps7
  go_wp2
  go_loopw [13] (fun i wr => ∃ k m : Nat, k ≤ L.length ∧ i = .int .i64 k ∧ wr = w.drewN m) (fun i _ => L.length - (intOf i).toNat)
  case atStart => exact ⟨0, 0, Nat.zero_le _, rfl, rfl⟩
  case round =>
    obtain ⟨k, m, hk, rfl, hwr⟩ := hrel
    have hB : Below w.heap.size w wr := by rw [hwr]; exact below_drewN (Below.refl _ _) m
    have HW : Hid (wr = w.drewN m) := hwr
    clear hwr
    by_cases hlt : k < L.length
    · obtain ⟨g, hg⟩ := getL hlt
      obtain ⟨b1, o1, ai, ci, rfl, hc1, hI1, hgm⟩ := (hx.below hB) k g hg
      obtain ⟨b2, o2, bi, di, rfl, hc2, hI2, -⟩ := (hy.below hB) k g hg
      have hki : (k : Int) < (L.length : Int) := by omega
      have hq : ∀ q, Calls Tryd.prog 23 #[.slice ai g.length ci, .slice bi g.length di] (wr.drewN q) fun e w' => e = .returned (.bool true) ∧ ∃ m, w' = (wr.drewN q).drewN m := fun q => sameInts_same ai bi ci di g (wr.drewN q) (hI1.below (below_drewN (Below.refl _ _) q)) (hI2.below (below_drewN (Below.refl _ _) q)) hgm
      clear hx hy hB hI1 hI2 hg
      go_wp2
      go_quiet ((go_at_call 23; refine Calls.quiet_of (hq _)))
      go_wp2
      go_roundw
      case rel => exact ⟨k + 1, _, by omega, by go_num, by rw [HW.out, World.drewN_drewN]⟩
      case measure => simp [intOf]; omega
    · obtain rfl : k = L.length := by omega
      clear hx hy hB
      go_wp2
      go_ret
      exact ⟨rfl, m, HW.out⟩

theorem hasL_any (a : Option Addr) (c : Nat) (zs : List Int) (x : Int) (w : World) (hs : Ints w a zs) (hl : zs.length ≤ maxLen) (hm : x ∈ zs) :
    Calls Tryd.prog 9 #[.slice a zs.length c, .int .i64 x] w fun r w' => r = .returned (.bool true) ∧ w' = w := by
  unfold maxLen at hl
  go_enter Tryd.func9, Tryd.ntmps9
  go_wp2
  go_loop [9] (fun i => ∃ k : Nat, k ≤ zs.length ∧ i = .int .i64 k ∧ Hid (∀ j, j < k → zA zs j ≠ x)) (fun i => zs.length - (intOf i).toNat)
  case atStart => exact ⟨0, Nat.zero_le _, rfl, fun j hj => absurd hj (Nat.not_lt_zero _)⟩
  case round =>
    obtain ⟨k, hk, rfl, HO⟩ := hrel
    by_cases hlt : k < zs.length
    · obtain ⟨b, off, rfl, hc⟩ := hs k _ (zA_get hlt)
      have hki : (k : Int) < (zs.length : Int) := by omega
      obtain ⟨y, hy⟩ : ∃ y, zA zs k = y := ⟨_, rfl⟩
      have HY : Hid (zA zs k = y) := hy
      rw [hy] at hc
      clear hs hy
      by_cases e : y = x
      · have d : (y == x) = true := by simp [e]
        clear e
        go_wp2
        go_ret
        exact ⟨rfl, rfl⟩
      · have d : (y == x) = false := by simp [e]
        have HN : Hid (∀ j, j < k + 1 → zA zs j ≠ x) := fun j hj => by
          by_cases e2 : j = k
          · subst e2; rw [HY.out]; exact e
          · exact HO.out j (by omega)
        clear e
        go_wp2
        go_round
        case rel => exact ⟨k + 1, by omega, by go_num, HN.out⟩
        case measure => simp [intOf]; omega
    · exfalso
      obtain ⟨j, hj⟩ := List.getElem?_of_mem hm
      have hl2 := (List.getElem?_eq_some_iff.1 hj).1
      rw [zA_get hl2] at hj
      exact HO.out j (by omega) (Option.some.inj hj)

set_option maxRecDepth 100000 in
set_option maxHeartbeats 8000000 in
theorem lawRacksF_any (a a2 : Option Addr) (c c2 : Nat) (bs bs2 : List UInt8) (w : World) (hs : Bys w a bs) (hs2 : Bys w a2 bs2) (hm : bs.length ≤ 140737488351232) (hm2 : bs2.length ≤ 140737488351232) (hT : TabQ w) :
    Calls Tryd.prog 3 #[.slice a bs.length c, .slice a2 bs2.length c2] w fun r w' => r = .returned (.bool true) ∧ Below w.heap.size w w' := by
  by_cases hbig : 1048576 < bs.length + bs2.length
  · have hb2 : (1048576 : Int) < (bs.length : Int) + (bs2.length : Int) := by omega
    clear hbig
    go_enter Tryd.func3, Tryd.ntmps3
    go_wp2
    go_ret
    exact ⟨rfl, Below.refl _ _⟩
  · have hb2 : ¬ (1048576 : Int) < (bs.length : Int) + (bs2.length : Int) := by omega
    have hl1 : bs.length ≤ 1048576 := by omega
    have hl2 : bs2.length ≤ 1048576 := by omega
    clear hbig
    go_enter Tryd.func3, Tryd.ntmps3
    go_wp2_with fail
    refine (drawRacksOf_any a c bs w hs hl1).mono ?_
    rintro r w1 ⟨av, cv, zs, x, rfl, hz6, hI1, hB1⟩
    have hT1 := hT.belowRk hB1
    have hzm : zs.length ≤ maxLen := by unfold maxLen; omega
    clear hs
    go_wp2_with fail
    refine (implRacksOf_any av cv zs (x : Int) w1 hI1 hzm hT1).mono ?_
    rintro r w2 ⟨qa, qc, qs, hqs, rfl, hO2, hB2⟩
    have hI2 := hI1.below hB2
    have BB2 := stRk hB1 hB2
    have hL2 := hO2.intss (fun ys hy => by rw [hqs] at hy; have := (racL_small zs (x : Int)).2 ys hy; unfold maxLen; omega)
    go_wp2_with fail
    refine (specRacksOf_any av cv zs (x : Int) w2 hI2 hzm).mono ?_
    rintro r w3 ⟨qa3, qc3, qs3, hqs3, rfl, hO3, hB3⟩
    have hL3 := hO3.intss (fun ys hy => by rw [hqs3] at hy; have := (racL_small zs (x : Int)).2 ys hy; unfold maxLen; omega)
    have hL23 := hL2.below hB3
    have hI3 := hI2.below hB3
    have BB3 := stRk BB2 hB3
    rw [hqs] at hL23
    rw [hqs3] at hL3
    have hsm := (racL_small zs (x : Int)).1
    have e1 : qs.length = (racL zs (x : Int)).length := by rw [← hqs, List.length_map]
    have e3 : qs3.length = (racL zs (x : Int)).length := by rw [← hqs3, List.length_map]
    rw [e1, e3]
    have HSF : Hid (racOk zs (x : Int) = true → rsB zs (racL zs (x : Int)) = true ∧ rsA zs (racL zs (x : Int)) = true ∧ (racL zs (x : Int)).length = zs.length ∧ ∀ (k : Nat) g, (racL zs (x : Int))[k]? = some g → (g.length : Int) = (x : Int) ∧ (k : Int) ∈ g) := rac_safe
    generalize racL zs (x : Int) = RL at *
    generalize racOk zs (x : Int) = ok at *
    have dok : (ok != ok) = false := by cases ok <;> rfl
    have hRLm : RL.length ≤ maxLen := by unfold maxLen; omega
    clear hqs hqs3 hO2 hO3 e1 e3 hL2 hI1 hI2 hB1 hB2 hB3 hT1
    go_wp2_with fail
    refine (sameLists_same qa qa3 qc qc3 RL w3 hL23 hL3 hRLm).mono ?_
    rintro r w4 ⟨rfl, m4, hw4⟩
    have hB4 : Below w3.heap.size w3 w4 := by rw [hw4]; exact below_drewN (Below.refl _ _) m4
    have hL4 := hL23.below hB4
    have hI4 := hI3.below hB4
    have BB4 := stRk BB3 hB4
    clear hw4 hB4 hL23 hI3 BB3 hL3
    cases ok with
    | false =>
      go_wp2_with fail
      refine (drawRackSafe_any a2 c2 bs2 _ (hs2.below BB4) hl2).mono ?_
      rintro r w6 ⟨a1', c1', ps, b1', d1', L, rfl, hp6, hL1000, hIp, hLp, hB6⟩
      have BB6 := stRk BB4 hB6
      have hT6 := hT.belowRk BB6
      have hpm : ps.length ≤ maxLen := by unfold maxLen; omega
      have hLm : L.length ≤ maxLen := by unfold maxLen; omega
      go_wp2_with fail
      refine (implRackSafe_any a1' b1' c1' d1' ps L w6 hIp hLp hpm hLm hT6).mono ?_
      rintro r w7 ⟨rfl, hB7⟩
      have hIp7 := hIp.below hB7
      have hLp7 := hLp.below hB7
      have BB7 := stRk BB6 hB7
      clear hIp hLp hB7 BB6 hT6 hB6
      go_wp2_with fail
      refine (specRackSafe_any a1' b1' c1' d1' ps L w7 hIp7 hLp7 hpm hLm).mono ?_
      rintro r w8 ⟨rfl, hB8⟩
      have BB8 := stRk BB7 hB8
      clear hIp7 hLp7 hB8 BB7
      generalize rsA ps L = x1
      generalize rsB ps L = y1
      have dx : (x1 == x1) = true := by cases x1 <;> rfl
      have dy : (y1 == y1) = true := by cases y1 <;> rfl
      go_wp2
      go_ret
      exact ⟨rfl, BB8⟩
    | true =>
      obtain ⟨f1, f2, f3, f4⟩ := HSF.out rfl
      have HF4 : Hid (∀ (k : Nat) g, RL[k]? = some g → (g.length : Int) = (x : Int) ∧ (k : Int) ∈ g) := f4
      have hT4 := hT.belowRk BB4
      have d3 : (((RL.length : Nat) : Int) != ((zs.length : Nat) : Int)) = false := by simp [f3]
      clear f4 f3 HSF
      go_wp2_with fail
      refine (implRackSafe_any av qa cv qc zs RL w4 hI4 hL4 hzm hRLm hT4).mono ?_
      rintro r w5 ⟨he, hB5⟩
      rw [f1, f2] at he
      subst he
      have hL5 := hL4.below hB5
      have BB5 := stRk BB4 hB5
      clear f1 f2 hL4 hI4 hT4 hB5
      go_wp2
      go_loop [75] (fun i => ∃ k : Nat, k ≤ RL.length ∧ i = .int .i64 k) (fun i => RL.length - (intOf i).toNat)
      case atStart => exact ⟨0, Nat.zero_le _, rfl⟩
      case round =>
        obtain ⟨k, hk, rfl⟩ := hrel
        by_cases hlt : k < RL.length
        · obtain ⟨g, hg⟩ := getL hlt
          obtain ⟨b1, o1, ai, ci, rfl, hc1, hI1, hgm⟩ := hL5 k g hg
          obtain ⟨g1, g2⟩ := HF4.out k g hg
          have hki : (k : Int) < (RL.length : Int) := by omega
          have dg : ((g.length : Int) != (x : Int)) = false := by simp [g1]
          clear hg g1
          go_wp2_with (go_at_call 9; refine (hasL_any _ _ g _ _ hI1 hgm g2).mono ?_; rintro e w' ⟨rfl, hw⟩; rw [hw]; clear hw w')
          go_round
          case rel => exact ⟨k + 1, by omega, by go_num⟩
          case measure => simp [intOf]; omega
        · obtain rfl : k = RL.length := by omega
          clear hL5
          go_wp2_with fail
          refine (drawRackSafe_any a2 c2 bs2 _ (hs2.below BB5) hl2).mono ?_
          rintro r w6 ⟨a1', c1', ps, b1', d1', L, rfl, hp6, hL1000, hIp, hLp, hB6⟩
          have BB6 := stRk BB5 hB6
          have hT6 := hT.belowRk BB6
          have hpm : ps.length ≤ maxLen := by unfold maxLen; omega
          have hLm : L.length ≤ maxLen := by unfold maxLen; omega
          go_wp2_with fail
          refine (implRackSafe_any a1' b1' c1' d1' ps L w6 hIp hLp hpm hLm hT6).mono ?_
          rintro r w7 ⟨rfl, hB7⟩
          have hIp7 := hIp.below hB7
          have hLp7 := hLp.below hB7
          have BB7 := stRk BB6 hB7
          clear hIp hLp hB7 BB6 hT6 hB6
          go_wp2_with fail
          refine (specRackSafe_any a1' b1' c1' d1' ps L w7 hIp7 hLp7 hpm hLm).mono ?_
          rintro r w8 ⟨rfl, hB8⟩
          have BB8 := stRk BB7 hB8
          clear hIp7 hLp7 hB8 BB7
          generalize rsA ps L = x1
          generalize rsB ps L = y1
          have dx : (x1 == x1) = true := by cases x1 <;> rfl
          have dy : (y1 == y1) = true := by cases y1 <;> rfl
          go_wp2
          go_ret
          exact ⟨rfl, BB8⟩

end Go.Proofs.YtilongjiacphmaaDoor
