/-
  Groups that read, the specification's side: l14Reader. Made by mkrgs.py.
-/
import Derived.Test.YtgiekkipkgdjaaaRgS
import Derived.Deep.RegionHeld3
namespace Go.Proofs.Ytgiekkipkgdjaaa
open Go.RowKit

theorem l1In_g (n lo hi : Int) (b : Bool) (w : World) (h : inB n lo hi = b) : Calls Try.prog 41 #[.int .i64 n, .int .i64 lo, .int .i64 hi] w fun e w' => e = .returned (.bool b) ∧ w' = w := by
  rw [← h]; exact l1In_any n lo hi w
theorem l6Group_g (a : Option Addr) (c : Nat) (zs : List Int) (many : Int) (b : Bool) (w : World) (hs : Ints w a zs) (hl : zs.length ≤ maxLen) (h : riseB zs many = b) : Calls Try.prog 74 #[.slice a zs.length c, .int .i64 many] w fun e w' => e = .returned (.bool b) ∧ w' = w := by
  rw [← h]; exact l6Group_any a c zs many w hs hl
theorem l1Has_g (a : Option Addr) (c : Nat) (zs : List Int) (n : Int) (b : Bool) (w : World) (hs : Ints w a zs) (hl : zs.length ≤ maxLen) (h : zs.contains n = b) :
    Calls Try.prog 67 #[.slice a zs.length c, .int .i64 n] w fun e w' => e = .returned (.bool b) ∧ w' = w := by
  rw [← h]; exact l1Has_any a c zs n w hs hl
theorem shareL_short {s : Rg} {k : Nat} (he : s.ends.length ≤ 1000) : (shareL s k).length ≤ maxLen := by
  have := shTo_len (manyTo s.rds s.rds.length) (manyTo s.rds k) s.ends.length
  unfold shareL maxLen
  omega

set_option maxRecDepth 100000 in
set_option maxHeartbeats 16000000 in
theorem l14Reader_any (s : Rg) (k : Nat) (a0 a1 a2 : Option Addr) (c0 c1 c2 : Nat) (w : World) (hs : RgR w s a0 a1 a2) (hk : k < s.rds.length) (hn : s.rds.length ≤ 1000) (he : s.ends.length ≤ 1000) :
    Calls Try.prog 51 #[rgV s a0 c0 a1 c1 a2 c2, .int .i64 (k : Int)] w fun e w' => e = .returned (.bool (okRx s k (rxA s.rds k))) ∧ Below w.heap.size w w' := by
  obtain ⟨v, hv⟩ : ∃ v, (w.alloc (.cells #[.int .i64 s.gen, .slice a0 s.rds.length c0, .slice a1 s.com.length c1, .slice a2 s.ends.length c2] 25)) = v := ⟨_, rfl⟩
  have bB : Below w.heap.size w v := by rw [← hv]; exact alRg _ _
  obtain ⟨kb, ob, ea, r2, k2, r3, k3, e0, e1, e2, e3, z2, m2, z3, m3⟩ := (hs.rds.below bB) k _ (rxA_get hk)
  obtain ⟨x, hx⟩ : ∃ x, rxA s.rds k = x := ⟨_, rfl⟩
  rw [hx] at e0 e1 e2 e3 z2 m2 z3 m3 ⊢
  obtain ⟨u, hu⟩ : ∃ u, (v.alloc (.cells #[.bool x.inn, .int .i64 x.gen, .slice r2 x.share.length k2, .slice r3 x.read.length k3] 67)) = u := ⟨_, rfl⟩
  have bU : Below v.heap.size v u := by rw [← hu]; exact alRg _ _
  have BU : Below w.heap.size w u := stRg bB bU
  have q0 : u.cell? ⟨w.heap.size, 0, none⟩ = some (.int .i64 s.gen) := celB bU (by rw [← hv]; simp [go_sem])
  have q1 : u.cell? ⟨w.heap.size, 1, none⟩ = some (.slice a0 s.rds.length c0) := celB bU (by rw [← hv]; simp [go_sem])
  have q2 : u.cell? ⟨w.heap.size, 2, none⟩ = some (.slice a1 s.com.length c1) := celB bU (by rw [← hv]; simp [go_sem])
  have q3 : u.cell? ⟨w.heap.size, 3, none⟩ = some (.slice a2 s.ends.length c2) := celB bU (by rw [← hv]; simp [go_sem])
  have y1 : v.cell? ⟨w.heap.size, 1, none⟩ = some (.slice a0 s.rds.length c0) := by rw [← hv]; simp [go_sem]
  have q4 : u.cell? ⟨v.heap.size, 0, none⟩ = some (.bool x.inn) := by rw [← hu]; simp [go_sem]
  have q5 : u.cell? ⟨v.heap.size, 1, none⟩ = some (.int .i64 x.gen) := by rw [← hu]; simp [go_sem]
  have q6 : u.cell? ⟨v.heap.size, 2, none⟩ = some (.slice r2 x.share.length k2) := by rw [← hu]; simp [go_sem]
  have q7 : u.cell? ⟨v.heap.size, 3, none⟩ = some (.slice r3 x.read.length k3) := by rw [← hu]; simp [go_sem]
  have H0 := hs.rds.below BU
  have H2 := z2.below bU
  have H4 := z3.below bU
  have H5 := hs.ends.below BU
  have hsm := shareL_short (s := s) (k := k) he
  have hki : (k : Int) < (s.rds.length : Int) := by omega
  have m3' := m3
  unfold maxLen at m3'
  subst ea
  clear hx z2 z3 hs
  cases g1 : inB x.gen 0 s.gen with
  | false =>
    have HE : Hid (okRx s k x = false) := okRx_1 (by simp [firstRx, g1])
    go_enter Try.func51, Try.ntmps51
    go_wp2_with (first | (go_at_call 41; refine (l1In_g _ _ _ _ _ (by first | exact g1 | exact g5)).mono ?_; rintro e w' ⟨rfl, hw⟩; rw [hw]; clear hw w'))
    go_ret
    exact ⟨ret_bool HE.out.symm, BU⟩
  | true =>
    cases g2 : riseB x.share s.ends.length with
    | false =>
      have HE : Hid (okRx s k x = false) := okRx_1 (by simp [firstRx, g2])
      go_enter Try.func51, Try.ntmps51
      go_wp2_with (first | (go_at_call 41; refine (l1In_g _ _ _ _ _ (by first | exact g1 | exact g5)).mono ?_; rintro e w' ⟨rfl, hw⟩; rw [hw]; clear hw w') | (go_at_call 74; refine (l6Group_g _ _ _ _ _ _ H2 m2 g2).mono ?_; rintro e w' ⟨rfl, hw⟩; rw [hw]; clear hw w'))
      go_ret
      exact ⟨ret_bool HE.out.symm, BU⟩
    | true =>
      by_cases g3 : x.read.length = s.ends.length
      · have d3 : (((x.read.length : Nat) : Int) != ((s.ends.length : Nat) : Int)) = false := by simp [g3]
        cases hinn : x.inn with
        | true =>
          have g4 : (x.inn || (decide (x.gen = 0) && decide (x.share.length = 0))) = true := by simp [hinn]
          rw [hinn] at q4 hu e0
          have H1 : Hid (firstRx s x = true) := by show _ = _; rw [firstRx, g1, g2, decide_eq_true g3, g4]; rfl
          have H3 : Hid (x.read.length = s.ends.length) := g3
          clear g4 g3
          go_enter Try.func51, Try.ntmps51
          go_wp2_with (first | (go_at_call 41; refine (l1In_g _ _ _ _ _ (by first | exact g1 | exact g5)).mono ?_; rintro e w' ⟨rfl, hw⟩; rw [hw]; clear hw w') | (go_at_call 74; refine (l6Group_g _ _ _ _ _ _ H2 m2 g2).mono ?_; rintro e w' ⟨rfl, hw⟩; rw [hw]; clear hw w'))
          clear hu d3
          go_loopw [56] (fun i wr => ∃ p : Nat, p ≤ x.read.length ∧ i = .int .i64 p ∧ Hid (readTo s x p) ∧ wr = u) (fun i _ => x.read.length - (intOf i).toNat)
          case atStart => exact ⟨0, Nat.zero_le _, rfl, (fun i hi => absurd hi (Nat.not_lt_zero _)), rfl⟩
          case round =>
            obtain ⟨p, hp, rfl, HO, hwr⟩ := hrel
            rw [hwr]
            clear hwr wr
            by_cases hlt : p < x.read.length
            · have hlt2 : p < s.ends.length := by have := H3.out; omega
              obtain ⟨b1, o1, rfl, hc1⟩ := H4 p _ (zA_get hlt)
              obtain ⟨b2, o2, rfl, hc2⟩ := H5 p _ (zA_get hlt2)
              have hpi : (p : Int) < (x.read.length : Int) := by omega
              have hpi2 : (p : Int) < (s.ends.length : Int) := by omega
              have HQ : Hid (okRead s x p = (inB (zA x.read p) 0 (zA s.ends p) && (x.share.contains (p : Int) || decide (zA x.read p = 0)))) := rfl
              obtain ⟨y, hy⟩ : ∃ y, zA x.read p = y := ⟨_, rfl⟩
              obtain ⟨z, hz⟩ : ∃ z, zA s.ends p = z := ⟨_, rfl⟩
              rw [hy] at hc1 HQ
              rw [hz] at hc2 HQ
              clear hy hz g1
              cases g5 : inB y 0 z with
              | false =>
                have HE : Hid (okRx s k x = false) := okRx_2 hlt (by rw [HQ.out, g5]; rfl)
                go_wp2_with (go_at_call 41; refine (l1In_g _ _ _ _ _ g5).mono ?_; rintro e w' ⟨rfl, hw⟩; rw [hw]; clear hw w')
                go_ret
                exact ⟨ret_bool HE.out.symm, BU⟩
              | true =>
                cases g6 : x.share.contains (p : Int) with
                | true =>
                  have HN : Hid (readTo s x (p + 1)) := readTo_succ HO.out (by rw [HQ.out, g5, g6]; rfl)
                  go_wp2_with (first | (go_at_call 41; refine (l1In_g _ _ _ _ _ g5).mono ?_; rintro e w' ⟨rfl, hw⟩; rw [hw]; clear hw w') | (go_at_call 67; refine (l1Has_g _ _ _ _ _ _ H2 m2 g6).mono ?_; rintro e w' ⟨rfl, hw⟩; rw [hw]; clear hw w'))
                  go_roundw
                  case rel => exact ⟨p + 1, by omega, by go_num, HN.out, by first | trivial | rfl⟩
                  case measure => simp [intOf]; omega
                | false =>
                  by_cases g7 : y = 0
                  · have d7 : (y != 0) = false := by simp [g7]
                    have HN : Hid (readTo s x (p + 1)) := readTo_succ HO.out (by rw [HQ.out, g5, g6, decide_eq_true g7]; rfl)
                    clear g7
                    go_wp2_with (first | (go_at_call 41; refine (l1In_g _ _ _ _ _ g5).mono ?_; rintro e w' ⟨rfl, hw⟩; rw [hw]; clear hw w') | (go_at_call 67; refine (l1Has_g _ _ _ _ _ _ H2 m2 g6).mono ?_; rintro e w' ⟨rfl, hw⟩; rw [hw]; clear hw w'))
                    go_roundw
                    case rel => exact ⟨p + 1, by omega, by go_num, HN.out, by first | trivial | rfl⟩
                    case measure => simp [intOf]; omega
                  · have d7 : (y != 0) = true := by simp [g7]
                    have HE : Hid (okRx s k x = false) := okRx_2 hlt (by rw [HQ.out, g5, g6, decide_eq_false g7]; rfl)
                    clear g7
                    go_wp2_with (first | (go_at_call 41; refine (l1In_g _ _ _ _ _ g5).mono ?_; rintro e w' ⟨rfl, hw⟩; rw [hw]; clear hw w') | (go_at_call 67; refine (l1Has_g _ _ _ _ _ _ H2 m2 g6).mono ?_; rintro e w' ⟨rfl, hw⟩; rw [hw]; clear hw w'))
                    go_ret
                    exact ⟨ret_bool HE.out.symm, BU⟩
            · obtain rfl : p = x.read.length := by omega
              have HL : Hid (okRx s k x = lastRx s k x) := okRx_3 H1.out HO.out
              clear HO
              by_cases g8 : x.gen = s.gen
              · obtain ⟨b, hb⟩ : ∃ b, sameB x.share (shareL s k) = b := ⟨_, rfl⟩
                have HX : Hid (sameB x.share (shareL s k) = b) := hb
                have d8 : (x.gen != s.gen) = false := by simp [g8]
                have HE : Hid (okRx s k x = b) := by show _ = _; rw [HL.out, lastRx, hinn, decide_eq_true g8, hb]; rfl
                clear hinn g8 hb
                go_wp2_with fail
                have BD : Below u.heap.size u u.drew := (Below.refl _ _).drew
                have kk : u.drew.cell? ⟨w.heap.size, 0, none⟩ = some (.int .i64 s.gen) ∧ u.drew.cell? ⟨w.heap.size, 1, none⟩ = some (.slice (some ⟨kb, ob, none⟩) s.rds.length c0) ∧ u.drew.cell? ⟨w.heap.size, 2, none⟩ = some (.slice a1 s.com.length c1) ∧ u.drew.cell? ⟨w.heap.size, 3, none⟩ = some (.slice a2 s.ends.length c2) ∧ u.drew.cell? ⟨v.heap.size, 0, none⟩ = some (.bool true) ∧ u.drew.cell? ⟨v.heap.size, 1, none⟩ = some (.int .i64 x.gen) ∧ u.drew.cell? ⟨v.heap.size, 2, none⟩ = some (.slice r2 x.share.length k2) ∧ u.drew.cell? ⟨v.heap.size, 3, none⟩ = some (.slice r3 x.read.length k3) := ⟨celB BD q0, celB BD q1, celB BD q2, celB BD q3, celB BD q4, celB BD q5, celB BD q6, celB BD q7⟩
                refine wp_region_noPanic ?_
                refine wp_region_held_drew (S := fun w' => w'.cell? ⟨w.heap.size, 0, none⟩ = some (.int .i64 s.gen) ∧ w'.cell? ⟨w.heap.size, 1, none⟩ = some (.slice (some ⟨kb, ob, none⟩) s.rds.length c0) ∧ w'.cell? ⟨w.heap.size, 2, none⟩ = some (.slice a1 s.com.length c1) ∧ w'.cell? ⟨w.heap.size, 3, none⟩ = some (.slice a2 s.ends.length c2) ∧ w'.cell? ⟨v.heap.size, 0, none⟩ = some (.bool true) ∧ w'.cell? ⟨v.heap.size, 1, none⟩ = some (.int .i64 x.gen) ∧ w'.cell? ⟨v.heap.size, 2, none⟩ = some (.slice r2 x.share.length k2) ∧ w'.cell? ⟨v.heap.size, 3, none⟩ = some (.slice r3 x.read.length k3)) (by kernel_rfl) kk (fun hH => ?_)
                refine wpAnyH_take (i := 0) (oi := ⟨_, _, _, _, _, _⟩) (v := ?vg0) rfl (by kernel_rfl) (by kernel_rfl) (by kernel_rfl) (fun _ _ _ h => h) (Or.inl ⟨by rfl, ?yg0⟩) (by assumption) ?rg0
                case yg0 => intro w hSw; (try dsimp only at hSw); go_simp; try with_reducible rfl
                try simp only [Act.put, List.setIfInBounds_toArray, List.set_cons_zero, List.set_cons_succ]
                refine wpAnyH_take (i := 1) (oi := ⟨_, _, _, _, _, _⟩) (v := ?vg1) rfl (by kernel_rfl) (by kernel_rfl) (by kernel_rfl) (fun _ _ _ h => h) (Or.inl ⟨by rfl, ?yg1⟩) (by assumption) ?rg1
                case yg1 => intro w hSw; (try dsimp only at hSw); go_simp; try with_reducible rfl
                try simp only [Act.put, List.setIfInBounds_toArray, List.set_cons_zero, List.set_cons_succ]
                refine wpAnyH_take (i := 2) (oi := ⟨_, _, _, _, _, _⟩) (v := ?vg2) rfl (by kernel_rfl) (by kernel_rfl) (by kernel_rfl) (fun _ _ _ h => h) (Or.inl ⟨by rfl, ?yg2⟩) (by assumption) ?rg2
                case yg2 => intro w hSw; (try dsimp only at hSw); go_simp; try with_reducible rfl
                try simp only [Act.put, List.setIfInBounds_toArray, List.set_cons_zero, List.set_cons_succ]
                refine wpAnyH_take (i := 3) (oi := ⟨_, _, _, _, _, _⟩) (v := ?vg3) rfl (by kernel_rfl) (by kernel_rfl) (by kernel_rfl) (fun _ _ _ h => h) (Or.inl ⟨by rfl, ?yg3⟩) (by assumption) ?rg3
                case yg3 => intro w hSw; (try dsimp only at hSw); go_simp; try with_reducible rfl
                try simp only [Act.put, List.setIfInBounds_toArray, List.set_cons_zero, List.set_cons_succ]
                refine wpAnyH_take (i := 4) (oi := ⟨_, _, _, _, _, _⟩) (v := ?vg4) rfl (by kernel_rfl) (by kernel_rfl) (by kernel_rfl) (fun _ _ _ h => h) (Or.inl ⟨by rfl, ?yg4⟩) (by assumption) ?rg4
                case yg4 => intro w hSw; (try dsimp only at hSw); go_simp; try with_reducible rfl
                try simp only [Act.put, List.setIfInBounds_toArray, List.set_cons_zero, List.set_cons_succ]
                refine wpAnyH_take (i := 5) (oi := ⟨_, _, _, _, _, _⟩) (v := ?vg5) rfl (by kernel_rfl) (by kernel_rfl) (by kernel_rfl) (fun _ _ _ h => h) (Or.inl ⟨by rfl, ?yg5⟩) (by assumption) ?rg5
                case yg5 => intro w hSw; (try dsimp only at hSw); go_simp; try with_reducible rfl
                try simp only [Act.put, List.setIfInBounds_toArray, List.set_cons_zero, List.set_cons_succ]
                refine wpAnyH_take (i := 6) (oi := ⟨_, _, _, _, _, _⟩) (v := ?vg6) rfl (by kernel_rfl) (by kernel_rfl) (by kernel_rfl) (fun _ _ _ h => h) (Or.inl ⟨by rfl, ?yg6⟩) (by assumption) ?rg6
                case yg6 => intro w hSw; (try dsimp only at hSw); go_simp; try with_reducible rfl
                try simp only [Act.put, List.setIfInBounds_toArray, List.set_cons_zero, List.set_cons_succ]
                refine wpAnyH_take (i := 7) (oi := ⟨_, _, _, _, _, _⟩) (v := ?vg7) rfl (by kernel_rfl) (by kernel_rfl) (by kernel_rfl) (fun _ _ _ h => h) (Or.inl ⟨by rfl, ?yg7⟩) (by assumption) ?rg7
                case yg7 => intro w hSw; (try dsimp only at hSw); go_simp; try with_reducible rfl
                try simp only [Act.put, List.setIfInBounds_toArray, List.set_cons_zero, List.set_cons_succ]
                refine wpAnyH_take (i := 8) (oi := ⟨_, _, _, _, _, _⟩) (v := ?vg8) rfl (by kernel_rfl) (by kernel_rfl) (by kernel_rfl) (fun _ _ _ h => h) (Or.inl ⟨by rfl, ?yg8⟩) (by assumption) ?rg8
                case yg8 => intro w hSw; (try dsimp only at hSw); go_simp; try with_reducible rfl
                try simp only [Act.put, List.setIfInBounds_toArray, List.set_cons_zero, List.set_cons_succ]
                refine wpAnyH_take (i := 9) (oi := ⟨_, _, _, _, _, _⟩) (v := ?vg9) rfl (by kernel_rfl) (by kernel_rfl) (by kernel_rfl) (fun _ _ _ h => h) (Or.inl ⟨by rfl, ?yg9⟩) (by assumption) ?rg9
                case yg9 => intro w hSw; (try dsimp only at hSw); go_simp; try with_reducible rfl
                try simp only [Act.put, List.setIfInBounds_toArray, List.set_cons_zero, List.set_cons_succ]
                refine wpAnyH_take (i := 10) (oi := ⟨_, _, _, _, _, _⟩) (v := ?vg10) rfl (by kernel_rfl) (by kernel_rfl) (by kernel_rfl) (fun _ _ _ h => h) (Or.inl ⟨by rfl, ?yg10⟩) (by assumption) ?rg10
                case yg10 => intro w hSw; (try dsimp only at hSw); go_simp; try with_reducible rfl
                try simp only [Act.put, List.setIfInBounds_toArray, List.set_cons_zero, List.set_cons_succ]
                refine wpAnyH_take (i := 11) (oi := ⟨_, _, _, _, _, _⟩) (v := ?vg11) rfl (by kernel_rfl) (by kernel_rfl) (by kernel_rfl) (fun _ _ _ h => h) (Or.inl ⟨by rfl, ?yg11⟩) (by assumption) ?rg11
                case yg11 => intro w hSw; (try dsimp only at hSw); go_simp; try with_reducible rfl
                try simp only [Act.put, List.setIfInBounds_toArray, List.set_cons_zero, List.set_cons_succ]
                refine wpAnyH_take (i := 12) (oi := ⟨_, _, _, _, _, _⟩) (v := ?vg12) rfl (by kernel_rfl) (by kernel_rfl) (by kernel_rfl) (fun _ _ _ h => h) (Or.inl ⟨by rfl, ?yg12⟩) (by assumption) ?rg12
                case yg12 => intro w hSw; (try dsimp only at hSw); go_simp; try with_reducible rfl
                try simp only [Act.put, List.setIfInBounds_toArray, List.set_cons_zero, List.set_cons_succ]
                refine wpAnyH_take (i := 13) (oi := ⟨_, _, _, _, _, _⟩) (v := ?vg13) rfl (by kernel_rfl) (by kernel_rfl) (by kernel_rfl) (fun _ _ _ h => h) (Or.inl ⟨by rfl, ?yg13⟩) (by assumption) ?rg13
                case yg13 => intro w hSw; (try dsimp only at hSw); go_simp; try with_reducible rfl
                try simp only [Act.put, List.setIfInBounds_toArray, List.set_cons_zero, List.set_cons_succ]
                refine wpAnyH_take (i := 14) (oi := ⟨_, _, _, _, _, _⟩) (v := ?vg14) rfl (by kernel_rfl) (by kernel_rfl) (by kernel_rfl) (fun _ _ _ h => h) (Or.inl ⟨by rfl, ?yg14⟩) (by assumption) ?rg14
                case yg14 => intro w hSw; (try dsimp only at hSw); go_simp; try with_reducible rfl
                try simp only [Act.put, List.setIfInBounds_toArray, List.set_cons_zero, List.set_cons_succ]
                refine wpAnyH_ready (rs := [15]) (by kernel_rfl) (by simp) ?_
                refine AllReadyH.cons (o := ⟨_, _, _, _, _, _⟩) rfl (fun KK hK => ?_) AllReadyH.nil
                go_simp
                refine (l14Share_any s k _ _ _ _ _ _ _ (H0.below BD) hk hn he).mono ?_
                rintro r W1 ⟨sa, sc, rfl, HI, hBk⟩
                have kk1 : W1.cell? ⟨w.heap.size, 0, none⟩ = some (.int .i64 s.gen) ∧ W1.cell? ⟨w.heap.size, 1, none⟩ = some (.slice (some ⟨kb, ob, none⟩) s.rds.length c0) ∧ W1.cell? ⟨w.heap.size, 2, none⟩ = some (.slice a1 s.com.length c1) ∧ W1.cell? ⟨w.heap.size, 3, none⟩ = some (.slice a2 s.ends.length c2) ∧ W1.cell? ⟨v.heap.size, 0, none⟩ = some (.bool true) ∧ W1.cell? ⟨v.heap.size, 1, none⟩ = some (.int .i64 x.gen) ∧ W1.cell? ⟨v.heap.size, 2, none⟩ = some (.slice r2 x.share.length k2) ∧ W1.cell? ⟨v.heap.size, 3, none⟩ = some (.slice r3 x.read.length k3) := by obtain ⟨t0, t1, t2, t3, t4, t5, t6, t7⟩ := kk; exact ⟨celB hBk t0, celB hBk t1, celB hBk t2, celB hBk t3, celB hBk t4, celB hBk t5, celB hBk t6, celB hBk t7⟩
                have BE := stRg BD hBk
                clear hBk
                go_wp2_with fail
                refine hK.out _ _ kk1 (fun hH15 => ?_)
                clear hK KK hH
                try simp only [Act.put, List.setIfInBounds_toArray, List.set_cons_zero, List.set_cons_succ]
                refine wpAnyH_ready (rs := [16]) (by kernel_rfl) (by simp) ?_
                refine AllReadyH.cons (o := ⟨_, _, _, _, _, _⟩) rfl (fun KK hK => ?_) AllReadyH.nil
                go_simp
                refine (l14Same_any _ _ _ _ _ _ _ (H2.below BE) HI m2 hsm).mono ?_
                rintro r W2 ⟨hr, rfl⟩
                rw [HX.out] at hr
                subst hr
                go_wp2_with fail
                refine hK.out _ _ kk1 (fun hH16 => ?_)
                clear hK KK hH15
                try simp only [Act.put, List.setIfInBounds_toArray, List.set_cons_zero, List.set_cons_succ]
                refine wpAnyH_take (i := 17) (oi := ⟨_, _, _, _, _, _⟩) (v := ?vg17) rfl (by kernel_rfl) (by kernel_rfl) (by kernel_rfl) (fun _ _ _ h => h) (Or.inl ⟨by rfl, ?yg17⟩) (by assumption) ?rg17
                case yg17 => intro w hSw; (try dsimp only at hSw); go_simp; try with_reducible rfl
                try simp only [Act.put, List.setIfInBounds_toArray, List.set_cons_zero, List.set_cons_succ]
                refine wpAnyH_take (i := 18) (oi := ⟨_, _, _, _, _, _⟩) (v := ?vg18) rfl (by kernel_rfl) (by kernel_rfl) (by kernel_rfl) (fun _ _ _ h => h) (Or.inl ⟨by rfl, ?yg18⟩) (by assumption) ?rg18
                case yg18 => intro w hSw; (try dsimp only at hSw); go_simp; try with_reducible rfl
                try simp only [Act.put, List.setIfInBounds_toArray, List.set_cons_zero, List.set_cons_succ]
                refine wpAnyH_done (by kernel_rfl) (NoPanic.normal ?_) _
                go_wp2
                go_ret
                exact ⟨ret_bool HE.out.symm, BU.trans (BE.mono BU.size)⟩
              · have d8 : (x.gen != s.gen) = true := by simp [g8]
                have HE : Hid (okRx s k x = true) := by show _ = _; rw [HL.out, lastRx, hinn, decide_eq_false g8]; rfl
                clear hinn g8
                go_wp2_with fail
                have BD : Below u.heap.size u u.drew := (Below.refl _ _).drew
                have kk : u.drew.cell? ⟨w.heap.size, 0, none⟩ = some (.int .i64 s.gen) ∧ u.drew.cell? ⟨w.heap.size, 1, none⟩ = some (.slice (some ⟨kb, ob, none⟩) s.rds.length c0) ∧ u.drew.cell? ⟨w.heap.size, 2, none⟩ = some (.slice a1 s.com.length c1) ∧ u.drew.cell? ⟨w.heap.size, 3, none⟩ = some (.slice a2 s.ends.length c2) ∧ u.drew.cell? ⟨v.heap.size, 0, none⟩ = some (.bool true) ∧ u.drew.cell? ⟨v.heap.size, 1, none⟩ = some (.int .i64 x.gen) ∧ u.drew.cell? ⟨v.heap.size, 2, none⟩ = some (.slice r2 x.share.length k2) ∧ u.drew.cell? ⟨v.heap.size, 3, none⟩ = some (.slice r3 x.read.length k3) := ⟨celB BD q0, celB BD q1, celB BD q2, celB BD q3, celB BD q4, celB BD q5, celB BD q6, celB BD q7⟩
                refine wp_region_noPanic ?_
                refine wp_region_held_drew (S := fun w' => w'.cell? ⟨w.heap.size, 0, none⟩ = some (.int .i64 s.gen) ∧ w'.cell? ⟨w.heap.size, 1, none⟩ = some (.slice (some ⟨kb, ob, none⟩) s.rds.length c0) ∧ w'.cell? ⟨w.heap.size, 2, none⟩ = some (.slice a1 s.com.length c1) ∧ w'.cell? ⟨w.heap.size, 3, none⟩ = some (.slice a2 s.ends.length c2) ∧ w'.cell? ⟨v.heap.size, 0, none⟩ = some (.bool true) ∧ w'.cell? ⟨v.heap.size, 1, none⟩ = some (.int .i64 x.gen) ∧ w'.cell? ⟨v.heap.size, 2, none⟩ = some (.slice r2 x.share.length k2) ∧ w'.cell? ⟨v.heap.size, 3, none⟩ = some (.slice r3 x.read.length k3)) (by kernel_rfl) kk (fun hH => ?_)
                refine wpAnyH_take (i := 0) (oi := ⟨_, _, _, _, _, _⟩) (v := ?vh0) rfl (by kernel_rfl) (by kernel_rfl) (by kernel_rfl) (fun _ _ _ h => h) (Or.inl ⟨by rfl, ?yh0⟩) (by assumption) ?rh0
                case yh0 => intro w hSw; (try dsimp only at hSw); go_simp; try with_reducible rfl
                try simp only [Act.put, List.setIfInBounds_toArray, List.set_cons_zero, List.set_cons_succ]
                refine wpAnyH_take (i := 1) (oi := ⟨_, _, _, _, _, _⟩) (v := ?vh1) rfl (by kernel_rfl) (by kernel_rfl) (by kernel_rfl) (fun _ _ _ h => h) (Or.inl ⟨by rfl, ?yh1⟩) (by assumption) ?rh1
                case yh1 => intro w hSw; (try dsimp only at hSw); go_simp; try with_reducible rfl
                try simp only [Act.put, List.setIfInBounds_toArray, List.set_cons_zero, List.set_cons_succ]
                refine wpAnyH_take (i := 2) (oi := ⟨_, _, _, _, _, _⟩) (v := ?vh2) rfl (by kernel_rfl) (by kernel_rfl) (by kernel_rfl) (fun _ _ _ h => h) (Or.inl ⟨by rfl, ?yh2⟩) (by assumption) ?rh2
                case yh2 => intro w hSw; (try dsimp only at hSw); go_simp; try with_reducible rfl
                try simp only [Act.put, List.setIfInBounds_toArray, List.set_cons_zero, List.set_cons_succ]
                refine wpAnyH_take (i := 3) (oi := ⟨_, _, _, _, _, _⟩) (v := ?vh3) rfl (by kernel_rfl) (by kernel_rfl) (by kernel_rfl) (fun _ _ _ h => h) (Or.inl ⟨by rfl, ?yh3⟩) (by assumption) ?rh3
                case yh3 => intro w hSw; (try dsimp only at hSw); go_simp; try with_reducible rfl
                try simp only [Act.put, List.setIfInBounds_toArray, List.set_cons_zero, List.set_cons_succ]
                refine wpAnyH_take (i := 4) (oi := ⟨_, _, _, _, _, _⟩) (v := ?vh4) rfl (by kernel_rfl) (by kernel_rfl) (by kernel_rfl) (fun _ _ _ h => h) (Or.inl ⟨by rfl, ?yh4⟩) (by assumption) ?rh4
                case yh4 => intro w hSw; (try dsimp only at hSw); go_simp; try with_reducible rfl
                try simp only [Act.put, List.setIfInBounds_toArray, List.set_cons_zero, List.set_cons_succ]
                refine wpAnyH_take (i := 5) (oi := ⟨_, _, _, _, _, _⟩) (v := ?vh5) rfl (by kernel_rfl) (by kernel_rfl) (by kernel_rfl) (fun _ _ _ h => h) (Or.inl ⟨by rfl, ?yh5⟩) (by assumption) ?rh5
                case yh5 => intro w hSw; (try dsimp only at hSw); go_simp; try with_reducible rfl
                try simp only [Act.put, List.setIfInBounds_toArray, List.set_cons_zero, List.set_cons_succ]
                refine wpAnyH_take (i := 6) (oi := ⟨_, _, _, _, _, _⟩) (v := ?vh6) rfl (by kernel_rfl) (by kernel_rfl) (by kernel_rfl) (fun _ _ _ h => h) (Or.inl ⟨by rfl, ?yh6⟩) (by assumption) ?rh6
                case yh6 => intro w hSw; (try dsimp only at hSw); go_simp; try with_reducible rfl
                try simp only [Act.put, List.setIfInBounds_toArray, List.set_cons_zero, List.set_cons_succ]
                refine wpAnyH_take (i := 7) (oi := ⟨_, _, _, _, _, _⟩) (v := ?vh7) rfl (by kernel_rfl) (by kernel_rfl) (by kernel_rfl) (fun _ _ _ h => h) (Or.inl ⟨by rfl, ?yh7⟩) (by assumption) ?rh7
                case yh7 => intro w hSw; (try dsimp only at hSw); go_simp; try with_reducible rfl
                try simp only [Act.put, List.setIfInBounds_toArray, List.set_cons_zero, List.set_cons_succ]
                refine wpAnyH_take (i := 8) (oi := ⟨_, _, _, _, _, _⟩) (v := ?vh8) rfl (by kernel_rfl) (by kernel_rfl) (by kernel_rfl) (fun _ _ _ h => h) (Or.inl ⟨by rfl, ?yh8⟩) (by assumption) ?rh8
                case yh8 => intro w hSw; (try dsimp only at hSw); go_simp; try with_reducible rfl
                try simp only [Act.put, List.setIfInBounds_toArray, List.set_cons_zero, List.set_cons_succ]
                refine wpAnyH_take (i := 9) (oi := ⟨_, _, _, _, _, _⟩) (v := ?vh9) rfl (by kernel_rfl) (by kernel_rfl) (by kernel_rfl) (fun _ _ _ h => h) (Or.inl ⟨by rfl, ?yh9⟩) (by assumption) ?rh9
                case yh9 => intro w hSw; (try dsimp only at hSw); go_simp; try with_reducible rfl
                try simp only [Act.put, List.setIfInBounds_toArray, List.set_cons_zero, List.set_cons_succ]
                refine wpAnyH_take (i := 10) (oi := ⟨_, _, _, _, _, _⟩) (v := ?vh10) rfl (by kernel_rfl) (by kernel_rfl) (by kernel_rfl) (fun _ _ _ h => h) (Or.inl ⟨by rfl, ?yh10⟩) (by assumption) ?rh10
                case yh10 => intro w hSw; (try dsimp only at hSw); go_simp; try with_reducible rfl
                try simp only [Act.put, List.setIfInBounds_toArray, List.set_cons_zero, List.set_cons_succ]
                refine wpAnyH_take (i := 11) (oi := ⟨_, _, _, _, _, _⟩) (v := undef) rfl (by kernel_rfl) (by kernel_rfl) (by kernel_rfl) (fun _ _ _ h => h) (Or.inr ⟨by rfl, rfl⟩) (by assumption) ?_
                try simp only [Act.put, List.setIfInBounds_toArray, List.set_cons_zero, List.set_cons_succ]
                refine wpAnyH_take (i := 12) (oi := ⟨_, _, _, _, _, _⟩) (v := undef) rfl (by kernel_rfl) (by kernel_rfl) (by kernel_rfl) (fun _ _ _ h => h) (Or.inr ⟨by rfl, rfl⟩) (by assumption) ?_
                try simp only [Act.put, List.setIfInBounds_toArray, List.set_cons_zero, List.set_cons_succ]
                refine wpAnyH_take (i := 13) (oi := ⟨_, _, _, _, _, _⟩) (v := undef) rfl (by kernel_rfl) (by kernel_rfl) (by kernel_rfl) (fun _ _ _ h => h) (Or.inr ⟨by rfl, rfl⟩) (by assumption) ?_
                try simp only [Act.put, List.setIfInBounds_toArray, List.set_cons_zero, List.set_cons_succ]
                refine wpAnyH_take (i := 14) (oi := ⟨_, _, _, _, _, _⟩) (v := undef) rfl (by kernel_rfl) (by kernel_rfl) (by kernel_rfl) (fun _ _ _ h => h) (Or.inr ⟨by rfl, rfl⟩) (by assumption) ?_
                try simp only [Act.put, List.setIfInBounds_toArray, List.set_cons_zero, List.set_cons_succ]
                refine wpAnyH_take (i := 15) (oi := ⟨_, _, _, _, _, _⟩) (v := undef) rfl (by kernel_rfl) (by kernel_rfl) (by kernel_rfl) (fun _ _ _ h => h) (Or.inr ⟨by rfl, rfl⟩) (by assumption) ?_
                try simp only [Act.put, List.setIfInBounds_toArray, List.set_cons_zero, List.set_cons_succ]
                refine wpAnyH_take (i := 16) (oi := ⟨_, _, _, _, _, _⟩) (v := undef) rfl (by kernel_rfl) (by kernel_rfl) (by kernel_rfl) (fun _ _ _ h => h) (Or.inr ⟨by rfl, rfl⟩) (by assumption) ?_
                try simp only [Act.put, List.setIfInBounds_toArray, List.set_cons_zero, List.set_cons_succ]
                refine wpAnyH_take (i := 17) (oi := ⟨_, _, _, _, _, _⟩) (v := ?vh17) rfl (by kernel_rfl) (by kernel_rfl) (by kernel_rfl) (fun _ _ _ h => h) (Or.inl ⟨by rfl, ?yh17⟩) (by assumption) ?rh17
                case yh17 => intro w hSw; (try dsimp only at hSw); go_simp; try with_reducible rfl
                try simp only [Act.put, List.setIfInBounds_toArray, List.set_cons_zero, List.set_cons_succ]
                refine wpAnyH_take (i := 18) (oi := ⟨_, _, _, _, _, _⟩) (v := ?vh18) rfl (by kernel_rfl) (by kernel_rfl) (by kernel_rfl) (fun _ _ _ h => h) (Or.inl ⟨by rfl, ?yh18⟩) (by assumption) ?rh18
                case yh18 => intro w hSw; (try dsimp only at hSw); go_simp; try with_reducible rfl
                try simp only [Act.put, List.setIfInBounds_toArray, List.set_cons_zero, List.set_cons_succ]
                refine wpAnyH_done (by kernel_rfl) (NoPanic.normal ?_) _
                go_wp2
                go_ret
                exact ⟨ret_bool HE.out.symm, BU.trans (BD.mono BU.size)⟩
        | false =>
          rw [hinn] at q4 hu e0
          by_cases g9 : x.gen = 0
          · have d9 : (x.gen != 0) = false := by simp [g9]
            by_cases g10 : x.share.length = 0
            · have d10 : ¬ (0 : Int) < ((x.share.length : Nat) : Int) := by omega
              have d10n : decide (0 < x.share.length) = false := decide_eq_false (by omega)
              have g4 : (x.inn || (decide (x.gen = 0) && decide (x.share.length = 0))) = true := by simp [g9, List.eq_nil_of_length_eq_zero g10]
              clear g9 g10
              have H1 : Hid (firstRx s x = true) := by show _ = _; rw [firstRx, g1, g2, decide_eq_true g3, g4]; rfl
              have H3 : Hid (x.read.length = s.ends.length) := g3
              clear g4 g3
              go_enter Try.func51, Try.ntmps51
              go_wp2_with (first | (go_at_call 41; refine (l1In_g _ _ _ _ _ (by first | exact g1 | exact g5)).mono ?_; rintro e w' ⟨rfl, hw⟩; rw [hw]; clear hw w') | (go_at_call 74; refine (l6Group_g _ _ _ _ _ _ H2 m2 g2).mono ?_; rintro e w' ⟨rfl, hw⟩; rw [hw]; clear hw w'))
              clear hu d3 d9 d10 d10n
              go_loopw [56] (fun i wr => ∃ p : Nat, p ≤ x.read.length ∧ i = .int .i64 p ∧ Hid (readTo s x p) ∧ wr = u) (fun i _ => x.read.length - (intOf i).toNat)
              case atStart => exact ⟨0, Nat.zero_le _, rfl, (fun i hi => absurd hi (Nat.not_lt_zero _)), rfl⟩
              case round =>
                obtain ⟨p, hp, rfl, HO, hwr⟩ := hrel
                rw [hwr]
                clear hwr wr
                by_cases hlt : p < x.read.length
                · have hlt2 : p < s.ends.length := by have := H3.out; omega
                  obtain ⟨b1, o1, rfl, hc1⟩ := H4 p _ (zA_get hlt)
                  obtain ⟨b2, o2, rfl, hc2⟩ := H5 p _ (zA_get hlt2)
                  have hpi : (p : Int) < (x.read.length : Int) := by omega
                  have hpi2 : (p : Int) < (s.ends.length : Int) := by omega
                  have HQ : Hid (okRead s x p = (inB (zA x.read p) 0 (zA s.ends p) && (x.share.contains (p : Int) || decide (zA x.read p = 0)))) := rfl
                  obtain ⟨y, hy⟩ : ∃ y, zA x.read p = y := ⟨_, rfl⟩
                  obtain ⟨z, hz⟩ : ∃ z, zA s.ends p = z := ⟨_, rfl⟩
                  rw [hy] at hc1 HQ
                  rw [hz] at hc2 HQ
                  clear hy hz g1
                  cases g5 : inB y 0 z with
                  | false =>
                    have HE : Hid (okRx s k x = false) := okRx_2 hlt (by rw [HQ.out, g5]; rfl)
                    go_wp2_with (go_at_call 41; refine (l1In_g _ _ _ _ _ g5).mono ?_; rintro e w' ⟨rfl, hw⟩; rw [hw]; clear hw w')
                    go_ret
                    exact ⟨ret_bool HE.out.symm, BU⟩
                  | true =>
                    cases g6 : x.share.contains (p : Int) with
                    | true =>
                      have HN : Hid (readTo s x (p + 1)) := readTo_succ HO.out (by rw [HQ.out, g5, g6]; rfl)
                      go_wp2_with (first | (go_at_call 41; refine (l1In_g _ _ _ _ _ g5).mono ?_; rintro e w' ⟨rfl, hw⟩; rw [hw]; clear hw w') | (go_at_call 67; refine (l1Has_g _ _ _ _ _ _ H2 m2 g6).mono ?_; rintro e w' ⟨rfl, hw⟩; rw [hw]; clear hw w'))
                      go_roundw
                      case rel => exact ⟨p + 1, by omega, by go_num, HN.out, by first | trivial | rfl⟩
                      case measure => simp [intOf]; omega
                    | false =>
                      by_cases g7 : y = 0
                      · have d7 : (y != 0) = false := by simp [g7]
                        have HN : Hid (readTo s x (p + 1)) := readTo_succ HO.out (by rw [HQ.out, g5, g6, decide_eq_true g7]; rfl)
                        clear g7
                        go_wp2_with (first | (go_at_call 41; refine (l1In_g _ _ _ _ _ g5).mono ?_; rintro e w' ⟨rfl, hw⟩; rw [hw]; clear hw w') | (go_at_call 67; refine (l1Has_g _ _ _ _ _ _ H2 m2 g6).mono ?_; rintro e w' ⟨rfl, hw⟩; rw [hw]; clear hw w'))
                        go_roundw
                        case rel => exact ⟨p + 1, by omega, by go_num, HN.out, by first | trivial | rfl⟩
                        case measure => simp [intOf]; omega
                      · have d7 : (y != 0) = true := by simp [g7]
                        have HE : Hid (okRx s k x = false) := okRx_2 hlt (by rw [HQ.out, g5, g6, decide_eq_false g7]; rfl)
                        clear g7
                        go_wp2_with (first | (go_at_call 41; refine (l1In_g _ _ _ _ _ g5).mono ?_; rintro e w' ⟨rfl, hw⟩; rw [hw]; clear hw w') | (go_at_call 67; refine (l1Has_g _ _ _ _ _ _ H2 m2 g6).mono ?_; rintro e w' ⟨rfl, hw⟩; rw [hw]; clear hw w'))
                        go_ret
                        exact ⟨ret_bool HE.out.symm, BU⟩
                · obtain rfl : p = x.read.length := by omega
                  have HL : Hid (okRx s k x = lastRx s k x) := okRx_3 H1.out HO.out
                  clear HO
                  have HE : Hid (okRx s k x = true) := by show _ = _; rw [HL.out, lastRx, hinn]; rfl
                  clear hinn
                  go_wp2_with fail
                  have BD : Below u.heap.size u u.drew := (Below.refl _ _).drew
                  have kk : u.drew.cell? ⟨w.heap.size, 0, none⟩ = some (.int .i64 s.gen) ∧ u.drew.cell? ⟨w.heap.size, 1, none⟩ = some (.slice (some ⟨kb, ob, none⟩) s.rds.length c0) ∧ u.drew.cell? ⟨w.heap.size, 2, none⟩ = some (.slice a1 s.com.length c1) ∧ u.drew.cell? ⟨w.heap.size, 3, none⟩ = some (.slice a2 s.ends.length c2) ∧ u.drew.cell? ⟨v.heap.size, 0, none⟩ = some (.bool false) ∧ u.drew.cell? ⟨v.heap.size, 1, none⟩ = some (.int .i64 x.gen) ∧ u.drew.cell? ⟨v.heap.size, 2, none⟩ = some (.slice r2 x.share.length k2) ∧ u.drew.cell? ⟨v.heap.size, 3, none⟩ = some (.slice r3 x.read.length k3) := ⟨celB BD q0, celB BD q1, celB BD q2, celB BD q3, celB BD q4, celB BD q5, celB BD q6, celB BD q7⟩
                  refine wp_region_noPanic ?_
                  refine wp_region_held_drew (S := fun w' => w'.cell? ⟨w.heap.size, 0, none⟩ = some (.int .i64 s.gen) ∧ w'.cell? ⟨w.heap.size, 1, none⟩ = some (.slice (some ⟨kb, ob, none⟩) s.rds.length c0) ∧ w'.cell? ⟨w.heap.size, 2, none⟩ = some (.slice a1 s.com.length c1) ∧ w'.cell? ⟨w.heap.size, 3, none⟩ = some (.slice a2 s.ends.length c2) ∧ w'.cell? ⟨v.heap.size, 0, none⟩ = some (.bool false) ∧ w'.cell? ⟨v.heap.size, 1, none⟩ = some (.int .i64 x.gen) ∧ w'.cell? ⟨v.heap.size, 2, none⟩ = some (.slice r2 x.share.length k2) ∧ w'.cell? ⟨v.heap.size, 3, none⟩ = some (.slice r3 x.read.length k3)) (by kernel_rfl) kk (fun hH => ?_)
                  refine wpAnyH_take (i := 0) (oi := ⟨_, _, _, _, _, _⟩) (v := ?vf0) rfl (by kernel_rfl) (by kernel_rfl) (by kernel_rfl) (fun _ _ _ h => h) (Or.inl ⟨by rfl, ?yf0⟩) (by assumption) ?rf0
                  case yf0 => intro w hSw; (try dsimp only at hSw); go_simp; try with_reducible rfl
                  try simp only [Act.put, List.setIfInBounds_toArray, List.set_cons_zero, List.set_cons_succ]
                  refine wpAnyH_take (i := 1) (oi := ⟨_, _, _, _, _, _⟩) (v := ?vf1) rfl (by kernel_rfl) (by kernel_rfl) (by kernel_rfl) (fun _ _ _ h => h) (Or.inl ⟨by rfl, ?yf1⟩) (by assumption) ?rf1
                  case yf1 => intro w hSw; (try dsimp only at hSw); go_simp; try with_reducible rfl
                  try simp only [Act.put, List.setIfInBounds_toArray, List.set_cons_zero, List.set_cons_succ]
                  refine wpAnyH_take (i := 2) (oi := ⟨_, _, _, _, _, _⟩) (v := ?vf2) rfl (by kernel_rfl) (by kernel_rfl) (by kernel_rfl) (fun _ _ _ h => h) (Or.inl ⟨by rfl, ?yf2⟩) (by assumption) ?rf2
                  case yf2 => intro w hSw; (try dsimp only at hSw); go_simp; try with_reducible rfl
                  try simp only [Act.put, List.setIfInBounds_toArray, List.set_cons_zero, List.set_cons_succ]
                  refine wpAnyH_take (i := 3) (oi := ⟨_, _, _, _, _, _⟩) (v := ?vf3) rfl (by kernel_rfl) (by kernel_rfl) (by kernel_rfl) (fun _ _ _ h => h) (Or.inl ⟨by rfl, ?yf3⟩) (by assumption) ?rf3
                  case yf3 => intro w hSw; (try dsimp only at hSw); go_simp; try with_reducible rfl
                  try simp only [Act.put, List.setIfInBounds_toArray, List.set_cons_zero, List.set_cons_succ]
                  refine wpAnyH_take (i := 4) (oi := ⟨_, _, _, _, _, _⟩) (v := undef) rfl (by kernel_rfl) (by kernel_rfl) (by kernel_rfl) (fun _ _ _ h => h) (Or.inr ⟨by rfl, rfl⟩) (by assumption) ?_
                  try simp only [Act.put, List.setIfInBounds_toArray, List.set_cons_zero, List.set_cons_succ]
                  refine wpAnyH_take (i := 5) (oi := ⟨_, _, _, _, _, _⟩) (v := undef) rfl (by kernel_rfl) (by kernel_rfl) (by kernel_rfl) (fun _ _ _ h => h) (Or.inr ⟨by rfl, rfl⟩) (by assumption) ?_
                  try simp only [Act.put, List.setIfInBounds_toArray, List.set_cons_zero, List.set_cons_succ]
                  refine wpAnyH_take (i := 6) (oi := ⟨_, _, _, _, _, _⟩) (v := undef) rfl (by kernel_rfl) (by kernel_rfl) (by kernel_rfl) (fun _ _ _ h => h) (Or.inr ⟨by rfl, rfl⟩) (by assumption) ?_
                  try simp only [Act.put, List.setIfInBounds_toArray, List.set_cons_zero, List.set_cons_succ]
                  refine wpAnyH_take (i := 7) (oi := ⟨_, _, _, _, _, _⟩) (v := undef) rfl (by kernel_rfl) (by kernel_rfl) (by kernel_rfl) (fun _ _ _ h => h) (Or.inr ⟨by rfl, rfl⟩) (by assumption) ?_
                  try simp only [Act.put, List.setIfInBounds_toArray, List.set_cons_zero, List.set_cons_succ]
                  refine wpAnyH_take (i := 8) (oi := ⟨_, _, _, _, _, _⟩) (v := undef) rfl (by kernel_rfl) (by kernel_rfl) (by kernel_rfl) (fun _ _ _ h => h) (Or.inr ⟨by rfl, rfl⟩) (by assumption) ?_
                  try simp only [Act.put, List.setIfInBounds_toArray, List.set_cons_zero, List.set_cons_succ]
                  refine wpAnyH_take (i := 9) (oi := ⟨_, _, _, _, _, _⟩) (v := ?vf9) rfl (by kernel_rfl) (by kernel_rfl) (by kernel_rfl) (fun _ _ _ h => h) (Or.inl ⟨by rfl, ?yf9⟩) (by assumption) ?rf9
                  case yf9 => intro w hSw; (try dsimp only at hSw); go_simp; try with_reducible rfl
                  try simp only [Act.put, List.setIfInBounds_toArray, List.set_cons_zero, List.set_cons_succ]
                  refine wpAnyH_take (i := 10) (oi := ⟨_, _, _, _, _, _⟩) (v := ?vf10) rfl (by kernel_rfl) (by kernel_rfl) (by kernel_rfl) (fun _ _ _ h => h) (Or.inl ⟨by rfl, ?yf10⟩) (by assumption) ?rf10
                  case yf10 => intro w hSw; (try dsimp only at hSw); go_simp; try with_reducible rfl
                  try simp only [Act.put, List.setIfInBounds_toArray, List.set_cons_zero, List.set_cons_succ]
                  refine wpAnyH_take (i := 11) (oi := ⟨_, _, _, _, _, _⟩) (v := undef) rfl (by kernel_rfl) (by kernel_rfl) (by kernel_rfl) (fun _ _ _ h => h) (Or.inr ⟨by rfl, rfl⟩) (by assumption) ?_
                  try simp only [Act.put, List.setIfInBounds_toArray, List.set_cons_zero, List.set_cons_succ]
                  refine wpAnyH_take (i := 12) (oi := ⟨_, _, _, _, _, _⟩) (v := undef) rfl (by kernel_rfl) (by kernel_rfl) (by kernel_rfl) (fun _ _ _ h => h) (Or.inr ⟨by rfl, rfl⟩) (by assumption) ?_
                  try simp only [Act.put, List.setIfInBounds_toArray, List.set_cons_zero, List.set_cons_succ]
                  refine wpAnyH_take (i := 13) (oi := ⟨_, _, _, _, _, _⟩) (v := undef) rfl (by kernel_rfl) (by kernel_rfl) (by kernel_rfl) (fun _ _ _ h => h) (Or.inr ⟨by rfl, rfl⟩) (by assumption) ?_
                  try simp only [Act.put, List.setIfInBounds_toArray, List.set_cons_zero, List.set_cons_succ]
                  refine wpAnyH_take (i := 14) (oi := ⟨_, _, _, _, _, _⟩) (v := undef) rfl (by kernel_rfl) (by kernel_rfl) (by kernel_rfl) (fun _ _ _ h => h) (Or.inr ⟨by rfl, rfl⟩) (by assumption) ?_
                  try simp only [Act.put, List.setIfInBounds_toArray, List.set_cons_zero, List.set_cons_succ]
                  refine wpAnyH_take (i := 15) (oi := ⟨_, _, _, _, _, _⟩) (v := undef) rfl (by kernel_rfl) (by kernel_rfl) (by kernel_rfl) (fun _ _ _ h => h) (Or.inr ⟨by rfl, rfl⟩) (by assumption) ?_
                  try simp only [Act.put, List.setIfInBounds_toArray, List.set_cons_zero, List.set_cons_succ]
                  refine wpAnyH_take (i := 16) (oi := ⟨_, _, _, _, _, _⟩) (v := undef) rfl (by kernel_rfl) (by kernel_rfl) (by kernel_rfl) (fun _ _ _ h => h) (Or.inr ⟨by rfl, rfl⟩) (by assumption) ?_
                  try simp only [Act.put, List.setIfInBounds_toArray, List.set_cons_zero, List.set_cons_succ]
                  refine wpAnyH_take (i := 17) (oi := ⟨_, _, _, _, _, _⟩) (v := ?vf17) rfl (by kernel_rfl) (by kernel_rfl) (by kernel_rfl) (fun _ _ _ h => h) (Or.inl ⟨by rfl, ?yf17⟩) (by assumption) ?rf17
                  case yf17 => intro w hSw; (try dsimp only at hSw); go_simp; try with_reducible rfl
                  try simp only [Act.put, List.setIfInBounds_toArray, List.set_cons_zero, List.set_cons_succ]
                  refine wpAnyH_take (i := 18) (oi := ⟨_, _, _, _, _, _⟩) (v := ?vf18) rfl (by kernel_rfl) (by kernel_rfl) (by kernel_rfl) (fun _ _ _ h => h) (Or.inl ⟨by rfl, ?yf18⟩) (by assumption) ?rf18
                  case yf18 => intro w hSw; (try dsimp only at hSw); go_simp; try with_reducible rfl
                  try simp only [Act.put, List.setIfInBounds_toArray, List.set_cons_zero, List.set_cons_succ]
                  refine wpAnyH_done (by kernel_rfl) (NoPanic.normal ?_) _
                  go_wp2
                  go_ret
                  exact ⟨ret_bool HE.out.symm, BU.trans (BD.mono BU.size)⟩
            · have d10 : (0 : Int) < ((x.share.length : Nat) : Int) := by omega
              have h10 : decide (x.share.length = 0) = false := decide_eq_false g10
              have hE0 : firstRx s x = false := by simp only [firstRx, hinn, h10]; simp
              clear hinn g9 g10 g3
              have HE : Hid (okRx s k x = false) := okRx_1 (by exact hE0)
              go_enter Try.func51, Try.ntmps51
              go_wp2_with (first | (go_at_call 41; refine (l1In_g _ _ _ _ _ (by first | exact g1 | exact g5)).mono ?_; rintro e w' ⟨rfl, hw⟩; rw [hw]; clear hw w') | (go_at_call 74; refine (l6Group_g _ _ _ _ _ _ H2 m2 g2).mono ?_; rintro e w' ⟨rfl, hw⟩; rw [hw]; clear hw w'))
              go_ret
              exact ⟨ret_bool HE.out.symm, BU⟩
          · have d9 : (x.gen != 0) = true := by simp [g9]
            have h9 : decide (x.gen = 0) = false := decide_eq_false g9
            have hE0 : firstRx s x = false := by simp only [firstRx, hinn, h9]; simp
            clear hinn g9 g3
            have HE : Hid (okRx s k x = false) := okRx_1 (by exact hE0)
            go_enter Try.func51, Try.ntmps51
            go_wp2_with (first | (go_at_call 41; refine (l1In_g _ _ _ _ _ (by first | exact g1 | exact g5)).mono ?_; rintro e w' ⟨rfl, hw⟩; rw [hw]; clear hw w') | (go_at_call 74; refine (l6Group_g _ _ _ _ _ _ H2 m2 g2).mono ?_; rintro e w' ⟨rfl, hw⟩; rw [hw]; clear hw w'))
            go_ret
            exact ⟨ret_bool HE.out.symm, BU⟩
      · have d3 : (((x.read.length : Nat) : Int) != ((s.ends.length : Nat) : Int)) = true := by simp; omega
        have h3 : decide (x.read.length = s.ends.length) = false := decide_eq_false g3
        have HE : Hid (okRx s k x = false) := okRx_1 (by simp only [firstRx, h3]; simp)
        go_enter Try.func51, Try.ntmps51
        go_wp2_with (first | (go_at_call 41; refine (l1In_g _ _ _ _ _ (by first | exact g1 | exact g5)).mono ?_; rintro e w' ⟨rfl, hw⟩; rw [hw]; clear hw w') | (go_at_call 74; refine (l6Group_g _ _ _ _ _ _ H2 m2 g2).mono ?_; rintro e w' ⟨rfl, hw⟩; rw [hw]; clear hw w'))
        go_ret
        exact ⟨ret_bool HE.out.symm, BU⟩

theorem l14Reader_c (s : Rg) (k : Nat) (a0 a1 a2 : Option Addr) (c0 c1 c2 : Nat) (b : Bool) (w : World) (hs : RgR w s a0 a1 a2) (hk : k < s.rds.length) (hn : s.rds.length ≤ 1000) (he : s.ends.length ≤ 1000) (h : okRx s k (rxA s.rds k) = b) :
    Calls Try.prog 51 #[rgV s a0 c0 a1 c1 a2 c2, .int .i64 (k : Int)] w fun e w' => e = .returned (.bool b) ∧ Below w.heap.size w w' := by
  rw [← h]; exact l14Reader_any s k a0 a1 a2 c0 c1 c2 w hs hk hn he

end Go.Proofs.Ytgiekkipkgdjaaa
