/-
  Racks, the program's side: goodRacks, isSafe, RackSafe.
-/
import Derived.Test.YtilongjiacphmaaDoorRkI
namespace Go.Proofs.YtilongjiacphmaaDoor
open Go.RowKit

theorem oneUpToR (n hi : Int) (b : Bool) (w : World) (h : inB n 1 hi = b) : Calls Tryd.prog 15 #[.int .i64 n, .int .i64 hi] w fun e w' => e = .returned (.bool b) ∧ w' = w := by
  subst h
  by_cases h1 : n < 1
  · have HE : Hid (inB n 1 hi = false) := by show _ = _; simp [inB]; omega
    go_enter Tryd.func15, Tryd.ntmps15
    go_wp2
    go_ret
    exact ⟨ret_bool HE.out.symm, rfl⟩
  · by_cases h2 : n ≤ hi
    · have HE : Hid (inB n 1 hi = true) := by show _ = _; simp [inB]; omega
      go_enter Tryd.func15, Tryd.ntmps15
      go_wp2
      go_ret
      exact ⟨ret_bool HE.out.symm, rfl⟩
    · have HE : Hid (inB n 1 hi = false) := by show _ = _; simp [inB]; omega
      go_enter Tryd.func15, Tryd.ntmps15
      go_wp2
      go_ret
      exact ⟨ret_bool HE.out.symm, rfl⟩
theorem withinR (n hi : Int) (b : Bool) (w : World) (h : inB n 0 hi = b) : Calls Tryd.prog 39 #[.int .i64 n, .int .i64 hi] w fun e w' => e = .returned (.bool b) ∧ w' = w := by
  rw [← h]; exact within_any n hi w

theorem allWithin_any (a : Option Addr) (c : Nat) (rk : List Int) (w : World) (hs : Ints w a rk) (hl : rk.length ≤ maxLen) :
    Calls Tryd.prog 32 #[.slice a rk.length c, .int .i64 3] w fun r w' => r = .returned (.bool (rk.all fun r => inB r 0 3)) ∧ w' = w := by
  unfold maxLen at hl
  go_enter Tryd.func32, Tryd.ntmps32
  go_wp2
  go_loop [9] (fun i => ∃ k : Nat, k ≤ rk.length ∧ i = .int .i64 k ∧ Hid (allTo (fun r => inB r 0 3) rk k)) (fun i => rk.length - (intOf i).toNat)
  case atStart => exact ⟨0, Nat.zero_le _, rfl, allTo_zero _ _⟩
  case round =>
    obtain ⟨k, hk, rfl, HO⟩ := hrel
    by_cases hlt : k < rk.length
    · obtain ⟨b, off, rfl, hc⟩ := hs k _ (zA_get hlt)
      have HK : Hid (rk[k]? = some (zA rk k)) := zA_get hlt
      have hki : (k : Int) < (rk.length : Int) := by omega
      clear hs
      cases g : inB (zA rk k) 0 3 with
      | false =>
        have HE : Hid ((rk.all fun r => inB r 0 3) = false) := all_bad HK.out g
        go_wp2_with (go_at_call 39; refine (withinR _ _ _ _ g).mono ?_; rintro e w' ⟨rfl, rfl⟩)
        go_ret
        exact ⟨ret_bool HE.out.symm, rfl⟩
      | true =>
        have HN : Hid (allTo (fun r => inB r 0 3) rk (k + 1)) := allTo_succ HO.out HK.out g
        go_wp2_with (go_at_call 39; refine (withinR _ _ _ _ g).mono ?_; rintro e w' ⟨rfl, rfl⟩)
        go_round
        case rel => exact ⟨k + 1, by omega, by go_num, HN.out⟩
        case measure => simp [intOf]; omega
    · obtain rfl : k = rk.length := by omega
      have HE : Hid ((rk.all fun r => inB r 0 3) = true) := all_done HO.out
      go_wp2
      go_ret
      exact ⟨ret_bool HE.out.symm, rfl⟩

theorem goodRacks_c (a : Option Addr) (c : Nat) (rk : List Int) (b : Bool) (w : World) (hs : Ints w a rk) (hl : rk.length ≤ maxLen) (h : rkB rk = b) :
    Calls Tryd.prog 14 #[.slice a rk.length c] w fun r w' => r = .returned (.bool b) ∧ w' = w := by
  subst h
  cases g1 : inB (rk.length : Int) 1 6 with
  | false =>
    have HE : Hid (rkB rk = false) := by show _ = _; unfold rkB; rw [g1]; simp
    go_enter Tryd.func14, Tryd.ntmps14
    go_wp2_with (go_at_call 15; refine (oneUpToR _ _ _ _ g1).mono ?_; rintro e w' ⟨rfl, rfl⟩)
    go_ret
    exact ⟨ret_bool HE.out.symm, rfl⟩
  | true =>
    have HE : Hid (rkB rk = rk.all fun r => inB r 0 3) := by show _ = _; unfold rkB; rw [g1]; simp
    go_enter Tryd.func14, Tryd.ntmps14
    go_wp2_with (first | (go_at_call 15; refine (oneUpToR _ _ _ _ g1).mono ?_; rintro e w' ⟨rfl, hw⟩; rw [hw]; clear hw w') | (go_at_call 32; refine (allWithin_any _ _ _ _ hs hl).mono ?_; rintro e w' ⟨rfl, hw⟩; rw [hw]; clear hw w'))
    go_ret
    exact ⟨ret_bool HE.out.symm, rfl⟩

/-- What isSafe holds in its boxes. -/
structure SfK (W u : World) (B3 B5 s A : Nat) : Prop where
  tab : TabQ u
  q3 : u.cell? ⟨B3, 0, none⟩ = some (.int .u64 (s : Int))
  q5 : u.cell? ⟨B5, 0, none⟩ = some (.int .u64 (A : Int))
  bel : Below W.heap.size W u
theorem SfK.step {W u v : World} {B3 B5 s A : Nat} (h : SfK W u B3 B5 s A) (hb : Below u.heap.size u v) : SfK W v B3 B5 s A := ⟨h.tab.belowRk hb, celB hb h.q3, celB hb h.q5, stRk h.bel hb⟩
theorem SfK.drew {W u : World} {B3 B5 s A : Nat} (h : SfK W u B3 B5 s A) : SfK W u.drew B3 B5 s A := h.step (below_drewN (Below.refl _ _) 1)

set_option maxRecDepth 100000 in
set_option maxHeartbeats 4000000 in
theorem isSafe_any (a : Option Addr) (c : Nat) (rk g : List Int) (s : Nat) (w : World) (hs : Ints w a rk) (hl : 1 ≤ rk.length ∧ rk.length ≤ 6) (h3 : Rk3 rk) (hsn : s < 128) (hmi : mi s = g) (hm : ∀ j, j < g.length → 0 ≤ zA g j ∧ zA g j < (rk.length : Int)) (hT : TabQ w) :
    Calls Tryd.prog 25 #[.slice a rk.length c, setV s] w fun r w' => r = .returned (.bool (safe1 rk g)) ∧ Below w.heap.size w w' := by
  have HS : Hid (safe1 rk g = decide ((mnyTo rk g g.length).length = min g.length (allTo' rk rk.length).length)) := safe_is h3 hm
  have hio := mi_iota rk.length (by omega)
  have hst : stTo 0 1 rk.length < 128 := stTo_lt (many := rk.length) (fun k hk => by omega) rk.length (Nat.le_refl _)
  have HC1 := (show Hid _ from fun (u : World) (hu : Ints u a rk) (ht : TabQ u) => racksAt_any a c rk (stTo 0 1 rk.length) u hu h3 hst (by rw [hio]; intro j hj; rw [List.length_map, List.length_range] at hj; rw [iota_at hj]; omega) ht)
  have HC2 := (show Hid _ from fun (u : World) (hu : Ints u a rk) (ht : TabQ u) => racksAt_any a c rk s u hu h3 hsn (by rw [hmi]; exact hm) ht)
  obtain ⟨A, hA⟩ : ∃ A, rkTo rk (mi (stTo 0 1 rk.length)) (mi (stTo 0 1 rk.length)).length = A := ⟨_, rfl⟩
  obtain ⟨R, hR⟩ : ∃ R, rkTo rk (mi s) (mi s).length = R := ⟨_, rfl⟩
  have hAm : mi A = allTo' rk rk.length := by rw [← hA, rkTo_mny h3, hio]; simp only [List.length_map, List.length_range]; exact mny_all _ (Nat.le_refl _)
  have hRm : mi R = mnyTo rk g g.length := by rw [← hR, rkTo_mny h3, hmi]
  have hA1 : A < 128 := by rw [← hA]; exact rkTo_lt h3 _ _
  have hR1 : R < 128 := by rw [← hR]; exact rkTo_lt h3 _ _
  rw [hA] at HC1
  rw [hR] at HC2
  have HS2 : Hid (safe1 rk g = decide (((mi R).length : Int) = min ((mi s).length : Int) ((mi A).length : Int))) := by
    show _ = _
    rw [HS.out, hAm, hRm, hmi, decide_eq_decide]; omega
  have l1 := mi_len s
  have l2 := mi_len A
  have l3 := mi_len R
  have HST : Hid (stTo 0 1 rk.length < 128) := hst
  clear hio hA hR hAm hRm HS hm hmi hst
  obtain ⟨u0, hu0⟩ : ∃ u, w.alloc (.cells #[.int .u64 (s : Int)] 51) = u := ⟨_, rfl⟩
  have hB0 : Below w.heap.size w u0 := by rw [← hu0]; exact alRk _ _
  have hc0 : u0.cell? ⟨w.heap.size, 0, none⟩ = some (.int .u64 (s : Int)) := by rw [← hu0]; simp [go_sem]
  have hT0 := hT.belowRk hB0
  have hs0 := hs.below hB0
  clear hT hs
  go_enter Tryd.func25, Tryd.ntmps25
  go_wp2_with fail
  try rw [hu0]
  clear hu0
  refine (inSteps_any 0 1 rk.length (by omega) (by omega) (by omega) (fun k hk => by omega) _).mono ?_
  rintro r w1 ⟨rfl, hB1⟩
  have hT1 := hT0.belowRk hB1
  have hs1 := hs0.below hB1
  have hc1 := celB hB1 hc0
  have BB1 := stRk hB0 hB1
  clear hT0 hs0 hc0 hB0 hB1
  go_wp2_with fail
  refine Calls.mono (HC1.out _ hs1 hT1) ?_
  rintro r w2 ⟨rfl, hB2⟩
  have hT2 := hT1.belowRk hB2
  have hs2 := hs1.below hB2
  have hc2 := celB hB2 hc1
  have BB2 := stRk BB1 hB2
  clear hT1 hs1 hc1 BB1 hB2 HC1
  obtain ⟨u3, hu3⟩ : ∃ u, w2.alloc (.cells #[.int .u64 (A : Int)] 51) = u := ⟨_, rfl⟩
  have hB3 : Below w2.heap.size w2 u3 := by rw [← hu3]; exact alRk _ _
  have hq5 : u3.cell? ⟨w2.heap.size, 0, none⟩ = some (.int .u64 (A : Int)) := by rw [← hu3]; simp [go_sem]
  have ks : SfK w u3 w.heap.size w2.heap.size s A := ⟨hT2.belowRk hB3, celB hB3 hc2, hq5, stRk BB2 hB3⟩
  have hs3 := hs2.below hB3
  have q3 := ks.q3
  have q5 := ks.q5
  have HS3 : Hid (∀ v, Below u3.heap.size u3 v → Ints v a rk) := fun v hv => hs3.below hv
  clear hT2 hs2 hc2 BB2 hB3 hq5 hs3
  go_wp2_with fail
  try rw [hu3]
  have HLI : Hid (∀ v, Below u3.heap.size u3 v → Ints v a rk) := HS3
  have BU : Below u3.heap.size u3 u3 := Below.refl _ _
  clear hu3 HS3
  go_region_with (first
    | (go_at_call 36; refine (list_any _ (by first | exact hsn | exact hA1) _ (by first | exact ks.tab | exact ks.drew.tab)).mono ?_; intro r wl hz; obtain ⟨av, cv, rfl, -, -, -, -, hBl⟩ := hz.ints; have ks := SfK.step (by first | exact ks | exact ks.drew) hBl; have BU := stRk (by first | exact BU | exact BU.drew) hBl; have q3 := ks.q3; have q5 := ks.q5; clear hBl hz))
  all_goals
    have HMn : Hid ((if (mi A).length < (mi s).length then ((mi A).length : Int) else ((mi s).length : Int)) = min ((mi s).length : Int) ((mi A).length : Int)) := by show _ = _; split <;> omega
    have HS4 : Hid (∀ mn, (if (mi A).length < (mi s).length then ((mi A).length : Int) else ((mi s).length : Int)) = mn → safe1 rk g = (((mi R).length : Int) == mn)) := fun mn e => by rw [HS2.out, ← HMn.out, e]; rw [Bool.eq_iff_iff]; simp
    obtain ⟨mn, hmn⟩ : ∃ mn, (if (mi A).length < (mi s).length then ((mi A).length : Int) else ((mi s).length : Int)) = mn := ⟨_, rfl⟩
    rw [hmn]
    have HS5 := (show Hid _ from HS4.out mn hmn)
    clear hmn HMn HS4 HS2 l1 l2
    go_wp2_with fail
    refine Calls.mono (HC2.out _ (HLI.out _ BU) ks.tab) ?_
    rintro r w5 ⟨rfl, hB5⟩
    have ks5 := ks.step hB5
    clear hB5 HC2 HLI
    go_wp2_with fail
    refine (list_any R hR1 _ ks5.tab).mono ?_
    intro r w6 hz6
    obtain ⟨av6, cv6, rfl, -, -, -, -, hB6⟩ := hz6.ints
    have BB6 := (ks5.step hB6).bel
    clear hB6 hz6 ks5
    generalize (mi R).length = nR at *
    go_wp2
    go_ret
    exact ⟨ret_bool HS5.out.symm, BB6⟩

end Go.Proofs.YtilongjiacphmaaDoor
