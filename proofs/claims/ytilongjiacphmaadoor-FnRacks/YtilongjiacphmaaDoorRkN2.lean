/-
  Racks, the program's side: nextCopy.
-/
import Derived.Test.YtilongjiacphmaaDoorRkN
namespace Go.Proofs.YtilongjiacphmaaDoor
open Go.RowKit

theorem meets_c (x y : Nat) (b : Bool) (hx : x < 128) (hy : y < 128) (w : World) (h : (x &&& y != 0) = b) :
    Calls Tryd.prog 40 #[setV x, setV y] w fun r w' => r = .returned (.bool b) ∧ Below w.heap.size w w' := by
  subst h; exact meets_any x y hx hy w

set_option maxRecDepth 100000 in
set_option maxHeartbeats 8000000 in
theorem nextCopy_any (a : Option Addr) (c : Nat) (rk l : List Int) (h t : Nat) (w : World) (hs : Ints w a rk) (hl : 1 ≤ rk.length ∧ rk.length ≤ 6) (h3 : Rk3 rk) (hh : h < rk.length) (htn : t < 128) (hmi : mi t = l) (hm : (h : Int) ∈ l) (hl2 : l.length ≤ 2) (hl3 : l.length < rk.length)
    (hr : ∀ z ∈ l, 0 ≤ z ∧ z < (rk.length : Int)) (hT : TabQ w) :
    Calls Tryd.prog 35 #[.slice a rk.length c, .int .i64 (h : Int), setV t] w fun r w' => r = .returned (.int .i64 (nxtR rk h l)) ∧ Below w.heap.size w w' := by
  have HRA := (show Hid _ from fun (u : World) (hu : Ints u a rk) (ht : TabQ u) => racksAt_any a c rk t u hu h3 htn (by rw [hmi]; intro j hj; exact hr _ (List.mem_of_getElem? (zA_get hj))) ht)
  rw [hmi] at HRA
  have HBIT : Hid (∀ r : Nat, r < 7 → (rkTo rk l l.length &&& 2 ^ r != 0) = hasR rk l (r : Int)) := fun r hr => by rw [and_bit _ (rkTo_lt h3 _ _) r hr, hasR_bit h3]
  have HCON : Hid (∀ k : Nat, k < 7 → (t &&& 2 ^ k != 0) = l.contains (k : Int)) := fun k hk => by rw [and_bit _ htn k hk, ← hmi, mi_has _ htn k hk]
  have hT1 := rkTo_lt h3 l l.length
  have H3 : Hid (Rk3 rk) := h3
  have HFR : Hid (∀ i, i < rk.length → fA rk l (atR rk.length h i) = true → (∀ j, j < i → fA rk l (atR rk.length h j) = false) → nxtR rk h l = (atR rk.length h i : Int)) := fun i hi hk hf => nxt_fresh hh hm hi hk hf
  have HOL : Hid ((∀ j, j < rk.length → fA rk l (atR rk.length h j) = false) → nxtR rk h l = nxP (fB l) rk.length h rk.length) := fun hf => nxt_old hh hm hl2 hl3 hf
  obtain ⟨T, hTe⟩ : ∃ T, rkTo rk l l.length = T := ⟨_, rfl⟩
  rw [hTe] at HRA HBIT hT1
  clear hTe hr hmi hm h3 hl3
  obtain ⟨u0, hu0⟩ : ∃ u, w.alloc (.cells #[.int .u64 (t : Int)] 51) = u := ⟨_, rfl⟩
  have hB0 : Below w.heap.size w u0 := by rw [← hu0]; exact alRk _ _
  have hc0 : u0.cell? ⟨w.heap.size, 0, none⟩ = some (.int .u64 (t : Int)) := by rw [← hu0]; simp [go_sem]
  have hT0 := hT.belowRk hB0
  have hs0 := hs.below hB0
  clear hT hs
  go_enter Tryd.func35, Tryd.ntmps35
  go_wp2_with fail
  try rw [hu0]
  clear hu0
  refine Calls.mono (HRA.out _ hs0 hT0) ?_
  rintro r w1 ⟨rfl, hB1⟩
  have hs1 := hs0.below hB1
  obtain ⟨u2, hu2⟩ : ∃ u, w1.alloc (.cells #[.int .u64 (T : Int)] 51) = u := ⟨_, rfl⟩
  have hB2 : Below w1.heap.size w1 u2 := by rw [← hu2]; exact alRk _ _
  have hq5 : u2.cell? ⟨w1.heap.size, 0, none⟩ = some (.int .u64 (T : Int)) := by rw [← hu2]; simp [go_sem]
  have ks0 : SfK w u2 w.heap.size w1.heap.size t T := ⟨(hT0.belowRk hB1).belowRk hB2, celB hB2 (celB hB1 hc0), hq5, stRk (stRk hB0 hB1) hB2⟩
  have hs2 := hs1.below hB2
  obtain ⟨B5, hB5⟩ : ∃ b, w1.heap.size = b := ⟨_, rfl⟩
  rw [hB5] at ks0
  have HI0 : Hid (Ints u2 a rk) := hs2
  clear HRA hT0 hs0 hB0 hc0 hB1 hs1 hB2 hq5 hs2
  go_wp2
  try rw [hu2]
  try rw [hB5]
  clear hu2 hB5
  go_loopw [8, 16] (fun v i wr => ∃ k : Nat, k ≤ rk.length ∧ i = .int .i64 k ∧ v = .int .i64 (nxP (fB l) rk.length h k) ∧ Hid (∀ j, j < k → fA rk l (atR rk.length h j) = false) ∧ SfK w wr w.heap.size B5 t T ∧ Ints wr a rk) (fun _ i _ => rk.length - (intOf i).toNat)
  case atStart => exact ⟨0, Nat.zero_le _, rfl, rfl, fun j hj => absurd hj (Nat.not_lt_zero _), ks0, HI0.out⟩
  case round =>
    clear ks0 HI0
    obtain ⟨i, hi, rfl, rfl, HF, ks, hI⟩ := hrel
    by_cases hlt : i < rk.length
    · have hil : (i : Int) < (rk.length : Int) := by omega
      obtain ⟨k, hk⟩ : ∃ k, atR rk.length h i = k := ⟨_, rfl⟩
      have hkn : k < rk.length := by rw [← hk]; exact Nat.mod_lt _ (by omega)
      have hki : (k : Int) < (rk.length : Int) := by omega
      have hrm : Int.tmod ((h : Int) + 1 + (i : Int)) (rk.length : Int) = (k : Int) := by
        rw [← hk]
        rw [show (h : Int) + 1 + (i : Int) = ((h + 1 + i : Nat) : Int) by omega]
        rfl
      have hwk : IntKind.i64.wrap (k : Int) = (k : Int) := by rw [IntKind.wrap_i64]; omega
      have hn0 : ¬ (rk.length : Int) = 0 := by omega
      obtain ⟨b2, o2, e2, hc2⟩ := hI k _ (zA_get hkn)
      subst e2
      have hrk := H3.out k hkn
      obtain ⟨m, hmm⟩ : ∃ m : Nat, zA rk k = m := ⟨(zA rk k).toNat, by omega⟩
      rw [hmm] at hc2 hrk
      have hm7 : m < 7 := by omega
      have hk7 : k < 7 := by omega
      have hp7 : 2 ^ m < 128 := p7 hm7
      have hpk : 2 ^ k < 128 := p7 hk7
      have HFA : Hid (fA rk l k = !hasR rk l (m : Int)) := by show _ = _; unfold fA; rw [hmm]
      have HIW : Hid (Ints wr (some ⟨b2, o2, none⟩) rk) := hI
      have hmeA := HBIT.out m hm7
      have hmeB := HCON.out k hk7
      have q3 := ks.q3
      have q5 := ks.q5
      have BW : Below wr.heap.size wr wr := Below.refl _ _
      have HKE : Hid (atR rk.length h i = k) := hk
      clear hk hmm hI
      cases hfa : hasR rk l (m : Int) with
      | false =>
        rw [hfa] at hmeA
        have HE : Hid (nxtR rk h l = (k : Int)) := by
          have := HFR.out i hlt (by rw [HKE.out, HFA.out, hfa]; rfl) HF.out
          rw [HKE.out] at this
          exact this
        go_wp2_with fail
        go_region_with (first
          | (go_at_call 33; refine (only_any m hm7 _).mono ?_; rintro r wa ⟨rfl, hBa⟩; have ks := SfK.step (by first | exact ks | exact ks.drew) hBa; have q5 := ks.q5; clear hBa)
          | (go_at_call 40; refine (meets_c T (2 ^ m) _ hT1 hp7 _ hmeA).mono ?_; rintro r wb ⟨rfl, hBb⟩; have ks := SfK.step (by first | exact ks | exact ks.drew) hBb; have q5 := ks.q5; clear hBb))
        all_goals
          have BBE := ks.bel
          go_wp2
          go_ret
          exact ⟨by rw [HE.out]; rfl, BBE⟩
      | true =>
        rw [hfa] at hmeA
        have HFN : Hid (∀ j, j < i + 1 → fA rk l (atR rk.length h j) = false) := fun j hj => by
          by_cases e : j = i
          · subst e; rw [HKE.out, HFA.out, hfa]; rfl
          · exact HF.out j (by omega)
        by_cases hnx : nxP (fB l) rk.length h i = -1
        · cases hfb : l.contains (k : Int) with
          | false =>
            rw [hfb] at hmeB
            have HNX : Hid (nxP (fB l) rk.length h (i + 1) = (k : Int)) := by
              show _ = _
              rw [nxP, if_pos ⟨hnx, by rw [HKE.out]; unfold fB; rw [hfb]; rfl⟩, HKE.out]
            rw [hnx]
            clear hnx
            go_wp2_with fail
            go_region_with (first
              | (go_at_call 33; refine (only_any m hm7 _).mono ?_; rintro r wa ⟨rfl, hBa⟩; have ks := SfK.step (by first | exact ks | exact ks.drew) hBa; have BW := stRk (by first | exact BW | exact BW.drew) hBa; have q3 := ks.q3; have q5 := ks.q5; clear hBa)
              | (go_at_call 40; refine (meets_c T (2 ^ m) _ hT1 hp7 _ hmeA).mono ?_; rintro r wb ⟨rfl, hBb⟩; have ks := SfK.step (by first | exact ks | exact ks.drew) hBb; have BW := stRk (by first | exact BW | exact BW.drew) hBb; have q3 := ks.q3; have q5 := ks.q5; clear hBb))
            all_goals
              go_wp2_with fail
              go_region_with (first
                  | (go_at_call 33; refine (only_any k hk7 _).mono ?_; rintro r wc ⟨rfl, hBc⟩; have ks := SfK.step (by first | exact ks | exact ks.drew) hBc; have BW := stRk (by first | exact BW | exact BW.drew) hBc; have q3 := ks.q3; clear hBc)
                  | (go_at_call 40; refine (meets_c t (2 ^ k) _ htn hpk _ hmeB).mono ?_; rintro r wd ⟨rfl, hBd⟩; have ks := SfK.step (by first | exact ks | exact ks.drew) hBd; have BW := stRk (by first | exact BW | exact BW.drew) hBd; clear hBd))
              all_goals
                have BBE := ks
                have HIE := HIW.out.below BW
                go_wp2
                go_roundw
                case rel => exact ⟨i + 1, by omega, by go_num, by rw [HNX.out], HFN.out, BBE, HIE⟩
                case measure => simp [intOf]; omega
          | true =>
            rw [hfb] at hmeB
            have HNX : Hid (nxP (fB l) rk.length h (i + 1) = -1) := by
              show _ = _
              rw [nxP, if_neg (fun c => by have := c.2; rw [HKE.out] at this; unfold fB at this; rw [hfb] at this; cases this), hnx]
            rw [hnx]
            clear hnx
            go_wp2_with fail
            go_region_with (first
              | (go_at_call 33; refine (only_any m hm7 _).mono ?_; rintro r wa ⟨rfl, hBa⟩; have ks := SfK.step (by first | exact ks | exact ks.drew) hBa; have BW := stRk (by first | exact BW | exact BW.drew) hBa; have q3 := ks.q3; have q5 := ks.q5; clear hBa)
              | (go_at_call 40; refine (meets_c T (2 ^ m) _ hT1 hp7 _ hmeA).mono ?_; rintro r wb ⟨rfl, hBb⟩; have ks := SfK.step (by first | exact ks | exact ks.drew) hBb; have BW := stRk (by first | exact BW | exact BW.drew) hBb; have q3 := ks.q3; have q5 := ks.q5; clear hBb))
            all_goals
              go_wp2_with fail
              go_region_with (first
                  | (go_at_call 33; refine (only_any k hk7 _).mono ?_; rintro r wc ⟨rfl, hBc⟩; have ks := SfK.step (by first | exact ks | exact ks.drew) hBc; have BW := stRk (by first | exact BW | exact BW.drew) hBc; have q3 := ks.q3; clear hBc)
                  | (go_at_call 40; refine (meets_c t (2 ^ k) _ htn hpk _ hmeB).mono ?_; rintro r wd ⟨rfl, hBd⟩; have ks := SfK.step (by first | exact ks | exact ks.drew) hBd; have BW := stRk (by first | exact BW | exact BW.drew) hBd; clear hBd))
              all_goals
                have BBE := ks
                have HIE := HIW.out.below BW
                go_wp2
                go_roundw
                case rel => exact ⟨i + 1, by omega, by go_num, by rw [HNX.out], HFN.out, BBE, HIE⟩
                case measure => simp [intOf]; omega
        · have HNX : Hid (nxP (fB l) rk.length h (i + 1) = nxP (fB l) rk.length h i) := by
            show _ = _
            rw [nxP, if_neg (fun c => hnx c.1)]
          generalize nxP (fB l) rk.length h i = nx at *
          have dnx : (nx == -1) = false := by simp [hnx]
          clear hnx
          go_wp2_with fail
          go_region_with (first
            | (go_at_call 33; refine (only_any m hm7 _).mono ?_; rintro r wa ⟨rfl, hBa⟩; have ks := SfK.step (by first | exact ks | exact ks.drew) hBa; have BW := stRk (by first | exact BW | exact BW.drew) hBa; have q3 := ks.q3; have q5 := ks.q5; clear hBa)
            | (go_at_call 40; refine (meets_c T (2 ^ m) _ hT1 hp7 _ hmeA).mono ?_; rintro r wb ⟨rfl, hBb⟩; have ks := SfK.step (by first | exact ks | exact ks.drew) hBb; have BW := stRk (by first | exact BW | exact BW.drew) hBb; have q3 := ks.q3; have q5 := ks.q5; clear hBb))
          all_goals
            go_wp2
            go_quiet (fail)
            have BBE := fun q => SfK.step ks (below_drewN (Below.refl _ _) q)
            have HIE := fun q => HIW.out.below (stRk BW (below_drewN (Below.refl _ _) q))
            go_wp2
            go_roundw
            case rel => exact ⟨i + 1, by omega, by go_num, by rw [HNX.out], HFN.out, BBE _, HIE _⟩
            case measure => simp [intOf]; omega
    · obtain rfl : i = rk.length := by omega
      have HE := (show Hid _ from HOL.out HF.out)
      have BBE := ks.bel
      clear hI
      generalize nxP (fB l) rk.length h rk.length = nx at *
      go_wp2
      go_ret
      exact ⟨by rw [HE.out]; rfl, BBE⟩

end Go.Proofs.YtilongjiacphmaaDoor
