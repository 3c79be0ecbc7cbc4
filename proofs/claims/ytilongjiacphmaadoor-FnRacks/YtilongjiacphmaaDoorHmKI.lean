/-
  Racks, the program's side: RackSafe.
-/
import Derived.Test.YtilongjiacphmaaDoorRkI2
namespace Go.Proofs.YtilongjiacphmaaDoor
open Go.RowKit

theorem mi_mskR {g : List Int} {m : Int} (hm : m ≤ 7) (h : riseB g m = true) : mi (msk g) = g ∧ msk g < 128 := by
  obtain ⟨h1, h2⟩ := mem7_msk hm h
  refine ⟨?_, h2⟩
  unfold mi
  rw [h1, List.map_map]
  conv => rhs; rw [← List.map_id g]
  refine List.map_congr_left fun z hz => ?_
  have := (rise_mem h hz).1
  simp only [Function.comp_apply, id_eq]
  omega
theorem all_take {rk : List Int} {L : List (List Int)} {k : Nat} {g : List Int} (h : L[k]? = some g) : (L.take (k + 1)).all (safe1 rk) = ((L.take k).all (safe1 rk) && safe1 rk g) := by
  rw [List.take_add_one, h, List.all_append]; simp

set_option maxRecDepth 100000 in
set_option maxHeartbeats 4000000 in
theorem implRackSafe_any (a a2 : Option Addr) (c c2 : Nat) (rk : List Int) (L : List (List Int)) (w : World) (hs : Ints w a rk) (hL : Intss w a2 L) (hl : rk.length ≤ maxLen) (hm : L.length ≤ maxLen) (hT : TabQ w) :
    Calls Tryd.prog 8 #[.slice a rk.length c, .slice a2 L.length c2] w fun e w' => e = .returned (.tuple #[.bool (rsA rk L), .bool (rsB rk L)]) ∧ Below w.heap.size w w' := by
  have hm' := hm
  unfold maxLen at hm'
  cases h : rkB rk with
  | false =>
    have HE : Hid (rsA rk L = false ∧ rsB rk L = false) := by show _ ∧ _; simp [rsA, rsB, h]
    go_enter Tryd.func8, Tryd.ntmps8
    go_wp2_with (go_at_call 14; refine (goodRacks_c _ _ _ _ _ hs hl h).mono ?_; rintro e w' ⟨rfl, rfl⟩)
    exact bodyPost_ret (v := .tuple #[.bool false, .bool false]) (by simp [results, Tryd.results8, go_sem]) rfl ⟨by rw [HE.out.1, HE.out.2], Below.refl _ _⟩
  | true =>
    obtain ⟨h3, hr1, hr6⟩ := rkB_is h
    have HB : Hid (rsB rk L = L.all (fun g => riseB g rk.length)) := by show _ = _; simp [rsB, h]
    have H3 : Hid (Rk3 rk) := h3
    clear h3
    go_enter Tryd.func8, Tryd.ntmps8
    go_wp2_with (go_at_call 14; refine (goodRacks_c _ _ _ _ _ hs hl h).mono ?_; rintro e w' ⟨rfl, hw⟩; rw [hw]; clear hw w')
    go_loopw [6, 16] (fun v i wr => ∃ k : Nat, k ≤ L.length ∧ i = .int .i64 k ∧ v = .bool ((L.take k).all (safe1 rk)) ∧ Hid (allTo (fun g => riseB g rk.length) L k) ∧ Below w.heap.size w wr) (fun _ i _ => L.length - (intOf i).toNat)
    case atStart => exact ⟨0, Nat.zero_le _, rfl, by simp, allTo_zero _ _, Below.refl _ _⟩
    case round =>
      obtain ⟨k, hk, rfl, rfl, HO, hB⟩ := hrel
      by_cases hlt : k < L.length
      · obtain ⟨g, hg⟩ := getL hlt
        obtain ⟨b, off, ai, ci, ea, hc, hI, hgm⟩ := (hL.below hB) k g hg
        subst ea
        have HK : Hid (L[k]? = some g) := hg
        have HAT : Hid ((L.take (k + 1)).all (safe1 rk) = ((L.take k).all (safe1 rk) && safe1 rk g)) := all_take hg
        have hki : (k : Int) < (L.length : Int) := by omega
        have hsr := hs.below hB
        have hTr := hT.belowRk hB
        clear hg
        cases hri : riseB g (rk.length : Int) with
        | false =>
          have HE : Hid (rsB rk L = false ∧ rsA rk L = false) := by
            have h1 : rsB rk L = false := by rw [HB.out]; exact all_bad HK.out hri
            exact ⟨h1, by unfold rsA; rw [h1]; rfl⟩
          go_wp2_with fail
          refine (setFrom_any _ _ g (rk.length : Int) _ hI hgm (by omega)).mono ?_
          rintro r w1 ⟨he, hB1⟩
          rw [hri] at he
          subst he
          have BB := stRk (stRk hB hB1) (alRk w1 (.cells #[.int .u64 ((setR g (rk.length : Int) : Nat) : Int)] 51))
          go_wp2
          exact bodyPost_ret (v := .tuple #[.bool false, .bool false]) (by simp [results, Tryd.results8, go_sem]) rfl ⟨by rw [HE.out.1, HE.out.2], BB⟩
        | true =>
          have HN : Hid (allTo (fun g => riseB g rk.length) L (k + 1)) := allTo_succ HO.out HK.out hri
          obtain ⟨hmi, hs128⟩ := mi_mskR (by omega) hri
          have hgr : ∀ j, j < g.length → 0 ≤ zA g j ∧ zA g j < (rk.length : Int) := fun j hj => (rise_at hri j hj).2
          have HSF := (show Hid _ from fun (u : World) (hu : Ints u a rk) (ht : TabQ u) => isSafe_any a c rk g (msk g) u hu ⟨hr1, hr6⟩ H3.out hs128 hmi hgr ht)
          have hse : setR g (rk.length : Int) = msk g := setR_t hri
          clear hmi hgr
          go_wp2_with fail
          refine (setFrom_any _ _ g (rk.length : Int) _ hI hgm (by omega)).mono ?_
          rintro r w1 ⟨he, hB1⟩
          rw [hri, hse] at he
          subst he
          obtain ⟨u2, hu2⟩ : ∃ u, w1.alloc (.cells #[.int .u64 ((msk g : Nat) : Int)] 51) = u := ⟨_, rfl⟩
          have hB2 : Below w1.heap.size w1 u2 := by rw [← hu2]; exact alRk _ _
          have hc2 : u2.cell? ⟨w1.heap.size, 0, none⟩ = some (.int .u64 ((msk g : Nat) : Int)) := by rw [← hu2]; simp [go_sem]
          have BB2 := stRk (stRk hB hB1) hB2
          have hs2 := (hsr.below hB1).below hB2
          have hT2 := (hTr.belowRk hB1).belowRk hB2
          clear hB1 hB2 hsr hTr hse
          cases hsv : (L.take k).all (safe1 rk) with
          | true =>
            rw [hsv] at HAT
            go_wp2_with fail
            try rw [hu2]
            clear hu2
            refine Calls.mono (HSF.out _ hs2 hT2) ?_
            rintro r w3 ⟨rfl, hB3⟩
            have BB3 := stRk BB2 hB3
            clear HSF hB3
            generalize safe1 rk g = y at *
            go_wp2
            go_roundw
            case rel => exact ⟨k + 1, by omega, by go_num, by rw [HAT.out]; rfl, HN.out, BB3⟩
            case measure => simp [intOf]; omega
          | false =>
            rw [hsv] at HAT
            clear HSF
            go_wp2
            go_roundw
            case rel => exact ⟨k + 1, by omega, by go_num, by rw [HAT.out]; rfl, HN.out, BB2⟩
            case measure => simp [intOf]; omega
      · obtain rfl : k = L.length := by omega
        have HB1 : Hid (rsB rk L = true) := by show _ = _; rw [HB.out]; exact all_done HO.out
        have HE : Hid (rsA rk L = (L.take L.length).all (safe1 rk)) := by show _ = _; unfold rsA; rw [HB1.out, List.take_length]; rfl
        generalize (L.take L.length).all (safe1 rk) = y at *
        go_wp2
        exact bodyPost_ret (v := .tuple #[.bool y, .bool true]) (by simp [results, Tryd.results8, go_sem]) rfl ⟨by rw [HE.out, HB1.out], hB⟩

end Go.Proofs.YtilongjiacphmaaDoor
