/-
  Groups that read, the specification's side: GoodReaders.
-/
import Derived.Test.YtgiekkipkgdjaaaRgS1
namespace Go.Proofs.Ytgiekkipkgdjaaa
open Go.RowKit

set_option maxRecDepth 100000 in
set_option maxHeartbeats 8000000 in
theorem specGoodRg_any (s : Rg) (a0 a1 a2 : Option Addr) (c0 c1 c2 : Nat) (w : World) (hs : RgR w s a0 a1 a2) (hl : RgL s) :
    Calls Try.prog 19 #[rgV s a0 c0 a1 c1 a2 c2] w fun e w' => e = .returned (.bool (goodRg s)) ∧ Below w.heap.size w w' := by
  have n0 := hl.rds
  have n1 := hl.com
  have n2 := hl.ends
  unfold maxLen at n0 n1 n2
  obtain ⟨u0, hu0⟩ : ∃ u0, (w.alloc (.cells #[.int .i64 s.gen, .slice a0 s.rds.length c0, .slice a1 s.com.length c1, .slice a2 s.ends.length c2] 25)) = u0 := ⟨_, rfl⟩
  have q0 : u0.cell? ⟨w.heap.size, 0, none⟩ = some (.int .i64 s.gen) := by rw [← hu0]; simp [go_sem]
  have q1 : u0.cell? ⟨w.heap.size, 1, none⟩ = some (.slice a0 s.rds.length c0) := by rw [← hu0]; simp [go_sem]
  have q2 : u0.cell? ⟨w.heap.size, 2, none⟩ = some (.slice a1 s.com.length c1) := by rw [← hu0]; simp [go_sem]
  have q3 : u0.cell? ⟨w.heap.size, 3, none⟩ = some (.slice a2 s.ends.length c2) := by rw [← hu0]; simp [go_sem]
  have bB : Below w.heap.size w u0 := by rw [← hu0]; exact alRg _ _
  have hs0 := hs.below bB
  cases g1 : inB s.rds.length 1 5 with
  | false =>
    have HE : Hid (goodRg s = false) := goodRg_1 (by simp [headRg, g1])
    go_enter Try.func19, Try.ntmps19
    go_wp2_with (go_at_call 41; refine (l1In_g _ _ _ _ _ g1).mono ?_; rintro e w' ⟨rfl, hw⟩; rw [hw]; clear hw w')
    go_ret
    exact ⟨ret_bool HE.out.symm, bB⟩
  | true =>
  cases g2 : inB s.ends.length 1 6 with
  | false =>
    have HE : Hid (goodRg s = false) := goodRg_1 (by simp [headRg, g2])
    go_enter Try.func19, Try.ntmps19
    go_wp2_with (go_at_call 41; refine (l1In_g _ _ _ _ _ (by first | exact g1 | exact g2)).mono ?_; rintro e w' ⟨rfl, hw⟩; rw [hw]; clear hw w')
    go_ret
    exact ⟨ret_bool HE.out.symm, bB⟩
  | true =>
  by_cases g3 : s.com.length = s.ends.length
  · have d3 : (((s.com.length : Nat) : Int) != ((s.ends.length : Nat) : Int)) = false := by simp [g3]
    have H3 : Hid (s.com.length = s.ends.length) := g3
    cases g4 : inB s.gen 0 1000 with
    | false =>
      have HE : Hid (goodRg s = false) := goodRg_1 (by simp [headRg, g4])
      clear g3
      go_enter Try.func19, Try.ntmps19
      go_wp2_with (go_at_call 41; refine (l1In_g _ _ _ _ _ (by first | exact g1 | exact g2 | exact g4)).mono ?_; rintro e w' ⟨rfl, hw⟩; rw [hw]; clear hw w')
      go_ret
      exact ⟨ret_bool HE.out.symm, bB⟩
    | true =>
      have HH : Hid (headRg s = true) := by show _ = _; rw [headRg, g1, g2, decide_eq_true g3, g4]; rfl
      have hn5 := (inB_t.1 g1).2
      have he6 := (inB_t.1 g2).2
      have hn : s.rds.length ≤ 1000 := by omega
      have he : s.ends.length ≤ 1000 := by omega
      clear g3
      go_enter Try.func19, Try.ntmps19
      go_wp2_with (go_at_call 41; refine (l1In_g _ _ _ _ _ (by first | exact g1 | exact g2 | exact g4)).mono ?_; rintro e w' ⟨rfl, hw⟩; rw [hw]; clear hw w')
      clear hu0 d3 g1 g2 g4
      go_loop [36] (fun i => ∃ p : Nat, p ≤ s.ends.length ∧ i = .int .i64 p ∧ Hid (endTo s p)) (fun i => s.ends.length - (intOf i).toNat)
      case atStart => exact ⟨0, Nat.zero_le _, rfl, (fun i hi => absurd hi (Nat.not_lt_zero _))⟩
      case round =>
        obtain ⟨p, hp, rfl, HO⟩ := hrel
        by_cases hlt : p < s.ends.length
        · have hlt2 : p < s.com.length := by have := H3.out; omega
          obtain ⟨b1, o1, rfl, hc1⟩ := hs0.ends p _ (zA_get hlt)
          obtain ⟨b2, o2, rfl, hc2⟩ := hs0.com p _ (zA_get hlt2)
          have hpi : (p : Int) < (s.ends.length : Int) := by omega
          have hpi2 : (p : Int) < (s.com.length : Int) := by omega
          have HQ : Hid (okEnd s p = (inB (zA s.ends p) 0 100 && inB (zA s.com p) 0 (zA s.ends p))) := rfl
          obtain ⟨y, hy⟩ : ∃ y, zA s.ends p = y := ⟨_, rfl⟩
          obtain ⟨z, hz⟩ : ∃ z, zA s.com p = z := ⟨_, rfl⟩
          rw [hy] at hc1 HQ
          rw [hz] at hc2 HQ
          clear hy hz hs0 hs
          cases g5 : inB y 0 100 with
          | false =>
            have HE : Hid (goodRg s = false) := goodRg_2 hlt (by rw [HQ.out, g5]; rfl)
            go_wp2_with (go_at_call 41; refine (l1In_g _ _ _ _ _ g5).mono ?_; rintro e w' ⟨rfl, hw⟩; rw [hw]; clear hw w')
            go_ret
            exact ⟨ret_bool HE.out.symm, bB⟩
          | true =>
            cases g6 : inB z 0 y with
            | false =>
              have HE : Hid (goodRg s = false) := goodRg_2 hlt (by rw [HQ.out, g6]; simp)
              go_wp2_with (go_at_call 41; refine (l1In_g _ _ _ _ _ (by first | exact g5 | exact g6)).mono ?_; rintro e w' ⟨rfl, hw⟩; rw [hw]; clear hw w')
              go_ret
              exact ⟨ret_bool HE.out.symm, bB⟩
            | true =>
              have HN : Hid (endTo s (p + 1)) := endTo_succ HO.out (by rw [HQ.out, g5, g6]; rfl)
              go_wp2_with (go_at_call 41; refine (l1In_g _ _ _ _ _ (by first | exact g5 | exact g6)).mono ?_; rintro e w' ⟨rfl, hw⟩; rw [hw]; clear hw w')
              go_round
              case rel => exact ⟨p + 1, by omega, by go_num, HN.out⟩
              case measure => simp [intOf]; omega
        · obtain rfl : p = s.ends.length := by omega
          have HEn : Hid (endTo s s.ends.length) := HO
          clear HO
          go_wp2
          go_loopw [58] (fun i wr => ∃ k : Nat, k ≤ s.rds.length ∧ i = .int .i64 k ∧ Hid (rdsTo s k) ∧ Below u0.heap.size u0 wr) (fun i _ => s.rds.length - (intOf i).toNat)
          case atStart => exact ⟨0, Nat.zero_le _, rfl, (fun i hi => absurd hi (Nat.not_lt_zero _)), Below.refl _ _⟩
          case round =>
            obtain ⟨k, hk, rfl, HO, hB⟩ := hrel
            have p0 := celB hB q0
            have p1 := celB hB q1
            have p2 := celB hB q2
            have p3 := celB hB q3
            by_cases hlt : k < s.rds.length
            · have hki : (k : Int) < (s.rds.length : Int) := by omega
              obtain ⟨g, hg⟩ : ∃ g, okRx s k (rxA s.rds k) = g := ⟨_, rfl⟩
              have HG : Hid (okRx s k (rxA s.rds k) = g) := hg
              have hsB := hs0.below hB
              clear hg
              go_wp2_with fail
              refine (l14Reader_c s k _ _ _ _ _ _ _ _ hsB hlt hn he HG.out).mono ?_
              rintro r w1 ⟨rfl, hB1⟩
              have BB := stRg hB hB1
              clear hB1 p0 p1 p2 p3
              cases g
              · have HE : Hid (goodRg s = false) := goodRg_3 hlt HG.out
                go_wp2
                go_ret
                exact ⟨ret_bool HE.out.symm, stRg bB BB⟩
              · have HN : Hid (rdsTo s (k + 1)) := rdsTo_succ HO.out HG.out
                go_wp2
                go_roundw
                case rel => exact ⟨k + 1, by omega, by go_num, HN.out, BB⟩
                case measure => simp [intOf]; omega
            · obtain rfl : k = s.rds.length := by omega
              have HE : Hid (goodRg s = true) := goodRg_4 HH.out HEn.out HO.out
              go_wp2
              go_ret
              exact ⟨ret_bool HE.out.symm, stRg bB hB⟩
  · have d3 : (((s.com.length : Nat) : Int) != ((s.ends.length : Nat) : Int)) = true := by simp; omega
    have HE : Hid (goodRg s = false) := goodRg_1 (by simp [headRg, g3])
    clear g3
    go_enter Try.func19, Try.ntmps19
    go_wp2_with (go_at_call 41; refine (l1In_g _ _ _ _ _ (by first | exact g1 | exact g2)).mono ?_; rintro e w' ⟨rfl, hw⟩; rw [hw]; clear hw w')
    go_ret
    exact ⟨ret_bool HE.out.symm, bB⟩

theorem specGoodRg_c (s : Rg) (a0 a1 a2 : Option Addr) (c0 c1 c2 : Nat) (b : Bool) (w : World) (hs : RgR w s a0 a1 a2) (hl : RgL s) (h : goodRg s = b) :
    Calls Try.prog 19 #[rgV s a0 c0 a1 c1 a2 c2] w fun e w' => e = .returned (.bool b) ∧ Below w.heap.size w w' := by
  rw [← h]; exact specGoodRg_any s a0 a1 a2 c0 c1 c2 w hs hl

end Go.Proofs.Ytgiekkipkgdjaaa
