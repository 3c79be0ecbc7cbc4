/-
  Clusters, the specification's side: GoodCluster. Made by mkcus3.py.
-/
import Derived.Test.YtekjpbfmiebigaaDoorCuS2
namespace Go.Proofs.YtekjpbfmiebigaaDoor
open Go.RowKit

set_option maxRecDepth 100000 in
set_option maxHeartbeats 8000000 in
theorem specGoodCu_any (s : Cu) (a0 a1 a2 : Option Addr) (c0 c1 c2 : Nat) (w : World) (hs : CuR w s a0 a1 a2) (hl : CuL s) :
    Calls Tryd.prog 35 #[cuV s a0 c0 a1 c1 a2 c2] w fun r w' => r = .returned (.bool (goodCu s)) ∧ Below w.heap.size w w' := by
  obtain ⟨u0, hu0⟩ : ∃ u0, (w.alloc (.cells #[.int .i64 s.tep, .int .i64 s.tld, .slice a0 s.tst.length c0, .slice a1 s.nodes.length c1, .slice a2 s.acked.length c2] 28)) = u0 := ⟨_, rfl⟩
  have q0 : u0.cell? ⟨w.heap.size, 0, none⟩ = some (.int .i64 s.tep) := by rw [← hu0]; simp [go_sem]
  have q1 : u0.cell? ⟨w.heap.size, 1, none⟩ = some (.int .i64 s.tld) := by rw [← hu0]; simp [go_sem]
  have q2 : u0.cell? ⟨w.heap.size, 2, none⟩ = some (.slice a0 s.tst.length c0) := by rw [← hu0]; simp [go_sem]
  have q3 : u0.cell? ⟨w.heap.size, 3, none⟩ = some (.slice a1 s.nodes.length c1) := by rw [← hu0]; simp [go_sem]
  have q4 : u0.cell? ⟨w.heap.size, 4, none⟩ = some (.slice a2 s.acked.length c2) := by rw [← hu0]; simp [go_sem]
  have bB : Below w.heap.size w u0 := by rw [← hu0]; exact alCu _ _
  have mm := hl.nodes
  unfold maxLen at mm
  cases h1 : inB (s.nodes.length : Int) 2 4 with
  | false =>
    have HE : Hid (goodCu s = false) := goodCu_head (by simp [headCu, h1])
    go_enter Tryd.func35, Tryd.ntmps35
    go_wp2_with (go_at_call 17; refine (l1In_c _ _ _ _ _ h1).mono ?_; rintro e w' ⟨rfl, hw⟩; rw [hw]; clear hw w')
    go_ret
    exact ⟨ret_bool HE.out.symm, bB⟩
  | true =>
    cases h2 : vwB s.tep s.tld s.tst s.nodes.length with
    | false =>
      have HE : Hid (goodCu s = false) := goodCu_head (by simp [headCu, h2])
      go_enter Tryd.func35, Tryd.ntmps35
      go_wp2_with (go_at_call 17; refine (l1In_c _ _ _ _ _ h1).mono ?_; rintro e w' ⟨rfl, hw⟩; rw [hw]; clear hw w')
      refine (l17View_c s.tep s.tld _ a0 c0 s.tst _ _ (hs.tst.below bB) hl.tst h2).mono ?_
      rintro r w1 ⟨rfl, hB1⟩
      have B1 := stCu bB hB1
      clear hB1
      go_wp2
      go_ret
      exact ⟨ret_bool HE.out.symm, B1⟩
    | true =>
      cases h3 : rlogB s.acked 100 with
      | false =>
        have HE : Hid (goodCu s = false) := goodCu_head (by simp [headCu, h3])
        go_enter Tryd.func35, Tryd.ntmps35
        go_wp2_with (go_at_call 17; refine (l1In_c _ _ _ _ _ h1).mono ?_; rintro e w' ⟨rfl, hw⟩; rw [hw]; clear hw w')
        refine (l17View_c s.tep s.tld _ a0 c0 s.tst _ _ (hs.tst.below bB) hl.tst h2).mono ?_
        rintro r w1 ⟨rfl, hB1⟩
        have B1 := stCu bB hB1
        replace q0 := celB hB1 q0
        replace q1 := celB hB1 q1
        replace q2 := celB hB1 q2
        replace q3 := celB hB1 q3
        replace q4 := celB hB1 q4
        clear hB1 hu0
        go_wp2_with fail
        refine (l11Log_c _ _ _ _ _ _ (hs.acked.below B1) hl.acked h3).mono ?_
        rintro r w2 ⟨rfl, hB2⟩
        have B2 := stCu B1 hB2
        clear hB2
        go_wp2
        go_ret
        exact ⟨ret_bool HE.out.symm, B2⟩
      | true =>
        have HH : Hid (headCu s = true) := by show _ = _; rw [headCu, h1, h2, h3]; rfl
        go_enter Tryd.func35, Tryd.ntmps35
        go_wp2_with (go_at_call 17; refine (l1In_c _ _ _ _ _ h1).mono ?_; rintro e w' ⟨rfl, hw⟩; rw [hw]; clear hw w')
        refine (l17View_c s.tep s.tld _ a0 c0 s.tst _ _ (hs.tst.below bB) hl.tst h2).mono ?_
        rintro r w1 ⟨rfl, hB1⟩
        have B1 := stCu bB hB1
        replace q0 := celB hB1 q0
        replace q1 := celB hB1 q1
        replace q2 := celB hB1 q2
        replace q3 := celB hB1 q3
        replace q4 := celB hB1 q4
        clear hB1 hu0
        go_wp2_with fail
        refine (l11Log_c _ _ _ _ _ _ (hs.acked.below B1) hl.acked h3).mono ?_
        rintro r w2 ⟨rfl, hB2⟩
        have B2 := stCu B1 hB2
        replace q0 := celB hB2 q0
        replace q1 := celB hB2 q1
        replace q2 := celB hB2 q2
        replace q3 := celB hB2 q3
        replace q4 := celB hB2 q4
        clear hB2 B1 h1 h2 h3
        go_wp2
        go_loopw [27] (fun i wr => ∃ k : Nat, k ≤ s.nodes.length ∧ i = .int .i64 k ∧ Hid (ndTo s k) ∧ Below w2.heap.size w2 wr) (fun i _ => s.nodes.length - (intOf i).toNat)
        case atStart => exact ⟨0, Nat.zero_le _, rfl, (fun i hi => absurd hi (Nat.not_lt_zero _)), Below.refl _ _⟩
        case round =>
          obtain ⟨k, hk, rfl, HO, hB⟩ := hrel
          replace q0 := celB hB q0
          replace q1 := celB hB q1
          replace q2 := celB hB q2
          replace q3 := celB hB q3
          replace q4 := celB hB q4
          have BR := stCu B2 hB
          by_cases hlt : k < s.nodes.length
          · obtain ⟨x, hx⟩ : ∃ x, s.nodes[k]? = some x := ⟨_, List.getElem?_eq_getElem hlt⟩
            have HK : Hid (s.nodes[k]? = some x) := hx
            clear hx
            have hki : (k : Int) < (s.nodes.length : Int) := by omega
            cases hok : okNd s k x with
            | false =>
              have HE : Hid (goodCu s = false) := goodCu_bad HK.out hok
              go_wp2_with fail
              refine (l17Node_c s _ _ _ _ _ _ k x _ _ (hs.below BR) hl HK.out hok).mono ?_
              rintro r w3 ⟨rfl, hB3⟩
              have B3 := stCu BR hB3
              clear hB3
              go_wp2
              go_ret
              exact ⟨ret_bool HE.out.symm, B3⟩
            | true =>
              have HT : Hid (ndTo s (k + 1)) := ndTo_succ HO.out HK.out hok
              go_wp2_with fail
              refine (l17Node_c s _ _ _ _ _ _ k x _ _ (hs.below BR) hl HK.out hok).mono ?_
              rintro r w3 ⟨rfl, hB3⟩
              have B3 := stCu hB hB3
              clear hB3
              go_wp2
              go_roundw
              case rel => exact ⟨k + 1, by omega, by go_num, HT.out, B3⟩
              case measure => simp [intOf]; omega
          · obtain rfl : k = s.nodes.length := by omega
            have HE : Hid (goodCu s = true) := goodCu_done HH.out HO.out
            go_wp2
            go_ret
            exact ⟨ret_bool HE.out.symm, BR⟩

theorem specGoodCu_c (s : Cu) (a0 a1 a2 : Option Addr) (c0 c1 c2 : Nat) (b : Bool) (w : World) (hs : CuR w s a0 a1 a2) (hl : CuL s) (h : goodCu s = b) :
    Calls Tryd.prog 35 #[cuV s a0 c0 a1 c1 a2 c2] w fun r w' => r = .returned (.bool b) ∧ Below w.heap.size w w' := by
  rw [← h]; exact specGoodCu_any s a0 a1 a2 c0 c1 c2 w hs hl

end Go.Proofs.YtekjpbfmiebigaaDoor
