/-
  Clusters, the program's side: GoodCluster. Made by mkcui3.py.
-/
import Derived.Test.YtekjpbfmiebigaaDoorCuIM
namespace Go.Proofs.YtekjpbfmiebigaaDoor
open Go.RowKit

/-- Its leaders are numbers of 64 bits. -/
def CuN (s : Cu) : Prop := (-9223372036854775808 ≤ s.tld ∧ s.tld < 9223372036854775808) ∧ ∀ x ∈ s.nodes, -9223372036854775808 ≤ x.leader ∧ x.leader < 9223372036854775808

set_option maxRecDepth 100000 in
set_option maxHeartbeats 4000000 in
theorem litAck_c (s : Cu) (Bv : Nat) (a0 a1 a2 : Option Addr) (c1 c2 : Nat) (z : Int) (w : World) (hs : CuR w s a0 a1 a2) (hl : CuL s) (q3 : w.cell? ⟨Bv, 3, none⟩ = some (.slice a1 s.nodes.length c1)) (q4 : w.cell? ⟨Bv, 4, none⟩ = some (.slice a2 s.acked.length c2)) (hz : 0 ≤ z ∧ z < s.nodes.length) (b : Bool) (h : ackOk s z = b) :
    Calls Tryd.prog 73 #[.int .i64 z, .pointer (some ⟨Bv, 0, none⟩)] w fun r w' => r = .returned (.bool b) ∧ Below w.heap.size w w' := by
  obtain ⟨k, rfl⟩ : ∃ k : Nat, z = k := ⟨z.toNat, by omega⟩
  have hkn : k < s.nodes.length := by omega
  have hki : (k : Int) < (s.nodes.length : Int) := by omega
  have mm := hl.nodes
  unfold maxLen at mm
  obtain ⟨n, hn⟩ : ∃ n, sameN s.acked (ndA s.nodes k).log = n := ⟨_, rfl⟩
  have HE : Hid (b = ((n : Int) == (s.acked.length : Int))) := by show _ = _; rw [← h, ackOk, Int.toNat_natCast, hn, Bool.eq_iff_iff]; simp only [decide_eq_true_eq, beq_iff_eq]; omega
  obtain ⟨kb, ob, rfl, r2, k2, r3, k3, r4, k4, e0, e1, e2, e3, e4, e5, z2, m2, z3, m3, z4, m4⟩ := hs.nodes k _ (ndA_get hkn)
  have hA := hs.acked
  obtain ⟨lg, hlg⟩ : ∃ lg, (ndA s.nodes k).log = lg := ⟨_, rfl⟩
  rw [hlg] at e3 z3 m3 hn
  have hsz : Below w.heap.size w w := Below.refl _ _
  clear hs h hlg e0 e1 e2 e4 e5 z2 z4
  go_enter Tryd.func73, Tryd.ntmps73
  go_wp2_with fail
  go_quiet ((go_at_call 74; exact Calls.quiet_of (sharedFirst_c _ _ _ _ _ _ n _ (hA.below (below_drewN (Below.refl _ _) _)) (z3.below (below_drewN (Below.refl _ _) _)) hl.acked hn)))
  go_wp2
  go_ret
  exact ⟨ret_bool (by rw [HE.out]), below_drewN (Below.refl _ _) nq⟩

abbrev litA (Bv : Nat) : Value := .func (.func 73) #[] #[.pointer (some ⟨Bv, 0, none⟩)]

set_option maxRecDepth 100000 in
set_option maxHeartbeats 4000000 in
theorem allOfAck_c (s : Cu) (Bv : Nat) (a0 a1 a2 : Option Addr) (c0 c1 c2 : Nat) (w : World) (hs : CuR w s a0 a1 a2) (hl : CuL s) (q3 : w.cell? ⟨Bv, 3, none⟩ = some (.slice a1 s.nodes.length c1)) (q4 : w.cell? ⟨Bv, 4, none⟩ = some (.slice a2 s.acked.length c2)) (hz : ∀ z ∈ s.tst, 0 ≤ z ∧ z < s.nodes.length) (b : Bool) (h : s.tst.all (ackOk s) = b) :
    Calls Tryd.prog 72 #[.slice a0 s.tst.length c0, litA Bv] w fun r w' => r = .returned (.bool b) ∧ Below w.heap.size w w' := by
  subst h
  have hlt' := hl.tst
  unfold maxLen at hlt'
  have HZ : Hid (∀ z ∈ s.tst, 0 ≤ z ∧ z < s.nodes.length) := hz
  clear hz
  go_enter Tryd.func72, Tryd.ntmps72
  go_wp2
  go_loopw [9] (fun i wr => ∃ k : Nat, k ≤ s.tst.length ∧ i = .int .i64 k ∧ Hid (allTo (ackOk s) s.tst k) ∧ Below w.heap.size w wr) (fun i _ => s.tst.length - (intOf i).toNat)
  case atStart => exact ⟨0, Nat.zero_le _, rfl, allTo_zero _ _, Below.refl _ _⟩
  case round =>
    obtain ⟨k, hk, rfl, HO, hB⟩ := hrel
    have hs1 := hs.below hB
    have d3 := celB hB q3
    have d4 := celB hB q4
    by_cases hlt : k < s.tst.length
    · obtain ⟨x, hx⟩ : ∃ x, s.tst[k]? = some x := ⟨_, List.getElem?_eq_getElem hlt⟩
      obtain ⟨b1, off, rfl, e1⟩ := hs1.tst k x hx
      have HK : Hid (s.tst[k]? = some x) := hx
      have hzx := HZ.out x (List.mem_of_getElem? hx)
      have hki : (k : Int) < (s.tst.length : Int) := by omega
      clear hx
      cases g : ackOk s x with
      | false =>
        have HE : Hid (s.tst.all (ackOk s) = false) := all_bad HK.out g
        go_wp2_with fail
        refine (litAck_c s Bv _ _ _ _ _ x _ hs1 hl d3 d4 hzx _ g).mono ?_
        rintro r w1 ⟨rfl, hB1⟩
        have BB := stCu hB hB1
        go_wp2
        go_ret
        exact ⟨ret_bool HE.out.symm, BB⟩
      | true =>
        have HN : Hid (allTo (ackOk s) s.tst (k + 1)) := allTo_succ HO.out HK.out g
        go_wp2_with fail
        refine (litAck_c s Bv _ _ _ _ _ x _ hs1 hl d3 d4 hzx _ g).mono ?_
        rintro r w1 ⟨rfl, hB1⟩
        have BB := stCu hB hB1
        go_wp2
        go_roundw
        case rel => exact ⟨k + 1, by omega, by go_num, HN.out, BB⟩
        case measure => simp [intOf]; omega
    · obtain rfl : k = s.tst.length := by omega
      have HE : Hid (s.tst.all (ackOk s) = true) := all_done HO.out
      go_wp2
      go_ret
      exact ⟨ret_bool HE.out.symm, hB⟩

set_option maxRecDepth 100000 in
set_option maxHeartbeats 8000000 in
theorem implGoodCu_c (s : Cu) (a0 a1 a2 : Option Addr) (c0 c1 c2 : Nat) (b : Bool) (w : World) (hs : CuR w s a0 a1 a2) (hl : CuL s) (hr : CuN s) (h : goodCu s = b) :
    Calls Tryd.prog 59 #[cuV s a0 c0 a1 c1 a2 c2] w fun r w' => r = .returned (.bool b) ∧ Below w.heap.size w w' := by
  obtain ⟨u0, hu0⟩ : ∃ u0, (w.alloc (.cells #[.int .i64 s.tep, .int .i64 s.tld, .slice a0 s.tst.length c0, .slice a1 s.nodes.length c1, .slice a2 s.acked.length c2] 28)) = u0 := ⟨_, rfl⟩
  have q0 : u0.cell? ⟨w.heap.size, 0, none⟩ = some (.int .i64 s.tep) := by rw [← hu0]; simp [go_sem]
  have q1 : u0.cell? ⟨w.heap.size, 1, none⟩ = some (.int .i64 s.tld) := by rw [← hu0]; simp [go_sem]
  have q2 : u0.cell? ⟨w.heap.size, 2, none⟩ = some (.slice a0 s.tst.length c0) := by rw [← hu0]; simp [go_sem]
  have q3 : u0.cell? ⟨w.heap.size, 3, none⟩ = some (.slice a1 s.nodes.length c1) := by rw [← hu0]; simp [go_sem]
  have q4 : u0.cell? ⟨w.heap.size, 4, none⟩ = some (.slice a2 s.acked.length c2) := by rw [← hu0]; simp [go_sem]
  have bB : Below w.heap.size w u0 := by rw [← hu0]; exact alCu _ _
  have mm := hl.nodes
  unfold maxLen at mm
  have mt := hl.tst
  unfold maxLen at mt
  cases h1 : inB (s.nodes.length : Int) 2 4 with
  | false =>
    have HE : Hid (b = false) := by show _ = _; rw [← h]; exact goodI_n h1
    go_enter Tryd.func59, Tryd.ntmps59
    go_wp2_with (go_at_call 19; refine (goodNodes_c _ _ _ h1).mono ?_; rintro e w' ⟨rfl, hw⟩; rw [hw]; clear hw w')
    go_ret
    exact ⟨ret_bool HE.out.symm, bB⟩
  | true =>
    have hn : (s.nodes.length : Int) ≤ 7 := by have := inB_t.1 h1; omega
    cases h2 : vwB s.tep s.tld s.tst s.nodes.length with
    | false =>
      have HE : Hid (b = false) := by show _ = _; rw [← h]; exact goodI_v h2
      go_enter Tryd.func59, Tryd.ntmps59
      go_wp2_with (go_at_call 19; refine (goodNodes_c _ _ _ h1).mono ?_; rintro e w' ⟨rfl, hw⟩; rw [hw]; clear hw w')
      refine (goodView_c s.tep s.tld _ a0 c0 s.tst _ _ (hs.tst.below bB) hl.tst hn hr.1.1 hr.1.2 h2).mono ?_
      rintro r w1 ⟨rfl, hB1⟩
      have B1 := stCu bB hB1
      clear hB1
      go_wp2
      go_ret
      exact ⟨ret_bool HE.out.symm, B1⟩
    | true =>
      have H1 : Hid (inB (s.nodes.length : Int) 2 4 = true) := h1
      have H2 : Hid (vwB s.tep s.tld s.tst s.nodes.length = true) := h2
      go_enter Tryd.func59, Tryd.ntmps59
      go_wp2_with (go_at_call 19; refine (goodNodes_c _ _ _ h1).mono ?_; rintro e w' ⟨rfl, hw⟩; rw [hw]; clear hw w')
      refine (goodView_c s.tep s.tld _ a0 c0 s.tst _ _ (hs.tst.below bB) hl.tst hn hr.1.1 hr.1.2 h2).mono ?_
      rintro r w1 ⟨rfl, hB1⟩
      have B1 := stCu bB hB1
      replace q0 := celB hB1 q0
      replace q1 := celB hB1 q1
      replace q2 := celB hB1 q2
      replace q3 := celB hB1 q3
      replace q4 := celB hB1 q4
      clear hB1 hu0 h1 h2
      go_wp2
      go_loopw [21] (fun i wr => ∃ k : Nat, k ≤ s.nodes.length ∧ i = .int .i64 k ∧ Hid (ndITo s k) ∧ Below w1.heap.size w1 wr) (fun i _ => s.nodes.length - (intOf i).toNat)
      case atStart => exact ⟨0, Nat.zero_le _, rfl, (fun i hi => absurd hi (Nat.not_lt_zero _)), Below.refl _ _⟩
      case round =>
        obtain ⟨k, hk, rfl, HO, hB⟩ := hrel
        replace q0 := celB hB q0
        replace q1 := celB hB q1
        replace q2 := celB hB q2
        replace q3 := celB hB q3
        replace q4 := celB hB q4
        have BR := stCu B1 hB
        by_cases hlt : k < s.nodes.length
        · obtain ⟨x, hx⟩ : ∃ x, s.nodes[k]? = some x := ⟨_, List.getElem?_eq_getElem hlt⟩
          have HK : Hid (s.nodes[k]? = some x) := hx
          obtain ⟨hr1, hr2⟩ := hr.2 x (List.mem_of_getElem? hx)
          clear hx
          have hki : (k : Int) < (s.nodes.length : Int) := by omega
          cases hok : okNI s k x with
          | false =>
            have HE : Hid (b = false) := by show _ = _; rw [← h]; exact goodI_k HK.out hok
            go_wp2_with fail
            refine (goodNode_c s _ _ _ _ _ _ k x _ _ (hs.below BR) hl hn HK.out hr1 hr2 hok).mono ?_
            rintro r w3 ⟨rfl, hB3⟩
            have B3 := stCu BR hB3
            clear hB3
            go_wp2
            go_ret
            exact ⟨ret_bool HE.out.symm, B3⟩
          | true =>
            have HT : Hid (ndITo s (k + 1)) := ndITo_succ HO.out HK.out hok
            go_wp2_with fail
            refine (goodNode_c s _ _ _ _ _ _ k x _ _ (hs.below BR) hl hn HK.out hr1 hr2 hok).mono ?_
            rintro r w3 ⟨rfl, hB3⟩
            have B3 := stCu hB hB3
            clear hB3
            go_wp2
            go_roundw
            case rel => exact ⟨k + 1, by omega, by go_num, HT.out, B3⟩
            case measure => simp [intOf]; omega
        · obtain rfl : k = s.nodes.length := by omega
          obtain ⟨b4, h4⟩ : ∃ b4, s.tst.all (ackOk s) = b4 := ⟨_, rfl⟩
          have HE : Hid (b = b4) := by show _ = _; rw [← h, ← h4]; exact goodI_all H1.out H2.out HO.out
          go_wp2_with fail
          refine (allOfAck_c s w.heap.size _ _ _ _ _ _ _ (hs.below BR) hl q3 q4 (fun z hz => view_in H2.out hz) _ h4).mono ?_
          rintro r w3 ⟨rfl, hB3⟩
          have B3 := stCu BR hB3
          clear hB3 h4
          go_wp2
          go_ret
          exact ⟨ret_bool HE.out.symm, B3⟩

end Go.Proofs.YtekjpbfmiebigaaDoor
