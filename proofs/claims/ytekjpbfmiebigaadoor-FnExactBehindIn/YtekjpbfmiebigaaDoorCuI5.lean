/-
  Clusters, the program's side: what a node does not know, who is behind. Made by mkcui5.py.
-/
import Derived.Test.YtekjpbfmiebigaaDoorCuEr
import Derived.Test.YtekjpbfmiebigaaDoorCuI4
import Derived.Test.YtekjpbfmiebigaaDoorCuS5
import Derived.Deep.CutRange
namespace Go.Proofs.YtekjpbfmiebigaaDoor
open Go.RowKit

theorem sub_of_rise : ∀ {a b : List Int}, a.Pairwise (· < ·) → b.Pairwise (· < ·) → (∀ x ∈ b, x ∈ a) → b.Sublist a
  | [], [], _, _, _ => List.Sublist.slnil
  | [], x :: b, _, _, h => absurd (h x (List.mem_cons_self ..)) (by simp)
  | y :: a, [], _, _, _ => List.nil_sublist _
  | y :: a, x :: b, ha, hb, h => by
    rw [List.pairwise_cons] at ha
    have hb' := List.pairwise_cons.1 hb
    rcases List.mem_cons.1 (h x (List.mem_cons_self ..)) with rfl | hx
    · refine List.Sublist.cons_cons _ (sub_of_rise ha.2 hb'.2 fun z hz => ?_)
      rcases List.mem_cons.1 (h z (List.mem_cons_of_mem _ hz)) with rfl | hz2
      · exact absurd (hb'.1 _ hz) (by omega)
      · exact hz2
    · refine List.Sublist.cons _ (sub_of_rise ha.2 hb fun z hz => ?_)
      rcases List.mem_cons.1 (h z hz) with rfl | hz2
      · rcases List.mem_cons.1 hz with e | hz3
        · exact absurd (ha.1 _ hx) (by omega)
        · have := hb'.1 _ hz3
          have := ha.1 _ hx
          omega
      · exact hz2

theorem pair_of_rise {l : List Int} {many : Int} (h : riseB l many = true) : l.Pairwise (· < ·) := by
  have h1 := riseB_t.1 h
  have h2 : ∀ j, j < l.length → ∀ i, i < j → zA l i < zA l j := by
    intro j
    induction j with
    | zero => intro _ i hi; omega
    | succ j ih =>
      intro hj i hi
      have h3 : zA l j < zA l (j + 1) := by
        have := (h1 (j + 1) hj).2.2 (by omega)
        simpa using this
      rcases Nat.lt_or_eq_of_le (Nat.le_of_lt_succ hi) with h4 | rfl
      · have := ih (by omega) i h4; omega
      · exact h3
  rw [List.pairwise_iff_getElem]
  intro i j hi hj hij
  have := h2 j hj i hij
  simpa [zA, List.getD_eq_getElem?_getD, hi, hj] using this

theorem sameB_rise {a b : List Int} {m1 m2 : Int} (h : riseB a m1 = true) (h' : riseB b m2 = true) : sameB a b = decide (a = b) := by
  rw [Bool.eq_iff_iff, decide_eq_true_eq]
  constructor
  · intro h1
    simp only [sameB, Bool.and_eq_true, decide_eq_true_eq] at h1
    have h2 : ∀ x ∈ b, x ∈ a := fun x hx => List.contains_iff_mem.1 (List.all_eq_true.1 h1.1 x hx)
    exact ((sub_of_rise (pair_of_rise h) (pair_of_rise h') h2).eq_of_length h1.2.symm).symm
  · intro h1
    rw [← h1]
    simp only [sameB, hasL, Bool.and_eq_true, decide_eq_true_eq, and_true]
    exact List.all_eq_true.2 fun x hx => List.contains_iff_mem.2 hx

/-- In a good cluster who is behind is so by the epoch or by who is in step. -/
theorem bhd_is {s : Cu} {k : Nat} {x : Nd} (hg : goodCu s = true) (hk : s.nodes[k]? = some x) : bhd s x = !(decide (x.epoch = s.tep) && decide (x.steps = s.tst)) := by
  simp only [goodCu, headCu, Bool.and_eq_true, decide_eq_true_eq] at hg
  have hv := hg.1.2.1
  have hn := hg.2 k (List.getElem?_eq_some_iff.1 hk).1
  rw [ndA_some hk] at hn
  simp only [okNd, Bool.and_eq_true] at hn
  have h1 := hn.1
  have h3 := hn.2.2.1
  simp only [vwB, Bool.and_eq_true] at h1 hv
  rw [bhd, sameB_rise h1.2.1 hv.2.1]
  congr 1
  by_cases e : x.epoch = s.tep
  · have hl : (x.leader == s.tld) = true := by simpa [e] using h3
    rw [hl]; simp [e]
  · simp [e]

set_option maxRecDepth 100000 in
set_option maxHeartbeats 4000000 in
theorem viewFault_nil (s : Cu) (a0 a1 a2 : Option Addr) (c0 c1 c2 : Nat) (k : Nat) (x : Nd) (w : World) (hs : CuR w s a0 a1 a2) (hl : CuL s) (hk : s.nodes[k]? = some x) (he : (decide (x.epoch = s.tep) && decide (x.steps = s.tst)) = true) :
    Calls Tryd.prog 43 #[cuV s a0 c0 a1 c1 a2 c2, .int .i64 (k : Int)] w fun r w' => r = .returned .nilIface ∧ Below w.heap.size w w' := by
  obtain ⟨u0, hu0⟩ : ∃ u0, (w.alloc (.cells #[.int .i64 s.tep, .int .i64 s.tld, .slice a0 s.tst.length c0, .slice a1 s.nodes.length c1, .slice a2 s.acked.length c2] 28)) = u0 := ⟨_, rfl⟩
  have q0 : u0.cell? ⟨w.heap.size, 0, none⟩ = some (.int .i64 s.tep) := by rw [← hu0]; simp [go_sem]
  have q1 : u0.cell? ⟨w.heap.size, 1, none⟩ = some (.int .i64 s.tld) := by rw [← hu0]; simp [go_sem]
  have q2 : u0.cell? ⟨w.heap.size, 2, none⟩ = some (.slice a0 s.tst.length c0) := by rw [← hu0]; simp [go_sem]
  have q3 : u0.cell? ⟨w.heap.size, 3, none⟩ = some (.slice a1 s.nodes.length c1) := by rw [← hu0]; simp [go_sem]
  have q4 : u0.cell? ⟨w.heap.size, 4, none⟩ = some (.slice a2 s.acked.length c2) := by rw [← hu0]; simp [go_sem]
  have bB : Below w.heap.size w u0 := by rw [← hu0]; exact alCu _ _
  have hkn := (List.getElem?_eq_some_iff.1 hk).1
  have hki : (k : Int) < (s.nodes.length : Int) := by omega
  have mm := hl.nodes
  unfold maxLen at mm
  obtain ⟨kb, ob, ea, r2, k2, r3, k3, r4, k4, e0, e1, e2, e3, e4, e5, z2, m2, z3, m3, z4, m4⟩ := (hs.below bB).nodes k x hk
  subst ea
  clear e3 e4 e5 z3 z4
  have HI := (hs.below bB).tst
  obtain ⟨v0, hv0⟩ : ∃ v, (u0.alloc (.cells #[.int .i64 x.epoch, .int .i64 x.leader, .slice r2 x.steps.length k2] 24)) = v := ⟨_, rfl⟩
  have y0 : v0.cell? ⟨u0.heap.size, 0, none⟩ = some (.int .i64 x.epoch) := by rw [← hv0]; simp [go_sem]
  have y1 : v0.cell? ⟨u0.heap.size, 1, none⟩ = some (.int .i64 x.leader) := by rw [← hv0]; simp [go_sem]
  have y2 : v0.cell? ⟨u0.heap.size, 2, none⟩ = some (.slice r2 x.steps.length k2) := by rw [← hv0]; simp [go_sem]
  have bV : Below u0.heap.size u0 v0 := by rw [← hv0]; exact alCu _ _
  have p0 := celB bV q0
  have p1 := celB bV q1
  have p2 := celB bV q2
  have p3 := celB bV q3
  have p4 := celB bV q4
  have BV := stCu bB bV
  have z2v := z2.below bV
  have HIv := HI.below bV
  obtain ⟨h1, h2⟩ : x.epoch = s.tep ∧ decide (x.steps = s.tst) = true := by simp only [Bool.and_eq_true, decide_eq_true_eq] at he ⊢; exact he
  have d1 : (x.epoch == s.tep) = true := by simp [h1]
  clear h1 he
  go_enter Tryd.func43, Tryd.ntmps43
  go_wp2_with fail
  try rw [hu0]
  try rw [hv0]
  clear hu0 hv0
  refine (equalZ_c _ _ _ _ x.steps s.tst true _ z2v HIv m2 h2).mono ?_
  rintro r w1 ⟨rfl, hB1⟩
  replace p0 := celB hB1 p0
  replace p1 := celB hB1 p1
  replace p2 := celB hB1 p2
  replace p3 := celB hB1 p3
  replace p4 := celB hB1 p4
  replace y0 := celB hB1 y0
  replace y1 := celB hB1 y1
  replace y2 := celB hB1 y2
  have BB := stCu BV hB1
  clear hB1
  go_wp2
  go_ret
  exact ⟨rfl, BB⟩

set_option maxRecDepth 100000 in
set_option maxHeartbeats 4000000 in
theorem viewFault_late (s : Cu) (a0 a1 a2 : Option Addr) (c0 c1 c2 : Nat) (k : Nat) (x : Nd) (w : World) (hs : CuR w s a0 a1 a2) (hl : CuL s) (hk : s.nodes[k]? = some x) (he : (decide (x.epoch = s.tep) && decide (x.steps = s.tst)) = false) :
    Calls Tryd.prog 43 #[cuV s a0 c0 a1 c1 a2 c2, .int .i64 (k : Int)] w fun r w' => (∃ z, r = .returned (.iface 97 (.agg #[.int .i64 z]))) ∧ Below w.heap.size w w' := by
  obtain ⟨u0, hu0⟩ : ∃ u0, (w.alloc (.cells #[.int .i64 s.tep, .int .i64 s.tld, .slice a0 s.tst.length c0, .slice a1 s.nodes.length c1, .slice a2 s.acked.length c2] 28)) = u0 := ⟨_, rfl⟩
  have q0 : u0.cell? ⟨w.heap.size, 0, none⟩ = some (.int .i64 s.tep) := by rw [← hu0]; simp [go_sem]
  have q1 : u0.cell? ⟨w.heap.size, 1, none⟩ = some (.int .i64 s.tld) := by rw [← hu0]; simp [go_sem]
  have q2 : u0.cell? ⟨w.heap.size, 2, none⟩ = some (.slice a0 s.tst.length c0) := by rw [← hu0]; simp [go_sem]
  have q3 : u0.cell? ⟨w.heap.size, 3, none⟩ = some (.slice a1 s.nodes.length c1) := by rw [← hu0]; simp [go_sem]
  have q4 : u0.cell? ⟨w.heap.size, 4, none⟩ = some (.slice a2 s.acked.length c2) := by rw [← hu0]; simp [go_sem]
  have bB : Below w.heap.size w u0 := by rw [← hu0]; exact alCu _ _
  have hkn := (List.getElem?_eq_some_iff.1 hk).1
  have hki : (k : Int) < (s.nodes.length : Int) := by omega
  have mm := hl.nodes
  unfold maxLen at mm
  obtain ⟨kb, ob, ea, r2, k2, r3, k3, r4, k4, e0, e1, e2, e3, e4, e5, z2, m2, z3, m3, z4, m4⟩ := (hs.below bB).nodes k x hk
  subst ea
  clear e3 e4 e5 z3 z4
  have HI := (hs.below bB).tst
  obtain ⟨v0, hv0⟩ : ∃ v, (u0.alloc (.cells #[.int .i64 x.epoch, .int .i64 x.leader, .slice r2 x.steps.length k2] 24)) = v := ⟨_, rfl⟩
  have y0 : v0.cell? ⟨u0.heap.size, 0, none⟩ = some (.int .i64 x.epoch) := by rw [← hv0]; simp [go_sem]
  have y1 : v0.cell? ⟨u0.heap.size, 1, none⟩ = some (.int .i64 x.leader) := by rw [← hv0]; simp [go_sem]
  have y2 : v0.cell? ⟨u0.heap.size, 2, none⟩ = some (.slice r2 x.steps.length k2) := by rw [← hv0]; simp [go_sem]
  have bV : Below u0.heap.size u0 v0 := by rw [← hv0]; exact alCu _ _
  have p0 := celB bV q0
  have p1 := celB bV q1
  have p2 := celB bV q2
  have p3 := celB bV q3
  have p4 := celB bV q4
  have BV := stCu bB bV
  have z2v := z2.below bV
  have HIv := HI.below bV
  by_cases h1 : x.epoch = s.tep
  · have d1 : (x.epoch == s.tep) = true := by simp [h1]
    have h2 : decide (x.steps = s.tst) = false := by cases g : decide (x.steps = s.tst) with | false => rfl | true => rw [decide_eq_true h1, g] at he; cases he
    clear h1 he
    go_enter Tryd.func43, Tryd.ntmps43
    go_wp2_with fail
    try rw [hu0]
    try rw [hv0]
    clear hu0 hv0
    refine (equalZ_c _ _ _ _ x.steps s.tst false _ z2v HIv m2 h2).mono ?_
    rintro r w1 ⟨rfl, hB1⟩
    replace p0 := celB hB1 p0
    replace p1 := celB hB1 p1
    replace p2 := celB hB1 p2
    replace p3 := celB hB1 p3
    replace p4 := celB hB1 p4
    replace y0 := celB hB1 y0
    replace y1 := celB hB1 y1
    replace y2 := celB hB1 y2
    have BB := stCu BV hB1
    clear hB1
    go_wp2
    go_ret
    exact ⟨⟨_, rfl⟩, BB⟩
  · have d1 : (x.epoch == s.tep) = false := by simp [h1]
    clear h1 he
    go_enter Tryd.func43, Tryd.ntmps43
    go_wp2
    go_ret
    first | exact ⟨⟨_, rfl⟩, BV⟩ | exact ⟨⟨_, rfl⟩, by rw [← hv0, ← hu0] at BV; exact BV⟩

set_option maxRecDepth 100000 in
set_option maxHeartbeats 4000000 in
theorem litBehind_c (s : Cu) (Bv : Nat) (a0 a1 a2 : Option Addr) (c0 c1 c2 : Nat) (k : Nat) (x : Nd) (pe : Addr) (w : World) (hs : CuR w s a0 a1 a2) (hl : CuL s) (q0 : w.cell? ⟨Bv, 0, none⟩ = some (.int .i64 s.tep)) (q1 : w.cell? ⟨Bv, 1, none⟩ = some (.int .i64 s.tld)) (q2 : w.cell? ⟨Bv, 2, none⟩ = some (.slice a0 s.tst.length c0)) (q3 : w.cell? ⟨Bv, 3, none⟩ = some (.slice a1 s.nodes.length c1)) (q4 : w.cell? ⟨Bv, 4, none⟩ = some (.slice a2 s.acked.length c2)) (qg : w.cell? ⟨0, 0, none⟩ = some (.iface 126 (.pointer (some pe)))) (hg : goodCu s = true) (hk : s.nodes[k]? = some x) (b : Bool) (h : bhd s x = b) :
    Calls Tryd.prog 41 #[.int .i64 (k : Int), .pointer (some ⟨Bv, 0, none⟩)] w fun r w' => r = .returned (.bool b) ∧ Below w.heap.size w w' := by
  rw [bhd_is hg hk] at h
  clear hg
  cases b with
  | false =>
    have he : (decide (x.epoch = s.tep) && decide (x.steps = s.tst)) = true := by simpa only [Bool.not_eq_false'] using h
    clear h
    go_enter Tryd.func41, Tryd.ntmps41
    go_upto_region 1 with fail
    have BD : Below w.heap.size w w.drew := (Below.refl _ _).drew
    have kk : w.drew.cell? ⟨Bv, 0, none⟩ = some (.int .i64 s.tep) ∧ w.drew.cell? ⟨Bv, 1, none⟩ = some (.int .i64 s.tld) ∧ w.drew.cell? ⟨Bv, 2, none⟩ = some (.slice a0 s.tst.length c0) ∧ w.drew.cell? ⟨Bv, 3, none⟩ = some (.slice a1 s.nodes.length c1) ∧ w.drew.cell? ⟨Bv, 4, none⟩ = some (.slice a2 s.acked.length c2) ∧ w.drew.cell? ⟨0, 0, none⟩ = some (.iface 126 (.pointer (some pe))) := ⟨celB BD q0, celB BD q1, celB BD q2, celB BD q3, celB BD q4, celB BD qg⟩
    refine wp_region_noPanic ?_
    refine wp_region_held_drew (S := fun w' => w'.cell? ⟨Bv, 0, none⟩ = some (.int .i64 s.tep) ∧ w'.cell? ⟨Bv, 1, none⟩ = some (.int .i64 s.tld) ∧ w'.cell? ⟨Bv, 2, none⟩ = some (.slice a0 s.tst.length c0) ∧ w'.cell? ⟨Bv, 3, none⟩ = some (.slice a1 s.nodes.length c1) ∧ w'.cell? ⟨Bv, 4, none⟩ = some (.slice a2 s.acked.length c2) ∧ w'.cell? ⟨0, 0, none⟩ = some (.iface 126 (.pointer (some pe)))) (by kernel_rfl) kk (fun hH => ?_)
    refine wpAnyH_take (i := 0) (oi := ⟨_, _, _, _, _, _⟩) (v := ?vn0) rfl (by kernel_rfl) (by kernel_rfl) (by kernel_rfl) (fun _ _ _ h => h) (Or.inl ⟨by rfl, ?yn0⟩) (by assumption) ?rn0
    case yn0 => intro w hSw; (try dsimp only at hSw); go_simp; try with_reducible rfl
    try simp only [Act.put, List.setIfInBounds_toArray, List.set_cons_zero, List.set_cons_succ]
    refine wpAnyH_take (i := 1) (oi := ⟨_, _, _, _, _, _⟩) (v := ?vn1) rfl (by kernel_rfl) (by kernel_rfl) (by kernel_rfl) (fun _ _ _ h => h) (Or.inl ⟨by rfl, ?yn1⟩) (by assumption) ?rn1
    case yn1 => intro w hSw; (try dsimp only at hSw); go_simp; try with_reducible rfl
    try simp only [Act.put, List.setIfInBounds_toArray, List.set_cons_zero, List.set_cons_succ]
    refine wpAnyH_take (i := 3) (oi := ⟨_, _, _, _, _, _⟩) (v := ?vn3) rfl (by kernel_rfl) (by kernel_rfl) (by kernel_rfl) (fun _ _ _ h => h) (Or.inl ⟨by rfl, ?yn3⟩) (by assumption) ?rn3
    case yn3 => intro w hSw; (try dsimp only at hSw); go_simp; try with_reducible rfl
    try simp only [Act.put, List.setIfInBounds_toArray, List.set_cons_zero, List.set_cons_succ]
    refine wpAnyH_ready (rs := [2]) (by kernel_rfl) (by simp) ?_
    refine AllReadyH.cons (o := ⟨_, _, _, _, _, _⟩) rfl (fun KK hK => ?_) AllReadyH.nil
    go_simp
    refine (viewFault_nil s _ _ _ _ _ _ k x _ (hs.below BD) hl hk he).mono ?_
    rintro r W1 ⟨rfl, hBk⟩
    have kk1 : W1.cell? ⟨Bv, 0, none⟩ = some (.int .i64 s.tep) ∧ W1.cell? ⟨Bv, 1, none⟩ = some (.int .i64 s.tld) ∧ W1.cell? ⟨Bv, 2, none⟩ = some (.slice a0 s.tst.length c0) ∧ W1.cell? ⟨Bv, 3, none⟩ = some (.slice a1 s.nodes.length c1) ∧ W1.cell? ⟨Bv, 4, none⟩ = some (.slice a2 s.acked.length c2) ∧ W1.cell? ⟨0, 0, none⟩ = some (.iface 126 (.pointer (some pe))) := by obtain ⟨t0, t1, t2, t3, t4, t5⟩ := kk; exact ⟨celB hBk t0, celB hBk t1, celB hBk t2, celB hBk t3, celB hBk t4, celB hBk t5⟩
    have BE := stCu BD hBk
    clear hBk
    go_wp2_with fail
    refine hK.out _ _ kk1 (fun hH2 => ?_)
    clear hK KK hH
    try simp only [Act.put, List.setIfInBounds_toArray, List.set_cons_zero, List.set_cons_succ]
    refine wpAnyH_ready (rs := [4]) (by kernel_rfl) (by simp) ?_
    refine AllReadyH.cons (o := ⟨_, _, _, _, _, _⟩) rfl (fun KK hK => ?_) AllReadyH.nil
    go_simp
    refine (is_nil pe _).mono ?_
    rintro r W2 ⟨rfl, hw⟩
    rw [hw]
    clear hw
    go_wp2_with fail
    refine hK.out _ _ kk1 (fun hH4 => ?_)
    clear hK KK hH2
    try simp only [Act.put, List.setIfInBounds_toArray, List.set_cons_zero, List.set_cons_succ]
    refine wpAnyH_take (i := 5) (oi := ⟨_, _, _, _, _, _⟩) (v := ?vn5) rfl (by kernel_rfl) (by kernel_rfl) (by kernel_rfl) (fun _ _ _ h => h) (Or.inl ⟨by rfl, ?yn5⟩) (by assumption) ?rn5
    case yn5 => intro w hSw; (try dsimp only at hSw); go_simp; try with_reducible rfl
    try simp only [Act.put, List.setIfInBounds_toArray, List.set_cons_zero, List.set_cons_succ]
    refine wpAnyH_done (by kernel_rfl) (NoPanic.normal ?_) _
    go_wp2
    go_ret
    exact ⟨rfl, BE⟩
  | true =>
    have he : (decide (x.epoch = s.tep) && decide (x.steps = s.tst)) = false := by simpa only [Bool.not_eq_true'] using h
    clear h
    go_enter Tryd.func41, Tryd.ntmps41
    go_upto_region 1 with fail
    have BD : Below w.heap.size w w.drew := (Below.refl _ _).drew
    have kk : w.drew.cell? ⟨Bv, 0, none⟩ = some (.int .i64 s.tep) ∧ w.drew.cell? ⟨Bv, 1, none⟩ = some (.int .i64 s.tld) ∧ w.drew.cell? ⟨Bv, 2, none⟩ = some (.slice a0 s.tst.length c0) ∧ w.drew.cell? ⟨Bv, 3, none⟩ = some (.slice a1 s.nodes.length c1) ∧ w.drew.cell? ⟨Bv, 4, none⟩ = some (.slice a2 s.acked.length c2) ∧ w.drew.cell? ⟨0, 0, none⟩ = some (.iface 126 (.pointer (some pe))) := ⟨celB BD q0, celB BD q1, celB BD q2, celB BD q3, celB BD q4, celB BD qg⟩
    refine wp_region_noPanic ?_
    refine wp_region_held_drew (S := fun w' => w'.cell? ⟨Bv, 0, none⟩ = some (.int .i64 s.tep) ∧ w'.cell? ⟨Bv, 1, none⟩ = some (.int .i64 s.tld) ∧ w'.cell? ⟨Bv, 2, none⟩ = some (.slice a0 s.tst.length c0) ∧ w'.cell? ⟨Bv, 3, none⟩ = some (.slice a1 s.nodes.length c1) ∧ w'.cell? ⟨Bv, 4, none⟩ = some (.slice a2 s.acked.length c2) ∧ w'.cell? ⟨0, 0, none⟩ = some (.iface 126 (.pointer (some pe)))) (by kernel_rfl) kk (fun hH => ?_)
    refine wpAnyH_take (i := 0) (oi := ⟨_, _, _, _, _, _⟩) (v := ?vl0) rfl (by kernel_rfl) (by kernel_rfl) (by kernel_rfl) (fun _ _ _ h => h) (Or.inl ⟨by rfl, ?yl0⟩) (by assumption) ?rl0
    case yl0 => intro w hSw; (try dsimp only at hSw); go_simp; try with_reducible rfl
    try simp only [Act.put, List.setIfInBounds_toArray, List.set_cons_zero, List.set_cons_succ]
    refine wpAnyH_take (i := 1) (oi := ⟨_, _, _, _, _, _⟩) (v := ?vl1) rfl (by kernel_rfl) (by kernel_rfl) (by kernel_rfl) (fun _ _ _ h => h) (Or.inl ⟨by rfl, ?yl1⟩) (by assumption) ?rl1
    case yl1 => intro w hSw; (try dsimp only at hSw); go_simp; try with_reducible rfl
    try simp only [Act.put, List.setIfInBounds_toArray, List.set_cons_zero, List.set_cons_succ]
    refine wpAnyH_take (i := 3) (oi := ⟨_, _, _, _, _, _⟩) (v := ?vl3) rfl (by kernel_rfl) (by kernel_rfl) (by kernel_rfl) (fun _ _ _ h => h) (Or.inl ⟨by rfl, ?yl3⟩) (by assumption) ?rl3
    case yl3 => intro w hSw; (try dsimp only at hSw); go_simp; try with_reducible rfl
    try simp only [Act.put, List.setIfInBounds_toArray, List.set_cons_zero, List.set_cons_succ]
    refine wpAnyH_ready (rs := [2]) (by kernel_rfl) (by simp) ?_
    refine AllReadyH.cons (o := ⟨_, _, _, _, _, _⟩) rfl (fun KK hK => ?_) AllReadyH.nil
    go_simp
    refine (viewFault_late s _ _ _ _ _ _ k x _ (hs.below BD) hl hk he).mono ?_
    rintro r W1 ⟨⟨zz, rfl⟩, hBk⟩
    have kk1 : W1.cell? ⟨Bv, 0, none⟩ = some (.int .i64 s.tep) ∧ W1.cell? ⟨Bv, 1, none⟩ = some (.int .i64 s.tld) ∧ W1.cell? ⟨Bv, 2, none⟩ = some (.slice a0 s.tst.length c0) ∧ W1.cell? ⟨Bv, 3, none⟩ = some (.slice a1 s.nodes.length c1) ∧ W1.cell? ⟨Bv, 4, none⟩ = some (.slice a2 s.acked.length c2) ∧ W1.cell? ⟨0, 0, none⟩ = some (.iface 126 (.pointer (some pe))) := by obtain ⟨t0, t1, t2, t3, t4, t5⟩ := kk; exact ⟨celB hBk t0, celB hBk t1, celB hBk t2, celB hBk t3, celB hBk t4, celB hBk t5⟩
    have BE := stCu BD hBk
    clear hBk
    go_wp2_with fail
    refine hK.out _ _ kk1 (fun hH2 => ?_)
    clear hK KK hH
    try simp only [Act.put, List.setIfInBounds_toArray, List.set_cons_zero, List.set_cons_succ]
    refine wpAnyH_ready (rs := [4]) (by kernel_rfl) (by simp) ?_
    refine AllReadyH.cons (o := ⟨_, _, _, _, _, _⟩) rfl (fun KK hK => ?_) AllReadyH.nil
    go_simp
    refine (is_late zz pe _ kk1.2.2.2.2.2).mono ?_
    rintro r W2 ⟨rfl, hBk⟩
    have kk2 : W2.cell? ⟨Bv, 0, none⟩ = some (.int .i64 s.tep) ∧ W2.cell? ⟨Bv, 1, none⟩ = some (.int .i64 s.tld) ∧ W2.cell? ⟨Bv, 2, none⟩ = some (.slice a0 s.tst.length c0) ∧ W2.cell? ⟨Bv, 3, none⟩ = some (.slice a1 s.nodes.length c1) ∧ W2.cell? ⟨Bv, 4, none⟩ = some (.slice a2 s.acked.length c2) ∧ W2.cell? ⟨0, 0, none⟩ = some (.iface 126 (.pointer (some pe))) := by obtain ⟨t0, t1, t2, t3, t4, t5⟩ := kk1; exact ⟨celB hBk t0, celB hBk t1, celB hBk t2, celB hBk t3, celB hBk t4, celB hBk t5⟩
    have BF := stCu BE hBk
    clear hBk
    go_wp2_with fail
    refine hK.out _ _ kk2 (fun hH4 => ?_)
    clear hK KK hH2
    try simp only [Act.put, List.setIfInBounds_toArray, List.set_cons_zero, List.set_cons_succ]
    refine wpAnyH_take (i := 5) (oi := ⟨_, _, _, _, _, _⟩) (v := ?vl5) rfl (by kernel_rfl) (by kernel_rfl) (by kernel_rfl) (fun _ _ _ h => h) (Or.inl ⟨by rfl, ?yl5⟩) (by assumption) ?rl5
    case yl5 => intro w hSw; (try dsimp only at hSw); go_simp; try with_reducible rfl
    try simp only [Act.put, List.setIfInBounds_toArray, List.set_cons_zero, List.set_cons_succ]
    refine wpAnyH_done (by kernel_rfl) (NoPanic.normal ?_) _
    go_wp2
    go_ret
    exact ⟨rfl, BF⟩

set_option maxRecDepth 100000 in
set_option maxHeartbeats 8000000 in
theorem nodesBehind_any (s : Cu) (Bv : Nat) (a0 a1 a2 : Option Addr) (c0 c1 c2 : Nat) (w : World) (hs : CuR w s a0 a1 a2) (hl : CuL s) (hr : CuN s) (pe : Addr) (hge : w.cell? ⟨0, 0, none⟩ = some (.iface 126 (.pointer (some pe)))) (b0 : w.cell? ⟨Bv, 0, none⟩ = some (.int .i64 s.tep)) (b1 : w.cell? ⟨Bv, 1, none⟩ = some (.int .i64 s.tld)) (b2 : w.cell? ⟨Bv, 2, none⟩ = some (.slice a0 s.tst.length c0)) (b3 : w.cell? ⟨Bv, 3, none⟩ = some (.slice a1 s.nodes.length c1)) (b4 : w.cell? ⟨Bv, 4, none⟩ = some (.slice a2 s.acked.length c2)) :
    Calls Tryd.prog 40 #[cuV s a0 c0 a1 c1 a2 c2, .func (.func 41) #[] #[.pointer (some ⟨Bv, 0, none⟩)]] w fun e w' => ∃ a' c', e = .returned (.tuple #[.slice a' (bhdL s).length c', .bool (goodCu s)]) ∧ Ints w' a' (bhdL s) ∧ RowI w' w.heap.size a' (bhdL s).length ∧ Below w.heap.size w w' := by
  obtain ⟨u0, hu0⟩ : ∃ u0, (w.alloc (.cells #[.int .i64 s.tep, .int .i64 s.tld, .slice a0 s.tst.length c0, .slice a1 s.nodes.length c1, .slice a2 s.acked.length c2] 28)) = u0 := ⟨_, rfl⟩
  have q0 : u0.cell? ⟨w.heap.size, 0, none⟩ = some (.int .i64 s.tep) := by rw [← hu0]; simp [go_sem]
  have q1 : u0.cell? ⟨w.heap.size, 1, none⟩ = some (.int .i64 s.tld) := by rw [← hu0]; simp [go_sem]
  have q2 : u0.cell? ⟨w.heap.size, 2, none⟩ = some (.slice a0 s.tst.length c0) := by rw [← hu0]; simp [go_sem]
  have q3 : u0.cell? ⟨w.heap.size, 3, none⟩ = some (.slice a1 s.nodes.length c1) := by rw [← hu0]; simp [go_sem]
  have q4 : u0.cell? ⟨w.heap.size, 4, none⟩ = some (.slice a2 s.acked.length c2) := by rw [← hu0]; simp [go_sem]
  have bB : Below w.heap.size w u0 := by rw [← hu0]; exact alCu _ _
  have mm := hl.nodes
  unfold maxLen at mm
  obtain ⟨i0, hi, hz0, hz1, hz2⟩ := infoZ Tryd.infoInt
  have hsB := hs.below bB
  have t0 := celB bB b0
  have t1 := celB bB b1
  have t2 := celB bB b2
  have t3 := celB bB b3
  have t4 := celB bB b4
  cases hg : goodCu s with
  | false =>
    have HE : Hid (bhdL s = []) := by show _ = _; simp [bhdL, hg]
    go_enter Tryd.func40, Tryd.ntmps40
    go_wp2_with fail
    try rw [hu0]
    refine (implGoodCu_c s _ _ _ _ _ _ _ _ hsB hl hr hg).mono ?_
    rintro r w1 ⟨rfl, hB1⟩
    have BB := stCu bB hB1
    clear hB1 hu0
    go_wp2
    refine bodyPost_ret (v := .tuple #[.slice none 0 0, .bool false]) (by simp [results, Tryd.results40, go_sem]) rfl ⟨none, 0, by rw [HE.out]; rfl, by rw [HE.out]; exact Ints.nil _ _, .inl (by rw [HE.out]; rfl), BB⟩
  | true =>
    have hlen := goodCu_len hg
    have HE : Hid (bhdL s = bhdTo s s.nodes.length) := by show _ = _; simp [bhdL, hg]
    go_enter Tryd.func40, Tryd.ntmps40
    go_wp2_with fail
    try rw [hu0]
    refine (implGoodCu_c s _ _ _ _ _ _ _ _ hsB hl hr hg).mono ?_
    rintro r w1 ⟨rfl, hB1⟩
    have B1 := stCu bB hB1
    replace q0 := celB hB1 q0
    replace q1 := celB hB1 q1
    replace q2 := celB hB1 q2
    replace q3 := celB hB1 q3
    replace q4 := celB hB1 q4
    replace t0 := celB hB1 t0
    replace t1 := celB hB1 t1
    replace t2 := celB hB1 t2
    replace t3 := celB hB1 t3
    replace t4 := celB hB1 t4
    clear hB1 hu0 hsB
    go_wp2
    go_loopw [6, 14] (fun v i wr => ∃ k : Nat, k ≤ s.nodes.length ∧ i = .int .i64 k ∧ ZSt w1.heap.size w1 wr v (bhdTo s k)) (fun _ i _ => s.nodes.length - (intOf i).toNat)
    case atStart => exact ⟨0, Nat.zero_le _, rfl, ⟨World.ownsRow_nil _ _ _ _, Below.refl _ _⟩⟩
    case round =>
      obtain ⟨k, hk, rfl, hst⟩ := hrel
      have hB := hst.bel
      replace q0 := celB hB q0
      replace q1 := celB hB q1
      replace q2 := celB hB q2
      replace q3 := celB hB q3
      replace q4 := celB hB q4
      replace t0 := celB hB t0
      replace t1 := celB hB t1
      replace t2 := celB hB t2
      replace t3 := celB hB t3
      replace t4 := celB hB t4
      obtain ⟨aw, cw, rfl⟩ := ownsZ_form hst.own
      have hzl := bhdTo_len s k
      have hBel := stCu B1 hB
      by_cases hlt : k < s.nodes.length
      · obtain ⟨x, hx⟩ : ∃ x, s.nodes[k]? = some x := ⟨_, List.getElem?_eq_getElem hlt⟩
        have HK : Hid (s.nodes[k]? = some x) := hx
        have hki : (k : Int) < (s.nodes.length : Int) := by omega
        clear hx
        cases ht : bhd s x with
        | true =>
          have HN : Hid (bhdTo s (k + 1) = bhdTo s k ++ [(k : Int)]) := bhdTo_t HK.out ht
          generalize bhdTo s k = zs at *
          go_wp2_with fail
          refine (litBehind_c s Bv _ _ _ _ _ _ k x pe _ (hs.below hBel) hl t0 t1 t2 t3 t4 (celB hBel hge) hg HK.out _ ht).mono ?_
          rintro r w3 ⟨rfl, hB3⟩
          replace hst := zst_below hst hB3
          clear hB3
          have hsz := hst.bel.size
          have hst2 : ∀ x, ZSt w1.heap.size w1 (w3.alloc x) (.slice aw zs.length cw) zs := fun x => zst_below hst (alCu w3 x)
          clear hst
          go_wp2_with (at_builtin; refine wpList_append_lies _ rfl _ _ 22 rfl w1.heap.size 3 i0 _ 1 8 Tryd.underlying22 hi hz0 hz1 hz2 rfl (by decide) (.slice aw zs.length cw) zs.length (zCells zs) rfl (hst2 _).own ⟨w3.heap.size, 0, none⟩ 1 1 (zCells [(k : Int)]) rfl rfl ?c1 ?c2 (by omega) ?c3 ?c4 ?c5 (w3.heap.size + 1) ?c6 ?_)
          case c1 => exact World.news_of_block (cs := #[.int .i64 (k : Int)]) (t := 3) (fr := (0, 0)) (by first | exact (heap_alloc_new w3 _) | simpa using (heap_alloc_new w3 _))
          case c2 => simp [zCells, Value.oneCell']
          case c3 => unfold maxLen; omega
          case c4 => omega
          case c5 => first | omega | (simp; omega)
          try (case c6 => simp)
          intro g4 cap4 w4 hown4 hgrow4 hat4 _
          have HS4 : Hid (ZSt w1.heap.size w1 w4 (.slice (some ⟨g4, 0, none⟩) (zs.length + 1) cap4) (zs ++ [(k : Int)])) := zst_step (q := (k : Int)) (hst2 _) (Nat.le_refl _) hgrow4 hown4
          clear hown4 hgrow4 hat4 hst2
          go_wp2_with fail
          go_roundw
          case rel => exact ⟨k + 1, by omega, by go_num, by rw [HN.out]; exact HS4.out⟩
          case measure => simp [intOf]; omega
        | false =>
          have HN : Hid (bhdTo s (k + 1) = bhdTo s k) := bhdTo_f HK.out ht
          generalize bhdTo s k = zs at *
          go_wp2_with fail
          refine (litBehind_c s Bv _ _ _ _ _ _ k x pe _ (hs.below hBel) hl t0 t1 t2 t3 t4 (celB hBel hge) hg HK.out _ ht).mono ?_
          rintro r w3 ⟨rfl, hB3⟩
          have HS : Hid (ZSt w1.heap.size w1 w3 (.slice aw zs.length cw) zs) := zst_below hst hB3
          clear hst hB3 hB
          go_wp2
          go_roundw
          case rel => exact ⟨k + 1, by omega, by go_num, by rw [HN.out]; exact HS.out⟩
          case measure => simp [intOf]; omega
      · obtain rfl : k = s.nodes.length := by omega
        obtain ⟨HI, HR⟩ := ints_of_owns hst.own
        replace HR := HR.mono B1.size
        rw [← HE.out] at HI HR
        obtain ⟨n, hn⟩ : ∃ n, (bhdTo s s.nodes.length).length = n := ⟨_, rfl⟩
        have HN : Hid ((bhdL s).length = n) := by show _ = _; rw [HE.out]; exact hn
        rw [hn]
        clear hn hst
        go_wp2
        refine bodyPost_ret (v := .tuple #[.slice aw n cw, .bool true]) (by simp [results, Tryd.results40, go_sem]) rfl ⟨aw, cw, by rw [HN.out], HI, HR, hBel⟩

set_option maxRecDepth 100000 in
set_option maxHeartbeats 2000000 in
theorem implBehindIn_any (s : Cu) (hr : CuN s) (a0 a1 a2 : Option Addr) (c0 c1 c2 : Nat) (w : World) (hs : CuR w s a0 a1 a2) (hb : CuB s) (pe : Addr) (hge : w.cell? ⟨0, 0, none⟩ = some (.iface 126 (.pointer (some pe)))) :
    Calls Tryd.prog 13 #[cuV s a0 c0 a1 c1 a2 c2] w fun e w' => ∃ a' c', e = .returned (.tuple #[.slice a' (bhdL s).length c', .bool (goodCu s)]) ∧ Ints w' a' (bhdL s) ∧ RowI w' w.heap.size a' (bhdL s).length ∧ Below w.heap.size w w' := by
  obtain ⟨u0, hu0⟩ : ∃ u0, (w.alloc (.cells #[.int .i64 s.tep, .int .i64 s.tld, .slice a0 s.tst.length c0, .slice a1 s.nodes.length c1, .slice a2 s.acked.length c2] 28)) = u0 := ⟨_, rfl⟩
  have q0 : u0.cell? ⟨w.heap.size, 0, none⟩ = some (.int .i64 s.tep) := by rw [← hu0]; simp [go_sem]
  have q1 : u0.cell? ⟨w.heap.size, 1, none⟩ = some (.int .i64 s.tld) := by rw [← hu0]; simp [go_sem]
  have q2 : u0.cell? ⟨w.heap.size, 2, none⟩ = some (.slice a0 s.tst.length c0) := by rw [← hu0]; simp [go_sem]
  have q3 : u0.cell? ⟨w.heap.size, 3, none⟩ = some (.slice a1 s.nodes.length c1) := by rw [← hu0]; simp [go_sem]
  have q4 : u0.cell? ⟨w.heap.size, 4, none⟩ = some (.slice a2 s.acked.length c2) := by rw [← hu0]; simp [go_sem]
  have bB : Below w.heap.size w u0 := by rw [← hu0]; exact alCu _ _
  have hl := hb.len
  have hsB := hs.below bB
  go_enter Tryd.func13, Tryd.ntmps13
  go_wp2_with fail
  try rw [hu0]
  refine (nodesBehind_any s w.heap.size _ _ _ _ _ _ _ hsB hl hr pe (celB bB hge) q0 q1 q2 q3 q4).mono ?_
  rintro r w1 ⟨a', c', rfl, HI, HR, hB1⟩
  have BB := stCu bB hB1
  replace HR := HR.mono bB.size
  clear hB1 hu0
  obtain ⟨n, hn⟩ : ∃ n, (bhdL s).length = n := ⟨_, rfl⟩
  have HN : Hid ((bhdL s).length = n) := hn
  have HI' : Hid (Ints w1 a' (bhdL s)) := HI
  have HR' : Hid (RowI w1 w.heap.size a' (bhdL s).length) := HR
  rw [hn]
  clear hn HI HR
  obtain ⟨g, hg⟩ : ∃ g, goodCu s = g := ⟨_, rfl⟩
  have HG : Hid (goodCu s = g) := hg
  rw [hg]
  clear hg
  go_wp2
  refine bodyPost_ret (v := .tuple #[.slice a' n c', .bool g]) (by simp [results, Tryd.results13, go_sem]) rfl ⟨a', c', by rw [HN.out, HG.out], HI'.out, HR'.out, BB⟩

end Go.Proofs.YtekjpbfmiebigaaDoor
