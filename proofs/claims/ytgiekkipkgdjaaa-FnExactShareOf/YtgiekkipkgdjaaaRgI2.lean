/-
  Groups that read, the program's side: goodReader, GoodReaders. Made by mkrgi.py.
-/
import Derived.Test.YtgiekkipkgdjaaaRgI1
import Derived.Test.YtgiekkipkgdjaaaRgIt2
namespace Go.Proofs.Ytgiekkipkgdjaaa
open Go.RowKit

theorem two_lt {p : Nat} (h : p < 7) : 2 ^ p < 128 := Nat.lt_of_lt_of_le (Nat.pow_lt_pow_right (by omega) h) (by omega)

set_option maxRecDepth 100000 in
set_option maxHeartbeats 16000000 in
theorem goodReader_any (s : Rg) (k : Nat) (a0 a1 a2 : Option Addr) (c0 c1 c2 : Nat) (w : World) (hs : RgR w s a0 a1 a2) (hk : k < s.rds.length) (hn : s.rds.length ≤ 5) (he : s.ends.length ≤ 6) :
    Calls Try.prog 55 #[rgV s a0 c0 a1 c1 a2 c2, .int .i64 (k : Int)] w fun e w' => e = .returned (.bool (okRx s k (rxA s.rds k))) ∧ Below w.heap.size w w' := by
  obtain ⟨v, hv⟩ : ∃ v, (w.alloc (.cells #[.int .i64 s.gen, .slice a0 s.rds.length c0, .slice a1 s.com.length c1, .slice a2 s.ends.length c2] 25)) = v := ⟨_, rfl⟩
  have bB : Below w.heap.size w v := by rw [← hv]; exact alRg _ _
  obtain ⟨kb, ob, ea, r2, k2, r3, k3, e0, e1, e2, e3, z2, m2, z3, m3⟩ := (hs.rds.below bB) k _ (rxA_get hk)
  obtain ⟨x, hx⟩ : ∃ x, rxA s.rds k = x := ⟨_, rfl⟩
  have HX0 : Hid (rxA s.rds k = x) := hx
  rw [hx] at e0 e1 e2 e3 z2 m2 z3 m3 ⊢
  obtain ⟨u, hu⟩ : ∃ u, (v.alloc (.cells #[.bool x.inn, .int .i64 x.gen, .slice r2 x.share.length k2, .slice r3 x.read.length k3] 67)) = u := ⟨_, rfl⟩
  have bU : Below v.heap.size v u := by rw [← hu]; exact alRg _ _
  have BU : Below w.heap.size w u := stRg bB bU
  have q0 : u.cell? ⟨w.heap.size, 0, none⟩ = some (.int .i64 s.gen) := celB bU (by rw [← hv]; simp [go_sem])
  have q1 : u.cell? ⟨w.heap.size, 1, none⟩ = some (.slice a0 s.rds.length c0) := celB bU (by rw [← hv]; simp [go_sem])
  have q2 : u.cell? ⟨w.heap.size, 2, none⟩ = some (.slice a1 s.com.length c1) := celB bU (by rw [← hv]; simp [go_sem])
  have q3 : u.cell? ⟨w.heap.size, 3, none⟩ = some (.slice a2 s.ends.length c2) := celB bU (by rw [← hv]; simp [go_sem])
  have y1 : v.cell? ⟨w.heap.size, 1, none⟩ = some (.slice a0 s.rds.length c0) := by rw [← hv]; simp [go_sem]
  have q4 : u.cell? ⟨v.heap.size, 0, none⟩ = some (.bool x.inn) := by rw [← hu]; simp [go_sem]
  have q5 : u.cell? ⟨v.heap.size, 1, none⟩ = some (.int .i64 x.gen) := by rw [← hu]; simp [go_sem]
  have q6 : u.cell? ⟨v.heap.size, 2, none⟩ = some (.slice r2 x.share.length k2) := by rw [← hu]; simp [go_sem]
  have q7 : u.cell? ⟨v.heap.size, 3, none⟩ = some (.slice r3 x.read.length k3) := by rw [← hu]; simp [go_sem]
  have H0 := hs.rds.below BU
  have H2 := z2.below bU
  have z2' := z2.below bU
  have z3' := z3.below bU
  have he5 := hs.ends.below BU
  have hki : (k : Int) < (s.rds.length : Int) := by omega
  have m3' := m3
  unfold maxLen at m3'
  subst ea
  clear hx z2 z3 hs
  cases g1 : riseB x.share s.ends.length with
  | false =>
    have HE : Hid (okRx s k x = false) := okI_1 g1
    go_enter Try.func55, Try.ntmps55
    go_wp2_with fail
    try rw [hv]
    try rw [hu]
    refine (setFrom_c _ _ _ _ _ _ H2 m2 (by omega) g1).mono ?_
    rintro e w1 ⟨rfl, hB1⟩
    obtain ⟨N, hN⟩ : ∃ N, setR x.share s.ends.length = N := ⟨_, rfl⟩
    have HN : Hid (setR x.share s.ends.length = N) := hN
    rw [hN]
    clear hN
    obtain ⟨u3, hu3⟩ : ∃ u3, w1.alloc (.cells #[.int .u64 (N : Int)] 94) = u3 := ⟨_, rfl⟩
    have B3 : Below u.heap.size u u3 := by rw [← hu3]; exact stRg hB1 (alRg _ _)
    have cS : u3.cell? ⟨w1.heap.size, 0, none⟩ = some (.int .u64 (N : Int)) := by rw [← hu3]; simp [go_sem]
    have q0' := celB B3 q0
    have q1' := celB B3 q1
    have q2' := celB B3 q2
    have q3' := celB B3 q3
    have q4' := celB B3 q4
    have q5' := celB B3 q5
    have q6' := celB B3 q6
    have q7' := celB B3 q7
    have H4 : Ints u3 r3 x.read := z3'.below B3
    have H5 : Ints u3 a2 s.ends := he5.below B3
    have BU3 := stRg BU B3
    clear hB1 q0 q1 q2 q3 q4 q5 q6 q7
    go_wp2
    try rw [hu3]
    go_ret
    exact ⟨ret_bool HE.out.symm, BU3⟩
  | true =>
    have G1 : Hid (riseB x.share s.ends.length = true) := g1
    cases g2 : inB x.gen 0 s.gen with
    | false =>
      have HE : Hid (okRx s k x = false) := okI_2 g2
      go_enter Try.func55, Try.ntmps55
      go_wp2_with fail
      try rw [hv]
      try rw [hu]
      refine (setFrom_c _ _ _ _ _ _ H2 m2 (by omega) g1).mono ?_
      rintro e w1 ⟨rfl, hB1⟩
      obtain ⟨N, hN⟩ : ∃ N, setR x.share s.ends.length = N := ⟨_, rfl⟩
      have HN : Hid (setR x.share s.ends.length = N) := hN
      rw [hN]
      clear hN
      obtain ⟨u3, hu3⟩ : ∃ u3, w1.alloc (.cells #[.int .u64 (N : Int)] 94) = u3 := ⟨_, rfl⟩
      have B3 : Below u.heap.size u u3 := by rw [← hu3]; exact stRg hB1 (alRg _ _)
      have cS : u3.cell? ⟨w1.heap.size, 0, none⟩ = some (.int .u64 (N : Int)) := by rw [← hu3]; simp [go_sem]
      have q0' := celB B3 q0
      have q1' := celB B3 q1
      have q2' := celB B3 q2
      have q3' := celB B3 q3
      have q4' := celB B3 q4
      have q5' := celB B3 q5
      have q6' := celB B3 q6
      have q7' := celB B3 q7
      have H4 : Ints u3 r3 x.read := z3'.below B3
      have H5 : Ints u3 a2 s.ends := he5.below B3
      have BU3 := stRg BU B3
      clear hB1 q0 q1 q2 q3 q4 q5 q6 q7
      go_wp2_with (first | (go_at_call 53; refine (within_c _ _ _ _ g2).mono ?_; rintro e w' ⟨rfl, hw⟩; rw [hw]; clear hw w') | (go_at_call 54; refine (eachUpTo_c _ _ _ _ _ _ _ _ H4 H5 m3 g3).mono ?_; rintro e w' ⟨rfl, hw⟩; rw [hw]; clear hw w'))
      try rw [hu3]
      go_ret
      exact ⟨ret_bool HE.out.symm, BU3⟩
    | true =>
      have G2 : Hid (inB x.gen 0 s.gen = true) := g2
      cases g3 : eachB x.read s.ends with
      | false =>
        have HE : Hid (okRx s k x = false) := okI_3 g3
        go_enter Try.func55, Try.ntmps55
        go_wp2_with fail
        try rw [hv]
        try rw [hu]
        refine (setFrom_c _ _ _ _ _ _ H2 m2 (by omega) g1).mono ?_
        rintro e w1 ⟨rfl, hB1⟩
        obtain ⟨N, hN⟩ : ∃ N, setR x.share s.ends.length = N := ⟨_, rfl⟩
        have HN : Hid (setR x.share s.ends.length = N) := hN
        rw [hN]
        clear hN
        obtain ⟨u3, hu3⟩ : ∃ u3, w1.alloc (.cells #[.int .u64 (N : Int)] 94) = u3 := ⟨_, rfl⟩
        have B3 : Below u.heap.size u u3 := by rw [← hu3]; exact stRg hB1 (alRg _ _)
        have cS : u3.cell? ⟨w1.heap.size, 0, none⟩ = some (.int .u64 (N : Int)) := by rw [← hu3]; simp [go_sem]
        have q0' := celB B3 q0
        have q1' := celB B3 q1
        have q2' := celB B3 q2
        have q3' := celB B3 q3
        have q4' := celB B3 q4
        have q5' := celB B3 q5
        have q6' := celB B3 q6
        have q7' := celB B3 q7
        have H4 : Ints u3 r3 x.read := z3'.below B3
        have H5 : Ints u3 a2 s.ends := he5.below B3
        have BU3 := stRg BU B3
        clear hB1 q0 q1 q2 q3 q4 q5 q6 q7
        go_wp2_with (first | (go_at_call 53; refine (within_c _ _ _ _ g2).mono ?_; rintro e w' ⟨rfl, hw⟩; rw [hw]; clear hw w') | (go_at_call 54; refine (eachUpTo_c _ _ _ _ _ _ _ _ H4 H5 m3 g3).mono ?_; rintro e w' ⟨rfl, hw⟩; rw [hw]; clear hw w'))
        try rw [hu3]
        go_ret
        exact ⟨ret_bool HE.out.symm, BU3⟩
      | true =>
        have G3 : Hid (eachB x.read s.ends = true) := g3
        have H3 : Hid (x.read.length = s.ends.length) := (eachB_is g3).1
        cases hinn : x.inn with
        | true =>
          have HI : Hid ((rxA s.rds k).inn = true) := by show _ = _; rw [HX0.out]; exact hinn
          rw [hinn] at q4 hu e0
          go_enter Try.func55, Try.ntmps55
          go_wp2_with fail
          try rw [hv]
          try rw [hu]
          refine (setFrom_c _ _ _ _ _ _ H2 m2 (by omega) g1).mono ?_
          rintro e w1 ⟨rfl, hB1⟩
          obtain ⟨N, hN⟩ : ∃ N, setR x.share s.ends.length = N := ⟨_, rfl⟩
          have HN : Hid (setR x.share s.ends.length = N) := hN
          rw [hN]
          clear hN
          obtain ⟨u3, hu3⟩ : ∃ u3, w1.alloc (.cells #[.int .u64 (N : Int)] 94) = u3 := ⟨_, rfl⟩
          have B3 : Below u.heap.size u u3 := by rw [← hu3]; exact stRg hB1 (alRg _ _)
          have cS : u3.cell? ⟨w1.heap.size, 0, none⟩ = some (.int .u64 (N : Int)) := by rw [← hu3]; simp [go_sem]
          have q0' := celB B3 q0
          have q1' := celB B3 q1
          have q2' := celB B3 q2
          have q3' := celB B3 q3
          have q4' := celB B3 q4
          have q5' := celB B3 q5
          have q6' := celB B3 q6
          have q7' := celB B3 q7
          have H4 : Ints u3 r3 x.read := z3'.below B3
          have H5 : Ints u3 a2 s.ends := he5.below B3
          have BU3 := stRg BU B3
          clear hB1 q0 q1 q2 q3 q4 q5 q6 q7
          go_wp2_with (first | (go_at_call 53; refine (within_c _ _ _ _ g2).mono ?_; rintro e w' ⟨rfl, hw⟩; rw [hw]; clear hw w') | (go_at_call 54; refine (eachUpTo_c _ _ _ _ _ _ _ _ H4 H5 m3 g3).mono ?_; rintro e w' ⟨rfl, hw⟩; rw [hw]; clear hw w'))
          try rw [hu3]
          clear hu3 hu hv
          go_loopw [45] (fun i wr => ∃ p : Nat, p ≤ x.read.length ∧ i = .int .i64 p ∧ Hid (skTo x p) ∧ Below u3.heap.size u3 wr) (fun i _ => x.read.length - (intOf i).toNat)
          case atStart => exact ⟨0, Nat.zero_le _, rfl, (fun i hi => absurd hi (Nat.not_lt_zero _)), Below.refl _ _⟩
          case round =>
            obtain ⟨p, hp, rfl, HO, hB⟩ := hrel
            have p0 := celB hB q0'
            have p1 := celB hB q1'
            have p2 := celB hB q2'
            have p3 := celB hB q3'
            have p4 := celB hB q4'
            have p5 := celB hB q5'
            have p6 := celB hB q6'
            have p7 := celB hB q7'
            have cS' := celB hB cS
            clear q0' q1' q2' q3' q4' q5' q6' q7'
            by_cases hlt : p < x.read.length
            · obtain ⟨b1, o1, e1', hc1⟩ := (H4.below hB) p _ (zA_get hlt)
              subst e1'
              have hpi : (p : Int) < (x.read.length : Int) := by omega
              have hp7 : p < 7 := by have := H3.out; omega
              have hNlt : N < 128 := by rw [← HN.out]; exact setR_lt (by omega)
              have HQ : Hid (okSk x p = (decide (zA x.read p = 0) || x.share.contains (p : Int))) := rfl
              have HM : Hid ((N &&& 2 ^ p != 0) = x.share.contains (p : Int)) := by show _ = _; rw [← HN.out]; exact meets_has (by omega) G1.out hp7
              obtain ⟨y, hy⟩ : ∃ y, zA x.read p = y := ⟨_, rfl⟩
              rw [hy] at hc1 HQ
              clear hy
              by_cases g7 : y = 0
              · have d7 : (y != 0) = false := by simp [g7]
                have HS : Hid (skTo x (p + 1)) := skTo_succ HO.out (by rw [HQ.out, decide_eq_true g7]; rfl)
                clear g7
                have BBE := fun q => stRg hB (below_drewN (Below.refl wr.heap.size wr) q)
                go_wp2
                go_quiet (fail)
                go_wp2
                go_roundw
                case rel => exact ⟨p + 1, by omega, by go_num, HS.out, BBE _⟩
                case measure => simp [intOf]; omega
              · have d7 : (y != 0) = true := by simp [g7]
                have h7 : decide (y = 0) = false := decide_eq_false g7
                clear g7
                cases g6 : (N &&& 2 ^ p != 0) with
                | true =>
                  have HS : Hid (skTo x (p + 1)) := skTo_succ HO.out (by rw [HQ.out, ← HM.out, g6, h7]; rfl)
                  clear h7
                  go_wp2_with fail
                  have BD : Below wr.heap.size wr wr.drew := (Below.refl _ _).drew
                  have kk : wr.drew.cell? ⟨w1.heap.size, 0, none⟩ = some (.int .u64 (N : Int)) := celB BD cS'
                  refine wp_region_noPanic ?_
                  refine wp_region_held_drew (S := fun w' => w'.cell? ⟨w1.heap.size, 0, none⟩ = some (.int .u64 (N : Int))) (by kernel_rfl) kk (fun hH => ?_)
                  refine wpAnyH_take (i := 0) (oi := ⟨_, _, _, _, _, _⟩) (v := ?vett0) rfl (by kernel_rfl) (by kernel_rfl) (by kernel_rfl) (fun _ _ _ h => h) (Or.inl ⟨by rfl, ?yett0⟩) (by assumption) ?rett0
                  case yett0 => intro w hSw; (try dsimp only at hSw); go_simp; try with_reducible rfl
                  try simp only [Act.put, List.setIfInBounds_toArray, List.set_cons_zero, List.set_cons_succ]
                  refine wpAnyH_take (i := 1) (oi := ⟨_, _, _, _, _, _⟩) (v := ?vett1) rfl (by kernel_rfl) (by kernel_rfl) (by kernel_rfl) (fun _ _ _ h => h) (Or.inl ⟨by rfl, ?yett1⟩) (by assumption) ?rett1
                  case yett1 => intro w hSw; (try dsimp only at hSw); go_simp; try with_reducible rfl
                  try simp only [Act.put, List.setIfInBounds_toArray, List.set_cons_zero, List.set_cons_succ]
                  refine wpAnyH_take (i := 2) (oi := ⟨_, _, _, _, _, _⟩) (v := ?vett2) rfl (by kernel_rfl) (by kernel_rfl) (by kernel_rfl) (fun _ _ _ h => h) (Or.inl ⟨by rfl, ?yett2⟩) (by assumption) ?rett2
                  case yett2 => intro w hSw; (try dsimp only at hSw); go_simp; try with_reducible rfl
                  try simp only [Act.put, List.setIfInBounds_toArray, List.set_cons_zero, List.set_cons_succ]
                  refine wpAnyH_take (i := 3) (oi := ⟨_, _, _, _, _, _⟩) (v := ?vett3) rfl (by kernel_rfl) (by kernel_rfl) (by kernel_rfl) (fun _ _ _ h => h) (Or.inl ⟨by rfl, ?yett3⟩) (by assumption) ?rett3
                  case yett3 => intro w hSw; (try dsimp only at hSw); go_simp; try with_reducible rfl
                  try simp only [Act.put, List.setIfInBounds_toArray, List.set_cons_zero, List.set_cons_succ]
                  refine wpAnyH_take (i := 4) (oi := ⟨_, _, _, _, _, _⟩) (v := ?vett4) rfl (by kernel_rfl) (by kernel_rfl) (by kernel_rfl) (fun _ _ _ h => h) (Or.inl ⟨by rfl, ?yett4⟩) (by assumption) ?rett4
                  case yett4 => intro w hSw; (try dsimp only at hSw); go_simp; try with_reducible rfl
                  try simp only [Act.put, List.setIfInBounds_toArray, List.set_cons_zero, List.set_cons_succ]
                  refine wpAnyH_ready (rs := [5]) (by kernel_rfl) (by simp) ?_
                  refine AllReadyH.cons (o := ⟨_, _, _, _, _, _⟩) rfl (fun KK hK => ?_) AllReadyH.nil
                  go_simp
                  refine (only_z _ p hp7 rfl _).mono ?_
                  rintro r W1 ⟨rfl, hBk⟩
                  have kk1 : W1.cell? ⟨w1.heap.size, 0, none⟩ = some (.int .u64 (N : Int)) := celB hBk kk
                  have BE := stRg BD hBk
                  clear hBk
                  go_wp2_with fail
                  refine hK.out _ _ kk1 (fun hH5 => ?_)
                  clear hK KK hH
                  try simp only [Act.put, List.setIfInBounds_toArray, List.set_cons_zero, List.set_cons_succ]
                  refine wpAnyH_ready (rs := [6]) (by kernel_rfl) (by simp) ?_
                  refine AllReadyH.cons (o := ⟨_, _, _, _, _, _⟩) rfl (fun KK hK => ?_) AllReadyH.nil
                  go_simp
                  refine (meets_c _ _ hNlt (two_lt hp7) _ _ g6).mono ?_
                  rintro r W2 ⟨rfl, hBk⟩
                  have kk2 : W2.cell? ⟨w1.heap.size, 0, none⟩ = some (.int .u64 (N : Int)) := celB hBk kk1
                  have BF := stRg BE hBk
                  clear hBk
                  go_wp2_with fail
                  refine hK.out _ _ kk2 (fun hH6 => ?_)
                  clear hK KK hH5
                  try simp only [Act.put, List.setIfInBounds_toArray, List.set_cons_zero, List.set_cons_succ]
                  refine wpAnyH_take (i := 7) (oi := ⟨_, _, _, _, _, _⟩) (v := ?vett7) rfl (by kernel_rfl) (by kernel_rfl) (by kernel_rfl) (fun _ _ _ h => h) (Or.inl ⟨by rfl, ?yett7⟩) (by assumption) ?rett7
                  case yett7 => intro w hSw; (try dsimp only at hSw); go_simp; try with_reducible rfl
                  try simp only [Act.put, List.setIfInBounds_toArray, List.set_cons_zero, List.set_cons_succ]
                  refine wpAnyH_take (i := 8) (oi := ⟨_, _, _, _, _, _⟩) (v := ?vett8) rfl (by kernel_rfl) (by kernel_rfl) (by kernel_rfl) (fun _ _ _ h => h) (Or.inl ⟨by rfl, ?yett8⟩) (by assumption) ?rett8
                  case yett8 => intro w hSw; (try dsimp only at hSw); go_simp; try with_reducible rfl
                  try simp only [Act.put, List.setIfInBounds_toArray, List.set_cons_zero, List.set_cons_succ]
                  refine wpAnyH_done (by kernel_rfl) (NoPanic.normal ?_) _
                  have BW := stRg hB BF
                  clear BF BE BD
                  go_wp2
                  go_roundw
                  case rel => exact ⟨p + 1, by omega, by go_num, HS.out, BW⟩
                  case measure => simp [intOf]; omega
                | false =>
                  have HE : Hid (okRx s k x = false) := okI_4 hlt (by rw [HQ.out, ← HM.out, g6, h7]; rfl)
                  clear h7
                  go_wp2_with fail
                  have BD : Below wr.heap.size wr wr.drew := (Below.refl _ _).drew
                  have kk : wr.drew.cell? ⟨w1.heap.size, 0, none⟩ = some (.int .u64 (N : Int)) := celB BD cS'
                  refine wp_region_noPanic ?_
                  refine wp_region_held_drew (S := fun w' => w'.cell? ⟨w1.heap.size, 0, none⟩ = some (.int .u64 (N : Int))) (by kernel_rfl) kk (fun hH => ?_)
                  refine wpAnyH_take (i := 0) (oi := ⟨_, _, _, _, _, _⟩) (v := ?veft0) rfl (by kernel_rfl) (by kernel_rfl) (by kernel_rfl) (fun _ _ _ h => h) (Or.inl ⟨by rfl, ?yeft0⟩) (by assumption) ?reft0
                  case yeft0 => intro w hSw; (try dsimp only at hSw); go_simp; try with_reducible rfl
                  try simp only [Act.put, List.setIfInBounds_toArray, List.set_cons_zero, List.set_cons_succ]
                  refine wpAnyH_take (i := 1) (oi := ⟨_, _, _, _, _, _⟩) (v := ?veft1) rfl (by kernel_rfl) (by kernel_rfl) (by kernel_rfl) (fun _ _ _ h => h) (Or.inl ⟨by rfl, ?yeft1⟩) (by assumption) ?reft1
                  case yeft1 => intro w hSw; (try dsimp only at hSw); go_simp; try with_reducible rfl
                  try simp only [Act.put, List.setIfInBounds_toArray, List.set_cons_zero, List.set_cons_succ]
                  refine wpAnyH_take (i := 2) (oi := ⟨_, _, _, _, _, _⟩) (v := ?veft2) rfl (by kernel_rfl) (by kernel_rfl) (by kernel_rfl) (fun _ _ _ h => h) (Or.inl ⟨by rfl, ?yeft2⟩) (by assumption) ?reft2
                  case yeft2 => intro w hSw; (try dsimp only at hSw); go_simp; try with_reducible rfl
                  try simp only [Act.put, List.setIfInBounds_toArray, List.set_cons_zero, List.set_cons_succ]
                  refine wpAnyH_take (i := 3) (oi := ⟨_, _, _, _, _, _⟩) (v := ?veft3) rfl (by kernel_rfl) (by kernel_rfl) (by kernel_rfl) (fun _ _ _ h => h) (Or.inl ⟨by rfl, ?yeft3⟩) (by assumption) ?reft3
                  case yeft3 => intro w hSw; (try dsimp only at hSw); go_simp; try with_reducible rfl
                  try simp only [Act.put, List.setIfInBounds_toArray, List.set_cons_zero, List.set_cons_succ]
                  refine wpAnyH_take (i := 4) (oi := ⟨_, _, _, _, _, _⟩) (v := ?veft4) rfl (by kernel_rfl) (by kernel_rfl) (by kernel_rfl) (fun _ _ _ h => h) (Or.inl ⟨by rfl, ?yeft4⟩) (by assumption) ?reft4
                  case yeft4 => intro w hSw; (try dsimp only at hSw); go_simp; try with_reducible rfl
                  try simp only [Act.put, List.setIfInBounds_toArray, List.set_cons_zero, List.set_cons_succ]
                  refine wpAnyH_ready (rs := [5]) (by kernel_rfl) (by simp) ?_
                  refine AllReadyH.cons (o := ⟨_, _, _, _, _, _⟩) rfl (fun KK hK => ?_) AllReadyH.nil
                  go_simp
                  refine (only_z _ p hp7 rfl _).mono ?_
                  rintro r W1 ⟨rfl, hBk⟩
                  have kk1 : W1.cell? ⟨w1.heap.size, 0, none⟩ = some (.int .u64 (N : Int)) := celB hBk kk
                  have BE := stRg BD hBk
                  clear hBk
                  go_wp2_with fail
                  refine hK.out _ _ kk1 (fun hH5 => ?_)
                  clear hK KK hH
                  try simp only [Act.put, List.setIfInBounds_toArray, List.set_cons_zero, List.set_cons_succ]
                  refine wpAnyH_ready (rs := [6]) (by kernel_rfl) (by simp) ?_
                  refine AllReadyH.cons (o := ⟨_, _, _, _, _, _⟩) rfl (fun KK hK => ?_) AllReadyH.nil
                  go_simp
                  refine (meets_c _ _ hNlt (two_lt hp7) _ _ g6).mono ?_
                  rintro r W2 ⟨rfl, hBk⟩
                  have kk2 : W2.cell? ⟨w1.heap.size, 0, none⟩ = some (.int .u64 (N : Int)) := celB hBk kk1
                  have BF := stRg BE hBk
                  clear hBk
                  go_wp2_with fail
                  refine hK.out _ _ kk2 (fun hH6 => ?_)
                  clear hK KK hH5
                  try simp only [Act.put, List.setIfInBounds_toArray, List.set_cons_zero, List.set_cons_succ]
                  refine wpAnyH_take (i := 7) (oi := ⟨_, _, _, _, _, _⟩) (v := ?veft7) rfl (by kernel_rfl) (by kernel_rfl) (by kernel_rfl) (fun _ _ _ h => h) (Or.inl ⟨by rfl, ?yeft7⟩) (by assumption) ?reft7
                  case yeft7 => intro w hSw; (try dsimp only at hSw); go_simp; try with_reducible rfl
                  try simp only [Act.put, List.setIfInBounds_toArray, List.set_cons_zero, List.set_cons_succ]
                  refine wpAnyH_take (i := 8) (oi := ⟨_, _, _, _, _, _⟩) (v := ?veft8) rfl (by kernel_rfl) (by kernel_rfl) (by kernel_rfl) (fun _ _ _ h => h) (Or.inl ⟨by rfl, ?yeft8⟩) (by assumption) ?reft8
                  case yeft8 => intro w hSw; (try dsimp only at hSw); go_simp; try with_reducible rfl
                  try simp only [Act.put, List.setIfInBounds_toArray, List.set_cons_zero, List.set_cons_succ]
                  refine wpAnyH_done (by kernel_rfl) (NoPanic.normal ?_) _
                  have BW := stRg hB BF
                  clear BF BE BD
                  go_wp2
                  go_ret
                  exact ⟨ret_bool HE.out.symm, stRg BU3 BW⟩
            · obtain rfl : p = x.read.length := by omega
              have BW := stRg BU3 hB
              clear H4 cS' cS
              have HL : Hid (okRx s k x = (!decide (x.gen = s.gen) || decide (x.share = shareL s k))) := okI_in G1.out G2.out G3.out HO.out hinn
              clear hinn
              cases g8 : (true && decide (x.gen = s.gen)) with
              | false =>
                have HE : Hid (okRx s k x = true) := by show _ = _; rw [Bool.true_and] at g8; rw [HL.out, g8]; rfl
                go_wp2_with fail
                have BD : Below wr.heap.size wr wr.drew := (Below.refl _ _).drew
                have kk : wr.drew.cell? ⟨w.heap.size, 0, none⟩ = some (.int .i64 s.gen) ∧ wr.drew.cell? ⟨w.heap.size, 1, none⟩ = some (.slice (some ⟨kb, ob, none⟩) s.rds.length c0) ∧ wr.drew.cell? ⟨w.heap.size, 2, none⟩ = some (.slice a1 s.com.length c1) ∧ wr.drew.cell? ⟨w.heap.size, 3, none⟩ = some (.slice a2 s.ends.length c2) ∧ wr.drew.cell? ⟨v.heap.size, 0, none⟩ = some (.bool true) ∧ wr.drew.cell? ⟨v.heap.size, 1, none⟩ = some (.int .i64 x.gen) ∧ wr.drew.cell? ⟨v.heap.size, 2, none⟩ = some (.slice r2 x.share.length k2) ∧ wr.drew.cell? ⟨v.heap.size, 3, none⟩ = some (.slice r3 x.read.length k3) := ⟨celB BD p0, celB BD p1, celB BD p2, celB BD p3, celB BD p4, celB BD p5, celB BD p6, celB BD p7⟩
                refine wp_region_noPanic ?_
                refine wp_region_held_drew (S := fun w' => w'.cell? ⟨w.heap.size, 0, none⟩ = some (.int .i64 s.gen) ∧ w'.cell? ⟨w.heap.size, 1, none⟩ = some (.slice (some ⟨kb, ob, none⟩) s.rds.length c0) ∧ w'.cell? ⟨w.heap.size, 2, none⟩ = some (.slice a1 s.com.length c1) ∧ w'.cell? ⟨w.heap.size, 3, none⟩ = some (.slice a2 s.ends.length c2) ∧ w'.cell? ⟨v.heap.size, 0, none⟩ = some (.bool true) ∧ w'.cell? ⟨v.heap.size, 1, none⟩ = some (.int .i64 x.gen) ∧ w'.cell? ⟨v.heap.size, 2, none⟩ = some (.slice r2 x.share.length k2) ∧ w'.cell? ⟨v.heap.size, 3, none⟩ = some (.slice r3 x.read.length k3)) (by kernel_rfl) kk (fun hH => ?_)
                refine wpAnyH_take (i := 0) (oi := ⟨_, _, _, _, _, _⟩) (v := ?vg0) rfl (by kernel_rfl) (by kernel_rfl) (by kernel_rfl) (fun _ _ _ h => h) (Or.inl ⟨by rfl, ?yg0⟩) (by assumption) ?rg0
                case yg0 => intro w hSw; (try dsimp only at hSw); go_simp; try with_reducible rfl
                try simp only [Act.put, List.setIfInBounds_toArray, List.set_cons_zero, List.set_cons_succ]
                refine wpAnyH_take (i := 1) (oi := ⟨_, _, _, _, _, _⟩) (v := ?vg1) rfl (by kernel_rfl) (by kernel_rfl) (by kernel_rfl) (fun _ _ _ h => h) (Or.inl ⟨by rfl, ?yg1⟩) (by assumption) ?rg1
                case yg1 => intro w hSw; (try dsimp only at hSw); go_simp; try with_reducible rfl
                try simp only [Act.put, List.setIfInBounds_toArray, List.set_cons_zero, List.set_cons_succ]
                refine wpAnyH_take (i := 2) (oi := ⟨_, _, _, _, _, _⟩) (v := ?vg2) rfl (by kernel_rfl) (by kernel_rfl) (by kernel_rfl) (fun _ _ _ h => h) (Or.inl ⟨by rfl, ?yg2⟩) (by assumption) ?rg2
                case yg2 => intro w hSw; (try dsimp only at hSw); go_simp; try with_reducible rfl
                try simp only [Act.put, List.setIfInBounds_toArray, List.set_cons_zero, List.set_cons_succ]
                refine wpAnyH_ready (rs := [3]) (by kernel_rfl) (by simp) ?_
                refine AllReadyH.cons (o := ⟨_, _, _, _, _, _⟩) rfl (fun KK hK => ?_) AllReadyH.nil
                go_simp
                refine (knows_c true _ _ _ _ _ _ g8).mono ?_
                rintro r W1 ⟨rfl, hBk⟩
                have kk1 : W1.cell? ⟨w.heap.size, 0, none⟩ = some (.int .i64 s.gen) ∧ W1.cell? ⟨w.heap.size, 1, none⟩ = some (.slice (some ⟨kb, ob, none⟩) s.rds.length c0) ∧ W1.cell? ⟨w.heap.size, 2, none⟩ = some (.slice a1 s.com.length c1) ∧ W1.cell? ⟨w.heap.size, 3, none⟩ = some (.slice a2 s.ends.length c2) ∧ W1.cell? ⟨v.heap.size, 0, none⟩ = some (.bool true) ∧ W1.cell? ⟨v.heap.size, 1, none⟩ = some (.int .i64 x.gen) ∧ W1.cell? ⟨v.heap.size, 2, none⟩ = some (.slice r2 x.share.length k2) ∧ W1.cell? ⟨v.heap.size, 3, none⟩ = some (.slice r3 x.read.length k3) := by obtain ⟨t0, t1, t2, t3, t4, t5, t6, t7⟩ := kk; exact ⟨celB hBk t0, celB hBk t1, celB hBk t2, celB hBk t3, celB hBk t4, celB hBk t5, celB hBk t6, celB hBk t7⟩
                have BE := stRg BD hBk
                clear hBk
                go_wp2_with fail
                refine hK.out _ _ kk1 (fun hH3 => ?_)
                clear hK KK hH
                try simp only [Act.put, List.setIfInBounds_toArray, List.set_cons_zero, List.set_cons_succ]
                refine wpAnyH_take (i := 4) (oi := ⟨_, _, _, _, _, _⟩) (v := ?vg4) rfl (by kernel_rfl) (by kernel_rfl) (by kernel_rfl) (fun _ _ _ h => h) (Or.inl ⟨by rfl, ?yg4⟩) (by assumption) ?rg4
                case yg4 => intro w hSw; (try dsimp only at hSw); go_simp; try with_reducible rfl
                try simp only [Act.put, List.setIfInBounds_toArray, List.set_cons_zero, List.set_cons_succ]
                refine wpAnyH_take (i := 5) (oi := ⟨_, _, _, _, _, _⟩) (v := ?vg5) rfl (by kernel_rfl) (by kernel_rfl) (by kernel_rfl) (fun _ _ _ h => h) (Or.inl ⟨by rfl, ?yg5⟩) (by assumption) ?rg5
                case yg5 => intro w hSw; (try dsimp only at hSw); go_simp; try with_reducible rfl
                try simp only [Act.put, List.setIfInBounds_toArray, List.set_cons_zero, List.set_cons_succ]
                refine wpAnyH_take (i := 6) (oi := ⟨_, _, _, _, _, _⟩) (v := undef) rfl (by kernel_rfl) (by kernel_rfl) (by kernel_rfl) (fun _ _ _ h => h) (Or.inr ⟨by rfl, rfl⟩) (by assumption) ?_
                try simp only [Act.put, List.setIfInBounds_toArray, List.set_cons_zero, List.set_cons_succ]
                refine wpAnyH_take (i := 7) (oi := ⟨_, _, _, _, _, _⟩) (v := undef) rfl (by kernel_rfl) (by kernel_rfl) (by kernel_rfl) (fun _ _ _ h => h) (Or.inr ⟨by rfl, rfl⟩) (by assumption) ?_
                try simp only [Act.put, List.setIfInBounds_toArray, List.set_cons_zero, List.set_cons_succ]
                refine wpAnyH_take (i := 8) (oi := ⟨_, _, _, _, _, _⟩) (v := undef) rfl (by kernel_rfl) (by kernel_rfl) (by kernel_rfl) (fun _ _ _ h => h) (Or.inr ⟨by rfl, rfl⟩) (by assumption) ?_
                try simp only [Act.put, List.setIfInBounds_toArray, List.set_cons_zero, List.set_cons_succ]
                refine wpAnyH_take (i := 9) (oi := ⟨_, _, _, _, _, _⟩) (v := undef) rfl (by kernel_rfl) (by kernel_rfl) (by kernel_rfl) (fun _ _ _ h => h) (Or.inr ⟨by rfl, rfl⟩) (by assumption) ?_
                try simp only [Act.put, List.setIfInBounds_toArray, List.set_cons_zero, List.set_cons_succ]
                refine wpAnyH_take (i := 10) (oi := ⟨_, _, _, _, _, _⟩) (v := undef) rfl (by kernel_rfl) (by kernel_rfl) (by kernel_rfl) (fun _ _ _ h => h) (Or.inr ⟨by rfl, rfl⟩) (by assumption) ?_
                try simp only [Act.put, List.setIfInBounds_toArray, List.set_cons_zero, List.set_cons_succ]
                refine wpAnyH_take (i := 11) (oi := ⟨_, _, _, _, _, _⟩) (v := undef) rfl (by kernel_rfl) (by kernel_rfl) (by kernel_rfl) (fun _ _ _ h => h) (Or.inr ⟨by rfl, rfl⟩) (by assumption) ?_
                try simp only [Act.put, List.setIfInBounds_toArray, List.set_cons_zero, List.set_cons_succ]
                refine wpAnyH_take (i := 12) (oi := ⟨_, _, _, _, _, _⟩) (v := ?vg12) rfl (by kernel_rfl) (by kernel_rfl) (by kernel_rfl) (fun _ _ _ h => h) (Or.inl ⟨by rfl, ?yg12⟩) (by assumption) ?rg12
                case yg12 => intro w hSw; (try dsimp only at hSw); go_simp; try with_reducible rfl
                try simp only [Act.put, List.setIfInBounds_toArray, List.set_cons_zero, List.set_cons_succ]
                refine wpAnyH_take (i := 13) (oi := ⟨_, _, _, _, _, _⟩) (v := ?vg13) rfl (by kernel_rfl) (by kernel_rfl) (by kernel_rfl) (fun _ _ _ h => h) (Or.inl ⟨by rfl, ?yg13⟩) (by assumption) ?rg13
                case yg13 => intro w hSw; (try dsimp only at hSw); go_simp; try with_reducible rfl
                try simp only [Act.put, List.setIfInBounds_toArray, List.set_cons_zero, List.set_cons_succ]
                refine wpAnyH_done (by kernel_rfl) (NoPanic.normal ?_) _
                have BX := stRg BW BE
                clear BE BD kk kk1
                go_wp2
                go_ret
                exact ⟨ret_bool HE.out.symm, BX⟩
              | true =>
                obtain ⟨b, hb⟩ : ∃ b, decide (x.share = shareL s k) = b := ⟨_, rfl⟩
                have HX : Hid (decide (x.share = shareL s k) = b) := hb
                have HE : Hid (okRx s k x = b) := by show _ = _; have g9 := g8; rw [Bool.true_and] at g9; rw [HL.out, g9, hb]; rfl
                clear hb
                go_wp2_with fail
                have BD : Below wr.heap.size wr wr.drew := (Below.refl _ _).drew
                have kk : wr.drew.cell? ⟨w.heap.size, 0, none⟩ = some (.int .i64 s.gen) ∧ wr.drew.cell? ⟨w.heap.size, 1, none⟩ = some (.slice (some ⟨kb, ob, none⟩) s.rds.length c0) ∧ wr.drew.cell? ⟨w.heap.size, 2, none⟩ = some (.slice a1 s.com.length c1) ∧ wr.drew.cell? ⟨w.heap.size, 3, none⟩ = some (.slice a2 s.ends.length c2) ∧ wr.drew.cell? ⟨v.heap.size, 0, none⟩ = some (.bool true) ∧ wr.drew.cell? ⟨v.heap.size, 1, none⟩ = some (.int .i64 x.gen) ∧ wr.drew.cell? ⟨v.heap.size, 2, none⟩ = some (.slice r2 x.share.length k2) ∧ wr.drew.cell? ⟨v.heap.size, 3, none⟩ = some (.slice r3 x.read.length k3) := ⟨celB BD p0, celB BD p1, celB BD p2, celB BD p3, celB BD p4, celB BD p5, celB BD p6, celB BD p7⟩
                refine wp_region_noPanic ?_
                refine wp_region_held_drew (S := fun w' => w'.cell? ⟨w.heap.size, 0, none⟩ = some (.int .i64 s.gen) ∧ w'.cell? ⟨w.heap.size, 1, none⟩ = some (.slice (some ⟨kb, ob, none⟩) s.rds.length c0) ∧ w'.cell? ⟨w.heap.size, 2, none⟩ = some (.slice a1 s.com.length c1) ∧ w'.cell? ⟨w.heap.size, 3, none⟩ = some (.slice a2 s.ends.length c2) ∧ w'.cell? ⟨v.heap.size, 0, none⟩ = some (.bool true) ∧ w'.cell? ⟨v.heap.size, 1, none⟩ = some (.int .i64 x.gen) ∧ w'.cell? ⟨v.heap.size, 2, none⟩ = some (.slice r2 x.share.length k2) ∧ w'.cell? ⟨v.heap.size, 3, none⟩ = some (.slice r3 x.read.length k3)) (by kernel_rfl) kk (fun hH => ?_)
                refine wpAnyH_take (i := 0) (oi := ⟨_, _, _, _, _, _⟩) (v := ?vh0) rfl (by kernel_rfl) (by kernel_rfl) (by kernel_rfl) (fun _ _ _ h => h) (Or.inl ⟨by rfl, ?yh0⟩) (by assumption) ?rh0
                case yh0 => intro w hSw; (try dsimp only at hSw); go_simp; try with_reducible rfl
                try simp only [Act.put, List.setIfInBounds_toArray, List.set_cons_zero, List.set_cons_succ]
                refine wpAnyH_take (i := 1) (oi := ⟨_, _, _, _, _, _⟩) (v := ?vh1) rfl (by kernel_rfl) (by kernel_rfl) (by kernel_rfl) (fun _ _ _ h => h) (Or.inl ⟨by rfl, ?yh1⟩) (by assumption) ?rh1
                case yh1 => intro w hSw; (try dsimp only at hSw); go_simp; try with_reducible rfl
                try simp only [Act.put, List.setIfInBounds_toArray, List.set_cons_zero, List.set_cons_succ]
                refine wpAnyH_take (i := 2) (oi := ⟨_, _, _, _, _, _⟩) (v := ?vh2) rfl (by kernel_rfl) (by kernel_rfl) (by kernel_rfl) (fun _ _ _ h => h) (Or.inl ⟨by rfl, ?yh2⟩) (by assumption) ?rh2
                case yh2 => intro w hSw; (try dsimp only at hSw); go_simp; try with_reducible rfl
                try simp only [Act.put, List.setIfInBounds_toArray, List.set_cons_zero, List.set_cons_succ]
                refine wpAnyH_ready (rs := [3]) (by kernel_rfl) (by simp) ?_
                refine AllReadyH.cons (o := ⟨_, _, _, _, _, _⟩) rfl (fun KK hK => ?_) AllReadyH.nil
                go_simp
                refine (knows_c true _ _ _ _ _ _ g8).mono ?_
                rintro r W1 ⟨rfl, hBk⟩
                have kk1 : W1.cell? ⟨w.heap.size, 0, none⟩ = some (.int .i64 s.gen) ∧ W1.cell? ⟨w.heap.size, 1, none⟩ = some (.slice (some ⟨kb, ob, none⟩) s.rds.length c0) ∧ W1.cell? ⟨w.heap.size, 2, none⟩ = some (.slice a1 s.com.length c1) ∧ W1.cell? ⟨w.heap.size, 3, none⟩ = some (.slice a2 s.ends.length c2) ∧ W1.cell? ⟨v.heap.size, 0, none⟩ = some (.bool true) ∧ W1.cell? ⟨v.heap.size, 1, none⟩ = some (.int .i64 x.gen) ∧ W1.cell? ⟨v.heap.size, 2, none⟩ = some (.slice r2 x.share.length k2) ∧ W1.cell? ⟨v.heap.size, 3, none⟩ = some (.slice r3 x.read.length k3) := by obtain ⟨t0, t1, t2, t3, t4, t5, t6, t7⟩ := kk; exact ⟨celB hBk t0, celB hBk t1, celB hBk t2, celB hBk t3, celB hBk t4, celB hBk t5, celB hBk t6, celB hBk t7⟩
                have BE := stRg BD hBk
                clear hBk
                go_wp2_with fail
                refine hK.out _ _ kk1 (fun hH3 => ?_)
                clear hK KK hH
                try simp only [Act.put, List.setIfInBounds_toArray, List.set_cons_zero, List.set_cons_succ]
                refine wpAnyH_take (i := 4) (oi := ⟨_, _, _, _, _, _⟩) (v := ?vh4) rfl (by kernel_rfl) (by kernel_rfl) (by kernel_rfl) (fun _ _ _ h => h) (Or.inl ⟨by rfl, ?yh4⟩) (by assumption) ?rh4
                case yh4 => intro w hSw; (try dsimp only at hSw); go_simp; try with_reducible rfl
                try simp only [Act.put, List.setIfInBounds_toArray, List.set_cons_zero, List.set_cons_succ]
                refine wpAnyH_take (i := 5) (oi := ⟨_, _, _, _, _, _⟩) (v := ?vh5) rfl (by kernel_rfl) (by kernel_rfl) (by kernel_rfl) (fun _ _ _ h => h) (Or.inl ⟨by rfl, ?yh5⟩) (by assumption) ?rh5
                case yh5 => intro w hSw; (try dsimp only at hSw); go_simp; try with_reducible rfl
                try simp only [Act.put, List.setIfInBounds_toArray, List.set_cons_zero, List.set_cons_succ]
                refine wpAnyH_take (i := 6) (oi := ⟨_, _, _, _, _, _⟩) (v := ?vh6) rfl (by kernel_rfl) (by kernel_rfl) (by kernel_rfl) (fun _ _ _ h => h) (Or.inl ⟨by rfl, ?yh6⟩) (by assumption) ?rh6
                case yh6 => intro w hSw; (try dsimp only at hSw); go_simp; try with_reducible rfl
                try simp only [Act.put, List.setIfInBounds_toArray, List.set_cons_zero, List.set_cons_succ]
                refine wpAnyH_take (i := 7) (oi := ⟨_, _, _, _, _, _⟩) (v := ?vh7) rfl (by kernel_rfl) (by kernel_rfl) (by kernel_rfl) (fun _ _ _ h => h) (Or.inl ⟨by rfl, ?yh7⟩) (by assumption) ?rh7
                case yh7 => intro w hSw; (try dsimp only at hSw); go_simp; try with_reducible rfl
                try simp only [Act.put, List.setIfInBounds_toArray, List.set_cons_zero, List.set_cons_succ]
                refine wpAnyH_take (i := 8) (oi := ⟨_, _, _, _, _, _⟩) (v := ?vh8) rfl (by kernel_rfl) (by kernel_rfl) (by kernel_rfl) (fun _ _ _ h => h) (Or.inl ⟨by rfl, ?yh8⟩) (by assumption) ?rh8
                case yh8 => intro w hSw; (try dsimp only at hSw); go_simp; try with_reducible rfl
                try simp only [Act.put, List.setIfInBounds_toArray, List.set_cons_zero, List.set_cons_succ]
                refine wpAnyH_take (i := 9) (oi := ⟨_, _, _, _, _, _⟩) (v := ?vh9) rfl (by kernel_rfl) (by kernel_rfl) (by kernel_rfl) (fun _ _ _ h => h) (Or.inl ⟨by rfl, ?yh9⟩) (by assumption) ?rh9
                case yh9 => intro w hSw; (try dsimp only at hSw); go_simp; try with_reducible rfl
                try simp only [Act.put, List.setIfInBounds_toArray, List.set_cons_zero, List.set_cons_succ]
                refine wpAnyH_ready (rs := [10]) (by kernel_rfl) (by simp) ?_
                refine AllReadyH.cons (o := ⟨_, _, _, _, _, _⟩) rfl (fun KK hK => ?_) AllReadyH.nil
                go_simp
                refine (shareFor_any s k _ _ _ _ _ _ _ (H0.below (stRg B3 (stRg hB BE))) hk HI.out (by omega) (by omega)).mono ?_
                rintro r W2 ⟨sa, sc, rfl, zI, mI, -, hBk⟩
                have kk2 : W2.cell? ⟨w.heap.size, 0, none⟩ = some (.int .i64 s.gen) ∧ W2.cell? ⟨w.heap.size, 1, none⟩ = some (.slice (some ⟨kb, ob, none⟩) s.rds.length c0) ∧ W2.cell? ⟨w.heap.size, 2, none⟩ = some (.slice a1 s.com.length c1) ∧ W2.cell? ⟨w.heap.size, 3, none⟩ = some (.slice a2 s.ends.length c2) ∧ W2.cell? ⟨v.heap.size, 0, none⟩ = some (.bool true) ∧ W2.cell? ⟨v.heap.size, 1, none⟩ = some (.int .i64 x.gen) ∧ W2.cell? ⟨v.heap.size, 2, none⟩ = some (.slice r2 x.share.length k2) ∧ W2.cell? ⟨v.heap.size, 3, none⟩ = some (.slice r3 x.read.length k3) := by obtain ⟨t0, t1, t2, t3, t4, t5, t6, t7⟩ := kk1; exact ⟨celB hBk t0, celB hBk t1, celB hBk t2, celB hBk t3, celB hBk t4, celB hBk t5, celB hBk t6, celB hBk t7⟩
                have BF := stRg BE hBk
                clear hBk
                go_wp2_with fail
                refine hK.out _ _ kk2 (fun hH10 => ?_)
                clear hK KK hH3
                try simp only [Act.put, List.setIfInBounds_toArray, List.set_cons_zero, List.set_cons_succ]
                refine wpAnyH_ready (rs := [11]) (by kernel_rfl) (by simp) ?_
                refine AllReadyH.cons (o := ⟨_, _, _, _, _, _⟩) rfl (fun KK hK => ?_) AllReadyH.nil
                go_simp
                refine (equalZ_c _ _ _ _ _ _ _ _ (z2'.below (stRg B3 (stRg hB BF))) zI m2 HX.out).mono ?_
                rintro r W3 ⟨rfl, hBk⟩
                have kk3 : W3.cell? ⟨w.heap.size, 0, none⟩ = some (.int .i64 s.gen) ∧ W3.cell? ⟨w.heap.size, 1, none⟩ = some (.slice (some ⟨kb, ob, none⟩) s.rds.length c0) ∧ W3.cell? ⟨w.heap.size, 2, none⟩ = some (.slice a1 s.com.length c1) ∧ W3.cell? ⟨w.heap.size, 3, none⟩ = some (.slice a2 s.ends.length c2) ∧ W3.cell? ⟨v.heap.size, 0, none⟩ = some (.bool true) ∧ W3.cell? ⟨v.heap.size, 1, none⟩ = some (.int .i64 x.gen) ∧ W3.cell? ⟨v.heap.size, 2, none⟩ = some (.slice r2 x.share.length k2) ∧ W3.cell? ⟨v.heap.size, 3, none⟩ = some (.slice r3 x.read.length k3) := by obtain ⟨t0, t1, t2, t3, t4, t5, t6, t7⟩ := kk2; exact ⟨celB hBk t0, celB hBk t1, celB hBk t2, celB hBk t3, celB hBk t4, celB hBk t5, celB hBk t6, celB hBk t7⟩
                have BG := stRg BF hBk
                clear hBk
                go_wp2_with fail
                refine hK.out _ _ kk3 (fun hH11 => ?_)
                clear hK KK hH10
                try simp only [Act.put, List.setIfInBounds_toArray, List.set_cons_zero, List.set_cons_succ]
                refine wpAnyH_take (i := 12) (oi := ⟨_, _, _, _, _, _⟩) (v := ?vh12) rfl (by kernel_rfl) (by kernel_rfl) (by kernel_rfl) (fun _ _ _ h => h) (Or.inl ⟨by rfl, ?yh12⟩) (by assumption) ?rh12
                case yh12 => intro w hSw; (try dsimp only at hSw); go_simp; try with_reducible rfl
                try simp only [Act.put, List.setIfInBounds_toArray, List.set_cons_zero, List.set_cons_succ]
                refine wpAnyH_take (i := 13) (oi := ⟨_, _, _, _, _, _⟩) (v := ?vh13) rfl (by kernel_rfl) (by kernel_rfl) (by kernel_rfl) (fun _ _ _ h => h) (Or.inl ⟨by rfl, ?yh13⟩) (by assumption) ?rh13
                case yh13 => intro w hSw; (try dsimp only at hSw); go_simp; try with_reducible rfl
                try simp only [Act.put, List.setIfInBounds_toArray, List.set_cons_zero, List.set_cons_succ]
                refine wpAnyH_done (by kernel_rfl) (NoPanic.normal ?_) _
                have BX := stRg BW BG
                clear BG BF BE BD kk kk1 kk2 kk3 zI mI
                go_wp2
                go_ret
                exact ⟨ret_bool HE.out.symm, BX⟩
        | false =>
          rw [hinn] at q4 hu e0
          go_enter Try.func55, Try.ntmps55
          go_wp2_with fail
          try rw [hv]
          try rw [hu]
          refine (setFrom_c _ _ _ _ _ _ H2 m2 (by omega) g1).mono ?_
          rintro e w1 ⟨rfl, hB1⟩
          obtain ⟨N, hN⟩ : ∃ N, setR x.share s.ends.length = N := ⟨_, rfl⟩
          have HN : Hid (setR x.share s.ends.length = N) := hN
          rw [hN]
          clear hN
          obtain ⟨u3, hu3⟩ : ∃ u3, w1.alloc (.cells #[.int .u64 (N : Int)] 94) = u3 := ⟨_, rfl⟩
          have B3 : Below u.heap.size u u3 := by rw [← hu3]; exact stRg hB1 (alRg _ _)
          have cS : u3.cell? ⟨w1.heap.size, 0, none⟩ = some (.int .u64 (N : Int)) := by rw [← hu3]; simp [go_sem]
          have q0' := celB B3 q0
          have q1' := celB B3 q1
          have q2' := celB B3 q2
          have q3' := celB B3 q3
          have q4' := celB B3 q4
          have q5' := celB B3 q5
          have q6' := celB B3 q6
          have q7' := celB B3 q7
          have H4 : Ints u3 r3 x.read := z3'.below B3
          have H5 : Ints u3 a2 s.ends := he5.below B3
          have BU3 := stRg BU B3
          clear hB1 q0 q1 q2 q3 q4 q5 q6 q7
          go_wp2_with (first | (go_at_call 53; refine (within_c _ _ _ _ g2).mono ?_; rintro e w' ⟨rfl, hw⟩; rw [hw]; clear hw w') | (go_at_call 54; refine (eachUpTo_c _ _ _ _ _ _ _ _ H4 H5 m3 g3).mono ?_; rintro e w' ⟨rfl, hw⟩; rw [hw]; clear hw w'))
          try rw [hu3]
          clear hu3 hu hv
          go_loopw [45] (fun i wr => ∃ p : Nat, p ≤ x.read.length ∧ i = .int .i64 p ∧ Hid (skTo x p) ∧ Below u3.heap.size u3 wr) (fun i _ => x.read.length - (intOf i).toNat)
          case atStart => exact ⟨0, Nat.zero_le _, rfl, (fun i hi => absurd hi (Nat.not_lt_zero _)), Below.refl _ _⟩
          case round =>
            obtain ⟨p, hp, rfl, HO, hB⟩ := hrel
            have p0 := celB hB q0'
            have p1 := celB hB q1'
            have p2 := celB hB q2'
            have p3 := celB hB q3'
            have p4 := celB hB q4'
            have p5 := celB hB q5'
            have p6 := celB hB q6'
            have p7 := celB hB q7'
            have cS' := celB hB cS
            clear q0' q1' q2' q3' q4' q5' q6' q7'
            by_cases hlt : p < x.read.length
            · obtain ⟨b1, o1, e1', hc1⟩ := (H4.below hB) p _ (zA_get hlt)
              subst e1'
              have hpi : (p : Int) < (x.read.length : Int) := by omega
              have hp7 : p < 7 := by have := H3.out; omega
              have hNlt : N < 128 := by rw [← HN.out]; exact setR_lt (by omega)
              have HQ : Hid (okSk x p = (decide (zA x.read p = 0) || x.share.contains (p : Int))) := rfl
              have HM : Hid ((N &&& 2 ^ p != 0) = x.share.contains (p : Int)) := by show _ = _; rw [← HN.out]; exact meets_has (by omega) G1.out hp7
              obtain ⟨y, hy⟩ : ∃ y, zA x.read p = y := ⟨_, rfl⟩
              rw [hy] at hc1 HQ
              clear hy
              by_cases g7 : y = 0
              · have d7 : (y != 0) = false := by simp [g7]
                have HS : Hid (skTo x (p + 1)) := skTo_succ HO.out (by rw [HQ.out, decide_eq_true g7]; rfl)
                clear g7
                have BBE := fun q => stRg hB (below_drewN (Below.refl wr.heap.size wr) q)
                go_wp2
                go_quiet (fail)
                go_wp2
                go_roundw
                case rel => exact ⟨p + 1, by omega, by go_num, HS.out, BBE _⟩
                case measure => simp [intOf]; omega
              · have d7 : (y != 0) = true := by simp [g7]
                have h7 : decide (y = 0) = false := decide_eq_false g7
                clear g7
                cases g6 : (N &&& 2 ^ p != 0) with
                | true =>
                  have HS : Hid (skTo x (p + 1)) := skTo_succ HO.out (by rw [HQ.out, ← HM.out, g6, h7]; rfl)
                  clear h7
                  go_wp2_with fail
                  have BD : Below wr.heap.size wr wr.drew := (Below.refl _ _).drew
                  have kk : wr.drew.cell? ⟨w1.heap.size, 0, none⟩ = some (.int .u64 (N : Int)) := celB BD cS'
                  refine wp_region_noPanic ?_
                  refine wp_region_held_drew (S := fun w' => w'.cell? ⟨w1.heap.size, 0, none⟩ = some (.int .u64 (N : Int))) (by kernel_rfl) kk (fun hH => ?_)
                  refine wpAnyH_take (i := 0) (oi := ⟨_, _, _, _, _, _⟩) (v := ?vetf0) rfl (by kernel_rfl) (by kernel_rfl) (by kernel_rfl) (fun _ _ _ h => h) (Or.inl ⟨by rfl, ?yetf0⟩) (by assumption) ?retf0
                  case yetf0 => intro w hSw; (try dsimp only at hSw); go_simp; try with_reducible rfl
                  try simp only [Act.put, List.setIfInBounds_toArray, List.set_cons_zero, List.set_cons_succ]
                  refine wpAnyH_take (i := 1) (oi := ⟨_, _, _, _, _, _⟩) (v := ?vetf1) rfl (by kernel_rfl) (by kernel_rfl) (by kernel_rfl) (fun _ _ _ h => h) (Or.inl ⟨by rfl, ?yetf1⟩) (by assumption) ?retf1
                  case yetf1 => intro w hSw; (try dsimp only at hSw); go_simp; try with_reducible rfl
                  try simp only [Act.put, List.setIfInBounds_toArray, List.set_cons_zero, List.set_cons_succ]
                  refine wpAnyH_take (i := 2) (oi := ⟨_, _, _, _, _, _⟩) (v := ?vetf2) rfl (by kernel_rfl) (by kernel_rfl) (by kernel_rfl) (fun _ _ _ h => h) (Or.inl ⟨by rfl, ?yetf2⟩) (by assumption) ?retf2
                  case yetf2 => intro w hSw; (try dsimp only at hSw); go_simp; try with_reducible rfl
                  try simp only [Act.put, List.setIfInBounds_toArray, List.set_cons_zero, List.set_cons_succ]
                  refine wpAnyH_take (i := 3) (oi := ⟨_, _, _, _, _, _⟩) (v := ?vetf3) rfl (by kernel_rfl) (by kernel_rfl) (by kernel_rfl) (fun _ _ _ h => h) (Or.inl ⟨by rfl, ?yetf3⟩) (by assumption) ?retf3
                  case yetf3 => intro w hSw; (try dsimp only at hSw); go_simp; try with_reducible rfl
                  try simp only [Act.put, List.setIfInBounds_toArray, List.set_cons_zero, List.set_cons_succ]
                  refine wpAnyH_take (i := 4) (oi := ⟨_, _, _, _, _, _⟩) (v := ?vetf4) rfl (by kernel_rfl) (by kernel_rfl) (by kernel_rfl) (fun _ _ _ h => h) (Or.inl ⟨by rfl, ?yetf4⟩) (by assumption) ?retf4
                  case yetf4 => intro w hSw; (try dsimp only at hSw); go_simp; try with_reducible rfl
                  try simp only [Act.put, List.setIfInBounds_toArray, List.set_cons_zero, List.set_cons_succ]
                  refine wpAnyH_ready (rs := [5]) (by kernel_rfl) (by simp) ?_
                  refine AllReadyH.cons (o := ⟨_, _, _, _, _, _⟩) rfl (fun KK hK => ?_) AllReadyH.nil
                  go_simp
                  refine (only_z _ p hp7 rfl _).mono ?_
                  rintro r W1 ⟨rfl, hBk⟩
                  have kk1 : W1.cell? ⟨w1.heap.size, 0, none⟩ = some (.int .u64 (N : Int)) := celB hBk kk
                  have BE := stRg BD hBk
                  clear hBk
                  go_wp2_with fail
                  refine hK.out _ _ kk1 (fun hH5 => ?_)
                  clear hK KK hH
                  try simp only [Act.put, List.setIfInBounds_toArray, List.set_cons_zero, List.set_cons_succ]
                  refine wpAnyH_ready (rs := [6]) (by kernel_rfl) (by simp) ?_
                  refine AllReadyH.cons (o := ⟨_, _, _, _, _, _⟩) rfl (fun KK hK => ?_) AllReadyH.nil
                  go_simp
                  refine (meets_c _ _ hNlt (two_lt hp7) _ _ g6).mono ?_
                  rintro r W2 ⟨rfl, hBk⟩
                  have kk2 : W2.cell? ⟨w1.heap.size, 0, none⟩ = some (.int .u64 (N : Int)) := celB hBk kk1
                  have BF := stRg BE hBk
                  clear hBk
                  go_wp2_with fail
                  refine hK.out _ _ kk2 (fun hH6 => ?_)
                  clear hK KK hH5
                  try simp only [Act.put, List.setIfInBounds_toArray, List.set_cons_zero, List.set_cons_succ]
                  refine wpAnyH_take (i := 7) (oi := ⟨_, _, _, _, _, _⟩) (v := ?vetf7) rfl (by kernel_rfl) (by kernel_rfl) (by kernel_rfl) (fun _ _ _ h => h) (Or.inl ⟨by rfl, ?yetf7⟩) (by assumption) ?retf7
                  case yetf7 => intro w hSw; (try dsimp only at hSw); go_simp; try with_reducible rfl
                  try simp only [Act.put, List.setIfInBounds_toArray, List.set_cons_zero, List.set_cons_succ]
                  refine wpAnyH_take (i := 8) (oi := ⟨_, _, _, _, _, _⟩) (v := ?vetf8) rfl (by kernel_rfl) (by kernel_rfl) (by kernel_rfl) (fun _ _ _ h => h) (Or.inl ⟨by rfl, ?yetf8⟩) (by assumption) ?retf8
                  case yetf8 => intro w hSw; (try dsimp only at hSw); go_simp; try with_reducible rfl
                  try simp only [Act.put, List.setIfInBounds_toArray, List.set_cons_zero, List.set_cons_succ]
                  refine wpAnyH_done (by kernel_rfl) (NoPanic.normal ?_) _
                  have BW := stRg hB BF
                  clear BF BE BD
                  go_wp2
                  go_roundw
                  case rel => exact ⟨p + 1, by omega, by go_num, HS.out, BW⟩
                  case measure => simp [intOf]; omega
                | false =>
                  have HE : Hid (okRx s k x = false) := okI_4 hlt (by rw [HQ.out, ← HM.out, g6, h7]; rfl)
                  clear h7
                  go_wp2_with fail
                  have BD : Below wr.heap.size wr wr.drew := (Below.refl _ _).drew
                  have kk : wr.drew.cell? ⟨w1.heap.size, 0, none⟩ = some (.int .u64 (N : Int)) := celB BD cS'
                  refine wp_region_noPanic ?_
                  refine wp_region_held_drew (S := fun w' => w'.cell? ⟨w1.heap.size, 0, none⟩ = some (.int .u64 (N : Int))) (by kernel_rfl) kk (fun hH => ?_)
                  refine wpAnyH_take (i := 0) (oi := ⟨_, _, _, _, _, _⟩) (v := ?veff0) rfl (by kernel_rfl) (by kernel_rfl) (by kernel_rfl) (fun _ _ _ h => h) (Or.inl ⟨by rfl, ?yeff0⟩) (by assumption) ?reff0
                  case yeff0 => intro w hSw; (try dsimp only at hSw); go_simp; try with_reducible rfl
                  try simp only [Act.put, List.setIfInBounds_toArray, List.set_cons_zero, List.set_cons_succ]
                  refine wpAnyH_take (i := 1) (oi := ⟨_, _, _, _, _, _⟩) (v := ?veff1) rfl (by kernel_rfl) (by kernel_rfl) (by kernel_rfl) (fun _ _ _ h => h) (Or.inl ⟨by rfl, ?yeff1⟩) (by assumption) ?reff1
                  case yeff1 => intro w hSw; (try dsimp only at hSw); go_simp; try with_reducible rfl
                  try simp only [Act.put, List.setIfInBounds_toArray, List.set_cons_zero, List.set_cons_succ]
                  refine wpAnyH_take (i := 2) (oi := ⟨_, _, _, _, _, _⟩) (v := ?veff2) rfl (by kernel_rfl) (by kernel_rfl) (by kernel_rfl) (fun _ _ _ h => h) (Or.inl ⟨by rfl, ?yeff2⟩) (by assumption) ?reff2
                  case yeff2 => intro w hSw; (try dsimp only at hSw); go_simp; try with_reducible rfl
                  try simp only [Act.put, List.setIfInBounds_toArray, List.set_cons_zero, List.set_cons_succ]
                  refine wpAnyH_take (i := 3) (oi := ⟨_, _, _, _, _, _⟩) (v := ?veff3) rfl (by kernel_rfl) (by kernel_rfl) (by kernel_rfl) (fun _ _ _ h => h) (Or.inl ⟨by rfl, ?yeff3⟩) (by assumption) ?reff3
                  case yeff3 => intro w hSw; (try dsimp only at hSw); go_simp; try with_reducible rfl
                  try simp only [Act.put, List.setIfInBounds_toArray, List.set_cons_zero, List.set_cons_succ]
                  refine wpAnyH_take (i := 4) (oi := ⟨_, _, _, _, _, _⟩) (v := ?veff4) rfl (by kernel_rfl) (by kernel_rfl) (by kernel_rfl) (fun _ _ _ h => h) (Or.inl ⟨by rfl, ?yeff4⟩) (by assumption) ?reff4
                  case yeff4 => intro w hSw; (try dsimp only at hSw); go_simp; try with_reducible rfl
                  try simp only [Act.put, List.setIfInBounds_toArray, List.set_cons_zero, List.set_cons_succ]
                  refine wpAnyH_ready (rs := [5]) (by kernel_rfl) (by simp) ?_
                  refine AllReadyH.cons (o := ⟨_, _, _, _, _, _⟩) rfl (fun KK hK => ?_) AllReadyH.nil
                  go_simp
                  refine (only_z _ p hp7 rfl _).mono ?_
                  rintro r W1 ⟨rfl, hBk⟩
                  have kk1 : W1.cell? ⟨w1.heap.size, 0, none⟩ = some (.int .u64 (N : Int)) := celB hBk kk
                  have BE := stRg BD hBk
                  clear hBk
                  go_wp2_with fail
                  refine hK.out _ _ kk1 (fun hH5 => ?_)
                  clear hK KK hH
                  try simp only [Act.put, List.setIfInBounds_toArray, List.set_cons_zero, List.set_cons_succ]
                  refine wpAnyH_ready (rs := [6]) (by kernel_rfl) (by simp) ?_
                  refine AllReadyH.cons (o := ⟨_, _, _, _, _, _⟩) rfl (fun KK hK => ?_) AllReadyH.nil
                  go_simp
                  refine (meets_c _ _ hNlt (two_lt hp7) _ _ g6).mono ?_
                  rintro r W2 ⟨rfl, hBk⟩
                  have kk2 : W2.cell? ⟨w1.heap.size, 0, none⟩ = some (.int .u64 (N : Int)) := celB hBk kk1
                  have BF := stRg BE hBk
                  clear hBk
                  go_wp2_with fail
                  refine hK.out _ _ kk2 (fun hH6 => ?_)
                  clear hK KK hH5
                  try simp only [Act.put, List.setIfInBounds_toArray, List.set_cons_zero, List.set_cons_succ]
                  refine wpAnyH_take (i := 7) (oi := ⟨_, _, _, _, _, _⟩) (v := ?veff7) rfl (by kernel_rfl) (by kernel_rfl) (by kernel_rfl) (fun _ _ _ h => h) (Or.inl ⟨by rfl, ?yeff7⟩) (by assumption) ?reff7
                  case yeff7 => intro w hSw; (try dsimp only at hSw); go_simp; try with_reducible rfl
                  try simp only [Act.put, List.setIfInBounds_toArray, List.set_cons_zero, List.set_cons_succ]
                  refine wpAnyH_take (i := 8) (oi := ⟨_, _, _, _, _, _⟩) (v := ?veff8) rfl (by kernel_rfl) (by kernel_rfl) (by kernel_rfl) (fun _ _ _ h => h) (Or.inl ⟨by rfl, ?yeff8⟩) (by assumption) ?reff8
                  case yeff8 => intro w hSw; (try dsimp only at hSw); go_simp; try with_reducible rfl
                  try simp only [Act.put, List.setIfInBounds_toArray, List.set_cons_zero, List.set_cons_succ]
                  refine wpAnyH_done (by kernel_rfl) (NoPanic.normal ?_) _
                  have BW := stRg hB BF
                  clear BF BE BD
                  go_wp2
                  go_ret
                  exact ⟨ret_bool HE.out.symm, stRg BU3 BW⟩
            · obtain rfl : p = x.read.length := by omega
              have BW := stRg BU3 hB
              clear H4 cS' cS
              have HL : Hid (okRx s k x = (decide (x.gen = 0) && decide (x.share.length = 0))) := okI_out G1.out G2.out G3.out HO.out hinn
              clear hinn
              by_cases h0 : x.gen = 0
              · have d0 : (x.gen == 0) = true := by simp [h0]
                obtain ⟨b, hb⟩ : ∃ b, decide (x.share.length = 0) = b := ⟨_, rfl⟩
                have hb' : (((x.share.length : Nat) : Int) == 0) = b := by rw [← hb, Bool.eq_iff_iff]; simp
                have hb2 : (x.share.length == 0) = b := by rw [← hb, Bool.eq_iff_iff]; simp
                have HE : Hid (okRx s k x = b) := by show _ = _; rw [HL.out, decide_eq_true h0, hb]; rfl
                clear h0 hb
                go_wp2
                go_ret
                exact ⟨ret_bool (by first | (rw [HE.out]; exact hb'.symm) | (rw [HE.out, ← hb2]; done) | (rw [HE.out, ← hb2]; simp) | (rw [HE.out, ← hb']; simp)), BW⟩
              · have d0 : (x.gen == 0) = false := by simp [h0]
                have HE : Hid (okRx s k x = false) := by show _ = _; rw [HL.out, decide_eq_false h0]; rfl
                clear h0
                go_wp2
                go_ret
                exact ⟨ret_bool HE.out.symm, BW⟩

theorem goodReader_c (s : Rg) (k : Nat) (a0 a1 a2 : Option Addr) (c0 c1 c2 : Nat) (b : Bool) (w : World) (hs : RgR w s a0 a1 a2) (hk : k < s.rds.length) (hn : s.rds.length ≤ 5) (he : s.ends.length ≤ 6) (h : okRx s k (rxA s.rds k) = b) :
    Calls Try.prog 55 #[rgV s a0 c0 a1 c1 a2 c2, .int .i64 (k : Int)] w fun e w' => e = .returned (.bool b) ∧ Below w.heap.size w w' := by
  rw [← h]; exact goodReader_any s k a0 a1 a2 c0 c1 c2 w hs hk hn he

end Go.Proofs.Ytgiekkipkgdjaaa
