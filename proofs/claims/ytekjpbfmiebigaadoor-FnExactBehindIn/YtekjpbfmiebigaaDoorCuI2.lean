/-
  Clusters, the program's side: goodView, goodNode. Made by mkcui2.py.
-/
import Derived.Test.YtekjpbfmiebigaaDoorCuI1
import Derived.Deep.CutRange
namespace Go.Proofs.YtekjpbfmiebigaaDoor
open Go.RowKit

set_option maxRecDepth 100000 in
set_option maxHeartbeats 4000000 in
theorem goodView_c (e l n : Int) (a : Option Addr) (c : Nat) (st : List Int) (b : Bool) (w : World) (hs : Ints w a st) (hl : st.length ≤ maxLen) (hn : n ≤ 7) (hr1 : -9223372036854775808 ≤ l) (hr2 : l < 9223372036854775808) (h : vwB e l st n = b) :
    Calls Tryd.prog 70 #[.agg #[.int .i64 e, .int .i64 l, .slice a st.length c], .int .i64 n] w fun r w' => r = .returned (.bool b) ∧ Below w.heap.size w w' := by
  obtain ⟨u0, hu0⟩ : ∃ u0, (w.alloc (.cells #[.int .i64 e, .int .i64 l, .slice a st.length c] 24)) = u0 := ⟨_, rfl⟩
  have q0 : u0.cell? ⟨w.heap.size, 0, none⟩ = some (.int .i64 e) := by rw [← hu0]; simp [go_sem]
  have q1 : u0.cell? ⟨w.heap.size, 1, none⟩ = some (.int .i64 l) := by rw [← hu0]; simp [go_sem]
  have q2 : u0.cell? ⟨w.heap.size, 2, none⟩ = some (.slice a st.length c) := by rw [← hu0]; simp [go_sem]
  have bB : Below w.heap.size w u0 := by rw [← hu0]; exact alCu _ _
  have hI := hs.below bB
  cases g1 : riseB st n with
  | false =>
    have HE : Hid (b = false) := by show _ = _; rw [← h, vwB, g1]; simp
    go_enter Tryd.func70, Tryd.ntmps70
    go_wp2_with fail
    try rw [hu0]
    refine (setFrom_c _ _ _ _ _ _ hI hl hn g1).mono ?_
    rintro r w1 ⟨rfl, hB1⟩
    obtain ⟨N, hN⟩ : ∃ N, setR st n = N := ⟨_, rfl⟩
    have HN : Hid (setR st n = N) := hN
    rw [hN]
    clear hN
    obtain ⟨u3, hu3⟩ : ∃ u3, w1.alloc (.cells #[.int .u64 (N : Int)] 52) = u3 := ⟨_, rfl⟩
    have B3 : Below u0.heap.size u0 u3 := by rw [← hu3]; exact stCu hB1 (alCu _ _)
    have cS : u3.cell? ⟨w1.heap.size, 0, none⟩ = some (.int .u64 (N : Int)) := by rw [← hu3]; simp [go_sem]
    have p0 := celB B3 q0
    have p1 := celB B3 q1
    have BU := stCu bB B3
    clear hB1 q0 q1 q2
    go_upto_region 2 with fail
    try rw [hu3]
    clear hu3 hu0
    have BD : Below u3.heap.size u3 u3.drew := (Below.refl _ _).drew
    have kk : u3.drew.cell? ⟨w.heap.size, 0, none⟩ = some (.int .i64 e) ∧ u3.drew.cell? ⟨w.heap.size, 1, none⟩ = some (.int .i64 l) ∧ u3.drew.cell? ⟨w1.heap.size, 0, none⟩ = some (.int .u64 (N : Int)) := ⟨celB BD p0, celB BD p1, celB BD cS⟩
    refine wp_region_noPanic ?_
    refine wp_region_held_drew (S := fun w' => w'.cell? ⟨w.heap.size, 0, none⟩ = some (.int .i64 e) ∧ w'.cell? ⟨w.heap.size, 1, none⟩ = some (.int .i64 l) ∧ w'.cell? ⟨w1.heap.size, 0, none⟩ = some (.int .u64 (N : Int))) (by kernel_rfl) kk (fun hH => ?_)
    refine wpAnyH_take (i := 0) (oi := ⟨_, _, _, _, _, _⟩) (v := ?va0) rfl (by kernel_rfl) (by kernel_rfl) (by kernel_rfl) (fun _ _ _ h => h) (Or.inl ⟨by rfl, ?ya0⟩) (by assumption) ?ra0
    case ya0 => intro w hSw; (try dsimp only at hSw); go_simp; try with_reducible rfl
    try simp only [Act.put, List.setIfInBounds_toArray, List.set_cons_zero, List.set_cons_succ]
    refine wpAnyH_take (i := 1) (oi := ⟨_, _, _, _, _, _⟩) (v := ?va1) rfl (by kernel_rfl) (by kernel_rfl) (by kernel_rfl) (fun _ _ _ h => h) (Or.inl ⟨by rfl, ?ya1⟩) (by assumption) ?ra1
    case ya1 => intro w hSw; (try dsimp only at hSw); go_simp; try with_reducible rfl
    try simp only [Act.put, List.setIfInBounds_toArray, List.set_cons_zero, List.set_cons_succ]
    refine wpAnyH_take (i := 2) (oi := ⟨_, _, _, _, _, _⟩) (v := undef) rfl (by kernel_rfl) (by kernel_rfl) (by kernel_rfl) (fun _ _ _ h => h) (Or.inr ⟨by rfl, rfl⟩) (by assumption) ?_
    try simp only [Act.put, List.setIfInBounds_toArray, List.set_cons_zero, List.set_cons_succ]
    refine wpAnyH_take (i := 3) (oi := ⟨_, _, _, _, _, _⟩) (v := undef) rfl (by kernel_rfl) (by kernel_rfl) (by kernel_rfl) (fun _ _ _ h => h) (Or.inr ⟨by rfl, rfl⟩) (by assumption) ?_
    try simp only [Act.put, List.setIfInBounds_toArray, List.set_cons_zero, List.set_cons_succ]
    refine wpAnyH_take (i := 4) (oi := ⟨_, _, _, _, _, _⟩) (v := undef) rfl (by kernel_rfl) (by kernel_rfl) (by kernel_rfl) (fun _ _ _ h => h) (Or.inr ⟨by rfl, rfl⟩) (by assumption) ?_
    try simp only [Act.put, List.setIfInBounds_toArray, List.set_cons_zero, List.set_cons_succ]
    refine wpAnyH_take (i := 5) (oi := ⟨_, _, _, _, _, _⟩) (v := ?va5) rfl (by kernel_rfl) (by kernel_rfl) (by kernel_rfl) (fun _ _ _ h => h) (Or.inl ⟨by rfl, ?ya5⟩) (by assumption) ?ra5
    case ya5 => intro w hSw; (try dsimp only at hSw); go_simp; try with_reducible rfl
    try simp only [Act.put, List.setIfInBounds_toArray, List.set_cons_zero, List.set_cons_succ]
    refine wpAnyH_take (i := 6) (oi := ⟨_, _, _, _, _, _⟩) (v := ?va6) rfl (by kernel_rfl) (by kernel_rfl) (by kernel_rfl) (fun _ _ _ h => h) (Or.inl ⟨by rfl, ?ya6⟩) (by assumption) ?ra6
    case ya6 => intro w hSw; (try dsimp only at hSw); go_simp; try with_reducible rfl
    try simp only [Act.put, List.setIfInBounds_toArray, List.set_cons_zero, List.set_cons_succ]
    refine wpAnyH_take (i := 7) (oi := ⟨_, _, _, _, _, _⟩) (v := undef) rfl (by kernel_rfl) (by kernel_rfl) (by kernel_rfl) (fun _ _ _ h => h) (Or.inr ⟨by rfl, rfl⟩) (by assumption) ?_
    try simp only [Act.put, List.setIfInBounds_toArray, List.set_cons_zero, List.set_cons_succ]
    refine wpAnyH_take (i := 8) (oi := ⟨_, _, _, _, _, _⟩) (v := undef) rfl (by kernel_rfl) (by kernel_rfl) (by kernel_rfl) (fun _ _ _ h => h) (Or.inr ⟨by rfl, rfl⟩) (by assumption) ?_
    try simp only [Act.put, List.setIfInBounds_toArray, List.set_cons_zero, List.set_cons_succ]
    refine wpAnyH_take (i := 9) (oi := ⟨_, _, _, _, _, _⟩) (v := undef) rfl (by kernel_rfl) (by kernel_rfl) (by kernel_rfl) (fun _ _ _ h => h) (Or.inr ⟨by rfl, rfl⟩) (by assumption) ?_
    try simp only [Act.put, List.setIfInBounds_toArray, List.set_cons_zero, List.set_cons_succ]
    refine wpAnyH_take (i := 10) (oi := ⟨_, _, _, _, _, _⟩) (v := undef) rfl (by kernel_rfl) (by kernel_rfl) (by kernel_rfl) (fun _ _ _ h => h) (Or.inr ⟨by rfl, rfl⟩) (by assumption) ?_
    try simp only [Act.put, List.setIfInBounds_toArray, List.set_cons_zero, List.set_cons_succ]
    refine wpAnyH_take (i := 11) (oi := ⟨_, _, _, _, _, _⟩) (v := undef) rfl (by kernel_rfl) (by kernel_rfl) (by kernel_rfl) (fun _ _ _ h => h) (Or.inr ⟨by rfl, rfl⟩) (by assumption) ?_
    try simp only [Act.put, List.setIfInBounds_toArray, List.set_cons_zero, List.set_cons_succ]
    refine wpAnyH_take (i := 12) (oi := ⟨_, _, _, _, _, _⟩) (v := ?va12) rfl (by kernel_rfl) (by kernel_rfl) (by kernel_rfl) (fun _ _ _ h => h) (Or.inl ⟨by rfl, ?ya12⟩) (by assumption) ?ra12
    case ya12 => intro w hSw; (try dsimp only at hSw); go_simp; try with_reducible rfl
    try simp only [Act.put, List.setIfInBounds_toArray, List.set_cons_zero, List.set_cons_succ]
    refine wpAnyH_take (i := 13) (oi := ⟨_, _, _, _, _, _⟩) (v := ?va13) rfl (by kernel_rfl) (by kernel_rfl) (by kernel_rfl) (fun _ _ _ h => h) (Or.inl ⟨by rfl, ?ya13⟩) (by assumption) ?ra13
    case ya13 => intro w hSw; (try dsimp only at hSw); go_simp; try with_reducible rfl
    try simp only [Act.put, List.setIfInBounds_toArray, List.set_cons_zero, List.set_cons_succ]
    refine wpAnyH_done (by kernel_rfl) (NoPanic.normal ?_) _
    have BX := stCu BU BD
    clear BD kk
    go_wp2
    go_ret
    exact ⟨ret_bool HE.out.symm, BX⟩
  | true =>
    cases g2 : inB e 0 100 with
    | false =>
      have HE : Hid (b = false) := by show _ = _; rw [← h, vwB, g2]; rfl
      go_enter Tryd.func70, Tryd.ntmps70
      go_wp2_with fail
      try rw [hu0]
      refine (setFrom_c _ _ _ _ _ _ hI hl hn g1).mono ?_
      rintro r w1 ⟨rfl, hB1⟩
      obtain ⟨N, hN⟩ : ∃ N, setR st n = N := ⟨_, rfl⟩
      have HN : Hid (setR st n = N) := hN
      rw [hN]
      clear hN
      obtain ⟨u3, hu3⟩ : ∃ u3, w1.alloc (.cells #[.int .u64 (N : Int)] 52) = u3 := ⟨_, rfl⟩
      have B3 : Below u0.heap.size u0 u3 := by rw [← hu3]; exact stCu hB1 (alCu _ _)
      have cS : u3.cell? ⟨w1.heap.size, 0, none⟩ = some (.int .u64 (N : Int)) := by rw [← hu3]; simp [go_sem]
      have p0 := celB B3 q0
      have p1 := celB B3 q1
      have BU := stCu bB B3
      clear hB1 q0 q1 q2
      go_upto_region 2 with fail
      try rw [hu3]
      clear hu3 hu0
      have BD : Below u3.heap.size u3 u3.drew := (Below.refl _ _).drew
      have kk : u3.drew.cell? ⟨w.heap.size, 0, none⟩ = some (.int .i64 e) ∧ u3.drew.cell? ⟨w.heap.size, 1, none⟩ = some (.int .i64 l) ∧ u3.drew.cell? ⟨w1.heap.size, 0, none⟩ = some (.int .u64 (N : Int)) := ⟨celB BD p0, celB BD p1, celB BD cS⟩
      refine wp_region_noPanic ?_
      refine wp_region_held_drew (S := fun w' => w'.cell? ⟨w.heap.size, 0, none⟩ = some (.int .i64 e) ∧ w'.cell? ⟨w.heap.size, 1, none⟩ = some (.int .i64 l) ∧ w'.cell? ⟨w1.heap.size, 0, none⟩ = some (.int .u64 (N : Int))) (by kernel_rfl) kk (fun hH => ?_)
      refine wpAnyH_take (i := 0) (oi := ⟨_, _, _, _, _, _⟩) (v := ?vb0) rfl (by kernel_rfl) (by kernel_rfl) (by kernel_rfl) (fun _ _ _ h => h) (Or.inl ⟨by rfl, ?yb0⟩) (by assumption) ?rb0
      case yb0 => intro w hSw; (try dsimp only at hSw); go_simp; try with_reducible rfl
      try simp only [Act.put, List.setIfInBounds_toArray, List.set_cons_zero, List.set_cons_succ]
      refine wpAnyH_take (i := 1) (oi := ⟨_, _, _, _, _, _⟩) (v := ?vb1) rfl (by kernel_rfl) (by kernel_rfl) (by kernel_rfl) (fun _ _ _ h => h) (Or.inl ⟨by rfl, ?yb1⟩) (by assumption) ?rb1
      case yb1 => intro w hSw; (try dsimp only at hSw); go_simp; try with_reducible rfl
      try simp only [Act.put, List.setIfInBounds_toArray, List.set_cons_zero, List.set_cons_succ]
      refine wpAnyH_take (i := 2) (oi := ⟨_, _, _, _, _, _⟩) (v := ?vb2) rfl (by kernel_rfl) (by kernel_rfl) (by kernel_rfl) (fun _ _ _ h => h) (Or.inl ⟨by rfl, ?yb2⟩) (by assumption) ?rb2
      case yb2 => intro w hSw; (try dsimp only at hSw); go_simp; try with_reducible rfl
      try simp only [Act.put, List.setIfInBounds_toArray, List.set_cons_zero, List.set_cons_succ]
      refine wpAnyH_take (i := 3) (oi := ⟨_, _, _, _, _, _⟩) (v := ?vb3) rfl (by kernel_rfl) (by kernel_rfl) (by kernel_rfl) (fun _ _ _ h => h) (Or.inl ⟨by rfl, ?yb3⟩) (by assumption) ?rb3
      case yb3 => intro w hSw; (try dsimp only at hSw); go_simp; try with_reducible rfl
      try simp only [Act.put, List.setIfInBounds_toArray, List.set_cons_zero, List.set_cons_succ]
      refine wpAnyH_ready (rs := [4]) (by kernel_rfl) (by simp) ?_
      refine AllReadyH.cons (o := ⟨_, _, _, _, _, _⟩) rfl (fun KK hK => ?_) AllReadyH.nil
      go_simp
      refine (within_c _ _ _ _ g2).mono ?_
      rintro r W1 ⟨rfl, hw⟩
      rw [hw]
      clear hw
      go_wp2_with fail
      refine hK.out _ _ kk (fun hH4 => ?_)
      clear hK KK hH
      try simp only [Act.put, List.setIfInBounds_toArray, List.set_cons_zero, List.set_cons_succ]
      refine wpAnyH_take (i := 5) (oi := ⟨_, _, _, _, _, _⟩) (v := ?vb5) rfl (by kernel_rfl) (by kernel_rfl) (by kernel_rfl) (fun _ _ _ h => h) (Or.inl ⟨by rfl, ?yb5⟩) (by assumption) ?rb5
      case yb5 => intro w hSw; (try dsimp only at hSw); go_simp; try with_reducible rfl
      try simp only [Act.put, List.setIfInBounds_toArray, List.set_cons_zero, List.set_cons_succ]
      refine wpAnyH_take (i := 6) (oi := ⟨_, _, _, _, _, _⟩) (v := ?vb6) rfl (by kernel_rfl) (by kernel_rfl) (by kernel_rfl) (fun _ _ _ h => h) (Or.inl ⟨by rfl, ?yb6⟩) (by assumption) ?rb6
      case yb6 => intro w hSw; (try dsimp only at hSw); go_simp; try with_reducible rfl
      try simp only [Act.put, List.setIfInBounds_toArray, List.set_cons_zero, List.set_cons_succ]
      refine wpAnyH_take (i := 7) (oi := ⟨_, _, _, _, _, _⟩) (v := undef) rfl (by kernel_rfl) (by kernel_rfl) (by kernel_rfl) (fun _ _ _ h => h) (Or.inr ⟨by rfl, rfl⟩) (by assumption) ?_
      try simp only [Act.put, List.setIfInBounds_toArray, List.set_cons_zero, List.set_cons_succ]
      refine wpAnyH_take (i := 8) (oi := ⟨_, _, _, _, _, _⟩) (v := undef) rfl (by kernel_rfl) (by kernel_rfl) (by kernel_rfl) (fun _ _ _ h => h) (Or.inr ⟨by rfl, rfl⟩) (by assumption) ?_
      try simp only [Act.put, List.setIfInBounds_toArray, List.set_cons_zero, List.set_cons_succ]
      refine wpAnyH_take (i := 9) (oi := ⟨_, _, _, _, _, _⟩) (v := undef) rfl (by kernel_rfl) (by kernel_rfl) (by kernel_rfl) (fun _ _ _ h => h) (Or.inr ⟨by rfl, rfl⟩) (by assumption) ?_
      try simp only [Act.put, List.setIfInBounds_toArray, List.set_cons_zero, List.set_cons_succ]
      refine wpAnyH_take (i := 10) (oi := ⟨_, _, _, _, _, _⟩) (v := undef) rfl (by kernel_rfl) (by kernel_rfl) (by kernel_rfl) (fun _ _ _ h => h) (Or.inr ⟨by rfl, rfl⟩) (by assumption) ?_
      try simp only [Act.put, List.setIfInBounds_toArray, List.set_cons_zero, List.set_cons_succ]
      refine wpAnyH_take (i := 11) (oi := ⟨_, _, _, _, _, _⟩) (v := undef) rfl (by kernel_rfl) (by kernel_rfl) (by kernel_rfl) (fun _ _ _ h => h) (Or.inr ⟨by rfl, rfl⟩) (by assumption) ?_
      try simp only [Act.put, List.setIfInBounds_toArray, List.set_cons_zero, List.set_cons_succ]
      refine wpAnyH_take (i := 12) (oi := ⟨_, _, _, _, _, _⟩) (v := ?vb12) rfl (by kernel_rfl) (by kernel_rfl) (by kernel_rfl) (fun _ _ _ h => h) (Or.inl ⟨by rfl, ?yb12⟩) (by assumption) ?rb12
      case yb12 => intro w hSw; (try dsimp only at hSw); go_simp; try with_reducible rfl
      try simp only [Act.put, List.setIfInBounds_toArray, List.set_cons_zero, List.set_cons_succ]
      refine wpAnyH_take (i := 13) (oi := ⟨_, _, _, _, _, _⟩) (v := ?vb13) rfl (by kernel_rfl) (by kernel_rfl) (by kernel_rfl) (fun _ _ _ h => h) (Or.inl ⟨by rfl, ?yb13⟩) (by assumption) ?rb13
      case yb13 => intro w hSw; (try dsimp only at hSw); go_simp; try with_reducible rfl
      try simp only [Act.put, List.setIfInBounds_toArray, List.set_cons_zero, List.set_cons_succ]
      refine wpAnyH_done (by kernel_rfl) (NoPanic.normal ?_) _
      have BX := stCu BU BD
      clear BD kk
      go_wp2
      go_ret
      exact ⟨ret_bool HE.out.symm, BX⟩
    | true =>
      have HE : Hid (b = st.contains l) := by show _ = _; rw [← h, vwB, g1, g2]; rfl
      obtain ⟨b3, hb3⟩ : ∃ b3, st.contains l = b3 := ⟨_, rfl⟩
      rw [hb3] at HE
      go_enter Tryd.func70, Tryd.ntmps70
      go_wp2_with fail
      try rw [hu0]
      refine (setFrom_c _ _ _ _ _ _ hI hl hn g1).mono ?_
      rintro r w1 ⟨rfl, hB1⟩
      obtain ⟨N, hN⟩ : ∃ N, setR st n = N := ⟨_, rfl⟩
      have HN : Hid (setR st n = N) := hN
      rw [hN]
      clear hN
      obtain ⟨u3, hu3⟩ : ∃ u3, w1.alloc (.cells #[.int .u64 (N : Int)] 52) = u3 := ⟨_, rfl⟩
      have B3 : Below u0.heap.size u0 u3 := by rw [← hu3]; exact stCu hB1 (alCu _ _)
      have cS : u3.cell? ⟨w1.heap.size, 0, none⟩ = some (.int .u64 (N : Int)) := by rw [← hu3]; simp [go_sem]
      have p0 := celB B3 q0
      have p1 := celB B3 q1
      have BU := stCu bB B3
      clear hB1 q0 q1 q2
      have hNlt : N < 128 := by rw [← HN.out]; exact setR_lt hn
      have g3 : (N &&& oneB l != 0) = b3 := by rw [← HN.out, ← hb3]; exact meets_one hn g1
      clear hb3
      go_upto_region 2 with fail
      try rw [hu3]
      clear hu3 hu0
      have BD : Below u3.heap.size u3 u3.drew := (Below.refl _ _).drew
      have kk : u3.drew.cell? ⟨w.heap.size, 0, none⟩ = some (.int .i64 e) ∧ u3.drew.cell? ⟨w.heap.size, 1, none⟩ = some (.int .i64 l) ∧ u3.drew.cell? ⟨w1.heap.size, 0, none⟩ = some (.int .u64 (N : Int)) := ⟨celB BD p0, celB BD p1, celB BD cS⟩
      refine wp_region_noPanic ?_
      refine wp_region_held_drew (S := fun w' => w'.cell? ⟨w.heap.size, 0, none⟩ = some (.int .i64 e) ∧ w'.cell? ⟨w.heap.size, 1, none⟩ = some (.int .i64 l) ∧ w'.cell? ⟨w1.heap.size, 0, none⟩ = some (.int .u64 (N : Int))) (by kernel_rfl) kk (fun hH => ?_)
      refine wpAnyH_take (i := 0) (oi := ⟨_, _, _, _, _, _⟩) (v := ?vc0) rfl (by kernel_rfl) (by kernel_rfl) (by kernel_rfl) (fun _ _ _ h => h) (Or.inl ⟨by rfl, ?yc0⟩) (by assumption) ?rc0
      case yc0 => intro w hSw; (try dsimp only at hSw); go_simp; try with_reducible rfl
      try simp only [Act.put, List.setIfInBounds_toArray, List.set_cons_zero, List.set_cons_succ]
      refine wpAnyH_take (i := 1) (oi := ⟨_, _, _, _, _, _⟩) (v := ?vc1) rfl (by kernel_rfl) (by kernel_rfl) (by kernel_rfl) (fun _ _ _ h => h) (Or.inl ⟨by rfl, ?yc1⟩) (by assumption) ?rc1
      case yc1 => intro w hSw; (try dsimp only at hSw); go_simp; try with_reducible rfl
      try simp only [Act.put, List.setIfInBounds_toArray, List.set_cons_zero, List.set_cons_succ]
      refine wpAnyH_take (i := 2) (oi := ⟨_, _, _, _, _, _⟩) (v := ?vc2) rfl (by kernel_rfl) (by kernel_rfl) (by kernel_rfl) (fun _ _ _ h => h) (Or.inl ⟨by rfl, ?yc2⟩) (by assumption) ?rc2
      case yc2 => intro w hSw; (try dsimp only at hSw); go_simp; try with_reducible rfl
      try simp only [Act.put, List.setIfInBounds_toArray, List.set_cons_zero, List.set_cons_succ]
      refine wpAnyH_take (i := 3) (oi := ⟨_, _, _, _, _, _⟩) (v := ?vc3) rfl (by kernel_rfl) (by kernel_rfl) (by kernel_rfl) (fun _ _ _ h => h) (Or.inl ⟨by rfl, ?yc3⟩) (by assumption) ?rc3
      case yc3 => intro w hSw; (try dsimp only at hSw); go_simp; try with_reducible rfl
      try simp only [Act.put, List.setIfInBounds_toArray, List.set_cons_zero, List.set_cons_succ]
      refine wpAnyH_ready (rs := [4]) (by kernel_rfl) (by simp) ?_
      refine AllReadyH.cons (o := ⟨_, _, _, _, _, _⟩) rfl (fun KK hK => ?_) AllReadyH.nil
      go_simp
      refine (within_c _ _ _ _ g2).mono ?_
      rintro r W1 ⟨rfl, hw⟩
      rw [hw]
      clear hw
      go_wp2_with fail
      refine hK.out _ _ kk (fun hH4 => ?_)
      clear hK KK hH
      try simp only [Act.put, List.setIfInBounds_toArray, List.set_cons_zero, List.set_cons_succ]
      refine wpAnyH_take (i := 5) (oi := ⟨_, _, _, _, _, _⟩) (v := ?vc5) rfl (by kernel_rfl) (by kernel_rfl) (by kernel_rfl) (fun _ _ _ h => h) (Or.inl ⟨by rfl, ?yc5⟩) (by assumption) ?rc5
      case yc5 => intro w hSw; (try dsimp only at hSw); go_simp; try with_reducible rfl
      try simp only [Act.put, List.setIfInBounds_toArray, List.set_cons_zero, List.set_cons_succ]
      refine wpAnyH_take (i := 6) (oi := ⟨_, _, _, _, _, _⟩) (v := ?vc6) rfl (by kernel_rfl) (by kernel_rfl) (by kernel_rfl) (fun _ _ _ h => h) (Or.inl ⟨by rfl, ?yc6⟩) (by assumption) ?rc6
      case yc6 => intro w hSw; (try dsimp only at hSw); go_simp; try with_reducible rfl
      try simp only [Act.put, List.setIfInBounds_toArray, List.set_cons_zero, List.set_cons_succ]
      refine wpAnyH_take (i := 7) (oi := ⟨_, _, _, _, _, _⟩) (v := ?vc7) rfl (by kernel_rfl) (by kernel_rfl) (by kernel_rfl) (fun _ _ _ h => h) (Or.inl ⟨by rfl, ?yc7⟩) (by assumption) ?rc7
      case yc7 => intro w hSw; (try dsimp only at hSw); go_simp; try with_reducible rfl
      try simp only [Act.put, List.setIfInBounds_toArray, List.set_cons_zero, List.set_cons_succ]
      refine wpAnyH_take (i := 8) (oi := ⟨_, _, _, _, _, _⟩) (v := ?vc8) rfl (by kernel_rfl) (by kernel_rfl) (by kernel_rfl) (fun _ _ _ h => h) (Or.inl ⟨by rfl, ?yc8⟩) (by assumption) ?rc8
      case yc8 => intro w hSw; (try dsimp only at hSw); go_simp; try with_reducible rfl
      try simp only [Act.put, List.setIfInBounds_toArray, List.set_cons_zero, List.set_cons_succ]
      refine wpAnyH_take (i := 9) (oi := ⟨_, _, _, _, _, _⟩) (v := ?vc9) rfl (by kernel_rfl) (by kernel_rfl) (by kernel_rfl) (fun _ _ _ h => h) (Or.inl ⟨by rfl, ?yc9⟩) (by assumption) ?rc9
      case yc9 => intro w hSw; (try dsimp only at hSw); go_simp; try with_reducible rfl
      try simp only [Act.put, List.setIfInBounds_toArray, List.set_cons_zero, List.set_cons_succ]
      refine wpAnyH_ready (rs := [10]) (by kernel_rfl) (by simp) ?_
      refine AllReadyH.cons (o := ⟨_, _, _, _, _, _⟩) rfl (fun KK hK => ?_) AllReadyH.nil
      go_simp
      refine (onlyA_c l hr1 hr2 _).mono ?_
      rintro r W2 ⟨rfl, hBk⟩
      have kk1 : W2.cell? ⟨w.heap.size, 0, none⟩ = some (.int .i64 e) ∧ W2.cell? ⟨w.heap.size, 1, none⟩ = some (.int .i64 l) ∧ W2.cell? ⟨w1.heap.size, 0, none⟩ = some (.int .u64 (N : Int)) := by obtain ⟨t0, t1, t2⟩ := kk; exact ⟨celB hBk t0, celB hBk t1, celB hBk t2⟩
      have BE := stCu BD hBk
      clear hBk
      go_wp2_with fail
      refine hK.out _ _ kk1 (fun hH10 => ?_)
      clear hK KK hH4
      try simp only [Act.put, List.setIfInBounds_toArray, List.set_cons_zero, List.set_cons_succ]
      refine wpAnyH_ready (rs := [11]) (by kernel_rfl) (by simp) ?_
      refine AllReadyH.cons (o := ⟨_, _, _, _, _, _⟩) rfl (fun KK hK => ?_) AllReadyH.nil
      go_simp
      refine (meetsA_c _ _ hNlt (oneB_lt _) _ _ g3).mono ?_
      rintro r W3 ⟨rfl, hBk⟩
      have kk2 : W3.cell? ⟨w.heap.size, 0, none⟩ = some (.int .i64 e) ∧ W3.cell? ⟨w.heap.size, 1, none⟩ = some (.int .i64 l) ∧ W3.cell? ⟨w1.heap.size, 0, none⟩ = some (.int .u64 (N : Int)) := by obtain ⟨t0, t1, t2⟩ := kk1; exact ⟨celB hBk t0, celB hBk t1, celB hBk t2⟩
      have BF := stCu BE hBk
      clear hBk
      go_wp2_with fail
      refine hK.out _ _ kk2 (fun hH11 => ?_)
      clear hK KK hH10
      try simp only [Act.put, List.setIfInBounds_toArray, List.set_cons_zero, List.set_cons_succ]
      refine wpAnyH_take (i := 12) (oi := ⟨_, _, _, _, _, _⟩) (v := ?vc12) rfl (by kernel_rfl) (by kernel_rfl) (by kernel_rfl) (fun _ _ _ h => h) (Or.inl ⟨by rfl, ?yc12⟩) (by assumption) ?rc12
      case yc12 => intro w hSw; (try dsimp only at hSw); go_simp; try with_reducible rfl
      try simp only [Act.put, List.setIfInBounds_toArray, List.set_cons_zero, List.set_cons_succ]
      refine wpAnyH_take (i := 13) (oi := ⟨_, _, _, _, _, _⟩) (v := ?vc13) rfl (by kernel_rfl) (by kernel_rfl) (by kernel_rfl) (fun _ _ _ h => h) (Or.inl ⟨by rfl, ?yc13⟩) (by assumption) ?rc13
      case yc13 => intro w hSw; (try dsimp only at hSw); go_simp; try with_reducible rfl
      try simp only [Act.put, List.setIfInBounds_toArray, List.set_cons_zero, List.set_cons_succ]
      refine wpAnyH_done (by kernel_rfl) (NoPanic.normal ?_) _
      have BX := stCu BU BF
      clear BF BE BD kk kk1 kk2
      go_wp2
      go_ret
      exact ⟨ret_bool HE.out.symm, BX⟩

/-- A node, in the order in which the program asks. -/
def okNI (c : Cu) (k : Nat) (x : Nd) : Bool :=
  vwB x.epoch x.leader x.steps c.nodes.length && ((decide (x.epoch < c.tep) || (x.epoch == c.tep && x.leader == c.tld)) && (rlogB x.log x.epoch && (decide (x.known.length = c.nodes.length) && (capB ((if thinks k x = true then x.log.length else 0 : Nat) : Int) x.known && inB x.told 0 x.log.length))))

set_option maxRecDepth 100000 in
set_option maxHeartbeats 16000000 in
theorem goodNode_c (s : Cu) (a0 a1 a2 : Option Addr) (c0 c1 c2 : Nat) (k : Nat) (x : Nd) (b : Bool) (w : World) (hs : CuR w s a0 a1 a2) (hl : CuL s) (hn : (s.nodes.length : Int) ≤ 7) (hk : s.nodes[k]? = some x) (hr1 : -9223372036854775808 ≤ x.leader) (hr2 : x.leader < 9223372036854775808) (h : okNI s k x = b) :
    Calls Tryd.prog 71 #[cuV s a0 c0 a1 c1 a2 c2, .int .i64 (k : Int)] w fun r w' => r = .returned (.bool b) ∧ Below w.heap.size w w' := by
  have hkn := (List.getElem?_eq_some_iff.1 hk).1
  have hki : (k : Int) < (s.nodes.length : Int) := by omega
  have mm := hl.nodes
  unfold maxLen at mm
  obtain ⟨u0, hu0⟩ : ∃ u0, (w.alloc (.cells #[.int .i64 s.tep, .int .i64 s.tld, .slice a0 s.tst.length c0, .slice a1 s.nodes.length c1, .slice a2 s.acked.length c2] 28)) = u0 := ⟨_, rfl⟩
  have q0 : u0.cell? ⟨w.heap.size, 0, none⟩ = some (.int .i64 s.tep) := by rw [← hu0]; simp [go_sem]
  have q1 : u0.cell? ⟨w.heap.size, 1, none⟩ = some (.int .i64 s.tld) := by rw [← hu0]; simp [go_sem]
  have q2 : u0.cell? ⟨w.heap.size, 2, none⟩ = some (.slice a0 s.tst.length c0) := by rw [← hu0]; simp [go_sem]
  have q3 : u0.cell? ⟨w.heap.size, 3, none⟩ = some (.slice a1 s.nodes.length c1) := by rw [← hu0]; simp [go_sem]
  have q4 : u0.cell? ⟨w.heap.size, 4, none⟩ = some (.slice a2 s.acked.length c2) := by rw [← hu0]; simp [go_sem]
  have bB : Below w.heap.size w u0 := by rw [← hu0]; exact alCu _ _
  have hs0 := hs.below bB
  obtain ⟨kb, ob, rfl, r2, k2, r3, k3, r4, k4, e0, e1, e2, e3, e4, e5, z2, m2, z3, m3, z4, m4⟩ := hs0.nodes k x hk
  obtain ⟨v0, hv0⟩ : ∃ v, (u0.alloc (.cells #[.int .i64 x.epoch, .int .i64 x.leader, .slice r2 x.steps.length k2, .slice r3 x.log.length k3, .slice r4 x.known.length k4, .int .i64 x.told] 49)) = v := ⟨_, rfl⟩
  have y0 : v0.cell? ⟨u0.heap.size, 0, none⟩ = some (.int .i64 x.epoch) := by rw [← hv0]; simp [go_sem]
  have y1 : v0.cell? ⟨u0.heap.size, 1, none⟩ = some (.int .i64 x.leader) := by rw [← hv0]; simp [go_sem]
  have y2 : v0.cell? ⟨u0.heap.size, 2, none⟩ = some (.slice r2 x.steps.length k2) := by rw [← hv0]; simp [go_sem]
  have y3 : v0.cell? ⟨u0.heap.size, 3, none⟩ = some (.slice r3 x.log.length k3) := by rw [← hv0]; simp [go_sem]
  have y4 : v0.cell? ⟨u0.heap.size, 4, none⟩ = some (.slice r4 x.known.length k4) := by rw [← hv0]; simp [go_sem]
  have y5 : v0.cell? ⟨u0.heap.size, 5, none⟩ = some (.int .i64 x.told) := by rw [← hv0]; simp [go_sem]
  have bV : Below u0.heap.size u0 v0 := by rw [← hv0]; exact alCu _ _
  have p0 := celB bV q0
  have p1 := celB bV q1
  have p2 := celB bV q2
  have p3 := celB bV q3
  have p4 := celB bV q4
  replace z2 := z2.below bV
  replace z3 := z3.below bV
  replace z4 := z4.below bV
  have BV := stCu bB bV
  have m4' := m4
  unfold maxLen at m4'
  have m3' := m3
  unfold maxLen at m3'
  clear hs hs0 hk
  obtain ⟨M, hM⟩ : ∃ M : Nat, (if thinks k x = true then x.log.length else 0) = M := ⟨_, rfl⟩
  skip
  have H' : Hid ((vwB x.epoch x.leader x.steps s.nodes.length && ((decide (x.epoch < s.tep) || (x.epoch == s.tep && x.leader == s.tld)) && (rlogB x.log x.epoch && (decide (x.known.length = s.nodes.length) && (capB (M : Int) x.known && inB x.told 0 x.log.length))))) = b) := by show _ = _; rw [← h, okNI, hM]
  clear h
  cases ht : thinks k x with
  | false =>
    have HM : Hid ((0 : Int) = (M : Int)) := by show _ = _; rw [← hM, ht]; rfl
    clear hM
    go_enter Tryd.func71, Tryd.ntmps71
    go_wp2_with fail
    try rw [hu0]
    try rw [hv0]
    clear hu0 hv0
    refine (leads_c k x _ _ _ _ _ ht).mono ?_
    rintro r w1 ⟨rfl, hB1⟩
    replace p0 := celB hB1 p0
    replace p1 := celB hB1 p1
    replace p2 := celB hB1 p2
    replace p3 := celB hB1 p3
    replace p4 := celB hB1 p4
    replace y0 := celB hB1 y0
    replace y1 := celB hB1 y1
    replace y2 := celB hB1 y2
    replace y3 := celB hB1 y3
    replace y4 := celB hB1 y4
    replace y5 := celB hB1 y5
    replace z2 := z2.below hB1
    replace z3 := z3.below hB1
    replace z4 := z4.below hB1
    replace BV := stCu BV hB1
    clear hB1 q0 q1 q2 q3 q4 e0 e1 e2 e3 e4 e5 bB bV
    go_upto_region 5 with fail
    try simp only [List.append_eq, List.cons_append, List.nil_append]
    go_wp2_with fail
    cases g1 : vwB x.epoch x.leader x.steps s.nodes.length with
    | false =>
      have HE : Hid (b = false) := by show _ = _; rw [← H'.out, g1]; rfl
      refine (goodView_c x.epoch x.leader _ r2 k2 x.steps _ _ z2 m2 hn hr1 hr2 g1).mono ?_
      rintro r w2 ⟨rfl, hB2⟩
      replace BV := stCu BV hB2
      clear hB2
      go_wp2
      go_ret
      exact ⟨ret_bool HE.out.symm, BV⟩
    | true =>
      refine (goodView_c x.epoch x.leader _ r2 k2 x.steps _ _ z2 m2 hn hr1 hr2 g1).mono ?_
      rintro r w2 ⟨rfl, hB2⟩
      replace p0 := celB hB2 p0
      replace p1 := celB hB2 p1
      replace p2 := celB hB2 p2
      replace p3 := celB hB2 p3
      replace p4 := celB hB2 p4
      replace y0 := celB hB2 y0
      replace y1 := celB hB2 y1
      replace y2 := celB hB2 y2
      replace y3 := celB hB2 y3
      replace y4 := celB hB2 y4
      replace y5 := celB hB2 y5
      replace z2 := z2.below hB2
      replace z3 := z3.below hB2
      replace z4 := z4.below hB2
      replace BV := stCu BV hB2
      clear hB2
      go_wp2_with fail
      cases g2 : (decide (x.epoch < s.tep) || (x.epoch == s.tep && x.leader == s.tld)) with
      | false =>
        have HE : Hid (b = false) := by show _ = _; rw [← H'.out, g1, g2]; rfl
        refine (mayBe_c _ _ _ _ _ _ _ _ g2).mono ?_
        rintro r w3 ⟨rfl, hB2⟩
        replace BV := stCu BV hB2
        clear hB2
        go_wp2
        go_ret
        exact ⟨ret_bool HE.out.symm, BV⟩
      | true =>
        refine (mayBe_c _ _ _ _ _ _ _ _ g2).mono ?_
        rintro r w3 ⟨rfl, hB2⟩
        replace p0 := celB hB2 p0
        replace p1 := celB hB2 p1
        replace p2 := celB hB2 p2
        replace p3 := celB hB2 p3
        replace p4 := celB hB2 p4
        replace y0 := celB hB2 y0
        replace y1 := celB hB2 y1
        replace y2 := celB hB2 y2
        replace y3 := celB hB2 y3
        replace y4 := celB hB2 y4
        replace y5 := celB hB2 y5
        replace z2 := z2.below hB2
        replace z3 := z3.below hB2
        replace z4 := z4.below hB2
        replace BV := stCu BV hB2
        clear hB2
        go_wp2_with fail
        cases g3 : rlogB x.log x.epoch with
        | false =>
          have HE : Hid (b = false) := by show _ = _; rw [← H'.out, g1, g2, g3]; rfl
          refine (goodRows_c _ _ _ _ _ z3 m3 _ g3).mono ?_
          rintro r w4 ⟨rfl, hB2⟩
          replace BV := stCu BV hB2
          clear hB2
          go_wp2
          go_ret
          exact ⟨ret_bool HE.out.symm, BV⟩
        | true =>
          refine (goodRows_c _ _ _ _ _ z3 m3 _ g3).mono ?_
          rintro r w4 ⟨rfl, hB2⟩
          replace p0 := celB hB2 p0
          replace p1 := celB hB2 p1
          replace p2 := celB hB2 p2
          replace p3 := celB hB2 p3
          replace p4 := celB hB2 p4
          replace y0 := celB hB2 y0
          replace y1 := celB hB2 y1
          replace y2 := celB hB2 y2
          replace y3 := celB hB2 y3
          replace y4 := celB hB2 y4
          replace y5 := celB hB2 y5
          replace z2 := z2.below hB2
          replace z3 := z3.below hB2
          replace z4 := z4.below hB2
          replace BV := stCu BV hB2
          clear hB2
          by_cases g4 : x.known.length = s.nodes.length
          rotate_left
          · have d4 : ((x.known.length : Int) == (s.nodes.length : Int)) = false := by simp; omega
            have HE : Hid (b = false) := by show _ = _; rw [← H'.out, g1, g2, g3, decide_eq_false g4]; rfl
            clear g4
            go_wp2
            go_ret
            exact ⟨ret_bool HE.out.symm, BV⟩
          have d4 : ((x.known.length : Int) == (s.nodes.length : Int)) = true := by simp; omega
          have H4 : Hid (decide (x.known.length = s.nodes.length) = true) := decide_eq_true g4
          clear g4
          go_wp2_with fail
          cases g5 : capB (M : Int) x.known with
          | false =>
            have HE : Hid (b = false) := by show _ = _; rw [← H'.out, g1, g2, g3, H4.out, g5]; rfl
            refine (allWithin_c _ _ _ _ false _ z4 m4 (by first | exact g5 | (rw [HM.out]; exact g5))).mono ?_
            rintro r w5 ⟨rfl, hw⟩
            rw [hw]
            clear hw w5
            go_wp2
            go_ret
            exact ⟨ret_bool HE.out.symm, BV⟩
          | true =>
            refine (allWithin_c _ _ _ _ true _ z4 m4 (by first | exact g5 | (rw [HM.out]; exact g5))).mono ?_
            rintro r w5 ⟨rfl, hw⟩
            rw [hw]
            clear hw w5
            obtain ⟨b6, g6⟩ : ∃ b6, inB x.told 0 x.log.length = b6 := ⟨_, rfl⟩
            have HE : Hid (b = b6) := by show _ = _; rw [← H'.out, g1, g2, g3, H4.out, g5, g6]; rfl
            go_wp2_with fail
            refine (within_c _ _ _ _ g6).mono ?_
            rintro r w6 ⟨rfl, hw⟩
            rw [hw]
            clear hw w6
            go_wp2
            go_ret
            exact ⟨ret_bool HE.out.symm, BV⟩
  | true =>
    have HM : Hid (((x.log.length : Nat) : Int) = (M : Int)) := by show _ = _; rw [← hM, ht]; rfl
    clear hM
    go_enter Tryd.func71, Tryd.ntmps71
    go_wp2_with fail
    try rw [hu0]
    try rw [hv0]
    clear hu0 hv0
    refine (leads_c k x _ _ _ _ _ ht).mono ?_
    rintro r w1 ⟨rfl, hB1⟩
    replace p0 := celB hB1 p0
    replace p1 := celB hB1 p1
    replace p2 := celB hB1 p2
    replace p3 := celB hB1 p3
    replace p4 := celB hB1 p4
    replace y0 := celB hB1 y0
    replace y1 := celB hB1 y1
    replace y2 := celB hB1 y2
    replace y3 := celB hB1 y3
    replace y4 := celB hB1 y4
    replace y5 := celB hB1 y5
    replace z2 := z2.below hB1
    replace z3 := z3.below hB1
    replace z4 := z4.below hB1
    replace BV := stCu BV hB1
    clear hB1 q0 q1 q2 q3 q4 e0 e1 e2 e3 e4 e5 bB bV
    go_upto_region 5 with fail
    try simp only [List.append_eq, List.cons_append, List.nil_append]
    go_wp2_with fail
    cases g1 : vwB x.epoch x.leader x.steps s.nodes.length with
    | false =>
      have HE : Hid (b = false) := by show _ = _; rw [← H'.out, g1]; rfl
      refine (goodView_c x.epoch x.leader _ r2 k2 x.steps _ _ z2 m2 hn hr1 hr2 g1).mono ?_
      rintro r w2 ⟨rfl, hB2⟩
      replace BV := stCu BV hB2
      clear hB2
      go_wp2
      go_ret
      exact ⟨ret_bool HE.out.symm, BV⟩
    | true =>
      refine (goodView_c x.epoch x.leader _ r2 k2 x.steps _ _ z2 m2 hn hr1 hr2 g1).mono ?_
      rintro r w2 ⟨rfl, hB2⟩
      replace p0 := celB hB2 p0
      replace p1 := celB hB2 p1
      replace p2 := celB hB2 p2
      replace p3 := celB hB2 p3
      replace p4 := celB hB2 p4
      replace y0 := celB hB2 y0
      replace y1 := celB hB2 y1
      replace y2 := celB hB2 y2
      replace y3 := celB hB2 y3
      replace y4 := celB hB2 y4
      replace y5 := celB hB2 y5
      replace z2 := z2.below hB2
      replace z3 := z3.below hB2
      replace z4 := z4.below hB2
      replace BV := stCu BV hB2
      clear hB2
      go_wp2_with fail
      cases g2 : (decide (x.epoch < s.tep) || (x.epoch == s.tep && x.leader == s.tld)) with
      | false =>
        have HE : Hid (b = false) := by show _ = _; rw [← H'.out, g1, g2]; rfl
        refine (mayBe_c _ _ _ _ _ _ _ _ g2).mono ?_
        rintro r w3 ⟨rfl, hB2⟩
        replace BV := stCu BV hB2
        clear hB2
        go_wp2
        go_ret
        exact ⟨ret_bool HE.out.symm, BV⟩
      | true =>
        refine (mayBe_c _ _ _ _ _ _ _ _ g2).mono ?_
        rintro r w3 ⟨rfl, hB2⟩
        replace p0 := celB hB2 p0
        replace p1 := celB hB2 p1
        replace p2 := celB hB2 p2
        replace p3 := celB hB2 p3
        replace p4 := celB hB2 p4
        replace y0 := celB hB2 y0
        replace y1 := celB hB2 y1
        replace y2 := celB hB2 y2
        replace y3 := celB hB2 y3
        replace y4 := celB hB2 y4
        replace y5 := celB hB2 y5
        replace z2 := z2.below hB2
        replace z3 := z3.below hB2
        replace z4 := z4.below hB2
        replace BV := stCu BV hB2
        clear hB2
        go_wp2_with fail
        cases g3 : rlogB x.log x.epoch with
        | false =>
          have HE : Hid (b = false) := by show _ = _; rw [← H'.out, g1, g2, g3]; rfl
          refine (goodRows_c _ _ _ _ _ z3 m3 _ g3).mono ?_
          rintro r w4 ⟨rfl, hB2⟩
          replace BV := stCu BV hB2
          clear hB2
          go_wp2
          go_ret
          exact ⟨ret_bool HE.out.symm, BV⟩
        | true =>
          refine (goodRows_c _ _ _ _ _ z3 m3 _ g3).mono ?_
          rintro r w4 ⟨rfl, hB2⟩
          replace p0 := celB hB2 p0
          replace p1 := celB hB2 p1
          replace p2 := celB hB2 p2
          replace p3 := celB hB2 p3
          replace p4 := celB hB2 p4
          replace y0 := celB hB2 y0
          replace y1 := celB hB2 y1
          replace y2 := celB hB2 y2
          replace y3 := celB hB2 y3
          replace y4 := celB hB2 y4
          replace y5 := celB hB2 y5
          replace z2 := z2.below hB2
          replace z3 := z3.below hB2
          replace z4 := z4.below hB2
          replace BV := stCu BV hB2
          clear hB2
          by_cases g4 : x.known.length = s.nodes.length
          rotate_left
          · have d4 : ((x.known.length : Int) == (s.nodes.length : Int)) = false := by simp; omega
            have HE : Hid (b = false) := by show _ = _; rw [← H'.out, g1, g2, g3, decide_eq_false g4]; rfl
            clear g4
            go_wp2
            go_ret
            exact ⟨ret_bool HE.out.symm, BV⟩
          have d4 : ((x.known.length : Int) == (s.nodes.length : Int)) = true := by simp; omega
          have H4 : Hid (decide (x.known.length = s.nodes.length) = true) := decide_eq_true g4
          clear g4
          go_wp2_with fail
          cases g5 : capB (M : Int) x.known with
          | false =>
            have HE : Hid (b = false) := by show _ = _; rw [← H'.out, g1, g2, g3, H4.out, g5]; rfl
            refine (allWithin_c _ _ _ _ false _ z4 m4 (by first | exact g5 | (rw [HM.out]; exact g5))).mono ?_
            rintro r w5 ⟨rfl, hw⟩
            rw [hw]
            clear hw w5
            go_wp2
            go_ret
            exact ⟨ret_bool HE.out.symm, BV⟩
          | true =>
            refine (allWithin_c _ _ _ _ true _ z4 m4 (by first | exact g5 | (rw [HM.out]; exact g5))).mono ?_
            rintro r w5 ⟨rfl, hw⟩
            rw [hw]
            clear hw w5
            obtain ⟨b6, g6⟩ : ∃ b6, inB x.told 0 x.log.length = b6 := ⟨_, rfl⟩
            have HE : Hid (b = b6) := by show _ = _; rw [← H'.out, g1, g2, g3, H4.out, g5, g6]; rfl
            go_wp2_with fail
            refine (within_c _ _ _ _ g6).mono ?_
            rintro r w6 ⟨rfl, hw⟩
            rw [hw]
            clear hw w6
            go_wp2
            go_ret
            exact ⟨ret_bool HE.out.symm, BV⟩

end Go.Proofs.YtekjpbfmiebigaaDoor
