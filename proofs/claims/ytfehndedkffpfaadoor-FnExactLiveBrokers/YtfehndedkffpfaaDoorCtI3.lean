/-
  The control, the program's side: good parts, all of them, and impl.GoodControl. Made by mkcti.py.
-/
import Derived.Test.YtfehndedkffpfaaDoorCtI2
namespace Go.Proofs.YtfehndedkffpfaaDoor
open Go.RowKit

theorem setFrom_c (a : Option Addr) (c : Nat) (zs : List Int) (many : Int) (b : Bool) (w : World) (hs : Ints w a zs) (hl : zs.length ≤ maxLen) (hm : many ≤ 7) (h : riseB zs many = b) :
    Calls Tryd.prog 51 #[.slice a zs.length c, .int .i64 many] w fun r w' => r = .returned (.tuple #[setV (setR zs many), .bool b]) ∧ Below w.heap.size w w' := by
  rw [← h]; exact setFrom_any a c zs many w hs hl hm
theorem hasAll_c (x y : Nat) (hx : x < 128) (hy : y < 128) (b : Bool) (w : World) (h : (wo y x == 0) = b) :
    Calls Tryd.prog 52 #[setV x, setV y] w fun r w' => r = .returned (.bool b) ∧ Below w.heap.size w w' := by
  rw [← h]; exact hasAll_any x y hx hy w
theorem setR_lt {zs : List Int} {many : Int} (hm : many ≤ 7) : setR zs many < 128 := by
  cases h : riseB zs many with
  | false => rw [setR_f h]; omega
  | true => rw [setR_t h]; exact (mem7_msk hm h).2

set_option maxRecDepth 100000 in
set_option maxHeartbeats 16000000 in
theorem goodPartition0_any (p : Pn) (brs : List Br) (r0 r1 a2 : Option Addr) (k0 k1 c2 : Nat) (w : World) (h0 : Ints w r0 p.homes) (l0 : p.homes.length ≤ maxLen) (h1 : Ints w r1 p.steps) (l1 : p.steps.length ≤ maxLen) (hb : Brs w a2 brs) (hn : brs.length ≤ 6) :
    Calls Tryd.prog 37 #[pnV p r0 k0 r1 k1, .slice a2 brs.length c2] w fun r w' => r = .returned (.bool (okPI brs p)) ∧ Below w.heap.size w w' := by
  have hl1' := l1
  unfold maxLen at hl1'
  have hn7 : (brs.length : Int) ≤ 7 := by omega
  have hbl : brs.length ≤ 1000000 := by omega
  obtain ⟨u0, hu0⟩ : ∃ u, (w.alloc (.cells #[.slice r0 p.homes.length k0, .slice r1 p.steps.length k1, .int .i64 p.leader, .int .i64 p.epoch, .int .i64 p.stamp] 61)) = u := ⟨_, rfl⟩
  have kk : u0.cell? ⟨w.heap.size, 0, none⟩ = some (.slice r0 p.homes.length k0) ∧ u0.cell? ⟨w.heap.size, 1, none⟩ = some (.slice r1 p.steps.length k1) ∧ u0.cell? ⟨w.heap.size, 2, none⟩ = some (.int .i64 p.leader) ∧ u0.cell? ⟨w.heap.size, 3, none⟩ = some (.int .i64 p.epoch) ∧ u0.cell? ⟨w.heap.size, 4, none⟩ = some (.int .i64 p.stamp) := by rw [← hu0]; simp [go_sem]
  have bB : Below w.heap.size w u0 := by rw [← hu0]; exact alCt _ _
  obtain ⟨ld, hld⟩ : ∃ ld, ldrI brs p.leader p.steps = ld := ⟨_, rfl⟩
  have HLD : Hid (ldrI brs p.leader p.steps = ld) := hld
  have HLDo : Hid (ldrI brs p.leader p.steps = ld) := hld
  clear hld
  obtain ⟨n0, hn0⟩ : ∃ n, setR p.homes brs.length = n := ⟨_, rfl⟩
  obtain ⟨n1, hn1⟩ : ∃ n, setR p.steps brs.length = n := ⟨_, rfl⟩
  have hS0 : n0 < 128 := by rw [← hn0]; exact setR_lt hn7
  have hS1 : n1 < 128 := by rw [← hn1]; exact setR_lt hn7
  have HN0 : Hid (setR p.homes brs.length = n0) := hn0
  have HN1 : Hid (setR p.steps brs.length = n1) := hn1
  clear hn0 hn1
  cases g1 : riseB p.homes brs.length with
  | false =>
    have HE : Hid (okPI brs p = false) := by show _ = _; unfold okPI; rw [HLDo.out, g1]; rfl
    cases g2 : riseB p.steps brs.length with
    | false =>
      go_enter Tryd.func37, Tryd.ntmps37
      go_wp2_with fail
      try rw [hu0]
      clear hu0
      refine (setFrom_c _ _ _ _ _ _ (h0.below bB) l0 hn7 g1).mono ?_
      rintro r w1 ⟨rfl, hB1⟩
      rw [HN0.out]
      obtain ⟨u2, hu2⟩ : ∃ u, (w1.alloc (.cells #[.int .u64 ((n0 : Nat) : Int)] 49)) = u := ⟨_, rfl⟩
      have BU : Below w1.heap.size w1 u2 := by rw [← hu2]; exact alCt _ _
      have s0 : u2.cell? ⟨w1.heap.size, 0, none⟩ = some (.int .u64 ((n0 : Nat) : Int)) := by rw [← hu2]; simp [go_sem]
      have BB2 := stCt (stCt bB hB1) BU
      have q0 := celB (stCt hB1 BU) kk.1
      have q1 := celB (stCt hB1 BU) kk.2.1
      have q2 := celB (stCt hB1 BU) kk.2.2.1
      have q3 := celB (stCt hB1 BU) kk.2.2.2.1
      have q4 := celB (stCt hB1 BU) kk.2.2.2.2
      clear BU hB1
      go_wp2_with fail
      try rw [hu2]
      clear hu2
      refine (setFrom_c _ _ _ _ _ _ (h1.below BB2) l1 hn7 g2).mono ?_
      rintro r w3 ⟨rfl, hB3⟩
      rw [HN1.out]
      obtain ⟨u4, hu4⟩ : ∃ u, (w3.alloc (.cells #[.int .u64 ((n1 : Nat) : Int)] 49)) = u := ⟨_, rfl⟩
      have BV : Below u2.heap.size u2 u4.drew := by rw [← hu4]; exact (stCt hB3 (alCt _ _)).drew
      have kk4 : u4.drew.cell? ⟨w.heap.size, 0, none⟩ = some (.slice r0 p.homes.length k0) ∧ u4.drew.cell? ⟨w.heap.size, 1, none⟩ = some (.slice r1 p.steps.length k1) ∧ u4.drew.cell? ⟨w.heap.size, 2, none⟩ = some (.int .i64 p.leader) ∧ u4.drew.cell? ⟨w.heap.size, 3, none⟩ = some (.int .i64 p.epoch) ∧ u4.drew.cell? ⟨w.heap.size, 4, none⟩ = some (.int .i64 p.stamp) ∧ u4.drew.cell? ⟨w1.heap.size, 0, none⟩ = some (.int .u64 ((n0 : Nat) : Int)) ∧ u4.drew.cell? ⟨w3.heap.size, 0, none⟩ = some (.int .u64 ((n1 : Nat) : Int)) := ⟨celB BV q0, celB BV q1, celB BV q2, celB BV q3, celB BV q4, celB BV s0, by rw [← hu4]; simp [go_sem]⟩
      have BB4 := stCt BB2 BV
      clear BV hB3 q0 q1 q2 q3 q4 s0
      go_wp2_with fail
      try rw [hu4]
      refine wp_region_noPanic ?_
      refine wp_region_held_drew (S := fun w' => w'.cell? ⟨w.heap.size, 0, none⟩ = some (.slice r0 p.homes.length k0) ∧ w'.cell? ⟨w.heap.size, 1, none⟩ = some (.slice r1 p.steps.length k1) ∧ w'.cell? ⟨w.heap.size, 2, none⟩ = some (.int .i64 p.leader) ∧ w'.cell? ⟨w.heap.size, 3, none⟩ = some (.int .i64 p.epoch) ∧ w'.cell? ⟨w.heap.size, 4, none⟩ = some (.int .i64 p.stamp) ∧ w'.cell? ⟨w1.heap.size, 0, none⟩ = some (.int .u64 ((n0 : Nat) : Int)) ∧ w'.cell? ⟨w3.heap.size, 0, none⟩ = some (.int .u64 ((n1 : Nat) : Int))) (by kernel_rfl) kk4 (fun hH => ?_)
      refine wpAnyH_take (i := 0) (oi := ⟨_, _, _, _, _, _⟩) (v := ?vp0fa0) rfl (by kernel_rfl) (by kernel_rfl) (by kernel_rfl) (fun _ _ _ h => h) (Or.inl ⟨by rfl, ?yp0fa0⟩) (by assumption) ?rp0fa0
      case yp0fa0 => intro w hSw; (try dsimp only at hSw); go_simp; try with_reducible rfl
      try simp only [Act.put, List.setIfInBounds_toArray, List.set_cons_zero, List.set_cons_succ]
      refine wpAnyH_take (i := 1) (oi := ⟨_, _, _, _, _, _⟩) (v := ?vp0fa1) rfl (by kernel_rfl) (by kernel_rfl) (by kernel_rfl) (fun _ _ _ h => h) (Or.inl ⟨by rfl, ?yp0fa1⟩) (by assumption) ?rp0fa1
      case yp0fa1 => intro w hSw; (try dsimp only at hSw); go_simp; try with_reducible rfl
      try simp only [Act.put, List.setIfInBounds_toArray, List.set_cons_zero, List.set_cons_succ]
      refine wpAnyH_take (i := 2) (oi := ⟨_, _, _, _, _, _⟩) (v := undef) rfl (by kernel_rfl) (by kernel_rfl) (by kernel_rfl) (fun _ _ _ h => h) (Or.inr ⟨by rfl, rfl⟩) (by assumption) ?_
      try simp only [Act.put, List.setIfInBounds_toArray, List.set_cons_zero, List.set_cons_succ]
      refine wpAnyH_take (i := 3) (oi := ⟨_, _, _, _, _, _⟩) (v := ?vp0fa3) rfl (by kernel_rfl) (by kernel_rfl) (by kernel_rfl) (fun _ _ _ h => h) (Or.inl ⟨by rfl, ?yp0fa3⟩) (by assumption) ?rp0fa3
      case yp0fa3 => intro w hSw; (try dsimp only at hSw); go_simp; try with_reducible rfl
      try simp only [Act.put, List.setIfInBounds_toArray, List.set_cons_zero, List.set_cons_succ]
      refine wpAnyH_take (i := 4) (oi := ⟨_, _, _, _, _, _⟩) (v := ?vp0fa4) rfl (by kernel_rfl) (by kernel_rfl) (by kernel_rfl) (fun _ _ _ h => h) (Or.inl ⟨by rfl, ?yp0fa4⟩) (by assumption) ?rp0fa4
      case yp0fa4 => intro w hSw; (try dsimp only at hSw); go_simp; try with_reducible rfl
      try simp only [Act.put, List.setIfInBounds_toArray, List.set_cons_zero, List.set_cons_succ]
      refine wpAnyH_take (i := 5) (oi := ⟨_, _, _, _, _, _⟩) (v := undef) rfl (by kernel_rfl) (by kernel_rfl) (by kernel_rfl) (fun _ _ _ h => h) (Or.inr ⟨by rfl, rfl⟩) (by assumption) ?_
      try simp only [Act.put, List.setIfInBounds_toArray, List.set_cons_zero, List.set_cons_succ]
      refine wpAnyH_take (i := 6) (oi := ⟨_, _, _, _, _, _⟩) (v := undef) rfl (by kernel_rfl) (by kernel_rfl) (by kernel_rfl) (fun _ _ _ h => h) (Or.inr ⟨by rfl, rfl⟩) (by assumption) ?_
      try simp only [Act.put, List.setIfInBounds_toArray, List.set_cons_zero, List.set_cons_succ]
      refine wpAnyH_take (i := 7) (oi := ⟨_, _, _, _, _, _⟩) (v := undef) rfl (by kernel_rfl) (by kernel_rfl) (by kernel_rfl) (fun _ _ _ h => h) (Or.inr ⟨by rfl, rfl⟩) (by assumption) ?_
      try simp only [Act.put, List.setIfInBounds_toArray, List.set_cons_zero, List.set_cons_succ]
      refine wpAnyH_take (i := 8) (oi := ⟨_, _, _, _, _, _⟩) (v := undef) rfl (by kernel_rfl) (by kernel_rfl) (by kernel_rfl) (fun _ _ _ h => h) (Or.inr ⟨by rfl, rfl⟩) (by assumption) ?_
      try simp only [Act.put, List.setIfInBounds_toArray, List.set_cons_zero, List.set_cons_succ]
      refine wpAnyH_take (i := 9) (oi := ⟨_, _, _, _, _, _⟩) (v := ?vp0fa9) rfl (by kernel_rfl) (by kernel_rfl) (by kernel_rfl) (fun _ _ _ h => h) (Or.inl ⟨by rfl, ?yp0fa9⟩) (by assumption) ?rp0fa9
      case yp0fa9 => intro w hSw; (try dsimp only at hSw); go_simp; try with_reducible rfl
      try simp only [Act.put, List.setIfInBounds_toArray, List.set_cons_zero, List.set_cons_succ]
      refine wpAnyH_take (i := 10) (oi := ⟨_, _, _, _, _, _⟩) (v := ?vp0fa10) rfl (by kernel_rfl) (by kernel_rfl) (by kernel_rfl) (fun _ _ _ h => h) (Or.inl ⟨by rfl, ?yp0fa10⟩) (by assumption) ?rp0fa10
      case yp0fa10 => intro w hSw; (try dsimp only at hSw); go_simp; try with_reducible rfl
      try simp only [Act.put, List.setIfInBounds_toArray, List.set_cons_zero, List.set_cons_succ]
      refine wpAnyH_take (i := 11) (oi := ⟨_, _, _, _, _, _⟩) (v := undef) rfl (by kernel_rfl) (by kernel_rfl) (by kernel_rfl) (fun _ _ _ h => h) (Or.inr ⟨by rfl, rfl⟩) (by assumption) ?_
      try simp only [Act.put, List.setIfInBounds_toArray, List.set_cons_zero, List.set_cons_succ]
      refine wpAnyH_take (i := 12) (oi := ⟨_, _, _, _, _, _⟩) (v := undef) rfl (by kernel_rfl) (by kernel_rfl) (by kernel_rfl) (fun _ _ _ h => h) (Or.inr ⟨by rfl, rfl⟩) (by assumption) ?_
      try simp only [Act.put, List.setIfInBounds_toArray, List.set_cons_zero, List.set_cons_succ]
      refine wpAnyH_take (i := 13) (oi := ⟨_, _, _, _, _, _⟩) (v := undef) rfl (by kernel_rfl) (by kernel_rfl) (by kernel_rfl) (fun _ _ _ h => h) (Or.inr ⟨by rfl, rfl⟩) (by assumption) ?_
      try simp only [Act.put, List.setIfInBounds_toArray, List.set_cons_zero, List.set_cons_succ]
      refine wpAnyH_take (i := 14) (oi := ⟨_, _, _, _, _, _⟩) (v := ?vp0fa14) rfl (by kernel_rfl) (by kernel_rfl) (by kernel_rfl) (fun _ _ _ h => h) (Or.inl ⟨by rfl, ?yp0fa14⟩) (by assumption) ?rp0fa14
      case yp0fa14 => intro w hSw; (try dsimp only at hSw); go_simp; try with_reducible rfl
      try simp only [Act.put, List.setIfInBounds_toArray, List.set_cons_zero, List.set_cons_succ]
      refine wpAnyH_take (i := 15) (oi := ⟨_, _, _, _, _, _⟩) (v := ?vp0fa15) rfl (by kernel_rfl) (by kernel_rfl) (by kernel_rfl) (fun _ _ _ h => h) (Or.inl ⟨by rfl, ?yp0fa15⟩) (by assumption) ?rp0fa15
      case yp0fa15 => intro w hSw; (try dsimp only at hSw); go_simp; try with_reducible rfl
      try simp only [Act.put, List.setIfInBounds_toArray, List.set_cons_zero, List.set_cons_succ]
      refine wpAnyH_take (i := 16) (oi := ⟨_, _, _, _, _, _⟩) (v := undef) rfl (by kernel_rfl) (by kernel_rfl) (by kernel_rfl) (fun _ _ _ h => h) (Or.inr ⟨by rfl, rfl⟩) (by assumption) ?_
      try simp only [Act.put, List.setIfInBounds_toArray, List.set_cons_zero, List.set_cons_succ]
      refine wpAnyH_take (i := 17) (oi := ⟨_, _, _, _, _, _⟩) (v := undef) rfl (by kernel_rfl) (by kernel_rfl) (by kernel_rfl) (fun _ _ _ h => h) (Or.inr ⟨by rfl, rfl⟩) (by assumption) ?_
      try simp only [Act.put, List.setIfInBounds_toArray, List.set_cons_zero, List.set_cons_succ]
      refine wpAnyH_take (i := 18) (oi := ⟨_, _, _, _, _, _⟩) (v := undef) rfl (by kernel_rfl) (by kernel_rfl) (by kernel_rfl) (fun _ _ _ h => h) (Or.inr ⟨by rfl, rfl⟩) (by assumption) ?_
      try simp only [Act.put, List.setIfInBounds_toArray, List.set_cons_zero, List.set_cons_succ]
      refine wpAnyH_take (i := 19) (oi := ⟨_, _, _, _, _, _⟩) (v := ?vp0fa19) rfl (by kernel_rfl) (by kernel_rfl) (by kernel_rfl) (fun _ _ _ h => h) (Or.inl ⟨by rfl, ?yp0fa19⟩) (by assumption) ?rp0fa19
      case yp0fa19 => intro w hSw; (try dsimp only at hSw); go_simp; try with_reducible rfl
      try simp only [Act.put, List.setIfInBounds_toArray, List.set_cons_zero, List.set_cons_succ]
      refine wpAnyH_take (i := 20) (oi := ⟨_, _, _, _, _, _⟩) (v := ?vp0fa20) rfl (by kernel_rfl) (by kernel_rfl) (by kernel_rfl) (fun _ _ _ h => h) (Or.inl ⟨by rfl, ?yp0fa20⟩) (by assumption) ?rp0fa20
      case yp0fa20 => intro w hSw; (try dsimp only at hSw); go_simp; try with_reducible rfl
      try simp only [Act.put, List.setIfInBounds_toArray, List.set_cons_zero, List.set_cons_succ]
      refine wpAnyH_take (i := 21) (oi := ⟨_, _, _, _, _, _⟩) (v := undef) rfl (by kernel_rfl) (by kernel_rfl) (by kernel_rfl) (fun _ _ _ h => h) (Or.inr ⟨by rfl, rfl⟩) (by assumption) ?_
      try simp only [Act.put, List.setIfInBounds_toArray, List.set_cons_zero, List.set_cons_succ]
      refine wpAnyH_take (i := 22) (oi := ⟨_, _, _, _, _, _⟩) (v := undef) rfl (by kernel_rfl) (by kernel_rfl) (by kernel_rfl) (fun _ _ _ h => h) (Or.inr ⟨by rfl, rfl⟩) (by assumption) ?_
      try simp only [Act.put, List.setIfInBounds_toArray, List.set_cons_zero, List.set_cons_succ]
      refine wpAnyH_take (i := 23) (oi := ⟨_, _, _, _, _, _⟩) (v := undef) rfl (by kernel_rfl) (by kernel_rfl) (by kernel_rfl) (fun _ _ _ h => h) (Or.inr ⟨by rfl, rfl⟩) (by assumption) ?_
      try simp only [Act.put, List.setIfInBounds_toArray, List.set_cons_zero, List.set_cons_succ]
      refine wpAnyH_take (i := 24) (oi := ⟨_, _, _, _, _, _⟩) (v := ?vp0fa24) rfl (by kernel_rfl) (by kernel_rfl) (by kernel_rfl) (fun _ _ _ h => h) (Or.inl ⟨by rfl, ?yp0fa24⟩) (by assumption) ?rp0fa24
      case yp0fa24 => intro w hSw; (try dsimp only at hSw); go_simp; try with_reducible rfl
      try simp only [Act.put, List.setIfInBounds_toArray, List.set_cons_zero, List.set_cons_succ]
      refine wpAnyH_take (i := 25) (oi := ⟨_, _, _, _, _, _⟩) (v := ?vp0fa25) rfl (by kernel_rfl) (by kernel_rfl) (by kernel_rfl) (fun _ _ _ h => h) (Or.inl ⟨by rfl, ?yp0fa25⟩) (by assumption) ?rp0fa25
      case yp0fa25 => intro w hSw; (try dsimp only at hSw); go_simp; try with_reducible rfl
      try simp only [Act.put, List.setIfInBounds_toArray, List.set_cons_zero, List.set_cons_succ]
      refine wpAnyH_take (i := 26) (oi := ⟨_, _, _, _, _, _⟩) (v := undef) rfl (by kernel_rfl) (by kernel_rfl) (by kernel_rfl) (fun _ _ _ h => h) (Or.inr ⟨by rfl, rfl⟩) (by assumption) ?_
      try simp only [Act.put, List.setIfInBounds_toArray, List.set_cons_zero, List.set_cons_succ]
      refine wpAnyH_take (i := 27) (oi := ⟨_, _, _, _, _, _⟩) (v := undef) rfl (by kernel_rfl) (by kernel_rfl) (by kernel_rfl) (fun _ _ _ h => h) (Or.inr ⟨by rfl, rfl⟩) (by assumption) ?_
      try simp only [Act.put, List.setIfInBounds_toArray, List.set_cons_zero, List.set_cons_succ]
      refine wpAnyH_take (i := 28) (oi := ⟨_, _, _, _, _, _⟩) (v := undef) rfl (by kernel_rfl) (by kernel_rfl) (by kernel_rfl) (fun _ _ _ h => h) (Or.inr ⟨by rfl, rfl⟩) (by assumption) ?_
      try simp only [Act.put, List.setIfInBounds_toArray, List.set_cons_zero, List.set_cons_succ]
      refine wpAnyH_take (i := 29) (oi := ⟨_, _, _, _, _, _⟩) (v := undef) rfl (by kernel_rfl) (by kernel_rfl) (by kernel_rfl) (fun _ _ _ h => h) (Or.inr ⟨by rfl, rfl⟩) (by assumption) ?_
      try simp only [Act.put, List.setIfInBounds_toArray, List.set_cons_zero, List.set_cons_succ]
      refine wpAnyH_take (i := 30) (oi := ⟨_, _, _, _, _, _⟩) (v := undef) rfl (by kernel_rfl) (by kernel_rfl) (by kernel_rfl) (fun _ _ _ h => h) (Or.inr ⟨by rfl, rfl⟩) (by assumption) ?_
      try simp only [Act.put, List.setIfInBounds_toArray, List.set_cons_zero, List.set_cons_succ]
      refine wpAnyH_take (i := 31) (oi := ⟨_, _, _, _, _, _⟩) (v := undef) rfl (by kernel_rfl) (by kernel_rfl) (by kernel_rfl) (fun _ _ _ h => h) (Or.inr ⟨by rfl, rfl⟩) (by assumption) ?_
      try simp only [Act.put, List.setIfInBounds_toArray, List.set_cons_zero, List.set_cons_succ]
      refine wpAnyH_take (i := 32) (oi := ⟨_, _, _, _, _, _⟩) (v := ?vp0fa32) rfl (by kernel_rfl) (by kernel_rfl) (by kernel_rfl) (fun _ _ _ h => h) (Or.inl ⟨by rfl, ?yp0fa32⟩) (by assumption) ?rp0fa32
      case yp0fa32 => intro w hSw; (try dsimp only at hSw); go_simp; try with_reducible rfl
      try simp only [Act.put, List.setIfInBounds_toArray, List.set_cons_zero, List.set_cons_succ]
      refine wpAnyH_take (i := 33) (oi := ⟨_, _, _, _, _, _⟩) (v := ?vp0fa33) rfl (by kernel_rfl) (by kernel_rfl) (by kernel_rfl) (fun _ _ _ h => h) (Or.inl ⟨by rfl, ?yp0fa33⟩) (by assumption) ?rp0fa33
      case yp0fa33 => intro w hSw; (try dsimp only at hSw); go_simp; try with_reducible rfl
      try simp only [Act.put, List.setIfInBounds_toArray, List.set_cons_zero, List.set_cons_succ]
      refine wpAnyH_done (by kernel_rfl) (NoPanic.normal ?_) _
      clear hu4
      go_wp2
      go_ret
      exact ⟨ret_bool HE.out.symm, BB4⟩
    | true =>
      go_enter Tryd.func37, Tryd.ntmps37
      go_wp2_with fail
      try rw [hu0]
      clear hu0
      refine (setFrom_c _ _ _ _ _ _ (h0.below bB) l0 hn7 g1).mono ?_
      rintro r w1 ⟨rfl, hB1⟩
      rw [HN0.out]
      obtain ⟨u2, hu2⟩ : ∃ u, (w1.alloc (.cells #[.int .u64 ((n0 : Nat) : Int)] 49)) = u := ⟨_, rfl⟩
      have BU : Below w1.heap.size w1 u2 := by rw [← hu2]; exact alCt _ _
      have s0 : u2.cell? ⟨w1.heap.size, 0, none⟩ = some (.int .u64 ((n0 : Nat) : Int)) := by rw [← hu2]; simp [go_sem]
      have BB2 := stCt (stCt bB hB1) BU
      have q0 := celB (stCt hB1 BU) kk.1
      have q1 := celB (stCt hB1 BU) kk.2.1
      have q2 := celB (stCt hB1 BU) kk.2.2.1
      have q3 := celB (stCt hB1 BU) kk.2.2.2.1
      have q4 := celB (stCt hB1 BU) kk.2.2.2.2
      clear BU hB1
      go_wp2_with fail
      try rw [hu2]
      clear hu2
      refine (setFrom_c _ _ _ _ _ _ (h1.below BB2) l1 hn7 g2).mono ?_
      rintro r w3 ⟨rfl, hB3⟩
      rw [HN1.out]
      obtain ⟨u4, hu4⟩ : ∃ u, (w3.alloc (.cells #[.int .u64 ((n1 : Nat) : Int)] 49)) = u := ⟨_, rfl⟩
      have BV : Below u2.heap.size u2 u4.drew := by rw [← hu4]; exact (stCt hB3 (alCt _ _)).drew
      have kk4 : u4.drew.cell? ⟨w.heap.size, 0, none⟩ = some (.slice r0 p.homes.length k0) ∧ u4.drew.cell? ⟨w.heap.size, 1, none⟩ = some (.slice r1 p.steps.length k1) ∧ u4.drew.cell? ⟨w.heap.size, 2, none⟩ = some (.int .i64 p.leader) ∧ u4.drew.cell? ⟨w.heap.size, 3, none⟩ = some (.int .i64 p.epoch) ∧ u4.drew.cell? ⟨w.heap.size, 4, none⟩ = some (.int .i64 p.stamp) ∧ u4.drew.cell? ⟨w1.heap.size, 0, none⟩ = some (.int .u64 ((n0 : Nat) : Int)) ∧ u4.drew.cell? ⟨w3.heap.size, 0, none⟩ = some (.int .u64 ((n1 : Nat) : Int)) := ⟨celB BV q0, celB BV q1, celB BV q2, celB BV q3, celB BV q4, celB BV s0, by rw [← hu4]; simp [go_sem]⟩
      have BB4 := stCt BB2 BV
      clear BV hB3 q0 q1 q2 q3 q4 s0
      go_wp2_with fail
      try rw [hu4]
      refine wp_region_noPanic ?_
      refine wp_region_held_drew (S := fun w' => w'.cell? ⟨w.heap.size, 0, none⟩ = some (.slice r0 p.homes.length k0) ∧ w'.cell? ⟨w.heap.size, 1, none⟩ = some (.slice r1 p.steps.length k1) ∧ w'.cell? ⟨w.heap.size, 2, none⟩ = some (.int .i64 p.leader) ∧ w'.cell? ⟨w.heap.size, 3, none⟩ = some (.int .i64 p.epoch) ∧ w'.cell? ⟨w.heap.size, 4, none⟩ = some (.int .i64 p.stamp) ∧ w'.cell? ⟨w1.heap.size, 0, none⟩ = some (.int .u64 ((n0 : Nat) : Int)) ∧ w'.cell? ⟨w3.heap.size, 0, none⟩ = some (.int .u64 ((n1 : Nat) : Int))) (by kernel_rfl) kk4 (fun hH => ?_)
      refine wpAnyH_take (i := 0) (oi := ⟨_, _, _, _, _, _⟩) (v := ?vp0fb0) rfl (by kernel_rfl) (by kernel_rfl) (by kernel_rfl) (fun _ _ _ h => h) (Or.inl ⟨by rfl, ?yp0fb0⟩) (by assumption) ?rp0fb0
      case yp0fb0 => intro w hSw; (try dsimp only at hSw); go_simp; try with_reducible rfl
      try simp only [Act.put, List.setIfInBounds_toArray, List.set_cons_zero, List.set_cons_succ]
      refine wpAnyH_take (i := 1) (oi := ⟨_, _, _, _, _, _⟩) (v := ?vp0fb1) rfl (by kernel_rfl) (by kernel_rfl) (by kernel_rfl) (fun _ _ _ h => h) (Or.inl ⟨by rfl, ?yp0fb1⟩) (by assumption) ?rp0fb1
      case yp0fb1 => intro w hSw; (try dsimp only at hSw); go_simp; try with_reducible rfl
      try simp only [Act.put, List.setIfInBounds_toArray, List.set_cons_zero, List.set_cons_succ]
      refine wpAnyH_take (i := 2) (oi := ⟨_, _, _, _, _, _⟩) (v := undef) rfl (by kernel_rfl) (by kernel_rfl) (by kernel_rfl) (fun _ _ _ h => h) (Or.inr ⟨by rfl, rfl⟩) (by assumption) ?_
      try simp only [Act.put, List.setIfInBounds_toArray, List.set_cons_zero, List.set_cons_succ]
      refine wpAnyH_take (i := 3) (oi := ⟨_, _, _, _, _, _⟩) (v := ?vp0fb3) rfl (by kernel_rfl) (by kernel_rfl) (by kernel_rfl) (fun _ _ _ h => h) (Or.inl ⟨by rfl, ?yp0fb3⟩) (by assumption) ?rp0fb3
      case yp0fb3 => intro w hSw; (try dsimp only at hSw); go_simp; try with_reducible rfl
      try simp only [Act.put, List.setIfInBounds_toArray, List.set_cons_zero, List.set_cons_succ]
      refine wpAnyH_take (i := 4) (oi := ⟨_, _, _, _, _, _⟩) (v := ?vp0fb4) rfl (by kernel_rfl) (by kernel_rfl) (by kernel_rfl) (fun _ _ _ h => h) (Or.inl ⟨by rfl, ?yp0fb4⟩) (by assumption) ?rp0fb4
      case yp0fb4 => intro w hSw; (try dsimp only at hSw); go_simp; try with_reducible rfl
      try simp only [Act.put, List.setIfInBounds_toArray, List.set_cons_zero, List.set_cons_succ]
      refine wpAnyH_take (i := 5) (oi := ⟨_, _, _, _, _, _⟩) (v := undef) rfl (by kernel_rfl) (by kernel_rfl) (by kernel_rfl) (fun _ _ _ h => h) (Or.inr ⟨by rfl, rfl⟩) (by assumption) ?_
      try simp only [Act.put, List.setIfInBounds_toArray, List.set_cons_zero, List.set_cons_succ]
      refine wpAnyH_take (i := 6) (oi := ⟨_, _, _, _, _, _⟩) (v := undef) rfl (by kernel_rfl) (by kernel_rfl) (by kernel_rfl) (fun _ _ _ h => h) (Or.inr ⟨by rfl, rfl⟩) (by assumption) ?_
      try simp only [Act.put, List.setIfInBounds_toArray, List.set_cons_zero, List.set_cons_succ]
      refine wpAnyH_take (i := 7) (oi := ⟨_, _, _, _, _, _⟩) (v := undef) rfl (by kernel_rfl) (by kernel_rfl) (by kernel_rfl) (fun _ _ _ h => h) (Or.inr ⟨by rfl, rfl⟩) (by assumption) ?_
      try simp only [Act.put, List.setIfInBounds_toArray, List.set_cons_zero, List.set_cons_succ]
      refine wpAnyH_take (i := 8) (oi := ⟨_, _, _, _, _, _⟩) (v := undef) rfl (by kernel_rfl) (by kernel_rfl) (by kernel_rfl) (fun _ _ _ h => h) (Or.inr ⟨by rfl, rfl⟩) (by assumption) ?_
      try simp only [Act.put, List.setIfInBounds_toArray, List.set_cons_zero, List.set_cons_succ]
      refine wpAnyH_take (i := 9) (oi := ⟨_, _, _, _, _, _⟩) (v := ?vp0fb9) rfl (by kernel_rfl) (by kernel_rfl) (by kernel_rfl) (fun _ _ _ h => h) (Or.inl ⟨by rfl, ?yp0fb9⟩) (by assumption) ?rp0fb9
      case yp0fb9 => intro w hSw; (try dsimp only at hSw); go_simp; try with_reducible rfl
      try simp only [Act.put, List.setIfInBounds_toArray, List.set_cons_zero, List.set_cons_succ]
      refine wpAnyH_take (i := 10) (oi := ⟨_, _, _, _, _, _⟩) (v := ?vp0fb10) rfl (by kernel_rfl) (by kernel_rfl) (by kernel_rfl) (fun _ _ _ h => h) (Or.inl ⟨by rfl, ?yp0fb10⟩) (by assumption) ?rp0fb10
      case yp0fb10 => intro w hSw; (try dsimp only at hSw); go_simp; try with_reducible rfl
      try simp only [Act.put, List.setIfInBounds_toArray, List.set_cons_zero, List.set_cons_succ]
      refine wpAnyH_take (i := 11) (oi := ⟨_, _, _, _, _, _⟩) (v := undef) rfl (by kernel_rfl) (by kernel_rfl) (by kernel_rfl) (fun _ _ _ h => h) (Or.inr ⟨by rfl, rfl⟩) (by assumption) ?_
      try simp only [Act.put, List.setIfInBounds_toArray, List.set_cons_zero, List.set_cons_succ]
      refine wpAnyH_take (i := 12) (oi := ⟨_, _, _, _, _, _⟩) (v := undef) rfl (by kernel_rfl) (by kernel_rfl) (by kernel_rfl) (fun _ _ _ h => h) (Or.inr ⟨by rfl, rfl⟩) (by assumption) ?_
      try simp only [Act.put, List.setIfInBounds_toArray, List.set_cons_zero, List.set_cons_succ]
      refine wpAnyH_take (i := 13) (oi := ⟨_, _, _, _, _, _⟩) (v := undef) rfl (by kernel_rfl) (by kernel_rfl) (by kernel_rfl) (fun _ _ _ h => h) (Or.inr ⟨by rfl, rfl⟩) (by assumption) ?_
      try simp only [Act.put, List.setIfInBounds_toArray, List.set_cons_zero, List.set_cons_succ]
      refine wpAnyH_take (i := 14) (oi := ⟨_, _, _, _, _, _⟩) (v := ?vp0fb14) rfl (by kernel_rfl) (by kernel_rfl) (by kernel_rfl) (fun _ _ _ h => h) (Or.inl ⟨by rfl, ?yp0fb14⟩) (by assumption) ?rp0fb14
      case yp0fb14 => intro w hSw; (try dsimp only at hSw); go_simp; try with_reducible rfl
      try simp only [Act.put, List.setIfInBounds_toArray, List.set_cons_zero, List.set_cons_succ]
      refine wpAnyH_take (i := 15) (oi := ⟨_, _, _, _, _, _⟩) (v := ?vp0fb15) rfl (by kernel_rfl) (by kernel_rfl) (by kernel_rfl) (fun _ _ _ h => h) (Or.inl ⟨by rfl, ?yp0fb15⟩) (by assumption) ?rp0fb15
      case yp0fb15 => intro w hSw; (try dsimp only at hSw); go_simp; try with_reducible rfl
      try simp only [Act.put, List.setIfInBounds_toArray, List.set_cons_zero, List.set_cons_succ]
      refine wpAnyH_take (i := 16) (oi := ⟨_, _, _, _, _, _⟩) (v := undef) rfl (by kernel_rfl) (by kernel_rfl) (by kernel_rfl) (fun _ _ _ h => h) (Or.inr ⟨by rfl, rfl⟩) (by assumption) ?_
      try simp only [Act.put, List.setIfInBounds_toArray, List.set_cons_zero, List.set_cons_succ]
      refine wpAnyH_take (i := 17) (oi := ⟨_, _, _, _, _, _⟩) (v := undef) rfl (by kernel_rfl) (by kernel_rfl) (by kernel_rfl) (fun _ _ _ h => h) (Or.inr ⟨by rfl, rfl⟩) (by assumption) ?_
      try simp only [Act.put, List.setIfInBounds_toArray, List.set_cons_zero, List.set_cons_succ]
      refine wpAnyH_take (i := 18) (oi := ⟨_, _, _, _, _, _⟩) (v := undef) rfl (by kernel_rfl) (by kernel_rfl) (by kernel_rfl) (fun _ _ _ h => h) (Or.inr ⟨by rfl, rfl⟩) (by assumption) ?_
      try simp only [Act.put, List.setIfInBounds_toArray, List.set_cons_zero, List.set_cons_succ]
      refine wpAnyH_take (i := 19) (oi := ⟨_, _, _, _, _, _⟩) (v := ?vp0fb19) rfl (by kernel_rfl) (by kernel_rfl) (by kernel_rfl) (fun _ _ _ h => h) (Or.inl ⟨by rfl, ?yp0fb19⟩) (by assumption) ?rp0fb19
      case yp0fb19 => intro w hSw; (try dsimp only at hSw); go_simp; try with_reducible rfl
      try simp only [Act.put, List.setIfInBounds_toArray, List.set_cons_zero, List.set_cons_succ]
      refine wpAnyH_take (i := 20) (oi := ⟨_, _, _, _, _, _⟩) (v := ?vp0fb20) rfl (by kernel_rfl) (by kernel_rfl) (by kernel_rfl) (fun _ _ _ h => h) (Or.inl ⟨by rfl, ?yp0fb20⟩) (by assumption) ?rp0fb20
      case yp0fb20 => intro w hSw; (try dsimp only at hSw); go_simp; try with_reducible rfl
      try simp only [Act.put, List.setIfInBounds_toArray, List.set_cons_zero, List.set_cons_succ]
      refine wpAnyH_take (i := 21) (oi := ⟨_, _, _, _, _, _⟩) (v := undef) rfl (by kernel_rfl) (by kernel_rfl) (by kernel_rfl) (fun _ _ _ h => h) (Or.inr ⟨by rfl, rfl⟩) (by assumption) ?_
      try simp only [Act.put, List.setIfInBounds_toArray, List.set_cons_zero, List.set_cons_succ]
      refine wpAnyH_take (i := 22) (oi := ⟨_, _, _, _, _, _⟩) (v := undef) rfl (by kernel_rfl) (by kernel_rfl) (by kernel_rfl) (fun _ _ _ h => h) (Or.inr ⟨by rfl, rfl⟩) (by assumption) ?_
      try simp only [Act.put, List.setIfInBounds_toArray, List.set_cons_zero, List.set_cons_succ]
      refine wpAnyH_take (i := 23) (oi := ⟨_, _, _, _, _, _⟩) (v := undef) rfl (by kernel_rfl) (by kernel_rfl) (by kernel_rfl) (fun _ _ _ h => h) (Or.inr ⟨by rfl, rfl⟩) (by assumption) ?_
      try simp only [Act.put, List.setIfInBounds_toArray, List.set_cons_zero, List.set_cons_succ]
      refine wpAnyH_take (i := 24) (oi := ⟨_, _, _, _, _, _⟩) (v := ?vp0fb24) rfl (by kernel_rfl) (by kernel_rfl) (by kernel_rfl) (fun _ _ _ h => h) (Or.inl ⟨by rfl, ?yp0fb24⟩) (by assumption) ?rp0fb24
      case yp0fb24 => intro w hSw; (try dsimp only at hSw); go_simp; try with_reducible rfl
      try simp only [Act.put, List.setIfInBounds_toArray, List.set_cons_zero, List.set_cons_succ]
      refine wpAnyH_take (i := 25) (oi := ⟨_, _, _, _, _, _⟩) (v := ?vp0fb25) rfl (by kernel_rfl) (by kernel_rfl) (by kernel_rfl) (fun _ _ _ h => h) (Or.inl ⟨by rfl, ?yp0fb25⟩) (by assumption) ?rp0fb25
      case yp0fb25 => intro w hSw; (try dsimp only at hSw); go_simp; try with_reducible rfl
      try simp only [Act.put, List.setIfInBounds_toArray, List.set_cons_zero, List.set_cons_succ]
      refine wpAnyH_take (i := 26) (oi := ⟨_, _, _, _, _, _⟩) (v := undef) rfl (by kernel_rfl) (by kernel_rfl) (by kernel_rfl) (fun _ _ _ h => h) (Or.inr ⟨by rfl, rfl⟩) (by assumption) ?_
      try simp only [Act.put, List.setIfInBounds_toArray, List.set_cons_zero, List.set_cons_succ]
      refine wpAnyH_take (i := 27) (oi := ⟨_, _, _, _, _, _⟩) (v := undef) rfl (by kernel_rfl) (by kernel_rfl) (by kernel_rfl) (fun _ _ _ h => h) (Or.inr ⟨by rfl, rfl⟩) (by assumption) ?_
      try simp only [Act.put, List.setIfInBounds_toArray, List.set_cons_zero, List.set_cons_succ]
      refine wpAnyH_take (i := 28) (oi := ⟨_, _, _, _, _, _⟩) (v := undef) rfl (by kernel_rfl) (by kernel_rfl) (by kernel_rfl) (fun _ _ _ h => h) (Or.inr ⟨by rfl, rfl⟩) (by assumption) ?_
      try simp only [Act.put, List.setIfInBounds_toArray, List.set_cons_zero, List.set_cons_succ]
      refine wpAnyH_take (i := 29) (oi := ⟨_, _, _, _, _, _⟩) (v := undef) rfl (by kernel_rfl) (by kernel_rfl) (by kernel_rfl) (fun _ _ _ h => h) (Or.inr ⟨by rfl, rfl⟩) (by assumption) ?_
      try simp only [Act.put, List.setIfInBounds_toArray, List.set_cons_zero, List.set_cons_succ]
      refine wpAnyH_take (i := 30) (oi := ⟨_, _, _, _, _, _⟩) (v := undef) rfl (by kernel_rfl) (by kernel_rfl) (by kernel_rfl) (fun _ _ _ h => h) (Or.inr ⟨by rfl, rfl⟩) (by assumption) ?_
      try simp only [Act.put, List.setIfInBounds_toArray, List.set_cons_zero, List.set_cons_succ]
      refine wpAnyH_take (i := 31) (oi := ⟨_, _, _, _, _, _⟩) (v := undef) rfl (by kernel_rfl) (by kernel_rfl) (by kernel_rfl) (fun _ _ _ h => h) (Or.inr ⟨by rfl, rfl⟩) (by assumption) ?_
      try simp only [Act.put, List.setIfInBounds_toArray, List.set_cons_zero, List.set_cons_succ]
      refine wpAnyH_take (i := 32) (oi := ⟨_, _, _, _, _, _⟩) (v := ?vp0fb32) rfl (by kernel_rfl) (by kernel_rfl) (by kernel_rfl) (fun _ _ _ h => h) (Or.inl ⟨by rfl, ?yp0fb32⟩) (by assumption) ?rp0fb32
      case yp0fb32 => intro w hSw; (try dsimp only at hSw); go_simp; try with_reducible rfl
      try simp only [Act.put, List.setIfInBounds_toArray, List.set_cons_zero, List.set_cons_succ]
      refine wpAnyH_take (i := 33) (oi := ⟨_, _, _, _, _, _⟩) (v := ?vp0fb33) rfl (by kernel_rfl) (by kernel_rfl) (by kernel_rfl) (fun _ _ _ h => h) (Or.inl ⟨by rfl, ?yp0fb33⟩) (by assumption) ?rp0fb33
      case yp0fb33 => intro w hSw; (try dsimp only at hSw); go_simp; try with_reducible rfl
      try simp only [Act.put, List.setIfInBounds_toArray, List.set_cons_zero, List.set_cons_succ]
      refine wpAnyH_done (by kernel_rfl) (NoPanic.normal ?_) _
      clear hu4
      go_wp2
      go_ret
      exact ⟨ret_bool HE.out.symm, BB4⟩
  | true =>
    cases g2 : riseB p.steps brs.length with
    | false =>
      have HE : Hid (okPI brs p = false) := by show _ = _; unfold okPI; rw [HLDo.out, g1, g2]; rfl
      go_enter Tryd.func37, Tryd.ntmps37
      go_wp2_with fail
      try rw [hu0]
      clear hu0
      refine (setFrom_c _ _ _ _ _ _ (h0.below bB) l0 hn7 g1).mono ?_
      rintro r w1 ⟨rfl, hB1⟩
      rw [HN0.out]
      obtain ⟨u2, hu2⟩ : ∃ u, (w1.alloc (.cells #[.int .u64 ((n0 : Nat) : Int)] 49)) = u := ⟨_, rfl⟩
      have BU : Below w1.heap.size w1 u2 := by rw [← hu2]; exact alCt _ _
      have s0 : u2.cell? ⟨w1.heap.size, 0, none⟩ = some (.int .u64 ((n0 : Nat) : Int)) := by rw [← hu2]; simp [go_sem]
      have BB2 := stCt (stCt bB hB1) BU
      have q0 := celB (stCt hB1 BU) kk.1
      have q1 := celB (stCt hB1 BU) kk.2.1
      have q2 := celB (stCt hB1 BU) kk.2.2.1
      have q3 := celB (stCt hB1 BU) kk.2.2.2.1
      have q4 := celB (stCt hB1 BU) kk.2.2.2.2
      clear BU hB1
      go_wp2_with fail
      try rw [hu2]
      clear hu2
      refine (setFrom_c _ _ _ _ _ _ (h1.below BB2) l1 hn7 g2).mono ?_
      rintro r w3 ⟨rfl, hB3⟩
      rw [HN1.out]
      obtain ⟨u4, hu4⟩ : ∃ u, (w3.alloc (.cells #[.int .u64 ((n1 : Nat) : Int)] 49)) = u := ⟨_, rfl⟩
      have BV : Below u2.heap.size u2 u4.drew := by rw [← hu4]; exact (stCt hB3 (alCt _ _)).drew
      have kk4 : u4.drew.cell? ⟨w.heap.size, 0, none⟩ = some (.slice r0 p.homes.length k0) ∧ u4.drew.cell? ⟨w.heap.size, 1, none⟩ = some (.slice r1 p.steps.length k1) ∧ u4.drew.cell? ⟨w.heap.size, 2, none⟩ = some (.int .i64 p.leader) ∧ u4.drew.cell? ⟨w.heap.size, 3, none⟩ = some (.int .i64 p.epoch) ∧ u4.drew.cell? ⟨w.heap.size, 4, none⟩ = some (.int .i64 p.stamp) ∧ u4.drew.cell? ⟨w1.heap.size, 0, none⟩ = some (.int .u64 ((n0 : Nat) : Int)) ∧ u4.drew.cell? ⟨w3.heap.size, 0, none⟩ = some (.int .u64 ((n1 : Nat) : Int)) := ⟨celB BV q0, celB BV q1, celB BV q2, celB BV q3, celB BV q4, celB BV s0, by rw [← hu4]; simp [go_sem]⟩
      have BB4 := stCt BB2 BV
      clear BV hB3 q0 q1 q2 q3 q4 s0
      go_wp2_with fail
      try rw [hu4]
      refine wp_region_noPanic ?_
      refine wp_region_held_drew (S := fun w' => w'.cell? ⟨w.heap.size, 0, none⟩ = some (.slice r0 p.homes.length k0) ∧ w'.cell? ⟨w.heap.size, 1, none⟩ = some (.slice r1 p.steps.length k1) ∧ w'.cell? ⟨w.heap.size, 2, none⟩ = some (.int .i64 p.leader) ∧ w'.cell? ⟨w.heap.size, 3, none⟩ = some (.int .i64 p.epoch) ∧ w'.cell? ⟨w.heap.size, 4, none⟩ = some (.int .i64 p.stamp) ∧ w'.cell? ⟨w1.heap.size, 0, none⟩ = some (.int .u64 ((n0 : Nat) : Int)) ∧ w'.cell? ⟨w3.heap.size, 0, none⟩ = some (.int .u64 ((n1 : Nat) : Int))) (by kernel_rfl) kk4 (fun hH => ?_)
      refine wpAnyH_take (i := 0) (oi := ⟨_, _, _, _, _, _⟩) (v := ?vp1f0) rfl (by kernel_rfl) (by kernel_rfl) (by kernel_rfl) (fun _ _ _ h => h) (Or.inl ⟨by rfl, ?yp1f0⟩) (by assumption) ?rp1f0
      case yp1f0 => intro w hSw; (try dsimp only at hSw); go_simp; try with_reducible rfl
      try simp only [Act.put, List.setIfInBounds_toArray, List.set_cons_zero, List.set_cons_succ]
      refine wpAnyH_take (i := 1) (oi := ⟨_, _, _, _, _, _⟩) (v := ?vp1f1) rfl (by kernel_rfl) (by kernel_rfl) (by kernel_rfl) (fun _ _ _ h => h) (Or.inl ⟨by rfl, ?yp1f1⟩) (by assumption) ?rp1f1
      case yp1f1 => intro w hSw; (try dsimp only at hSw); go_simp; try with_reducible rfl
      try simp only [Act.put, List.setIfInBounds_toArray, List.set_cons_zero, List.set_cons_succ]
      refine wpAnyH_take (i := 2) (oi := ⟨_, _, _, _, _, _⟩) (v := ?vp1f2) rfl (by kernel_rfl) (by kernel_rfl) (by kernel_rfl) (fun _ _ _ h => h) (Or.inl ⟨by rfl, ?yp1f2⟩) (by assumption) ?rp1f2
      case yp1f2 => intro w hSw; (try dsimp only at hSw); go_simp; try with_reducible rfl
      try simp only [Act.put, List.setIfInBounds_toArray, List.set_cons_zero, List.set_cons_succ]
      refine wpAnyH_take (i := 3) (oi := ⟨_, _, _, _, _, _⟩) (v := ?vp1f3) rfl (by kernel_rfl) (by kernel_rfl) (by kernel_rfl) (fun _ _ _ h => h) (Or.inl ⟨by rfl, ?yp1f3⟩) (by assumption) ?rp1f3
      case yp1f3 => intro w hSw; (try dsimp only at hSw); go_simp; try with_reducible rfl
      try simp only [Act.put, List.setIfInBounds_toArray, List.set_cons_zero, List.set_cons_succ]
      refine wpAnyH_take (i := 4) (oi := ⟨_, _, _, _, _, _⟩) (v := ?vp1f4) rfl (by kernel_rfl) (by kernel_rfl) (by kernel_rfl) (fun _ _ _ h => h) (Or.inl ⟨by rfl, ?yp1f4⟩) (by assumption) ?rp1f4
      case yp1f4 => intro w hSw; (try dsimp only at hSw); go_simp; try with_reducible rfl
      try simp only [Act.put, List.setIfInBounds_toArray, List.set_cons_zero, List.set_cons_succ]
      refine wpAnyH_take (i := 5) (oi := ⟨_, _, _, _, _, _⟩) (v := undef) rfl (by kernel_rfl) (by kernel_rfl) (by kernel_rfl) (fun _ _ _ h => h) (Or.inr ⟨by rfl, rfl⟩) (by assumption) ?_
      try simp only [Act.put, List.setIfInBounds_toArray, List.set_cons_zero, List.set_cons_succ]
      refine wpAnyH_take (i := 6) (oi := ⟨_, _, _, _, _, _⟩) (v := undef) rfl (by kernel_rfl) (by kernel_rfl) (by kernel_rfl) (fun _ _ _ h => h) (Or.inr ⟨by rfl, rfl⟩) (by assumption) ?_
      try simp only [Act.put, List.setIfInBounds_toArray, List.set_cons_zero, List.set_cons_succ]
      refine wpAnyH_take (i := 7) (oi := ⟨_, _, _, _, _, _⟩) (v := undef) rfl (by kernel_rfl) (by kernel_rfl) (by kernel_rfl) (fun _ _ _ h => h) (Or.inr ⟨by rfl, rfl⟩) (by assumption) ?_
      try simp only [Act.put, List.setIfInBounds_toArray, List.set_cons_zero, List.set_cons_succ]
      refine wpAnyH_take (i := 8) (oi := ⟨_, _, _, _, _, _⟩) (v := undef) rfl (by kernel_rfl) (by kernel_rfl) (by kernel_rfl) (fun _ _ _ h => h) (Or.inr ⟨by rfl, rfl⟩) (by assumption) ?_
      try simp only [Act.put, List.setIfInBounds_toArray, List.set_cons_zero, List.set_cons_succ]
      refine wpAnyH_take (i := 9) (oi := ⟨_, _, _, _, _, _⟩) (v := ?vp1f9) rfl (by kernel_rfl) (by kernel_rfl) (by kernel_rfl) (fun _ _ _ h => h) (Or.inl ⟨by rfl, ?yp1f9⟩) (by assumption) ?rp1f9
      case yp1f9 => intro w hSw; (try dsimp only at hSw); go_simp; try with_reducible rfl
      try simp only [Act.put, List.setIfInBounds_toArray, List.set_cons_zero, List.set_cons_succ]
      refine wpAnyH_take (i := 10) (oi := ⟨_, _, _, _, _, _⟩) (v := ?vp1f10) rfl (by kernel_rfl) (by kernel_rfl) (by kernel_rfl) (fun _ _ _ h => h) (Or.inl ⟨by rfl, ?yp1f10⟩) (by assumption) ?rp1f10
      case yp1f10 => intro w hSw; (try dsimp only at hSw); go_simp; try with_reducible rfl
      try simp only [Act.put, List.setIfInBounds_toArray, List.set_cons_zero, List.set_cons_succ]
      refine wpAnyH_take (i := 11) (oi := ⟨_, _, _, _, _, _⟩) (v := undef) rfl (by kernel_rfl) (by kernel_rfl) (by kernel_rfl) (fun _ _ _ h => h) (Or.inr ⟨by rfl, rfl⟩) (by assumption) ?_
      try simp only [Act.put, List.setIfInBounds_toArray, List.set_cons_zero, List.set_cons_succ]
      refine wpAnyH_take (i := 12) (oi := ⟨_, _, _, _, _, _⟩) (v := undef) rfl (by kernel_rfl) (by kernel_rfl) (by kernel_rfl) (fun _ _ _ h => h) (Or.inr ⟨by rfl, rfl⟩) (by assumption) ?_
      try simp only [Act.put, List.setIfInBounds_toArray, List.set_cons_zero, List.set_cons_succ]
      refine wpAnyH_take (i := 13) (oi := ⟨_, _, _, _, _, _⟩) (v := undef) rfl (by kernel_rfl) (by kernel_rfl) (by kernel_rfl) (fun _ _ _ h => h) (Or.inr ⟨by rfl, rfl⟩) (by assumption) ?_
      try simp only [Act.put, List.setIfInBounds_toArray, List.set_cons_zero, List.set_cons_succ]
      refine wpAnyH_take (i := 14) (oi := ⟨_, _, _, _, _, _⟩) (v := ?vp1f14) rfl (by kernel_rfl) (by kernel_rfl) (by kernel_rfl) (fun _ _ _ h => h) (Or.inl ⟨by rfl, ?yp1f14⟩) (by assumption) ?rp1f14
      case yp1f14 => intro w hSw; (try dsimp only at hSw); go_simp; try with_reducible rfl
      try simp only [Act.put, List.setIfInBounds_toArray, List.set_cons_zero, List.set_cons_succ]
      refine wpAnyH_take (i := 15) (oi := ⟨_, _, _, _, _, _⟩) (v := ?vp1f15) rfl (by kernel_rfl) (by kernel_rfl) (by kernel_rfl) (fun _ _ _ h => h) (Or.inl ⟨by rfl, ?yp1f15⟩) (by assumption) ?rp1f15
      case yp1f15 => intro w hSw; (try dsimp only at hSw); go_simp; try with_reducible rfl
      try simp only [Act.put, List.setIfInBounds_toArray, List.set_cons_zero, List.set_cons_succ]
      refine wpAnyH_take (i := 16) (oi := ⟨_, _, _, _, _, _⟩) (v := undef) rfl (by kernel_rfl) (by kernel_rfl) (by kernel_rfl) (fun _ _ _ h => h) (Or.inr ⟨by rfl, rfl⟩) (by assumption) ?_
      try simp only [Act.put, List.setIfInBounds_toArray, List.set_cons_zero, List.set_cons_succ]
      refine wpAnyH_take (i := 17) (oi := ⟨_, _, _, _, _, _⟩) (v := undef) rfl (by kernel_rfl) (by kernel_rfl) (by kernel_rfl) (fun _ _ _ h => h) (Or.inr ⟨by rfl, rfl⟩) (by assumption) ?_
      try simp only [Act.put, List.setIfInBounds_toArray, List.set_cons_zero, List.set_cons_succ]
      refine wpAnyH_take (i := 18) (oi := ⟨_, _, _, _, _, _⟩) (v := undef) rfl (by kernel_rfl) (by kernel_rfl) (by kernel_rfl) (fun _ _ _ h => h) (Or.inr ⟨by rfl, rfl⟩) (by assumption) ?_
      try simp only [Act.put, List.setIfInBounds_toArray, List.set_cons_zero, List.set_cons_succ]
      refine wpAnyH_take (i := 19) (oi := ⟨_, _, _, _, _, _⟩) (v := ?vp1f19) rfl (by kernel_rfl) (by kernel_rfl) (by kernel_rfl) (fun _ _ _ h => h) (Or.inl ⟨by rfl, ?yp1f19⟩) (by assumption) ?rp1f19
      case yp1f19 => intro w hSw; (try dsimp only at hSw); go_simp; try with_reducible rfl
      try simp only [Act.put, List.setIfInBounds_toArray, List.set_cons_zero, List.set_cons_succ]
      refine wpAnyH_take (i := 20) (oi := ⟨_, _, _, _, _, _⟩) (v := ?vp1f20) rfl (by kernel_rfl) (by kernel_rfl) (by kernel_rfl) (fun _ _ _ h => h) (Or.inl ⟨by rfl, ?yp1f20⟩) (by assumption) ?rp1f20
      case yp1f20 => intro w hSw; (try dsimp only at hSw); go_simp; try with_reducible rfl
      try simp only [Act.put, List.setIfInBounds_toArray, List.set_cons_zero, List.set_cons_succ]
      refine wpAnyH_take (i := 21) (oi := ⟨_, _, _, _, _, _⟩) (v := undef) rfl (by kernel_rfl) (by kernel_rfl) (by kernel_rfl) (fun _ _ _ h => h) (Or.inr ⟨by rfl, rfl⟩) (by assumption) ?_
      try simp only [Act.put, List.setIfInBounds_toArray, List.set_cons_zero, List.set_cons_succ]
      refine wpAnyH_take (i := 22) (oi := ⟨_, _, _, _, _, _⟩) (v := undef) rfl (by kernel_rfl) (by kernel_rfl) (by kernel_rfl) (fun _ _ _ h => h) (Or.inr ⟨by rfl, rfl⟩) (by assumption) ?_
      try simp only [Act.put, List.setIfInBounds_toArray, List.set_cons_zero, List.set_cons_succ]
      refine wpAnyH_take (i := 23) (oi := ⟨_, _, _, _, _, _⟩) (v := undef) rfl (by kernel_rfl) (by kernel_rfl) (by kernel_rfl) (fun _ _ _ h => h) (Or.inr ⟨by rfl, rfl⟩) (by assumption) ?_
      try simp only [Act.put, List.setIfInBounds_toArray, List.set_cons_zero, List.set_cons_succ]
      refine wpAnyH_take (i := 24) (oi := ⟨_, _, _, _, _, _⟩) (v := ?vp1f24) rfl (by kernel_rfl) (by kernel_rfl) (by kernel_rfl) (fun _ _ _ h => h) (Or.inl ⟨by rfl, ?yp1f24⟩) (by assumption) ?rp1f24
      case yp1f24 => intro w hSw; (try dsimp only at hSw); go_simp; try with_reducible rfl
      try simp only [Act.put, List.setIfInBounds_toArray, List.set_cons_zero, List.set_cons_succ]
      refine wpAnyH_take (i := 25) (oi := ⟨_, _, _, _, _, _⟩) (v := ?vp1f25) rfl (by kernel_rfl) (by kernel_rfl) (by kernel_rfl) (fun _ _ _ h => h) (Or.inl ⟨by rfl, ?yp1f25⟩) (by assumption) ?rp1f25
      case yp1f25 => intro w hSw; (try dsimp only at hSw); go_simp; try with_reducible rfl
      try simp only [Act.put, List.setIfInBounds_toArray, List.set_cons_zero, List.set_cons_succ]
      refine wpAnyH_take (i := 26) (oi := ⟨_, _, _, _, _, _⟩) (v := undef) rfl (by kernel_rfl) (by kernel_rfl) (by kernel_rfl) (fun _ _ _ h => h) (Or.inr ⟨by rfl, rfl⟩) (by assumption) ?_
      try simp only [Act.put, List.setIfInBounds_toArray, List.set_cons_zero, List.set_cons_succ]
      refine wpAnyH_take (i := 27) (oi := ⟨_, _, _, _, _, _⟩) (v := undef) rfl (by kernel_rfl) (by kernel_rfl) (by kernel_rfl) (fun _ _ _ h => h) (Or.inr ⟨by rfl, rfl⟩) (by assumption) ?_
      try simp only [Act.put, List.setIfInBounds_toArray, List.set_cons_zero, List.set_cons_succ]
      refine wpAnyH_take (i := 28) (oi := ⟨_, _, _, _, _, _⟩) (v := undef) rfl (by kernel_rfl) (by kernel_rfl) (by kernel_rfl) (fun _ _ _ h => h) (Or.inr ⟨by rfl, rfl⟩) (by assumption) ?_
      try simp only [Act.put, List.setIfInBounds_toArray, List.set_cons_zero, List.set_cons_succ]
      refine wpAnyH_take (i := 29) (oi := ⟨_, _, _, _, _, _⟩) (v := undef) rfl (by kernel_rfl) (by kernel_rfl) (by kernel_rfl) (fun _ _ _ h => h) (Or.inr ⟨by rfl, rfl⟩) (by assumption) ?_
      try simp only [Act.put, List.setIfInBounds_toArray, List.set_cons_zero, List.set_cons_succ]
      refine wpAnyH_take (i := 30) (oi := ⟨_, _, _, _, _, _⟩) (v := undef) rfl (by kernel_rfl) (by kernel_rfl) (by kernel_rfl) (fun _ _ _ h => h) (Or.inr ⟨by rfl, rfl⟩) (by assumption) ?_
      try simp only [Act.put, List.setIfInBounds_toArray, List.set_cons_zero, List.set_cons_succ]
      refine wpAnyH_take (i := 31) (oi := ⟨_, _, _, _, _, _⟩) (v := undef) rfl (by kernel_rfl) (by kernel_rfl) (by kernel_rfl) (fun _ _ _ h => h) (Or.inr ⟨by rfl, rfl⟩) (by assumption) ?_
      try simp only [Act.put, List.setIfInBounds_toArray, List.set_cons_zero, List.set_cons_succ]
      refine wpAnyH_take (i := 32) (oi := ⟨_, _, _, _, _, _⟩) (v := ?vp1f32) rfl (by kernel_rfl) (by kernel_rfl) (by kernel_rfl) (fun _ _ _ h => h) (Or.inl ⟨by rfl, ?yp1f32⟩) (by assumption) ?rp1f32
      case yp1f32 => intro w hSw; (try dsimp only at hSw); go_simp; try with_reducible rfl
      try simp only [Act.put, List.setIfInBounds_toArray, List.set_cons_zero, List.set_cons_succ]
      refine wpAnyH_take (i := 33) (oi := ⟨_, _, _, _, _, _⟩) (v := ?vp1f33) rfl (by kernel_rfl) (by kernel_rfl) (by kernel_rfl) (fun _ _ _ h => h) (Or.inl ⟨by rfl, ?yp1f33⟩) (by assumption) ?rp1f33
      case yp1f33 => intro w hSw; (try dsimp only at hSw); go_simp; try with_reducible rfl
      try simp only [Act.put, List.setIfInBounds_toArray, List.set_cons_zero, List.set_cons_succ]
      refine wpAnyH_done (by kernel_rfl) (NoPanic.normal ?_) _
      clear hu4
      go_wp2
      go_ret
      exact ⟨ret_bool HE.out.symm, BB4⟩
    | true =>
      cases g3 : decide (0 < p.steps.length) with
      | false =>
        have HE : Hid (okPI brs p = false) := by show _ = _; unfold okPI; rw [HLDo.out, g1, g2, g3]; rfl
        have d3 : decide ((0 : Int) < (p.steps.length : Int)) = false := decide_eq_false (by have := of_decide_eq_false g3; omega)
        go_enter Tryd.func37, Tryd.ntmps37
        go_wp2_with fail
        try rw [hu0]
        clear hu0
        refine (setFrom_c _ _ _ _ _ _ (h0.below bB) l0 hn7 g1).mono ?_
        rintro r w1 ⟨rfl, hB1⟩
        rw [HN0.out]
        obtain ⟨u2, hu2⟩ : ∃ u, (w1.alloc (.cells #[.int .u64 ((n0 : Nat) : Int)] 49)) = u := ⟨_, rfl⟩
        have BU : Below w1.heap.size w1 u2 := by rw [← hu2]; exact alCt _ _
        have s0 : u2.cell? ⟨w1.heap.size, 0, none⟩ = some (.int .u64 ((n0 : Nat) : Int)) := by rw [← hu2]; simp [go_sem]
        have BB2 := stCt (stCt bB hB1) BU
        have q0 := celB (stCt hB1 BU) kk.1
        have q1 := celB (stCt hB1 BU) kk.2.1
        have q2 := celB (stCt hB1 BU) kk.2.2.1
        have q3 := celB (stCt hB1 BU) kk.2.2.2.1
        have q4 := celB (stCt hB1 BU) kk.2.2.2.2
        clear BU hB1
        go_wp2_with fail
        try rw [hu2]
        clear hu2
        refine (setFrom_c _ _ _ _ _ _ (h1.below BB2) l1 hn7 g2).mono ?_
        rintro r w3 ⟨rfl, hB3⟩
        rw [HN1.out]
        obtain ⟨u4, hu4⟩ : ∃ u, (w3.alloc (.cells #[.int .u64 ((n1 : Nat) : Int)] 49)) = u := ⟨_, rfl⟩
        have BV : Below u2.heap.size u2 u4.drew := by rw [← hu4]; exact (stCt hB3 (alCt _ _)).drew
        have kk4 : u4.drew.cell? ⟨w.heap.size, 0, none⟩ = some (.slice r0 p.homes.length k0) ∧ u4.drew.cell? ⟨w.heap.size, 1, none⟩ = some (.slice r1 p.steps.length k1) ∧ u4.drew.cell? ⟨w.heap.size, 2, none⟩ = some (.int .i64 p.leader) ∧ u4.drew.cell? ⟨w.heap.size, 3, none⟩ = some (.int .i64 p.epoch) ∧ u4.drew.cell? ⟨w.heap.size, 4, none⟩ = some (.int .i64 p.stamp) ∧ u4.drew.cell? ⟨w1.heap.size, 0, none⟩ = some (.int .u64 ((n0 : Nat) : Int)) ∧ u4.drew.cell? ⟨w3.heap.size, 0, none⟩ = some (.int .u64 ((n1 : Nat) : Int)) := ⟨celB BV q0, celB BV q1, celB BV q2, celB BV q3, celB BV q4, celB BV s0, by rw [← hu4]; simp [go_sem]⟩
        have BB4 := stCt BB2 BV
        clear BV hB3 q0 q1 q2 q3 q4 s0
        go_wp2_with fail
        try rw [hu4]
        refine wp_region_noPanic ?_
        refine wp_region_held_drew (S := fun w' => w'.cell? ⟨w.heap.size, 0, none⟩ = some (.slice r0 p.homes.length k0) ∧ w'.cell? ⟨w.heap.size, 1, none⟩ = some (.slice r1 p.steps.length k1) ∧ w'.cell? ⟨w.heap.size, 2, none⟩ = some (.int .i64 p.leader) ∧ w'.cell? ⟨w.heap.size, 3, none⟩ = some (.int .i64 p.epoch) ∧ w'.cell? ⟨w.heap.size, 4, none⟩ = some (.int .i64 p.stamp) ∧ w'.cell? ⟨w1.heap.size, 0, none⟩ = some (.int .u64 ((n0 : Nat) : Int)) ∧ w'.cell? ⟨w3.heap.size, 0, none⟩ = some (.int .u64 ((n1 : Nat) : Int))) (by kernel_rfl) kk4 (fun hH => ?_)
        refine wpAnyH_take (i := 0) (oi := ⟨_, _, _, _, _, _⟩) (v := ?vp2f0) rfl (by kernel_rfl) (by kernel_rfl) (by kernel_rfl) (fun _ _ _ h => h) (Or.inl ⟨by rfl, ?yp2f0⟩) (by assumption) ?rp2f0
        case yp2f0 => intro w hSw; (try dsimp only at hSw); go_simp; try with_reducible rfl
        try simp only [Act.put, List.setIfInBounds_toArray, List.set_cons_zero, List.set_cons_succ]
        refine wpAnyH_take (i := 1) (oi := ⟨_, _, _, _, _, _⟩) (v := ?vp2f1) rfl (by kernel_rfl) (by kernel_rfl) (by kernel_rfl) (fun _ _ _ h => h) (Or.inl ⟨by rfl, ?yp2f1⟩) (by assumption) ?rp2f1
        case yp2f1 => intro w hSw; (try dsimp only at hSw); go_simp; try with_reducible rfl
        try simp only [Act.put, List.setIfInBounds_toArray, List.set_cons_zero, List.set_cons_succ]
        refine wpAnyH_take (i := 2) (oi := ⟨_, _, _, _, _, _⟩) (v := ?vp2f2) rfl (by kernel_rfl) (by kernel_rfl) (by kernel_rfl) (fun _ _ _ h => h) (Or.inl ⟨by rfl, ?yp2f2⟩) (by assumption) ?rp2f2
        case yp2f2 => intro w hSw; (try dsimp only at hSw); go_simp; try with_reducible rfl
        try simp only [Act.put, List.setIfInBounds_toArray, List.set_cons_zero, List.set_cons_succ]
        refine wpAnyH_take (i := 3) (oi := ⟨_, _, _, _, _, _⟩) (v := ?vp2f3) rfl (by kernel_rfl) (by kernel_rfl) (by kernel_rfl) (fun _ _ _ h => h) (Or.inl ⟨by rfl, ?yp2f3⟩) (by assumption) ?rp2f3
        case yp2f3 => intro w hSw; (try dsimp only at hSw); go_simp; try with_reducible rfl
        try simp only [Act.put, List.setIfInBounds_toArray, List.set_cons_zero, List.set_cons_succ]
        refine wpAnyH_take (i := 4) (oi := ⟨_, _, _, _, _, _⟩) (v := ?vp2f4) rfl (by kernel_rfl) (by kernel_rfl) (by kernel_rfl) (fun _ _ _ h => h) (Or.inl ⟨by rfl, ?yp2f4⟩) (by assumption) ?rp2f4
        case yp2f4 => intro w hSw; (try dsimp only at hSw); go_simp; try with_reducible rfl
        try simp only [Act.put, List.setIfInBounds_toArray, List.set_cons_zero, List.set_cons_succ]
        refine wpAnyH_take (i := 5) (oi := ⟨_, _, _, _, _, _⟩) (v := ?vp2f5) rfl (by kernel_rfl) (by kernel_rfl) (by kernel_rfl) (fun _ _ _ h => h) (Or.inl ⟨by rfl, ?yp2f5⟩) (by assumption) ?rp2f5
        case yp2f5 => intro w hSw; (try dsimp only at hSw); go_simp; try with_reducible rfl
        try simp only [Act.put, List.setIfInBounds_toArray, List.set_cons_zero, List.set_cons_succ]
        refine wpAnyH_take (i := 6) (oi := ⟨_, _, _, _, _, _⟩) (v := ?vp2f6) rfl (by kernel_rfl) (by kernel_rfl) (by kernel_rfl) (fun _ _ _ h => h) (Or.inl ⟨by rfl, ?yp2f6⟩) (by assumption) ?rp2f6
        case yp2f6 => intro w hSw; (try dsimp only at hSw); go_simp; try with_reducible rfl
        try simp only [Act.put, List.setIfInBounds_toArray, List.set_cons_zero, List.set_cons_succ]
        refine wpAnyH_take (i := 7) (oi := ⟨_, _, _, _, _, _⟩) (v := ?vp2f7) rfl (by kernel_rfl) (by kernel_rfl) (by kernel_rfl) (fun _ _ _ h => h) (Or.inl ⟨by rfl, ?yp2f7⟩) (by assumption) ?rp2f7
        case yp2f7 => intro w hSw; (try dsimp only at hSw); go_simp; try with_reducible rfl
        try simp only [Act.put, List.setIfInBounds_toArray, List.set_cons_zero, List.set_cons_succ]
        refine wpAnyH_take (i := 8) (oi := ⟨_, _, _, _, _, _⟩) (v := ?vp2f8) rfl (by kernel_rfl) (by kernel_rfl) (by kernel_rfl) (fun _ _ _ h => h) (Or.inl ⟨by rfl, ?yp2f8⟩) (by assumption) ?rp2f8
        case yp2f8 => intro w hSw; (try dsimp only at hSw); go_simp; try with_reducible rfl
        try simp only [Act.put, List.setIfInBounds_toArray, List.set_cons_zero, List.set_cons_succ]
        refine wpAnyH_take (i := 9) (oi := ⟨_, _, _, _, _, _⟩) (v := ?vp2f9) rfl (by kernel_rfl) (by kernel_rfl) (by kernel_rfl) (fun _ _ _ h => h) (Or.inl ⟨by rfl, ?yp2f9⟩) (by assumption) ?rp2f9
        case yp2f9 => intro w hSw; (try dsimp only at hSw); go_simp; try with_reducible rfl
        try simp only [Act.put, List.setIfInBounds_toArray, List.set_cons_zero, List.set_cons_succ]
        refine wpAnyH_take (i := 10) (oi := ⟨_, _, _, _, _, _⟩) (v := ?vp2f10) rfl (by kernel_rfl) (by kernel_rfl) (by kernel_rfl) (fun _ _ _ h => h) (Or.inl ⟨by rfl, ?yp2f10⟩) (by assumption) ?rp2f10
        case yp2f10 => intro w hSw; (try dsimp only at hSw); go_simp; try with_reducible rfl
        try simp only [Act.put, List.setIfInBounds_toArray, List.set_cons_zero, List.set_cons_succ]
        refine wpAnyH_take (i := 11) (oi := ⟨_, _, _, _, _, _⟩) (v := undef) rfl (by kernel_rfl) (by kernel_rfl) (by kernel_rfl) (fun _ _ _ h => h) (Or.inr ⟨by rfl, rfl⟩) (by assumption) ?_
        try simp only [Act.put, List.setIfInBounds_toArray, List.set_cons_zero, List.set_cons_succ]
        refine wpAnyH_take (i := 12) (oi := ⟨_, _, _, _, _, _⟩) (v := undef) rfl (by kernel_rfl) (by kernel_rfl) (by kernel_rfl) (fun _ _ _ h => h) (Or.inr ⟨by rfl, rfl⟩) (by assumption) ?_
        try simp only [Act.put, List.setIfInBounds_toArray, List.set_cons_zero, List.set_cons_succ]
        refine wpAnyH_take (i := 13) (oi := ⟨_, _, _, _, _, _⟩) (v := undef) rfl (by kernel_rfl) (by kernel_rfl) (by kernel_rfl) (fun _ _ _ h => h) (Or.inr ⟨by rfl, rfl⟩) (by assumption) ?_
        try simp only [Act.put, List.setIfInBounds_toArray, List.set_cons_zero, List.set_cons_succ]
        refine wpAnyH_take (i := 14) (oi := ⟨_, _, _, _, _, _⟩) (v := ?vp2f14) rfl (by kernel_rfl) (by kernel_rfl) (by kernel_rfl) (fun _ _ _ h => h) (Or.inl ⟨by rfl, ?yp2f14⟩) (by assumption) ?rp2f14
        case yp2f14 => intro w hSw; (try dsimp only at hSw); go_simp; try with_reducible rfl
        try simp only [Act.put, List.setIfInBounds_toArray, List.set_cons_zero, List.set_cons_succ]
        refine wpAnyH_take (i := 15) (oi := ⟨_, _, _, _, _, _⟩) (v := ?vp2f15) rfl (by kernel_rfl) (by kernel_rfl) (by kernel_rfl) (fun _ _ _ h => h) (Or.inl ⟨by rfl, ?yp2f15⟩) (by assumption) ?rp2f15
        case yp2f15 => intro w hSw; (try dsimp only at hSw); go_simp; try with_reducible rfl
        try simp only [Act.put, List.setIfInBounds_toArray, List.set_cons_zero, List.set_cons_succ]
        refine wpAnyH_take (i := 16) (oi := ⟨_, _, _, _, _, _⟩) (v := undef) rfl (by kernel_rfl) (by kernel_rfl) (by kernel_rfl) (fun _ _ _ h => h) (Or.inr ⟨by rfl, rfl⟩) (by assumption) ?_
        try simp only [Act.put, List.setIfInBounds_toArray, List.set_cons_zero, List.set_cons_succ]
        refine wpAnyH_take (i := 17) (oi := ⟨_, _, _, _, _, _⟩) (v := undef) rfl (by kernel_rfl) (by kernel_rfl) (by kernel_rfl) (fun _ _ _ h => h) (Or.inr ⟨by rfl, rfl⟩) (by assumption) ?_
        try simp only [Act.put, List.setIfInBounds_toArray, List.set_cons_zero, List.set_cons_succ]
        refine wpAnyH_take (i := 18) (oi := ⟨_, _, _, _, _, _⟩) (v := undef) rfl (by kernel_rfl) (by kernel_rfl) (by kernel_rfl) (fun _ _ _ h => h) (Or.inr ⟨by rfl, rfl⟩) (by assumption) ?_
        try simp only [Act.put, List.setIfInBounds_toArray, List.set_cons_zero, List.set_cons_succ]
        refine wpAnyH_take (i := 19) (oi := ⟨_, _, _, _, _, _⟩) (v := ?vp2f19) rfl (by kernel_rfl) (by kernel_rfl) (by kernel_rfl) (fun _ _ _ h => h) (Or.inl ⟨by rfl, ?yp2f19⟩) (by assumption) ?rp2f19
        case yp2f19 => intro w hSw; (try dsimp only at hSw); go_simp; try with_reducible rfl
        try simp only [Act.put, List.setIfInBounds_toArray, List.set_cons_zero, List.set_cons_succ]
        refine wpAnyH_take (i := 20) (oi := ⟨_, _, _, _, _, _⟩) (v := ?vp2f20) rfl (by kernel_rfl) (by kernel_rfl) (by kernel_rfl) (fun _ _ _ h => h) (Or.inl ⟨by rfl, ?yp2f20⟩) (by assumption) ?rp2f20
        case yp2f20 => intro w hSw; (try dsimp only at hSw); go_simp; try with_reducible rfl
        try simp only [Act.put, List.setIfInBounds_toArray, List.set_cons_zero, List.set_cons_succ]
        refine wpAnyH_take (i := 21) (oi := ⟨_, _, _, _, _, _⟩) (v := undef) rfl (by kernel_rfl) (by kernel_rfl) (by kernel_rfl) (fun _ _ _ h => h) (Or.inr ⟨by rfl, rfl⟩) (by assumption) ?_
        try simp only [Act.put, List.setIfInBounds_toArray, List.set_cons_zero, List.set_cons_succ]
        refine wpAnyH_take (i := 22) (oi := ⟨_, _, _, _, _, _⟩) (v := undef) rfl (by kernel_rfl) (by kernel_rfl) (by kernel_rfl) (fun _ _ _ h => h) (Or.inr ⟨by rfl, rfl⟩) (by assumption) ?_
        try simp only [Act.put, List.setIfInBounds_toArray, List.set_cons_zero, List.set_cons_succ]
        refine wpAnyH_take (i := 23) (oi := ⟨_, _, _, _, _, _⟩) (v := undef) rfl (by kernel_rfl) (by kernel_rfl) (by kernel_rfl) (fun _ _ _ h => h) (Or.inr ⟨by rfl, rfl⟩) (by assumption) ?_
        try simp only [Act.put, List.setIfInBounds_toArray, List.set_cons_zero, List.set_cons_succ]
        refine wpAnyH_take (i := 24) (oi := ⟨_, _, _, _, _, _⟩) (v := ?vp2f24) rfl (by kernel_rfl) (by kernel_rfl) (by kernel_rfl) (fun _ _ _ h => h) (Or.inl ⟨by rfl, ?yp2f24⟩) (by assumption) ?rp2f24
        case yp2f24 => intro w hSw; (try dsimp only at hSw); go_simp; try with_reducible rfl
        try simp only [Act.put, List.setIfInBounds_toArray, List.set_cons_zero, List.set_cons_succ]
        refine wpAnyH_take (i := 25) (oi := ⟨_, _, _, _, _, _⟩) (v := ?vp2f25) rfl (by kernel_rfl) (by kernel_rfl) (by kernel_rfl) (fun _ _ _ h => h) (Or.inl ⟨by rfl, ?yp2f25⟩) (by assumption) ?rp2f25
        case yp2f25 => intro w hSw; (try dsimp only at hSw); go_simp; try with_reducible rfl
        try simp only [Act.put, List.setIfInBounds_toArray, List.set_cons_zero, List.set_cons_succ]
        refine wpAnyH_take (i := 26) (oi := ⟨_, _, _, _, _, _⟩) (v := undef) rfl (by kernel_rfl) (by kernel_rfl) (by kernel_rfl) (fun _ _ _ h => h) (Or.inr ⟨by rfl, rfl⟩) (by assumption) ?_
        try simp only [Act.put, List.setIfInBounds_toArray, List.set_cons_zero, List.set_cons_succ]
        refine wpAnyH_take (i := 27) (oi := ⟨_, _, _, _, _, _⟩) (v := undef) rfl (by kernel_rfl) (by kernel_rfl) (by kernel_rfl) (fun _ _ _ h => h) (Or.inr ⟨by rfl, rfl⟩) (by assumption) ?_
        try simp only [Act.put, List.setIfInBounds_toArray, List.set_cons_zero, List.set_cons_succ]
        refine wpAnyH_take (i := 28) (oi := ⟨_, _, _, _, _, _⟩) (v := undef) rfl (by kernel_rfl) (by kernel_rfl) (by kernel_rfl) (fun _ _ _ h => h) (Or.inr ⟨by rfl, rfl⟩) (by assumption) ?_
        try simp only [Act.put, List.setIfInBounds_toArray, List.set_cons_zero, List.set_cons_succ]
        refine wpAnyH_take (i := 29) (oi := ⟨_, _, _, _, _, _⟩) (v := undef) rfl (by kernel_rfl) (by kernel_rfl) (by kernel_rfl) (fun _ _ _ h => h) (Or.inr ⟨by rfl, rfl⟩) (by assumption) ?_
        try simp only [Act.put, List.setIfInBounds_toArray, List.set_cons_zero, List.set_cons_succ]
        refine wpAnyH_take (i := 30) (oi := ⟨_, _, _, _, _, _⟩) (v := undef) rfl (by kernel_rfl) (by kernel_rfl) (by kernel_rfl) (fun _ _ _ h => h) (Or.inr ⟨by rfl, rfl⟩) (by assumption) ?_
        try simp only [Act.put, List.setIfInBounds_toArray, List.set_cons_zero, List.set_cons_succ]
        refine wpAnyH_take (i := 31) (oi := ⟨_, _, _, _, _, _⟩) (v := undef) rfl (by kernel_rfl) (by kernel_rfl) (by kernel_rfl) (fun _ _ _ h => h) (Or.inr ⟨by rfl, rfl⟩) (by assumption) ?_
        try simp only [Act.put, List.setIfInBounds_toArray, List.set_cons_zero, List.set_cons_succ]
        refine wpAnyH_take (i := 32) (oi := ⟨_, _, _, _, _, _⟩) (v := ?vp2f32) rfl (by kernel_rfl) (by kernel_rfl) (by kernel_rfl) (fun _ _ _ h => h) (Or.inl ⟨by rfl, ?yp2f32⟩) (by assumption) ?rp2f32
        case yp2f32 => intro w hSw; (try dsimp only at hSw); go_simp; try with_reducible rfl
        try simp only [Act.put, List.setIfInBounds_toArray, List.set_cons_zero, List.set_cons_succ]
        refine wpAnyH_take (i := 33) (oi := ⟨_, _, _, _, _, _⟩) (v := ?vp2f33) rfl (by kernel_rfl) (by kernel_rfl) (by kernel_rfl) (fun _ _ _ h => h) (Or.inl ⟨by rfl, ?yp2f33⟩) (by assumption) ?rp2f33
        case yp2f33 => intro w hSw; (try dsimp only at hSw); go_simp; try with_reducible rfl
        try simp only [Act.put, List.setIfInBounds_toArray, List.set_cons_zero, List.set_cons_succ]
        refine wpAnyH_done (by kernel_rfl) (NoPanic.normal ?_) _
        clear hu4
        go_wp2
        go_ret
        exact ⟨ret_bool HE.out.symm, BB4⟩
      | true =>
        cases g4 : hasL p.homes p.steps with
        | false =>
          have HE : Hid (okPI brs p = false) := by show _ = _; unfold okPI; rw [HLDo.out, g1, g2, g3, g4]; rfl
          have d3 : (0 : Int) < (p.steps.length : Int) := by have := of_decide_eq_true g3; omega
          have HM : Hid ((wo n1 n0 == 0) = hasL p.homes p.steps) := by show _ = _; rw [← HN0.out, ← HN1.out, setR_t g1, setR_t g2]; exact hasR (by omega) g1 g2
          go_enter Tryd.func37, Tryd.ntmps37
          go_wp2_with fail
          try rw [hu0]
          clear hu0
          refine (setFrom_c _ _ _ _ _ _ (h0.below bB) l0 hn7 g1).mono ?_
          rintro r w1 ⟨rfl, hB1⟩
          rw [HN0.out]
          obtain ⟨u2, hu2⟩ : ∃ u, (w1.alloc (.cells #[.int .u64 ((n0 : Nat) : Int)] 49)) = u := ⟨_, rfl⟩
          have BU : Below w1.heap.size w1 u2 := by rw [← hu2]; exact alCt _ _
          have s0 : u2.cell? ⟨w1.heap.size, 0, none⟩ = some (.int .u64 ((n0 : Nat) : Int)) := by rw [← hu2]; simp [go_sem]
          have BB2 := stCt (stCt bB hB1) BU
          have q0 := celB (stCt hB1 BU) kk.1
          have q1 := celB (stCt hB1 BU) kk.2.1
          have q2 := celB (stCt hB1 BU) kk.2.2.1
          have q3 := celB (stCt hB1 BU) kk.2.2.2.1
          have q4 := celB (stCt hB1 BU) kk.2.2.2.2
          clear BU hB1
          go_wp2_with fail
          try rw [hu2]
          clear hu2
          refine (setFrom_c _ _ _ _ _ _ (h1.below BB2) l1 hn7 g2).mono ?_
          rintro r w3 ⟨rfl, hB3⟩
          rw [HN1.out]
          obtain ⟨u4, hu4⟩ : ∃ u, (w3.alloc (.cells #[.int .u64 ((n1 : Nat) : Int)] 49)) = u := ⟨_, rfl⟩
          have BV : Below u2.heap.size u2 u4.drew := by rw [← hu4]; exact (stCt hB3 (alCt _ _)).drew
          have kk4 : u4.drew.cell? ⟨w.heap.size, 0, none⟩ = some (.slice r0 p.homes.length k0) ∧ u4.drew.cell? ⟨w.heap.size, 1, none⟩ = some (.slice r1 p.steps.length k1) ∧ u4.drew.cell? ⟨w.heap.size, 2, none⟩ = some (.int .i64 p.leader) ∧ u4.drew.cell? ⟨w.heap.size, 3, none⟩ = some (.int .i64 p.epoch) ∧ u4.drew.cell? ⟨w.heap.size, 4, none⟩ = some (.int .i64 p.stamp) ∧ u4.drew.cell? ⟨w1.heap.size, 0, none⟩ = some (.int .u64 ((n0 : Nat) : Int)) ∧ u4.drew.cell? ⟨w3.heap.size, 0, none⟩ = some (.int .u64 ((n1 : Nat) : Int)) := ⟨celB BV q0, celB BV q1, celB BV q2, celB BV q3, celB BV q4, celB BV s0, by rw [← hu4]; simp [go_sem]⟩
          have BB4 := stCt BB2 BV
          clear BV hB3 q0 q1 q2 q3 q4 s0
          go_wp2_with fail
          try rw [hu4]
          refine wp_region_noPanic ?_
          refine wp_region_held_drew (S := fun w' => w'.cell? ⟨w.heap.size, 0, none⟩ = some (.slice r0 p.homes.length k0) ∧ w'.cell? ⟨w.heap.size, 1, none⟩ = some (.slice r1 p.steps.length k1) ∧ w'.cell? ⟨w.heap.size, 2, none⟩ = some (.int .i64 p.leader) ∧ w'.cell? ⟨w.heap.size, 3, none⟩ = some (.int .i64 p.epoch) ∧ w'.cell? ⟨w.heap.size, 4, none⟩ = some (.int .i64 p.stamp) ∧ w'.cell? ⟨w1.heap.size, 0, none⟩ = some (.int .u64 ((n0 : Nat) : Int)) ∧ w'.cell? ⟨w3.heap.size, 0, none⟩ = some (.int .u64 ((n1 : Nat) : Int))) (by kernel_rfl) kk4 (fun hH => ?_)
          refine wpAnyH_take (i := 0) (oi := ⟨_, _, _, _, _, _⟩) (v := ?vp3f0) rfl (by kernel_rfl) (by kernel_rfl) (by kernel_rfl) (fun _ _ _ h => h) (Or.inl ⟨by rfl, ?yp3f0⟩) (by assumption) ?rp3f0
          case yp3f0 => intro w hSw; (try dsimp only at hSw); go_simp; try with_reducible rfl
          try simp only [Act.put, List.setIfInBounds_toArray, List.set_cons_zero, List.set_cons_succ]
          refine wpAnyH_take (i := 1) (oi := ⟨_, _, _, _, _, _⟩) (v := ?vp3f1) rfl (by kernel_rfl) (by kernel_rfl) (by kernel_rfl) (fun _ _ _ h => h) (Or.inl ⟨by rfl, ?yp3f1⟩) (by assumption) ?rp3f1
          case yp3f1 => intro w hSw; (try dsimp only at hSw); go_simp; try with_reducible rfl
          try simp only [Act.put, List.setIfInBounds_toArray, List.set_cons_zero, List.set_cons_succ]
          refine wpAnyH_take (i := 2) (oi := ⟨_, _, _, _, _, _⟩) (v := ?vp3f2) rfl (by kernel_rfl) (by kernel_rfl) (by kernel_rfl) (fun _ _ _ h => h) (Or.inl ⟨by rfl, ?yp3f2⟩) (by assumption) ?rp3f2
          case yp3f2 => intro w hSw; (try dsimp only at hSw); go_simp; try with_reducible rfl
          try simp only [Act.put, List.setIfInBounds_toArray, List.set_cons_zero, List.set_cons_succ]
          refine wpAnyH_take (i := 3) (oi := ⟨_, _, _, _, _, _⟩) (v := ?vp3f3) rfl (by kernel_rfl) (by kernel_rfl) (by kernel_rfl) (fun _ _ _ h => h) (Or.inl ⟨by rfl, ?yp3f3⟩) (by assumption) ?rp3f3
          case yp3f3 => intro w hSw; (try dsimp only at hSw); go_simp; try with_reducible rfl
          try simp only [Act.put, List.setIfInBounds_toArray, List.set_cons_zero, List.set_cons_succ]
          refine wpAnyH_take (i := 4) (oi := ⟨_, _, _, _, _, _⟩) (v := ?vp3f4) rfl (by kernel_rfl) (by kernel_rfl) (by kernel_rfl) (fun _ _ _ h => h) (Or.inl ⟨by rfl, ?yp3f4⟩) (by assumption) ?rp3f4
          case yp3f4 => intro w hSw; (try dsimp only at hSw); go_simp; try with_reducible rfl
          try simp only [Act.put, List.setIfInBounds_toArray, List.set_cons_zero, List.set_cons_succ]
          refine wpAnyH_take (i := 5) (oi := ⟨_, _, _, _, _, _⟩) (v := ?vp3f5) rfl (by kernel_rfl) (by kernel_rfl) (by kernel_rfl) (fun _ _ _ h => h) (Or.inl ⟨by rfl, ?yp3f5⟩) (by assumption) ?rp3f5
          case yp3f5 => intro w hSw; (try dsimp only at hSw); go_simp; try with_reducible rfl
          try simp only [Act.put, List.setIfInBounds_toArray, List.set_cons_zero, List.set_cons_succ]
          refine wpAnyH_take (i := 6) (oi := ⟨_, _, _, _, _, _⟩) (v := ?vp3f6) rfl (by kernel_rfl) (by kernel_rfl) (by kernel_rfl) (fun _ _ _ h => h) (Or.inl ⟨by rfl, ?yp3f6⟩) (by assumption) ?rp3f6
          case yp3f6 => intro w hSw; (try dsimp only at hSw); go_simp; try with_reducible rfl
          try simp only [Act.put, List.setIfInBounds_toArray, List.set_cons_zero, List.set_cons_succ]
          refine wpAnyH_take (i := 7) (oi := ⟨_, _, _, _, _, _⟩) (v := ?vp3f7) rfl (by kernel_rfl) (by kernel_rfl) (by kernel_rfl) (fun _ _ _ h => h) (Or.inl ⟨by rfl, ?yp3f7⟩) (by assumption) ?rp3f7
          case yp3f7 => intro w hSw; (try dsimp only at hSw); go_simp; try with_reducible rfl
          try simp only [Act.put, List.setIfInBounds_toArray, List.set_cons_zero, List.set_cons_succ]
          refine wpAnyH_take (i := 8) (oi := ⟨_, _, _, _, _, _⟩) (v := ?vp3f8) rfl (by kernel_rfl) (by kernel_rfl) (by kernel_rfl) (fun _ _ _ h => h) (Or.inl ⟨by rfl, ?yp3f8⟩) (by assumption) ?rp3f8
          case yp3f8 => intro w hSw; (try dsimp only at hSw); go_simp; try with_reducible rfl
          try simp only [Act.put, List.setIfInBounds_toArray, List.set_cons_zero, List.set_cons_succ]
          refine wpAnyH_take (i := 9) (oi := ⟨_, _, _, _, _, _⟩) (v := ?vp3f9) rfl (by kernel_rfl) (by kernel_rfl) (by kernel_rfl) (fun _ _ _ h => h) (Or.inl ⟨by rfl, ?yp3f9⟩) (by assumption) ?rp3f9
          case yp3f9 => intro w hSw; (try dsimp only at hSw); go_simp; try with_reducible rfl
          try simp only [Act.put, List.setIfInBounds_toArray, List.set_cons_zero, List.set_cons_succ]
          refine wpAnyH_take (i := 10) (oi := ⟨_, _, _, _, _, _⟩) (v := ?vp3f10) rfl (by kernel_rfl) (by kernel_rfl) (by kernel_rfl) (fun _ _ _ h => h) (Or.inl ⟨by rfl, ?yp3f10⟩) (by assumption) ?rp3f10
          case yp3f10 => intro w hSw; (try dsimp only at hSw); go_simp; try with_reducible rfl
          try simp only [Act.put, List.setIfInBounds_toArray, List.set_cons_zero, List.set_cons_succ]
          refine wpAnyH_take (i := 11) (oi := ⟨_, _, _, _, _, _⟩) (v := ?vp3f11) rfl (by kernel_rfl) (by kernel_rfl) (by kernel_rfl) (fun _ _ _ h => h) (Or.inl ⟨by rfl, ?yp3f11⟩) (by assumption) ?rp3f11
          case yp3f11 => intro w hSw; (try dsimp only at hSw); go_simp; try with_reducible rfl
          try simp only [Act.put, List.setIfInBounds_toArray, List.set_cons_zero, List.set_cons_succ]
          refine wpAnyH_take (i := 12) (oi := ⟨_, _, _, _, _, _⟩) (v := ?vp3f12) rfl (by kernel_rfl) (by kernel_rfl) (by kernel_rfl) (fun _ _ _ h => h) (Or.inl ⟨by rfl, ?yp3f12⟩) (by assumption) ?rp3f12
          case yp3f12 => intro w hSw; (try dsimp only at hSw); go_simp; try with_reducible rfl
          try simp only [Act.put, List.setIfInBounds_toArray, List.set_cons_zero, List.set_cons_succ]
          refine wpAnyH_ready (rs := [13]) (by kernel_rfl) (by simp) ?_
          refine AllReadyH.cons (o := ⟨_, _, _, _, _, _⟩) rfl (fun KK hK => ?_) AllReadyH.nil
          go_simp
          refine (hasAll_c _ _ hS0 hS1 _ _ (HM.out.trans g4)).mono ?_
          rintro r w5 ⟨rfl, hB5⟩
          have kk5 : w5.cell? ⟨w.heap.size, 0, none⟩ = some (.slice r0 p.homes.length k0) ∧ w5.cell? ⟨w.heap.size, 1, none⟩ = some (.slice r1 p.steps.length k1) ∧ w5.cell? ⟨w.heap.size, 2, none⟩ = some (.int .i64 p.leader) ∧ w5.cell? ⟨w.heap.size, 3, none⟩ = some (.int .i64 p.epoch) ∧ w5.cell? ⟨w.heap.size, 4, none⟩ = some (.int .i64 p.stamp) ∧ w5.cell? ⟨w1.heap.size, 0, none⟩ = some (.int .u64 ((n0 : Nat) : Int)) ∧ w5.cell? ⟨w3.heap.size, 0, none⟩ = some (.int .u64 ((n1 : Nat) : Int)) := ⟨celB hB5 kk4.1, celB hB5 kk4.2.1, celB hB5 kk4.2.2.1, celB hB5 kk4.2.2.2.1, celB hB5 kk4.2.2.2.2.1, celB hB5 kk4.2.2.2.2.2.1, celB hB5 kk4.2.2.2.2.2.2⟩
          have BB5 := stCt BB4 hB5
          clear hB5
          go_wp2_with fail
          refine hK.out _ _ kk5 (fun hH13 => ?_)
          clear hK KK hH
          try simp only [Act.put, List.setIfInBounds_toArray, List.set_cons_zero, List.set_cons_succ]
          refine wpAnyH_take (i := 14) (oi := ⟨_, _, _, _, _, _⟩) (v := ?vp3f14) rfl (by kernel_rfl) (by kernel_rfl) (by kernel_rfl) (fun _ _ _ h => h) (Or.inl ⟨by rfl, ?yp3f14⟩) (by assumption) ?rp3f14
          case yp3f14 => intro w hSw; (try dsimp only at hSw); go_simp; try with_reducible rfl
          try simp only [Act.put, List.setIfInBounds_toArray, List.set_cons_zero, List.set_cons_succ]
          refine wpAnyH_take (i := 15) (oi := ⟨_, _, _, _, _, _⟩) (v := ?vp3f15) rfl (by kernel_rfl) (by kernel_rfl) (by kernel_rfl) (fun _ _ _ h => h) (Or.inl ⟨by rfl, ?yp3f15⟩) (by assumption) ?rp3f15
          case yp3f15 => intro w hSw; (try dsimp only at hSw); go_simp; try with_reducible rfl
          try simp only [Act.put, List.setIfInBounds_toArray, List.set_cons_zero, List.set_cons_succ]
          refine wpAnyH_take (i := 16) (oi := ⟨_, _, _, _, _, _⟩) (v := undef) rfl (by kernel_rfl) (by kernel_rfl) (by kernel_rfl) (fun _ _ _ h => h) (Or.inr ⟨by rfl, rfl⟩) (by assumption) ?_
          try simp only [Act.put, List.setIfInBounds_toArray, List.set_cons_zero, List.set_cons_succ]
          refine wpAnyH_take (i := 17) (oi := ⟨_, _, _, _, _, _⟩) (v := undef) rfl (by kernel_rfl) (by kernel_rfl) (by kernel_rfl) (fun _ _ _ h => h) (Or.inr ⟨by rfl, rfl⟩) (by assumption) ?_
          try simp only [Act.put, List.setIfInBounds_toArray, List.set_cons_zero, List.set_cons_succ]
          refine wpAnyH_take (i := 18) (oi := ⟨_, _, _, _, _, _⟩) (v := undef) rfl (by kernel_rfl) (by kernel_rfl) (by kernel_rfl) (fun _ _ _ h => h) (Or.inr ⟨by rfl, rfl⟩) (by assumption) ?_
          try simp only [Act.put, List.setIfInBounds_toArray, List.set_cons_zero, List.set_cons_succ]
          refine wpAnyH_take (i := 19) (oi := ⟨_, _, _, _, _, _⟩) (v := ?vp3f19) rfl (by kernel_rfl) (by kernel_rfl) (by kernel_rfl) (fun _ _ _ h => h) (Or.inl ⟨by rfl, ?yp3f19⟩) (by assumption) ?rp3f19
          case yp3f19 => intro w hSw; (try dsimp only at hSw); go_simp; try with_reducible rfl
          try simp only [Act.put, List.setIfInBounds_toArray, List.set_cons_zero, List.set_cons_succ]
          refine wpAnyH_take (i := 20) (oi := ⟨_, _, _, _, _, _⟩) (v := ?vp3f20) rfl (by kernel_rfl) (by kernel_rfl) (by kernel_rfl) (fun _ _ _ h => h) (Or.inl ⟨by rfl, ?yp3f20⟩) (by assumption) ?rp3f20
          case yp3f20 => intro w hSw; (try dsimp only at hSw); go_simp; try with_reducible rfl
          try simp only [Act.put, List.setIfInBounds_toArray, List.set_cons_zero, List.set_cons_succ]
          refine wpAnyH_take (i := 21) (oi := ⟨_, _, _, _, _, _⟩) (v := undef) rfl (by kernel_rfl) (by kernel_rfl) (by kernel_rfl) (fun _ _ _ h => h) (Or.inr ⟨by rfl, rfl⟩) (by assumption) ?_
          try simp only [Act.put, List.setIfInBounds_toArray, List.set_cons_zero, List.set_cons_succ]
          refine wpAnyH_take (i := 22) (oi := ⟨_, _, _, _, _, _⟩) (v := undef) rfl (by kernel_rfl) (by kernel_rfl) (by kernel_rfl) (fun _ _ _ h => h) (Or.inr ⟨by rfl, rfl⟩) (by assumption) ?_
          try simp only [Act.put, List.setIfInBounds_toArray, List.set_cons_zero, List.set_cons_succ]
          refine wpAnyH_take (i := 23) (oi := ⟨_, _, _, _, _, _⟩) (v := undef) rfl (by kernel_rfl) (by kernel_rfl) (by kernel_rfl) (fun _ _ _ h => h) (Or.inr ⟨by rfl, rfl⟩) (by assumption) ?_
          try simp only [Act.put, List.setIfInBounds_toArray, List.set_cons_zero, List.set_cons_succ]
          refine wpAnyH_take (i := 24) (oi := ⟨_, _, _, _, _, _⟩) (v := ?vp3f24) rfl (by kernel_rfl) (by kernel_rfl) (by kernel_rfl) (fun _ _ _ h => h) (Or.inl ⟨by rfl, ?yp3f24⟩) (by assumption) ?rp3f24
          case yp3f24 => intro w hSw; (try dsimp only at hSw); go_simp; try with_reducible rfl
          try simp only [Act.put, List.setIfInBounds_toArray, List.set_cons_zero, List.set_cons_succ]
          refine wpAnyH_take (i := 25) (oi := ⟨_, _, _, _, _, _⟩) (v := ?vp3f25) rfl (by kernel_rfl) (by kernel_rfl) (by kernel_rfl) (fun _ _ _ h => h) (Or.inl ⟨by rfl, ?yp3f25⟩) (by assumption) ?rp3f25
          case yp3f25 => intro w hSw; (try dsimp only at hSw); go_simp; try with_reducible rfl
          try simp only [Act.put, List.setIfInBounds_toArray, List.set_cons_zero, List.set_cons_succ]
          refine wpAnyH_take (i := 26) (oi := ⟨_, _, _, _, _, _⟩) (v := undef) rfl (by kernel_rfl) (by kernel_rfl) (by kernel_rfl) (fun _ _ _ h => h) (Or.inr ⟨by rfl, rfl⟩) (by assumption) ?_
          try simp only [Act.put, List.setIfInBounds_toArray, List.set_cons_zero, List.set_cons_succ]
          refine wpAnyH_take (i := 27) (oi := ⟨_, _, _, _, _, _⟩) (v := undef) rfl (by kernel_rfl) (by kernel_rfl) (by kernel_rfl) (fun _ _ _ h => h) (Or.inr ⟨by rfl, rfl⟩) (by assumption) ?_
          try simp only [Act.put, List.setIfInBounds_toArray, List.set_cons_zero, List.set_cons_succ]
          refine wpAnyH_take (i := 28) (oi := ⟨_, _, _, _, _, _⟩) (v := undef) rfl (by kernel_rfl) (by kernel_rfl) (by kernel_rfl) (fun _ _ _ h => h) (Or.inr ⟨by rfl, rfl⟩) (by assumption) ?_
          try simp only [Act.put, List.setIfInBounds_toArray, List.set_cons_zero, List.set_cons_succ]
          refine wpAnyH_take (i := 29) (oi := ⟨_, _, _, _, _, _⟩) (v := undef) rfl (by kernel_rfl) (by kernel_rfl) (by kernel_rfl) (fun _ _ _ h => h) (Or.inr ⟨by rfl, rfl⟩) (by assumption) ?_
          try simp only [Act.put, List.setIfInBounds_toArray, List.set_cons_zero, List.set_cons_succ]
          refine wpAnyH_take (i := 30) (oi := ⟨_, _, _, _, _, _⟩) (v := undef) rfl (by kernel_rfl) (by kernel_rfl) (by kernel_rfl) (fun _ _ _ h => h) (Or.inr ⟨by rfl, rfl⟩) (by assumption) ?_
          try simp only [Act.put, List.setIfInBounds_toArray, List.set_cons_zero, List.set_cons_succ]
          refine wpAnyH_take (i := 31) (oi := ⟨_, _, _, _, _, _⟩) (v := undef) rfl (by kernel_rfl) (by kernel_rfl) (by kernel_rfl) (fun _ _ _ h => h) (Or.inr ⟨by rfl, rfl⟩) (by assumption) ?_
          try simp only [Act.put, List.setIfInBounds_toArray, List.set_cons_zero, List.set_cons_succ]
          refine wpAnyH_take (i := 32) (oi := ⟨_, _, _, _, _, _⟩) (v := ?vp3f32) rfl (by kernel_rfl) (by kernel_rfl) (by kernel_rfl) (fun _ _ _ h => h) (Or.inl ⟨by rfl, ?yp3f32⟩) (by assumption) ?rp3f32
          case yp3f32 => intro w hSw; (try dsimp only at hSw); go_simp; try with_reducible rfl
          try simp only [Act.put, List.setIfInBounds_toArray, List.set_cons_zero, List.set_cons_succ]
          refine wpAnyH_take (i := 33) (oi := ⟨_, _, _, _, _, _⟩) (v := ?vp3f33) rfl (by kernel_rfl) (by kernel_rfl) (by kernel_rfl) (fun _ _ _ h => h) (Or.inl ⟨by rfl, ?yp3f33⟩) (by assumption) ?rp3f33
          case yp3f33 => intro w hSw; (try dsimp only at hSw); go_simp; try with_reducible rfl
          try simp only [Act.put, List.setIfInBounds_toArray, List.set_cons_zero, List.set_cons_succ]
          refine wpAnyH_done (by kernel_rfl) (NoPanic.normal ?_) _
          clear hu4
          go_wp2
          go_ret
          exact ⟨ret_bool HE.out.symm, BB5⟩
        | true =>
          cases g5 : inB p.epoch 0 1000 with
          | false =>
            have HE : Hid (okPI brs p = false) := by show _ = _; unfold okPI; rw [HLDo.out, g1, g2, g3, g4, g5]; rfl
            have d3 : (0 : Int) < (p.steps.length : Int) := by have := of_decide_eq_true g3; omega
            have hl6 : p.steps.length ≤ 1000000 := by have := riseZ_len g2; omega
            have HR : Hid (∀ z, z ∈ p.steps → 0 ≤ z ∧ z < (brs.length : Int)) := fun z hz => rise_mem g2 hz
            have HM : Hid ((wo n1 n0 == 0) = hasL p.homes p.steps) := by show _ = _; rw [← HN0.out, ← HN1.out, setR_t g1, setR_t g2]; exact hasR (by omega) g1 g2
            go_enter Tryd.func37, Tryd.ntmps37
            go_wp2_with fail
            try rw [hu0]
            clear hu0
            refine (setFrom_c _ _ _ _ _ _ (h0.below bB) l0 hn7 g1).mono ?_
            rintro r w1 ⟨rfl, hB1⟩
            rw [HN0.out]
            obtain ⟨u2, hu2⟩ : ∃ u, (w1.alloc (.cells #[.int .u64 ((n0 : Nat) : Int)] 49)) = u := ⟨_, rfl⟩
            have BU : Below w1.heap.size w1 u2 := by rw [← hu2]; exact alCt _ _
            have s0 : u2.cell? ⟨w1.heap.size, 0, none⟩ = some (.int .u64 ((n0 : Nat) : Int)) := by rw [← hu2]; simp [go_sem]
            have BB2 := stCt (stCt bB hB1) BU
            have q0 := celB (stCt hB1 BU) kk.1
            have q1 := celB (stCt hB1 BU) kk.2.1
            have q2 := celB (stCt hB1 BU) kk.2.2.1
            have q3 := celB (stCt hB1 BU) kk.2.2.2.1
            have q4 := celB (stCt hB1 BU) kk.2.2.2.2
            clear BU hB1
            go_wp2_with fail
            try rw [hu2]
            clear hu2
            refine (setFrom_c _ _ _ _ _ _ (h1.below BB2) l1 hn7 g2).mono ?_
            rintro r w3 ⟨rfl, hB3⟩
            rw [HN1.out]
            obtain ⟨u4, hu4⟩ : ∃ u, (w3.alloc (.cells #[.int .u64 ((n1 : Nat) : Int)] 49)) = u := ⟨_, rfl⟩
            have BV : Below u2.heap.size u2 u4.drew := by rw [← hu4]; exact (stCt hB3 (alCt _ _)).drew
            have kk4 : u4.drew.cell? ⟨w.heap.size, 0, none⟩ = some (.slice r0 p.homes.length k0) ∧ u4.drew.cell? ⟨w.heap.size, 1, none⟩ = some (.slice r1 p.steps.length k1) ∧ u4.drew.cell? ⟨w.heap.size, 2, none⟩ = some (.int .i64 p.leader) ∧ u4.drew.cell? ⟨w.heap.size, 3, none⟩ = some (.int .i64 p.epoch) ∧ u4.drew.cell? ⟨w.heap.size, 4, none⟩ = some (.int .i64 p.stamp) ∧ u4.drew.cell? ⟨w1.heap.size, 0, none⟩ = some (.int .u64 ((n0 : Nat) : Int)) ∧ u4.drew.cell? ⟨w3.heap.size, 0, none⟩ = some (.int .u64 ((n1 : Nat) : Int)) := ⟨celB BV q0, celB BV q1, celB BV q2, celB BV q3, celB BV q4, celB BV s0, by rw [← hu4]; simp [go_sem]⟩
            have BB4 := stCt BB2 BV
            clear BV hB3 q0 q1 q2 q3 q4 s0
            go_wp2_with fail
            try rw [hu4]
            refine wp_region_noPanic ?_
            refine wp_region_held_drew (S := fun w' => w'.cell? ⟨w.heap.size, 0, none⟩ = some (.slice r0 p.homes.length k0) ∧ w'.cell? ⟨w.heap.size, 1, none⟩ = some (.slice r1 p.steps.length k1) ∧ w'.cell? ⟨w.heap.size, 2, none⟩ = some (.int .i64 p.leader) ∧ w'.cell? ⟨w.heap.size, 3, none⟩ = some (.int .i64 p.epoch) ∧ w'.cell? ⟨w.heap.size, 4, none⟩ = some (.int .i64 p.stamp) ∧ w'.cell? ⟨w1.heap.size, 0, none⟩ = some (.int .u64 ((n0 : Nat) : Int)) ∧ w'.cell? ⟨w3.heap.size, 0, none⟩ = some (.int .u64 ((n1 : Nat) : Int))) (by kernel_rfl) kk4 (fun hH => ?_)
            refine wpAnyH_take (i := 0) (oi := ⟨_, _, _, _, _, _⟩) (v := ?vp4f0) rfl (by kernel_rfl) (by kernel_rfl) (by kernel_rfl) (fun _ _ _ h => h) (Or.inl ⟨by rfl, ?yp4f0⟩) (by assumption) ?rp4f0
            case yp4f0 => intro w hSw; (try dsimp only at hSw); go_simp; try with_reducible rfl
            try simp only [Act.put, List.setIfInBounds_toArray, List.set_cons_zero, List.set_cons_succ]
            refine wpAnyH_take (i := 1) (oi := ⟨_, _, _, _, _, _⟩) (v := ?vp4f1) rfl (by kernel_rfl) (by kernel_rfl) (by kernel_rfl) (fun _ _ _ h => h) (Or.inl ⟨by rfl, ?yp4f1⟩) (by assumption) ?rp4f1
            case yp4f1 => intro w hSw; (try dsimp only at hSw); go_simp; try with_reducible rfl
            try simp only [Act.put, List.setIfInBounds_toArray, List.set_cons_zero, List.set_cons_succ]
            refine wpAnyH_take (i := 2) (oi := ⟨_, _, _, _, _, _⟩) (v := ?vp4f2) rfl (by kernel_rfl) (by kernel_rfl) (by kernel_rfl) (fun _ _ _ h => h) (Or.inl ⟨by rfl, ?yp4f2⟩) (by assumption) ?rp4f2
            case yp4f2 => intro w hSw; (try dsimp only at hSw); go_simp; try with_reducible rfl
            try simp only [Act.put, List.setIfInBounds_toArray, List.set_cons_zero, List.set_cons_succ]
            refine wpAnyH_take (i := 3) (oi := ⟨_, _, _, _, _, _⟩) (v := ?vp4f3) rfl (by kernel_rfl) (by kernel_rfl) (by kernel_rfl) (fun _ _ _ h => h) (Or.inl ⟨by rfl, ?yp4f3⟩) (by assumption) ?rp4f3
            case yp4f3 => intro w hSw; (try dsimp only at hSw); go_simp; try with_reducible rfl
            try simp only [Act.put, List.setIfInBounds_toArray, List.set_cons_zero, List.set_cons_succ]
            refine wpAnyH_take (i := 4) (oi := ⟨_, _, _, _, _, _⟩) (v := ?vp4f4) rfl (by kernel_rfl) (by kernel_rfl) (by kernel_rfl) (fun _ _ _ h => h) (Or.inl ⟨by rfl, ?yp4f4⟩) (by assumption) ?rp4f4
            case yp4f4 => intro w hSw; (try dsimp only at hSw); go_simp; try with_reducible rfl
            try simp only [Act.put, List.setIfInBounds_toArray, List.set_cons_zero, List.set_cons_succ]
            refine wpAnyH_take (i := 5) (oi := ⟨_, _, _, _, _, _⟩) (v := ?vp4f5) rfl (by kernel_rfl) (by kernel_rfl) (by kernel_rfl) (fun _ _ _ h => h) (Or.inl ⟨by rfl, ?yp4f5⟩) (by assumption) ?rp4f5
            case yp4f5 => intro w hSw; (try dsimp only at hSw); go_simp; try with_reducible rfl
            try simp only [Act.put, List.setIfInBounds_toArray, List.set_cons_zero, List.set_cons_succ]
            refine wpAnyH_take (i := 6) (oi := ⟨_, _, _, _, _, _⟩) (v := ?vp4f6) rfl (by kernel_rfl) (by kernel_rfl) (by kernel_rfl) (fun _ _ _ h => h) (Or.inl ⟨by rfl, ?yp4f6⟩) (by assumption) ?rp4f6
            case yp4f6 => intro w hSw; (try dsimp only at hSw); go_simp; try with_reducible rfl
            try simp only [Act.put, List.setIfInBounds_toArray, List.set_cons_zero, List.set_cons_succ]
            refine wpAnyH_take (i := 7) (oi := ⟨_, _, _, _, _, _⟩) (v := ?vp4f7) rfl (by kernel_rfl) (by kernel_rfl) (by kernel_rfl) (fun _ _ _ h => h) (Or.inl ⟨by rfl, ?yp4f7⟩) (by assumption) ?rp4f7
            case yp4f7 => intro w hSw; (try dsimp only at hSw); go_simp; try with_reducible rfl
            try simp only [Act.put, List.setIfInBounds_toArray, List.set_cons_zero, List.set_cons_succ]
            refine wpAnyH_take (i := 8) (oi := ⟨_, _, _, _, _, _⟩) (v := ?vp4f8) rfl (by kernel_rfl) (by kernel_rfl) (by kernel_rfl) (fun _ _ _ h => h) (Or.inl ⟨by rfl, ?yp4f8⟩) (by assumption) ?rp4f8
            case yp4f8 => intro w hSw; (try dsimp only at hSw); go_simp; try with_reducible rfl
            try simp only [Act.put, List.setIfInBounds_toArray, List.set_cons_zero, List.set_cons_succ]
            refine wpAnyH_take (i := 9) (oi := ⟨_, _, _, _, _, _⟩) (v := ?vp4f9) rfl (by kernel_rfl) (by kernel_rfl) (by kernel_rfl) (fun _ _ _ h => h) (Or.inl ⟨by rfl, ?yp4f9⟩) (by assumption) ?rp4f9
            case yp4f9 => intro w hSw; (try dsimp only at hSw); go_simp; try with_reducible rfl
            try simp only [Act.put, List.setIfInBounds_toArray, List.set_cons_zero, List.set_cons_succ]
            refine wpAnyH_take (i := 10) (oi := ⟨_, _, _, _, _, _⟩) (v := ?vp4f10) rfl (by kernel_rfl) (by kernel_rfl) (by kernel_rfl) (fun _ _ _ h => h) (Or.inl ⟨by rfl, ?yp4f10⟩) (by assumption) ?rp4f10
            case yp4f10 => intro w hSw; (try dsimp only at hSw); go_simp; try with_reducible rfl
            try simp only [Act.put, List.setIfInBounds_toArray, List.set_cons_zero, List.set_cons_succ]
            refine wpAnyH_take (i := 11) (oi := ⟨_, _, _, _, _, _⟩) (v := ?vp4f11) rfl (by kernel_rfl) (by kernel_rfl) (by kernel_rfl) (fun _ _ _ h => h) (Or.inl ⟨by rfl, ?yp4f11⟩) (by assumption) ?rp4f11
            case yp4f11 => intro w hSw; (try dsimp only at hSw); go_simp; try with_reducible rfl
            try simp only [Act.put, List.setIfInBounds_toArray, List.set_cons_zero, List.set_cons_succ]
            refine wpAnyH_take (i := 12) (oi := ⟨_, _, _, _, _, _⟩) (v := ?vp4f12) rfl (by kernel_rfl) (by kernel_rfl) (by kernel_rfl) (fun _ _ _ h => h) (Or.inl ⟨by rfl, ?yp4f12⟩) (by assumption) ?rp4f12
            case yp4f12 => intro w hSw; (try dsimp only at hSw); go_simp; try with_reducible rfl
            try simp only [Act.put, List.setIfInBounds_toArray, List.set_cons_zero, List.set_cons_succ]
            refine wpAnyH_ready (rs := [13]) (by kernel_rfl) (by simp) ?_
            refine AllReadyH.cons (o := ⟨_, _, _, _, _, _⟩) rfl (fun KK hK => ?_) AllReadyH.nil
            go_simp
            refine (hasAll_c _ _ hS0 hS1 _ _ (HM.out.trans g4)).mono ?_
            rintro r w5 ⟨rfl, hB5⟩
            have kk5 : w5.cell? ⟨w.heap.size, 0, none⟩ = some (.slice r0 p.homes.length k0) ∧ w5.cell? ⟨w.heap.size, 1, none⟩ = some (.slice r1 p.steps.length k1) ∧ w5.cell? ⟨w.heap.size, 2, none⟩ = some (.int .i64 p.leader) ∧ w5.cell? ⟨w.heap.size, 3, none⟩ = some (.int .i64 p.epoch) ∧ w5.cell? ⟨w.heap.size, 4, none⟩ = some (.int .i64 p.stamp) ∧ w5.cell? ⟨w1.heap.size, 0, none⟩ = some (.int .u64 ((n0 : Nat) : Int)) ∧ w5.cell? ⟨w3.heap.size, 0, none⟩ = some (.int .u64 ((n1 : Nat) : Int)) := ⟨celB hB5 kk4.1, celB hB5 kk4.2.1, celB hB5 kk4.2.2.1, celB hB5 kk4.2.2.2.1, celB hB5 kk4.2.2.2.2.1, celB hB5 kk4.2.2.2.2.2.1, celB hB5 kk4.2.2.2.2.2.2⟩
            have BB5 := stCt BB4 hB5
            clear hB5
            go_wp2_with fail
            refine hK.out _ _ kk5 (fun hH13 => ?_)
            clear hK KK hH
            try simp only [Act.put, List.setIfInBounds_toArray, List.set_cons_zero, List.set_cons_succ]
            refine wpAnyH_take (i := 14) (oi := ⟨_, _, _, _, _, _⟩) (v := ?vp4f14) rfl (by kernel_rfl) (by kernel_rfl) (by kernel_rfl) (fun _ _ _ h => h) (Or.inl ⟨by rfl, ?yp4f14⟩) (by assumption) ?rp4f14
            case yp4f14 => intro w hSw; (try dsimp only at hSw); go_simp; try with_reducible rfl
            try simp only [Act.put, List.setIfInBounds_toArray, List.set_cons_zero, List.set_cons_succ]
            refine wpAnyH_take (i := 15) (oi := ⟨_, _, _, _, _, _⟩) (v := ?vp4f15) rfl (by kernel_rfl) (by kernel_rfl) (by kernel_rfl) (fun _ _ _ h => h) (Or.inl ⟨by rfl, ?yp4f15⟩) (by assumption) ?rp4f15
            case yp4f15 => intro w hSw; (try dsimp only at hSw); go_simp; try with_reducible rfl
            try simp only [Act.put, List.setIfInBounds_toArray, List.set_cons_zero, List.set_cons_succ]
            refine wpAnyH_take (i := 16) (oi := ⟨_, _, _, _, _, _⟩) (v := ?vp4f16) rfl (by kernel_rfl) (by kernel_rfl) (by kernel_rfl) (fun _ _ _ h => h) (Or.inl ⟨by rfl, ?yp4f16⟩) (by assumption) ?rp4f16
            case yp4f16 => intro w hSw; (try dsimp only at hSw); go_simp; try with_reducible rfl
            try simp only [Act.put, List.setIfInBounds_toArray, List.set_cons_zero, List.set_cons_succ]
            refine wpAnyH_take (i := 17) (oi := ⟨_, _, _, _, _, _⟩) (v := ?vp4f17) rfl (by kernel_rfl) (by kernel_rfl) (by kernel_rfl) (fun _ _ _ h => h) (Or.inl ⟨by rfl, ?yp4f17⟩) (by assumption) ?rp4f17
            case yp4f17 => intro w hSw; (try dsimp only at hSw); go_simp; try with_reducible rfl
            try simp only [Act.put, List.setIfInBounds_toArray, List.set_cons_zero, List.set_cons_succ]
            refine wpAnyH_ready (rs := [18]) (by kernel_rfl) (by simp) ?_
            refine AllReadyH.cons (o := ⟨_, _, _, _, _, _⟩) rfl (fun KK hK => ?_) AllReadyH.nil
            go_simp
            refine (within_c _ _ _ _ g5).mono ?_
            rintro e9 w' ⟨rfl, rfl⟩
            go_wp2_with fail
            refine hK.out _ _ kk5 (fun hH18 => ?_)
            clear hK KK hH13
            try simp only [Act.put, List.setIfInBounds_toArray, List.set_cons_zero, List.set_cons_succ]
            refine wpAnyH_take (i := 19) (oi := ⟨_, _, _, _, _, _⟩) (v := ?vp4f19) rfl (by kernel_rfl) (by kernel_rfl) (by kernel_rfl) (fun _ _ _ h => h) (Or.inl ⟨by rfl, ?yp4f19⟩) (by assumption) ?rp4f19
            case yp4f19 => intro w hSw; (try dsimp only at hSw); go_simp; try with_reducible rfl
            try simp only [Act.put, List.setIfInBounds_toArray, List.set_cons_zero, List.set_cons_succ]
            refine wpAnyH_take (i := 20) (oi := ⟨_, _, _, _, _, _⟩) (v := ?vp4f20) rfl (by kernel_rfl) (by kernel_rfl) (by kernel_rfl) (fun _ _ _ h => h) (Or.inl ⟨by rfl, ?yp4f20⟩) (by assumption) ?rp4f20
            case yp4f20 => intro w hSw; (try dsimp only at hSw); go_simp; try with_reducible rfl
            try simp only [Act.put, List.setIfInBounds_toArray, List.set_cons_zero, List.set_cons_succ]
            refine wpAnyH_take (i := 21) (oi := ⟨_, _, _, _, _, _⟩) (v := undef) rfl (by kernel_rfl) (by kernel_rfl) (by kernel_rfl) (fun _ _ _ h => h) (Or.inr ⟨by rfl, rfl⟩) (by assumption) ?_
            try simp only [Act.put, List.setIfInBounds_toArray, List.set_cons_zero, List.set_cons_succ]
            refine wpAnyH_take (i := 22) (oi := ⟨_, _, _, _, _, _⟩) (v := undef) rfl (by kernel_rfl) (by kernel_rfl) (by kernel_rfl) (fun _ _ _ h => h) (Or.inr ⟨by rfl, rfl⟩) (by assumption) ?_
            try simp only [Act.put, List.setIfInBounds_toArray, List.set_cons_zero, List.set_cons_succ]
            refine wpAnyH_take (i := 23) (oi := ⟨_, _, _, _, _, _⟩) (v := undef) rfl (by kernel_rfl) (by kernel_rfl) (by kernel_rfl) (fun _ _ _ h => h) (Or.inr ⟨by rfl, rfl⟩) (by assumption) ?_
            try simp only [Act.put, List.setIfInBounds_toArray, List.set_cons_zero, List.set_cons_succ]
            refine wpAnyH_take (i := 24) (oi := ⟨_, _, _, _, _, _⟩) (v := ?vp4f24) rfl (by kernel_rfl) (by kernel_rfl) (by kernel_rfl) (fun _ _ _ h => h) (Or.inl ⟨by rfl, ?yp4f24⟩) (by assumption) ?rp4f24
            case yp4f24 => intro w hSw; (try dsimp only at hSw); go_simp; try with_reducible rfl
            try simp only [Act.put, List.setIfInBounds_toArray, List.set_cons_zero, List.set_cons_succ]
            refine wpAnyH_take (i := 25) (oi := ⟨_, _, _, _, _, _⟩) (v := ?vp4f25) rfl (by kernel_rfl) (by kernel_rfl) (by kernel_rfl) (fun _ _ _ h => h) (Or.inl ⟨by rfl, ?yp4f25⟩) (by assumption) ?rp4f25
            case yp4f25 => intro w hSw; (try dsimp only at hSw); go_simp; try with_reducible rfl
            try simp only [Act.put, List.setIfInBounds_toArray, List.set_cons_zero, List.set_cons_succ]
            refine wpAnyH_take (i := 26) (oi := ⟨_, _, _, _, _, _⟩) (v := undef) rfl (by kernel_rfl) (by kernel_rfl) (by kernel_rfl) (fun _ _ _ h => h) (Or.inr ⟨by rfl, rfl⟩) (by assumption) ?_
            try simp only [Act.put, List.setIfInBounds_toArray, List.set_cons_zero, List.set_cons_succ]
            refine wpAnyH_take (i := 27) (oi := ⟨_, _, _, _, _, _⟩) (v := undef) rfl (by kernel_rfl) (by kernel_rfl) (by kernel_rfl) (fun _ _ _ h => h) (Or.inr ⟨by rfl, rfl⟩) (by assumption) ?_
            try simp only [Act.put, List.setIfInBounds_toArray, List.set_cons_zero, List.set_cons_succ]
            refine wpAnyH_take (i := 28) (oi := ⟨_, _, _, _, _, _⟩) (v := undef) rfl (by kernel_rfl) (by kernel_rfl) (by kernel_rfl) (fun _ _ _ h => h) (Or.inr ⟨by rfl, rfl⟩) (by assumption) ?_
            try simp only [Act.put, List.setIfInBounds_toArray, List.set_cons_zero, List.set_cons_succ]
            refine wpAnyH_take (i := 29) (oi := ⟨_, _, _, _, _, _⟩) (v := undef) rfl (by kernel_rfl) (by kernel_rfl) (by kernel_rfl) (fun _ _ _ h => h) (Or.inr ⟨by rfl, rfl⟩) (by assumption) ?_
            try simp only [Act.put, List.setIfInBounds_toArray, List.set_cons_zero, List.set_cons_succ]
            refine wpAnyH_take (i := 30) (oi := ⟨_, _, _, _, _, _⟩) (v := undef) rfl (by kernel_rfl) (by kernel_rfl) (by kernel_rfl) (fun _ _ _ h => h) (Or.inr ⟨by rfl, rfl⟩) (by assumption) ?_
            try simp only [Act.put, List.setIfInBounds_toArray, List.set_cons_zero, List.set_cons_succ]
            refine wpAnyH_take (i := 31) (oi := ⟨_, _, _, _, _, _⟩) (v := undef) rfl (by kernel_rfl) (by kernel_rfl) (by kernel_rfl) (fun _ _ _ h => h) (Or.inr ⟨by rfl, rfl⟩) (by assumption) ?_
            try simp only [Act.put, List.setIfInBounds_toArray, List.set_cons_zero, List.set_cons_succ]
            refine wpAnyH_take (i := 32) (oi := ⟨_, _, _, _, _, _⟩) (v := ?vp4f32) rfl (by kernel_rfl) (by kernel_rfl) (by kernel_rfl) (fun _ _ _ h => h) (Or.inl ⟨by rfl, ?yp4f32⟩) (by assumption) ?rp4f32
            case yp4f32 => intro w hSw; (try dsimp only at hSw); go_simp; try with_reducible rfl
            try simp only [Act.put, List.setIfInBounds_toArray, List.set_cons_zero, List.set_cons_succ]
            refine wpAnyH_take (i := 33) (oi := ⟨_, _, _, _, _, _⟩) (v := ?vp4f33) rfl (by kernel_rfl) (by kernel_rfl) (by kernel_rfl) (fun _ _ _ h => h) (Or.inl ⟨by rfl, ?yp4f33⟩) (by assumption) ?rp4f33
            case yp4f33 => intro w hSw; (try dsimp only at hSw); go_simp; try with_reducible rfl
            try simp only [Act.put, List.setIfInBounds_toArray, List.set_cons_zero, List.set_cons_succ]
            refine wpAnyH_done (by kernel_rfl) (NoPanic.normal ?_) _
            clear hu4
            go_wp2
            go_ret
            exact ⟨ret_bool HE.out.symm, BB5⟩
          | true =>
            cases g6 : inB p.stamp 0 1000 with
            | false =>
              have HE : Hid (okPI brs p = false) := by show _ = _; unfold okPI; rw [HLDo.out, g1, g2, g3, g4, g5, g6]; rfl
              have d3 : (0 : Int) < (p.steps.length : Int) := by have := of_decide_eq_true g3; omega
              have hl6 : p.steps.length ≤ 1000000 := by have := riseZ_len g2; omega
              have HR : Hid (∀ z, z ∈ p.steps → 0 ≤ z ∧ z < (brs.length : Int)) := fun z hz => rise_mem g2 hz
              have HM : Hid ((wo n1 n0 == 0) = hasL p.homes p.steps) := by show _ = _; rw [← HN0.out, ← HN1.out, setR_t g1, setR_t g2]; exact hasR (by omega) g1 g2
              go_enter Tryd.func37, Tryd.ntmps37
              go_wp2_with fail
              try rw [hu0]
              clear hu0
              refine (setFrom_c _ _ _ _ _ _ (h0.below bB) l0 hn7 g1).mono ?_
              rintro r w1 ⟨rfl, hB1⟩
              rw [HN0.out]
              obtain ⟨u2, hu2⟩ : ∃ u, (w1.alloc (.cells #[.int .u64 ((n0 : Nat) : Int)] 49)) = u := ⟨_, rfl⟩
              have BU : Below w1.heap.size w1 u2 := by rw [← hu2]; exact alCt _ _
              have s0 : u2.cell? ⟨w1.heap.size, 0, none⟩ = some (.int .u64 ((n0 : Nat) : Int)) := by rw [← hu2]; simp [go_sem]
              have BB2 := stCt (stCt bB hB1) BU
              have q0 := celB (stCt hB1 BU) kk.1
              have q1 := celB (stCt hB1 BU) kk.2.1
              have q2 := celB (stCt hB1 BU) kk.2.2.1
              have q3 := celB (stCt hB1 BU) kk.2.2.2.1
              have q4 := celB (stCt hB1 BU) kk.2.2.2.2
              clear BU hB1
              go_wp2_with fail
              try rw [hu2]
              clear hu2
              refine (setFrom_c _ _ _ _ _ _ (h1.below BB2) l1 hn7 g2).mono ?_
              rintro r w3 ⟨rfl, hB3⟩
              rw [HN1.out]
              obtain ⟨u4, hu4⟩ : ∃ u, (w3.alloc (.cells #[.int .u64 ((n1 : Nat) : Int)] 49)) = u := ⟨_, rfl⟩
              have BV : Below u2.heap.size u2 u4.drew := by rw [← hu4]; exact (stCt hB3 (alCt _ _)).drew
              have kk4 : u4.drew.cell? ⟨w.heap.size, 0, none⟩ = some (.slice r0 p.homes.length k0) ∧ u4.drew.cell? ⟨w.heap.size, 1, none⟩ = some (.slice r1 p.steps.length k1) ∧ u4.drew.cell? ⟨w.heap.size, 2, none⟩ = some (.int .i64 p.leader) ∧ u4.drew.cell? ⟨w.heap.size, 3, none⟩ = some (.int .i64 p.epoch) ∧ u4.drew.cell? ⟨w.heap.size, 4, none⟩ = some (.int .i64 p.stamp) ∧ u4.drew.cell? ⟨w1.heap.size, 0, none⟩ = some (.int .u64 ((n0 : Nat) : Int)) ∧ u4.drew.cell? ⟨w3.heap.size, 0, none⟩ = some (.int .u64 ((n1 : Nat) : Int)) := ⟨celB BV q0, celB BV q1, celB BV q2, celB BV q3, celB BV q4, celB BV s0, by rw [← hu4]; simp [go_sem]⟩
              have BB4 := stCt BB2 BV
              clear BV hB3 q0 q1 q2 q3 q4 s0
              go_wp2_with fail
              try rw [hu4]
              refine wp_region_noPanic ?_
              refine wp_region_held_drew (S := fun w' => w'.cell? ⟨w.heap.size, 0, none⟩ = some (.slice r0 p.homes.length k0) ∧ w'.cell? ⟨w.heap.size, 1, none⟩ = some (.slice r1 p.steps.length k1) ∧ w'.cell? ⟨w.heap.size, 2, none⟩ = some (.int .i64 p.leader) ∧ w'.cell? ⟨w.heap.size, 3, none⟩ = some (.int .i64 p.epoch) ∧ w'.cell? ⟨w.heap.size, 4, none⟩ = some (.int .i64 p.stamp) ∧ w'.cell? ⟨w1.heap.size, 0, none⟩ = some (.int .u64 ((n0 : Nat) : Int)) ∧ w'.cell? ⟨w3.heap.size, 0, none⟩ = some (.int .u64 ((n1 : Nat) : Int))) (by kernel_rfl) kk4 (fun hH => ?_)
              refine wpAnyH_take (i := 0) (oi := ⟨_, _, _, _, _, _⟩) (v := ?vp5f0) rfl (by kernel_rfl) (by kernel_rfl) (by kernel_rfl) (fun _ _ _ h => h) (Or.inl ⟨by rfl, ?yp5f0⟩) (by assumption) ?rp5f0
              case yp5f0 => intro w hSw; (try dsimp only at hSw); go_simp; try with_reducible rfl
              try simp only [Act.put, List.setIfInBounds_toArray, List.set_cons_zero, List.set_cons_succ]
              refine wpAnyH_take (i := 1) (oi := ⟨_, _, _, _, _, _⟩) (v := ?vp5f1) rfl (by kernel_rfl) (by kernel_rfl) (by kernel_rfl) (fun _ _ _ h => h) (Or.inl ⟨by rfl, ?yp5f1⟩) (by assumption) ?rp5f1
              case yp5f1 => intro w hSw; (try dsimp only at hSw); go_simp; try with_reducible rfl
              try simp only [Act.put, List.setIfInBounds_toArray, List.set_cons_zero, List.set_cons_succ]
              refine wpAnyH_take (i := 2) (oi := ⟨_, _, _, _, _, _⟩) (v := ?vp5f2) rfl (by kernel_rfl) (by kernel_rfl) (by kernel_rfl) (fun _ _ _ h => h) (Or.inl ⟨by rfl, ?yp5f2⟩) (by assumption) ?rp5f2
              case yp5f2 => intro w hSw; (try dsimp only at hSw); go_simp; try with_reducible rfl
              try simp only [Act.put, List.setIfInBounds_toArray, List.set_cons_zero, List.set_cons_succ]
              refine wpAnyH_take (i := 3) (oi := ⟨_, _, _, _, _, _⟩) (v := ?vp5f3) rfl (by kernel_rfl) (by kernel_rfl) (by kernel_rfl) (fun _ _ _ h => h) (Or.inl ⟨by rfl, ?yp5f3⟩) (by assumption) ?rp5f3
              case yp5f3 => intro w hSw; (try dsimp only at hSw); go_simp; try with_reducible rfl
              try simp only [Act.put, List.setIfInBounds_toArray, List.set_cons_zero, List.set_cons_succ]
              refine wpAnyH_take (i := 4) (oi := ⟨_, _, _, _, _, _⟩) (v := ?vp5f4) rfl (by kernel_rfl) (by kernel_rfl) (by kernel_rfl) (fun _ _ _ h => h) (Or.inl ⟨by rfl, ?yp5f4⟩) (by assumption) ?rp5f4
              case yp5f4 => intro w hSw; (try dsimp only at hSw); go_simp; try with_reducible rfl
              try simp only [Act.put, List.setIfInBounds_toArray, List.set_cons_zero, List.set_cons_succ]
              refine wpAnyH_take (i := 5) (oi := ⟨_, _, _, _, _, _⟩) (v := ?vp5f5) rfl (by kernel_rfl) (by kernel_rfl) (by kernel_rfl) (fun _ _ _ h => h) (Or.inl ⟨by rfl, ?yp5f5⟩) (by assumption) ?rp5f5
              case yp5f5 => intro w hSw; (try dsimp only at hSw); go_simp; try with_reducible rfl
              try simp only [Act.put, List.setIfInBounds_toArray, List.set_cons_zero, List.set_cons_succ]
              refine wpAnyH_take (i := 6) (oi := ⟨_, _, _, _, _, _⟩) (v := ?vp5f6) rfl (by kernel_rfl) (by kernel_rfl) (by kernel_rfl) (fun _ _ _ h => h) (Or.inl ⟨by rfl, ?yp5f6⟩) (by assumption) ?rp5f6
              case yp5f6 => intro w hSw; (try dsimp only at hSw); go_simp; try with_reducible rfl
              try simp only [Act.put, List.setIfInBounds_toArray, List.set_cons_zero, List.set_cons_succ]
              refine wpAnyH_take (i := 7) (oi := ⟨_, _, _, _, _, _⟩) (v := ?vp5f7) rfl (by kernel_rfl) (by kernel_rfl) (by kernel_rfl) (fun _ _ _ h => h) (Or.inl ⟨by rfl, ?yp5f7⟩) (by assumption) ?rp5f7
              case yp5f7 => intro w hSw; (try dsimp only at hSw); go_simp; try with_reducible rfl
              try simp only [Act.put, List.setIfInBounds_toArray, List.set_cons_zero, List.set_cons_succ]
              refine wpAnyH_take (i := 8) (oi := ⟨_, _, _, _, _, _⟩) (v := ?vp5f8) rfl (by kernel_rfl) (by kernel_rfl) (by kernel_rfl) (fun _ _ _ h => h) (Or.inl ⟨by rfl, ?yp5f8⟩) (by assumption) ?rp5f8
              case yp5f8 => intro w hSw; (try dsimp only at hSw); go_simp; try with_reducible rfl
              try simp only [Act.put, List.setIfInBounds_toArray, List.set_cons_zero, List.set_cons_succ]
              refine wpAnyH_take (i := 9) (oi := ⟨_, _, _, _, _, _⟩) (v := ?vp5f9) rfl (by kernel_rfl) (by kernel_rfl) (by kernel_rfl) (fun _ _ _ h => h) (Or.inl ⟨by rfl, ?yp5f9⟩) (by assumption) ?rp5f9
              case yp5f9 => intro w hSw; (try dsimp only at hSw); go_simp; try with_reducible rfl
              try simp only [Act.put, List.setIfInBounds_toArray, List.set_cons_zero, List.set_cons_succ]
              refine wpAnyH_take (i := 10) (oi := ⟨_, _, _, _, _, _⟩) (v := ?vp5f10) rfl (by kernel_rfl) (by kernel_rfl) (by kernel_rfl) (fun _ _ _ h => h) (Or.inl ⟨by rfl, ?yp5f10⟩) (by assumption) ?rp5f10
              case yp5f10 => intro w hSw; (try dsimp only at hSw); go_simp; try with_reducible rfl
              try simp only [Act.put, List.setIfInBounds_toArray, List.set_cons_zero, List.set_cons_succ]
              refine wpAnyH_take (i := 11) (oi := ⟨_, _, _, _, _, _⟩) (v := ?vp5f11) rfl (by kernel_rfl) (by kernel_rfl) (by kernel_rfl) (fun _ _ _ h => h) (Or.inl ⟨by rfl, ?yp5f11⟩) (by assumption) ?rp5f11
              case yp5f11 => intro w hSw; (try dsimp only at hSw); go_simp; try with_reducible rfl
              try simp only [Act.put, List.setIfInBounds_toArray, List.set_cons_zero, List.set_cons_succ]
              refine wpAnyH_take (i := 12) (oi := ⟨_, _, _, _, _, _⟩) (v := ?vp5f12) rfl (by kernel_rfl) (by kernel_rfl) (by kernel_rfl) (fun _ _ _ h => h) (Or.inl ⟨by rfl, ?yp5f12⟩) (by assumption) ?rp5f12
              case yp5f12 => intro w hSw; (try dsimp only at hSw); go_simp; try with_reducible rfl
              try simp only [Act.put, List.setIfInBounds_toArray, List.set_cons_zero, List.set_cons_succ]
              refine wpAnyH_ready (rs := [13]) (by kernel_rfl) (by simp) ?_
              refine AllReadyH.cons (o := ⟨_, _, _, _, _, _⟩) rfl (fun KK hK => ?_) AllReadyH.nil
              go_simp
              refine (hasAll_c _ _ hS0 hS1 _ _ (HM.out.trans g4)).mono ?_
              rintro r w5 ⟨rfl, hB5⟩
              have kk5 : w5.cell? ⟨w.heap.size, 0, none⟩ = some (.slice r0 p.homes.length k0) ∧ w5.cell? ⟨w.heap.size, 1, none⟩ = some (.slice r1 p.steps.length k1) ∧ w5.cell? ⟨w.heap.size, 2, none⟩ = some (.int .i64 p.leader) ∧ w5.cell? ⟨w.heap.size, 3, none⟩ = some (.int .i64 p.epoch) ∧ w5.cell? ⟨w.heap.size, 4, none⟩ = some (.int .i64 p.stamp) ∧ w5.cell? ⟨w1.heap.size, 0, none⟩ = some (.int .u64 ((n0 : Nat) : Int)) ∧ w5.cell? ⟨w3.heap.size, 0, none⟩ = some (.int .u64 ((n1 : Nat) : Int)) := ⟨celB hB5 kk4.1, celB hB5 kk4.2.1, celB hB5 kk4.2.2.1, celB hB5 kk4.2.2.2.1, celB hB5 kk4.2.2.2.2.1, celB hB5 kk4.2.2.2.2.2.1, celB hB5 kk4.2.2.2.2.2.2⟩
              have BB5 := stCt BB4 hB5
              clear hB5
              go_wp2_with fail
              refine hK.out _ _ kk5 (fun hH13 => ?_)
              clear hK KK hH
              try simp only [Act.put, List.setIfInBounds_toArray, List.set_cons_zero, List.set_cons_succ]
              refine wpAnyH_take (i := 14) (oi := ⟨_, _, _, _, _, _⟩) (v := ?vp5f14) rfl (by kernel_rfl) (by kernel_rfl) (by kernel_rfl) (fun _ _ _ h => h) (Or.inl ⟨by rfl, ?yp5f14⟩) (by assumption) ?rp5f14
              case yp5f14 => intro w hSw; (try dsimp only at hSw); go_simp; try with_reducible rfl
              try simp only [Act.put, List.setIfInBounds_toArray, List.set_cons_zero, List.set_cons_succ]
              refine wpAnyH_take (i := 15) (oi := ⟨_, _, _, _, _, _⟩) (v := ?vp5f15) rfl (by kernel_rfl) (by kernel_rfl) (by kernel_rfl) (fun _ _ _ h => h) (Or.inl ⟨by rfl, ?yp5f15⟩) (by assumption) ?rp5f15
              case yp5f15 => intro w hSw; (try dsimp only at hSw); go_simp; try with_reducible rfl
              try simp only [Act.put, List.setIfInBounds_toArray, List.set_cons_zero, List.set_cons_succ]
              refine wpAnyH_take (i := 16) (oi := ⟨_, _, _, _, _, _⟩) (v := ?vp5f16) rfl (by kernel_rfl) (by kernel_rfl) (by kernel_rfl) (fun _ _ _ h => h) (Or.inl ⟨by rfl, ?yp5f16⟩) (by assumption) ?rp5f16
              case yp5f16 => intro w hSw; (try dsimp only at hSw); go_simp; try with_reducible rfl
              try simp only [Act.put, List.setIfInBounds_toArray, List.set_cons_zero, List.set_cons_succ]
              refine wpAnyH_take (i := 17) (oi := ⟨_, _, _, _, _, _⟩) (v := ?vp5f17) rfl (by kernel_rfl) (by kernel_rfl) (by kernel_rfl) (fun _ _ _ h => h) (Or.inl ⟨by rfl, ?yp5f17⟩) (by assumption) ?rp5f17
              case yp5f17 => intro w hSw; (try dsimp only at hSw); go_simp; try with_reducible rfl
              try simp only [Act.put, List.setIfInBounds_toArray, List.set_cons_zero, List.set_cons_succ]
              refine wpAnyH_ready (rs := [18]) (by kernel_rfl) (by simp) ?_
              refine AllReadyH.cons (o := ⟨_, _, _, _, _, _⟩) rfl (fun KK hK => ?_) AllReadyH.nil
              go_simp
              refine (within_c _ _ _ _ g5).mono ?_
              rintro e9 w' ⟨rfl, rfl⟩
              go_wp2_with fail
              refine hK.out _ _ kk5 (fun hH18 => ?_)
              clear hK KK hH13
              try simp only [Act.put, List.setIfInBounds_toArray, List.set_cons_zero, List.set_cons_succ]
              refine wpAnyH_take (i := 19) (oi := ⟨_, _, _, _, _, _⟩) (v := ?vp5f19) rfl (by kernel_rfl) (by kernel_rfl) (by kernel_rfl) (fun _ _ _ h => h) (Or.inl ⟨by rfl, ?yp5f19⟩) (by assumption) ?rp5f19
              case yp5f19 => intro w hSw; (try dsimp only at hSw); go_simp; try with_reducible rfl
              try simp only [Act.put, List.setIfInBounds_toArray, List.set_cons_zero, List.set_cons_succ]
              refine wpAnyH_take (i := 20) (oi := ⟨_, _, _, _, _, _⟩) (v := ?vp5f20) rfl (by kernel_rfl) (by kernel_rfl) (by kernel_rfl) (fun _ _ _ h => h) (Or.inl ⟨by rfl, ?yp5f20⟩) (by assumption) ?rp5f20
              case yp5f20 => intro w hSw; (try dsimp only at hSw); go_simp; try with_reducible rfl
              try simp only [Act.put, List.setIfInBounds_toArray, List.set_cons_zero, List.set_cons_succ]
              refine wpAnyH_take (i := 21) (oi := ⟨_, _, _, _, _, _⟩) (v := ?vp5f21) rfl (by kernel_rfl) (by kernel_rfl) (by kernel_rfl) (fun _ _ _ h => h) (Or.inl ⟨by rfl, ?yp5f21⟩) (by assumption) ?rp5f21
              case yp5f21 => intro w hSw; (try dsimp only at hSw); go_simp; try with_reducible rfl
              try simp only [Act.put, List.setIfInBounds_toArray, List.set_cons_zero, List.set_cons_succ]
              refine wpAnyH_take (i := 22) (oi := ⟨_, _, _, _, _, _⟩) (v := ?vp5f22) rfl (by kernel_rfl) (by kernel_rfl) (by kernel_rfl) (fun _ _ _ h => h) (Or.inl ⟨by rfl, ?yp5f22⟩) (by assumption) ?rp5f22
              case yp5f22 => intro w hSw; (try dsimp only at hSw); go_simp; try with_reducible rfl
              try simp only [Act.put, List.setIfInBounds_toArray, List.set_cons_zero, List.set_cons_succ]
              refine wpAnyH_ready (rs := [23]) (by kernel_rfl) (by simp) ?_
              refine AllReadyH.cons (o := ⟨_, _, _, _, _, _⟩) rfl (fun KK hK => ?_) AllReadyH.nil
              go_simp
              refine (within_c _ _ _ _ g6).mono ?_
              rintro e9 w' ⟨rfl, rfl⟩
              go_wp2_with fail
              refine hK.out _ _ kk5 (fun hH23 => ?_)
              clear hK KK hH18
              try simp only [Act.put, List.setIfInBounds_toArray, List.set_cons_zero, List.set_cons_succ]
              refine wpAnyH_take (i := 24) (oi := ⟨_, _, _, _, _, _⟩) (v := ?vp5f24) rfl (by kernel_rfl) (by kernel_rfl) (by kernel_rfl) (fun _ _ _ h => h) (Or.inl ⟨by rfl, ?yp5f24⟩) (by assumption) ?rp5f24
              case yp5f24 => intro w hSw; (try dsimp only at hSw); go_simp; try with_reducible rfl
              try simp only [Act.put, List.setIfInBounds_toArray, List.set_cons_zero, List.set_cons_succ]
              refine wpAnyH_take (i := 25) (oi := ⟨_, _, _, _, _, _⟩) (v := ?vp5f25) rfl (by kernel_rfl) (by kernel_rfl) (by kernel_rfl) (fun _ _ _ h => h) (Or.inl ⟨by rfl, ?yp5f25⟩) (by assumption) ?rp5f25
              case yp5f25 => intro w hSw; (try dsimp only at hSw); go_simp; try with_reducible rfl
              try simp only [Act.put, List.setIfInBounds_toArray, List.set_cons_zero, List.set_cons_succ]
              refine wpAnyH_take (i := 26) (oi := ⟨_, _, _, _, _, _⟩) (v := undef) rfl (by kernel_rfl) (by kernel_rfl) (by kernel_rfl) (fun _ _ _ h => h) (Or.inr ⟨by rfl, rfl⟩) (by assumption) ?_
              try simp only [Act.put, List.setIfInBounds_toArray, List.set_cons_zero, List.set_cons_succ]
              refine wpAnyH_take (i := 27) (oi := ⟨_, _, _, _, _, _⟩) (v := undef) rfl (by kernel_rfl) (by kernel_rfl) (by kernel_rfl) (fun _ _ _ h => h) (Or.inr ⟨by rfl, rfl⟩) (by assumption) ?_
              try simp only [Act.put, List.setIfInBounds_toArray, List.set_cons_zero, List.set_cons_succ]
              refine wpAnyH_take (i := 28) (oi := ⟨_, _, _, _, _, _⟩) (v := undef) rfl (by kernel_rfl) (by kernel_rfl) (by kernel_rfl) (fun _ _ _ h => h) (Or.inr ⟨by rfl, rfl⟩) (by assumption) ?_
              try simp only [Act.put, List.setIfInBounds_toArray, List.set_cons_zero, List.set_cons_succ]
              refine wpAnyH_take (i := 29) (oi := ⟨_, _, _, _, _, _⟩) (v := undef) rfl (by kernel_rfl) (by kernel_rfl) (by kernel_rfl) (fun _ _ _ h => h) (Or.inr ⟨by rfl, rfl⟩) (by assumption) ?_
              try simp only [Act.put, List.setIfInBounds_toArray, List.set_cons_zero, List.set_cons_succ]
              refine wpAnyH_take (i := 30) (oi := ⟨_, _, _, _, _, _⟩) (v := undef) rfl (by kernel_rfl) (by kernel_rfl) (by kernel_rfl) (fun _ _ _ h => h) (Or.inr ⟨by rfl, rfl⟩) (by assumption) ?_
              try simp only [Act.put, List.setIfInBounds_toArray, List.set_cons_zero, List.set_cons_succ]
              refine wpAnyH_take (i := 31) (oi := ⟨_, _, _, _, _, _⟩) (v := undef) rfl (by kernel_rfl) (by kernel_rfl) (by kernel_rfl) (fun _ _ _ h => h) (Or.inr ⟨by rfl, rfl⟩) (by assumption) ?_
              try simp only [Act.put, List.setIfInBounds_toArray, List.set_cons_zero, List.set_cons_succ]
              refine wpAnyH_take (i := 32) (oi := ⟨_, _, _, _, _, _⟩) (v := ?vp5f32) rfl (by kernel_rfl) (by kernel_rfl) (by kernel_rfl) (fun _ _ _ h => h) (Or.inl ⟨by rfl, ?yp5f32⟩) (by assumption) ?rp5f32
              case yp5f32 => intro w hSw; (try dsimp only at hSw); go_simp; try with_reducible rfl
              try simp only [Act.put, List.setIfInBounds_toArray, List.set_cons_zero, List.set_cons_succ]
              refine wpAnyH_take (i := 33) (oi := ⟨_, _, _, _, _, _⟩) (v := ?vp5f33) rfl (by kernel_rfl) (by kernel_rfl) (by kernel_rfl) (fun _ _ _ h => h) (Or.inl ⟨by rfl, ?yp5f33⟩) (by assumption) ?rp5f33
              case yp5f33 => intro w hSw; (try dsimp only at hSw); go_simp; try with_reducible rfl
              try simp only [Act.put, List.setIfInBounds_toArray, List.set_cons_zero, List.set_cons_succ]
              refine wpAnyH_done (by kernel_rfl) (NoPanic.normal ?_) _
              clear hu4
              go_wp2
              go_ret
              exact ⟨ret_bool HE.out.symm, BB5⟩
            | true =>
              cases g7 : (p.leader == ld) with
              | false =>
                have HE : Hid (okPI brs p = false) := by show _ = _; unfold okPI; rw [HLDo.out, g1, g2, g3, g4, g5, g6, g7]; rfl
                have d3 : (0 : Int) < (p.steps.length : Int) := by have := of_decide_eq_true g3; omega
                have hl6 : p.steps.length ≤ 1000000 := by have := riseZ_len g2; omega
                have HR : Hid (∀ z, z ∈ p.steps → 0 ≤ z ∧ z < (brs.length : Int)) := fun z hz => rise_mem g2 hz
                have HM : Hid ((wo n1 n0 == 0) = hasL p.homes p.steps) := by show _ = _; rw [← HN0.out, ← HN1.out, setR_t g1, setR_t g2]; exact hasR (by omega) g1 g2
                go_enter Tryd.func37, Tryd.ntmps37
                go_wp2_with fail
                try rw [hu0]
                clear hu0
                refine (setFrom_c _ _ _ _ _ _ (h0.below bB) l0 hn7 g1).mono ?_
                rintro r w1 ⟨rfl, hB1⟩
                rw [HN0.out]
                obtain ⟨u2, hu2⟩ : ∃ u, (w1.alloc (.cells #[.int .u64 ((n0 : Nat) : Int)] 49)) = u := ⟨_, rfl⟩
                have BU : Below w1.heap.size w1 u2 := by rw [← hu2]; exact alCt _ _
                have s0 : u2.cell? ⟨w1.heap.size, 0, none⟩ = some (.int .u64 ((n0 : Nat) : Int)) := by rw [← hu2]; simp [go_sem]
                have BB2 := stCt (stCt bB hB1) BU
                have q0 := celB (stCt hB1 BU) kk.1
                have q1 := celB (stCt hB1 BU) kk.2.1
                have q2 := celB (stCt hB1 BU) kk.2.2.1
                have q3 := celB (stCt hB1 BU) kk.2.2.2.1
                have q4 := celB (stCt hB1 BU) kk.2.2.2.2
                clear BU hB1
                go_wp2_with fail
                try rw [hu2]
                clear hu2
                refine (setFrom_c _ _ _ _ _ _ (h1.below BB2) l1 hn7 g2).mono ?_
                rintro r w3 ⟨rfl, hB3⟩
                rw [HN1.out]
                obtain ⟨u4, hu4⟩ : ∃ u, (w3.alloc (.cells #[.int .u64 ((n1 : Nat) : Int)] 49)) = u := ⟨_, rfl⟩
                have BV : Below u2.heap.size u2 u4.drew := by rw [← hu4]; exact (stCt hB3 (alCt _ _)).drew
                have kk4 : u4.drew.cell? ⟨w.heap.size, 0, none⟩ = some (.slice r0 p.homes.length k0) ∧ u4.drew.cell? ⟨w.heap.size, 1, none⟩ = some (.slice r1 p.steps.length k1) ∧ u4.drew.cell? ⟨w.heap.size, 2, none⟩ = some (.int .i64 p.leader) ∧ u4.drew.cell? ⟨w.heap.size, 3, none⟩ = some (.int .i64 p.epoch) ∧ u4.drew.cell? ⟨w.heap.size, 4, none⟩ = some (.int .i64 p.stamp) ∧ u4.drew.cell? ⟨w1.heap.size, 0, none⟩ = some (.int .u64 ((n0 : Nat) : Int)) ∧ u4.drew.cell? ⟨w3.heap.size, 0, none⟩ = some (.int .u64 ((n1 : Nat) : Int)) := ⟨celB BV q0, celB BV q1, celB BV q2, celB BV q3, celB BV q4, celB BV s0, by rw [← hu4]; simp [go_sem]⟩
                have BB4 := stCt BB2 BV
                clear BV hB3 q0 q1 q2 q3 q4 s0
                go_wp2_with fail
                try rw [hu4]
                refine wp_region_noPanic ?_
                refine wp_region_held_drew (S := fun w' => w'.cell? ⟨w.heap.size, 0, none⟩ = some (.slice r0 p.homes.length k0) ∧ w'.cell? ⟨w.heap.size, 1, none⟩ = some (.slice r1 p.steps.length k1) ∧ w'.cell? ⟨w.heap.size, 2, none⟩ = some (.int .i64 p.leader) ∧ w'.cell? ⟨w.heap.size, 3, none⟩ = some (.int .i64 p.epoch) ∧ w'.cell? ⟨w.heap.size, 4, none⟩ = some (.int .i64 p.stamp) ∧ w'.cell? ⟨w1.heap.size, 0, none⟩ = some (.int .u64 ((n0 : Nat) : Int)) ∧ w'.cell? ⟨w3.heap.size, 0, none⟩ = some (.int .u64 ((n1 : Nat) : Int))) (by kernel_rfl) kk4 (fun hH => ?_)
                refine wpAnyH_take (i := 0) (oi := ⟨_, _, _, _, _, _⟩) (v := ?vp6f0) rfl (by kernel_rfl) (by kernel_rfl) (by kernel_rfl) (fun _ _ _ h => h) (Or.inl ⟨by rfl, ?yp6f0⟩) (by assumption) ?rp6f0
                case yp6f0 => intro w hSw; (try dsimp only at hSw); go_simp; try with_reducible rfl
                try simp only [Act.put, List.setIfInBounds_toArray, List.set_cons_zero, List.set_cons_succ]
                refine wpAnyH_take (i := 1) (oi := ⟨_, _, _, _, _, _⟩) (v := ?vp6f1) rfl (by kernel_rfl) (by kernel_rfl) (by kernel_rfl) (fun _ _ _ h => h) (Or.inl ⟨by rfl, ?yp6f1⟩) (by assumption) ?rp6f1
                case yp6f1 => intro w hSw; (try dsimp only at hSw); go_simp; try with_reducible rfl
                try simp only [Act.put, List.setIfInBounds_toArray, List.set_cons_zero, List.set_cons_succ]
                refine wpAnyH_take (i := 2) (oi := ⟨_, _, _, _, _, _⟩) (v := ?vp6f2) rfl (by kernel_rfl) (by kernel_rfl) (by kernel_rfl) (fun _ _ _ h => h) (Or.inl ⟨by rfl, ?yp6f2⟩) (by assumption) ?rp6f2
                case yp6f2 => intro w hSw; (try dsimp only at hSw); go_simp; try with_reducible rfl
                try simp only [Act.put, List.setIfInBounds_toArray, List.set_cons_zero, List.set_cons_succ]
                refine wpAnyH_take (i := 3) (oi := ⟨_, _, _, _, _, _⟩) (v := ?vp6f3) rfl (by kernel_rfl) (by kernel_rfl) (by kernel_rfl) (fun _ _ _ h => h) (Or.inl ⟨by rfl, ?yp6f3⟩) (by assumption) ?rp6f3
                case yp6f3 => intro w hSw; (try dsimp only at hSw); go_simp; try with_reducible rfl
                try simp only [Act.put, List.setIfInBounds_toArray, List.set_cons_zero, List.set_cons_succ]
                refine wpAnyH_take (i := 4) (oi := ⟨_, _, _, _, _, _⟩) (v := ?vp6f4) rfl (by kernel_rfl) (by kernel_rfl) (by kernel_rfl) (fun _ _ _ h => h) (Or.inl ⟨by rfl, ?yp6f4⟩) (by assumption) ?rp6f4
                case yp6f4 => intro w hSw; (try dsimp only at hSw); go_simp; try with_reducible rfl
                try simp only [Act.put, List.setIfInBounds_toArray, List.set_cons_zero, List.set_cons_succ]
                refine wpAnyH_take (i := 5) (oi := ⟨_, _, _, _, _, _⟩) (v := ?vp6f5) rfl (by kernel_rfl) (by kernel_rfl) (by kernel_rfl) (fun _ _ _ h => h) (Or.inl ⟨by rfl, ?yp6f5⟩) (by assumption) ?rp6f5
                case yp6f5 => intro w hSw; (try dsimp only at hSw); go_simp; try with_reducible rfl
                try simp only [Act.put, List.setIfInBounds_toArray, List.set_cons_zero, List.set_cons_succ]
                refine wpAnyH_take (i := 6) (oi := ⟨_, _, _, _, _, _⟩) (v := ?vp6f6) rfl (by kernel_rfl) (by kernel_rfl) (by kernel_rfl) (fun _ _ _ h => h) (Or.inl ⟨by rfl, ?yp6f6⟩) (by assumption) ?rp6f6
                case yp6f6 => intro w hSw; (try dsimp only at hSw); go_simp; try with_reducible rfl
                try simp only [Act.put, List.setIfInBounds_toArray, List.set_cons_zero, List.set_cons_succ]
                refine wpAnyH_take (i := 7) (oi := ⟨_, _, _, _, _, _⟩) (v := ?vp6f7) rfl (by kernel_rfl) (by kernel_rfl) (by kernel_rfl) (fun _ _ _ h => h) (Or.inl ⟨by rfl, ?yp6f7⟩) (by assumption) ?rp6f7
                case yp6f7 => intro w hSw; (try dsimp only at hSw); go_simp; try with_reducible rfl
                try simp only [Act.put, List.setIfInBounds_toArray, List.set_cons_zero, List.set_cons_succ]
                refine wpAnyH_take (i := 8) (oi := ⟨_, _, _, _, _, _⟩) (v := ?vp6f8) rfl (by kernel_rfl) (by kernel_rfl) (by kernel_rfl) (fun _ _ _ h => h) (Or.inl ⟨by rfl, ?yp6f8⟩) (by assumption) ?rp6f8
                case yp6f8 => intro w hSw; (try dsimp only at hSw); go_simp; try with_reducible rfl
                try simp only [Act.put, List.setIfInBounds_toArray, List.set_cons_zero, List.set_cons_succ]
                refine wpAnyH_take (i := 9) (oi := ⟨_, _, _, _, _, _⟩) (v := ?vp6f9) rfl (by kernel_rfl) (by kernel_rfl) (by kernel_rfl) (fun _ _ _ h => h) (Or.inl ⟨by rfl, ?yp6f9⟩) (by assumption) ?rp6f9
                case yp6f9 => intro w hSw; (try dsimp only at hSw); go_simp; try with_reducible rfl
                try simp only [Act.put, List.setIfInBounds_toArray, List.set_cons_zero, List.set_cons_succ]
                refine wpAnyH_take (i := 10) (oi := ⟨_, _, _, _, _, _⟩) (v := ?vp6f10) rfl (by kernel_rfl) (by kernel_rfl) (by kernel_rfl) (fun _ _ _ h => h) (Or.inl ⟨by rfl, ?yp6f10⟩) (by assumption) ?rp6f10
                case yp6f10 => intro w hSw; (try dsimp only at hSw); go_simp; try with_reducible rfl
                try simp only [Act.put, List.setIfInBounds_toArray, List.set_cons_zero, List.set_cons_succ]
                refine wpAnyH_take (i := 11) (oi := ⟨_, _, _, _, _, _⟩) (v := ?vp6f11) rfl (by kernel_rfl) (by kernel_rfl) (by kernel_rfl) (fun _ _ _ h => h) (Or.inl ⟨by rfl, ?yp6f11⟩) (by assumption) ?rp6f11
                case yp6f11 => intro w hSw; (try dsimp only at hSw); go_simp; try with_reducible rfl
                try simp only [Act.put, List.setIfInBounds_toArray, List.set_cons_zero, List.set_cons_succ]
                refine wpAnyH_take (i := 12) (oi := ⟨_, _, _, _, _, _⟩) (v := ?vp6f12) rfl (by kernel_rfl) (by kernel_rfl) (by kernel_rfl) (fun _ _ _ h => h) (Or.inl ⟨by rfl, ?yp6f12⟩) (by assumption) ?rp6f12
                case yp6f12 => intro w hSw; (try dsimp only at hSw); go_simp; try with_reducible rfl
                try simp only [Act.put, List.setIfInBounds_toArray, List.set_cons_zero, List.set_cons_succ]
                refine wpAnyH_ready (rs := [13]) (by kernel_rfl) (by simp) ?_
                refine AllReadyH.cons (o := ⟨_, _, _, _, _, _⟩) rfl (fun KK hK => ?_) AllReadyH.nil
                go_simp
                refine (hasAll_c _ _ hS0 hS1 _ _ (HM.out.trans g4)).mono ?_
                rintro r w5 ⟨rfl, hB5⟩
                have kk5 : w5.cell? ⟨w.heap.size, 0, none⟩ = some (.slice r0 p.homes.length k0) ∧ w5.cell? ⟨w.heap.size, 1, none⟩ = some (.slice r1 p.steps.length k1) ∧ w5.cell? ⟨w.heap.size, 2, none⟩ = some (.int .i64 p.leader) ∧ w5.cell? ⟨w.heap.size, 3, none⟩ = some (.int .i64 p.epoch) ∧ w5.cell? ⟨w.heap.size, 4, none⟩ = some (.int .i64 p.stamp) ∧ w5.cell? ⟨w1.heap.size, 0, none⟩ = some (.int .u64 ((n0 : Nat) : Int)) ∧ w5.cell? ⟨w3.heap.size, 0, none⟩ = some (.int .u64 ((n1 : Nat) : Int)) := ⟨celB hB5 kk4.1, celB hB5 kk4.2.1, celB hB5 kk4.2.2.1, celB hB5 kk4.2.2.2.1, celB hB5 kk4.2.2.2.2.1, celB hB5 kk4.2.2.2.2.2.1, celB hB5 kk4.2.2.2.2.2.2⟩
                have BB5 := stCt BB4 hB5
                clear hB5
                go_wp2_with fail
                refine hK.out _ _ kk5 (fun hH13 => ?_)
                clear hK KK hH
                try simp only [Act.put, List.setIfInBounds_toArray, List.set_cons_zero, List.set_cons_succ]
                refine wpAnyH_take (i := 14) (oi := ⟨_, _, _, _, _, _⟩) (v := ?vp6f14) rfl (by kernel_rfl) (by kernel_rfl) (by kernel_rfl) (fun _ _ _ h => h) (Or.inl ⟨by rfl, ?yp6f14⟩) (by assumption) ?rp6f14
                case yp6f14 => intro w hSw; (try dsimp only at hSw); go_simp; try with_reducible rfl
                try simp only [Act.put, List.setIfInBounds_toArray, List.set_cons_zero, List.set_cons_succ]
                refine wpAnyH_take (i := 15) (oi := ⟨_, _, _, _, _, _⟩) (v := ?vp6f15) rfl (by kernel_rfl) (by kernel_rfl) (by kernel_rfl) (fun _ _ _ h => h) (Or.inl ⟨by rfl, ?yp6f15⟩) (by assumption) ?rp6f15
                case yp6f15 => intro w hSw; (try dsimp only at hSw); go_simp; try with_reducible rfl
                try simp only [Act.put, List.setIfInBounds_toArray, List.set_cons_zero, List.set_cons_succ]
                refine wpAnyH_take (i := 16) (oi := ⟨_, _, _, _, _, _⟩) (v := ?vp6f16) rfl (by kernel_rfl) (by kernel_rfl) (by kernel_rfl) (fun _ _ _ h => h) (Or.inl ⟨by rfl, ?yp6f16⟩) (by assumption) ?rp6f16
                case yp6f16 => intro w hSw; (try dsimp only at hSw); go_simp; try with_reducible rfl
                try simp only [Act.put, List.setIfInBounds_toArray, List.set_cons_zero, List.set_cons_succ]
                refine wpAnyH_take (i := 17) (oi := ⟨_, _, _, _, _, _⟩) (v := ?vp6f17) rfl (by kernel_rfl) (by kernel_rfl) (by kernel_rfl) (fun _ _ _ h => h) (Or.inl ⟨by rfl, ?yp6f17⟩) (by assumption) ?rp6f17
                case yp6f17 => intro w hSw; (try dsimp only at hSw); go_simp; try with_reducible rfl
                try simp only [Act.put, List.setIfInBounds_toArray, List.set_cons_zero, List.set_cons_succ]
                refine wpAnyH_ready (rs := [18]) (by kernel_rfl) (by simp) ?_
                refine AllReadyH.cons (o := ⟨_, _, _, _, _, _⟩) rfl (fun KK hK => ?_) AllReadyH.nil
                go_simp
                refine (within_c _ _ _ _ g5).mono ?_
                rintro e9 w' ⟨rfl, rfl⟩
                go_wp2_with fail
                refine hK.out _ _ kk5 (fun hH18 => ?_)
                clear hK KK hH13
                try simp only [Act.put, List.setIfInBounds_toArray, List.set_cons_zero, List.set_cons_succ]
                refine wpAnyH_take (i := 19) (oi := ⟨_, _, _, _, _, _⟩) (v := ?vp6f19) rfl (by kernel_rfl) (by kernel_rfl) (by kernel_rfl) (fun _ _ _ h => h) (Or.inl ⟨by rfl, ?yp6f19⟩) (by assumption) ?rp6f19
                case yp6f19 => intro w hSw; (try dsimp only at hSw); go_simp; try with_reducible rfl
                try simp only [Act.put, List.setIfInBounds_toArray, List.set_cons_zero, List.set_cons_succ]
                refine wpAnyH_take (i := 20) (oi := ⟨_, _, _, _, _, _⟩) (v := ?vp6f20) rfl (by kernel_rfl) (by kernel_rfl) (by kernel_rfl) (fun _ _ _ h => h) (Or.inl ⟨by rfl, ?yp6f20⟩) (by assumption) ?rp6f20
                case yp6f20 => intro w hSw; (try dsimp only at hSw); go_simp; try with_reducible rfl
                try simp only [Act.put, List.setIfInBounds_toArray, List.set_cons_zero, List.set_cons_succ]
                refine wpAnyH_take (i := 21) (oi := ⟨_, _, _, _, _, _⟩) (v := ?vp6f21) rfl (by kernel_rfl) (by kernel_rfl) (by kernel_rfl) (fun _ _ _ h => h) (Or.inl ⟨by rfl, ?yp6f21⟩) (by assumption) ?rp6f21
                case yp6f21 => intro w hSw; (try dsimp only at hSw); go_simp; try with_reducible rfl
                try simp only [Act.put, List.setIfInBounds_toArray, List.set_cons_zero, List.set_cons_succ]
                refine wpAnyH_take (i := 22) (oi := ⟨_, _, _, _, _, _⟩) (v := ?vp6f22) rfl (by kernel_rfl) (by kernel_rfl) (by kernel_rfl) (fun _ _ _ h => h) (Or.inl ⟨by rfl, ?yp6f22⟩) (by assumption) ?rp6f22
                case yp6f22 => intro w hSw; (try dsimp only at hSw); go_simp; try with_reducible rfl
                try simp only [Act.put, List.setIfInBounds_toArray, List.set_cons_zero, List.set_cons_succ]
                refine wpAnyH_ready (rs := [23]) (by kernel_rfl) (by simp) ?_
                refine AllReadyH.cons (o := ⟨_, _, _, _, _, _⟩) rfl (fun KK hK => ?_) AllReadyH.nil
                go_simp
                refine (within_c _ _ _ _ g6).mono ?_
                rintro e9 w' ⟨rfl, rfl⟩
                go_wp2_with fail
                refine hK.out _ _ kk5 (fun hH23 => ?_)
                clear hK KK hH18
                try simp only [Act.put, List.setIfInBounds_toArray, List.set_cons_zero, List.set_cons_succ]
                refine wpAnyH_take (i := 24) (oi := ⟨_, _, _, _, _, _⟩) (v := ?vp6f24) rfl (by kernel_rfl) (by kernel_rfl) (by kernel_rfl) (fun _ _ _ h => h) (Or.inl ⟨by rfl, ?yp6f24⟩) (by assumption) ?rp6f24
                case yp6f24 => intro w hSw; (try dsimp only at hSw); go_simp; try with_reducible rfl
                try simp only [Act.put, List.setIfInBounds_toArray, List.set_cons_zero, List.set_cons_succ]
                refine wpAnyH_take (i := 25) (oi := ⟨_, _, _, _, _, _⟩) (v := ?vp6f25) rfl (by kernel_rfl) (by kernel_rfl) (by kernel_rfl) (fun _ _ _ h => h) (Or.inl ⟨by rfl, ?yp6f25⟩) (by assumption) ?rp6f25
                case yp6f25 => intro w hSw; (try dsimp only at hSw); go_simp; try with_reducible rfl
                try simp only [Act.put, List.setIfInBounds_toArray, List.set_cons_zero, List.set_cons_succ]
                refine wpAnyH_take (i := 26) (oi := ⟨_, _, _, _, _, _⟩) (v := ?vp6f26) rfl (by kernel_rfl) (by kernel_rfl) (by kernel_rfl) (fun _ _ _ h => h) (Or.inl ⟨by rfl, ?yp6f26⟩) (by assumption) ?rp6f26
                case yp6f26 => intro w hSw; (try dsimp only at hSw); go_simp; try with_reducible rfl
                try simp only [Act.put, List.setIfInBounds_toArray, List.set_cons_zero, List.set_cons_succ]
                refine wpAnyH_take (i := 27) (oi := ⟨_, _, _, _, _, _⟩) (v := ?vp6f27) rfl (by kernel_rfl) (by kernel_rfl) (by kernel_rfl) (fun _ _ _ h => h) (Or.inl ⟨by rfl, ?yp6f27⟩) (by assumption) ?rp6f27
                case yp6f27 => intro w hSw; (try dsimp only at hSw); go_simp; try with_reducible rfl
                try simp only [Act.put, List.setIfInBounds_toArray, List.set_cons_zero, List.set_cons_succ]
                refine wpAnyH_take (i := 28) (oi := ⟨_, _, _, _, _, _⟩) (v := ?vp6f28) rfl (by kernel_rfl) (by kernel_rfl) (by kernel_rfl) (fun _ _ _ h => h) (Or.inl ⟨by rfl, ?yp6f28⟩) (by assumption) ?rp6f28
                case yp6f28 => intro w hSw; (try dsimp only at hSw); go_simp; try with_reducible rfl
                try simp only [Act.put, List.setIfInBounds_toArray, List.set_cons_zero, List.set_cons_succ]
                refine wpAnyH_take (i := 29) (oi := ⟨_, _, _, _, _, _⟩) (v := ?vp6f29) rfl (by kernel_rfl) (by kernel_rfl) (by kernel_rfl) (fun _ _ _ h => h) (Or.inl ⟨by rfl, ?yp6f29⟩) (by assumption) ?rp6f29
                case yp6f29 => intro w hSw; (try dsimp only at hSw); go_simp; try with_reducible rfl
                try simp only [Act.put, List.setIfInBounds_toArray, List.set_cons_zero, List.set_cons_succ]
                refine wpAnyH_ready (rs := [30]) (by kernel_rfl) (by simp) ?_
                refine AllReadyH.cons (o := ⟨_, _, _, _, _, _⟩) rfl (fun KK hK => ?_) AllReadyH.nil
                go_simp
                refine (leaderFor_any p brs _ _ _ _ _ _ _ (h1.below BB5) (hb.below BB5) hl6 hbl HR.out).mono ?_
                rintro r w6 ⟨rfl, hB6⟩
                have kk6 : w6.cell? ⟨w.heap.size, 0, none⟩ = some (.slice r0 p.homes.length k0) ∧ w6.cell? ⟨w.heap.size, 1, none⟩ = some (.slice r1 p.steps.length k1) ∧ w6.cell? ⟨w.heap.size, 2, none⟩ = some (.int .i64 p.leader) ∧ w6.cell? ⟨w.heap.size, 3, none⟩ = some (.int .i64 p.epoch) ∧ w6.cell? ⟨w.heap.size, 4, none⟩ = some (.int .i64 p.stamp) ∧ w6.cell? ⟨w1.heap.size, 0, none⟩ = some (.int .u64 ((n0 : Nat) : Int)) ∧ w6.cell? ⟨w3.heap.size, 0, none⟩ = some (.int .u64 ((n1 : Nat) : Int)) := ⟨celB hB6 kk5.1, celB hB6 kk5.2.1, celB hB6 kk5.2.2.1, celB hB6 kk5.2.2.2.1, celB hB6 kk5.2.2.2.2.1, celB hB6 kk5.2.2.2.2.2.1, celB hB6 kk5.2.2.2.2.2.2⟩
                have BB6 := stCt BB5 hB6
                clear hB6
                rw [HLD.out]
                go_wp2_with fail
                refine hK.out _ _ kk6 (fun hH30 => ?_)
                clear hK KK hH23
                try simp only [Act.put, List.setIfInBounds_toArray, List.set_cons_zero, List.set_cons_succ]
                refine wpAnyH_take (i := 31) (oi := ⟨_, _, _, _, _, _⟩) (v := ?vp6f31) rfl (by kernel_rfl) (by kernel_rfl) (by kernel_rfl) (fun _ _ _ h => h) (Or.inl ⟨by rfl, ?yp6f31⟩) (by assumption) ?rp6f31
                case yp6f31 => intro w hSw; (try dsimp only at hSw); go_simp; try with_reducible rfl
                try simp only [Act.put, List.setIfInBounds_toArray, List.set_cons_zero, List.set_cons_succ]
                refine wpAnyH_take (i := 32) (oi := ⟨_, _, _, _, _, _⟩) (v := ?vp6f32) rfl (by kernel_rfl) (by kernel_rfl) (by kernel_rfl) (fun _ _ _ h => h) (Or.inl ⟨by rfl, ?yp6f32⟩) (by assumption) ?rp6f32
                case yp6f32 => intro w hSw; (try dsimp only at hSw); go_simp; try with_reducible rfl
                try simp only [Act.put, List.setIfInBounds_toArray, List.set_cons_zero, List.set_cons_succ]
                refine wpAnyH_take (i := 33) (oi := ⟨_, _, _, _, _, _⟩) (v := ?vp6f33) rfl (by kernel_rfl) (by kernel_rfl) (by kernel_rfl) (fun _ _ _ h => h) (Or.inl ⟨by rfl, ?yp6f33⟩) (by assumption) ?rp6f33
                case yp6f33 => intro w hSw; (try dsimp only at hSw); go_simp; try with_reducible rfl
                try simp only [Act.put, List.setIfInBounds_toArray, List.set_cons_zero, List.set_cons_succ]
                refine wpAnyH_done (by kernel_rfl) (NoPanic.normal ?_) _
                clear hu4
                go_wp2
                go_ret
                exact ⟨ret_bool HE.out.symm, BB6⟩
              | true =>
                have HE : Hid (okPI brs p = true) := by show _ = _; unfold okPI; rw [HLDo.out, g1, g2, g3, g4, g5, g6, g7]; rfl
                have d3 : (0 : Int) < (p.steps.length : Int) := by have := of_decide_eq_true g3; omega
                have hl6 : p.steps.length ≤ 1000000 := by have := riseZ_len g2; omega
                have HR : Hid (∀ z, z ∈ p.steps → 0 ≤ z ∧ z < (brs.length : Int)) := fun z hz => rise_mem g2 hz
                have HM : Hid ((wo n1 n0 == 0) = hasL p.homes p.steps) := by show _ = _; rw [← HN0.out, ← HN1.out, setR_t g1, setR_t g2]; exact hasR (by omega) g1 g2
                go_enter Tryd.func37, Tryd.ntmps37
                go_wp2_with fail
                try rw [hu0]
                clear hu0
                refine (setFrom_c _ _ _ _ _ _ (h0.below bB) l0 hn7 g1).mono ?_
                rintro r w1 ⟨rfl, hB1⟩
                rw [HN0.out]
                obtain ⟨u2, hu2⟩ : ∃ u, (w1.alloc (.cells #[.int .u64 ((n0 : Nat) : Int)] 49)) = u := ⟨_, rfl⟩
                have BU : Below w1.heap.size w1 u2 := by rw [← hu2]; exact alCt _ _
                have s0 : u2.cell? ⟨w1.heap.size, 0, none⟩ = some (.int .u64 ((n0 : Nat) : Int)) := by rw [← hu2]; simp [go_sem]
                have BB2 := stCt (stCt bB hB1) BU
                have q0 := celB (stCt hB1 BU) kk.1
                have q1 := celB (stCt hB1 BU) kk.2.1
                have q2 := celB (stCt hB1 BU) kk.2.2.1
                have q3 := celB (stCt hB1 BU) kk.2.2.2.1
                have q4 := celB (stCt hB1 BU) kk.2.2.2.2
                clear BU hB1
                go_wp2_with fail
                try rw [hu2]
                clear hu2
                refine (setFrom_c _ _ _ _ _ _ (h1.below BB2) l1 hn7 g2).mono ?_
                rintro r w3 ⟨rfl, hB3⟩
                rw [HN1.out]
                obtain ⟨u4, hu4⟩ : ∃ u, (w3.alloc (.cells #[.int .u64 ((n1 : Nat) : Int)] 49)) = u := ⟨_, rfl⟩
                have BV : Below u2.heap.size u2 u4.drew := by rw [← hu4]; exact (stCt hB3 (alCt _ _)).drew
                have kk4 : u4.drew.cell? ⟨w.heap.size, 0, none⟩ = some (.slice r0 p.homes.length k0) ∧ u4.drew.cell? ⟨w.heap.size, 1, none⟩ = some (.slice r1 p.steps.length k1) ∧ u4.drew.cell? ⟨w.heap.size, 2, none⟩ = some (.int .i64 p.leader) ∧ u4.drew.cell? ⟨w.heap.size, 3, none⟩ = some (.int .i64 p.epoch) ∧ u4.drew.cell? ⟨w.heap.size, 4, none⟩ = some (.int .i64 p.stamp) ∧ u4.drew.cell? ⟨w1.heap.size, 0, none⟩ = some (.int .u64 ((n0 : Nat) : Int)) ∧ u4.drew.cell? ⟨w3.heap.size, 0, none⟩ = some (.int .u64 ((n1 : Nat) : Int)) := ⟨celB BV q0, celB BV q1, celB BV q2, celB BV q3, celB BV q4, celB BV s0, by rw [← hu4]; simp [go_sem]⟩
                have BB4 := stCt BB2 BV
                clear BV hB3 q0 q1 q2 q3 q4 s0
                go_wp2_with fail
                try rw [hu4]
                refine wp_region_noPanic ?_
                refine wp_region_held_drew (S := fun w' => w'.cell? ⟨w.heap.size, 0, none⟩ = some (.slice r0 p.homes.length k0) ∧ w'.cell? ⟨w.heap.size, 1, none⟩ = some (.slice r1 p.steps.length k1) ∧ w'.cell? ⟨w.heap.size, 2, none⟩ = some (.int .i64 p.leader) ∧ w'.cell? ⟨w.heap.size, 3, none⟩ = some (.int .i64 p.epoch) ∧ w'.cell? ⟨w.heap.size, 4, none⟩ = some (.int .i64 p.stamp) ∧ w'.cell? ⟨w1.heap.size, 0, none⟩ = some (.int .u64 ((n0 : Nat) : Int)) ∧ w'.cell? ⟨w3.heap.size, 0, none⟩ = some (.int .u64 ((n1 : Nat) : Int))) (by kernel_rfl) kk4 (fun hH => ?_)
                refine wpAnyH_take (i := 0) (oi := ⟨_, _, _, _, _, _⟩) (v := ?vp7t0) rfl (by kernel_rfl) (by kernel_rfl) (by kernel_rfl) (fun _ _ _ h => h) (Or.inl ⟨by rfl, ?yp7t0⟩) (by assumption) ?rp7t0
                case yp7t0 => intro w hSw; (try dsimp only at hSw); go_simp; try with_reducible rfl
                try simp only [Act.put, List.setIfInBounds_toArray, List.set_cons_zero, List.set_cons_succ]
                refine wpAnyH_take (i := 1) (oi := ⟨_, _, _, _, _, _⟩) (v := ?vp7t1) rfl (by kernel_rfl) (by kernel_rfl) (by kernel_rfl) (fun _ _ _ h => h) (Or.inl ⟨by rfl, ?yp7t1⟩) (by assumption) ?rp7t1
                case yp7t1 => intro w hSw; (try dsimp only at hSw); go_simp; try with_reducible rfl
                try simp only [Act.put, List.setIfInBounds_toArray, List.set_cons_zero, List.set_cons_succ]
                refine wpAnyH_take (i := 2) (oi := ⟨_, _, _, _, _, _⟩) (v := ?vp7t2) rfl (by kernel_rfl) (by kernel_rfl) (by kernel_rfl) (fun _ _ _ h => h) (Or.inl ⟨by rfl, ?yp7t2⟩) (by assumption) ?rp7t2
                case yp7t2 => intro w hSw; (try dsimp only at hSw); go_simp; try with_reducible rfl
                try simp only [Act.put, List.setIfInBounds_toArray, List.set_cons_zero, List.set_cons_succ]
                refine wpAnyH_take (i := 3) (oi := ⟨_, _, _, _, _, _⟩) (v := ?vp7t3) rfl (by kernel_rfl) (by kernel_rfl) (by kernel_rfl) (fun _ _ _ h => h) (Or.inl ⟨by rfl, ?yp7t3⟩) (by assumption) ?rp7t3
                case yp7t3 => intro w hSw; (try dsimp only at hSw); go_simp; try with_reducible rfl
                try simp only [Act.put, List.setIfInBounds_toArray, List.set_cons_zero, List.set_cons_succ]
                refine wpAnyH_take (i := 4) (oi := ⟨_, _, _, _, _, _⟩) (v := ?vp7t4) rfl (by kernel_rfl) (by kernel_rfl) (by kernel_rfl) (fun _ _ _ h => h) (Or.inl ⟨by rfl, ?yp7t4⟩) (by assumption) ?rp7t4
                case yp7t4 => intro w hSw; (try dsimp only at hSw); go_simp; try with_reducible rfl
                try simp only [Act.put, List.setIfInBounds_toArray, List.set_cons_zero, List.set_cons_succ]
                refine wpAnyH_take (i := 5) (oi := ⟨_, _, _, _, _, _⟩) (v := ?vp7t5) rfl (by kernel_rfl) (by kernel_rfl) (by kernel_rfl) (fun _ _ _ h => h) (Or.inl ⟨by rfl, ?yp7t5⟩) (by assumption) ?rp7t5
                case yp7t5 => intro w hSw; (try dsimp only at hSw); go_simp; try with_reducible rfl
                try simp only [Act.put, List.setIfInBounds_toArray, List.set_cons_zero, List.set_cons_succ]
                refine wpAnyH_take (i := 6) (oi := ⟨_, _, _, _, _, _⟩) (v := ?vp7t6) rfl (by kernel_rfl) (by kernel_rfl) (by kernel_rfl) (fun _ _ _ h => h) (Or.inl ⟨by rfl, ?yp7t6⟩) (by assumption) ?rp7t6
                case yp7t6 => intro w hSw; (try dsimp only at hSw); go_simp; try with_reducible rfl
                try simp only [Act.put, List.setIfInBounds_toArray, List.set_cons_zero, List.set_cons_succ]
                refine wpAnyH_take (i := 7) (oi := ⟨_, _, _, _, _, _⟩) (v := ?vp7t7) rfl (by kernel_rfl) (by kernel_rfl) (by kernel_rfl) (fun _ _ _ h => h) (Or.inl ⟨by rfl, ?yp7t7⟩) (by assumption) ?rp7t7
                case yp7t7 => intro w hSw; (try dsimp only at hSw); go_simp; try with_reducible rfl
                try simp only [Act.put, List.setIfInBounds_toArray, List.set_cons_zero, List.set_cons_succ]
                refine wpAnyH_take (i := 8) (oi := ⟨_, _, _, _, _, _⟩) (v := ?vp7t8) rfl (by kernel_rfl) (by kernel_rfl) (by kernel_rfl) (fun _ _ _ h => h) (Or.inl ⟨by rfl, ?yp7t8⟩) (by assumption) ?rp7t8
                case yp7t8 => intro w hSw; (try dsimp only at hSw); go_simp; try with_reducible rfl
                try simp only [Act.put, List.setIfInBounds_toArray, List.set_cons_zero, List.set_cons_succ]
                refine wpAnyH_take (i := 9) (oi := ⟨_, _, _, _, _, _⟩) (v := ?vp7t9) rfl (by kernel_rfl) (by kernel_rfl) (by kernel_rfl) (fun _ _ _ h => h) (Or.inl ⟨by rfl, ?yp7t9⟩) (by assumption) ?rp7t9
                case yp7t9 => intro w hSw; (try dsimp only at hSw); go_simp; try with_reducible rfl
                try simp only [Act.put, List.setIfInBounds_toArray, List.set_cons_zero, List.set_cons_succ]
                refine wpAnyH_take (i := 10) (oi := ⟨_, _, _, _, _, _⟩) (v := ?vp7t10) rfl (by kernel_rfl) (by kernel_rfl) (by kernel_rfl) (fun _ _ _ h => h) (Or.inl ⟨by rfl, ?yp7t10⟩) (by assumption) ?rp7t10
                case yp7t10 => intro w hSw; (try dsimp only at hSw); go_simp; try with_reducible rfl
                try simp only [Act.put, List.setIfInBounds_toArray, List.set_cons_zero, List.set_cons_succ]
                refine wpAnyH_take (i := 11) (oi := ⟨_, _, _, _, _, _⟩) (v := ?vp7t11) rfl (by kernel_rfl) (by kernel_rfl) (by kernel_rfl) (fun _ _ _ h => h) (Or.inl ⟨by rfl, ?yp7t11⟩) (by assumption) ?rp7t11
                case yp7t11 => intro w hSw; (try dsimp only at hSw); go_simp; try with_reducible rfl
                try simp only [Act.put, List.setIfInBounds_toArray, List.set_cons_zero, List.set_cons_succ]
                refine wpAnyH_take (i := 12) (oi := ⟨_, _, _, _, _, _⟩) (v := ?vp7t12) rfl (by kernel_rfl) (by kernel_rfl) (by kernel_rfl) (fun _ _ _ h => h) (Or.inl ⟨by rfl, ?yp7t12⟩) (by assumption) ?rp7t12
                case yp7t12 => intro w hSw; (try dsimp only at hSw); go_simp; try with_reducible rfl
                try simp only [Act.put, List.setIfInBounds_toArray, List.set_cons_zero, List.set_cons_succ]
                refine wpAnyH_ready (rs := [13]) (by kernel_rfl) (by simp) ?_
                refine AllReadyH.cons (o := ⟨_, _, _, _, _, _⟩) rfl (fun KK hK => ?_) AllReadyH.nil
                go_simp
                refine (hasAll_c _ _ hS0 hS1 _ _ (HM.out.trans g4)).mono ?_
                rintro r w5 ⟨rfl, hB5⟩
                have kk5 : w5.cell? ⟨w.heap.size, 0, none⟩ = some (.slice r0 p.homes.length k0) ∧ w5.cell? ⟨w.heap.size, 1, none⟩ = some (.slice r1 p.steps.length k1) ∧ w5.cell? ⟨w.heap.size, 2, none⟩ = some (.int .i64 p.leader) ∧ w5.cell? ⟨w.heap.size, 3, none⟩ = some (.int .i64 p.epoch) ∧ w5.cell? ⟨w.heap.size, 4, none⟩ = some (.int .i64 p.stamp) ∧ w5.cell? ⟨w1.heap.size, 0, none⟩ = some (.int .u64 ((n0 : Nat) : Int)) ∧ w5.cell? ⟨w3.heap.size, 0, none⟩ = some (.int .u64 ((n1 : Nat) : Int)) := ⟨celB hB5 kk4.1, celB hB5 kk4.2.1, celB hB5 kk4.2.2.1, celB hB5 kk4.2.2.2.1, celB hB5 kk4.2.2.2.2.1, celB hB5 kk4.2.2.2.2.2.1, celB hB5 kk4.2.2.2.2.2.2⟩
                have BB5 := stCt BB4 hB5
                clear hB5
                go_wp2_with fail
                refine hK.out _ _ kk5 (fun hH13 => ?_)
                clear hK KK hH
                try simp only [Act.put, List.setIfInBounds_toArray, List.set_cons_zero, List.set_cons_succ]
                refine wpAnyH_take (i := 14) (oi := ⟨_, _, _, _, _, _⟩) (v := ?vp7t14) rfl (by kernel_rfl) (by kernel_rfl) (by kernel_rfl) (fun _ _ _ h => h) (Or.inl ⟨by rfl, ?yp7t14⟩) (by assumption) ?rp7t14
                case yp7t14 => intro w hSw; (try dsimp only at hSw); go_simp; try with_reducible rfl
                try simp only [Act.put, List.setIfInBounds_toArray, List.set_cons_zero, List.set_cons_succ]
                refine wpAnyH_take (i := 15) (oi := ⟨_, _, _, _, _, _⟩) (v := ?vp7t15) rfl (by kernel_rfl) (by kernel_rfl) (by kernel_rfl) (fun _ _ _ h => h) (Or.inl ⟨by rfl, ?yp7t15⟩) (by assumption) ?rp7t15
                case yp7t15 => intro w hSw; (try dsimp only at hSw); go_simp; try with_reducible rfl
                try simp only [Act.put, List.setIfInBounds_toArray, List.set_cons_zero, List.set_cons_succ]
                refine wpAnyH_take (i := 16) (oi := ⟨_, _, _, _, _, _⟩) (v := ?vp7t16) rfl (by kernel_rfl) (by kernel_rfl) (by kernel_rfl) (fun _ _ _ h => h) (Or.inl ⟨by rfl, ?yp7t16⟩) (by assumption) ?rp7t16
                case yp7t16 => intro w hSw; (try dsimp only at hSw); go_simp; try with_reducible rfl
                try simp only [Act.put, List.setIfInBounds_toArray, List.set_cons_zero, List.set_cons_succ]
                refine wpAnyH_take (i := 17) (oi := ⟨_, _, _, _, _, _⟩) (v := ?vp7t17) rfl (by kernel_rfl) (by kernel_rfl) (by kernel_rfl) (fun _ _ _ h => h) (Or.inl ⟨by rfl, ?yp7t17⟩) (by assumption) ?rp7t17
                case yp7t17 => intro w hSw; (try dsimp only at hSw); go_simp; try with_reducible rfl
                try simp only [Act.put, List.setIfInBounds_toArray, List.set_cons_zero, List.set_cons_succ]
                refine wpAnyH_ready (rs := [18]) (by kernel_rfl) (by simp) ?_
                refine AllReadyH.cons (o := ⟨_, _, _, _, _, _⟩) rfl (fun KK hK => ?_) AllReadyH.nil
                go_simp
                refine (within_c _ _ _ _ g5).mono ?_
                rintro e9 w' ⟨rfl, rfl⟩
                go_wp2_with fail
                refine hK.out _ _ kk5 (fun hH18 => ?_)
                clear hK KK hH13
                try simp only [Act.put, List.setIfInBounds_toArray, List.set_cons_zero, List.set_cons_succ]
                refine wpAnyH_take (i := 19) (oi := ⟨_, _, _, _, _, _⟩) (v := ?vp7t19) rfl (by kernel_rfl) (by kernel_rfl) (by kernel_rfl) (fun _ _ _ h => h) (Or.inl ⟨by rfl, ?yp7t19⟩) (by assumption) ?rp7t19
                case yp7t19 => intro w hSw; (try dsimp only at hSw); go_simp; try with_reducible rfl
                try simp only [Act.put, List.setIfInBounds_toArray, List.set_cons_zero, List.set_cons_succ]
                refine wpAnyH_take (i := 20) (oi := ⟨_, _, _, _, _, _⟩) (v := ?vp7t20) rfl (by kernel_rfl) (by kernel_rfl) (by kernel_rfl) (fun _ _ _ h => h) (Or.inl ⟨by rfl, ?yp7t20⟩) (by assumption) ?rp7t20
                case yp7t20 => intro w hSw; (try dsimp only at hSw); go_simp; try with_reducible rfl
                try simp only [Act.put, List.setIfInBounds_toArray, List.set_cons_zero, List.set_cons_succ]
                refine wpAnyH_take (i := 21) (oi := ⟨_, _, _, _, _, _⟩) (v := ?vp7t21) rfl (by kernel_rfl) (by kernel_rfl) (by kernel_rfl) (fun _ _ _ h => h) (Or.inl ⟨by rfl, ?yp7t21⟩) (by assumption) ?rp7t21
                case yp7t21 => intro w hSw; (try dsimp only at hSw); go_simp; try with_reducible rfl
                try simp only [Act.put, List.setIfInBounds_toArray, List.set_cons_zero, List.set_cons_succ]
                refine wpAnyH_take (i := 22) (oi := ⟨_, _, _, _, _, _⟩) (v := ?vp7t22) rfl (by kernel_rfl) (by kernel_rfl) (by kernel_rfl) (fun _ _ _ h => h) (Or.inl ⟨by rfl, ?yp7t22⟩) (by assumption) ?rp7t22
                case yp7t22 => intro w hSw; (try dsimp only at hSw); go_simp; try with_reducible rfl
                try simp only [Act.put, List.setIfInBounds_toArray, List.set_cons_zero, List.set_cons_succ]
                refine wpAnyH_ready (rs := [23]) (by kernel_rfl) (by simp) ?_
                refine AllReadyH.cons (o := ⟨_, _, _, _, _, _⟩) rfl (fun KK hK => ?_) AllReadyH.nil
                go_simp
                refine (within_c _ _ _ _ g6).mono ?_
                rintro e9 w' ⟨rfl, rfl⟩
                go_wp2_with fail
                refine hK.out _ _ kk5 (fun hH23 => ?_)
                clear hK KK hH18
                try simp only [Act.put, List.setIfInBounds_toArray, List.set_cons_zero, List.set_cons_succ]
                refine wpAnyH_take (i := 24) (oi := ⟨_, _, _, _, _, _⟩) (v := ?vp7t24) rfl (by kernel_rfl) (by kernel_rfl) (by kernel_rfl) (fun _ _ _ h => h) (Or.inl ⟨by rfl, ?yp7t24⟩) (by assumption) ?rp7t24
                case yp7t24 => intro w hSw; (try dsimp only at hSw); go_simp; try with_reducible rfl
                try simp only [Act.put, List.setIfInBounds_toArray, List.set_cons_zero, List.set_cons_succ]
                refine wpAnyH_take (i := 25) (oi := ⟨_, _, _, _, _, _⟩) (v := ?vp7t25) rfl (by kernel_rfl) (by kernel_rfl) (by kernel_rfl) (fun _ _ _ h => h) (Or.inl ⟨by rfl, ?yp7t25⟩) (by assumption) ?rp7t25
                case yp7t25 => intro w hSw; (try dsimp only at hSw); go_simp; try with_reducible rfl
                try simp only [Act.put, List.setIfInBounds_toArray, List.set_cons_zero, List.set_cons_succ]
                refine wpAnyH_take (i := 26) (oi := ⟨_, _, _, _, _, _⟩) (v := ?vp7t26) rfl (by kernel_rfl) (by kernel_rfl) (by kernel_rfl) (fun _ _ _ h => h) (Or.inl ⟨by rfl, ?yp7t26⟩) (by assumption) ?rp7t26
                case yp7t26 => intro w hSw; (try dsimp only at hSw); go_simp; try with_reducible rfl
                try simp only [Act.put, List.setIfInBounds_toArray, List.set_cons_zero, List.set_cons_succ]
                refine wpAnyH_take (i := 27) (oi := ⟨_, _, _, _, _, _⟩) (v := ?vp7t27) rfl (by kernel_rfl) (by kernel_rfl) (by kernel_rfl) (fun _ _ _ h => h) (Or.inl ⟨by rfl, ?yp7t27⟩) (by assumption) ?rp7t27
                case yp7t27 => intro w hSw; (try dsimp only at hSw); go_simp; try with_reducible rfl
                try simp only [Act.put, List.setIfInBounds_toArray, List.set_cons_zero, List.set_cons_succ]
                refine wpAnyH_take (i := 28) (oi := ⟨_, _, _, _, _, _⟩) (v := ?vp7t28) rfl (by kernel_rfl) (by kernel_rfl) (by kernel_rfl) (fun _ _ _ h => h) (Or.inl ⟨by rfl, ?yp7t28⟩) (by assumption) ?rp7t28
                case yp7t28 => intro w hSw; (try dsimp only at hSw); go_simp; try with_reducible rfl
                try simp only [Act.put, List.setIfInBounds_toArray, List.set_cons_zero, List.set_cons_succ]
                refine wpAnyH_take (i := 29) (oi := ⟨_, _, _, _, _, _⟩) (v := ?vp7t29) rfl (by kernel_rfl) (by kernel_rfl) (by kernel_rfl) (fun _ _ _ h => h) (Or.inl ⟨by rfl, ?yp7t29⟩) (by assumption) ?rp7t29
                case yp7t29 => intro w hSw; (try dsimp only at hSw); go_simp; try with_reducible rfl
                try simp only [Act.put, List.setIfInBounds_toArray, List.set_cons_zero, List.set_cons_succ]
                refine wpAnyH_ready (rs := [30]) (by kernel_rfl) (by simp) ?_
                refine AllReadyH.cons (o := ⟨_, _, _, _, _, _⟩) rfl (fun KK hK => ?_) AllReadyH.nil
                go_simp
                refine (leaderFor_any p brs _ _ _ _ _ _ _ (h1.below BB5) (hb.below BB5) hl6 hbl HR.out).mono ?_
                rintro r w6 ⟨rfl, hB6⟩
                have kk6 : w6.cell? ⟨w.heap.size, 0, none⟩ = some (.slice r0 p.homes.length k0) ∧ w6.cell? ⟨w.heap.size, 1, none⟩ = some (.slice r1 p.steps.length k1) ∧ w6.cell? ⟨w.heap.size, 2, none⟩ = some (.int .i64 p.leader) ∧ w6.cell? ⟨w.heap.size, 3, none⟩ = some (.int .i64 p.epoch) ∧ w6.cell? ⟨w.heap.size, 4, none⟩ = some (.int .i64 p.stamp) ∧ w6.cell? ⟨w1.heap.size, 0, none⟩ = some (.int .u64 ((n0 : Nat) : Int)) ∧ w6.cell? ⟨w3.heap.size, 0, none⟩ = some (.int .u64 ((n1 : Nat) : Int)) := ⟨celB hB6 kk5.1, celB hB6 kk5.2.1, celB hB6 kk5.2.2.1, celB hB6 kk5.2.2.2.1, celB hB6 kk5.2.2.2.2.1, celB hB6 kk5.2.2.2.2.2.1, celB hB6 kk5.2.2.2.2.2.2⟩
                have BB6 := stCt BB5 hB6
                clear hB6
                rw [HLD.out]
                go_wp2_with fail
                refine hK.out _ _ kk6 (fun hH30 => ?_)
                clear hK KK hH23
                try simp only [Act.put, List.setIfInBounds_toArray, List.set_cons_zero, List.set_cons_succ]
                refine wpAnyH_take (i := 31) (oi := ⟨_, _, _, _, _, _⟩) (v := ?vp7t31) rfl (by kernel_rfl) (by kernel_rfl) (by kernel_rfl) (fun _ _ _ h => h) (Or.inl ⟨by rfl, ?yp7t31⟩) (by assumption) ?rp7t31
                case yp7t31 => intro w hSw; (try dsimp only at hSw); go_simp; try with_reducible rfl
                try simp only [Act.put, List.setIfInBounds_toArray, List.set_cons_zero, List.set_cons_succ]
                refine wpAnyH_take (i := 32) (oi := ⟨_, _, _, _, _, _⟩) (v := ?vp7t32) rfl (by kernel_rfl) (by kernel_rfl) (by kernel_rfl) (fun _ _ _ h => h) (Or.inl ⟨by rfl, ?yp7t32⟩) (by assumption) ?rp7t32
                case yp7t32 => intro w hSw; (try dsimp only at hSw); go_simp; try with_reducible rfl
                try simp only [Act.put, List.setIfInBounds_toArray, List.set_cons_zero, List.set_cons_succ]
                refine wpAnyH_take (i := 33) (oi := ⟨_, _, _, _, _, _⟩) (v := ?vp7t33) rfl (by kernel_rfl) (by kernel_rfl) (by kernel_rfl) (fun _ _ _ h => h) (Or.inl ⟨by rfl, ?yp7t33⟩) (by assumption) ?rp7t33
                case yp7t33 => intro w hSw; (try dsimp only at hSw); go_simp; try with_reducible rfl
                try simp only [Act.put, List.setIfInBounds_toArray, List.set_cons_zero, List.set_cons_succ]
                refine wpAnyH_done (by kernel_rfl) (NoPanic.normal ?_) _
                clear hu4
                go_wp2
                go_ret
                exact ⟨ret_bool HE.out.symm, BB6⟩

theorem goodPartition_any (p : Pn) (brs : List Br) (r0 r1 a2 : Option Addr) (k0 k1 c2 : Nat) (w : World) (h0 : Ints w r0 p.homes) (l0 : p.homes.length ≤ maxLen) (h1 : Ints w r1 p.steps) (l1 : p.steps.length ≤ maxLen) (hb : Brs w a2 brs) (hn : brs.length ≤ 6) :
    Calls Tryd.prog 37 #[pnV p r0 k0 r1 k1, .slice a2 brs.length c2] w fun r w' => r = .returned (.bool (okPn brs p)) ∧ Below w.heap.size w w' := by
  rw [okPn_is]; exact goodPartition0_any p brs r0 r1 a2 k0 k1 c2 w h0 l0 h1 l1 hb hn

set_option maxRecDepth 100000 in
set_option maxHeartbeats 4000000 in
theorem litPn_any (p : Pn) (brs : List Br) (r0 r1 a2 : Option Addr) (k0 k1 c2 Bv : Nat) (w : World) (h0 : Ints w r0 p.homes) (l0 : p.homes.length ≤ maxLen) (h1 : Ints w r1 p.steps) (l1 : p.steps.length ≤ maxLen) (hb : Brs w a2 brs) (hn : brs.length ≤ 6) (cN : w.cell? ⟨Bv, 0, none⟩ = some (.slice a2 brs.length c2)) :
    Calls Tryd.prog 36 #[pnV p r0 k0 r1 k1, .pointer (some ⟨Bv, 0, none⟩)] w fun r w' => r = .returned (.bool (okPn brs p)) ∧ Below w.heap.size w w' := by
  have HB : ∀ o, Below w.heap.size w (w.alloc o) := fun o => alCt w o
  have d3 : ∀ o, (w.alloc o).cell? ⟨Bv, 0, none⟩ = some (.slice a2 brs.length c2) := fun o => celB (HB o) cN
  go_enter Tryd.func36, Tryd.ntmps36
  go_wp2_with fail
  refine (goodPartition_any p brs _ _ _ _ _ _ _ (h0.below (HB _)) l0 (h1.below (HB _)) l1 (hb.below (HB _)) hn).mono ?_
  rintro r w1 ⟨rfl, hB1⟩
  go_wp2
  go_ret
  exact ⟨ret_bool rfl, stCt (HB _) hB1⟩

theorem litPn_c (p : Pn) (brs : List Br) (r0 r1 a2 : Option Addr) (k0 k1 c2 Bv : Nat) (w : World) (h0 : Ints w r0 p.homes) (l0 : p.homes.length ≤ maxLen) (h1 : Ints w r1 p.steps) (l1 : p.steps.length ≤ maxLen) (hb : Brs w a2 brs) (hn : brs.length ≤ 6) (cN : w.cell? ⟨Bv, 0, none⟩ = some (.slice a2 brs.length c2)) (b : Bool) (h : okPn brs p = b) :
    Calls Tryd.prog 36 #[pnV p r0 k0 r1 k1, .pointer (some ⟨Bv, 0, none⟩)] w fun r w' => r = .returned (.bool b) ∧ Below w.heap.size w w' := by
  rw [← h]; exact litPn_any p brs r0 r1 a2 k0 k1 c2 Bv w h0 l0 h1 l1 hb hn cN

abbrev litQ (Bv : Nat) : Value := .func (.func 36) #[] #[.pointer (some ⟨Bv, 0, none⟩)]

set_option maxRecDepth 100000 in
set_option maxHeartbeats 4000000 in
theorem allOfQ_any (brs : List Br) (Bv : Nat) (a a2 : Option Addr) (c c2 : Nat) (l : List Pn) (w : World) (hs : Pns w a l) (hl : l.length ≤ maxLen) (hb : Brs w a2 brs) (hn : brs.length ≤ 6) (cN : w.cell? ⟨Bv, 0, none⟩ = some (.slice a2 brs.length c2)) :
    Calls Tryd.prog 35 #[.slice a l.length c, litQ Bv] w fun r w' => r = .returned (.bool (l.all (okPn brs))) ∧ Below w.heap.size w w' := by
  unfold maxLen at hl
  go_enter Tryd.func35, Tryd.ntmps35
  go_wp2
  go_loopw [9] (fun i wr => ∃ k : Nat, k ≤ l.length ∧ i = .int .i64 k ∧ Hid (allTo (okPn brs) l k) ∧ Below w.heap.size w wr) (fun i _ => l.length - (intOf i).toNat)
  case atStart => exact ⟨0, Nat.zero_le _, rfl, allTo_zero _ _, Below.refl _ _⟩
  case round =>
    obtain ⟨k, hk, rfl, HO, hB⟩ := hrel
    by_cases hlt : k < l.length
    · obtain ⟨x, hkb⟩ := getPn hlt
      obtain ⟨b, off, rfl, r0, k0, r1, k1, c0, c1, c3, c4, c5, z0, m0, z1, m1⟩ := (hs.below hB) k _ hkb
      have dN := celB hB cN
      have hb' := hb.below hB
      have HK : Hid (l[k]? = some x) := hkb
      have hki : (k : Int) < (l.length : Int) := by omega
      clear hkb
      cases g : (okPn brs) x with
      | false =>
        have HE : Hid (l.all (okPn brs) = false) := all_bad HK.out g
        go_wp2_with fail
        refine (litPn_c x brs _ _ _ _ _ _ Bv _ (z0.below (alCt _ _)) m0 (z1.below (alCt _ _)) m1 (hb'.below (alCt _ _)) hn (celB (alCt _ _) dN) _ g).mono ?_
        rintro r w1 ⟨rfl, hB1⟩
        have BB := stCt (stCt hB (alCt _ _)) hB1
        go_wp2
        go_ret
        exact ⟨ret_bool HE.out.symm, BB⟩
      | true =>
        have HN : Hid (allTo (okPn brs) l (k + 1)) := allTo_succ HO.out HK.out g
        go_wp2_with fail
        refine (litPn_c x brs _ _ _ _ _ _ Bv _ (z0.below (alCt _ _)) m0 (z1.below (alCt _ _)) m1 (hb'.below (alCt _ _)) hn (celB (alCt _ _) dN) _ g).mono ?_
        rintro r w1 ⟨rfl, hB1⟩
        have BB := stCt (stCt hB (alCt _ _)) hB1
        go_wp2
        go_roundw
        case rel => exact ⟨k + 1, by omega, by go_num, HN.out, BB⟩
        case measure => simp [intOf]; omega
    · obtain rfl : k = l.length := by omega
      have HE : Hid (l.all (okPn brs) = true) := all_done HO.out
      go_wp2
      go_ret
      exact ⟨ret_bool HE.out.symm, hB⟩

theorem allOfQ_c (brs : List Br) (Bv : Nat) (a a2 : Option Addr) (c c2 : Nat) (l : List Pn) (w : World) (hs : Pns w a l) (hl : l.length ≤ maxLen) (hb : Brs w a2 brs) (hn : brs.length ≤ 6) (cN : w.cell? ⟨Bv, 0, none⟩ = some (.slice a2 brs.length c2)) (b : Bool) (h : l.all (okPn brs) = b) :
    Calls Tryd.prog 35 #[.slice a l.length c, litQ Bv] w fun r w' => r = .returned (.bool b) ∧ Below w.heap.size w w' := by
  rw [← h]; exact allOfQ_any brs Bv a a2 c c2 l w hs hl hb hn cN

set_option maxRecDepth 100000 in
set_option maxHeartbeats 16000000 in
theorem implGoodCt0_any (s : Ct) (a0 a1 : Option Addr) (c0 c1 : Nat) (w : World) (hs : CtR w s a0 a1) (hl : CtL s) :
    Calls Tryd.prog 18 #[ctV s a0 c0 a1 c1] w fun r w' => r = .returned (.bool (goodCt s)) ∧ Below w.heap.size w w' := by
  have HB : ∀ o, Below w.heap.size w (w.alloc o) := fun o => alCt w o
  have hl0 := hl.brks
  have hl1 := hl.parts
  unfold maxLen at hl0 hl1
  cases g1 : inB s.brks.length 1 6 with
  | false =>
    have HE : Hid (goodCt s = false) := by show _ = _; rw [goodCt_is, g1]; simp
    rw [HE.out]
    go_enter Tryd.func18, Tryd.ntmps18
    go_wp2_with (first | (go_at_call 31; refine (oneUpTo_c _ _ _ _ (by first | exact g1 | exact g3)).mono ?_; rintro e w' ⟨rfl, hw⟩; rw [hw]; clear hw w') | (go_at_call 32; refine (allOfB_c s.next w.heap.size _ _ _ _ (hs.brks.below (HB _)) hl.brks hx (by simp [go_sem]) _ g4).mono ?_; rintro r w1 ⟨rfl, hB1⟩; have BB := stCt (HB _) hB1; have q0 : w1.cell? ⟨w.heap.size, 0, none⟩ = some (.slice a0 s.brks.length c0) := celB hB1 (by simp [go_sem]); have q1 : w1.cell? ⟨w.heap.size, 1, none⟩ = some (.slice a1 s.parts.length c1) := celB hB1 (by simp [go_sem]); have q2 : w1.cell? ⟨w.heap.size, 2, none⟩ = some (.int .i64 s.next) := celB hB1 (by simp [go_sem]); clear hB1) | (go_at_call 35; refine (allOfQ_c s.brks w.heap.size _ _ _ _ _ _ (hs.parts.below BB) hl.parts (hs.brks.below BB) hn q0 _ g5).mono ?_; rintro r w2 ⟨rfl, hB2⟩; have BC := stCt BB hB2))
    go_ret
    exact ⟨ret_bool rfl, by first | exact BC | exact BB | exact HB _⟩
  | true =>
    cases g2 : decide (s.parts.length ≤ 5) with
    | false =>
      have HE : Hid (goodCt s = false) := by show _ = _; rw [goodCt_is, g1, g2]; simp
      have hn : s.brks.length ≤ 6 := by have := inB_t.1 g1; omega
      have g2' : (5 : Int) < (s.parts.length : Int) := by have := of_decide_eq_false g2; omega
      clear g2
      rw [HE.out]
      go_enter Tryd.func18, Tryd.ntmps18
      go_wp2_with (first | (go_at_call 31; refine (oneUpTo_c _ _ _ _ (by first | exact g1 | exact g3)).mono ?_; rintro e w' ⟨rfl, hw⟩; rw [hw]; clear hw w') | (go_at_call 32; refine (allOfB_c s.next w.heap.size _ _ _ _ (hs.brks.below (HB _)) hl.brks hx (by simp [go_sem]) _ g4).mono ?_; rintro r w1 ⟨rfl, hB1⟩; have BB := stCt (HB _) hB1; have q0 : w1.cell? ⟨w.heap.size, 0, none⟩ = some (.slice a0 s.brks.length c0) := celB hB1 (by simp [go_sem]); have q1 : w1.cell? ⟨w.heap.size, 1, none⟩ = some (.slice a1 s.parts.length c1) := celB hB1 (by simp [go_sem]); have q2 : w1.cell? ⟨w.heap.size, 2, none⟩ = some (.int .i64 s.next) := celB hB1 (by simp [go_sem]); clear hB1) | (go_at_call 35; refine (allOfQ_c s.brks w.heap.size _ _ _ _ _ _ (hs.parts.below BB) hl.parts (hs.brks.below BB) hn q0 _ g5).mono ?_; rintro r w2 ⟨rfl, hB2⟩; have BC := stCt BB hB2))
      go_ret
      exact ⟨ret_bool rfl, by first | exact BC | exact BB | exact HB _⟩
    | true =>
      cases g3 : inB s.next 1 1000 with
      | false =>
        have HE : Hid (goodCt s = false) := by show _ = _; rw [goodCt_is, g1, g2, g3]; simp
        have hn : s.brks.length ≤ 6 := by have := inB_t.1 g1; omega
        have g2' : (s.parts.length : Int) ≤ 5 := by have := of_decide_eq_true g2; omega
        clear g2
        rw [HE.out]
        go_enter Tryd.func18, Tryd.ntmps18
        go_wp2_with (first | (go_at_call 31; refine (oneUpTo_c _ _ _ _ (by first | exact g1 | exact g3)).mono ?_; rintro e w' ⟨rfl, hw⟩; rw [hw]; clear hw w') | (go_at_call 32; refine (allOfB_c s.next w.heap.size _ _ _ _ (hs.brks.below (HB _)) hl.brks hx (by simp [go_sem]) _ g4).mono ?_; rintro r w1 ⟨rfl, hB1⟩; have BB := stCt (HB _) hB1; have q0 : w1.cell? ⟨w.heap.size, 0, none⟩ = some (.slice a0 s.brks.length c0) := celB hB1 (by simp [go_sem]); have q1 : w1.cell? ⟨w.heap.size, 1, none⟩ = some (.slice a1 s.parts.length c1) := celB hB1 (by simp [go_sem]); have q2 : w1.cell? ⟨w.heap.size, 2, none⟩ = some (.int .i64 s.next) := celB hB1 (by simp [go_sem]); clear hB1) | (go_at_call 35; refine (allOfQ_c s.brks w.heap.size _ _ _ _ _ _ (hs.parts.below BB) hl.parts (hs.brks.below BB) hn q0 _ g5).mono ?_; rintro r w2 ⟨rfl, hB2⟩; have BC := stCt BB hB2))
        go_ret
        exact ⟨ret_bool rfl, by first | exact BC | exact BB | exact HB _⟩
      | true =>
        cases g4 : s.brks.all (okBr s.next) with
        | false =>
          have HE : Hid (goodCt s = false) := by show _ = _; rw [goodCt_is, g1, g2, g3, g4]; simp
          have hn : s.brks.length ≤ 6 := by have := inB_t.1 g1; omega
          have g2' : (s.parts.length : Int) ≤ 5 := by have := of_decide_eq_true g2; omega
          clear g2
          have hx := inB_t.1 g3
          rw [HE.out]
          go_enter Tryd.func18, Tryd.ntmps18
          go_wp2_with (first | (go_at_call 31; refine (oneUpTo_c _ _ _ _ (by first | exact g1 | exact g3)).mono ?_; rintro e w' ⟨rfl, hw⟩; rw [hw]; clear hw w') | (go_at_call 32; refine (allOfB_c s.next w.heap.size _ _ _ _ (hs.brks.below (HB _)) hl.brks hx (by simp [go_sem]) _ g4).mono ?_; rintro r w1 ⟨rfl, hB1⟩; have BB := stCt (HB _) hB1; have q0 : w1.cell? ⟨w.heap.size, 0, none⟩ = some (.slice a0 s.brks.length c0) := celB hB1 (by simp [go_sem]); have q1 : w1.cell? ⟨w.heap.size, 1, none⟩ = some (.slice a1 s.parts.length c1) := celB hB1 (by simp [go_sem]); have q2 : w1.cell? ⟨w.heap.size, 2, none⟩ = some (.int .i64 s.next) := celB hB1 (by simp [go_sem]); clear hB1) | (go_at_call 35; refine (allOfQ_c s.brks w.heap.size _ _ _ _ _ _ (hs.parts.below BB) hl.parts (hs.brks.below BB) hn q0 _ g5).mono ?_; rintro r w2 ⟨rfl, hB2⟩; have BC := stCt BB hB2))
          go_ret
          exact ⟨ret_bool rfl, by first | exact BC | exact BB | exact HB _⟩
        | true =>
          cases g5 : s.parts.all (okPn s.brks) with
          | false =>
            have HE : Hid (goodCt s = false) := by show _ = _; rw [goodCt_is, g1, g2, g3, g4, g5]; simp
            have hn : s.brks.length ≤ 6 := by have := inB_t.1 g1; omega
            have g2' : (s.parts.length : Int) ≤ 5 := by have := of_decide_eq_true g2; omega
            clear g2
            have hx := inB_t.1 g3
            rw [HE.out]
            go_enter Tryd.func18, Tryd.ntmps18
            go_wp2_with (first | (go_at_call 31; refine (oneUpTo_c _ _ _ _ (by first | exact g1 | exact g3)).mono ?_; rintro e w' ⟨rfl, hw⟩; rw [hw]; clear hw w') | (go_at_call 32; refine (allOfB_c s.next w.heap.size _ _ _ _ (hs.brks.below (HB _)) hl.brks hx (by simp [go_sem]) _ g4).mono ?_; rintro r w1 ⟨rfl, hB1⟩; have BB := stCt (HB _) hB1; have q0 : w1.cell? ⟨w.heap.size, 0, none⟩ = some (.slice a0 s.brks.length c0) := celB hB1 (by simp [go_sem]); have q1 : w1.cell? ⟨w.heap.size, 1, none⟩ = some (.slice a1 s.parts.length c1) := celB hB1 (by simp [go_sem]); have q2 : w1.cell? ⟨w.heap.size, 2, none⟩ = some (.int .i64 s.next) := celB hB1 (by simp [go_sem]); clear hB1) | (go_at_call 35; refine (allOfQ_c s.brks w.heap.size _ _ _ _ _ _ (hs.parts.below BB) hl.parts (hs.brks.below BB) hn q0 _ g5).mono ?_; rintro r w2 ⟨rfl, hB2⟩; have BC := stCt BB hB2))
            go_ret
            exact ⟨ret_bool rfl, by first | exact BC | exact BB | exact HB _⟩
          | true =>
            have HE : Hid (goodCt s = true) := by show _ = _; rw [goodCt_is, g1, g2, g3, g4, g5]; simp
            have hn : s.brks.length ≤ 6 := by have := inB_t.1 g1; omega
            have g2' : (s.parts.length : Int) ≤ 5 := by have := of_decide_eq_true g2; omega
            clear g2
            have hx := inB_t.1 g3
            rw [HE.out]
            go_enter Tryd.func18, Tryd.ntmps18
            go_wp2_with (first | (go_at_call 31; refine (oneUpTo_c _ _ _ _ (by first | exact g1 | exact g3)).mono ?_; rintro e w' ⟨rfl, hw⟩; rw [hw]; clear hw w') | (go_at_call 32; refine (allOfB_c s.next w.heap.size _ _ _ _ (hs.brks.below (HB _)) hl.brks hx (by simp [go_sem]) _ g4).mono ?_; rintro r w1 ⟨rfl, hB1⟩; have BB := stCt (HB _) hB1; have q0 : w1.cell? ⟨w.heap.size, 0, none⟩ = some (.slice a0 s.brks.length c0) := celB hB1 (by simp [go_sem]); have q1 : w1.cell? ⟨w.heap.size, 1, none⟩ = some (.slice a1 s.parts.length c1) := celB hB1 (by simp [go_sem]); have q2 : w1.cell? ⟨w.heap.size, 2, none⟩ = some (.int .i64 s.next) := celB hB1 (by simp [go_sem]); clear hB1) | (go_at_call 35; refine (allOfQ_c s.brks w.heap.size _ _ _ _ _ _ (hs.parts.below BB) hl.parts (hs.brks.below BB) hn q0 _ g5).mono ?_; rintro r w2 ⟨rfl, hB2⟩; have BC := stCt BB hB2))
            go_ret
            exact ⟨ret_bool rfl, by first | exact BC | exact BB | exact HB _⟩

theorem implGoodCt_c (s : Ct) (a0 a1 : Option Addr) (c0 c1 : Nat) (w : World) (hs : CtR w s a0 a1) (hl : CtL s) (b : Bool) (h : goodCt s = b) :
    Calls Tryd.prog 18 #[ctV s a0 c0 a1 c1] w fun r w' => r = .returned (.bool b) ∧ Below w.heap.size w w' := by
  rw [← h]; exact implGoodCt0_any s a0 a1 c0 c1 w hs hl

theorem implGoodCt_any (s : Ct) (a0 a1 : Option Addr) (c0 c1 : Nat) (w : World) (hs : CtR w s a0 a1) (hb : CtB s) :
    Calls Tryd.prog 18 #[ctV s a0 c0 a1 c1] w fun e w' => e = .returned (.bool (goodCt s)) ∧ Below w.heap.size w w' := implGoodCt0_any s a0 a1 c0 c1 w hs hb.len

end Go.Proofs.YtfehndedkffpfaaDoor
