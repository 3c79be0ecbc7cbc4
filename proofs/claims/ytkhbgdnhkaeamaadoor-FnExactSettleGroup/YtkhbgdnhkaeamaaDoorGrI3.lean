/-
  Groups, the program's side: what those in step share, and impl.GoodGroup. Made by mkgri.py.
-/
import Derived.Test.YtkhbgdnhkaeamaaDoorGrI2rJ
import Derived.Test.YtkhbgdnhkaeamaaDoorQImpl
namespace Go.Proofs.YtkhbgdnhkaeamaaDoor
open Go.RowKit

theorem leadL_of {s : Gr} {f : Nat} {lg : List Rw} (hf : s.leader = f) (hlg : (rpA s.reps f).log = lg) : leadL s = lg := by unfold leadL; rw [hf, Int.toNat_natCast, hlg]
theorem hiB_of {s : Gr} {lg : List Rw} {m n : Nat} {p : Rp} (hL : leadL s = lg) (hp : rpA s.reps m = p) (hn : sameN lg p.log = n) : hiB s m = inB s.high 0 n := by unfold hiB; rw [hL, Int.toNat_natCast, hp, hn]
theorem only_z (z : Int) (m : Nat) (hm : m < 7) (h : z = m) (w : World) : Calls Tryd.prog 59 #[.int .i64 z] w fun r w' => r = .returned (setV (2 ^ m)) ∧ Below w.heap.size w w' := by
  subst h; exact only_any m hm w
theorem meets_c (x y : Nat) (hx : x < 128) (hy : y < 128) (b : Bool) (w : World) (h : (x &&& y != 0) = b) :
    Calls Tryd.prog 73 #[setV x, setV y] w fun r w' => r = .returned (.bool b) ∧ Below w.heap.size w w' := by
  rw [← h]; exact meets_any x y hx hy w
theorem setFrom_c (a : Option Addr) (c : Nat) (zs : List Int) (many : Int) (b : Bool) (w : World) (hs : Ints w a zs) (hl : zs.length ≤ maxLen) (hm : many ≤ 7) (h : riseB zs many = b) :
    Calls Tryd.prog 72 #[.slice a zs.length c, .int .i64 many] w fun r w' => r = .returned (.tuple #[setV (setR zs many), .bool b]) ∧ Below w.heap.size w w' := by
  rw [← h]; exact setFrom_any a c zs many w hs hl hm
theorem mem7_one : ∀ f, f < 7 → mem7 (2 ^ f) = [f] := by decide +kernel
theorem meets_has {zs : List Int} {many : Int} {f : Nat} (hm : many ≤ 7) (h : riseB zs many = true) (hf : f < 7) : (setR zs many &&& 2 ^ f != 0) = zs.contains (f : Int) := by
  rw [setR_t h, Bool.eq_iff_iff, bne_iff_ne, and_ne_zero (mem7_msk hm h).2, List.contains_iff_mem]
  constructor
  · rintro ⟨i, h1, h2⟩
    rw [mem7_one f hf, List.mem_singleton] at h2
    subst h2
    exact (mem_msk hm h).1 h1
  · intro h1
    exact ⟨f, (mem_msk hm h).2 h1, by rw [mem7_one f hf]; simp⟩
theorem setR_lt {zs : List Int} {many : Int} (hm : many ≤ 7) : setR zs many < 128 := by
  cases h : riseB zs many with
  | false => rw [setR_f h]; omega
  | true => rw [setR_t h]; exact (mem7_msk hm h).2

set_option maxRecDepth 100000 in
set_option maxHeartbeats 4000000 in
theorem goodHigh_any (s : Gr) (f : Nat) (lg : List Rw) (a0 a1 : Option Addr) (c0 c1 : Nat) (w : World) (hs : GrR w s a0 a1) (hl : GrL s) (hf0 : s.leader = f) (hfn : f < s.reps.length) (hn : s.reps.length ≤ 1000000) (hlg0 : (rpA s.reps f).log = lg) (hr : ∀ z ∈ s.steps, 0 ≤ z ∧ z < s.reps.length) :
    Calls Tryd.prog 74 #[grV s a0 c0 a1 c1] w fun r w' => r = .returned (.bool (s.steps.all (hiB s))) ∧ Below w.heap.size w w' := by
  obtain ⟨u0, hu0⟩ : ∃ u, (w.alloc (.cells #[.int .i64 s.epoch, .int .i64 s.leader, .slice a0 s.steps.length c0, .int .i64 s.high, .slice a1 s.reps.length c1] 25)) = u := ⟨_, rfl⟩
  have kk : u0.cell? ⟨w.heap.size, 0, none⟩ = some (.int .i64 s.epoch) ∧ u0.cell? ⟨w.heap.size, 1, none⟩ = some (.int .i64 s.leader) ∧ u0.cell? ⟨w.heap.size, 2, none⟩ = some (.slice a0 s.steps.length c0) ∧ u0.cell? ⟨w.heap.size, 3, none⟩ = some (.int .i64 s.high) ∧ u0.cell? ⟨w.heap.size, 4, none⟩ = some (.slice a1 s.reps.length c1) := by rw [← hu0]; simp [go_sem]
  have bB : Below w.heap.size w u0 := by rw [← hu0]; exact alGr _ _
  have HF : Hid (s.leader = f) := hf0
  have HL : Hid ((rpA s.reps f).log = lg) := hlg0
  have HLL : Hid (leadL s = lg) := leadL_of hf0 hlg0
  clear hf0 hlg0
  obtain ⟨p0, p1, p2, p3, p4⟩ := kk
  have hls := hl.steps
  unfold maxLen at hls
  go_enter Tryd.func74, Tryd.ntmps74
  go_wp2
  try rw [hu0]
  clear hu0
  go_loopw [9] (fun i wr => ∃ k : Nat, k ≤ s.steps.length ∧ i = .int .i64 k ∧ Hid (allTo (hiB s) s.steps k) ∧ Below u0.heap.size u0 wr) (fun i _ => s.steps.length - (intOf i).toNat)
  case atStart => exact ⟨0, Nat.zero_le _, rfl, allTo_zero _ _, Below.refl _ _⟩
  case round =>
    obtain ⟨k, hk, rfl, HO, hB⟩ := hrel
    by_cases hlt : k < s.steps.length
    · have hkz := zA_get hlt
      obtain ⟨b, off, e5, c5⟩ := ((hs.below bB).steps.below hB) k _ hkz
      subst e5
      obtain ⟨z, hz⟩ : ∃ z, zA s.steps k = z := ⟨_, rfl⟩
      rw [hz] at c5 hkz
      have hzr := hr z (List.mem_of_getElem? hkz)
      obtain ⟨m, rfl⟩ : ∃ m : Nat, z = m := ⟨z.toNat, by omega⟩
      have hmn : m < s.reps.length := by omega
      have HK : Hid (s.steps[k]? = some (m : Int)) := hkz
      obtain ⟨p, hp⟩ : ∃ p, rpA s.reps m = p := ⟨_, rfl⟩
      obtain ⟨n, hsn⟩ : ∃ n, sameN lg p.log = n := ⟨_, rfl⟩
      have HP : Hid (rpA s.reps m = p) := hp
      have HI : Hid (hiB s m = inB s.high 0 n) := hiB_of HLL.out hp hsn
      have q0 := celB hB p0
      have q1 := celB hB p1
      have q2 := celB hB p2
      have q3 := celB hB p3
      have q4 := celB hB p4
      have hki : (k : Int) < (s.steps.length : Int) := by omega
      have bW := stGr bB hB
      clear hz hkz hzr hp hr
      cases g : inB s.high 0 n with
      | false =>
        have HE : Hid (s.steps.all (hiB s) = false) := all_bad HK.out (by rw [HI.out, g])
        go_wp2_with fail
        refine (replicaOf_any s f m lg p _ _ _ _ _ (hs.below (stGr bB hB)) HF.out hfn hmn hn HL.out HP.out).mono ?_
        rintro r w1 ⟨rb, kb, r0, k0, rfl, zb, mb, z0, m0, hB1⟩
        obtain ⟨u2, hu2⟩ : ∃ u, (w1.alloc (.cells #[.int .i64 s.epoch, .slice rb lg.length kb, .slice r0 p.log.length k0, .int .i64 p.epoch, .int .i64 p.known] 103)) = u := ⟨_, rfl⟩
        have BU : Below wr.heap.size wr u2.drew := by rw [← hu2]; exact (stGr hB1 (alGr _ _)).drew
        have q3' : u2.drew.cell? ⟨w.heap.size, 3, none⟩ = some (.int .i64 s.high) := celB BU q3
        have kk2 : u2.drew.cell? ⟨w.heap.size, 3, none⟩ = some (.int .i64 s.high) ∧ u2.drew.cell? ⟨w1.heap.size, 0, none⟩ = some (.int .i64 s.epoch) ∧ u2.drew.cell? ⟨w1.heap.size, 1, none⟩ = some (.slice rb lg.length kb) ∧ u2.drew.cell? ⟨w1.heap.size, 2, none⟩ = some (.slice r0 p.log.length k0) ∧ u2.drew.cell? ⟨w1.heap.size, 3, none⟩ = some (.int .i64 p.epoch) ∧ u2.drew.cell? ⟨w1.heap.size, 4, none⟩ = some (.int .i64 p.known) := ⟨q3', by rw [← hu2]; simp [go_sem], by rw [← hu2]; simp [go_sem], by rw [← hu2]; simp [go_sem], by rw [← hu2]; simp [go_sem], by rw [← hu2]; simp [go_sem]⟩
        go_wp2_with fail
        try rw [hu2]
        refine wp_region_noPanic ?_
        refine wp_region_held_drew (S := fun w' => w'.cell? ⟨w.heap.size, 3, none⟩ = some (.int .i64 s.high) ∧ w'.cell? ⟨w1.heap.size, 0, none⟩ = some (.int .i64 s.epoch) ∧ w'.cell? ⟨w1.heap.size, 1, none⟩ = some (.slice rb lg.length kb) ∧ w'.cell? ⟨w1.heap.size, 2, none⟩ = some (.slice r0 p.log.length k0) ∧ w'.cell? ⟨w1.heap.size, 3, none⟩ = some (.int .i64 p.epoch) ∧ w'.cell? ⟨w1.heap.size, 4, none⟩ = some (.int .i64 p.known)) (by kernel_rfl) kk2 (fun hH => ?_)
        refine wpAnyH_take (i := 0) (oi := ⟨_, _, _, _, _, _⟩) (v := ?vhf0) rfl (by kernel_rfl) (by kernel_rfl) (by kernel_rfl) (fun _ _ _ h => h) (Or.inl ⟨by rfl, ?yhf0⟩) (by assumption) ?rhf0
        case yhf0 => intro w hSw; (try dsimp only at hSw); go_simp; try with_reducible rfl
        try simp only [Act.put, List.setIfInBounds_toArray, List.set_cons_zero, List.set_cons_succ]
        refine wpAnyH_take (i := 1) (oi := ⟨_, _, _, _, _, _⟩) (v := ?vhf1) rfl (by kernel_rfl) (by kernel_rfl) (by kernel_rfl) (fun _ _ _ h => h) (Or.inl ⟨by rfl, ?yhf1⟩) (by assumption) ?rhf1
        case yhf1 => intro w hSw; (try dsimp only at hSw); go_simp; try with_reducible rfl
        try simp only [Act.put, List.setIfInBounds_toArray, List.set_cons_zero, List.set_cons_succ]
        refine wpAnyH_take (i := 2) (oi := ⟨_, _, _, _, _, _⟩) (v := ?vhf2) rfl (by kernel_rfl) (by kernel_rfl) (by kernel_rfl) (fun _ _ _ h => h) (Or.inl ⟨by rfl, ?yhf2⟩) (by assumption) ?rhf2
        case yhf2 => intro w hSw; (try dsimp only at hSw); go_simp; try with_reducible rfl
        try simp only [Act.put, List.setIfInBounds_toArray, List.set_cons_zero, List.set_cons_succ]
        refine wpAnyH_take (i := 3) (oi := ⟨_, _, _, _, _, _⟩) (v := ?vhf3) rfl (by kernel_rfl) (by kernel_rfl) (by kernel_rfl) (fun _ _ _ h => h) (Or.inl ⟨by rfl, ?yhf3⟩) (by assumption) ?rhf3
        case yhf3 => intro w hSw; (try dsimp only at hSw); go_simp; try with_reducible rfl
        try simp only [Act.put, List.setIfInBounds_toArray, List.set_cons_zero, List.set_cons_succ]
        refine wpAnyH_take (i := 4) (oi := ⟨_, _, _, _, _, _⟩) (v := ?vhf4) rfl (by kernel_rfl) (by kernel_rfl) (by kernel_rfl) (fun _ _ _ h => h) (Or.inl ⟨by rfl, ?yhf4⟩) (by assumption) ?rhf4
        case yhf4 => intro w hSw; (try dsimp only at hSw); go_simp; try with_reducible rfl
        try simp only [Act.put, List.setIfInBounds_toArray, List.set_cons_zero, List.set_cons_succ]
        refine wpAnyH_take (i := 5) (oi := ⟨_, _, _, _, _, _⟩) (v := ?vhf5) rfl (by kernel_rfl) (by kernel_rfl) (by kernel_rfl) (fun _ _ _ h => h) (Or.inl ⟨by rfl, ?yhf5⟩) (by assumption) ?rhf5
        case yhf5 => intro w hSw; (try dsimp only at hSw); go_simp; try with_reducible rfl
        try simp only [Act.put, List.setIfInBounds_toArray, List.set_cons_zero, List.set_cons_succ]
        refine wpAnyH_take (i := 6) (oi := ⟨_, _, _, _, _, _⟩) (v := ?vhf6) rfl (by kernel_rfl) (by kernel_rfl) (by kernel_rfl) (fun _ _ _ h => h) (Or.inl ⟨by rfl, ?yhf6⟩) (by assumption) ?rhf6
        case yhf6 => intro w hSw; (try dsimp only at hSw); go_simp; try with_reducible rfl
        try simp only [Act.put, List.setIfInBounds_toArray, List.set_cons_zero, List.set_cons_succ]
        refine wpAnyH_ready (rs := [7]) (by kernel_rfl) (by simp) ?_
        refine AllReadyH.cons (o := ⟨_, _, _, _, _, _⟩) rfl (fun KK hK => ?_) AllReadyH.nil
        go_simp
        refine (shared_any s.epoch lg p.log _ _ _ _ n _ (zb.below BU) (z0.below BU) mb hsn).mono ?_
        rintro r w3 ⟨rfl, hB3⟩
        have kk3 : w3.cell? ⟨w.heap.size, 3, none⟩ = some (.int .i64 s.high) ∧ w3.cell? ⟨w1.heap.size, 0, none⟩ = some (.int .i64 s.epoch) ∧ w3.cell? ⟨w1.heap.size, 1, none⟩ = some (.slice rb lg.length kb) ∧ w3.cell? ⟨w1.heap.size, 2, none⟩ = some (.slice r0 p.log.length k0) ∧ w3.cell? ⟨w1.heap.size, 3, none⟩ = some (.int .i64 p.epoch) ∧ w3.cell? ⟨w1.heap.size, 4, none⟩ = some (.int .i64 p.known) := ⟨celB hB3 kk2.1, celB hB3 kk2.2.1, celB hB3 kk2.2.2.1, celB hB3 kk2.2.2.2.1, celB hB3 kk2.2.2.2.2.1, celB hB3 kk2.2.2.2.2.2⟩
        have BV := stGr BU hB3
        clear hB3
        go_wp2_with fail
        refine hK.out _ _ kk3 (fun hH7 => ?_)
        clear hK KK hH
        try simp only [Act.put, List.setIfInBounds_toArray, List.set_cons_zero, List.set_cons_succ]
        refine wpAnyH_ready (rs := [8]) (by kernel_rfl) (by simp) ?_
        refine AllReadyH.cons (o := ⟨_, _, _, _, _, _⟩) rfl (fun KK hK => ?_) AllReadyH.nil
        go_simp
        refine (within_c _ _ _ _ g).mono ?_
        rintro e w' ⟨rfl, rfl⟩
        go_wp2_with fail
        refine hK.out _ _ kk3 (fun hH8 => ?_)
        clear hK KK hH7
        try simp only [Act.put, List.setIfInBounds_toArray, List.set_cons_zero, List.set_cons_succ]
        refine wpAnyH_take (i := 9) (oi := ⟨_, _, _, _, _, _⟩) (v := ?vhf9) rfl (by kernel_rfl) (by kernel_rfl) (by kernel_rfl) (fun _ _ _ h => h) (Or.inl ⟨by rfl, ?yhf9⟩) (by assumption) ?rhf9
        case yhf9 => intro w hSw; (try dsimp only at hSw); go_simp; try with_reducible rfl
        try simp only [Act.put, List.setIfInBounds_toArray, List.set_cons_zero, List.set_cons_succ]
        refine wpAnyH_done (by kernel_rfl) (NoPanic.normal ?_) _
        have BW := stGr hB BV
        clear BV BU kk2 kk3 hu2 zb z0 mb m0 hB1 q3' bW
        go_wp2
        go_ret
        exact ⟨ret_bool HE.out.symm, stGr bB BW⟩
      | true =>
        have HN : Hid (allTo (hiB s) s.steps (k + 1)) := allTo_succ HO.out HK.out (by rw [HI.out, g])
        go_wp2_with fail
        refine (replicaOf_any s f m lg p _ _ _ _ _ (hs.below (stGr bB hB)) HF.out hfn hmn hn HL.out HP.out).mono ?_
        rintro r w1 ⟨rb, kb, r0, k0, rfl, zb, mb, z0, m0, hB1⟩
        obtain ⟨u2, hu2⟩ : ∃ u, (w1.alloc (.cells #[.int .i64 s.epoch, .slice rb lg.length kb, .slice r0 p.log.length k0, .int .i64 p.epoch, .int .i64 p.known] 103)) = u := ⟨_, rfl⟩
        have BU : Below wr.heap.size wr u2.drew := by rw [← hu2]; exact (stGr hB1 (alGr _ _)).drew
        have q3' : u2.drew.cell? ⟨w.heap.size, 3, none⟩ = some (.int .i64 s.high) := celB BU q3
        have kk2 : u2.drew.cell? ⟨w.heap.size, 3, none⟩ = some (.int .i64 s.high) ∧ u2.drew.cell? ⟨w1.heap.size, 0, none⟩ = some (.int .i64 s.epoch) ∧ u2.drew.cell? ⟨w1.heap.size, 1, none⟩ = some (.slice rb lg.length kb) ∧ u2.drew.cell? ⟨w1.heap.size, 2, none⟩ = some (.slice r0 p.log.length k0) ∧ u2.drew.cell? ⟨w1.heap.size, 3, none⟩ = some (.int .i64 p.epoch) ∧ u2.drew.cell? ⟨w1.heap.size, 4, none⟩ = some (.int .i64 p.known) := ⟨q3', by rw [← hu2]; simp [go_sem], by rw [← hu2]; simp [go_sem], by rw [← hu2]; simp [go_sem], by rw [← hu2]; simp [go_sem], by rw [← hu2]; simp [go_sem]⟩
        go_wp2_with fail
        try rw [hu2]
        refine wp_region_noPanic ?_
        refine wp_region_held_drew (S := fun w' => w'.cell? ⟨w.heap.size, 3, none⟩ = some (.int .i64 s.high) ∧ w'.cell? ⟨w1.heap.size, 0, none⟩ = some (.int .i64 s.epoch) ∧ w'.cell? ⟨w1.heap.size, 1, none⟩ = some (.slice rb lg.length kb) ∧ w'.cell? ⟨w1.heap.size, 2, none⟩ = some (.slice r0 p.log.length k0) ∧ w'.cell? ⟨w1.heap.size, 3, none⟩ = some (.int .i64 p.epoch) ∧ w'.cell? ⟨w1.heap.size, 4, none⟩ = some (.int .i64 p.known)) (by kernel_rfl) kk2 (fun hH => ?_)
        refine wpAnyH_take (i := 0) (oi := ⟨_, _, _, _, _, _⟩) (v := ?vht0) rfl (by kernel_rfl) (by kernel_rfl) (by kernel_rfl) (fun _ _ _ h => h) (Or.inl ⟨by rfl, ?yht0⟩) (by assumption) ?rht0
        case yht0 => intro w hSw; (try dsimp only at hSw); go_simp; try with_reducible rfl
        try simp only [Act.put, List.setIfInBounds_toArray, List.set_cons_zero, List.set_cons_succ]
        refine wpAnyH_take (i := 1) (oi := ⟨_, _, _, _, _, _⟩) (v := ?vht1) rfl (by kernel_rfl) (by kernel_rfl) (by kernel_rfl) (fun _ _ _ h => h) (Or.inl ⟨by rfl, ?yht1⟩) (by assumption) ?rht1
        case yht1 => intro w hSw; (try dsimp only at hSw); go_simp; try with_reducible rfl
        try simp only [Act.put, List.setIfInBounds_toArray, List.set_cons_zero, List.set_cons_succ]
        refine wpAnyH_take (i := 2) (oi := ⟨_, _, _, _, _, _⟩) (v := ?vht2) rfl (by kernel_rfl) (by kernel_rfl) (by kernel_rfl) (fun _ _ _ h => h) (Or.inl ⟨by rfl, ?yht2⟩) (by assumption) ?rht2
        case yht2 => intro w hSw; (try dsimp only at hSw); go_simp; try with_reducible rfl
        try simp only [Act.put, List.setIfInBounds_toArray, List.set_cons_zero, List.set_cons_succ]
        refine wpAnyH_take (i := 3) (oi := ⟨_, _, _, _, _, _⟩) (v := ?vht3) rfl (by kernel_rfl) (by kernel_rfl) (by kernel_rfl) (fun _ _ _ h => h) (Or.inl ⟨by rfl, ?yht3⟩) (by assumption) ?rht3
        case yht3 => intro w hSw; (try dsimp only at hSw); go_simp; try with_reducible rfl
        try simp only [Act.put, List.setIfInBounds_toArray, List.set_cons_zero, List.set_cons_succ]
        refine wpAnyH_take (i := 4) (oi := ⟨_, _, _, _, _, _⟩) (v := ?vht4) rfl (by kernel_rfl) (by kernel_rfl) (by kernel_rfl) (fun _ _ _ h => h) (Or.inl ⟨by rfl, ?yht4⟩) (by assumption) ?rht4
        case yht4 => intro w hSw; (try dsimp only at hSw); go_simp; try with_reducible rfl
        try simp only [Act.put, List.setIfInBounds_toArray, List.set_cons_zero, List.set_cons_succ]
        refine wpAnyH_take (i := 5) (oi := ⟨_, _, _, _, _, _⟩) (v := ?vht5) rfl (by kernel_rfl) (by kernel_rfl) (by kernel_rfl) (fun _ _ _ h => h) (Or.inl ⟨by rfl, ?yht5⟩) (by assumption) ?rht5
        case yht5 => intro w hSw; (try dsimp only at hSw); go_simp; try with_reducible rfl
        try simp only [Act.put, List.setIfInBounds_toArray, List.set_cons_zero, List.set_cons_succ]
        refine wpAnyH_take (i := 6) (oi := ⟨_, _, _, _, _, _⟩) (v := ?vht6) rfl (by kernel_rfl) (by kernel_rfl) (by kernel_rfl) (fun _ _ _ h => h) (Or.inl ⟨by rfl, ?yht6⟩) (by assumption) ?rht6
        case yht6 => intro w hSw; (try dsimp only at hSw); go_simp; try with_reducible rfl
        try simp only [Act.put, List.setIfInBounds_toArray, List.set_cons_zero, List.set_cons_succ]
        refine wpAnyH_ready (rs := [7]) (by kernel_rfl) (by simp) ?_
        refine AllReadyH.cons (o := ⟨_, _, _, _, _, _⟩) rfl (fun KK hK => ?_) AllReadyH.nil
        go_simp
        refine (shared_any s.epoch lg p.log _ _ _ _ n _ (zb.below BU) (z0.below BU) mb hsn).mono ?_
        rintro r w3 ⟨rfl, hB3⟩
        have kk3 : w3.cell? ⟨w.heap.size, 3, none⟩ = some (.int .i64 s.high) ∧ w3.cell? ⟨w1.heap.size, 0, none⟩ = some (.int .i64 s.epoch) ∧ w3.cell? ⟨w1.heap.size, 1, none⟩ = some (.slice rb lg.length kb) ∧ w3.cell? ⟨w1.heap.size, 2, none⟩ = some (.slice r0 p.log.length k0) ∧ w3.cell? ⟨w1.heap.size, 3, none⟩ = some (.int .i64 p.epoch) ∧ w3.cell? ⟨w1.heap.size, 4, none⟩ = some (.int .i64 p.known) := ⟨celB hB3 kk2.1, celB hB3 kk2.2.1, celB hB3 kk2.2.2.1, celB hB3 kk2.2.2.2.1, celB hB3 kk2.2.2.2.2.1, celB hB3 kk2.2.2.2.2.2⟩
        have BV := stGr BU hB3
        clear hB3
        go_wp2_with fail
        refine hK.out _ _ kk3 (fun hH7 => ?_)
        clear hK KK hH
        try simp only [Act.put, List.setIfInBounds_toArray, List.set_cons_zero, List.set_cons_succ]
        refine wpAnyH_ready (rs := [8]) (by kernel_rfl) (by simp) ?_
        refine AllReadyH.cons (o := ⟨_, _, _, _, _, _⟩) rfl (fun KK hK => ?_) AllReadyH.nil
        go_simp
        refine (within_c _ _ _ _ g).mono ?_
        rintro e w' ⟨rfl, rfl⟩
        go_wp2_with fail
        refine hK.out _ _ kk3 (fun hH8 => ?_)
        clear hK KK hH7
        try simp only [Act.put, List.setIfInBounds_toArray, List.set_cons_zero, List.set_cons_succ]
        refine wpAnyH_take (i := 9) (oi := ⟨_, _, _, _, _, _⟩) (v := ?vht9) rfl (by kernel_rfl) (by kernel_rfl) (by kernel_rfl) (fun _ _ _ h => h) (Or.inl ⟨by rfl, ?yht9⟩) (by assumption) ?rht9
        case yht9 => intro w hSw; (try dsimp only at hSw); go_simp; try with_reducible rfl
        try simp only [Act.put, List.setIfInBounds_toArray, List.set_cons_zero, List.set_cons_succ]
        refine wpAnyH_done (by kernel_rfl) (NoPanic.normal ?_) _
        have BW := stGr hB BV
        clear BV BU kk2 kk3 hu2 zb z0 mb m0 hB1 q3' bW
        go_wp2
        go_roundw
        case rel => exact ⟨k + 1, by omega, by go_num, HN.out, BW⟩
        case measure => simp [intOf]; omega
    · obtain rfl : k = s.steps.length := by omega
      have HE : Hid (s.steps.all (hiB s) = true) := all_done HO.out
      go_wp2
      go_ret
      exact ⟨ret_bool HE.out.symm, stGr bB hB⟩

theorem goodHigh_c (s : Gr) (f : Nat) (lg : List Rw) (a0 a1 : Option Addr) (c0 c1 : Nat) (w : World) (hs : GrR w s a0 a1) (hl : GrL s) (hf0 : s.leader = f) (hfn : f < s.reps.length) (hn : s.reps.length ≤ 1000000) (hlg0 : (rpA s.reps f).log = lg) (hr : ∀ z ∈ s.steps, 0 ≤ z ∧ z < s.reps.length) (b : Bool) (h : s.steps.all (hiB s) = b) :
    Calls Tryd.prog 74 #[grV s a0 c0 a1 c1] w fun r w' => r = .returned (.bool b) ∧ Below w.heap.size w w' := by
  rw [← h]; exact goodHigh_any s f lg a0 a1 c0 c1 w hs hl hf0 hfn hn hlg0 hr

set_option maxRecDepth 100000 in
set_option maxHeartbeats 16000000 in
theorem implGoodGr0_any (s : Gr) (a0 a1 : Option Addr) (c0 c1 : Nat) (w : World) (hs : GrR w s a0 a1) (hl : GrL s) :
    Calls Tryd.prog 45 #[grV s a0 c0 a1 c1] w fun r w' => r = .returned (.bool (goodGr s)) ∧ Below w.heap.size w w' := by
  have hls := hl.steps
  have hlr := hl.reps
  unfold maxLen at hls hlr
  have HB : ∀ o, Below w.heap.size w (w.alloc o) := fun o => alGr w o
  obtain ⟨u0, hu0⟩ : ∃ u, (w.alloc (.cells #[.int .i64 s.epoch, .int .i64 s.leader, .slice a0 s.steps.length c0, .int .i64 s.high, .slice a1 s.reps.length c1] 25)) = u := ⟨_, rfl⟩
  have kk : u0.cell? ⟨w.heap.size, 0, none⟩ = some (.int .i64 s.epoch) ∧ u0.cell? ⟨w.heap.size, 1, none⟩ = some (.int .i64 s.leader) ∧ u0.cell? ⟨w.heap.size, 2, none⟩ = some (.slice a0 s.steps.length c0) ∧ u0.cell? ⟨w.heap.size, 3, none⟩ = some (.int .i64 s.high) ∧ u0.cell? ⟨w.heap.size, 4, none⟩ = some (.slice a1 s.reps.length c1) := by rw [← hu0]; simp [go_sem]
  have bB : Below w.heap.size w u0 := by rw [← hu0]; exact alGr _ _
  cases g1 : inB s.reps.length 2 4 with
  | false =>
    have HE : Hid (goodGr s = false) := goodI_head (by rw [headI, g1]; simp)
    go_enter Tryd.func45, Tryd.ntmps45
    go_wp2_with (first | (go_at_call 29; refine (goodReplicas_any _ _ _ g1).mono ?_; rintro e w' ⟨rfl, hw⟩; rw [hw]; clear hw w') | (go_at_call 46; refine (within_c _ _ _ _ (by first | exact g2 | exact g3)).mono ?_; rintro e w' ⟨rfl, hw⟩; rw [hw]; clear hw w'))
    go_ret
    exact ⟨ret_bool HE.out.symm, by first | exact HB _ | exact bB⟩
  | true =>
    cases g2 : inB s.epoch 0 100 with
    | false =>
      have HE : Hid (goodGr s = false) := goodI_head (by rw [headI, g1, g2]; simp)
      go_enter Tryd.func45, Tryd.ntmps45
      go_wp2_with (first | (go_at_call 29; refine (goodReplicas_any _ _ _ g1).mono ?_; rintro e w' ⟨rfl, hw⟩; rw [hw]; clear hw w') | (go_at_call 46; refine (within_c _ _ _ _ (by first | exact g2 | exact g3)).mono ?_; rintro e w' ⟨rfl, hw⟩; rw [hw]; clear hw w'))
      go_ret
      exact ⟨ret_bool HE.out.symm, by first | exact HB _ | exact bB⟩
    | true =>
      cases g3 : inB s.leader 0 ((s.reps.length : Int) - 1) with
      | false =>
        have HE : Hid (goodGr s = false) := goodI_head (by rw [headI, g1, g2, g3]; simp)
        go_enter Tryd.func45, Tryd.ntmps45
        go_wp2_with (first | (go_at_call 29; refine (goodReplicas_any _ _ _ g1).mono ?_; rintro e w' ⟨rfl, hw⟩; rw [hw]; clear hw w') | (go_at_call 46; refine (within_c _ _ _ _ (by first | exact g2 | exact g3)).mono ?_; rintro e w' ⟨rfl, hw⟩; rw [hw]; clear hw w'))
        go_ret
        exact ⟨ret_bool HE.out.symm, by first | exact HB _ | exact bB⟩
      | true =>
        obtain ⟨hl0, hl1⟩ := inB_t.1 g3
        obtain ⟨f, hf⟩ : ∃ f : Nat, s.leader = f := ⟨s.leader.toNat, by omega⟩
        have hfn : f < s.reps.length := by omega
        have hn4 := (inB_t.1 g1).2
        have hf7 : f < 7 := by omega
        have hn6 : s.reps.length ≤ 1000000 := by omega
        have hn7 : (s.reps.length : Int) ≤ 7 := by omega
        obtain ⟨lg, hlg⟩ : ∃ lg, (rpA s.reps f).log = lg := ⟨_, rfl⟩
        have HF : Hid (s.leader = f) := hf
        have HL : Hid ((rpA s.reps f).log = lg) := hlg
        have HLL : Hid (leadL s = lg) := leadL_of hf hlg
        have HH : Hid (headI s = true) := by show _ = _; rw [headI, g1, g2, g3]; rfl
        have hS7 : setR s.steps s.reps.length < 128 := setR_lt hn7
        clear hl0 hl1 hf hlg
        obtain ⟨p0, p1, p2, p3, p4⟩ := kk
        go_enter Tryd.func45, Tryd.ntmps45
        go_wp2_with (first | (go_at_call 29; refine (goodReplicas_any _ _ _ g1).mono ?_; rintro e w' ⟨rfl, hw⟩; rw [hw]; clear hw w') | (go_at_call 46; refine (within_c _ _ _ _ (by first | exact g2 | exact g3)).mono ?_; rintro e w' ⟨rfl, hw⟩; rw [hw]; clear hw w'))
        try rw [hu0]
        clear hu0 g2 g3
        go_loopw [30] (fun i wr => ∃ k : Nat, k ≤ s.reps.length ∧ i = .int .i64 k ∧ Hid (okRTo s.epoch lg s.reps k) ∧ Below u0.heap.size u0 wr) (fun i _ => s.reps.length - (intOf i).toNat)
        case atStart => exact ⟨0, Nat.zero_le _, rfl, (fun i hi => absurd hi (Nat.not_lt_zero _)), Below.refl _ _⟩
        case round =>
          obtain ⟨k, hk, rfl, HO, hB⟩ := hrel
          have q0 := celB hB p0
          have q1 := celB hB p1
          have q2 := celB hB p2
          have q3 := celB hB p3
          have q4 := celB hB p4
          have bW := stGr bB hB
          by_cases hlt : k < s.reps.length
          · obtain ⟨p, hp⟩ : ∃ p, rpA s.reps k = p := ⟨_, rfl⟩
            have HP : Hid (rpA s.reps k = p) := hp
            have HK : Hid (s.reps[k]? = some p) := by show _ = _; rw [← hp]; exact rpA_get hlt
            have hki : (k : Int) < (s.reps.length : Int) := by omega
            clear hp
            cases g4 : okRI s.epoch lg p with
            | false =>
              have HE : Hid (goodGr s = false) := goodI_rp HK.out (by rw [HLL.out]; exact g4)
              go_wp2_with fail
              refine (replicaOf_any s f k lg p _ _ _ _ _ (hs.below bW) HF.out hfn hlt hn6 HL.out HP.out).mono ?_
              rintro r w1 ⟨rb, kb, r0, k0, rfl, zb, mb, z0, m0, hB1⟩
              go_wp2_with fail
              refine (good_c s.epoch lg _ _ p _ _ _ (zb.below hB1) mb (z0.below hB1) m0 _ g4).mono ?_
              rintro r w2 ⟨rfl, hB2⟩
              have BW := stGr (stGr bW hB1) hB2
              clear hB1 hB2 zb z0
              go_wp2
              go_ret
              exact ⟨ret_bool HE.out.symm, BW⟩
            | true =>
              have HN : Hid (okRTo s.epoch lg s.reps (k + 1)) := okRTo_succ HO.out HK.out g4
              go_wp2_with fail
              refine (replicaOf_any s f k lg p _ _ _ _ _ (hs.below bW) HF.out hfn hlt hn6 HL.out HP.out).mono ?_
              rintro r w1 ⟨rb, kb, r0, k0, rfl, zb, mb, z0, m0, hB1⟩
              go_wp2_with fail
              refine (good_c s.epoch lg _ _ p _ _ _ (zb.below hB1) mb (z0.below hB1) m0 _ g4).mono ?_
              rintro r w2 ⟨rfl, hB2⟩
              have BW := stGr (stGr hB hB1) hB2
              clear hB1 hB2 zb z0
              go_wp2
              go_roundw
              case rel => exact ⟨k + 1, by omega, by go_num, HN.out, BW⟩
              case measure => simp [intOf]; omega
          · obtain rfl : k = s.reps.length := by omega
            have HA : Hid (okRTo s.epoch (leadL s) s.reps s.reps.length) := by show okRTo _ _ _ _; rw [HLL.out]; exact HO.out
            cases g5 : riseB s.steps s.reps.length with
            | false =>
              have HE : Hid (goodGr s = false) := goodI_rise g5
              go_wp2_with fail
              refine (setFrom_c _ _ _ _ _ _ (hs.steps.below bW) hl.steps hn7 g5).mono ?_
              rintro r w1 ⟨rfl, hB1⟩
              obtain ⟨u2, hu2⟩ : ∃ u, (w1.alloc (.cells #[.int .u64 ((setR s.steps s.reps.length : Nat) : Int)] 60)) = u := ⟨_, rfl⟩
              have BU : Below wr.heap.size wr u2.drew := by rw [← hu2]; exact (stGr hB1 (alGr _ _)).drew
              have kk2 : u2.drew.cell? ⟨w.heap.size, 0, none⟩ = some (.int .i64 s.epoch) ∧ u2.drew.cell? ⟨w.heap.size, 1, none⟩ = some (.int .i64 s.leader) ∧ u2.drew.cell? ⟨w.heap.size, 2, none⟩ = some (.slice a0 s.steps.length c0) ∧ u2.drew.cell? ⟨w.heap.size, 3, none⟩ = some (.int .i64 s.high) ∧ u2.drew.cell? ⟨w.heap.size, 4, none⟩ = some (.slice a1 s.reps.length c1) ∧ u2.drew.cell? ⟨w1.heap.size, 0, none⟩ = some (.int .u64 ((setR s.steps s.reps.length : Nat) : Int)) := ⟨celB BU q0, celB BU q1, celB BU q2, celB BU q3, celB BU q4, by rw [← hu2]; simp [go_sem]⟩
              go_wp2_with fail
              try rw [hu2]
              refine wp_region_noPanic ?_
              refine wp_region_held_drew (S := fun w' => w'.cell? ⟨w.heap.size, 0, none⟩ = some (.int .i64 s.epoch) ∧ w'.cell? ⟨w.heap.size, 1, none⟩ = some (.int .i64 s.leader) ∧ w'.cell? ⟨w.heap.size, 2, none⟩ = some (.slice a0 s.steps.length c0) ∧ w'.cell? ⟨w.heap.size, 3, none⟩ = some (.int .i64 s.high) ∧ w'.cell? ⟨w.heap.size, 4, none⟩ = some (.slice a1 s.reps.length c1) ∧ w'.cell? ⟨w1.heap.size, 0, none⟩ = some (.int .u64 ((setR s.steps s.reps.length : Nat) : Int))) (by kernel_rfl) kk2 (fun hH => ?_)
              refine wpAnyH_take (i := 0) (oi := ⟨_, _, _, _, _, _⟩) (v := ?vga0) rfl (by kernel_rfl) (by kernel_rfl) (by kernel_rfl) (fun _ _ _ h => h) (Or.inl ⟨by rfl, ?yga0⟩) (by assumption) ?rga0
              case yga0 => intro w hSw; (try dsimp only at hSw); go_simp; try with_reducible rfl
              try simp only [Act.put, List.setIfInBounds_toArray, List.set_cons_zero, List.set_cons_succ]
              refine wpAnyH_take (i := 1) (oi := ⟨_, _, _, _, _, _⟩) (v := ?vga1) rfl (by kernel_rfl) (by kernel_rfl) (by kernel_rfl) (fun _ _ _ h => h) (Or.inl ⟨by rfl, ?yga1⟩) (by assumption) ?rga1
              case yga1 => intro w hSw; (try dsimp only at hSw); go_simp; try with_reducible rfl
              try simp only [Act.put, List.setIfInBounds_toArray, List.set_cons_zero, List.set_cons_succ]
              refine wpAnyH_take (i := 2) (oi := ⟨_, _, _, _, _, _⟩) (v := undef) rfl (by kernel_rfl) (by kernel_rfl) (by kernel_rfl) (fun _ _ _ h => h) (Or.inr ⟨by rfl, rfl⟩) (by assumption) ?_
              try simp only [Act.put, List.setIfInBounds_toArray, List.set_cons_zero, List.set_cons_succ]
              refine wpAnyH_take (i := 3) (oi := ⟨_, _, _, _, _, _⟩) (v := undef) rfl (by kernel_rfl) (by kernel_rfl) (by kernel_rfl) (fun _ _ _ h => h) (Or.inr ⟨by rfl, rfl⟩) (by assumption) ?_
              try simp only [Act.put, List.setIfInBounds_toArray, List.set_cons_zero, List.set_cons_succ]
              refine wpAnyH_take (i := 4) (oi := ⟨_, _, _, _, _, _⟩) (v := undef) rfl (by kernel_rfl) (by kernel_rfl) (by kernel_rfl) (fun _ _ _ h => h) (Or.inr ⟨by rfl, rfl⟩) (by assumption) ?_
              try simp only [Act.put, List.setIfInBounds_toArray, List.set_cons_zero, List.set_cons_succ]
              refine wpAnyH_take (i := 5) (oi := ⟨_, _, _, _, _, _⟩) (v := undef) rfl (by kernel_rfl) (by kernel_rfl) (by kernel_rfl) (fun _ _ _ h => h) (Or.inr ⟨by rfl, rfl⟩) (by assumption) ?_
              try simp only [Act.put, List.setIfInBounds_toArray, List.set_cons_zero, List.set_cons_succ]
              refine wpAnyH_take (i := 6) (oi := ⟨_, _, _, _, _, _⟩) (v := undef) rfl (by kernel_rfl) (by kernel_rfl) (by kernel_rfl) (fun _ _ _ h => h) (Or.inr ⟨by rfl, rfl⟩) (by assumption) ?_
              try simp only [Act.put, List.setIfInBounds_toArray, List.set_cons_zero, List.set_cons_succ]
              refine wpAnyH_take (i := 7) (oi := ⟨_, _, _, _, _, _⟩) (v := ?vga7) rfl (by kernel_rfl) (by kernel_rfl) (by kernel_rfl) (fun _ _ _ h => h) (Or.inl ⟨by rfl, ?yga7⟩) (by assumption) ?rga7
              case yga7 => intro w hSw; (try dsimp only at hSw); go_simp; try with_reducible rfl
              try simp only [Act.put, List.setIfInBounds_toArray, List.set_cons_zero, List.set_cons_succ]
              refine wpAnyH_take (i := 8) (oi := ⟨_, _, _, _, _, _⟩) (v := ?vga8) rfl (by kernel_rfl) (by kernel_rfl) (by kernel_rfl) (fun _ _ _ h => h) (Or.inl ⟨by rfl, ?yga8⟩) (by assumption) ?rga8
              case yga8 => intro w hSw; (try dsimp only at hSw); go_simp; try with_reducible rfl
              try simp only [Act.put, List.setIfInBounds_toArray, List.set_cons_zero, List.set_cons_succ]
              refine wpAnyH_take (i := 9) (oi := ⟨_, _, _, _, _, _⟩) (v := undef) rfl (by kernel_rfl) (by kernel_rfl) (by kernel_rfl) (fun _ _ _ h => h) (Or.inr ⟨by rfl, rfl⟩) (by assumption) ?_
              try simp only [Act.put, List.setIfInBounds_toArray, List.set_cons_zero, List.set_cons_succ]
              refine wpAnyH_take (i := 10) (oi := ⟨_, _, _, _, _, _⟩) (v := undef) rfl (by kernel_rfl) (by kernel_rfl) (by kernel_rfl) (fun _ _ _ h => h) (Or.inr ⟨by rfl, rfl⟩) (by assumption) ?_
              try simp only [Act.put, List.setIfInBounds_toArray, List.set_cons_zero, List.set_cons_succ]
              refine wpAnyH_take (i := 11) (oi := ⟨_, _, _, _, _, _⟩) (v := ?vga11) rfl (by kernel_rfl) (by kernel_rfl) (by kernel_rfl) (fun _ _ _ h => h) (Or.inl ⟨by rfl, ?yga11⟩) (by assumption) ?rga11
              case yga11 => intro w hSw; (try dsimp only at hSw); go_simp; try with_reducible rfl
              try simp only [Act.put, List.setIfInBounds_toArray, List.set_cons_zero, List.set_cons_succ]
              refine wpAnyH_take (i := 12) (oi := ⟨_, _, _, _, _, _⟩) (v := ?vga12) rfl (by kernel_rfl) (by kernel_rfl) (by kernel_rfl) (fun _ _ _ h => h) (Or.inl ⟨by rfl, ?yga12⟩) (by assumption) ?rga12
              case yga12 => intro w hSw; (try dsimp only at hSw); go_simp; try with_reducible rfl
              try simp only [Act.put, List.setIfInBounds_toArray, List.set_cons_zero, List.set_cons_succ]
              refine wpAnyH_done (by kernel_rfl) (NoPanic.normal ?_) _
              have BW := stGr bW BU
              clear hu2
              go_wp2
              go_ret
              exact ⟨ret_bool HE.out.symm, BW⟩
            | true =>
              have HR : Hid (∀ z ∈ s.steps, 0 ≤ z ∧ z < (s.reps.length : Int)) := fun z hz => rise_mem g5 hz
              have HM : Hid ((setR s.steps s.reps.length &&& 2 ^ f != 0) = s.steps.contains s.leader) := by show _ = _; rw [HF.out]; exact meets_has hn7 g5 hf7
              cases g6 : s.steps.contains s.leader with
              | false =>
                have HE : Hid (goodGr s = false) := goodI_has g6
                go_wp2_with fail
                refine (setFrom_c _ _ _ _ _ _ (hs.steps.below bW) hl.steps hn7 g5).mono ?_
                rintro r w1 ⟨rfl, hB1⟩
                obtain ⟨u2, hu2⟩ : ∃ u, (w1.alloc (.cells #[.int .u64 ((setR s.steps s.reps.length : Nat) : Int)] 60)) = u := ⟨_, rfl⟩
                have BU : Below wr.heap.size wr u2.drew := by rw [← hu2]; exact (stGr hB1 (alGr _ _)).drew
                have kk2 : u2.drew.cell? ⟨w.heap.size, 0, none⟩ = some (.int .i64 s.epoch) ∧ u2.drew.cell? ⟨w.heap.size, 1, none⟩ = some (.int .i64 s.leader) ∧ u2.drew.cell? ⟨w.heap.size, 2, none⟩ = some (.slice a0 s.steps.length c0) ∧ u2.drew.cell? ⟨w.heap.size, 3, none⟩ = some (.int .i64 s.high) ∧ u2.drew.cell? ⟨w.heap.size, 4, none⟩ = some (.slice a1 s.reps.length c1) ∧ u2.drew.cell? ⟨w1.heap.size, 0, none⟩ = some (.int .u64 ((setR s.steps s.reps.length : Nat) : Int)) := ⟨celB BU q0, celB BU q1, celB BU q2, celB BU q3, celB BU q4, by rw [← hu2]; simp [go_sem]⟩
                go_wp2_with fail
                try rw [hu2]
                refine wp_region_noPanic ?_
                refine wp_region_held_drew (S := fun w' => w'.cell? ⟨w.heap.size, 0, none⟩ = some (.int .i64 s.epoch) ∧ w'.cell? ⟨w.heap.size, 1, none⟩ = some (.int .i64 s.leader) ∧ w'.cell? ⟨w.heap.size, 2, none⟩ = some (.slice a0 s.steps.length c0) ∧ w'.cell? ⟨w.heap.size, 3, none⟩ = some (.int .i64 s.high) ∧ w'.cell? ⟨w.heap.size, 4, none⟩ = some (.slice a1 s.reps.length c1) ∧ w'.cell? ⟨w1.heap.size, 0, none⟩ = some (.int .u64 ((setR s.steps s.reps.length : Nat) : Int))) (by kernel_rfl) kk2 (fun hH => ?_)
                refine wpAnyH_take (i := 0) (oi := ⟨_, _, _, _, _, _⟩) (v := ?vgb0) rfl (by kernel_rfl) (by kernel_rfl) (by kernel_rfl) (fun _ _ _ h => h) (Or.inl ⟨by rfl, ?ygb0⟩) (by assumption) ?rgb0
                case ygb0 => intro w hSw; (try dsimp only at hSw); go_simp; try with_reducible rfl
                try simp only [Act.put, List.setIfInBounds_toArray, List.set_cons_zero, List.set_cons_succ]
                refine wpAnyH_take (i := 1) (oi := ⟨_, _, _, _, _, _⟩) (v := ?vgb1) rfl (by kernel_rfl) (by kernel_rfl) (by kernel_rfl) (fun _ _ _ h => h) (Or.inl ⟨by rfl, ?ygb1⟩) (by assumption) ?rgb1
                case ygb1 => intro w hSw; (try dsimp only at hSw); go_simp; try with_reducible rfl
                try simp only [Act.put, List.setIfInBounds_toArray, List.set_cons_zero, List.set_cons_succ]
                refine wpAnyH_take (i := 2) (oi := ⟨_, _, _, _, _, _⟩) (v := ?vgb2) rfl (by kernel_rfl) (by kernel_rfl) (by kernel_rfl) (fun _ _ _ h => h) (Or.inl ⟨by rfl, ?ygb2⟩) (by assumption) ?rgb2
                case ygb2 => intro w hSw; (try dsimp only at hSw); go_simp; try with_reducible rfl
                try simp only [Act.put, List.setIfInBounds_toArray, List.set_cons_zero, List.set_cons_succ]
                refine wpAnyH_take (i := 3) (oi := ⟨_, _, _, _, _, _⟩) (v := ?vgb3) rfl (by kernel_rfl) (by kernel_rfl) (by kernel_rfl) (fun _ _ _ h => h) (Or.inl ⟨by rfl, ?ygb3⟩) (by assumption) ?rgb3
                case ygb3 => intro w hSw; (try dsimp only at hSw); go_simp; try with_reducible rfl
                try simp only [Act.put, List.setIfInBounds_toArray, List.set_cons_zero, List.set_cons_succ]
                refine wpAnyH_take (i := 4) (oi := ⟨_, _, _, _, _, _⟩) (v := ?vgb4) rfl (by kernel_rfl) (by kernel_rfl) (by kernel_rfl) (fun _ _ _ h => h) (Or.inl ⟨by rfl, ?ygb4⟩) (by assumption) ?rgb4
                case ygb4 => intro w hSw; (try dsimp only at hSw); go_simp; try with_reducible rfl
                try simp only [Act.put, List.setIfInBounds_toArray, List.set_cons_zero, List.set_cons_succ]
                refine wpAnyH_ready (rs := [5]) (by kernel_rfl) (by simp) ?_
                refine AllReadyH.cons (o := ⟨_, _, _, _, _, _⟩) rfl (fun KK hK => ?_) AllReadyH.nil
                go_simp
                refine (only_z _ f (by omega) HF.out _).mono ?_
                rintro r w3 ⟨rfl, hB3⟩
                have kk3 : w3.cell? ⟨w.heap.size, 0, none⟩ = some (.int .i64 s.epoch) ∧ w3.cell? ⟨w.heap.size, 1, none⟩ = some (.int .i64 s.leader) ∧ w3.cell? ⟨w.heap.size, 2, none⟩ = some (.slice a0 s.steps.length c0) ∧ w3.cell? ⟨w.heap.size, 3, none⟩ = some (.int .i64 s.high) ∧ w3.cell? ⟨w.heap.size, 4, none⟩ = some (.slice a1 s.reps.length c1) ∧ w3.cell? ⟨w1.heap.size, 0, none⟩ = some (.int .u64 ((setR s.steps s.reps.length : Nat) : Int)) := ⟨celB hB3 kk2.1, celB hB3 kk2.2.1, celB hB3 kk2.2.2.1, celB hB3 kk2.2.2.2.1, celB hB3 kk2.2.2.2.2.1, celB hB3 kk2.2.2.2.2.2⟩
                have BU3 := stGr BU hB3
                clear hB3
                go_wp2_with fail
                refine hK.out _ _ kk3 (fun hH5 => ?_)
                clear hK KK hH
                try simp only [Act.put, List.setIfInBounds_toArray, List.set_cons_zero, List.set_cons_succ]
                refine wpAnyH_ready (rs := [6]) (by kernel_rfl) (by simp) ?_
                refine AllReadyH.cons (o := ⟨_, _, _, _, _, _⟩) rfl (fun KK hK => ?_) AllReadyH.nil
                go_simp
                refine (meets_c _ _ hS7 (Nat.pow_lt_pow_right (by omega) hf7) _ _ (HM.out.trans g6)).mono ?_
                rintro r w4 ⟨rfl, hB4⟩
                have kk4 : w4.cell? ⟨w.heap.size, 0, none⟩ = some (.int .i64 s.epoch) ∧ w4.cell? ⟨w.heap.size, 1, none⟩ = some (.int .i64 s.leader) ∧ w4.cell? ⟨w.heap.size, 2, none⟩ = some (.slice a0 s.steps.length c0) ∧ w4.cell? ⟨w.heap.size, 3, none⟩ = some (.int .i64 s.high) ∧ w4.cell? ⟨w.heap.size, 4, none⟩ = some (.slice a1 s.reps.length c1) ∧ w4.cell? ⟨w1.heap.size, 0, none⟩ = some (.int .u64 ((setR s.steps s.reps.length : Nat) : Int)) := ⟨celB hB4 kk3.1, celB hB4 kk3.2.1, celB hB4 kk3.2.2.1, celB hB4 kk3.2.2.2.1, celB hB4 kk3.2.2.2.2.1, celB hB4 kk3.2.2.2.2.2⟩
                have BU4 := stGr BU3 hB4
                clear hB4
                go_wp2_with fail
                refine hK.out _ _ kk4 (fun hH6 => ?_)
                clear hK KK hH5
                try simp only [Act.put, List.setIfInBounds_toArray, List.set_cons_zero, List.set_cons_succ]
                refine wpAnyH_take (i := 7) (oi := ⟨_, _, _, _, _, _⟩) (v := ?vgb7) rfl (by kernel_rfl) (by kernel_rfl) (by kernel_rfl) (fun _ _ _ h => h) (Or.inl ⟨by rfl, ?ygb7⟩) (by assumption) ?rgb7
                case ygb7 => intro w hSw; (try dsimp only at hSw); go_simp; try with_reducible rfl
                try simp only [Act.put, List.setIfInBounds_toArray, List.set_cons_zero, List.set_cons_succ]
                refine wpAnyH_take (i := 8) (oi := ⟨_, _, _, _, _, _⟩) (v := ?vgb8) rfl (by kernel_rfl) (by kernel_rfl) (by kernel_rfl) (fun _ _ _ h => h) (Or.inl ⟨by rfl, ?ygb8⟩) (by assumption) ?rgb8
                case ygb8 => intro w hSw; (try dsimp only at hSw); go_simp; try with_reducible rfl
                try simp only [Act.put, List.setIfInBounds_toArray, List.set_cons_zero, List.set_cons_succ]
                refine wpAnyH_take (i := 9) (oi := ⟨_, _, _, _, _, _⟩) (v := undef) rfl (by kernel_rfl) (by kernel_rfl) (by kernel_rfl) (fun _ _ _ h => h) (Or.inr ⟨by rfl, rfl⟩) (by assumption) ?_
                try simp only [Act.put, List.setIfInBounds_toArray, List.set_cons_zero, List.set_cons_succ]
                refine wpAnyH_take (i := 10) (oi := ⟨_, _, _, _, _, _⟩) (v := undef) rfl (by kernel_rfl) (by kernel_rfl) (by kernel_rfl) (fun _ _ _ h => h) (Or.inr ⟨by rfl, rfl⟩) (by assumption) ?_
                try simp only [Act.put, List.setIfInBounds_toArray, List.set_cons_zero, List.set_cons_succ]
                refine wpAnyH_take (i := 11) (oi := ⟨_, _, _, _, _, _⟩) (v := ?vgb11) rfl (by kernel_rfl) (by kernel_rfl) (by kernel_rfl) (fun _ _ _ h => h) (Or.inl ⟨by rfl, ?ygb11⟩) (by assumption) ?rgb11
                case ygb11 => intro w hSw; (try dsimp only at hSw); go_simp; try with_reducible rfl
                try simp only [Act.put, List.setIfInBounds_toArray, List.set_cons_zero, List.set_cons_succ]
                refine wpAnyH_take (i := 12) (oi := ⟨_, _, _, _, _, _⟩) (v := ?vgb12) rfl (by kernel_rfl) (by kernel_rfl) (by kernel_rfl) (fun _ _ _ h => h) (Or.inl ⟨by rfl, ?ygb12⟩) (by assumption) ?rgb12
                case ygb12 => intro w hSw; (try dsimp only at hSw); go_simp; try with_reducible rfl
                try simp only [Act.put, List.setIfInBounds_toArray, List.set_cons_zero, List.set_cons_succ]
                refine wpAnyH_done (by kernel_rfl) (NoPanic.normal ?_) _
                have BW := stGr bW BU4
                clear hu2
                go_wp2
                go_ret
                exact ⟨ret_bool HE.out.symm, BW⟩
              | true =>
                cases g7 : s.steps.all (hiB s) with
                | false =>
                  have HE : Hid (goodGr s = false) := goodI_high g7
                  go_wp2_with fail
                  refine (setFrom_c _ _ _ _ _ _ (hs.steps.below bW) hl.steps hn7 g5).mono ?_
                  rintro r w1 ⟨rfl, hB1⟩
                  obtain ⟨u2, hu2⟩ : ∃ u, (w1.alloc (.cells #[.int .u64 ((setR s.steps s.reps.length : Nat) : Int)] 60)) = u := ⟨_, rfl⟩
                  have BU : Below wr.heap.size wr u2.drew := by rw [← hu2]; exact (stGr hB1 (alGr _ _)).drew
                  have kk2 : u2.drew.cell? ⟨w.heap.size, 0, none⟩ = some (.int .i64 s.epoch) ∧ u2.drew.cell? ⟨w.heap.size, 1, none⟩ = some (.int .i64 s.leader) ∧ u2.drew.cell? ⟨w.heap.size, 2, none⟩ = some (.slice a0 s.steps.length c0) ∧ u2.drew.cell? ⟨w.heap.size, 3, none⟩ = some (.int .i64 s.high) ∧ u2.drew.cell? ⟨w.heap.size, 4, none⟩ = some (.slice a1 s.reps.length c1) ∧ u2.drew.cell? ⟨w1.heap.size, 0, none⟩ = some (.int .u64 ((setR s.steps s.reps.length : Nat) : Int)) := ⟨celB BU q0, celB BU q1, celB BU q2, celB BU q3, celB BU q4, by rw [← hu2]; simp [go_sem]⟩
                  go_wp2_with fail
                  try rw [hu2]
                  refine wp_region_noPanic ?_
                  refine wp_region_held_drew (S := fun w' => w'.cell? ⟨w.heap.size, 0, none⟩ = some (.int .i64 s.epoch) ∧ w'.cell? ⟨w.heap.size, 1, none⟩ = some (.int .i64 s.leader) ∧ w'.cell? ⟨w.heap.size, 2, none⟩ = some (.slice a0 s.steps.length c0) ∧ w'.cell? ⟨w.heap.size, 3, none⟩ = some (.int .i64 s.high) ∧ w'.cell? ⟨w.heap.size, 4, none⟩ = some (.slice a1 s.reps.length c1) ∧ w'.cell? ⟨w1.heap.size, 0, none⟩ = some (.int .u64 ((setR s.steps s.reps.length : Nat) : Int))) (by kernel_rfl) kk2 (fun hH => ?_)
                  refine wpAnyH_take (i := 0) (oi := ⟨_, _, _, _, _, _⟩) (v := ?vgc0) rfl (by kernel_rfl) (by kernel_rfl) (by kernel_rfl) (fun _ _ _ h => h) (Or.inl ⟨by rfl, ?ygc0⟩) (by assumption) ?rgc0
                  case ygc0 => intro w hSw; (try dsimp only at hSw); go_simp; try with_reducible rfl
                  try simp only [Act.put, List.setIfInBounds_toArray, List.set_cons_zero, List.set_cons_succ]
                  refine wpAnyH_take (i := 1) (oi := ⟨_, _, _, _, _, _⟩) (v := ?vgc1) rfl (by kernel_rfl) (by kernel_rfl) (by kernel_rfl) (fun _ _ _ h => h) (Or.inl ⟨by rfl, ?ygc1⟩) (by assumption) ?rgc1
                  case ygc1 => intro w hSw; (try dsimp only at hSw); go_simp; try with_reducible rfl
                  try simp only [Act.put, List.setIfInBounds_toArray, List.set_cons_zero, List.set_cons_succ]
                  refine wpAnyH_take (i := 2) (oi := ⟨_, _, _, _, _, _⟩) (v := ?vgc2) rfl (by kernel_rfl) (by kernel_rfl) (by kernel_rfl) (fun _ _ _ h => h) (Or.inl ⟨by rfl, ?ygc2⟩) (by assumption) ?rgc2
                  case ygc2 => intro w hSw; (try dsimp only at hSw); go_simp; try with_reducible rfl
                  try simp only [Act.put, List.setIfInBounds_toArray, List.set_cons_zero, List.set_cons_succ]
                  refine wpAnyH_take (i := 3) (oi := ⟨_, _, _, _, _, _⟩) (v := ?vgc3) rfl (by kernel_rfl) (by kernel_rfl) (by kernel_rfl) (fun _ _ _ h => h) (Or.inl ⟨by rfl, ?ygc3⟩) (by assumption) ?rgc3
                  case ygc3 => intro w hSw; (try dsimp only at hSw); go_simp; try with_reducible rfl
                  try simp only [Act.put, List.setIfInBounds_toArray, List.set_cons_zero, List.set_cons_succ]
                  refine wpAnyH_take (i := 4) (oi := ⟨_, _, _, _, _, _⟩) (v := ?vgc4) rfl (by kernel_rfl) (by kernel_rfl) (by kernel_rfl) (fun _ _ _ h => h) (Or.inl ⟨by rfl, ?ygc4⟩) (by assumption) ?rgc4
                  case ygc4 => intro w hSw; (try dsimp only at hSw); go_simp; try with_reducible rfl
                  try simp only [Act.put, List.setIfInBounds_toArray, List.set_cons_zero, List.set_cons_succ]
                  refine wpAnyH_ready (rs := [5]) (by kernel_rfl) (by simp) ?_
                  refine AllReadyH.cons (o := ⟨_, _, _, _, _, _⟩) rfl (fun KK hK => ?_) AllReadyH.nil
                  go_simp
                  refine (only_z _ f (by omega) HF.out _).mono ?_
                  rintro r w3 ⟨rfl, hB3⟩
                  have kk3 : w3.cell? ⟨w.heap.size, 0, none⟩ = some (.int .i64 s.epoch) ∧ w3.cell? ⟨w.heap.size, 1, none⟩ = some (.int .i64 s.leader) ∧ w3.cell? ⟨w.heap.size, 2, none⟩ = some (.slice a0 s.steps.length c0) ∧ w3.cell? ⟨w.heap.size, 3, none⟩ = some (.int .i64 s.high) ∧ w3.cell? ⟨w.heap.size, 4, none⟩ = some (.slice a1 s.reps.length c1) ∧ w3.cell? ⟨w1.heap.size, 0, none⟩ = some (.int .u64 ((setR s.steps s.reps.length : Nat) : Int)) := ⟨celB hB3 kk2.1, celB hB3 kk2.2.1, celB hB3 kk2.2.2.1, celB hB3 kk2.2.2.2.1, celB hB3 kk2.2.2.2.2.1, celB hB3 kk2.2.2.2.2.2⟩
                  have BU3 := stGr BU hB3
                  clear hB3
                  go_wp2_with fail
                  refine hK.out _ _ kk3 (fun hH5 => ?_)
                  clear hK KK hH
                  try simp only [Act.put, List.setIfInBounds_toArray, List.set_cons_zero, List.set_cons_succ]
                  refine wpAnyH_ready (rs := [6]) (by kernel_rfl) (by simp) ?_
                  refine AllReadyH.cons (o := ⟨_, _, _, _, _, _⟩) rfl (fun KK hK => ?_) AllReadyH.nil
                  go_simp
                  refine (meets_c _ _ hS7 (Nat.pow_lt_pow_right (by omega) hf7) _ _ (HM.out.trans g6)).mono ?_
                  rintro r w4 ⟨rfl, hB4⟩
                  have kk4 : w4.cell? ⟨w.heap.size, 0, none⟩ = some (.int .i64 s.epoch) ∧ w4.cell? ⟨w.heap.size, 1, none⟩ = some (.int .i64 s.leader) ∧ w4.cell? ⟨w.heap.size, 2, none⟩ = some (.slice a0 s.steps.length c0) ∧ w4.cell? ⟨w.heap.size, 3, none⟩ = some (.int .i64 s.high) ∧ w4.cell? ⟨w.heap.size, 4, none⟩ = some (.slice a1 s.reps.length c1) ∧ w4.cell? ⟨w1.heap.size, 0, none⟩ = some (.int .u64 ((setR s.steps s.reps.length : Nat) : Int)) := ⟨celB hB4 kk3.1, celB hB4 kk3.2.1, celB hB4 kk3.2.2.1, celB hB4 kk3.2.2.2.1, celB hB4 kk3.2.2.2.2.1, celB hB4 kk3.2.2.2.2.2⟩
                  have BU4 := stGr BU3 hB4
                  clear hB4
                  go_wp2_with fail
                  refine hK.out _ _ kk4 (fun hH6 => ?_)
                  clear hK KK hH5
                  try simp only [Act.put, List.setIfInBounds_toArray, List.set_cons_zero, List.set_cons_succ]
                  refine wpAnyH_take (i := 7) (oi := ⟨_, _, _, _, _, _⟩) (v := ?vgc7) rfl (by kernel_rfl) (by kernel_rfl) (by kernel_rfl) (fun _ _ _ h => h) (Or.inl ⟨by rfl, ?ygc7⟩) (by assumption) ?rgc7
                  case ygc7 => intro w hSw; (try dsimp only at hSw); go_simp; try with_reducible rfl
                  try simp only [Act.put, List.setIfInBounds_toArray, List.set_cons_zero, List.set_cons_succ]
                  refine wpAnyH_take (i := 8) (oi := ⟨_, _, _, _, _, _⟩) (v := ?vgc8) rfl (by kernel_rfl) (by kernel_rfl) (by kernel_rfl) (fun _ _ _ h => h) (Or.inl ⟨by rfl, ?ygc8⟩) (by assumption) ?rgc8
                  case ygc8 => intro w hSw; (try dsimp only at hSw); go_simp; try with_reducible rfl
                  try simp only [Act.put, List.setIfInBounds_toArray, List.set_cons_zero, List.set_cons_succ]
                  refine wpAnyH_take (i := 9) (oi := ⟨_, _, _, _, _, _⟩) (v := ?vgc9) rfl (by kernel_rfl) (by kernel_rfl) (by kernel_rfl) (fun _ _ _ h => h) (Or.inl ⟨by rfl, ?ygc9⟩) (by assumption) ?rgc9
                  case ygc9 => intro w hSw; (try dsimp only at hSw); go_simp; try with_reducible rfl
                  try simp only [Act.put, List.setIfInBounds_toArray, List.set_cons_zero, List.set_cons_succ]
                  refine wpAnyH_ready (rs := [10]) (by kernel_rfl) (by simp) ?_
                  refine AllReadyH.cons (o := ⟨_, _, _, _, _, _⟩) rfl (fun KK hK => ?_) AllReadyH.nil
                  go_simp
                  refine (goodHigh_c s f lg _ _ _ _ _ ((hs.below bW).below BU4) hl HF.out hfn hn6 HL.out HR.out _ g7).mono ?_
                  rintro r w5 ⟨rfl, hB5⟩
                  have kk5 : w5.cell? ⟨w.heap.size, 0, none⟩ = some (.int .i64 s.epoch) ∧ w5.cell? ⟨w.heap.size, 1, none⟩ = some (.int .i64 s.leader) ∧ w5.cell? ⟨w.heap.size, 2, none⟩ = some (.slice a0 s.steps.length c0) ∧ w5.cell? ⟨w.heap.size, 3, none⟩ = some (.int .i64 s.high) ∧ w5.cell? ⟨w.heap.size, 4, none⟩ = some (.slice a1 s.reps.length c1) ∧ w5.cell? ⟨w1.heap.size, 0, none⟩ = some (.int .u64 ((setR s.steps s.reps.length : Nat) : Int)) := ⟨celB hB5 kk4.1, celB hB5 kk4.2.1, celB hB5 kk4.2.2.1, celB hB5 kk4.2.2.2.1, celB hB5 kk4.2.2.2.2.1, celB hB5 kk4.2.2.2.2.2⟩
                  have BU5 := stGr BU4 hB5
                  clear hB5
                  go_wp2_with fail
                  refine hK.out _ _ kk5 (fun hH10 => ?_)
                  clear hK KK hH6
                  try simp only [Act.put, List.setIfInBounds_toArray, List.set_cons_zero, List.set_cons_succ]
                  refine wpAnyH_take (i := 11) (oi := ⟨_, _, _, _, _, _⟩) (v := ?vgc11) rfl (by kernel_rfl) (by kernel_rfl) (by kernel_rfl) (fun _ _ _ h => h) (Or.inl ⟨by rfl, ?ygc11⟩) (by assumption) ?rgc11
                  case ygc11 => intro w hSw; (try dsimp only at hSw); go_simp; try with_reducible rfl
                  try simp only [Act.put, List.setIfInBounds_toArray, List.set_cons_zero, List.set_cons_succ]
                  refine wpAnyH_take (i := 12) (oi := ⟨_, _, _, _, _, _⟩) (v := ?vgc12) rfl (by kernel_rfl) (by kernel_rfl) (by kernel_rfl) (fun _ _ _ h => h) (Or.inl ⟨by rfl, ?ygc12⟩) (by assumption) ?rgc12
                  case ygc12 => intro w hSw; (try dsimp only at hSw); go_simp; try with_reducible rfl
                  try simp only [Act.put, List.setIfInBounds_toArray, List.set_cons_zero, List.set_cons_succ]
                  refine wpAnyH_done (by kernel_rfl) (NoPanic.normal ?_) _
                  have BW := stGr bW BU5
                  clear hu2
                  go_wp2
                  go_ret
                  exact ⟨ret_bool HE.out.symm, BW⟩
                | true =>
                  have HE : Hid (goodGr s = true) := goodI_done HH.out HA.out g5 g6 g7
                  go_wp2_with fail
                  refine (setFrom_c _ _ _ _ _ _ (hs.steps.below bW) hl.steps hn7 g5).mono ?_
                  rintro r w1 ⟨rfl, hB1⟩
                  obtain ⟨u2, hu2⟩ : ∃ u, (w1.alloc (.cells #[.int .u64 ((setR s.steps s.reps.length : Nat) : Int)] 60)) = u := ⟨_, rfl⟩
                  have BU : Below wr.heap.size wr u2.drew := by rw [← hu2]; exact (stGr hB1 (alGr _ _)).drew
                  have kk2 : u2.drew.cell? ⟨w.heap.size, 0, none⟩ = some (.int .i64 s.epoch) ∧ u2.drew.cell? ⟨w.heap.size, 1, none⟩ = some (.int .i64 s.leader) ∧ u2.drew.cell? ⟨w.heap.size, 2, none⟩ = some (.slice a0 s.steps.length c0) ∧ u2.drew.cell? ⟨w.heap.size, 3, none⟩ = some (.int .i64 s.high) ∧ u2.drew.cell? ⟨w.heap.size, 4, none⟩ = some (.slice a1 s.reps.length c1) ∧ u2.drew.cell? ⟨w1.heap.size, 0, none⟩ = some (.int .u64 ((setR s.steps s.reps.length : Nat) : Int)) := ⟨celB BU q0, celB BU q1, celB BU q2, celB BU q3, celB BU q4, by rw [← hu2]; simp [go_sem]⟩
                  go_wp2_with fail
                  try rw [hu2]
                  refine wp_region_noPanic ?_
                  refine wp_region_held_drew (S := fun w' => w'.cell? ⟨w.heap.size, 0, none⟩ = some (.int .i64 s.epoch) ∧ w'.cell? ⟨w.heap.size, 1, none⟩ = some (.int .i64 s.leader) ∧ w'.cell? ⟨w.heap.size, 2, none⟩ = some (.slice a0 s.steps.length c0) ∧ w'.cell? ⟨w.heap.size, 3, none⟩ = some (.int .i64 s.high) ∧ w'.cell? ⟨w.heap.size, 4, none⟩ = some (.slice a1 s.reps.length c1) ∧ w'.cell? ⟨w1.heap.size, 0, none⟩ = some (.int .u64 ((setR s.steps s.reps.length : Nat) : Int))) (by kernel_rfl) kk2 (fun hH => ?_)
                  refine wpAnyH_take (i := 0) (oi := ⟨_, _, _, _, _, _⟩) (v := ?vgd0) rfl (by kernel_rfl) (by kernel_rfl) (by kernel_rfl) (fun _ _ _ h => h) (Or.inl ⟨by rfl, ?ygd0⟩) (by assumption) ?rgd0
                  case ygd0 => intro w hSw; (try dsimp only at hSw); go_simp; try with_reducible rfl
                  try simp only [Act.put, List.setIfInBounds_toArray, List.set_cons_zero, List.set_cons_succ]
                  refine wpAnyH_take (i := 1) (oi := ⟨_, _, _, _, _, _⟩) (v := ?vgd1) rfl (by kernel_rfl) (by kernel_rfl) (by kernel_rfl) (fun _ _ _ h => h) (Or.inl ⟨by rfl, ?ygd1⟩) (by assumption) ?rgd1
                  case ygd1 => intro w hSw; (try dsimp only at hSw); go_simp; try with_reducible rfl
                  try simp only [Act.put, List.setIfInBounds_toArray, List.set_cons_zero, List.set_cons_succ]
                  refine wpAnyH_take (i := 2) (oi := ⟨_, _, _, _, _, _⟩) (v := ?vgd2) rfl (by kernel_rfl) (by kernel_rfl) (by kernel_rfl) (fun _ _ _ h => h) (Or.inl ⟨by rfl, ?ygd2⟩) (by assumption) ?rgd2
                  case ygd2 => intro w hSw; (try dsimp only at hSw); go_simp; try with_reducible rfl
                  try simp only [Act.put, List.setIfInBounds_toArray, List.set_cons_zero, List.set_cons_succ]
                  refine wpAnyH_take (i := 3) (oi := ⟨_, _, _, _, _, _⟩) (v := ?vgd3) rfl (by kernel_rfl) (by kernel_rfl) (by kernel_rfl) (fun _ _ _ h => h) (Or.inl ⟨by rfl, ?ygd3⟩) (by assumption) ?rgd3
                  case ygd3 => intro w hSw; (try dsimp only at hSw); go_simp; try with_reducible rfl
                  try simp only [Act.put, List.setIfInBounds_toArray, List.set_cons_zero, List.set_cons_succ]
                  refine wpAnyH_take (i := 4) (oi := ⟨_, _, _, _, _, _⟩) (v := ?vgd4) rfl (by kernel_rfl) (by kernel_rfl) (by kernel_rfl) (fun _ _ _ h => h) (Or.inl ⟨by rfl, ?ygd4⟩) (by assumption) ?rgd4
                  case ygd4 => intro w hSw; (try dsimp only at hSw); go_simp; try with_reducible rfl
                  try simp only [Act.put, List.setIfInBounds_toArray, List.set_cons_zero, List.set_cons_succ]
                  refine wpAnyH_ready (rs := [5]) (by kernel_rfl) (by simp) ?_
                  refine AllReadyH.cons (o := ⟨_, _, _, _, _, _⟩) rfl (fun KK hK => ?_) AllReadyH.nil
                  go_simp
                  refine (only_z _ f (by omega) HF.out _).mono ?_
                  rintro r w3 ⟨rfl, hB3⟩
                  have kk3 : w3.cell? ⟨w.heap.size, 0, none⟩ = some (.int .i64 s.epoch) ∧ w3.cell? ⟨w.heap.size, 1, none⟩ = some (.int .i64 s.leader) ∧ w3.cell? ⟨w.heap.size, 2, none⟩ = some (.slice a0 s.steps.length c0) ∧ w3.cell? ⟨w.heap.size, 3, none⟩ = some (.int .i64 s.high) ∧ w3.cell? ⟨w.heap.size, 4, none⟩ = some (.slice a1 s.reps.length c1) ∧ w3.cell? ⟨w1.heap.size, 0, none⟩ = some (.int .u64 ((setR s.steps s.reps.length : Nat) : Int)) := ⟨celB hB3 kk2.1, celB hB3 kk2.2.1, celB hB3 kk2.2.2.1, celB hB3 kk2.2.2.2.1, celB hB3 kk2.2.2.2.2.1, celB hB3 kk2.2.2.2.2.2⟩
                  have BU3 := stGr BU hB3
                  clear hB3
                  go_wp2_with fail
                  refine hK.out _ _ kk3 (fun hH5 => ?_)
                  clear hK KK hH
                  try simp only [Act.put, List.setIfInBounds_toArray, List.set_cons_zero, List.set_cons_succ]
                  refine wpAnyH_ready (rs := [6]) (by kernel_rfl) (by simp) ?_
                  refine AllReadyH.cons (o := ⟨_, _, _, _, _, _⟩) rfl (fun KK hK => ?_) AllReadyH.nil
                  go_simp
                  refine (meets_c _ _ hS7 (Nat.pow_lt_pow_right (by omega) hf7) _ _ (HM.out.trans g6)).mono ?_
                  rintro r w4 ⟨rfl, hB4⟩
                  have kk4 : w4.cell? ⟨w.heap.size, 0, none⟩ = some (.int .i64 s.epoch) ∧ w4.cell? ⟨w.heap.size, 1, none⟩ = some (.int .i64 s.leader) ∧ w4.cell? ⟨w.heap.size, 2, none⟩ = some (.slice a0 s.steps.length c0) ∧ w4.cell? ⟨w.heap.size, 3, none⟩ = some (.int .i64 s.high) ∧ w4.cell? ⟨w.heap.size, 4, none⟩ = some (.slice a1 s.reps.length c1) ∧ w4.cell? ⟨w1.heap.size, 0, none⟩ = some (.int .u64 ((setR s.steps s.reps.length : Nat) : Int)) := ⟨celB hB4 kk3.1, celB hB4 kk3.2.1, celB hB4 kk3.2.2.1, celB hB4 kk3.2.2.2.1, celB hB4 kk3.2.2.2.2.1, celB hB4 kk3.2.2.2.2.2⟩
                  have BU4 := stGr BU3 hB4
                  clear hB4
                  go_wp2_with fail
                  refine hK.out _ _ kk4 (fun hH6 => ?_)
                  clear hK KK hH5
                  try simp only [Act.put, List.setIfInBounds_toArray, List.set_cons_zero, List.set_cons_succ]
                  refine wpAnyH_take (i := 7) (oi := ⟨_, _, _, _, _, _⟩) (v := ?vgd7) rfl (by kernel_rfl) (by kernel_rfl) (by kernel_rfl) (fun _ _ _ h => h) (Or.inl ⟨by rfl, ?ygd7⟩) (by assumption) ?rgd7
                  case ygd7 => intro w hSw; (try dsimp only at hSw); go_simp; try with_reducible rfl
                  try simp only [Act.put, List.setIfInBounds_toArray, List.set_cons_zero, List.set_cons_succ]
                  refine wpAnyH_take (i := 8) (oi := ⟨_, _, _, _, _, _⟩) (v := ?vgd8) rfl (by kernel_rfl) (by kernel_rfl) (by kernel_rfl) (fun _ _ _ h => h) (Or.inl ⟨by rfl, ?ygd8⟩) (by assumption) ?rgd8
                  case ygd8 => intro w hSw; (try dsimp only at hSw); go_simp; try with_reducible rfl
                  try simp only [Act.put, List.setIfInBounds_toArray, List.set_cons_zero, List.set_cons_succ]
                  refine wpAnyH_take (i := 9) (oi := ⟨_, _, _, _, _, _⟩) (v := ?vgd9) rfl (by kernel_rfl) (by kernel_rfl) (by kernel_rfl) (fun _ _ _ h => h) (Or.inl ⟨by rfl, ?ygd9⟩) (by assumption) ?rgd9
                  case ygd9 => intro w hSw; (try dsimp only at hSw); go_simp; try with_reducible rfl
                  try simp only [Act.put, List.setIfInBounds_toArray, List.set_cons_zero, List.set_cons_succ]
                  refine wpAnyH_ready (rs := [10]) (by kernel_rfl) (by simp) ?_
                  refine AllReadyH.cons (o := ⟨_, _, _, _, _, _⟩) rfl (fun KK hK => ?_) AllReadyH.nil
                  go_simp
                  refine (goodHigh_c s f lg _ _ _ _ _ ((hs.below bW).below BU4) hl HF.out hfn hn6 HL.out HR.out _ g7).mono ?_
                  rintro r w5 ⟨rfl, hB5⟩
                  have kk5 : w5.cell? ⟨w.heap.size, 0, none⟩ = some (.int .i64 s.epoch) ∧ w5.cell? ⟨w.heap.size, 1, none⟩ = some (.int .i64 s.leader) ∧ w5.cell? ⟨w.heap.size, 2, none⟩ = some (.slice a0 s.steps.length c0) ∧ w5.cell? ⟨w.heap.size, 3, none⟩ = some (.int .i64 s.high) ∧ w5.cell? ⟨w.heap.size, 4, none⟩ = some (.slice a1 s.reps.length c1) ∧ w5.cell? ⟨w1.heap.size, 0, none⟩ = some (.int .u64 ((setR s.steps s.reps.length : Nat) : Int)) := ⟨celB hB5 kk4.1, celB hB5 kk4.2.1, celB hB5 kk4.2.2.1, celB hB5 kk4.2.2.2.1, celB hB5 kk4.2.2.2.2.1, celB hB5 kk4.2.2.2.2.2⟩
                  have BU5 := stGr BU4 hB5
                  clear hB5
                  go_wp2_with fail
                  refine hK.out _ _ kk5 (fun hH10 => ?_)
                  clear hK KK hH6
                  try simp only [Act.put, List.setIfInBounds_toArray, List.set_cons_zero, List.set_cons_succ]
                  refine wpAnyH_take (i := 11) (oi := ⟨_, _, _, _, _, _⟩) (v := ?vgd11) rfl (by kernel_rfl) (by kernel_rfl) (by kernel_rfl) (fun _ _ _ h => h) (Or.inl ⟨by rfl, ?ygd11⟩) (by assumption) ?rgd11
                  case ygd11 => intro w hSw; (try dsimp only at hSw); go_simp; try with_reducible rfl
                  try simp only [Act.put, List.setIfInBounds_toArray, List.set_cons_zero, List.set_cons_succ]
                  refine wpAnyH_take (i := 12) (oi := ⟨_, _, _, _, _, _⟩) (v := ?vgd12) rfl (by kernel_rfl) (by kernel_rfl) (by kernel_rfl) (fun _ _ _ h => h) (Or.inl ⟨by rfl, ?ygd12⟩) (by assumption) ?rgd12
                  case ygd12 => intro w hSw; (try dsimp only at hSw); go_simp; try with_reducible rfl
                  try simp only [Act.put, List.setIfInBounds_toArray, List.set_cons_zero, List.set_cons_succ]
                  refine wpAnyH_done (by kernel_rfl) (NoPanic.normal ?_) _
                  have BW := stGr bW BU5
                  clear hu2
                  go_wp2
                  go_ret
                  exact ⟨ret_bool HE.out.symm, BW⟩

theorem implGoodGr_c (s : Gr) (a0 a1 : Option Addr) (c0 c1 : Nat) (w : World) (hs : GrR w s a0 a1) (hl : GrL s) (b : Bool) (h : goodGr s = b) :
    Calls Tryd.prog 45 #[grV s a0 c0 a1 c1] w fun r w' => r = .returned (.bool b) ∧ Below w.heap.size w w' := by
  rw [← h]; exact implGoodGr0_any s a0 a1 c0 c1 w hs hl
theorem implGoodGr_any (s : Gr) (a0 a1 : Option Addr) (c0 c1 : Nat) (w : World) (hs : GrR w s a0 a1) (hb : GrB s) :
    Calls Tryd.prog 45 #[grV s a0 c0 a1 c1] w fun e w' => e = .returned (.bool (goodGr s)) ∧ Below w.heap.size w w' := implGoodGr0_any s a0 a1 c0 c1 w hs hb.len

end Go.Proofs.YtkhbgdnhkaeamaaDoor
