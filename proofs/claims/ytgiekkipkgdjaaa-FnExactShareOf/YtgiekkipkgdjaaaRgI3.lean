/-
  Groups that read, the program's side: GoodReaders, LeftToRead, OwnerOf, ShareOf.
-/
import Derived.Test.YtgiekkipkgdjaaaRgI2
import Derived.Test.YtgiekkipkgdjaaaRgS3
namespace Go.Proofs.Ytgiekkipkgdjaaa
open Go.RowKit

set_option maxRecDepth 100000 in
set_option maxHeartbeats 8000000 in
theorem implGoodRg_l (s : Rg) (a0 a1 a2 : Option Addr) (c0 c1 c2 : Nat) (w : World) (hs : RgR w s a0 a1 a2) (hl : RgL s) :
    Calls Try.prog 21 #[rgV s a0 c0 a1 c1 a2 c2] w fun e w' => e = .returned (.bool (goodRg s)) ∧ Below w.heap.size w w' := by
  have n0 := hl.rds
  have n1 := hl.com
  have n2 := hl.ends
  unfold maxLen at n0 n1 n2
  obtain ⟨u0, hu0⟩ : ∃ u0, (w.alloc (.cells #[.int .i64 s.gen, .slice a0 s.rds.length c0, .slice a1 s.com.length c1, .slice a2 s.ends.length c2] 25)) = u0 := ⟨_, rfl⟩
  have q0 : u0.cell? ⟨w.heap.size, 0, none⟩ = some (.int .i64 s.gen) := by rw [← hu0]; simp [go_sem]
  have q1 : u0.cell? ⟨w.heap.size, 1, none⟩ = some (.slice a0 s.rds.length c0) := by rw [← hu0]; simp [go_sem]
  have q2 : u0.cell? ⟨w.heap.size, 2, none⟩ = some (.slice a1 s.com.length c1) := by rw [← hu0]; simp [go_sem]
  have q3 : u0.cell? ⟨w.heap.size, 3, none⟩ = some (.slice a2 s.ends.length c2) := by rw [← hu0]; simp [go_sem]
  have bB : Below w.heap.size w u0 := by rw [← hu0]; exact alRg _ _
  have hs0 := hs.below bB
  have hE := hs0.ends
  have hC := hs0.com
  cases g1 : inB s.rds.length 1 5 with
  | false =>
    have HE : Hid (goodRg s = false) := goodI_1 g1
    go_enter Try.func21, Try.ntmps21
    go_wp2_with (go_at_call 42; refine (oneUpTo_c _ _ _ _ g1).mono ?_; rintro e w' ⟨rfl, hw⟩; rw [hw]; clear hw w')
    go_ret
    exact ⟨ret_bool HE.out.symm, bB⟩
  | true =>
  cases g2 : pEnds s.ends with
  | false =>
    have HE : Hid (goodRg s = false) := goodI_2 g2
    go_enter Try.func21, Try.ntmps21
    go_wp2_with (first | (go_at_call 42; refine (oneUpTo_c _ _ _ _ g1).mono ?_; rintro e w' ⟨rfl, hw⟩; rw [hw]; clear hw w') | (go_at_call 43; refine (goodPartEnds_c _ _ _ _ _ hE hl.ends g2).mono ?_; rintro e w' ⟨rfl, hw⟩; rw [hw]; clear hw w'))
    go_ret
    exact ⟨ret_bool HE.out.symm, bB⟩
  | true =>
  cases g3 : inB s.gen 0 1000 with
  | false =>
    have HE : Hid (goodRg s = false) := goodI_3 g3
    go_enter Try.func21, Try.ntmps21
    go_wp2_with (first | (go_at_call 42; refine (oneUpTo_c _ _ _ _ g1).mono ?_; rintro e w' ⟨rfl, hw⟩; rw [hw]; clear hw w') | (go_at_call 43; refine (goodPartEnds_c _ _ _ _ _ hE hl.ends g2).mono ?_; rintro e w' ⟨rfl, hw⟩; rw [hw]; clear hw w') | (go_at_call 53; refine (within_c _ _ _ _ g3).mono ?_; rintro e w' ⟨rfl, hw⟩; rw [hw]; clear hw w'))
    go_ret
    exact ⟨ret_bool HE.out.symm, bB⟩
  | true =>
  cases g4 : eachB s.com s.ends with
  | false =>
    have HE : Hid (goodRg s = false) := goodI_4 g4
    go_enter Try.func21, Try.ntmps21
    go_wp2_with (first | (go_at_call 42; refine (oneUpTo_c _ _ _ _ g1).mono ?_; rintro e w' ⟨rfl, hw⟩; rw [hw]; clear hw w') | (go_at_call 43; refine (goodPartEnds_c _ _ _ _ _ hE hl.ends g2).mono ?_; rintro e w' ⟨rfl, hw⟩; rw [hw]; clear hw w') | (go_at_call 53; refine (within_c _ _ _ _ g3).mono ?_; rintro e w' ⟨rfl, hw⟩; rw [hw]; clear hw w') | (go_at_call 54; refine (eachUpTo_c _ _ _ _ _ _ _ _ hC hE hl.com g4).mono ?_; rintro e w' ⟨rfl, hw⟩; rw [hw]; clear hw w'))
    go_ret
    exact ⟨ret_bool HE.out.symm, bB⟩
  | true =>
    have hn5 := (inB_t.1 g1).2
    have hn : s.rds.length ≤ 5 := by omega
    have he : s.ends.length ≤ 6 := by
      have := g2
      simp only [pEnds, Bool.and_eq_true] at this
      have := (inB_t.1 this.1).2
      omega
    have HT : Hid (rdsTo s s.rds.length → goodRg s = true) := fun h => goodI_5 g1 g2 g3 g4 h
    go_enter Try.func21, Try.ntmps21
    go_wp2_with (first | (go_at_call 42; refine (oneUpTo_c _ _ _ _ g1).mono ?_; rintro e w' ⟨rfl, hw⟩; rw [hw]; clear hw w') | (go_at_call 43; refine (goodPartEnds_c _ _ _ _ _ hE hl.ends g2).mono ?_; rintro e w' ⟨rfl, hw⟩; rw [hw]; clear hw w') | (go_at_call 53; refine (within_c _ _ _ _ g3).mono ?_; rintro e w' ⟨rfl, hw⟩; rw [hw]; clear hw w') | (go_at_call 54; refine (eachUpTo_c _ _ _ _ _ _ _ _ hC hE hl.com g4).mono ?_; rintro e w' ⟨rfl, hw⟩; rw [hw]; clear hw w'))
    clear hu0 g1 g2 g3 g4 hE hC
    go_loopw [32] (fun i wr => ∃ k : Nat, k ≤ s.rds.length ∧ i = .int .i64 k ∧ Hid (rdsTo s k) ∧ Below u0.heap.size u0 wr) (fun i _ => s.rds.length - (intOf i).toNat)
    case atStart => exact ⟨0, Nat.zero_le _, rfl, (fun i hi => absurd hi (Nat.not_lt_zero _)), Below.refl _ _⟩
    case round =>
      obtain ⟨k, hk, rfl, HO, hB⟩ := hrel
      have p0 := celB hB q0
      have p1 := celB hB q1
      have p2 := celB hB q2
      have p3 := celB hB q3
      by_cases hlt : k < s.rds.length
      · have hki : (k : Int) < (s.rds.length : Int) := by omega
        obtain ⟨g, hg⟩ : ∃ g, okRx s k (rxA s.rds k) = g := ⟨_, rfl⟩
        have HG : Hid (okRx s k (rxA s.rds k) = g) := hg
        have hsB := hs0.below hB
        clear hg
        go_wp2_with fail
        refine (goodReader_c s k _ _ _ _ _ _ _ _ hsB hlt hn he HG.out).mono ?_
        rintro r w1 ⟨rfl, hB1⟩
        have BB := stRg hB hB1
        clear hB1 p0 p1 p2 p3
        cases g
        · have HE : Hid (goodRg s = false) := goodRg_3 hlt HG.out
          go_wp2
          go_ret
          exact ⟨ret_bool HE.out.symm, stRg bB BB⟩
        · have HN : Hid (rdsTo s (k + 1)) := rdsTo_succ HO.out HG.out
          go_wp2
          go_roundw
          case rel => exact ⟨k + 1, by omega, by go_num, HN.out, BB⟩
          case measure => simp [intOf]; omega
      · obtain rfl : k = s.rds.length := by omega
        have HE : Hid (goodRg s = true) := HT.out HO.out
        go_wp2
        go_ret
        exact ⟨ret_bool HE.out.symm, stRg bB hB⟩

theorem implGoodRg_c (s : Rg) (a0 a1 a2 : Option Addr) (c0 c1 c2 : Nat) (b : Bool) (w : World) (hs : RgR w s a0 a1 a2) (hl : RgL s) (h : goodRg s = b) :
    Calls Try.prog 21 #[rgV s a0 c0 a1 c1 a2 c2] w fun e w' => e = .returned (.bool b) ∧ Below w.heap.size w w' := by
  rw [← h]; exact implGoodRg_l s a0 a1 a2 c0 c1 c2 w hs hl

/-- Some numbers together. -/
def togTo (zs : List Int) : Nat → Int
  | 0 => 0
  | k + 1 => togTo zs k + zA zs k
theorem togTo_rg {zs : List Int} (h : ∀ i, i < zs.length → 0 ≤ zA zs i ∧ zA zs i ≤ 100) : ∀ k, k ≤ zs.length → 0 ≤ togTo zs k ∧ togTo zs k ≤ 100 * (k : Int)
  | 0, _ => by simp [togTo]
  | k + 1, hk => by
    have := togTo_rg h k (by omega)
    have := h k (by omega)
    rw [togTo]
    omega
theorem leftTo_tog (g : Rg) : ∀ k, leftTo g k = togTo g.ends k - togTo g.com k
  | 0 => by simp [leftTo, togTo]
  | k + 1 => by rw [leftTo, leftTo_tog g k, togTo, togTo]; omega

set_option maxHeartbeats 1000000 in
theorem together_c (a : Option Addr) (c : Nat) (zs : List Int) (t : Int) (w : World) (hs : Ints w a zs) (hl : zs.length ≤ 1000) (ha : ∀ i, i < zs.length → 0 ≤ zA zs i ∧ zA zs i ≤ 100) (ht : togTo zs zs.length = t) :
    Calls Try.prog 70 #[.slice a zs.length c] w fun e w' => e = .returned (.int .i64 t) ∧ w' = w := by
  subst ht
  have HA : Hid (∀ k, k ≤ zs.length → 0 ≤ togTo zs k ∧ togTo zs k ≤ 100000) := fun k hk => by
    have := togTo_rg ha k hk
    omega
  have HA2 : Hid (∀ i, i < zs.length → 0 ≤ zA zs i ∧ zA zs i ≤ 100) := ha
  clear ha
  go_enter Try.func70, Try.ntmps70
  go_wp2
  go_loop [3, 8] (fun x i => ∃ k : Nat, k ≤ zs.length ∧ x = .int .i64 (togTo zs k) ∧ i = .int .i64 k) (fun _ i => zs.length - (intOf i).toNat)
  case atStart => exact ⟨0, Nat.zero_le _, rfl, rfl⟩
  case round =>
    obtain ⟨k, hk, rfl, rfl⟩ := hrel
    by_cases hlt : k < zs.length
    · obtain ⟨b, off, rfl, hc⟩ := hs k _ (zA_get hlt)
      have hki : (k : Int) < (zs.length : Int) := by omega
      have HN : Hid (togTo zs (k + 1) = togTo zs k + zA zs k) := rfl
      obtain ⟨y1, y2⟩ := HA.out k hk
      obtain ⟨z1, z2⟩ := HA2.out k hlt
      obtain ⟨y, hy⟩ : ∃ y, togTo zs k = y := ⟨_, rfl⟩
      obtain ⟨z, hz⟩ : ∃ z, zA zs k = z := ⟨_, rfl⟩
      rw [hy, hz] at HN
      rw [hy] at y1 y2 ⊢
      rw [hz] at z1 z2 hc
      clear hs hy hz
      go_wp2
      go_round
      case rel => exact ⟨k + 1, by omega, by rw [HN.out], by go_num⟩
      case measure => simp [intOf]; omega
    · obtain rfl : k = zs.length := by omega
      go_wp2
      go_ret
      exact ⟨rfl, rfl⟩

set_option maxRecDepth 100000 in
set_option maxHeartbeats 4000000 in
theorem implLeft_l (s : Rg) (a0 a1 a2 : Option Addr) (c0 c1 c2 : Nat) (w : World) (hs : RgR w s a0 a1 a2) (hl : RgL s) :
    Calls Try.prog 40 #[rgV s a0 c0 a1 c1 a2 c2] w fun e w' => e = .returned (.tuple #[.int .i64 (lftN s), .bool (goodRg s)]) ∧ Below w.heap.size w w' := by
  obtain ⟨u0, hu0⟩ : ∃ u0, (w.alloc (.cells #[.int .i64 s.gen, .slice a0 s.rds.length c0, .slice a1 s.com.length c1, .slice a2 s.ends.length c2] 25)) = u0 := ⟨_, rfl⟩
  have q0 : u0.cell? ⟨w.heap.size, 0, none⟩ = some (.int .i64 s.gen) := by rw [← hu0]; simp [go_sem]
  have q1 : u0.cell? ⟨w.heap.size, 1, none⟩ = some (.slice a0 s.rds.length c0) := by rw [← hu0]; simp [go_sem]
  have q2 : u0.cell? ⟨w.heap.size, 2, none⟩ = some (.slice a1 s.com.length c1) := by rw [← hu0]; simp [go_sem]
  have q3 : u0.cell? ⟨w.heap.size, 3, none⟩ = some (.slice a2 s.ends.length c2) := by rw [← hu0]; simp [go_sem]
  have bB : Below w.heap.size w u0 := by rw [← hu0]; exact alRg _ _
  cases hg : goodRg s with
  | false =>
    have HE : Hid (lftN s = 0) := by show _ = _; simp [lftN, hg]
    go_enter Try.func40, Try.ntmps40
    go_wp2_with fail
    refine (implGoodRg_c s _ _ _ _ _ _ _ _ (hs.below bB) hl hg).mono ?_
    rintro r w1 ⟨rfl, hB1⟩
    clear hu0
    go_wp2
    exact bodyPost_ret (v := .tuple #[.int .i64 0, .bool false]) (by simp [results, Try.results40, go_sem]) rfl ⟨by rw [HE.out], stRg bB hB1⟩
  | true =>
    obtain ⟨h1, h2, h3, h4, h5, h6⟩ := goodRg_is hg
    obtain ⟨y, hy⟩ : ∃ y, togTo s.ends s.ends.length = y := ⟨_, rfl⟩
    obtain ⟨z, hz⟩ : ∃ z, togTo s.com s.com.length = z := ⟨_, rfl⟩
    have he1 : ∀ i, i < s.ends.length → 0 ≤ zA s.ends i ∧ zA s.ends i ≤ 100 := fun i hi => by have := h6 i hi; omega
    have hc1 : ∀ i, i < s.com.length → 0 ≤ zA s.com i ∧ zA s.com i ≤ 100 := fun i hi => by have := h6 i (by omega); omega
    have r1 := togTo_rg he1 s.ends.length (Nat.le_refl _)
    have r2 := togTo_rg hc1 s.com.length (Nat.le_refl _)
    rw [hy] at r1
    rw [hz] at r2
    have HE : Hid (lftN s = y - z) := by show _ = _; rw [lftN, if_pos hg, leftTo_tog, hy, ← h5, hz]
    have le1 : s.ends.length ≤ 1000 := by omega
    have le2 : s.com.length ≤ 1000 := by omega
    have y0 : 0 ≤ y ∧ y ≤ 1000 := by omega
    have z0 : 0 ≤ z ∧ z ≤ 1000 := by omega
    obtain ⟨y1, y2⟩ := y0
    obtain ⟨z1, z2⟩ := z0
    have HE1 : Hid (∀ i, i < s.ends.length → 0 ≤ zA s.ends i ∧ zA s.ends i ≤ 100) := he1
    have HC1 : Hid (∀ i, i < s.com.length → 0 ≤ zA s.com i ∧ zA s.com i ≤ 100) := hc1
    clear h5 h6 he1 hc1 r1 r2
    go_enter Try.func40, Try.ntmps40
    go_wp2_with fail
    refine (implGoodRg_c s _ _ _ _ _ _ _ _ (hs.below bB) hl hg).mono ?_
    rintro r w1 ⟨rfl, hB1⟩
    have p2 := celB hB1 q2
    have p3 := celB hB1 q3
    have hs1 := (hs.below bB).below hB1
    have HYE : ∀ q, Ints (w1.drewN q) a2 s.ends := fun q => hs1.ends.below (below_drewN (Below.refl _ _) q)
    have HYC : ∀ q, Ints (w1.drewN q) a1 s.com := fun q => hs1.com.below (below_drewN (Below.refl _ _) q)
    have HY : Hid (togTo s.ends s.ends.length = y) := hy
    have HZ : Hid (togTo s.com s.com.length = z) := hz
    have BBE := fun q => stRg bB (stRg hB1 (below_drewN (Below.refl w1.heap.size w1) q))
    clear hu0 hy hz hs1 hs
    go_wp2
    go_quiet (first | (go_at_call 70; refine Calls.quiet_of_same (together_c _ _ _ _ _ (by first | exact HYE _ | exact HYC _) (by first | exact le1 | exact le2) (by first | exact HE1.out | exact HC1.out) (by first | exact HY.out | exact HZ.out))))
    go_wp2
    exact bodyPost_ret (v := .tuple #[.int .i64 (y - z), .bool true]) (by simp [results, Try.results40, go_sem]) rfl ⟨by rw [HE.out], BBE _⟩

end Go.Proofs.Ytgiekkipkgdjaaa
