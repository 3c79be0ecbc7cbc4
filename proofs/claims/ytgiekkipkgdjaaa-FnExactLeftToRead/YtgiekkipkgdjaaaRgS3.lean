/-
  Groups that read, the specification's side: LeftToRead, OwnerOf, ShareOf.
-/
import Derived.Test.YtgiekkipkgdjaaaRgS2
namespace Go.Proofs.Ytgiekkipkgdjaaa
open Go.RowKit

set_option maxRecDepth 100000 in
set_option maxHeartbeats 4000000 in
theorem specLeftToRead_any (s : Rg) (a0 a1 a2 : Option Addr) (c0 c1 c2 : Nat) (w : World) (hs : RgR w s a0 a1 a2) (hl : RgL s) :
    Calls Try.prog 39 #[rgV s a0 c0 a1 c1 a2 c2] w fun e w' => e = .returned (.tuple #[.int .i64 (lftN s), .bool (goodRg s)]) ∧ Below w.heap.size w w' := by
  obtain ⟨u0, hu0⟩ : ∃ u0, (w.alloc (.cells #[.int .i64 s.gen, .slice a0 s.rds.length c0, .slice a1 s.com.length c1, .slice a2 s.ends.length c2] 25)) = u0 := ⟨_, rfl⟩
  have q0 : u0.cell? ⟨w.heap.size, 0, none⟩ = some (.int .i64 s.gen) := by rw [← hu0]; simp [go_sem]
  have q1 : u0.cell? ⟨w.heap.size, 1, none⟩ = some (.slice a0 s.rds.length c0) := by rw [← hu0]; simp [go_sem]
  have q2 : u0.cell? ⟨w.heap.size, 2, none⟩ = some (.slice a1 s.com.length c1) := by rw [← hu0]; simp [go_sem]
  have q3 : u0.cell? ⟨w.heap.size, 3, none⟩ = some (.slice a2 s.ends.length c2) := by rw [← hu0]; simp [go_sem]
  have bB : Below w.heap.size w u0 := by rw [← hu0]; exact alRg _ _
  cases hg : goodRg s with
  | false =>
    have HE : Hid (lftN s = 0) := by show _ = _; simp [lftN, hg]
    go_enter Try.func39, Try.ntmps39
    go_wp2_with fail
    refine (specGoodRg_c s _ _ _ _ _ _ _ _ (hs.below bB) hl hg).mono ?_
    rintro r w1 ⟨rfl, hB1⟩
    clear hu0
    go_wp2
    exact bodyPost_ret (v := .tuple #[.int .i64 0, .bool false]) (by simp [results, Try.results39, go_sem]) rfl ⟨by rw [HE.out], stRg bB hB1⟩
  | true =>
    obtain ⟨h1, h2, h3, h4, h5, h6⟩ := goodRg_is hg
    have HE : Hid (lftN s = leftTo s s.ends.length) := by show _ = _; simp [lftN, hg]
    have HR : Hid (∀ k, k ≤ s.ends.length → 0 ≤ leftTo s k ∧ leftTo s k ≤ 100 * (k : Int)) := leftTo_rg h6
    have H6 : Hid (∀ p, p < s.ends.length → 0 ≤ zA s.com p ∧ zA s.com p ≤ zA s.ends p ∧ zA s.ends p ≤ 100) := h6
    have H5 : Hid (s.com.length = s.ends.length) := h5
    clear h5 h6
    go_enter Try.func39, Try.ntmps39
    go_wp2_with fail
    refine (specGoodRg_c s _ _ _ _ _ _ _ _ (hs.below bB) hl hg).mono ?_
    rintro r w1 ⟨rfl, hB1⟩
    have p2 := celB hB1 q2
    have p3 := celB hB1 q3
    have hs1 := (hs.below bB).below hB1
    clear hu0
    go_wp2
    go_loop [4, 13] (fun n i => ∃ k : Nat, k ≤ s.ends.length ∧ i = .int .i64 k ∧ n = .int .i64 (leftTo s k)) (fun _ i => s.ends.length - (intOf i).toNat)
    case atStart => exact ⟨0, Nat.zero_le _, rfl, rfl⟩
    case round =>
      obtain ⟨k, hk, rfl, rfl⟩ := hrel
      obtain ⟨y0, y1⟩ := HR.out k hk
      by_cases hlt : k < s.ends.length
      · have hlt2 : k < s.com.length := by have := H5.out; omega
        obtain ⟨b1, o1, rfl, hc1⟩ := hs1.ends k _ (zA_get hlt)
        obtain ⟨b2, o2, rfl, hc2⟩ := hs1.com k _ (zA_get hlt2)
        have hki : (k : Int) < (s.ends.length : Int) := by omega
        have hki2 : (k : Int) < (s.com.length : Int) := by omega
        obtain ⟨z0, z1, z2⟩ := H6.out k hlt
        have HN : Hid (leftTo s (k + 1) = leftTo s k + (zA s.ends k - zA s.com k)) := rfl
        obtain ⟨x, hx⟩ : ∃ x, zA s.ends k = x := ⟨_, rfl⟩
        obtain ⟨y, hy⟩ : ∃ y, zA s.com k = y := ⟨_, rfl⟩
        obtain ⟨t, ht⟩ : ∃ t, leftTo s k = t := ⟨_, rfl⟩
        rw [hx, hy, ht] at HN
        rw [hx] at hc1 z1 z2
        rw [hy] at hc2 z0 z1
        rw [ht] at y0 y1 ⊢
        clear hx hy ht hs1 hs
        go_wp2
        go_round
        case rel => exact ⟨k + 1, by omega, by go_num, by rw [HN.out]⟩
        case measure => simp [intOf]; omega
      · obtain rfl : k = s.ends.length := by omega
        go_wp2
        exact bodyPost_ret (v := .tuple #[.int .i64 (leftTo s s.ends.length), .bool true]) (by simp [results, Try.results39, go_sem]) rfl ⟨by rw [HE.out], stRg bB hB1⟩

theorem own_f {s : Rg} {z : Int} (h : ownB s z = false) : ownN s z = 0 ∧ ownB s z = false := by simp [ownN, h]
theorem range_find {n : Nat} {f : Nat → Bool} {k : Nat} (hk : k < n) (h0 : ∀ i, i < k → f i = false) (h1 : f k = true) : (List.range n).find? f = some k := by
  rw [List.find?_range_eq_some]
  exact ⟨h1, by simpa using hk, fun j hj => by simp [h0 j hj]⟩

set_option maxRecDepth 100000 in
set_option maxHeartbeats 4000000 in
theorem specOwnerOf_any (s : Rg) (z : Int) (a0 a1 a2 : Option Addr) (c0 c1 c2 : Nat) (w : World) (hs : RgR w s a0 a1 a2) (hl : RgL s) :
    Calls Try.prog 37 #[rgV s a0 c0 a1 c1 a2 c2, .int .i64 z] w fun e w' => e = .returned (.tuple #[.int .i64 (ownN s z), .bool (ownB s z)]) ∧ Below w.heap.size w w' := by
  obtain ⟨u0, hu0⟩ : ∃ u0, (w.alloc (.cells #[.int .i64 s.gen, .slice a0 s.rds.length c0, .slice a1 s.com.length c1, .slice a2 s.ends.length c2] 25)) = u0 := ⟨_, rfl⟩
  have q0 : u0.cell? ⟨w.heap.size, 0, none⟩ = some (.int .i64 s.gen) := by rw [← hu0]; simp [go_sem]
  have q1 : u0.cell? ⟨w.heap.size, 1, none⟩ = some (.slice a0 s.rds.length c0) := by rw [← hu0]; simp [go_sem]
  have q2 : u0.cell? ⟨w.heap.size, 2, none⟩ = some (.slice a1 s.com.length c1) := by rw [← hu0]; simp [go_sem]
  have q3 : u0.cell? ⟨w.heap.size, 3, none⟩ = some (.slice a2 s.ends.length c2) := by rw [← hu0]; simp [go_sem]
  have bB : Below w.heap.size w u0 := by rw [← hu0]; exact alRg _ _
  cases hg : goodRg s with
  | false =>
    have HE : Hid (ownN s z = 0 ∧ ownB s z = false) := own_f (by simp [ownB, hg])
    go_enter Try.func37, Try.ntmps37
    go_wp2_with fail
    refine (specGoodRg_c s _ _ _ _ _ _ _ _ (hs.below bB) hl hg).mono ?_
    rintro r w1 ⟨rfl, hB1⟩
    clear hu0
    go_wp2
    exact bodyPost_ret (v := .tuple #[.int .i64 0, .bool false]) (by simp [results, Try.results37, go_sem]) rfl ⟨by rw [HE.out.1, HE.out.2], stRg bB hB1⟩
  | true =>
    by_cases hz1 : z < 0
    · have HE : Hid (ownN s z = 0 ∧ ownB s z = false) := own_f (by rw [ownB, thB_f.2 (by omega)]; simp)
      go_enter Try.func37, Try.ntmps37
      go_wp2_with fail
      refine (specGoodRg_c s _ _ _ _ _ _ _ _ (hs.below bB) hl hg).mono ?_
      rintro r w1 ⟨rfl, hB1⟩
      have p3 := celB hB1 q3
      clear hu0
      go_wp2
      exact bodyPost_ret (v := .tuple #[.int .i64 0, .bool false]) (by simp [results, Try.results37, go_sem]) rfl ⟨by rw [HE.out.1, HE.out.2], stRg bB hB1⟩
    by_cases hz2 : (s.ends.length : Int) ≤ z
    · have HE : Hid (ownN s z = 0 ∧ ownB s z = false) := own_f (by rw [ownB, thB_f.2 (by omega)]; simp)
      go_enter Try.func37, Try.ntmps37
      go_wp2_with fail
      refine (specGoodRg_c s _ _ _ _ _ _ _ _ (hs.below bB) hl hg).mono ?_
      rintro r w1 ⟨rfl, hB1⟩
      have p3 := celB hB1 q3
      clear hu0
      go_wp2
      exact bodyPost_ret (v := .tuple #[.int .i64 0, .bool false]) (by simp [results, Try.results37, go_sem]) rfl ⟨by rw [HE.out.1, HE.out.2], stRg bB hB1⟩
    have ht : thB s.ends.length z = true := thB_t.2 ⟨by omega, by omega⟩
    have HB : Hid (ownB s z = (ownAt s z).isSome) := by show _ = _; simp [ownB, hg, ht]
    obtain ⟨-, h5, -, -, -, -⟩ := goodRg_is hg
    go_enter Try.func37, Try.ntmps37
    go_wp2_with fail
    refine (specGoodRg_c s _ _ _ _ _ _ _ _ (hs.below bB) hl hg).mono ?_
    rintro r w1 ⟨rfl, hB1⟩
    have p1 := celB hB1 q1
    have p3 := celB hB1 q3
    clear hu0 ht
    go_wp2
    go_loopw [25] (fun i wr => ∃ k : Nat, k ≤ s.rds.length ∧ i = .int .i64 k ∧ Hid (∀ i, i < k → ownsP s z (rxA s.rds i) = false) ∧ Below u0.heap.size u0 wr) (fun i _ => s.rds.length - (intOf i).toNat)
    case atStart => exact ⟨0, Nat.zero_le _, rfl, (fun i hi => absurd hi (Nat.not_lt_zero _)), hB1⟩
    case round =>
      clear hB1 p1 p3
      obtain ⟨k, hk, rfl, HO, hB⟩ := hrel
      have p0 := celB hB q0
      by_cases hlt : k < s.rds.length
      · obtain ⟨kb, ob, ea, r2, k2, r3, k3, e0, e1, e2, e3, z2, m2, z3, m3⟩ := ((hs.rds.below bB).below hB) k _ (rxA_get hlt)
        subst ea
        have hki : (k : Int) < (s.rds.length : Int) := by omega
        obtain ⟨x, hx⟩ : ∃ x, rxA s.rds k = x := ⟨_, rfl⟩
        have HX : Hid (rxA s.rds k = x) := hx
        rw [hx] at e0 e1 e2 e3 z2 m2
        have H2 : ∀ o, Ints (wr.alloc o) r2 x.share := fun o => z2.below (alRg wr o)
        have y0 : ∀ o, (wr.alloc o).cell? ⟨w.heap.size, 0, none⟩ = some (.int .i64 s.gen) := fun o => celB (alRg wr o) p0
        have HQ : Hid (ownsP s z x = (x.inn && (decide (x.gen = s.gen) && x.share.contains z))) := rfl
        obtain ⟨b, hb⟩ : ∃ b, x.inn = b := ⟨_, rfl⟩
        rw [hb] at e0 HQ
        obtain ⟨c, hc⟩ : ∃ c, (x.gen == s.gen) = c := ⟨_, rfl⟩
        have hc' : decide (x.gen = s.gen) = c := by rw [← hc, Bool.eq_iff_iff]; simp
        rw [hc'] at HQ
        obtain ⟨d, g6⟩ : ∃ d, x.share.contains z = d := ⟨_, rfl⟩
        rw [g6] at HQ
        clear hx z2 z3 hb hc'
        have HNo : ∀ v, ownsP s z x = v → v = false → Hid (∀ i, i < k + 1 → ownsP s z (rxA s.rds i) = false) := fun v hv hf i hi => by
          rcases Nat.lt_or_eq_of_le (Nat.le_of_lt_succ hi) with h | rfl
          · exact HO.out i h
          · rw [HX.out, hv, hf]
        have HYes : ownsP s z x = true → Hid (ownN s z = (k : Int) ∧ ownB s z = true) := fun h => by
          have hA : ownAt s z = some k := range_find hlt HO.out (by rw [HX.out]; exact h)
          have hB2 : ownB s z = true := by rw [HB.out, hA]; rfl
          exact ⟨by rw [ownN, if_pos hB2, hA]; rfl, hB2⟩
        have HNo' : Hid (∀ v, ownsP s z x = v → v = false → Hid (∀ i, i < k + 1 → ownsP s z (rxA s.rds i) = false)) := HNo
        have HYes' : Hid (ownsP s z x = true → Hid (ownN s z = (k : Int) ∧ ownB s z = true)) := HYes
        clear HNo HYes
        cases b <;> cases c <;> cases d
        all_goals
          first
          | (have HE := HYes'.out (by rw [HQ.out]; rfl)
             go_wp2_with (go_at_call 67; refine (l1Has_g _ _ _ _ _ _ (H2 _) m2 g6).mono ?_; rintro e w' ⟨rfl, hw⟩; rw [hw]; clear hw w')
             exact bodyPost_ret (v := .tuple #[.int .i64 (k : Int), .bool true]) (by simp [results, Try.results37, go_sem]) rfl ⟨by rw [HE.out.1, HE.out.2], stRg bB (stRg hB (alRg _ _))⟩)
          | (have HN := HNo'.out false (by rw [HQ.out]; rfl) rfl
             go_wp2_with (go_at_call 67; refine (l1Has_g _ _ _ _ _ _ (H2 _) m2 g6).mono ?_; rintro e w' ⟨rfl, hw⟩; rw [hw]; clear hw w')
             go_roundw
             case rel => exact ⟨k + 1, by omega, by go_num, HN.out, stRg hB (alRg _ _)⟩
             case measure => simp [intOf]; omega)
      · obtain rfl : k = s.rds.length := by omega
        have HE : Hid (ownN s z = 0 ∧ ownB s z = false) := own_f (by
          rw [HB.out, ownAt, List.find?_eq_none.2]
          · rfl
          · intro i hi
            rw [HO.out i (by simpa using hi)]
            simp)
        go_wp2
        exact bodyPost_ret (v := .tuple #[.int .i64 0, .bool false]) (by simp [results, Try.results37, go_sem]) rfl ⟨by rw [HE.out.1, HE.out.2], stRg bB hB⟩

set_option maxRecDepth 100000 in
set_option maxHeartbeats 4000000 in
theorem specShareOf_any (s : Rg) (z : Int) (a0 a1 a2 : Option Addr) (c0 c1 c2 : Nat) (w : World) (hs : RgR w s a0 a1 a2) (hl : RgL s) :
    Calls Try.prog 34 #[rgV s a0 c0 a1 c1 a2 c2, .int .i64 z] w fun e w' => ∃ a' c', e = .returned (.tuple #[.slice a' (shoL s z).length c', .bool (shoB s z)]) ∧ Ints w' a' (shoL s z) ∧ Below w.heap.size w w' := by
  obtain ⟨u0, hu0⟩ : ∃ u0, (w.alloc (.cells #[.int .i64 s.gen, .slice a0 s.rds.length c0, .slice a1 s.com.length c1, .slice a2 s.ends.length c2] 25)) = u0 := ⟨_, rfl⟩
  have q0 : u0.cell? ⟨w.heap.size, 0, none⟩ = some (.int .i64 s.gen) := by rw [← hu0]; simp [go_sem]
  have q1 : u0.cell? ⟨w.heap.size, 1, none⟩ = some (.slice a0 s.rds.length c0) := by rw [← hu0]; simp [go_sem]
  have q2 : u0.cell? ⟨w.heap.size, 2, none⟩ = some (.slice a1 s.com.length c1) := by rw [← hu0]; simp [go_sem]
  have q3 : u0.cell? ⟨w.heap.size, 3, none⟩ = some (.slice a2 s.ends.length c2) := by rw [← hu0]; simp [go_sem]
  have bB : Below w.heap.size w u0 := by rw [← hu0]; exact alRg _ _
  have none1 : shoB s z = false → Hid (shoL s z = [] ∧ shoB s z = false) := fun h => ⟨by simp [shoL, h], h⟩
  cases hg : goodRg s with
  | false =>
    have HE := none1 (by simp [shoB, hg])
    clear none1
    go_enter Try.func34, Try.ntmps34
    go_wp2_with fail
    refine (specGoodRg_c s _ _ _ _ _ _ _ _ (hs.below bB) hl hg).mono ?_
    rintro r w1 ⟨rfl, hB1⟩
    clear hu0
    go_wp2
    exact bodyPost_ret (v := .tuple #[.slice none 0 0, .bool false]) (by simp [results, Try.results34, go_sem]) rfl ⟨none, 0, by rw [HE.out.1, HE.out.2]; rfl, by rw [HE.out.1]; exact Ints.nil _ _, stRg bB hB1⟩
  | true =>
    by_cases hz1 : z < 0
    · have HE := none1 (by rw [shoB, thB_f.2 (by omega)]; simp)
      clear none1
      go_enter Try.func34, Try.ntmps34
      go_wp2_with fail
      refine (specGoodRg_c s _ _ _ _ _ _ _ _ (hs.below bB) hl hg).mono ?_
      rintro r w1 ⟨rfl, hB1⟩
      have p1 := celB hB1 q1
      clear hu0
      go_wp2
      exact bodyPost_ret (v := .tuple #[.slice none 0 0, .bool false]) (by simp [results, Try.results34, go_sem]) rfl ⟨none, 0, by rw [HE.out.1, HE.out.2]; rfl, by rw [HE.out.1]; exact Ints.nil _ _, stRg bB hB1⟩
    by_cases hz2 : (s.rds.length : Int) ≤ z
    · have HE := none1 (by rw [shoB, thB_f.2 (by omega)]; simp)
      clear none1
      go_enter Try.func34, Try.ntmps34
      go_wp2_with fail
      refine (specGoodRg_c s _ _ _ _ _ _ _ _ (hs.below bB) hl hg).mono ?_
      rintro r w1 ⟨rfl, hB1⟩
      have p1 := celB hB1 q1
      clear hu0
      go_wp2
      exact bodyPost_ret (v := .tuple #[.slice none 0 0, .bool false]) (by simp [results, Try.results34, go_sem]) rfl ⟨none, 0, by rw [HE.out.1, HE.out.2]; rfl, by rw [HE.out.1]; exact Ints.nil _ _, stRg bB hB1⟩
    have ht : thB s.rds.length z = true := thB_t.2 ⟨by omega, by omega⟩
    obtain ⟨k, rfl⟩ : ∃ k : Nat, z = k := ⟨z.toNat, by omega⟩
    have hk : k < s.rds.length := by omega
    have hki : (k : Int) < (s.rds.length : Int) := by omega
    have h0k : (0 : Int) ≤ (k : Int) := by omega
    obtain ⟨-, h5, -, h6, -, -⟩ := goodRg_is hg
    have HB : Hid (shoB s (k : Int) = (rxA s.rds k).inn) := by show _ = _; simp [shoB, hg, ht]
    go_enter Try.func34, Try.ntmps34
    go_wp2_with fail
    refine (specGoodRg_c s _ _ _ _ _ _ _ _ (hs.below bB) hl hg).mono ?_
    rintro r w1 ⟨rfl, hB1⟩
    have p0 := celB hB1 q0
    have p1 := celB hB1 q1
    have p2 := celB hB1 q2
    have p3 := celB hB1 q3
    obtain ⟨kb, ob, ea, r2, k2, r3, k3, e0, -, -, -, -, -, -, -⟩ := ((hs.rds.below bB).below hB1) k _ (rxA_get hk)
    have hsr := (hs.rds.below bB).below hB1
    subst ea
    obtain ⟨b, hb⟩ : ∃ b, (rxA s.rds k).inn = b := ⟨_, rfl⟩
    have HB' : Hid (shoB s (k : Int) = b) := by show _ = _; rw [HB.out, hb]
    rw [hb] at e0
    clear hu0 hb ht
    cases b with
    | false =>
      have HE := none1 HB'.out
      clear none1
      go_wp2
      exact bodyPost_ret (v := .tuple #[.slice none 0 0, .bool false]) (by simp [results, Try.results34, go_sem]) rfl ⟨none, 0, by rw [HE.out.1, HE.out.2]; rfl, by rw [HE.out.1]; exact Ints.nil _ _, stRg bB hB1⟩
    | true =>
      have HL : Hid (shoL s (k : Int) = shareL s k) := by show _ = _; rw [shoL, if_pos HB'.out]; rfl
      clear none1
      go_wp2_with fail
      refine (l14Share_any s k _ _ _ _ _ _ _ hsr hk (by omega) (by omega)).mono ?_
      rintro r w2 ⟨sa, sc, rfl, HI, hB2⟩
      obtain ⟨n, hn⟩ : ∃ n, (shareL s k).length = n := ⟨_, rfl⟩
      rw [hn]
      have HN : Hid ((shareL s k).length = n) := hn
      clear hn
      go_wp2
      exact bodyPost_ret (v := .tuple #[.slice sa n sc, .bool true]) (by simp [results, Try.results34, go_sem]) rfl ⟨sa, sc, by rw [HL.out, HB'.out, HN.out], by rw [HL.out]; exact HI, stRg (stRg bB hB1) hB2⟩

end Go.Proofs.Ytgiekkipkgdjaaa
