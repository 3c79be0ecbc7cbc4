/-
  Groups that read, the program's side: OwnerOf, ShareOf, and what the laws ask for.
-/
import Derived.Test.YtgiekkipkgdjaaaRgI3
namespace Go.Proofs.Ytgiekkipkgdjaaa
open Go.RowKit

/-- Who has a part in a good group has one that is there. -/
theorem own_there {s : Rg} {z : Int} {k : Nat} (hg : goodRg s = true) (hk : k < s.rds.length) (h : ownsP s z (rxA s.rds k) = true) : thB s.ends.length z = true := by
  simp only [goodRg, Bool.and_eq_true, decide_eq_true_eq] at hg
  have h1 := hg.2.2 k hk
  simp only [okRx, firstRx, Bool.and_eq_true] at h1
  have h2 := riseB_t.1 h1.1.2.1
  simp only [ownsP, Bool.and_eq_true] at h
  obtain ⟨i, hi, e⟩ := List.getElem_of_mem (List.contains_iff_mem.1 h.2.2)
  have h3 := h2 i hi
  have h4 : zA (rxA s.rds k).share i = z := by simp [zA, List.getD_eq_getElem?_getD, hi, e]
  rw [h4] at h3
  exact thB_t.2 ⟨h3.1, h3.2.1⟩
theorem ownB_good {s : Rg} {z : Int} (hg : goodRg s = true) : ownB s z = (ownAt s z).isSome := by
  rw [ownB, hg, Bool.true_and]
  cases h : ownAt s z with
  | none => simp
  | some k =>
    rw [ownAt, List.find?_range_eq_some] at h
    rw [own_there hg (by simpa using h.2.1) h.1]
    rfl

set_option maxRecDepth 100000 in
set_option maxHeartbeats 4000000 in
theorem implOwner_l (s : Rg) (z : Int) (a0 a1 a2 : Option Addr) (c0 c1 c2 : Nat) (w : World) (hs : RgR w s a0 a1 a2) (hl : RgL s) :
    Calls Try.prog 38 #[rgV s a0 c0 a1 c1 a2 c2, .int .i64 z] w fun e w' => e = .returned (.tuple #[.int .i64 (ownN s z), .bool (ownB s z)]) ∧ Below w.heap.size w w' := by
  obtain ⟨u0, hu0⟩ : ∃ u0, (w.alloc (.cells #[.int .i64 s.gen, .slice a0 s.rds.length c0, .slice a1 s.com.length c1, .slice a2 s.ends.length c2] 25)) = u0 := ⟨_, rfl⟩
  have q0 : u0.cell? ⟨w.heap.size, 0, none⟩ = some (.int .i64 s.gen) := by rw [← hu0]; simp [go_sem]
  have q1 : u0.cell? ⟨w.heap.size, 1, none⟩ = some (.slice a0 s.rds.length c0) := by rw [← hu0]; simp [go_sem]
  have q2 : u0.cell? ⟨w.heap.size, 2, none⟩ = some (.slice a1 s.com.length c1) := by rw [← hu0]; simp [go_sem]
  have q3 : u0.cell? ⟨w.heap.size, 3, none⟩ = some (.slice a2 s.ends.length c2) := by rw [← hu0]; simp [go_sem]
  have bB : Below w.heap.size w u0 := by rw [← hu0]; exact alRg _ _
  cases hg : goodRg s with
  | false =>
    have HE : Hid (ownN s z = 0 ∧ ownB s z = false) := own_f (by simp [ownB, hg])
    go_enter Try.func38, Try.ntmps38
    go_wp2_with fail
    refine (implGoodRg_c s _ _ _ _ _ _ _ _ (hs.below bB) hl hg).mono ?_
    rintro r w1 ⟨rfl, hB1⟩
    clear hu0
    go_wp2
    exact bodyPost_ret (v := .tuple #[.int .i64 0, .bool false]) (by simp [results, Try.results38, go_sem]) rfl ⟨by rw [HE.out.1, HE.out.2], stRg bB hB1⟩
  | true =>
    have HB : Hid (ownB s z = (ownAt s z).isSome) := ownB_good hg
    obtain ⟨-, h5, -, -, -, -⟩ := goodRg_is hg
    go_enter Try.func38, Try.ntmps38
    go_wp2_with fail
    refine (implGoodRg_c s _ _ _ _ _ _ _ _ (hs.below bB) hl hg).mono ?_
    rintro r w1 ⟨rfl, hB1⟩
    have p1 := celB hB1 q1
    clear hu0
    go_wp2
    go_loopw [14] (fun i wr => ∃ k : Nat, k ≤ s.rds.length ∧ i = .int .i64 k ∧ Hid (∀ i, i < k → ownsP s z (rxA s.rds i) = false) ∧ Below u0.heap.size u0 wr) (fun i _ => s.rds.length - (intOf i).toNat)
    case atStart => exact ⟨0, Nat.zero_le _, rfl, (fun i hi => absurd hi (Nat.not_lt_zero _)), hB1⟩
    case round =>
      clear hB1 p1
      obtain ⟨k, hk, rfl, HO, hB⟩ := hrel
      by_cases hlt : k < s.rds.length
      · obtain ⟨kb, ob, ea, r2, k2, r3, k3, e0, e1, e2, e3, z2, m2, z3, m3⟩ := ((hs.rds.below bB).below hB) k _ (rxA_get hlt)
        subst ea
        have hki : (k : Int) < (s.rds.length : Int) := by omega
        obtain ⟨x, hx⟩ : ∃ x, rxA s.rds k = x := ⟨_, rfl⟩
        have HX : Hid (rxA s.rds k = x) := hx
        rw [hx] at e0 e1 e2 e3 z2 m2
        obtain ⟨u1, hu1⟩ : ∃ u1, wr.alloc (.cells #[.bool x.inn, .int .i64 x.gen, .slice r2 x.share.length k2, .slice r3 x.read.length k3] 67) = u1 := ⟨_, rfl⟩
        have B1 : Below wr.heap.size wr u1 := by rw [← hu1]; exact alRg _ _
        have y0 : u1.cell? ⟨w.heap.size, 0, none⟩ = some (.int .i64 s.gen) := celB (stRg hB B1) q0
        have x0 : u1.cell? ⟨wr.heap.size, 0, none⟩ = some (.bool x.inn) := by rw [← hu1]; simp [go_sem]
        have x1 : u1.cell? ⟨wr.heap.size, 1, none⟩ = some (.int .i64 x.gen) := by rw [← hu1]; simp [go_sem]
        have x2 : u1.cell? ⟨wr.heap.size, 2, none⟩ = some (.slice r2 x.share.length k2) := by rw [← hu1]; simp [go_sem]
        have x3 : u1.cell? ⟨wr.heap.size, 3, none⟩ = some (.slice r3 x.read.length k3) := by rw [← hu1]; simp [go_sem]
        have H2 : Ints u1 r2 x.share := z2.below B1
        obtain ⟨b, hb⟩ : ∃ b, (x.inn && decide (x.gen = s.gen)) = b := ⟨_, rfl⟩
        obtain ⟨d, g6⟩ : ∃ d, x.share.contains z = d := ⟨_, rfl⟩
        have HQ : Hid (ownsP s z x = (b && d)) := by show _ = _; rw [ownsP, ← Bool.and_assoc, hb, g6]
        clear hx z2 z3
        have HNo : ∀ v, ownsP s z x = v → v = false → Hid (∀ i, i < k + 1 → ownsP s z (rxA s.rds i) = false) := fun v hv hf i hi => by
          rcases Nat.lt_or_eq_of_le (Nat.le_of_lt_succ hi) with h | rfl
          · exact HO.out i h
          · rw [HX.out, hv, hf]
        have HYes : ownsP s z x = true → Hid (ownN s z = (k : Int) ∧ ownB s z = true) := fun h => by
          have hA : ownAt s z = some k := range_find hlt HO.out (by rw [HX.out]; exact h)
          have hB2 : ownB s z = true := by rw [HB.out, hA]; rfl
          exact ⟨by rw [ownN, if_pos hB2, hA]; rfl, hB2⟩
        have HNo' : Hid (∀ v, ownsP s z x = v → v = false → Hid (∀ i, i < k + 1 → ownsP s z (rxA s.rds i) = false)) := HNo
        have HYes' : Hid (ownsP s z x = true → Hid (ownN s z = (k : Int) ∧ ownB s z = true)) := HYes
        clear HNo HYes
        go_wp2_with fail
        try rw [hu1]
        refine (knows_c _ _ _ _ _ _ _ hb).mono ?_
        rintro r w2 ⟨rfl, hBk⟩
        have x2' := celB hBk x2
        have H2' := H2.below hBk
        have BB := stRg hB (stRg B1 hBk)
        clear hBk hu1 x0 x1 x2 x3 y0 H2 hb B1
        cases b <;> cases d
        all_goals
          first
          | (have HE := HYes'.out (by rw [HQ.out]; rfl)
             go_wp2_with (go_at_call 69; refine (containsZ_any _ _ _ _ _ H2' m2 _ g6).mono ?_; rintro e w' ⟨rfl, hw⟩; rw [hw]; clear hw w')
             exact bodyPost_ret (v := .tuple #[.int .i64 (k : Int), .bool true]) (by simp [results, Try.results38, go_sem]) rfl ⟨by rw [HE.out.1, HE.out.2], stRg bB BB⟩)
          | (have HN := HNo'.out false (by rw [HQ.out]; rfl) rfl
             go_wp2_with (go_at_call 69; refine (containsZ_any _ _ _ _ _ H2' m2 _ g6).mono ?_; rintro e w' ⟨rfl, hw⟩; rw [hw]; clear hw w')
             go_roundw
             case rel => exact ⟨k + 1, by omega, by go_num, HN.out, BB⟩
             case measure => simp [intOf]; omega)
      · obtain rfl : k = s.rds.length := by omega
        have HE : Hid (ownN s z = 0 ∧ ownB s z = false) := own_f (by
          rw [HB.out, ownAt, List.find?_eq_none.2]
          · rfl
          · intro i hi
            rw [HO.out i (by simpa using hi)]
            simp)
        go_wp2
        exact bodyPost_ret (v := .tuple #[.int .i64 0, .bool false]) (by simp [results, Try.results38, go_sem]) rfl ⟨by rw [HE.out.1, HE.out.2], stRg bB hB⟩

theorem RowI.low {w : World} {B B' : Nat} {a : Option Addr} {n : Nat} (h : RowI w B a n) (hb : B' ≤ B) : RowI w B' a n := by
  rcases h with h | ⟨g, N, f, r1, r2, r3, r4⟩
  · exact .inl h
  · exact .inr ⟨g, N, f, r1, by omega, r3, r4⟩

set_option maxRecDepth 100000 in
set_option maxHeartbeats 4000000 in
theorem implShare_l (s : Rg) (z : Int) (a0 a1 a2 : Option Addr) (c0 c1 c2 : Nat) (w : World) (hs : RgR w s a0 a1 a2) (hl : RgL s) :
    Calls Try.prog 35 #[rgV s a0 c0 a1 c1 a2 c2, .int .i64 z] w fun e w' => ∃ a' c', e = .returned (.tuple #[.slice a' (shoL s z).length c', .bool (shoB s z)]) ∧ Ints w' a' (shoL s z) ∧ RowI w' w.heap.size a' (shoL s z).length ∧ Below w.heap.size w w' := by
  obtain ⟨u0, hu0⟩ : ∃ u0, (w.alloc (.cells #[.int .i64 s.gen, .slice a0 s.rds.length c0, .slice a1 s.com.length c1, .slice a2 s.ends.length c2] 25)) = u0 := ⟨_, rfl⟩
  have q0 : u0.cell? ⟨w.heap.size, 0, none⟩ = some (.int .i64 s.gen) := by rw [← hu0]; simp [go_sem]
  have q1 : u0.cell? ⟨w.heap.size, 1, none⟩ = some (.slice a0 s.rds.length c0) := by rw [← hu0]; simp [go_sem]
  have q2 : u0.cell? ⟨w.heap.size, 2, none⟩ = some (.slice a1 s.com.length c1) := by rw [← hu0]; simp [go_sem]
  have q3 : u0.cell? ⟨w.heap.size, 3, none⟩ = some (.slice a2 s.ends.length c2) := by rw [← hu0]; simp [go_sem]
  have bB : Below w.heap.size w u0 := by rw [← hu0]; exact alRg _ _
  have none1 : shoB s z = false → Hid (shoL s z = [] ∧ shoB s z = false) := fun h => ⟨by simp [shoL, h], h⟩
  cases hg : goodRg s with
  | false =>
    have HE := none1 (by simp [shoB, hg])
    clear none1
    go_enter Try.func35, Try.ntmps35
    go_wp2_with fail
    refine (implGoodRg_c s _ _ _ _ _ _ _ _ (hs.below bB) hl hg).mono ?_
    rintro r w1 ⟨rfl, hB1⟩
    clear hu0
    go_wp2
    exact bodyPost_ret (v := .tuple #[.slice none 0 0, .bool false]) (by simp [results, Try.results35, go_sem]) rfl ⟨none, 0, by rw [HE.out.1, HE.out.2]; rfl, by rw [HE.out.1]; exact Ints.nil _ _, by rw [HE.out.1]; exact .inl rfl, stRg bB hB1⟩
  | true =>
    obtain ⟨h1, h5, -, h6, -, -⟩ := goodRg_is hg
    have hn5 : s.rds.length ≤ 1000 := by omega
    have he6 : s.ends.length ≤ 1000 := by omega
    have hn1 : (1 : Int) ≤ (s.rds.length : Int) := by omega
    have hn2 : (s.rds.length : Int) ≤ 1000 := by omega
    cases ht : thB s.rds.length z with
    | false =>
      have HE := none1 (by rw [shoB, ht]; simp)
      have g1 : inB z 0 ((s.rds.length : Int) - 1) = false := inB_f.2 (by have := thB_f.1 ht; omega)
      clear none1 ht
      go_enter Try.func35, Try.ntmps35
      go_wp2_with fail
      refine (implGoodRg_c s _ _ _ _ _ _ _ _ (hs.below bB) hl hg).mono ?_
      rintro r w1 ⟨rfl, hB1⟩
      have p1 := celB hB1 q1
      clear hu0
      go_wp2_with (go_at_call 53; refine (within_c _ _ _ _ g1).mono ?_; rintro e w' ⟨rfl, hw⟩; rw [hw]; clear hw w')
      exact bodyPost_ret (v := .tuple #[.slice none 0 0, .bool false]) (by simp [results, Try.results35, go_sem]) rfl ⟨none, 0, by rw [HE.out.1, HE.out.2]; rfl, by rw [HE.out.1]; exact Ints.nil _ _, by rw [HE.out.1]; exact .inl rfl, stRg bB hB1⟩
    | true =>
    have htt := thB_t.1 ht
    obtain ⟨k, rfl⟩ : ∃ k : Nat, z = k := ⟨z.toNat, by omega⟩
    have g1 : inB (k : Int) 0 ((s.rds.length : Int) - 1) = true := inB_t.2 (by omega)
    have hk : k < s.rds.length := by omega
    have hki : (k : Int) < (s.rds.length : Int) := by omega
    have h0k : (0 : Int) ≤ (k : Int) := by omega
    have HB : Hid (shoB s (k : Int) = (rxA s.rds k).inn) := by show _ = _; simp [shoB, hg, ht]
    go_enter Try.func35, Try.ntmps35
    go_wp2_with fail
    refine (implGoodRg_c s _ _ _ _ _ _ _ _ (hs.below bB) hl hg).mono ?_
    rintro r w1 ⟨rfl, hB1⟩
    have p0 := celB hB1 q0
    have p1 := celB hB1 q1
    have p2 := celB hB1 q2
    have p3 := celB hB1 q3
    obtain ⟨kb, ob, ea, r2, k2, r3, k3, e0, -, -, -, -, -, -, -⟩ := ((hs.rds.below bB).below hB1) k _ (rxA_get hk)
    have hsr := (hs.rds.below bB).below hB1
    subst ea
    obtain ⟨b, hb⟩ : ∃ b, (rxA s.rds k).inn = b := ⟨_, rfl⟩
    have HB' : Hid (shoB s (k : Int) = b) := by show _ = _; rw [HB.out, hb]
    have HI : Hid ((rxA s.rds k).inn = b) := hb
    rw [hb] at e0
    clear hu0 hb ht htt
    cases b with
    | false =>
      have HE := none1 HB'.out
      clear none1
      go_wp2_with (go_at_call 53; refine (within_c _ _ _ _ g1).mono ?_; rintro e w' ⟨rfl, hw⟩; rw [hw]; clear hw w')
      exact bodyPost_ret (v := .tuple #[.slice none 0 0, .bool false]) (by simp [results, Try.results35, go_sem]) rfl ⟨none, 0, by rw [HE.out.1, HE.out.2]; rfl, by rw [HE.out.1]; exact Ints.nil _ _, by rw [HE.out.1]; exact .inl rfl, stRg bB hB1⟩
    | true =>
      have HL : Hid (shoL s (k : Int) = shareL s k) := by show _ = _; rw [shoL, if_pos HB'.out]; rfl
      clear none1
      go_wp2_with (go_at_call 53; refine (within_c _ _ _ _ g1).mono ?_; rintro e w' ⟨rfl, hw⟩; rw [hw]; clear hw w')
      refine (shareFor_any s k _ _ _ _ _ _ _ hsr hk HI.out hn5 he6).mono ?_
      rintro r w2 ⟨sa, sc, rfl, zI, mI, zR, hB2⟩
      obtain ⟨n, hn⟩ : ∃ n, (shareL s k).length = n := ⟨_, rfl⟩
      rw [hn]
      have HN : Hid ((shareL s k).length = n) := hn
      have h1 := hB1.size
      have h2 := bB.size
      clear hn
      go_wp2
      exact bodyPost_ret (v := .tuple #[.slice sa n sc, .bool true]) (by simp [results, Try.results35, go_sem]) rfl ⟨sa, sc, by rw [HL.out, HB'.out, HN.out], by rw [HL.out]; exact zI, by rw [HL.out]; exact zR.low (by omega), stRg (stRg bB hB1) hB2⟩

theorem implGoodRg_any (s : Rg) (a0 a1 a2 : Option Addr) (c0 c1 c2 : Nat) (w : World) (hs : RgR w s a0 a1 a2) (hb : RgB s) :
    Calls Try.prog 21 #[rgV s a0 c0 a1 c1 a2 c2] w fun e w' => e = .returned (.bool (goodRg s)) ∧ Below w.heap.size w w' := implGoodRg_l s a0 a1 a2 c0 c1 c2 w hs hb.len

theorem implLeftToRead_any (s : Rg) (a0 a1 a2 : Option Addr) (c0 c1 c2 : Nat) (w : World) (hs : RgR w s a0 a1 a2) (hb : RgB s) :
    Calls Try.prog 40 #[rgV s a0 c0 a1 c1 a2 c2] w fun e w' => e = .returned (.tuple #[.int .i64 (lftN s), .bool (goodRg s)]) ∧ Below w.heap.size w w' := implLeft_l s a0 a1 a2 c0 c1 c2 w hs hb.len

theorem implOwnerOf_any (s : Rg) (z : Int) (a0 a1 a2 : Option Addr) (c0 c1 c2 : Nat) (w : World) (hs : RgR w s a0 a1 a2) (hb : RgB s) :
    Calls Try.prog 38 #[rgV s a0 c0 a1 c1 a2 c2, .int .i64 z] w fun e w' => e = .returned (.tuple #[.int .i64 (ownN s z), .bool (ownB s z)]) ∧ Below w.heap.size w w' := implOwner_l s z a0 a1 a2 c0 c1 c2 w hs hb.len

theorem implShareOf_any (s : Rg) (z : Int) (a0 a1 a2 : Option Addr) (c0 c1 c2 : Nat) (w : World) (hs : RgR w s a0 a1 a2) (hb : RgB s) :
    Calls Try.prog 35 #[rgV s a0 c0 a1 c1 a2 c2, .int .i64 z] w fun e w' => ∃ a' c', e = .returned (.tuple #[.slice a' (shoL s z).length c', .bool (shoB s z)]) ∧ Ints w' a' (shoL s z) ∧ RowI w' w.heap.size a' (shoL s z).length ∧ Below w.heap.size w w' := implShare_l s z a0 a1 a2 c0 c1 c2 w hs hb.len

end Go.Proofs.Ytgiekkipkgdjaaa
