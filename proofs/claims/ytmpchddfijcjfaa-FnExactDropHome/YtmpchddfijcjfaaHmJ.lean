/-
  Places, the program's side: SpreadEven, FewestMoves, DropHome.
-/
import Derived.Test.YtmpchddfijcjfaaHmI9
namespace Go.Proofs.Ytmpchddfijcjfaa
open Go.RowKit Go.Maps

theorem ld_lg (n : Nat) (l : List Int) (z : Int) : ldF n l l.length z = lgF n l (-1) z := by
  unfold ldF lgF
  by_cases c : 0 ≤ z ∧ z < (n : Int)
  · rw [if_pos c, if_pos ⟨c, by omega⟩]
  · rw [if_neg c, if_neg (fun d => c d.1)]
theorem ld_del (n : Nat) (l : List Int) (g z : Int) : upM (ldF n l l.length) g none z = lgF n l g z := by
  unfold upM ldF lgF
  by_cases e : z = g
  · rw [if_pos e, if_neg (fun d => d.2 e)]
  · rw [if_neg e]
    by_cases c : 0 ≤ z ∧ z < (n : Int)
    · rw [if_pos c, if_pos ⟨c, e⟩]
    · rw [if_neg c, if_neg (fun d => c d.1)]

theorem filI_all {n : Nat} {rs l : List Int} (hl : ∀ j, j < l.length → -1 ≤ zA l j ∧ zA l j < (n : Int)) (hn : 0 < n) (hr : ∀ h, h < n → 0 ≤ zA rs h) (hsum : smTo rs n = (l.length : Int)) : ∀ k, k ≤ l.length → ∃ o, FilI n rs l k o
  | 0, _ => ⟨_, FilI.start hl hn hr⟩
  | k + 1, hk => by
    obtain ⟨o, h⟩ := filI_all hl hn hr hsum k (by omega)
    by_cases hz : zA o k < 0
    · obtain ⟨s, t, h1, h2, h3, -⟩ := h.first (by omega) hz hsum
      exact ⟨_, h.put (by omega) hz h2 h1 h3⟩
    · exact ⟨o, h.skip hz⟩
theorem spr_low {n : Nat} {l : List Int} (hl : ∀ j, j < l.length → -1 ≤ zA l j ∧ zA l j < (n : Int)) (hn : 0 < n) : lowB (sprL n l (-1)) = true := by
  have hroom := roomL_all (n := n) (l := gnL l (-1)) (gone := -1) (by omega) (by unfold manyH; rw [if_neg (by omega)]; exact hn)
  rw [gnL_len] at hroom
  obtain ⟨o, ho⟩ := filI_all (rs := roomL n (gnL l (-1)) (-1)) hl hn (fun h hh => (hroom.2.2 h hh).1) hroom.2.1 l.length (Nat.le_refl _)
  rw [spr_is rfl hl (fun h0 => by omega), ← ho.is]
  refine List.all_eq_true.2 fun z hz => ?_
  obtain ⟨i, hi⟩ := List.getElem?_of_mem hz
  have hlt := (List.getElem?_eq_some_iff.1 hi).1
  rw [zA_get hlt] at hi
  have := (ho.rg i (by rw [← ho.len]; exact hlt)).1
  have := Option.some.inj hi
  simp; omega

set_option maxHeartbeats 1000000 in
theorem implSpreadEven_any (n : Int) (a : Option Addr) (c : Nat) (l : List Int) (w : World) (hs : Ints w a l) (hl : l.length ≤ maxLen) :
    Calls Try.prog 21 #[.int .i64 n, .slice a l.length c] w fun e w' => ∃ a' c', e = .returned (.tuple #[.slice a' (sprE n l).length c', .bool (plB n l)]) ∧ Ints w' a' (sprE n l) ∧ RowI w' w.heap.size a' (sprE n l).length ∧ Below w.heap.size w w' := by
  cases h : plB n l with
  | false =>
    have HE : Hid (sprE n l = []) := by show _ = _; simp [sprE, h]
    go_enter Try.func21, Try.ntmps21
    go_wp2_with (go_at_call 12; refine (implGoodPl_c _ _ _ _ _ _ hs hl h).mono ?_; rintro e w1 ⟨rfl, hB1⟩)
    exact bodyPost_ret (v := .tuple #[.slice none 0 0, .bool false]) (by simp [results, Try.results21, go_sem]) rfl ⟨none, 0, by rw [HE.out]; rfl, by rw [HE.out]; exact Ints.nil _ _, by rw [HE.out]; exact .inl rfl, hB1⟩
  | true =>
    obtain ⟨h1, h2, h3, -⟩ := plB_is h
    have HZ := (show Hid _ from plB_zA h)
    obtain ⟨m, rfl⟩ : ∃ m : Nat, n = m := ⟨n.toNat, by omega⟩
    have HE : Hid (sprE (m : Int) l = sprL m l (-1)) := by show _ = _; simp [sprE, h]
    have HL : Hid ((sprE (m : Int) l).length = l.length) := by show _ = _; rw [HE.out, sprL_len]
    go_enter Try.func21, Try.ntmps21
    go_wp2_with fail
    refine (implGoodPl_c _ _ _ _ _ _ hs hl h).mono ?_
    rintro e w1 ⟨rfl, hB1⟩
    have hs1 := hs.below hB1
    go_wp2_with fail
    refine (loadsIn_any m _ _ l w1 hs1 (by omega) (by omega) HZ.out).mono ?_
    rintro e w2 ⟨rfl, hM2, hB2⟩
    have hM3 := hM2.congr (ld_lg m l)
    have hs2 := hs1.below hB2
    have BB2 := stHm hB1 hB2
    obtain ⟨Bm, hBm⟩ : ∃ Bm, w1.heap.size = Bm := ⟨_, rfl⟩
    rw [hBm] at hM3 ⊢
    clear hBm hB1 hB2 hM2 hs1 hs
    go_wp2_with fail
    refine (spreadOver_any m (-1) Bm _ _ l w2 hM3 hs2 (by omega) (by omega) (by omega) HZ.out (by omega) (by unfold manyH; rw [if_neg (by omega)]; omega)).mono ?_
    rintro r w3 ⟨a1, c1, rfl, HI, HW, hB⟩
    have BB3 := stHm BB2 hB
    have HW' := HW.mono BB2.size
    clear hM3 hs2 HW BB2 hB
    go_wp2
    exact bodyPost_ret (v := .tuple #[.slice a1 l.length c1, .bool true]) (by simp [results, Try.results21, go_sem]) rfl ⟨a1, c1, by rw [HL.out], by rw [HE.out]; exact HI, by rw [HL.out]; exact HW', BB3⟩

set_option maxHeartbeats 1000000 in
theorem implFewestMoves_any (n : Int) (a : Option Addr) (c : Nat) (l : List Int) (w : World) (hs : Ints w a l) (hl : l.length ≤ maxLen) :
    Calls Try.prog 25 #[.int .i64 n, .slice a l.length c] w fun e w' => e = .returned (.tuple #[.int .i64 (fewN n l), .bool (plB n l)]) ∧ Below w.heap.size w w' := by
  cases h : plB n l with
  | false =>
    have HE : Hid (fewN n l = 0) := by show _ = _; simp [fewN, h]
    go_enter Try.func25, Try.ntmps25
    go_wp2_with (go_at_call 21; refine (implSpreadEven_any _ _ _ _ _ hs hl).mono ?_; rintro e w1 ⟨a1, c1, he, -, -, hB1⟩; rw [h] at he; subst he)
    exact bodyPost_ret (v := .tuple #[.int .i64 0, .bool false]) (by simp [results, Try.results25, go_sem]) rfl ⟨by rw [HE.out], hB1⟩
  | true =>
    obtain ⟨h1, h2, h3, h4⟩ := plB_is h
    obtain ⟨m, rfl⟩ : ∃ m : Nat, n = m := ⟨n.toNat, by omega⟩
    have HE : Hid (sprE (m : Int) l = sprL m l (-1)) := by show _ = _; simp [sprE, h]
    have HL : Hid ((sprE (m : Int) l).length = l.length) := by show _ = _; rw [HE.out, sprL_len]
    have HLo : Hid (lowB l = true) := List.all_eq_true.2 fun z hz => by have := h4 z hz; simp; omega
    have HLo2 : Hid (lowB (sprL m l (-1)) = true) := spr_low (plB_zA h) (by omega)
    have HMV : Hid (mvN l (sprL m l (-1)) = fewN (m : Int) l ∧ mvB l (sprL m l (-1)) = true) := by
      have hb : mvB l (sprL m l (-1)) = true := by simp [mvB, HLo.out, HLo2.out, sprL_len]
      refine ⟨?_, hb⟩
      unfold mvN fewN
      rw [if_pos hb, if_pos h]; rfl
    clear h4
    go_enter Try.func25, Try.ntmps25
    go_wp2_with fail
    refine (implSpreadEven_any _ _ _ _ _ hs hl).mono ?_
    rintro e w1 ⟨a1, c1, he, hI, -, hB1⟩
    rw [h] at he
    subst he
    rw [HE.out] at hI ⊢
    have hs1 := hs.below hB1
    have HMO := (show Hid _ from implMovesTo_any a a1 c c1 l (sprL m l (-1)) w1 hs1 hI hl (by rw [sprL_len]; exact hl))
    clear hI hs hs1
    go_wp2_with fail
    refine Calls.mono HMO.out ?_
    rintro e w2 ⟨he, hB2⟩
    rw [HMV.out.1, HMV.out.2] at he
    subst he
    have BB := stHm hB1 hB2
    clear HMO hB1 hB2
    go_wp2
    exact bodyPost_ret (v := .tuple #[.int .i64 (fewN (m : Int) l), .bool true]) (by simp [results, Try.results25, go_sem]) rfl ⟨rfl, BB⟩

theorem withinH (n hi : Int) (b : Bool) (w : World) (h : inB n 0 hi = b) : Calls Try.prog 43 #[.int .i64 n, .int .i64 hi] w fun e w' => e = .returned (.bool b) ∧ w' = w := by
  rw [← h]; exact within_any n hi w

set_option maxHeartbeats 2000000 in
theorem implDropHome_any (n : Int) (g : Int) (a : Option Addr) (c : Nat) (l : List Int) (w : World) (hs : Ints w a l) (hl : l.length ≤ maxLen) :
    Calls Try.prog 27 #[.int .i64 n, .slice a l.length c, .int .i64 g] w fun e w' => ∃ a' c', e = .returned (.tuple #[.slice a' (drpL n l g).length c', .bool (drpB n l g)]) ∧ Ints w' a' (drpL n l g) ∧ RowI w' w.heap.size a' (drpL n l g).length ∧ Below w.heap.size w w' := by
  have bad : ∀ b, drpB n l g = b → b = false → drpL n l g = [] := fun b h1 h2 => by unfold drpL; rw [h1, h2]; rfl
  cases h : plB n l with
  | false =>
    have HB : Hid (drpB n l g = false) := by show _ = _; simp [drpB, h]
    have HE : Hid (drpL n l g = []) := bad _ HB.out rfl
    clear bad
    go_enter Try.func27, Try.ntmps27
    go_wp2_with (go_at_call 12; refine (implGoodPl_c _ _ _ _ _ _ hs hl h).mono ?_; rintro e w1 ⟨rfl, hB1⟩)
    exact bodyPost_ret (v := .tuple #[.slice none 0 0, .bool false]) (by simp [results, Try.results27, go_sem]) rfl ⟨none, 0, by rw [HE.out, HB.out]; rfl, by rw [HE.out]; exact Ints.nil _ _, by rw [HE.out]; exact .inl rfl, hB1⟩
  | true =>
    obtain ⟨h1, h2, h3, -⟩ := plB_is h
    have HZ := (show Hid _ from plB_zA h)
    by_cases k1 : n < 2
    · have HB : Hid (drpB n l g = false) := by show _ = _; unfold drpB; rw [h, show decide (2 ≤ n) = false by simp; omega]; rfl
      have HE : Hid (drpL n l g = []) := bad _ HB.out rfl
      clear bad
      go_enter Try.func27, Try.ntmps27
      go_wp2_with (go_at_call 12; refine (implGoodPl_c _ _ _ _ _ _ hs hl h).mono ?_; rintro e w1 ⟨rfl, hB1⟩)
      exact bodyPost_ret (v := .tuple #[.slice none 0 0, .bool false]) (by simp [results, Try.results27, go_sem]) rfl ⟨none, 0, by rw [HE.out, HB.out]; rfl, by rw [HE.out]; exact Ints.nil _ _, by rw [HE.out]; exact .inl rfl, hB1⟩
    · cases k2 : inB g 0 (n - 1) with
      | false =>
        have hnot : ¬ (0 ≤ g ∧ g < n) := fun d => by
          have : inB g 0 (n - 1) = true := inB_t.2 (by omega)
          rw [k2] at this; cases this
        have HB : Hid (drpB n l g = false) := by
          show _ = _
          simp only [drpB, h, Bool.true_and]
          rw [Bool.eq_false_iff]
          intro d
          simp only [Bool.and_eq_true, decide_eq_true_eq] at d
          exact hnot ⟨d.2.1, d.2.2⟩
        have HE : Hid (drpL n l g = []) := bad _ HB.out rfl
        clear bad hnot
        go_enter Try.func27, Try.ntmps27
        go_wp2_with (first | (go_at_call 12; refine (implGoodPl_c _ _ _ _ _ _ hs hl h).mono ?_; rintro e w1 ⟨rfl, hB1⟩) | (go_at_call 43; refine (withinH _ _ _ _ k2).mono ?_; rintro e w2 ⟨rfl, hw⟩; rw [hw]; clear hw w2))
        exact bodyPost_ret (v := .tuple #[.slice none 0 0, .bool false]) (by simp [results, Try.results27, go_sem]) rfl ⟨none, 0, by rw [HE.out, HB.out]; rfl, by rw [HE.out]; exact Ints.nil _ _, by rw [HE.out]; exact .inl rfl, hB1⟩
      | true =>
        have k3 := inB_t.1 k2
        have k4 : 0 ≤ g ∧ g < n := by omega
        obtain ⟨m, rfl⟩ : ∃ m : Nat, n = m := ⟨n.toNat, by omega⟩
        have HB : Hid (drpB (m : Int) l g = true) := by show _ = _; unfold drpB; rw [h]; simp; omega
        have HE : Hid (drpL (m : Int) l g = sprL m l g) := by show _ = _; unfold drpL; rw [if_pos HB.out]; rfl
        have HL : Hid ((drpL (m : Int) l g).length = l.length) := by show _ = _; rw [HE.out, sprL_len]
        clear bad k3
        go_enter Try.func27, Try.ntmps27
        go_wp2_with fail
        refine (implGoodPl_c _ _ _ _ _ _ hs hl h).mono ?_
        rintro e w1 ⟨rfl, hB1⟩
        have hs1 := hs.below hB1
        go_wp2_with fail
        refine (withinH _ _ _ _ k2).mono ?_
        rintro e w2 ⟨rfl, hw⟩
        rw [hw]; clear hw w2
        go_wp2_with fail
        refine (loadsIn_any m _ _ l w1 hs1 (by omega) (by omega) HZ.out).mono ?_
        rintro e w2 ⟨rfl, hM2, hB2⟩
        have hs2 := hs1.below hB2
        have BB2 := stHm hB1 hB2
        have hBs := hB1.size
        obtain ⟨Bm, hBm⟩ : ∃ Bm, w1.heap.size = Bm := ⟨_, rfl⟩
        rw [hBm] at hM2 hBs ⊢
        have HNE : Hid (∀ b, InI a l.length b → b ≠ Bm) := fun b hb e => by have := hs1.lt b hb; omega
        obtain ⟨D, hown, hrd⟩ := hM2
        have HRD : Hid (RdM D (ldF m l l.length)) := hrd
        have HS2 : Hid (Ints w2 a l) := hs2
        clear hBm hB1 hB2 hs1 hs hrd hs2
        go_wp2_with (first
          | (at_delete; refine wpList_delete_own _ rfl _ _ 42 3 rfl 3 Try.keyI Try.underlying42 _ Bm 100 _ rfl hown _ _ rfl (keyOfI (by omega)) ?_; intro w3 hown3 hturn3
             have hM3 : HM w3 Bm 100 (lgF m l g) := ⟨_, hown3, by rw [← funext (ld_del m l g)]; exact HRD.out.del g⟩
             have hs3 : Ints w3 a l := HS2.out.of_block fun b hb => hturn3.grown.block b (HS2.out.lt b hb) (by simpa using HNE.out b hb)
             have BB3 := BB2.grown hturn3.grown BB2.size (fun j hj => by cases hj; exact hBs))
          | (go_at_call 41; refine (spreadOver_any m g Bm _ _ l w3 hM3 hs3 (by omega) (by omega) (by omega) HZ.out (by omega) (by unfold manyH; rw [if_pos k4.1]; omega)).mono ?_; rintro r w4 ⟨a1, c1, rfl, HI, HW, hB⟩)
          | go_in)
        have BB4 := stHm BB3 hB
        have HW' := HW.mono BB3.size
        exact bodyPost_ret (v := .tuple #[.slice a1 l.length c1, .bool true]) (by simp [results, Try.results27, go_sem]) rfl ⟨a1, c1, by rw [HL.out, HB.out], by rw [HE.out]; exact HI, by rw [HL.out]; exact HW', BB4⟩

end Go.Proofs.Ytmpchddfijcjfaa
