/-
  Places, the program's side: slices.Max, slices.Min, IsEven.
-/
import Derived.Test.YtmpchddfijcjfaaHmI4
namespace Go.Proofs.Ytmpchddfijcjfaa
open Go.RowKit Go.Maps

/-- The greatest, the least. -/
def IsMx (ls : List Int) (k : Nat) (M : Int) : Prop := (∃ j, j < k ∧ zA ls j = M) ∧ ∀ j, j < k → zA ls j ≤ M
def IsMn (ls : List Int) (k : Nat) (M : Int) : Prop := (∃ j, j < k ∧ zA ls j = M) ∧ ∀ j, j < k → M ≤ zA ls j
theorem IsMx.step {ls : List Int} {k : Nat} {M x : Int} (h : IsMx ls k M) (hx : zA ls k = x) : IsMx ls (k + 1) (max M x) := by
  obtain ⟨⟨j, h1, h2⟩, h3⟩ := h
  refine ⟨?_, fun i hi => ?_⟩
  · by_cases c : M ≤ x
    · exact ⟨k, by omega, by rw [hx]; omega⟩
    · exact ⟨j, by omega, by rw [h2]; omega⟩
  · by_cases e : i = k
    · subst e; rw [hx]; omega
    · have := h3 i (by omega); omega
theorem IsMn.step {ls : List Int} {k : Nat} {M x : Int} (h : IsMn ls k M) (hx : zA ls k = x) : IsMn ls (k + 1) (min M x) := by
  obtain ⟨⟨j, h1, h2⟩, h3⟩ := h
  refine ⟨?_, fun i hi => ?_⟩
  · by_cases c : x ≤ M
    · exact ⟨k, by omega, by rw [hx]; omega⟩
    · exact ⟨j, by omega, by rw [h2]; omega⟩
  · by_cases e : i = k
    · subst e; rw [hx]; omega
    · have := h3 i (by omega); omega
theorem even_is {ls : List Int} {A B : Int} (h1 : IsMx ls ls.length A) (h2 : IsMn ls ls.length B) : evenL ls = decide (A - B ≤ 1) := by
  obtain ⟨⟨i, i1, i2⟩, h1⟩ := h1
  obtain ⟨⟨j, j1, j2⟩, h2⟩ := h2
  by_cases c : A - B ≤ 1
  · rw [decide_eq_true c]
    unfold evenL
    refine List.all_eq_true.2 fun a ha => List.all_eq_true.2 fun b hb => ?_
    obtain ⟨p, hp⟩ := List.getElem?_of_mem ha
    obtain ⟨q, hq⟩ := List.getElem?_of_mem hb
    have lp := (List.getElem?_eq_some_iff.1 hp).1
    have lq := (List.getElem?_eq_some_iff.1 hq).1
    rw [zA_get lp] at hp
    rw [zA_get lq] at hq
    have := h1 p lp
    have := h2 q lq
    have := Option.some.inj hp
    have := Option.some.inj hq
    simp; omega
  · rw [decide_eq_false c]
    exact evenL_f (zA_get i1) (zA_get j1) (by omega)

set_option maxRecDepth 100000 in
set_option maxHeartbeats 2000000 in
theorem maxZ_any (a : Option Addr) (c : Nat) (ls : List Int) (w : World) (hs : Ints w a ls) (h1 : 1 ≤ ls.length) (hl : ls.length ≤ 1000) :
    Calls Try.prog 38 #[.slice a ls.length c] w fun e w' => (∃ M : Int, e = .returned (.int .i64 M) ∧ IsMx ls ls.length M) ∧ w' = w := by
  obtain ⟨b0, o0, rfl, c0⟩ := hs 0 _ (zA_get (by omega))
  rw [Nat.add_zero] at c0
  have d1 : ¬ (ls.length : Int) < 1 := by omega
  have d2 : (0 : Int) < (ls.length : Int) := by omega
  go_enter Try.func38, Try.ntmps38
  go_wp2
  go_loop [3, 4] (fun m i => ∃ (k : Nat) (M : Int), 1 ≤ k ∧ k ≤ ls.length ∧ i = .int .i64 k ∧ m = .int .i64 M ∧ IsMx ls k M) (fun _ i => ls.length - (intOf i).toNat)
  case atStart => exact ⟨1, zA ls 0, Nat.le_refl _, h1, rfl, rfl, ⟨0, by omega, rfl⟩, fun j hj => by rw [show j = 0 by omega]; exact Int.le_refl _⟩
  case round =>
    obtain ⟨k, M, hk1, hk, rfl, rfl, hM⟩ := hrel
    have HM0 : Hid (IsMx ls k M) := hM
    clear hM c0
    by_cases hlt : k < ls.length
    · obtain ⟨b1, o1, e1, hc1⟩ := hs k _ (zA_get hlt)
      simp only [Option.some.injEq, Addr.mk.injEq, and_true] at e1
      obtain ⟨rfl, rfl⟩ := e1
      have hki : (k : Int) < (ls.length : Int) := by omega
      obtain ⟨x, hx⟩ : ∃ x, zA ls k = x := ⟨_, rfl⟩
      have HX : Hid (zA ls k = x) := hx
      rw [hx] at hc1
      clear hx hs
      have HN : Hid (IsMx ls (k + 1) (max M x)) := HM0.out.step HX.out
      by_cases hmx : M < x
      · have HQ : Hid (max M x = x) := by show _ = _; omega
        go_wp2
        go_round
        case rel => exact ⟨k + 1, x, by omega, by omega, by go_num, rfl, by rw [← HQ.out]; exact HN.out⟩
        case measure => simp [intOf]; omega
      · have HQ : Hid (max M x = M) := by show _ = _; omega
        go_wp2
        go_round
        case rel => exact ⟨k + 1, M, by omega, by omega, by go_num, rfl, by rw [← HQ.out]; exact HN.out⟩
        case measure => simp [intOf]; omega
    · obtain rfl : k = ls.length := by omega
      go_wp2
      go_ret
      exact ⟨⟨M, rfl, HM0.out⟩, rfl⟩

set_option maxRecDepth 100000 in
set_option maxHeartbeats 2000000 in
theorem minZ_any (a : Option Addr) (c : Nat) (ls : List Int) (w : World) (hs : Ints w a ls) (h1 : 1 ≤ ls.length) (hl : ls.length ≤ 1000) :
    Calls Try.prog 39 #[.slice a ls.length c] w fun e w' => (∃ M : Int, e = .returned (.int .i64 M) ∧ IsMn ls ls.length M) ∧ w' = w := by
  obtain ⟨b0, o0, rfl, c0⟩ := hs 0 _ (zA_get (by omega))
  rw [Nat.add_zero] at c0
  have d1 : ¬ (ls.length : Int) < 1 := by omega
  have d2 : (0 : Int) < (ls.length : Int) := by omega
  go_enter Try.func39, Try.ntmps39
  go_wp2
  go_loop [3, 4] (fun m i => ∃ (k : Nat) (M : Int), 1 ≤ k ∧ k ≤ ls.length ∧ i = .int .i64 k ∧ m = .int .i64 M ∧ IsMn ls k M) (fun _ i => ls.length - (intOf i).toNat)
  case atStart => exact ⟨1, zA ls 0, Nat.le_refl _, h1, rfl, rfl, ⟨0, by omega, rfl⟩, fun j hj => by rw [show j = 0 by omega]; exact Int.le_refl _⟩
  case round =>
    obtain ⟨k, M, hk1, hk, rfl, rfl, hM⟩ := hrel
    have HM0 : Hid (IsMn ls k M) := hM
    clear hM c0
    by_cases hlt : k < ls.length
    · obtain ⟨b1, o1, e1, hc1⟩ := hs k _ (zA_get hlt)
      simp only [Option.some.injEq, Addr.mk.injEq, and_true] at e1
      obtain ⟨rfl, rfl⟩ := e1
      have hki : (k : Int) < (ls.length : Int) := by omega
      obtain ⟨x, hx⟩ : ∃ x, zA ls k = x := ⟨_, rfl⟩
      have HX : Hid (zA ls k = x) := hx
      rw [hx] at hc1
      clear hx hs
      have HN : Hid (IsMn ls (k + 1) (min M x)) := HM0.out.step HX.out
      by_cases hmx : x < M
      · have HQ : Hid (min M x = x) := by show _ = _; omega
        go_wp2
        go_round
        case rel => exact ⟨k + 1, x, by omega, by omega, by go_num, rfl, by rw [← HQ.out]; exact HN.out⟩
        case measure => simp [intOf]; omega
      · have HQ : Hid (min M x = M) := by show _ = _; omega
        go_wp2
        go_round
        case rel => exact ⟨k + 1, M, by omega, by omega, by go_num, rfl, by rw [← HQ.out]; exact HN.out⟩
        case measure => simp [intOf]; omega
    · obtain rfl : k = ls.length := by omega
      go_wp2
      go_ret
      exact ⟨⟨M, rfl, HM0.out⟩, rfl⟩

set_option maxRecDepth 100000 in
set_option maxHeartbeats 4000000 in
theorem implIsEven_any (n : Int) (a : Option Addr) (c : Nat) (l : List Int) (w : World) (hs : Ints w a l) (hl : l.length ≤ maxLen) :
    Calls Try.prog 19 #[.int .i64 n, .slice a l.length c] w fun e w' => e = .returned (.tuple #[.bool (evA n l), .bool (plB n l)]) ∧ Below w.heap.size w w' := by
  cases h : plB n l with
  | false =>
    have HE : Hid (evA n l = false) := by show _ = _; simp [evA, h]
    go_enter Try.func19, Try.ntmps19
    go_wp2_with (go_at_call 15; refine (implLoadsOf_any _ _ _ _ _ hs hl).mono ?_; rintro e w1 ⟨a1, c1, he, -, -, hB1⟩; rw [h] at he; subst he)
    exact bodyPost_ret (v := .tuple #[.bool false, .bool false]) (by simp [results, Try.results19, go_sem]) rfl ⟨by rw [HE.out], hB1⟩
  | true =>
    obtain ⟨h1, h2, h3, -⟩ := plB_is h
    obtain ⟨m, rfl⟩ : ∃ m : Nat, n = m := ⟨n.toNat, by omega⟩
    have HL : Hid (lofL (m : Int) l = loadL m l) := by show _ = _; simp [lofL, h]
    cases h5 : l.contains (-1) with
    | true =>
      have HE : Hid (evA (m : Int) l = false) := by show _ = _; rw [evA, h5]; simp
      go_enter Try.func19, Try.ntmps19
      go_wp2_with (first | (go_at_call 15; refine (implLoadsOf_any _ _ _ _ _ hs hl).mono ?_; rintro e w1 ⟨a1, c1, he, -, -, hB1⟩; rw [h] at he; subst he) | (go_at_call 37; refine (containsH_any _ _ _ _ _ (hs.below hB1) hl _ h5).mono ?_; rintro e w2 ⟨rfl, hw⟩; rw [hw]; clear hw w2))
      exact bodyPost_ret (v := .tuple #[.bool false, .bool true]) (by simp [results, Try.results19, go_sem]) rfl ⟨by rw [HE.out], hB1⟩
    | false =>
      have HQ : Hid (evA (m : Int) l = evenL (loadL m l)) := by show _ = _; rw [evA, h, h5]; rfl
      go_enter Try.func19, Try.ntmps19
      go_wp2_with fail
      refine (implLoadsOf_any _ _ _ _ _ hs hl).mono ?_
      rintro e w1 ⟨a1, c1, he, hI, -, hB1⟩
      rw [h] at he
      subst he
      rw [HL.out] at hI ⊢
      have hll := loadL_len m l
      have HSM : Hid (∀ (i : Nat) z, (loadL m l)[i]? = some z → 0 ≤ z ∧ z ≤ (l.length : Int)) := fun i z hz => loadL_small hz
      obtain ⟨ls, hls⟩ : ∃ ls, loadL m l = ls := ⟨_, rfl⟩
      rw [hls] at hI hll HQ HSM ⊢
      have hl1 : 1 ≤ ls.length := by omega
      have hl6 : ls.length ≤ 1000 := by omega
      clear hls HL hll
      go_wp2_with fail
      refine (containsH_any _ _ _ _ _ (hs.below hB1) hl _ h5).mono ?_
      rintro e w2 ⟨rfl, hw⟩
      rw [hw]; clear hw w2
      go_wp2_with fail
      refine (maxZ_any _ _ ls _ hI hl1 hl6).mono ?_
      rintro e w2 ⟨⟨A, rfl, hA⟩, hw⟩
      rw [hw]; clear hw w2
      go_wp2_with fail
      refine (minZ_any _ _ ls _ hI hl1 hl6).mono ?_
      rintro e w2 ⟨⟨B, rfl, hB⟩, hw⟩
      rw [hw]; clear hw w2
      have bA : 0 ≤ A ∧ A ≤ 16 := by
        obtain ⟨⟨i, i1, i2⟩, -⟩ := hA
        have := HSM.out i _ (zA_get i1)
        omega
      have bB : 0 ≤ B ∧ B ≤ 16 := by
        obtain ⟨⟨i, i1, i2⟩, -⟩ := hB
        have := HSM.out i _ (zA_get i1)
        omega
      obtain ⟨x, hx⟩ : ∃ x, decide (A - B ≤ 1) = x := ⟨_, rfl⟩
      have HE : Hid (evA (m : Int) l = x) := by show _ = _; rw [HQ.out, even_is hA hB, hx]
      have hwr : IntKind.i64.wrap (A - B) = A - B := by rw [IntKind.wrap_i64]; omega
      clear hA hB
      go_wp2
      exact bodyPost_ret (v := .tuple #[.bool x, .bool true]) (by simp [results, Try.results19, go_sem]) rfl ⟨by rw [HE.out], hB1⟩

end Go.Proofs.Ytmpchddfijcjfaa
