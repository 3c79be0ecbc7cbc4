/-
  Places that are spread, the specification's side: SpreadEven, FewestMoves, DropHome.
-/
import Derived.Test.YtmpchddfijcjfaaHmQ2
import Derived.Test.YtmpchddfijcjfaaHmS2
namespace Go.Proofs.Ytmpchddfijcjfaa
open Go.RowKit

theorem filTo_len (rs : List Int) (n : Nat) (o : List Int) : ∀ i, (filTo rs n o i).length = o.length
  | 0 => rfl
  | i + 1 => by
    have := filTo_len rs n o i
    rw [filTo, fil1]
    split
    · rw [List.length_set]; exact this
    · exact this
theorem sprL_len (n : Nat) (l : List Int) (gone : Int) : (sprL n l gone).length = l.length := by
  show (filTo (roomL n (gnL l gone) gone) n (cutTo (roomL n (gnL l gone) gone) (gnL l gone).length (gnL l gone)) (gnL l gone).length).length = _
  rw [filTo_len, cutTo_len, gnL_len]
theorem plB_zA {n : Int} {l : List Int} (h : plB n l = true) : ∀ i, i < l.length → -1 ≤ zA l i ∧ zA l i < n := fun _ hi => (plB_is h).2.2.2 _ (List.mem_of_getElem? (zA_get hi))

def sprE (n : Int) (l : List Int) : List Int := if plB n l = true then sprL n.toNat l (-1) else []
theorem sprE_len (n : Int) (l : List Int) : (sprE n l).length ≤ 1000000 := by
  unfold sprE
  split
  · rename_i h
    have := plB_is h
    rw [sprL_len]; omega
  · simp
def fewN (n : Int) (l : List Int) : Int := if plB n l = true then ((mvTo l (sprL n.toNat l (-1)) l.length : Nat) : Int) else 0
def drpB (n : Int) (l : List Int) (g : Int) : Bool := plB n l && (decide (2 ≤ n) && (decide (0 ≤ g) && decide (g < n)))
def drpL (n : Int) (l : List Int) (g : Int) : List Int := if drpB n l g = true then sprL n.toNat l g else []
theorem drpL_len (n : Int) (l : List Int) (g : Int) : (drpL n l g).length ≤ 1000000 := by
  unfold drpL
  split
  · rename_i h
    simp only [drpB, Bool.and_eq_true] at h
    have := plB_is h.1
    rw [sprL_len]; omega
  · simp

set_option maxHeartbeats 1000000 in
theorem specSpreadEven_any (n : Int) (a : Option Addr) (c : Nat) (l : List Int) (w : World) (hs : Ints w a l) (hl : l.length ≤ maxLen) :
    Calls Try.prog 20 #[.int .i64 n, .slice a l.length c] w fun e w' => ∃ a' c', e = .returned (.tuple #[.slice a' (sprE n l).length c', .bool (plB n l)]) ∧ Ints w' a' (sprE n l) ∧ RowI w' w.heap.size a' (sprE n l).length ∧ Below w.heap.size w w' := by
  cases h : plB n l with
  | false =>
    have HE : Hid (sprE n l = []) := by show _ = _; simp [sprE, h]
    go_enter Try.func20, Try.ntmps20
    go_wp2_with (go_at_call 10; refine (specGoodPl_c _ _ _ _ _ _ hs hl h).mono ?_; rintro e w' ⟨rfl, rfl⟩)
    exact bodyPost_ret (v := .tuple #[.slice none 0 0, .bool false]) (by simp [results, Try.results20, go_sem]) rfl ⟨none, 0, by rw [HE.out]; rfl, by rw [HE.out]; exact Ints.nil _ _, by rw [HE.out]; exact .inl rfl, Below.refl _ _⟩
  | true =>
    obtain ⟨h1, h2, h3, -⟩ := plB_is h
    have HZ := (show Hid _ from plB_zA h)
    obtain ⟨m, rfl⟩ : ∃ m : Nat, n = m := ⟨n.toNat, by omega⟩
    have HE : Hid (sprE (m : Int) l = sprL m l (-1)) := by show _ = _; simp [sprE, h]
    have HL : Hid ((sprE (m : Int) l).length = l.length) := by show _ = _; rw [HE.out, sprL_len]
    go_enter Try.func20, Try.ntmps20
    go_wp2_with (go_at_call 10; refine (specGoodPl_c _ _ _ _ _ _ hs hl h).mono ?_; rintro e w' ⟨rfl, rfl⟩)
    refine (l13Spread_any m (-1) _ _ l _ hs (by omega) (by omega) (by omega) HZ.out (by omega) (by unfold manyH; rw [if_neg (by omega)]; omega)).mono ?_
    rintro r w1 ⟨a1, c1, rfl, HI, HW, hB⟩
    go_wp2
    exact bodyPost_ret (v := .tuple #[.slice a1 l.length c1, .bool true]) (by simp [results, Try.results20, go_sem]) rfl ⟨a1, c1, by rw [HL.out], by rw [HE.out]; exact HI, by rw [HL.out]; exact HW, hB⟩

set_option maxHeartbeats 1000000 in
theorem specFewestMoves_any (n : Int) (a : Option Addr) (c : Nat) (l : List Int) (w : World) (hs : Ints w a l) (hl : l.length ≤ maxLen) :
    Calls Try.prog 24 #[.int .i64 n, .slice a l.length c] w fun e w' => e = .returned (.tuple #[.int .i64 (fewN n l), .bool (plB n l)]) ∧ Below w.heap.size w w' := by
  cases h : plB n l with
  | false =>
    have HE : Hid (fewN n l = 0) := by show _ = _; simp [fewN, h]
    go_enter Try.func24, Try.ntmps24
    go_wp2_with (go_at_call 10; refine (specGoodPl_c _ _ _ _ _ _ hs hl h).mono ?_; rintro e w' ⟨rfl, rfl⟩)
    exact bodyPost_ret (v := .tuple #[.int .i64 0, .bool false]) (by simp [results, Try.results24, go_sem]) rfl ⟨by rw [HE.out], Below.refl _ _⟩
  | true =>
    obtain ⟨h1, h2, h3, -⟩ := plB_is h
    have HZ := (show Hid _ from plB_zA h)
    obtain ⟨m, rfl⟩ : ∃ m : Nat, n = m := ⟨n.toNat, by omega⟩
    obtain ⟨o, ho⟩ : ∃ o, sprL m l (-1) = o := ⟨_, rfl⟩
    have hol : o.length = l.length := by rw [← ho]; exact sprL_len _ _ _
    have HE : Hid (fewN (m : Int) l = ((mvTo l o l.length : Nat) : Int)) := by show _ = _; simp [fewN, h, ho]
    have HOL : Hid (l.length = o.length) := hol.symm
    have HMv : Hid (∀ (u : World) (b : Option Addr) (d : Nat), Ints u a l → Ints u b o → Calls Try.prog 42 #[.slice a l.length c, .slice b l.length d] u fun e u' => e = .returned (.int .i64 ((mvTo l o l.length : Nat) : Int)) ∧ Below u.heap.size u u') := fun u b d h1 h2 => by
      have := l13Moves_any a b c d l o u h1 h2 hl hol.symm
      rw [hol] at this
      exact this
    clear hol
    go_enter Try.func24, Try.ntmps24
    go_wp2_with (go_at_call 10; refine (specGoodPl_c _ _ _ _ _ _ hs hl h).mono ?_; rintro e w' ⟨rfl, rfl⟩)
    refine (l13Spread_any m (-1) _ _ l _ hs (by omega) (by omega) (by omega) HZ.out (by omega) (by unfold manyH; rw [if_neg (by omega)]; omega)).mono ?_
    rintro r w1 ⟨a1, c1, rfl, HI, HW, hB⟩
    rw [ho] at HI
    clear ho
    go_wp2_with fail
    refine (HMv.out _ _ _ (hs.below hB) HI).mono ?_
    rintro r w2 ⟨rfl, hB2⟩
    clear HMv
    go_wp2
    exact bodyPost_ret (v := .tuple #[.int .i64 ((mvTo l o l.length : Nat) : Int), .bool true]) (by simp [results, Try.results24, go_sem]) rfl ⟨by rw [HE.out], stHm hB hB2⟩

set_option maxHeartbeats 1000000 in
theorem specDropHome_any (n : Int) (g : Int) (a : Option Addr) (c : Nat) (l : List Int) (w : World) (hs : Ints w a l) (hl : l.length ≤ maxLen) :
    Calls Try.prog 26 #[.int .i64 n, .slice a l.length c, .int .i64 g] w fun e w' => ∃ a' c', e = .returned (.tuple #[.slice a' (drpL n l g).length c', .bool (drpB n l g)]) ∧ Ints w' a' (drpL n l g) ∧ RowI w' w.heap.size a' (drpL n l g).length ∧ Below w.heap.size w w' := by
  have bad : ∀ b, drpB n l g = b → b = false → drpL n l g = [] := fun b h1 h2 => by unfold drpL; rw [h1, h2]; rfl
  cases h : plB n l with
  | false =>
    have HB : Hid (drpB n l g = false) := by show _ = _; simp [drpB, h]
    have HE : Hid (drpL n l g = []) := bad _ HB.out rfl
    clear bad
    go_enter Try.func26, Try.ntmps26
    go_wp2_with (go_at_call 10; refine (specGoodPl_c _ _ _ _ _ _ hs hl h).mono ?_; rintro e w' ⟨rfl, rfl⟩)
    exact bodyPost_ret (v := .tuple #[.slice none 0 0, .bool false]) (by simp [results, Try.results26, go_sem]) rfl ⟨none, 0, by rw [HE.out, HB.out]; rfl, by rw [HE.out]; exact Ints.nil _ _, by rw [HE.out]; exact .inl rfl, Below.refl _ _⟩
  | true =>
    obtain ⟨h1, h2, h3, -⟩ := plB_is h
    have HZ := (show Hid _ from plB_zA h)
    by_cases k : 2 ≤ n ∧ 0 ≤ g ∧ g < n
    · obtain ⟨k1, k2, k3⟩ := k
      obtain ⟨m, rfl⟩ : ∃ m : Nat, n = m := ⟨n.toNat, by omega⟩
      have HB : Hid (drpB (m : Int) l g = true) := by show _ = _; simp [drpB, h, k1, k2, k3]
      have HE : Hid (drpL (m : Int) l g = sprL m l g) := by show _ = _; unfold drpL; rw [if_pos HB.out]; rfl
      have HL : Hid ((drpL (m : Int) l g).length = l.length) := by show _ = _; rw [HE.out, sprL_len]
      clear bad
      go_enter Try.func26, Try.ntmps26
      go_wp2_with (go_at_call 10; refine (specGoodPl_c _ _ _ _ _ _ hs hl h).mono ?_; rintro e w' ⟨rfl, rfl⟩)
      refine (l13Spread_any m g _ _ l _ hs (by omega) (by omega) (by omega) HZ.out (by omega) (by unfold manyH; rw [if_pos k2]; omega)).mono ?_
      rintro r w1 ⟨a1, c1, rfl, HI, HW, hB⟩
      go_wp2
      exact bodyPost_ret (v := .tuple #[.slice a1 l.length c1, .bool true]) (by simp [results, Try.results26, go_sem]) rfl ⟨a1, c1, by rw [HL.out, HB.out], by rw [HE.out]; exact HI, by rw [HL.out]; exact HW, hB⟩
    · have HB : Hid (drpB n l g = false) := by
        show _ = _
        simp only [drpB, h, Bool.true_and]
        rw [Bool.eq_false_iff]
        intro c
        simp only [Bool.and_eq_true, decide_eq_true_eq] at c
        exact k ⟨c.1, c.2.1, c.2.2⟩
      have HE : Hid (drpL n l g = []) := bad _ HB.out rfl
      clear bad
      by_cases k1 : n < 2
      · clear k
        go_enter Try.func26, Try.ntmps26
        go_wp2_with (go_at_call 10; refine (specGoodPl_c _ _ _ _ _ _ hs hl h).mono ?_; rintro e w' ⟨rfl, rfl⟩)
        exact bodyPost_ret (v := .tuple #[.slice none 0 0, .bool false]) (by simp [results, Try.results26, go_sem]) rfl ⟨none, 0, by rw [HE.out, HB.out]; rfl, by rw [HE.out]; exact Ints.nil _ _, by rw [HE.out]; exact .inl rfl, Below.refl _ _⟩
      · by_cases k2 : g < 0
        · clear k
          go_enter Try.func26, Try.ntmps26
          go_wp2_with (go_at_call 10; refine (specGoodPl_c _ _ _ _ _ _ hs hl h).mono ?_; rintro e w' ⟨rfl, rfl⟩)
          exact bodyPost_ret (v := .tuple #[.slice none 0 0, .bool false]) (by simp [results, Try.results26, go_sem]) rfl ⟨none, 0, by rw [HE.out, HB.out]; rfl, by rw [HE.out]; exact Ints.nil _ _, by rw [HE.out]; exact .inl rfl, Below.refl _ _⟩
        · have k3 : n ≤ g := by omega
          clear k
          go_enter Try.func26, Try.ntmps26
          go_wp2_with (go_at_call 10; refine (specGoodPl_c _ _ _ _ _ _ hs hl h).mono ?_; rintro e w' ⟨rfl, rfl⟩)
          exact bodyPost_ret (v := .tuple #[.slice none 0 0, .bool false]) (by simp [results, Try.results26, go_sem]) rfl ⟨none, 0, by rw [HE.out, HB.out]; rfl, by rw [HE.out]; exact Ints.nil _ _, by rw [HE.out]; exact .inl rfl, Below.refl _ _⟩

end Go.Proofs.Ytmpchddfijcjfaa
