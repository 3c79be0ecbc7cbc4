/-
  Histories, the specification's side: IsLinear, IsSequential, OrderFor. Made by mkhif.py.
-/
import Derived.Test.YthnkncmhbeeiaaaDoorHiF
namespace Go.Proofs.YthnkncmhbeeiaaaDoor
open Go.RowKit

set_option maxRecDepth 100000 in
set_option maxHeartbeats 4000000 in
theorem specIsLinear_any (a : Option Addr) (c : Nat) (l : List Cl) (w : World) (hs : Cls w a l) (hl : l.length ≤ maxLen) (hc : l.length ≤ c) :
    Calls Tryd.prog 7 #[.slice a l.length c] w fun r w' => r = .returned (.tuple #[.bool (linA l false), .bool (goodCl l)]) ∧ Below w.heap.size w w' := by
  have hl' := hl
  unfold maxLen at hl'
  cases hg : goodCl l with
  | false =>
    have HE : Hid (linA l false = false) := by show _ = _; simp [linA, hg]
    go_enter Tryd.func7, Tryd.ntmps7
    go_wp2_with fail
    refine (specGoodCl_c _ _ _ _ hs hl hc _ hg).mono ?_
    rintro r w1 ⟨rfl, BB⟩
    go_wp2
    refine bodyPost_ret (v := .tuple #[.bool false, .bool false]) (by simp [results, Tryd.results7, go_sem]) rfl ⟨by rw [HE.out], BB⟩
  | true =>
    obtain ⟨R, hR⟩ : ∃ R, findL l false l.length [] = R := ⟨_, rfl⟩
    have hRl : R.length ≤ 7 := by rw [← hR]; have := findL_len (l := l) (cl := false) (n := l.length) (ord := []); have := (goodCl_t hg).2; omega
    have HE : Hid (linA l false = decide (R.length = l.length)) := by show _ = _; simp [linA, fndL, hg, hR]
    have HF : Hid (∀ w2, Cls w2 a l → Calls Tryd.prog 20 #[.slice a l.length c, .slice none 0 0, .bool false] w2 fun r w' => ∃ a' c', r = .returned (.slice a' R.length c') ∧ Ints w' a' R ∧ RowI w' w2.heap.size a' R.length ∧ Below w2.heap.size w2 w') := fun w2 h2 => by
      have := l15Find_any l false a c hl hg l.length [] none 0 w2.heap.size w2 h2 (Ints.nil _ _) (.inl rfl) (Nat.le_refl _) (by simp) (fun k hk => by simp at hk)
      rw [hR] at this
      exact this
    clear hR
    go_enter Tryd.func7, Tryd.ntmps7
    go_wp2_with fail
    refine (specGoodCl_c _ _ _ _ hs hl hc _ hg).mono ?_
    rintro r w1 ⟨rfl, BB⟩
    go_wp2_with fail
    refine (HF.out _ (hs.below BB)).mono ?_
    rintro r w2 ⟨a2, c2, rfl, -, -, hB2⟩
    by_cases hd : R.length = l.length
    · have hd' : ((R.length : Int) == (l.length : Int)) = true := by simp [hd]
      have HE2 : Hid (linA l false = true) := by show _ = _; rw [HE.out]; simp [hd]
      clear hd HF
      go_wp2
      refine bodyPost_ret (v := .tuple #[.bool true, .bool true]) (by simp [results, Tryd.results7, go_sem]) rfl ⟨by rw [HE2.out], stHi BB hB2⟩
    · have hd' : ((R.length : Int) == (l.length : Int)) = false := by simp; omega
      have HE2 : Hid (linA l false = false) := by show _ = _; rw [HE.out]; simp [hd]
      clear hd HF
      go_wp2
      refine bodyPost_ret (v := .tuple #[.bool false, .bool true]) (by simp [results, Tryd.results7, go_sem]) rfl ⟨by rw [HE2.out], stHi BB hB2⟩

set_option maxRecDepth 100000 in
set_option maxHeartbeats 4000000 in
theorem specIsSequential_any (a : Option Addr) (c : Nat) (l : List Cl) (w : World) (hs : Cls w a l) (hl : l.length ≤ maxLen) (hc : l.length ≤ c) :
    Calls Tryd.prog 11 #[.slice a l.length c] w fun r w' => r = .returned (.tuple #[.bool (linA l true), .bool (goodCl l)]) ∧ Below w.heap.size w w' := by
  have hl' := hl
  unfold maxLen at hl'
  cases hg : goodCl l with
  | false =>
    have HE : Hid (linA l true = false) := by show _ = _; simp [linA, hg]
    go_enter Tryd.func11, Tryd.ntmps11
    go_wp2_with fail
    refine (specGoodCl_c _ _ _ _ hs hl hc _ hg).mono ?_
    rintro r w1 ⟨rfl, BB⟩
    go_wp2
    refine bodyPost_ret (v := .tuple #[.bool false, .bool false]) (by simp [results, Tryd.results11, go_sem]) rfl ⟨by rw [HE.out], BB⟩
  | true =>
    obtain ⟨R, hR⟩ : ∃ R, findL l true l.length [] = R := ⟨_, rfl⟩
    have hRl : R.length ≤ 7 := by rw [← hR]; have := findL_len (l := l) (cl := true) (n := l.length) (ord := []); have := (goodCl_t hg).2; omega
    have HE : Hid (linA l true = decide (R.length = l.length)) := by show _ = _; simp [linA, fndL, hg, hR]
    have HF : Hid (∀ w2, Cls w2 a l → Calls Tryd.prog 20 #[.slice a l.length c, .slice none 0 0, .bool true] w2 fun r w' => ∃ a' c', r = .returned (.slice a' R.length c') ∧ Ints w' a' R ∧ RowI w' w2.heap.size a' R.length ∧ Below w2.heap.size w2 w') := fun w2 h2 => by
      have := l15Find_any l true a c hl hg l.length [] none 0 w2.heap.size w2 h2 (Ints.nil _ _) (.inl rfl) (Nat.le_refl _) (by simp) (fun k hk => by simp at hk)
      rw [hR] at this
      exact this
    clear hR
    go_enter Tryd.func11, Tryd.ntmps11
    go_wp2_with fail
    refine (specGoodCl_c _ _ _ _ hs hl hc _ hg).mono ?_
    rintro r w1 ⟨rfl, BB⟩
    go_wp2_with fail
    refine (HF.out _ (hs.below BB)).mono ?_
    rintro r w2 ⟨a2, c2, rfl, -, -, hB2⟩
    by_cases hd : R.length = l.length
    · have hd' : ((R.length : Int) == (l.length : Int)) = true := by simp [hd]
      have HE2 : Hid (linA l true = true) := by show _ = _; rw [HE.out]; simp [hd]
      clear hd HF
      go_wp2
      refine bodyPost_ret (v := .tuple #[.bool true, .bool true]) (by simp [results, Tryd.results11, go_sem]) rfl ⟨by rw [HE2.out], stHi BB hB2⟩
    · have hd' : ((R.length : Int) == (l.length : Int)) = false := by simp; omega
      have HE2 : Hid (linA l true = false) := by show _ = _; rw [HE.out]; simp [hd]
      clear hd HF
      go_wp2
      refine bodyPost_ret (v := .tuple #[.bool false, .bool true]) (by simp [results, Tryd.results11, go_sem]) rfl ⟨by rw [HE2.out], stHi BB hB2⟩

set_option maxRecDepth 100000 in
set_option maxHeartbeats 4000000 in
theorem specOrderFor_any (a : Option Addr) (c : Nat) (l : List Cl) (w : World) (hs : Cls w a l) (hl : l.length ≤ maxLen) (hc : l.length ≤ c) :
    Calls Tryd.prog 13 #[.slice a l.length c] w fun r w' => ∃ a' c', r = .returned (.tuple #[.slice a' (ordForL l).length c', .bool (ordForB l)]) ∧ Ints w' a' (ordForL l) ∧ RowI w' w.heap.size a' (ordForL l).length ∧ Below w.heap.size w w' := by
  have hl' := hl
  unfold maxLen at hl'
  cases hg : goodCl l with
  | false =>
    have HE : Hid (ordForL l = [] ∧ ordForB l = false) := by show _ ∧ _; simp [ordForL, ordForB, linA, hg]
    go_enter Tryd.func13, Tryd.ntmps13
    go_wp2_with fail
    refine (specGoodCl_c _ _ _ _ hs hl hc _ hg).mono ?_
    rintro r w1 ⟨rfl, BB⟩
    go_wp2
    refine bodyPost_ret (v := .tuple #[.slice none 0 0, .bool false]) (by simp [results, Tryd.results13, go_sem]) rfl ⟨none, 0, by rw [HE.out.1, HE.out.2]; rfl, by rw [HE.out.1]; exact Ints.nil _ _, .inl (by rw [HE.out.1]; rfl), BB⟩
  | true =>
    obtain ⟨R, hR⟩ : ∃ R, findL l false l.length [] = R := ⟨_, rfl⟩
    have hRl : R.length ≤ 7 := by rw [← hR]; have := findL_len (l := l) (cl := false) (n := l.length) (ord := []); have := (goodCl_t hg).2; omega
    have HEB : Hid (ordForB l = decide (R.length = l.length)) := by show _ = _; simp [ordForB, linA, fndL, hg, hR]
    have HEL : Hid (ordForL l = if ordForB l = true then R else []) := by show _ = _; simp [ordForL, fndL, hR]
    have HF : Hid (∀ w2, Cls w2 a l → Calls Tryd.prog 20 #[.slice a l.length c, .slice none 0 0, .bool false] w2 fun r w' => ∃ a' c', r = .returned (.slice a' R.length c') ∧ Ints w' a' R ∧ RowI w' w2.heap.size a' R.length ∧ Below w2.heap.size w2 w') := fun w2 h2 => by
      have := l15Find_any l false a c hl hg l.length [] none 0 w2.heap.size w2 h2 (Ints.nil _ _) (.inl rfl) (Nat.le_refl _) (by simp) (fun k hk => by simp at hk)
      rw [hR] at this
      exact this
    clear hR
    go_enter Tryd.func13, Tryd.ntmps13
    go_wp2_with fail
    refine (specGoodCl_c _ _ _ _ hs hl hc _ hg).mono ?_
    rintro r w1 ⟨rfl, BB⟩
    go_wp2_with fail
    refine (HF.out _ (hs.below BB)).mono ?_
    rintro r w2 ⟨a2, c2, rfl, hI2, hR2, hB2⟩
    by_cases hd : R.length = l.length
    · have hd' : ((R.length : Int) != (l.length : Int)) = false := by simp [hd]
      have HE : Hid (ordForL l = R ∧ ordForB l = true) := by
        have h1 : ordForB l = true := by rw [HEB.out]; simp [hd]
        exact ⟨by rw [HEL.out, if_pos h1], h1⟩
      clear hd HF HEB HEL
      go_wp2
      refine bodyPost_ret (v := .tuple #[.slice a2 R.length c2, .bool true]) (by simp [results, Tryd.results13, go_sem]) rfl ⟨a2, c2, by rw [HE.out.1, HE.out.2], by rw [HE.out.1]; exact hI2, by rw [HE.out.1]; exact hR2.mono BB.size, stHi BB hB2⟩
    · have hd' : ((R.length : Int) != (l.length : Int)) = true := by simp; omega
      have HE : Hid (ordForL l = [] ∧ ordForB l = false) := by
        have h1 : ordForB l = false := by rw [HEB.out]; simp [hd]
        exact ⟨by rw [HEL.out, h1]; simp, h1⟩
      clear hd HF HEB HEL
      go_wp2
      refine bodyPost_ret (v := .tuple #[.slice none 0 0, .bool false]) (by simp [results, Tryd.results13, go_sem]) rfl ⟨none, 0, by rw [HE.out.1, HE.out.2]; rfl, by rw [HE.out.1]; exact Ints.nil _ _, .inl (by rw [HE.out.1]; rfl), stHi BB hB2⟩

end Go.Proofs.YthnkncmhbeeiaaaDoor
