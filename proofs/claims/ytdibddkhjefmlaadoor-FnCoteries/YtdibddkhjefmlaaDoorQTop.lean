/-
  Groups: what the program answers by sets is what the specification answers by lists; the contracts of impl.AllMeet, IsCoterie, Dominates, Survives.
-/
import Derived.Test.YtdibddkhjefmlaaDoorQImpl4
import Derived.Test.YtdibddkhjefmlaaDoorQSpec2
namespace Go.Proofs.YtdibddkhjefmlaaDoor
open Go.RowKit

theorem mskL_len (L : List (List Int)) : (mskL L).length = L.length := by simp [mskL]
theorem nA_msk {L : List (List Int)} {i : Nat} (h : i < L.length) : nA (mskL L) i = msk (lA L i) := by
  refine nA_some ?_
  simp [mskL, lA_get h]
theorem good_rise {L : List (List Int)} {many : Int} (h : goodL L many = true) {i : Nat} (hi : i < L.length) : riseB (lA L i) many = true := ((goodL_t.1 h).1 i hi).2

theorem meB_meet {a b : List Int} (ha : riseB a 7 = true) (hb : riseB b 7 = true) : meB (msk a) (msk b) = meetL a b := (meet_msk (by omega) ha hb).symm
theorem haB_has {a b : List Int} (ha : riseB a 7 = true) (hb : riseB b 7 = true) : haB (msk a) (msk b) = hasL a b := (has_msk (by omega) ha hb).symm
theorem meB_comm (x y : Nat) : meB x y = meB y x := by unfold meB; rw [Nat.and_comm]
theorem meetL_self {a : List Int} (h : 0 < a.length) : meetL a a = true := by
  cases a with
  | nil => simp at h
  | cons x r => simp [meetL]

theorem am_all {L : List (List Int)} (h : goodL L 7 = true) : amN (mskL L) = allL L := by
  rw [Bool.eq_iff_iff, allL_t]
  unfold amN
  rw [all_nA]
  constructor
  · intro g i hi j hj
    have := all_nA.1 (g i (by rw [mskL_len]; omega)) j (by rw [mskL_len]; omega)
    rw [nA_msk hi, nA_msk (by omega), meB_meet (good_rise h hi) (good_rise h (by omega))] at this
    exact this
  · intro g i hi
    rw [mskL_len] at hi
    refine all_nA.2 fun j hj => ?_
    rw [mskL_len] at hj
    rw [nA_msk hi, nA_msk hj]
    rcases Nat.lt_trichotomy i j with e | e | e
    · rw [meB_comm, meB_meet (good_rise h hj) (good_rise h hi)]; exact g j hj i e
    · subst e; rw [meB_meet (good_rise h hi) (good_rise h hi)]; exact meetL_self ((goodL_t.1 h).1 i hi).1
    · rw [meB_meet (good_rise h hi) (good_rise h hj)]; exact g i hi j e

theorem haO_any {L : List (List Int)} {x : List Int} (h : goodL L 7 = true) (hx : riseB x 7 = true) : haO (msk x) (mskL L) = L.any fun g => hasL x g := by
  rw [Bool.eq_iff_iff]
  unfold haO
  rw [any_nA, any_lA]
  constructor
  · rintro ⟨i, hi, g⟩
    rw [mskL_len] at hi
    rw [nA_msk hi, haB_has hx (good_rise h hi)] at g
    exact ⟨i, hi, g⟩
  · rintro ⟨i, hi, g⟩
    refine ⟨i, by rw [mskL_len]; exact hi, ?_⟩
    rw [nA_msk hi, haB_has hx (good_rise h hi)]; exact g

theorem eh_each {A B : List (List Int)} (ha : goodL A 7 = true) (hb : goodL B 7 = true) : ehO (mskL B) (mskL A) = eachL A B := by
  rw [Bool.eq_iff_iff]
  unfold ehO eachL
  rw [all_nA, all_lA]
  constructor
  · intro g i hi
    have := g i (by rw [mskL_len]; exact hi)
    rwa [nA_msk hi, haO_any ha (good_rise hb hi)] at this
  · intro g i hi
    rw [mskL_len] at hi
    rw [nA_msk hi, haO_any ha (good_rise hb hi)]; exact g i hi

theorem nA_take {ns : List Nat} {i k : Nat} (h : i < k) : nA (ns.take k) i = nA ns i := by
  unfold nA; rw [List.getD_eq_getElem?_getD, List.getD_eq_getElem?_getD, List.getElem?_take_of_lt h]
theorem nA_drop {ns : List Nat} {i k : Nat} : nA (ns.drop k) i = nA ns (k + i) := by
  unfold nA; rw [List.getD_eq_getElem?_getD, List.getD_eq_getElem?_getD, List.getElem?_drop]

theorem any_false {A : List Nat} {p : Nat → Bool} : A.any p = false ↔ ∀ i, i < A.length → p (nA A i) = false := by
  constructor
  · intro h i hi
    rw [Bool.eq_false_iff]; intro g
    rw [any_nA.2 ⟨i, hi, g⟩] at h; cases h
  · intro h
    rw [Bool.eq_false_iff]; intro g
    obtain ⟨i, hi, g⟩ := any_nA.1 g
    rw [h i hi] at g; cases g

theorem co_cot {L : List (List Int)} (h : goodL L 7 = true) : coN (mskL L) = cotL L := by
  unfold coN cotL
  rw [am_all h]
  congr 1
  rw [decide_eq_decide]
  constructor
  · intro g i hi j hj hne
    obtain ⟨g1, g2⟩ := g i (by rw [mskL_len]; exact hi)
    rw [← haB_has (good_rise h hi) (good_rise h hj), ← nA_msk hi, ← nA_msk hj]
    by_cases e : j < i
    · have := any_false.1 g1 j (by rw [List.length_take, mskL_len]; omega)
      rwa [nA_take e] at this
    · have := any_false.1 g2 (j - (i + 1)) (by rw [List.length_drop, mskL_len]; omega)
      rw [nA_drop, show i + 1 + (j - (i + 1)) = j by omega] at this
      exact this
  · intro g i hi
    rw [mskL_len] at hi
    refine ⟨any_false.2 fun j hj => ?_, any_false.2 fun j hj => ?_⟩
    · rw [List.length_take, mskL_len] at hj
      rw [nA_take (by omega), nA_msk hi, nA_msk (by omega), haB_has (good_rise h hi) (good_rise h (by omega))]
      exact g i hi j (by omega) (by omega)
    · rw [List.length_drop, mskL_len] at hj
      rw [nA_drop, nA_msk hi, nA_msk (by omega), haB_has (good_rise h hi) (good_rise h (by omega))]
      exact g i hi _ (by omega) (by omega)

theorem surv_me {L : List (List Int)} {f : List Int} (h : goodL L 7 = true) (hf : riseB f 7 = true) : (!meE (msk f) (mskL L)) = survL L f := by
  rw [Bool.eq_iff_iff, Bool.not_eq_true', Bool.eq_false_iff]
  unfold meE survL
  rw [any_lA]
  constructor
  · intro g
    apply Classical.byContradiction
    intro hn
    refine g (all_nA.2 fun i hi => ?_)
    rw [mskL_len] at hi
    rw [nA_msk hi, meB_comm, meB_meet (good_rise h hi) hf]
    cases hm : meetL (lA L i) f
    · exact absurd ⟨i, hi, by rw [hm]; rfl⟩ hn
    · rfl
  · rintro ⟨i, hi, g⟩ hn
    have := all_nA.1 hn i (by rw [mskL_len]; exact hi)
    rw [nA_msk hi, meB_comm, meB_meet (good_rise h hi) hf] at this
    rw [this] at g; cases g

theorem good_len {L : List (List Int)} {many : Int} (h : goodL L many = true) : (mskL L).length ≤ 1000000 := by
  rw [mskL_len]; have := (goodL_t.1 h).2; omega

set_option maxHeartbeats 1000000 in
theorem implAM_any (a : Option Addr) (c : Nat) (L : List (List Int)) (w : World) (hs : Intss w a L) (hl : L.length ≤ maxLen) :
    Calls Tryd.prog 9 #[.slice a L.length c] w fun e w' => e = .returned (.tuple #[.bool (goodL L 7 && allL L), .bool (goodL L 7)]) ∧ Below w.heap.size w w' := by
  go_enter Tryd.func9, Tryd.ntmps9
  go_wp2_with fail
  refine (groupsFrom_any _ _ _ _ _ hs hl (by omega)).mono ?_
  rintro r w1 (⟨hg, rfl, hB⟩ | ⟨hg, a1, c1, rfl, hc, hm, hS, hB⟩)
  · have HG : Hid (goodL L 7 = false) := hg
    clear hg
    go_wp2
    go_ret2
    exact ⟨by rw [HG.out]; rfl, hB⟩
  · have hlen := good_len hg
    have HG : Hid (goodL L 7 = true) := hg
    clear hg
    go_wp2_with (go_at_call 36; refine (allMeet_any _ _ _ _ hS hlen).mono ?_; rintro r w2 ⟨rfl, hB2⟩)
    go_ret2
    exact ⟨by rw [HG.out, ← am_all HG.out]; rfl, hB.trans (hB2.mono hB.size)⟩

set_option maxHeartbeats 1000000 in
theorem implIC_any (a : Option Addr) (c : Nat) (L : List (List Int)) (w : World) (hs : Intss w a L) (hl : L.length ≤ maxLen) :
    Calls Tryd.prog 7 #[.slice a L.length c] w fun e w' => e = .returned (.tuple #[.bool (goodL L 7 && cotL L), .bool (goodL L 7)]) ∧ Below w.heap.size w w' := by
  go_enter Tryd.func7, Tryd.ntmps7
  go_wp2_with fail
  refine (groupsFrom_any _ _ _ _ _ hs hl (by omega)).mono ?_
  rintro r w1 (⟨hg, rfl, hB⟩ | ⟨hg, a1, c1, rfl, hc, hm, hS, hB⟩)
  · have HG : Hid (goodL L 7 = false) := hg
    clear hg
    go_wp2
    go_ret2
    exact ⟨by rw [HG.out]; rfl, hB⟩
  · have hlen := good_len hg
    have HG : Hid (goodL L 7 = true) := hg
    clear hg
    go_wp2_with (go_at_call 34; refine (isCoterie_any _ _ _ _ hS hlen hc hm).mono ?_; rintro r w2 ⟨rfl, hB2⟩)
    go_ret2
    exact ⟨by rw [HG.out, ← co_cot HG.out]; rfl, hB.trans (hB2.mono hB.size)⟩

set_option maxHeartbeats 2000000 in
theorem implSv_any (a a2 : Option Addr) (c c2 : Nat) (L : List (List Int)) (f : List Int) (w : World) (hs : Intss w a L) (hf : Ints w a2 f) (hl : L.length ≤ maxLen) (hl2 : f.length ≤ maxLen) :
    Calls Tryd.prog 12 #[.slice a L.length c, .slice a2 f.length c2] w fun e w' => e = .returned (.tuple #[.bool (goodL L 7 && riseB f 7 && survL L f), .bool (goodL L 7 && riseB f 7)]) ∧ Below w.heap.size w w' := by
  go_enter Tryd.func12, Tryd.ntmps12
  go_wp2_with fail
  refine (groupsFrom_any _ _ _ _ _ hs hl (by omega)).mono ?_
  rintro r w1 (⟨hg, rfl, hB⟩ | ⟨hg, a1, c1, rfl, hc, hm, hS, hB⟩)
  · have HG : Hid (goodL L 7 = false) := hg
    have hf1 := hf.below hB
    clear hg
    go_wp2_with fail
    refine (setFrom_any _ _ _ _ _ hf1 hl2 (by omega)).mono ?_
    rintro r w2 ⟨rfl, hB2⟩
    go_wp2
    go_ret2
    exact ⟨by rw [HG.out]; rfl, (hB.trans (hB2.mono hB.size)).alloc (by have := hB.size; have := hB2.size; omega) _⟩
  · have hlen := good_len hg
    have HG : Hid (goodL L 7 = true) := hg
    have hf1 := hf.below hB
    clear hg
    go_wp2_with fail
    refine (setFrom_any _ _ _ _ _ hf1 hl2 (by omega)).mono ?_
    rintro r w2 ⟨hr, hB2⟩
    have hS2 := hS.below hB2
    have HBB := hB.trans (hB2.mono hB.size)
    clear hS hB hf1 hf hB2
    generalize hg : riseB f 7 = g at hr
    have HF : Hid (riseB f 7 = g) := hg
    clear hg
    cases g with
    | false =>
      subst hr
      go_wp2
      go_ret2
      exact ⟨by rw [HG.out, HF.out]; rfl, HBB.alloc HBB.size _⟩
    | true =>
      have hlt := (mem7_msk (by omega) HF.out).2
      rw [setR_t HF.out] at hr
      subst hr
      have hS3 := fun o => hS2.below ((Below.refl _ _).alloc (Nat.le_refl _) o)
      have HS3 : Hid (∀ o, Sets (w2.alloc o) a1 (mskL L)) := hS3
      clear hS3 hS2
      go_wp2_with (go_at_call 28; refine (meetsEach_any _ hlt _ _ _ _ (HS3.out _) hlen).mono ?_; rintro r w3 ⟨rfl, hB3⟩)
      go_ret2
      exact ⟨by rw [HG.out, HF.out, ← surv_me HG.out HF.out]; rfl, Below.step_al HBB hB3⟩

end Go.Proofs.YtdibddkhjefmlaaDoor
