/-
  Places, the program's side: spreadOver.
-/
import Derived.Test.YtmpchddfijcjfaaHmI7
import Derived.Test.YtmpchddfijcjfaaHmQ3
namespace Go.Proofs.Ytmpchddfijcjfaa
open Go.RowKit Go.Maps

set_option maxRecDepth 100000 in
set_option maxHeartbeats 4000000 in
theorem ownListH_any (a : Option Addr) (c : Nat) (l : List Int) (w : World) (hs : Ints w a l) (hl : l.length ≤ 1000) :
    Calls Try.prog 48 #[.slice a l.length c] w fun e w' => ∃ a' c', e = .returned (.slice a' l.length c') ∧ w'.ownsRow w.heap.size 3 1 (.slice a' l.length c') l.length (zCells l) ∧ Below w.heap.size w w' := by
  obtain ⟨i1, hi1, hy0, hy1, hy2⟩ := info_parts Try.infoInt
  go_enter Try.func48, Try.ntmps48
  go_wp2_with (at_builtin; refine wpList_appZ _ rfl _ _ 22 rfl w.heap.size 3 i1 _ 1 8 Try.underlying22 hi1 hy0 hy1 hy2 rfl (by decide) (.slice none 0 0) 0 [] rfl (World.ownsRow_nil _ _ _ _) (.slice a l.length c) l.length (zCells l) rfl (srcZ_ints _ hs) ?c3 ?c4 ?c5 ?_)
  case c3 => unfold maxLen; omega
  case c4 => omega
  case c5 => omega
  intro v w4 hown hgrow hat
  try simp only [Nat.zero_add, List.nil_append] at hown
  obtain ⟨av, cv, rfl⟩ := ownsZ_form hown
  have B4 : Below w.heap.size w w4 := (Below.refl _ _).grown hgrow (Nat.le_refl _) (fun b hb => by simp [Value.ownBlock] at hb)
  clear hgrow hat
  go_wp2
  refine bodyPost_ret (v := .slice av l.length cv) (by simp [results, Try.results48, go_sem]) rfl ⟨av, cv, rfl, hown, B4⟩

/-- The loads of the homes that are left. -/
def lgF (n : Nat) (l : List Int) (gone : Int) (z : Int) : Option Int := if (0 ≤ z ∧ z < (n : Int)) ∧ z ≠ gone then some ((cntTo l z l.length : Nat) : Int) else none
theorem lgF_in {n : Nat} {l : List Int} {gone : Int} (z : Int) : (lgF n l gone z).isSome = true ↔ (0 ≤ z ∧ z < (n : Int)) ∧ z ≠ gone := by
  unfold lgF
  by_cases c : (0 ≤ z ∧ z < (n : Int)) ∧ z ≠ gone
  · rw [if_pos c]; simp [c]
  · rw [if_neg c]; simp only [Option.isSome_none, Bool.false_eq_true, false_iff]; exact c
theorem lgF_val {n : Nat} {l : List Int} {gone : Int} (z : Int) : 0 ≤ ldv (lgF n l gone) z ∧ ldv (lgF n l gone) z ≤ (l.length : Int) := by
  unfold ldv lgF
  have := cntTo_le l z l.length
  split
  · simp; omega
  · simp
theorem lgF_ord {n : Nat} {l L : List Int} {gone : Int} (hp : L.Perm (keysL n (lgF n l gone))) (ho : L.Pairwise (btH (ldv (lgF n l gone)))) : OrdH n gone (loadL n (gnL l gone)) L := by
  have hm : ∀ z, z ∈ L ↔ (0 ≤ z ∧ z < (n : Int)) ∧ z ≠ gone := fun z => by rw [hp.mem_iff, keysL_mem (fun y hy => ((lgF_in y).1 hy).1), lgF_in]
  refine ⟨hp.nodup_iff.2 ((keysL_lt n _).imp fun {a b} h => by omega), hm, ho.imp_of_mem fun {a b} ha hb h => ?_⟩
  have e : ∀ z, z ∈ L → ldv (lgF n l gone) z = zA (loadL n (gnL l gone)) z.toNat := fun z hz => by
    obtain ⟨h1, h2⟩ := (hm z).1 hz
    obtain ⟨k, rfl⟩ : ∃ k : Nat, z = k := ⟨z.toNat, by omega⟩
    rw [Int.toNat_natCast, loadL_zA (by omega)]
    unfold ldv lgF cntA
    rw [if_pos ⟨h1, h2⟩, gnL_len, gnL_cnt h1.1 h2 (Nat.le_refl _)]; rfl
  have ea := e a ha
  have eb := e b hb
  unfold btH at h ⊢
  dsimp only
  rw [← ea, ← eb]
  exact h

/-- What is spread, as the program gathers it. -/
theorem spr_is {n : Nat} {l : List Int} {gone : Int} {rs : List Int} (hrs : roomL n (gnL l gone) gone = rs) (hl : ∀ j, j < l.length → -1 ≤ zA l j ∧ zA l j < (n : Int)) (hg : 0 ≤ gone → zA rs gone.toNat = 0) : sprL n l gone = filTo rs n (kpW rs l 0 l.length) l.length := by
  show filTo (roomL n (gnL l gone) gone) n (cutTo (roomL n (gnL l gone) gone) (gnL l gone).length (gnL l gone)) (gnL l gone).length = _
  rw [hrs, cut_is (fun j hj => by rw [gnL_len] at hj; rw [gnL_get hj]; have := hl j hj; split <;> omega), kp_gone hg, gnL_len]
/-- What holds while items come to homes. -/
structure FilI (n : Nat) (rs l : List Int) (k : Nat) (o : List Int) : Prop where
  is : o = filTo rs n (kpW rs l 0 l.length) k
  len : o.length = l.length
  rg : ∀ j, j < l.length → -1 ≤ zA o j ∧ zA o j < (n : Int)
  rem : ∀ h, h < n → cntA o h ≤ zA rs h
theorem FilI.start {n : Nat} {rs l : List Int} (hl : ∀ j, j < l.length → -1 ≤ zA l j ∧ zA l j < (n : Int)) (hn : 0 < n) (hr : ∀ h, h < n → 0 ≤ zA rs h) : FilI n rs l 0 (kpW rs l 0 l.length) := by
  refine ⟨rfl, kpW_len _ _ _ _, fun j hj => ?_, fun h hh => ?_⟩
  · rw [kpW_get hj]; have := hl j hj; split <;> omega
  · unfold cntA; rw [kpW_len, cnt_kp (hr h hh) (Nat.le_refl _)]; omega
theorem FilI.skip {n : Nat} {rs l o : List Int} {k : Nat} (h : FilI n rs l k o) (hz : ¬ zA o k < 0) : FilI n rs l (k + 1) o := by
  refine ⟨?_, h.len, h.rg, h.rem⟩
  rw [filTo, ← h.is, fil1, if_neg hz]
theorem FilI.put {n : Nat} {rs l o : List Int} {k s : Nat} (h : FilI n rs l k o) (hk : k < l.length) (hz : zA o k < 0) (hs : lstH rs o n 0 = s) (hsn : s < n) (hp : cntA o s < zA rs s) : FilI n rs l (k + 1) (o.set k (s : Int)) := by
  refine ⟨?_, by rw [List.length_set]; exact h.len, fun j hj => ?_, fun i hi => ?_⟩
  · rw [filTo, ← h.is, fil1, if_pos hz, hs]
  · by_cases e : k = j
    · subst e; rw [zA_set_same (by rw [h.len]; exact hk)]; omega
    · rw [zA_set_other e]; exact h.rg j hj
  · have hc := cntA_set (v := (s : Int)) (by rw [h.len]; exact hk : k < o.length) i
    rw [if_neg (by omega : ¬ (zA o k = (i : Int)))] at hc
    have := h.rem i hi
    by_cases e : s = i
    · subst e; rw [if_pos rfl] at hc; omega
    · rw [if_neg (by omega)] at hc; omega
theorem FilI.first {n : Nat} {rs l o : List Int} {k : Nat} (h : FilI n rs l k o) (hk : k < l.length) (hz : zA o k < 0) (hsum : smTo rs n = (l.length : Int)) : ∃ s t, s < n ∧ lstH rs o n 0 = s ∧ cntA o s < zA rs s ∧ keysL n (rmF (remF n rs o)) = (s : Int) :: t := by
  obtain ⟨t, ht, hr⟩ := some_room (rs := rs) (o := o) (n := n) (by rw [h.len]; exact hsum) (by rw [h.len]; exact hk : k < o.length) hz
  obtain ⟨s, -, h2, h3, h4, h5⟩ := lstH_at hr (f := n) (h := 0) (Nat.zero_le _) (by omega)
  have hsn : s < n := by omega
  obtain ⟨t2, ht2⟩ := filter_head (p := fun z => (rmF (remF n rs o) z).isSome) hsn (by
    have := rmF_some (rem := remF n rs o) (x := s) (by rw [remF_len]; exact hsn) (by rw [remF_get hsn]; omega)
    simp only [this]; rfl) (fun j hj => by
    have h6 := h4 j (Nat.zero_le _) hj
    have : rmF (remF n rs o) (j : Int) = none := by
      unfold rmF
      rw [if_neg (fun c => by have := c.2.2; rw [Int.toNat_natCast, remF_get (by omega)] at this; omega)]
    simp only [this]; rfl)
  exact ⟨s, t2, hsn, h3, by omega, ht2⟩

end Go.Proofs.Ytmpchddfijcjfaa
