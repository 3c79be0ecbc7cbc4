/-
  Good logs: spec.GoodLog and impl.GoodLog answer the same Bool, 'goodLog', at every list of batches that can be read.
-/
import Derived.Test.YteefmbaehmcibaaDoorLogs2
namespace Go.Proofs.YteefmbaehmcibaaDoor
open Go.RowKit

def goodFrom : Option Bt → List Bt → Bool
  | _, [] => true
  | p, b :: r => b.good && followB p b && goodFrom (some b) r

def goodLog (bs : List Bt) : Bool := goodFrom none bs

def prevOf (bs : List Bt) (k : Nat) : Option Bt := (bs.take k).getLast?

theorem prevOf_succ {bs : List Bt} {k : Nat} {b : Bt} (h : bs[k]? = some b) : prevOf bs (k + 1) = some b := by
  rw [prevOf, takeBt_snoc h]; simp

theorem prevOf_zero (bs : List Bt) : prevOf bs 0 = none := by simp [prevOf]

theorem good_step {bs : List Bt} {k : Nat} {b : Bt} (h : bs[k]? = some b) (hg : b.good = true) (hf : followB (prevOf bs k) b = true) (e : goodFrom (prevOf bs k) (bs.drop k) = goodLog bs) : goodFrom (prevOf bs (k + 1)) (bs.drop (k + 1)) = goodLog bs := by
  rw [drop_cons h] at e
  rw [prevOf_succ h, ← e, goodFrom, hg, hf]; rfl

theorem good_stop {bs : List Bt} {k : Nat} {b : Bt} (h : bs[k]? = some b) (hg : b.good = false ∨ followB (prevOf bs k) b = false) (e : goodFrom (prevOf bs k) (bs.drop k) = goodLog bs) : goodLog bs = false := by
  rw [drop_cons h] at e
  rw [← e, goodFrom]
  rcases hg with hg | hg <;> simp [hg]

theorem Bats.take {w : World} {a : Option Addr} {bs : List Bt} (h : Bats w a bs) (k : Nat) : Bats w a (bs.take k) := fun i b hi => by
  refine h i b ?_
  rw [List.getElem?_take] at hi
  split at hi
  · exact hi
  · simp at hi

theorem mayFollow_take (bs : List Bt) (k : Nat) (hk : k ≤ bs.length) (b : Bt) (a a2 : Option Addr) (c c2 : Nat) (w : World) (hs : Bats w a bs) (hl : bs.length ≤ maxLen) :
    Calls Tryd.prog 34 #[.slice a k c, .agg #[.int .i64 b.off, .int .i64 b.ep, .int .i64 b.pr, .int .i64 b.sq, .slice a2 b.recs.length c2]] w fun r w' => r = .returned (.bool (followB (prevOf bs k) b)) ∧ Below w.heap.size w w' := by
  have h := mayFollow_any (bs.take k) b a a2 c c2 w (hs.take k) (by rw [List.length_take]; omega)
  rw [List.length_take, Nat.min_eq_left hk] at h
  exact h

set_option maxHeartbeats 2000000 in
theorem implGoodLog_any (a : Option Addr) (c : Nat) (bs : List Bt) (w : World) (hs : Bats w a bs) (hl : bs.length ≤ maxLen) (hc : bs.length ≤ c) :
    Calls Tryd.prog 26 #[.slice a bs.length c] w fun r w' => r = .returned (.bool (goodLog bs)) ∧ Below w.heap.size w w' := by
  unfold maxLen at hl
  go_enter Tryd.func26, Tryd.ntmps26
  go_wp2
  go_loopw [7] (fun i wr => ∃ k : Nat, k ≤ bs.length ∧ i = .int .i64 k ∧ goodFrom (prevOf bs k) (bs.drop k) = goodLog bs ∧ Below w.heap.size w wr) (fun i _ => bs.length - (intOf i).toNat)
  case atStart => exact ⟨0, Nat.zero_le _, rfl, by rw [prevOf_zero]; rfl, Below.refl _ _⟩
  case round =>
    obtain ⟨k, hk, rfl, he, hB⟩ := hrel
    have HE : Hid (goodFrom (prevOf bs k) (bs.drop k) = goodLog bs) := he
    clear he
    by_cases hlt : k < bs.length
    · obtain ⟨b, hkb⟩ := getBt hlt
      have hs1 := hs.below hB
      obtain ⟨kb, ob, rfl, hbt⟩ := hs1 k b hkb
      obtain ⟨ra, rc, c0, c1, c2, c3, c4, hst, hsl⟩ := hbt
      have HK : Hid (bs[k]? = some b) := hkb
      have hb1 : Below wr.heap.size wr (wr.alloc (.cells #[.int .i64 b.off, .int .i64 b.ep, .int .i64 b.pr, .int .i64 b.sq, .slice ra b.recs.length rc] 28)) := (Below.refl _ _).alloc (Nat.le_refl _) _
      have hst1 := hst.below hb1
      have hBn := hB.trans (hb1.mono hB.size)
      by_cases hg : b.good = false
      · clear hs hs1 hkb
        have hG : Bt.good ⟨b.off, b.ep, b.pr, b.sq, b.recs⟩ = false := hg
        go_wp2
        first
          | go_region_with (go_at_call 19; refine (implGood_any _ _ _ _ _ _ _ _ ?_ hsl).mono ?_; exact hst1.below (Below.refl _ _).drew; rintro r w1 ⟨hr, hB1⟩; rw [hG] at hr; subst hr)
          | fail
        all_goals
          go_wp2
          go_ret
          exact ⟨ret_bool (by rw [good_stop HK.out (.inl hg) HE.out]), hBn.drew.trans (hB1.mono (by simpa using hBn.size))⟩
      · have hg : b.good = true := by simpa using hg
        have hG : Bt.good ⟨b.off, b.ep, b.pr, b.sq, b.recs⟩ = true := hg
        have hs2 := hs1.below hb1
        clear hs hs1 hkb
        by_cases hf : followB (prevOf bs k) b = false
        · go_wp2
          go_region_with (first
            | (go_at_call 19; refine (implGood_any _ _ _ _ _ _ _ _ ?_ hsl).mono ?_; exact hst1.below (Below.refl _ _).drew; rintro r w1 ⟨hr, hB1⟩; rw [hG] at hr; subst hr; have hX1 := fun o => (bcell hB1).1 wr.heap.size o (by simp))
            | (go_at_call 34; refine (mayFollow_take bs k hk b _ _ _ _ _ ?_ hl).mono ?_; exact (hs2.below (Below.refl _ _).drew).below hB1; rintro r w2 ⟨hr, hB2⟩; rw [hf] at hr; subst hr))
          all_goals
            go_wp2
            go_ret
            exact ⟨ret_bool (by rw [good_stop HK.out (.inr hf) HE.out]), (hBn.drew.trans (hB1.mono (by simpa using hBn.size))).trans (hB2.mono (by have := hBn.size; have := hB1.size; simp at *; omega))⟩
        · have hf : followB (prevOf bs k) b = true := by simpa using hf
          go_wp2
          go_region_with (first
            | (go_at_call 19; refine (implGood_any _ _ _ _ _ _ _ _ ?_ hsl).mono ?_; exact hst1.below (Below.refl _ _).drew; rintro r w1 ⟨hr, hB1⟩; rw [hG] at hr; subst hr; have hX1 := fun o => (bcell hB1).1 wr.heap.size o (by simp))
            | (go_at_call 34; refine (mayFollow_take bs k hk b _ _ _ _ _ ?_ hl).mono ?_; exact (hs2.below (Below.refl _ _).drew).below hB1; rintro r w2 ⟨hr, hB2⟩; rw [hf] at hr; subst hr))
          all_goals
            go_wp2
            go_roundw
            case rel => exact ⟨k + 1, by omega, by go_num, good_step HK.out hg hf HE.out, (hBn.drew.trans (hB1.mono (by simpa using hBn.size))).trans (hB2.mono (by have := hBn.size; have := hB1.size; simp at *; omega))⟩
            case measure => simp [intOf]; omega
    · go_wp2
      go_ret
      refine ⟨ret_bool ?_, hB⟩
      have e := HE.out
      rw [List.drop_eq_nil_of_le (by omega)] at e
      rw [← e, goodFrom]

end Go.Proofs.YteefmbaehmcibaaDoor
