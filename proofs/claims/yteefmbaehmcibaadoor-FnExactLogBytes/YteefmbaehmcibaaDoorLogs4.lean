/-
  Good logs, the specification's side: what spec.GoodLog answers: 'goodLog'.
-/
import Derived.Test.YteefmbaehmcibaaDoorLogs3
namespace Go.Proofs.YteefmbaehmcibaaDoor
open Go.RowKit

theorem fold_undef : Value.tuple #[] = undef := rfl

set_option maxHeartbeats 8000000 in
theorem specGoodLog_any (a : Option Addr) (c : Nat) (bs : List Bt) (w : World) (hs : Bats w a bs) (hl : bs.length ≤ maxLen) :
    Calls Tryd.prog 24 #[.slice a bs.length c] w fun r w' => r = .returned (.bool (goodLog bs)) ∧ Below w.heap.size w w' := by
  unfold maxLen at hl
  go_enter Tryd.func24, Tryd.ntmps24
  go_wp2
  go_loopw [7] (fun i wr => ∃ k : Nat, k ≤ bs.length ∧ i = .int .i64 k ∧ goodFrom (prevOf bs k) (bs.drop k) = goodLog bs ∧ Below w.heap.size w wr) (fun i _ => bs.length - (intOf i).toNat)
  case atStart => exact ⟨0, Nat.zero_le _, rfl, by rw [prevOf_zero]; rfl, Below.refl _ _⟩
  case round =>
    obtain ⟨k, hk, rfl, he, hB⟩ := hrel
    have HE : Hid (goodFrom (prevOf bs k) (bs.drop k) = goodLog bs) := he
    clear he
    by_cases hlt : k < bs.length
    · obtain ⟨b, hkb⟩ := getBt hlt
      have hs1 := hs.below hB
      obtain ⟨kb, ob, rfl, hbt⟩ := hs1 k b hkb
      obtain ⟨ra, rc, c0, c1, c2, c3, c4, hst, hsl⟩ := hbt
      have HK : Hid (bs[k]? = some b) := hkb
      have hb1 : Below wr.heap.size wr (wr.alloc (.cells #[.int .i64 b.off, .int .i64 b.ep, .int .i64 b.pr, .int .i64 b.sq, .slice ra b.recs.length rc] 28)) := (Below.refl _ _).alloc (Nat.le_refl _) _
      have hst1 := hst.below hb1
      have hBn := hB.trans (hb1.mono hB.size)
      by_cases hg : b.good = false
      · clear hs hs1 hkb
        have hG : Bt.good ⟨b.off, b.ep, b.pr, b.sq, b.recs⟩ = false := hg
        go_wp2
        have hun : undef = Value.tuple #[] := rfl
        first
          | go_region_with (go_at_call 16; refine (specGood_any _ _ _ _ _ _ _ _ ?_ hsl).mono ?_; exact hst1.below (Below.refl _ _).drew; rintro r w1 ⟨hr, hB1⟩; rw [hG] at hr; subst hr)
          | fail
        all_goals
          clear hun
          simp only [fold_undef]
          go_wp2
          go_ret
          exact ⟨ret_bool (by rw [good_stop HK.out (.inl hg) HE.out]), hBn.drew.trans (hB1.mono (by simpa using hBn.size))⟩
      · have hg : b.good = true := by simpa using hg
        have hG : Bt.good ⟨b.off, b.ep, b.pr, b.sq, b.recs⟩ = true := hg
        by_cases hk0 : k = 0
        · subst hk0
          clear hs hs1 hkb
          simp only [Nat.zero_mul, Nat.add_zero] at c0 c1 c2 c3 c4
          go_wp2
          have hun : undef = Value.tuple #[] := rfl
          first
            | go_region_with (go_at_call 16; refine (specGood_any _ _ _ _ _ _ _ _ ?_ hsl).mono ?_; exact hst1.below (Below.refl _ _).drew; rintro r w1 ⟨hr, hB1⟩; rw [hG] at hr; subst hr)
            | fail
          all_goals
            clear hun
            simp only [fold_undef]
            go_wp2
            go_roundw
            case rel => exact ⟨1, by omega, by go_num, good_step HK.out hg (by rw [prevOf_zero]; rfl) HE.out, hBn.drew.trans (hB1.mono (by simpa using hBn.size))⟩
            case measure => simp [intOf]; omega
        · obtain ⟨j, hj⟩ : ∃ j, k = j + 1 := ⟨k - 1, by omega⟩
          obtain ⟨x, hjx⟩ := getBt (bs := bs) (k := j) (by omega)
          obtain ⟨kb', ob', e, hbt'⟩ := (hs1.below hb1) j x hjx
          simp only [Option.some.injEq, Addr.mk.injEq] at e
          obtain ⟨rfl, rfl, -⟩ := e
          have HP : Hid (prevOf bs k = some x) := by rw [hj]; exact prevOf_succ hjx
          have hpos : (0 : Int) < (k : Int) := by omega
          have hkj : IntKind.i64.wrap (j : Int) = (j : Int) := by rw [IntKind.wrap_i64]; omega
          have hkj2 : wrap64 (j : Int) = (j : Int) := by unfold wrap64; omega
          have hkj3 : (k : Int) - 1 = (j : Int) := by omega
          have hjl2 : (j : Int) < (bs.length : Int) := by omega
          have hjl : j < bs.length := by omega
          clear hs hs1 hkb hjx hj hk0
          obtain ⟨xa, xc, e0, e1, e2, e3, e4, -, -⟩ := hbt'
          have hkb : kb < wr.heap.size := lt_of_cell c0
          by_cases hf : nextB x b = false
          · go_wp2
            first
              | go_region_with (first
                  | (go_at_call 16; refine (specGood_any _ _ _ _ _ _ _ _ ?_ hsl).mono ?_; exact hst1.below (Below.refl _ _).drew; rintro r w1 ⟨hr, hB1⟩; rw [hG] at hr; subst hr; have hX1 := fun o => (bcell hB1).1 wr.heap.size o (by simp); have hY1 := fun o => (bcell hB1).1 kb o (by simp; omega))
                  | (go_at_call 33; refine (l1Next_any x b _ _ _ _ _).mono ?_; rintro r w2 ⟨hr, hB2⟩; rw [hf] at hr; subst hr))
              | fail
            all_goals
              go_wp2
              go_ret
              exact ⟨ret_bool (by rw [good_stop HK.out (.inr (by rw [HP.out]; exact hf)) HE.out]), (hBn.drew.trans (hB1.mono (by simpa using hBn.size))).trans (hB2.mono (by have := hBn.size; have := hB1.size; simp at *; omega))⟩
          · have hf : nextB x b = true := by simpa using hf
            go_wp2
            first
              | go_region_with (first
                  | (go_at_call 16; refine (specGood_any _ _ _ _ _ _ _ _ ?_ hsl).mono ?_; exact hst1.below (Below.refl _ _).drew; rintro r w1 ⟨hr, hB1⟩; rw [hG] at hr; subst hr; have hX1 := fun o => (bcell hB1).1 wr.heap.size o (by simp); have hY1 := fun o => (bcell hB1).1 kb o (by simp; omega))
                  | (go_at_call 33; refine (l1Next_any x b _ _ _ _ _).mono ?_; rintro r w2 ⟨hr, hB2⟩; rw [hf] at hr; subst hr))
              | fail
            all_goals
              go_wp2
              go_roundw
              case rel => exact ⟨k + 1, by omega, by go_num, good_step HK.out hg (by rw [HP.out]; exact hf) HE.out, (hBn.drew.trans (hB1.mono (by simpa using hBn.size))).trans (hB2.mono (by have := hBn.size; have := hB1.size; simp at *; omega))⟩
              case measure => simp [intOf]; omega
    · go_wp2
      go_ret
      refine ⟨ret_bool ?_, hB⟩
      have e := HE.out
      rw [List.drop_eq_nil_of_le (by omega)] at e
      rw [← e, goodFrom]

end Go.Proofs.YteefmbaehmcibaaDoor
