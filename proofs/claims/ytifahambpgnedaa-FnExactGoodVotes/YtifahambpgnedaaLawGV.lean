/-
  The walk of the law FnExactGoodVotes: at all votes that can be read it answers true and leaves what was there as it was.
-/
import Derived.Test.YtifahambpgnedaaVot
import Derived.Deep.RegionWith
namespace Go.Proofs.Ytifahambpgnedaa
open Go.RowKit

theorem Below.step6 {W a b : World} (h : Below W.heap.size W a) (k : Below a.heap.size a b) : Below W.heap.size W b := h.trans (k.mono h.size)

set_option maxHeartbeats 2000000 in
theorem lawGoodV_any (zs : List Int) (need : Int) (a : Option Addr) (c : Nat) (w : World) (hs : Ints w a zs) (hl : zs.length ≤ maxLen) :
    Calls Try.prog 3 #[votV zs need a c] w fun r w' => r = .returned (.bool true) ∧ Below w.heap.size w w' := by
  have hb0 : Below w.heap.size w (w.alloc (.cells #[.slice a zs.length c, .int .i64 need] 24)) := (Below.refl _ _).alloc (Nat.le_refl _) _
  have hs0 := hs.below hb0
  have hT : (goodV zs need != goodV zs need) = false := by cases goodV zs need <;> rfl
  by_cases hn : szI zs.length 1048576 < 0
  · go_enter Try.func3, Try.ntmps3
    go_wp2_with fail
    refine (szVotes_any _ _ _ _ _ hl).mono ?_
    rintro r w1 ⟨rfl, hB1⟩
    go_wp2
    go_ret
    exact ⟨rfl, Below.step6 hb0 hB1⟩
  · have hlen : zs.length ≤ 1048576 := by have := (szI_bound (n := zs.length) (left := 1048576) (by omega)).1; omega
    go_enter Try.func3, Try.ntmps3
    go_wp2_with fail
    refine (szVotes_any _ _ _ _ _ hl).mono ?_
    rintro r w1 ⟨rfl, hB1⟩
    obtain ⟨hc1, -⟩ := bcell6 hB1
    have hs1 := hs0.below hB1
    simp only [World.size_alloc] at hc1
    go_wp2_with fail
    refine (toVotes_any _ _ _ _ _ hs1 hlen).mono ?_
    rintro r w2 ⟨a2, rfl, hs2, -, hB2⟩
    go_wp2_with fail
    refine (specGoodV_any _ _ _ _ _ hs2 hl).mono ?_
    rintro r w3 ⟨rfl, hB3⟩
    have hB3' := Below.step6 (Below.step6 hB1 hB2) hB3
    clear hc1 hB2 hs2
    obtain ⟨hc3, -⟩ := bcell6 hB3'
    have hs3 := hs0.below hB3'
    simp only [World.size_alloc] at hc3
    clear hB1 hB3
    go_wp2_with fail
    refine (toVotes_any _ _ _ _ _ hs3 hlen).mono ?_
    rintro r w4 ⟨a4, rfl, hs4, -, hB4⟩
    have hB4' := Below.step6 hB3' hB4
    clear hc3 hs3 hB3' hB4
    go_wp2_with fail
    have hb5 : Below w4.heap.size w4 (w4.alloc (.cells #[.slice a4 zs.length zs.length, .int .i64 need] 27)) := (Below.refl _ _).alloc (Nat.le_refl _) _
    have hs5 := hs4.below hb5
    refine (implGoodV_any _ _ _ _ _ hs5 hl).mono ?_
    rintro r w6 ⟨rfl, hB6⟩
    have hs6 := hs5.below hB6
    have hB6' := Below.step6 (Below.step6 hB4' hb5) hB6
    have hsA := hs0.below hB6'
    obtain ⟨hcX, -⟩ := bcell6 hB6
    obtain ⟨hcA, -⟩ := bcell6 hB6'
    have hsz := hB4'.size
    have hsz6 := hB6.size
    simp only [World.size_alloc] at hcX hcA hsz hsz6
    have hX := fun o => hcX w4.heap.size o (by omega)
    have HBE := Below.step6 hb0 hB6'
    clear hcX hB6 hB4' hb5 hs5 hs4 hs1 hs0 hb0 hB6'
    go_wp2_with fail
    go_region_with (first
      | (go_at_call 10; refine (toVotes_any _ _ _ _ _ ?_ hlen).mono ?_; exact hsA.below (Below.refl _ _).drew; rintro r w7 ⟨a7, rfl, hs7, -, hB7⟩; have hs67 := (hs6.below (Below.refl _ _).drew).below hB7; have hX7 := fun o => (bcell6 hB7).1 w4.heap.size o (by simp; omega))
      | (go_at_call 12; refine (eqVotes_same _ _ _ _ _ _ _ ?_ ?_ hl).mono ?_; exact hs67; exact hs7; rintro r w8 ⟨rfl, hB8⟩))
    all_goals
      go_wp2
      go_ret
      exact ⟨rfl, (HBE.drew.trans (hB7.mono (by have := HBE.size; simpa using this))).trans (hB8.mono (by have := HBE.size; have := hB7.size; simp at this; omega))⟩

end Go.Proofs.Ytifahambpgnedaa
