/-
  The walk of the law FnExactGoodDisk: at every disk that can be read it answers true and leaves what was there as it was.
-/
import Derived.Test.YtljocofhefpapaaDskGood
import Derived.Test.YtljocofhefpapaaDsk2
namespace Go.Proofs.Ytljocofhefpapaa
open Go.RowKit

theorem Below.stepF {W a b : World} (h : Below W.heap.size W a) (k : Below a.heap.size a b) : Below W.heap.size W b := h.trans (k.mono h.size)

set_option maxHeartbeats 2000000 in
theorem lawGoodDisk_any (fs : List Fl) (a : Option Addr) (c : Nat) (w : World) (hs : Fls w a fs) (hl : fs.length ≤ maxLen) :
    Calls Try.prog 4 #[.agg #[.slice a fs.length c]] w fun r w' => r = .returned (.bool true) ∧ Below w.heap.size w w' := by
  have hb0 : Below w.heap.size w (w.alloc (.cells #[.slice a fs.length c] 32)) := (Below.refl _ _).alloc (Nat.le_refl _) _
  have hs0 := hs.below hb0
  by_cases hn : szD fs 1048576 < 0
  · go_enter Try.func4, Try.ntmps4
    go_wp2_with fail
    refine (szDisk_any _ _ _ _ _ hs0 hl (by omega) (by omega)).mono ?_
    rintro r w1 ⟨rfl, hB1⟩
    go_wp2
    go_ret
    exact ⟨rfl, Below.stepF hb0 hB1⟩
  · have hlen : fs.length ≤ 1048576 := by have := (szD_bound (fs := fs) (left := 1048576) (by omega)).1; omega
    go_enter Try.func4, Try.ntmps4
    go_wp2_with fail
    refine (szDisk_any _ _ _ _ _ hs0 hl (by omega) (by omega)).mono ?_
    rintro r w1 ⟨rfl, hB1⟩
    obtain ⟨hc1, -⟩ := fbcell hB1
    have hs1 := hs0.below hB1
    simp only [World.size_alloc] at hc1
    go_wp2_with fail
    refine (toDisk_any _ _ _ _ hs1 hlen).mono ?_
    rintro r w2 ⟨a2, rfl, hs2, -, hB2⟩
    go_wp2_with fail
    refine (specGoodDisk_any _ _ _ _ hs2 hl).mono ?_
    rintro r w3 ⟨rfl, hB3⟩
    have hB3' := Below.stepF (Below.stepF hB1 hB2) hB3
    clear hc1 hB2 hs2
    obtain ⟨hc3, -⟩ := fbcell hB3'
    have hs3 := hs0.below hB3'
    simp only [World.size_alloc] at hc3
    clear hB1 hB3
    go_wp2_with fail
    refine (toDisk_any _ _ _ _ hs3 hlen).mono ?_
    rintro r w4 ⟨a4, rfl, hs4, -, hB4⟩
    have hB4' := Below.stepF hB3' hB4
    clear hc3 hs3 hB3' hB4
    go_wp2_with fail
    have hb5 : Below w4.heap.size w4 (w4.alloc (.cells #[.slice a4 fs.length fs.length] 24)) := (Below.refl _ _).alloc (Nat.le_refl _) _
    have hs5 := hs4.below hb5
    refine (implGoodDisk_any _ _ _ _ hs5 hl).mono ?_
    rintro r w6 ⟨rfl, hB6⟩
    have hs6 := hs5.below hB6
    have hB6' := Below.stepF (Below.stepF hB4' hb5) hB6
    have hsA := hs0.below hB6'
    obtain ⟨hcX, -⟩ := fbcell hB6
    obtain ⟨hcA, -⟩ := fbcell hB6'
    have hsz := hB4'.size
    have hsz6 := hB6.size
    simp only [World.size_alloc] at hcX hcA hsz hsz6
    have hX := fun o => hcX w4.heap.size o (by omega)
    have HBE := Below.stepF hb0 hB6'
    clear hcX hB6 hB4' hb5 hs5 hs4 hs1 hs0 hb0 hB6'
    go_wp2_with fail
    go_region_with (first
      | (go_at_call 16; refine (toDisk_any _ _ _ _ ?_ hlen).mono ?_; exact hsA.below (Below.refl _ _).drew; rintro r w7 ⟨a7, rfl, hs7, -, hB7⟩; have hs67 := (hs6.below (Below.refl _ _).drew).below hB7; have hX7 := fun o => (fbcell hB7).1 w4.heap.size o (by simp; omega))
      | (go_at_call 11; refine (eqDisk_same _ _ _ _ _ _ ?_ ?_ hl).mono ?_; exact hs67; exact hs7; rintro r w8 ⟨rfl, hB8⟩))
    all_goals
      go_wp2
      go_ret
      exact ⟨rfl, (HBE.drew.trans (hB7.mono (by have := HBE.size; simpa using this))).trans (hB8.mono (by have := HBE.size; have := hB7.size; simp at this; omega))⟩

end Go.Proofs.Ytljocofhefpapaa
