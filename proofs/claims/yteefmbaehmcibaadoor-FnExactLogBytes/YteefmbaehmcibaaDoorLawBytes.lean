/-
  The walk of the law FnExactBatchBytes: at every batch that can be read it answers true and leaves what was there as it was.
-/
import Derived.Test.YteefmbaehmcibaaDoorEnc3
import Derived.Deep.RegionWith
namespace Go.Proofs.YteefmbaehmcibaaDoor
open Go.RowKit

theorem Below.stepB {W a b : World} (h : Below W.heap.size W a) (k : Below a.heap.size a b) : Below W.heap.size W b := h.trans (k.mono h.size)

set_option maxHeartbeats 1000000 in
theorem implBatchBytes_any (o e p q : Int) (ss : List ByteArray) (a : Option Addr) (c : Nat) (w : World) (hT : TabAt w) (hs : Strs w a ss) (hl : ss.length ≤ maxLen) :
    Calls Tryd.prog 8 #[.agg #[.int .i64 o, .int .i64 e, .int .i64 p, .int .i64 q, .slice a ss.length c]] w fun r w' => r = .returned (.tuple #[.string (encS o e p q ss), .bool (Bt.good ⟨o, e, p, q, ss⟩)]) ∧ Below w.heap.size w w' := by
  have hb0 : ∀ x, Below w.heap.size w (w.alloc x) := fun _ => (Below.refl _ _).alloc (Nat.le_refl _) _
  by_cases hg : Bt.good ⟨o, e, p, q, ss⟩ = false
  · have HG : Hid (Bt.good ⟨o, e, p, q, ss⟩ = false) := hg
    clear hg
    go_enter Tryd.func8, Tryd.ntmps8
    go_wp2_with fail
    refine (implGood_any _ _ _ _ _ _ _ _ (hs.below (hb0 _)) hl).mono ?_
    rintro r w1 ⟨hr, hB⟩
    rw [HG.out] at hr
    subst hr
    have HB := (hb0 _).trans (hB.mono (hb0 _).size)
    clear hB
    go_wp2
    go_ret2
    exact ⟨ret_sb (encS_f HG.out).symm HG.out.symm, HB⟩
  · have hg : Bt.good ⟨o, e, p, q, ss⟩ = true := by simpa using hg
    obtain ⟨o, e, p, q, rfl, rfl, rfl, rfl, h1, h2, h3, h4, -, h5, h6⟩ := good_all hg
    rw [encS_t hg, hg]
    exact implBatchBytes_good o e p q ss a c w hT hs h1 h2 h3 h4 h5 h6 hg

set_option maxHeartbeats 2000000 in
theorem lawBytes_any (o e p q : Int) (ss : List ByteArray) (a : Option Addr) (c : Nat) (w : World) (hT : TabAt w) (hs : Strs w a ss) (hl : ss.length ≤ maxLen) :
    Calls Tryd.prog 3 #[.agg #[.int .i64 o, .int .i64 e, .int .i64 p, .int .i64 q, .slice a ss.length c]] w fun r w' => r = .returned (.bool true) ∧ Below w.heap.size w w' := by
  have hb0 : Below w.heap.size w (w.alloc (.cells #[.int .i64 o, .int .i64 e, .int .i64 p, .int .i64 q, .slice a ss.length c] 24)) := (Below.refl _ _).alloc (Nat.le_refl _) _
  have hs0 := hs.below hb0
  have hw0 : 0 < w.heap.size := lt_of_cell (hT 0 (by omega))
  by_cases hn : szS ss 1048576 < 0
  · go_enter Tryd.func3, Tryd.ntmps3
    go_wp2_with fail
    refine (szBatch_any _ _ _ _ _ _ _ _ _ hs0 hl (by omega) (by omega)).mono ?_
    rintro r w1 ⟨rfl, hB1⟩
    go_wp2
    go_ret
    exact ⟨rfl, Below.stepB hb0 hB1⟩
  · have hlen : ss.length ≤ 1048576 := by have := (szS_bound (ss := ss) (left := 1048576) (by omega)).1; omega
    go_enter Tryd.func3, Tryd.ntmps3
    go_wp2_with fail
    refine (szBatch_any _ _ _ _ _ _ _ _ _ hs0 hl (by omega) (by omega)).mono ?_
    rintro r w1 ⟨rfl, hB1⟩
    obtain ⟨hc1, -⟩ := bcell hB1
    have hs1 := hs0.below hB1
    simp only [World.size_alloc] at hc1
    go_wp2_with fail
    refine (toBatch_any _ _ _ _ _ _ _ _ hs1 hlen).mono ?_
    rintro r w2 ⟨a2, rfl, hs2, hB2, -⟩
    go_wp2_with fail
    refine (specBatchBytes_any _ _ _ _ _ _ _ _ hs2 hl).mono ?_
    rintro r w3 ⟨rfl, hB3⟩
    have hB3' := Below.stepB (Below.stepB hB1 hB2) hB3
    clear hc1 hB2 hs2
    obtain ⟨hc3, -⟩ := bcell hB3'
    have hs3 := hs0.below hB3'
    simp only [World.size_alloc] at hc3
    clear hB1 hB3
    go_wp2_with fail
    refine (toBatch_any _ _ _ _ _ _ _ _ hs3 hlen).mono ?_
    rintro r w4 ⟨a4, rfl, hs4, hB4, -⟩
    have hB4' := Below.stepB hB3' hB4
    clear hc3 hs3 hB3' hB4
    go_wp2_with fail
    have hb5 : Below w4.heap.size w4 (w4.alloc (.cells #[.int .i64 o, .int .i64 e, .int .i64 p, .int .i64 q, .slice a4 ss.length ss.length] 28)) := (Below.refl _ _).alloc (Nat.le_refl _) _
    have hs5 := hs4.below hb5
    have hT5 := (hT.below (Below.stepB hb0 hB4') hw0).below hb5 (by have := (Below.stepB hb0 hB4').size; omega)
    refine (implBatchBytes_any _ _ _ _ _ _ _ _ hT5 hs5 hl).mono ?_
    rintro r w6 ⟨rfl, hB6⟩
    have hs6 := hs5.below hB6
    have hB6' := Below.stepB (Below.stepB hB4' hb5) hB6
    have hsA := hs0.below hB6'
    obtain ⟨hcX, -⟩ := bcell hB6
    obtain ⟨hcA, -⟩ := bcell hB6'
    have hsz := hB4'.size
    have hsz6 := hB6.size
    simp only [World.size_alloc] at hcX hcA hsz hsz6
    have hX := fun o => hcX w4.heap.size o (by omega)
    have HBE := Below.stepB hb0 hB6'
    clear hcX hB6 hB4' hb5 hs5 hs4 hs1 hs0 hb0 hB6'
    go_wp2_with fail
    go_region_with (first
      | (go_at_call 7; refine (toBatch_any _ _ _ _ _ _ _ _ ?_ hlen).mono ?_; exact hsA.below (Below.refl _ _).drew; rintro r w7 ⟨a7, rfl, hs7, hB7, -⟩; have hs67 := (hs6.below (Below.refl _ _).drew).below hB7; have hX7 := fun o => (bcell hB7).1 w4.heap.size o (by simp; omega))
      | (go_at_call 9; refine (eqBatch_same _ _ _ _ _ _ _ _ _ _ ?_ ?_ hl).mono ?_; exact hs67; exact hs7; rintro r w8 ⟨rfl, hB8⟩))
    all_goals
      go_wp2
      go_ret
      exact ⟨rfl, (HBE.drew.trans (hB7.mono (by have := HBE.size; simpa using this))).trans (hB8.mono (by have := HBE.size; have := hB7.size; simp at this; omega))⟩

end Go.Proofs.YteefmbaehmcibaaDoor
