/-
  Where a batch ends: the contracts of spec.EndOf and impl.EndOf.
-/
import Derived.Test.YteefmbaehmcibaaBat
namespace Go.Proofs.Yteefmbaehmcibaa
open Go.RowKit

def Bt.endOf (b : Bt) : Int := if b.good then b.off + b.recs.length else 0

theorem endOf_t {b : Bt} (h : b.good = true) : b.endOf = b.off + b.recs.length := by unfold Bt.endOf; rw [if_pos h]
theorem endOf_f {b : Bt} (h : b.good = false) : b.endOf = 0 := by unfold Bt.endOf; rw [if_neg (by simp [h])]


set_option maxHeartbeats 1000000 in
theorem specEnd_any (o e p q : Int) (ss : List ByteArray) (a : Option Addr) (c : Nat) (w : World) (hs : Strs w a ss) (hl : ss.length ≤ maxLen) :
    Calls Try.prog 16 #[.agg #[.int .i64 o, .int .i64 e, .int .i64 p, .int .i64 q, .slice a ss.length c]] w fun r w' => r = .returned (.tuple #[.int .i64 (Bt.endOf ⟨o, e, p, q, ss⟩), .bool (Bt.good ⟨o, e, p, q, ss⟩)]) ∧ Below w.heap.size w w' := by
  by_cases hg : Bt.good ⟨o, e, p, q, ss⟩ = true
  · have hb := good_bounds hg
    have he := endOf_t hg
    rw [he, hg]
    have HG : Hid (Bt.good ⟨o, e, p, q, ss⟩ = true) := hg
    clear hg he
    go_enter Try.func16, Try.ntmps16
    go_wp2_with fail
    refine (specGood_any _ _ _ _ _ _ _ _ (hs.below ((Below.refl _ _).alloc (Nat.le_refl _) _)) hl).mono ?_
    rintro r w1 ⟨rfl, hB⟩
    rw [HG.out]
    have HB := ((Below.refl w.heap.size w).alloc (Nat.le_refl _) _).trans (hB.mono (by simp))
    obtain ⟨hc, hf⟩ := bcell hB
    simp only [World.size_alloc] at hc
    clear hB hf
    go_wp2
    go_ret2
    exact ⟨rfl, HB⟩
  · have hg : Bt.good ⟨o, e, p, q, ss⟩ = false := by simpa using hg
    have he := endOf_f hg
    rw [he, hg]
    have HG : Hid (Bt.good ⟨o, e, p, q, ss⟩ = false) := hg
    clear hg he
    go_enter Try.func16, Try.ntmps16
    go_wp2_with fail
    refine (specGood_any _ _ _ _ _ _ _ _ (hs.below ((Below.refl _ _).alloc (Nat.le_refl _) _)) hl).mono ?_
    rintro r w1 ⟨rfl, hB⟩
    rw [HG.out]
    have HB := ((Below.refl w.heap.size w).alloc (Nat.le_refl _) _).trans (hB.mono (by simp))
    obtain ⟨hc, hf⟩ := bcell hB
    simp only [World.size_alloc] at hc
    clear hB hf
    go_wp2
    go_ret2
    exact ⟨rfl, HB⟩

set_option maxHeartbeats 1000000 in
theorem implEnd_any (o e p q : Int) (ss : List ByteArray) (a : Option Addr) (c : Nat) (w : World) (hs : Strs w a ss) (hl : ss.length ≤ maxLen) :
    Calls Try.prog 17 #[.agg #[.int .i64 o, .int .i64 e, .int .i64 p, .int .i64 q, .slice a ss.length c]] w fun r w' => r = .returned (.tuple #[.int .i64 (Bt.endOf ⟨o, e, p, q, ss⟩), .bool (Bt.good ⟨o, e, p, q, ss⟩)]) ∧ Below w.heap.size w w' := by
  by_cases hg : Bt.good ⟨o, e, p, q, ss⟩ = true
  · have hb := good_bounds hg
    have he := endOf_t hg
    rw [he, hg]
    have HG : Hid (Bt.good ⟨o, e, p, q, ss⟩ = true) := hg
    clear hg he
    go_enter Try.func17, Try.ntmps17
    go_wp2_with fail
    refine (implGood_any _ _ _ _ _ _ _ _ (hs.below ((Below.refl _ _).alloc (Nat.le_refl _) _)) hl).mono ?_
    rintro r w1 ⟨rfl, hB⟩
    rw [HG.out]
    have HB := ((Below.refl w.heap.size w).alloc (Nat.le_refl _) _).trans (hB.mono (by simp))
    obtain ⟨hc, hf⟩ := bcell hB
    simp only [World.size_alloc] at hc
    clear hB hf
    go_wp2
    go_ret2
    exact ⟨rfl, HB⟩
  · have hg : Bt.good ⟨o, e, p, q, ss⟩ = false := by simpa using hg
    have he := endOf_f hg
    rw [he, hg]
    have HG : Hid (Bt.good ⟨o, e, p, q, ss⟩ = false) := hg
    clear hg he
    go_enter Try.func17, Try.ntmps17
    go_wp2_with fail
    refine (implGood_any _ _ _ _ _ _ _ _ (hs.below ((Below.refl _ _).alloc (Nat.le_refl _) _)) hl).mono ?_
    rintro r w1 ⟨rfl, hB⟩
    rw [HG.out]
    have HB := ((Below.refl w.heap.size w).alloc (Nat.le_refl _) _).trans (hB.mono (by simp))
    obtain ⟨hc, hf⟩ := bcell hB
    simp only [World.size_alloc] at hc
    clear hB hf
    go_wp2
    go_ret2
    exact ⟨rfl, HB⟩

end Go.Proofs.Yteefmbaehmcibaa
