/-
  Least quorums, the program's side: the contracts of the function literal of impl.LeastQuorums, and of impl.LeastQuorums.
-/
import Derived.Test.YtifahambpgnedaaDoorQLstLQ
namespace Go.Proofs.YtifahambpgnedaaDoor
open Go.RowKit

def lqEn (zs : List Int) (need : Int) (x : Nat) : Bool := decide (need ≤ sumW zs (mi x))
def lqL (zs : List Int) (need : Int) : List (List Int) := if goodV zs need then lstTo (lqEn zs need) (2 ^ zs.length) else []

theorem mem_small {n many m : Nat} (h : n < 2 ^ many) (hm : m ∈ mem7 n) : m < many := by
  apply Classical.byContradiction
  intro hn
  have := Nat.testBit_lt_two_pow (Nat.lt_of_lt_of_le h (Nat.pow_le_pow_right (n := 2) (by omega) (by omega : many ≤ m)))
  rw [(mem7_iff.1 hm).2] at this
  cases this

set_option maxRecDepth 100000 in
set_option maxHeartbeats 2000000 in
theorem lqLit_any (zs : List Int) (need : Int) (a : Option Addr) (c Bv : Nat) (w0 : World) (hs : Ints w0 a zs) (hok : okV zs zs.length) (hl7 : zs.length ≤ 7) (hT : TabQ w0)
    (cV : w0.cell? ⟨Bv, 0, none⟩ = some (.slice a zs.length c)) (cN : w0.cell? ⟨Bv, 1, none⟩ = some (.int .i64 need)) : EnoughLQ w0 Bv zs.length (lqEn zs need) := by
  intro u x hu hx
  have hx7 : x < 128 := Nat.lt_of_lt_of_le hx (pow_small _ hl7)
  have hmem : ∀ m ∈ mem7 x, m < zs.length := fun m hm => mem_small hx hm
  have hal : Below u.heap.size u (u.alloc (.cells #[.int .u64 (x : Int)] 54)) := (Below.refl _ _).alloc (Nat.le_refl _) _
  have B0 := hu.trans (hal.mono hu.size)
  have hs1 := hs.below B0
  have hT1 := hT.bel B0
  have kk : (u.alloc (.cells #[.int .u64 (x : Int)] 54)).drew.cell? ⟨Bv, 0, none⟩ = some (.slice a zs.length c) ∧ (u.alloc (.cells #[.int .u64 (x : Int)] 54)).drew.cell? ⟨Bv, 1, none⟩ = some (.int .i64 need) ∧ (u.alloc (.cells #[.int .u64 (x : Int)] 54)).drew.cell? ⟨u.heap.size, 0, none⟩ = some (.int .u64 (x : Int)) :=
    ⟨(B0.cell (p := ⟨Bv, 0, none⟩) (lt_of_cell cV)).trans cV, (B0.cell (p := ⟨Bv, 1, none⟩) (lt_of_cell cN)).trans cN, by simp [go_sem]⟩
  clear hs hT cV cN B0
  go_enter Tryd.func39, Tryd.ntmps39
  go_wp2_with fail
  go_region_held3 (fun w' => w'.cell? ⟨Bv, 0, none⟩ = some (.slice a zs.length c) ∧ w'.cell? ⟨Bv, 1, none⟩ = some (.int .i64 need) ∧ w'.cell? ⟨u.heap.size, 0, none⟩ = some (.int .u64 (x : Int)))
    (first | exact kk | go_keep)
    (first
      | (go_at_call 35; refine (weightOf_any _ _ _ _ _ _ (hs1.below (Below.refl _ _).drew) hok hx7 hmem (hT1.bel (Below.refl _ _).drew)).mono ?_; rintro r w3 ⟨rfl, hB3⟩; have kk : w3.cell? ⟨Bv, 0, none⟩ = some (.slice a zs.length c) ∧ w3.cell? ⟨Bv, 1, none⟩ = some (.int .i64 need) ∧ w3.cell? ⟨u.heap.size, 0, none⟩ = some (.int .u64 (x : Int)) := ⟨(hB3.cell (p := ⟨Bv, 0, none⟩) (lt_of_cell kk.1)).trans kk.1, (hB3.cell (p := ⟨Bv, 1, none⟩) (lt_of_cell kk.2.1)).trans kk.2.1, (hB3.cell (p := ⟨u.heap.size, 0, none⟩) (lt_of_cell kk.2.2)).trans kk.2.2⟩))
  all_goals
    go_wp2
    go_ret
    exact ⟨rfl, Below.step_dr hal hB3⟩

set_option maxHeartbeats 2000000 in
theorem implLQ_any (zs : List Int) (need : Int) (a : Option Addr) (c : Nat) (w : World) (hs : Ints w a zs) (hl : zs.length ≤ maxLen) (hT : TabQ w) :
    Calls Tryd.prog 16 #[votV zs need a c] w fun r w' => LAns w (lqL zs need) (goodV zs need) r w' := by
  have hb : Below w.heap.size w (w.alloc (.cells #[.slice a zs.length c, .int .i64 need] 28)) := (Below.refl _ _).alloc (Nat.le_refl _) _
  go_enter Tryd.func16, Tryd.ntmps16
  go_wp2_with fail
  refine (implGoodV_any _ _ _ _ _ (hs.below hb) hl).mono ?_
  rintro r w1 ⟨hr, hB1⟩
  have BB := hb.trans (hB1.mono (by simp))
  have hs1 := hs.below BB
  have hT1 := hT.bel BB
  have cV : w1.cell? ⟨w.heap.size, 0, none⟩ = some (.slice a zs.length c) := (hB1.cell (p := ⟨w.heap.size, 0, none⟩) (by simp)).trans (by simp [go_sem])
  have cN : w1.cell? ⟨w.heap.size, 1, none⟩ = some (.int .i64 need) := (hB1.cell (p := ⟨w.heap.size, 1, none⟩) (by simp)).trans (by simp [go_sem])
  clear hs hB1 hb hT
  generalize hg : goodV zs need = g at hr
  have HG : Hid (goodV zs need = g) := hg
  have HL : Hid (lqL zs need = if g then lstTo (lqEn zs need) (2 ^ zs.length) else []) := by show _ = _; unfold lqL; rw [hg]
  clear hg
  subst hr
  cases g with
  | false =>
    go_wp2
    go_ret2
    rw [HG.out]
    exact lans_of (qs := []) ⟨World.ownsRow_nil _ _ _ _, QIn.nil _ _, BB⟩ (by rw [HL.out]; rfl)
  | true =>
    have hgv := goodV_t.1 HG.out
    have HE : Hid (EnoughLQ w1 w.heap.size zs.length (lqEn zs need)) := lqLit_any zs need a c w.heap.size w1 hs1 hgv.1 hgv.2.1.2 hT1 cV cN
    have hl7 := hgv.2.1.2
    clear hgv
    go_wp2_with fail
    refine (leastListsLQ_any _ w1 w.heap.size zs.length HE hl7 _ (Below.refl _ _) hT1).mono ?_
    rintro r w2 ⟨v, qs, rfl, hq, hst⟩
    obtain ⟨av, cv, rfl, -, -⟩ := ownsZ_cap hst.own
    have hst2 : LSt w w2 (.slice av qs.length cv) qs := ⟨by
      obtain ⟨h1, h2 | ⟨g, cap, cur, hv, hg, r⟩⟩ := hst.own
      · exact ⟨h1, .inl h2⟩
      · exact ⟨h1, .inr ⟨g, cap, cur, hv, by have := BB.size; omega, r⟩⟩, hst.ints.mono BB.size, BB.trans (hst.bel.mono BB.size)⟩
    have HST : Hid (LSt w w2 (.slice av qs.length cv) qs) := hst2
    clear hst hst2
    go_wp2
    go_ret2
    rw [HG.out]
    exact lans_of HST.out (by rw [HL.out]; exact hq)

end Go.Proofs.YtifahambpgnedaaDoor
