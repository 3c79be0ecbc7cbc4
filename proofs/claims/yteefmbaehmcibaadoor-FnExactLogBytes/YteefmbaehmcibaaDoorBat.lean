/-
  Batches handed to and fro by the laws: the contracts of szBatch, toBatch, eqBatch.
-/
import Derived.Test.YteefmbaehmcibaaDoorGood
namespace Go.Proofs.YteefmbaehmcibaaDoor
open Go.RowKit

theorem bcell {W w1 : World} (hb : Below W.heap.size W w1) : (∀ b o, b < W.heap.size → w1.cell? ⟨b, o, none⟩ = W.cell? ⟨b, o, none⟩) ∧ (∀ b o, b < W.heap.size → w1.frozen? ⟨b, o, none⟩ = W.frozen? ⟨b, o, none⟩) :=
  ⟨fun b o h => hb.cell (p := ⟨b, o, none⟩) h, fun b o h => hb.frozen (p := ⟨b, o, none⟩) h⟩

/-- The slice's cells lie in a block from B on. -/
def FreshAt (B : Nat) (a : Option Addr) : Prop := ∀ b o s, a = some ⟨b, o, s⟩ → B ≤ b

theorem szS_bound {ss : List ByteArray} {left : Int} (h : 0 ≤ szS ss left) : ss.length ≤ left ∧ total ss ≤ left := by
  unfold szS at h; split at h <;> omega

theorem szS_range (ss : List ByteArray) {left : Int} (h0 : 0 ≤ left) : -1 ≤ szS ss left ∧ szS ss left ≤ left := by
  unfold szS; split <;> omega

theorem szBatch_any (o e p q : Int) (ss : List ByteArray) (a : Option Addr) (c : Nat) (left : Int) (w : World) (hs : Strs w a ss) (hl : ss.length ≤ maxLen) (h0 : 0 ≤ left) (h1 : left ≤ 1048576) :
    Calls Tryd.prog 5 #[.agg #[.int .i64 o, .int .i64 e, .int .i64 p, .int .i64 q, .slice a ss.length c], .int .i64 left] w fun r w' => r = .returned (.int .i64 (szS ss left)) ∧ Below w.heap.size w w' := by
  have hr := szS_range ss h0
  by_cases hn : szS ss left < 0
  · go_enter Tryd.func5, Tryd.ntmps5
    go_wp2_with (go_at_call 15; refine (szStringS_any _ _ _ _ _ (hs.below ((Below.refl _ _).alloc (Nat.le_refl _) _)) hl h0 h1).mono ?_; rintro e w' ⟨rfl, rfl⟩)
    go_ret
    exact ⟨ret_int (by omega), (Below.refl _ _).alloc (Nat.le_refl _) _⟩
  · go_enter Tryd.func5, Tryd.ntmps5
    go_wp2_with (go_at_call 15; refine (szStringS_any _ _ _ _ _ (hs.below ((Below.refl _ _).alloc (Nat.le_refl _) _)) hl h0 h1).mono ?_; rintro e w' ⟨rfl, rfl⟩)
    go_ret
    exact ⟨rfl, (Below.refl _ _).alloc (Nat.le_refl _) _⟩

set_option maxHeartbeats 1000000 in
theorem toBatch_any (o e p q : Int) (ss : List ByteArray) (a : Option Addr) (c : Nat) (w : World) (hs : Strs w a ss) (hl : ss.length ≤ 1048576) :
    Calls Tryd.prog 7 #[.agg #[.int .i64 o, .int .i64 e, .int .i64 p, .int .i64 q, .slice a ss.length c]] w fun r w' =>
      ∃ a' : Option Addr, r = .returned (.agg #[.int .i64 o, .int .i64 e, .int .i64 p, .int .i64 q, .slice a' ss.length ss.length]) ∧ Strs w' a' ss ∧ Below w.heap.size w w' ∧ FreshAt w.heap.size a' := by
  have hz := hs.size
  go_enter Tryd.func7, Tryd.ntmps7
  go_wp2_with fail
  refine (toStringS_any _ _ _ _ (hs.below ((((Below.refl _ _).alloc (Nat.le_refl _) _).alloc (by simp) _).alloc (by simp; omega) _)) hl).mono ?_
  rintro r w1 ⟨rfl, hR, hB⟩
  have HB := (((((Below.refl w.heap.size w).alloc (Nat.le_refl _) _).alloc (by simp) _).alloc (by simp; omega) _).trans (hB.mono (by simp; omega)))
  obtain ⟨hc, hf⟩ := bcell hB
  have hz1 := hB.size
  simp only [World.size_alloc] at hc hf hz1 hR
  clear hB
  go_wp2
  refine bodyPost_ret (v := .agg #[.int .i64 o, .int .i64 e, .int .i64 p, .int .i64 q, .slice (some ⟨w.heap.size + 1 + 1 + 1, 0, none⟩) ss.length ss.length]) (by simp [results, Tryd.results7, go_sem, hc]) rfl ⟨_, rfl, ?_, ?_, fun b o s h => by simp at h; omega⟩
  · exact Strs.of_row ((((((hR.setOther (by simp) _).setOther (by simp; omega) _).setOther (by simp; omega) _).setOther (by simp; omega) _).setOther (by simp; omega) _).setOther (by simp; omega) _) hz
  · exact (((((HB.setCell (by simp; omega) _).setCell (by simp) _).setCell (by simp) _).setCell (by simp) _).setCell (by simp) _).setCell (by simp) _

def Bt.eqB (b d : Bt) : Bool := decide (b.off = d.off) && decide (b.ep = d.ep) && decide (b.pr = d.pr) && decide (b.sq = d.sq) && decide (b.recs = d.recs)

set_option maxHeartbeats 1000000 in
theorem eqBatch_same (o e p q : Int) (ss : List ByteArray) (a a2 : Option Addr) (c c2 : Nat) (w : World) (hs : Strs w a ss) (hs2 : Strs w a2 ss) (hl : ss.length ≤ maxLen) :
    Calls Tryd.prog 9 #[.agg #[.int .i64 o, .int .i64 e, .int .i64 p, .int .i64 q, .slice a ss.length c], .agg #[.int .i64 o, .int .i64 e, .int .i64 p, .int .i64 q, .slice a2 ss.length c2]] w fun r w' => r = .returned (.bool true) ∧ Below w.heap.size w w' := by
  go_enter Tryd.func9, Tryd.ntmps9
  go_wp2_with fail
  have hb : ∀ x y, Below w.heap.size w ((w.alloc x).alloc y) := fun _ _ => ((Below.refl _ _).alloc (Nat.le_refl _) _).alloc (by simp) _
  refine (eqStringS_any _ _ _ _ _ _ _ (hs.below (hb _ _)) (hs2.below (hb _ _)) hl hl).mono ?_
  rintro r w1 ⟨rfl, n, rfl⟩
  go_wp2
  go_ret
  exact ⟨rfl, below_drewN (hb _ _) n⟩

theorem good_bounds {o e p q : Int} {ss : List ByteArray} (h : Bt.good ⟨o, e, p, q, ss⟩ = true) : 0 ≤ o ∧ o ≤ 100000 ∧ 1 ≤ (ss.length : Int) ∧ (ss.length : Int) ≤ 8 := by
  simp only [Bt.good, Bool.and_eq_true, inB_t] at h
  obtain ⟨⟨⟨⟨⟨_, h1⟩, _⟩, _⟩, _⟩, h2⟩ := h
  exact ⟨h1.1, h1.2, h2.1, h2.2⟩

end Go.Proofs.YteefmbaehmcibaaDoor
