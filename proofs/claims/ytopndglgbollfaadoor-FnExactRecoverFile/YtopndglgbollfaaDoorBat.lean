/-
  Batches handed to and fro by the laws: the contracts of szBatch, toBatch, eqBatch.
-/
import Derived.Test.YtopndglgbollfaaDoorGood
namespace Go.Proofs.YtopndglgbollfaaDoor
open Go.RowKit

theorem bcell {W w1 : World} (hb : Below W.heap.size W w1) : (∀ b o, b < W.heap.size → w1.cell? ⟨b, o, none⟩ = W.cell? ⟨b, o, none⟩) ∧ (∀ b o, b < W.heap.size → w1.frozen? ⟨b, o, none⟩ = W.frozen? ⟨b, o, none⟩) :=
  ⟨fun b o h => hb.cell (p := ⟨b, o, none⟩) h, fun b o h => hb.frozen (p := ⟨b, o, none⟩) h⟩

/-- The slice's cells lie in a block from B on. -/
def FreshAt (B : Nat) (a : Option Addr) : Prop := ∀ b o s, a = some ⟨b, o, s⟩ → B ≤ b

theorem szS_bound {ss : List ByteArray} {left : Int} (h : 0 ≤ szS ss left) : ss.length ≤ left ∧ total ss ≤ left := by
  unfold szS at h; split at h <;> omega

theorem szS_range (ss : List ByteArray) {left : Int} (h0 : 0 ≤ left) : -1 ≤ szS ss left ∧ szS ss left ≤ left := by
  unfold szS; split <;> omega

def Bt.eqB (b d : Bt) : Bool := decide (b.off = d.off) && decide (b.ep = d.ep) && decide (b.pr = d.pr) && decide (b.sq = d.sq) && decide (b.recs = d.recs)

set_option maxHeartbeats 1000000 in
theorem eqBatch_same (o e p q : Int) (ss : List ByteArray) (a a2 : Option Addr) (c c2 : Nat) (w : World) (hs : Strs w a ss) (hs2 : Strs w a2 ss) (hl : ss.length ≤ maxLen) :
    Calls Tryd.prog 27 #[.agg #[.int .i64 o, .int .i64 e, .int .i64 p, .int .i64 q, .slice a ss.length c], .agg #[.int .i64 o, .int .i64 e, .int .i64 p, .int .i64 q, .slice a2 ss.length c2]] w fun r w' => r = .returned (.bool true) ∧ Below w.heap.size w w' := by
  go_enter Tryd.func27, Tryd.ntmps27
  go_wp2_with fail
  have hb : ∀ x y, Below w.heap.size w ((w.alloc x).alloc y) := fun _ _ => ((Below.refl _ _).alloc (Nat.le_refl _) _).alloc (by simp) _
  refine (eqStringS_any _ _ _ _ _ _ _ (hs.below (hb _ _)) (hs2.below (hb _ _)) hl hl).mono ?_
  rintro r w1 ⟨rfl, n, rfl⟩
  go_wp2
  go_ret
  exact ⟨rfl, below_drewN (hb _ _) n⟩

theorem good_bounds {o e p q : Int} {ss : List ByteArray} (h : Bt.good ⟨o, e, p, q, ss⟩ = true) : 0 ≤ o ∧ o ≤ 100000 ∧ 1 ≤ (ss.length : Int) ∧ (ss.length : Int) ≤ 8 := by
  simp only [Bt.good, Bool.and_eq_true, inB_t] at h
  obtain ⟨⟨⟨⟨⟨_, h1⟩, _⟩, _⟩, _⟩, h2⟩ := h
  exact ⟨h1.1, h1.2, h2.1, h2.2⟩

end Go.Proofs.YtopndglgbollfaaDoor
