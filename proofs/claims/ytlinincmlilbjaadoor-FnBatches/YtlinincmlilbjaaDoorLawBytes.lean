/-
  The walk of the law FnExactBatchBytes: at every batch that can be read it answers true and leaves what was there as it was.
-/
import Derived.Test.YtlinincmlilbjaaDoorEnc3J
import Derived.Deep.RegionWith
namespace Go.Proofs.YtlinincmlilbjaaDoor
open Go.RowKit

theorem Below.stepB {W a b : World} (h : Below W.heap.size W a) (k : Below a.heap.size a b) : Below W.heap.size W b := h.trans (k.mono h.size)

set_option maxHeartbeats 1000000 in
theorem implBatchBytes_any (o e p q : Int) (ss : List ByteArray) (a : Option Addr) (c : Nat) (w : World) (hT : TabAt w) (hs : Strs w a ss) (hl : ss.length ≤ maxLen) :
    Calls Tryd.prog 5 #[.agg #[.int .i64 o, .int .i64 e, .int .i64 p, .int .i64 q, .slice a ss.length c]] w fun r w' => r = .returned (.tuple #[.string (encS o e p q ss), .bool (Bt.good ⟨o, e, p, q, ss⟩)]) ∧ Below w.heap.size w w' := by
  have hb0 : ∀ x, Below w.heap.size w (w.alloc x) := fun _ => (Below.refl _ _).alloc (Nat.le_refl _) _
  by_cases hg : Bt.good ⟨o, e, p, q, ss⟩ = false
  · have HG : Hid (Bt.good ⟨o, e, p, q, ss⟩ = false) := hg
    clear hg
    go_enter Tryd.func5, Tryd.ntmps5
    go_wp2_with fail
    refine (implGood_any _ _ _ _ _ _ _ _ (hs.below (hb0 _)) hl).mono ?_
    rintro r w1 ⟨hr, hB⟩
    rw [HG.out] at hr
    subst hr
    have HB := (hb0 _).trans (hB.mono (hb0 _).size)
    clear hB
    go_wp2
    go_ret2
    exact ⟨ret_sb (encS_f HG.out).symm HG.out.symm, HB⟩
  · have hg : Bt.good ⟨o, e, p, q, ss⟩ = true := by simpa using hg
    obtain ⟨o, e, p, q, rfl, rfl, rfl, rfl, h1, h2, h3, h4, -, h5, h6⟩ := good_all hg
    rw [encS_t hg, hg]
    exact implBatchBytes_good o e p q ss a c w hT hs h1 h2 h3 h4 h5 h6 hg

end Go.Proofs.YtlinincmlilbjaaDoor
