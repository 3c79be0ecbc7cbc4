/-
  Whether members are a quorum: the contracts of spec.IsQuorum and impl.IsQuorum. (Region 4 of impl.IsQuorum was written by regwalk.py.)
-/
import Derived.Test.YtdibddkhjefmlaaDoorQWt
import Derived.Deep.RegionHeld3
namespace Go.Proofs.YtdibddkhjefmlaaDoor
open Go.RowKit

def isqOk (zs : List Int) (need : Int) (ks : List Int) : Bool := goodV zs need && riseB ks zs.length
def isqL (zs : List Int) (need : Int) (ks : List Int) : Bool := isqOk zs need ks && decide (need ≤ sumW zs ks)

theorem rise_in {zs ks : List Int} (h : riseB ks zs.length = true) : inV zs ks := fun i hi => by
  have := riseB_t.1 h i hi
  exact ⟨this.1, this.2.1⟩
theorem rise_len {ks : List Int} {many : Int} (hm : many ≤ 7) (h : riseB ks many = true) : ks.length ≤ 7 := by
  have := (mem7_msk hm h).1
  have h2 := congrArg List.length this
  rw [List.length_map] at h2
  have := mem7_len (msk ks)
  omega
theorem mi_msk {ks : List Int} {many : Int} (hm : many ≤ 7) (h : riseB ks many = true) : mi (msk ks) = ks := by
  unfold mi
  rw [(mem7_msk hm h).1, List.map_map]
  conv => rhs; rw [← List.map_id ks]
  refine List.map_congr_left fun z hz => ?_
  simp only [Function.comp, id]
  exact Int.toNat_of_nonneg (rise_mem h hz).1

end Go.Proofs.YtdibddkhjefmlaaDoor
