/-
  How a list of bytes that came in reads, and how long it is at most.
-/
import Derived.Test.YtlinincmlilbjaaDoorCardJ
import Derived.Test.YtlinincmlilbjaaDoorCur
import Derived.ChangeSlices
import Derived.SizedLaws
namespace Go.Proofs.YtlinincmlilbjaaDoor
open Go.ChangeShapes Go.WideShapes Go.ChangeAt Go.RowKit

theorem Tryd.cellsByte : Tryd.prog.cellsOf 5 = 1 := by kernel_rfl
theorem Tryd.bytesByte : Tryd.prog.bytesOf 5 = 1 := by kernel_rfl

section
variable {H : Type} {enc : TypeId × Value → H} {w : World} {base : Nat} {spare : Nat → Bool} {held : Bool}

set_option maxRecDepth 100000 in
theorem bytes_of {fuel : Nat} {cs : List Value} {x : DataW H × List MemPlace} (h : DataW.trod enc Tryd.prog w base spare held fuel 22 cs = some x) :
    ∃ a c, ∃ bs : List UInt8, cs = [.slice a bs.length c] ∧ Bys w a bs ∧ (bs.length = 0 ∨ ∃ el sp, x.1 = .slice el sp ∧ bs.length ≤ el.length + sp.length) := by
  rcases open_ints Tryd.underlying22 Tryd.underlying5 Tryd.cellsByte h with ⟨rfl, -⟩ | ⟨a, len, cap, zs, rfl, -, hl, hm, hlen, hx0, hx, hwf⟩
  · exact ⟨none, 0, [], rfl, fun i z hi => by simp at hi, .inl rfl⟩
  · have hlm : len ≤ zs.length := by rw [hlen]; split <;> omega
    have hz : ((zs.take len).map fun z => UInt8.ofNat z.toNat).length = len := by simp; omega
    refine ⟨some a, cap, (zs.take len).map fun z => UInt8.ofNat z.toNat, by rw [hz], fun i z hi => ?_, .inr ⟨_, _, by rw [hx0], ?_⟩⟩
    · have hlt := (List.getElem?_eq_some_iff.1 hi).1
      rw [hz] at hlt
      simp only [List.getElem?_map, Option.map_eq_some_iff] at hi
      obtain ⟨y, hy, rfl⟩ := hi
      rw [List.getElem?_take_of_lt hlt] at hy
      obtain ⟨b, off, spot⟩ := a
      have hspot : spot = none := by simpa [Addr.add] using World.cell?_spot (hx 0 (by omega))
      subst hspot
      refine ⟨b, off, rfl, ?_⟩
      rw [← add_plain]
      have := hx i (by omega)
      rw [List.getD_eq_getElem?_getD, hy] at this
      have hb := bounds_u8 (hwf y (List.mem_of_getElem? hy))
      have e : ((UInt8.ofNat y.toNat).toNat : Int) = y := by
        rw [UInt8.toNat_ofNat']; omega
      rw [e]; exact this
    · rw [hz]
      simp [lits]
      omega
end
end Go.Proofs.YtlinincmlilbjaaDoor
