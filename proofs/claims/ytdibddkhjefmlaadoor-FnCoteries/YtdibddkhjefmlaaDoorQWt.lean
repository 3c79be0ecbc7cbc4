/-
  The weights of some members together: the contracts of spec.l6Sum, impl.weightOf, spec.IsQuorum, impl.IsQuorum.
-/
import Derived.Test.YtdibddkhjefmlaaDoorQList
import Derived.Test.YtdibddkhjefmlaaDoorQSpec
import Derived.Deep.RegionWith
namespace Go.Proofs.YtdibddkhjefmlaaDoor
open Go.RowKit

/-- These are members that have a weight. -/
def inV (zs ks : List Int) : Prop := ∀ i, i < ks.length → 0 ≤ zA ks i ∧ zA ks i < zs.length

theorem zA_ok {zs : List Int} (hok : okV zs zs.length) (j : Nat) : 0 ≤ zA zs j ∧ zA zs j ≤ 9 := by
  by_cases h : j < zs.length
  · exact hok j h
  · have : zA zs j = 0 := by unfold zA; rw [List.getD_eq_getElem?_getD, List.getElem?_eq_none (by omega)]; rfl
    omega

theorem sumTo_bd {zs ks : List Int} (hok : okV zs zs.length) : ∀ k, 0 ≤ sumTo zs ks k ∧ sumTo zs ks k ≤ 9 * k
  | 0 => by simp [sumTo]
  | k + 1 => by
    have h1 := sumTo_bd (ks := ks) hok k
    have h2 := zA_ok hok (zA ks k).toNat
    simp only [sumTo]; omega

set_option maxHeartbeats 1000000 in
theorem l6Sum_any (zs : List Int) (need : Int) (a a2 : Option Addr) (c c2 : Nat) (ks : List Int) (w : World) (hs : Ints w a zs) (hk : Ints w a2 ks) (hok : okV zs zs.length) (hkl : ks.length ≤ 1000) (hin : inV zs ks) :
    Calls Tryd.prog 62 #[votV zs need a c, .slice a2 ks.length c2] w fun r w' => r = .returned (.int .i64 (sumW zs ks)) ∧ Below w.heap.size w w' := by
  have hb : ∀ x, Below w.heap.size w (w.alloc x) := fun _ => (Below.refl _ _).alloc (Nat.le_refl _) _
  go_enter Tryd.func62, Tryd.ntmps62
  go_wp2
  go_loop [5, 10] (fun s i => ∃ k : Nat, k ≤ ks.length ∧ i = .int .i64 k ∧ s = .int .i64 (sumTo zs ks k)) (fun _ i => ks.length - (intOf i).toNat)
  case atStart => exact ⟨0, Nat.zero_le _, rfl, rfl⟩
  case round =>
    obtain ⟨k, hk', rfl, rfl⟩ := hrel
    have hbd := sumTo_bd (ks := ks) hok k
    by_cases hlt : k < ks.length
    · obtain ⟨b, off, rfl, hc⟩ := (hk.below (hb (.cells #[.slice a zs.length c, .int .i64 need] 77))) k _ (zA_get hlt)
      obtain ⟨h0, h1⟩ := hin k hlt
      obtain ⟨m, hm⟩ := Int.eq_ofNat_of_zero_le h0
      have hml : m < zs.length := by omega
      obtain ⟨b2, off2, rfl, hc2⟩ := (hs.below (hb (.cells #[.slice a zs.length c, .int .i64 need] 77))) m _ (zA_get hml)
      have HN : Hid (sumTo zs ks (k + 1) = sumTo zs ks k + zA zs m) := by show sumTo zs ks k + zA zs (zA ks k).toNat = _; rw [hm]; rfl
      have h9 := hok m hml
      rw [hm] at hc
      clear hs hk hin hok hm h0 h1
      go_wp2
      go_round
      case rel => exact ⟨k + 1, by omega, by go_num, by rw [HN.out]⟩
      case measure => simp [intOf]; omega
    · obtain rfl : k = ks.length := by omega
      clear hs hk hin
      go_wp2
      go_ret
      exact ⟨rfl, hb _⟩

theorem mi_get {n i : Nat} {z : Int} (h : (mi n)[i]? = some z) : ∃ m, m ∈ mem7 n ∧ z = (m : Int) := by
  unfold mi at h
  rw [List.getElem?_map, Option.map_eq_some_iff] at h
  obtain ⟨m, hm, rfl⟩ := h
  exact ⟨m, List.mem_of_getElem? hm, rfl⟩

theorem mi_in {zs : List Int} {n : Nat} (h : ∀ m ∈ mem7 n, m < zs.length) : inV zs (mi n) := fun i hi => by
  obtain ⟨m, hm, e⟩ := mi_get (zA_get hi)
  have := h m hm
  rw [e]; omega

end Go.Proofs.YtdibddkhjefmlaaDoor
