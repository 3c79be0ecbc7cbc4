/-
  The weights of some members together: the contracts of spec.l6Sum, impl.weightOf, spec.IsQuorum, impl.IsQuorum.
-/
import Derived.Test.YtifahambpgnedaaDoorQList
import Derived.Test.YtifahambpgnedaaDoorQSpec
import Derived.Deep.RegionWith
namespace Go.Proofs.YtifahambpgnedaaDoor
open Go.RowKit

/-- These are members that have a weight. -/
def inV (zs ks : List Int) : Prop := ∀ i, i < ks.length → 0 ≤ zA ks i ∧ zA ks i < zs.length

theorem zA_ok {zs : List Int} (hok : okV zs zs.length) (j : Nat) : 0 ≤ zA zs j ∧ zA zs j ≤ 9 := by
  by_cases h : j < zs.length
  · exact hok j h
  · have : zA zs j = 0 := by unfold zA; rw [List.getD_eq_getElem?_getD, List.getElem?_eq_none (by omega)]; rfl
    omega

theorem sumTo_bd {zs ks : List Int} (hok : okV zs zs.length) : ∀ k, 0 ≤ sumTo zs ks k ∧ sumTo zs ks k ≤ 9 * k
  | 0 => by simp [sumTo]
  | k + 1 => by
    have h1 := sumTo_bd (ks := ks) hok k
    have h2 := zA_ok hok (zA ks k).toNat
    simp only [sumTo]; omega

set_option maxHeartbeats 1000000 in
theorem l6Sum_any (zs : List Int) (need : Int) (a a2 : Option Addr) (c c2 : Nat) (ks : List Int) (w : World) (hs : Ints w a zs) (hk : Ints w a2 ks) (hok : okV zs zs.length) (hkl : ks.length ≤ 1000) (hin : inV zs ks) :
    Calls Tryd.prog 32 #[votV zs need a c, .slice a2 ks.length c2] w fun r w' => r = .returned (.int .i64 (sumW zs ks)) ∧ Below w.heap.size w w' := by
  have hb : ∀ x, Below w.heap.size w (w.alloc x) := fun _ => (Below.refl _ _).alloc (Nat.le_refl _) _
  go_enter Tryd.func32, Tryd.ntmps32
  go_wp2
  go_loop [5, 10] (fun s i => ∃ k : Nat, k ≤ ks.length ∧ i = .int .i64 k ∧ s = .int .i64 (sumTo zs ks k)) (fun _ i => ks.length - (intOf i).toNat)
  case atStart => exact ⟨0, Nat.zero_le _, rfl, rfl⟩
  case round =>
    obtain ⟨k, hk', rfl, rfl⟩ := hrel
    have hbd := sumTo_bd (ks := ks) hok k
    by_cases hlt : k < ks.length
    · obtain ⟨b, off, rfl, hc⟩ := (hk.below (hb (.cells #[.slice a zs.length c, .int .i64 need] 28))) k _ (zA_get hlt)
      obtain ⟨h0, h1⟩ := hin k hlt
      obtain ⟨m, hm⟩ := Int.eq_ofNat_of_zero_le h0
      have hml : m < zs.length := by omega
      obtain ⟨b2, off2, rfl, hc2⟩ := (hs.below (hb (.cells #[.slice a zs.length c, .int .i64 need] 28))) m _ (zA_get hml)
      have HN : Hid (sumTo zs ks (k + 1) = sumTo zs ks k + zA zs m) := by show sumTo zs ks k + zA zs (zA ks k).toNat = _; rw [hm]; rfl
      have h9 := hok m hml
      rw [hm] at hc
      clear hs hk hin hok hm h0 h1
      go_wp2
      go_round
      case rel => exact ⟨k + 1, by omega, by go_num, by rw [HN.out]⟩
      case measure => simp [intOf]; omega
    · obtain rfl : k = ks.length := by omega
      clear hs hk hin
      go_wp2
      go_ret
      exact ⟨rfl, hb _⟩

theorem mi_get {n i : Nat} {z : Int} (h : (mi n)[i]? = some z) : ∃ m, m ∈ mem7 n ∧ z = (m : Int) := by
  unfold mi at h
  rw [List.getElem?_map, Option.map_eq_some_iff] at h
  obtain ⟨m, hm, rfl⟩ := h
  exact ⟨m, List.mem_of_getElem? hm, rfl⟩

theorem mi_in {zs : List Int} {n : Nat} (h : ∀ m ∈ mem7 n, m < zs.length) : inV zs (mi n) := fun i hi => by
  obtain ⟨m, hm, e⟩ := mi_get (zA_get hi)
  have := h m hm
  rw [e]; omega

set_option maxHeartbeats 1000000 in
theorem weightOf_any (zs : List Int) (need : Int) (a : Option Addr) (c n : Nat) (w : World) (hs : Ints w a zs) (hok : okV zs zs.length) (hn : n < 128) (hm : ∀ m ∈ mem7 n, m < zs.length) (hT : TabQ w) :
    Calls Tryd.prog 35 #[votV zs need a c, setV n] w fun r w' => r = .returned (.int .i64 (sumW zs (mi n))) ∧ Below w.heap.size w w' := by
  have hb : ∀ x y, Below w.heap.size w ((w.alloc x).alloc y) := fun _ _ => ((Below.refl _ _).alloc (Nat.le_refl _) _).alloc (by simp) _
  have hin := mi_in hm
  have hml := mi_len n
  have hT2 := fun x y => hT.bel (hb x y)
  have HT2 : Hid (∀ x y, TabQ ((w.alloc x).alloc y)) := hT2
  clear hT hT2
  go_enter Tryd.func35, Tryd.ntmps35
  go_wp2_with fail
  refine (list_any n hn _ (HT2.out _ _)).mono ?_
  intro r w1 hz
  obtain ⟨a1, c1, rfl, -, -, hk, -, hB1⟩ := hz.ints
  have hs1 := (hs.below (hb _ _)).below hB1
  have BB := (hb (.cells #[.slice a zs.length c, .int .i64 need] 28) (.cells #[.int .u64 (n : Int)] 54)).trans (hB1.mono (by simp; omega))
  have cV : w1.cell? ⟨w.heap.size, 0, none⟩ = some (.slice a zs.length c) := (hB1.cell (p := ⟨w.heap.size, 0, none⟩) (by simp; omega)).trans (by simp [go_sem])
  clear hs hB1 hz
  go_wp2
  go_loop [5, 11] (fun s i => ∃ k : Nat, k ≤ (mi n).length ∧ i = .int .i64 k ∧ s = .int .i64 (sumTo zs (mi n) k)) (fun _ i => (mi n).length - (intOf i).toNat)
  case atStart => exact ⟨0, Nat.zero_le _, rfl, rfl⟩
  case round =>
    obtain ⟨k, hk', rfl, rfl⟩ := hrel
    have hbd := sumTo_bd (ks := mi n) hok k
    by_cases hlt : k < (mi n).length
    · obtain ⟨b, off, rfl, hc⟩ := hk k _ (zA_get hlt)
      obtain ⟨h0, h1⟩ := hin k hlt
      obtain ⟨m, hm2⟩ := Int.eq_ofNat_of_zero_le h0
      have hml2 : m < zs.length := by omega
      obtain ⟨b2, off2, rfl, hc2⟩ := hs1 m _ (zA_get hml2)
      have HN : Hid (sumTo zs (mi n) (k + 1) = sumTo zs (mi n) k + zA zs m) := by show sumTo zs (mi n) k + zA zs (zA (mi n) k).toNat = _; rw [hm2]; rfl
      have h9 := hok m hml2
      rw [hm2] at hc
      clear hs1 hk hin hok hm2 h0 h1 hm
      go_wp2
      go_round
      case rel => exact ⟨k + 1, by omega, by go_num, by rw [HN.out]⟩
      case measure => simp [intOf]; omega
    · obtain rfl : k = (mi n).length := by omega
      clear hs1 hk hin
      go_wp2
      go_ret
      exact ⟨rfl, BB⟩

end Go.Proofs.YtifahambpgnedaaDoor
