/-
  Places, the program's side: loadsIn, LoadsOf.
-/
import Derived.Test.YtmpchddfijcjfaaHmB
import Derived.Test.YtmpchddfijcjfaaHmI
namespace Go.Proofs.Ytmpchddfijcjfaa
open Go.RowKit Go.Maps

theorem run_makeMapN (z : Int) (w : World) : (Instr.makeMap 42 (some (.int .i64 z))).run Try.prog w = .ok (.map (some w.heap.size)) (w.alloc (.map #[] 0)) := by kernel_rfl

theorem wfI {z : Int} (h : -1000000 ≤ z ∧ z ≤ 1000000) : (Lit.int .i64 z).wf = true := WalkArith.wf_i64 (by omega)
theorem keyOfI {z : Int} (h : -1000000 ≤ z ∧ z ≤ 1000000) : keyOf Try.prog 3 (.int .i64 z) = some (.int .i64 z) := keyOf_int_mk Try.underlying3 (wfI h)
theorem elemI {z : Int} (h : -1000000 ≤ z ∧ z ≤ 1000000) : plainElem (H := Unit) Try.prog 3 (.int .i64 z) = some (.lit (.int .i64 z), []) := plainElem_int Try.underlying3 (wfI h)

/-- The map while the homes are laid; and behind the first k items. -/
def zeF (k : Nat) (z : Int) : Option Int := if 0 ≤ z ∧ z < (k : Int) then some 0 else none
def ldF (n : Nat) (l : List Int) (k : Nat) (z : Int) : Option Int := if 0 ≤ z ∧ z < (n : Int) then some ((cntTo l z k : Nat) : Int) else none
theorem zeF_step (k : Nat) (z : Int) : upM (zeF k) (k : Int) (some 0) z = zeF (k + 1) z := by
  unfold upM zeF
  by_cases h : z = (k : Int)
  · rw [if_pos h, if_pos (by omega)]
  · rw [if_neg h]
    by_cases h2 : 0 ≤ z ∧ z < (k : Int)
    · rw [if_pos h2, if_pos (by omega)]
    · rw [if_neg h2, if_neg (by omega)]
theorem zeF_all (n : Nat) (l : List Int) (z : Int) : zeF n z = ldF n l 0 z := by simp [zeF, ldF, cntTo]
theorem ldF_skip {n : Nat} {l : List Int} {k : Nat} (h : zA l k = -1) (z : Int) : ldF n l k z = ldF n l (k + 1) z := by
  unfold ldF
  by_cases h2 : 0 ≤ z ∧ z < (n : Int)
  · rw [if_pos h2, if_pos h2, cntTo, if_neg (by omega), Nat.add_zero]
  · rw [if_neg h2, if_neg h2]
theorem ldF_step {n : Nat} {l : List Int} {k : Nat} {x : Int} (h : zA l k = x) (h0 : 0 ≤ x ∧ x < (n : Int)) (z : Int) : upM (ldF n l k) x (some (((cntTo l x k : Nat) : Int) + 1)) z = ldF n l (k + 1) z := by
  unfold upM ldF
  by_cases e : z = x
  · subst e; rw [if_pos rfl, if_pos h0, cntTo, if_pos h]; simp
  · rw [if_neg e]
    by_cases h2 : 0 ≤ z ∧ z < (n : Int)
    · rw [if_pos h2, if_pos h2, cntTo, if_neg (by omega), Nat.add_zero]
    · rw [if_neg h2, if_neg h2]
theorem ldF_get {n : Nat} {l : List Int} {k : Nat} {x : Int} (h0 : 0 ≤ x ∧ x < (n : Int)) : (ldF n l k x).getD 0 = ((cntTo l x k : Nat) : Int) := by
  unfold ldF; rw [if_pos h0]; rfl
theorem iotaK (n : Nat) (l : List Int) (k : Nat) : keysL n (ldF n l k) = (List.range n).map fun h : Nat => (h : Int) := by
  unfold keysL
  rw [List.filter_eq_self]
  intro z hz
  obtain ⟨h, hh, rfl⟩ := List.mem_map.1 hz
  rw [List.mem_range] at hh
  unfold ldF
  rw [if_pos (by omega)]; rfl

set_option maxRecDepth 100000 in
set_option maxHeartbeats 2000000 in
theorem loadsIn_any (n : Nat) (a : Option Addr) (c : Nat) (l : List Int) (w : World) (hs : Ints w a l) (hn : n ≤ 6) (hl : l.length ≤ 16) (hr : ∀ i, i < l.length → -1 ≤ zA l i ∧ zA l i < (n : Int)) :
    Calls Try.prog 34 #[.int .i64 (n : Int), .slice a l.length c] w fun e w' => e = .returned (.map (some w.heap.size)) ∧ HM w' w.heap.size 100 (ldF n l l.length) ∧ Below w.heap.size w w' := by
  have HR : Hid (∀ i, i < l.length → -1 ≤ zA l i ∧ zA l i < (n : Int)) := hr
  clear hr
  have hmm := run_makeMapN (n : Int) w
  have hM0 : HM (w.alloc (.map #[] 0)) w.heap.size 0 (zeF 0) := ⟨.map [], World.ownsMap_made _ _ _ _, RdM.empty.1, fun z _ => RdM.empty.2.1 z rfl, fun z v h => by simp [zeF] at h; omega⟩
  have hB0 : Below w.heap.size w (w.alloc (.map #[] 0)) := alHm _ _
  go_enter Try.func34, Try.ntmps34
  go_wp2
  clear hmm
  go_loopw [12] (fun i wr => ∃ k : Nat, k ≤ n ∧ i = .int .i64 k ∧ HM wr w.heap.size k (zeF k) ∧ Below w.heap.size w wr) (fun i _ => n - (intOf i).toNat)
  case atStart => exact ⟨0, Nat.zero_le _, rfl, hM0, hB0⟩
  case round =>
    clear hM0 hB0
    obtain ⟨k, hk, rfl, hM, hB⟩ := hrel
    by_cases hlt : k < n
    · have hki : (k : Int) < (n : Int) := by omega
      obtain ⟨D, hown, hrd⟩ := hM
      have HRD : Hid (RdM D (zeF k)) := hrd
      clear hrd hs
      go_wp2_with (first | (at_mapUpdate; refine wpList_mapUpdate_own _ rfl _ _ _ 42 rfl 3 3 Try.keyI Try.underlying42 _ w.heap.size k _ rfl hown (by unfold maxLen; omega) _ _ _ rfl rfl (keyOfI (by omega)) _ [] (elemI (by omega)) ?_; intro w1 hown1 hgr1) | go_in)
      go_roundw
      case rel => exact ⟨k + 1, by omega, by go_num, ⟨_, hown1, by rw [← funext (zeF_step k)]; exact HRD.out.put hown.isMap _ _⟩, hB.grown hgr1 hB.size (fun j hj => by cases hj; exact Nat.le_refl _)⟩
      case measure => simp [intOf]; omega
    · obtain rfl : k = n := by omega
      have hM1 : HM wr w.heap.size k (ldF k l 0) := hM.congr (zeF_all k l)
      clear hM
      go_wp2
      go_loopw [20] (fun i wr2 => ∃ j : Nat, j ≤ l.length ∧ i = .int .i64 j ∧ HM wr2 w.heap.size (k + j) (ldF k l j) ∧ Below w.heap.size w wr2) (fun i _ => l.length - (intOf i).toNat)
      case atStart => exact ⟨0, Nat.zero_le _, rfl, hM1, hB⟩
      case round =>
        clear hM1 hB
        obtain ⟨j, hj, rfl, hM, hB⟩ := hrel
        by_cases hlj : j < l.length
        · obtain ⟨b, off, rfl, hc⟩ := (hs.below hB) j _ (zA_get hlj)
          have hrj := HR.out j hlj
          have hji : (j : Int) < (l.length : Int) := by omega
          obtain ⟨x, hx⟩ : ∃ x, zA l j = x := ⟨_, rfl⟩
          have HX : Hid (zA l j = x) := hx
          rw [hx] at hc hrj
          have hcl := cntTo_le l x j
          clear hx hs
          by_cases h1 : x = -1
          · have HE : Hid (∀ z, ldF k l j z = ldF k l (j + 1) z) := ldF_skip (by rw [HX.out, h1])
            have hM2 : HM wr w.heap.size (k + (j + 1)) (ldF k l (j + 1)) := (hM.congr HE.out).mono (by omega)
            have d1 : (x != -1) = false := by simp [h1]
            clear h1 hM
            go_wp2
            go_roundw
            case rel => exact ⟨j + 1, by omega, by go_num, hM2, hB⟩
            case measure => simp [intOf]; omega
          · have d1 : (x != -1) = true := by simp [h1]
            have h0 : 0 ≤ x ∧ x < (k : Int) := by omega
            obtain ⟨D, hown, hrd⟩ := hM
            have HRD : Hid (RdM D (ldF k l j)) := hrd
            have HG : Hid (∀ cc, D.atKey (.int .i64 x) (.lit (.int .i64 0)) = .lit (.int .i64 cc) → cc = ((cntTo l x j : Nat) : Int)) := fun cc hcc => (hrd.at0 hcc).trans (ldF_get h0)
            have HST : Hid (∀ z, upM (ldF k l j) x (some (((cntTo l x j : Nat) : Int) + 1)) z = ldF k l (j + 1) z) := ldF_step HX.out h0
            generalize cntTo l x j = C at *
            clear hrd h1 HX
            go_wp2_with (first | (at_lookup; refine wpList_lookup_own_int _ rfl _ _ 42 rfl 3 3 .i64 Try.keyI Try.underlying42 Try.underlying3 (Try.zeroI _) w.heap.size (k + j) _ rfl hown _ _ rfl (keyOfI (by omega)) ?_; intro cc hat hwc; have hcc := HG.out cc hat; subst hcc; clear hat hwc) | (at_mapUpdate; refine wpList_mapUpdate_own _ rfl _ _ _ 42 rfl 3 3 Try.keyI Try.underlying42 _ w.heap.size (k + j) _ rfl hown (by unfold maxLen; omega) _ _ _ rfl rfl (keyOfI (by omega)) _ [] (elemI (by omega)) ?_; intro w1 hown1 hgr1) | go_in)
            go_roundw
            case rel => exact ⟨j + 1, by omega, by go_num, ⟨_, hown1, by rw [← funext HST.out]; exact HRD.out.put hown.isMap _ _⟩, hB.grown hgr1 hB.size (fun j hj => by cases hj; exact Nat.le_refl _)⟩
            case measure => simp [intOf]; omega
        · obtain rfl : j = l.length := by omega
          have hM2 := hM.mono (by omega : k + l.length ≤ 100)
          clear hM
          go_wp2
          go_ret
          exact ⟨rfl, hM2, hB⟩

end Go.Proofs.Ytmpchddfijcjfaa
