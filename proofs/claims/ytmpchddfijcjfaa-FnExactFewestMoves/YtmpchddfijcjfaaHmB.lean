/-
  A map from numbers to numbers that a call owns: what it holds, as a function; its keys in order (perHome.inOrder).
-/
import Derived.Test.YtmpchddfijcjfaaHmT
import Derived.Test.YtmpchddfijcjfaaZan
import Derived.Test.YtmpchddfijcjfaaAppZ
import Derived.Maps.RangeWalk
import Derived.Maps.OwnSet
import Derived.Maps.OwnOps
import Derived.Maps.Views
namespace Go.Proofs.Ytmpchddfijcjfaa
open Go.RowKit Go.Maps

theorem Try.keyI : Keyed Try.prog 3 := int_keyed Try.underlying3
theorem Try.zeroI (w : World) : (zeroValue 3).run Try.prog w = .ok (.int .i64 0) w := by kernel_rfl

/-- The datum holds what f says. -/
def RdM (D : DataW Unit) (f : Int → Option Int) : Prop :=
  (∀ kl, Maps.has D kl = true → ∃ z, kl = .int .i64 z) ∧ (∀ z, f z = none → Maps.has D (.int .i64 z) = false) ∧ ∀ z v, f z = some v → ∀ zd, D.atKey (.int .i64 z) zd = .lit (.int .i64 v)
def upM (f : Int → Option Int) (z : Int) (o : Option Int) : Int → Option Int := fun y => if y = z then o else f y
theorem upM_same (f : Int → Option Int) (z : Int) (o : Option Int) : upM f z o z = o := by simp [upM]
theorem upM_other {f : Int → Option Int} {z y : Int} (h : y ≠ z) (o : Option Int) : upM f z o y = f y := by simp [upM, h]
theorem RdM.has {D : DataW Unit} {f : Int → Option Int} (h : RdM D f) (z : Int) : Maps.has D (.int .i64 z) = (f z).isSome := by
  cases hz : f z with
  | none => rw [h.2.1 z hz]; rfl
  | some v => exact has_true_of_atKey (h.2.2 z v hz)
theorem RdM.at0 {D : DataW Unit} {f : Int → Option Int} (h : RdM D f) {z c : Int} (hc : D.atKey (.int .i64 z) (.lit (.int .i64 0)) = .lit (.int .i64 c)) : c = (f z).getD 0 := by
  cases hz : f z with
  | none =>
    rw [atKey_of_not_has (h.2.1 z hz)] at hc
    simp only [DataW.lit.injEq, Lit.int.injEq, true_and] at hc
    exact hc.symm
  | some v =>
    rw [h.2.2 z v hz] at hc
    simp only [DataW.lit.injEq, Lit.int.injEq, true_and] at hc
    exact hc.symm
theorem RdM.empty : RdM (.map []) (fun _ => none) := ⟨fun kl h => by simp [Maps.has] at h, fun z _ => by simp [Maps.has], fun z v h => by cases h⟩
theorem litNe {y z : Int} (h : y ≠ z) : Lit.int .i64 y ≠ Lit.int .i64 z := fun e => h (by simpa using e)
theorem RdM.put {D : DataW Unit} {f : Int → Option Int} (h : RdM D f) (hm : IsMap D) (z v : Int) : RdM (D.put (.int .i64 z) (.lit (.int .i64 v))) (upM f z (some v)) := by
  refine ⟨fun kl hk => ?_, fun y hy => ?_, fun y u hy zd => ?_⟩
  · by_cases e : kl = .int .i64 z
    · exact ⟨z, e⟩
    · rw [has_put_other e] at hk; exact h.1 kl hk
  · by_cases e : y = z
    · rw [e, upM_same] at hy; cases hy
    · rw [upM_other e] at hy; rw [has_put_other (litNe e)]; exact h.2.1 y hy
  · by_cases e : y = z
    · subst e; rw [upM_same] at hy
      rw [atKey_put_same hm (show WideAt.IsKeyLit (.int .i64 y) from trivial)]
      rw [Option.some.inj hy]
    · rw [upM_other e] at hy; rw [atKey_put_other (litNe e)]; exact h.2.2 y u hy zd
theorem RdM.del {D : DataW Unit} {f : Int → Option Int} (h : RdM D f) (z : Int) : RdM (D.del (.int .i64 z)) (upM f z none) := by
  refine ⟨fun kl hk => ?_, fun y hy => ?_, fun y u hy zd => ?_⟩
  · by_cases e : kl = .int .i64 z
    · exact ⟨z, e⟩
    · rw [has_del_other e] at hk; exact h.1 kl hk
  · by_cases e : y = z
    · subst e; exact has_del_same
    · rw [upM_other e] at hy; rw [has_del_other (litNe e)]; exact h.2.1 y hy
  · by_cases e : y = z
    · subst e; rw [upM_same] at hy; cases hy
    · rw [upM_other e] at hy; rw [atKey_del_other (litNe e)]; exact h.2.2 y u hy zd

/-- Block B is a map of at most n entries that holds what f says. -/
def HM (w : World) (B n : Nat) (f : Int → Option Int) : Prop := ∃ D : DataW Unit, w.ownsMap Try.prog 3 (plainElem Try.prog 3) B n D ∧ RdM D f
theorem HM.lt {w : World} {B n : Nat} {f : Int → Option Int} (h : HM w B n f) : B < w.heap.size := by obtain ⟨D, h1, -⟩ := h; exact h1.lt
theorem HM.of_block {w w' : World} {B n : Nat} {f : Int → Option Int} (h : HM w B n f) (hb : w'.heap[B]? = w.heap[B]?) : HM w' B n f := by
  obtain ⟨D, ⟨es, clock, h1, r⟩, h2⟩ := h
  exact ⟨D, ⟨es, clock, hb.trans h1, r⟩, h2⟩
theorem HM.below {w w' : World} {B n : Nat} {f : Int → Option Int} (h : HM w B n f) (hb : Below w.heap.size w w') : HM w' B n f := h.of_block (hb.block B h.lt)
theorem HM.mono {w : World} {B n n' : Nat} {f : Int → Option Int} (h : HM w B n f) (hn : n ≤ n') : HM w B n' f := by obtain ⟨D, h1, h2⟩ := h; exact ⟨D, h1.mono hn, h2⟩
theorem HM.congr {w : World} {B n : Nat} {f g : Int → Option Int} (h : HM w B n f) (e : ∀ z, f z = g z) : HM w B n g := by rw [← funext e]; exact h

/-- The keys in order. -/
def keysL (N : Nat) (f : Int → Option Int) : List Int := ((List.range N).map fun h : Nat => (h : Int)).filter fun z => (f z).isSome
theorem iota_lt (N : Nat) : ((List.range N).map fun h : Nat => (h : Int)).Pairwise (fun a b => a < b) := by
  rw [List.pairwise_map]
  exact List.pairwise_lt_range.imp fun {a b} h => by omega
theorem keysL_lt (N : Nat) (f : Int → Option Int) : (keysL N f).Pairwise (fun a b => a < b) := (iota_lt N).filter _
theorem keysL_mem {N : Nat} {f : Int → Option Int} (hf : ∀ z, (f z).isSome = true → 0 ≤ z ∧ z < (N : Int)) (z : Int) : z ∈ keysL N f ↔ (f z).isSome = true := by
  unfold keysL
  rw [List.mem_filter, List.mem_map]
  constructor
  · exact fun h => h.2
  · intro h
    have := hf z h
    exact ⟨⟨z.toNat, by rw [List.mem_range]; omega, by omega⟩, h⟩
theorem keysL_len (N : Nat) (f : Int → Option Int) : (keysL N f).length ≤ N := by
  unfold keysL
  refine Nat.le_trans (List.length_filter_le _ _) ?_
  simp
theorem sorted_keys {N : Nat} {f : Int → Option Int} (hf : ∀ z, (f z).isSome = true → 0 ≤ z ∧ z < (N : Int)) {ks L : List Int} (hn : ks.Nodup) (hm : ∀ z, z ∈ ks ↔ (f z).isSome = true) (hp : L.Perm ks) (hs : L.Pairwise (fun a b => a ≤ b)) : L = keysL N f := by
  have hk := keysL_lt N f
  have hp2 : L.Perm (keysL N f) := hp.trans ((List.perm_ext_iff_of_nodup hn (hk.imp fun {a b} h => by omega)).2 fun z => by rw [hm z, keysL_mem hf])
  exact List.Perm.eq_of_pairwise (le := fun a b : Int => a ≤ b) (fun a b _ _ h1 h2 => Int.le_antisymm h1 h2) hs (hk.imp fun {a b} h => by omega) hp2

/-- The keys that have come so far, in whatever order. -/
def CollI (D : DataW Unit) (left : Lit → Bool) (ks : List Int) : Prop := ks.Nodup ∧ ∀ x, x ∈ ks ↔ (Maps.has D (.int .i64 x) = true ∧ left (.int .i64 x) = false)
theorem CollI.start (D : DataW Unit) : CollI D (Maps.has D) [] := ⟨List.nodup_nil, fun x => by cases Maps.has D (.int .i64 x) <;> simp⟩
theorem CollI.step {D : DataW Unit} {left : Lit → Bool} {ks : List Int} (h : CollI D left ks) {x : Int} {y : DataW Unit} (hlk : left (.int .i64 x) = true) (hat : ∀ zd, D.atKey (.int .i64 x) zd = y) : CollI D (fun z => left z && !z.sameKey (.int .i64 x)) (ks ++ [x]) := by
  have hhas : Maps.has D (.int .i64 x) = true := has_true_of_atKey hat
  have hnew : x ∉ ks := fun hx => by have := ((h.2 x).1 hx).2; rw [hlk] at this; cases this
  refine ⟨List.nodup_append.2 ⟨h.1, by simp, fun a ha b hb => by simp at hb; subst hb; exact fun e => hnew (e ▸ ha)⟩, fun y => ?_⟩
  by_cases hy : y = x
  · subst hy; simp [hhas, Lit.sameKey]
  · simp [h.2 y, hy, Lit.sameKey]
theorem rowZ_ne_iter {w : World} {b r n : Nat} {D : DataW Unit} {left : Lit → Bool} {cnt base : Nat} {e : TypeId} {size : Nat} {v : Value} {m : Nat} {xs : List Value}
    (h : w.ownsRow base e size v m xs) (hr : w.ranges Try.prog 3 (plainElem Try.prog 3) b r n D left cnt) : some r ≠ v.ownBlock := by
  obtain ⟨_, _, _, _, _, _, _, _, _, hit, _⟩ := hr
  rcases h.2 with ⟨rfl, _⟩ | ⟨g, cap, cur, rfl, _, hb, _⟩
  · simp [Value.ownBlock]
  · intro e1
    have : r = g := by simpa [Value.ownBlock] using e1
    subst this
    rw [hit] at hb
    cases hb
theorem rowZ_ne_low {w : World} {base : Nat} {e : TypeId} {size : Nat} {v : Value} {n : Nat} {xs : List Value} (h : w.ownsRow base e size v n xs) {b : Nat} (hb : b < base) : some b ≠ v.ownBlock := fun e1 => by
  have := (h.lt b e1.symm).1
  omega
theorem ir_of_owns {w : World} {B : Nat} {v : Value} {zs : List Int} (h : w.ownsRow B 3 1 v zs.length (zCells zs)) (h0 : 0 < zs.length) : ∃ g m c, v = .slice (some ⟨g, 0, none⟩) zs.length c ∧ B ≤ g ∧ IR w g m zs := by
  obtain ⟨g, cap, f, hv, hg, hn, hR, hx⟩ := row_of_ownsZ h h0
  rw [Nat.mul_one] at hR
  refine ⟨g, cap, cap, hv, hg, hn, f, hR, fun i hi => ?_⟩
  have := zCells_get (zA_get hi)
  rw [hx i (by omega)] at this
  exact Option.some.inj this

set_option maxRecDepth 100000 in
set_option maxHeartbeats 2000000 in
theorem inOrder_any (B n N : Nat) (f : Int → Option Int) (w : World) (hM : HM w B n f) (hN : N ≤ 12) (hf : ∀ z, (f z).isSome = true → 0 ≤ z ∧ z < (N : Int)) (h0 : 0 < (keysL N f).length) (hn : n ≤ 1000) :
    Calls Try.prog 35 #[.map (some B)] w fun e w' => ∃ g m c, e = .returned (.slice (some ⟨g, 0, none⟩) (keysL N f).length c) ∧ IR w' g m (keysL N f) ∧ w.heap.size ≤ g ∧ Below w.heap.size w w' := by
  obtain ⟨D, hown, hrd⟩ := hM
  obtain ⟨i0, hi, hz0, hz1, hz2⟩ := info_parts Try.infoInt
  have hbl := hown.lt
  have hsz := hown.size_le
  have HF : Hid (∀ z, (f z).isSome = true → 0 ≤ z ∧ z < (N : Int)) := hf
  have HRD : Hid (RdM D f) := hrd
  have H0 : Hid (0 < (keysL N f).length) := h0
  clear hf hrd h0
  go_enter Try.func35, Try.ntmps35
  go_wp2_with (first
    | (at_len; refine wpList_len_own _ rfl _ 42 rfl 3 3 Try.underlying42 _ B n _ rfl hown ?_)
    | (at_make; refine wpList_make_own _ rfl _ _ 22 rfl w.heap.size 3 i0 (.int .i64 0) 1 Try.underlying22 hi hz0 hz1 _ _ _ (Maps.size D) rfl rfl rfl (by rw [hz2]; omega) (by unfold maxLen; omega) (Nat.le_refl _) ?_; intro w1 hrow1 hg1)
    | (at_range; refine wpList_range_own _ rfl _ 42 rfl 3 3 Try.keyI Try.underlying42 _ B n _ rfl (hown.kept hg1 (by simp)) ?_; intro w0 hrg0 hg0 hs0)
    | go_in)
  go_frame
  go_loopw [3] (fun v wr => ∃ (left : Lit → Bool) (cnt : Nat) (ks : List Int), wr.ranges Try.prog 3 (plainElem Try.prog 3) B w1.heap.size n D left cnt ∧ ks.length + cnt ≤ Maps.size D ∧
      wr.ownsRow w.heap.size 3 1 v ks.length (zCells ks) ∧ CollI D left ks ∧ Below w.heap.size w wr)
    (fun _ wr => wr.rangeLeft B w1.heap.size)
  case atStart =>
    exact ⟨_, _, [], hrg0, by simp, hrow1.kept hg0 (Or.inr (by simp [Value.ownBlock])), CollI.start D,
      ((Below.refl _ _).grown hg1 (Nat.le_refl _) (fun j hj => by cases hj)).grown hg0 hg1.size (fun j hj => by cases hj)⟩
  case round =>
    obtain ⟨left, cnt, ks, hrg, hcs, hrow, hC, hnx⟩ := hrel
    go_wp2_with (first
      | (at_next; refine wpList_next_ranges_ii _ rfl _ rfl 3 3 .i64 .i64 Try.keyI Try.underlying3 Try.underlying3 B w1.heap.size n _ _ _ rfl hrg ?_ ?_)
      | go_in)
    · intro hc0 hl0
      have hm : ∀ z, z ∈ ks ↔ (f z).isSome = true := fun z => by rw [hC.2 z, hl0, HRD.out.has]; simp
      have hkl : 0 < ks.length ∧ ks.length = (keysL N f).length := by
        have hp : ks.Perm (keysL N f) := (List.perm_ext_iff_of_nodup hC.1 ((keysL_lt N f).imp fun {a b} h => by omega)).2 fun z => by rw [hm z, keysL_mem HF.out]
        have := hp.length_eq
        have := H0.out
        omega
      obtain ⟨g, m, c, rfl, hg, hir⟩ := ir_of_owns hrow hkl.1
      have hk12 : ks.length ≤ 12 := by have := keysL_len N f; omega
      have HKL : Hid (ks.length = (keysL N f).length) := hkl.2
      have hk1 : 1 ≤ ks.length := hkl.1
      have HND := (show Hid _ from hC.1)
      have HMM : Hid (∀ z, z ∈ ks ↔ (f z).isSome = true) := hm
      clear hkl hm hC hrow
      go_wp2_with (go_at_call 44; refine (sortZ_any g m c ks _ hir hk12 hk1).mono ?_; rintro e w2 ⟨rfl, L, k1, k2, k3, k4⟩)
      go_ret
      obtain rfl := sorted_keys HF.out HND.out HMM.out k2 k3
      exact ⟨g, m, c, by rw [HKL.out]; rfl, k1, hg, hnx.grown k4 hnx.size (fun j hj => by cases hj; exact hg)⟩
    · intro x c w2 cnt2 hwx hwc hlx hat hrg2 hlt hg2 hs2 hen
      have hrow2 := hrow.kept hg2 (Or.inr (rowZ_ne_iter hrow hrg).symm)
      clear hs2
      go_wp2_with (first
        | (at_builtin; refine wpList_append_own _ rfl _ _ 22 rfl w.heap.size 3 i0 (.int .i64 0) 1 8 Try.underlying22 hi hz0 hz1 hz2 rfl (by decide) _ _ _ rfl (hrow2.alloc _) ⟨w2.heap.size, 0, none⟩ 1 1 [.int .i64 x] rfl rfl (cell_one_new _ _ _) (by simp [Value.oneCell']) (by unfold maxLen at *; omega) (by omega) (by have := hnx.size; have := hg2.size; simp; omega) ?_; intro v' w3 hown' hg3 hnil3; go_frame)
        | go_in)
      have hrg3 := (hrg2.alloc _).kept hg3 (rowZ_ne_low hrow2 hbl) (rowZ_ne_iter hrow2 hrg2)
      go_roundw
      case rel =>
        refine ⟨_, cnt2, ks ++ [x], hrg3, by simp; omega, by simpa [zCells] using hown', hC.step hlx hat, ?_⟩
        exact ((hnx.grown hg2 hnx.size (fun j hj => by cases hj; exact hg1.size)).alloc (by have := hnx.size; have := hg2.size; omega) _).grown hg3 (by have := hnx.size; have := hg2.size; simp; omega) (fun j hj => (hrow2.lt j hj).1)
      case measure => rw [hrg3.left_eq, hrg.left_eq]; exact hlt

end Go.Proofs.Ytmpchddfijcjfaa
