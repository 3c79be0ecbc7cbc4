/-
  Marks in slices of strings: the contracts of markStringS, heldStringS, markBatch, heldBatch.
-/
import Derived.Test.YtopndglgbollfaaDoorMark
import Derived.Deep.RegionWith
namespace Go.Proofs.YtopndglgbollfaaDoor
open Go.RowKit

/-- n marks from k on. -/
def markL (k n : Nat) : List ByteArray := (List.range n).map fun i => markOf (k + i)

theorem markL_length (k n : Nat) : (markL k n).length = n := by simp [markL]
theorem markL_get {k n i : Nat} (h : i < n) : (markL k n)[i]? = some (markOf (k + i)) := by simp [markL, h]

/-- Room for n strings at 'a', in a block from B on that may be written. -/
def RowAt (w : World) (B : Nat) (a : Option Addr) (n : Nat) : Prop :=
  n = 0 ∨ ∃ g m f, a = some ⟨g, 0, none⟩ ∧ B ≤ g ∧ n ≤ m ∧ w.rowIs g 9 m f

/-- The block where the slice's cells lie. -/
def InBlock (a : Option Addr) (n b : Nat) : Prop := 0 < n ∧ ∃ o s, a = some ⟨b, o, s⟩

theorem RowAt.of_block {w w' : World} {B : Nat} {a : Option Addr} {n : Nat} (h : RowAt w B a n) (hs : ∀ b, InBlock a n b → w'.heap[b]? = w.heap[b]?) : RowAt w' B a n := by
  rcases h with h | ⟨g, m, f, rfl, hg, hm, hR⟩
  · exact .inl h
  · by_cases h0 : n = 0
    · exact .inl h0
    · exact .inr ⟨g, m, f, rfl, hg, hm, hR.of_block (hs g ⟨by omega, 0, none, rfl⟩)⟩

theorem RowAt.lt {w : World} {B : Nat} {a : Option Addr} {n b : Nat} (h : RowAt w B a n) (hb : InBlock a n b) : B ≤ b ∧ b < w.heap.size := by
  obtain ⟨h0, o, s, e⟩ := hb
  rcases h with h | ⟨g, m, f, rfl, hg, hm, hR⟩
  · omega
  · simp only [Option.some.injEq, Addr.mk.injEq] at e
    have := hR.lt
    omega

theorem RowAt.below {w w' : World} {B : Nat} {a : Option Addr} {n : Nat} (h : RowAt w B a n) (hb : Below w.heap.size w w') : RowAt w' B a n :=
  h.of_block fun b hi => hb.block b (h.lt hi).2

theorem RowAt.mono {w : World} {B B' : Nat} {a : Option Addr} {n : Nat} (h : RowAt w B a n) (hb : B' ≤ B) : RowAt w B' a n := by
  rcases h with h | ⟨g, m, f, e, hg, r⟩
  · exact .inl h
  · exact .inr ⟨g, m, f, e, by omega, r⟩

theorem Strs.of_block {w w' : World} {a : Option Addr} {ss : List ByteArray} (h : Strs w a ss) (hs : ∀ b, InBlock a ss.length b → w'.heap[b]? = w.heap[b]?) : Strs w' a ss := fun i s hi => by
  obtain ⟨b, off, e, hc, hz⟩ := h i s hi
  have hlt := (List.getElem?_eq_some_iff.1 hi).1
  exact ⟨b, off, e, (World.cell?_of_block (a := ⟨b, off + i, none⟩) (hs b ⟨by omega, off, none, e⟩)).trans hc, hz⟩

set_option maxRecDepth 100000 in
set_option maxHeartbeats 1000000 in
theorem markStringS_any (a : Option Addr) (c n B k : Nat) (w : World) (h : RowAt w B a n) (h1 : 1 ≤ k) (h2 : k + n ≤ 1000000000) (hBw : B ≤ w.heap.size) :
    Calls Tryd.prog 29 #[.slice a n c, .int .i64 k] w fun r w' => r = .returned (.int .i64 ((k + n : Nat) : Int)) ∧ Strs w' a (markL k n) ∧ RowAt w' B a n ∧ Below B w w' ∧ ∀ b, b < w.heap.size → ¬ InBlock a n b → w'.heap[b]? = w.heap[b]? := by
  by_cases h0 : n = 0
  · subst h0
    go_enter Tryd.func29, Tryd.ntmps29
    go_wp2
    go_loopw [1, 5] (fun c i wr => c = .int .i64 (k : Int) ∧ i = .int .i64 0 ∧ w = wr) (fun _ _ _ => 0)
    case atStart => exact ⟨rfl, rfl, rfl⟩
    case round =>
      obtain ⟨rfl, rfl, rfl⟩ := hrel
      go_wp2
      go_ret
      exact ⟨ret_int (by simp), (fun i s hi => by simp [markL] at hi), .inl rfl, Below.refl _ _, fun _ _ _ => rfl⟩
  · obtain ⟨g, m, f, rfl, hg, hm, hR⟩ := h.resolve_left h0
    go_enter Tryd.func29, Tryd.ntmps29
    go_wp2
    go_loopw [1, 5] (fun c i wr => ∃ j : Nat, j ≤ n ∧ c = .int .i64 ((k + j : Nat) : Int) ∧ i = .int .i64 (j : Int) ∧ (∃ f', wr.rowIs g 9 m f' ∧ ∀ q, q < j → f' q = .string (markOf (k + q)) ∧ (markOf (k + q)).size ≤ 1000000001) ∧ Below B w wr ∧ ∀ b, b < w.heap.size → b ≠ g → wr.heap[b]? = w.heap[b]?) (fun _ i _ => n - (intOf i).toNat)
    case atStart => exact ⟨0, Nat.zero_le _, rfl, rfl, ⟨f, hR, fun q hq => absurd hq (Nat.not_lt_zero _)⟩, Below.refl _ _, fun _ _ _ => rfl⟩
    case round =>
      clear hR
      obtain ⟨j, hj, rfl, rfl, ⟨f', hR, hq⟩, hB, hO⟩ := hrel
      have HQ : Hid (∀ q, q < j → f' q = .string (markOf (k + q)) ∧ (markOf (k + q)).size ≤ 1000000001) := hq
      have HO : Hid (∀ b, b < w.heap.size → b ≠ g → wr.heap[b]? = w.heap[b]?) := hO
      clear hq hO
      by_cases hlt : j < n
      · have hBz := hB.size
        go_wp2_with fail
        refine (markText_any (k + j) _ (by omega) (by omega)).mono ?_
        rintro r w1 ⟨rfl, hz, hB1⟩
        have hR1 := hR.of_block (hB1.block _ hR.lt)
        have c0 := hR1.cell (i := j) (by omega)
        have f0 := hR1.frozen j
        have hR2 := hR1.set j (.string (markOf (k + j)))
        have hBn : Below B w (w1.setCell ⟨g, j, none⟩ (.string (markOf (k + j)))) := (hB.trans (hB1.mono (Nat.le_trans hBw hBz))).setCell hg _
        have HN : Hid (∀ b, b < w.heap.size → b ≠ g → (w1.setCell ⟨g, j, none⟩ (.string (markOf (k + j)))).heap[b]? = w.heap[b]?) := fun b hb hne => by
          rw [Below.heap_setCell w1 ⟨g, j, none⟩ _ b (by simpa using hne), hB1.block b (by omega), HO.out b hb hne]
        have HZ : Hid ((markOf (k + j)).size ≤ 1000000001) := hz
        clear hR hR1 hB hB1 HO hz
        go_wp2
        go_roundw
        case rel =>
          refine ⟨j + 1, by omega, by go_num, by go_num, ⟨_, hR2, fun q hq' => ?_⟩, hBn, HN.out⟩
          by_cases e : q = j
          · subst e; simp only [if_true]; exact ⟨trivial, HZ.out⟩
          · simp only [if_neg e]; exact HQ.out q (by omega)
        case measure => simp [intOf]; omega
      · obtain rfl : j = n := by omega
        go_wp2
        go_ret
        refine ⟨rfl, fun i s hi => ?_, .inr ⟨g, m, f', rfl, hg, hm, hR⟩, hB, fun b hb hne => ?_⟩
        · have hi' : i < j := by have := (List.getElem?_eq_some_iff.1 hi).1; simpa [markL_length] using this
          rw [markL_get hi'] at hi
          simp only [Option.some.injEq] at hi
          subst hi
          refine ⟨g, 0, rfl, ?_, by have := (HQ.out i hi').2; unfold maxLen; omega⟩
          rw [Nat.zero_add, hR.cell (by omega), (HQ.out i hi').1]
        · by_cases e : b = g
          · subst e
            exact absurd ⟨by omega, 0, none, rfl⟩ hne
          · exact HO.out b hb e

set_option maxRecDepth 100000 in
set_option maxHeartbeats 1000000 in
theorem heldStringS_any (a : Option Addr) (c n k : Nat) (w : World) (h : Strs w a (markL k n)) (h1 : 1 ≤ k) (h2 : k + n ≤ 1000000000) :
    Calls Tryd.prog 31 #[.slice a n c, .int .i64 k] w fun r w' => r = .returned (.int .i64 ((k + n : Nat) : Int)) ∧ Below w.heap.size w w' := by
  go_enter Tryd.func31, Tryd.ntmps31
  go_wp2
  go_loopw [1, 5] (fun c i wr => ∃ j : Nat, j ≤ n ∧ c = .int .i64 ((k + j : Nat) : Int) ∧ i = .int .i64 (j : Int) ∧ Below w.heap.size w wr) (fun _ i _ => n - (intOf i).toNat)
  case atStart => exact ⟨0, Nat.zero_le _, rfl, rfl, Below.refl _ _⟩
  case round =>
    obtain ⟨j, hj, rfl, rfl, hB⟩ := hrel
    by_cases hlt : j < n
    · obtain ⟨b, off, rfl, hc, hz⟩ := (h.below hB) j _ (markL_get hlt)
      obtain ⟨mk, hmk⟩ : ∃ mk, markOf (k + j) = mk := ⟨_, rfl⟩
      have HM : Hid (markOf (k + j) = mk) := hmk
      rw [hmk] at hc hz
      unfold maxLen at hz
      clear hmk h
      have hne : (!mk.toList == mk.toList) = false := by simp
      have hlc := lt_of_cell hc
      go_wp2
      go_region_with (go_at_call 46; refine (markText_any (k + j) _ (by omega) (by omega)).mono ?_; rintro r w1 ⟨hr, hz1, hB1⟩; rw [HM.out] at hr hz1; subst hr; have d1 := (hB1.cell (p := ⟨b, off + j, none⟩) (by simpa using hlc)).trans hc)
      all_goals
        have hBn := hB.drew.trans (hB1.mono (by simpa using hB.size))
        clear hB hB1
        go_wp2
        go_roundw
        case rel => exact ⟨j + 1, by omega, by go_num, by go_num, hBn⟩
        case measure => simp [intOf]; omega
    · obtain rfl : j = n := by omega
      go_wp2
      go_ret
      exact ⟨rfl, hB⟩

end Go.Proofs.YtopndglgbollfaaDoor
