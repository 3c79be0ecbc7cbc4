/-
  Slices of ints as a call reads them, and what the laws' helpers on them do: the contracts of toIntS, eqIntS, markIntS, heldIntS.
-/
import Derived.Test.YthbhokpjedndaaaStrs
import Derived.RegionTactic
namespace Go.Proofs.Ythbhokpjedndaaa
open Go.RowKit

/-- The slice value at 'a' reads as these numbers. -/
def Ints (w : World) (a : Option Addr) (zs : List Int) : Prop :=
  ∀ (i : Nat) (z : Int), zs[i]? = some z → ∃ b off, a = some ⟨b, off, none⟩ ∧ w.cell? ⟨b, off + i, none⟩ = some (.int .i64 z)

theorem Ints.below {w w' : World} {a : Option Addr} {zs : List Int} (h : Ints w a zs) (hb : Below w.heap.size w w') : Ints w' a zs := fun i z hi => by
  obtain ⟨b, off, e, hc⟩ := h i z hi
  exact ⟨b, off, e, (hb.cell (p := ⟨b, off + i, none⟩) (lt_of_cell hc)).trans hc⟩

theorem Ints.nil (w : World) (a : Option Addr) : Ints w a [] := fun i z hi => by simp at hi

theorem getInt {zs : List Int} {k : Nat} (h : k < zs.length) : ∃ z, zs[k]? = some z := ⟨_, List.getElem?_eq_getElem h⟩

theorem takeInt_snoc {zs : List Int} {k : Nat} {z : Int} (h : zs[k]? = some z) : zs.take (k + 1) = zs.take k ++ [z] := by
  rw [List.take_add_one, h]; rfl

/-- The block where the slice's cells lie. -/
def InI (a : Option Addr) (n b : Nat) : Prop := 0 < n ∧ ∃ o s, a = some ⟨b, o, s⟩

/-- Room for n numbers at 'a', in a block from B on that may be written. -/
def RowI (w : World) (B : Nat) (a : Option Addr) (n : Nat) : Prop :=
  n = 0 ∨ ∃ g m f, a = some ⟨g, 0, none⟩ ∧ B ≤ g ∧ n ≤ m ∧ w.rowIs g 3 m f

theorem RowI.of_block {w w' : World} {B : Nat} {a : Option Addr} {n : Nat} (h : RowI w B a n) (hs : ∀ b, InI a n b → w'.heap[b]? = w.heap[b]?) : RowI w' B a n := by
  rcases h with h | ⟨g, m, f, rfl, hg, hm, hR⟩
  · exact .inl h
  · by_cases h0 : n = 0
    · exact .inl h0
    · exact .inr ⟨g, m, f, rfl, hg, hm, hR.of_block (hs g ⟨by omega, 0, none, rfl⟩)⟩

theorem RowI.lt {w : World} {B : Nat} {a : Option Addr} {n b : Nat} (h : RowI w B a n) (hb : InI a n b) : B ≤ b ∧ b < w.heap.size := by
  obtain ⟨h0, o, s, e⟩ := hb
  rcases h with h | ⟨g, m, f, rfl, hg, hm, hR⟩
  · omega
  · simp only [Option.some.injEq, Addr.mk.injEq] at e
    have := hR.lt
    omega

theorem RowI.below {w w' : World} {B : Nat} {a : Option Addr} {n : Nat} (h : RowI w B a n) (hb : Below w.heap.size w w') : RowI w' B a n :=
  h.of_block fun b hi => hb.block b (h.lt hi).2

theorem RowI.mono {w : World} {B B' : Nat} {a : Option Addr} {n : Nat} (h : RowI w B a n) (hb : B' ≤ B) : RowI w B' a n := by
  rcases h with h | ⟨g, m, f, e, hg, r⟩
  · exact .inl h
  · exact .inr ⟨g, m, f, e, by omega, r⟩

theorem Ints.of_block {w w' : World} {a : Option Addr} {zs : List Int} (h : Ints w a zs) (hs : ∀ b, InI a zs.length b → w'.heap[b]? = w.heap[b]?) : Ints w' a zs := fun i z hi => by
  obtain ⟨b, off, e, hc⟩ := h i z hi
  have hlt := (List.getElem?_eq_some_iff.1 hi).1
  exact ⟨b, off, e, (World.cell?_of_block (a := ⟨b, off + i, none⟩) (hs b ⟨by omega, off, none, e⟩)).trans hc⟩

theorem Ints.lt {w : World} {a : Option Addr} {zs : List Int} (h : Ints w a zs) : ∀ b, InI a zs.length b → b < w.heap.size := fun b ⟨h0, o, s, e⟩ => by
  obtain ⟨z, hz⟩ := getInt (zs := zs) h0
  obtain ⟨k, o', e', hc⟩ := h 0 z hz
  rw [e'] at e
  simp only [Option.some.injEq, Addr.mk.injEq] at e
  have := lt_of_cell hc
  omega

theorem Ints.of_row {w : World} {b m : Nat} {t : TypeId} {f : Nat → Value} {zs : List Int} (h : w.rowIs b t m f) (hm : zs.length ≤ m) (hf : ∀ (i : Nat) (z : Int), zs[i]? = some z → f i = .int .i64 z) : Ints w (some ⟨b, 0, none⟩) zs := fun i z hi => by
  have hlt := (List.getElem?_eq_some_iff.1 hi).1
  refine ⟨b, 0, rfl, ?_⟩
  rw [Nat.zero_add, h.cell (by omega), hf i z hi]

theorem Try.infoInt : (Try.prog.info? 3).map (fun i => (i.zero, i.size, i.bytes)) = some (some (.int .i64 0), 1, 8) := by kernel_rfl

def upToI (zs : List Int) (k : Nat) (j : Nat) : Value := .int .i64 (if j < k then zs.getD j 0 else 0)

theorem upToI_step {w : World} {b : Nat} {t : TypeId} {n : Nat} {zs : List Int} {k : Nat} {z : Int} (h : w.rowIs b t n (upToI zs k)) (hs : zs[k]? = some z) : (w.setCell ⟨b, k, none⟩ (.int .i64 z)).rowIs b t n (upToI zs (k + 1)) := by
  refine (h.set k (.int .i64 z)).congr fun j _ => ?_
  by_cases e : j = k
  · subst e; simp [upToI, hs]
  · have : (j < k + 1) = (j < k) := by simp only [eq_iff_iff]; omega
    simp [upToI, e, this]

theorem upToI_full {zs : List Int} {i : Nat} {z : Int} (h : zs[i]? = some z) : upToI zs zs.length i = .int .i64 z := by
  have hlt := (List.getElem?_eq_some_iff.1 h).1
  unfold upToI
  rw [if_pos hlt, List.getD_eq_getElem?_getD, h]; rfl

set_option maxHeartbeats 400000 in
theorem toIntS_any (a : Option Addr) (c : Nat) (zs : List Int) (w : World) (hs : Ints w a zs) (hl : zs.length ≤ 1048576) :
    Calls Try.prog 32 #[.slice a zs.length c] w fun e w' => ∃ a', e = .returned (.slice a' zs.length zs.length) ∧ Ints w' a' zs ∧ RowI w' w.heap.size a' zs.length ∧ Below w.heap.size w w' := by
  have hmk := run_make_row' (P := Try.prog) 55 3 (.int .i64 0) 8 Try.underlying55 Try.infoInt rfl .i64 .i64 zs.length (by omega) (by omega)
  go_enter Try.func32, Try.ntmps32
  go_wp2
  have hB : Below w.heap.size w (w.alloc (.cells (madeCells #[Value.int .i64 0] zs.length) 3)) := (Below.refl _ _).alloc (Nat.le_refl _) _
  have hR : (w.alloc (.cells (madeCells #[Value.int .i64 0] zs.length) 3)).rowIs w.heap.size 3 zs.length (upToI zs 0) := (World.rowIs_made _ _ _ _).congr (fun j _ => by simp [upToI])
  go_loopw [4] (fun i wr => ∃ k : Nat, k ≤ zs.length ∧ i = .int .i64 k ∧ wr.rowIs w.heap.size 3 zs.length (upToI zs k) ∧ Below w.heap.size w wr) (fun i _ => zs.length - (intOf i).toNat)
  case atStart => exact ⟨0, Nat.zero_le _, rfl, hR, hB⟩
  case round =>
    clear hR hB
    obtain ⟨k, hk, rfl, hR, hB⟩ := hrel
    by_cases hlt : k < zs.length
    · obtain ⟨z, hkz⟩ := getInt hlt
      obtain ⟨b, off, rfl, hc'⟩ := (hs.below hB) k z hkz
      have hd := hR.cell hlt
      have hf := hR.frozen k
      have HK : Hid (zs[k]? = some z) := hkz
      clear hs hkz
      go_wp2
      go_roundw
      case rel => exact ⟨k + 1, by omega, by go_num, upToI_step hR HK.out, hB.setCell (Nat.le_refl _) _⟩
      case measure => simp [intOf]; omega
    · go_wp2
      go_ret
      obtain rfl : k = zs.length := by omega
      exact ⟨_, rfl, Ints.of_row hR (Nat.le_refl _) (fun i z hi => upToI_full hi), .inr ⟨_, _, _, rfl, Nat.le_refl _, Nat.le_refl _, hR⟩, hB⟩

set_option maxHeartbeats 400000 in
theorem eqIntS_same (a a2 : Option Addr) (c c2 : Nat) (zs : List Int) (w : World) (hx : Ints w a zs) (hy : Ints w a2 zs) (hl : zs.length ≤ maxLen) :
    Calls Try.prog 40 #[.slice a zs.length c, .slice a2 zs.length c2] w fun e w' => e = .returned (.bool true) ∧ Below w.heap.size w w' := by
  unfold maxLen at hl
  go_enter Try.func40, Try.ntmps40
  go_wp2
  go_loopw [5] (fun i wr => ∃ k : Nat, k ≤ zs.length ∧ i = .int .i64 k ∧ ∃ n, wr = w.drewN n) (fun i _ => zs.length - (intOf i).toNat)
  case atStart => exact ⟨0, Nat.zero_le _, rfl, 0, rfl⟩
  case round =>
    obtain ⟨k, hk, rfl, n, rfl⟩ := hrel
    by_cases hlt : k < zs.length
    · obtain ⟨z, hkz⟩ := getInt hlt
      obtain ⟨b, off, rfl, hc⟩ := hx k z hkz
      obtain ⟨b2, off2, rfl, hc2⟩ := hy k z hkz
      have hne : (z != z) = false := by simp
      clear hx hy hkz
      go_wp2
      go_quiet (fail)
      go_wp2
      go_roundw
      case rel => exact ⟨k + 1, by omega, by go_num, n + nq, by simp⟩
      case measure => simp [intOf]; omega
    · go_wp2
      go_ret
      exact ⟨rfl, below_drewN (Below.refl _ _) n⟩

/-- n marks from k on. -/
def markZ (k n : Nat) : List Int := (List.range n).map fun i => ((k + i : Nat) : Int)
theorem markZ_length (k n : Nat) : (markZ k n).length = n := by simp [markZ]
theorem markZ_get {k n i : Nat} (h : i < n) : (markZ k n)[i]? = some ((k + i : Nat) : Int) := by simp [markZ, h]

set_option maxRecDepth 100000 in
set_option maxHeartbeats 1000000 in
theorem markIntS_any (a : Option Addr) (c n B k : Nat) (w : World) (h : RowI w B a n) (h2 : k + n ≤ 1000000000) :
    Calls Try.prog 41 #[.slice a n c, .int .i64 k] w fun r w' => r = .returned (.int .i64 ((k + n : Nat) : Int)) ∧ Ints w' a (markZ k n) ∧ RowI w' B a n ∧ Below B w w' ∧ ∀ b, b < w.heap.size → ¬ InI a n b → w'.heap[b]? = w.heap[b]? := by
  by_cases h0 : n = 0
  · subst h0
    go_enter Try.func41, Try.ntmps41
    go_wp2
    go_loopw [1, 5] (fun c i wr => c = .int .i64 (k : Int) ∧ i = .int .i64 0 ∧ w = wr) (fun _ _ _ => 0)
    case atStart => exact ⟨rfl, rfl, rfl⟩
    case round =>
      obtain ⟨rfl, rfl, rfl⟩ := hrel
      go_wp2
      go_ret
      exact ⟨ret_int (by simp), (fun i s hi => by simp [markZ] at hi), .inl rfl, Below.refl _ _, fun _ _ _ => rfl⟩
  · obtain ⟨g, m, f, rfl, hg, hm, hR⟩ := h.resolve_left h0
    go_enter Try.func41, Try.ntmps41
    go_wp2
    go_loopw [1, 5] (fun c i wr => ∃ j : Nat, j ≤ n ∧ c = .int .i64 ((k + j : Nat) : Int) ∧ i = .int .i64 (j : Int) ∧ (∃ f', wr.rowIs g 3 m f' ∧ ∀ q, q < j → f' q = .int .i64 ((k + q : Nat) : Int)) ∧ Below B w wr ∧ ∀ b, b < w.heap.size → b ≠ g → wr.heap[b]? = w.heap[b]?) (fun _ i _ => n - (intOf i).toNat)
    case atStart => exact ⟨0, Nat.zero_le _, rfl, rfl, ⟨f, hR, fun q hq => absurd hq (Nat.not_lt_zero _)⟩, Below.refl _ _, fun _ _ _ => rfl⟩
    case round =>
      clear hR
      obtain ⟨j, hj, rfl, rfl, ⟨f', hR, hq⟩, hB, hO⟩ := hrel
      have HQ : Hid (∀ q, q < j → f' q = .int .i64 ((k + q : Nat) : Int)) := hq
      have HO : Hid (∀ b, b < w.heap.size → b ≠ g → wr.heap[b]? = w.heap[b]?) := hO
      clear hq hO
      by_cases hlt : j < n
      · have c0 := hR.cell (i := j) (by omega)
        have f0 := hR.frozen j
        have hR2 := hR.set j (.int .i64 ((k + j : Nat) : Int))
        have hBn : Below B w (wr.setCell ⟨g, j, none⟩ (.int .i64 ((k + j : Nat) : Int))) := hB.setCell hg _
        have HN : Hid (∀ b, b < w.heap.size → b ≠ g → (wr.setCell ⟨g, j, none⟩ (.int .i64 ((k + j : Nat) : Int))).heap[b]? = w.heap[b]?) := fun b hb hne => by
          rw [Below.heap_setCell wr ⟨g, j, none⟩ _ b (by simpa using hne), HO.out b hb hne]
        clear hR hB HO
        go_wp2
        go_roundw
        case rel =>
          refine ⟨j + 1, by omega, by go_num, by go_num, ⟨_, hR2, fun q hq' => ?_⟩, hBn, HN.out⟩
          by_cases e : q = j
          · subst e; simp only [if_true]
          · simp only [if_neg e]; exact HQ.out q (by omega)
        case measure => simp [intOf]; omega
      · obtain rfl : j = n := by omega
        go_wp2
        go_ret
        refine ⟨rfl, Ints.of_row hR (by rw [markZ_length]; exact hm) (fun i z hi => ?_), .inr ⟨g, m, f', rfl, hg, hm, hR⟩, hB, fun b hb hne => ?_⟩
        · have hi' : i < j := by have := (List.getElem?_eq_some_iff.1 hi).1; simpa [markZ_length] using this
          rw [markZ_get hi'] at hi
          simp only [Option.some.injEq] at hi
          subst hi
          exact HQ.out i hi'
        · by_cases e : b = g
          · subst e
            exact absurd ⟨by omega, 0, none, rfl⟩ hne
          · exact HO.out b hb e

set_option maxRecDepth 100000 in
set_option maxHeartbeats 1000000 in
theorem heldIntS_any (a : Option Addr) (c n k : Nat) (w : World) (h : Ints w a (markZ k n)) (h2 : k + n ≤ 1000000000) :
    Calls Try.prog 62 #[.slice a n c, .int .i64 k] w fun r w' => r = .returned (.int .i64 ((k + n : Nat) : Int)) ∧ w' = w := by
  go_enter Try.func62, Try.ntmps62
  go_wp2
  go_loopw [1, 5] (fun c i wr => ∃ j : Nat, j ≤ n ∧ c = .int .i64 ((k + j : Nat) : Int) ∧ i = .int .i64 (j : Int) ∧ w = wr) (fun _ i _ => n - (intOf i).toNat)
  case atStart => exact ⟨0, Nat.zero_le _, rfl, rfl, rfl⟩
  case round =>
    obtain ⟨j, hj, rfl, rfl, rfl⟩ := hrel
    by_cases hlt : j < n
    · obtain ⟨b, off, rfl, hc⟩ := h j _ (markZ_get hlt)
      clear h
      go_wp2
      go_roundw
      case rel => exact ⟨j + 1, by omega, by go_num, by go_num, by first | rfl | trivial⟩
      case measure => simp [intOf]; omega
    · obtain rfl : j = n := by omega
      go_wp2
      go_ret
      exact ⟨rfl, rfl⟩

end Go.Proofs.Ythbhokpjedndaaa
