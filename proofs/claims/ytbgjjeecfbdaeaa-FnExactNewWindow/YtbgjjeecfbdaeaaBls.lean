/-
  Slices of bools as a call reads them, and what the laws' helpers on them do: the contracts of toBoolS, eqBoolS, markBoolS, heldBoolS, szBoolS. Made out of Ints by mkbls.py.
-/
import Derived.Test.YtbgjjeecfbdaeaaInts
namespace Go.Proofs.Ytbgjjeecfbdaeaa
open Go.RowKit

/-- The slice value at 'a' reads as these numbers. -/
def Bools (w : World) (a : Option Addr) (zs : List Bool) : Prop :=
  ∀ (i : Nat) (z : Bool), zs[i]? = some z → ∃ b off, a = some ⟨b, off, none⟩ ∧ w.cell? ⟨b, off + i, none⟩ = some (.bool z)

theorem Bools.below {w w' : World} {a : Option Addr} {zs : List Bool} (h : Bools w a zs) (hb : Below w.heap.size w w') : Bools w' a zs := fun i z hi => by
  obtain ⟨b, off, e, hc⟩ := h i z hi
  exact ⟨b, off, e, (hb.cell (p := ⟨b, off + i, none⟩) (lt_of_cell hc)).trans hc⟩

theorem Bools.nil (w : World) (a : Option Addr) : Bools w a [] := fun i z hi => by simp at hi

theorem getBool {zs : List Bool} {k : Nat} (h : k < zs.length) : ∃ z, zs[k]? = some z := ⟨_, List.getElem?_eq_getElem h⟩

theorem takeBool_snoc {zs : List Bool} {k : Nat} {z : Bool} (h : zs[k]? = some z) : zs.take (k + 1) = zs.take k ++ [z] := by
  rw [List.take_add_one, h]; rfl

/-- Room for n numbers at 'a', in a block from B on that may be written. -/
def RowO (w : World) (B : Nat) (a : Option Addr) (n : Nat) : Prop :=
  n = 0 ∨ ∃ g m f, a = some ⟨g, 0, none⟩ ∧ B ≤ g ∧ n ≤ m ∧ w.rowIs g 4 m f

theorem RowO.of_block {w w' : World} {B : Nat} {a : Option Addr} {n : Nat} (h : RowO w B a n) (hs : ∀ b, InI a n b → w'.heap[b]? = w.heap[b]?) : RowO w' B a n := by
  rcases h with h | ⟨g, m, f, rfl, hg, hm, hR⟩
  · exact .inl h
  · by_cases h0 : n = 0
    · exact .inl h0
    · exact .inr ⟨g, m, f, rfl, hg, hm, hR.of_block (hs g ⟨by omega, 0, none, rfl⟩)⟩

theorem RowO.lt {w : World} {B : Nat} {a : Option Addr} {n b : Nat} (h : RowO w B a n) (hb : InI a n b) : B ≤ b ∧ b < w.heap.size := by
  obtain ⟨h0, o, s, e⟩ := hb
  rcases h with h | ⟨g, m, f, rfl, hg, hm, hR⟩
  · omega
  · simp only [Option.some.injEq, Addr.mk.injEq] at e
    have := hR.lt
    omega

theorem RowO.below {w w' : World} {B : Nat} {a : Option Addr} {n : Nat} (h : RowO w B a n) (hb : Below w.heap.size w w') : RowO w' B a n :=
  h.of_block fun b hi => hb.block b (h.lt hi).2

theorem RowO.mono {w : World} {B B' : Nat} {a : Option Addr} {n : Nat} (h : RowO w B a n) (hb : B' ≤ B) : RowO w B' a n := by
  rcases h with h | ⟨g, m, f, e, hg, r⟩
  · exact .inl h
  · exact .inr ⟨g, m, f, e, by omega, r⟩

theorem Bools.of_block {w w' : World} {a : Option Addr} {zs : List Bool} (h : Bools w a zs) (hs : ∀ b, InI a zs.length b → w'.heap[b]? = w.heap[b]?) : Bools w' a zs := fun i z hi => by
  obtain ⟨b, off, e, hc⟩ := h i z hi
  have hlt := (List.getElem?_eq_some_iff.1 hi).1
  exact ⟨b, off, e, (World.cell?_of_block (a := ⟨b, off + i, none⟩) (hs b ⟨by omega, off, none, e⟩)).trans hc⟩

theorem Bools.lt {w : World} {a : Option Addr} {zs : List Bool} (h : Bools w a zs) : ∀ b, InI a zs.length b → b < w.heap.size := fun b ⟨h0, o, s, e⟩ => by
  obtain ⟨z, hz⟩ := getBool (zs := zs) h0
  obtain ⟨k, o', e', hc⟩ := h 0 z hz
  rw [e'] at e
  simp only [Option.some.injEq, Addr.mk.injEq] at e
  have := lt_of_cell hc
  omega

theorem Bools.of_row {w : World} {b m : Nat} {t : TypeId} {f : Nat → Value} {zs : List Bool} (h : w.rowIs b t m f) (hm : zs.length ≤ m) (hf : ∀ (i : Nat) (z : Bool), zs[i]? = some z → f i = .bool z) : Bools w (some ⟨b, 0, none⟩) zs := fun i z hi => by
  have hlt := (List.getElem?_eq_some_iff.1 hi).1
  refine ⟨b, 0, rfl, ?_⟩
  rw [Nat.zero_add, h.cell (by omega), hf i z hi]

theorem Try.infoBool : (Try.prog.info? 4).map (fun i => (i.zero, i.size, i.bytes)) = some (some (.bool false), 1, 1) := by kernel_rfl

def upToO (zs : List Bool) (k : Nat) (j : Nat) : Value := .bool (if j < k then zs.getD j false else false)

theorem upToO_step {w : World} {b : Nat} {t : TypeId} {n : Nat} {zs : List Bool} {k : Nat} {z : Bool} (h : w.rowIs b t n (upToO zs k)) (hs : zs[k]? = some z) : (w.setCell ⟨b, k, none⟩ (.bool z)).rowIs b t n (upToO zs (k + 1)) := by
  refine (h.set k (.bool z)).congr fun j _ => ?_
  by_cases e : j = k
  · subst e; simp [upToO, hs]
  · have : (j < k + 1) = (j < k) := by simp only [eq_iff_iff]; omega
    simp [upToO, e, this]

theorem upToO_full {zs : List Bool} {i : Nat} {z : Bool} (h : zs[i]? = some z) : upToO zs zs.length i = .bool z := by
  have hlt := (List.getElem?_eq_some_iff.1 h).1
  unfold upToO
  rw [if_pos hlt, List.getD_eq_getElem?_getD, h]; rfl

set_option maxHeartbeats 400000 in
theorem toBoolS_any (a : Option Addr) (c : Nat) (zs : List Bool) (w : World) (hs : Bools w a zs) (hl : zs.length ≤ 1048576) :
    Calls Try.prog 43 #[.slice a zs.length c] w fun e w' => ∃ a', e = .returned (.slice a' zs.length zs.length) ∧ Bools w' a' zs ∧ RowO w' w.heap.size a' zs.length ∧ Below w.heap.size w w' := by
  have hmk := run_make_row' (P := Try.prog) 24 4 (.bool false) 1 Try.underlying24 Try.infoBool rfl .i64 .i64 zs.length (by omega) (by omega)
  go_enter Try.func43, Try.ntmps43
  go_wp2
  have hB : Below w.heap.size w (w.alloc (.cells (madeCells #[Value.bool false] zs.length) 4)) := (Below.refl _ _).alloc (Nat.le_refl _) _
  have hR : (w.alloc (.cells (madeCells #[Value.bool false] zs.length) 4)).rowIs w.heap.size 4 zs.length (upToO zs 0) := (World.rowIs_made _ _ _ _).congr (fun j _ => by simp [upToO])
  go_loopw [4] (fun i wr => ∃ k : Nat, k ≤ zs.length ∧ i = .int .i64 k ∧ wr.rowIs w.heap.size 4 zs.length (upToO zs k) ∧ Below w.heap.size w wr) (fun i _ => zs.length - (intOf i).toNat)
  case atStart => exact ⟨0, Nat.zero_le _, rfl, hR, hB⟩
  case round =>
    clear hR hB
    obtain ⟨k, hk, rfl, hR, hB⟩ := hrel
    by_cases hlt : k < zs.length
    · obtain ⟨z, hkz⟩ := getBool hlt
      obtain ⟨b, off, rfl, hc'⟩ := (hs.below hB) k z hkz
      have hd := hR.cell hlt
      have hf := hR.frozen k
      have HK : Hid (zs[k]? = some z) := hkz
      clear hs hkz
      go_wp2
      go_roundw
      case rel => exact ⟨k + 1, by omega, by go_num, upToO_step hR HK.out, hB.setCell (Nat.le_refl _) _⟩
      case measure => simp [intOf]; omega
    · go_wp2
      go_ret
      obtain rfl : k = zs.length := by omega
      exact ⟨_, rfl, Bools.of_row hR (Nat.le_refl _) (fun i z hi => upToO_full hi), .inr ⟨_, _, _, rfl, Nat.le_refl _, Nat.le_refl _, hR⟩, hB⟩

set_option maxHeartbeats 400000 in
theorem eqBoolS_same (a a2 : Option Addr) (c c2 : Nat) (zs : List Bool) (w : World) (hx : Bools w a zs) (hy : Bools w a2 zs) (hl : zs.length ≤ maxLen) :
    Calls Try.prog 22 #[.slice a zs.length c, .slice a2 zs.length c2] w fun e w' => e = .returned (.bool true) ∧ Below w.heap.size w w' := by
  unfold maxLen at hl
  go_enter Try.func22, Try.ntmps22
  go_wp2
  go_loopw [5] (fun i wr => ∃ k : Nat, k ≤ zs.length ∧ i = .int .i64 k ∧ ∃ n, wr = w.drewN n) (fun i _ => zs.length - (intOf i).toNat)
  case atStart => exact ⟨0, Nat.zero_le _, rfl, 0, rfl⟩
  case round =>
    obtain ⟨k, hk, rfl, n, rfl⟩ := hrel
    by_cases hlt : k < zs.length
    · obtain ⟨z, hkz⟩ := getBool hlt
      obtain ⟨b, off, rfl, hc⟩ := hx k z hkz
      obtain ⟨b2, off2, rfl, hc2⟩ := hy k z hkz
      have hne : (z != z) = false := by simp
      clear hx hy hkz
      go_wp2
      go_quiet (fail)
      go_wp2
      go_roundw
      case rel => exact ⟨k + 1, by omega, by go_num, n + nq, by simp⟩
      case measure => simp [intOf]; omega
    · go_wp2
      go_ret
      exact ⟨rfl, below_drewN (Below.refl _ _) n⟩

/-- n marks from k on. -/
def mkO (k : Nat) : Bool := ((k : Int) % 3 == 0)

theorem mkO_add (k j : Nat) : (((k : Int) + (j : Int)) % 3 == 0) = mkO (k + j) := by unfold mkO; rw [Int.natCast_add]

def markO (k n : Nat) : List Bool := (List.range n).map fun i => mkO (k + i)
theorem markO_length (k n : Nat) : (markO k n).length = n := by simp [markO]
theorem markO_get {k n i : Nat} (h : i < n) : (markO k n)[i]? = some (mkO (k + i)) := by simp [markO, h]

set_option maxRecDepth 100000 in
set_option maxHeartbeats 1000000 in
theorem markBoolS_any (a : Option Addr) (c n B k : Nat) (w : World) (h : RowO w B a n) (h2 : k + n ≤ 1000000000) :
    Calls Try.prog 27 #[.slice a n c, .int .i64 k] w fun r w' => r = .returned (.int .i64 ((k + n : Nat) : Int)) ∧ Bools w' a (markO k n) ∧ RowO w' B a n ∧ Below B w w' ∧ ∀ b, b < w.heap.size → ¬ InI a n b → w'.heap[b]? = w.heap[b]? := by
  by_cases h0 : n = 0
  · subst h0
    go_enter Try.func27, Try.ntmps27
    go_wp2
    go_loopw [1, 5] (fun c i wr => c = .int .i64 (k : Int) ∧ i = .int .i64 0 ∧ w = wr) (fun _ _ _ => 0)
    case atStart => exact ⟨rfl, rfl, rfl⟩
    case round =>
      obtain ⟨rfl, rfl, rfl⟩ := hrel
      go_wp2
      go_ret
      exact ⟨ret_int (by simp), (fun i s hi => by simp [markO] at hi), .inl rfl, Below.refl _ _, fun _ _ _ => rfl⟩
  · obtain ⟨g, m, f, rfl, hg, hm, hR⟩ := h.resolve_left h0
    go_enter Try.func27, Try.ntmps27
    go_wp2
    go_loopw [1, 5] (fun c i wr => ∃ j : Nat, j ≤ n ∧ c = .int .i64 ((k + j : Nat) : Int) ∧ i = .int .i64 (j : Int) ∧ (∃ f', wr.rowIs g 4 m f' ∧ ∀ q, q < j → f' q = .bool (mkO (k + q))) ∧ Below B w wr ∧ ∀ b, b < w.heap.size → b ≠ g → wr.heap[b]? = w.heap[b]?) (fun _ i _ => n - (intOf i).toNat)
    case atStart => exact ⟨0, Nat.zero_le _, rfl, rfl, ⟨f, hR, fun q hq => absurd hq (Nat.not_lt_zero _)⟩, Below.refl _ _, fun _ _ _ => rfl⟩
    case round =>
      clear hR
      obtain ⟨j, hj, rfl, rfl, ⟨f', hR, hq⟩, hB, hO⟩ := hrel
      have HQ : Hid (∀ q, q < j → f' q = .bool (mkO (k + q))) := hq
      have HO : Hid (∀ b, b < w.heap.size → b ≠ g → wr.heap[b]? = w.heap[b]?) := hO
      clear hq hO
      by_cases hlt : j < n
      · have c0 := hR.cell (i := j) (by omega)
        have f0 := hR.frozen j
        have hR2 := hR.set j (.bool (mkO (k + j)))
        have hBn : Below B w (wr.setCell ⟨g, j, none⟩ (.bool (mkO (k + j)))) := hB.setCell hg _
        have HN : Hid (∀ b, b < w.heap.size → b ≠ g → (wr.setCell ⟨g, j, none⟩ (.bool (mkO (k + j)))).heap[b]? = w.heap[b]?) := fun b hb hne => by
          rw [Below.heap_setCell wr ⟨g, j, none⟩ _ b (by simpa using hne), HO.out b hb hne]
        clear hR hB HO
        have HM : Hid ((((k : Int) + (j : Int)) % 3 == 0) = mkO (k + j)) := mkO_add k j
        go_wp2
        rw [HM.out]
        go_roundw
        case rel =>
          refine ⟨j + 1, by omega, by go_num, by go_num, ⟨_, hR2, fun q hq' => ?_⟩, hBn, HN.out⟩
          by_cases e : q = j
          · subst e; simp only [if_true]
          · simp only [if_neg e]; exact HQ.out q (by omega)
        case measure => simp [intOf]; omega
      · obtain rfl : j = n := by omega
        go_wp2
        go_ret
        refine ⟨rfl, Bools.of_row hR (by rw [markO_length]; exact hm) (fun i z hi => ?_), .inr ⟨g, m, f', rfl, hg, hm, hR⟩, hB, fun b hb hne => ?_⟩
        · have hi' : i < j := by have := (List.getElem?_eq_some_iff.1 hi).1; simpa [markO_length] using this
          rw [markO_get hi'] at hi
          simp only [Option.some.injEq] at hi
          subst hi
          exact HQ.out i hi'
        · by_cases e : b = g
          · subst e
            exact absurd ⟨by omega, 0, none, rfl⟩ hne
          · exact HO.out b hb e

set_option maxRecDepth 100000 in
set_option maxHeartbeats 1000000 in
theorem heldBoolS_any (a : Option Addr) (c n k : Nat) (w : World) (h : Bools w a (markO k n)) (h2 : k + n ≤ 1000000000) :
    Calls Try.prog 32 #[.slice a n c, .int .i64 k] w fun r w' => r = .returned (.int .i64 ((k + n : Nat) : Int)) ∧ w' = w := by
  go_enter Try.func32, Try.ntmps32
  go_wp2
  go_loopw [1, 5] (fun c i wr => ∃ j : Nat, j ≤ n ∧ c = .int .i64 ((k + j : Nat) : Int) ∧ i = .int .i64 (j : Int) ∧ w = wr) (fun _ i _ => n - (intOf i).toNat)
  case atStart => exact ⟨0, Nat.zero_le _, rfl, rfl, rfl⟩
  case round =>
    obtain ⟨j, hj, rfl, rfl, rfl⟩ := hrel
    by_cases hlt : j < n
    · obtain ⟨b, off, rfl, hc⟩ := h j _ (markO_get hlt)
      clear h
      have hne : (!(mkO (k + j) == (((k : Int) + (j : Int)) % 3 == 0))) = false := by rw [mkO_add]; simp
      go_wp2
      go_roundw
      case rel => exact ⟨j + 1, by omega, by go_num, by go_num, by first | rfl | trivial⟩
      case measure => simp [intOf]; omega
    · obtain rfl : j = n := by omega
      go_wp2
      go_ret
      exact ⟨rfl, rfl⟩

def szN (n : Nat) (left : Int) : Int := if left - n < 0 then -1 else left - n
theorem szN_range (n : Nat) {left : Int} (h0 : 0 ≤ left) : -1 ≤ szN n left ∧ szN n left ≤ left := by
  unfold szN; split <;> omega
theorem szN_bound {n : Nat} {left : Int} (h : 0 ≤ szN n left) : (n : Int) ≤ left := by
  unfold szN at h; split at h <;> omega

theorem szBoolS_any (a : Option Addr) (c n : Nat) (left : Int) (w : World) (hl : n ≤ maxLen) (h0 : 0 ≤ left) (h1 : left ≤ 1048576) :
    Calls Try.prog 36 #[.slice a n c, .int .i64 left] w fun e w' => e = .returned (.int .i64 (szN n left)) ∧ w' = w := by
  unfold maxLen at hl
  by_cases hn : left - n < 0
  · go_enter Try.func36, Try.ntmps36
    go_wp2
    go_ret
    exact ⟨ret_int (by unfold szN; rw [if_pos hn]), rfl⟩
  · go_enter Try.func36, Try.ntmps36
    go_wp2
    go_ret
    exact ⟨ret_int (by unfold szN; rw [if_neg (by omega)]), rfl⟩

theorem szIntN_any (a : Option Addr) (c n : Nat) (left : Int) (w : World) (hl : n ≤ maxLen) (h0 : 0 ≤ left) (h1 : left ≤ 1048576) :
    Calls Try.prog 37 #[.slice a n c, .int .i64 left] w fun e w' => e = .returned (.int .i64 (szN n left)) ∧ w' = w := by
  unfold maxLen at hl
  by_cases hn : left - n < 0
  · go_enter Try.func37, Try.ntmps37
    go_wp2
    go_ret
    exact ⟨ret_int (by unfold szN; rw [if_pos hn]), rfl⟩
  · go_enter Try.func37, Try.ntmps37
    go_wp2
    go_ret
    exact ⟨ret_int (by unfold szN; rw [if_neg (by omega)]), rfl⟩

end Go.Proofs.Ytbgjjeecfbdaeaa
