/-
  What was done, marked and held: markDoneS, heldDoneS. A window may begin anywhere in its block (RowE).
-/
import Derived.Test.YthbhokpjedndaaaDns
namespace Go.Proofs.Ythbhokpjedndaaa
open Go.RowKit

/-- Room for n of them at 'a', in a block from B on that may be written, from some cell of it on. -/
def RowE (w : World) (B : Nat) (a : Option Addr) (n : Nat) : Prop :=
  n = 0 ∨ ∃ g o m f, a = some ⟨g, o, none⟩ ∧ B ≤ g ∧ o + n * 3 ≤ m ∧ w.rowIs g 103 m f

theorem RowD.rowE {w : World} {B : Nat} {a : Option Addr} {n : Nat} (h : RowD w B a n) : RowE w B a n := by
  rcases h with h | ⟨g, m, f, e, hg, hm, r⟩
  · exact .inl h
  · exact .inr ⟨g, 0, m, f, e, hg, by omega, r⟩

theorem RowE.of_block {w w' : World} {B : Nat} {a : Option Addr} {n : Nat} (h : RowE w B a n) (hs : ∀ b, InI a n b → w'.heap[b]? = w.heap[b]?) : RowE w' B a n := by
  rcases h with h | ⟨g, o, m, f, rfl, hg, hm, hR⟩
  · exact .inl h
  · by_cases h0 : n = 0
    · exact .inl h0
    · exact .inr ⟨g, o, m, f, rfl, hg, hm, hR.of_block (hs g ⟨by omega, o, none, rfl⟩)⟩

theorem RowE.lt {w : World} {B : Nat} {a : Option Addr} {n b : Nat} (h : RowE w B a n) (hb : InI a n b) : B ≤ b ∧ b < w.heap.size := by
  obtain ⟨h0, o, s, e⟩ := hb
  rcases h with h | ⟨g, o', m, f, rfl, hg, hm, hR⟩
  · omega
  · simp only [Option.some.injEq, Addr.mk.injEq] at e
    have := hR.lt
    omega

theorem RowE.below {w w' : World} {B : Nat} {a : Option Addr} {n : Nat} (h : RowE w B a n) (hb : Below w.heap.size w w') : RowE w' B a n :=
  h.of_block fun b hi => hb.block b (h.lt hi).2

theorem RowE.mono {w : World} {B B' : Nat} {a : Option Addr} {n : Nat} (h : RowE w B a n) (hb : B' ≤ B) : RowE w B' a n := by
  rcases h with h | ⟨g, o, m, f, e, hg, r⟩
  · exact .inl h
  · exact .inr ⟨g, o, m, f, e, by omega, r⟩

/-- n marked ones from k on. -/
def markDn (k i : Nat) : Dn := ⟨((k + 3 * i : Nat) : Int), ((k + 3 * i + 1 : Nat) : Int), ((k + 3 * i + 2 : Nat) : Int)⟩
def markDs (k n : Nat) : List Dn := (List.range n).map (markDn k)

theorem markDs_length (k n : Nat) : (markDs k n).length = n := by simp [markDs]
theorem markDs_get {k n i : Nat} (h : i < n) : (markDs k n)[i]? = some (markDn k i) := by simp [markDs, h]

/-- The row's first j, from o on, are marked. -/
def MdTo (f : Nat → Value) (o k j : Nat) : Prop :=
  ∀ q, q < j → f (o + q * 3) = .int .i64 ((k + 3 * q : Nat) : Int) ∧ f (o + q * 3 + 1) = .int .i64 ((k + 3 * q + 1 : Nat) : Int) ∧ f (o + q * 3 + 2) = .int .i64 ((k + 3 * q + 2 : Nat) : Int)

abbrev mdW (w : World) (g o k j : Nat) : World := ((w.setCell ⟨g, o + j * 3, none⟩ (.int .i64 ((k + 3 * j : Nat) : Int))).setCell ⟨g, o + j * 3 + 1, none⟩ (.int .i64 ((k + 3 * j + 1 : Nat) : Int))).setCell ⟨g, o + j * 3 + 2, none⟩ (.int .i64 ((k + 3 * j + 2 : Nat) : Int))

theorem md_step {w : World} {g m o k j : Nat} {t : TypeId} {f : Nat → Value} (hR : w.rowIs g t m f) (hM : MdTo f o k j) : ∃ f', (mdW w g o k j).rowIs g t m f' ∧ MdTo f' o k (j + 1) := by
  refine ⟨_, ((hR.set _ _).set _ _).set _ _, fun q hq => ?_⟩
  by_cases e : q = j
  · subst e
    refine ⟨?_, ?_, ?_⟩
    · rw [if_neg (by omega), if_neg (by omega), if_pos rfl]
    · rw [if_neg (by omega), if_pos rfl]
    · rw [if_pos rfl]
  · obtain ⟨g0, g1, g2⟩ := hM q (by omega)
    refine ⟨?_, ?_, ?_⟩
    · rw [if_neg (by omega), if_neg (by omega), if_neg (by omega)]; exact g0
    · rw [if_neg (by omega), if_neg (by omega), if_neg (by omega)]; exact g1
    · rw [if_neg (by omega), if_neg (by omega), if_neg (by omega)]; exact g2

theorem mdW_block (w : World) (g o k j b : Nat) (h : b ≠ g) : (mdW w g o k j).heap[b]? = w.heap[b]? := by
  rw [Below.heap_setCell _ ⟨g, o + j * 3 + 2, none⟩ _ b (by simpa using h), Below.heap_setCell _ ⟨g, o + j * 3 + 1, none⟩ _ b (by simpa using h), Below.heap_setCell _ ⟨g, o + j * 3, none⟩ _ b (by simpa using h)]

set_option maxRecDepth 100000 in
set_option maxHeartbeats 1000000 in
theorem markDoneS_any (a : Option Addr) (c n B k : Nat) (w : World) (h : RowE w B a n) (h2 : k + 3 * n ≤ 1000000000) :
    Calls Try.prog 55 #[.slice a n c, .int .i64 k] w fun r w' => r = .returned (.int .i64 ((k + 3 * n : Nat) : Int)) ∧ Dns w' a (markDs k n) ∧ RowE w' B a n ∧ Below B w w' ∧ w'.heap.size = w.heap.size ∧ ∀ b, ¬ InI a n b → w'.heap[b]? = w.heap[b]? := by
  by_cases h0 : n = 0
  · subst h0
    go_enter Try.func55, Try.ntmps55
    go_wp2
    go_loopw [1, 5] (fun c i wr => c = .int .i64 (k : Int) ∧ i = .int .i64 0 ∧ w = wr) (fun _ _ _ => 0)
    case atStart => exact ⟨rfl, rfl, rfl⟩
    case round =>
      obtain ⟨rfl, rfl, rfl⟩ := hrel
      go_wp2
      go_ret
      exact ⟨ret_int (by simp), (fun i s hi => by simp [markDs] at hi), .inl rfl, Below.refl _ _, rfl, fun _ _ => rfl⟩
  · obtain ⟨g, o, m, f, rfl, hg, hm, hR⟩ := h.resolve_left h0
    go_enter Try.func55, Try.ntmps55
    go_wp2
    go_loopw [1, 5] (fun c i wr => ∃ j : Nat, j ≤ n ∧ c = .int .i64 ((k + 3 * j : Nat) : Int) ∧ i = .int .i64 (j : Int) ∧ (∃ f', wr.rowIs g 103 m f' ∧ MdTo f' o k j) ∧ Below B w wr ∧ wr.heap.size = w.heap.size ∧ ∀ b, b ≠ g → wr.heap[b]? = w.heap[b]?) (fun _ i _ => n - (intOf i).toNat)
    case atStart => exact ⟨0, Nat.zero_le _, rfl, rfl, ⟨f, hR, fun q hq => absurd hq (Nat.not_lt_zero _)⟩, Below.refl _ _, rfl, fun _ _ => rfl⟩
    case round =>
      clear hR
      obtain ⟨j, hj, rfl, rfl, ⟨f', hR, hq⟩, hB, hZ, hO⟩ := hrel
      have HQ : Hid (MdTo f' o k j) := hq
      have HZ : Hid (wr.heap.size = w.heap.size) := hZ
      have HO : Hid (∀ b, b ≠ g → wr.heap[b]? = w.heap[b]?) := hO
      clear hq hO hZ
      by_cases hlt : j < n
      · have c0 := hR.cell (i := o + j * 3) (by omega)
        have c1 := hR.cell (i := o + j * 3 + 1) (by omega)
        have c2 := hR.cell (i := o + j * 3 + 2) (by omega)
        have f0 := hR.frozen
        have HS : Hid (∃ f', (mdW wr g o k j).rowIs g 103 m f' ∧ MdTo f' o k (j + 1)) := md_step hR HQ.out
        have HBn : Hid (Below B w (mdW wr g o k j)) := ((hB.setCell hg _).setCell hg _).setCell hg _
        have HN : Hid (∀ b, b ≠ g → (mdW wr g o k j).heap[b]? = w.heap[b]?) := fun b hne => (mdW_block wr g o k j b hne).trans (HO.out b hne)
        have HZn : Hid ((mdW wr g o k j).heap.size = w.heap.size) := by have := HZ.out; unfold mdW; simpa [Hid] using this
        clear hR hB HO HQ HZ
        go_wp2
        go_roundw
        case rel => exact ⟨j + 1, by omega, by go_num, by go_num, HS.out, HBn.out, HZn.out, HN.out⟩
        case measure => simp [intOf]; omega
      · obtain rfl : j = n := by omega
        go_wp2
        go_ret
        refine ⟨rfl, fun i s hi => ?_, .inr ⟨g, o, m, f', rfl, hg, hm, hR⟩, hB, HZ.out, fun b hne => ?_⟩
        · have hi' : i < j := by have := (List.getElem?_eq_some_iff.1 hi).1; simpa [markDs_length] using this
          rw [markDs_get hi'] at hi
          simp only [Option.some.injEq] at hi
          subst hi
          obtain ⟨g0, g1, g2⟩ := HQ.out i hi'
          refine ⟨g, o, rfl, ?_, ?_, ?_⟩
          · rw [hR.cell (by omega), g0]; rfl
          · rw [hR.cell (by omega), g1]; rfl
          · rw [hR.cell (by omega), g2]; rfl
        · by_cases e : b = g
          · subst e
            exact absurd ⟨by omega, o, none, rfl⟩ hne
          · exact HO.out b e

set_option maxRecDepth 100000 in
set_option maxHeartbeats 1000000 in
theorem heldDoneS_any (a : Option Addr) (c n k : Nat) (w : World) (h : Dns w a (markDs k n)) (h2 : k + 3 * n ≤ 1000000000) :
    Calls Try.prog 57 #[.slice a n c, .int .i64 k] w fun r w' => r = .returned (.int .i64 ((k + 3 * n : Nat) : Int)) ∧ w' = w := by
  go_enter Try.func57, Try.ntmps57
  go_wp2
  go_loopw [1, 5] (fun c i wr => ∃ j : Nat, j ≤ n ∧ c = .int .i64 ((k + 3 * j : Nat) : Int) ∧ i = .int .i64 (j : Int) ∧ w = wr) (fun _ i _ => n - (intOf i).toNat)
  case atStart => exact ⟨0, Nat.zero_le _, rfl, rfl, rfl⟩
  case round =>
    obtain ⟨j, hj, rfl, rfl, rfl⟩ := hrel
    by_cases hlt : j < n
    · obtain ⟨b, off, rfl, hc, hd, he⟩ := h j _ (markDs_get hlt)
      simp only [markDn] at hc hd he
      clear h
      go_wp2
      go_roundw
      case rel => exact ⟨j + 1, by omega, by go_num, by go_num, by first | rfl | trivial⟩
      case measure => simp [intOf]; omega
    · obtain rfl : j = n := by omega
      go_wp2
      go_ret
      exact ⟨rfl, rfl⟩

end Go.Proofs.Ythbhokpjedndaaa
