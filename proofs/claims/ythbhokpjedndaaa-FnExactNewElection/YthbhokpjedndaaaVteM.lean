/-
  Lists of Vote that are marked and held. Made by mkstrong.py.
-/
import Derived.Test.YthbhokpjedndaaaBagAid
import Derived.Test.YthbhokpjedndaaaVte
namespace Go.Proofs.Ythbhokpjedndaaa
open Go.RowKit

/-- n of them, marked from k on. -/
def VtMk (k n : Nat) : List Vt := (List.range n).map fun i => ⟨(((k + 2 * i : Nat)) : Int), (((k + 2 * i + 1 : Nat)) : Int)⟩
theorem VtMk_length (k n : Nat) : (VtMk k n).length = n := by simp [VtMk]
theorem VtMk_get {k n i : Nat} (h : i < n) : (VtMk k n)[i]? = some ⟨(((k + 2 * i : Nat)) : Int), (((k + 2 * i + 1 : Nat)) : Int)⟩ := by simp [VtMk, h]

set_option maxRecDepth 100000 in
set_option maxHeartbeats 4000000 in
theorem markVoteS_any (a : Option Addr) (c n B k : Nat) (w : World) (h : RowVt w B a n) (h2 : k + 2 * n ≤ 1000000000) :
    Calls Try.prog 44 #[.slice a n c, .int .i64 (k : Int)] w fun r w' => r = .returned (.int .i64 ((k + 2 * n : Nat) : Int)) ∧ Vts w' a (VtMk k n) ∧ RowVt w' B a n ∧ Below B w w' ∧ ∀ b, b < w.heap.size → ¬ InI a n b → w'.heap[b]? = w.heap[b]? := by
  by_cases h0 : n = 0
  · subst h0
    go_enter Try.func44, Try.ntmps44
    go_wp2
    go_loopw [1, 5] (fun c i wr => c = .int .i64 (k : Int) ∧ i = .int .i64 0 ∧ w = wr) (fun _ _ _ => 0)
    case atStart => exact ⟨rfl, rfl, rfl⟩
    case round =>
      obtain ⟨rfl, rfl, rfl⟩ := hrel
      go_wp2
      go_ret
      exact ⟨ret_int (by simp), (fun i s hi => by simp [VtMk] at hi), .inl rfl, Below.refl _ _, fun _ _ _ => rfl⟩
  · obtain ⟨g, m, f, rfl, hg, hm, hR⟩ := h.resolve_left h0
    go_enter Try.func44, Try.ntmps44
    go_wp2
    go_loopw [1, 5] (fun c i wr => ∃ j : Nat, j ≤ n ∧ c = .int .i64 ((k + 2 * j : Nat) : Int) ∧ i = .int .i64 (j : Int) ∧ (∃ f', wr.rowIs g 94 m f' ∧ Hid (∀ q, q < j → f' (q * 2) = .int .i64 (((k + 2 * q : Nat)) : Int) ∧ f' (q * 2 + 1) = .int .i64 (((k + 2 * q + 1 : Nat)) : Int))) ∧ Below B w wr ∧ Hid (∀ b, b < w.heap.size → b ≠ g → wr.heap[b]? = w.heap[b]?)) (fun _ i _ => n - (intOf i).toNat)
    case atStart => exact ⟨0, Nat.zero_le _, rfl, rfl, ⟨f, hR, fun q hq => absurd hq (Nat.not_lt_zero _)⟩, Below.refl _ _, fun _ _ _ => rfl⟩
    case round =>
      clear hR
      obtain ⟨j, hj, rfl, rfl, ⟨f', hR, HQ⟩, hB, HO⟩ := hrel
      by_cases hlt : j < n
      · have c0 := hR.cell (i := j * 2) (by omega)
        have c1 := hR.cell (i := j * 2 + 1) (by omega)
        have f0 := hR.frozen
        have HS : Hid (∀ x0 x1, (∃ f2, ((wr.setCell ⟨g, j * 2, none⟩ x0).setCell ⟨g, j * 2 + 1, none⟩ x1).rowIs g 94 m f2 ∧ (f2 (j * 2) = x0 ∧ f2 (j * 2 + 1) = x1) ∧ ∀ i, i ≠ j * 2 → i ≠ j * 2 + 1 → f2 i = f' i) ∧ Below B w ((wr.setCell ⟨g, j * 2, none⟩ x0).setCell ⟨g, j * 2 + 1, none⟩ x1) ∧ ∀ b, b < w.heap.size → b ≠ g → ((wr.setCell ⟨g, j * 2, none⟩ x0).setCell ⟨g, j * 2 + 1, none⟩ x1).heap[b]? = w.heap[b]?) := fun x0 x1 => ⟨⟨_, ((hR.set _ _).set _ _), ⟨by simp, by simp⟩, fun i n0 n1 => by (try dsimp only); rw [if_neg n1, if_neg n0]⟩, ((hB.setCell hg _).setCell hg _), fun b hb hne => by
          rw [Below.heap_setCell _ ⟨g, j * 2 + 1, none⟩ _ b (by simpa using hne), Below.heap_setCell _ ⟨g, j * 2, none⟩ _ b (by simpa using hne), HO.out b hb hne]⟩
        clear hR hB HO
        go_wp2
        go_roundw
        case rel =>
          obtain ⟨⟨f2, s1, s2, s3⟩, s4, s5⟩ := HS.out _ _
          refine ⟨j + 1, by omega, by go_num, by go_num, ⟨f2, s1, fun q hq' => ?_⟩, s4, s5⟩
          by_cases e : q = j
          · subst e
            obtain ⟨g0, g1⟩ := s2
            exact ⟨g0.trans (by first | rfl | (congr 1; omega)), g1.trans (by first | rfl | (congr 1; omega))⟩
          · obtain ⟨g0, g1⟩ := HQ.out q (by omega)
            exact ⟨(s3 _ (by omega) (by omega)).trans g0, (s3 _ (by omega) (by omega)).trans g1⟩
        case measure => simp [intOf]; omega
      · obtain rfl : j = n := by omega
        go_wp2
        go_ret
        refine ⟨rfl, fun i s hi => ?_, .inr ⟨g, m, f', rfl, hg, hm, hR⟩, hB, fun b hb hne => ?_⟩
        · have hi' : i < j := by have := (List.getElem?_eq_some_iff.1 hi).1; simpa [VtMk_length] using this
          rw [VtMk_get hi'] at hi
          simp only [Option.some.injEq] at hi
          subst hi
          obtain ⟨g0, g1⟩ := HQ.out i hi'
          refine ⟨g, 0, rfl, ?_, ?_⟩
          · rw [Nat.zero_add, hR.cell (by omega), g0]
          · rw [Nat.zero_add, hR.cell (by omega), g1]
        · by_cases e : b = g
          · subst e
            exact absurd ⟨by omega, 0, none, rfl⟩ hne
          · exact HO.out b hb e

set_option maxRecDepth 100000 in
set_option maxHeartbeats 4000000 in
theorem heldVoteS_any (a : Option Addr) (c n k : Nat) (w : World) (h : Vts w a (VtMk k n)) (h2 : k + 2 * n ≤ 1000000000) :
    Calls Try.prog 47 #[.slice a n c, .int .i64 (k : Int)] w fun r w' => r = .returned (.int .i64 ((k + 2 * n : Nat) : Int)) ∧ w' = w := by
  go_enter Try.func47, Try.ntmps47
  go_wp2
  go_loopw [1, 5] (fun c i wr => ∃ j : Nat, j ≤ n ∧ c = .int .i64 ((k + 2 * j : Nat) : Int) ∧ i = .int .i64 (j : Int) ∧ w = wr) (fun _ i _ => n - (intOf i).toNat)
  case atStart => exact ⟨0, Nat.zero_le _, rfl, rfl, rfl⟩
  case round =>
    obtain ⟨j, hj, rfl, rfl, rfl⟩ := hrel
    by_cases hlt : j < n
    · obtain ⟨b, off, rfl, c0, c1⟩ := h j _ (VtMk_get hlt)
      clear h
      obtain ⟨K, hK⟩ : ∃ K, k + 2 * j = K := ⟨_, rfl⟩
      have HK : Hid (k + 2 * j = K) := hK
      have hKb : K + 2 ≤ 1000000000 := by omega
      replace c0 : w.cell? ⟨b, off + j * 2, none⟩ = some (.int .i64 ((K : Int))) := c0.trans (by first | (rw [hK]; done) | (rw [hK]; rfl) | (unfold mkO; rw [hK]; done) | (unfold mkO; rw [hK]; rfl))
      replace c1 : w.cell? ⟨b, off + j * 2 + 1, none⟩ = some (.int .i64 ((K : Int) + 1)) := c1.trans (by first | (rw [hK]; done) | (rw [hK]; rfl) | (unfold mkO; rw [hK]; done) | (unfold mkO; rw [hK]; rfl))
      rw [hK]
      clear hK
      go_wp2
      go_roundw
      case rel => exact ⟨j + 1, by omega, by have := HK.out; first | go_num | (congr 1; omega), by go_num, by first | rfl | trivial⟩
      case measure => simp [intOf]; omega
    · obtain rfl : j = n := by omega
      go_wp2
      go_ret
      exact ⟨rfl, rfl⟩

end Go.Proofs.Ythbhokpjedndaaa
