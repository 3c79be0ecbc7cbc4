/-
  Lists of Letter that are marked and held. Made by mkstrong.py.
-/
import Derived.Test.YthbhokpjedndaaaBagAid
import Derived.Test.YthbhokpjedndaaaLtr
namespace Go.Proofs.Ythbhokpjedndaaa
open Go.RowKit

/-- n of them, marked from k on. -/
def LtMk (k n : Nat) : List Lt := (List.range n).map fun i => ⟨(((k + 7 * i : Nat)) : Int), (((k + 7 * i + 1 : Nat)) : Int), (((k + 7 * i + 2 : Nat)) : Int), mkO (k + 7 * i + 3), (((k + 7 * i + 4 : Nat)) : Int), (((k + 7 * i + 5 : Nat)) : Int), mkO (k + 7 * i + 6)⟩
theorem LtMk_length (k n : Nat) : (LtMk k n).length = n := by simp [LtMk]
theorem LtMk_get {k n i : Nat} (h : i < n) : (LtMk k n)[i]? = some ⟨(((k + 7 * i : Nat)) : Int), (((k + 7 * i + 1 : Nat)) : Int), (((k + 7 * i + 2 : Nat)) : Int), mkO (k + 7 * i + 3), (((k + 7 * i + 4 : Nat)) : Int), (((k + 7 * i + 5 : Nat)) : Int), mkO (k + 7 * i + 6)⟩ := by simp [LtMk, h]

set_option maxRecDepth 100000 in
set_option maxHeartbeats 4000000 in
theorem markLetterS_any (a : Option Addr) (c n B k : Nat) (w : World) (h : RowLt w B a n) (h2 : k + 7 * n ≤ 1000000000) :
    Calls Try.prog 43 #[.slice a n c, .int .i64 (k : Int)] w fun r w' => r = .returned (.int .i64 ((k + 7 * n : Nat) : Int)) ∧ Lts w' a (LtMk k n) ∧ RowLt w' B a n ∧ Below B w w' ∧ ∀ b, b < w.heap.size → ¬ InI a n b → w'.heap[b]? = w.heap[b]? := by
  by_cases h0 : n = 0
  · subst h0
    go_enter Try.func43, Try.ntmps43
    go_wp2
    go_loopw [1, 5] (fun c i wr => c = .int .i64 (k : Int) ∧ i = .int .i64 0 ∧ w = wr) (fun _ _ _ => 0)
    case atStart => exact ⟨rfl, rfl, rfl⟩
    case round =>
      obtain ⟨rfl, rfl, rfl⟩ := hrel
      go_wp2
      go_ret
      exact ⟨ret_int (by simp), (fun i s hi => by simp [LtMk] at hi), .inl rfl, Below.refl _ _, fun _ _ _ => rfl⟩
  · obtain ⟨g, m, f, rfl, hg, hm, hR⟩ := h.resolve_left h0
    go_enter Try.func43, Try.ntmps43
    go_wp2
    go_loopw [1, 5] (fun c i wr => ∃ j : Nat, j ≤ n ∧ c = .int .i64 ((k + 7 * j : Nat) : Int) ∧ i = .int .i64 (j : Int) ∧ (∃ f', wr.rowIs g 91 m f' ∧ Hid (∀ q, q < j → f' (q * 7) = .int .i64 (((k + 7 * q : Nat)) : Int) ∧ f' (q * 7 + 1) = .int .i64 (((k + 7 * q + 1 : Nat)) : Int) ∧ f' (q * 7 + 2) = .int .i64 (((k + 7 * q + 2 : Nat)) : Int) ∧ f' (q * 7 + 3) = .bool (mkO (k + 7 * q + 3)) ∧ f' (q * 7 + 4) = .int .i64 (((k + 7 * q + 4 : Nat)) : Int) ∧ f' (q * 7 + 5) = .int .i64 (((k + 7 * q + 5 : Nat)) : Int) ∧ f' (q * 7 + 6) = .bool (mkO (k + 7 * q + 6)))) ∧ Below B w wr ∧ Hid (∀ b, b < w.heap.size → b ≠ g → wr.heap[b]? = w.heap[b]?)) (fun _ i _ => n - (intOf i).toNat)
    case atStart => exact ⟨0, Nat.zero_le _, rfl, rfl, ⟨f, hR, fun q hq => absurd hq (Nat.not_lt_zero _)⟩, Below.refl _ _, fun _ _ _ => rfl⟩
    case round =>
      clear hR
      obtain ⟨j, hj, rfl, rfl, ⟨f', hR, HQ⟩, hB, HO⟩ := hrel
      by_cases hlt : j < n
      · have c0 := hR.cell (i := j * 7) (by omega)
        have c1 := hR.cell (i := j * 7 + 1) (by omega)
        have c2 := hR.cell (i := j * 7 + 2) (by omega)
        have c3 := hR.cell (i := j * 7 + 3) (by omega)
        have c4 := hR.cell (i := j * 7 + 4) (by omega)
        have c5 := hR.cell (i := j * 7 + 5) (by omega)
        have c6 := hR.cell (i := j * 7 + 6) (by omega)
        have f0 := hR.frozen
        have HS : Hid (∀ x0 x1 x2 x3 x4 x5 x6, (∃ f2, (((((((wr.setCell ⟨g, j * 7, none⟩ x0).setCell ⟨g, j * 7 + 1, none⟩ x1).setCell ⟨g, j * 7 + 2, none⟩ x2).setCell ⟨g, j * 7 + 3, none⟩ x3).setCell ⟨g, j * 7 + 4, none⟩ x4).setCell ⟨g, j * 7 + 5, none⟩ x5).setCell ⟨g, j * 7 + 6, none⟩ x6).rowIs g 91 m f2 ∧ (f2 (j * 7) = x0 ∧ f2 (j * 7 + 1) = x1 ∧ f2 (j * 7 + 2) = x2 ∧ f2 (j * 7 + 3) = x3 ∧ f2 (j * 7 + 4) = x4 ∧ f2 (j * 7 + 5) = x5 ∧ f2 (j * 7 + 6) = x6) ∧ ∀ i, i ≠ j * 7 → i ≠ j * 7 + 1 → i ≠ j * 7 + 2 → i ≠ j * 7 + 3 → i ≠ j * 7 + 4 → i ≠ j * 7 + 5 → i ≠ j * 7 + 6 → f2 i = f' i) ∧ Below B w (((((((wr.setCell ⟨g, j * 7, none⟩ x0).setCell ⟨g, j * 7 + 1, none⟩ x1).setCell ⟨g, j * 7 + 2, none⟩ x2).setCell ⟨g, j * 7 + 3, none⟩ x3).setCell ⟨g, j * 7 + 4, none⟩ x4).setCell ⟨g, j * 7 + 5, none⟩ x5).setCell ⟨g, j * 7 + 6, none⟩ x6) ∧ ∀ b, b < w.heap.size → b ≠ g → (((((((wr.setCell ⟨g, j * 7, none⟩ x0).setCell ⟨g, j * 7 + 1, none⟩ x1).setCell ⟨g, j * 7 + 2, none⟩ x2).setCell ⟨g, j * 7 + 3, none⟩ x3).setCell ⟨g, j * 7 + 4, none⟩ x4).setCell ⟨g, j * 7 + 5, none⟩ x5).setCell ⟨g, j * 7 + 6, none⟩ x6).heap[b]? = w.heap[b]?) := fun x0 x1 x2 x3 x4 x5 x6 => ⟨⟨_, (((((((hR.set _ _).set _ _).set _ _).set _ _).set _ _).set _ _).set _ _), ⟨by simp, by simp, by simp, by simp, by simp, by simp, by simp⟩, fun i n0 n1 n2 n3 n4 n5 n6 => by (try dsimp only); rw [if_neg n6, if_neg n5, if_neg n4, if_neg n3, if_neg n2, if_neg n1, if_neg n0]⟩, (((((((hB.setCell hg _).setCell hg _).setCell hg _).setCell hg _).setCell hg _).setCell hg _).setCell hg _), fun b hb hne => by
          rw [Below.heap_setCell _ ⟨g, j * 7 + 6, none⟩ _ b (by simpa using hne), Below.heap_setCell _ ⟨g, j * 7 + 5, none⟩ _ b (by simpa using hne), Below.heap_setCell _ ⟨g, j * 7 + 4, none⟩ _ b (by simpa using hne), Below.heap_setCell _ ⟨g, j * 7 + 3, none⟩ _ b (by simpa using hne), Below.heap_setCell _ ⟨g, j * 7 + 2, none⟩ _ b (by simpa using hne), Below.heap_setCell _ ⟨g, j * 7 + 1, none⟩ _ b (by simpa using hne), Below.heap_setCell _ ⟨g, j * 7, none⟩ _ b (by simpa using hne), HO.out b hb hne]⟩
        clear hR hB HO
        go_wp2
        go_roundw
        case rel =>
          obtain ⟨⟨f2, s1, s2, s3⟩, s4, s5⟩ := HS.out _ _ _ _ _ _ _
          refine ⟨j + 1, by omega, by go_num, by go_num, ⟨f2, s1, fun q hq' => ?_⟩, s4, s5⟩
          by_cases e : q = j
          · subst e
            obtain ⟨g0, g1, g2, g3, g4, g5, g6⟩ := s2
            exact ⟨g0.trans (by first | rfl | (congr 1; omega)), g1.trans (by first | rfl | (congr 1; omega)), g2.trans (by first | rfl | (congr 1; omega)), g3.trans (by first | rfl | (congr 1; omega)), g4.trans (by first | rfl | (congr 1; omega)), g5.trans (by first | rfl | (congr 1; omega)), g6.trans (by first | rfl | (congr 1; omega))⟩
          · obtain ⟨g0, g1, g2, g3, g4, g5, g6⟩ := HQ.out q (by omega)
            exact ⟨(s3 _ (by omega) (by omega) (by omega) (by omega) (by omega) (by omega) (by omega)).trans g0, (s3 _ (by omega) (by omega) (by omega) (by omega) (by omega) (by omega) (by omega)).trans g1, (s3 _ (by omega) (by omega) (by omega) (by omega) (by omega) (by omega) (by omega)).trans g2, (s3 _ (by omega) (by omega) (by omega) (by omega) (by omega) (by omega) (by omega)).trans g3, (s3 _ (by omega) (by omega) (by omega) (by omega) (by omega) (by omega) (by omega)).trans g4, (s3 _ (by omega) (by omega) (by omega) (by omega) (by omega) (by omega) (by omega)).trans g5, (s3 _ (by omega) (by omega) (by omega) (by omega) (by omega) (by omega) (by omega)).trans g6⟩
        case measure => simp [intOf]; omega
      · obtain rfl : j = n := by omega
        go_wp2
        go_ret
        refine ⟨rfl, fun i s hi => ?_, .inr ⟨g, m, f', rfl, hg, hm, hR⟩, hB, fun b hb hne => ?_⟩
        · have hi' : i < j := by have := (List.getElem?_eq_some_iff.1 hi).1; simpa [LtMk_length] using this
          rw [LtMk_get hi'] at hi
          simp only [Option.some.injEq] at hi
          subst hi
          obtain ⟨g0, g1, g2, g3, g4, g5, g6⟩ := HQ.out i hi'
          refine ⟨g, 0, rfl, ?_, ?_, ?_, ?_, ?_, ?_, ?_⟩
          · rw [Nat.zero_add, hR.cell (by omega), g0]
          · rw [Nat.zero_add, hR.cell (by omega), g1]
          · rw [Nat.zero_add, hR.cell (by omega), g2]
          · rw [Nat.zero_add, hR.cell (by omega), g3]
          · rw [Nat.zero_add, hR.cell (by omega), g4]
          · rw [Nat.zero_add, hR.cell (by omega), g5]
          · rw [Nat.zero_add, hR.cell (by omega), g6]
        · by_cases e : b = g
          · subst e
            exact absurd ⟨by omega, 0, none, rfl⟩ hne
          · exact HO.out b hb e

set_option maxRecDepth 100000 in
set_option maxHeartbeats 4000000 in
theorem heldLetterS_any (a : Option Addr) (c n k : Nat) (w : World) (h : Lts w a (LtMk k n)) (h2 : k + 7 * n ≤ 1000000000) :
    Calls Try.prog 46 #[.slice a n c, .int .i64 (k : Int)] w fun r w' => r = .returned (.int .i64 ((k + 7 * n : Nat) : Int)) ∧ w' = w := by
  go_enter Try.func46, Try.ntmps46
  go_wp2
  go_loopw [1, 5] (fun c i wr => ∃ j : Nat, j ≤ n ∧ c = .int .i64 ((k + 7 * j : Nat) : Int) ∧ i = .int .i64 (j : Int) ∧ w = wr) (fun _ i _ => n - (intOf i).toNat)
  case atStart => exact ⟨0, Nat.zero_le _, rfl, rfl, rfl⟩
  case round =>
    obtain ⟨j, hj, rfl, rfl, rfl⟩ := hrel
    by_cases hlt : j < n
    · obtain ⟨b, off, rfl, c0, c1, c2, c3, c4, c5, c6⟩ := h j _ (LtMk_get hlt)
      clear h
      obtain ⟨K, hK⟩ : ∃ K, k + 7 * j = K := ⟨_, rfl⟩
      have HK : Hid (k + 7 * j = K) := hK
      have hKb : K + 7 ≤ 1000000000 := by omega
      replace c0 : w.cell? ⟨b, off + j * 7, none⟩ = some (.int .i64 ((K : Int))) := c0.trans (by first | (rw [hK]; done) | (rw [hK]; rfl) | (unfold mkO; rw [hK]; done) | (unfold mkO; rw [hK]; rfl))
      replace c1 : w.cell? ⟨b, off + j * 7 + 1, none⟩ = some (.int .i64 ((K : Int) + 1)) := c1.trans (by first | (rw [hK]; done) | (rw [hK]; rfl) | (unfold mkO; rw [hK]; done) | (unfold mkO; rw [hK]; rfl))
      replace c2 : w.cell? ⟨b, off + j * 7 + 2, none⟩ = some (.int .i64 ((K : Int) + 1 + 1)) := c2.trans (by first | (rw [hK]; done) | (rw [hK]; rfl) | (unfold mkO; rw [hK]; done) | (unfold mkO; rw [hK]; rfl))
      replace c3 : w.cell? ⟨b, off + j * 7 + 3, none⟩ = some (.bool (((K : Int) + 1 + 1 + 1) % 3 == 0)) := c3.trans (by first | (rw [hK]; done) | (rw [hK]; rfl) | (unfold mkO; rw [hK]; done) | (unfold mkO; rw [hK]; rfl))
      replace c4 : w.cell? ⟨b, off + j * 7 + 4, none⟩ = some (.int .i64 ((K : Int) + 1 + 1 + 1 + 1)) := c4.trans (by first | (rw [hK]; done) | (rw [hK]; rfl) | (unfold mkO; rw [hK]; done) | (unfold mkO; rw [hK]; rfl))
      replace c5 : w.cell? ⟨b, off + j * 7 + 5, none⟩ = some (.int .i64 ((K : Int) + 1 + 1 + 1 + 1 + 1)) := c5.trans (by first | (rw [hK]; done) | (rw [hK]; rfl) | (unfold mkO; rw [hK]; done) | (unfold mkO; rw [hK]; rfl))
      replace c6 : w.cell? ⟨b, off + j * 7 + 6, none⟩ = some (.bool (((K : Int) + 1 + 1 + 1 + 1 + 1 + 1) % 3 == 0)) := c6.trans (by first | (rw [hK]; done) | (rw [hK]; rfl) | (unfold mkO; rw [hK]; done) | (unfold mkO; rw [hK]; rfl))
      have b3 : (!((((K : Int) + 1 + 1 + 1) % 3 == 0) == (((K : Int) + 1 + 1 + 1) % 3 == 0))) = false := by simp
      have b6 : (!((((K : Int) + 1 + 1 + 1 + 1 + 1 + 1) % 3 == 0) == (((K : Int) + 1 + 1 + 1 + 1 + 1 + 1) % 3 == 0))) = false := by simp
      rw [hK]
      clear hK
      go_wp2
      go_roundw
      case rel => exact ⟨j + 1, by omega, by have := HK.out; first | go_num | (congr 1; omega), by go_num, by first | rfl | trivial⟩
      case measure => simp [intOf]; omega
    · obtain rfl : j = n := by omega
      go_wp2
      go_ret
      exact ⟨rfl, rfl⟩

end Go.Proofs.Ythbhokpjedndaaa
