/-
  Lists of Vote that are marked, whatever they hold. Made by mkweak.py.
-/
import Derived.Test.YthbhokpjedndaaaWkAid
import Derived.Test.YthbhokpjedndaaaVte
namespace Go.Proofs.Ythbhokpjedndaaa
open Go.RowKit

theorem RowVt.typ {w : World} {B n : Nat} {a : Option Addr} (h : RowVt w B a n) {ts : List TypeId} (ht : 94 ∈ ts) : ∀ b, InI a n b → ∃ t m f, w.rowIs b t m f ∧ t ∈ ts := fun b ⟨h0, o, s, e⟩ => by
  rcases h with h | ⟨g, m, f, rfl, hg, hm, hR⟩
  · omega
  · simp only [Option.some.injEq, Addr.mk.injEq] at e
    obtain ⟨rfl, -⟩ := e
    exact ⟨_, m, f, hR, ht⟩

theorem RowVt.kps {w w' : World} {B n : Nat} {a : Option Addr} (h : RowVt w B a n) (k : Kps w w') : RowVt w' B a n := by
  rcases h with h | ⟨g, m, f, rfl, hg, hm, hR⟩
  · exact .inl h
  · obtain ⟨f', hR'⟩ := k _ _ _ _ hR
    exact .inr ⟨g, m, f', rfl, hg, hm, hR'⟩

set_option maxRecDepth 100000 in
set_option maxHeartbeats 2000000 in
theorem markVoteS_wk (a : Option Addr) (c n B k : Nat) (w : World) (h : RowVt w B a n) (h2 : k + 2 * n ≤ 4000000000000000000) :
    Calls Try.prog 44 #[.slice a n c, .int .i64 (k : Int)] w fun r w' => r = .returned (.int .i64 ((k + 2 * n : Nat) : Int)) ∧ Below B w w' ∧ Kps w w' ∧ ∀ b, ¬ InI a n b → w'.heap[b]? = w.heap[b]? := by
  by_cases h0 : n = 0
  · subst h0
    go_enter Try.func44, Try.ntmps44
    go_wp2
    go_loopw [1, 5] (fun c i wr => c = .int .i64 (k : Int) ∧ i = .int .i64 0 ∧ w = wr) (fun _ _ _ => 0)
    case atStart => exact ⟨rfl, rfl, rfl⟩
    case round =>
      obtain ⟨rfl, rfl, rfl⟩ := hrel
      go_wp2
      go_ret
      exact ⟨ret_int (by simp), Below.refl _ _, Kps.refl _, fun _ _ => rfl⟩
  · obtain ⟨g, m, f, rfl, hg, hm, hR⟩ := h.resolve_left h0
    go_enter Try.func44, Try.ntmps44
    go_wp2
    go_loopw [1, 5] (fun c i wr => ∃ j : Nat, j ≤ n ∧ c = .int .i64 ((k + 2 * j : Nat) : Int) ∧ i = .int .i64 (j : Int) ∧ (∃ f', wr.rowIs g 94 m f') ∧ Below B w wr ∧ Hid (Kps w wr) ∧ Hid (∀ b, b ≠ g → wr.heap[b]? = w.heap[b]?)) (fun _ i _ => n - (intOf i).toNat)
    case atStart => exact ⟨0, Nat.zero_le _, rfl, rfl, ⟨f, hR⟩, Below.refl _ _, Kps.refl _, fun _ _ => rfl⟩
    case round =>
      clear hR
      obtain ⟨j, hj, rfl, rfl, ⟨f', hR⟩, hB, HK, HO⟩ := hrel
      by_cases hlt : j < n
      · have c0 := hR.cell (i := j * 2) (by omega)
        have c1 := hR.cell (i := j * 2 + 1) (by omega)
        have f0 := hR.frozen
        have HS : Hid (∀ x0 x1, (∃ f2, ((wr.setCell ⟨g, j * 2, none⟩ x0).setCell ⟨g, j * 2 + 1, none⟩ x1).rowIs g 94 m f2) ∧ Below B w ((wr.setCell ⟨g, j * 2, none⟩ x0).setCell ⟨g, j * 2 + 1, none⟩ x1) ∧ Kps w ((wr.setCell ⟨g, j * 2, none⟩ x0).setCell ⟨g, j * 2 + 1, none⟩ x1) ∧ ∀ b, b ≠ g → ((wr.setCell ⟨g, j * 2, none⟩ x0).setCell ⟨g, j * 2 + 1, none⟩ x1).heap[b]? = w.heap[b]?) := fun x0 x1 => ⟨⟨_, ((hR.set _ _).set _ _)⟩, ((hB.setCell hg _).setCell hg _), (Kps.set (Kps.set HK.out _ _ _) _ _ _), fun b hne => by
          rw [Below.heap_setCell _ ⟨g, j * 2 + 1, none⟩ _ b (by simpa using hne), Below.heap_setCell _ ⟨g, j * 2, none⟩ _ b (by simpa using hne), HO.out b hne]⟩
        clear hR hB HO HK
        go_wp2
        go_roundw
        case rel =>
          obtain ⟨s1, s2, s3, s4⟩ := HS.out _ _
          exact ⟨j + 1, by omega, by go_num, by go_num, s1, s2, s3, s4⟩
        case measure => simp [intOf]; omega
      · obtain rfl : j = n := by omega
        go_wp2
        go_ret
        refine ⟨rfl, hB, HK.out, fun b hne => HO.out b (fun e => hne ?_)⟩
        subst e
        exact ⟨by omega, 0, none, rfl⟩

end Go.Proofs.Ythbhokpjedndaaa
