/-
  What ReadLog answers at a text of at most 600 bytes, with its room.
-/
import Derived.Test.YtkphplppaaakiaaDoorReadSpec
import Derived.Test.YtkphplppaaakiaaDoorLogM
namespace Go.Proofs.YtkphplppaaakiaaDoor
open Go.RowKit

theorem owns_cap {w : World} {B : Nat} {e : TypeId} {size : Nat} {a : Option Addr} {n c : Nat} {xs : List Value} (h : w.ownsRow B e size (.slice a n c) n xs) : n ≤ c := by
  obtain ⟨-, ⟨hv, h0⟩ | ⟨g, cap, cur, hv, hg, hh, hn, r⟩⟩ := h
  · omega
  · simp only [Value.slice.injEq] at hv
    omega

theorem RdAns.got {w w' : World} {bs : List Bt} {z : Int} {ok : Bool} {r : Ending} (h : RdAns w bs z ok r w') : ∃ a c, r = .returned (.tuple #[.slice a bs.length c, .int .i64 z, .bool ok]) ∧ Bats w' a bs ∧ bs.length ≤ c ∧ Below w.heap.size w w' := by
  obtain ⟨qs, a, c, rfl, rfl, hst⟩ := h
  refine ⟨a, c, by rw [qsB_len], rd_bats hst, ?_, hst.bel⟩
  rw [qsB_len]
  exact owns_cap hst.own

theorem RdAns.len {w w' : World} {bs : List Bt} {z : Int} {ok : Bool} {r : Ending} (h : RdAns w bs z ok r w') : bs.length ≤ maxLen := by
  obtain ⟨qs, a, c, rfl, rfl, hst⟩ := h
  rw [qsB_len]
  obtain ⟨-, ⟨hv, h0⟩ | ⟨g, cap, cur, hv, hg, hh, hn, hc, r⟩⟩ := hst.own
  · omega
  · omega

theorem implRead_got (s : ByteArray) (w : World) (hl : s.size ≤ 600) (hTab : TabAt w) :
    Calls Tryd.prog 9 #[.string s] w fun r w' => ∃ a c, r = .returned (.tuple #[.slice a (readL s.data.toList).1.length c, .int .i64 ((readL s.data.toList).2 : Nat), .bool (decide ((readL s.data.toList).2 = s.size))]) ∧ Bats w' a (readL s.data.toList).1 ∧ (readL s.data.toList).1.length ≤ c ∧ Below w.heap.size w w' := by
  refine (implReadAll_any s w (by unfold maxLen; omega) hTab).mono fun r w' h => ?_
  rw [if_pos hl, if_pos hl, if_pos hl] at h
  exact h.got

theorem specRead_got (s : ByteArray) (w : World) (hl : s.size ≤ maxLen) :
    Calls Tryd.prog 14 #[.string s] w fun r w' => ∃ a c, r = .returned (.tuple #[.slice a (if s.size ≤ 600 then (readL s.data.toList).1 else []).length c, .int .i64 (if s.size ≤ 600 then ((readL s.data.toList).2 : Nat) else 0), .bool (if s.size ≤ 600 then decide ((readL s.data.toList).2 = s.size) else false)]) ∧ Bats w' a (if s.size ≤ 600 then (readL s.data.toList).1 else []) ∧ Below w.heap.size w w' :=
  (specRead_any s w hl).mono fun _ _ h => by
    obtain ⟨a, c, h1, h2, h3, h4⟩ := h.got
    exact ⟨a, c, h1, h2, h4⟩

theorem implRead_all (s : ByteArray) (w : World) (hl : s.size ≤ maxLen) (hTab : TabAt w) :
    Calls Tryd.prog 9 #[.string s] w fun r w' => ∃ a c, r = .returned (.tuple #[.slice a (if s.size ≤ 600 then (readL s.data.toList).1 else []).length c, .int .i64 (if s.size ≤ 600 then ((readL s.data.toList).2 : Nat) else 0), .bool (if s.size ≤ 600 then decide ((readL s.data.toList).2 = s.size) else false)]) ∧ Bats w' a (if s.size ≤ 600 then (readL s.data.toList).1 else []) ∧ (if s.size ≤ 600 then (readL s.data.toList).1 else []).length ≤ c ∧ (if s.size ≤ 600 then (readL s.data.toList).1 else []).length ≤ maxLen ∧ Below w.heap.size w w' :=
  (implReadAll_any s w hl hTab).mono fun _ _ h => by
    obtain ⟨a, c, h1, h2, h3, h4⟩ := h.got
    exact ⟨a, c, h1, h2, h3, h.len, h4⟩

theorem readR_goodL (l : List UInt8) : ∀ (k : Nat) (p : Option Bt) (n : Nat), goodFrom p (readR l k p n).1 = true
  | 0, _, _ => rfl
  | k + 1, p, n => by
    rw [readR]
    split
    · rfl
    · rename_i b e h
      split
      · rename_i hf
        simp only [goodFrom, specTake_good h, hf, readR_goodL l k (some b) e, Bool.and_self]
      · rfl

theorem goodRd (s : ByteArray) : goodLog (if s.size ≤ 600 then (readL s.data.toList).1 else []) = true := by
  split
  · exact readR_goodL _ _ none 0
  · rfl

end Go.Proofs.YtkphplppaaakiaaDoor
