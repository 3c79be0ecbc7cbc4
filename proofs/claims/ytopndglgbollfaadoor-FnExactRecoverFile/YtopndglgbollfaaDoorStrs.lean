/-
  Slices of strings as a call reads them, and what the laws' small helpers on them do: the contracts of szStringS, eqStringS, toStringS. Conditions: every string is as long as Go lets it be at most.
-/
import Derived.Test.YtopndglgbollfaaDoorRows
import Derived.WalkKit
import Derived.WalkSpells
import Derived.WalkLawsBesides
import Derived.Deep.QuietTactic
import Derived.BigQuiet
import Derived.Deep.OwnRows
namespace Go.Proofs.YtopndglgbollfaaDoor
open Go.RowKit

/-- The slice value at 'a' reads as these strings in the world. -/
def Strs (w : World) (a : Option Addr) (ss : List ByteArray) : Prop :=
  ∀ i s, ss[i]? = some s → ∃ b off, a = some ⟨b, off, none⟩ ∧ w.cell? ⟨b, off + i, none⟩ = some (.string s) ∧ s.size ≤ maxLen

def total (ss : List ByteArray) : Nat := (ss.map ByteArray.size).sum

theorem total_snoc (l : List ByteArray) (s : ByteArray) : total (l ++ [s]) = total l + s.size := by simp [total]

theorem take_snoc {ss : List ByteArray} {k : Nat} {s : ByteArray} (h : ss[k]? = some s) : ss.take (k + 1) = ss.take k ++ [s] := by
  rw [List.take_add_one, h]; rfl

/-- What szStringS answers. -/
def szS (ss : List ByteArray) (left : Int) : Int :=
  if left - ss.length - total ss < 0 then -1 else left - ss.length - total ss

theorem getAt {ss : List ByteArray} {k : Nat} (h : k < ss.length) : ∃ s, ss[k]? = some s := ⟨_, List.getElem?_eq_getElem h⟩

theorem szS_neg {ss : List ByteArray} {left : Int} (k : Nat) (h : left - ss.length - total (ss.take k) < 0) : szS ss left = -1 := by
  have : total (ss.take k) ≤ total ss := by
    have e : total ss = total (ss.take k) + total (ss.drop k) := by
      simp only [total]
      rw [← List.sum_append_nat, ← List.map_append, List.take_append_drop]
    omega
  unfold szS; rw [if_pos (by omega)]

theorem szS_nonneg {ss : List ByteArray} {left : Int} (h : 0 ≤ left - ss.length - total ss) : szS ss left = left - ss.length - total ss := by
  unfold szS; rw [if_neg (by omega)]

theorem ret_int {k : IntKind} {a b : Int} (h : a = b) : Ending.returned (.int k a) = .returned (.int k b) := by rw [h]

theorem ret_bool {a b : Bool} (h : a = b) : Ending.returned (.bool a) = .returned (.bool b) := by rw [h]

set_option maxHeartbeats 400000 in
theorem eqStringS_any (a a2 : Option Addr) (c c2 : Nat) (xs ys : List ByteArray) (w : World) (hx : Strs w a xs) (hy : Strs w a2 ys) (hl : xs.length ≤ maxLen) (hl2 : ys.length ≤ maxLen) :
    Calls Tryd.prog 45 #[.slice a xs.length c, .slice a2 ys.length c2] w fun e w' => e = .returned (.bool (decide (xs = ys))) ∧ ∃ n, w' = w.drewN n := by
  unfold maxLen at hl hl2
  by_cases hn : xs.length = ys.length
  · have hd : ((xs.length : Int) != (ys.length : Int)) = false := by simp [hn]
    go_enter Tryd.func45, Tryd.ntmps45
    have HN : Hid (xs.length = ys.length) := hn
    clear hn
    go_wp2
    go_loopw [5] (fun i wr => ∃ k : Nat, k ≤ xs.length ∧ i = .int .i64 k ∧ xs.take k = ys.take k ∧ ∃ n, wr = w.drewN n) (fun i _ => xs.length - (intOf i).toNat)
    case atStart => exact ⟨0, Nat.zero_le _, rfl, by simp, 0, rfl⟩
    case round =>
      obtain ⟨k, hk, rfl, heq, n, rfl⟩ := hrel
      have HE : Hid (xs.take k = ys.take k) := heq
      clear heq
      by_cases hlt : k < xs.length
      · obtain ⟨s, hks⟩ := getAt hlt
        obtain ⟨t, hkt⟩ := getAt (ss := ys) (k := k) (by have := HN.out; omega)
        obtain ⟨b, off, rfl, hc, hz⟩ := hx k s hks
        obtain ⟨b2, off2, rfl, hc2, hz2⟩ := hy k t hkt
        have hlt2 : k < ys.length := by have := HN.out; omega
        have HS : Hid (xs.take (k + 1) = xs.take k ++ [s]) := take_snoc hks
        have HT : Hid (ys.take (k + 1) = ys.take k ++ [t]) := take_snoc hkt
        unfold maxLen at hz hz2
        clear hx hy hks hkt
        go_wp2
        go_quiet (fail)
        go_wp2
        · have hne : (!s.toList == t.toList) = true := by assumption
          go_ret
          refine ⟨ret_bool (Eq.symm (decide_eq_false fun h => ?_)), n + nq, by simp⟩
          subst h
          have e := HS.out.symm.trans HT.out
          simp at e
          subst e
          simp at hne
        · have hne : (!s.toList == t.toList) = false := by assumption
          go_roundw
          case rel =>
            refine ⟨k + 1, by omega, by go_num, ?_, n + nq, by simp⟩
            rw [ByteArray.toList_eq, ByteArray.toList_eq] at hne
            have e : s = t := Go.WideShapes.bytes_inj (by simpa using hne)
            rw [HS.out, HT.out, HE.out, e]
          case measure => simp [intOf]; omega
      · go_wp2
        go_ret
        refine ⟨ret_bool (Eq.symm (decide_eq_true ?_)), n, rfl⟩
        have h1 := HE.out
        have h2 := HN.out
        rwa [List.take_of_length_le (by omega), List.take_of_length_le (by omega)] at h1
  · have hd : ((xs.length : Int) != (ys.length : Int)) = true := by simp; omega
    go_enter Tryd.func45, Tryd.ntmps45
    go_wp2
    go_ret
    exact ⟨ret_bool (by simp; intro h; exact hn (by rw [h])), 0, rfl⟩

theorem lt_of_cell {w : World} {b o : Nat} {v : Value} (h : w.cell? ⟨b, o, none⟩ = some v) : b < w.heap.size := World.block_lt_of_cell? _ _ h

theorem Strs.below {w w' : World} {a : Option Addr} {ss : List ByteArray} (h : Strs w a ss) (hb : Below w.heap.size w w') : Strs w' a ss := fun i s hi => by
  obtain ⟨b, off, e, hc, hz⟩ := h i s hi
  exact ⟨b, off, e, (hb.cell (p := ⟨b, off + i, none⟩) (lt_of_cell hc)).trans hc, hz⟩

theorem Strs.of_row {w : World} {b : Nat} {t : TypeId} {ss : List ByteArray} (h : w.rowIs b t ss.length (fun j => .string (ss.getD j ByteArray.empty))) (hz : ∀ s, s ∈ ss → s.size ≤ maxLen) : Strs w (some ⟨b, 0, none⟩) ss := fun i s hi => by
  obtain ⟨hlt, e⟩ := List.getElem?_eq_some_iff.1 hi
  refine ⟨b, 0, rfl, ?_, hz s (List.mem_of_getElem? hi)⟩
  have := h.cell hlt
  simp only [Nat.zero_add]
  rw [this]
  simp [hi]

theorem Strs.size {w : World} {a : Option Addr} {ss : List ByteArray} (h : Strs w a ss) : ∀ s, s ∈ ss → s.size ≤ maxLen := fun s hs => by
  obtain ⟨i, hi, e⟩ := List.mem_iff_getElem.1 hs
  obtain ⟨_, _, _, _, hz⟩ := h i s (by rw [List.getElem?_eq_getElem hi, e])
  exact hz

theorem Tryd.infoString : (Tryd.prog.info? 9).map (fun i => (i.zero, i.size, i.bytes)) = some (some (.string ByteArray.empty), 1, 16) := by kernel_rfl

def upTo (ss : List ByteArray) (k : Nat) (j : Nat) : Value := .string (if j < k then ss.getD j ByteArray.empty else ByteArray.empty)

theorem upTo_step {w : World} {b : Nat} {t : TypeId} {n : Nat} {ss : List ByteArray} {k : Nat} {s : ByteArray} (h : w.rowIs b t n (upTo ss k)) (hs : ss[k]? = some s) : (w.setCell ⟨b, k, none⟩ (.string s)).rowIs b t n (upTo ss (k + 1)) := by
  refine (h.set k (.string s)).congr fun j _ => ?_
  by_cases e : j = k
  · subst e; simp [upTo, hs]
  · have : (j < k + 1) = (j < k) := by simp only [eq_iff_iff]; omega
    simp [upTo, e, this]

end Go.Proofs.YtopndglgbollfaaDoor
