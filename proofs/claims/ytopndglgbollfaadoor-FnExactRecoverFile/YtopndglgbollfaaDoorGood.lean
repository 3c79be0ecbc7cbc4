/-
  Good batches: what spec.GoodBatch and impl.GoodBatch answer, at every batch that can be read: the same Bool, 'Bt.good'.
-/
import Derived.Test.YtopndglgbollfaaDoorStrs
namespace Go.Proofs.YtopndglgbollfaaDoor
open Go.RowKit

def inB (n lo hi : Int) : Bool := decide (lo ≤ n ∧ n ≤ hi)

theorem inB_t {n lo hi : Int} : inB n lo hi = true ↔ lo ≤ n ∧ n ≤ hi := by simp [inB]
theorem inB_f {n lo hi : Int} : inB n lo hi = false ↔ ¬ (lo ≤ n ∧ n ≤ hi) := by simp only [inB, decide_eq_false_iff_not]

structure Bt where
  off : Int
  ep : Int
  pr : Int
  sq : Int
  recs : List ByteArray

def shortB (s : ByteArray) : Bool := decide (s.size ≤ 20)
def Bt.good (b : Bt) : Bool :=
  b.recs.all shortB && inB b.off 0 100000 && inB b.ep 0 1000 && inB b.pr 0 65535 && inB b.sq 0 65535 && inB b.recs.length 1 8

theorem l1In_any (n lo hi : Int) (w : World) : Calls Tryd.prog 47 #[.int .i64 n, .int .i64 lo, .int .i64 hi] w fun e w' => e = .returned (.bool (inB n lo hi)) ∧ w' = w := by
  by_cases h1 : lo ≤ n
  · by_cases h2 : n ≤ hi
    · go_enter Tryd.func47, Tryd.ntmps47
      go_wp2
      go_ret
      exact ⟨ret_bool (by rw [inB_t.2 ⟨h1, h2⟩]), rfl⟩
    · go_enter Tryd.func47, Tryd.ntmps47
      go_wp2
      go_ret
      exact ⟨ret_bool (by rw [inB_f.2 (by omega)]), rfl⟩
  · go_enter Tryd.func47, Tryd.ntmps47
    go_wp2
    go_ret
    exact ⟨ret_bool (by rw [inB_f.2 (by omega)]), rfl⟩

theorem within_any (n hi : Int) (w : World) : Calls Tryd.prog 39 #[.int .i64 n, .int .i64 hi] w fun e w' => e = .returned (.bool (inB n 0 hi)) ∧ w' = w := by
  by_cases h1 : 0 ≤ n
  · by_cases h2 : n ≤ hi
    · go_enter Tryd.func39, Tryd.ntmps39
      go_wp2
      go_ret
      exact ⟨ret_bool (by rw [inB_t.2 ⟨h1, h2⟩]), rfl⟩
    · go_enter Tryd.func39, Tryd.ntmps39
      go_wp2
      go_ret
      exact ⟨ret_bool (by rw [inB_f.2 (by omega)]), rfl⟩
  · go_enter Tryd.func39, Tryd.ntmps39
    go_wp2
    go_ret
    exact ⟨ret_bool (by rw [inB_f.2 (by omega)]), rfl⟩

theorem all_take_succ {ss : List ByteArray} {k : Nat} {s : ByteArray} (h : ss[k]? = some s) (ha : (ss.take k).all shortB = true) (hs : s.size ≤ 20) : (ss.take (k + 1)).all shortB = true := by
  rw [take_snoc h, List.all_append, ha]; simp [shortB, hs]

theorem all_false {ss : List ByteArray} {k : Nat} {s : ByteArray} (h : ss[k]? = some s) (hs : ¬ s.size ≤ 20) : ss.all shortB = false := by
  rw [List.all_eq_false]
  exact ⟨s, List.mem_of_getElem? h, by simp [shortB]; omega⟩

def goodR (ss : List ByteArray) : Bool := inB ss.length 1 8 && ss.all shortB

set_option maxHeartbeats 400000 in
theorem allShort_any (a : Option Addr) (c : Nat) (ss : List ByteArray) (w : World) (hs : Strs w a ss) (hl : ss.length ≤ maxLen) :
    Calls Tryd.prog 62 #[.slice a ss.length c] w fun e w' => e = .returned (.bool (ss.all shortB)) ∧ w' = w := by
  unfold maxLen at hl
  go_enter Tryd.func62, Tryd.ntmps62
  go_wp2
  go_loop [7] (fun i => ∃ k : Nat, k ≤ ss.length ∧ i = .int .i64 k ∧ (ss.take k).all shortB = true) (fun i => ss.length - (intOf i).toNat)
  case atStart => exact ⟨0, Nat.zero_le _, rfl, rfl⟩
  case round =>
    obtain ⟨k, hk, rfl, ha⟩ := hrel
    have HA : Hid ((ss.take k).all shortB = true) := ha
    clear ha
    by_cases hlt : k < ss.length
    · obtain ⟨s, hks⟩ := getAt hlt
      obtain ⟨b, off, rfl, hc, hz⟩ := hs k s hks
      unfold maxLen at hz
      have HK : Hid (ss[k]? = some s) := hks
      clear hs hks
      by_cases hg : s.size ≤ 20
      · go_wp2
        go_round
        case rel => exact ⟨k + 1, by omega, by go_num, all_take_succ HK.out HA.out hg⟩
        case measure => simp [intOf]; omega
      · go_wp2
        go_ret
        exact ⟨ret_bool (all_false HK.out hg).symm, rfl⟩
    · go_wp2
      go_ret
      refine ⟨ret_bool ?_, rfl⟩
      have h := HA.out
      rw [List.take_of_length_le (by omega)] at h
      exact h.symm

set_option maxHeartbeats 400000 in
theorem goodRecords_any (a : Option Addr) (c : Nat) (ss : List ByteArray) (w : World) (hs : Strs w a ss) (hl : ss.length ≤ maxLen) :
    Calls Tryd.prog 61 #[.slice a ss.length c] w fun e w' => e = .returned (.bool (goodR ss)) ∧ w' = w := by
  have hc : Hid (ss.length ≤ maxLen) := hl
  unfold maxLen at hl
  by_cases h1 : (1 : Int) ≤ ss.length
  · by_cases h2 : (ss.length : Int) ≤ 8
    · go_enter Tryd.func61, Tryd.ntmps61
      go_wp2_with (go_at_call 62; refine (allShort_any _ _ _ _ hs hc.out).mono ?_; rintro e w' ⟨rfl, rfl⟩)
      go_ret
      exact ⟨ret_bool (by simp only [goodR]; rw [inB_t.2 ⟨h1, h2⟩]; rfl), rfl⟩
    · go_enter Tryd.func61, Tryd.ntmps61
      go_wp2
      go_ret
      exact ⟨ret_bool (by simp only [goodR]; rw [inB_f.2 (by omega)]; rfl), rfl⟩
  · go_enter Tryd.func61, Tryd.ntmps61
    go_wp2
    go_ret
    exact ⟨ret_bool (by simp only [goodR]; rw [inB_f.2 (by omega)]; rfl), rfl⟩

/-- A batch as a value: its records lie at 'a'. -/
abbrev Bt.val (b : Bt) (a : Option Addr) (c : Nat) : Value := .agg #[.int .i64 b.off, .int .i64 b.ep, .int .i64 b.pr, .int .i64 b.sq, .slice a b.recs.length c]

theorem goodR_f {b : Bt} (h : goodR b.recs = false) : b.good = false := by
  simp only [goodR, Bt.good, Bool.and_eq_false_iff] at *
  rcases h with h | h <;> simp [h]

set_option maxHeartbeats 1000000 in
theorem implGood_any (o e p q : Int) (ss : List ByteArray) (a : Option Addr) (c : Nat) (w : World) (hs : Strs w a ss) (hl : ss.length ≤ maxLen) :
    Calls Tryd.prog 59 #[.agg #[.int .i64 o, .int .i64 e, .int .i64 p, .int .i64 q, .slice a ss.length c]] w fun r w' => r = .returned (.bool (Bt.good ⟨o, e, p, q, ss⟩)) ∧ Below w.heap.size w w' := by
  by_cases h1 : inB o 0 100000 = false
  · go_enter Tryd.func59, Tryd.ntmps59
    go_wp2_with (first | (go_at_call 39; refine (within_any _ _ _).mono ?_; rintro e w' ⟨rfl, rfl⟩) | (go_at_call 61; refine (goodRecords_any _ _ _ _ (hs.below ((Below.refl _ _).alloc (Nat.le_refl _) _)) hl).mono ?_; rintro e w' ⟨rfl, rfl⟩))
    go_ret
    exact ⟨ret_bool (by simp [Bt.good, h1]), (Below.refl _ _).alloc (Nat.le_refl _) _⟩
  have h1 : inB o 0 100000 = true := by simpa using h1
  by_cases h2 : inB e 0 1000 = false
  · go_enter Tryd.func59, Tryd.ntmps59
    go_wp2_with (first | (go_at_call 39; refine (within_any _ _ _).mono ?_; rintro e w' ⟨rfl, rfl⟩) | (go_at_call 61; refine (goodRecords_any _ _ _ _ (hs.below ((Below.refl _ _).alloc (Nat.le_refl _) _)) hl).mono ?_; rintro e w' ⟨rfl, rfl⟩))
    go_ret
    exact ⟨ret_bool (by simp [Bt.good, h2]), (Below.refl _ _).alloc (Nat.le_refl _) _⟩
  have h2 : inB e 0 1000 = true := by simpa using h2
  by_cases h3 : inB p 0 65535 = false
  · go_enter Tryd.func59, Tryd.ntmps59
    go_wp2_with (first | (go_at_call 39; refine (within_any _ _ _).mono ?_; rintro e w' ⟨rfl, rfl⟩) | (go_at_call 61; refine (goodRecords_any _ _ _ _ (hs.below ((Below.refl _ _).alloc (Nat.le_refl _) _)) hl).mono ?_; rintro e w' ⟨rfl, rfl⟩))
    go_ret
    exact ⟨ret_bool (by simp [Bt.good, h3]), (Below.refl _ _).alloc (Nat.le_refl _) _⟩
  have h3 : inB p 0 65535 = true := by simpa using h3
  by_cases h4 : inB q 0 65535 = false
  · go_enter Tryd.func59, Tryd.ntmps59
    go_wp2_with (first | (go_at_call 39; refine (within_any _ _ _).mono ?_; rintro e w' ⟨rfl, rfl⟩) | (go_at_call 61; refine (goodRecords_any _ _ _ _ (hs.below ((Below.refl _ _).alloc (Nat.le_refl _) _)) hl).mono ?_; rintro e w' ⟨rfl, rfl⟩))
    go_ret
    exact ⟨ret_bool (by simp [Bt.good, h4]), (Below.refl _ _).alloc (Nat.le_refl _) _⟩
  have h4 : inB q 0 65535 = true := by simpa using h4
  go_enter Tryd.func59, Tryd.ntmps59
  go_wp2_with (first | (go_at_call 39; refine (within_any _ _ _).mono ?_; rintro e w' ⟨rfl, rfl⟩) | (go_at_call 61; refine (goodRecords_any _ _ _ _ (hs.below ((Below.refl _ _).alloc (Nat.le_refl _) _)) hl).mono ?_; rintro e w' ⟨rfl, rfl⟩))
  go_ret
  exact ⟨ret_bool (by simp [Bt.good, goodR, h1, h2, h3, h4, Bool.and_comm]), (Below.refl _ _).alloc (Nat.le_refl _) _⟩

set_option maxHeartbeats 1000000 in
theorem specGood_any (o e p q : Int) (ss : List ByteArray) (a : Option Addr) (c : Nat) (w : World) (hs : Strs w a ss) (hl : ss.length ≤ maxLen) :
    Calls Tryd.prog 49 #[.agg #[.int .i64 o, .int .i64 e, .int .i64 p, .int .i64 q, .slice a ss.length c]] w fun r w' => r = .returned (.bool (Bt.good ⟨o, e, p, q, ss⟩)) ∧ Below w.heap.size w w' := by
  have HL : Hid (ss.length ≤ maxLen) := hl
  unfold maxLen at hl
  go_enter Tryd.func49, Tryd.ntmps49
  go_wp2
  go_loop [8] (fun i => ∃ k : Nat, k ≤ ss.length ∧ i = .int .i64 k ∧ (ss.take k).all shortB = true) (fun i => ss.length - (intOf i).toNat)
  case atStart => exact ⟨0, Nat.zero_le _, rfl, rfl⟩
  case round =>
    obtain ⟨k, hk, rfl, ha⟩ := hrel
    have HA : Hid ((ss.take k).all shortB = true) := ha
    clear ha
    by_cases hlt : k < ss.length
    · obtain ⟨s, hks⟩ := getAt hlt
      obtain ⟨b, off, rfl, hc, hz⟩ := (hs.below ((Below.refl _ _).alloc (Nat.le_refl _) (.cells #[.int .i64 o, .int .i64 e, .int .i64 p, .int .i64 q, .slice a ss.length c] 60))) k s hks
      unfold maxLen at hz
      have HK : Hid (ss[k]? = some s) := hks
      clear hs hks
      by_cases hg : s.size ≤ 20
      · go_wp2
        go_round
        case rel => exact ⟨k + 1, by omega, by go_num, all_take_succ HK.out HA.out hg⟩
        case measure => simp [intOf]; omega
      · go_wp2
        go_ret
        exact ⟨ret_bool (by simp only [Bt.good]; rw [all_false HK.out hg]; simp), (Below.refl _ _).alloc (Nat.le_refl _) _⟩
    · have hall : ss.all shortB = true := by
        have h := HA.out
        rwa [List.take_of_length_le (by omega)] at h
      clear HA hs
      by_cases h1 : inB o 0 100000 = false
      · go_wp2_with (first | (go_at_call 47; refine (l1In_any _ _ _ _).mono ?_; rintro e w' ⟨rfl, rfl⟩))
        go_ret
        exact ⟨ret_bool (by simp [Bt.good, h1]), (Below.refl _ _).alloc (Nat.le_refl _) _⟩
      have h1 : inB o 0 100000 = true := by simpa using h1
      by_cases h2 : inB e 0 1000 = false
      · go_wp2_with (first | (go_at_call 47; refine (l1In_any _ _ _ _).mono ?_; rintro e w' ⟨rfl, rfl⟩))
        go_ret
        exact ⟨ret_bool (by simp [Bt.good, h2]), (Below.refl _ _).alloc (Nat.le_refl _) _⟩
      have h2 : inB e 0 1000 = true := by simpa using h2
      by_cases h3 : inB p 0 65535 = false
      · go_wp2_with (first | (go_at_call 47; refine (l1In_any _ _ _ _).mono ?_; rintro e w' ⟨rfl, rfl⟩))
        go_ret
        exact ⟨ret_bool (by simp [Bt.good, h3]), (Below.refl _ _).alloc (Nat.le_refl _) _⟩
      have h3 : inB p 0 65535 = true := by simpa using h3
      by_cases h4 : inB q 0 65535 = false
      · go_wp2_with (first | (go_at_call 47; refine (l1In_any _ _ _ _).mono ?_; rintro e w' ⟨rfl, rfl⟩))
        go_ret
        exact ⟨ret_bool (by simp [Bt.good, h4]), (Below.refl _ _).alloc (Nat.le_refl _) _⟩
      have h4 : inB q 0 65535 = true := by simpa using h4
      go_wp2_with (first | (go_at_call 47; refine (l1In_any _ _ _ _).mono ?_; rintro e w' ⟨rfl, rfl⟩))
      go_ret
      exact ⟨ret_bool (by simp [Bt.good, hall, h1, h2, h3, h4]), (Below.refl _ _).alloc (Nat.le_refl _) _⟩

end Go.Proofs.YtopndglgbollfaaDoor
