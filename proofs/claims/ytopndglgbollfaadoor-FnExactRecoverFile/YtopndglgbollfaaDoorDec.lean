/-
  Reading a batch from bytes, plainly: numbers and records come back from their bytes; a batch is told by its bytes alone.
-/
import Derived.Test.YtopndglgbollfaaDoorEnc3
namespace Go.Proofs.YtopndglgbollfaaDoor

def val (l : List UInt8) : Nat := l.foldl (fun n b => n * 256 + b.toNat) 0

theorem val_snoc (l : List UInt8) (b : UInt8) : val (l ++ [b]) = val l * 256 + b.toNat := by simp [val]

theorem snoc_of {α : Type} {l : List α} {m : Nat} (h : l.length = m + 1) : ∃ k b, l = k ++ [b] ∧ k.length = m := by
  have hne : l ≠ [] := by intro e; rw [e] at h; simp at h
  exact ⟨l.dropLast, l.getLast hne, (List.dropLast_concat_getLast hne).symm, by rw [List.length_dropLast]; omega⟩

theorem val_lt : ∀ (m : Nat) (l : List UInt8), l.length = m → val l < 256 ^ m
  | 0, l, h => by
    obtain rfl : l = [] := List.eq_nil_of_length_eq_zero h
    simp [val]
  | m + 1, l, h => by
    obtain ⟨k, b, rfl, hk⟩ := snoc_of h
    have := val_lt m k hk
    have := b.toNat_lt
    rw [val_snoc, Nat.pow_succ]
    omega

theorem be_succ (m n : Nat) : be (m + 1) n = be m (n / 256) ++ [UInt8.ofNat n] := by
  unfold be
  rw [List.range_succ, List.map_append]
  congr 1
  · refine List.map_congr_left fun i hi => ?_
    have hi := List.mem_range.1 hi
    unfold beByte
    rw [Nat.div_div_eq_div_mul, show m + 1 - 1 - i = (m - 1 - i) + 1 from by omega, Nat.pow_succ, Nat.mul_comm]
  · simp [beByte]

theorem be_val : ∀ (m : Nat) (l : List UInt8), l.length = m → be m (val l) = l
  | 0, l, h => by
    obtain rfl : l = [] := List.eq_nil_of_length_eq_zero h
    rfl
  | m + 1, l, h => by
    obtain ⟨k, b, rfl, hk⟩ := snoc_of h
    have ih := be_val m k hk
    have hb := b.toNat_lt
    rw [be_succ, val_snoc]
    have e1 : (val k * 256 + b.toNat) / 256 = val k := by omega
    have e2 : UInt8.ofNat (val k * 256 + b.toNat) = b := by
      apply UInt8.toNat_inj.1
      rw [UInt8.toNat_ofNat']
      omega
    rw [e1, e2, ih]

theorem val_be : ∀ (m n : Nat), n < 256 ^ m → val (be m n) = n
  | 0, n, h => by
    have : n = 0 := by simpa using h
    subst this; rfl
  | m + 1, n, h => by
    rw [be_succ, val_snoc, val_be m (n / 256) (by rw [Nat.pow_succ] at h; omega)]
    have : (UInt8.ofNat n).toNat = n % 256 := by simp
    rw [this]
    omega

def takeRecs : Nat → List UInt8 → Option (List ByteArray × List UInt8)
  | 0, l => some ([], l)
  | _ + 1, [] => none
  | n + 1, b :: r => if b.toNat ≤ r.length then (takeRecs n (r.drop b.toNat)).map (fun x => (⟨(r.take b.toNat).toArray⟩ :: x.1, x.2)) else none

theorem takeRecs_bytes (rest : List UInt8) : ∀ ss : List ByteArray, (∀ s, s ∈ ss → s.size < 256) → takeRecs ss.length (recBytes ss ++ rest) = some (ss, rest)
  | [], _ => by simp [recBytes, takeRecs]
  | s :: r, h => by
    have hs := h s (by simp)
    have ih := takeRecs_bytes rest r (fun t ht => h t (by simp [ht]))
    have e : recBytes (s :: r) ++ rest = UInt8.ofNat s.size :: (s.data.toList ++ (recBytes r ++ rest)) := by
      simp [recBytes, be, beByte]
    have e2 : (UInt8.ofNat s.size).toNat = s.size := by
      rw [UInt8.toNat_ofNat']; omega
    have e3 : s.data.toList.length = s.size := rfl
    rw [e, List.length_cons, takeRecs, e2, if_pos (by rw [List.length_append]; omega)]
    rw [List.drop_append_of_le_length (by omega), List.drop_of_length_le (by omega), List.nil_append, ih]
    rw [List.take_append_of_le_length (by omega), List.take_of_length_le (by omega)]
    simp

theorem takeRecs_inv : ∀ (n : Nat) (l : List UInt8) (ss : List ByteArray) (rest : List UInt8), takeRecs n l = some (ss, rest) → l = recBytes ss ++ rest ∧ ss.length = n ∧ ∀ s, s ∈ ss → s.size < 256
  | 0, l, ss, rest, h => by
    simp only [takeRecs, Option.some.injEq, Prod.mk.injEq] at h
    obtain ⟨rfl, rfl⟩ := h
    simp [recBytes]
  | n + 1, [], ss, rest, h => by simp [takeRecs] at h
  | n + 1, b :: r, ss, rest, h => by
    rw [takeRecs] at h
    by_cases hb : b.toNat ≤ r.length
    · rw [if_pos hb, Option.map_eq_some_iff] at h
      obtain ⟨⟨rs, rt⟩, h1, h2⟩ := h
      simp only [Prod.mk.injEq] at h2
      obtain ⟨rfl, rfl⟩ := h2
      obtain ⟨e1, e2, e3⟩ := takeRecs_inv n _ rs rt h1
      have hz : (⟨(r.take b.toNat).toArray⟩ : ByteArray).size = b.toNat := by
        rw [mkStr_eq, List.length_take]; omega
      have hlt := b.toNat_lt
      refine ⟨?_, by simp [e2], fun s hs => ?_⟩
      · have e4 : recBytes (⟨(r.take b.toNat).toArray⟩ :: rs) ++ rt = UInt8.ofNat (⟨(r.take b.toNat).toArray⟩ : ByteArray).size :: (r.take b.toNat ++ (recBytes rs ++ rt)) := by
          simp [recBytes, be, beByte]
        rw [e4, hz, ← e1, List.take_append_drop]
        simp
      · rcases List.mem_cons.1 hs with rfl | hs
        · rw [hz]; omega
        · exact e3 s hs
    · rw [if_neg hb] at h; cases h

end Go.Proofs.YtopndglgbollfaaDoor
