/-
  Stores: the specification's walk and the program's tell the same.
  Reading a batch from bytes, plainly: numbers and records come back from their bytes; a batch is told by its bytes alone.
-/
import Derived.Test.YtomigekigcklfaaDoorStMathJ
import Derived.Test.YtomigekigcklfaaDoorEnc3J
namespace Go.Proofs.YtomigekigcklfaaDoor
open Go.RowKit

theorem last_log {b : Bt} {t : List Bt} (h : goodLog (b :: t) = true) : ∃ p, (b :: t).getLast? = some p ∧ p.good = true ∧ ∀ m e, endB m (b :: t) = p.off + p.recs.length ∧ epB e (b :: t) = p.ep := by
  obtain ⟨p, hp⟩ := lastOf b t
  refine ⟨p, hp, goodLog_mem h p (List.mem_of_getLast? hp), fun m e => ⟨by unfold endB; rw [hp], by unfold epB; rw [hp]⟩⟩

theorem walk_same {n : Nat} : ∀ (r : List Rs) (i : Nat), 0 < i → i + r.length = n → ∀ (all : List Bt) (p : Bt), goodLog all = true → all.getLast? = some p → (∀ g, g ∈ r → goodLog g.l = true) → ∀ nx : Int, (0 ≤ nx ∧ nx ≤ 100000) →
    (spS n i r (p.off + p.recs.length) p.ep = some nx ↔ ∃ all', imF n i r (p.off + p.recs.length) all = some (nx, all') ∧ goodLog all' = true)
  | [], i, _, _, all, p, hall, _, _, nx, _ => by
    simp only [spS, imF, Option.some.injEq, Prod.mk.injEq]
    constructor
    · intro h; exact ⟨all, ⟨h, rfl⟩, hall⟩
    · rintro ⟨_, ⟨h, -⟩, -⟩; exact h
  | g :: r, i, hi, hn, all, p, hall, hp, hr, nx, hnx => by
    have hpg : p.good = true := goodLog_mem hall p (List.mem_of_getLast? hp)
    have hgl := hr g (by simp)
    simp only [List.length_cons] at hn
    obtain ⟨base, ok, l⟩ := g
    simp only at hgl
    cases l with
    | nil =>
      by_cases hlt : i + 1 < n
      · have h1 : spOk n i ⟨base, ok, []⟩ (p.off + p.recs.length) = false := by simp [spOk, hlt]
        have h2 : imOk n i ⟨base, ok, []⟩ (p.off + p.recs.length) = false := by simp [imOk, hlt]
        simp [spS, imF, h1, h2]
      · obtain rfl : r = [] := List.eq_nil_of_length_eq_zero (by omega)
        by_cases hc : ok = true ∧ base = p.off + p.recs.length
        · obtain ⟨rfl, hb⟩ := hc
          have h2 : imOk n i ⟨base, true, []⟩ (p.off + p.recs.length) = true := by simp [imOk, hlt, hb, headOk]
          by_cases hrg : 0 ≤ base ∧ base ≤ 100000
          · have h1 : spOk n i ⟨base, true, []⟩ (p.off + p.recs.length) = true := by simp [spOk, hlt, hb]; omega
            simp only [spS, imF, h1, h2, if_true, spIn, Option.some.injEq, Prod.mk.injEq]
            constructor
            · intro h; exact ⟨all, ⟨by simp [endB]; omega, by simp⟩, hall⟩
            · rintro ⟨_, ⟨h, -⟩, -⟩; simp [endB] at h; omega
          · have h1 : spOk n i ⟨base, true, []⟩ (p.off + p.recs.length) = false := by
              cases hs : spOk n i ⟨base, true, []⟩ (p.off + p.recs.length) with
              | false => rfl
              | true => simp [spOk, hlt, hb] at hs; omega
            simp only [spS, imF, h1, h2, if_true, Option.some.injEq, Prod.mk.injEq]
            constructor
            · intro h; simp at h
            · rintro ⟨_, ⟨h, -⟩, -⟩; simp [endB] at h; omega
        · have h1 : spOk n i ⟨base, ok, []⟩ (p.off + p.recs.length) = false := by
            cases hs : spOk n i ⟨base, ok, []⟩ (p.off + p.recs.length) with
            | false => rfl
            | true => exfalso; simp [spOk, hlt, hi] at hs; exact hc ⟨hs.1.1, by omega⟩
          have h2 : imOk n i ⟨base, ok, []⟩ (p.off + p.recs.length) = false := by
            cases hs : imOk n i ⟨base, ok, []⟩ (p.off + p.recs.length) with
            | false => rfl
            | true => exfalso; simp [imOk, hlt, headOk] at hs; exact hc ⟨hs.1, hs.2⟩
          simp [spS, imF, h1, h2]
    | cons b t =>
      have hbg : b.good = true := goodLog_mem hgl b (by simp)
      have hnum := good_num hbg
      by_cases hc : ok = true ∧ b.off = base ∧ base = p.off + p.recs.length
      · obtain ⟨rfl, hb, hbase⟩ := hc
        have h1 : spOk n i ⟨base, true, b :: t⟩ (p.off + p.recs.length) = true := by simp [spOk, hbase]; omega
        have h2 : imOk n i ⟨base, true, b :: t⟩ (p.off + p.recs.length) = true := by simp [imOk, hbase, headOk]; omega
        simp only [spS, imF, h1, h2, if_true, spIn_log b t base p.ep hgl]
        by_cases hep : p.ep ≤ b.ep
        · obtain ⟨p', hp', hpg', hend⟩ := last_log hgl
          rw [if_pos ⟨hb, hep⟩, (hend base p.ep).1, (hend base p.ep).2, (hend (p.off + p.recs.length) 0).1]
          have hall' : goodLog (all ++ b :: t) = true := by rw [goodLog_app hall hp hpg hgl]; simp; omega
          have hp2 : (all ++ b :: t).getLast? = some p' := by rw [List.getLast?_append, hp']; rfl
          exact walk_same r (i + 1) (by omega) (by omega) (all ++ b :: t) p' hall' hp2 (fun g hg => hr g (by simp [hg])) nx hnx
        · rw [if_neg (fun h => hep h.2)]
          constructor
          · intro h; simp at h
          · rintro ⟨all', h, hg⟩
            obtain ⟨ys, rfl⟩ := imF_pre h
            have := goodLog_pre hg
            rw [goodLog_app hall hp hpg hgl] at this
            simp at this
            omega
      · have h2 : imOk n i ⟨base, ok, b :: t⟩ (p.off + p.recs.length) = false := by
          cases hs : imOk n i ⟨base, ok, b :: t⟩ (p.off + p.recs.length) with
          | false => rfl
          | true => exfalso; simp [imOk, headOk] at hs; exact hc ⟨hs.1.1, hs.1.2, hs.2⟩
        have h1 : spS n i (⟨base, ok, b :: t⟩ :: r) (p.off + p.recs.length) p.ep = none := by
          rw [spS]
          split
          · rename_i hs
            rw [spIn_log b t base p.ep hgl]
            have : ¬ (b.off = base ∧ p.ep ≤ b.ep) := fun h => by
              simp [spOk, hi] at hs
              exact hc ⟨hs.1.1, h.1, by omega⟩
            rw [if_neg this]
          · rfl
        rw [h1]
        simp [imF, h2]

/-- The store's walk from its first segment on. -/
theorem store_same (g : Rs) (r : List Rs) (hr : ∀ x, x ∈ g :: r → goodLog x.l = true) (nx : Int) (hnx : 0 ≤ nx ∧ nx ≤ 100000) :
    spS (r.length + 1) 0 (g :: r) (-1) 0 = some nx ↔ ∃ all', imF (r.length + 1) 0 (g :: r) g.base [] = some (nx, all') ∧ goodLog all' = true := by
  have hgl := hr g (by simp)
  obtain ⟨base, ok, l⟩ := g
  simp only at hgl
  cases l with
  | nil =>
    by_cases hlt : 0 + 1 < r.length + 1
    · have hd : decide (0 + 1 < r.length + 1) = true := decide_eq_true hlt
      have h1 : spOk (r.length + 1) 0 ⟨base, ok, []⟩ (-1) = false := by unfold spOk; rw [hd]; simp
      have h2 : imOk (r.length + 1) 0 ⟨base, ok, []⟩ base = false := by unfold imOk; rw [hd]; simp
      simp [spS, imF, h1, h2]
    · obtain rfl : r = [] := List.eq_nil_of_length_eq_zero (by omega)
      cases ok with
      | false =>
        have h1 : spOk 1 0 ⟨base, false, []⟩ (-1) = false := by simp [spOk]
        have h2 : imOk 1 0 ⟨base, false, []⟩ base = false := by simp [imOk]
        simp [spS, imF, h1, h2]
      | true =>
        have h2 : imOk 1 0 ⟨base, true, []⟩ base = true := by simp [imOk, headOk]
        by_cases hrg : 0 ≤ base ∧ base ≤ 100000
        · have h1 : spOk 1 0 ⟨base, true, []⟩ (-1) = true := by simp [spOk]; omega
          simp only [spS, imF, List.length_nil, Nat.zero_add, h1, h2, if_true, spIn, Option.some.injEq, Prod.mk.injEq]
          constructor
          · intro h; exact ⟨[], ⟨h, rfl⟩, rfl⟩
          · rintro ⟨_, ⟨h, -⟩, -⟩; exact h
        · have h1 : spOk 1 0 ⟨base, true, []⟩ (-1) = false := by
            cases hs : spOk 1 0 ⟨base, true, []⟩ (-1) with
            | false => rfl
            | true => simp [spOk] at hs; omega
          simp [spS, imF, h1, h2, endB]
          intro h; omega
  | cons b t =>
    have hbg : b.good = true := goodLog_mem hgl b (by simp)
    have hnum := good_num hbg
    by_cases hc : ok = true ∧ b.off = base
    · obtain ⟨rfl, hb⟩ := hc
      have h1 : spOk (r.length + 1) 0 ⟨base, true, b :: t⟩ (-1) = true := by simp [spOk]; omega
      have h2 : imOk (r.length + 1) 0 ⟨base, true, b :: t⟩ base = true := by simp [imOk, headOk]; omega
      obtain ⟨p', hp', hpg', hend⟩ := last_log hgl
      simp only [spS, imF, h1, h2, if_true, spIn_log b t base 0 hgl]
      rw [if_pos ⟨hb, hnum.2.2.1⟩, (hend base 0).1, (hend base 0).2]
      exact walk_same r (0 + 1) (by omega) (by omega) ([] ++ b :: t) p' hgl hp' (fun g hg => hr g (by simp [hg])) nx hnx
    · have h2 : imOk (r.length + 1) 0 ⟨base, ok, b :: t⟩ base = false := by
        cases hs : imOk (r.length + 1) 0 ⟨base, ok, b :: t⟩ base with
        | false => rfl
        | true => exfalso; simp [imOk, headOk] at hs; exact hc ⟨hs.1, hs.2⟩
      have h1 : spS (r.length + 1) 0 (⟨base, ok, b :: t⟩ :: r) (-1) 0 = none := by
        rw [spS]
        split
        · rename_i hs
          rw [spIn_log b t base 0 hgl]
          have : ¬ (b.off = base ∧ 0 ≤ b.ep) := fun h => by
            simp [spOk] at hs
            exact hc ⟨hs.1, h.1⟩
          rw [if_neg this]
        · rfl
      rw [h1]
      simp [imF, h2]

end Go.Proofs.YtomigekigcklfaaDoor

namespace Go.Proofs.YtomigekigcklfaaDoor

def val (l : List UInt8) : Nat := l.foldl (fun n b => n * 256 + b.toNat) 0

theorem val_snoc (l : List UInt8) (b : UInt8) : val (l ++ [b]) = val l * 256 + b.toNat := by simp [val]

theorem snoc_of {α : Type} {l : List α} {m : Nat} (h : l.length = m + 1) : ∃ k b, l = k ++ [b] ∧ k.length = m := by
  have hne : l ≠ [] := by intro e; rw [e] at h; simp at h
  exact ⟨l.dropLast, l.getLast hne, (List.dropLast_concat_getLast hne).symm, by rw [List.length_dropLast]; omega⟩

theorem val_lt : ∀ (m : Nat) (l : List UInt8), l.length = m → val l < 256 ^ m
  | 0, l, h => by
    obtain rfl : l = [] := List.eq_nil_of_length_eq_zero h
    simp [val]
  | m + 1, l, h => by
    obtain ⟨k, b, rfl, hk⟩ := snoc_of h
    have := val_lt m k hk
    have := b.toNat_lt
    rw [val_snoc, Nat.pow_succ]
    omega

theorem be_succ (m n : Nat) : be (m + 1) n = be m (n / 256) ++ [UInt8.ofNat n] := by
  unfold be
  rw [List.range_succ, List.map_append]
  congr 1
  · refine List.map_congr_left fun i hi => ?_
    have hi := List.mem_range.1 hi
    unfold beByte
    rw [Nat.div_div_eq_div_mul, show m + 1 - 1 - i = (m - 1 - i) + 1 from by omega, Nat.pow_succ, Nat.mul_comm]
  · simp [beByte]

theorem be_val : ∀ (m : Nat) (l : List UInt8), l.length = m → be m (val l) = l
  | 0, l, h => by
    obtain rfl : l = [] := List.eq_nil_of_length_eq_zero h
    rfl
  | m + 1, l, h => by
    obtain ⟨k, b, rfl, hk⟩ := snoc_of h
    have ih := be_val m k hk
    have hb := b.toNat_lt
    rw [be_succ, val_snoc]
    have e1 : (val k * 256 + b.toNat) / 256 = val k := by omega
    have e2 : UInt8.ofNat (val k * 256 + b.toNat) = b := by
      apply UInt8.toNat_inj.1
      rw [UInt8.toNat_ofNat']
      omega
    rw [e1, e2, ih]

theorem val_be : ∀ (m n : Nat), n < 256 ^ m → val (be m n) = n
  | 0, n, h => by
    have : n = 0 := by simpa using h
    subst this; rfl
  | m + 1, n, h => by
    rw [be_succ, val_snoc, val_be m (n / 256) (by rw [Nat.pow_succ] at h; omega)]
    have : (UInt8.ofNat n).toNat = n % 256 := by simp
    rw [this]
    omega

def takeRecs : Nat → List UInt8 → Option (List ByteArray × List UInt8)
  | 0, l => some ([], l)
  | _ + 1, [] => none
  | n + 1, b :: r => if b.toNat ≤ r.length then (takeRecs n (r.drop b.toNat)).map (fun x => (⟨(r.take b.toNat).toArray⟩ :: x.1, x.2)) else none

theorem takeRecs_bytes (rest : List UInt8) : ∀ ss : List ByteArray, (∀ s, s ∈ ss → s.size < 256) → takeRecs ss.length (recBytes ss ++ rest) = some (ss, rest)
  | [], _ => by simp [recBytes, takeRecs]
  | s :: r, h => by
    have hs := h s (by simp)
    have ih := takeRecs_bytes rest r (fun t ht => h t (by simp [ht]))
    have e : recBytes (s :: r) ++ rest = UInt8.ofNat s.size :: (s.data.toList ++ (recBytes r ++ rest)) := by
      simp [recBytes, be, beByte]
    have e2 : (UInt8.ofNat s.size).toNat = s.size := by
      rw [UInt8.toNat_ofNat']; omega
    have e3 : s.data.toList.length = s.size := rfl
    rw [e, List.length_cons, takeRecs, e2, if_pos (by rw [List.length_append]; omega)]
    rw [List.drop_append_of_le_length (by omega), List.drop_of_length_le (by omega), List.nil_append, ih]
    rw [List.take_append_of_le_length (by omega), List.take_of_length_le (by omega)]
    simp

theorem takeRecs_inv : ∀ (n : Nat) (l : List UInt8) (ss : List ByteArray) (rest : List UInt8), takeRecs n l = some (ss, rest) → l = recBytes ss ++ rest ∧ ss.length = n ∧ ∀ s, s ∈ ss → s.size < 256
  | 0, l, ss, rest, h => by
    simp only [takeRecs, Option.some.injEq, Prod.mk.injEq] at h
    obtain ⟨rfl, rfl⟩ := h
    simp [recBytes]
  | n + 1, [], ss, rest, h => by simp [takeRecs] at h
  | n + 1, b :: r, ss, rest, h => by
    rw [takeRecs] at h
    by_cases hb : b.toNat ≤ r.length
    · rw [if_pos hb, Option.map_eq_some_iff] at h
      obtain ⟨⟨rs, rt⟩, h1, h2⟩ := h
      simp only [Prod.mk.injEq] at h2
      obtain ⟨rfl, rfl⟩ := h2
      obtain ⟨e1, e2, e3⟩ := takeRecs_inv n _ rs rt h1
      have hz : (⟨(r.take b.toNat).toArray⟩ : ByteArray).size = b.toNat := by
        rw [mkStr_eq, List.length_take]; omega
      have hlt := b.toNat_lt
      refine ⟨?_, by simp [e2], fun s hs => ?_⟩
      · have e4 : recBytes (⟨(r.take b.toNat).toArray⟩ :: rs) ++ rt = UInt8.ofNat (⟨(r.take b.toNat).toArray⟩ : ByteArray).size :: (r.take b.toNat ++ (recBytes rs ++ rt)) := by
          simp [recBytes, be, beByte]
        rw [e4, hz, ← e1, List.take_append_drop]
        simp
      · rcases List.mem_cons.1 hs with rfl | hs
        · rw [hz]; omega
        · exact e3 s hs
    · rw [if_neg hb] at h; cases h

end Go.Proofs.YtomigekigcklfaaDoor
