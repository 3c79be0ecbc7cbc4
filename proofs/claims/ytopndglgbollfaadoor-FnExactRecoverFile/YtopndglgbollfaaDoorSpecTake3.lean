/-
  One batch taken at a place, the specification's side: the contracts of spec.l1Take and spec.TakeBatch at every text and place; what both sides take is the same.
-/
import Derived.Test.YtopndglgbollfaaDoorSpecTake2
namespace Go.Proofs.YtopndglgbollfaaDoor
open Go.RowKit

theorem l1Take_any (s : ByteArray) (n : Nat) (w : World) (hs : s.size ≤ 2000000) (hn : n ≤ s.size) :
    Calls Tryd.prog 34 #[.string s, .int .i64 n] w fun r w' => ∃ b a c z, r = .returned (.tuple #[.agg #[.int .i64 b.off, .int .i64 b.ep, .int .i64 b.pr, .int .i64 b.sq, .slice a b.recs.length c], .int .i64 z]) ∧ TookS s.data.toList n w.heap.size w' b a c z ∧ Below w.heap.size w w' := by
  by_cases h : 14 ≤ s.size - n ∧ lenOf (s.data.toList.drop n) ≤ s.size - n
  · exact l1Take_main s n w hs hn h.1 h.2
  · exact l1Take_short s n w hs hn h

theorem implDec_read (t : List UInt8) : implDec t = if crcOf (t.take (t.length - 2)) = val (t.drop (t.length - 2)) then readDec t else none := rfl

/-- The two sides take the same. -/
theorem take_same {l : List UInt8} {n : Nat} (hl : l.length ≤ 600) (hn : n ≤ l.length) : takeOf l (n : Int) = specTake l n := by
  unfold takeOf specTake
  rw [if_pos ⟨hl, by omega, by omega⟩, Int.toNat_natCast]
  generalize l.drop n = r
  by_cases h : 14 ≤ r.length ∧ lenOf r ≤ r.length
  · rw [if_pos h]
    by_cases h14 : 14 ≤ lenOf r
    · have hd := dec_same (r := r) h.2 h14
      have e0 : 2 + val (r.take 2) = lenOf r := rfl
      rw [e0] at hd
      have hlen : (r.take (lenOf r)).length = lenOf r := by rw [List.length_take]; omega
      rw [implDec_read, hlen] at hd
      have e1 : (r.take (lenOf r)).take (lenOf r - 2) = r.take (lenOf r - 2) := by rw [List.take_take]; congr 1; omega
      have e2 : (r.take (lenOf r)).drop (lenOf r - 2) = (r.drop (lenOf r - 2)).take 2 := by rw [List.drop_take]; congr 1; omega
      rw [e1, e2] at hd
      by_cases hc : crcOf (r.take (lenOf r - 2)) = val ((r.drop (lenOf r - 2)).take 2)
      · have hw : wholeOk r = true := by simp only [wholeOk, decide_eq_true_eq]; exact ⟨h.1, h14, h.2, hc⟩
        rw [if_pos hc] at hd
        rw [if_pos hw, hd]
      · have hw : ¬ wholeOk r = true := by simp only [wholeOk, decide_eq_true_eq]; exact fun k => hc k.2.2.2
        rw [if_neg hc] at hd
        rw [if_neg hw, ← hd]; rfl
    · have hw : ¬ wholeOk r = true := by simp only [wholeOk, decide_eq_true_eq]; exact fun k => h14 k.2.1
      have e0 : 2 + val (r.take 2) = lenOf r := rfl
      rw [if_neg hw, specDec_short (by rw [e0]; omega)]; rfl
  · have hw : ¬ wholeOk r = true := by simp only [wholeOk, decide_eq_true_eq]; exact fun k => h ⟨k.1, k.2.2.1⟩
    rw [if_neg hw, if_neg h]

/-- What is taken at a place: a batch and where it ends. -/
def tookOf (l : List UInt8) (at_ : Int) : Option (Bt × Nat) := if l.length ≤ 600 ∧ 0 ≤ at_ ∧ at_ < l.length then specTake l at_.toNat else none

theorem tookOf_out {l : List UInt8} {at_ : Int} (h : ¬ (l.length ≤ 600 ∧ 0 ≤ at_ ∧ at_ < l.length)) : tookOf l at_ = none := by unfold tookOf; rw [if_neg h]

theorem specTake_end {l : List UInt8} {n : Nat} (h : l.length ≤ n) : specTake l n = none := by
  unfold specTake
  rw [if_neg]
  rw [List.length_drop]; omega

theorem takeOf_took (l : List UInt8) (at_ : Int) : takeOf l at_ = tookOf l at_ := by
  by_cases h : l.length ≤ 600 ∧ 0 ≤ at_ ∧ at_ < l.length
  · obtain ⟨n, rfl⟩ := Int.eq_ofNat_of_zero_le h.2.1
    rw [take_same h.1 (by omega)]
    unfold tookOf; rw [if_pos h]; rfl
  · rw [tookOf_out h]
    by_cases h2 : l.length ≤ 600 ∧ 0 ≤ at_ ∧ at_ ≤ l.length
    · obtain ⟨n, rfl⟩ := Int.eq_ofNat_of_zero_le h2.2.1
      rw [take_same h2.1 (by omega), specTake_end (by omega)]
    · exact takeOf_out h2

/-- What spec.TakeBatch and impl.TakeBatch answer. -/
def TookT (l : List UInt8) (at_ : Int) (B : Nat) (w' : World) (b : Bt) (a : Option Addr) (c : Nat) (z : Int) (ok : Bool) : Prop :=
  (ok = true ∧ (∃ e : Nat, z = e ∧ tookOf l at_ = some (b, e)) ∧ w'.ownsRow B 9 1 (.slice a b.recs.length c) b.recs.length (strVals b.recs)) ∨ (ok = false ∧ z = 0 ∧ b = ⟨0, 0, 0, 0, []⟩ ∧ a = none ∧ tookOf l at_ = none)

theorem implTakeT_any (s : ByteArray) (at_ : Int) (w : World) (hl : s.size ≤ maxLen) (hT : TabAt w) :
    Calls Tryd.prog 40 #[.string s, .int .i64 at_] w fun r w' => ∃ b a c z ok, r = .returned (.tuple #[.agg #[.int .i64 b.off, .int .i64 b.ep, .int .i64 b.pr, .int .i64 b.sq, .slice a b.recs.length c], .int .i64 z, .bool ok]) ∧ TookT s.data.toList at_ w.heap.size w' b a c z ok ∧ Below w.heap.size w w' := by
  refine (implTake_any s at_ w hl hT).mono ?_
  rintro r w' ⟨b, a, c, z, ok, hr, hb, hB⟩
  refine ⟨b, a, c, z, ok, hr, ?_, hB⟩
  unfold TookB at hb
  rw [takeOf_took] at hb
  exact hb

end Go.Proofs.YtopndglgbollfaaDoor
