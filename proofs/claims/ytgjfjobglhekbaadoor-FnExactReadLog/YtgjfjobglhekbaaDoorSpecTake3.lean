/-
  One batch taken at a place, the specification's side: the contracts of spec.l1Take and spec.TakeBatch at every text and place; what both sides take is the same.
-/
import Derived.Test.YtgjfjobglhekbaaDoorSpecTake2
namespace Go.Proofs.YtgjfjobglhekbaaDoor
open Go.RowKit

theorem l1Take_any (s : ByteArray) (n : Nat) (w : World) (hs : s.size ≤ 2000000) (hn : n ≤ s.size) :
    Calls Tryd.prog 15 #[.string s, .int .i64 n] w fun r w' => ∃ b a c z, r = .returned (.tuple #[.agg #[.int .i64 b.off, .int .i64 b.ep, .int .i64 b.pr, .int .i64 b.sq, .slice a b.recs.length c], .int .i64 z]) ∧ TookS s.data.toList n w.heap.size w' b a c z ∧ Below w.heap.size w w' := by
  by_cases h : 14 ≤ s.size - n ∧ lenOf (s.data.toList.drop n) ≤ s.size - n
  · exact l1Take_main s n w hs hn h.1 h.2
  · exact l1Take_short s n w hs hn h

theorem implDec_read (t : List UInt8) : implDec t = if crcOf (t.take (t.length - 2)) = val (t.drop (t.length - 2)) then readDec t else none := rfl

/-- The two sides take the same. -/
theorem take_same {l : List UInt8} {n : Nat} (hl : l.length ≤ 600) (hn : n ≤ l.length) : takeOf l (n : Int) = specTake l n := by
  unfold takeOf specTake
  rw [if_pos ⟨hl, by omega, by omega⟩, Int.toNat_natCast]
  generalize l.drop n = r
  by_cases h : 14 ≤ r.length ∧ lenOf r ≤ r.length
  · rw [if_pos h]
    by_cases h14 : 14 ≤ lenOf r
    · have hd := dec_same (r := r) h.2 h14
      have e0 : 2 + val (r.take 2) = lenOf r := rfl
      rw [e0] at hd
      have hlen : (r.take (lenOf r)).length = lenOf r := by rw [List.length_take]; omega
      rw [implDec_read, hlen] at hd
      have e1 : (r.take (lenOf r)).take (lenOf r - 2) = r.take (lenOf r - 2) := by rw [List.take_take]; congr 1; omega
      have e2 : (r.take (lenOf r)).drop (lenOf r - 2) = (r.drop (lenOf r - 2)).take 2 := by rw [List.drop_take]; congr 1; omega
      rw [e1, e2] at hd
      by_cases hc : crcOf (r.take (lenOf r - 2)) = val ((r.drop (lenOf r - 2)).take 2)
      · have hw : wholeOk r = true := by simp only [wholeOk, decide_eq_true_eq]; exact ⟨h.1, h14, h.2, hc⟩
        rw [if_pos hc] at hd
        rw [if_pos hw, hd]
      · have hw : ¬ wholeOk r = true := by simp only [wholeOk, decide_eq_true_eq]; exact fun k => hc k.2.2.2
        rw [if_neg hc] at hd
        rw [if_neg hw, ← hd]; rfl
    · have hw : ¬ wholeOk r = true := by simp only [wholeOk, decide_eq_true_eq]; exact fun k => h14 k.2.1
      have e0 : 2 + val (r.take 2) = lenOf r := rfl
      rw [if_neg hw, specDec_short (by rw [e0]; omega)]; rfl
  · have hw : ¬ wholeOk r = true := by simp only [wholeOk, decide_eq_true_eq]; exact fun k => h ⟨k.1, k.2.2.1⟩
    rw [if_neg hw, if_neg h]

/-- What is taken at a place: a batch and where it ends. -/
def tookOf (l : List UInt8) (at_ : Int) : Option (Bt × Nat) := if l.length ≤ 600 ∧ 0 ≤ at_ ∧ at_ < l.length then specTake l at_.toNat else none

theorem tookOf_out {l : List UInt8} {at_ : Int} (h : ¬ (l.length ≤ 600 ∧ 0 ≤ at_ ∧ at_ < l.length)) : tookOf l at_ = none := by unfold tookOf; rw [if_neg h]

theorem specTake_end {l : List UInt8} {n : Nat} (h : l.length ≤ n) : specTake l n = none := by
  unfold specTake
  rw [if_neg]
  rw [List.length_drop]; omega

theorem takeOf_took (l : List UInt8) (at_ : Int) : takeOf l at_ = tookOf l at_ := by
  by_cases h : l.length ≤ 600 ∧ 0 ≤ at_ ∧ at_ < l.length
  · obtain ⟨n, rfl⟩ := Int.eq_ofNat_of_zero_le h.2.1
    rw [take_same h.1 (by omega)]
    unfold tookOf; rw [if_pos h]; rfl
  · rw [tookOf_out h]
    by_cases h2 : l.length ≤ 600 ∧ 0 ≤ at_ ∧ at_ ≤ l.length
    · obtain ⟨n, rfl⟩ := Int.eq_ofNat_of_zero_le h2.2.1
      rw [take_same h2.1 (by omega), specTake_end (by omega)]
    · exact takeOf_out h2

/-- What spec.TakeBatch and impl.TakeBatch answer. -/
def TookT (l : List UInt8) (at_ : Int) (B : Nat) (w' : World) (b : Bt) (a : Option Addr) (c : Nat) (z : Int) (ok : Bool) : Prop :=
  (ok = true ∧ (∃ e : Nat, z = e ∧ tookOf l at_ = some (b, e)) ∧ w'.ownsRow B 9 1 (.slice a b.recs.length c) b.recs.length (strVals b.recs)) ∨ (ok = false ∧ z = 0 ∧ b = ⟨0, 0, 0, 0, []⟩ ∧ a = none ∧ tookOf l at_ = none)

theorem implTakeT_any (s : ByteArray) (at_ : Int) (w : World) (hl : s.size ≤ maxLen) (hT : TabAt w) :
    Calls Tryd.prog 6 #[.string s, .int .i64 at_] w fun r w' => ∃ b a c z ok, r = .returned (.tuple #[.agg #[.int .i64 b.off, .int .i64 b.ep, .int .i64 b.pr, .int .i64 b.sq, .slice a b.recs.length c], .int .i64 z, .bool ok]) ∧ TookT s.data.toList at_ w.heap.size w' b a c z ok ∧ Below w.heap.size w w' := by
  refine (implTake_any s at_ w hl hT).mono ?_
  rintro r w' ⟨b, a, c, z, ok, hr, hb, hB⟩
  refine ⟨b, a, c, z, ok, hr, ?_, hB⟩
  unfold TookB at hb
  rw [takeOf_took] at hb
  exact hb

set_option maxRecDepth 100000 in
set_option maxHeartbeats 2000000 in
theorem specTakeT_any (s : ByteArray) (at_ : Int) (w : World) (hl : s.size ≤ maxLen) :
    Calls Tryd.prog 5 #[.string s, .int .i64 at_] w fun r w' => ∃ b a c z ok, r = .returned (.tuple #[.agg #[.int .i64 b.off, .int .i64 b.ep, .int .i64 b.pr, .int .i64 b.sq, .slice a b.recs.length c], .int .i64 z, .bool ok]) ∧ TookT s.data.toList at_ w.heap.size w' b a c z ok ∧ Below w.heap.size w w' := by
  have hb0 : Below w.heap.size w (w.alloc (.cells #[.int .i64 0, .int .i64 0, .int .i64 0, .int .i64 0, .slice none 0 0] 24)) := (Below.refl _ _).alloc (Nat.le_refl _) _
  unfold maxLen at hl
  by_cases h : s.size ≤ 600 ∧ 0 ≤ at_ ∧ at_ < s.size
  · obtain ⟨n, rfl⟩ := Int.eq_ofNat_of_zero_le h.2.1
    have h1 := h.1
    have h3 := h.2.2
    have HT : Hid (tookOf s.data.toList n = specTake s.data.toList n) := by
      show _ = _
      unfold tookOf; rw [if_pos ⟨by rw [size_len]; omega, by omega, by rw [size_len]; omega⟩]; rfl
    clear h
    go_enter Tryd.func5, Tryd.ntmps5
    go_wp2_with fail
    refine (l1Take_any s n _ (by omega) (by omega)).mono ?_
    rintro r w1 ⟨b, a, c, z, rfl, hD, hB1⟩
    have BB := hb0.trans (hB1.mono hb0.size)
    obtain ⟨hc1, hf1⟩ := bcell hB1
    have l1 := hB1.size
    simp only [World.size_alloc] at hc1 hf1 l1
    have hc2 : ∀ i o, (w1.alloc o).cell? ⟨w.heap.size, i, none⟩ = (w.alloc (.cells #[.int .i64 0, .int .i64 0, .int .i64 0, .int .i64 0, .slice none 0 0] 24)).cell? ⟨w.heap.size, i, none⟩ := fun i o =>
      (World.cell?_alloc_old w1 _ ⟨w.heap.size, i, none⟩ (by simp; omega)).trans (hc1 _ i (Nat.lt_succ_self _))
    have hf2 : ∀ i o, (w1.alloc o).frozen? ⟨w.heap.size, i, none⟩ = false := fun i o => by
      rw [World.frozen?_alloc_old w1 _ ⟨w.heap.size, i, none⟩ (by simp; omega), hf1 _ i (Nat.lt_succ_self _)]
      simp
    clear hB1
    rcases hD with ⟨⟨e, rfl, he, hd⟩, hown⟩ | ⟨rfl, rfl, rfl, rfl, hd⟩
    · have HD : Hid (specTake s.data.toList n = some (b, e)) := hd
      have hpos : (0 : Int) < (e : Int) := by omega
      clear hd
      simp only [World.size_alloc] at hown
      go_wp2_with fail
      refine bodyPost_ret (v := .tuple #[.agg #[.int .i64 b.off, .int .i64 b.ep, .int .i64 b.pr, .int .i64 b.sq, .slice a b.recs.length c], .int .i64 (e : Int), .bool true]) (by simp [results, Tryd.results5, go_sem, hc2]) rfl ⟨b, a, c, (e : Int), true, rfl, .inl ⟨rfl, ⟨e, rfl, by rw [HT.out, HD.out]⟩, ?_⟩, ((((((BB.alloc BB.size _).setCell (Nat.le_refl _) _).setCell (Nat.le_refl _) _).setCell (Nat.le_refl _) _).setCell (Nat.le_refl _) _).setCell (Nat.le_refl _) _)⟩
      exact owns_mono (ownsRow_setCell_below (ownsRow_setCell_below (ownsRow_setCell_below (ownsRow_setCell_below (ownsRow_setCell_below (hown.alloc _) (Nat.lt_succ_self _) _) (Nat.lt_succ_self _) _) (Nat.lt_succ_self _) _) (Nat.lt_succ_self _) _) (Nat.lt_succ_self _) _) (Nat.le_succ _)
    · have HD : Hid (specTake s.data.toList n = none) := hd
      clear hd
      go_wp2_with fail
      exact bodyPost_ret (v := .tuple #[.agg #[.int .i64 0, .int .i64 0, .int .i64 0, .int .i64 0, .slice none 0 0], .int .i64 0, .bool false]) (by simp [results, Tryd.results5, go_sem, hc2]) rfl ⟨⟨0, 0, 0, 0, []⟩, none, 0, 0, false, rfl, .inr ⟨rfl, rfl, rfl, rfl, by rw [HT.out, HD.out]⟩, ((((((BB.alloc BB.size _).setCell (Nat.le_refl _) _).setCell (Nat.le_refl _) _).setCell (Nat.le_refl _) _).setCell (Nat.le_refl _) _).setCell (Nat.le_refl _) _)⟩
  · have HN : Hid (tookOf s.data.toList at_ = none) := tookOf_out (by rw [size_len]; exact h)
    by_cases h6 : (600 : Int) < s.size
    · clear h
      go_enter Tryd.func5, Tryd.ntmps5
      go_wp2
      exact bodyPost_ret (v := .tuple #[.agg #[.int .i64 0, .int .i64 0, .int .i64 0, .int .i64 0, .slice none 0 0], .int .i64 0, .bool false]) (by simp [results, Tryd.results5, go_sem]) rfl ⟨⟨0, 0, 0, 0, []⟩, none, 0, 0, false, rfl, .inr ⟨rfl, rfl, rfl, rfl, HN.out⟩, hb0⟩
    · by_cases h0 : at_ < 0
      · clear h
        go_enter Tryd.func5, Tryd.ntmps5
        go_wp2
        exact bodyPost_ret (v := .tuple #[.agg #[.int .i64 0, .int .i64 0, .int .i64 0, .int .i64 0, .slice none 0 0], .int .i64 0, .bool false]) (by simp [results, Tryd.results5, go_sem]) rfl ⟨⟨0, 0, 0, 0, []⟩, none, 0, 0, .inl ⟨rfl, .inr ⟨rfl, rfl, rfl, rfl, HN.out⟩, hb0⟩⟩
      · have h2 : (s.size : Int) ≤ at_ := by omega
        have h5 : (decide ((600 : Int) < s.size) || decide (at_ < 0)) = false := by simp; omega
        clear h
        go_enter Tryd.func5, Tryd.ntmps5
        go_wp2
        exact bodyPost_ret (v := .tuple #[.agg #[.int .i64 0, .int .i64 0, .int .i64 0, .int .i64 0, .slice none 0 0], .int .i64 0, .bool false]) (by simp [results, Tryd.results5, go_sem]) rfl ⟨⟨0, 0, 0, 0, []⟩, none, 0, 0, .inl ⟨rfl, .inr ⟨rfl, rfl, rfl, rfl, HN.out⟩, hb0⟩⟩

end Go.Proofs.YtgjfjobglhekbaaDoor
