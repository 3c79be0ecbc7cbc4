/-
  One batch taken at a place, the specification's side: the contracts of spec.l1Take and spec.TakeBatch at every text and place; what both sides take is the same.
  The walk of the law FnExactTakeBatch: at every text and place it answers true and leaves what was there as it was, where the sum's table is laid.
-/
import Derived.Test.YtlinincmlilbjaaDoorSpecTake2
import Derived.Test.YtlinincmlilbjaaDoorMark2
namespace Go.Proofs.YtlinincmlilbjaaDoor
open Go.RowKit

theorem l1Take_any (s : ByteArray) (n : Nat) (w : World) (hs : s.size ≤ 2000000) (hn : n ≤ s.size) :
    Calls Tryd.prog 32 #[.string s, .int .i64 n] w fun r w' => ∃ b a c z, r = .returned (.tuple #[.agg #[.int .i64 b.off, .int .i64 b.ep, .int .i64 b.pr, .int .i64 b.sq, .slice a b.recs.length c], .int .i64 z]) ∧ TookS s.data.toList n w.heap.size w' b a c z ∧ Below w.heap.size w w' := by
  by_cases h : 14 ≤ s.size - n ∧ lenOf (s.data.toList.drop n) ≤ s.size - n
  · exact l1Take_main s n w hs hn h.1 h.2
  · exact l1Take_short s n w hs hn h

theorem implDec_read (t : List UInt8) : implDec t = if crcOf (t.take (t.length - 2)) = val (t.drop (t.length - 2)) then readDec t else none := rfl

/-- The two sides take the same. -/
theorem take_same {l : List UInt8} {n : Nat} (hl : l.length ≤ 600) (hn : n ≤ l.length) : takeOf l (n : Int) = specTake l n := by
  unfold takeOf specTake
  rw [if_pos ⟨hl, by omega, by omega⟩, Int.toNat_natCast]
  generalize l.drop n = r
  by_cases h : 14 ≤ r.length ∧ lenOf r ≤ r.length
  · rw [if_pos h]
    by_cases h14 : 14 ≤ lenOf r
    · have hd := dec_same (r := r) h.2 h14
      have e0 : 2 + val (r.take 2) = lenOf r := rfl
      rw [e0] at hd
      have hlen : (r.take (lenOf r)).length = lenOf r := by rw [List.length_take]; omega
      rw [implDec_read, hlen] at hd
      have e1 : (r.take (lenOf r)).take (lenOf r - 2) = r.take (lenOf r - 2) := by rw [List.take_take]; congr 1; omega
      have e2 : (r.take (lenOf r)).drop (lenOf r - 2) = (r.drop (lenOf r - 2)).take 2 := by rw [List.drop_take]; congr 1; omega
      rw [e1, e2] at hd
      by_cases hc : crcOf (r.take (lenOf r - 2)) = val ((r.drop (lenOf r - 2)).take 2)
      · have hw : wholeOk r = true := by simp only [wholeOk, decide_eq_true_eq]; exact ⟨h.1, h14, h.2, hc⟩
        rw [if_pos hc] at hd
        rw [if_pos hw, hd]
      · have hw : ¬ wholeOk r = true := by simp only [wholeOk, decide_eq_true_eq]; exact fun k => hc k.2.2.2
        rw [if_neg hc] at hd
        rw [if_neg hw, ← hd]; rfl
    · have hw : ¬ wholeOk r = true := by simp only [wholeOk, decide_eq_true_eq]; exact fun k => h14 k.2.1
      have e0 : 2 + val (r.take 2) = lenOf r := rfl
      rw [if_neg hw, specDec_short (by rw [e0]; omega)]; rfl
  · have hw : ¬ wholeOk r = true := by simp only [wholeOk, decide_eq_true_eq]; exact fun k => h ⟨k.1, k.2.2.1⟩
    rw [if_neg hw, if_neg h]

/-- What is taken at a place: a batch and where it ends. -/
def tookOf (l : List UInt8) (at_ : Int) : Option (Bt × Nat) := if l.length ≤ 600 ∧ 0 ≤ at_ ∧ at_ < l.length then specTake l at_.toNat else none

theorem tookOf_out {l : List UInt8} {at_ : Int} (h : ¬ (l.length ≤ 600 ∧ 0 ≤ at_ ∧ at_ < l.length)) : tookOf l at_ = none := by unfold tookOf; rw [if_neg h]

theorem specTake_end {l : List UInt8} {n : Nat} (h : l.length ≤ n) : specTake l n = none := by
  unfold specTake
  rw [if_neg]
  rw [List.length_drop]; omega

theorem takeOf_took (l : List UInt8) (at_ : Int) : takeOf l at_ = tookOf l at_ := by
  by_cases h : l.length ≤ 600 ∧ 0 ≤ at_ ∧ at_ < l.length
  · obtain ⟨n, rfl⟩ := Int.eq_ofNat_of_zero_le h.2.1
    rw [take_same h.1 (by omega)]
    unfold tookOf; rw [if_pos h]; rfl
  · rw [tookOf_out h]
    by_cases h2 : l.length ≤ 600 ∧ 0 ≤ at_ ∧ at_ ≤ l.length
    · obtain ⟨n, rfl⟩ := Int.eq_ofNat_of_zero_le h2.2.1
      rw [take_same h2.1 (by omega), specTake_end (by omega)]
    · exact takeOf_out h2

/-- What spec.TakeBatch and impl.TakeBatch answer. -/
def TookT (l : List UInt8) (at_ : Int) (B : Nat) (w' : World) (b : Bt) (a : Option Addr) (c : Nat) (z : Int) (ok : Bool) : Prop :=
  (ok = true ∧ (∃ e : Nat, z = e ∧ tookOf l at_ = some (b, e)) ∧ w'.ownsRow B 9 1 (.slice a b.recs.length c) b.recs.length (strVals b.recs)) ∨ (ok = false ∧ z = 0 ∧ b = ⟨0, 0, 0, 0, []⟩ ∧ a = none ∧ tookOf l at_ = none)

theorem implTakeT_any (s : ByteArray) (at_ : Int) (w : World) (hl : s.size ≤ maxLen) (hT : TabAt w) :
    Calls Tryd.prog 10 #[.string s, .int .i64 at_] w fun r w' => ∃ b a c z ok, r = .returned (.tuple #[.agg #[.int .i64 b.off, .int .i64 b.ep, .int .i64 b.pr, .int .i64 b.sq, .slice a b.recs.length c], .int .i64 z, .bool ok]) ∧ TookT s.data.toList at_ w.heap.size w' b a c z ok ∧ Below w.heap.size w w' := by
  refine (implTake_any s at_ w hl hT).mono ?_
  rintro r w' ⟨b, a, c, z, ok, hr, hb, hB⟩
  refine ⟨b, a, c, z, ok, hr, ?_, hB⟩
  unfold TookB at hb
  rw [takeOf_took] at hb
  exact hb

set_option maxRecDepth 100000 in
set_option maxHeartbeats 2000000 in
theorem specTakeT_any (s : ByteArray) (at_ : Int) (w : World) (hl : s.size ≤ maxLen) :
    Calls Tryd.prog 15 #[.string s, .int .i64 at_] w fun r w' => ∃ b a c z ok, r = .returned (.tuple #[.agg #[.int .i64 b.off, .int .i64 b.ep, .int .i64 b.pr, .int .i64 b.sq, .slice a b.recs.length c], .int .i64 z, .bool ok]) ∧ TookT s.data.toList at_ w.heap.size w' b a c z ok ∧ Below w.heap.size w w' := by
  have hb0 : Below w.heap.size w (w.alloc (.cells #[.int .i64 0, .int .i64 0, .int .i64 0, .int .i64 0, .slice none 0 0] 25)) := (Below.refl _ _).alloc (Nat.le_refl _) _
  unfold maxLen at hl
  by_cases h : s.size ≤ 600 ∧ 0 ≤ at_ ∧ at_ < s.size
  · obtain ⟨n, rfl⟩ := Int.eq_ofNat_of_zero_le h.2.1
    have h1 := h.1
    have h3 := h.2.2
    have HT : Hid (tookOf s.data.toList n = specTake s.data.toList n) := by
      show _ = _
      unfold tookOf; rw [if_pos ⟨by rw [size_len]; omega, by omega, by rw [size_len]; omega⟩]; rfl
    clear h
    go_enter Tryd.func15, Tryd.ntmps15
    go_wp2_with fail
    refine (l1Take_any s n _ (by omega) (by omega)).mono ?_
    rintro r w1 ⟨b, a, c, z, rfl, hD, hB1⟩
    have BB := hb0.trans (hB1.mono hb0.size)
    obtain ⟨hc1, hf1⟩ := bcell hB1
    have l1 := hB1.size
    simp only [World.size_alloc] at hc1 hf1 l1
    have hc2 : ∀ i o, (w1.alloc o).cell? ⟨w.heap.size, i, none⟩ = (w.alloc (.cells #[.int .i64 0, .int .i64 0, .int .i64 0, .int .i64 0, .slice none 0 0] 25)).cell? ⟨w.heap.size, i, none⟩ := fun i o =>
      (World.cell?_alloc_old w1 _ ⟨w.heap.size, i, none⟩ (by simp; omega)).trans (hc1 _ i (Nat.lt_succ_self _))
    have hf2 : ∀ i o, (w1.alloc o).frozen? ⟨w.heap.size, i, none⟩ = false := fun i o => by
      rw [World.frozen?_alloc_old w1 _ ⟨w.heap.size, i, none⟩ (by simp; omega), hf1 _ i (Nat.lt_succ_self _)]
      simp
    clear hB1
    rcases hD with ⟨⟨e, rfl, he, hd⟩, hown⟩ | ⟨rfl, rfl, rfl, rfl, hd⟩
    · have HD : Hid (specTake s.data.toList n = some (b, e)) := hd
      have hpos : (0 : Int) < (e : Int) := by omega
      clear hd
      simp only [World.size_alloc] at hown
      go_wp2_with fail
      refine bodyPost_ret (v := .tuple #[.agg #[.int .i64 b.off, .int .i64 b.ep, .int .i64 b.pr, .int .i64 b.sq, .slice a b.recs.length c], .int .i64 (e : Int), .bool true]) (by simp [results, Tryd.results15, go_sem, hc2]) rfl ⟨b, a, c, (e : Int), true, rfl, .inl ⟨rfl, ⟨e, rfl, by rw [HT.out, HD.out]⟩, ?_⟩, ((((((BB.alloc BB.size _).setCell (Nat.le_refl _) _).setCell (Nat.le_refl _) _).setCell (Nat.le_refl _) _).setCell (Nat.le_refl _) _).setCell (Nat.le_refl _) _)⟩
      exact owns_mono (ownsRow_setCell_below (ownsRow_setCell_below (ownsRow_setCell_below (ownsRow_setCell_below (ownsRow_setCell_below (hown.alloc _) (Nat.lt_succ_self _) _) (Nat.lt_succ_self _) _) (Nat.lt_succ_self _) _) (Nat.lt_succ_self _) _) (Nat.lt_succ_self _) _) (Nat.le_succ _)
    · have HD : Hid (specTake s.data.toList n = none) := hd
      clear hd
      go_wp2_with fail
      exact bodyPost_ret (v := .tuple #[.agg #[.int .i64 0, .int .i64 0, .int .i64 0, .int .i64 0, .slice none 0 0], .int .i64 0, .bool false]) (by simp [results, Tryd.results15, go_sem, hc2]) rfl ⟨⟨0, 0, 0, 0, []⟩, none, 0, 0, false, rfl, .inr ⟨rfl, rfl, rfl, rfl, by rw [HT.out, HD.out]⟩, ((((((BB.alloc BB.size _).setCell (Nat.le_refl _) _).setCell (Nat.le_refl _) _).setCell (Nat.le_refl _) _).setCell (Nat.le_refl _) _).setCell (Nat.le_refl _) _)⟩
  · have HN : Hid (tookOf s.data.toList at_ = none) := tookOf_out (by rw [size_len]; exact h)
    by_cases h6 : (600 : Int) < s.size
    · clear h
      go_enter Tryd.func15, Tryd.ntmps15
      go_wp2
      exact bodyPost_ret (v := .tuple #[.agg #[.int .i64 0, .int .i64 0, .int .i64 0, .int .i64 0, .slice none 0 0], .int .i64 0, .bool false]) (by simp [results, Tryd.results15, go_sem]) rfl ⟨⟨0, 0, 0, 0, []⟩, none, 0, 0, false, rfl, .inr ⟨rfl, rfl, rfl, rfl, HN.out⟩, hb0⟩
    · by_cases h0 : at_ < 0
      · clear h
        go_enter Tryd.func15, Tryd.ntmps15
        go_wp2
        exact bodyPost_ret (v := .tuple #[.agg #[.int .i64 0, .int .i64 0, .int .i64 0, .int .i64 0, .slice none 0 0], .int .i64 0, .bool false]) (by simp [results, Tryd.results15, go_sem]) rfl ⟨⟨0, 0, 0, 0, []⟩, none, 0, 0, .inl ⟨rfl, .inr ⟨rfl, rfl, rfl, rfl, HN.out⟩, hb0⟩⟩
      · have h2 : (s.size : Int) ≤ at_ := by omega
        have h5 : (decide ((600 : Int) < s.size) || decide (at_ < 0)) = false := by simp; omega
        clear h
        go_enter Tryd.func15, Tryd.ntmps15
        go_wp2
        exact bodyPost_ret (v := .tuple #[.agg #[.int .i64 0, .int .i64 0, .int .i64 0, .int .i64 0, .slice none 0 0], .int .i64 0, .bool false]) (by simp [results, Tryd.results15, go_sem]) rfl ⟨⟨0, 0, 0, 0, []⟩, none, 0, 0, .inl ⟨rfl, .inr ⟨rfl, rfl, rfl, rfl, HN.out⟩, hb0⟩⟩

end Go.Proofs.YtlinincmlilbjaaDoor

namespace Go.Proofs.YtlinincmlilbjaaDoor
open Go.RowKit

theorem specTake_good {l : List UInt8} {n : Nat} {b : Bt} {e : Nat} (h : specTake l n = some (b, e)) : b.good = true := by
  unfold specTake at h
  split at h
  · cases hd : specDec (l.drop n) with
    | none => rw [hd] at h; simp at h
    | some b' =>
      rw [hd] at h
      simp at h
      rw [← h.1]
      exact ((specDec_iff b').1 hd).1
  · simp at h

theorem tookOf_good {l : List UInt8} {at_ : Int} {b : Bt} {e : Nat} (h : tookOf l at_ = some (b, e)) : b.good = true := by
  unfold tookOf at h
  split at h
  · exact specTake_good h
  · simp at h

theorem good_recs {b : Bt} (h : b.good = true) : b.recs.length ≤ 8 ∧ ∀ s, s ∈ b.recs → s.size ≤ 20 := by
  simp only [Bt.good, Bool.and_eq_true, inB_t] at h
  obtain ⟨⟨⟨⟨⟨h0, h1⟩, h2⟩, h3⟩, h4⟩, h5⟩ := h
  refine ⟨by omega, fun s hs => ?_⟩
  have := List.all_eq_true.1 h0 s hs
  simpa [shortB] using this

/-- What TakeBatch answers. -/
def ansB (l : List UInt8) (at_ : Int) : Bt := match tookOf l at_ with
  | some (b, _) => b
  | none => ⟨0, 0, 0, 0, []⟩
def ansZ (l : List UInt8) (at_ : Int) : Int := match tookOf l at_ with
  | some (_, e) => e
  | none => 0
def ansK (l : List UInt8) (at_ : Int) : Bool := (tookOf l at_).isSome

theorem ansB_len (l : List UInt8) (at_ : Int) : (ansB l at_).recs.length ≤ 8 := by
  unfold ansB
  split
  · rename_i b e h
    exact (good_recs (tookOf_good h)).1
  · simp

theorem row_of_owns {w : World} {B : Nat} {a : Option Addr} {c n : Nat} {xs : List Value} (h : w.ownsRow B 9 1 (.slice a n c) n xs) : RowAt w B a n := by
  obtain ⟨h1, ⟨hv, h0⟩ | ⟨g, cap, cur, hv, hg, hh, hn, hcap, hcs, ht⟩⟩ := h
  · exact .inl h0
  · simp only [Value.slice.injEq] at hv
    obtain ⟨rfl, -, -⟩ := hv
    exact .inr ⟨g, cap, fun j => cur.getD j undef, rfl, hg, hn, cur, hh, by omega, fun i hi => by simp [hcs, hi]⟩

theorem TookT.form {l : List UInt8} {at_ : Int} {B : Nat} {w' : World} {b : Bt} {a : Option Addr} {c : Nat} {z : Int} {ok : Bool} (h : TookT l at_ B w' b a c z ok) :
    b = ansB l at_ ∧ z = ansZ l at_ ∧ ok = ansK l at_ ∧ Strs w' a b.recs ∧ RowAt w' B a b.recs.length := by
  rcases h with ⟨rfl, ⟨e, rfl, he⟩, hown⟩ | ⟨rfl, rfl, rfl, rfl, hn⟩
  · have hg := good_recs (tookOf_good he)
    exact ⟨by unfold ansB; rw [he], by unfold ansZ; rw [he], by unfold ansK; rw [he]; rfl, strs_of_owns hown (fun s hs => by have := hg.2 s hs; omega), row_of_owns hown⟩
  · exact ⟨by unfold ansB; rw [hn], by unfold ansZ; rw [hn], by unfold ansK; rw [hn]; rfl, (fun i s hi => by simp at hi), .inl rfl⟩

theorem implTakeF (s : ByteArray) (at_ : Int) (w : World) (hl : s.size ≤ maxLen) (hT : TabAt w) :
    Calls Tryd.prog 10 #[.string s, .int .i64 at_] w fun r w' => ∃ a c, r = .returned (.tuple #[.agg #[.int .i64 (ansB s.data.toList at_).off, .int .i64 (ansB s.data.toList at_).ep, .int .i64 (ansB s.data.toList at_).pr, .int .i64 (ansB s.data.toList at_).sq, .slice a (ansB s.data.toList at_).recs.length c], .int .i64 (ansZ s.data.toList at_), .bool (ansK s.data.toList at_)]) ∧ Strs w' a (ansB s.data.toList at_).recs ∧ RowAt w' w.heap.size a (ansB s.data.toList at_).recs.length ∧ Below w.heap.size w w' := by
  refine (implTakeT_any s at_ w hl hT).mono ?_
  rintro r w' ⟨b, a, c, z, ok, rfl, hD, hB⟩
  obtain ⟨rfl, rfl, rfl, h1, h2⟩ := hD.form
  exact ⟨a, c, rfl, h1, h2, hB⟩

theorem specTakeF (s : ByteArray) (at_ : Int) (w : World) (hl : s.size ≤ maxLen) :
    Calls Tryd.prog 15 #[.string s, .int .i64 at_] w fun r w' => ∃ a c, r = .returned (.tuple #[.agg #[.int .i64 (ansB s.data.toList at_).off, .int .i64 (ansB s.data.toList at_).ep, .int .i64 (ansB s.data.toList at_).pr, .int .i64 (ansB s.data.toList at_).sq, .slice a (ansB s.data.toList at_).recs.length c], .int .i64 (ansZ s.data.toList at_), .bool (ansK s.data.toList at_)]) ∧ Strs w' a (ansB s.data.toList at_).recs ∧ RowAt w' w.heap.size a (ansB s.data.toList at_).recs.length ∧ Below w.heap.size w w' := by
  refine (specTakeT_any s at_ w hl).mono ?_
  rintro r w' ⟨b, a, c, z, ok, rfl, hD, hB⟩
  obtain ⟨rfl, rfl, rfl, h1, h2⟩ := hD.form
  exact ⟨a, c, rfl, h1, h2, hB⟩

theorem Below.stepT {W a b : World} (h : Below W.heap.size W a) (k : Below a.heap.size a b) : Below W.heap.size W b := h.trans (k.mono h.size)

theorem Strs.ltT {w : World} {a : Option Addr} {ss : List ByteArray} (h : Strs w a ss) : ∀ b, InBlock a ss.length b → b < w.heap.size := fun b ⟨h0, o, s, e⟩ => by
  obtain ⟨f, hf⟩ := getAt (ss := ss) h0
  obtain ⟨k, o', e', hc, -⟩ := h 0 f hf
  rw [e'] at e
  simp only [Option.some.injEq, Addr.mk.injEq] at e
  have := lt_of_cell hc
  omega

theorem box_off {w w' : World} {a : Option Addr} {n N : Nat} {v0 v1 v2 v3 v4 : Value} (hO : ∀ b, b < w.heap.size → ¬ InBlock a n b → w'.heap[b]? = w.heap[b]?) (hn : ¬ InBlock a n N)
    (h : w.cell? ⟨N, 0, none⟩ = some v0 ∧ w.cell? ⟨N, 1, none⟩ = some v1 ∧ w.cell? ⟨N, 2, none⟩ = some v2 ∧ w.cell? ⟨N, 3, none⟩ = some v3 ∧ w.cell? ⟨N, 4, none⟩ = some v4) :
    w'.cell? ⟨N, 0, none⟩ = some v0 ∧ w'.cell? ⟨N, 1, none⟩ = some v1 ∧ w'.cell? ⟨N, 2, none⟩ = some v2 ∧ w'.cell? ⟨N, 3, none⟩ = some v3 ∧ w'.cell? ⟨N, 4, none⟩ = some v4 := by
  have e := hO N (lt_of_cell h.1) hn
  have c : ∀ i, w'.cell? ⟨N, i, none⟩ = w.cell? ⟨N, i, none⟩ := fun i => World.cell?_of_block (a := ⟨N, i, none⟩) e
  rw [c, c, c, c, c]
  exact h

end Go.Proofs.YtlinincmlilbjaaDoor
