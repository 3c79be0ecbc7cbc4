/-
  The walk of the law FnExactTakeBatch: at every text and place it answers true and leaves what was there as it was, where the sum's table is laid.
-/
import Derived.Test.YtgjfjobglhekbaaDoorSpecTake3
import Derived.Test.YtgjfjobglhekbaaDoorMark2
namespace Go.Proofs.YtgjfjobglhekbaaDoor
open Go.RowKit

theorem specTake_good {l : List UInt8} {n : Nat} {b : Bt} {e : Nat} (h : specTake l n = some (b, e)) : b.good = true := by
  unfold specTake at h
  split at h
  · cases hd : specDec (l.drop n) with
    | none => rw [hd] at h; simp at h
    | some b' =>
      rw [hd] at h
      simp at h
      rw [← h.1]
      exact ((specDec_iff b').1 hd).1
  · simp at h

theorem tookOf_good {l : List UInt8} {at_ : Int} {b : Bt} {e : Nat} (h : tookOf l at_ = some (b, e)) : b.good = true := by
  unfold tookOf at h
  split at h
  · exact specTake_good h
  · simp at h

theorem good_recs {b : Bt} (h : b.good = true) : b.recs.length ≤ 8 ∧ ∀ s, s ∈ b.recs → s.size ≤ 20 := by
  simp only [Bt.good, Bool.and_eq_true, inB_t] at h
  obtain ⟨⟨⟨⟨⟨h0, h1⟩, h2⟩, h3⟩, h4⟩, h5⟩ := h
  refine ⟨by omega, fun s hs => ?_⟩
  have := List.all_eq_true.1 h0 s hs
  simpa [shortB] using this

/-- What TakeBatch answers. -/
def ansB (l : List UInt8) (at_ : Int) : Bt := match tookOf l at_ with
  | some (b, _) => b
  | none => ⟨0, 0, 0, 0, []⟩
def ansZ (l : List UInt8) (at_ : Int) : Int := match tookOf l at_ with
  | some (_, e) => e
  | none => 0
def ansK (l : List UInt8) (at_ : Int) : Bool := (tookOf l at_).isSome

theorem ansB_len (l : List UInt8) (at_ : Int) : (ansB l at_).recs.length ≤ 8 := by
  unfold ansB
  split
  · rename_i b e h
    exact (good_recs (tookOf_good h)).1
  · simp

theorem row_of_owns {w : World} {B : Nat} {a : Option Addr} {c n : Nat} {xs : List Value} (h : w.ownsRow B 9 1 (.slice a n c) n xs) : RowAt w B a n := by
  obtain ⟨h1, ⟨hv, h0⟩ | ⟨g, cap, cur, hv, hg, hh, hn, hcap, hcs, ht⟩⟩ := h
  · exact .inl h0
  · simp only [Value.slice.injEq] at hv
    obtain ⟨rfl, -, -⟩ := hv
    exact .inr ⟨g, cap, fun j => cur.getD j undef, rfl, hg, hn, cur, hh, by omega, fun i hi => by simp [hcs, hi]⟩

theorem TookT.form {l : List UInt8} {at_ : Int} {B : Nat} {w' : World} {b : Bt} {a : Option Addr} {c : Nat} {z : Int} {ok : Bool} (h : TookT l at_ B w' b a c z ok) :
    b = ansB l at_ ∧ z = ansZ l at_ ∧ ok = ansK l at_ ∧ Strs w' a b.recs ∧ RowAt w' B a b.recs.length := by
  rcases h with ⟨rfl, ⟨e, rfl, he⟩, hown⟩ | ⟨rfl, rfl, rfl, rfl, hn⟩
  · have hg := good_recs (tookOf_good he)
    exact ⟨by unfold ansB; rw [he], by unfold ansZ; rw [he], by unfold ansK; rw [he]; rfl, strs_of_owns hown (fun s hs => by have := hg.2 s hs; omega), row_of_owns hown⟩
  · exact ⟨by unfold ansB; rw [hn], by unfold ansZ; rw [hn], by unfold ansK; rw [hn]; rfl, (fun i s hi => by simp at hi), .inl rfl⟩

theorem implTakeF (s : ByteArray) (at_ : Int) (w : World) (hl : s.size ≤ maxLen) (hT : TabAt w) :
    Calls Tryd.prog 6 #[.string s, .int .i64 at_] w fun r w' => ∃ a c, r = .returned (.tuple #[.agg #[.int .i64 (ansB s.data.toList at_).off, .int .i64 (ansB s.data.toList at_).ep, .int .i64 (ansB s.data.toList at_).pr, .int .i64 (ansB s.data.toList at_).sq, .slice a (ansB s.data.toList at_).recs.length c], .int .i64 (ansZ s.data.toList at_), .bool (ansK s.data.toList at_)]) ∧ Strs w' a (ansB s.data.toList at_).recs ∧ RowAt w' w.heap.size a (ansB s.data.toList at_).recs.length ∧ Below w.heap.size w w' := by
  refine (implTakeT_any s at_ w hl hT).mono ?_
  rintro r w' ⟨b, a, c, z, ok, rfl, hD, hB⟩
  obtain ⟨rfl, rfl, rfl, h1, h2⟩ := hD.form
  exact ⟨a, c, rfl, h1, h2, hB⟩

theorem specTakeF (s : ByteArray) (at_ : Int) (w : World) (hl : s.size ≤ maxLen) :
    Calls Tryd.prog 5 #[.string s, .int .i64 at_] w fun r w' => ∃ a c, r = .returned (.tuple #[.agg #[.int .i64 (ansB s.data.toList at_).off, .int .i64 (ansB s.data.toList at_).ep, .int .i64 (ansB s.data.toList at_).pr, .int .i64 (ansB s.data.toList at_).sq, .slice a (ansB s.data.toList at_).recs.length c], .int .i64 (ansZ s.data.toList at_), .bool (ansK s.data.toList at_)]) ∧ Strs w' a (ansB s.data.toList at_).recs ∧ RowAt w' w.heap.size a (ansB s.data.toList at_).recs.length ∧ Below w.heap.size w w' := by
  refine (specTakeT_any s at_ w hl).mono ?_
  rintro r w' ⟨b, a, c, z, ok, rfl, hD, hB⟩
  obtain ⟨rfl, rfl, rfl, h1, h2⟩ := hD.form
  exact ⟨a, c, rfl, h1, h2, hB⟩

theorem Below.stepT {W a b : World} (h : Below W.heap.size W a) (k : Below a.heap.size a b) : Below W.heap.size W b := h.trans (k.mono h.size)

theorem Strs.ltT {w : World} {a : Option Addr} {ss : List ByteArray} (h : Strs w a ss) : ∀ b, InBlock a ss.length b → b < w.heap.size := fun b ⟨h0, o, s, e⟩ => by
  obtain ⟨f, hf⟩ := getAt (ss := ss) h0
  obtain ⟨k, o', e', hc, -⟩ := h 0 f hf
  rw [e'] at e
  simp only [Option.some.injEq, Addr.mk.injEq] at e
  have := lt_of_cell hc
  omega

theorem box_off {w w' : World} {a : Option Addr} {n N : Nat} {v0 v1 v2 v3 v4 : Value} (hO : ∀ b, b < w.heap.size → ¬ InBlock a n b → w'.heap[b]? = w.heap[b]?) (hn : ¬ InBlock a n N)
    (h : w.cell? ⟨N, 0, none⟩ = some v0 ∧ w.cell? ⟨N, 1, none⟩ = some v1 ∧ w.cell? ⟨N, 2, none⟩ = some v2 ∧ w.cell? ⟨N, 3, none⟩ = some v3 ∧ w.cell? ⟨N, 4, none⟩ = some v4) :
    w'.cell? ⟨N, 0, none⟩ = some v0 ∧ w'.cell? ⟨N, 1, none⟩ = some v1 ∧ w'.cell? ⟨N, 2, none⟩ = some v2 ∧ w'.cell? ⟨N, 3, none⟩ = some v3 ∧ w'.cell? ⟨N, 4, none⟩ = some v4 := by
  have e := hO N (lt_of_cell h.1) hn
  have c : ∀ i, w'.cell? ⟨N, i, none⟩ = w.cell? ⟨N, i, none⟩ := fun i => World.cell?_of_block (a := ⟨N, i, none⟩) e
  rw [c, c, c, c, c]
  exact h

set_option maxRecDepth 100000 in
set_option maxHeartbeats 4000000 in
theorem lawTake_any (s : ByteArray) (at_ : Int) (w : World) (hl : s.size ≤ maxLen) (hTab : TabAt w) :
    Calls Tryd.prog 3 #[.string s, .int .i64 at_] w fun r w' => r = .returned (.bool true) ∧ Below w.heap.size w w' := by
  have hw0 : 0 < w.heap.size := lt_of_cell (hTab 0 (by omega))
  have ha : ∀ (u : World) o, Below u.heap.size u (u.alloc o) := fun u o => (Below.refl _ _).alloc (Nat.le_refl _) o
  have hlen := ansB_len s.data.toList at_
  have HI0 := fun w hT => implTakeF s at_ w hl hT
  have HS := specTakeF s at_ w hl
  unfold maxLen at hl
  generalize ansB s.data.toList at_ = b at *
  generalize ansZ s.data.toList at_ = z at *
  generalize ansK s.data.toList at_ = ok at *
  obtain ⟨x0, x1, x2, x3, ss⟩ := b
  simp only at HI0 HS hlen
  have hlm : ss.length ≤ maxLen := by unfold maxLen; omega
  have hT : (ok != ok) = false := by cases ok <;> rfl
  have hZ : (z != z) = false := by simp
  have HI : Hid (∀ w, TabAt w → Calls Tryd.prog 6 #[.string s, .int .i64 at_] w fun r w' => ∃ a c, r = .returned (.tuple #[.agg #[.int .i64 x0, .int .i64 x1, .int .i64 x2, .int .i64 x3, .slice a ss.length c], .int .i64 z, .bool ok]) ∧ Strs w' a ss ∧ RowAt w' w.heap.size a ss.length ∧ Below w.heap.size w w') := HI0
  clear HI0
  by_cases hbig : (1048576 : Int) < s.size
  · go_enter Tryd.func3, Tryd.ntmps3
    go_wp2
    go_ret
    exact ⟨rfl, Below.refl _ _⟩
  go_enter Tryd.func3, Tryd.ntmps3
  go_wp2_with fail
  refine HS.mono ?_
  rintro r w1 ⟨aw, cw, rfl, HW, -, BB⟩
  have lW : ∀ b, InBlock aw ss.length b → b < w1.heap.size := HW.ltT
  have l0 : w.heap.size ≤ w1.heap.size := BB.size
  clear HS
  go_wp2_with fail
  refine (HI.out _ (hTab.below (Below.stepT BB (ha _ _)) hw0)).mono ?_
  rintro r w2 ⟨ag, cg, rfl, HG, RG, hB2⟩
  have kW := box_keep (N := w1.heap.size) (v0 := .int .i64 x0) (v1 := .int .i64 x1) (v2 := .int .i64 x2) (v3 := .int .i64 x3) (v4 := .slice aw ss.length cw) hB2 (by simp)
  have l1 : w1.heap.size < w2.heap.size := lt_of_cell kW.1
  have HW := (HW.below (ha _ _)).below hB2
  have BB := Below.stepT (Below.stepT BB (ha _ _)) hB2
  simp only [World.size_alloc] at RG
  have lG : ∀ b, InBlock ag ss.length b → w1.heap.size + 1 ≤ b ∧ b < w2.heap.size := fun b hb => RG.lt hb
  have kW := fun o => box_keep (ha w2 o) kW
  clear hB2
  go_wp2_with fail
  refine (eqBatch_same _ _ _ _ _ _ _ _ _ _ (HG.below (ha _ _)) (HW.below (ha _ _)) hlm).mono ?_
  rintro r w3 ⟨rfl, hB3⟩
  have kG := box_keep (N := w2.heap.size) (v0 := .int .i64 x0) (v1 := .int .i64 x1) (v2 := .int .i64 x2) (v3 := .int .i64 x3) (v4 := .slice ag ss.length cg) hB3 (by simp)
  have kW := box_keep hB3 (kW _)
  have l2 : w2.heap.size < w3.heap.size := lt_of_cell kG.1
  have HW := (HW.below (ha _ _)).below hB3
  have RG := (RG.below (ha _ _)).below hB3
  have BB := Below.stepT (Below.stepT BB (ha _ _)) hB3
  clear hB3 HG
  go_wp2_with fail
  refine (markBatch_any _ _ _ _ _ _ ss.length (w1.heap.size + 1) 1 _ RG (by omega) (by omega) (by omega)).mono ?_
  rintro r w4 ⟨rfl, HM, hB4, hO4⟩
  have kG := box_off hO4 (fun h => by have := lG _ h; omega) kG
  have kW := box_off hO4 (fun h => by have := lG _ h; omega) kW
  have HW := HW.of_block (fun b hb => hB4.block b (by have := lW b hb; omega))
  have BB := BB.trans (hB4.mono (by omega))
  have hm : (((1 + ss.length : Nat) : Int) != ((1 + ss.length : Nat) : Int)) = false := by simp
  have hp : ¬ (((1 + ss.length : Nat) : Int) < 0) := by omega
  clear hB4 hO4 RG
  go_wp2_with fail
  refine (heldBatch_any _ _ _ _ _ _ ss.length 1 _ HM (by omega) (by omega)).mono ?_
  rintro r w5 ⟨rfl, hB5⟩
  have kG := box_keep hB5 kG
  have kW := box_keep hB5 kW
  have HW := HW.below hB5
  have HM := HM.below hB5
  have BB := Below.stepT BB hB5
  clear hB5
  go_wp2_with fail
  refine (HI.out _ (hTab.below BB hw0)).mono ?_
  rintro r w6 ⟨ah, ch, rfl, HH, -, hB6⟩
  have kG := fun o => box_keep (ha w6 o) (box_keep hB6 kG)
  have kW := fun o => box_keep (ha w6 o) (box_keep hB6 kW)
  have HW := HW.below hB6
  have HM := HM.below hB6
  have BB := Below.stepT BB hB6
  clear hB6 HI
  go_wp2_with fail
  refine (eqBatch_same _ _ _ _ _ _ _ _ _ _ (HH.below (ha _ _)) (HW.below (ha _ _)) hlm).mono ?_
  rintro r w7 ⟨rfl, hB7⟩
  have kG := box_keep hB7 (kG _)
  have HM := (HM.below (ha _ _)).below hB7
  have BB := Below.stepT (Below.stepT BB (ha _ _)) hB7
  clear hB7 HH HW kW
  go_wp2_with fail
  refine (heldBatch_any _ _ _ _ _ _ ss.length 1 _ HM (by omega) (by omega)).mono ?_
  rintro r w8 ⟨rfl, hB8⟩
  have BB := Below.stepT BB hB8
  clear hB8 HM
  go_wp2
  go_ret
  exact ⟨rfl, BB⟩

end Go.Proofs.YtgjfjobglhekbaaDoor
