/-
  The walk of the law FnExactTakeBatch: at every text and place it answers true and leaves what was there as it was, where the sum's table is laid.
-/
import Derived.Test.YtopndglgbollfaaDoorSpecTake3
import Derived.Test.YtopndglgbollfaaDoorMark2
namespace Go.Proofs.YtopndglgbollfaaDoor
open Go.RowKit

theorem specTake_good {l : List UInt8} {n : Nat} {b : Bt} {e : Nat} (h : specTake l n = some (b, e)) : b.good = true := by
  unfold specTake at h
  split at h
  · cases hd : specDec (l.drop n) with
    | none => rw [hd] at h; simp at h
    | some b' =>
      rw [hd] at h
      simp at h
      rw [← h.1]
      exact ((specDec_iff b').1 hd).1
  · simp at h

theorem tookOf_good {l : List UInt8} {at_ : Int} {b : Bt} {e : Nat} (h : tookOf l at_ = some (b, e)) : b.good = true := by
  unfold tookOf at h
  split at h
  · exact specTake_good h
  · simp at h

theorem good_recs {b : Bt} (h : b.good = true) : b.recs.length ≤ 8 ∧ ∀ s, s ∈ b.recs → s.size ≤ 20 := by
  simp only [Bt.good, Bool.and_eq_true, inB_t] at h
  obtain ⟨⟨⟨⟨⟨h0, h1⟩, h2⟩, h3⟩, h4⟩, h5⟩ := h
  refine ⟨by omega, fun s hs => ?_⟩
  have := List.all_eq_true.1 h0 s hs
  simpa [shortB] using this

/-- What TakeBatch answers. -/
def ansB (l : List UInt8) (at_ : Int) : Bt := match tookOf l at_ with
  | some (b, _) => b
  | none => ⟨0, 0, 0, 0, []⟩
def ansZ (l : List UInt8) (at_ : Int) : Int := match tookOf l at_ with
  | some (_, e) => e
  | none => 0
def ansK (l : List UInt8) (at_ : Int) : Bool := (tookOf l at_).isSome

theorem ansB_len (l : List UInt8) (at_ : Int) : (ansB l at_).recs.length ≤ 8 := by
  unfold ansB
  split
  · rename_i b e h
    exact (good_recs (tookOf_good h)).1
  · simp

theorem row_of_owns {w : World} {B : Nat} {a : Option Addr} {c n : Nat} {xs : List Value} (h : w.ownsRow B 9 1 (.slice a n c) n xs) : RowAt w B a n := by
  obtain ⟨h1, ⟨hv, h0⟩ | ⟨g, cap, cur, hv, hg, hh, hn, hcap, hcs, ht⟩⟩ := h
  · exact .inl h0
  · simp only [Value.slice.injEq] at hv
    obtain ⟨rfl, -, -⟩ := hv
    exact .inr ⟨g, cap, fun j => cur.getD j undef, rfl, hg, hn, cur, hh, by omega, fun i hi => by simp [hcs, hi]⟩

theorem TookT.form {l : List UInt8} {at_ : Int} {B : Nat} {w' : World} {b : Bt} {a : Option Addr} {c : Nat} {z : Int} {ok : Bool} (h : TookT l at_ B w' b a c z ok) :
    b = ansB l at_ ∧ z = ansZ l at_ ∧ ok = ansK l at_ ∧ Strs w' a b.recs ∧ RowAt w' B a b.recs.length := by
  rcases h with ⟨rfl, ⟨e, rfl, he⟩, hown⟩ | ⟨rfl, rfl, rfl, rfl, hn⟩
  · have hg := good_recs (tookOf_good he)
    exact ⟨by unfold ansB; rw [he], by unfold ansZ; rw [he], by unfold ansK; rw [he]; rfl, strs_of_owns hown (fun s hs => by have := hg.2 s hs; omega), row_of_owns hown⟩
  · exact ⟨by unfold ansB; rw [hn], by unfold ansZ; rw [hn], by unfold ansK; rw [hn]; rfl, (fun i s hi => by simp at hi), .inl rfl⟩

theorem implTakeF (s : ByteArray) (at_ : Int) (w : World) (hl : s.size ≤ maxLen) (hT : TabAt w) :
    Calls Tryd.prog 40 #[.string s, .int .i64 at_] w fun r w' => ∃ a c, r = .returned (.tuple #[.agg #[.int .i64 (ansB s.data.toList at_).off, .int .i64 (ansB s.data.toList at_).ep, .int .i64 (ansB s.data.toList at_).pr, .int .i64 (ansB s.data.toList at_).sq, .slice a (ansB s.data.toList at_).recs.length c], .int .i64 (ansZ s.data.toList at_), .bool (ansK s.data.toList at_)]) ∧ Strs w' a (ansB s.data.toList at_).recs ∧ RowAt w' w.heap.size a (ansB s.data.toList at_).recs.length ∧ Below w.heap.size w w' := by
  refine (implTakeT_any s at_ w hl hT).mono ?_
  rintro r w' ⟨b, a, c, z, ok, rfl, hD, hB⟩
  obtain ⟨rfl, rfl, rfl, h1, h2⟩ := hD.form
  exact ⟨a, c, rfl, h1, h2, hB⟩

theorem Below.stepT {W a b : World} (h : Below W.heap.size W a) (k : Below a.heap.size a b) : Below W.heap.size W b := h.trans (k.mono h.size)

theorem Strs.ltT {w : World} {a : Option Addr} {ss : List ByteArray} (h : Strs w a ss) : ∀ b, InBlock a ss.length b → b < w.heap.size := fun b ⟨h0, o, s, e⟩ => by
  obtain ⟨f, hf⟩ := getAt (ss := ss) h0
  obtain ⟨k, o', e', hc, -⟩ := h 0 f hf
  rw [e'] at e
  simp only [Option.some.injEq, Addr.mk.injEq] at e
  have := lt_of_cell hc
  omega

theorem box_off {w w' : World} {a : Option Addr} {n N : Nat} {v0 v1 v2 v3 v4 : Value} (hO : ∀ b, b < w.heap.size → ¬ InBlock a n b → w'.heap[b]? = w.heap[b]?) (hn : ¬ InBlock a n N)
    (h : w.cell? ⟨N, 0, none⟩ = some v0 ∧ w.cell? ⟨N, 1, none⟩ = some v1 ∧ w.cell? ⟨N, 2, none⟩ = some v2 ∧ w.cell? ⟨N, 3, none⟩ = some v3 ∧ w.cell? ⟨N, 4, none⟩ = some v4) :
    w'.cell? ⟨N, 0, none⟩ = some v0 ∧ w'.cell? ⟨N, 1, none⟩ = some v1 ∧ w'.cell? ⟨N, 2, none⟩ = some v2 ∧ w'.cell? ⟨N, 3, none⟩ = some v3 ∧ w'.cell? ⟨N, 4, none⟩ = some v4 := by
  have e := hO N (lt_of_cell h.1) hn
  have c : ∀ i, w'.cell? ⟨N, i, none⟩ = w.cell? ⟨N, i, none⟩ := fun i => World.cell?_of_block (a := ⟨N, i, none⟩) e
  rw [c, c, c, c, c]
  exact h

end Go.Proofs.YtopndglgbollfaaDoor
