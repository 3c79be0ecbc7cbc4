/-
  Places that are spread, the specification's side: spec.l13Spread. Made by mkhmr.py.
-/
import Derived.Test.YtmpchddfijcjfaaHmQ
import Derived.Test.YtmpchddfijcjfaaZan
import Derived.Test.YtmpchddfijcjfaaAppZ
namespace Go.Proofs.Ytmpchddfijcjfaa
open Go.RowKit

/-- Three rows: the places, the rooms, the loads of the places. -/
structure SpSt (w0 wr : World) (B : Nat) (av : Option Addr) (m R gl ml n N : Nat) (rs o : List Int) : Prop where
  out : o = [] ∨ ∃ g, av = some ⟨g, 0, none⟩ ∧ B ≤ g ∧ g < R ∧ IR wr g m o
  rms : IR wr R n rs
  lds : IR wr gl ml (loadL n o)
  bel : Below w0.heap.size w0 wr
  len : o.length = N
  rg : ∀ i, i < o.length → -1 ≤ zA o i ∧ zA o i < n
  rl : rs.length = n
  d1 : R < gl
  dB : w0.heap.size ≤ R

theorem SpSt.below {w0 wr wr' : World} {B : Nat} {av : Option Addr} {m R gl ml n N : Nat} {rs o : List Int} (h : SpSt w0 wr B av m R gl ml n N rs o) (hb : Below wr.heap.size wr wr') : SpSt w0 wr' B av m R gl ml n N rs o :=
  ⟨by rcases h.out with e | ⟨g, e, h1, h2, h3⟩; exact .inl e; exact .inr ⟨g, e, h1, h2, h3.below hb⟩, h.rms.below hb, h.lds.below hb, stHm h.bel hb, h.len, h.rg, h.rl, h.d1, h.dB⟩
theorem SpSt.get {w0 wr : World} {B : Nat} {av : Option Addr} {m R gl ml n N : Nat} {rs o : List Int} (h : SpSt w0 wr B av m R gl ml n N rs o) {i : Nat} (hi : i < o.length) : ∃ g, av = some ⟨g, 0, none⟩ ∧ B ≤ g ∧ g < R ∧ IR wr g m o := by
  rcases h.out with e | e
  · subst e; simp at hi
  · exact e
theorem SpSt.move {w0 wr : World} {B : Nat} {g : Nat} {m R gl ml n N : Nat} {rs o : List Int} (h : SpSt w0 wr B (some ⟨g, 0, none⟩) m R gl ml n N rs o) (hw : w0.heap.size ≤ B) {i : Nat} (hi : i < o.length) {q : Nat} (hq : q < n) {c v : Int} (hl : (loadL n o).set q c = loadL n (o.set i v)) (hv : -1 ≤ v ∧ v < n) :
    SpSt w0 ((wr.setCell ⟨gl, q, none⟩ (.int .i64 c)).setCell ⟨g, i, none⟩ (.int .i64 v)) B (some ⟨g, 0, none⟩) m R gl ml n N rs (o.set i v) := by
  obtain ⟨g', e, h1, h2, h3⟩ := h.get hi
  simp only [Option.some.injEq, Addr.mk.injEq, and_true] at e
  subst e
  have hd := h.d1
  have hB := h.dB
  refine ⟨.inr ⟨g, rfl, h1, h2, (h3.other (by omega) _).set hi v⟩, (h.rms.other (by omega) _).other (by omega) _, ?_, (h.bel.setCell (by show _ ≤ gl; omega) _).setCell (by show _ ≤ g; omega) _, by rw [List.length_set]; exact h.len, fun j hj => ?_, h.rl, hd, hB⟩
  · rw [← hl]; exact (h.lds.set (by rw [loadL_len]; exact hq) c).other (by omega) _
  · rw [List.length_set] at hj
    by_cases e : i = j
    · subst e; rw [zA_set_same hi]; exact hv
    · rw [zA_set_other e]; exact h.rg j hj
theorem SpSt.ints {w0 wr : World} {B : Nat} {av : Option Addr} {m R gl ml n N : Nat} {rs o : List Int} (h : SpSt w0 wr B av m R gl ml n N rs o) : Ints wr av o ∧ RowI wr B av o.length := by
  rcases h.out with e | ⟨g, e, h1, h2, h3⟩
  · subst e; exact ⟨Ints.nil _ _, .inl rfl⟩
  · subst e; exact ⟨h3.ints, h3.rowI h1⟩

end Go.Proofs.Ytmpchddfijcjfaa
