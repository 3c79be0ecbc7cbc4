/-
  The walk of the law FnExactSurvivesIn: at every disk and number it answers true and leaves what was there as it was, where the sum's table is laid.
-/
import Derived.Test.YteklkdnkfgfdiaaDoorSurv
import Derived.Test.YteklkdnkfgfdiaaDoorMarkLog3
import Derived.Test.YteklkdnkfgfdiaaDoorDsk2
import Derived.Deep.RegionHeld3
namespace Go.Proofs.YteklkdnkfgfdiaaDoor
open Go.RowKit

theorem bats_own {wr : World} {B : Nat} {a : Option Addr} {c : Nat} {qs : List Q} (own : wr.ownsRow B 36 5 (.slice a qs.length c) qs.length (qsCells qs))
    (recs : ∀ q, q ∈ qs → wr.ownsRow B 9 1 (.slice q.a q.b.recs.length q.c) q.b.recs.length (strVals q.b.recs) ∧ (∀ s, s ∈ q.b.recs → s.size < 256) ∧ q.b.recs.length ≤ 8) : Bats wr a (qsB qs) := fun i b hi => by
  have hlt := (List.getElem?_eq_some_iff.1 hi).1
  rw [qsB_len] at hlt
  obtain ⟨q, hq⟩ : ∃ q, qs[i]? = some q := ⟨_, List.getElem?_eq_getElem hlt⟩
  obtain rfl : q.b = b := by simpa [qsB, hq] using hi
  obtain ⟨g, cap, f, hv, hg, hn, hR, hx⟩ := row_of_ownsB own (by omega)
  simp only [Value.slice.injEq] at hv
  obtain ⟨rfl, -, rfl⟩ := hv
  have hm := List.mem_of_getElem? hq
  have cell : ∀ j v, j < 5 → (qCells q)[j]? = some v → wr.cell? ⟨g, 0 + i * 5 + j, none⟩ = some v := fun j v hj hv => by
    have e := hx (i * 5 + j) (by omega)
    rw [qsCells_get qs i q hq j hj, hv] at e
    rw [Nat.zero_add, hR.cell (by omega)]
    exact e.symm
  refine ⟨g, 0, rfl, q.a, q.c, cell 0 _ (by omega) rfl, cell 1 _ (by omega) rfl, cell 2 _ (by omega) rfl, cell 3 _ (by omega) rfl, cell 4 _ (by omega) rfl, strs_of_owns (recs q hm).1 (recs q hm).2.1, ?_⟩
  have := (recs q hm).2.2
  unfold maxLen; omega

theorem bats_move {w0 w w' : World} {a : Option Addr} {c : Nat} {qs : List Q} (h : RdSt w0 w (.slice a qs.length c) qs) (hs : ∀ b, w0.heap.size ≤ b → b < w.heap.size → w'.heap[b]? = w.heap[b]?) : Bats w' a (qsB qs) :=
  bats_own (ownsR_of_block h.own (fun k hk => hs k (h.own.lt k hk).1 (h.own.lt k hk).2)) (fun q hq => ⟨ownsR_of_block (h.recs q hq).1 (fun k hk => hs k ((h.recs q hq).1.lt k hk).1 ((h.recs q hq).1.lt k hk).2), (h.recs q hq).2⟩)

theorem Below.stepS {W a b : World} (h : Below W.heap.size W a) (k : Below a.heap.size a b) : Below W.heap.size W b := h.trans (k.mono h.size)

theorem celS {w w' : World} {b o : Nat} {v : Value} (hb : Below w.heap.size w w') (h : w.cell? ⟨b, o, none⟩ = some v) : w'.cell? ⟨b, o, none⟩ = some v := (hb.cell (p := ⟨b, o, none⟩) (lt_of_cell h)).trans h

theorem twoS {W w1 : World} {N M : Nat} {v0 v1 : Value} (hB : Below W.heap.size W w1) (h : W.cell? ⟨N, 0, none⟩ = some v0 ∧ W.cell? ⟨M, 0, none⟩ = some v1) : w1.cell? ⟨N, 0, none⟩ = some v0 ∧ w1.cell? ⟨M, 0, none⟩ = some v1 :=
  ⟨celS hB h.1, celS hB h.2⟩

theorem Fls.ltS {w : World} {a : Option Addr} {fs : List Fl} (h : Fls w a fs) : ∀ b, InB a fs.length b → b < w.heap.size := fun b ⟨h0, o, s, e⟩ => by
  obtain ⟨f, hf⟩ := getFl (fs := fs) h0
  obtain ⟨k, o', e', hc, -⟩ := h 0 f hf
  rw [e'] at e
  simp only [Option.some.injEq, Addr.mk.injEq] at e
  have := lt_of_cell hc
  omega

theorem RdAns2.form {w w' : World} {bs : List Bt} {ok : Bool} {r : Ending} (h : RdAns2 w bs ok r w') :
    ∃ qs a c, r = .returned (.tuple #[.slice a bs.length c, .bool ok]) ∧ qs.length = bs.length ∧ qsB qs = bs ∧ RdSt w w' (.slice a qs.length c) qs := by
  obtain ⟨qs, a, c, rfl, rfl, hst⟩ := h
  exact ⟨qs, a, c, by rw [qsB_len], (qsB_len qs).symm, rfl, hst⟩

theorem survOf_len (fs : List Fl) (k : Int) : (survOf fs k).length ≤ 300 := by
  unfold survOf
  split
  · rename_i h
    cases hf : fs[k.toNat]? with
    | none => simp
    | some f =>
      have hok := okF_parts ((goodD_t (inF_t h).1).2.2 f (List.mem_of_getElem? hf))
      have hr := readR_len (f.bytes.extract 0 f.syn.toNat).data.toList ((f.bytes.extract 0 f.syn.toNat).data.toList.length + 1) none 0 (Nat.zero_le _)
      have hz : (f.bytes.extract 0 f.syn.toNat).data.toList.length ≤ 400 := by rw [size_len, ByteArray.size_extract]; omega
      simp only
      unfold readL
      omega
  · simp

end Go.Proofs.YteklkdnkfgfdiaaDoor
