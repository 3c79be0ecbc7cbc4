/-
  What survives of a file: the contracts of spec.SurvivesIn and impl.SurvivesIn.
-/
import Derived.Test.YteklkdnkfgfdiaaDoorLawRead
import Derived.Test.YteklkdnkfgfdiaaDoorDskImpl
namespace Go.Proofs.YteklkdnkfgfdiaaDoor
open Go.RowKit

/-- The batches that a file's synced bytes tell. -/
def survOf (fs : List Fl) (k : Int) : List Bt := if inF fs k = true then (match fs[k.toNat]? with
  | some f => (readL (f.bytes.extract 0 f.syn.toNat).data.toList).1
  | none => []) else []

theorem survOf_none {fs : List Fl} {k : Int} (h : inF fs k = false) : survOf fs k = [] := by unfold survOf; rw [h]; rfl
theorem survOf_some {fs : List Fl} {k : Nat} {f : Fl} (h : inF fs k = true) (hf : fs[k]? = some f) : survOf fs k = (readL (f.bytes.extract 0 f.syn.toNat).data.toList).1 := by
  unfold survOf; rw [if_pos h, Int.toNat_natCast, hf]

def RdAns2 (w : World) (bs : List Bt) (ok : Bool) (r : Ending) (w' : World) : Prop :=
  ∃ qs a c, r = .returned (.tuple #[.slice a qs.length c, .bool ok]) ∧ qsB qs = bs ∧ RdSt w w' (.slice a qs.length c) qs

theorem rd_base {w w2 w3 : World} {v : Value} {qs : List Q} (h : RdSt w2 w3 v qs) (hb : Below w.heap.size w w2) : RdSt w w3 v qs :=
  ⟨owns_mono h.own hb.size, fun q hq => ⟨owns_mono (h.recs q hq).1 hb.size, (h.recs q hq).2⟩, h.gne, h.dis, hb.trans (h.bel.mono hb.size)⟩

theorem rd_nil {w w2 : World} (hb : Below w.heap.size w w2) : RdSt w w2 (.slice none 0 0) [] := rd_base (rd_start w2) hb

end Go.Proofs.YteklkdnkfgfdiaaDoor
