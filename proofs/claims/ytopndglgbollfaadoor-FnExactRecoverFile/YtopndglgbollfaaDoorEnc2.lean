/-
  A batch's bytes: what spec.BatchBytes and impl.BatchBytes answer at every batch that can be read: the same.
-/
import Derived.Test.YtopndglgbollfaaDoorEnc
import Derived.Laws.BytesArg
namespace Go.Proofs.YtopndglgbollfaaDoor
open Go.RowKit

def encS (o e p q : Int) (ss : List ByteArray) : ByteArray := if Bt.good ⟨o, e, p, q, ss⟩ then ⟨(bytesOf o.toNat e.toNat p.toNat q.toNat ss).toArray⟩ else ⟨#[]⟩

theorem good_all {o e p q : Int} {ss : List ByteArray} (h : Bt.good ⟨o, e, p, q, ss⟩ = true) :
    ∃ o' e' p' q' : Nat, o = o' ∧ e = e' ∧ p = p' ∧ q = q' ∧ o' ≤ 100000 ∧ e' ≤ 1000 ∧ p' ≤ 65535 ∧ q' ≤ 65535 ∧ 1 ≤ ss.length ∧ ss.length ≤ 8 ∧ ∀ s, s ∈ ss → s.size ≤ 20 := by
  simp only [Bt.good, Bool.and_eq_true, inB_t] at h
  obtain ⟨⟨⟨⟨⟨ha, h1⟩, h2⟩, h3⟩, h4⟩, h5⟩ := h
  refine ⟨o.toNat, e.toNat, p.toNat, q.toNat, by omega, by omega, by omega, by omega, by omega, by omega, by omega, by omega, by omega, by omega, fun s hs => ?_⟩
  have := List.all_eq_true.1 ha s hs
  simpa [shortB] using this

theorem ret_sb {a b : ByteArray} {x y : Bool} (h : a = b) (g : x = y) : Ending.returned (.tuple #[.string a, .bool x]) = .returned (.tuple #[.string b, .bool y]) := by rw [h, g]

theorem encS_f {o e p q : Int} {ss : List ByteArray} (h : Bt.good ⟨o, e, p, q, ss⟩ = false) : encS o e p q ss = ⟨#[]⟩ := by unfold encS; rw [h]; rfl
theorem encS_t {o e p q : Nat} {ss : List ByteArray} (h : Bt.good ⟨o, e, p, q, ss⟩ = true) : encS o e p q ss = ⟨(bytesOf o e p q ss).toArray⟩ := by unfold encS; rw [h]; simp

/-- What sizeOf answers. -/
def recLen (ss : List ByteArray) : Nat := (recBytes ss).length

theorem recLen_succ {ss : List ByteArray} {k : Nat} {s : ByteArray} (h : ss[k]? = some s) : recLen (ss.take (k + 1)) = recLen (ss.take k) + (1 + s.size) := by
  unfold recLen
  rw [recBytes_succ h, List.length_append, List.length_append, be_length]
  rfl

theorem owns_below {w w' : World} {B : Nat} {e : TypeId} {size : Nat} {v : Value} {n : Nat} {xs : List Value} (h : w.ownsRow B e size v n xs) (hb : Below w.heap.size w w') : w'.ownsRow B e size v n xs := by
  obtain ⟨h1, h2 | ⟨g, cap, cur, hv, hg, hh, r⟩⟩ := h
  · exact ⟨h1, .inl h2⟩
  · have hlt := (Array.getElem?_eq_some_iff.1 hh).1
    exact ⟨h1, .inr ⟨g, cap, cur, hv, hg, (hb.block g hlt).trans hh, r⟩⟩

/-- string(b) of a row that the call owns. -/
theorem convert_own {w : World} {B : Nat} {v : Value} {l : List UInt8} (h : w.ownsRow B 5 1 v l.length (byteVals l)) :
    (convert 86 9 v).run Tryd.prog w = .ok (.string ⟨l.toArray⟩) w := by
  obtain ⟨h1, ⟨rfl, h0⟩ | ⟨g, cap, cur, rfl, hg, hh, hn, hcap, hcs, ht⟩⟩ := h
  · obtain rfl : l = [] := List.eq_nil_of_length_eq_zero h0
    exact run_convert_bytes_nil w 86 5 Tryd.underlying86 Tryd.underlying5 0 0 9 Tryd.underlying9
  · refine run_convert_bytes_back w 86 9 5 ⟨g, 0, none⟩ cap l Tryd.underlying86 Tryd.underlying5 Tryd.underlying9 (fun j hj => ?_)
    rw [Go.WideShapes.add_plain, Nat.zero_add]
    have e : cur.toList[j]? = some (.int .u8 (l[j].toNat : Int)) := by
      have : (cur.toList.take (l.length * 1))[j]? = (byteVals l)[j]? := by rw [ht]
      rw [List.getElem?_take_of_lt (by omega)] at this
      rw [this]; simp [byteVals, hj]
    simp only [World.cell?, hh]
    simpa using e

end Go.Proofs.YtopndglgbollfaaDoor
