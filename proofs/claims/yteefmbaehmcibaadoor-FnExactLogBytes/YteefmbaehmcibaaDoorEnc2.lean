/-
  A batch's bytes: what spec.BatchBytes and impl.BatchBytes answer at every batch that can be read: the same.
-/
import Derived.Test.YteefmbaehmcibaaDoorEnc
import Derived.Laws.BytesArg
namespace Go.Proofs.YteefmbaehmcibaaDoor
open Go.RowKit

def encS (o e p q : Int) (ss : List ByteArray) : ByteArray := if Bt.good ⟨o, e, p, q, ss⟩ then ⟨(bytesOf o.toNat e.toNat p.toNat q.toNat ss).toArray⟩ else ⟨#[]⟩

theorem good_all {o e p q : Int} {ss : List ByteArray} (h : Bt.good ⟨o, e, p, q, ss⟩ = true) :
    ∃ o' e' p' q' : Nat, o = o' ∧ e = e' ∧ p = p' ∧ q = q' ∧ o' ≤ 100000 ∧ e' ≤ 1000 ∧ p' ≤ 65535 ∧ q' ≤ 65535 ∧ 1 ≤ ss.length ∧ ss.length ≤ 8 ∧ ∀ s, s ∈ ss → s.size ≤ 20 := by
  simp only [Bt.good, Bool.and_eq_true, inB_t] at h
  obtain ⟨⟨⟨⟨⟨ha, h1⟩, h2⟩, h3⟩, h4⟩, h5⟩ := h
  refine ⟨o.toNat, e.toNat, p.toNat, q.toNat, by omega, by omega, by omega, by omega, by omega, by omega, by omega, by omega, by omega, by omega, fun s hs => ?_⟩
  have := List.all_eq_true.1 ha s hs
  simpa [shortB] using this

theorem ret_sb {a b : ByteArray} {x y : Bool} (h : a = b) (g : x = y) : Ending.returned (.tuple #[.string a, .bool x]) = .returned (.tuple #[.string b, .bool y]) := by rw [h, g]

theorem encS_f {o e p q : Int} {ss : List ByteArray} (h : Bt.good ⟨o, e, p, q, ss⟩ = false) : encS o e p q ss = ⟨#[]⟩ := by unfold encS; rw [h]; rfl
theorem encS_t {o e p q : Nat} {ss : List ByteArray} (h : Bt.good ⟨o, e, p, q, ss⟩ = true) : encS o e p q ss = ⟨(bytesOf o e p q ss).toArray⟩ := by unfold encS; rw [h]; simp

set_option maxHeartbeats 1000000 in
theorem specBatchBytes_any (o e p q : Int) (ss : List ByteArray) (a : Option Addr) (c : Nat) (w : World) (hs : Strs w a ss) (hl : ss.length ≤ maxLen) :
    Calls Tryd.prog 6 #[.agg #[.int .i64 o, .int .i64 e, .int .i64 p, .int .i64 q, .slice a ss.length c]] w fun r w' => r = .returned (.tuple #[.string (encS o e p q ss), .bool (Bt.good ⟨o, e, p, q, ss⟩)]) ∧ Below w.heap.size w w' := by
  have hb0 : ∀ x, Below w.heap.size w (w.alloc x) := fun _ => (Below.refl _ _).alloc (Nat.le_refl _) _
  by_cases hg : Bt.good ⟨o, e, p, q, ss⟩ = false
  · have HG : Hid (Bt.good ⟨o, e, p, q, ss⟩ = false) := hg
    clear hg
    go_enter Tryd.func6, Tryd.ntmps6
    go_wp2_with fail
    refine (specGood_any _ _ _ _ _ _ _ _ (hs.below (hb0 _)) hl).mono ?_
    rintro r w1 ⟨hr, hB⟩
    rw [HG.out] at hr
    subst hr
    have HB := (hb0 _).trans (hB.mono (hb0 _).size)
    clear hB
    go_wp2
    go_ret2
    exact ⟨ret_sb (encS_f HG.out).symm HG.out.symm, HB⟩
  · have hg : Bt.good ⟨o, e, p, q, ss⟩ = true := by simpa using hg
    obtain ⟨o, e, p, q, rfl, rfl, rfl, rfl, h1, h2, h3, h4, -, h5, h6⟩ := good_all hg
    have HG : Hid (Bt.good ⟨o, e, p, q, ss⟩ = true) := hg
    have H6 : Hid (∀ s, s ∈ ss → s.size ≤ 20) := h6
    clear hg h6
    go_enter Tryd.func6, Tryd.ntmps6
    go_wp2_with fail
    refine (specGood_any _ _ _ _ _ _ _ _ (hs.below (hb0 _)) hl).mono ?_
    rintro r w1 ⟨hr, hB⟩
    rw [HG.out] at hr
    subst hr
    have HB := (hb0 _).trans (hB.mono (hb0 _).size)
    have hs1 := hs.below HB
    obtain ⟨hc, -⟩ := bcell hB
    simp only [World.size_alloc] at hc
    clear hB
    go_wp2_with fail
    refine (l1Batch_any o e p q ss _ _ _ hs1 h1 h2 h3 h4 h5 H6.out).mono ?_
    rintro r w2 ⟨rfl, hB2⟩
    go_wp2
    go_ret2
    exact ⟨ret_sb (encS_t HG.out).symm HG.out.symm, HB.trans (hB2.mono HB.size)⟩

/-- What sizeOf answers. -/
def recLen (ss : List ByteArray) : Nat := (recBytes ss).length

theorem recLen_succ {ss : List ByteArray} {k : Nat} {s : ByteArray} (h : ss[k]? = some s) : recLen (ss.take (k + 1)) = recLen (ss.take k) + (1 + s.size) := by
  unfold recLen
  rw [recBytes_succ h, List.length_append, List.length_append, be_length]
  rfl

set_option maxHeartbeats 1000000 in
theorem sizeOf_any (o e p q : Int) (ss : List ByteArray) (a : Option Addr) (c : Nat) (w : World) (hs : Strs w a ss) (hl : ss.length ≤ 8) (hr : ∀ s, s ∈ ss → s.size ≤ 20) :
    Calls Tryd.prog 21 #[.agg #[.int .i64 o, .int .i64 e, .int .i64 p, .int .i64 q, .slice a ss.length c]] w fun r w' => r = .returned (.int .i64 ((14 + recLen ss : Nat) : Int)) ∧ Below w.heap.size w w' := by
  have hb0 : ∀ x, Below w.heap.size w (w.alloc x) := fun _ => (Below.refl _ _).alloc (Nat.le_refl _) _
  have hs1 := hs.below (hb0 (.cells #[.int .i64 o, .int .i64 e, .int .i64 p, .int .i64 q, .slice a ss.length c] 28))
  go_enter Tryd.func21, Tryd.ntmps21
  go_wp2
  go_loop [3, 9] (fun v i => ∃ k : Nat, k ≤ ss.length ∧ i = .int .i64 k ∧ ∃ z : Nat, v = .int .i64 z ∧ z = 14 + recLen (ss.take k) ∧ z ≤ 14 + 21 * k) (fun _ i => ss.length - (intOf i).toNat)
  case atStart => exact ⟨0, Nat.zero_le _, rfl, 14, rfl, by simp [recLen, recBytes], by omega⟩
  case round =>
    obtain ⟨k, hk, rfl, z, rfl, hz, hz2⟩ := hrel
    have HZ : Hid (z = 14 + recLen (ss.take k)) := hz
    clear hz
    by_cases hlt : k < ss.length
    · obtain ⟨s, hks⟩ := getAt hlt
      obtain ⟨b, off, rfl, hc, hz'⟩ := hs1 k s hks
      have hz20 := hr s (List.mem_of_getElem? hks)
      have HK : Hid (ss[k]? = some s) := hks
      clear hs1 hs hks hz' hr
      go_wp2
      go_round
      case rel => exact ⟨k + 1, by omega, by go_num, z + (1 + s.size), by go_num, by rw [recLen_succ HK.out, HZ.out]; omega, by omega⟩
      case measure => simp [intOf]; omega
    · obtain rfl : k = ss.length := by omega
      go_wp2
      go_ret
      exact ⟨ret_int (a := (z : Int)) (by have e := HZ.out; rw [List.take_length] at e; omega), hb0 _⟩

theorem owns_below {w w' : World} {B : Nat} {e : TypeId} {size : Nat} {v : Value} {n : Nat} {xs : List Value} (h : w.ownsRow B e size v n xs) (hb : Below w.heap.size w w') : w'.ownsRow B e size v n xs := by
  obtain ⟨h1, h2 | ⟨g, cap, cur, hv, hg, hh, r⟩⟩ := h
  · exact ⟨h1, .inl h2⟩
  · have hlt := (Array.getElem?_eq_some_iff.1 hh).1
    exact ⟨h1, .inr ⟨g, cap, cur, hv, hg, (hb.block g hlt).trans hh, r⟩⟩

/-- string(b) of a row that the call owns. -/
theorem convert_own {w : World} {B : Nat} {v : Value} {l : List UInt8} (h : w.ownsRow B 5 1 v l.length (byteVals l)) :
    (convert 43 9 v).run Tryd.prog w = .ok (.string ⟨l.toArray⟩) w := by
  obtain ⟨h1, ⟨rfl, h0⟩ | ⟨g, cap, cur, rfl, hg, hh, hn, hcap, hcs, ht⟩⟩ := h
  · obtain rfl : l = [] := List.eq_nil_of_length_eq_zero h0
    exact run_convert_bytes_nil w 43 5 Tryd.underlying43 Tryd.underlying5 0 0 9 Tryd.underlying9
  · refine run_convert_bytes_back w 43 9 5 ⟨g, 0, none⟩ cap l Tryd.underlying43 Tryd.underlying5 Tryd.underlying9 (fun j hj => ?_)
    rw [Go.WideShapes.add_plain, Nat.zero_add]
    have e : cur.toList[j]? = some (.int .u8 (l[j].toNat : Int)) := by
      have : (cur.toList.take (l.length * 1))[j]? = (byteVals l)[j]? := by rw [ht]
      rw [List.getElem?_take_of_lt (by omega)] at this
      rw [this]; simp [byteVals, hj]
    simp only [World.cell?, hh]
    simpa using e

end Go.Proofs.YteefmbaehmcibaaDoor
