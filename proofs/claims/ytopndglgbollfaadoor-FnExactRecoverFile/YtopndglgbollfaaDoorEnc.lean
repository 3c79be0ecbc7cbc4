/-
  A batch's bytes: what spec.l1Batch makes of a good batch.
-/
import Derived.Test.YtopndglgbollfaaDoorBytes
import Derived.Test.YtopndglgbollfaaDoorSum
import Derived.Test.YtopndglgbollfaaDoorBat
import Derived.Deep.RegionHeld3
import Derived.Deep.DrawnRows
namespace Go.Proofs.YtopndglgbollfaaDoor
open Go.RowKit

/-- One text behind another, as lists of bytes. -/
def recBytes (ss : List ByteArray) : List UInt8 := ss.flatMap fun s => be 1 s.size ++ s.data.toList
def bodyOf (o e p q : Nat) (ss : List ByteArray) : List UInt8 := be 3 o ++ be 2 e ++ be 2 p ++ be 2 q ++ be 1 ss.length ++ recBytes ss
def frontOf (o e p q : Nat) (ss : List ByteArray) : List UInt8 := be 2 ((bodyOf o e p q ss).length + 2) ++ bodyOf o e p q ss
def bytesOf (o e p q : Nat) (ss : List ByteArray) : List UInt8 := frontOf o e p q ss ++ be 2 (crcOf (frontOf o e p q ss))

/-- A text whose bytes are these. -/
def Is (s : ByteArray) (l : List UInt8) : Prop := s.data.toList = l
theorem Is.size {s : ByteArray} {l : List UInt8} (h : Is s l) : s.size = l.length := by rw [← h]; rfl
theorem Is.append {s t : ByteArray} {l k : List UInt8} (h : Is s l) (g : Is t k) : Is (s ++ t) (l ++ k) := by
  unfold Is at *; rw [← h, ← g]; simp [ByteArray.data_append]
theorem Is.mk (l : List UInt8) : Is ⟨l.toArray⟩ l := by simp [Is]

theorem l1Bytes_is (n m : Nat) (M : Int) (hM : M = m) (w : World) (hn : n ≤ 9223372036854775807) (hm : m ≤ 8) :
    Calls Tryd.prog 54 #[.int .i64 n, .int .i64 M] w fun e w' => ∃ s : ByteArray, e = .returned (.string s) ∧ Hid (Is s (be m n)) ∧ s.size ≤ 8 ∧ Below w.heap.size w w' := by
  subst hM
  refine (l1Bytes_any n m w hn hm).mono ?_
  rintro e w' ⟨rfl, hB⟩
  exact ⟨_, rfl, Is.mk _, by rw [(Is.mk _).size, be_length]; exact hm, hB⟩

theorem box_keep {W w1 : World} {N : Nat} {v0 v1 v2 v3 v4 : Value} (hB : Below W.heap.size W w1)
    (h : W.cell? ⟨N, 0, none⟩ = some v0 ∧ W.cell? ⟨N, 1, none⟩ = some v1 ∧ W.cell? ⟨N, 2, none⟩ = some v2 ∧ W.cell? ⟨N, 3, none⟩ = some v3 ∧ W.cell? ⟨N, 4, none⟩ = some v4) :
    w1.cell? ⟨N, 0, none⟩ = some v0 ∧ w1.cell? ⟨N, 1, none⟩ = some v1 ∧ w1.cell? ⟨N, 2, none⟩ = some v2 ∧ w1.cell? ⟨N, 3, none⟩ = some v3 ∧ w1.cell? ⟨N, 4, none⟩ = some v4 := by
  have lt := lt_of_cell h.1
  obtain ⟨hc, -⟩ := bcell hB
  exact ⟨(hc _ _ lt).trans h.1, (hc _ _ lt).trans h.2.1, (hc _ _ lt).trans h.2.2.1, (hc _ _ lt).trans h.2.2.2.1, (hc _ _ lt).trans h.2.2.2.2⟩

theorem recBytes_succ {ss : List ByteArray} {k : Nat} {s : ByteArray} (h : ss[k]? = some s) : recBytes (ss.take (k + 1)) = recBytes (ss.take k) ++ (be 1 s.size ++ s.data.toList) := by
  rw [take_snoc h]; simp [recBytes]

theorem ret_str {a b : ByteArray} (h : a = b) : Ending.returned (.string a) = .returned (.string b) := by rw [h]

theorem str_of_is {s : ByteArray} {l : List UInt8} (h : Is s l) : s = ⟨l.toArray⟩ := Go.WideShapes.bytes_inj (by rw [h])

attribute [local go_sem ↓] Go.wp_at_zero Go.wp_at_succ

set_option maxRecDepth 100000 in
set_option maxHeartbeats 4000000 in
theorem l1Batch_any (o e p q : Nat) (ss : List ByteArray) (a : Option Addr) (c : Nat) (w : World) (hs : Strs w a ss) (ho : o ≤ 100000) (he : e ≤ 1000) (hp : p ≤ 65535) (hq : q ≤ 65535) (hl : ss.length ≤ 8) (hr : ∀ s, s ∈ ss → s.size ≤ 20) :
    Calls Tryd.prog 50 #[.agg #[.int .i64 o, .int .i64 e, .int .i64 p, .int .i64 q, .slice a ss.length c]] w fun r w' => r = .returned (.string ⟨(bytesOf o e p q ss).toArray⟩) ∧ Below w.heap.size w w' := by
  go_enter Tryd.func50, Tryd.ntmps50
  go_wp2
  have hb0 : Below w.heap.size w (w.alloc (.cells #[.int .i64 o, .int .i64 e, .int .i64 p, .int .i64 q, .slice a ss.length c] 60)) := (Below.refl _ _).alloc (Nat.le_refl _) _
  go_region_held3 (fun w' => w'.cell? ⟨w.heap.size, 0, none⟩ = some (.int .i64 o) ∧ w'.cell? ⟨w.heap.size, 1, none⟩ = some (.int .i64 e) ∧ w'.cell? ⟨w.heap.size, 2, none⟩ = some (.int .i64 p) ∧ w'.cell? ⟨w.heap.size, 3, none⟩ = some (.int .i64 q) ∧ w'.cell? ⟨w.heap.size, 4, none⟩ = some (.slice a ss.length c))
    (first | exact kk | go_keep)
    (first
      | (go_at_call_of 54 (Value.int IntKind.i64 (o : Int)); refine (l1Bytes_is _ 3 3 rfl _ (by omega) (by omega)).mono ?_; rintro r w1 ⟨s1, rfl, H1, z1, hB1⟩; have kk := box_keep (N := w.heap.size) (v0 := .int .i64 o) (v1 := .int .i64 e) (v2 := .int .i64 p) (v3 := .int .i64 q) (v4 := .slice a ss.length c) hB1 (by first | exact kk | simp))
      | (go_at_call_of 54 (Value.int IntKind.i64 (e : Int)); refine (l1Bytes_is _ 2 2 rfl _ (by omega) (by omega)).mono ?_; rintro r w2 ⟨s2, rfl, H2, z2, hB2⟩; have kk := box_keep (N := w.heap.size) (v0 := .int .i64 o) (v1 := .int .i64 e) (v2 := .int .i64 p) (v3 := .int .i64 q) (v4 := .slice a ss.length c) hB2 (by first | exact kk | simp); have N2 : ¬ (9223372036854775807 < s1.size + s2.size) := by omega)
      | (go_at_call_of 54 (Value.int IntKind.i64 (p : Int)); refine (l1Bytes_is _ 2 2 rfl _ (by omega) (by omega)).mono ?_; rintro r w3 ⟨s3, rfl, H3, z3, hB3⟩; have kk := box_keep (N := w.heap.size) (v0 := .int .i64 o) (v1 := .int .i64 e) (v2 := .int .i64 p) (v3 := .int .i64 q) (v4 := .slice a ss.length c) hB3 (by first | exact kk | simp); have N3 : ¬ (9223372036854775807 < s1.size + s2.size + s3.size) := by omega)
      | (go_at_call_of 54 (Value.int IntKind.i64 (q : Int)); refine (l1Bytes_is _ 2 2 rfl _ (by omega) (by omega)).mono ?_; rintro r w4 ⟨s4, rfl, H4, z4, hB4⟩; have kk := box_keep (N := w.heap.size) (v0 := .int .i64 o) (v1 := .int .i64 e) (v2 := .int .i64 p) (v3 := .int .i64 q) (v4 := .slice a ss.length c) hB4 (by first | exact kk | simp); have N4 : ¬ (9223372036854775807 < s1.size + s2.size + s3.size + s4.size) := by omega)
      | (go_at_call_of 54 (Value.int IntKind.i64 (ss.length : Int)); refine (l1Bytes_is _ 1 1 rfl _ (by omega) (by omega)).mono ?_; rintro r w5 ⟨s5, rfl, H5, z5, hB5⟩; have kk := box_keep (N := w.heap.size) (v0 := .int .i64 o) (v1 := .int .i64 e) (v2 := .int .i64 p) (v3 := .int .i64 q) (v4 := .slice a ss.length c) hB5 (by first | exact kk | simp); have N5 : ¬ (9223372036854775807 < s1.size + s2.size + s3.size + s4.size + s5.size) := by omega))
  have HI : Hid (Is (s1 ++ s2 ++ s3 ++ s4 ++ s5) (be 3 o ++ be 2 e ++ be 2 p ++ be 2 q ++ be 1 ss.length)) := (((H1.out.append H2.out).append H3.out).append H4.out).append H5.out
  have hst : (s1 ++ s2 ++ s3 ++ s4 ++ s5).size ≤ 40 := by simp only [ByteArray.size_append]; omega
  have hBB : Below w.heap.size w w5 := by
    have t0 : Below w.heap.size w (w.alloc (.cells #[.int .i64 o, .int .i64 e, .int .i64 p, .int .i64 q, .slice a ss.length c] 60)).drew := hb0.drew
    have t1 := t0.trans (hB1.mono t0.size)
    have t2 := t1.trans (hB2.mono t1.size)
    have t3 := t2.trans (hB3.mono t2.size)
    have t4 := t3.trans (hB4.mono t3.size)
    exact t4.trans (hB5.mono t4.size)
  obtain ⟨-, -, -, -, k4⟩ := kk
  clear kk N2 N3 N4 N5 H1 H2 H3 H4 H5 z1 z2 z3 z4 z5 hB1 hB2 hB3 hB4 hB5 hb0
  generalize s1 ++ s2 ++ s3 ++ s4 ++ s5 = t0 at *
  go_wp2
  go_loopw [3, 29] (fun v i wr => ∃ k : Nat, k ≤ ss.length ∧ i = .int .i64 k ∧ ∃ t : ByteArray, v = .string t ∧ t.size ≤ 40 + 28 * k ∧ Is t (be 3 o ++ be 2 e ++ be 2 p ++ be 2 q ++ be 1 ss.length ++ recBytes (ss.take k)) ∧ Below w.heap.size w wr) (fun _ i _ => ss.length - (intOf i).toNat)
  case atStart => exact ⟨0, Nat.zero_le _, rfl, t0, rfl, hst, by simpa [recBytes] using HI.out, hBB⟩
  case round =>
    clear HI hst hBB k4
    obtain ⟨k, hk, rfl, t, rfl, hts, hIs, hB⟩ := hrel
    have HI : Hid (Is t (be 3 o ++ be 2 e ++ be 2 p ++ be 2 q ++ be 1 ss.length ++ recBytes (ss.take k))) := hIs
    clear hIs
    by_cases hlt : k < ss.length
    · obtain ⟨s, hks⟩ := getAt hlt
      obtain ⟨b, off, rfl, hc, hz⟩ := (hs.below hB) k s hks
      have hz20 := hr s (List.mem_of_getElem? hks)
      have HK : Hid (ss[k]? = some s) := hks
      clear hs hks hz hr
      go_wp2_with fail
      refine (l1Bytes_is _ 1 1 rfl _ (by omega) (by omega)).mono ?_
      rintro r w1 ⟨u, rfl, HU, zu, hB1⟩
      have hBn := hB.trans (hB1.mono hB.size)
      have NA : ¬ (9223372036854775807 < u.size + s.size) := by omega
      have NB : ¬ (9223372036854775807 < t.size + (u.size + s.size)) := by omega
      clear hB hB1
      go_wp2
      go_roundw
      case rel =>
        refine ⟨k + 1, by omega, by go_num, _, rfl, by simp only [ByteArray.size_append]; omega, ?_, hBn⟩
        rw [recBytes_succ HK.out, ← List.append_assoc]
        exact HI.out.append (HU.out.append rfl)
      case measure => simp [intOf]; omega
    · obtain rfl : k = ss.length := by omega
      rw [List.take_length] at HI
      clear hs hr
      go_wp2_with fail
      rw [show ((t.size : Int) + 2) = ((t.size + 2 : Nat) : Int) from by simp]
      refine (l1Bytes_is _ 2 2 rfl _ (by omega) (by omega)).mono ?_
      rintro r w1 ⟨u, rfl, HU, zu, hB1⟩
      have hBn := hB.trans (hB1.mono hB.size)
      have NA : ¬ (9223372036854775807 < u.size + t.size) := by omega
      have HF : Hid (Is (u ++ t) (frontOf o e p q ss)) := by
        have h := HU.out.append HI.out
        rw [HI.out.size] at h
        exact h
      have hfs : (u ++ t).size ≤ 600 := by simp only [ByteArray.size_append]; omega
      clear hB hB1
      go_wp2_with fail
      generalize u ++ t = f at *
      refine (specSum_any f _ hfs).mono ?_
      rintro r w2 ⟨rfl, rfl⟩
      have hcl := crcOf_lt f.data.toList
      have HC : Hid (crcOf f.data.toList = crcOf (frontOf o e p q ss)) := by rw [HF.out]; rfl
      generalize crcOf f.data.toList = cr at *
      go_wp2_with fail
      refine (l1Bytes_is _ 2 2 rfl _ (by omega) (by omega)).mono ?_
      rintro r w3 ⟨v, rfl, HV, zv, hB3⟩
      have NB : ¬ (9223372036854775807 < f.size + v.size) := by omega
      have HE : Hid (Is (f ++ v) (bytesOf o e p q ss)) := by
        have h := HF.out.append HV.out
        rw [HC.out] at h
        exact h
      clear HU HI HF HV HC hcl
      go_wp2
      go_ret
      exact ⟨ret_str (str_of_is HE.out), hBn.trans (hB3.mono hBn.size)⟩

end Go.Proofs.YtopndglgbollfaaDoor
