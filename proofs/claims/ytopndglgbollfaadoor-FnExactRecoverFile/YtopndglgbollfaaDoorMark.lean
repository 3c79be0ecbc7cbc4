/-
  The marks that the laws put into what was answered: the contract of markText.
-/
import Derived.Test.YtopndglgbollfaaDoorStrs
import Derived.Laws.IdiomStrings
import Derived.Laws.Concat
namespace Go.Proofs.YtopndglgbollfaaDoor
open Go.RowKit

/-- The decimal digits of m ahead of l. -/
def digitsTo (m : Nat) (l : List UInt8) : List UInt8 :=
  if h : m = 0 then l else digitsTo (m / 10) (UInt8.ofNat (48 + m % 10) :: l)
termination_by m
decreasing_by omega

theorem digitsTo_zero (l : List UInt8) : digitsTo 0 l = l := by rw [digitsTo]; simp
theorem digitsTo_pos {m : Nat} (h : 0 < m) (l : List UInt8) : digitsTo m l = digitsTo (m / 10) (UInt8.ofNat (48 + m % 10) :: l) := by
  rw [digitsTo, dif_neg (by omega)]

/-- The mark of k. -/
def markOf (k : Nat) : ByteArray := ⟨(109 :: digitsTo k []).toArray⟩

theorem mkStr_len (l : List UInt8) : (⟨l.toArray⟩ : ByteArray).size = l.length := by simp [ByteArray.size]

theorem mkStr_app (l k : List UInt8) : (⟨l.toArray⟩ : ByteArray) ++ ⟨k.toArray⟩ = ⟨(l ++ k).toArray⟩ := by
  apply Go.WideShapes.bytes_inj
  simp [ByteArray.data_append]

theorem digit_byte (m : Nat) : ((UInt8.ofNat (48 + m % 10)).toNat : Int) = 48 + ((m % 10 : Nat) : Int) := by
  rw [UInt8.toNat_ofNat']; omega

set_option maxRecDepth 100000 in
set_option maxHeartbeats 2000000 in
theorem markText_any (k : Nat) (w : World) (h1 : 1 ≤ k) (h2 : k ≤ 1000000000) :
    Calls Tryd.prog 46 #[.int .i64 k] w fun r w' => r = .returned (.string (markOf k)) ∧ (markOf k).size ≤ 1000000001 ∧ Below w.heap.size w w' := by
  have hk0 : ¬ ((k : Int) ≤ 0) := by omega
  have HK : Hid (digitsTo k [] = digitsTo k []) := rfl
  go_enter Tryd.func46, Tryd.ntmps46
  go_wp2_with fail
  go_loopw [0, 3] (fun c v wr => ∃ (m : Nat) (l : List UInt8), m ≤ 1000000000 ∧ c = .int .i64 (m : Int) ∧ v = .string ⟨l.toArray⟩ ∧ digitsTo k [] = digitsTo m l ∧ l.length + m ≤ k ∧ Below w.heap.size w wr) (fun c _ _ => (intOf c).toNat)
  case atStart => exact ⟨k, [], h2, rfl, rfl, rfl, by simp, Below.refl _ _⟩
  case round =>
    obtain ⟨m, l, hm, rfl, rfl, hd, hlm, hB⟩ := hrel
    have hls : (⟨l.toArray⟩ : ByteArray).size = l.length := mkStr_len l
    by_cases hm0 : 0 < m
    · have HD : Hid (digitsTo k [] = digitsTo (m / 10) (UInt8.ofNat (48 + m % 10) :: l)) := by
        show _ = _
        rw [hd, digitsTo_pos hm0]
      clear hd
      have hcv := run_convert_bytes_back (P := Tryd.prog) (wr.alloc (.cells #[Value.int IntKind.u8 (48 + (m : Int) % 10)] 5)) 86 9 5 ⟨wr.heap.size, 0, none⟩ 1 [UInt8.ofNat (48 + m % 10)] Tryd.underlying86 Tryd.underlying5 Tryd.underlying9 (fun j hj => by
        have hj0 : j = 0 := by simpa using hj
        subst hj0
        have hb := digit_byte m
        have e : (48 + (m : Int) % 10) = ((UInt8.ofNat (48 + m % 10)).toNat : Int) := by rw [hb]; omega
        rw [Go.WideShapes.add_plain, e]
        simp)
      simp only [List.length_singleton] at hcv
      have hs1 : (⟨[UInt8.ofNat (48 + m % 10)].toArray⟩ : ByteArray).size = 1 := mkStr_len _
      have NA : ¬ (9223372036854775807 < (⟨[UInt8.ofNat (48 + m % 10)].toArray⟩ : ByteArray).size + (⟨l.toArray⟩ : ByteArray).size) := by omega
      have hB1 : ∀ o, Below w.heap.size w (wr.alloc o) := fun o => hB.alloc hB.size o
      have HA : Hid ((⟨[UInt8.ofNat (48 + m % 10)].toArray⟩ : ByteArray) ++ ⟨l.toArray⟩ = ⟨(UInt8.ofNat (48 + m % 10) :: l).toArray⟩) := mkStr_app _ _
      generalize hS : (⟨[UInt8.ofNat (48 + m % 10)].toArray⟩ : ByteArray) = S at *
      go_wp2_with fail
      go_roundw
      case rel => exact ⟨m / 10, UInt8.ofNat (48 + m % 10) :: l, by omega, by go_num, by rw [HA.out], HD.out, by rw [List.length_cons]; omega, hB1 _⟩
      case measure => simp [intOf]; omega
    · obtain rfl : m = 0 := by omega
      rw [digitsTo_zero] at hd
      have HD : Hid (digitsTo k [] = l) := hd
      clear hd
      have NA : ¬ (9223372036854775807 < 1 + (⟨l.toArray⟩ : ByteArray).size) := by omega
      go_wp2_with fail
      have e : (⟨#[109]⟩ : ByteArray) ++ ⟨l.toArray⟩ = markOf k := by unfold markOf; rw [HD.out]; exact mkStr_app [109] l
      rw [e]
      go_ret
      exact ⟨rfl, by unfold markOf; rw [HD.out, mkStr_len, List.length_cons]; omega, hB⟩

end Go.Proofs.YtopndglgbollfaaDoor
