/-
  A batch read from its bytes, the program's side: the contracts of impl.wholeSize, impl.readBatch.
-/
import Derived.Test.YtopndglgbollfaaDoorRecs
import Derived.Deep.RegionWith
namespace Go.Proofs.YtopndglgbollfaaDoor
open Go.RowKit

theorem extract_toList (s : ByteArray) (a b : Nat) : (s.extract a b).data.toList = (s.data.toList.drop a).take (b - a) := by rw [extract_eq]

/-- How long the batch says it is. -/
def lenOf (l : List UInt8) : Nat := 2 + val (l.take 2)

theorem lenOf_lt (l : List UInt8) : lenOf l < 65538 := by
  unfold lenOf
  have h := val_lt _ (l.take 2) rfl
  have h2 : (l.take 2).length ≤ 2 := by rw [List.length_take]; omega
  have h3 : 256 ^ (l.take 2).length ≤ 256 ^ 2 := Nat.pow_le_pow_right (by omega) h2
  have h4 : (256 : Nat) ^ 2 = 65536 := rfl
  omega

def wholeOk (l : List UInt8) : Bool := decide (14 ≤ l.length ∧ 14 ≤ lenOf l ∧ lenOf l ≤ l.length ∧ crcOf (l.take (lenOf l - 2)) = val ((l.drop (lenOf l - 2)).take 2))

theorem ret_ib {a b : Int} {x y : Bool} (h : a = b) (g : x = y) : Ending.returned (.tuple #[.int .i64 a, .bool x]) = .returned (.tuple #[.int .i64 b, .bool y]) := by rw [h, g]

set_option maxHeartbeats 2000000 in
theorem wholeSize_any (s : ByteArray) (w : World) (hs : s.size ≤ 600) (hT : TabAt w) :
    Calls Tryd.prog 51 #[.string s] w fun r w' => ∃ z : Int, r = .returned (.tuple #[.int .i64 z, .bool (wholeOk s.data.toList)]) ∧ (wholeOk s.data.toList = true → z = lenOf s.data.toList) ∧ w' = w := by
  by_cases h14 : s.size < 14
  · have HE : Hid (wholeOk s.data.toList = false) := by
      simp only [Hid, wholeOk, decide_eq_false_iff_not, size_len]; omega
    go_enter Tryd.func51, Tryd.ntmps51
    go_wp2
    go_ret2
    exact ⟨0, ret_ib rfl HE.out.symm, (fun h => by rw [HE.out] at h; cases h), rfl⟩
  · have hlt := lenOf_lt s.data.toList
    have hx2 : (s.extract 0 2).size ≤ 3 := by rw [ByteArray.size_extract]; omega
    have HV : Hid (2 + (val (s.extract 0 2).data.toList : Nat) = lenOf s.data.toList) := by
      show _ = _
      rw [extract_toList]; rfl
    by_cases hL : lenOf s.data.toList < 14 ∨ s.size < lenOf s.data.toList
    · have HE : Hid (wholeOk s.data.toList = false) := by
        simp only [Hid, wholeOk, decide_eq_false_iff_not, size_len]; omega
      go_enter Tryd.func51, Tryd.ntmps51
      go_wp2_with fail
      refine (numberIn_any _ _ hx2).mono ?_
      rintro r w1 ⟨rfl, rfl⟩
      have hv := HV.out
      generalize val (s.extract 0 2).data.toList = V at *
      rw [← hv] at hL hlt
      clear hv
      by_cases hL1 : (2 : Int) + V < 14
      · go_wp2
        go_ret2
        exact ⟨0, ret_ib rfl HE.out.symm, (fun h => by rw [HE.out] at h; cases h), rfl⟩
      · have hL2 : (s.size : Int) < 2 + V := by omega
        go_wp2
        go_ret2
        exact ⟨0, ret_ib rfl HE.out.symm, (fun h => by rw [HE.out] at h; cases h), rfl⟩
    · go_enter Tryd.func51, Tryd.ntmps51
      go_wp2_with fail
      refine (numberIn_any _ _ hx2).mono ?_
      rintro r w1 ⟨rfl, rfl⟩
      have hv := HV.out
      generalize val (s.extract 0 2).data.toList = V at *
      generalize hLL : lenOf s.data.toList = L at *
      have hVL : (2 : Int) + V = (L : Int) := by omega
      have hL1 : 14 ≤ L := by omega
      have hL2 : L ≤ s.size := by omega
      have HLL : Hid (lenOf s.data.toList = L) := hLL
      clear hv HV hL hLL
      obtain ⟨K, hK⟩ : ∃ K, L = K + 2 := ⟨L - 2, by omega⟩
      subst hK
      have hk2 : ((K + 2 : Nat) : Int) - 2 = (K : Int) := by omega
      have hxs : (s.extract 0 K).size ≤ 600 := by rw [ByteArray.size_extract]; omega
      have hxe : (s.extract K (K + 2)).size ≤ 3 := by rw [ByteArray.size_extract]; omega
      have hKs : (K : Int) ≤ (s.size : Int) := by omega
      have hKs2 : ((K + 2 : Nat) : Int) ≤ (s.size : Int) := by omega
      go_wp2_with fail
      refine (implSum_any _ _ hxs hT).mono ?_
      rintro r w2 ⟨rfl, rfl⟩
      have HC : Hid (crcOf (s.extract 0 K).data.toList = crcOf (s.data.toList.take K)) := by show _ = _; rw [extract_toList]; simp
      generalize crcOf (s.extract 0 K).data.toList = C at *
      go_wp2_with fail
      refine (numberIn_any _ _ hxe).mono ?_
      rintro r w3 ⟨rfl, rfl⟩
      have HD : Hid (val (s.extract K (K + 2)).data.toList = val ((s.data.toList.drop K).take 2)) := by show _ = _; rw [extract_toList]; simp
      generalize val (s.extract K (K + 2)).data.toList = D at *
      have HW : Hid (wholeOk s.data.toList = decide (C = D)) := by
        show _ = _
        unfold wholeOk
        rw [HLL.out, HC.out, HD.out, size_len]
        simp only [Nat.add_sub_cancel]
        by_cases e : crcOf (s.data.toList.take K) = val ((s.data.toList.drop K).take 2)
        · rw [decide_eq_true ⟨by omega, hL1, hL2, e⟩, decide_eq_true e]
        · rw [decide_eq_false (fun h => e h.2.2.2), decide_eq_false e]
      by_cases hCD : C = D
      · have hb : ((C : Int) == (D : Int)) = true := by simp [hCD]
        have HE : Hid (wholeOk s.data.toList = true) := by show _ = _; rw [HW.out]; exact decide_eq_true hCD
        clear HC HD HW hCD
        go_wp2
        go_ret2
        exact ⟨((K + 2 : Nat) : Int), ret_ib rfl HE.out.symm, (fun _ => by rw [HLL.out]), rfl⟩
      · have hb : ((C : Int) == (D : Int)) = false := by simp; omega
        have HE : Hid (wholeOk s.data.toList = false) := by show _ = _; rw [HW.out]; exact decide_eq_false hCD
        clear HC HD HW hCD
        go_wp2
        go_ret2
        exact ⟨((K + 2 : Nat) : Int), ret_ib rfl HE.out.symm, (fun h => by rw [HE.out] at h; cases h), rfl⟩

end Go.Proofs.YtopndglgbollfaaDoor
