/-
  Numbers in bytes, the highest first: what spec.l1Bytes makes and what impl.putNumber appends: the same bytes, 'be'.
-/
import Derived.Test.YtopndglgbollfaaDoorStrs
import Derived.Laws.IdiomStrings
import Derived.Laws.Concat
namespace Go.Proofs.YtopndglgbollfaaDoor
open Go.RowKit

def beByte (m n i : Nat) : UInt8 := UInt8.ofNat (n / 256 ^ (m - 1 - i))
def be (m n : Nat) : List UInt8 := (List.range m).map (beByte m n)

theorem be_length (m n : Nat) : (be m n).length = m := by simp [be]

theorem beByte_toNat (m n i : Nat) : (beByte m n i).toNat = n / 256 ^ (m - 1 - i) % 256 := by simp [beByte]

/-- The row while it is filled from behind: r are left. -/
def fillB (m n r i : Nat) : Value := .int .u8 (if r ≤ i then ((beByte m n i).toNat : Int) else 0)

theorem fillB_step {w : World} {b : Nat} {t : TypeId} {m n k : Nat} (h : w.rowIs b t m (fillB m n (k + 1))) : (w.setCell ⟨b, k, none⟩ (.int .u8 ((n / 256 ^ (m - 1 - k) % 256 : Nat) : Int))).rowIs b t m (fillB m n k) := by
  refine (h.set k _).congr fun j _ => ?_
  by_cases e : j = k
  · subst e; simp only [fillB, if_true, Nat.le_refl, beByte_toNat]
  · have : (k ≤ j) = (k + 1 ≤ j) := by simp only [eq_iff_iff]; omega
    simp only [fillB, e, this, if_false]

theorem Tryd.infoByte : (Tryd.prog.info? 5).map (fun i => (i.zero, i.size, i.bytes)) = some (some (.int .u8 0), 1, 1) := by kernel_rfl

theorem wrap_u8_nat (v : Nat) : IntKind.u8.wrap (v : Int) = ((v % 256 : Nat) : Int) := by rw [IntKind.wrap_u8]; omega

theorem pow_step (n m k : Nat) (h : k + 1 ≤ m) : n / 256 ^ (m - 1 - k) / 256 = n / 256 ^ (m - k) := by
  rw [Nat.div_div_eq_div_mul, ← Nat.pow_succ]
  congr 2
  omega

theorem mkStr_eq (l : List UInt8) : (⟨l.toArray⟩ : ByteArray).size = l.length := by simp [ByteArray.size]

set_option maxHeartbeats 1000000 in
theorem l1Bytes_any (n m : Nat) (w : World) (_hn : n ≤ 9223372036854775807) (hm : m ≤ 8) :
    Calls Tryd.prog 54 #[.int .i64 n, .int .i64 m] w fun e w' => e = .returned (.string ⟨(be m n).toArray⟩) ∧ Below w.heap.size w w' := by
  have hmk := run_make_row' (P := Tryd.prog) 86 5 (.int .u8 0) 1 Tryd.underlying86 Tryd.infoByte rfl .i64 .i64 m (by omega) (by omega)
  go_enter Tryd.func54, Tryd.ntmps54
  go_wp2
  have hB : Below w.heap.size w (w.alloc (.cells (madeCells #[Value.int .u8 0] m) 5)) := (Below.refl _ _).alloc (Nat.le_refl _) _
  have hR : (w.alloc (.cells (madeCells #[Value.int .u8 0] m) 5)).rowIs w.heap.size 5 m (fillB m n m) := (World.rowIs_made _ _ _ _).congr (fun j hj => by simp only [fillB]; rw [if_neg (by omega)])
  go_loopw [0, 6] (fun v i wr => ∃ r : Nat, r ≤ m ∧ i = .int .i64 ((r : Int) - 1) ∧ v = .int .i64 ((n / 256 ^ (m - r) : Nat) : Int) ∧ wr.rowIs w.heap.size 5 m (fillB m n r) ∧ Below w.heap.size w wr) (fun _ i _ => (intOf i + 1).toNat)
  case atStart => exact ⟨m, Nat.le_refl _, rfl, by simp, hR, hB⟩
  case round =>
    clear hR hB
    obtain ⟨r, hr, rfl, rfl, hR, hB⟩ := hrel
    cases r with
    | zero =>
      have hcv := run_convert_bytes_back (P := Tryd.prog) wr 86 9 5 ⟨w.heap.size, 0, none⟩ m (be m n) Tryd.underlying86 Tryd.underlying5 Tryd.underlying9 (fun j hj => by
        rw [be_length] at hj
        have := hR.cell hj
        rw [Go.WideShapes.add_plain, Nat.zero_add, this]
        simp [fillB, be])
      rw [be_length] at hcv
      have e : (((0 : Nat) : Int) - 1) = -1 := by omega
      rw [e]
      clear hmk hR
      go_wp2
      go_ret
      exact ⟨rfl, hB⟩
    | succ k =>
      have e : (((k + 1 : Nat) : Int) - 1) = (k : Int) := by omega
      have hlt : k < m := by omega
      have hd := hR.cell hlt
      have hf := hR.frozen k
      have HS := fun (v : Value) (hv : v = .int .u8 ((n / 256 ^ (m - 1 - k) % 256 : Nat) : Int)) => hv ▸ fillB_step hR
      have hp : n / 256 ^ (m - (k + 1)) / 256 = n / 256 ^ (m - k) := by
        have := pow_step n m k hr
        rwa [show m - 1 - k = m - (k + 1) from by omega] at this
      have hle : n / 256 ^ (m - (k + 1)) ≤ n := Nat.div_le_self _ _
      rw [show m - 1 - k = m - (k + 1) from by omega] at HS
      rw [e]
      have HP : Hid (n / 256 ^ (m - (k + 1)) / 256 = n / 256 ^ (m - k)) := hp
      clear hp
      generalize n / 256 ^ (m - (k + 1)) = v at *
      have hw := wrap_u8_nat v
      have hbv : v % 256 < 256 := Nat.mod_lt _ (by omega)
      have HV : Hid (∀ u : Value, u = .int .u8 ((v % 256 : Nat) : Int) → (wr.setCell ⟨w.heap.size, k, none⟩ u).rowIs w.heap.size 5 m (fillB m n k)) := HS
      generalize v % 256 = b at *
      clear HS hmk hR
      go_wp2
      go_roundw
      case rel => exact ⟨k, by omega, rfl, by rw [← HP.out]; go_num, HV.out _ rfl, hB.setCell (Nat.le_refl _) _⟩
      case measure => simp [intOf]

/-- The bytes as cells. -/
def byteVals (l : List UInt8) : List Value := l.map fun b => .int .u8 (b.toNat : Int)

theorem byteVals_append (a b : List UInt8) : byteVals (a ++ b) = byteVals a ++ byteVals b := by simp [byteVals]
theorem byteVals_length (a : List UInt8) : (byteVals a).length = a.length := by simp [byteVals]

theorem be_take_succ (m n j : Nat) (h : j < m) : (be m n).take (j + 1) = (be m n).take j ++ [beByte m n j] := by
  rw [List.take_succ_eq_append_getElem (by simpa [be_length] using h)]
  simp [be]

theorem ownBlock_ge {w : World} {base : Nat} {e : TypeId} {size : Nat} {v : Value} {n : Nat} {xs : List Value} (h : w.ownsRow base e size v n xs) {q : Nat} (hq : v.ownBlock = some q) : base ≤ q := by
  obtain ⟨-, h | ⟨g, cap, cur, rfl, hg, -⟩⟩ := h
  · rw [h.1] at hq; simp [Value.ownBlock] at hq
  · simp [Value.ownBlock] at hq; omega

end Go.Proofs.YtopndglgbollfaaDoor
