/-
  Good events, the specification's side: the contracts of spec.l7Send, spec.GoodEvents.
-/
import Derived.Test.YtiabgomeogcpnaaDoorEvM
namespace Go.Proofs.YtiabgomeogcpnaaDoor
open Go.RowKit

abbrev evW (e : Ev) : Value := .agg #[.int .i64 e.pr, .int .i64 e.kd, .int .i64 e.ms]

set_option maxHeartbeats 1000000 in
theorem l7Send_any (b off i : Nat) (l : List Ev) (ms : Int) (w : World) (hs : Evs w (some ⟨b, off, none⟩) l) (hi : i ≤ l.length) (hl : l.length ≤ maxLen) {lcap : Nat} (hcap : l.length ≤ lcap := by assumption) :
    Calls Tryd.prog 38 #[.slice (some ⟨b, off, none⟩) l.length lcap, .int .i64 ms, .int .i64 (i : Int)] w fun r w' => r = .returned (.int .i64 (fnd l 2 ms i)) ∧ Below w.heap.size w w' := by
  unfold maxLen at hl
  have hk0 : (0 : Int) ≤ (i : Int) := by omega
  have hk1 : (i : Int) ≤ (l.length : Int) := by omega
  go_enter Tryd.func38, Tryd.ntmps38
  go_wp2
  go_loopw [13] (fun x wr => ∃ k : Nat, k ≤ i ∧ x = .int .i64 k ∧ fnd l 2 ms k = -1 ∧ Below w.heap.size w wr) (fun x _ => i - (intOf x).toNat)
  case atStart => exact ⟨0, Nat.zero_le _, rfl, rfl, Below.refl _ _⟩
  case round =>
    obtain ⟨k, hk, rfl, hf, hB⟩ := hrel
    have HF : Hid (fnd l 2 ms k = -1) := hf
    clear hf
    by_cases hlt : k < i
    · obtain ⟨b', off', e', c0, c1, c2⟩ := (hs.below hB) k _ (evA_get (by omega))
      simp only [Option.some.injEq, Addr.mk.injEq, and_true] at e'
      obtain ⟨rfl, rfl⟩ := e'
      obtain ⟨x, hx⟩ : ∃ x, evA l k = x := ⟨_, rfl⟩
      have HX : Hid (evA l k = x) := hx
      rw [hx] at c0 c1 c2
      clear hx hs
      have hBn : ∀ o, Below w.heap.size w (wr.alloc o) := fun o => hB.alloc hB.size o
      by_cases h1 : x.kd = 2
      · have d1 : (x.kd == 2) = true := by simp [h1]
        by_cases h2 : x.ms = ms
        · have d2 : (x.ms == ms) = true := by simp [h2]
          have HR : Hid (fnd l 2 ms i = k) := fnd_hit HF.out (by rw [HX.out]; exact ⟨h1, h2⟩) hlt
          clear h1 h2
          go_wp2
          go_ret
          exact ⟨ret_int HR.out.symm, hBn _⟩
        · have d2 : (x.ms == ms) = false := by simp [h2]
          have HR : Hid (fnd l 2 ms (k + 1) = -1) := fnd_miss HF.out (by rw [HX.out]; exact fun h => h2 h.2)
          clear h1 h2
          go_wp2
          go_roundw
          case rel => exact ⟨k + 1, by omega, by go_num, HR.out, hBn _⟩
          case measure => simp [intOf]; omega
      · have d1 : (x.kd == 2) = false := by simp [h1]
        have HR : Hid (fnd l 2 ms (k + 1) = -1) := fnd_miss HF.out (by rw [HX.out]; exact fun h => h1 h.1)
        clear h1
        go_wp2
        go_roundw
        case rel => exact ⟨k + 1, by omega, by go_num, HR.out, hBn _⟩
        case measure => simp [intOf]; omega
    · obtain rfl : k = i := by omega
      go_wp2
      go_ret
      exact ⟨ret_int HF.out.symm, hB⟩

theorem eqlEv (x y : Ev) (w : World) : (binOp .eql 58 (evW x) (evW y)).run Tryd.prog w = .ok (.bool (x.pr == y.pr && x.kd == y.kd && x.ms == y.ms)) w := by
  have u3 := Tryd.underlying3
  have a3 := Tryd.isAgg3
  have z3 := Tryd.sizeOf3
  have hS : Tryd.prog.underlying 58 = some (.struct (Tryd.prog.fieldsOf 58)) := by kernel_rfl
  have hp : Tryd.prog.stoodInHeld 58 = false := by kernel_rfl
  rw [run_eql_struct, show (10000 : Nat) = 9999 + 1 from rfl, run_equalIn_agg w 9999 58 _ _ hS hp]
  simp only [Program.fieldsOf, Tryd.underlying58]
  go_simp
  by_cases h1 : x.pr = y.pr <;> by_cases h2 : x.kd = y.kd <;> by_cases h3 : x.ms = y.ms <;> simp [h1, h2, h3]

theorem eqGuardEv : Tryd.prog.eqGuardType Tryd.prog.depth 58 = false := by kernel_rfl

end Go.Proofs.YtiabgomeogcpnaaDoor
