/-
  Faults as errors: errors.Is of nil and of a lateView, which wraps errLate; after the guide's worked walk of errors.Is. Made by mkcui5.py.
-/
import Derived.Test.YtekjpbfmiebigaaDoorCuI3
import Derived.LaidEql
import Derived.Stop.Asserts
import Derived.RowKitTokens
namespace Go.Proofs.YtekjpbfmiebigaaDoor
open Go.RowKit Go.Extern.Stop Go.Stop Go.Extern

theorem Tryd.isTypeOf (v : Value) (w : World) : (callFunc 60 #[.iface 126 v]).run Tryd.prog w = .ok (.value (.iface 107 (.agg #[.pointer (some ⟨3, 126, none⟩)]))) w := by kernel_rfl
theorem Tryd.isComparable (w : World) : (callFunc 108 #[.agg #[.pointer (some ⟨3, 126, none⟩)]]).run Tryd.prog w = .ok (.value (.bool true)) w := by kernel_rfl
theorem Tryd.isMethodComparable (v : Value) (w : World) : (Go.method 262 107 v "Comparable").run Tryd.prog w = .ok (108, v) w := by kernel_rfl
theorem Tryd.isComp : (Tryd.prog.info? 126).map (·.comparable) = some true := by kernel_rfl
theorem Tryd.isSize : (Tryd.prog.info? 150).map (·.size) = some 1 := by kernel_rfl
theorem Tryd.noIsL (v : Value) (xT : TypeId) (w : World) : (Instr.typeAssert (.iface 97 v) xT 109 true).run Tryd.prog w = .ok (.tuple #[.nilIface, .bool false]) w := run_typeAssert_lacksB Tryd.underlying109 (by kernel_rfl) (by kernel_rfl) v xT w
theorem Tryd.hasUnwrapL (v : Value) (xT : TypeId) (w : World) : (Instr.typeAssert (.iface 97 v) xT 112 true).run Tryd.prog w = .ok (.tuple #[.iface 97 v, .bool true]) w := run_typeAssert_hasB Tryd.underlying112 (by kernel_rfl) v xT w
theorem Tryd.methodUnwrap (v : Value) (w : World) : (Go.method 262 97 v "Unwrap").run Tryd.prog w = .ok (104, v) w := by kernel_rfl

theorem unwrap_c (z : Int) (b : Addr) (w : World) (hg : w.cell? ⟨0, 0, none⟩ = some (.iface 126 (.pointer (some b)))) :
    Calls Tryd.prog 104 #[.agg #[.int .i64 z]] w fun r w' => r = .returned (.iface 126 (.pointer (some b))) ∧ Below w.heap.size w w' := by
  have HB : ∀ o, Below w.heap.size w (w.alloc o) := fun o => (Below.refl _ _).alloc (Nat.le_refl _) o
  have h1 := fun o => celB (HB o) hg
  go_enter Tryd.func104, Tryd.ntmps104
  go_wp2
  go_ret
  exact ⟨rfl, HB _⟩

theorem is_nil (b : Addr) (w : World) :
    Calls Tryd.prog 42 #[.nilIface, .iface 126 (.pointer (some b))] w fun e w' => e = .returned (.bool false) ∧ w' = w := by
  have hn := run_eql_iface_nil_left (P := Tryd.prog) w 126 (.pointer (some b)) Tryd.underlying72
  go_enter Tryd.func42, Tryd.ntmps42
  go_wp2
  go_ret
  exact ⟨rfl, rfl⟩

set_option maxHeartbeats 4000000 in
theorem is_late (z : Int) (b : Addr) (w : World) (hg : w.cell? ⟨0, 0, none⟩ = some (.iface 126 (.pointer (some b)))) :
    Calls Tryd.prog 42 #[.iface 97 (.agg #[.int .i64 z]), .iface 126 (.pointer (some b))] w fun e w' => e = .returned (.bool true) ∧ Below w.heap.size w w' := by
  obtain ⟨i, hi, hcmp⟩ := Option.map_eq_some_iff.1 Tryd.isComp
  obtain ⟨j, hj, hjs⟩ := Option.map_eq_some_iff.1 Tryd.isSize
  have tT := Tryd.isTypeOf
  have cT := Tryd.isComparable
  have mR := Tryd.isMethodComparable
  have nW := Tryd.noIsL
  have uW := Tryd.hasUnwrapL
  have mU := Tryd.methodUnwrap
  have hty := run_eql_iface_types (P := Tryd.prog) 97 126 (.agg #[.int .i64 z]) (.pointer (some b)) Tryd.underlying72 (by decide) w
  have heq := fun w2 : World => run_eql_iface_ptr_same (P := Tryd.prog) w2 b Tryd.underlying72 Tryd.underlying126 hi hcmp hj
  go_enter Tryd.func42, Tryd.ntmps42
  go_wp2
  refine wp_loop_rounds 2 ?_
  rw [rounds_succ]
  go_wp2_with (go_at_call 104; refine (unwrap_c z b _ hg).mono ?_; rintro r w1 ⟨rfl, hB1⟩)
  rw [rounds_succ]
  go_wp2
  go_ret
  exact ⟨rfl, hB1⟩

/-- Two lists alike up to a place. -/
def eqTo (xs ys : List Int) (k : Nat) : Prop := ∀ i, i < k → zA xs i = zA ys i
theorem eq_bad {xs ys : List Int} {k : Nat} (_hk : k < xs.length) (h : ¬ zA xs k = zA ys k) : decide (xs = ys) = false := decide_eq_false fun e => h (by rw [e])
theorem eq_done {xs ys : List Int} (h : xs.length = ys.length) (h2 : eqTo xs ys xs.length) : decide (xs = ys) = true := decide_eq_true (List.ext_getElem h fun i h3 h4 => by
  have := h2 i h3
  simpa [zA, List.getD_eq_getElem?_getD, h3, h4] using this)

set_option maxHeartbeats 2000000 in
theorem equalZ_c (a a2 : Option Addr) (c c2 : Nat) (xs ys : List Int) (b : Bool) (w : World) (hx : Ints w a xs) (he : Ints w a2 ys) (hl : xs.length ≤ maxLen) (h : decide (xs = ys) = b) :
    Calls Tryd.prog 62 #[.slice a xs.length c, .slice a2 ys.length c2] w fun e w' => e = .returned (.bool b) ∧ Below w.heap.size w w' := by
  have HB : Hid (decide (xs = ys) = b) := h
  clear h
  unfold maxLen at hl
  by_cases h0 : xs.length = ys.length
  · have d0 : (((xs.length : Nat) : Int) != ((ys.length : Nat) : Int)) = false := by simp [h0]
    have H0 : Hid (xs.length = ys.length) := h0
    clear h0
    go_enter Tryd.func62, Tryd.ntmps62
    go_wp2
    clear d0
    go_loopw [13] (fun i wr => ∃ k : Nat, k ≤ xs.length ∧ i = .int .i64 k ∧ Hid (eqTo xs ys k) ∧ Below w.heap.size w wr) (fun i _ => xs.length - (intOf i).toNat)
    case atStart => exact ⟨0, Nat.zero_le _, rfl, fun i hi => absurd hi (Nat.not_lt_zero _), Below.refl _ _⟩
    case round =>
      obtain ⟨k, hk, rfl, HO, hB⟩ := hrel
      have BBE := fun q => hB.trans ((below_drewN (Below.refl wr.heap.size wr) q).mono hB.size)
      by_cases hlt : k < xs.length
      · have hlt2 : k < ys.length := by have := H0.out; omega
        obtain ⟨b1, o1, rfl, hc1⟩ := (hx.below hB) k _ (zA_get hlt)
        obtain ⟨b2, o2, rfl, hc2⟩ := (he.below hB) k _ (zA_get hlt2)
        have hki : (k : Int) < (xs.length : Int) := by omega
        have hki2 : (k : Int) < (ys.length : Int) := by omega
        by_cases g : zA xs k = zA ys k
        · have HN : Hid (eqTo xs ys (k + 1)) := fun i hi => by
            rcases Nat.lt_or_eq_of_le (Nat.le_of_lt_succ hi) with h1 | rfl
            · exact HO.out i h1
            · exact g
          have d1 : (zA xs k != zA ys k) = false := by simp [g]
          clear g hx he
          generalize zA xs k = y at *
          generalize zA ys k = z at *
          go_wp2
          go_quiet (fail)
          go_wp2
          go_roundw
          case rel => exact ⟨k + 1, by omega, by go_num, HN.out, BBE _⟩
          case measure => simp [intOf]; omega
        · have HE : Hid (b = false) := by show _ = _; rw [← HB.out]; exact eq_bad hlt g
          have d1 : (zA xs k != zA ys k) = true := by simp [g]
          clear g hx he
          generalize zA xs k = y at *
          generalize zA ys k = z at *
          go_wp2
          go_quiet (fail)
          go_wp2
          go_ret
          exact ⟨ret_bool HE.out.symm, BBE _⟩
      · obtain rfl : k = xs.length := by omega
        have HE : Hid (b = true) := by show _ = _; rw [← HB.out]; exact eq_done H0.out HO.out
        go_wp2
        go_ret
        exact ⟨ret_bool HE.out.symm, hB⟩
  · have d0 : (((xs.length : Nat) : Int) != ((ys.length : Nat) : Int)) = true := by simp; omega
    have HE : Hid (b = false) := by show _ = _; rw [← HB.out]; exact decide_eq_false fun e => h0 (by rw [e])
    clear h0
    go_enter Tryd.func62, Tryd.ntmps62
    go_wp2
    go_ret
    exact ⟨ret_bool HE.out.symm, Below.refl _ _⟩


end Go.Proofs.YtekjpbfmiebigaaDoor
