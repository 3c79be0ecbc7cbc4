/-
  The drawing of the laws, further: 'pick', 'one', 'among'.
-/
import Derived.Test.YtlinincmlilbjaaDoorCur
namespace Go.Proofs.YtlinincmlilbjaaDoor
open Go.RowKit

/-- A draw: some number below n (0 where n is at most 1). -/
def Drew (w : World) (p : Nat) (a : Option Addr) (bs : List UInt8) (c z : Nat) (w' : World) : Prop :=
  ∃ z', z' ≤ z + 2 ∧ Cur w' p a bs c z' ∧ Far p w w'

set_option maxRecDepth 100000 in
set_option maxHeartbeats 2000000 in
theorem pick_any (p : Nat) (a : Option Addr) (bs : List UInt8) (c z : Nat) (n : Int) (w : World) (h : Cur w p a bs c z) (hz : z ≤ 900000000) :
    Calls Tryd.prog 31 #[.pointer (some ⟨p, 0, none⟩), .int .i64 n] w fun e w' => ∃ v : Nat, e = .returned (.int .i64 (v : Int)) ∧ (v = 0 ∨ (v : Int) < n) ∧ Drew w p a bs c z w' := by
  by_cases h1 : n ≤ 1
  · go_enter Tryd.func31, Tryd.ntmps31
    go_wp2
    go_ret
    exact ⟨0, rfl, .inl rfl, z, by omega, h, Far.refl _ _⟩
  · by_cases h2 : 200 < n
    · go_enter Tryd.func31, Tryd.ntmps31
      go_wp2_with fail
      refine (next_any _ _ _ _ _ _ h (by omega)).mono ?_
      rintro r w1 ⟨x, rfl, hx, k1, f1⟩
      go_wp2_with fail
      refine (next_any _ _ _ _ _ _ k1 (by omega)).mono ?_
      rintro r w2 ⟨y, rfl, hy, k2, f2⟩
      have hn0 : (n == 0) = false := by simp; omega
      obtain ⟨m, rfl⟩ : ∃ m : Nat, n = m := ⟨n.toNat, by omega⟩
      have hm : 0 < m := by omega
      go_wp2
      go_ret
      refine ⟨(x * 256 + y) % m, ?_, .inr (by exact_mod_cast Nat.mod_lt _ hm), z + 1 + 1, by omega, k2, f1.trans f2⟩
      exact ret_int (by first | rfl | simp | push_cast; rfl)
    · go_enter Tryd.func31, Tryd.ntmps31
      go_wp2_with fail
      refine (next_any _ _ _ _ _ _ h (by omega)).mono ?_
      rintro r w1 ⟨x, rfl, hx, k1, f1⟩
      have hn0 : (n == 0) = false := by simp; omega
      obtain ⟨m, rfl⟩ : ∃ m : Nat, n = m := ⟨n.toNat, by omega⟩
      have hm : 0 < m := by omega
      go_wp2
      go_ret
      refine ⟨x % m, ?_, .inr (by exact_mod_cast Nat.mod_lt _ hm), z + 1, by omega, k1, f1⟩
      exact ret_int (by first | rfl | simp | push_cast; rfl)

theorem one_any (p : Nat) (a : Option Addr) (bs : List UInt8) (c z : Nat) (n : Int) (w : World) (h : Cur w p a bs c z) (hz : z ≤ 900000000) :
    Calls Tryd.prog 30 #[.pointer (some ⟨p, 0, none⟩), .int .i64 n] w fun e w' => ∃ b : Bool, e = .returned (.bool b) ∧ Drew w p a bs c z w' := by
  go_enter Tryd.func30, Tryd.ntmps30
  go_wp2_with fail
  refine (pick_any _ _ _ _ _ _ _ h hz).mono ?_
  rintro r w1 ⟨x, rfl, hx, k1⟩
  go_wp2
  go_ret
  exact ⟨_, rfl, k1⟩

theorem Ints.far {w w' : World} {p : Nat} {a : Option Addr} {zs : List Int} (h : Ints w a zs) (hf : Far p w w') (hp : ∀ b, InI a zs.length b → b ≠ p) : Ints w' a zs :=
  h.of_block fun b hi => hf.blk b (h.lt b hi) (hp b hi)

set_option maxRecDepth 100000 in
set_option maxHeartbeats 2000000 in
theorem among_any (p : Nat) (a : Option Addr) (bs : List UInt8) (c z : Nat) (g k : Nat) (zs : List Int) (w : World) (h : Cur w p a bs c z) (hz : z ≤ 900000000) (hs : Ints w (some ⟨g, 0, none⟩) zs) (hg : g ≠ p) (h0 : 0 < zs.length) (hl : zs.length ≤ 1000) :
    Calls Tryd.prog 47 #[.pointer (some ⟨p, 0, none⟩), .slice (some ⟨g, 0, none⟩) zs.length k] w fun e w' => ∃ v : Int, e = .returned (.int .i64 v) ∧ v ∈ zs ∧ Drew w p a bs c z w' := by
  go_enter Tryd.func47, Tryd.ntmps47
  go_wp2_with fail
  refine (pick_any _ _ _ _ _ _ _ h hz).mono ?_
  rintro r w1 ⟨x, rfl, hx, k1⟩
  have hxl : x < zs.length := by omega
  have hxi : (x : Int) < (zs.length : Int) := by omega
  have K1 : Hid (Drew w p a bs c z w1) := k1
  obtain ⟨z', -, -, f1⟩ := k1
  have hs1 := hs.far f1 (fun b ⟨_, o, s, e⟩ => by simp only [Option.some.injEq, Addr.mk.injEq] at e; omega)
  obtain ⟨b, off, e, hc⟩ := hs1 x _ (List.getElem?_eq_getElem hxl)
  simp only [Option.some.injEq, Addr.mk.injEq, and_true] at e
  obtain ⟨rfl, rfl⟩ := e
  rw [Nat.zero_add] at hc
  obtain ⟨y, hy⟩ : ∃ y, zs[x] = y := ⟨_, rfl⟩
  have hmem : y ∈ zs := by rw [← hy]; exact List.getElem_mem hxl
  rw [hy] at hc
  clear hy hs hs1
  go_wp2
  go_ret
  exact ⟨y, rfl, hmem, K1.out⟩

end Go.Proofs.YtlinincmlilbjaaDoor
