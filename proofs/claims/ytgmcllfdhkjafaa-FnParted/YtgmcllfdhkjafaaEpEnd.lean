/-
  Where an epoch ends: spec.l4End and impl.endUpTo answer the same two numbers, 'endL', at marks whose epochs rise; spec.EndOfEpoch and impl.EndOfEpoch at all marks.
-/
import Derived.Test.YtgmcllfdhkjafaaMkI
namespace Go.Proofs.Ytgmcllfdhkjafaa
open Go.RowKit

def nxt (m : List Mk) (e : Int) (k : Nat) : Int := if k < m.length then (mA m k).st else e
def endF (m : List Mk) (e : Int) (k : Nat) : Int × Int := if k = 0 then (-1, 0) else ((mA m (k - 1)).ep, nxt m e k)
def cutN (m : List Mk) (ep : Int) : Nat := (m.takeWhile fun x => decide (x.ep ≤ ep)).length
def endL (m : List Mk) (e ep : Int) : Int × Int := endF m e (cutN m ep)
def IsCut (m : List Mk) (ep : Int) (k : Nat) : Prop := k ≤ m.length ∧ (∀ i, i < k → (mA m i).ep ≤ ep) ∧ (k < m.length → ep < (mA m k).ep)
def risM (m : List Mk) : Prop := ∀ i j, i < j → j < m.length → (mA m i).ep < (mA m j).ep

theorem cutN_is : ∀ (m : List Mk) (ep : Int), IsCut m ep (cutN m ep)
  | [], ep => ⟨Nat.le_refl _, fun i hi => absurd hi (Nat.not_lt_zero _), fun h => absurd h (Nat.lt_irrefl _)⟩
  | x :: m, ep => by
    have ih := cutN_is m ep
    by_cases h : x.ep ≤ ep
    · have e : cutN (x :: m) ep = cutN m ep + 1 := by simp [cutN, h]
      rw [e]
      refine ⟨by have := ih.1; simp; omega, fun i hi => ?_, fun hl => ?_⟩
      · cases i with
        | zero => exact h
        | succ i => exact ih.2.1 i (by omega)
      · exact ih.2.2 (by simpa using hl)
    · have e : cutN (x :: m) ep = 0 := by simp [cutN, h]
      rw [e]
      exact ⟨Nat.zero_le _, fun i hi => absurd hi (Nat.not_lt_zero _), fun _ => by show ep < x.ep; omega⟩

theorem cut_uniq {m : List Mk} {ep : Int} {k : Nat} (h : IsCut m ep k) : cutN m ep = k := by
  have g := cutN_is m ep
  have h1 : ¬ cutN m ep < k := fun hlt => by
    have := h.2.1 _ hlt
    have := g.2.2 (by have := h.1; omega)
    omega
  have h2 : ¬ k < cutN m ep := fun hlt => by
    have := g.2.1 _ hlt
    have := h.2.2 (by have := g.1; omega)
    omega
  omega

theorem endL_cut {m : List Mk} {e ep : Int} {k : Nat} (h : IsCut m ep k) : endL m e ep = endF m e k := by
  unfold endL; rw [cut_uniq h]

theorem risM_of_ok {m : List Mk} (h : okM m m.length) : risM m := by
  intro i j hij hj
  induction j with
  | zero => omega
  | succ j ih =>
    have hs := (h (j + 1) hj).2.2.2.2 (by omega)
    rw [Nat.add_sub_cancel] at hs
    by_cases e : i = j
    · subst e; exact hs.1
    · have := ih (by omega) (by omega); omega

theorem ret_two {a b c d : Int} (h1 : a = c) (h2 : b = d) : Ending.returned (.tuple #[.int .i64 a, .int .i64 b]) = .returned (.tuple #[.int .i64 c, .int .i64 d]) := by rw [h1, h2]

set_option maxRecDepth 100000 in
set_option maxHeartbeats 1000000 in
theorem specEnd_any (a : Option Addr) (c : Nat) (m : List Mk) (en ep : Int) (w : World) (hs : Mks w a m) (hl : m.length ≤ 1048576) (hr : risM m) :
    Calls Try.prog 39 #[.slice a m.length c, .int .i64 en, .int .i64 ep] w fun e w' => e = .returned (.tuple #[.int .i64 (endL m en ep).1, .int .i64 (endL m en ep).2]) ∧ w' = w := by
  have HR : Hid (risM m) := hr
  clear hr
  go_enter Try.func39, Try.ntmps39
  go_wp2
  go_loop [1, 8] (fun ev i => ∃ (j : Nat) (z : Int), j ≤ m.length ∧ i = .int .i64 ((j : Int) - 1) ∧ ev = .int .i64 z ∧ z = nxt m en j ∧ (∀ q, j ≤ q → q < m.length → ep < (mA m q).ep)) (fun _ i => (intOf i + 1).toNat)
  case atStart => exact ⟨m.length, en, Nat.le_refl _, rfl, rfl, by simp [nxt], fun q h1 h2 => by omega⟩
  case round =>
    obtain ⟨j, z, hj, rfl, rfl, hz, hq⟩ := hrel
    have HZ : Hid (z = nxt m en j) := hz
    have HQ : Hid (∀ q, j ≤ q → q < m.length → ep < (mA m q).ep) := hq
    clear hz hq
    rcases Nat.eq_zero_or_pos j with h0 | h0
    · subst h0
      have HE : Hid (endL m en ep = endF m en 0) := endL_cut ⟨Nat.zero_le _, fun i hi => absurd hi (Nat.not_lt_zero _), fun h => HQ.out 0 (Nat.le_refl _) h⟩
      clear hs
      go_wp2
      go_ret2
      exact ⟨ret_two (by rw [HE.out]; rfl) (by rw [HE.out]; rfl), rfl⟩
    · obtain ⟨k, rfl⟩ : ∃ k, j = k + 1 := ⟨j - 1, by omega⟩
      obtain ⟨b, off, rfl, c0, c1⟩ := hs k _ (mA_get (by omega))
      have hk1 : ((k + 1 : Nat) : Int) - 1 = (k : Int) := by omega
      rw [hk1]
      clear hs hk1
      have hkl : (k : Int) < (m.length : Int) := by omega
      by_cases hle : (mA m k).ep ≤ ep
      · have HE : Hid (endL m en ep = endF m en (k + 1)) := endL_cut ⟨hj, fun i hi => by
          by_cases e : i = k
          · subst e; exact hle
          · have := HR.out i k (by omega) (by omega); omega, fun h => HQ.out (k + 1) (Nat.le_refl _) h⟩
        go_wp2
        go_ret2
        exact ⟨ret_two (by rw [HE.out]; simp [endF]) (by rw [HE.out, HZ.out]; simp [endF]), rfl⟩
      · go_wp2
        go_round
        case rel =>
          refine ⟨k, _, by omega, by go_num, rfl, by unfold nxt; rw [if_pos (by omega)], fun q h1 h2 => ?_⟩
          by_cases e : q = k
          · subst e; omega
          · exact HQ.out q (by omega) h2
        case measure => simp [intOf]

set_option maxRecDepth 100000 in
set_option maxHeartbeats 1000000 in
theorem implEnd_any (a : Option Addr) (c : Nat) (m : List Mk) (en ep : Int) (w : World) (hs : Mks w a m) (hl : m.length ≤ 1048576) :
    Calls Try.prog 30 #[.slice a m.length c, .int .i64 en, .int .i64 ep] w fun e w' => e = .returned (.tuple #[.int .i64 (endL m en ep).1, .int .i64 (endL m en ep).2]) ∧ Below w.heap.size w w' := by
  go_enter Try.func30, Try.ntmps30
  go_wp2
  go_loopw [8, 9, 14] (fun t e i wr => ∃ (k : Nat) (x y : Int), k ≤ m.length ∧ i = .int .i64 (k : Int) ∧ t = .int .i64 x ∧ e = .int .i64 y ∧ (x, y) = endF m en k ∧ (∀ q, q < k → (mA m q).ep ≤ ep) ∧ Below w.heap.size w wr) (fun _ _ i _ => m.length - (intOf i).toNat)
  case atStart => exact ⟨0, -1, 0, Nat.zero_le _, rfl, rfl, rfl, rfl, fun q h => absurd h (Nat.not_lt_zero _), Below.refl _ _⟩
  case round =>
    obtain ⟨k, x, y, hk, rfl, rfl, rfl, hxy, hq, hB⟩ := hrel
    have HXY : Hid ((x, y) = endF m en k) := hxy
    have HQ : Hid (∀ q, q < k → (mA m q).ep ≤ ep) := hq
    clear hxy hq
    by_cases hlt : k < m.length
    · obtain ⟨b, off, rfl, c0, c1⟩ := (hs.below hB) k _ (mA_get hlt)
      have lb := lt_of_cell c0
      have hBn : ∀ o, Below w.heap.size w (wr.alloc o) := fun o => hB.alloc hB.size o
      obtain ⟨u, hu⟩ : ∃ u, mA m k = u := ⟨_, rfl⟩
      have HU : Hid (mA m k = u) := hu
      rw [hu] at c0 c1
      clear hu
      by_cases hle : ep < u.ep
      · have HE : Hid (endL m en ep = endF m en k) := endL_cut ⟨hk, HQ.out, fun _ => by rw [HU.out]; exact hle⟩
        clear hs
        go_wp2
        go_ret2
        exact ⟨ret_two (by rw [HE.out, ← HXY.out]) (by rw [HE.out, ← HXY.out]), hBn _⟩
      · by_cases hlast : k + 1 < m.length
        · obtain ⟨b', off', e', d0, d1⟩ := (hs.below hB) (k + 1) _ (mA_get hlast)
          simp only [Option.some.injEq, Addr.mk.injEq, and_true] at e'
          obtain ⟨rfl, rfl⟩ := e'
          obtain ⟨v, hv⟩ : ∃ v, mA m (k + 1) = v := ⟨_, rfl⟩
          have HV : Hid (mA m (k + 1) = v) := hv
          rw [hv] at d0 d1
          clear hv hs
          have D1 : ∀ o, (wr.alloc o).cell? ⟨b, off + (k + 1) * 2 + 1, none⟩ = some (.int .i64 v.st) := fun o => (World.cell?_alloc_old wr o ⟨b, off + (k + 1) * 2 + 1, none⟩ (by simp; omega)).trans d1
          have hk1 : (k : Int) + 1 < (m.length : Int) := by omega
          go_wp2
          go_roundw
          case rel =>
            refine ⟨k + 1, u.ep, v.st, by omega, by go_num, rfl, rfl, ?_, fun q h => ?_, hBn _⟩
            · unfold endF nxt; rw [if_neg (by omega), if_pos hlast, HV.out, Nat.add_sub_cancel, HU.out]
            · by_cases e : q = k
              · subst e; rw [HU.out]; omega
              · exact HQ.out q (by omega)
          case measure => simp [intOf]; omega
        · have hk1 : ¬ ((k : Int) + 1 < (m.length : Int)) := by omega
          clear hs
          go_wp2
          go_roundw
          case rel =>
            refine ⟨k + 1, u.ep, en, by omega, by go_num, rfl, rfl, ?_, fun q h => ?_, hBn _⟩
            · unfold endF nxt; rw [if_neg (by omega), if_neg hlast, Nat.add_sub_cancel, HU.out]
            · by_cases e : q = k
              · subst e; rw [HU.out]; omega
              · exact HQ.out q (by omega)
          case measure => simp [intOf]; omega
    · obtain rfl : k = m.length := by omega
      have HE : Hid (endL m en ep = endF m en m.length) := endL_cut ⟨hk, HQ.out, fun h => absurd h hlt⟩
      clear hs
      go_wp2
      go_ret2
      exact ⟨ret_two (by rw [HE.out, ← HXY.out]) (by rw [HE.out, ← HXY.out]), hB⟩

end Go.Proofs.Ytgmcllfdhkjafaa
