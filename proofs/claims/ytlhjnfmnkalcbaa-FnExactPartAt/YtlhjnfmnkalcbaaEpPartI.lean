/-
  Where two logs part: spec.PartAt and impl.PartAt answer the same number.
-/
import Derived.Test.YtlhjnfmnkalcbaaArrEq
namespace Go.Proofs.Ytlhjnfmnkalcbaa
open Go.RowKit

def comm : List Int → List Int → Nat
  | x :: a, y :: b => if x = y then comm a b + 1 else 0
  | _, _ => 0

def IsPart (a b : List Int) (n : Nat) : Prop := n ≤ a.length ∧ n ≤ b.length ∧ a.take n = b.take n ∧ (n < a.length → n < b.length → zA a n ≠ zA b n)

theorem comm_uniq : ∀ {a b : List Int} {n : Nat}, IsPart a b n → comm a b = n
  | [], b, n, h => by have := h.1; simp at this; subst this; unfold comm; rfl
  | x :: a, [], n, h => by have := h.2.1; simp at this; subst this; unfold comm; rfl
  | x :: a, y :: b, 0, h => by
    have := h.2.2.2 (by simp) (by simp)
    have hne : ¬ x = y := this
    unfold comm; rw [if_neg hne]
  | x :: a, y :: b, n + 1, h => by
    obtain ⟨h1, h2, h3, h4⟩ := h
    simp only [List.take_succ_cons, List.cons.injEq] at h3
    unfold comm; rw [if_pos h3.1]
    have := comm_uniq (a := a) (b := b) (n := n) ⟨by simpa using h1, by simpa using h2, h3.2, fun g1 g2 => h4 (by simpa using g1) (by simpa using g2)⟩
    rw [this]

theorem take_more {a b : List Int} {n : Nat} (h1 : n < a.length) (h2 : n < b.length) (h : a.take n = b.take n) : a.take (n + 1) = b.take (n + 1) ↔ zA a n = zA b n := by
  rw [List.take_add_one, List.take_add_one, zA_get h1, zA_get h2, h]
  simp

def paR (a b : List Int) : Int × Bool := if goodE a && goodE b then ((comm a b : Int), true) else (0, false)
def paV (r : Int × Bool) : Value := .tuple #[.int .i64 r.1, .bool r.2]
theorem paR_yes {a b : List Int} (h1 : goodE a = true) (h2 : goodE b = true) : paR a b = ((comm a b : Int), true) := by unfold paR; rw [h1, h2]; rfl
theorem paR_no {a b : List Int} (h : (goodE a && goodE b) = false) : paR a b = (0, false) := by unfold paR; rw [h]; rfl

theorem ret_pa {a b : Int} {o : Bool} (h : a = b) : Ending.returned (.tuple #[.int .i64 a, .bool o]) = .returned (paV (b, o)) := by rw [h]; rfl

set_option maxRecDepth 100000 in
set_option maxHeartbeats 2000000 in
theorem specPA_any (gA gB : Nat) (a b : List Int) (w : World) (hA : Ints w (some ⟨gA, 0, none⟩) a) (hB : Ints w (some ⟨gB, 0, none⟩) b) (lA : a.length ≤ maxLen) (lB : b.length ≤ maxLen) :
    Calls Try.prog 27 #[.slice (some ⟨gA, 0, none⟩) a.length a.length, .slice (some ⟨gB, 0, none⟩) b.length b.length] w fun e w' => e = .returned (paV (paR a b)) ∧ Below w.heap.size w w' := by
  cases g1 : goodE a with
  | false =>
    rw [paR_no (by rw [g1]; rfl)]
    have GL : Hid (goodE a = false) := g1
    clear g1
    go_enter Try.func27, Try.ntmps27
    go_wp2_with fail
    refine (specGoodE_any _ _ _ _ hA lA).mono ?_
    rintro r w1 ⟨hr, rfl⟩
    rw [GL.out] at hr; subst hr
    go_wp2
    go_ret2
    exact ⟨rfl, Below.refl _ _⟩
  | true =>
  cases g2 : goodE b with
  | false =>
    rw [paR_no (by rw [g1, g2]; rfl)]
    have GL : Hid (goodE a = true) := g1
    have GF : Hid (goodE b = false) := g2
    clear g1 g2
    go_enter Try.func27, Try.ntmps27
    go_wp2_with fail
    refine (specGoodE_any _ _ _ _ hA lA).mono ?_
    rintro r w1 ⟨hr, rfl⟩
    rw [GL.out] at hr; subst hr
    go_wp2_with fail
    refine (specGoodE_any _ _ _ _ hB lB).mono ?_
    rintro r w2 ⟨hr, rfl⟩
    rw [GF.out] at hr; subst hr
    go_wp2
    go_ret2
    exact ⟨rfl, Below.refl _ _⟩
  | true =>
  rw [paR_yes g1 g2]
  have nA := (goodE_t.1 g1).1
  have nB := (goodE_t.1 g2).1
  have GL : Hid (goodE a = true) := g1
  have GF : Hid (goodE b = true) := g2
  clear g1 g2
  go_enter Try.func27, Try.ntmps27
  go_wp2_with fail
  refine (specGoodE_any _ _ _ _ hA lA).mono ?_
  rintro r w1 ⟨hr, hw1⟩
  rw [GL.out] at hr; subst hr
  rw [hw1]
  clear hw1 w1
  go_wp2_with fail
  refine (specGoodE_any _ _ _ _ hB lB).mono ?_
  rintro r w2 ⟨hr, hw2⟩
  rw [GF.out] at hr; subst hr
  rw [hw2]
  clear hw2 w2
  go_wp2
  go_loopw [6] (fun i wr => ∃ n k : Nat, n ≤ a.length ∧ n ≤ b.length ∧ i = .int .i64 (n : Int) ∧ a.take n = b.take n ∧ wr = w.drewN k) (fun i _ => a.length - (intOf i).toNat)
  case atStart => exact ⟨0, 0, Nat.zero_le _, Nat.zero_le _, rfl, rfl, rfl⟩
  case round =>
    obtain ⟨n, k, h1, h2, rfl, heq, rfl⟩ := hrel
    have HE : Hid (a.take n = b.take n) := heq
    clear heq
    by_cases c1 : n < a.length
    · by_cases c2 : n < b.length
      · have d1 : (n : Int) < (a.length : Int) := by omega
        have d2 : (n : Int) < (b.length : Int) := by omega
        obtain ⟨b1, o1, e1, m1⟩ := hA n _ (zA_get c1)
        simp only [Option.some.injEq, Addr.mk.injEq, and_true] at e1
        obtain ⟨rfl, rfl⟩ := e1
        obtain ⟨b2, o2, e2, m2⟩ := hB n _ (zA_get c2)
        simp only [Option.some.injEq, Addr.mk.injEq, and_true] at e2
        obtain ⟨rfl, rfl⟩ := e2
        rw [Nat.zero_add] at m1 m2
        clear hA hB
        by_cases c3 : zA a n = zA b n
        · have HN : Hid (a.take (n + 1) = b.take (n + 1)) := (take_more c1 c2 HE.out).2 c3
          have c3b : (zA a n == zA b n) = true := by simp [c3]
          clear c3
          go_wp2_with fail
          go_quiet (fail)
          go_wp2
          go_roundw
          case rel => exact ⟨n + 1, k + nq, by omega, by omega, by go_num, HN.out, by simp⟩
          case measure => simp [intOf]; omega
        · have HC : Hid (comm a b = n) := comm_uniq ⟨h1, h2, HE.out, fun _ _ => c3⟩
          have c3b : (zA a n == zA b n) = false := by simp [c3]
          clear c3
          go_wp2_with fail
          go_quiet (fail)
          go_wp2
          go_ret2
          exact ⟨ret_pa (by rw [HC.out]), below_drewN (below_drewN (Below.refl _ _) k) nq⟩
      · have HC : Hid (comm a b = n) := comm_uniq ⟨h1, h2, HE.out, fun _ h => absurd h c2⟩
        have d1 : (n : Int) < (a.length : Int) := by omega
        have d2 : decide ((n : Int) < (b.length : Int)) = false := decide_eq_false (by omega)
        clear hA hB
        go_wp2_with fail
        go_quiet (fail)
        go_wp2
        go_ret2
        exact ⟨ret_pa (by rw [HC.out]), below_drewN (below_drewN (Below.refl _ _) k) nq⟩
    · have HC : Hid (comm a b = n) := comm_uniq ⟨h1, h2, HE.out, fun h => absurd h c1⟩
      have d1 : decide ((n : Int) < (a.length : Int)) = false := decide_eq_false (by omega)
      clear hA hB
      go_wp2_with fail
      go_quiet (fail)
      go_wp2
      go_ret2
      exact ⟨ret_pa (by rw [HC.out]), below_drewN (below_drewN (Below.refl _ _) k) nq⟩

set_option maxRecDepth 100000 in
set_option maxHeartbeats 2000000 in
theorem implPA_any (gA gB : Nat) (a b : List Int) (w : World) (hA : Ints w (some ⟨gA, 0, none⟩) a) (hB : Ints w (some ⟨gB, 0, none⟩) b) (lA : a.length ≤ maxLen) (lB : b.length ≤ maxLen) :
    Calls Try.prog 28 #[.slice (some ⟨gA, 0, none⟩) a.length a.length, .slice (some ⟨gB, 0, none⟩) b.length b.length] w fun e w' => e = .returned (paV (paR a b)) ∧ Below w.heap.size w w' := by
  cases g1 : goodE a with
  | false =>
    rw [paR_no (by rw [g1]; rfl)]
    have GL : Hid (goodE a = false) := g1
    clear g1
    go_enter Try.func28, Try.ntmps28
    go_wp2_with fail
    refine (implGoodE_any _ _ _ _ hA lA).mono ?_
    rintro r w1 ⟨hr, rfl⟩
    rw [GL.out] at hr; subst hr
    go_wp2
    go_ret2
    exact ⟨rfl, Below.refl _ _⟩
  | true =>
  cases g2 : goodE b with
  | false =>
    rw [paR_no (by rw [g1, g2]; rfl)]
    have GL : Hid (goodE a = true) := g1
    have GF : Hid (goodE b = false) := g2
    clear g1 g2
    go_enter Try.func28, Try.ntmps28
    go_wp2_with fail
    refine (implGoodE_any _ _ _ _ hA lA).mono ?_
    rintro r w1 ⟨hr, rfl⟩
    rw [GL.out] at hr; subst hr
    go_wp2_with fail
    refine (implGoodE_any _ _ _ _ hB lB).mono ?_
    rintro r w2 ⟨hr, rfl⟩
    rw [GF.out] at hr; subst hr
    go_wp2
    go_ret2
    exact ⟨rfl, Below.refl _ _⟩
  | true =>
  rw [paR_yes g1 g2]
  have nA := (goodE_t.1 g1).1
  have nB := (goodE_t.1 g2).1
  have GL : Hid (goodE a = true) := g1
  have GF : Hid (goodE b = true) := g2
  have hne := begNe_run
  have hgd := begGuard
  clear g1 g2
  go_enter Try.func28, Try.ntmps28
  go_wp2_with fail
  refine (implGoodE_any _ _ _ _ hA lA).mono ?_
  rintro r w1 ⟨hr, hw1⟩
  rw [GL.out] at hr; subst hr
  rw [hw1]
  clear hw1 w1
  go_wp2_with fail
  refine (implGoodE_any _ _ _ _ hB lB).mono ?_
  rintro r w2 ⟨hr, hw2⟩
  rw [GF.out] at hr; subst hr
  rw [hw2]
  clear hw2 w2
  go_wp2_with fail
  all_goals
    go_loopw [6] (fun i wr => ∃ n : Nat, n ≤ a.length ∧ n ≤ b.length ∧ i = .int .i64 (n : Int) ∧ (∀ m, n < m → m ≤ a.length → m ≤ b.length → a.take m ≠ b.take m) ∧ Below w.heap.size w wr) (fun i _ => (intOf i).toNat)
    case atStart => first | exact ⟨a.length, by omega, by omega, rfl, fun m h1 h2 => by omega, Below.refl _ _⟩ | exact ⟨b.length, by omega, by omega, rfl, fun m h1 h2 h3 => by omega, Below.refl _ _⟩
    case round =>
      obtain ⟨n, h1, h2, rfl, hm, BB⟩ := hrel
      have HM : Hid (∀ m, n < m → m ≤ a.length → m ≤ b.length → a.take m ≠ b.take m) := hm
      clear hm
      go_wp2_with fail
      refine (beginning_any _ _ _ _ (hA.below BB) h1 nA).mono ?_
      rintro r w3 ⟨rfl, hB3⟩
      replace BB := BB.trans (hB3.mono BB.size)
      clear hB3
      go_wp2_with fail
      refine (beginning_any _ _ _ _ (hB.below BB) h2 nB).mono ?_
      rintro r w4 ⟨rfl, hB4⟩
      replace BB := BB.trans (hB4.mono BB.size)
      clear hB4
      by_cases he : a.take n = b.take n
      · have hbe : begEq a b n = true := (begEq_iff h1 h2 nA).2 he
        have HC : Hid (comm a b = n) := comm_uniq ⟨h1, h2, he, fun g1 g2 e => HM.out (n + 1) (by omega) (by omega) (by omega) ((take_more g1 g2 he).2 e)⟩
        clear he
        go_wp2
        go_ret2
        exact ⟨ret_pa (by rw [HC.out]), BB⟩
      · have hbe : begEq a b n = false := by
          cases e : begEq a b n with
          | false => rfl
          | true => exact absurd ((begEq_iff h1 h2 nA).1 e) he
        have HN : Hid (a.take n ≠ b.take n) := he
        have hn0 : 0 < n := by
          rcases Nat.eq_zero_or_pos n with h | h
          · subst h; exact absurd rfl he
          · exact h
        clear he
        go_wp2
        go_roundw
        case rel =>
          refine ⟨n - 1, by omega, by omega, by first | go_num | (congr 1; omega), fun m g1 g2 g3 => ?_, BB⟩
          by_cases e : m = n
          · subst e; exact HN.out
          · exact HM.out m (by omega) g2 g3
        case measure => simp [intOf]; omega

end Go.Proofs.Ytlhjnfmnkalcbaa
