/-
  Worlds of chapter 8, the specification's side: spec.l8Marks, spec.l8OnWay, spec.l8Picture.
-/
import Derived.Test.YtaoecafibmfphaaSnI4
namespace Go.Proofs.Ytaoecafibmfphaa
open Go.RowKit

theorem l1In_b (n lo hi : Int) (b : Bool) (w : World) (h : inB n lo hi = b) : Calls Try.prog 37 #[.int .i64 n, .int .i64 lo, .int .i64 hi] w fun e w' => e = .returned (.bool b) ∧ w' = w := by
  rw [← h]; exact l1In_any n lo hi w

set_option maxHeartbeats 1000000 in
theorem l8Marks_any (fr to : Int) (way : List Int) (r2 : Option Addr) (k2 : Nat) (w : World) (h2 : Ints w r2 way) (l2 : way.length ≤ 8) :
    Calls Try.prog 56 #[.agg #[.int .i64 fr, .int .i64 to, .slice r2 way.length k2]] w fun e w' => e = .returned (.int .i64 ((zeros way : Nat) : Int)) ∧ Below w.heap.size w w' := by
  have HB : ∀ x, Below w.heap.size w (w.alloc x) := fun x => alB w x
  have hz : ∀ k, Hid (zerosTo way k ≤ k) := fun k => zerosTo_le way k
  go_enter Try.func56, Try.ntmps56
  go_wp2
  go_loop [3, 9] (fun x y => ∃ k : Nat, k ≤ way.length ∧ x = .int .i64 ((zerosTo way k : Nat) : Int) ∧ y = .int .i64 k) (fun _ y => way.length - (intOf y).toNat)
  case atStart => exact ⟨0, Nat.zero_le _, rfl, rfl⟩
  case round =>
    obtain ⟨k, hk, rfl, rfl⟩ := hrel
    have hzk := (hz k).out
    by_cases hlt : k < way.length
    · obtain ⟨b, off, rfl, hc0⟩ := h2 k _ (zA_get hlt)
      have hc : ∀ x, (w.alloc x).cell? ⟨b, off + k, none⟩ = some (.int .i64 (zA way k)) := fun x => celB (HB x) hc0
      clear h2 hc0
      by_cases e : zA way k = 0
      · have d : (zA way k == 0) = true := by simp [e]
        have HN : Hid (zerosTo way (k + 1) = zerosTo way k + 1) := zerosTo_hit e
        clear e
        go_wp2
        go_round
        case rel => exact ⟨k + 1, by omega, by rw [HN.out]; go_num, by go_num⟩
        case measure => simp [intOf]; omega
      · have d : (zA way k == 0) = false := by simp [e]
        have HN : Hid (zerosTo way (k + 1) = zerosTo way k) := zerosTo_miss e
        clear e
        go_wp2
        go_round
        case rel => exact ⟨k + 1, by omega, by rw [HN.out], by go_num⟩
        case measure => simp [intOf]; omega
    · obtain rfl : k = way.length := by omega
      go_wp2
      go_ret
      exact ⟨rfl, HB _⟩

set_option maxRecDepth 100000 in
set_option maxHeartbeats 2000000 in
theorem l8OnWay_any (s : Sn) (a0 a1 a2 : Option Addr) (c0 c1 c2 : Nat) (w : World) (hs : Chs w a1 s.chs) (hl : s.chs.length ≤ 1000) (ha : waysOk s.chs) :
    Calls Try.prog 57 #[snV s a0 c0 a1 c1 a2 c2] w fun e w' => e = .returned (.int .i64 (onW s.chs)) ∧ Below w.heap.size w w' := by
  have HA : Hid (∀ k, k ≤ s.chs.length → 0 ≤ onTo s.chs k ∧ onTo s.chs k ≤ 8000000) := fun k hk => by
    have := onTo_rg ha k hk
    omega
  have HA2 : Hid (waysOk s.chs) := ha
  clear ha
  go_enter Try.func57, Try.ntmps57
  go_wp2
  go_loopw [3, 11] (fun x y wr => ∃ k : Nat, k ≤ s.chs.length ∧ x = .int .i64 (onTo s.chs k) ∧ y = .int .i64 k ∧ Below w.heap.size w wr) (fun _ y _ => s.chs.length - (intOf y).toNat)
  case atStart => exact ⟨0, Nat.zero_le _, rfl, rfl, alB _ _⟩
  case round =>
    obtain ⟨k, hk, rfl, rfl, hB⟩ := hrel
    by_cases hlt : k < s.chs.length
    · obtain ⟨kb, ob, rfl, r2, k2, d0, d1, d2, q2, m2⟩ := (hs.below hB) k _ (chA_get hlt)
      have h1 := HA.out k hk
      obtain ⟨h2, h3⟩ := HA2.out k hlt
      have HN : Hid (onTo s.chs (k + 1) = onTo s.chs k + sumI (chA s.chs k).way) := rfl
      have HS : Hid (∀ j, j ≤ (chA s.chs k).way.length → 0 ≤ sumTo (chA s.chs k).way j ∧ sumTo (chA s.chs k).way j ≤ 8000) := fun j hj => by
        have := sumTo_rg j (fun i hi => h3 i (by omega)) (by omega)
        omega
      have H3 : Hid (allTo (chA s.chs k).way 1000 (chA s.chs k).way.length) := h3
      have hBn : ∀ o, Below w.heap.size w (wr.alloc o) := fun o => hB.alloc hB.size o
      obtain ⟨b, hb⟩ : ∃ b, chA s.chs k = b := ⟨_, rfl⟩
      rw [hb] at d0 d1 d2 q2 m2 h2 HN HS H3
      clear hs h3 hb
      go_wp2
      go_loopw [3, 18] (fun x y wr' => ∃ j : Nat, j ≤ b.way.length ∧ x = .int .i64 (onTo s.chs k + sumTo b.way j) ∧ y = .int .i64 j ∧ Below wr.heap.size wr wr') (fun _ y _ => b.way.length - (intOf y).toNat)
      case atStart => exact ⟨0, Nat.zero_le _, by simp [sumTo], rfl, alB _ _⟩
      case round =>
        obtain ⟨j, hj, rfl, rfl, hBi⟩ := hrel
        have h4 := HS.out j hj
        by_cases hlt2 : j < b.way.length
        · obtain ⟨b2, o2, rfl, hc⟩ := (q2.below hBi) j _ (zA_get hlt2)
          have h5 := H3.out j hlt2
          have HT : Hid (sumTo b.way (j + 1) = sumTo b.way j + zA b.way j) := rfl
          clear q2
          go_wp2
          go_roundw
          case rel => exact ⟨j + 1, by omega, by rw [HT.out, ← Int.add_assoc], by go_num, hBi⟩
          case measure => simp [intOf]; omega
        · obtain rfl : j = b.way.length := by omega
          go_wp2
          go_roundw
          case rel => exact ⟨k + 1, by omega, by rw [HN.out]; rfl, by go_num, hB.trans (hBi.mono hB.size)⟩
          case measure => simp [intOf]; omega
    · obtain rfl : k = s.chs.length := by omega
      go_wp2
      go_ret
      exact ⟨rfl, hB⟩

/-- What spec.l8Picture asks ahead of its loop, and in it. -/
def headP (p : Pc) (own n : Nat) : Prop := p.ins.length = n ∧ p.cl.length = n ∧ inB p.am 0 1000 = true ∧ (p.tk = false → p.am = 0) ∧ zA p.ins own = 0 ∧ boA p.cl own = p.tk
def inTo (p : Pc) (k : Nat) : Prop := ∀ i, i < k → inB (zA p.ins i) 0 1000000 = true ∧ (p.tk = false → zA p.ins i = 0 ∧ boA p.cl i = false)

theorem inTo_succ {p : Pc} {k : Nat} (h : inTo p k) (h0 : inB (zA p.ins k) 0 1000000 = true ∧ (p.tk = false → zA p.ins k = 0 ∧ boA p.cl k = false)) : inTo p (k + 1) := fun i hi' => by
  by_cases e : i = k
  · subst e; exact h0
  · exact h i (by omega)

theorem goodPc_iff {p : Pc} {own n : Nat} (ho : own < n) : goodPc p own n = true ↔ headP p own n ∧ inTo p p.ins.length := by
  constructor
  · intro h
    obtain ⟨l1, l2⟩ := goodPc_lens h
    unfold goodPc at h
    cases ht : p.tk with
    | true =>
      simp only [ht, if_true, Bool.and_eq_true, decide_eq_true_eq, allW_t] at h
      obtain ⟨-, ⟨⟨h1, h2⟩, h3⟩, h4⟩ := h
      refine ⟨⟨l1, l2, h1, fun e => (by rw [ht] at e; cases e), h3, h4.trans ht.symm⟩, fun i hi => ⟨inB_t.2 (h2 i hi), fun e => (by rw [ht] at e; cases e)⟩⟩
    | false =>
      simp only [ht, Bool.false_eq_true, if_false, Bool.and_eq_true, decide_eq_true_eq, allW_t, Bool.not_eq_true'] at h
      obtain ⟨-, ⟨h1, h2⟩, h3⟩ := h
      have hb : ∀ i, i < p.cl.length → boA p.cl i = false := fun i hi => by
        cases e : boA p.cl i with
        | false => rfl
        | true => rw [has_t hi e] at h3; cases h3
      refine ⟨⟨l1, l2, inB_t.2 (by omega), fun _ => h1, by have := h2 own (by omega); omega, (hb own (by omega)).trans ht.symm⟩, fun i hi => ?_⟩
      have := h2 i hi
      exact ⟨inB_t.2 (by omega), fun _ => ⟨by omega, hb i (by omega)⟩⟩
  · rintro ⟨⟨l1, l2, h1, h2, h3, h4⟩, h5⟩
    unfold goodPc
    cases ht : p.tk with
    | true =>
      simp only [if_true, Bool.and_eq_true, decide_eq_true_eq, allW_t]
      exact ⟨⟨l1, l2⟩, ⟨⟨h1, fun i hi => inB_t.1 (h5 i hi).1⟩, h3⟩, h4.trans ht⟩
    | false =>
      simp only [Bool.false_eq_true, if_false, Bool.and_eq_true, decide_eq_true_eq, allW_t, Bool.not_eq_true']
      refine ⟨⟨l1, l2⟩, ⟨h2 ht, fun i hi => ?_⟩, has_f fun i hi => ?_⟩
      · have := ((h5 i hi).2 ht).1
        omega
      · rw [((h5 i (by omega)).2 ht).2]; simp

theorem goodPc_head {p : Pc} {own n : Nat} (ho : own < n) (h : ¬ headP p own n) : goodPc p own n = false := by
  rw [← Bool.not_eq_true, goodPc_iff ho]; exact fun g => h g.1
theorem goodPc_in {p : Pc} {own n k : Nat} (ho : own < n) (hk : k < p.ins.length) (h : ¬ (inB (zA p.ins k) 0 1000000 = true ∧ (p.tk = false → zA p.ins k = 0 ∧ boA p.cl k = false))) : goodPc p own n = false := by
  rw [← Bool.not_eq_true, goodPc_iff ho]; exact fun g => h (g.2 k hk)

end Go.Proofs.Ytaoecafibmfphaa
