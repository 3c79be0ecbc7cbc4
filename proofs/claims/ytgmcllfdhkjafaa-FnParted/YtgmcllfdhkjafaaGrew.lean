/-
  The laws' helpers on two logs: laws.sameInts, laws.grewFromOne.
-/
import Derived.Test.YtgmcllfdhkjafaaEpGrew
namespace Go.Proofs.Ytgmcllfdhkjafaa
open Go.RowKit

set_option maxHeartbeats 1000000 in
theorem sameInts_any (a a2 : Option Addr) (c c2 : Nat) (xs ys : List Int) (w : World) (hx : Ints w a xs) (hy : Ints w a2 ys) (hl : xs.length ≤ 1048576) (_hl2 : ys.length ≤ 1048576) :
    Calls Try.prog 12 #[.slice a xs.length c, .slice a2 ys.length c2] w fun e w' => e = .returned (.bool (decide (xs = ys))) ∧ ∃ n, w' = w.drewN n := by
  by_cases hn : xs.length = ys.length
  · have hd : ((xs.length : Int) != (ys.length : Int)) = false := by simp [hn]
    have HN : Hid (xs.length = ys.length) := hn
    clear hn
    go_enter Try.func12, Try.ntmps12
    go_wp2
    go_loopw [13] (fun i wr => ∃ k n : Nat, k ≤ xs.length ∧ i = .int .i64 k ∧ xs.take k = ys.take k ∧ wr = w.drewN n) (fun i _ => xs.length - (intOf i).toNat)
    case atStart => exact ⟨0, 0, Nat.zero_le _, rfl, by simp, rfl⟩
    case round =>
      obtain ⟨k, n, hk, rfl, heq, rfl⟩ := hrel
      have HE : Hid (xs.take k = ys.take k) := heq
      clear heq
      by_cases hlt : k < xs.length
      · have hlt2 : k < ys.length := by have := HN.out; omega
        obtain ⟨b, off, rfl, hc⟩ := hx k _ (zA_get hlt)
        obtain ⟨b2, off2, rfl, hc2⟩ := hy k _ (zA_get hlt2)
        clear hx hy
        by_cases he : zA xs k = zA ys k
        · have hb : (zA xs k != zA ys k) = false := by simp [he]
          have HT : Hid (xs.take (k + 1) = ys.take (k + 1)) := (take_more hlt hlt2 HE.out).2 he
          clear he
          go_wp2
          go_quiet (fail)
          go_wp2
          go_roundw
          case rel => exact ⟨k + 1, n + nq, by omega, by go_num, HT.out, by simp⟩
          case measure => simp [intOf]; omega
        · have hb : (zA xs k != zA ys k) = true := by simp [he]
          have HNE : Hid (zA xs k ≠ zA ys k) := he
          clear he
          go_wp2
          go_quiet (fail)
          go_wp2
          go_ret
          exact ⟨ret_bool (Eq.symm (decide_eq_false fun h => HNE.out (by rw [h]))), n + nq, by simp⟩
      · go_wp2
        go_ret
        refine ⟨ret_bool (Eq.symm (decide_eq_true ?_)), n, rfl⟩
        have h1 := HE.out
        have h2 := HN.out
        rwa [List.take_of_length_le (by omega), List.take_of_length_le (by omega)] at h1
  · have hd : ((xs.length : Int) != (ys.length : Int)) = true := by simp; omega
    go_enter Try.func12, Try.ntmps12
    go_wp2
    go_ret
    exact ⟨ret_bool (by simp; intro h; exact hn (by rw [h])), 0, rfl⟩

/-- The beginnings of two lists. -/
theorem sameTake_any (a a2 : Option Addr) (c c2 i k : Nat) (xs ys : List Int) (w : World) (hx : Ints w a xs) (hy : Ints w a2 ys) (hl : xs.length ≤ 1048576) (hl2 : ys.length ≤ 1048576) (hi : i ≤ xs.length) (hk : k ≤ ys.length) :
    Calls Try.prog 12 #[.slice a i c, .slice a2 k c2] w fun e w' => e = .returned (.bool (decide (xs.take i = ys.take k))) ∧ ∃ n, w' = w.drewN n := by
  have h1 : (xs.take i).length = i := by rw [List.length_take]; omega
  have h2 : (ys.take k).length = k := by rw [List.length_take]; omega
  have tk : ∀ {a : Option Addr} {zs : List Int} (n : Nat), Ints w a zs → Ints w a (zs.take n) := fun n h j z hj => by
    have hlt := (List.getElem?_eq_some_iff.1 hj).1
    rw [List.length_take] at hlt
    rw [List.getElem?_take_of_lt (by omega)] at hj
    exact h j z hj
  have := sameInts_any a a2 c c2 (xs.take i) (ys.take k) w (tk i hx) (tk k hy) (by omega) (by omega)
  rw [h1, h2] at this
  exact this

theorem sameTake_t (a a2 : Option Addr) (c c2 i k : Nat) (xs ys : List Int) (w : World) (h : xs.take i = ys.take k) (hl : xs.length ≤ 1048576) (hl2 : ys.length ≤ 1048576) (hi : i ≤ xs.length) (hk : k ≤ ys.length) (hx : Ints w a xs) (hy : Ints w a2 ys) :
    Calls Try.prog 12 #[.slice a i c, .slice a2 k c2] w fun e w' => e = .returned (.bool true) ∧ ∃ n, w' = w.drewN n :=
  (sameTake_any a a2 c c2 i k xs ys w hx hy hl hl2 hi hk).mono fun e w' ⟨h1, h2⟩ => ⟨h1.trans (by rw [decide_eq_true h]), h2⟩
theorem sameTake_f (a a2 : Option Addr) (c c2 i k : Nat) (xs ys : List Int) (w : World) (h : ¬ xs.take i = ys.take k) (hl : xs.length ≤ 1048576) (hl2 : ys.length ≤ 1048576) (hi : i ≤ xs.length) (hk : k ≤ ys.length) (hx : Ints w a xs) (hy : Ints w a2 ys) :
    Calls Try.prog 12 #[.slice a i c, .slice a2 k c2] w fun e w' => e = .returned (.bool false) ∧ ∃ n, w' = w.drewN n :=
  (sameTake_any a a2 c c2 i k xs ys w hx hy hl hl2 hi hk).mono fun e w' ⟨h1, h2⟩ => ⟨h1.trans (by rw [decide_eq_false h]), h2⟩

theorem Ints.drewN {w : World} {a : Option Addr} {zs : List Int} (h : Ints w a zs) (n : Nat) : Ints (w.drewN n) a zs := fun i z hi => by
  obtain ⟨b, o, e, hc⟩ := h i z hi
  exact ⟨b, o, e, by simpa using hc⟩

theorem quiet_at {P : Program} {f : FuncId} {args : Array Value} {w : World} {c x : Nat} {v : Value} (h : Calls P f args (w.drewN (c + x)) fun e w' => e = .returned v ∧ ∃ n, w' = (w.drewN (c + x)).drewN n) :
    Calls P f args (w.drewN (c + x)) fun e w'' => e = .returned v ∧ ∃ n, w'' = w.drewN (c + n) :=
  h.mono fun _ _ ⟨he, m, hm⟩ => ⟨he, x + m, by rw [hm, World.drewN_drewN, Nat.add_assoc]⟩

def GrAns (w : World) (a b : List Int) (e : Ending) (w' : World) : Prop := ∃ r : Bool, e = .returned (.bool r) ∧ (r = true → Grew a b) ∧ ∃ n, w' = w.drewN n

set_option maxRecDepth 100000 in
set_option maxHeartbeats 4000000 in
theorem grew_any (A B : Option Addr) (CA CB : Nat) (a b : List Int) (w : World) (hA : Ints w A a) (hB : Ints w B b) (nA : a.length ≤ 100) (nB : b.length ≤ 100) (sA : SlOk A a.length CA) (sB : SlOk B b.length CB) :
    Calls Try.prog 15 #[.slice A a.length CA, .slice B b.length CB] w fun e w' => GrAns w a b e w' := by
  go_enter Try.func15, Try.ntmps15
  go_wp2
  go_loopw [9] (fun iv wr => ∃ i n : Nat, i ≤ a.length ∧ iv = .int .i64 (i : Int) ∧ (∀ i', i' < i → GrewAt a b i' b.length) ∧ wr = w.drewN n) (fun iv _ => a.length - (intOf iv).toNat)
  case atStart => exact ⟨0, 0, Nat.zero_le _, rfl, fun i h => absurd h (Nat.not_lt_zero _), rfl⟩
  case round =>
    obtain ⟨i, n, hi, rfl, hg, rfl⟩ := hrel
    have HG : Hid (∀ i', i' < i → GrewAt a b i' b.length) := hg
    clear hg
    by_cases hlt : i < a.length
    · have hiI : (i : Int) < (a.length : Int) := by omega
      obtain ⟨hCA, gA, rfl⟩ : a.length ≤ CA ∧ ∃ g, A = some ⟨g, 0, none⟩ := by
        rcases sA with ⟨-, h, -⟩ | h
        · omega
        · exact h
      have hiC : (i : Int) ≤ (CA : Int) := by omega
      obtain ⟨_, _, e1, ci⟩ := hA i _ (zA_get hlt)
      simp only [Option.some.injEq, Addr.mk.injEq, and_true] at e1
      obtain ⟨rfl, rfl⟩ := e1
      rw [Nat.zero_add] at ci
      by_cases hfirst : i = 0 ∨ zA a (i - 1) ≠ zA a i
      · rcases Nat.eq_zero_or_pos i with h0 | h0
        · have hd : decide ((0 : Int) < (i : Int)) = false := decide_eq_false (by omega)
          have hdb : decide (0 < i) = false := decide_eq_false (by omega)
          have hdc : ¬ 0 < i := by omega
          clear hfirst h0
          go_wp2_with fail
          go_quiet (fail)
          go_wp2_with fail
          go_loopw [28] (fun kv wr => ∃ k m : Nat, k ≤ b.length ∧ kv = .int .i64 (k : Int) ∧ GrewAt a b i k ∧ wr = w.drewN m) (fun kv _ => b.length - (intOf kv).toNat)
          case atStart => exact ⟨0, n + nq, Nat.zero_le _, rfl, fun _ k h => absurd h (Nat.not_lt_zero _), by simp⟩
          case round =>
            obtain ⟨k, m, hk, rfl, hga, rfl⟩ := hrel
            have HGA : Hid (GrewAt a b i k) := hga
            clear hga
            by_cases hkl : k < b.length
            · have hkI : (k : Int) < (b.length : Int) := by omega
              obtain ⟨hCB, gB, rfl⟩ : b.length ≤ CB ∧ ∃ g, B = some ⟨g, 0, none⟩ := by
                rcases sB with ⟨-, h, -⟩ | h
                · omega
                · exact h
              have hkC : (k : Int) ≤ (CB : Int) := by omega
              obtain ⟨_, _, e3, ck⟩ := hB k _ (zA_get hkl)
              simp only [Option.some.injEq, Addr.mk.injEq, and_true] at e3
              obtain ⟨rfl, rfl⟩ := e3
              rw [Nat.zero_add] at ck
              by_cases hne : zA b k = zA a i
              · have hb : (zA b k != zA a i) = false := by simp [hne]
                clear hne
                rcases Nat.eq_zero_or_pos k with k0 | k0
                · have hk0 : decide ((0 : Int) < (k : Int)) = false := decide_eq_false (by omega)
                  have hk0b : decide (0 < k) = false := decide_eq_false (by omega)
                  have hk0c : ¬ 0 < k := by omega
                  clear k0
                  go_wp2_with fail
                  go_quiet (fail)
                  obtain ⟨nq8, hnq8⟩ : ∃ x, x = nq := ⟨_, rfl⟩
                  subst hnq8
                  go_wp2_with fail
                  by_cases hki : k = i
                  · have hkb : ((k : Int) != (i : Int)) = false := by simp [hki]
                    have hkb2 : (k != i) = false := by simp [hki]
                    have hkb3 : (k == i) = true := by simp [hki]
                    have HKI : Hid (k = i) := hki
                    clear hki
                    by_cases hs : a.take i = b.take k
                    · have HS : Hid (a.take i = b.take k) := hs
                      clear hs
                      go_quiet ((go_at_call 12; refine quiet_at (sameTake_t _ _ _ _ i k a b _ HS.out (by omega) (by omega) (by omega) (by omega) ?_ ?_); (repeat (first | exact hA | refine Ints.drewN ?_ _)); (repeat (first | exact hB | refine Ints.drewN ?_ _))))
                      go_wp2
                      go_roundw
                      case rel =>
                        refine ⟨k + 1, m + nq8 + nq, by omega, by go_num, fun hf k' hk' => ?_, by simp [Nat.add_assoc]⟩
                        by_cases e : k' = k
                        · subst e; exact fun _ _ => ⟨HKI.out, HS.out⟩
                        · exact HGA.out hf k' (by omega)
                      case measure => simp [intOf]; omega
                    · have HS : Hid (¬ a.take i = b.take k) := hs
                      clear hs
                      go_quiet ((go_at_call 12; refine quiet_at (sameTake_f _ _ _ _ i k a b _ HS.out (by omega) (by omega) (by omega) (by omega) ?_ ?_); (repeat (first | exact hA | refine Ints.drewN ?_ _)); (repeat (first | exact hB | refine Ints.drewN ?_ _))))
                      go_wp2
                      go_ret
                      exact ⟨false, rfl, (fun h => by cases h), m + (nq8 + nq), by simp [Nat.add_assoc]⟩
                  · have hkb : ((k : Int) != (i : Int)) = true := by simp; omega
                    have hkb2 : (k != i) = true := by simp; omega
                    have hkb3 : (k == i) = false := by simp; omega
                    clear hki
                    go_quiet (fail)
                    go_wp2
                    go_ret
                    exact ⟨false, rfl, (fun h => by cases h), m + (nq8 + nq), by simp [Nat.add_assoc]⟩
                · obtain ⟨j2, hj2⟩ : ∃ j2, k = j2 + 1 := ⟨k - 1, by omega⟩
                  have hk0 : (0 : Int) < (k : Int) := by omega
                  have hkm : (k : Int) - 1 = (j2 : Int) := by omega
                  have hkm2 : k - 1 = j2 := by omega
                  have hj2I : (j2 : Int) < (b.length : Int) := by omega
                  obtain ⟨_, _, e4, cj2⟩ := hB j2 _ (zA_get (by omega))
                  simp only [Option.some.injEq, Addr.mk.injEq, and_true] at e4
                  obtain ⟨rfl, rfl⟩ := e4
                  rw [Nat.zero_add] at cj2
                  clear hj2
                  by_cases hsame : zA b j2 = zA b k
                  · have hsb : (zA b j2 == zA b k) = true := by simp [hsame]
                    have HSM : Hid (¬ (k = 0 ∨ zA b (k - 1) ≠ zA b k)) := by show ¬ _; rw [hkm2]; omega
                    clear hsame
                    go_wp2_with fail
                    go_quiet (fail)
                    go_wp2
                    go_roundw
                    case rel =>
                      refine ⟨k + 1, m + nq, by omega, by go_num, fun hf k' hk' => ?_, by simp⟩
                      by_cases e : k' = k
                      · subst e; exact fun _ h => absurd h HSM.out
                      · exact HGA.out hf k' (by omega)
                    case measure => simp [intOf]; omega
                  · have hsb : (zA b j2 == zA b k) = false := by simp [hsame]
                    clear hsame hkm2
                    go_wp2_with fail
                    go_quiet (fail)
                    obtain ⟨nq8, hnq8⟩ : ∃ x, x = nq := ⟨_, rfl⟩
                    subst hnq8
                    go_wp2_with fail
                    by_cases hki : k = i
                    · have hkb : ((k : Int) != (i : Int)) = false := by simp [hki]
                      have hkb2 : (k != i) = false := by simp [hki]
                      have hkb3 : (k == i) = true := by simp [hki]
                      have HKI : Hid (k = i) := hki
                      clear hki
                      by_cases hs : a.take i = b.take k
                      · have HS : Hid (a.take i = b.take k) := hs
                        clear hs
                        go_quiet ((go_at_call 12; refine quiet_at (sameTake_t _ _ _ _ i k a b _ HS.out (by omega) (by omega) (by omega) (by omega) ?_ ?_); (repeat (first | exact hA | refine Ints.drewN ?_ _)); (repeat (first | exact hB | refine Ints.drewN ?_ _))))
                        go_wp2
                        go_roundw
                        case rel =>
                          refine ⟨k + 1, m + nq8 + nq, by omega, by go_num, fun hf k' hk' => ?_, by simp [Nat.add_assoc]⟩
                          by_cases e : k' = k
                          · subst e; exact fun _ _ => ⟨HKI.out, HS.out⟩
                          · exact HGA.out hf k' (by omega)
                        case measure => simp [intOf]; omega
                      · have HS : Hid (¬ a.take i = b.take k) := hs
                        clear hs
                        go_quiet ((go_at_call 12; refine quiet_at (sameTake_f _ _ _ _ i k a b _ HS.out (by omega) (by omega) (by omega) (by omega) ?_ ?_); (repeat (first | exact hA | refine Ints.drewN ?_ _)); (repeat (first | exact hB | refine Ints.drewN ?_ _))))
                        go_wp2
                        go_ret
                        exact ⟨false, rfl, (fun h => by cases h), m + (nq8 + nq), by simp [Nat.add_assoc]⟩
                    · have hkb : ((k : Int) != (i : Int)) = true := by simp; omega
                      have hkb2 : (k != i) = true := by simp; omega
                      have hkb3 : (k == i) = false := by simp; omega
                      clear hki
                      go_quiet (fail)
                      go_wp2
                      go_ret
                      exact ⟨false, rfl, (fun h => by cases h), m + (nq8 + nq), by simp [Nat.add_assoc]⟩
              · have hb : (zA b k != zA a i) = true := by simp [hne]
                have HNE : Hid (zA b k ≠ zA a i) := hne
                clear hne
                go_wp2_with fail
                go_quiet (fail)
                go_wp2
                go_roundw
                case rel =>
                  refine ⟨k + 1, m + nq, by omega, by go_num, fun hf k' hk' => ?_, by simp⟩
                  by_cases e : k' = k
                  · subst e; exact fun h => absurd h HNE.out
                  · exact HGA.out hf k' (by omega)
                case measure => simp [intOf]; omega
            · obtain rfl : k = b.length := by omega
              go_wp2
              go_roundw
              case rel =>
                refine ⟨i + 1, m, by omega, by go_num, fun i' hi' => ?_, rfl⟩
                by_cases e : i' = i
                · subst e; exact HGA.out
                · exact HG.out i' (by omega)
              case measure => simp [intOf]; omega
        · obtain ⟨j, hj⟩ : ∃ j, i = j + 1 := ⟨i - 1, by omega⟩
          obtain ⟨_, _, e2, cj⟩ := hA j _ (zA_get (by omega))
          simp only [Option.some.injEq, Addr.mk.injEq, and_true] at e2
          obtain ⟨rfl, rfl⟩ := e2
          rw [Nat.zero_add] at cj
          have hz : (0 : Int) < (i : Int) := by omega
          have hj1 : (i : Int) - 1 = (j : Int) := by omega
          have hjI : (j : Int) < (a.length : Int) := by omega
          have hne : (zA a j == zA a i) = false := by
            have := hfirst.resolve_left (by omega)
            rw [show i - 1 = j by omega] at this
            simpa using this
          clear hfirst hj
          go_wp2_with fail
          go_quiet (fail)
          go_wp2_with fail
          clear hne cj hj1
          go_loopw [28] (fun kv wr => ∃ k m : Nat, k ≤ b.length ∧ kv = .int .i64 (k : Int) ∧ GrewAt a b i k ∧ wr = w.drewN m) (fun kv _ => b.length - (intOf kv).toNat)
          case atStart => exact ⟨0, n + nq, Nat.zero_le _, rfl, fun _ k h => absurd h (Nat.not_lt_zero _), by simp⟩
          case round =>
            obtain ⟨k, m, hk, rfl, hga, rfl⟩ := hrel
            have HGA : Hid (GrewAt a b i k) := hga
            clear hga
            by_cases hkl : k < b.length
            · have hkI : (k : Int) < (b.length : Int) := by omega
              obtain ⟨hCB, gB, rfl⟩ : b.length ≤ CB ∧ ∃ g, B = some ⟨g, 0, none⟩ := by
                rcases sB with ⟨-, h, -⟩ | h
                · omega
                · exact h
              have hkC : (k : Int) ≤ (CB : Int) := by omega
              obtain ⟨_, _, e3, ck⟩ := hB k _ (zA_get hkl)
              simp only [Option.some.injEq, Addr.mk.injEq, and_true] at e3
              obtain ⟨rfl, rfl⟩ := e3
              rw [Nat.zero_add] at ck
              by_cases hne : zA b k = zA a i
              · have hb : (zA b k != zA a i) = false := by simp [hne]
                clear hne
                rcases Nat.eq_zero_or_pos k with k0 | k0
                · have hk0 : decide ((0 : Int) < (k : Int)) = false := decide_eq_false (by omega)
                  have hk0b : decide (0 < k) = false := decide_eq_false (by omega)
                  have hk0c : ¬ 0 < k := by omega
                  clear k0
                  go_wp2_with fail
                  go_quiet (fail)
                  obtain ⟨nq8, hnq8⟩ : ∃ x, x = nq := ⟨_, rfl⟩
                  subst hnq8
                  go_wp2_with fail
                  by_cases hki : k = i
                  · have hkb : ((k : Int) != (i : Int)) = false := by simp [hki]
                    have hkb2 : (k != i) = false := by simp [hki]
                    have hkb3 : (k == i) = true := by simp [hki]
                    have HKI : Hid (k = i) := hki
                    clear hki
                    by_cases hs : a.take i = b.take k
                    · have HS : Hid (a.take i = b.take k) := hs
                      clear hs
                      go_quiet ((go_at_call 12; refine quiet_at (sameTake_t _ _ _ _ i k a b _ HS.out (by omega) (by omega) (by omega) (by omega) ?_ ?_); (repeat (first | exact hA | refine Ints.drewN ?_ _)); (repeat (first | exact hB | refine Ints.drewN ?_ _))))
                      go_wp2
                      go_roundw
                      case rel =>
                        refine ⟨k + 1, m + nq8 + nq, by omega, by go_num, fun hf k' hk' => ?_, by simp [Nat.add_assoc]⟩
                        by_cases e : k' = k
                        · subst e; exact fun _ _ => ⟨HKI.out, HS.out⟩
                        · exact HGA.out hf k' (by omega)
                      case measure => simp [intOf]; omega
                    · have HS : Hid (¬ a.take i = b.take k) := hs
                      clear hs
                      go_quiet ((go_at_call 12; refine quiet_at (sameTake_f _ _ _ _ i k a b _ HS.out (by omega) (by omega) (by omega) (by omega) ?_ ?_); (repeat (first | exact hA | refine Ints.drewN ?_ _)); (repeat (first | exact hB | refine Ints.drewN ?_ _))))
                      go_wp2
                      go_ret
                      exact ⟨false, rfl, (fun h => by cases h), m + (nq8 + nq), by simp [Nat.add_assoc]⟩
                  · have hkb : ((k : Int) != (i : Int)) = true := by simp; omega
                    have hkb2 : (k != i) = true := by simp; omega
                    have hkb3 : (k == i) = false := by simp; omega
                    clear hki
                    go_quiet (fail)
                    go_wp2
                    go_ret
                    exact ⟨false, rfl, (fun h => by cases h), m + (nq8 + nq), by simp [Nat.add_assoc]⟩
                · obtain ⟨j2, hj2⟩ : ∃ j2, k = j2 + 1 := ⟨k - 1, by omega⟩
                  have hk0 : (0 : Int) < (k : Int) := by omega
                  have hkm : (k : Int) - 1 = (j2 : Int) := by omega
                  have hkm2 : k - 1 = j2 := by omega
                  have hj2I : (j2 : Int) < (b.length : Int) := by omega
                  obtain ⟨_, _, e4, cj2⟩ := hB j2 _ (zA_get (by omega))
                  simp only [Option.some.injEq, Addr.mk.injEq, and_true] at e4
                  obtain ⟨rfl, rfl⟩ := e4
                  rw [Nat.zero_add] at cj2
                  clear hj2
                  by_cases hsame : zA b j2 = zA b k
                  · have hsb : (zA b j2 == zA b k) = true := by simp [hsame]
                    have HSM : Hid (¬ (k = 0 ∨ zA b (k - 1) ≠ zA b k)) := by show ¬ _; rw [hkm2]; omega
                    clear hsame
                    go_wp2_with fail
                    go_quiet (fail)
                    go_wp2
                    go_roundw
                    case rel =>
                      refine ⟨k + 1, m + nq, by omega, by go_num, fun hf k' hk' => ?_, by simp⟩
                      by_cases e : k' = k
                      · subst e; exact fun _ h => absurd h HSM.out
                      · exact HGA.out hf k' (by omega)
                    case measure => simp [intOf]; omega
                  · have hsb : (zA b j2 == zA b k) = false := by simp [hsame]
                    clear hsame hkm2
                    go_wp2_with fail
                    go_quiet (fail)
                    obtain ⟨nq8, hnq8⟩ : ∃ x, x = nq := ⟨_, rfl⟩
                    subst hnq8
                    go_wp2_with fail
                    by_cases hki : k = i
                    · have hkb : ((k : Int) != (i : Int)) = false := by simp [hki]
                      have hkb2 : (k != i) = false := by simp [hki]
                      have hkb3 : (k == i) = true := by simp [hki]
                      have HKI : Hid (k = i) := hki
                      clear hki
                      by_cases hs : a.take i = b.take k
                      · have HS : Hid (a.take i = b.take k) := hs
                        clear hs
                        go_quiet ((go_at_call 12; refine quiet_at (sameTake_t _ _ _ _ i k a b _ HS.out (by omega) (by omega) (by omega) (by omega) ?_ ?_); (repeat (first | exact hA | refine Ints.drewN ?_ _)); (repeat (first | exact hB | refine Ints.drewN ?_ _))))
                        go_wp2
                        go_roundw
                        case rel =>
                          refine ⟨k + 1, m + nq8 + nq, by omega, by go_num, fun hf k' hk' => ?_, by simp [Nat.add_assoc]⟩
                          by_cases e : k' = k
                          · subst e; exact fun _ _ => ⟨HKI.out, HS.out⟩
                          · exact HGA.out hf k' (by omega)
                        case measure => simp [intOf]; omega
                      · have HS : Hid (¬ a.take i = b.take k) := hs
                        clear hs
                        go_quiet ((go_at_call 12; refine quiet_at (sameTake_f _ _ _ _ i k a b _ HS.out (by omega) (by omega) (by omega) (by omega) ?_ ?_); (repeat (first | exact hA | refine Ints.drewN ?_ _)); (repeat (first | exact hB | refine Ints.drewN ?_ _))))
                        go_wp2
                        go_ret
                        exact ⟨false, rfl, (fun h => by cases h), m + (nq8 + nq), by simp [Nat.add_assoc]⟩
                    · have hkb : ((k : Int) != (i : Int)) = true := by simp; omega
                      have hkb2 : (k != i) = true := by simp; omega
                      have hkb3 : (k == i) = false := by simp; omega
                      clear hki
                      go_quiet (fail)
                      go_wp2
                      go_ret
                      exact ⟨false, rfl, (fun h => by cases h), m + (nq8 + nq), by simp [Nat.add_assoc]⟩
              · have hb : (zA b k != zA a i) = true := by simp [hne]
                have HNE : Hid (zA b k ≠ zA a i) := hne
                clear hne
                go_wp2_with fail
                go_quiet (fail)
                go_wp2
                go_roundw
                case rel =>
                  refine ⟨k + 1, m + nq, by omega, by go_num, fun hf k' hk' => ?_, by simp⟩
                  by_cases e : k' = k
                  · subst e; exact fun h => absurd h HNE.out
                  · exact HGA.out hf k' (by omega)
                case measure => simp [intOf]; omega
            · obtain rfl : k = b.length := by omega
              go_wp2
              go_roundw
              case rel =>
                refine ⟨i + 1, m, by omega, by go_num, fun i' hi' => ?_, rfl⟩
                by_cases e : i' = i
                · subst e; exact HGA.out
                · exact HG.out i' (by omega)
              case measure => simp [intOf]; omega
      · have HN : Hid (∀ m, GrewAt a b i m) := fun m h => absurd h hfirst
        obtain ⟨j, rfl⟩ : ∃ j, i = j + 1 := ⟨i - 1, by omega⟩
        obtain ⟨_, _, e2, cj⟩ := hA j _ (zA_get (by omega))
        simp only [Option.some.injEq, Addr.mk.injEq, and_true] at e2
        obtain ⟨rfl, rfl⟩ := e2
        rw [Nat.zero_add] at cj
        have hz : (0 : Int) < (((j + 1 : Nat) : Int)) := by omega
        have hj1 : ((j + 1 : Nat) : Int) - 1 = (j : Int) := by omega
        have hjI : (j : Int) < (a.length : Int) := by omega
        have heq : (zA a j == zA a (j + 1)) = true := by
          have h : ¬ zA a (j + 1 - 1) ≠ zA a (j + 1) := fun h => hfirst (.inr h)
          rw [Nat.add_sub_cancel] at h
          simp; omega
        clear hfirst hA hB sB
        go_wp2_with fail
        go_quiet (fail)
        go_wp2
        go_roundw
        case rel =>
          refine ⟨j + 1 + 1, n + nq, by omega, by go_num, fun i' hi' => ?_, by simp⟩
          by_cases e : i' = j + 1
          · subst e; exact HN.out _
          · exact HG.out i' (by omega)
        case measure => simp [intOf]; omega
    · go_wp2
      go_ret
      exact ⟨true, rfl, fun _ i hi => HG.out i (by omega), n, rfl⟩

end Go.Proofs.Ytgmcllfdhkjafaa
