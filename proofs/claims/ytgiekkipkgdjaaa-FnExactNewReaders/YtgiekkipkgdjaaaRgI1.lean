/-
  Groups that read, the program's side: what is asked of numbers and lists.
-/
import Derived.Test.YtgiekkipkgdjaaaRgIM
import Derived.Test.YtgiekkipkgdjaaaQImpl
import Derived.Test.YtgiekkipkgdjaaaVot
import Derived.Deep.RegionHeld3
import Derived.WalkMore
import Derived.Handy
namespace Go.Proofs.Ytgiekkipkgdjaaa
open Go.RowKit

theorem within_c (n hi : Int) (b : Bool) (w : World) (h : inB n 0 hi = b) : Calls Try.prog 53 #[.int .i64 n, .int .i64 hi] w fun e w' => e = .returned (.bool b) ∧ w' = w := by
  rw [← h]; exact within_any n hi w

theorem oneUpTo_c (n hi : Int) (b : Bool) (w : World) (h : inB n 1 hi = b) : Calls Try.prog 42 #[.int .i64 n, .int .i64 hi] w fun e w' => e = .returned (.bool b) ∧ w' = w := by
  rw [← h]; exact oneUpTo_any n hi w

theorem has_no {zs : List Int} {x : Int} (h : allTo (fun z => !(z == x)) zs zs.length) : zs.contains x = false := by
  rw [Bool.eq_false_iff]
  intro hc
  rw [List.contains_iff_mem] at hc
  obtain ⟨i, hi⟩ := List.getElem?_of_mem hc
  have hl : i < zs.length := by
    by_cases hl : i < zs.length
    · exact hl
    · rw [List.getElem?_eq_none (by omega)] at hi; cases hi
  have := h i x hl hi
  simp at this

set_option maxRecDepth 100000 in
set_option maxHeartbeats 4000000 in
theorem indexZ_any (a : Option Addr) (c : Nat) (zs : List Int) (x : Int) (w : World) (hs : Ints w a zs) (hl : zs.length ≤ maxLen) :
    Calls Try.prog 84 #[.slice a zs.length c, .int .i64 x] w fun r w' => (∃ z : Int, r = .returned (.int .i64 z) ∧ (0 ≤ z ↔ x ∈ zs)) ∧ w' = w := by
  unfold maxLen at hl
  go_enter Try.func84, Try.ntmps84
  go_wp2
  go_loop [8] (fun i => ∃ k : Nat, k ≤ zs.length ∧ i = .int .i64 k ∧ Hid (allTo (fun z => !(z == x)) zs k)) (fun i => zs.length - (intOf i).toNat)
  case atStart => exact ⟨0, Nat.zero_le _, rfl, allTo_zero _ _⟩
  case round =>
    obtain ⟨k, hk, rfl, HO⟩ := hrel
    by_cases hlt : k < zs.length
    · obtain ⟨b, off, rfl, hc⟩ := hs k _ (zA_get hlt)
      have HK : Hid (zs[k]? = some (zA zs k)) := zA_get hlt
      have hki : (k : Int) < (zs.length : Int) := by omega
      clear hs
      generalize zA zs k = y at *
      cases d : (x == y) with
      | true =>
        have HE : Hid (x ∈ zs) := by show _ ∈ _; rw [beq_iff_eq.1 d]; exact List.mem_of_getElem? HK.out
        go_wp2
        go_ret
        exact ⟨⟨_, rfl, ⟨fun _ => HE.out, fun _ => by omega⟩⟩, rfl⟩
      | false =>
        have HN : Hid (allTo (fun z => !(z == x)) zs (k + 1)) := allTo_succ HO.out HK.out (by rw [BEq.comm, d]; rfl)
        go_wp2
        go_round
        case rel => exact ⟨k + 1, by omega, by go_num, HN.out⟩
        case measure => simp [intOf]; omega
    · obtain rfl : k = zs.length := by omega
      have HE : Hid (¬ x ∈ zs) := fun h => by have := has_no HO.out; rw [List.contains_iff_mem.2 h] at this; cases this
      go_wp2
      go_ret
      exact ⟨⟨_, rfl, ⟨fun h => absurd h (by omega), fun h => absurd h HE.out⟩⟩, rfl⟩

theorem containsZ_any (a : Option Addr) (c : Nat) (zs : List Int) (x : Int) (w : World) (hs : Ints w a zs) (hl : zs.length ≤ maxLen) (hb : Bool) (hbe : zs.contains x = hb) :
    Calls Try.prog 69 #[.slice a zs.length c, .int .i64 x] w fun e w' => e = .returned (.bool hb) ∧ w' = w := by
  go_enter Try.func69, Try.ntmps69
  go_wp2_with fail
  refine (indexZ_any _ _ _ _ _ hs hl).mono ?_
  rintro r w1 ⟨⟨z, rfl, hz⟩, rfl⟩
  cases hb with
  | true =>
    have h0 := hz.2 (List.contains_iff_mem.1 hbe)
    clear hz hbe
    go_wp2
    go_ret
    exact ⟨rfl, rfl⟩
  | false =>
    have h0 : z < 0 := by
      by_cases h : 0 ≤ z
      · have := List.contains_iff_mem.2 (hz.1 h); rw [hbe] at this; cases this
      · omega
    clear hz hbe
    go_wp2
    go_ret
    exact ⟨ret_bool (by first | rfl | (simp; omega)), rfl⟩

theorem only_z (z : Int) (m : Nat) (hm : m < 7) (h : z = m) (w : World) : Calls Try.prog 79 #[.int .i64 z] w fun r w' => r = .returned (setV (2 ^ m)) ∧ Below w.heap.size w w' := by
  subst h; exact only_any m hm w
theorem meets_c (x y : Nat) (hx : x < 128) (hy : y < 128) (b : Bool) (w : World) (h : (x &&& y != 0) = b) :
    Calls Try.prog 78 #[setV x, setV y] w fun r w' => r = .returned (.bool b) ∧ Below w.heap.size w w' := by
  rw [← h]; exact meets_any x y hx hy w
theorem setFrom_c (a : Option Addr) (c : Nat) (zs : List Int) (many : Int) (b : Bool) (w : World) (hs : Ints w a zs) (hl : zs.length ≤ maxLen) (hm : many ≤ 7) (h : riseB zs many = b) :
    Calls Try.prog 77 #[.slice a zs.length c, .int .i64 many] w fun r w' => r = .returned (.tuple #[setV (setR zs many), .bool b]) ∧ Below w.heap.size w w' := by
  rw [← h]; exact setFrom_any a c zs many w hs hl hm
theorem mem7_one : ∀ f, f < 7 → mem7 (2 ^ f) = [f] := by decide +kernel
theorem meets_has {zs : List Int} {many : Int} {f : Nat} (hm : many ≤ 7) (h : riseB zs many = true) (hf : f < 7) : (setR zs many &&& 2 ^ f != 0) = zs.contains (f : Int) := by
  rw [setR_t h, Bool.eq_iff_iff, bne_iff_ne, and_ne_zero (mem7_msk hm h).2, List.contains_iff_mem]
  constructor
  · rintro ⟨i, h1, h2⟩
    rw [mem7_one f hf, List.mem_singleton] at h2
    subst h2
    exact (mem_msk hm h).1 h1
  · intro h1
    exact ⟨f, (mem_msk hm h).2 h1, by rw [mem7_one f hf]; simp⟩
theorem setR_lt {zs : List Int} {many : Int} (hm : many ≤ 7) : setR zs many < 128 := by
  cases h : riseB zs many with
  | false => rw [setR_f h]; omega
  | true => rw [setR_t h]; exact (mem7_msk hm h).2

theorem cap_done {hi : Int} {l : List Int} (h : allTo (fun n => inB n 0 hi) l l.length) : capB hi l = true := all_done h
theorem cap_bad {hi : Int} {l : List Int} {k : Nat} {x : Int} (hx : l[k]? = some x) (hf : inB x 0 hi = false) : capB hi l = false := all_bad hx hf

set_option maxHeartbeats 1000000 in
theorem allWithin_c (a : Option Addr) (c : Nat) (zs : List Int) (hi : Int) (b : Bool) (w : World) (hs : Ints w a zs) (hl : zs.length ≤ maxLen) (h : capB hi zs = b) :
    Calls Try.prog 71 #[.slice a zs.length c, .int .i64 hi] w fun e w' => e = .returned (.bool b) ∧ w' = w := by
  subst h
  unfold maxLen at hl
  go_enter Try.func71, Try.ntmps71
  go_wp2
  go_loop [9] (fun i => ∃ k : Nat, k ≤ zs.length ∧ i = .int .i64 k ∧ Hid (allTo (fun n => inB n 0 hi) zs k)) (fun i => zs.length - (intOf i).toNat)
  case atStart => exact ⟨0, Nat.zero_le _, rfl, allTo_zero _ _⟩
  case round =>
    obtain ⟨k, hk, rfl, HO⟩ := hrel
    by_cases hlt : k < zs.length
    · obtain ⟨b, off, rfl, hc⟩ := hs k _ (zA_get hlt)
      have HK : Hid (zs[k]? = some (zA zs k)) := zA_get hlt
      have hki : (k : Int) < (zs.length : Int) := by omega
      clear hs
      generalize zA zs k = y at *
      cases g : inB y 0 hi with
      | true =>
        have HN : Hid (allTo (fun n => inB n 0 hi) zs (k + 1)) := allTo_succ HO.out HK.out g
        go_wp2_with (go_at_call 53; refine (within_c _ _ _ _ g).mono ?_; rintro e w' ⟨rfl, hw⟩; rw [hw]; clear hw w')
        go_round
        case rel => exact ⟨k + 1, by omega, by go_num, HN.out⟩
        case measure => simp [intOf]; omega
      | false =>
        have HE : Hid (capB hi zs = false) := cap_bad HK.out g
        go_wp2_with (go_at_call 53; refine (within_c _ _ _ _ g).mono ?_; rintro e w' ⟨rfl, hw⟩; rw [hw]; clear hw w')
        go_ret
        exact ⟨ret_bool HE.out.symm, rfl⟩
    · obtain rfl : k = zs.length := by omega
      have HE : Hid (capB hi zs = true) := cap_done HO.out
      go_wp2
      go_ret
      exact ⟨ret_bool HE.out.symm, rfl⟩

theorem goodPartEnds_c (a : Option Addr) (c : Nat) (zs : List Int) (b : Bool) (w : World) (hs : Ints w a zs) (hl : zs.length ≤ maxLen) (h : pEnds zs = b) :
    Calls Try.prog 43 #[.slice a zs.length c] w fun e w' => e = .returned (.bool b) ∧ w' = w := by
  subst h
  cases g1 : inB zs.length 1 6 with
  | false =>
    have HE : Hid (pEnds zs = false) := by show _ = _; rw [pEnds, g1]; rfl
    go_enter Try.func43, Try.ntmps43
    go_wp2_with (go_at_call 42; refine (oneUpTo_c _ _ _ _ g1).mono ?_; rintro e w' ⟨rfl, hw⟩; rw [hw]; clear hw w')
    go_ret
    exact ⟨ret_bool HE.out.symm, rfl⟩
  | true =>
    obtain ⟨x, hx⟩ : ∃ x, capB 100 zs = x := ⟨_, rfl⟩
    have HE : Hid (pEnds zs = x) := by show _ = _; rw [pEnds, g1, hx]; rfl
    go_enter Try.func43, Try.ntmps43
    go_wp2_with (first | (go_at_call 42; refine (oneUpTo_c _ _ _ _ g1).mono ?_; rintro e w' ⟨rfl, hw⟩; rw [hw]; clear hw w') | (go_at_call 71; refine (allWithin_c _ _ _ _ _ _ hs hl hx).mono ?_; rintro e w' ⟨rfl, hw⟩; rw [hw]; clear hw w'))
    go_ret
    exact ⟨ret_bool HE.out.symm, rfl⟩

set_option maxHeartbeats 2000000 in
theorem eachUpTo_c (a a2 : Option Addr) (c c2 : Nat) (xs es : List Int) (b : Bool) (w : World) (hx : Ints w a xs) (he : Ints w a2 es) (hl : xs.length ≤ maxLen) (h : eachB xs es = b) :
    Calls Try.prog 54 #[.slice a xs.length c, .slice a2 es.length c2] w fun e w' => e = .returned (.bool b) ∧ w' = w := by
  subst h
  unfold maxLen at hl
  by_cases h0 : xs.length = es.length
  · have d0 : (((xs.length : Nat) : Int) != ((es.length : Nat) : Int)) = false := by simp [h0]
    have H0 : Hid (xs.length = es.length) := h0
    clear h0
    go_enter Try.func54, Try.ntmps54
    go_wp2
    clear d0
    go_loop [14] (fun i => ∃ k : Nat, k ≤ xs.length ∧ i = .int .i64 k ∧ Hid (eachTo xs es k)) (fun i => xs.length - (intOf i).toNat)
    case atStart => exact ⟨0, Nat.zero_le _, rfl, fun i hi => absurd hi (Nat.not_lt_zero _)⟩
    case round =>
      obtain ⟨k, hk, rfl, HO⟩ := hrel
      by_cases hlt : k < xs.length
      · have hlt2 : k < es.length := by have := H0.out; omega
        obtain ⟨b1, o1, rfl, hc1⟩ := hx k _ (zA_get hlt)
        obtain ⟨b2, o2, rfl, hc2⟩ := he k _ (zA_get hlt2)
        have hki : (k : Int) < (xs.length : Int) := by omega
        have hki2 : (k : Int) < (es.length : Int) := by omega
        have HK : Hid (∀ v, inB (zA xs k) 0 (zA es k) = v → v = false → eachB xs es = false) := fun v hv hf => eachB_bad hlt (hv.trans hf)
        have HS : Hid (inB (zA xs k) 0 (zA es k) = true → eachTo xs es (k + 1)) := fun hv => eachTo_succ HO.out hv
        clear hx he
        generalize zA xs k = y at *
        generalize zA es k = z at *
        cases g : inB y 0 z with
        | true =>
          have HN : Hid (eachTo xs es (k + 1)) := HS.out g
          go_wp2_with (go_at_call 53; refine (within_c _ _ _ _ g).mono ?_; rintro e w' ⟨rfl, hw⟩; rw [hw]; clear hw w')
          go_round
          case rel => exact ⟨k + 1, by omega, by go_num, HN.out⟩
          case measure => simp [intOf]; omega
        | false =>
          have HE : Hid (eachB xs es = false) := HK.out _ g rfl
          go_wp2_with (go_at_call 53; refine (within_c _ _ _ _ g).mono ?_; rintro e w' ⟨rfl, hw⟩; rw [hw]; clear hw w')
          go_ret
          exact ⟨ret_bool HE.out.symm, rfl⟩
      · obtain rfl : k = xs.length := by omega
        have HE : Hid (eachB xs es = true) := eachB_done H0.out HO.out
        go_wp2
        go_ret
        exact ⟨ret_bool HE.out.symm, rfl⟩
  · have d0 : (((xs.length : Nat) : Int) != ((es.length : Nat) : Int)) = true := by simp; omega
    have HE : Hid (eachB xs es = false) := eachB_len h0
    clear h0
    go_enter Try.func54, Try.ntmps54
    go_wp2
    go_ret
    exact ⟨ret_bool HE.out.symm, rfl⟩

/-- Two lists alike up to a place. -/
def eqTo (xs ys : List Int) (k : Nat) : Prop := ∀ i, i < k → zA xs i = zA ys i
theorem eq_bad {xs ys : List Int} {k : Nat} (_hk : k < xs.length) (h : ¬ zA xs k = zA ys k) : decide (xs = ys) = false := decide_eq_false fun e => h (by rw [e])
theorem eq_done {xs ys : List Int} (h : xs.length = ys.length) (h2 : eqTo xs ys xs.length) : decide (xs = ys) = true := decide_eq_true (List.ext_getElem h fun i h3 h4 => by
  have := h2 i h3
  simpa [zA, List.getD_eq_getElem?_getD, h3, h4] using this)

set_option maxHeartbeats 2000000 in
theorem equalZ_c (a a2 : Option Addr) (c c2 : Nat) (xs ys : List Int) (b : Bool) (w : World) (hx : Ints w a xs) (he : Ints w a2 ys) (hl : xs.length ≤ maxLen) (h : decide (xs = ys) = b) :
    Calls Try.prog 80 #[.slice a xs.length c, .slice a2 ys.length c2] w fun e w' => e = .returned (.bool b) ∧ Below w.heap.size w w' := by
  have HB : Hid (decide (xs = ys) = b) := h
  clear h
  unfold maxLen at hl
  by_cases h0 : xs.length = ys.length
  · have d0 : (((xs.length : Nat) : Int) != ((ys.length : Nat) : Int)) = false := by simp [h0]
    have H0 : Hid (xs.length = ys.length) := h0
    clear h0
    go_enter Try.func80, Try.ntmps80
    go_wp2
    clear d0
    go_loopw [13] (fun i wr => ∃ k : Nat, k ≤ xs.length ∧ i = .int .i64 k ∧ Hid (eqTo xs ys k) ∧ Below w.heap.size w wr) (fun i _ => xs.length - (intOf i).toNat)
    case atStart => exact ⟨0, Nat.zero_le _, rfl, fun i hi => absurd hi (Nat.not_lt_zero _), Below.refl _ _⟩
    case round =>
      obtain ⟨k, hk, rfl, HO, hB⟩ := hrel
      have BBE := fun q => hB.trans ((below_drewN (Below.refl wr.heap.size wr) q).mono hB.size)
      by_cases hlt : k < xs.length
      · have hlt2 : k < ys.length := by have := H0.out; omega
        obtain ⟨b1, o1, rfl, hc1⟩ := (hx.below hB) k _ (zA_get hlt)
        obtain ⟨b2, o2, rfl, hc2⟩ := (he.below hB) k _ (zA_get hlt2)
        have hki : (k : Int) < (xs.length : Int) := by omega
        have hki2 : (k : Int) < (ys.length : Int) := by omega
        by_cases g : zA xs k = zA ys k
        · have HN : Hid (eqTo xs ys (k + 1)) := fun i hi => by
            rcases Nat.lt_or_eq_of_le (Nat.le_of_lt_succ hi) with h1 | rfl
            · exact HO.out i h1
            · exact g
          have d1 : (zA xs k != zA ys k) = false := by simp [g]
          clear g hx he
          generalize zA xs k = y at *
          generalize zA ys k = z at *
          go_wp2
          go_quiet (fail)
          go_wp2
          go_roundw
          case rel => exact ⟨k + 1, by omega, by go_num, HN.out, BBE _⟩
          case measure => simp [intOf]; omega
        · have HE : Hid (b = false) := by show _ = _; rw [← HB.out]; exact eq_bad hlt g
          have d1 : (zA xs k != zA ys k) = true := by simp [g]
          clear g hx he
          generalize zA xs k = y at *
          generalize zA ys k = z at *
          go_wp2
          go_quiet (fail)
          go_wp2
          go_ret
          exact ⟨ret_bool HE.out.symm, BBE _⟩
      · obtain rfl : k = xs.length := by omega
        have HE : Hid (b = true) := by show _ = _; rw [← HB.out]; exact eq_done H0.out HO.out
        go_wp2
        go_ret
        exact ⟨ret_bool HE.out.symm, hB⟩
  · have d0 : (((xs.length : Nat) : Int) != ((ys.length : Nat) : Int)) = true := by simp; omega
    have HE : Hid (b = false) := by show _ = _; rw [← HB.out]; exact decide_eq_false fun e => h0 (by rw [e])
    clear h0
    go_enter Try.func80, Try.ntmps80
    go_wp2
    go_ret
    exact ⟨ret_bool HE.out.symm, Below.refl _ _⟩

theorem knows_c (i : Bool) (g z : Int) (sv rv : Value) (b : Bool) (w : World) (h : (i && decide (g = z)) = b) :
    Calls Try.prog 68 #[.agg #[.bool i, .int .i64 g, sv, rv], .int .i64 z] w fun e w' => e = .returned (.bool b) ∧ Below w.heap.size w w' := by
  subst h
  have bA : ∀ o, Below w.heap.size w (w.alloc o) := fun o => (Below.refl _ _).alloc (Nat.le_refl _) o
  cases i with
  | false =>
    go_enter Try.func68, Try.ntmps68
    go_wp2
    go_ret
    exact ⟨ret_bool (by simp), bA _⟩
  | true =>
    by_cases e : g = z
    · have d : (g == z) = true := by simp [e]
      have HE : Hid ((true && decide (g = z)) = true) := by show _ = _; simp [e]
      clear e
      go_enter Try.func68, Try.ntmps68
      go_wp2
      go_ret
      exact ⟨ret_bool HE.out.symm, bA _⟩
    · have d : (g == z) = false := by simp [e]
      have HE : Hid ((true && decide (g = z)) = false) := by show _ = _; simp [e]
      clear e
      go_enter Try.func68, Try.ntmps68
      go_wp2
      go_ret
      exact ⟨ret_bool HE.out.symm, bA _⟩

end Go.Proofs.Ytgiekkipkgdjaaa
