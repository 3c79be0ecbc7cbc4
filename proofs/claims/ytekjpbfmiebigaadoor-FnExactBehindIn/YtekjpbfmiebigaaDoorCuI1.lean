/-
  Clusters, the program's side: a set of one member, whoever it is; views; who thinks that he leads. Made by mkcui.py.
-/
import Derived.Test.YtekjpbfmiebigaaDoorRwI
import Derived.Test.YtekjpbfmiebigaaDoorQImpl
import Derived.Test.YtekjpbfmiebigaaDoorCuS
namespace Go.Proofs.YtekjpbfmiebigaaDoor
open Go.RowKit

def capB (hi : Int) (l : List Int) : Bool := l.all fun n => inB n 0 hi
theorem meets_c (x y : Nat) (hx : x < 128) (hy : y < 128) (b : Bool) (w : World) (h : (x &&& y != 0) = b) :
    Calls Tryd.prog 77 #[setV x, setV y] w fun r w' => r = .returned (.bool b) ∧ Below w.heap.size w w' := by
  rw [← h]; exact meets_any x y hx hy w
theorem setFrom_c (a : Option Addr) (c : Nat) (zs : List Int) (many : Int) (b : Bool) (w : World) (hs : Ints w a zs) (hl : zs.length ≤ maxLen) (hm : many ≤ 7) (h : riseB zs many = b) :
    Calls Tryd.prog 75 #[.slice a zs.length c, .int .i64 many] w fun r w' => r = .returned (.tuple #[setV (setR zs many), .bool b]) ∧ Below w.heap.size w w' := by
  rw [← h]; exact setFrom_any a c zs many w hs hl hm
theorem mem7_one : ∀ f, f < 7 → mem7 (2 ^ f) = [f] := by decide +kernel
theorem meets_has {zs : List Int} {many : Int} {f : Nat} (hm : many ≤ 7) (h : riseB zs many = true) (hf : f < 7) : (setR zs many &&& 2 ^ f != 0) = zs.contains (f : Int) := by
  rw [setR_t h, Bool.eq_iff_iff, bne_iff_ne, and_ne_zero (mem7_msk hm h).2, List.contains_iff_mem]
  constructor
  · rintro ⟨i, h1, h2⟩
    rw [mem7_one f hf, List.mem_singleton] at h2
    subst h2
    exact (mem_msk hm h).1 h1
  · intro h1
    exact ⟨f, (mem_msk hm h).2 h1, by rw [mem7_one f hf]; simp⟩
theorem setR_lt {zs : List Int} {many : Int} (hm : many ≤ 7) : setR zs many < 128 := by
  cases h : riseB zs many with
  | false => rw [setR_f h]; omega
  | true => rw [setR_t h]; exact (mem7_msk hm h).2


/-- The set of one member, as the program makes it of any number. -/
def oneB (z : Int) : Nat := if 0 ≤ z ∧ z < 64 then 2 ^ z.toNat else 0
theorem oneB_lt (z : Int) : oneB z < 18446744073709551616 := by
  unfold oneB
  split
  · rename_i h
    exact Nat.lt_of_lt_of_le (Nat.pow_lt_pow_right (by omega) (show z.toNat < 64 by omega)) (by omega)
  · omega
theorem oneB_is {z : Int} (h1 : -9223372036854775808 ≤ z) (h2 : z < 9223372036854775808) : IntKind.u64.wrap (1 * 2 ^ min (IntKind.u64.wrap z).toNat IntKind.u64.bits) = ((oneB z : Nat) : Int) := by
  have hw : ∀ n, IntKind.u64.wrap n = n % 18446744073709551616 := fun n => by simp [IntKind.wrap, IntKind.bits, IntKind.signed]
  have hb : IntKind.u64.bits = 64 := rfl
  rw [hw, hw, hb]
  unfold oneB
  split
  · rename_i h
    have e : (z % 18446744073709551616).toNat = z.toNat := by congr 1; omega
    rw [e, Nat.min_eq_left (by omega)]
    have hl : (2 : Nat) ^ z.toNat < 18446744073709551616 := Nat.lt_of_lt_of_le (Nat.pow_lt_pow_right (by omega) (show z.toNat < 64 by omega)) (by omega)
    have e2 : (2 : Int) ^ z.toNat = ((2 ^ z.toNat : Nat) : Int) := by rw [Int.natCast_pow]; rfl
    rw [Int.one_mul, e2]
    generalize 2 ^ z.toNat = q at hl
    omega
  · rename_i h
    rw [Nat.min_eq_right (by omega)]
    decide
theorem and_far : ∀ m, m < 57 → ∀ x, x < 128 → x &&& 2 ^ (m + 7) = 0 := by decide +kernel

set_option maxHeartbeats 1000000 in
theorem onlyA_c (z : Int) (h1 : -9223372036854775808 ≤ z) (h2 : z < 9223372036854775808) (w : World) :
    Calls Tryd.prog 45 #[.int .i64 z] w fun r w' => r = .returned (setV (oneB z)) ∧ Below w.heap.size w w' := by
  have hb : ∀ x, Below w.heap.size w (w.alloc x) := fun _ => (Below.refl _ _).alloc (Nat.le_refl _) _
  have hw : ∀ n, IntKind.u64.wrap n = n % 18446744073709551616 := fun n => by simp [IntKind.wrap, IntKind.bits, IntKind.signed]
  have h0 : 0 ≤ IntKind.u64.wrap z := by rw [hw]; omega
  have he := oneB_is h1 h2
  have hsh := shift_shl_any .u64 .u64 1 _ h0
  rw [he, hw] at hsh
  go_enter Tryd.func45, Tryd.ntmps45
  go_wp2
  refine bodyPost_ret (v := setV (oneB z)) (by simp [results, Tryd.results45, go_sem]) rfl ⟨rfl, hb _⟩

set_option maxHeartbeats 1000000 in
theorem meetsA_c (x y : Nat) (hx : x < 128) (hy : y < 18446744073709551616) (b : Bool) (w : World) (h : (x &&& y != 0) = b) :
    Calls Tryd.prog 77 #[setV x, setV y] w fun r w' => r = .returned (.bool b) ∧ Below w.heap.size w w' := by
  subst h
  have hb : ∀ o p, Below w.heap.size w ((w.alloc o).alloc p) := fun _ _ => ((Below.refl _ _).alloc (Nat.le_refl _) _).alloc (by simp) _
  have hba := u64_and_nat x y (by omega) hy
  go_enter Tryd.func77, Tryd.ntmps77
  go_wp2
  go_ret
  exact ⟨ret_bool (by rw [Bool.eq_iff_iff]; simp), hb _ _⟩

theorem meets_one {zs : List Int} {many l : Int} (hm : many ≤ 7) (h : riseB zs many = true) : (setR zs many &&& oneB l != 0) = zs.contains l := by
  have hlt := setR_lt (zs := zs) hm
  by_cases h0 : 0 ≤ l ∧ l < 7
  · obtain ⟨f, rfl⟩ : ∃ f : Nat, l = f := ⟨l.toNat, by omega⟩
    have e : oneB (f : Int) = 2 ^ f := by unfold oneB; rw [if_pos (by omega)]; rfl
    rw [e]
    exact meets_has hm h (by omega)
  · have hc : zs.contains l = false := by
      rw [Bool.eq_false_iff]
      intro g
      have := rise_mem h (by simpa using g)
      omega
    rw [hc]
    have e : setR zs many &&& oneB l = 0 := by
      unfold oneB
      split
      · rename_i h1
        have := and_far (l.toNat - 7) (by omega) (setR zs many) hlt
        rwa [show l.toNat - 7 + 7 = l.toNat by omega] at this
      · simp
    rw [e]
    rfl

theorem cap_done {hi : Int} {l : List Int} (h : allTo (fun n => inB n 0 hi) l l.length) : capB hi l = true := all_done h
theorem cap_bad {hi : Int} {l : List Int} {k : Nat} {x : Int} (hx : l[k]? = some x) (hf : inB x 0 hi = false) : capB hi l = false := all_bad hx hf

set_option maxHeartbeats 1000000 in
theorem allWithin_c (a : Option Addr) (c : Nat) (zs : List Int) (hi : Int) (b : Bool) (w : World) (hs : Ints w a zs) (hl : zs.length ≤ maxLen) (h : capB hi zs = b) :
    Calls Tryd.prog 81 #[.slice a zs.length c, .int .i64 hi] w fun e w' => e = .returned (.bool b) ∧ w' = w := by
  subst h
  unfold maxLen at hl
  go_enter Tryd.func81, Tryd.ntmps81
  go_wp2
  go_loop [9] (fun i => ∃ k : Nat, k ≤ zs.length ∧ i = .int .i64 k ∧ Hid (allTo (fun n => inB n 0 hi) zs k)) (fun i => zs.length - (intOf i).toNat)
  case atStart => exact ⟨0, Nat.zero_le _, rfl, allTo_zero _ _⟩
  case round =>
    obtain ⟨k, hk, rfl, HO⟩ := hrel
    by_cases hlt : k < zs.length
    · obtain ⟨b, off, rfl, hc⟩ := hs k _ (zA_get hlt)
      have HK : Hid (zs[k]? = some (zA zs k)) := zA_get hlt
      have hki : (k : Int) < (zs.length : Int) := by omega
      clear hs
      generalize zA zs k = y at *
      cases g : inB y 0 hi with
      | true =>
        have HN : Hid (allTo (fun n => inB n 0 hi) zs (k + 1)) := allTo_succ HO.out HK.out g
        go_wp2_with (go_at_call 76; refine (within_c _ _ _ _ g).mono ?_; rintro e w' ⟨rfl, hw⟩; rw [hw]; clear hw w')
        go_round
        case rel => exact ⟨k + 1, by omega, by go_num, HN.out⟩
        case measure => simp [intOf]; omega
      | false =>
        have HE : Hid (capB hi zs = false) := cap_bad HK.out g
        go_wp2_with (go_at_call 76; refine (within_c _ _ _ _ g).mono ?_; rintro e w' ⟨rfl, hw⟩; rw [hw]; clear hw w')
        go_ret
        exact ⟨ret_bool HE.out.symm, rfl⟩
    · obtain rfl : k = zs.length := by omega
      have HE : Hid (capB hi zs = true) := cap_done HO.out
      go_wp2
      go_ret
      exact ⟨ret_bool HE.out.symm, rfl⟩

theorem goodNodes_c (n : Int) (b : Bool) (w : World) (h : inB n 2 4 = b) : Calls Tryd.prog 19 #[.int .i64 n] w fun e w' => e = .returned (.bool b) ∧ w' = w := by
  subst h
  by_cases h1 : 2 ≤ n
  · by_cases h2 : n ≤ 4
    · have HE : Hid (inB n 2 4 = true) := inB_t.2 ⟨h1, h2⟩
      go_enter Tryd.func19, Tryd.ntmps19
      go_wp2
      go_ret
      exact ⟨ret_bool HE.out.symm, rfl⟩
    · have HE : Hid (inB n 2 4 = false) := by show _ = _; rw [Bool.eq_false_iff]; intro g; have := inB_t.1 g; omega
      go_enter Tryd.func19, Tryd.ntmps19
      go_wp2
      go_ret
      exact ⟨ret_bool HE.out.symm, rfl⟩
  · have HE : Hid (inB n 2 4 = false) := by show _ = _; rw [Bool.eq_false_iff]; intro g; have := inB_t.1 g; omega
    go_enter Tryd.func19, Tryd.ntmps19
    go_wp2
    go_ret
    exact ⟨ret_bool HE.out.symm, rfl⟩

theorem mayBe_c (e l e2 l2 : Int) (v v2 : Value) (b : Bool) (w : World) (h : (decide (e < e2) || (e == e2 && l == l2)) = b) :
    Calls Tryd.prog 79 #[.agg #[.int .i64 e, .int .i64 l, v], .agg #[.int .i64 e2, .int .i64 l2, v2]] w fun r w' => r = .returned (.bool b) ∧ Below w.heap.size w w' := by
  subst h
  have HB : ∀ o p, Below w.heap.size w ((w.alloc o).alloc p) := fun o p => ((Below.refl _ _).alloc (Nat.le_refl _) o).alloc (by simp) p
  by_cases h1 : e < e2
  · have HE : Hid ((decide (e < e2) || (e == e2 && l == l2)) = true) := by show _ = _; simp [h1]
    go_enter Tryd.func79, Tryd.ntmps79
    go_wp2
    go_ret
    exact ⟨ret_bool HE.out.symm, HB _ _⟩
  · have HD : Hid (decide (e < e2) = false) := decide_eq_false h1
    by_cases h2 : e = e2
    · have d2 : (e == e2) = true := by simp [h2]
      obtain ⟨x, hx⟩ : ∃ x, (l == l2) = x := ⟨_, rfl⟩
      have HE : Hid ((decide (e < e2) || (e == e2 && l == l2)) = x) := by show _ = _; rw [hx, d2, decide_eq_false h1]; rfl
      clear h2
      go_enter Tryd.func79, Tryd.ntmps79
      go_wp2
      go_ret
      exact ⟨ret_bool (by rw [HD.out]; rfl), HB _ _⟩
    · have d2 : (e == e2) = false := by simp [h2]
      have HE : Hid ((decide (e < e2) || (e == e2 && l == l2)) = false) := by show _ = _; rw [d2, decide_eq_false h1]; rfl
      clear h2
      go_enter Tryd.func79, Tryd.ntmps79
      go_wp2
      go_ret
      exact ⟨ret_bool (by first | (rw [HD.out]; done) | exact HE.out.symm), HB _ _⟩

theorem leads_c (k : Nat) (x : Nd) (v2 v3 v4 : Value) (b : Bool) (w : World) (h : thinks k x = b) :
    Calls Tryd.prog 78 #[.agg #[.int .i64 x.epoch, .int .i64 x.leader, v2, v3, v4, .int .i64 x.told], .int .i64 (k : Int)] w fun r w' => r = .returned (.bool b) ∧ Below w.heap.size w w' := by
  subst h
  have HB : ∀ o, Below w.heap.size w (w.alloc o) := fun o => (Below.refl _ _).alloc (Nat.le_refl _) o
  go_enter Tryd.func78, Tryd.ntmps78
  go_wp2
  go_ret
  exact ⟨ret_bool (by simp [thinks]), HB _⟩

end Go.Proofs.YtekjpbfmiebigaaDoor
