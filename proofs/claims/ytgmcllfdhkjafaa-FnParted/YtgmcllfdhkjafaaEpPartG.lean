/-
  Where two logs part, and following, at lists that may be nil and have room behind them.
-/
import Derived.Test.YtgmcllfdhkjafaaFol
import Derived.Laws.CopyOwn
namespace Go.Proofs.Ytgmcllfdhkjafaa
open Go.RowKit

def begZ (zs : List Int) (n i : Nat) : Int := if i < n then zA zs i else 0
def begC (zs : List Int) (n : Nat) : List Value := (List.range 30).map fun i => Value.int .i64 (begZ zs n i)

theorem Try.sizeOne : (Try.prog.info? 3).map (·.size) = some 1 := by kernel_rfl

def zer30 : List Value := List.replicate 30 (Value.int .i64 0)

theorem beg_splice {zs : List Int} {n : Nat} (hn : n ≤ zs.length) (hl : zs.length ≤ 30) : splice zer30 0 (zCells (zs.take n)) = begC zs n := by
  have hlen : (zCells (zs.take n)).length = n := by simp [zCells]; omega
  unfold splice begC zer30
  rw [hlen]
  apply List.ext_getElem?
  intro i
  rw [List.take_zero, List.nil_append, Nat.zero_add]
  by_cases h : i < n
  · rw [List.getElem?_append_left (by omega)]
    have e := zA_get (zs := zs) (k := i) (by omega)
    have h30 : i < 30 := by omega
    simp [zCells, List.getElem?_take_of_lt h, e, h30, begZ, h]
  · rw [List.getElem?_append_right (by omega), hlen, List.drop_replicate, List.getElem?_replicate]
    by_cases h30 : i < 30
    · rw [if_pos (by omega)]; simp [h30, begZ, h]
    · rw [if_neg (by omega), List.getElem?_eq_none (by simp; omega)]

theorem begC_len (zs : List Int) (n : Nat) : (begC zs n).length = 30 := by simp [begC]
theorem begC_one (zs : List Int) (n : Nat) : (begC zs n).toArray.all (·.oneCell') = true := by
  rw [Array.all_eq_true_iff_forall_mem]
  intro u hu
  simp only [begC, List.mem_toArray, List.mem_map] at hu
  obtain ⟨_, _, rfl⟩ := hu
  rfl
theorem Try.size30 : (Try.prog.info? 52).map (·.size) = some 30 := by kernel_rfl

set_option maxRecDepth 100000 in
set_option maxHeartbeats 2000000 in
theorem beginning_some (g C : Nat) (zs : List Int) (n : Nat) (w : World) (hs : Ints w (some ⟨g, 0, none⟩) zs) (hn : n ≤ zs.length) (hl : zs.length ≤ 30) (hC : zs.length ≤ C) :
    Calls Try.prog 32 #[.slice (some ⟨g, 0, none⟩) zs.length C, .int .i64 (n : Int)] w fun e w' => e = .returned (.agg (begC zs n).toArray) ∧ Below w.heap.size w w' := by
  have hb2 : ∀ x y, Below w.heap.size w ((w.alloc x).alloc y) := fun _ _ => ((Below.refl _ _).alloc (Nat.le_refl _) _).alloc (by simp) _
  have c1 : (n : Int) ≤ (C : Int) := by omega
  obtain ⟨X, hX⟩ : ∃ X, X = zCells (zs.take n) := ⟨_, rfl⟩
  have hXl : X.length = n := by rw [hX]; simp [zCells]; omega
  have HSP : Hid (splice zer30 0 X = begC zs n) := by rw [hX]; exact beg_splice hn hl
  have HX1 : Hid (∀ v ∈ X, v.oneCell' = true) := by rw [hX]; exact zCells_one _
  have HXS : Hid (∀ u : World, Ints u (some ⟨g, 0, none⟩) zs → ∀ j v, X[j]? = some v → u.cell? ((⟨g, 0, none⟩ : Addr).add j) = some v) := by rw [hX]; exact fun u hu => news_take hu
  have HXL : Hid (X.length = n) := hXl
  clear hX hXl
  go_enter Try.func32, Try.ntmps32
  go_wp2_with fail
  go_region_law (refine step_copy_splice rfl (.tmp 6) (.tmp 9) 23 23 rfl 3 Try.underlying23 Try.sizeOne _ _ 30 30 n C rfl rfl (w.heap.size + 1) 0 zer30 52 (by exact heap_alloc2_new w _ _) X (by rw [HXL.out]; exact (Nat.min_eq_left (by omega)).symm) (fun _ => ⟨rfl, _, rfl, HXS.out _ (hs.below (hb2 _ _).drew)⟩) (by rw [HXL.out]; show 0 + n ≤ 30; omega) HX1.out (w.heap.size + 1) _ (Below.refl _ _) (Nat.le_refl _) ?_; intro w4 HG4 HB4)
  all_goals
    have HG : Hid (w4.heap[w.heap.size + 1]? = some (.cells (begC zs n).toArray 52 (0, 0))) := by have := HG4.out; rwa [HSP.out] at this
    have HN : Hid (w4.heap[w.heap.size]? = some (.cells zer30.toArray 52 (0, 0))) := (HB4.block w.heap.size (Nat.lt_succ_self _)).trans (heap_alloc2_old w _ _)
    have BB : Below w.heap.size w w4 := ((hb2 _ _).drew).trans (HB4.mono (Nat.le_succ _))
    clear HG4 HB4 HXS HX1 HSP hs
    have h58 := Try.size30
    go_wp2_with (first
      | refine wpList_load_row rfl 52 _ rfl (w.heap.size + 1) rfl 52 (begC zs n).toArray (0, 0) _ HG.out Try.underlying52 rfl (by rw [Try.size30]; simp [begC_len]) ?_
      | refine wpList_store_row rfl 52 _ _ rfl w.heap.size (begC zs n).toArray rfl rfl 52 zer30.toArray HN.out (by rw [Try.size30]; simp [begC_len]) (by simp [begC_len, zer30]) (begC_one _ _) ?_)
    exact bodyPost_ret (v := .agg (begC zs n).toArray) (results_cell_row Try.results32 _ _ w.heap.size 52 _ (0, 0) _ rfl (setRow_heap w4 w.heap.size _ _ _ _ HN.out) Try.underlying52 rfl (by rw [Try.size30]; simp [begC_len])) rfl ⟨rfl, below_setRow BB (Nat.le_refl _) _⟩

set_option maxRecDepth 100000 in
set_option maxHeartbeats 2000000 in
theorem beginning_none (w : World) :
    Calls Try.prog 32 #[.slice none 0 0, .int .i64 0] w fun e w' => e = .returned (.agg (begC [] 0).toArray) ∧ Below w.heap.size w w' := by
  have hb2 : ∀ x y, Below w.heap.size w ((w.alloc x).alloc y) := fun _ _ => ((Below.refl _ _).alloc (Nat.le_refl _) _).alloc (by simp) _
  have HSP : Hid (splice zer30 0 [] = begC [] 0) := beg_splice (zs := []) (n := 0) (by simp) (by simp)
  go_enter Try.func32, Try.ntmps32
  go_wp2_with fail
  go_region_law (refine step_copy_splice rfl (.tmp 6) (.tmp 9) 23 23 rfl 3 Try.underlying23 Try.sizeOne _ _ 30 30 0 0 rfl rfl (w.heap.size + 1) 0 zer30 52 (by exact heap_alloc2_new w _ _) [] rfl (fun h => absurd h (Nat.lt_irrefl _)) (by show 0 + 0 ≤ 30; omega) (fun v h => by simp at h) (w.heap.size + 1) _ (Below.refl _ _) (Nat.le_refl _) ?_; intro w4 HG4 HB4)
  all_goals
    have HG : Hid (w4.heap[w.heap.size + 1]? = some (.cells (begC [] 0).toArray 52 (0, 0))) := by have := HG4.out; rwa [HSP.out] at this
    have HN : Hid (w4.heap[w.heap.size]? = some (.cells zer30.toArray 52 (0, 0))) := (HB4.block w.heap.size (Nat.lt_succ_self _)).trans (heap_alloc2_old w _ _)
    have BB : Below w.heap.size w w4 := ((hb2 _ _).drew).trans (HB4.mono (Nat.le_succ _))
    clear HG4 HB4 HSP
    have h58 := Try.size30
    go_wp2_with (first
      | refine wpList_load_row rfl 52 _ rfl (w.heap.size + 1) rfl 52 (begC [] 0).toArray (0, 0) _ HG.out Try.underlying52 rfl (by rw [Try.size30]; simp [begC_len]) ?_
      | refine wpList_store_row rfl 52 _ _ rfl w.heap.size (begC [] 0).toArray rfl rfl 52 zer30.toArray HN.out (by rw [Try.size30]; simp [begC_len]) (by simp [begC_len, zer30]) (begC_one _ _) ?_)
    exact bodyPost_ret (v := .agg (begC [] 0).toArray) (results_cell_row Try.results32 _ _ w.heap.size 52 _ (0, 0) _ rfl (setRow_heap w4 w.heap.size _ _ _ _ HN.out) Try.underlying52 rfl (by rw [Try.size30]; simp [begC_len])) rfl ⟨rfl, below_setRow BB (Nat.le_refl _) _⟩

/-- A list's slice: nil, or at the front of a block, with room for it. -/
def SlOk (A : Option Addr) (n C : Nat) : Prop := (A = none ∧ n = 0 ∧ C = 0) ∨ (n ≤ C ∧ ∃ g, A = some ⟨g, 0, none⟩)

theorem beginning_gen (A : Option Addr) (C : Nat) (zs : List Int) (n : Nat) (w : World) (hs : Ints w A zs) (hn : n ≤ zs.length) (hl : zs.length ≤ 30) (hsl : SlOk A zs.length C) :
    Calls Try.prog 32 #[.slice A zs.length C, .int .i64 (n : Int)] w fun e w' => e = .returned (.agg (begC zs n).toArray) ∧ Below w.heap.size w w' := by
  rcases hsl with ⟨rfl, h0, rfl⟩ | ⟨hC, g, rfl⟩
  · obtain rfl : zs = [] := List.eq_nil_of_length_eq_zero h0
    obtain rfl : n = 0 := by simpa using hn
    exact beginning_none w
  · exact beginning_some g C zs n w hs hn hl hC

section
variable {P : Program}

theorem eqInts_run (w : World) (t e : TypeId) (len d : Nat) (X Y : Array Value) (f g : Nat → Int) (ht : P.underlying t = some (.array len e)) (he : P.underlying e = some (.int .i64)) (hsz : (P.info? e).map (·.size) = some 1)
    (hX : ∀ i, i < len → X[i]? = some (.int .i64 (f i))) (hY : ∀ i, i < len → Y[i]? = some (.int .i64 (g i))) :
    (Op.equalIn (d + 2) t (.agg X) (.agg Y)).run P w = .ok ((List.range' 0 len 1).all fun i => f i == g i) w := by
  have hs : ∀ w : World, (sizeOf e).run P w = .ok 1 w := fun w => by
    cases hq : P.info? e with
    | none => simp [hq] at hsz
    | some i =>
      have : i.size = 1 := by simpa [hq] using hsz
      simp [sizeOf, typeInfo, hq, this]
  rw [Op.equalIn.eq_def]
  simp only [Sem.run_bind, run_underlying ht, Result.andThen_ok, hs, Std.Legacy.Range.forIn_eq_forIn_range', Std.Legacy.Range.size, Nat.sub_zero, Nat.add_sub_cancel, Nat.div_one]
  have hl : ∀ i ∈ List.range' 0 len 1, i < len := fun i hi => by simpa using (List.mem_range'_1.1 hi).2
  generalize List.range' 0 len 1 = l at hl ⊢
  induction l with
  | nil => simp
  | cons i l ih =>
    have hi : i < len := hl i (by simp)
    have px : (part e X (i * 1)).run P w = .ok (.int .i64 (f i)) w := by simp [part, isAgg, run_underlying he, hX i hi]
    have py : (part e Y (i * 1)).run P w = .ok (.int .i64 (g i)) w := by simp [part, isAgg, run_underlying he, hY i hi]
    have pe : (Op.equalIn (d + 1) e (.int .i64 (f i)) (.int .i64 (g i))).run P w = .ok (f i == g i) w := run_equalIn_int w d e .i64 .i64 _ _ he
    simp only [List.forIn_cons, Sem.run_bind, px, py, pe, Result.andThen_ok, List.all_cons]
    cases hb : (f i == g i)
    · simp
    · simp only [Bool.not_true, Bool.false_eq_true, if_false, Sem.run_pure, Result.andThen_ok, Bool.true_and]
      exact ih fun j hj => hl j (by simp [hj])
end

def begEq (xs ys : List Int) (n : Nat) : Bool := (List.range' 0 30 1).all fun i => begZ xs n i == begZ ys n i

theorem begC_get (zs : List Int) (n i : Nat) (h : i < 30) : (begC zs n).toArray[i]? = some (.int .i64 (begZ zs n i)) := by
  simp [begC, h]

theorem begNe_run (xs ys : List Int) (n : Nat) (w : World) : (binOp .neq 52 (.agg (begC xs n).toArray) (.agg (begC ys n).toArray)).run Try.prog w = .ok (.bool (!begEq xs ys n)) w := by
  rw [run_neq_struct, show (10000 : Nat) = 9998 + 2 from rfl, eqInts_run w 52 3 30 9998 _ _ (begZ xs n) (begZ ys n) Try.underlying52 Try.underlying3 Try.sizeOne (begC_get xs n) (begC_get ys n)]
  rfl

theorem begGuard : Try.prog.eqGuardType Try.prog.depth 52 = false := by kernel_rfl

theorem begEq_iff {xs ys : List Int} {n : Nat} (h1 : n ≤ xs.length) (h2 : n ≤ ys.length) (h30 : xs.length ≤ 30) : begEq xs ys n = true ↔ xs.take n = ys.take n := by
  unfold begEq
  rw [List.all_eq_true]
  constructor
  · intro h
    apply List.ext_getElem?
    intro i
    by_cases hi : i < n
    · have := h i (by rw [List.mem_range'_1]; omega)
      simp only [begZ, if_pos hi, beq_iff_eq] at this
      rw [List.getElem?_take_of_lt hi, List.getElem?_take_of_lt hi, zA_get (by omega), zA_get (by omega), this]
    · rw [List.getElem?_eq_none (by rw [List.length_take]; omega), List.getElem?_eq_none (by rw [List.length_take]; omega)]
  · intro h i _
    by_cases hi : i < n
    · have e : (xs.take n)[i]? = (ys.take n)[i]? := by rw [h]
      rw [List.getElem?_take_of_lt hi, List.getElem?_take_of_lt hi, zA_get (by omega), zA_get (by omega)] at e
      simp only [begZ, if_pos hi]
      simpa using e
    · simp [begZ, hi]

def comm : List Int → List Int → Nat
  | x :: a, y :: b => if x = y then comm a b + 1 else 0
  | _, _ => 0

def IsPart (a b : List Int) (n : Nat) : Prop := n ≤ a.length ∧ n ≤ b.length ∧ a.take n = b.take n ∧ (n < a.length → n < b.length → zA a n ≠ zA b n)

theorem comm_uniq : ∀ {a b : List Int} {n : Nat}, IsPart a b n → comm a b = n
  | [], b, n, h => by have := h.1; simp at this; subst this; unfold comm; rfl
  | x :: a, [], n, h => by have := h.2.1; simp at this; subst this; unfold comm; rfl
  | x :: a, y :: b, 0, h => by
    have := h.2.2.2 (by simp) (by simp)
    have hne : ¬ x = y := this
    unfold comm; rw [if_neg hne]
  | x :: a, y :: b, n + 1, h => by
    obtain ⟨h1, h2, h3, h4⟩ := h
    simp only [List.take_succ_cons, List.cons.injEq] at h3
    unfold comm; rw [if_pos h3.1]
    have := comm_uniq (a := a) (b := b) (n := n) ⟨by simpa using h1, by simpa using h2, h3.2, fun g1 g2 => h4 (by simpa using g1) (by simpa using g2)⟩
    rw [this]

theorem take_more {a b : List Int} {n : Nat} (h1 : n < a.length) (h2 : n < b.length) (h : a.take n = b.take n) : a.take (n + 1) = b.take (n + 1) ↔ zA a n = zA b n := by
  rw [List.take_add_one, List.take_add_one, zA_get h1, zA_get h2, h]
  simp

def paR (a b : List Int) : Int × Bool := if goodE a && goodE b then ((comm a b : Int), true) else (0, false)
def paV (r : Int × Bool) : Value := .tuple #[.int .i64 r.1, .bool r.2]
theorem paR_yes {a b : List Int} (h1 : goodE a = true) (h2 : goodE b = true) : paR a b = ((comm a b : Int), true) := by unfold paR; rw [h1, h2]; rfl
theorem paR_no {a b : List Int} (h : (goodE a && goodE b) = false) : paR a b = (0, false) := by unfold paR; rw [h]; rfl

theorem ret_pa {a b : Int} {o : Bool} (h : a = b) : Ending.returned (.tuple #[.int .i64 a, .bool o]) = .returned (paV (b, o)) := by rw [h]; rfl

set_option maxRecDepth 100000 in
set_option maxHeartbeats 2000000 in
theorem specPA_any (A B : Option Addr) (CA CB : Nat) (a b : List Int) (w : World) (hA : Ints w A a) (hB : Ints w B b) (lA : a.length ≤ maxLen) (lB : b.length ≤ maxLen) :
    Calls Try.prog 9 #[.slice A a.length CA, .slice B b.length CB] w fun e w' => e = .returned (paV (paR a b)) ∧ Below w.heap.size w w' := by
  cases g1 : goodE a with
  | false =>
    rw [paR_no (by rw [g1]; rfl)]
    have GL : Hid (goodE a = false) := g1
    clear g1
    go_enter Try.func9, Try.ntmps9
    go_wp2_with fail
    refine (specGoodE_any _ _ _ _ hA lA).mono ?_
    rintro r w1 ⟨hr, rfl⟩
    rw [GL.out] at hr; subst hr
    go_wp2
    go_ret2
    exact ⟨rfl, Below.refl _ _⟩
  | true =>
  cases g2 : goodE b with
  | false =>
    rw [paR_no (by rw [g1, g2]; rfl)]
    have GL : Hid (goodE a = true) := g1
    have GF : Hid (goodE b = false) := g2
    clear g1 g2
    go_enter Try.func9, Try.ntmps9
    go_wp2_with fail
    refine (specGoodE_any _ _ _ _ hA lA).mono ?_
    rintro r w1 ⟨hr, rfl⟩
    rw [GL.out] at hr; subst hr
    go_wp2_with fail
    refine (specGoodE_any _ _ _ _ hB lB).mono ?_
    rintro r w2 ⟨hr, rfl⟩
    rw [GF.out] at hr; subst hr
    go_wp2
    go_ret2
    exact ⟨rfl, Below.refl _ _⟩
  | true =>
  rw [paR_yes g1 g2]
  have nA := (goodE_t.1 g1).1
  have nB := (goodE_t.1 g2).1
  have GL : Hid (goodE a = true) := g1
  have GF : Hid (goodE b = true) := g2
  clear g1 g2
  go_enter Try.func9, Try.ntmps9
  go_wp2_with fail
  refine (specGoodE_any _ _ _ _ hA lA).mono ?_
  rintro r w1 ⟨hr, hw1⟩
  rw [GL.out] at hr; subst hr
  rw [hw1]
  clear hw1 w1
  go_wp2_with fail
  refine (specGoodE_any _ _ _ _ hB lB).mono ?_
  rintro r w2 ⟨hr, hw2⟩
  rw [GF.out] at hr; subst hr
  rw [hw2]
  clear hw2 w2
  go_wp2
  go_loopw [6] (fun i wr => ∃ n k : Nat, n ≤ a.length ∧ n ≤ b.length ∧ i = .int .i64 (n : Int) ∧ a.take n = b.take n ∧ wr = w.drewN k) (fun i _ => a.length - (intOf i).toNat)
  case atStart => exact ⟨0, 0, Nat.zero_le _, Nat.zero_le _, rfl, rfl, rfl⟩
  case round =>
    obtain ⟨n, k, h1, h2, rfl, heq, rfl⟩ := hrel
    have HE : Hid (a.take n = b.take n) := heq
    clear heq
    by_cases c1 : n < a.length
    · by_cases c2 : n < b.length
      · have d1 : (n : Int) < (a.length : Int) := by omega
        have d2 : (n : Int) < (b.length : Int) := by omega
        obtain ⟨b1, o1, rfl, m1⟩ := hA n _ (zA_get c1)
        obtain ⟨b2, o2, rfl, m2⟩ := hB n _ (zA_get c2)
        clear hA hB
        by_cases c3 : zA a n = zA b n
        · have HN : Hid (a.take (n + 1) = b.take (n + 1)) := (take_more c1 c2 HE.out).2 c3
          have c3b : (zA a n == zA b n) = true := by simp [c3]
          clear c3
          go_wp2_with fail
          go_quiet (fail)
          go_wp2
          go_roundw
          case rel => exact ⟨n + 1, k + nq, by omega, by omega, by go_num, HN.out, by simp⟩
          case measure => simp [intOf]; omega
        · have HC : Hid (comm a b = n) := comm_uniq ⟨h1, h2, HE.out, fun _ _ => c3⟩
          have c3b : (zA a n == zA b n) = false := by simp [c3]
          clear c3
          go_wp2_with fail
          go_quiet (fail)
          go_wp2
          go_ret2
          exact ⟨ret_pa (by rw [HC.out]), below_drewN (below_drewN (Below.refl _ _) k) nq⟩
      · have HC : Hid (comm a b = n) := comm_uniq ⟨h1, h2, HE.out, fun _ h => absurd h c2⟩
        have d1 : (n : Int) < (a.length : Int) := by omega
        have d2 : decide ((n : Int) < (b.length : Int)) = false := decide_eq_false (by omega)
        clear hA hB
        go_wp2_with fail
        go_quiet (fail)
        go_wp2
        go_ret2
        exact ⟨ret_pa (by rw [HC.out]), below_drewN (below_drewN (Below.refl _ _) k) nq⟩
    · have HC : Hid (comm a b = n) := comm_uniq ⟨h1, h2, HE.out, fun h => absurd h c1⟩
      have d1 : decide ((n : Int) < (a.length : Int)) = false := decide_eq_false (by omega)
      clear hA hB
      go_wp2_with fail
      go_quiet (fail)
      go_wp2
      go_ret2
      exact ⟨ret_pa (by rw [HC.out]), below_drewN (below_drewN (Below.refl _ _) k) nq⟩

set_option maxRecDepth 100000 in
set_option maxHeartbeats 2000000 in
theorem implPA_any (A B : Option Addr) (CA CB : Nat) (a b : List Int) (w : World) (hA : Ints w A a) (hB : Ints w B b) (lA : a.length ≤ maxLen) (lB : b.length ≤ maxLen) (sA : SlOk A a.length CA) (sB : SlOk B b.length CB) :
    Calls Try.prog 8 #[.slice A a.length CA, .slice B b.length CB] w fun e w' => e = .returned (paV (paR a b)) ∧ Below w.heap.size w w' := by
  cases g1 : goodE a with
  | false =>
    rw [paR_no (by rw [g1]; rfl)]
    have GL : Hid (goodE a = false) := g1
    clear g1
    go_enter Try.func8, Try.ntmps8
    go_wp2_with fail
    refine (implGoodE_any _ _ _ _ hA lA).mono ?_
    rintro r w1 ⟨hr, rfl⟩
    rw [GL.out] at hr; subst hr
    go_wp2
    go_ret2
    exact ⟨rfl, Below.refl _ _⟩
  | true =>
  cases g2 : goodE b with
  | false =>
    rw [paR_no (by rw [g1, g2]; rfl)]
    have GL : Hid (goodE a = true) := g1
    have GF : Hid (goodE b = false) := g2
    clear g1 g2
    go_enter Try.func8, Try.ntmps8
    go_wp2_with fail
    refine (implGoodE_any _ _ _ _ hA lA).mono ?_
    rintro r w1 ⟨hr, rfl⟩
    rw [GL.out] at hr; subst hr
    go_wp2_with fail
    refine (implGoodE_any _ _ _ _ hB lB).mono ?_
    rintro r w2 ⟨hr, rfl⟩
    rw [GF.out] at hr; subst hr
    go_wp2
    go_ret2
    exact ⟨rfl, Below.refl _ _⟩
  | true =>
  rw [paR_yes g1 g2]
  have nA := (goodE_t.1 g1).1
  have nB := (goodE_t.1 g2).1
  have GL : Hid (goodE a = true) := g1
  have GF : Hid (goodE b = true) := g2
  have hne := begNe_run
  have hgd := begGuard
  clear g1 g2
  go_enter Try.func8, Try.ntmps8
  go_wp2_with fail
  refine (implGoodE_any _ _ _ _ hA lA).mono ?_
  rintro r w1 ⟨hr, hw1⟩
  rw [GL.out] at hr; subst hr
  rw [hw1]
  clear hw1 w1
  go_wp2_with fail
  refine (implGoodE_any _ _ _ _ hB lB).mono ?_
  rintro r w2 ⟨hr, hw2⟩
  rw [GF.out] at hr; subst hr
  rw [hw2]
  clear hw2 w2
  go_wp2_with fail
  all_goals
    go_loopw [6] (fun i wr => ∃ n : Nat, n ≤ a.length ∧ n ≤ b.length ∧ i = .int .i64 (n : Int) ∧ (∀ m, n < m → m ≤ a.length → m ≤ b.length → a.take m ≠ b.take m) ∧ Below w.heap.size w wr) (fun i _ => (intOf i).toNat)
    case atStart => first | exact ⟨a.length, by omega, by omega, rfl, fun m h1 h2 => by omega, Below.refl _ _⟩ | exact ⟨b.length, by omega, by omega, rfl, fun m h1 h2 h3 => by omega, Below.refl _ _⟩
    case round =>
      obtain ⟨n, h1, h2, rfl, hm, BB⟩ := hrel
      have HM : Hid (∀ m, n < m → m ≤ a.length → m ≤ b.length → a.take m ≠ b.take m) := hm
      clear hm
      go_wp2_with fail
      refine (beginning_gen _ _ _ _ _ (hA.below BB) h1 nA sA).mono ?_
      rintro r w3 ⟨rfl, hB3⟩
      replace BB := BB.trans (hB3.mono BB.size)
      clear hB3
      go_wp2_with fail
      refine (beginning_gen _ _ _ _ _ (hB.below BB) h2 nB sB).mono ?_
      rintro r w4 ⟨rfl, hB4⟩
      replace BB := BB.trans (hB4.mono BB.size)
      clear hB4
      by_cases he : a.take n = b.take n
      · have hbe : begEq a b n = true := (begEq_iff h1 h2 nA).2 he
        have HC : Hid (comm a b = n) := comm_uniq ⟨h1, h2, he, fun g1 g2 e => HM.out (n + 1) (by omega) (by omega) (by omega) ((take_more g1 g2 he).2 e)⟩
        clear he
        go_wp2
        go_ret2
        exact ⟨ret_pa (by rw [HC.out]), BB⟩
      · have hbe : begEq a b n = false := by
          cases e : begEq a b n with
          | false => rfl
          | true => exact absurd ((begEq_iff h1 h2 nA).1 e) he
        have HN : Hid (a.take n ≠ b.take n) := he
        have hn0 : 0 < n := by
          rcases Nat.eq_zero_or_pos n with h | h
          · subst h; exact absurd rfl he
          · exact h
        clear he
        go_wp2
        go_roundw
        case rel =>
          refine ⟨n - 1, by omega, by omega, by first | go_num | (congr 1; omega), fun m g1 g2 g3 => ?_, BB⟩
          by_cases e : m = n
          · subst e; exact HN.out
          · exact HM.out m (by omega) g2 g3
        case measure => simp [intOf]; omega

end Go.Proofs.Ytgmcllfdhkjafaa
