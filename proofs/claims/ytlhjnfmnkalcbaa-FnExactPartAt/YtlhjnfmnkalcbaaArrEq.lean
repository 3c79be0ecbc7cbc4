/-
  Arrays of ints held against each other: '==' over two arrays says whether all their numbers are the same.
-/
import Derived.Test.YtlhjnfmnkalcbaaEpPart
namespace Go.Proofs.Ytlhjnfmnkalcbaa
open Go.RowKit

section
variable {P : Program}

theorem eqInts_run (w : World) (t e : TypeId) (len d : Nat) (X Y : Array Value) (f g : Nat → Int) (ht : P.underlying t = some (.array len e)) (he : P.underlying e = some (.int .i64)) (hsz : (P.info? e).map (·.size) = some 1)
    (hX : ∀ i, i < len → X[i]? = some (.int .i64 (f i))) (hY : ∀ i, i < len → Y[i]? = some (.int .i64 (g i))) :
    (Op.equalIn (d + 2) t (.agg X) (.agg Y)).run P w = .ok ((List.range' 0 len 1).all fun i => f i == g i) w := by
  have hs : ∀ w : World, (sizeOf e).run P w = .ok 1 w := fun w => by
    cases hq : P.info? e with
    | none => simp [hq] at hsz
    | some i =>
      have : i.size = 1 := by simpa [hq] using hsz
      simp [sizeOf, typeInfo, hq, this]
  rw [Op.equalIn.eq_def]
  simp only [Sem.run_bind, run_underlying ht, Result.andThen_ok, hs, Std.Legacy.Range.forIn_eq_forIn_range', Std.Legacy.Range.size, Nat.sub_zero, Nat.add_sub_cancel, Nat.div_one]
  have hl : ∀ i ∈ List.range' 0 len 1, i < len := fun i hi => by simpa using (List.mem_range'_1.1 hi).2
  generalize List.range' 0 len 1 = l at hl ⊢
  induction l with
  | nil => simp
  | cons i l ih =>
    have hi : i < len := hl i (by simp)
    have px : (part e X (i * 1)).run P w = .ok (.int .i64 (f i)) w := by simp [part, isAgg, run_underlying he, hX i hi]
    have py : (part e Y (i * 1)).run P w = .ok (.int .i64 (g i)) w := by simp [part, isAgg, run_underlying he, hY i hi]
    have pe : (Op.equalIn (d + 1) e (.int .i64 (f i)) (.int .i64 (g i))).run P w = .ok (f i == g i) w := run_equalIn_int w d e .i64 .i64 _ _ he
    simp only [List.forIn_cons, Sem.run_bind, px, py, pe, Result.andThen_ok, List.all_cons]
    cases hb : (f i == g i)
    · simp
    · simp only [Bool.not_true, Bool.false_eq_true, if_false, Sem.run_pure, Result.andThen_ok, Bool.true_and]
      exact ih fun j hj => hl j (by simp [hj])
end

def begEq (xs ys : List Int) (n : Nat) : Bool := (List.range' 0 30 1).all fun i => begZ xs n i == begZ ys n i

theorem begC_get (zs : List Int) (n i : Nat) (h : i < 30) : (begC zs n).toArray[i]? = some (.int .i64 (begZ zs n i)) := by
  simp [begC, h]

theorem begNe_run (xs ys : List Int) (n : Nat) (w : World) : (binOp .neq 58 (.agg (begC xs n).toArray) (.agg (begC ys n).toArray)).run Try.prog w = .ok (.bool (!begEq xs ys n)) w := by
  rw [run_neq_struct, show (10000 : Nat) = 9998 + 2 from rfl, eqInts_run w 58 3 30 9998 _ _ (begZ xs n) (begZ ys n) Try.underlying58 Try.underlying3 Try.sizeOne (begC_get xs n) (begC_get ys n)]
  rfl

theorem begGuard : Try.prog.eqGuardType Try.prog.depth 58 = false := by kernel_rfl

theorem begEq_iff {xs ys : List Int} {n : Nat} (h1 : n ≤ xs.length) (h2 : n ≤ ys.length) (h30 : xs.length ≤ 30) : begEq xs ys n = true ↔ xs.take n = ys.take n := by
  unfold begEq
  rw [List.all_eq_true]
  constructor
  · intro h
    apply List.ext_getElem?
    intro i
    by_cases hi : i < n
    · have := h i (by rw [List.mem_range'_1]; omega)
      simp only [begZ, if_pos hi, beq_iff_eq] at this
      rw [List.getElem?_take_of_lt hi, List.getElem?_take_of_lt hi, zA_get (by omega), zA_get (by omega), this]
    · rw [List.getElem?_eq_none (by rw [List.length_take]; omega), List.getElem?_eq_none (by rw [List.length_take]; omega)]
  · intro h i _
    by_cases hi : i < n
    · have e : (xs.take n)[i]? = (ys.take n)[i]? := by rw [h]
      rw [List.getElem?_take_of_lt hi, List.getElem?_take_of_lt hi, zA_get (by omega), zA_get (by omega)] at e
      simp only [begZ, if_pos hi]
      simpa using e
    · simp [begZ, hi]

end Go.Proofs.Ytlhjnfmnkalcbaa
