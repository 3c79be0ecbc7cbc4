/-
  Two clocks joined, the specification's side: the contracts of spec.l7Join, spec.JoinClocks; impl.JoinClocks.
-/
import Derived.Test.YtambbgpofmojnaaClk2
namespace Go.Proofs.Ytambbgpofmojnaa
open Go.RowKit

theorem owns_none {w : World} {B g : Nat} {t : TypeId} {size : Nat} (h : w.heap[g]? = some (.cells #[] t (0, 0))) (hg : B ≤ g) : w.ownsRow B t size (.slice (some ⟨g, 0, none⟩) 0 0) 0 [] := by
  refine ⟨by simp, .inr ⟨g, 0, #[], rfl, hg, h, Nat.le_refl _, ?_, by simp, by simp⟩⟩
  unfold maxLen; omega

theorem news_all {w : World} {g o : Nat} {zs : List Int} (h : Ints w (some ⟨g, o, none⟩) zs) : ∀ j u, (zCells zs)[j]? = some u → w.cell? ((⟨g, o, none⟩ : Addr).add j) = some u := fun j u hu => by
  simp only [zCells, List.getElem?_map, Option.map_eq_some_iff] at hu
  obtain ⟨z, hz, rfl⟩ := hu
  obtain ⟨b, o', e, hc⟩ := h j z hz
  simp only [Option.some.injEq, Addr.mk.injEq, and_true] at e
  obtain ⟨rfl, rfl⟩ := e
  rw [Go.WideShapes.add_plain]; exact hc

/-- A list of numbers in memory of the call's own. -/
def IAns (w : World) (zs : List Int) (r : Ending) (w' : World) : Prop :=
  ∃ a c, r = .returned (.slice a zs.length c) ∧ Ints w' a zs ∧ RowI w' w.heap.size a zs.length ∧ Below w.heap.size w w'

theorem ints_fn {w : World} {g m : Nat} {f : Nat → Value} {zs : List Int} (hR : w.rowIs g 3 m f) (hm : zs.length ≤ m) (hf : ∀ i, i < zs.length → f i = .int .i64 (zA zs i)) : Ints w (some ⟨g, 0, none⟩) zs :=
  Ints.of_row hR hm fun i z hi => by
    have hlt := (List.getElem?_eq_some_iff.1 hi).1
    rw [hf i hlt, zA_some hi]

set_option maxRecDepth 100000 in
set_option maxHeartbeats 2000000 in
theorem l7Join_any (b off c : Nat) (a2 : Option Addr) (c2 n : Nat) (xs ys : List Int) (w : World) (hx : Ints w (some ⟨b, off, none⟩) xs) (hy : Ints w a2 ys) (h1 : xs.length = n) (h2 : ys.length = n) (hn0 : 1 ≤ n) (hn : n ≤ 100) :
    Calls Try.prog 41 #[.slice (some ⟨b, off, none⟩) n c, .slice a2 n c2] w fun r w' => IAns w (joinL xs ys n) r w' := by
  obtain ⟨i0, hi, hz0, hz1, hz2⟩ := info_partsC Try.infoInt
  have HX : Hid (xs.length = n) := h1
  have HY : Hid (ys.length = n) := h2
  have hlen : (zCells xs).length = n * 1 := by rw [zCells_len, h1]
  have hal : ∀ o, Below w.heap.size w (w.alloc o) := fun o => (Below.refl _ _).alloc (Nat.le_refl _) o
  have hxa := fun o => hx.below (hal o)
  clear h1 h2
  go_enter Try.func41, Try.ntmps41
  go_wp2_with (at_builtin; refine wpList_append_lies _ rfl _ _ 29 rfl w.heap.size 3 i0 _ 1 8 Try.underlying29 hi hz0 hz1 hz2 rfl (by decide) (.slice (some ⟨w.heap.size, 0, none⟩) 0 0) 0 [] rfl (owns_none ?c0 (Nat.le_refl _)) ⟨b, off, none⟩ n c (zCells xs) rfl hlen ?c1 ?c2 (by omega) ?c3 ?c4 ?c5 (w.heap.size + 1) ?c6 ?_)
  case c0 => first | exact (heap_alloc_new w _) | simpa using (heap_alloc_new w _)
  case c1 => exact news_all (hxa _)
  case c2 => exact zCells_one _
  case c3 => unfold maxLen; omega
  case c4 => omega
  case c5 => first | omega | (simp; omega) | simp
  try (case c6 => simp)
  intro g4 cap4 w4 hown4 hgrow4 hat4 _
  have hB4 : Below w.heap.size w w4 := (hal _).grown hgrow4 (by simp) (fun k hk => by simp [Value.ownBlock] at hk; omega)
  try simp only [Nat.zero_add, List.nil_append] at hown4
  obtain ⟨g, cap, f, hv, hg, hnc, hR, hxs⟩ := row_of_ownsZ hown4 (by omega)
  simp only [Value.slice.injEq, Option.some.injEq, Addr.mk.injEq, and_true, true_and] at hv
  obtain ⟨rfl, rfl⟩ := hv
  rw [Nat.mul_one] at hR
  have hf0 : ∀ i, i < n → f i = .int .i64 (zA xs i) := fun i hin => by
    have e := hxs i (by omega)
    rw [zCells_get (zA_get (by have := HX.out; omega))] at e
    exact (Option.some.inj e).symm
  clear hown4 hgrow4 hat4 hxs hxa hal hx
  have HR0 : Hid (∃ f, w4.rowIs g4 3 cap4 f ∧ ∀ i, i < n → f i = .int .i64 (if i < 0 then max (zA xs i) (zA ys i) else zA xs i)) := ⟨f, hR, fun i hin => by rw [hf0 i hin]; simp⟩
  clear hR hf0 hlen
  go_wp2
  go_loopw [13] (fun i wr => ∃ k : Nat, k ≤ n ∧ i = .int .i64 k ∧ (∃ f, wr.rowIs g4 3 cap4 f ∧ ∀ i, i < n → f i = .int .i64 (if i < k then max (zA xs i) (zA ys i) else zA xs i)) ∧ Below w.heap.size w wr) (fun i _ => n - (intOf i).toNat)
  case atStart => exact ⟨0, Nat.zero_le _, rfl, HR0.out, hB4⟩
  case round =>
    clear HR0 hB4
    obtain ⟨k, hk, rfl, ⟨f, hR, hf⟩, hB⟩ := hrel
    by_cases hlt : k < n
    · obtain ⟨yb, yo, rfl, d1⟩ := (hy.below hB) k _ (zA_get (by have := HY.out; omega))
      have d0 := hR.cell (i := k) (by omega)
      rw [hf k hlt, if_neg (by omega)] at d0
      have z0 := hR.frozen k
      have hk0 : (0 : Int) ≤ (k : Int) := by omega
      have hk1 : (k : Int) < (n : Int) := by omega
      have HR : Hid (wr.rowIs g4 3 cap4 f) := hR
      have HF : Hid (∀ i, i < n → f i = .int .i64 (if i < k then max (zA xs i) (zA ys i) else zA xs i)) := hf
      clear hR hf hy
      by_cases hgt : zA xs k < zA ys k
      · have HM : Hid (max (zA xs k) (zA ys k) = zA ys k) := by show _ = _; omega
        go_wp2
        go_roundw
        case rel =>
          refine ⟨k + 1, by omega, by go_num, ⟨_, HR.out.set k _, fun i hin => ?_⟩, hB.setCell (by omega) _⟩
          by_cases e : i = k
          · subst e; rw [if_pos rfl, if_pos (by omega), HM.out]
          · rw [if_neg e, HF.out i hin]
            by_cases h2 : i < k
            · rw [if_pos h2, if_pos (by omega)]
            · rw [if_neg h2, if_neg (by omega)]
        case measure => simp [intOf]; omega
      · have HM : Hid (max (zA xs k) (zA ys k) = zA xs k) := by show _ = _; omega
        go_wp2
        go_roundw
        case rel =>
          refine ⟨k + 1, by omega, by go_num, ⟨f, HR.out, fun i hin => ?_⟩, hB⟩
          rw [HF.out i hin]
          by_cases e : i = k
          · subst e; rw [if_neg (by omega), if_pos (by omega), HM.out]
          · by_cases h2 : i < k
            · rw [if_pos h2, if_pos (by omega)]
            · rw [if_neg h2, if_neg (by omega)]
        case measure => simp [intOf]; omega
    · obtain rfl : k = n := by omega
      go_wp2
      go_ret
      refine ⟨some ⟨g4, 0, none⟩, cap4, by rw [joinL_len]; rfl, ints_fn hR (by rw [joinL_len]; exact hnc) (fun i hi' => ?_), .inr ⟨g4, cap4, f, rfl, hg, by rw [joinL_len]; exact hnc, hR⟩, hB⟩
      rw [joinL_len] at hi'
      rw [hf i hi', if_pos hi', joinL_at hi']

def jcL (xs ys : List Int) : List Int := if goodCC xs ys then joinL xs ys xs.length else []
theorem jcL_len (xs ys : List Int) : (jcL xs ys).length ≤ 1000000 := by
  unfold jcL
  split
  · rename_i h
    unfold goodCC at h
    rw [Bool.and_eq_true, Bool.and_eq_true] at h
    have := (goodC_t.1 h.2.1).2.2
    rw [joinL_len]; omega
  · simp

theorem goodCC_t {xs ys : List Int} (h : goodCC xs ys = true) : xs.length = ys.length ∧ goodC xs = true ∧ goodC ys = true := by
  unfold goodCC at h
  rw [Bool.and_eq_true, Bool.and_eq_true, decide_eq_true_eq] at h
  exact h

/-- What a function answers that gathers numbers, and whether it could. -/
def JAnsB (w : World) (zs : List Int) (ok : Bool) (r : Ending) (w' : World) : Prop :=
  ∃ a c, r = .returned (.tuple #[.slice a zs.length c, .bool ok]) ∧ Ints w' a zs ∧ RowI w' w.heap.size a zs.length ∧ Below w.heap.size w w'
theorem jans_nil {w w' : World} {ok : Bool} (h : Below w.heap.size w w') : JAnsB w [] ok (.returned (.tuple #[.slice none 0 0, .bool ok])) w' :=
  ⟨none, 0, rfl, Ints.nil _ _, .inl rfl, h⟩

set_option maxRecDepth 100000 in
set_option maxHeartbeats 2000000 in
theorem implJC_any (a a2 : Option Addr) (xs ys : List Int) (w : World) (hx : Ints w a xs) (hy : Ints w a2 ys) (hl : xs.length ≤ maxLen) (hl2 : ys.length ≤ maxLen) :
    Calls Try.prog 31 #[.slice a xs.length xs.length, .slice a2 ys.length ys.length] w fun r w' => JAnsB w (jcL xs ys) (goodCC xs ys) r w' := by
  go_enter Try.func31, Try.ntmps31
  go_wp2_with fail
  refine (goodClocks_any a a2 _ _ xs ys _ hx hy hl hl2).mono ?_
  rintro r w1 ⟨hr, hw1⟩
  rw [hw1]
  clear hw1 w1
  generalize hg : goodCC xs ys = g at hr
  have HG : Hid (goodCC xs ys = g) := hg
  have HL : Hid (jcL xs ys = if g then joinL xs ys xs.length else []) := by show _ = _; unfold jcL; rw [hg]
  clear hg
  subst hr
  cases g with
  | false =>
    clear hx hy
    go_wp2
    go_ret2
    rw [HG.out, HL.out]
    exact jans_nil (Below.refl _ _)
  | true =>
    obtain ⟨e1, g1, g2⟩ := goodCC_t HG.out
    obtain ⟨o1, l1, l2⟩ := goodC_t.1 g1
    obtain ⟨o2, -, -⟩ := goodC_t.1 g2
    have hjc := joinedClock_any a a2 xs.length ys.length xs.length xs ys w hx hy rfl e1.symm (by omega) o1 (by rw [e1]; exact o2)
    rw [← e1]
    rw [← e1] at hjc
    clear hx hy o1 o2 e1 g1 g2
    go_wp2_with (go_at_call 42; refine hjc.mono ?_; rintro r w2 ⟨v, rfl, hst⟩; obtain ⟨av, cv, rfl, -, -⟩ := ownsZ_cap hst.own)
    go_ret2
    rw [HG.out, HL.out]
    exact ⟨av, cv, rfl, (ints_of_owns hst.own).1, (ints_of_owns hst.own).2, hst.bel⟩

set_option maxRecDepth 100000 in
set_option maxHeartbeats 2000000 in
theorem specJC_any (a a2 : Option Addr) (xs ys : List Int) (w : World) (hx : Ints w a xs) (hy : Ints w a2 ys) (hl : xs.length ≤ maxLen) (hl2 : ys.length ≤ maxLen) :
    Calls Try.prog 30 #[.slice a xs.length xs.length, .slice a2 ys.length ys.length] w fun r w' => JAnsB w (jcL xs ys) (goodCC xs ys) r w' := by
  generalize hg1 : goodC xs = g1
  generalize hg2 : goodC ys = g2
  have HG1 : Hid (goodC xs = g1) := hg1
  have HG2 : Hid (goodC ys = g2) := hg2
  have HCC : Hid (goodCC xs ys = (decide (xs.length = ys.length) && (g1 && g2))) := by show _ = _; unfold goodCC; rw [hg1, hg2]
  clear hg1 hg2
  cases g1 with
  | false =>
    have HF : Hid (goodCC xs ys = false) := by show _ = _; rw [HCC.out]; simp
    go_enter Try.func30, Try.ntmps30
    go_wp2_with (go_at_call 49; refine (l7Clock_any a _ xs _ hx hl).mono ?_; rintro r w1 ⟨hr, hw1⟩; rw [HG1.out] at hr; subst hr; rw [hw1]; clear hw1 w1)
    go_ret2
    unfold jcL
    rw [HF.out]
    exact jans_nil (Below.refl _ _)
  | true =>
  cases g2 with
  | false =>
    have HF : Hid (goodCC xs ys = false) := by show _ = _; rw [HCC.out]; simp
    go_enter Try.func30, Try.ntmps30
    go_wp2_with (first | (go_at_call_of 49 (Value.slice a xs.length xs.length); refine (l7Clock_any a _ xs _ hx hl).mono ?_; rintro r w1 ⟨hr, hw1⟩; rw [HG1.out] at hr; subst hr; rw [hw1]; clear hw1 w1) | (go_at_call 49; refine (l7Clock_any a2 _ ys _ hy hl2).mono ?_; rintro r w1 ⟨hr, hw1⟩; rw [HG2.out] at hr; subst hr; rw [hw1]; clear hw1 w1))
    go_ret2
    unfold jcL
    rw [HF.out]
    exact jans_nil (Below.refl _ _)
  | true =>
  by_cases hn : xs.length = ys.length
  · have HT : Hid (goodCC xs ys = true) := by show _ = _; rw [HCC.out, decide_eq_true hn]; rfl
    have hd : ((xs.length : Int) != (ys.length : Int)) = false := by simp [hn]
    obtain ⟨o1, l1, l2⟩ := goodC_t.1 HG1.out
    obtain ⟨x0, hx0⟩ := getInt (zs := xs) (k := 0) (by omega)
    obtain ⟨b, off, rfl, -⟩ := hx 0 _ hx0
    have hj := l7Join_any b off xs.length a2 ys.length xs.length xs ys w hx hy rfl hn.symm l1 (by omega)
    have HL : Hid (jcL xs ys = joinL xs ys xs.length) := by show _ = _; unfold jcL; rw [HT.out]; rfl
    have hjl : (joinL xs ys xs.length).length = xs.length := joinL_len _ _ _
    have HJL : Hid ((joinL xs ys xs.length).length = xs.length) := hjl
    have hlen : xs.length ≤ 5 := l2
    have hlm : ys.length ≤ 5 := by omega
    have h1 := fun u => l7Clock_any (some ⟨b, off, none⟩) xs.length xs u
    have h2 := fun u => l7Clock_any a2 ys.length ys u
    rw [← hn] at hj h2 hd ⊢
    clear hn o1 hx0 hjl
    generalize joinL xs ys xs.length = zs at *
    go_enter Try.func30, Try.ntmps30
    go_wp2_with (first | (go_at_call_of 49 (Value.slice (some ⟨b, off, none⟩) xs.length xs.length); refine (h1 _ hx hl).mono ?_; rintro r w1 ⟨hr, hw1⟩; rw [HG1.out] at hr; subst hr; rw [hw1]; clear hw1 w1) | (go_at_call 49; refine (h2 _ hy hl).mono ?_; rintro r w1 ⟨hr, hw1⟩; rw [HG2.out] at hr; subst hr; rw [hw1]; clear hw1 w1) | (go_at_call 41; refine hj.mono ?_; rintro r w2 ⟨av, cv, rfl, hI, hR, hB⟩))
    go_ret2
    rw [HT.out, HL.out]
    exact ⟨av, cv, rfl, hI, hR, hB⟩
  · have HF : Hid (goodCC xs ys = false) := by show _ = _; rw [HCC.out, decide_eq_false hn]; rfl
    have hd : ((xs.length : Int) != (ys.length : Int)) = true := by simp; omega
    clear hn
    go_enter Try.func30, Try.ntmps30
    go_wp2_with (first | (go_at_call_of 49 (Value.slice a xs.length xs.length); refine (l7Clock_any a _ xs _ hx hl).mono ?_; rintro r w1 ⟨hr, hw1⟩; rw [HG1.out] at hr; subst hr; rw [hw1]; clear hw1 w1) | (go_at_call 49; refine (l7Clock_any a2 _ ys _ hy hl2).mono ?_; rintro r w1 ⟨hr, hw1⟩; rw [HG2.out] at hr; subst hr; rw [hw1]; clear hw1 w1))
    go_ret2
    unfold jcL
    rw [HF.out]
    exact jans_nil (Below.refl _ _)

end Go.Proofs.Ytambbgpofmojnaa
