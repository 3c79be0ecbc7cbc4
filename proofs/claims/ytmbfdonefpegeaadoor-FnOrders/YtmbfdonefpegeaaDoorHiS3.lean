/-
  Histories, the specification's side: calls on an object, overlaps. Made by mkhis.py.
-/
import Derived.Test.YtmbfdonefpegeaaDoorHiS2J
import Derived.Test.YtmbfdonefpegeaaDoorZan
import Derived.Test.YtmbfdonefpegeaaDoorAppZ
namespace Go.Proofs.YtmbfdonefpegeaaDoor
open Go.RowKit

def clC (x : Cl) : List Value := [.int .i64 x.client, .int .i64 x.object, .bool x.write, .int .i64 x.value, .int .i64 x.beg, .int .i64 x.fin]
theorem clC_len (x : Cl) : (clC x).length = 6 := rfl
theorem clC_one (x : Cl) : ∀ u ∈ clC x, u.oneCell' = true := fun u hu => by simp [clC] at hu; rcases hu with rfl | rfl | rfl | rfl | rfl | rfl <;> rfl
theorem cls_of_owns {w : World} {B : Nat} {a : Option Addr} {c : Nat} {l : List Cl} (h : w.ownsRow B 53 6 (.slice a l.length c) l.length (l.flatMap clC)) : Cls w a l := fun i z hi => by
  obtain ⟨k, e, -, hc⟩ := ownZ_flat (C := clC) (s := 6) clC_len h i z hi
  exact ⟨k, 0, e, by simpa using hc 0 _ rfl, by simpa using hc 1 _ rfl, by simpa using hc 2 _ rfl, by simpa using hc 3 _ rfl, by simpa using hc 4 _ rfl, by simpa using hc 5 _ rfl⟩
theorem rowCl_of_owns {w : World} {B : Nat} {a : Option Addr} {c n : Nat} {xs : List Value} (h : w.ownsRow B 53 6 (.slice a n c) n xs) : RowCl w B a n := by
  by_cases h0 : n = 0
  · exact .inl h0
  · obtain ⟨g, cap, f, hv, hg, hn, hR, -⟩ := row_of_ownsZ h (by omega)
    simp only [Value.slice.injEq] at hv
    obtain ⟨rfl, -, rfl⟩ := hv
    exact .inr ⟨g, _, f, rfl, hg, Nat.mul_le_mul_right 6 hn, hR⟩

/-- Calls that are gathered. -/
structure ClSt (B : Nat) (w0 wr : World) (v : Value) (l : List Cl) : Prop where
  own : wr.ownsRow B 53 6 v l.length (l.flatMap clC)
  bel : Below w0.heap.size w0 wr

theorem clSt_below {B : Nat} {w0 wr wr' : World} {v : Value} {l : List Cl} (h : ClSt B w0 wr v l) (hb : Below wr.heap.size wr wr') : ClSt B w0 wr' v l := ⟨ownsZ_below h.own hb, h.bel.trans (hb.mono h.bel.size)⟩
theorem clSt_step {B : Nat} {w0 wr wr' : World} {v v' : Value} {l : List Cl} {x : Cl} (h : ClSt B w0 wr v l) (hB : w0.heap.size ≤ B) (hg : wr.grownBy wr' v.ownBlock) (ho : wr'.ownsRow B 53 6 v' (l.length + 1) (l.flatMap clC ++ clC x)) : ClSt B w0 wr' v' (l ++ [x]) := by
  refine ⟨?_, h.bel.grown hg h.bel.size (fun b hb => ?_)⟩
  · have e1 : (l ++ [x]).length = l.length + 1 := by simp
    have e2 : (l ++ [x]).flatMap clC = l.flatMap clC ++ clC x := by simp
    rw [e1, e2]; exact ho
  · exact Nat.le_trans hB (h.own.lt b hb).1

set_option maxRecDepth 100000 in
set_option maxHeartbeats 4000000 in
theorem specOnObject_any (z : Int) (a : Option Addr) (c : Nat) (l : List Cl) (w : World) (hs : Cls w a l) (hl : l.length ≤ maxLen) (hc : l.length ≤ c) :
    Calls Tryd.prog 13 #[.slice a l.length c, .int .i64 z] w fun r w' => ∃ a' c', r = .returned (.tuple #[.slice a' (onL l z).length c', .bool (onB l z)]) ∧ Cls w' a' (onL l z) ∧ RowCl w' w.heap.size a' (onL l z).length ∧ Below w.heap.size w w' := by
  have hl' := hl
  unfold maxLen at hl'
  obtain ⟨i0, hi, hz0, hz1, hz2⟩ := infoZ Tryd.infoCl
  cases hg : goodCl l with
  | false =>
    have HE : Hid (onL l z = [] ∧ onB l z = false) := by show _ ∧ _; simp [onL, onB, hg]
    go_enter Tryd.func13, Tryd.ntmps13
    go_wp2_with fail
    refine (specGoodCl_c _ _ _ _ hs hl hc _ hg).mono ?_
    rintro r w1 ⟨rfl, BB⟩
    go_wp2
    refine bodyPost_ret (v := .tuple #[.slice none 0 0, .bool false]) (by simp [results, Tryd.results13, go_sem]) rfl ⟨none, 0, by rw [HE.out.1, HE.out.2]; rfl, by rw [HE.out.1]; exact Cls.nil _ _, .inl (by rw [HE.out.1]; rfl), BB⟩
  | true =>
    cases ho : inB z 0 2 with
    | false =>
      have HE : Hid (onL l z = [] ∧ onB l z = false) := by show _ ∧ _; simp [onL, onB, ho]
      go_enter Tryd.func13, Tryd.ntmps13
      go_wp2_with fail
      refine (specGoodCl_c _ _ _ _ hs hl hc _ hg).mono ?_
      rintro r w1 ⟨rfl, BB⟩
      go_wp2_with (go_at_call 31; refine (l1In_c _ _ _ _ _ ho).mono ?_; rintro e w' ⟨rfl, hw⟩; rw [hw]; clear hw w')
      refine bodyPost_ret (v := .tuple #[.slice none 0 0, .bool false]) (by simp [results, Tryd.results13, go_sem]) rfl ⟨none, 0, by rw [HE.out.1, HE.out.2]; rfl, by rw [HE.out.1]; exact Cls.nil _ _, .inl (by rw [HE.out.1]; rfl), BB⟩
    | true =>
      have HE : Hid (onL l z = onTo l z l.length ∧ onB l z = true) := by show _ ∧ _; simp [onL, onB, hg, ho]
      have h7 := (goodCl_t hg).2
      go_enter Tryd.func13, Tryd.ntmps13
      go_wp2_with fail
      refine (specGoodCl_c _ _ _ _ hs hl hc _ hg).mono ?_
      rintro r w1 ⟨rfl, BB⟩
      go_wp2_with (go_at_call 31; refine (l1In_c _ _ _ _ _ ho).mono ?_; rintro e w' ⟨rfl, hw⟩; rw [hw]; clear hw w')
      go_loopw [6, 19] (fun v i wr => ∃ k : Nat, k ≤ l.length ∧ i = .int .i64 k ∧ ClSt w1.heap.size w1 wr v (onTo l z k)) (fun _ i _ => l.length - (intOf i).toNat)
      case atStart => exact ⟨0, Nat.zero_le _, rfl, ⟨World.ownsRow_nil _ _ _ _, Below.refl _ _⟩⟩
      case round =>
        obtain ⟨k, hk, rfl, hst⟩ := hrel
        obtain ⟨aw, cw, rfl⟩ := ownsZ_form hst.own
        have hzl := onTo_len l z k
        have hB := hst.bel
        have hsz := hB.size
        have B1 := stHi BB hB
        by_cases hlt : k < l.length
        · obtain ⟨mb, mo, ea, m0, m1, m2, m3, m4, m5⟩ := (hs.below B1) k _ (clA_get hlt)
          subst ea
          obtain ⟨x, hx⟩ : ∃ x, clA l k = x := ⟨_, rfl⟩
          have HX : Hid (clA l k = x) := hx
          rw [hx] at m0 m1 m2 m3 m4 m5
          clear hx
          have hki : (k : Int) < (l.length : Int) := by omega
          by_cases hob : x.object = z
          · have HN : Hid (onTo l z (k + 1) = onTo l z k ++ [x]) := by show _ = _; rw [onTo_t (by rw [HX.out]; exact hob), HX.out]
            have hd : (x.object == z) = true := by simp [hob]
            generalize onTo l z k = zs at *
            have hst2 : ∀ p q, ClSt w1.heap.size w1 ((wr.alloc p).alloc q) (.slice aw zs.length cw) zs := fun p q => clSt_below (clSt_below hst (alHi wr p)) (alHi _ q)
            clear hst hob
            go_wp2_with (at_builtin; refine wpList_append_lies _ rfl _ _ 23 rfl w1.heap.size 53 i0 _ 6 48 Tryd.underlying23 hi hz0 hz1 hz2 rfl (by decide) (.slice aw zs.length cw) zs.length (zs.flatMap clC) rfl (hst2 _ _).own ⟨wr.heap.size + 1, 0, none⟩ 1 1 (clC x) rfl rfl ?c1 (clC_one x) (by omega) ?c3 ?c4 ?c5 (wr.heap.size + 1 + 1) ?c6 ?_)
            case c1 => first | exact (fun j u h => h) | exact World.news_of_block (cs := #[.int .i64 x.client, .int .i64 x.object, .bool x.write, .int .i64 x.value, .int .i64 x.beg, .int .i64 x.fin]) (t := 53) (fr := (0, 0)) (by first | exact (heap_alloc_new (wr.alloc _) _) | simpa using (heap_alloc_new (wr.alloc _) _))
            case c3 => unfold maxLen; omega
            case c4 => omega
            case c5 => first | omega | (simp; omega)
            try (case c6 => simp)
            intro g4 cap4 w4 hown4 hgrow4 hat4 _
            have HS4 : Hid (ClSt w1.heap.size w1 w4 (.slice (some ⟨g4, 0, none⟩) (zs.length + 1) cap4) (zs ++ [x])) := clSt_step (hst2 _ _) (Nat.le_refl _) hgrow4 hown4
            clear hown4 hgrow4 hat4 hst2 m0 m1 m2 m3 m4 m5
            go_wp2_with fail
            go_roundw
            case rel => exact ⟨k + 1, by omega, by go_num, by rw [HN.out]; exact HS4.out⟩
            case measure => simp [intOf]; omega
          · have HN : Hid (onTo l z (k + 1) = onTo l z k) := onTo_f (by rw [HX.out]; exact hob)
            have hd : (x.object == z) = false := by simp [hob]
            generalize onTo l z k = zs at *
            have HS : Hid (∀ p, ClSt w1.heap.size w1 (wr.alloc p) (.slice aw zs.length cw) zs) := fun p => clSt_below hst (alHi wr p)
            clear hst hob
            go_wp2
            go_roundw
            case rel => exact ⟨k + 1, by omega, by go_num, by rw [HN.out]; exact HS.out _⟩
            case measure => simp [intOf]; omega
        · obtain rfl : k = l.length := by omega
          have HC := cls_of_owns hst.own
          have HR := rowCl_of_owns hst.own
          rw [← HE.out.1] at HC HR
          obtain ⟨n, hn⟩ : ∃ n, (onTo l z l.length).length = n := ⟨_, rfl⟩
          have HN : Hid ((onL l z).length = n) := by show _ = _; rw [HE.out.1]; exact hn
          rw [hn]
          clear hn hst
          go_wp2
          refine bodyPost_ret (v := .tuple #[.slice aw n cw, .bool true]) (by simp [results, Tryd.results13, go_sem]) rfl ⟨aw, cw, by rw [HN.out, HE.out.2], HC, HR.mono BB.size, B1⟩

end Go.Proofs.YtmbfdonefpegeaaDoor
