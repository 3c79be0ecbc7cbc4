/-
  The walk of the law FnExactReadLog: at every text it answers true and leaves what was there as it was, where the sum's table is laid.
-/
import Derived.Test.YtgjfjobglhekbaaDoorReadSpec
import Derived.Test.YtgjfjobglhekbaaDoorMarkLog2
namespace Go.Proofs.YtgjfjobglhekbaaDoor
open Go.RowKit

theorem readR_len (l : List UInt8) : ∀ (k : Nat) (p : Option Bt) (n : Nat), n ≤ l.length → 2 * (readR l k p n).1.length + n ≤ l.length
  | 0, p, n, h => by simpa [readR] using h
  | k + 1, p, n, h => by
    unfold readR
    cases hs : specTake l n with
    | none => simpa using h
    | some x =>
      obtain ⟨b, e⟩ := x
      have he := specTake_end2 hs
      by_cases hf : followB p b = true
      · have := readR_len l k (some b) e he.2
        simp only [hf, if_true, List.length_cons]
        omega
      · simp only [hf]
        simpa using h

theorem kTo_le : ∀ (qs : List Q) (k : Nat), (∀ q, q ∈ qs → q.b.recs.length ≤ 8) → kTo qs k ≤ k + 12 * qs.length
  | [], k, _ => by simp [kTo]
  | q :: r, k, h => by
    have h1 := kTo_le r (k + 4 + q.b.recs.length) (fun p hp => h p (List.mem_cons_of_mem _ hp))
    have h2 := h q List.mem_cons_self
    simp only [kTo, List.length_cons]
    omega

theorem RdAns.form {w w' : World} {bs : List Bt} {z : Int} {ok : Bool} {r : Ending} (h : RdAns w bs z ok r w') :
    ∃ qs a c, r = .returned (.tuple #[.slice a bs.length c, .int .i64 z, .bool ok]) ∧ qs.length = bs.length ∧ Bats w' a bs ∧ RdSt w w' (.slice a qs.length c) qs := by
  obtain ⟨qs, a, c, rfl, rfl, hst⟩ := h
  exact ⟨qs, a, c, by rw [qsB_len], (qsB_len qs).symm, rd_bats hst, hst⟩

theorem Below.stepR {W a b : World} (h : Below W.heap.size W a) (k : Below a.heap.size a b) : Below W.heap.size W b := h.trans (k.mono h.size)

set_option maxRecDepth 100000 in
set_option maxHeartbeats 4000000 in
theorem lawRead_walk (s : ByteArray) (bs : List Bt) (z : Int) (ok : Bool) (w : World) (_hl : s.size ≤ maxLen) (hb : bs.length ≤ 300) (hTab : TabAt w)
    (HS : Calls Tryd.prog 10 #[.string s] w fun r w' => RdAns w bs z ok r w')
    (HI0 : ∀ w, TabAt w → Calls Tryd.prog 11 #[.string s] w fun r w' => RdAns w bs z ok r w') :
    Calls Tryd.prog 4 #[.string s] w fun r w' => r = .returned (.bool true) ∧ Below w.heap.size w w' := by
  have hw0 : 0 < w.heap.size := lt_of_cell (hTab 0 (by omega))
  have hbm : bs.length ≤ maxLen := by unfold maxLen; omega
  have hT : (ok != ok) = false := by cases ok <;> rfl
  have hZ : (z != z) = false := by simp
  have HI : Hid (∀ w, TabAt w → Calls Tryd.prog 11 #[.string s] w fun r w' => RdAns w bs z ok r w') := HI0
  clear HI0
  by_cases hbig : (1048576 : Int) < s.size
  · clear HS
    go_enter Tryd.func4, Tryd.ntmps4
    go_wp2
    go_ret
    exact ⟨rfl, Below.refl _ _⟩
  go_enter Tryd.func4, Tryd.ntmps4
  go_wp2_with fail
  refine HS.mono ?_
  intro r w1 hr
  obtain ⟨qw, aw, cw, rfl, hlw, HW, hsw⟩ := hr.form
  have BB := hsw.bel
  have HB1 : Hid (Below w.heap.size w w1) := BB
  clear HS hr hsw hlw
  go_wp2_with fail
  refine (HI.out _ (hTab.below BB hw0)).mono ?_
  intro r w2 hr
  obtain ⟨qg, ag, cg, rfl, hlg, HG, hsg⟩ := hr.form
  have T2 := hsg.bel
  have h8 : ∀ q, q ∈ qg → q.b.recs.length ≤ 8 := fun q hq => (hsg.recs q hq).2.2
  have hk := kTo_le qg 1 h8
  have hk9 : kTo qg 1 ≤ 1000000000 := by omega
  have hq4 : qg.length ≤ 1000000 := by omega
  clear hr BB h8 hk
  go_wp2_with fail
  refine (eqBatchS_same _ _ _ _ bs _ HG (HW.below T2) hbm).mono ?_
  rintro r w3 ⟨rfl, hB3⟩
  have T3 := Below.stepR T2 hB3
  have hsg3 := rd_below hsg hB3
  have hmk := markBatchS_any ag cg w1.heap.size 1 qg w3 w1 hsg3 rfl (by omega) hk9 T3.size hq4
  rw [hlg] at hmk
  clear hB3 HG hsg hsg3
  go_wp2_with fail
  refine hmk.mono ?_
  rintro r w4 ⟨rfl, HM, hB4, -⟩
  have T4 := T3.trans hB4
  have hpos := kTo_ge qg 1
  obtain ⟨K, hK⟩ : ∃ K, kTo qg 1 = K := ⟨_, rfl⟩
  have hm : ((K : Int) != (K : Int)) = false := by simp
  have hp : ¬ ((K : Int) < 0) := by omega
  have hh := fun (u : World) (hu : Bats u ag (markQs qg 1)) => heldBatchS_any ag cg 1 qg u hu (by omega) hk9 hq4
  rw [hlg, hK] at hh
  have HH : Hid (∀ (u : World), Bats u ag (markQs qg 1) → Calls Tryd.prog 14 #[.slice ag bs.length cg, .int .i64 ((1 : Nat) : Int)] u fun r w' => r = .returned (.int .i64 (K : Int)) ∧ Below u.heap.size u w') := hh
  rw [hK]
  clear hB4 hmk hh hpos hk9 hK
  go_wp2_with fail
  refine (HH.out _ HM).mono ?_
  rintro r w5 ⟨rfl, hB5⟩
  have T5 := Below.stepR T4 hB5
  have HM := HM.below hB5
  have hTb5 : TabAt w5 := hTab.below (HB1.out.trans (T5.mono HB1.out.size)) hw0
  clear hB5
  go_wp2_with fail
  refine (HI.out _ hTb5).mono ?_
  intro r w6 hr
  obtain ⟨qh, ah, ch, rfl, -, HHs, hsh⟩ := hr.form
  have T6 := Below.stepR T5 hsh.bel
  have HM := HM.below hsh.bel
  clear hr hsh HI hTb5
  go_wp2_with fail
  refine (eqBatchS_same _ _ _ _ bs _ HHs (HW.below T6) hbm).mono ?_
  rintro r w7 ⟨rfl, hB7⟩
  have T7 := Below.stepR T6 hB7
  have HM := HM.below hB7
  clear hB7 HHs HW
  go_wp2_with fail
  refine (HH.out _ HM).mono ?_
  rintro r w8 ⟨rfl, hB8⟩
  have T8 := Below.stepR T7 hB8
  have BE : Below w.heap.size w w8 := HB1.out.trans (T8.mono HB1.out.size)
  clear hB8 HM
  go_wp2
  go_ret
  exact ⟨rfl, BE⟩

theorem lawRead_any (s : ByteArray) (w : World) (hl : s.size ≤ maxLen) (hTab : TabAt w) :
    Calls Tryd.prog 4 #[.string s] w fun r w' => r = .returned (.bool true) ∧ Below w.heap.size w w' := by
  refine lawRead_walk s _ _ _ w hl ?_ hTab (specRead_any s w hl) (fun w hT => implReadAll_any s w hl hT)
  by_cases h6 : s.size ≤ 600
  · rw [if_pos h6]
    have := readR_len s.data.toList (s.data.toList.length + 1) none 0 (Nat.zero_le _)
    rw [size_len] at this
    have e : (readL s.data.toList).1 = (readR s.data.toList (s.size + 1) none 0).1 := by unfold readL; rw [size_len]
    rw [e]
    omega
  · rw [if_neg h6]; simp

end Go.Proofs.YtgjfjobglhekbaaDoor
