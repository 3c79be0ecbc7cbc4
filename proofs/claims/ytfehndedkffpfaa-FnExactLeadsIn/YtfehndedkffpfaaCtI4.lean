/-
  The control, the program's side: which parts one leads, impl.LeadsIn, impl.OfflineParts. Made by mkcti.py.
-/
import Derived.Test.YtfehndedkffpfaaCtI3
namespace Go.Proofs.Ytfehndedkffpfaa
open Go.RowKit

set_option maxRecDepth 100000 in
set_option maxHeartbeats 4000000 in
theorem partsLedBy_any (a : Option Addr) (c : Nat) (l : List Pn) (z : Int) (w : World) (hs : Pns w a l) (hl : l.length ≤ 1000000) :
    Calls Try.prog 68 #[.slice a l.length c, .int .i64 z] w fun r w' => ZAns w (placesL (fun p : Pn => decide (p.leader = z)) l) r w' := by
  obtain ⟨i0, hi, hz0, hz1, hz2⟩ := infoZ Try.infoInt
  go_enter Try.func68, Try.ntmps68
  go_wp2
  go_loopw [5, 10] (fun v i wr => ∃ (k n : Nat) (ys : List Int), k ≤ l.length ∧ n ≤ k ∧ i = .int .i64 k ∧ Hid (placesTo (fun p : Pn => decide (p.leader = z)) l k = ys) ∧ ZSn w.heap.size w wr v n ys) (fun _ i _ => l.length - (intOf i).toNat)
  case atStart => exact ⟨0, 0, [], Nat.zero_le _, Nat.zero_le _, rfl, rfl, ⟨⟨World.ownsRow_nil _ _ _ _, Below.refl _ _⟩, rfl⟩⟩
  case round =>
    obtain ⟨k, n, ys, hk, hnk, rfl, HY, hst⟩ := hrel
    obtain ⟨aw, cw, rfl⟩ := hst.form
    have hB := hst.1.bel
    have hsz := hB.size
    by_cases hlt : k < l.length
    · obtain ⟨p, hkp⟩ := getPn hlt
      obtain ⟨K, O, rfl, r0, k0, r1, k1, d0, d1, d2, d3, d4, -, -, -, -⟩ := (hs.below hB) k p hkp
      have HK : Hid (l[k]? = some p) := hkp
      have hki : (k : Int) < (l.length : Int) := by omega
      clear hkp
      cases g : (p.leader == z) with
      | false =>
        have HN : Hid (placesTo (fun p : Pn => decide (p.leader = z)) l (k + 1) = ys) := (placesTo_f HK.out (by rw [decide_eq_false_iff_not]; simpa using g)).trans HY.out
        have HS : Hid (∀ x, ZSn w.heap.size w (wr.alloc x) (.slice aw n cw) n ys) := fun x => hst.below (alCt wr x)
        clear hst
        go_wp2
        go_roundw
        case rel => exact ⟨k + 1, n, ys, by omega, by omega, by go_num, HN.out, HS.out _⟩
        case measure => simp [intOf]; omega
      | true =>
        have HN : Hid (placesTo (fun p : Pn => decide (p.leader = z)) l (k + 1) = ys ++ [(k : Int)]) := by show _ = _; rw [placesTo_t HK.out (by rw [decide_eq_true_eq]; simpa using g), HY.out]
        have hst2 : ∀ x y, ZSn w.heap.size w ((wr.alloc x).alloc y) (.slice aw n cw) n ys := fun x y => (hst.below (alCt wr x)).below (alCt _ y)
        clear hst
        go_wp2_with (at_builtin; refine wpList_append_lies _ rfl _ _ 39 rfl w.heap.size 3 i0 _ 1 8 Try.underlying39 hi hz0 hz1 hz2 rfl (by decide) (.slice aw n cw) n (zCells ys) rfl (hst2 _ _).own ⟨wr.heap.size + 1, 0, none⟩ 1 1 (zCells [(k : Int)]) rfl rfl ?c1 ?c2 (by omega) ?c3 ?c4 ?c5 (wr.heap.size + 1 + 1) ?c6 ?_)
        case c1 => first | exact (fun j u h => h) | exact World.news_of_block (cs := #[.int .i64 (k : Int)]) (t := 3) (fr := (0, 0)) (by first | exact (heap_alloc_new (wr.alloc _) _) | simpa using (heap_alloc_new (wr.alloc _) _))
        case c2 => simp [zCells, Value.oneCell']
        case c3 => unfold maxLen; omega
        case c4 => omega
        case c5 => first | omega | (simp; omega)
        try (case c6 => simp)
        intro g4 cap4 w4 hown4 hgrow4 hat4 _
        have HS4 : Hid (ZSn w.heap.size w w4 (.slice (some ⟨g4, 0, none⟩) (n + 1) cap4) (n + 1) (ys ++ [(k : Int)])) := (hst2 _ _).step (q := (k : Int)) (Nat.le_refl _) hgrow4 hown4
        clear hown4 hgrow4 hat4 hst2
        go_wp2_with fail
        go_roundw
        case rel => exact ⟨k + 1, n + 1, ys ++ [(k : Int)], by omega, by omega, by go_num, HN.out, HS4.out⟩
        case measure => simp [intOf]; omega
    · obtain rfl : k = l.length := by omega
      have HE : Hid (ZAns w (placesL (fun p : Pn => decide (p.leader = z)) l) (.returned (.slice aw n cw)) wr) := by
        show ZAns _ _ _ _
        unfold placesL
        rw [HY.out]
        exact zans_of hst.1
      go_wp2
      go_ret
      exact HE.out

set_option maxRecDepth 100000 in
set_option maxHeartbeats 4000000 in
theorem implOfflineParts_any (s : Ct) (a0 a1 : Option Addr) (c0 c1 : Nat) (w : World) (hs : CtR w s a0 a1) (hb : CtB s) :
    Calls Try.prog 36 #[ctV s a0 c0 a1 c1] w fun e w' => ∃ a' c', e = .returned (.tuple #[.slice a' (offL s).length c', .bool (goodCt s)]) ∧ Ints w' a' (offL s) ∧ RowI w' w.heap.size a' (offL s).length ∧ Below w.heap.size w w' := by
  have hl := hb.len
  obtain ⟨u0, hu0⟩ : ∃ u, (w.alloc (.cells #[.slice a0 s.brks.length c0, .slice a1 s.parts.length c1, .int .i64 s.next] 25)) = u := ⟨_, rfl⟩
  have q0 : u0.cell? ⟨w.heap.size, 0, none⟩ = some (.slice a0 s.brks.length c0) := by rw [← hu0]; simp [go_sem]
  have q1 : u0.cell? ⟨w.heap.size, 1, none⟩ = some (.slice a1 s.parts.length c1) := by rw [← hu0]; simp [go_sem]
  have q2 : u0.cell? ⟨w.heap.size, 2, none⟩ = some (.int .i64 s.next) := by rw [← hu0]; simp [go_sem]
  have bB : Below w.heap.size w u0 := by rw [← hu0]; exact alCt _ _
  cases hg : goodCt s with
  | false =>
    have HE : Hid (offL s = [] ∧ goodCt s = false) := by constructor <;> simp [offL, hg]
    go_enter Try.func36, Try.ntmps36
    go_wp2_with fail
    try rw [hu0]
    refine (implGoodCt_c s _ _ _ _ _ (hs.below bB) hl _ hg).mono ?_
    rintro r w1 ⟨rfl, hB1⟩
    have BB := stCt bB hB1
    have p0 := celB hB1 q0
    have p1 := celB hB1 q1
    clear hu0 hB1 q0 q1 q2
    clear p0 p1
    go_wp2
    refine bodyPost_ret (v := .tuple #[.slice none 0 0, .bool false]) (by simp [results, Try.results36, go_sem]) rfl ⟨none, 0, by first | (rw [HE.out.1, HE.out.2]; rfl) | (rw [HE.out.1]; rfl), by rw [HE.out.1]; exact Ints.nil _ _, .inl (by rw [HE.out.1]; rfl), BB⟩
  | true =>
    have h5 : s.parts.length ≤ 1000000 := by have := goodCt_len hg; omega
    have HE : Hid (offL s = placesL (fun p : Pn => decide (p.leader = -1)) s.parts) := by show _ = _; simp [offL, hg]
    have HOk : Hid (goodCt s = true) := hg
    go_enter Try.func36, Try.ntmps36
    go_wp2_with fail
    try rw [hu0]
    refine (implGoodCt_c s _ _ _ _ _ (hs.below bB) hl _ hg).mono ?_
    rintro r w1 ⟨rfl, hB1⟩
    have BB := stCt bB hB1
    have p0 := celB hB1 q0
    have p1 := celB hB1 q1
    clear hu0 hB1 q0 q1 q2
    go_wp2_with fail
    refine (partsLedBy_any _ _ _ _ _ (hs.parts.below BB) h5).mono ?_
    intro r w2 hA
    obtain ⟨av, cv, rfl, -, -, hI, hR, hB2⟩ := hA.ints
    rw [← HE.out] at hI hR ⊢
    replace hR := hR.mono (B' := w.heap.size) BB.size
    have BC := stCt BB hB2
    clear hA hB2
    obtain ⟨n, hn⟩ : ∃ n, (offL s).length = n := ⟨_, rfl⟩
    have HNN : Hid ((offL s).length = n) := hn
    rw [hn]
    clear hn
    go_wp2
    refine bodyPost_ret (v := .tuple #[.slice av n cv, .bool true]) (by simp [results, Try.results36, go_sem]) rfl ⟨av, cv, by first | rw [HNN.out, HOk.out] | rw [HNN.out], hI, hR, BC⟩

set_option maxRecDepth 100000 in
set_option maxHeartbeats 4000000 in
theorem implLeadsIn_any (s : Ct) (z : Int) (a0 a1 : Option Addr) (c0 c1 : Nat) (w : World) (hs : CtR w s a0 a1) (hb : CtB s) :
    Calls Try.prog 34 #[ctV s a0 c0 a1 c1, .int .i64 z] w fun e w' => ∃ a' c', e = .returned (.tuple #[.slice a' (ldsL s z).length c', .bool (ldsB s z)]) ∧ Ints w' a' (ldsL s z) ∧ RowI w' w.heap.size a' (ldsL s z).length ∧ Below w.heap.size w w' := by
  have hl := hb.len
  have hl0 := hl.brks
  unfold maxLen at hl0
  obtain ⟨u0, hu0⟩ : ∃ u, (w.alloc (.cells #[.slice a0 s.brks.length c0, .slice a1 s.parts.length c1, .int .i64 s.next] 25)) = u := ⟨_, rfl⟩
  have q0 : u0.cell? ⟨w.heap.size, 0, none⟩ = some (.slice a0 s.brks.length c0) := by rw [← hu0]; simp [go_sem]
  have q1 : u0.cell? ⟨w.heap.size, 1, none⟩ = some (.slice a1 s.parts.length c1) := by rw [← hu0]; simp [go_sem]
  have q2 : u0.cell? ⟨w.heap.size, 2, none⟩ = some (.int .i64 s.next) := by rw [← hu0]; simp [go_sem]
  have bB : Below w.heap.size w u0 := by rw [← hu0]; exact alCt _ _
  cases hg : goodCt s with
  | false =>
    have HE : Hid (ldsL s z = [] ∧ ldsB s z = false) := by constructor <;> simp [ldsL, ldsB, hg]
    go_enter Try.func34, Try.ntmps34
    go_wp2_with fail
    try rw [hu0]
    refine (implGoodCt_c s _ _ _ _ _ (hs.below bB) hl _ hg).mono ?_
    rintro r w1 ⟨rfl, hB1⟩
    have BB := stCt bB hB1
    have p0 := celB hB1 q0
    have p1 := celB hB1 q1
    clear hu0 hB1 q0 q1 q2
    clear p0 p1
    go_wp2
    refine bodyPost_ret (v := .tuple #[.slice none 0 0, .bool false]) (by simp [results, Try.results34, go_sem]) rfl ⟨none, 0, by first | (rw [HE.out.1, HE.out.2]; rfl) | (rw [HE.out.1]; rfl), by rw [HE.out.1]; exact Ints.nil _ _, .inl (by rw [HE.out.1]; rfl), BB⟩
  | true =>
    have h5 : s.parts.length ≤ 1000000 := by have := goodCt_len hg; omega
    have h6 : s.brks.length ≤ 1000 := by have := goodCt_len hg; omega
    cases ht : thB s.brks.length z with
    | false =>
      have ht' : inB z 0 ((s.brks.length : Int) - 1) = false := by rw [← ht, Bool.eq_iff_iff, inB_t, thB_t]; omega
      have HE : Hid (ldsL s z = [] ∧ ldsB s z = false) := by constructor <;> simp [ldsL, ldsB, ht]
      go_enter Try.func34, Try.ntmps34
      go_wp2_with fail
      try rw [hu0]
      refine (implGoodCt_c s _ _ _ _ _ (hs.below bB) hl _ hg).mono ?_
      rintro r w1 ⟨rfl, hB1⟩
      have BB := stCt bB hB1
      have p0 := celB hB1 q0
      have p1 := celB hB1 q1
      clear hu0 hB1 q0 q1 q2
      go_wp2_with (go_at_call 67; refine (within_c _ _ _ _ ht').mono ?_; rintro e9 w' ⟨rfl, hw⟩; rw [hw]; clear hw w')
      refine bodyPost_ret (v := .tuple #[.slice none 0 0, .bool false]) (by simp [results, Try.results34, go_sem]) rfl ⟨none, 0, by first | (rw [HE.out.1, HE.out.2]; rfl) | (rw [HE.out.1]; rfl), by rw [HE.out.1]; exact Ints.nil _ _, .inl (by rw [HE.out.1]; rfl), BB⟩
    | true =>
      have ht' : inB z 0 ((s.brks.length : Int) - 1) = true := by rw [← ht, Bool.eq_iff_iff, inB_t, thB_t]; omega
      have HOk : Hid (ldsB s z = true) := by show _ = _; simp [ldsB, hg, ht]
      have HE : Hid (ldsL s z = placesL (fun p : Pn => decide (p.leader = z)) s.parts) := by show _ = _; rw [ldsL, if_pos HOk.out]
      go_enter Try.func34, Try.ntmps34
      go_wp2_with fail
      try rw [hu0]
      refine (implGoodCt_c s _ _ _ _ _ (hs.below bB) hl _ hg).mono ?_
      rintro r w1 ⟨rfl, hB1⟩
      have BB := stCt bB hB1
      have p0 := celB hB1 q0
      have p1 := celB hB1 q1
      clear hu0 hB1 q0 q1 q2
      go_wp2_with (first | (go_at_call 67; refine (within_c _ _ _ _ ht').mono ?_; rintro e9 w' ⟨rfl, hw⟩; rw [hw]; clear hw w') | fail)
      refine (partsLedBy_any _ _ _ _ _ (hs.parts.below BB) h5).mono ?_
      intro r w2 hA
      obtain ⟨av, cv, rfl, -, -, hI, hR, hB2⟩ := hA.ints
      rw [← HE.out] at hI hR ⊢
      replace hR := hR.mono (B' := w.heap.size) BB.size
      have BC := stCt BB hB2
      clear hA hB2
      obtain ⟨n, hn⟩ : ∃ n, (ldsL s z).length = n := ⟨_, rfl⟩
      have HNN : Hid ((ldsL s z).length = n) := hn
      rw [hn]
      clear hn
      go_wp2
      refine bodyPost_ret (v := .tuple #[.slice av n cv, .bool true]) (by simp [results, Try.results34, go_sem]) rfl ⟨av, cv, by first | rw [HNN.out, HOk.out] | rw [HNN.out], hI, hR, BC⟩

end Go.Proofs.Ytfehndedkffpfaa
