/-
  Grids, the specification's side: the contract of spec.GridQuorums.
-/
import Derived.Test.YtdibddkhjefmlaaDoorQGQ
import Derived.Test.YtdibddkhjefmlaaDoorQPut
namespace Go.Proofs.YtdibddkhjefmlaaDoor
open Go.RowKit

set_option maxRecDepth 100000 in
set_option maxHeartbeats 8000000 in
theorem specGQ_any (z0 z1 : Int) (w : World) :
    Calls Tryd.prog 21 #[.int .i64 z0, .int .i64 z1] w fun r w' => LAns w (gqL z0 z1) (gqOk z0 z1) r w' := by
  obtain ⟨i0, hi, hz0, hz1, hz2⟩ := info_parts Tryd.infoInts
  generalize hg : inB z0 1 3 = g1
  have H1 : Hid (inB z0 1 3 = g1) := hg
  clear hg
  generalize hg : inB z1 1 3 = g2
  have H2 : Hid (inB z1 1 3 = g2) := hg
  clear hg
  cases g1 with
  | false =>
    have HO : Hid (gqOk z0 z1 = false) := by show _ = _; simp [gqOk, H1.out]
    have HL : Hid (gqL z0 z1 = []) := by show _ = _; unfold gqL; rw [HO.out]; rfl
    go_enter Tryd.func21, Tryd.ntmps21
    go_wp2_with (go_at_call 29; refine (l1In_any _ _ _ _).mono ?_; rintro e w' ⟨he, rfl⟩; (first | rw [H1.out] at he | rw [H2.out] at he); subst he)
    go_ret2
    rw [HO.out]
    exact lans_of (qs := []) (lst_start _) (by rw [HL.out]; rfl)
  | true =>
  cases g2 with
  | false =>
    have HO : Hid (gqOk z0 z1 = false) := by show _ = _; simp [gqOk, H2.out]
    have HL : Hid (gqL z0 z1 = []) := by show _ = _; unfold gqL; rw [HO.out]; rfl
    go_enter Tryd.func21, Tryd.ntmps21
    go_wp2_with (go_at_call 29; refine (l1In_any _ _ _ _).mono ?_; rintro e w' ⟨he, rfl⟩; (first | rw [H1.out] at he | rw [H2.out] at he); subst he)
    go_ret2
    rw [HO.out]
    exact lans_of (qs := []) (lst_start _) (by rw [HL.out]; rfl)
  | true =>
  have b0 := inB_t.1 H1.out
  have b1 := inB_t.1 H2.out
  obtain ⟨rows, hrows⟩ := Int.eq_ofNat_of_zero_le (show 0 ≤ z0 by omega)
  obtain ⟨cols, hcols⟩ := Int.eq_ofNat_of_zero_le (show 0 ≤ z1 by omega)
  subst hrows hcols
  obtain ⟨p, hp⟩ : ∃ p, p = rows * cols := ⟨_, rfl⟩
  have hpm : (rows : Int) * (cols : Int) = (p : Int) := by rw [hp]; simp
  have hr3 : rows ≤ 3 := by omega
  have hc3 : cols ≤ 3 := by omega
  have hp9 : p ≤ 9 := by rw [hp]; exact Nat.le_trans (Nat.mul_le_mul hr3 hc3) (by omega)
  have hpw : IntKind.i64.wrap (p : Int) = (p : Int) := by rw [IntKind.wrap_i64]; omega
  by_cases h7 : 7 < p
  · have HO : Hid (gqOk (rows : Int) (cols : Int) = false) := by show _ = _; simp only [gqOk]; rw [hpm]; simp; omega
    have HL : Hid (gqL (rows : Int) (cols : Int) = []) := by show _ = _; unfold gqL; rw [HO.out]; rfl
    have h7i : (7 : Int) < (p : Int) := by omega
    clear hp
    go_enter Tryd.func21, Tryd.ntmps21
    go_wp2_with (go_at_call 29; refine (l1In_any _ _ _ _).mono ?_; rintro e w' ⟨he, rfl⟩; (first | rw [H1.out] at he | rw [H2.out] at he); subst he)
    go_ret2
    rw [HO.out]
    exact lans_of (qs := []) (lst_start _) (by rw [HL.out]; rfl)
  have HO : Hid (gqOk (rows : Int) (cols : Int) = true) := by show _ = _; simp only [gqOk]; rw [hpm, H1.out, H2.out]; simp; omega
  have HL : Hid (gqL (rows : Int) (cols : Int) = gqTo rows cols rows) := by show _ = _; unfold gqL; rw [HO.out]; rfl
  have h7i : ¬ ((7 : Int) < (p : Int)) := by omega
  have hbd := gq_bound rows (by omega) cols (by omega) (by omega)
  clear hp
  go_enter Tryd.func21, Tryd.ntmps21
  go_wp2_with (go_at_call 29; refine (l1In_any _ _ _ _).mono ?_; rintro e w' ⟨he, hw⟩; obtain rfl := hw.symm; (first | rw [H1.out] at he | rw [H2.out] at he); subst he)
  go_loopw [6, 7] (fun v i wr => ∃ r : Nat, ∃ qs : List QI, r ≤ rows ∧ i = .int .i64 (r : Int) ∧ qs.map QI.zs = gqTo rows cols r ∧ LSt w wr v qs) (fun _ i _ => rows - (intOf i).toNat)
  case atStart => exact ⟨0, [], Nat.zero_le _, rfl, rfl, lst_start w⟩
  case round =>
    rename World => w2
    obtain ⟨r, qs, hr, rfl, hqs, hst⟩ := hrel
    have HQS : Hid (qs.map QI.zs = gqTo rows cols r) := hqs
    have hql : qs.length ≤ 9 := by
      have h1 := congrArg List.length hqs
      rw [List.length_map, gqTo_len] at h1
      have := Nat.mul_le_mul hr hc3
      omega
    clear hqs
    by_cases hrl : r < rows
    · have hst0 := hst
      go_wp2
      go_loopw [6, 8] (fun v i wr => ∃ c : Nat, ∃ qs : List QI, c ≤ cols ∧ i = .int .i64 (c : Int) ∧ qs.map QI.zs = gqTo rows cols r ++ gqRow rows cols r c ∧ LSt w wr v qs) (fun _ i _ => cols - (intOf i).toNat)
      case atStart => exact ⟨0, qs, Nat.zero_le _, rfl, by rw [HQS.out, gqRow_zero, List.append_nil], hst0⟩
      case round =>
        clear hst hst0 hql HQS qs
        rename World => w3
        obtain ⟨c, qs, hc, rfl, hqs, hst⟩ := hrel
        have hql : qs.length ≤ 12 := by
          have h1 := congrArg List.length hqs
          rw [List.length_map, List.length_append, gqTo_len, gqRow_len] at h1
          have := Nat.mul_le_mul hr hc3
          omega
        have HQS : Hid (qs.map QI.zs = gqTo rows cols r ++ gqRow rows cols r c) := hqs
        clear hqs
        by_cases hcl : c < cols
        · obtain ⟨k1, k2, k3, k4⟩ := hbd r hrl c hcl
          obtain ⟨q, hq⟩ : ∃ q, q = r * cols := ⟨_, rfl⟩
          have hqi : (r : Int) * (cols : Int) = (q : Int) := by rw [hq]; simp
          have hq6 : q ≤ 6 := by omega
          have hqw : IntKind.i64.wrap (q : Int) = (q : Int) := by rw [IntKind.wrap_i64]; omega
          have kq : ∀ k, k < cols → q + k * 1 < 7 := by rw [hq]; exact k1
          have HN : Hid (gqN rows cols r c = stTo q 1 cols ||| stTo c cols rows) := by show _ = _; rw [hq]; rfl
          have l1 := stTo_lt kq cols (Nat.le_refl _)
          obtain ⟨av, cv, rfl, -, -⟩ := ownsZ_cap hst.own
          have HST : Hid (LSt w w3 (.slice av qs.length cv) qs) := hst
          clear hq k1 k3 k4 hst
          go_wp2
          go_loopw [9, 10] (fun v i wr => ∃ k : Nat, ∃ la lc, k ≤ cols ∧ i = .int .i64 (k : Int) ∧ v = .slice la (mi (stTo q 1 k)).length lc ∧ wr.ownsRow w3.heap.size 3 1 (.slice la (mi (stTo q 1 k)).length lc) (mi (stTo q 1 k)).length (zCells (mi (stTo q 1 k))) ∧ Below w3.heap.size w3 wr) (fun _ i _ => cols - (intOf i).toNat)
          case atStart => exact ⟨0, none, 0, Nat.zero_le _, rfl, by simp [stTo, mi_zero], by simp only [stTo, mi_zero]; exact World.ownsRow_nil _ _ _ _, Below.refl _ _⟩
          case round =>
            obtain ⟨k, la, lc, hk, rfl, rfl, hown, hBi⟩ := hrel
            by_cases hkl : k < cols
            · have hx := kq k hkl
              have hn1 := stTo_lt kq k hk
              obtain ⟨y, hy⟩ : ∃ y, y = q + k := ⟨_, rfl⟩
              have e1 : (q : Int) + (k : Int) = (y : Int) := by omega
              have hx7 : y < 7 := by omega
              have HS : Hid (stTo q 1 (k + 1) = stTo q 1 k ||| 2 ^ y) := by show _ = _; rw [hy]; simp [stTo]
              have hyw : IntKind.i64.wrap (y : Int) = (y : Int) := by rw [IntKind.wrap_i64]; omega
              clear hy
              go_wp2_with fail
              refine (l1Put_any (stTo q 1 k) y hn1 hx7 w3.heap.size la lc _ (hBi.size) hown).mono ?_
              rintro _ w5 ⟨a5, c5, rfl, hown5, hB5⟩
              rw [← HS.out] at hown5 ⊢
              have B5 : Below w3.heap.size w3 w5 := hBi.trans (hB5.mono hBi.size)
              have HOW : Hid (w5.ownsRow w3.heap.size 3 1 (.slice a5 (mi (stTo q 1 (k + 1))).length c5) (mi (stTo q 1 (k + 1))).length (zCells (mi (stTo q 1 (k + 1))))) := hown5
              clear hown hown5 hBi hB5
              go_wp2
              go_roundw
              case rel => exact ⟨k + 1, a5, c5, by omega, by go_num, rfl, HOW.out, B5⟩
              case measure => simp [intOf]; omega
            · obtain rfl : k = cols := by omega
              have hown0 := hown
              have hB0 := hBi
              go_wp2
              go_loopw [9, 11] (fun v i wr => ∃ j : Nat, ∃ la lc, j ≤ rows ∧ i = .int .i64 (j : Int) ∧ v = .slice la (mi (stTo q 1 k ||| stTo c k j)).length lc ∧ wr.ownsRow w3.heap.size 3 1 (.slice la (mi (stTo q 1 k ||| stTo c k j)).length lc) (mi (stTo q 1 k ||| stTo c k j)).length (zCells (mi (stTo q 1 k ||| stTo c k j))) ∧ Below w3.heap.size w3 wr) (fun _ i _ => rows - (intOf i).toNat)
              case atStart => exact ⟨0, la, lc, Nat.zero_le _, rfl, by simp [stTo], by simpa [stTo] using hown0, hB0⟩
              case round =>
                clear hown hown0 hB0 hBi
                obtain ⟨j, la, lc, hj, rfl, rfl, hown, hBi⟩ := hrel
                have hn2 : stTo q 1 k ||| stTo c k j < 128 := or_lt l1 (stTo_lt k2 j hj)
                by_cases hjl : j < rows
                · have hx := k2 j hjl
                  obtain ⟨t, ht⟩ : ∃ t, t = j * k := ⟨_, rfl⟩
                  have hti : (j : Int) * (k : Int) = (t : Int) := by rw [ht]; simp
                  have ht9 : t ≤ 6 := by omega
                  have htw : IntKind.i64.wrap (t : Int) = (t : Int) := by rw [IntKind.wrap_i64]; omega
                  obtain ⟨y, hy⟩ : ∃ y, y = c + t := ⟨_, rfl⟩
                  have e1 : (t : Int) + (c : Int) = (y : Int) := by omega
                  have hx7 : y < 7 := by omega
                  have hyw : IntKind.i64.wrap (y : Int) = (y : Int) := by rw [IntKind.wrap_i64]; omega
                  have HS : Hid (stTo q 1 k ||| stTo c k (j + 1) = (stTo q 1 k ||| stTo c k j) ||| 2 ^ y) := by show _ = _; rw [hy, ht, Nat.or_assoc]; rfl
                  clear ht hy
                  go_wp2_with fail
                  refine (l1Put_any (stTo q 1 k ||| stTo c k j) y hn2 hx7 w3.heap.size la lc _ (hBi.size) hown).mono ?_
                  rintro _ w5 ⟨a5, c5, rfl, hown5, hB5⟩
                  rw [← HS.out] at hown5 ⊢
                  have B5 : Below w3.heap.size w3 w5 := hBi.trans (hB5.mono hBi.size)
                  have HOW : Hid (w5.ownsRow w3.heap.size 3 1 (.slice a5 (mi (stTo q 1 k ||| stTo c k (j + 1))).length c5) (mi (stTo q 1 k ||| stTo c k (j + 1))).length (zCells (mi (stTo q 1 k ||| stTo c k (j + 1))))) := hown5
                  clear hown hown5 hBi hB5
                  go_wp2
                  go_roundw
                  case rel => exact ⟨j + 1, a5, c5, by omega, by go_num, rfl, HOW.out, B5⟩
                  case measure => simp [intOf]; omega
                · obtain rfl : j = rows := by omega
                  obtain ⟨hI6, hR6⟩ := ints_of_owns hown
                  rw [← HN.out] at hI6 hR6 ⊢
                  have HGR : Hid (gqRow j k r (c + 1) = gqRow j k r c ++ [mi (gqN j k r c)]) := gqRow_succ j k r c
                  generalize gqN j k r c = N at *
                  have hst6 := lst_below HST.out hBi
                  have hsz := hst6.bel.size
                  have hal6 : ∀ o, Below wr.heap.size wr (wr.alloc o) := fun o => (Below.refl _ _).alloc (Nat.le_refl _) o
                  have hst7 := fun o => lst_below hst6 (hal6 o)
                  clear hown
                  go_wp2_with (at_builtin; refine wpList_append_lies _ rfl _ _ 23 rfl w.heap.size 31 i0 _ 1 24 Tryd.underlying23 hi hz0 hz1 hz2 rfl (by decide) (.slice av qs.length cv) qs.length (qs.map QI.val) rfl (hst7 _).own ⟨wr.heap.size, 0, none⟩ 1 1 [.slice la (mi N).length lc] rfl rfl ?c1 ?c2 (by omega) ?c3 ?c4 ?c5 (wr.heap.size + 1) ?c6 ?_)
                  case c1 => exact World.news_of_block (cs := #[.slice la (mi N).length lc]) (t := 31) (fr := (0, 0)) (by first | exact (heap_alloc_new wr _) | simpa using (heap_alloc_new wr _))
                  case c2 => simp [Value.oneCell']
                  case c3 => unfold maxLen; omega
                  case c4 => omega
                  case c5 => simp; omega
                  case c6 => simp
                  intro g8 cap8 w8 hown8 hgrow8 hat8 _
                  have hst8 := lst_step (q := ⟨mi N, la, lc⟩) HST.out (hBi.trans ((hal6 _).mono hBi.size)) (hI6.below (hal6 _)) (hR6.below (hal6 _)) hgrow8 hown8
                  have HS8 : Hid (LSt w w8 (.slice (some ⟨g8, 0, none⟩) (qs.length + 1) cap8) (qs ++ [⟨mi N, la, lc⟩])) := hst8
                  clear hst8 hown8 hgrow8 hat8 hst7 hst6 hI6 hR6
                  go_wp2_with fail
                  go_roundw
                  case rel => exact ⟨c + 1, qs ++ [⟨mi N, la, lc⟩], by omega, by go_num, by rw [List.map_append, HQS.out, HGR.out, List.append_assoc]; simp, HS8.out⟩
                  case measure => simp [intOf]; omega
        · obtain rfl : c = cols := by omega
          obtain ⟨av, cv, rfl, -, -⟩ := ownsZ_cap hst.own
          have HST : Hid (LSt w w3 (.slice av qs.length cv) qs) := hst
          clear hst
          go_wp2
          go_roundw
          case rel => exact ⟨r + 1, qs, by omega, by go_num, HQS.out, HST.out⟩
          case measure => simp [intOf]; omega
    · obtain rfl : r = rows := by omega
      obtain ⟨av, cv, rfl, -, -⟩ := ownsZ_cap hst.own
      have HST : Hid (LSt w w2 (.slice av qs.length cv) qs) := hst
      clear hst
      go_wp2
      go_ret2
      rw [HO.out]
      exact lans_of HST.out (by rw [HL.out]; exact HQS.out)

end Go.Proofs.YtdibddkhjefmlaaDoor
