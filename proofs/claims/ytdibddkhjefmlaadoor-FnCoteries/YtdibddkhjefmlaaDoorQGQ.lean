/-
  Grids: plainly, and the program's side: the contract of impl.GridQuorums.
-/
import Derived.Test.YtdibddkhjefmlaaDoorQOut
import Derived.Test.YtdibddkhjefmlaaDoorQRw
namespace Go.Proofs.YtdibddkhjefmlaaDoor
open Go.RowKit

/-- All of a row and a column, as a set. -/
def gqN (rows cols r c : Nat) : Nat := stTo (r * cols) 1 cols ||| stTo c cols rows
def gqRow (rows cols r k : Nat) : List (List Int) := (List.range k).map fun c => mi (gqN rows cols r c)
def gqTo (rows cols : Nat) : Nat → List (List Int)
  | 0 => []
  | r + 1 => gqTo rows cols r ++ gqRow rows cols r cols
def gqOk (z0 z1 : Int) : Bool := inB z0 1 3 && inB z1 1 3 && decide (z0 * z1 ≤ 7)
def gqL (z0 z1 : Int) : List (List Int) := if gqOk z0 z1 then gqTo z0.toNat z1.toNat z0.toNat else []

theorem gqRow_zero (rows cols r : Nat) : gqRow rows cols r 0 = [] := rfl
theorem gqRow_succ (rows cols r k : Nat) : gqRow rows cols r (k + 1) = gqRow rows cols r k ++ [mi (gqN rows cols r k)] := by
  unfold gqRow; rw [List.range_succ, List.map_append]; rfl
theorem gqRow_len (rows cols r k : Nat) : (gqRow rows cols r k).length = k := by simp [gqRow]
theorem gqTo_len (rows cols : Nat) : ∀ r, (gqTo rows cols r).length = r * cols
  | 0 => by simp [gqTo]
  | r + 1 => by rw [gqTo, List.length_append, gqTo_len rows cols r, gqRow_len, Nat.add_mul, Nat.one_mul]
theorem gqTo_7 (rows cols : Nat) : ∀ r, ∀ l ∈ gqTo rows cols r, l.length ≤ 7
  | 0, l, h => by simp [gqTo] at h
  | r + 1, l, h => by
    rw [gqTo, List.mem_append] at h
    rcases h with h | h
    · exact gqTo_7 rows cols r l h
    · obtain ⟨c, -, rfl⟩ := List.mem_map.1 h
      exact mi_len _
theorem gq_bound : ∀ rows, rows < 4 → ∀ cols, cols < 4 → rows * cols ≤ 7 → ∀ r, r < rows → ∀ c, c < cols → (∀ k, k < cols → r * cols + k * 1 < 7) ∧ (∀ k, k < rows → c + k * cols < 7) ∧ r * cols ≤ 6 ∧ r * cols + c ≤ 6 := by
  intro rows h1 cols h2 h3 r hr c hc
  rcases (by omega : rows = 0 ∨ rows = 1 ∨ rows = 2 ∨ rows = 3) with rfl | rfl | rfl | rfl <;>
  rcases (by omega : cols = 0 ∨ cols = 1 ∨ cols = 2 ∨ cols = 3) with rfl | rfl | rfl | rfl <;>
  first
    | omega
    | exact ⟨fun k hk => by omega, fun k hk => by omega, by omega, by omega⟩

theorem gqL_small (z0 z1 : Int) : (gqL z0 z1).length ≤ 128 ∧ ∀ l ∈ gqL z0 z1, l.length ≤ 7 := by
  unfold gqL
  split
  · rename_i h
    simp only [gqOk, Bool.and_eq_true, inB_t, decide_eq_true_eq] at h
    refine ⟨?_, gqTo_7 _ _ _⟩
    rw [gqTo_len]
    have h1 : z0.toNat ≤ 3 := by omega
    have h2 : z1.toNat ≤ 3 := by omega
    exact Nat.le_trans (Nat.mul_le_mul h1 h2) (by omega)
  · simp

set_option maxRecDepth 100000 in
set_option maxHeartbeats 8000000 in
theorem implGQ_any (z0 z1 : Int) (w : World) (hT : TabQ w) :
    Calls Tryd.prog 20 #[.int .i64 z0, .int .i64 z1] w fun r w' => LAns w (gqL z0 z1) (gqOk z0 z1) r w' := by
  obtain ⟨i0, hi, hz0, hz1, hz2⟩ := info_parts Tryd.infoInts
  generalize hg : inB z0 1 3 = g1
  have H1 : Hid (inB z0 1 3 = g1) := hg
  clear hg
  generalize hg : inB z1 1 3 = g2
  have H2 : Hid (inB z1 1 3 = g2) := hg
  clear hg
  cases g1 with
  | false =>
    have HO : Hid (gqOk z0 z1 = false) := by show _ = _; simp [gqOk, H1.out]
    have HL : Hid (gqL z0 z1 = []) := by show _ = _; unfold gqL; rw [HO.out]; rfl
    go_enter Tryd.func20, Tryd.ntmps20
    go_wp2_with (go_at_call 24; refine (oneUpTo_any _ _ _).mono ?_; rintro e w' ⟨he, rfl⟩; (first | rw [H1.out] at he | rw [H2.out] at he); subst he)
    go_ret2
    rw [HO.out]
    exact lans_of (qs := []) (lst_start _) (by rw [HL.out]; rfl)
  | true =>
  cases g2 with
  | false =>
    have HO : Hid (gqOk z0 z1 = false) := by show _ = _; simp [gqOk, H2.out]
    have HL : Hid (gqL z0 z1 = []) := by show _ = _; unfold gqL; rw [HO.out]; rfl
    go_enter Tryd.func20, Tryd.ntmps20
    go_wp2_with (go_at_call 24; refine (oneUpTo_any _ _ _).mono ?_; rintro e w' ⟨he, rfl⟩; (first | rw [H1.out] at he | rw [H2.out] at he); subst he)
    go_ret2
    rw [HO.out]
    exact lans_of (qs := []) (lst_start _) (by rw [HL.out]; rfl)
  | true =>
  have b0 := inB_t.1 H1.out
  have b1 := inB_t.1 H2.out
  obtain ⟨rows, hrows⟩ := Int.eq_ofNat_of_zero_le (show 0 ≤ z0 by omega)
  obtain ⟨cols, hcols⟩ := Int.eq_ofNat_of_zero_le (show 0 ≤ z1 by omega)
  subst hrows hcols
  obtain ⟨p, hp⟩ : ∃ p, p = rows * cols := ⟨_, rfl⟩
  have hpm : (rows : Int) * (cols : Int) = (p : Int) := by rw [hp]; simp
  have hr3 : rows ≤ 3 := by omega
  have hc3 : cols ≤ 3 := by omega
  have hp9 : p ≤ 9 := by rw [hp]; exact Nat.le_trans (Nat.mul_le_mul hr3 hc3) (by omega)
  have hpw : IntKind.i64.wrap (p : Int) = (p : Int) := by rw [IntKind.wrap_i64]; omega
  by_cases h7 : 7 < p
  · have HO : Hid (gqOk (rows : Int) (cols : Int) = false) := by show _ = _; simp only [gqOk]; rw [hpm]; simp; omega
    have HL : Hid (gqL (rows : Int) (cols : Int) = []) := by show _ = _; unfold gqL; rw [HO.out]; rfl
    have h7i : (7 : Int) < (p : Int) := by omega
    clear hp
    go_enter Tryd.func20, Tryd.ntmps20
    go_wp2_with (go_at_call 24; refine (oneUpTo_any _ _ _).mono ?_; rintro e w' ⟨he, rfl⟩; (first | rw [H1.out] at he | rw [H2.out] at he); subst he)
    go_ret2
    rw [HO.out]
    exact lans_of (qs := []) (lst_start _) (by rw [HL.out]; rfl)
  have HO : Hid (gqOk (rows : Int) (cols : Int) = true) := by show _ = _; simp only [gqOk]; rw [hpm, H1.out, H2.out]; simp; omega
  have HL : Hid (gqL (rows : Int) (cols : Int) = gqTo rows cols rows) := by show _ = _; unfold gqL; rw [HO.out]; rfl
  have h7i : ¬ ((7 : Int) < (p : Int)) := by omega
  have hbd := gq_bound rows (by omega) cols (by omega) (by omega)
  have HT : Hid (∀ u, Below w.heap.size w u → TabQ u) := fun u hu => hT.bel hu
  clear hp hT
  go_enter Tryd.func20, Tryd.ntmps20
  go_wp2_with (go_at_call 24; refine (oneUpTo_any _ _ _).mono ?_; rintro e w' ⟨he, hw⟩; obtain rfl := hw.symm; (first | rw [H1.out] at he | rw [H2.out] at he); subst he)
  go_loopw [6, 26] (fun v i wr => ∃ r : Nat, ∃ qs : List QI, r ≤ rows ∧ i = .int .i64 (r : Int) ∧ qs.map QI.zs = gqTo rows cols r ∧ LSt w wr v qs) (fun _ i _ => rows - (intOf i).toNat)
  case atStart => exact ⟨0, [], Nat.zero_le _, rfl, rfl, lst_start w⟩
  case round =>
    rename World => w2
    obtain ⟨r, qs, hr, rfl, hqs, hst⟩ := hrel
    have HQS : Hid (qs.map QI.zs = gqTo rows cols r) := hqs
    have hql : qs.length ≤ 9 := by
      have h1 := congrArg List.length hqs
      rw [List.length_map, gqTo_len] at h1
      have := Nat.mul_le_mul hr hc3
      omega
    clear hqs
    by_cases hrl : r < rows
    · have hst0 := hst
      go_wp2
      go_loopw [6, 30] (fun v i wr => ∃ c : Nat, ∃ qs : List QI, c ≤ cols ∧ i = .int .i64 (c : Int) ∧ qs.map QI.zs = gqTo rows cols r ++ gqRow rows cols r c ∧ LSt w wr v qs) (fun _ i _ => cols - (intOf i).toNat)
      case atStart => exact ⟨0, qs, Nat.zero_le _, rfl, by rw [HQS.out, gqRow_zero, List.append_nil], hst0⟩
      case round =>
        clear hst hst0 hql HQS qs
        obtain ⟨c, qs, hc, rfl, hqs, hst⟩ := hrel
        have hql : qs.length ≤ 12 := by
          have h1 := congrArg List.length hqs
          rw [List.length_map, List.length_append, gqTo_len, gqRow_len] at h1
          have := Nat.mul_le_mul hr hc3
          omega
        have HQS : Hid (qs.map QI.zs = gqTo rows cols r ++ gqRow rows cols r c) := hqs
        clear hqs
        by_cases hcl : c < cols
        · obtain ⟨k1, k2, k3, k4⟩ := hbd r hrl c hcl
          obtain ⟨q, hq⟩ : ∃ q, q = r * cols := ⟨_, rfl⟩
          have hqi : (r : Int) * (cols : Int) = (q : Int) := by rw [hq]; simp
          have hq6 : q ≤ 6 := by omega
          have hqw : IntKind.i64.wrap (q : Int) = (q : Int) := by rw [IntKind.wrap_i64]; omega
          have kq : ∀ k, k < cols → q + k * 1 < 7 := by rw [hq]; exact k1
          have HN : Hid (gqN rows cols r c = stTo q 1 cols ||| stTo c cols rows) := by show _ = _; rw [hq]; rfl
          have l1 := stTo_lt kq cols (Nat.le_refl _)
          have l2 := stTo_lt k2 rows (Nat.le_refl _)
          have l3 : stTo q 1 cols ||| stTo c cols rows < 128 := or_lt l1 l2
          obtain ⟨av, cv, rfl, -, -⟩ := ownsZ_cap hst.own
          clear hq k1 k3 k4
          go_wp2_with fail
          refine (inSteps_any q 1 cols (by omega) (by omega) (by omega) kq _).mono ?_
          rintro _ w3 ⟨rfl, hB3⟩
          have A3 : ∀ o, Below w3.heap.size w3 (w3.alloc o) := fun o => (Below.refl _ _).alloc (Nat.le_refl _) o
          go_wp2_with fail
          refine (inSteps_any c cols rows (by omega) (by omega) (by omega) k2 _).mono ?_
          rintro _ w4 ⟨rfl, hB4⟩
          generalize stTo q 1 cols = n1 at *
          generalize stTo c cols rows = n2 at *
          have B34 : Below w3.heap.size w3 w4 := (A3 _).trans (hB4.mono (A3 _).size)
          have Br4 : Below wr.heap.size wr w4 := hB3.trans (B34.mono hB3.size)
          have hz3 := B34.size
          have hz4 : w3.heap.size + 1 ≤ w4.heap.size := by have := hB4.size; simpa using this
          have cR : w4.cell? ⟨w3.heap.size, 0, none⟩ = some (.int .u64 (n1 : Int)) := (hB4.cell (p := ⟨w3.heap.size, 0, none⟩) (by simp)).trans (by simp [go_sem])
          have cR2 : ∀ o, (w4.alloc o).cell? ⟨w3.heap.size, 0, none⟩ = some (.int .u64 (n1 : Int)) := fun o => (((Below.refl w4.heap.size w4).alloc (Nat.le_refl _) o).cell (p := ⟨w3.heap.size, 0, none⟩) (by show w3.heap.size < _; omega)).trans cR
          clear hB3 hB4 A3 B34
          go_wp2_with fail
          refine (joined_any _ _ [n1, n2] _ (sets_two l1 l2 (by simp) (by simp)) (by simp)).mono ?_
          rintro _ w5 ⟨hr5, hB5⟩
          rw [show [n1, n2].length = 2 from rfl, orTo_two] at hr5
          subst hr5
          have A4 : ∀ o o', Below w4.heap.size w4 ((w4.alloc o).alloc o') := fun o o' => ((Below.refl _ _).alloc (Nat.le_refl _) o).alloc (by simp) o'
          have Br5 : Below wr.heap.size wr w5 := (Br4.trans ((A4 _ _).mono Br4.size)).trans (hB5.mono (by have := Br4.size; simp; omega))
          have BW5 : Below w.heap.size w w5 := hst.bel.trans (Br5.mono hst.bel.size)
          clear hB5 A4 Br4 cR cR2
          go_wp2_with fail
          refine (list_any _ l3 _ (HT.out _ BW5)).mono ?_
          intro _ w6 hz6
          obtain ⟨a6, c6, rfl, -, -, hI6, hR6, hB6⟩ := hz6.ints
          have Br6 := Br5.trans (hB6.mono Br5.size)
          have hR6' := hR6.mono (Br5.size)
          have hst6 := lst_below hst Br6
          have hsz := hst6.bel.size
          have hal6 : ∀ o, Below w6.heap.size w6 (w6.alloc o) := fun o => (Below.refl _ _).alloc (Nat.le_refl _) o
          have hst7 := fun o => lst_below hst6 (hal6 o)
          clear hz6 hB6 Br5 BW5 hR6
          go_wp2_with (at_builtin; refine wpList_append_lies _ rfl _ _ 23 rfl w.heap.size 31 i0 _ 1 24 Tryd.underlying23 hi hz0 hz1 hz2 rfl (by decide) (.slice av qs.length cv) qs.length (qs.map QI.val) rfl (hst7 _).own ⟨w6.heap.size, 0, none⟩ 1 1 [.slice a6 (mi (n1 ||| n2)).length c6] rfl rfl ?c1 ?c2 (by omega) ?c3 ?c4 ?c5 (w6.heap.size + 1) ?c6 ?_)
          case c1 => exact World.news_of_block (cs := #[.slice a6 (mi (n1 ||| n2)).length c6]) (t := 31) (fr := (0, 0)) (by first | exact (heap_alloc_new w6 _) | simpa using (heap_alloc_new w6 _))
          case c2 => simp [Value.oneCell']
          case c3 => unfold maxLen; omega
          case c4 => omega
          case c5 => simp; omega
          case c6 => simp
          intro g8 cap8 w8 hown8 hgrow8 hat8 _
          have hst8 := lst_step (q := ⟨mi (n1 ||| n2), a6, c6⟩) hst (Br6.trans ((hal6 _).mono Br6.size)) (hI6.below (hal6 _)) (hR6'.below (hal6 _)) hgrow8 hown8
          have HS8 : Hid (LSt w w8 (.slice (some ⟨g8, 0, none⟩) (qs.length + 1) cap8) (qs ++ [⟨mi (n1 ||| n2), a6, c6⟩])) := hst8
          clear hst8 hown8 hgrow8 hat8 hst7 hst6 hst hI6 hR6'
          go_wp2_with fail
          go_roundw
          case rel => exact ⟨c + 1, qs ++ [⟨mi (n1 ||| n2), a6, c6⟩], by omega, by go_num, by rw [List.map_append, HQS.out, gqRow_succ, HN.out, List.append_assoc]; rfl, HS8.out⟩
          case measure => simp [intOf]; omega
        · obtain rfl : c = cols := by omega
          obtain ⟨av, cv, rfl, -, -⟩ := ownsZ_cap hst.own
          have HST : Hid (LSt w wr (.slice av qs.length cv) qs) := hst
          clear hst
          go_wp2
          go_roundw
          case rel => exact ⟨r + 1, qs, by omega, by go_num, HQS.out, HST.out⟩
          case measure => simp [intOf]; omega
    · obtain rfl : r = rows := by omega
      obtain ⟨av, cv, rfl, -, -⟩ := ownsZ_cap hst.own
      have HST : Hid (LSt w w2 (.slice av qs.length cv) qs) := hst
      clear hst
      go_wp2
      go_ret2
      rw [HO.out]
      exact lans_of HST.out (by rw [HL.out]; exact HQS.out)

end Go.Proofs.YtdibddkhjefmlaaDoor
