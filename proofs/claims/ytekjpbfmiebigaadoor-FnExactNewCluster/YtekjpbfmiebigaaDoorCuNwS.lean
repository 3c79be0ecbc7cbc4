/-
  New clusters, the specification's side: l17All, NewCluster. Made by mkcunw.py.
-/
import Derived.Test.YtekjpbfmiebigaaDoorCuNw
import Derived.Test.YtekjpbfmiebigaaDoorQSpec
import Derived.Deep.RegionHeld3
import Derived.Deep.AppendLies
import Derived.WalkMore
namespace Go.Proofs.YtekjpbfmiebigaaDoor
open Go.RowKit

structure BoxR (A : Prop) : Prop where
  out : A
theorem ltH {x : World} {b : Nat} {o : Obj} (h : x.heap[b]? = some o) : b < x.heap.size := (Array.getElem?_eq_some_iff.1 h).1

theorem ints_rep {w : World} {b n : Nat} (h : w.rowIs b 3 n (fun _ => .int .i64 0)) : Ints w (some ⟨b, 0, none⟩) (List.replicate n 0) := fun i z hi => by
  rw [List.getElem?_replicate] at hi
  split at hi
  · rename_i hlt
    obtain rfl := Option.some.inj hi
    exact ⟨b, 0, rfl, by rw [Nat.zero_add]; exact h.cell hlt⟩
  · cases hi
theorem rowI_rep {w : World} {b n B : Nat} (h : w.rowIs b 3 n (fun _ => .int .i64 0)) (hB : B ≤ b) : RowI w B (some ⟨b, 0, none⟩) (List.replicate n (0 : Int)).length :=
  .inr ⟨b, n, _, rfl, hB, by simp, h⟩
theorem CuO.mono {w : World} {B B' : Nat} {s : Cu} {a0 a1 a2 : Option Addr} {r12 r13 r14 : Nat → Option Addr} {k12 k13 k14 : Nat → Nat} (h : CuO w B s a0 a1 a2 r12 r13 r14 k12 k13 k14) (hb : B' ≤ B) : CuO w B' s a0 a1 a2 r12 r13 r14 k12 k13 k14 :=
  ⟨h.tst, h.tstR.mono hb, h.nodes.mono hb, h.nodesD, h.acked, h.ackedR.mono hb, h.dj01, h.dj12⟩
theorem l1In_n (n lo hi : Int) (b : Bool) (w : World) (h : inB n lo hi = b) : Calls Tryd.prog 17 #[.int .i64 n, .int .i64 lo, .int .i64 hi] w fun e w' => e = .returned (.bool b) ∧ w' = w := by
  rw [← h]; exact l1In_any n lo hi w

set_option maxRecDepth 100000 in
set_option maxHeartbeats 4000000 in
theorem l17All_any (n : Nat) (hn : n ≤ 4) (w : World) :
    Calls Tryd.prog 18 #[.int .i64 (n : Int)] w fun e w' => ∃ a c, e = .returned (.slice a n c) ∧ Ints w' a (iotaZ n) ∧ RowI w' w.heap.size a n ∧ Below w.heap.size w w' := by
  obtain ⟨i0, hi, hz0, hz1, hz2⟩ := infoZ Tryd.infoInt
  go_enter Tryd.func18, Tryd.ntmps18
  go_wp2_with fail
  go_loopw [3, 4] (fun v i wr => ∃ k : Nat, k ≤ n ∧ i = .int .i64 k ∧ ZSt w.heap.size w wr v (iotaZ k)) (fun _ i _ => n - (intOf i).toNat)
  case atStart => exact ⟨0, Nat.zero_le _, rfl, ⟨World.ownsRow_nil _ _ _ _, Below.refl _ _⟩⟩
  case round =>
    obtain ⟨k, hk, rfl, hst⟩ := hrel
    obtain ⟨aw, cw, rfl⟩ := ownsZ_form hst.own
    have hB := hst.bel
    have hsz := hB.size
    have HKL : Hid ((iotaZ k).length = k) := iotaZ_len k
    by_cases hlt : k < n
    · have hki : (k : Int) < (n : Int) := by omega
      have HN : Hid (iotaZ (k + 1) = iotaZ k ++ [(k : Int)]) := iotaZ_succ k
      have hzl : (iotaZ k).length ≤ 4 := by rw [HKL.out]; omega
      generalize iotaZ k = zs at *
      have hst2 : ∀ x, ZSt w.heap.size w (wr.alloc x) (.slice aw zs.length cw) zs := fun x => zst_below hst (alCu wr x)
      clear hst
      go_wp2_with (at_builtin; refine wpList_append_lies _ rfl _ _ 22 rfl w.heap.size 3 i0 _ 1 8 Tryd.underlying22 hi hz0 hz1 hz2 rfl (by decide) (.slice aw zs.length cw) zs.length (zCells zs) rfl (hst2 _).own ⟨wr.heap.size, 0, none⟩ 1 1 (zCells [(k : Int)]) rfl rfl ?c1 ?c2 (by omega) ?c3 ?c4 ?c5 (wr.heap.size + 1) ?c6 ?_)
      case c1 => exact World.news_of_block (cs := #[.int .i64 (k : Int)]) (t := 3) (fr := (0, 0)) (by first | exact (heap_alloc_new wr _) | simpa using (heap_alloc_new wr _))
      case c2 => simp [zCells, Value.oneCell']
      case c3 => unfold maxLen; have := HKL.out; omega
      case c4 => omega
      case c5 => first | omega | (simp; omega)
      try (case c6 => simp)
      intro g4 cap4 w4 hown4 hgrow4 hat4 _
      have HS4 : Hid (ZSt w.heap.size w w4 (.slice (some ⟨g4, 0, none⟩) (zs.length + 1) cap4) (zs ++ [(k : Int)])) := zst_step (q := (k : Int)) (hst2 _) (Nat.le_refl _) hgrow4 hown4
      clear hown4 hgrow4 hat4 hst2
      go_wp2_with fail
      go_roundw
      case rel => exact ⟨k + 1, by omega, by go_num, by rw [HN.out]; exact HS4.out⟩
      case measure => simp [intOf]; omega
    · obtain rfl : k = n := by omega
      obtain ⟨HI, HR⟩ := ints_of_owns hst.own
      rw [HKL.out] at HR ⊢
      clear hst
      go_wp2
      refine bodyPost_ret (v := .slice aw k cw) (by simp [results, Tryd.results18, go_sem]) rfl ⟨aw, cw, rfl, HI, HR, hB⟩

set_option maxRecDepth 100000 in
set_option maxHeartbeats 16000000 in
theorem specNewCu_any (z : Int) (w : World) :
    Calls Tryd.prog 5 #[.int .i64 z] w fun e w' => ∃ a0 a1 a2 c0 c1 c2, e = .returned (.tuple #[cuV (newCu z) a0 c0 a1 c1 a2 c2, .bool (inB z 2 4)]) ∧ CuR w' (newCu z) a0 a1 a2 ∧ Below w.heap.size w w' := by
  obtain ⟨u1, hu1⟩ : ∃ u, (w.alloc (.cells #[.int .i64 0, .int .i64 0, .slice none 0 0, .slice none 0 0, .slice none 0 0] 28)) = u := ⟨_, rfl⟩
  have bB : Below w.heap.size w u1 := by rw [← hu1]; exact alCu _ _
  have hS1 : u1.heap.size = w.heap.size + 1 := by rw [← hu1]; simp
  have q0 : u1.cell? ⟨w.heap.size, 0, none⟩ = some (.int .i64 0) := by rw [← hu1]; simp [go_sem]
  have q1 : u1.cell? ⟨w.heap.size, 1, none⟩ = some (.int .i64 0) := by rw [← hu1]; simp [go_sem]
  have q2 : u1.cell? ⟨w.heap.size, 2, none⟩ = some (.slice none 0 0) := by rw [← hu1]; simp [go_sem]
  have q3 : u1.cell? ⟨w.heap.size, 3, none⟩ = some (.slice none 0 0) := by rw [← hu1]; simp [go_sem]
  have q4 : u1.cell? ⟨w.heap.size, 4, none⟩ = some (.slice none 0 0) := by rw [← hu1]; simp [go_sem]
  have qf : ∀ o, u1.frozen? ⟨w.heap.size, o, none⟩ = false := fun o => by rw [← hu1]; simp [go_sem]
  obtain ⟨i1, hi1, hy0, hy1, hy2⟩ := infoZ Tryd.infoNd
  cases hg : inB z 2 4 with
  | false =>
    have HE : Hid (newCu z = ⟨0, 0, [], [], []⟩) := newCu_f hg
    go_enter Tryd.func5, Tryd.ntmps5
    go_wp2_with (go_at_call 17; refine (l1In_n _ _ _ _ _ hg).mono ?_; rintro e w' ⟨rfl, hw⟩; rw [hw]; clear hw w')
    try rw [hu1]
    have BZ : Below w.heap.size w (((((u1.setCell ⟨w.heap.size, 0, none⟩ (.int .i64 0)).setCell ⟨w.heap.size, 1, none⟩ (.int .i64 0)).setCell ⟨w.heap.size, 2, none⟩ (.slice none 0 0)).setCell ⟨w.heap.size, 3, none⟩ (.slice none 0 0)).setCell ⟨w.heap.size, 4, none⟩ (.slice none 0 0)) := ((((bB.setCell (Nat.le_refl _) _).setCell (Nat.le_refl _) _).setCell (Nat.le_refl _) _).setCell (Nat.le_refl _) _).setCell (Nat.le_refl _) _
    refine bodyPost_ret (v := .tuple #[.agg #[.int .i64 0, .int .i64 0, .slice none 0 0, .slice none 0 0, .slice none 0 0], .bool false]) (by simp [results, Tryd.results5, go_sem, q0, q1, q2, q3, q4]) rfl ⟨none, none, none, 0, 0, 0, by rw [HE.out]; rfl, ?_, BZ⟩
    rw [HE.out]; exact (newCu_zero _ 0).reads (by have := (newCu_small z).1; rw [HE.out] at this; exact this)
  | true =>
    have hz := inB_t.1 hg
    obtain ⟨n, rfl⟩ : ∃ n : Nat, z = n := ⟨z.toNat, by omega⟩
    have hn4 : n ≤ 4 := by omega
    have HE : Hid (newCu (n : Int) = ⟨0, 0, iotaZ n, List.replicate n (ndZ n), []⟩) := newCu_t hg
    clear hz
    have hmk := run_make_row' (P := Tryd.prog) 22 3 (.int .i64 0) 8 Tryd.underlying22 Tryd.infoInt rfl .i64 .i64 n (by omega) (by omega)
    go_enter Tryd.func5, Tryd.ntmps5
    go_wp2_with (go_at_call 17; refine (l1In_n _ _ _ _ _ hg).mono ?_; rintro e w' ⟨rfl, hw⟩; rw [hw]; clear hw w')
    refine (l17All_any n hn4 _).mono ?_
    rintro r u2 ⟨av, cv, rfl, HI0, HRI0, hB2⟩
    have B2 : Below u1.heap.size u1 u2 := by first | exact hB2 | (rw [hu1] at hB2; exact hB2)
    replace HRI0 : RowI u2 u1.heap.size av n := by first | exact HRI0 | (rw [hu1] at HRI0; exact HRI0)
    try rw [hu1]
    clear hB2 hu1
    go_wp2
    obtain ⟨x, hx⟩ : ∃ x, (u2.alloc (.cells #[.int .i64 0, .int .i64 0, .slice av n cv, .slice none 0 0, .slice none 0 0] 28)) = x := ⟨_, rfl⟩
    have bX : Below u2.heap.size u2 x := by rw [← hx]; exact alCu _ _
    have hsx : x.heap.size = u2.heap.size + 1 := by rw [← hx]; simp
    have hst0 : CxSt x.heap.size u2.heap.size u1 x (.slice none 0 0) (.slice av n cv) [] := ⟨World.ownsRow_nil _ _ _ _, QIn.nil _ _, by rw [← hx]; simp [go_sem], by rw [← hx]; simp [go_sem], by rw [← hx]; simp [go_sem], by rw [← hx]; simp [go_sem], by rw [← hx]; simp [go_sem], fun o => by rw [← hx]; simp [go_sem], stCu B2 bX, by omega, B2.size, Nat.le_refl _⟩
    have HI := HI0.below bX
    have HRI := HRI0.below bX
    have HLB : Hid (∀ b, InI av n b → b < u2.heap.size) := fun b hb => (HRI0.lt hb).2
    have gS0 : u1.heap.size ≤ u2.heap.size := B2.size
    skip
    skip
    obtain ⟨gS, hgS⟩ : ∃ g, u2.heap.size = g := ⟨_, rfl⟩
    rw [hgS] at hst0 HLB gS0 hsx
    skip
    rw [hx]
    try rw [hgS]
    clear hx
    go_loopw [5] (fun i wr => ∃ (k : Nat) (v : Value) (ps : List (QI × QI)), k ≤ n ∧ i = .int .i64 k ∧ Hid (ps.length = k) ∧ Hid (∀ p ∈ ps, p.1.zs = iotaZ n ∧ p.2.zs = List.replicate n 0) ∧ Hid (∀ b, b < x.heap.size → b ≠ gS → wr.heap[b]? = x.heap[b]?) ∧ CxSt x.heap.size gS u1 wr v (.slice av n cv) ps) (fun i _ => n - (intOf i).toNat)
    case atStart => exact ⟨0, _, [], Nat.zero_le _, rfl, rfl, fun p hp => by simp at hp, fun _ _ _ => rfl, hst0⟩
    case round =>
      clear hst0
      obtain ⟨k, v, ps, hk', rfl, HQL, HQ, HKB, hst⟩ := hrel
      have hB := hst.bel
      have hlw := hst.Bw
      have hpl : ps.length ≤ 4 := by have := HQL.out; omega
      have p0 := celB hB q0
      have p1 := celB hB q1
      have p2 := celB hB q2
      have p3 := celB hB q3
      have p4 := celB hB q4
      have pf : ∀ o, wr.frozen? ⟨w.heap.size, o, none⟩ = false := fun o => frzB hB (lt_of_cell q0) (qf o)
      by_cases hlt2 : k < n
      · have hki : (k : Int) < (n : Int) := by omega
        clear p0 p1 p2 p3 p4 pf
        go_wp2_with fail
        obtain ⟨y0, hy0'⟩ : ∃ y, wr.drew = y := ⟨_, rfl⟩
        have HC0 : Below wr.heap.size wr y0 := by rw [← hy0']; exact (Below.refl _ _).drew
        refine wp_region_noPanic ?_
        refine wp_region_held_drew (S := fun _ => True) (by kernel_rfl) trivial (fun hHn => ?_)
        clear hHn
        rw [hy0']
        clear hy0'
        refine wpAnyH_take (i := 0) (oi := ⟨_, _, _, _, _, _⟩) (v := ?vt1x0) rfl (by kernel_rfl) (by kernel_rfl) (by kernel_rfl) (fun _ _ _ h => h) (Or.inl ⟨by rfl, ?yt1x0⟩) trivial ?rt1x0
        case yt1x0 => intro w hSw; clear hSw; go_simp; try with_reducible rfl
        try simp only [Act.put, List.setIfInBounds_toArray, List.set_cons_zero, List.set_cons_succ]
        refine wpAnyH_take (i := 2) (oi := ⟨_, _, _, _, _, _⟩) (v := ?vt2x2) rfl (by kernel_rfl) (by kernel_rfl) (by kernel_rfl) (fun _ _ _ h => h) (Or.inl ⟨by rfl, ?yt2x2⟩) trivial ?rt2x2
        case yt2x2 => intro w hSw; clear hSw; go_simp; try with_reducible rfl
        try simp only [Act.put, List.setIfInBounds_toArray, List.set_cons_zero, List.set_cons_succ]
        refine wpAnyH_take (i := 5) (oi := ⟨_, _, _, _, _, _⟩) (v := ?vt3x5) rfl (by kernel_rfl) (by kernel_rfl) (by kernel_rfl) (fun _ _ _ h => h) (Or.inl ⟨by rfl, ?yt3x5⟩) trivial ?rt3x5
        case yt3x5 => intro w hSw; clear hSw; go_simp; try with_reducible rfl
        try simp only [Act.put, List.setIfInBounds_toArray, List.set_cons_zero, List.set_cons_succ]
        refine wpAnyH_ready (rs := [1, 3, 6]) (by kernel_rfl) (by simp) ?_
        refine AllReadyH.cons (o := ⟨_, _, _, _, _, _⟩) rfl (fun KK hK => ?b4n0) (AllReadyH.cons (o := ⟨_, _, _, _, _, _⟩) rfl (fun KK hK => ?b4n1) (AllReadyH.cons (o := ⟨_, _, _, _, _, _⟩) rfl (fun KK hK => ?b4n2) AllReadyH.nil))
        case b4n0 =>
          have cL : y0.cell? ⟨gS, 3, none⟩ = some v := celB HC0 hst.c0
          go_simp
          refine hK.out _ _ trivial (fun hHn => ?_)
          clear hK KK hHn
          try simp only [Act.put, List.setIfInBounds_toArray, List.set_cons_zero, List.set_cons_succ]
          clear cL
          refine wpAnyH_ready (rs := [3, 6]) (by kernel_rfl) (by simp) ?_
          refine AllReadyH.cons (o := ⟨_, _, _, _, _, _⟩) rfl (fun KK hK => ?b5n0) (AllReadyH.cons (o := ⟨_, _, _, _, _, _⟩) rfl (fun KK hK => ?b5n1) AllReadyH.nil)
          case b5n0 =>
            go_simp
            refine (l17All_any n hn4 _).mono ?_
            rintro r y1 ⟨a2, c2, rfl, HI2, HRI2, hBk⟩
            replace HRI2 := HRI2.mono (B' := wr.heap.size) HC0.size
            have HC1 : Below wr.heap.size wr y1 := stCu HC0 hBk
            clear hBk
            go_wp2_with fail
            refine hK.out _ _ trivial (fun hHn => ?_)
            clear hK KK hHn
            try simp only [Act.put, List.setIfInBounds_toArray, List.set_cons_zero, List.set_cons_succ]
            refine wpAnyH_take (i := 4) (oi := ⟨_, _, _, _, _, _⟩) (v := ?vt6x4) rfl (by kernel_rfl) (by kernel_rfl) (by kernel_rfl) (fun _ _ _ h => h) (Or.inl ⟨by rfl, ?yt6x4⟩) trivial ?rt6x4
            case yt6x4 => intro w hSw; clear hSw; go_simp; try with_reducible rfl
            try simp only [Act.put, List.setIfInBounds_toArray, List.set_cons_zero, List.set_cons_succ]
            refine wpAnyH_ready (rs := [6]) (by kernel_rfl) (by simp) ?_
            refine AllReadyH.cons (o := ⟨_, _, _, _, _, _⟩) rfl (fun KK hK => ?b7n0) AllReadyH.nil
            case b7n0 =>
              obtain ⟨y2, hy2⟩ : ∃ u, y1.alloc (.cells (madeCells #[Value.int .i64 0] n) 3) = u := ⟨_, rfl⟩
              have HR2 : y2.rowIs y1.heap.size 3 n (fun _ => .int .i64 0) := by rw [← hy2]; exact World.rowIs_made _ _ _ _
              have lE2 : wr.heap.size ≤ y1.heap.size := HC1.size
              have hne : ∀ b, InI a2 n b → b ≠ y1.heap.size := fun b hb e => by have := (HRI2.lt hb).2; omega
              have BE : Below y1.heap.size y1 y2 := by rw [← hy2]; exact alCu _ _
              have HC2 : Below wr.heap.size wr y2 := stCu HC1 BE
              replace HI2 := HI2.below BE
              replace HRI2 := HRI2.below BE
              go_simp
              refine hK.out _ _ trivial (fun hHn => ?_)
              clear hK KK hHn
              try simp only [Act.put, List.setIfInBounds_toArray, List.set_cons_zero, List.set_cons_succ]
              clear hy2 BE
              refine wpAnyH_take (i := 7) (oi := ⟨_, _, _, _, _, _⟩) (v := ?vt8x7) rfl (by kernel_rfl) (by kernel_rfl) (by kernel_rfl) (fun _ _ _ h => h) (Or.inl ⟨by rfl, ?yt8x7⟩) trivial ?rt8x7
              case yt8x7 => intro w hSw; clear hSw; go_simp; try with_reducible rfl
              try simp only [Act.put, List.setIfInBounds_toArray, List.set_cons_zero, List.set_cons_succ]
              refine wpAnyH_ready (rs := [8]) (by kernel_rfl) (by simp) ?_
              refine AllReadyH.cons (o := ⟨_, _, _, _, _, _⟩) rfl (fun KK hK => ?b9n0) AllReadyH.nil
              case b9n0 =>
                obtain ⟨y3, hy3⟩ : ∃ u, y2.alloc (.cells #[.int .i64 0, .int .i64 0, .slice a2 n c2, .slice none 0 0, .slice (some ⟨y1.heap.size, 0, none⟩) n n, .int .i64 0] 49) = u := ⟨_, rfl⟩
                have HD2 : y3.heap[y2.heap.size]? = some (.cells #[.int .i64 0, .int .i64 0, .slice a2 n c2, .slice none 0 0, .slice (some ⟨y1.heap.size, 0, none⟩) n n, .int .i64 0] 49 (0, 0)) := by rw [← hy3]; exact heap_alloc_new _ _
                have BE : Below y2.heap.size y2 y3 := by rw [← hy3]; exact alCu _ _
                have HC3 : Below wr.heap.size wr y3 := stCu HC2 BE
                replace HR2 := HR2.of_block (BE.block _ HR2.lt)
                replace HI2 := HI2.below BE
                replace HRI2 := HRI2.below BE
                go_simp
                refine hK.out _ _ trivial (fun hHn => ?_)
                clear hK KK hHn
                try simp only [Act.put, List.setIfInBounds_toArray, List.set_cons_zero, List.set_cons_succ]
                clear hy3 BE
                refine wpAnyH_ready (rs := [9]) (by kernel_rfl) (by simp) ?_
                refine AllReadyH.cons (o := ⟨_, _, _, _, _, _⟩) rfl (fun KK hK => ?b10n0) AllReadyH.nil
                case b10n0 =>
                  have hin := ints_rep HR2
                  have hir : RowI y3 wr.heap.size (some ⟨y1.heap.size, 0, none⟩) (List.replicate n (0 : Int)).length := rowI_rep HR2 lE2
                  have hstx := hst.below HC3
                  have HC : Hid (cxC ((⟨iotaZ n, a2, c2⟩, ⟨List.replicate n 0, some ⟨y1.heap.size, 0, none⟩, n⟩) : QI × QI) = [.int .i64 0, .int .i64 0, .slice a2 n c2, .slice none 0 0, .slice (some ⟨y1.heap.size, 0, none⟩) n n, .int .i64 0]) := by show _ = _; simp [cxC, iotaZ_len]
                  have HC1' : Hid (∀ u ∈ ([.int .i64 0, .int .i64 0, .slice a2 n c2, .slice none 0 0, .slice (some ⟨y1.heap.size, 0, none⟩) n n, .int .i64 0] : List Value), u.oneCell' = true) := by show ∀ u ∈ _, _; rw [← HC.out]; exact cxC_one _
                  have hdj : ∀ b, InI a2 (iotaZ n).length b → ¬ InI (some ⟨y1.heap.size, 0, none⟩) (List.replicate n (0 : Int)).length b := fun b h1 h2 => by rw [iotaZ_len] at h1; obtain ⟨-, o, s, e3⟩ := h2; simp only [Option.some.injEq, Addr.mk.injEq] at e3; exact hne b h1 e3.1.symm
                  have hri : RowI y3 wr.heap.size a2 (iotaZ n).length := by rw [iotaZ_len]; exact HRI2
                  refine step_append_lies _ (by rfl) _ _ 25 (by rfl) x.heap.size 49 i1 _ 6 96 Tryd.underlying25 hi1 hy0 hy1 hy2 rfl (by omega) v ps.length (ps.flatMap cxC) (by rfl) hstx.own ⟨y2.heap.size, 0, none⟩ 1 1 [.int .i64 0, .int .i64 0, .slice a2 n c2, .slice none 0 0, .slice (some ⟨y1.heap.size, 0, none⟩) n n, .int .i64 0] (by rfl) (by rfl) (World.news_of_block (cs := #[.int .i64 0, .int .i64 0, .slice a2 n c2, .slice none 0 0, .slice (some ⟨y1.heap.size, 0, none⟩) n n, .int .i64 0]) (t := 49) (fr := (0, 0)) HD2) HC1'.out (by omega) (by unfold maxLen; omega) (by omega) (by have := HC3.size; have := hst.Bw; omega) (y3.heap.size) rfl ?_
                  intro g2 cap2 w5 HO2 hgrow2 hat2 hlt2
                  rw [← HC.out] at HO2
                  have HN : Hid (CxSt x.heap.size gS u1 (w5.setCell ⟨gS, 3, none⟩ (.slice (some ⟨g2, 0, none⟩) (ps.length + 1) cap2)) (.slice (some ⟨g2, 0, none⟩) (ps.length + 1) cap2) (.slice av n cv) (ps ++ [((⟨iotaZ n, a2, c2⟩, ⟨List.replicate n 0, some ⟨y1.heap.size, 0, none⟩, n⟩) : QI × QI)])) := hst.step HC3 HI2 hri hin hir hdj hgrow2 HO2 hat2
                  have HM : Hid (∀ p ∈ ps ++ [((⟨iotaZ n, a2, c2⟩, ⟨List.replicate n 0, some ⟨y1.heap.size, 0, none⟩, n⟩) : QI × QI)], p.1.zs = iotaZ n ∧ p.2.zs = List.replicate n 0) := fun p hp => by
                    rcases List.mem_append.1 hp with h1 | h1
                    · exact HQ.out p h1
                    · simp at h1; subst h1; exact ⟨rfl, rfl⟩
                  have HL : Hid ((ps ++ [((⟨iotaZ n, a2, c2⟩, ⟨List.replicate n 0, some ⟨y1.heap.size, 0, none⟩, n⟩) : QI × QI)]).length = k + 1) := by show _ = _; rw [List.length_append, HQL.out]; rfl
                  have hvb : ∀ b, v.ownBlock = some b → x.heap.size ≤ b := fun b hb => (hst.own.lt b hb).1
                  have HKN : Hid (∀ b, b < x.heap.size → b ≠ gS → (w5.setCell ⟨gS, 3, none⟩ (.slice (some ⟨g2, 0, none⟩) (ps.length + 1) cap2)).heap[b]? = x.heap[b]?) := fun b hb hne => by
                    rw [Below.heap_setCell _ ⟨gS, _, none⟩ _ b (by simpa using hne), hgrow2.block b (by have := HC3.size; have := hst.Bw; omega) (fun e => by have := hvb b e.symm; omega), HC3.block b (by have := hst.Bw; omega)]
                    exact HKB.out b hb hne
                  have hvS : some gS ≠ v.ownBlock := fun e => by have := (hstx.own.lt gS e.symm).1; have := hst.SB; omega
                  have zc : w5.cell? ⟨gS, 3, none⟩ = some v := (World.cell?_of_block (a := ⟨gS, 3, none⟩) (hgrow2.block gS (lt_of_cell hstx.c0) hvS)).trans hstx.c0
                  have zf : ∀ o, w5.frozen? ⟨gS, o, none⟩ = false := fun o => (World.frozen?_of_block (a := ⟨gS, o, none⟩) (hgrow2.block gS (lt_of_cell hstx.c0) hvS)).trans (hstx.fr o)
                  refine hK.out _ _ trivial (fun hHn => ?_)
                  clear hK KK hHn
                  try simp only [Act.put, List.setIfInBounds_toArray, List.set_cons_zero, List.set_cons_succ]
                  clear hgrow2 hat2 HR2 HD2 hin hir hri hdj hstx HO2 hvS hlt2 HC HC1' hvb HI2 HRI2 hne
                  refine wpAnyH_take (i := 10) (oi := ⟨_, _, _, _, _, _⟩) (v := ?vt11x10) rfl (by kernel_rfl) (by kernel_rfl) (by kernel_rfl) (fun _ _ _ h => h) (Or.inl ⟨by rfl, ?yt11x10⟩) trivial ?rt11x10
                  case yt11x10 => intro w hSw; clear hSw; go_simp; try with_reducible rfl
                  try simp only [Act.put, List.setIfInBounds_toArray, List.set_cons_zero, List.set_cons_succ]
                  refine wpAnyH_ready (rs := [11]) (by kernel_rfl) (by simp) ?_
                  refine AllReadyH.cons (o := ⟨_, _, _, _, _, _⟩) rfl (fun KK hK => ?b12n0) AllReadyH.nil
                  case b12n0 =>
                    go_simp
                    refine hK.out _ _ trivial (fun hHn => ?_)
                    clear hK KK hHn
                    try simp only [Act.put, List.setIfInBounds_toArray, List.set_cons_zero, List.set_cons_succ]
                    refine wpAnyH_done (by kernel_rfl) (NoPanic.normal ?_) _
                    clear zc zf hst
                    go_wp2
                    go_roundw
                    case rel => exact ⟨k + 1, _, _, by omega, by go_num, HL.out, HM.out, HKN.out, HN.out⟩
                    case measure => simp [intOf]; omega
          case b5n1 =>
            obtain ⟨y1, hy1⟩ : ∃ u, y0.alloc (.cells (madeCells #[Value.int .i64 0] n) 3) = u := ⟨_, rfl⟩
            have HR2 : y1.rowIs y0.heap.size 3 n (fun _ => .int .i64 0) := by rw [← hy1]; exact World.rowIs_made _ _ _ _
            have lE2 : wr.heap.size ≤ y0.heap.size := HC0.size
            have BE : Below y0.heap.size y0 y1 := by rw [← hy1]; exact alCu _ _
            have HC1 : Below wr.heap.size wr y1 := stCu HC0 BE
            go_simp
            refine hK.out _ _ trivial (fun hHn => ?_)
            clear hK KK hHn
            try simp only [Act.put, List.setIfInBounds_toArray, List.set_cons_zero, List.set_cons_succ]
            clear hy1 BE
            refine wpAnyH_ready (rs := [3]) (by kernel_rfl) (by simp) ?_
            refine AllReadyH.cons (o := ⟨_, _, _, _, _, _⟩) rfl (fun KK hK => ?b13n0) AllReadyH.nil
            case b13n0 =>
              go_simp
              refine (l17All_any n hn4 _).mono ?_
              rintro r y2 ⟨a2, c2, rfl, HI2, HRI2, hBk⟩
              have hne : ∀ b, InI a2 n b → b ≠ y0.heap.size := fun b hb e => by have := (HRI2.lt hb).1; have := HR2.lt; omega
              replace HR2 := HR2.of_block (hBk.block _ HR2.lt)
              replace HRI2 := HRI2.mono (B' := wr.heap.size) HC1.size
              have HC2 : Below wr.heap.size wr y2 := stCu HC1 hBk
              clear hBk
              go_wp2_with fail
              refine hK.out _ _ trivial (fun hHn => ?_)
              clear hK KK hHn
              try simp only [Act.put, List.setIfInBounds_toArray, List.set_cons_zero, List.set_cons_succ]
              refine wpAnyH_take (i := 4) (oi := ⟨_, _, _, _, _, _⟩) (v := ?vt14x4) rfl (by kernel_rfl) (by kernel_rfl) (by kernel_rfl) (fun _ _ _ h => h) (Or.inl ⟨by rfl, ?yt14x4⟩) trivial ?rt14x4
              case yt14x4 => intro w hSw; clear hSw; go_simp; try with_reducible rfl
              try simp only [Act.put, List.setIfInBounds_toArray, List.set_cons_zero, List.set_cons_succ]
              refine wpAnyH_take (i := 7) (oi := ⟨_, _, _, _, _, _⟩) (v := ?vt15x7) rfl (by kernel_rfl) (by kernel_rfl) (by kernel_rfl) (fun _ _ _ h => h) (Or.inl ⟨by rfl, ?yt15x7⟩) trivial ?rt15x7
              case yt15x7 => intro w hSw; clear hSw; go_simp; try with_reducible rfl
              try simp only [Act.put, List.setIfInBounds_toArray, List.set_cons_zero, List.set_cons_succ]
              refine wpAnyH_ready (rs := [8]) (by kernel_rfl) (by simp) ?_
              refine AllReadyH.cons (o := ⟨_, _, _, _, _, _⟩) rfl (fun KK hK => ?b16n0) AllReadyH.nil
              case b16n0 =>
                obtain ⟨y3, hy3⟩ : ∃ u, y2.alloc (.cells #[.int .i64 0, .int .i64 0, .slice a2 n c2, .slice none 0 0, .slice (some ⟨y0.heap.size, 0, none⟩) n n, .int .i64 0] 49) = u := ⟨_, rfl⟩
                have HD2 : y3.heap[y2.heap.size]? = some (.cells #[.int .i64 0, .int .i64 0, .slice a2 n c2, .slice none 0 0, .slice (some ⟨y0.heap.size, 0, none⟩) n n, .int .i64 0] 49 (0, 0)) := by rw [← hy3]; exact heap_alloc_new _ _
                have BE : Below y2.heap.size y2 y3 := by rw [← hy3]; exact alCu _ _
                have HC3 : Below wr.heap.size wr y3 := stCu HC2 BE
                replace HR2 := HR2.of_block (BE.block _ HR2.lt)
                replace HI2 := HI2.below BE
                replace HRI2 := HRI2.below BE
                go_simp
                refine hK.out _ _ trivial (fun hHn => ?_)
                clear hK KK hHn
                try simp only [Act.put, List.setIfInBounds_toArray, List.set_cons_zero, List.set_cons_succ]
                clear hy3 BE
                refine wpAnyH_ready (rs := [9]) (by kernel_rfl) (by simp) ?_
                refine AllReadyH.cons (o := ⟨_, _, _, _, _, _⟩) rfl (fun KK hK => ?b17n0) AllReadyH.nil
                case b17n0 =>
                  have hin := ints_rep HR2
                  have hir : RowI y3 wr.heap.size (some ⟨y0.heap.size, 0, none⟩) (List.replicate n (0 : Int)).length := rowI_rep HR2 lE2
                  have hstx := hst.below HC3
                  have HC : Hid (cxC ((⟨iotaZ n, a2, c2⟩, ⟨List.replicate n 0, some ⟨y0.heap.size, 0, none⟩, n⟩) : QI × QI) = [.int .i64 0, .int .i64 0, .slice a2 n c2, .slice none 0 0, .slice (some ⟨y0.heap.size, 0, none⟩) n n, .int .i64 0]) := by show _ = _; simp [cxC, iotaZ_len]
                  have HC1' : Hid (∀ u ∈ ([.int .i64 0, .int .i64 0, .slice a2 n c2, .slice none 0 0, .slice (some ⟨y0.heap.size, 0, none⟩) n n, .int .i64 0] : List Value), u.oneCell' = true) := by show ∀ u ∈ _, _; rw [← HC.out]; exact cxC_one _
                  have hdj : ∀ b, InI a2 (iotaZ n).length b → ¬ InI (some ⟨y0.heap.size, 0, none⟩) (List.replicate n (0 : Int)).length b := fun b h1 h2 => by rw [iotaZ_len] at h1; obtain ⟨-, o, s, e3⟩ := h2; simp only [Option.some.injEq, Addr.mk.injEq] at e3; exact hne b h1 e3.1.symm
                  have hri : RowI y3 wr.heap.size a2 (iotaZ n).length := by rw [iotaZ_len]; exact HRI2
                  refine step_append_lies _ (by rfl) _ _ 25 (by rfl) x.heap.size 49 i1 _ 6 96 Tryd.underlying25 hi1 hy0 hy1 hy2 rfl (by omega) v ps.length (ps.flatMap cxC) (by rfl) hstx.own ⟨y2.heap.size, 0, none⟩ 1 1 [.int .i64 0, .int .i64 0, .slice a2 n c2, .slice none 0 0, .slice (some ⟨y0.heap.size, 0, none⟩) n n, .int .i64 0] (by rfl) (by rfl) (World.news_of_block (cs := #[.int .i64 0, .int .i64 0, .slice a2 n c2, .slice none 0 0, .slice (some ⟨y0.heap.size, 0, none⟩) n n, .int .i64 0]) (t := 49) (fr := (0, 0)) HD2) HC1'.out (by omega) (by unfold maxLen; omega) (by omega) (by have := HC3.size; have := hst.Bw; omega) (y3.heap.size) rfl ?_
                  intro g2 cap2 w5 HO2 hgrow2 hat2 hlt2
                  rw [← HC.out] at HO2
                  have HN : Hid (CxSt x.heap.size gS u1 (w5.setCell ⟨gS, 3, none⟩ (.slice (some ⟨g2, 0, none⟩) (ps.length + 1) cap2)) (.slice (some ⟨g2, 0, none⟩) (ps.length + 1) cap2) (.slice av n cv) (ps ++ [((⟨iotaZ n, a2, c2⟩, ⟨List.replicate n 0, some ⟨y0.heap.size, 0, none⟩, n⟩) : QI × QI)])) := hst.step HC3 HI2 hri hin hir hdj hgrow2 HO2 hat2
                  have HM : Hid (∀ p ∈ ps ++ [((⟨iotaZ n, a2, c2⟩, ⟨List.replicate n 0, some ⟨y0.heap.size, 0, none⟩, n⟩) : QI × QI)], p.1.zs = iotaZ n ∧ p.2.zs = List.replicate n 0) := fun p hp => by
                    rcases List.mem_append.1 hp with h1 | h1
                    · exact HQ.out p h1
                    · simp at h1; subst h1; exact ⟨rfl, rfl⟩
                  have HL : Hid ((ps ++ [((⟨iotaZ n, a2, c2⟩, ⟨List.replicate n 0, some ⟨y0.heap.size, 0, none⟩, n⟩) : QI × QI)]).length = k + 1) := by show _ = _; rw [List.length_append, HQL.out]; rfl
                  have hvb : ∀ b, v.ownBlock = some b → x.heap.size ≤ b := fun b hb => (hst.own.lt b hb).1
                  have HKN : Hid (∀ b, b < x.heap.size → b ≠ gS → (w5.setCell ⟨gS, 3, none⟩ (.slice (some ⟨g2, 0, none⟩) (ps.length + 1) cap2)).heap[b]? = x.heap[b]?) := fun b hb hne => by
                    rw [Below.heap_setCell _ ⟨gS, _, none⟩ _ b (by simpa using hne), hgrow2.block b (by have := HC3.size; have := hst.Bw; omega) (fun e => by have := hvb b e.symm; omega), HC3.block b (by have := hst.Bw; omega)]
                    exact HKB.out b hb hne
                  have hvS : some gS ≠ v.ownBlock := fun e => by have := (hstx.own.lt gS e.symm).1; have := hst.SB; omega
                  have zc : w5.cell? ⟨gS, 3, none⟩ = some v := (World.cell?_of_block (a := ⟨gS, 3, none⟩) (hgrow2.block gS (lt_of_cell hstx.c0) hvS)).trans hstx.c0
                  have zf : ∀ o, w5.frozen? ⟨gS, o, none⟩ = false := fun o => (World.frozen?_of_block (a := ⟨gS, o, none⟩) (hgrow2.block gS (lt_of_cell hstx.c0) hvS)).trans (hstx.fr o)
                  refine hK.out _ _ trivial (fun hHn => ?_)
                  clear hK KK hHn
                  try simp only [Act.put, List.setIfInBounds_toArray, List.set_cons_zero, List.set_cons_succ]
                  clear hgrow2 hat2 HR2 HD2 hin hir hri hdj hstx HO2 hvS hlt2 HC HC1' hvb HI2 HRI2 hne
                  refine wpAnyH_take (i := 10) (oi := ⟨_, _, _, _, _, _⟩) (v := ?vt18x10) rfl (by kernel_rfl) (by kernel_rfl) (by kernel_rfl) (fun _ _ _ h => h) (Or.inl ⟨by rfl, ?yt18x10⟩) trivial ?rt18x10
                  case yt18x10 => intro w hSw; clear hSw; go_simp; try with_reducible rfl
                  try simp only [Act.put, List.setIfInBounds_toArray, List.set_cons_zero, List.set_cons_succ]
                  refine wpAnyH_ready (rs := [11]) (by kernel_rfl) (by simp) ?_
                  refine AllReadyH.cons (o := ⟨_, _, _, _, _, _⟩) rfl (fun KK hK => ?b19n0) AllReadyH.nil
                  case b19n0 =>
                    go_simp
                    refine hK.out _ _ trivial (fun hHn => ?_)
                    clear hK KK hHn
                    try simp only [Act.put, List.setIfInBounds_toArray, List.set_cons_zero, List.set_cons_succ]
                    refine wpAnyH_done (by kernel_rfl) (NoPanic.normal ?_) _
                    clear zc zf hst
                    go_wp2
                    go_roundw
                    case rel => exact ⟨k + 1, _, _, by omega, by go_num, HL.out, HM.out, HKN.out, HN.out⟩
                    case measure => simp [intOf]; omega
        case b4n1 =>
          go_simp
          refine (l17All_any n hn4 _).mono ?_
          rintro r y1 ⟨a2, c2, rfl, HI2, HRI2, hBk⟩
          replace HRI2 := HRI2.mono (B' := wr.heap.size) HC0.size
          have HC1 : Below wr.heap.size wr y1 := stCu HC0 hBk
          clear hBk
          go_wp2_with fail
          refine hK.out _ _ trivial (fun hHn => ?_)
          clear hK KK hHn
          try simp only [Act.put, List.setIfInBounds_toArray, List.set_cons_zero, List.set_cons_succ]
          refine wpAnyH_take (i := 4) (oi := ⟨_, _, _, _, _, _⟩) (v := ?vt20x4) rfl (by kernel_rfl) (by kernel_rfl) (by kernel_rfl) (fun _ _ _ h => h) (Or.inl ⟨by rfl, ?yt20x4⟩) trivial ?rt20x4
          case yt20x4 => intro w hSw; clear hSw; go_simp; try with_reducible rfl
          try simp only [Act.put, List.setIfInBounds_toArray, List.set_cons_zero, List.set_cons_succ]
          refine wpAnyH_ready (rs := [1, 6]) (by kernel_rfl) (by simp) ?_
          refine AllReadyH.cons (o := ⟨_, _, _, _, _, _⟩) rfl (fun KK hK => ?b21n0) (AllReadyH.cons (o := ⟨_, _, _, _, _, _⟩) rfl (fun KK hK => ?b21n1) AllReadyH.nil)
          case b21n0 =>
            have cL : y1.cell? ⟨gS, 3, none⟩ = some v := celB HC1 hst.c0
            go_simp
            refine hK.out _ _ trivial (fun hHn => ?_)
            clear hK KK hHn
            try simp only [Act.put, List.setIfInBounds_toArray, List.set_cons_zero, List.set_cons_succ]
            clear cL
            refine wpAnyH_ready (rs := [6]) (by kernel_rfl) (by simp) ?_
            refine AllReadyH.cons (o := ⟨_, _, _, _, _, _⟩) rfl (fun KK hK => ?b22n0) AllReadyH.nil
            case b22n0 =>
              obtain ⟨y2, hy2⟩ : ∃ u, y1.alloc (.cells (madeCells #[Value.int .i64 0] n) 3) = u := ⟨_, rfl⟩
              have HR2 : y2.rowIs y1.heap.size 3 n (fun _ => .int .i64 0) := by rw [← hy2]; exact World.rowIs_made _ _ _ _
              have lE2 : wr.heap.size ≤ y1.heap.size := HC1.size
              have hne : ∀ b, InI a2 n b → b ≠ y1.heap.size := fun b hb e => by have := (HRI2.lt hb).2; omega
              have BE : Below y1.heap.size y1 y2 := by rw [← hy2]; exact alCu _ _
              have HC2 : Below wr.heap.size wr y2 := stCu HC1 BE
              replace HI2 := HI2.below BE
              replace HRI2 := HRI2.below BE
              go_simp
              refine hK.out _ _ trivial (fun hHn => ?_)
              clear hK KK hHn
              try simp only [Act.put, List.setIfInBounds_toArray, List.set_cons_zero, List.set_cons_succ]
              clear hy2 BE
              refine wpAnyH_take (i := 7) (oi := ⟨_, _, _, _, _, _⟩) (v := ?vt23x7) rfl (by kernel_rfl) (by kernel_rfl) (by kernel_rfl) (fun _ _ _ h => h) (Or.inl ⟨by rfl, ?yt23x7⟩) trivial ?rt23x7
              case yt23x7 => intro w hSw; clear hSw; go_simp; try with_reducible rfl
              try simp only [Act.put, List.setIfInBounds_toArray, List.set_cons_zero, List.set_cons_succ]
              refine wpAnyH_ready (rs := [8]) (by kernel_rfl) (by simp) ?_
              refine AllReadyH.cons (o := ⟨_, _, _, _, _, _⟩) rfl (fun KK hK => ?b24n0) AllReadyH.nil
              case b24n0 =>
                obtain ⟨y3, hy3⟩ : ∃ u, y2.alloc (.cells #[.int .i64 0, .int .i64 0, .slice a2 n c2, .slice none 0 0, .slice (some ⟨y1.heap.size, 0, none⟩) n n, .int .i64 0] 49) = u := ⟨_, rfl⟩
                have HD2 : y3.heap[y2.heap.size]? = some (.cells #[.int .i64 0, .int .i64 0, .slice a2 n c2, .slice none 0 0, .slice (some ⟨y1.heap.size, 0, none⟩) n n, .int .i64 0] 49 (0, 0)) := by rw [← hy3]; exact heap_alloc_new _ _
                have BE : Below y2.heap.size y2 y3 := by rw [← hy3]; exact alCu _ _
                have HC3 : Below wr.heap.size wr y3 := stCu HC2 BE
                replace HR2 := HR2.of_block (BE.block _ HR2.lt)
                replace HI2 := HI2.below BE
                replace HRI2 := HRI2.below BE
                go_simp
                refine hK.out _ _ trivial (fun hHn => ?_)
                clear hK KK hHn
                try simp only [Act.put, List.setIfInBounds_toArray, List.set_cons_zero, List.set_cons_succ]
                clear hy3 BE
                refine wpAnyH_ready (rs := [9]) (by kernel_rfl) (by simp) ?_
                refine AllReadyH.cons (o := ⟨_, _, _, _, _, _⟩) rfl (fun KK hK => ?b25n0) AllReadyH.nil
                case b25n0 =>
                  have hin := ints_rep HR2
                  have hir : RowI y3 wr.heap.size (some ⟨y1.heap.size, 0, none⟩) (List.replicate n (0 : Int)).length := rowI_rep HR2 lE2
                  have hstx := hst.below HC3
                  have HC : Hid (cxC ((⟨iotaZ n, a2, c2⟩, ⟨List.replicate n 0, some ⟨y1.heap.size, 0, none⟩, n⟩) : QI × QI) = [.int .i64 0, .int .i64 0, .slice a2 n c2, .slice none 0 0, .slice (some ⟨y1.heap.size, 0, none⟩) n n, .int .i64 0]) := by show _ = _; simp [cxC, iotaZ_len]
                  have HC1' : Hid (∀ u ∈ ([.int .i64 0, .int .i64 0, .slice a2 n c2, .slice none 0 0, .slice (some ⟨y1.heap.size, 0, none⟩) n n, .int .i64 0] : List Value), u.oneCell' = true) := by show ∀ u ∈ _, _; rw [← HC.out]; exact cxC_one _
                  have hdj : ∀ b, InI a2 (iotaZ n).length b → ¬ InI (some ⟨y1.heap.size, 0, none⟩) (List.replicate n (0 : Int)).length b := fun b h1 h2 => by rw [iotaZ_len] at h1; obtain ⟨-, o, s, e3⟩ := h2; simp only [Option.some.injEq, Addr.mk.injEq] at e3; exact hne b h1 e3.1.symm
                  have hri : RowI y3 wr.heap.size a2 (iotaZ n).length := by rw [iotaZ_len]; exact HRI2
                  refine step_append_lies _ (by rfl) _ _ 25 (by rfl) x.heap.size 49 i1 _ 6 96 Tryd.underlying25 hi1 hy0 hy1 hy2 rfl (by omega) v ps.length (ps.flatMap cxC) (by rfl) hstx.own ⟨y2.heap.size, 0, none⟩ 1 1 [.int .i64 0, .int .i64 0, .slice a2 n c2, .slice none 0 0, .slice (some ⟨y1.heap.size, 0, none⟩) n n, .int .i64 0] (by rfl) (by rfl) (World.news_of_block (cs := #[.int .i64 0, .int .i64 0, .slice a2 n c2, .slice none 0 0, .slice (some ⟨y1.heap.size, 0, none⟩) n n, .int .i64 0]) (t := 49) (fr := (0, 0)) HD2) HC1'.out (by omega) (by unfold maxLen; omega) (by omega) (by have := HC3.size; have := hst.Bw; omega) (y3.heap.size) rfl ?_
                  intro g2 cap2 w5 HO2 hgrow2 hat2 hlt2
                  rw [← HC.out] at HO2
                  have HN : Hid (CxSt x.heap.size gS u1 (w5.setCell ⟨gS, 3, none⟩ (.slice (some ⟨g2, 0, none⟩) (ps.length + 1) cap2)) (.slice (some ⟨g2, 0, none⟩) (ps.length + 1) cap2) (.slice av n cv) (ps ++ [((⟨iotaZ n, a2, c2⟩, ⟨List.replicate n 0, some ⟨y1.heap.size, 0, none⟩, n⟩) : QI × QI)])) := hst.step HC3 HI2 hri hin hir hdj hgrow2 HO2 hat2
                  have HM : Hid (∀ p ∈ ps ++ [((⟨iotaZ n, a2, c2⟩, ⟨List.replicate n 0, some ⟨y1.heap.size, 0, none⟩, n⟩) : QI × QI)], p.1.zs = iotaZ n ∧ p.2.zs = List.replicate n 0) := fun p hp => by
                    rcases List.mem_append.1 hp with h1 | h1
                    · exact HQ.out p h1
                    · simp at h1; subst h1; exact ⟨rfl, rfl⟩
                  have HL : Hid ((ps ++ [((⟨iotaZ n, a2, c2⟩, ⟨List.replicate n 0, some ⟨y1.heap.size, 0, none⟩, n⟩) : QI × QI)]).length = k + 1) := by show _ = _; rw [List.length_append, HQL.out]; rfl
                  have hvb : ∀ b, v.ownBlock = some b → x.heap.size ≤ b := fun b hb => (hst.own.lt b hb).1
                  have HKN : Hid (∀ b, b < x.heap.size → b ≠ gS → (w5.setCell ⟨gS, 3, none⟩ (.slice (some ⟨g2, 0, none⟩) (ps.length + 1) cap2)).heap[b]? = x.heap[b]?) := fun b hb hne => by
                    rw [Below.heap_setCell _ ⟨gS, _, none⟩ _ b (by simpa using hne), hgrow2.block b (by have := HC3.size; have := hst.Bw; omega) (fun e => by have := hvb b e.symm; omega), HC3.block b (by have := hst.Bw; omega)]
                    exact HKB.out b hb hne
                  have hvS : some gS ≠ v.ownBlock := fun e => by have := (hstx.own.lt gS e.symm).1; have := hst.SB; omega
                  have zc : w5.cell? ⟨gS, 3, none⟩ = some v := (World.cell?_of_block (a := ⟨gS, 3, none⟩) (hgrow2.block gS (lt_of_cell hstx.c0) hvS)).trans hstx.c0
                  have zf : ∀ o, w5.frozen? ⟨gS, o, none⟩ = false := fun o => (World.frozen?_of_block (a := ⟨gS, o, none⟩) (hgrow2.block gS (lt_of_cell hstx.c0) hvS)).trans (hstx.fr o)
                  refine hK.out _ _ trivial (fun hHn => ?_)
                  clear hK KK hHn
                  try simp only [Act.put, List.setIfInBounds_toArray, List.set_cons_zero, List.set_cons_succ]
                  clear hgrow2 hat2 HR2 HD2 hin hir hri hdj hstx HO2 hvS hlt2 HC HC1' hvb HI2 HRI2 hne
                  refine wpAnyH_take (i := 10) (oi := ⟨_, _, _, _, _, _⟩) (v := ?vt26x10) rfl (by kernel_rfl) (by kernel_rfl) (by kernel_rfl) (fun _ _ _ h => h) (Or.inl ⟨by rfl, ?yt26x10⟩) trivial ?rt26x10
                  case yt26x10 => intro w hSw; clear hSw; go_simp; try with_reducible rfl
                  try simp only [Act.put, List.setIfInBounds_toArray, List.set_cons_zero, List.set_cons_succ]
                  refine wpAnyH_ready (rs := [11]) (by kernel_rfl) (by simp) ?_
                  refine AllReadyH.cons (o := ⟨_, _, _, _, _, _⟩) rfl (fun KK hK => ?b27n0) AllReadyH.nil
                  case b27n0 =>
                    go_simp
                    refine hK.out _ _ trivial (fun hHn => ?_)
                    clear hK KK hHn
                    try simp only [Act.put, List.setIfInBounds_toArray, List.set_cons_zero, List.set_cons_succ]
                    refine wpAnyH_done (by kernel_rfl) (NoPanic.normal ?_) _
                    clear zc zf hst
                    go_wp2
                    go_roundw
                    case rel => exact ⟨k + 1, _, _, by omega, by go_num, HL.out, HM.out, HKN.out, HN.out⟩
                    case measure => simp [intOf]; omega
          case b21n1 =>
            obtain ⟨y2, hy2⟩ : ∃ u, y1.alloc (.cells (madeCells #[Value.int .i64 0] n) 3) = u := ⟨_, rfl⟩
            have HR2 : y2.rowIs y1.heap.size 3 n (fun _ => .int .i64 0) := by rw [← hy2]; exact World.rowIs_made _ _ _ _
            have lE2 : wr.heap.size ≤ y1.heap.size := HC1.size
            have hne : ∀ b, InI a2 n b → b ≠ y1.heap.size := fun b hb e => by have := (HRI2.lt hb).2; omega
            have BE : Below y1.heap.size y1 y2 := by rw [← hy2]; exact alCu _ _
            have HC2 : Below wr.heap.size wr y2 := stCu HC1 BE
            replace HI2 := HI2.below BE
            replace HRI2 := HRI2.below BE
            go_simp
            refine hK.out _ _ trivial (fun hHn => ?_)
            clear hK KK hHn
            try simp only [Act.put, List.setIfInBounds_toArray, List.set_cons_zero, List.set_cons_succ]
            clear hy2 BE
            refine wpAnyH_take (i := 7) (oi := ⟨_, _, _, _, _, _⟩) (v := ?vt28x7) rfl (by kernel_rfl) (by kernel_rfl) (by kernel_rfl) (fun _ _ _ h => h) (Or.inl ⟨by rfl, ?yt28x7⟩) trivial ?rt28x7
            case yt28x7 => intro w hSw; clear hSw; go_simp; try with_reducible rfl
            try simp only [Act.put, List.setIfInBounds_toArray, List.set_cons_zero, List.set_cons_succ]
            refine wpAnyH_ready (rs := [1, 8]) (by kernel_rfl) (by simp) ?_
            refine AllReadyH.cons (o := ⟨_, _, _, _, _, _⟩) rfl (fun KK hK => ?b29n0) (AllReadyH.cons (o := ⟨_, _, _, _, _, _⟩) rfl (fun KK hK => ?b29n1) AllReadyH.nil)
            case b29n0 =>
              have cL : y2.cell? ⟨gS, 3, none⟩ = some v := celB HC2 hst.c0
              go_simp
              refine hK.out _ _ trivial (fun hHn => ?_)
              clear hK KK hHn
              try simp only [Act.put, List.setIfInBounds_toArray, List.set_cons_zero, List.set_cons_succ]
              clear cL
              refine wpAnyH_ready (rs := [8]) (by kernel_rfl) (by simp) ?_
              refine AllReadyH.cons (o := ⟨_, _, _, _, _, _⟩) rfl (fun KK hK => ?b30n0) AllReadyH.nil
              case b30n0 =>
                obtain ⟨y3, hy3⟩ : ∃ u, y2.alloc (.cells #[.int .i64 0, .int .i64 0, .slice a2 n c2, .slice none 0 0, .slice (some ⟨y1.heap.size, 0, none⟩) n n, .int .i64 0] 49) = u := ⟨_, rfl⟩
                have HD2 : y3.heap[y2.heap.size]? = some (.cells #[.int .i64 0, .int .i64 0, .slice a2 n c2, .slice none 0 0, .slice (some ⟨y1.heap.size, 0, none⟩) n n, .int .i64 0] 49 (0, 0)) := by rw [← hy3]; exact heap_alloc_new _ _
                have BE : Below y2.heap.size y2 y3 := by rw [← hy3]; exact alCu _ _
                have HC3 : Below wr.heap.size wr y3 := stCu HC2 BE
                replace HR2 := HR2.of_block (BE.block _ HR2.lt)
                replace HI2 := HI2.below BE
                replace HRI2 := HRI2.below BE
                go_simp
                refine hK.out _ _ trivial (fun hHn => ?_)
                clear hK KK hHn
                try simp only [Act.put, List.setIfInBounds_toArray, List.set_cons_zero, List.set_cons_succ]
                clear hy3 BE
                refine wpAnyH_ready (rs := [9]) (by kernel_rfl) (by simp) ?_
                refine AllReadyH.cons (o := ⟨_, _, _, _, _, _⟩) rfl (fun KK hK => ?b31n0) AllReadyH.nil
                case b31n0 =>
                  have hin := ints_rep HR2
                  have hir : RowI y3 wr.heap.size (some ⟨y1.heap.size, 0, none⟩) (List.replicate n (0 : Int)).length := rowI_rep HR2 lE2
                  have hstx := hst.below HC3
                  have HC : Hid (cxC ((⟨iotaZ n, a2, c2⟩, ⟨List.replicate n 0, some ⟨y1.heap.size, 0, none⟩, n⟩) : QI × QI) = [.int .i64 0, .int .i64 0, .slice a2 n c2, .slice none 0 0, .slice (some ⟨y1.heap.size, 0, none⟩) n n, .int .i64 0]) := by show _ = _; simp [cxC, iotaZ_len]
                  have HC1' : Hid (∀ u ∈ ([.int .i64 0, .int .i64 0, .slice a2 n c2, .slice none 0 0, .slice (some ⟨y1.heap.size, 0, none⟩) n n, .int .i64 0] : List Value), u.oneCell' = true) := by show ∀ u ∈ _, _; rw [← HC.out]; exact cxC_one _
                  have hdj : ∀ b, InI a2 (iotaZ n).length b → ¬ InI (some ⟨y1.heap.size, 0, none⟩) (List.replicate n (0 : Int)).length b := fun b h1 h2 => by rw [iotaZ_len] at h1; obtain ⟨-, o, s, e3⟩ := h2; simp only [Option.some.injEq, Addr.mk.injEq] at e3; exact hne b h1 e3.1.symm
                  have hri : RowI y3 wr.heap.size a2 (iotaZ n).length := by rw [iotaZ_len]; exact HRI2
                  refine step_append_lies _ (by rfl) _ _ 25 (by rfl) x.heap.size 49 i1 _ 6 96 Tryd.underlying25 hi1 hy0 hy1 hy2 rfl (by omega) v ps.length (ps.flatMap cxC) (by rfl) hstx.own ⟨y2.heap.size, 0, none⟩ 1 1 [.int .i64 0, .int .i64 0, .slice a2 n c2, .slice none 0 0, .slice (some ⟨y1.heap.size, 0, none⟩) n n, .int .i64 0] (by rfl) (by rfl) (World.news_of_block (cs := #[.int .i64 0, .int .i64 0, .slice a2 n c2, .slice none 0 0, .slice (some ⟨y1.heap.size, 0, none⟩) n n, .int .i64 0]) (t := 49) (fr := (0, 0)) HD2) HC1'.out (by omega) (by unfold maxLen; omega) (by omega) (by have := HC3.size; have := hst.Bw; omega) (y3.heap.size) rfl ?_
                  intro g2 cap2 w5 HO2 hgrow2 hat2 hlt2
                  rw [← HC.out] at HO2
                  have HN : Hid (CxSt x.heap.size gS u1 (w5.setCell ⟨gS, 3, none⟩ (.slice (some ⟨g2, 0, none⟩) (ps.length + 1) cap2)) (.slice (some ⟨g2, 0, none⟩) (ps.length + 1) cap2) (.slice av n cv) (ps ++ [((⟨iotaZ n, a2, c2⟩, ⟨List.replicate n 0, some ⟨y1.heap.size, 0, none⟩, n⟩) : QI × QI)])) := hst.step HC3 HI2 hri hin hir hdj hgrow2 HO2 hat2
                  have HM : Hid (∀ p ∈ ps ++ [((⟨iotaZ n, a2, c2⟩, ⟨List.replicate n 0, some ⟨y1.heap.size, 0, none⟩, n⟩) : QI × QI)], p.1.zs = iotaZ n ∧ p.2.zs = List.replicate n 0) := fun p hp => by
                    rcases List.mem_append.1 hp with h1 | h1
                    · exact HQ.out p h1
                    · simp at h1; subst h1; exact ⟨rfl, rfl⟩
                  have HL : Hid ((ps ++ [((⟨iotaZ n, a2, c2⟩, ⟨List.replicate n 0, some ⟨y1.heap.size, 0, none⟩, n⟩) : QI × QI)]).length = k + 1) := by show _ = _; rw [List.length_append, HQL.out]; rfl
                  have hvb : ∀ b, v.ownBlock = some b → x.heap.size ≤ b := fun b hb => (hst.own.lt b hb).1
                  have HKN : Hid (∀ b, b < x.heap.size → b ≠ gS → (w5.setCell ⟨gS, 3, none⟩ (.slice (some ⟨g2, 0, none⟩) (ps.length + 1) cap2)).heap[b]? = x.heap[b]?) := fun b hb hne => by
                    rw [Below.heap_setCell _ ⟨gS, _, none⟩ _ b (by simpa using hne), hgrow2.block b (by have := HC3.size; have := hst.Bw; omega) (fun e => by have := hvb b e.symm; omega), HC3.block b (by have := hst.Bw; omega)]
                    exact HKB.out b hb hne
                  have hvS : some gS ≠ v.ownBlock := fun e => by have := (hstx.own.lt gS e.symm).1; have := hst.SB; omega
                  have zc : w5.cell? ⟨gS, 3, none⟩ = some v := (World.cell?_of_block (a := ⟨gS, 3, none⟩) (hgrow2.block gS (lt_of_cell hstx.c0) hvS)).trans hstx.c0
                  have zf : ∀ o, w5.frozen? ⟨gS, o, none⟩ = false := fun o => (World.frozen?_of_block (a := ⟨gS, o, none⟩) (hgrow2.block gS (lt_of_cell hstx.c0) hvS)).trans (hstx.fr o)
                  refine hK.out _ _ trivial (fun hHn => ?_)
                  clear hK KK hHn
                  try simp only [Act.put, List.setIfInBounds_toArray, List.set_cons_zero, List.set_cons_succ]
                  clear hgrow2 hat2 HR2 HD2 hin hir hri hdj hstx HO2 hvS hlt2 HC HC1' hvb HI2 HRI2 hne
                  refine wpAnyH_take (i := 10) (oi := ⟨_, _, _, _, _, _⟩) (v := ?vt32x10) rfl (by kernel_rfl) (by kernel_rfl) (by kernel_rfl) (fun _ _ _ h => h) (Or.inl ⟨by rfl, ?yt32x10⟩) trivial ?rt32x10
                  case yt32x10 => intro w hSw; clear hSw; go_simp; try with_reducible rfl
                  try simp only [Act.put, List.setIfInBounds_toArray, List.set_cons_zero, List.set_cons_succ]
                  refine wpAnyH_ready (rs := [11]) (by kernel_rfl) (by simp) ?_
                  refine AllReadyH.cons (o := ⟨_, _, _, _, _, _⟩) rfl (fun KK hK => ?b33n0) AllReadyH.nil
                  case b33n0 =>
                    go_simp
                    refine hK.out _ _ trivial (fun hHn => ?_)
                    clear hK KK hHn
                    try simp only [Act.put, List.setIfInBounds_toArray, List.set_cons_zero, List.set_cons_succ]
                    refine wpAnyH_done (by kernel_rfl) (NoPanic.normal ?_) _
                    clear zc zf hst
                    go_wp2
                    go_roundw
                    case rel => exact ⟨k + 1, _, _, by omega, by go_num, HL.out, HM.out, HKN.out, HN.out⟩
                    case measure => simp [intOf]; omega
            case b29n1 =>
              obtain ⟨y3, hy3⟩ : ∃ u, y2.alloc (.cells #[.int .i64 0, .int .i64 0, .slice a2 n c2, .slice none 0 0, .slice (some ⟨y1.heap.size, 0, none⟩) n n, .int .i64 0] 49) = u := ⟨_, rfl⟩
              have HD2 : y3.heap[y2.heap.size]? = some (.cells #[.int .i64 0, .int .i64 0, .slice a2 n c2, .slice none 0 0, .slice (some ⟨y1.heap.size, 0, none⟩) n n, .int .i64 0] 49 (0, 0)) := by rw [← hy3]; exact heap_alloc_new _ _
              have BE : Below y2.heap.size y2 y3 := by rw [← hy3]; exact alCu _ _
              have HC3 : Below wr.heap.size wr y3 := stCu HC2 BE
              replace HR2 := HR2.of_block (BE.block _ HR2.lt)
              replace HI2 := HI2.below BE
              replace HRI2 := HRI2.below BE
              go_simp
              refine hK.out _ _ trivial (fun hHn => ?_)
              clear hK KK hHn
              try simp only [Act.put, List.setIfInBounds_toArray, List.set_cons_zero, List.set_cons_succ]
              clear hy3 BE
              refine wpAnyH_ready (rs := [1]) (by kernel_rfl) (by simp) ?_
              refine AllReadyH.cons (o := ⟨_, _, _, _, _, _⟩) rfl (fun KK hK => ?b34n0) AllReadyH.nil
              case b34n0 =>
                have cL : y3.cell? ⟨gS, 3, none⟩ = some v := celB HC3 hst.c0
                go_simp
                refine hK.out _ _ trivial (fun hHn => ?_)
                clear hK KK hHn
                try simp only [Act.put, List.setIfInBounds_toArray, List.set_cons_zero, List.set_cons_succ]
                clear cL
                refine wpAnyH_ready (rs := [9]) (by kernel_rfl) (by simp) ?_
                refine AllReadyH.cons (o := ⟨_, _, _, _, _, _⟩) rfl (fun KK hK => ?b35n0) AllReadyH.nil
                case b35n0 =>
                  have hin := ints_rep HR2
                  have hir : RowI y3 wr.heap.size (some ⟨y1.heap.size, 0, none⟩) (List.replicate n (0 : Int)).length := rowI_rep HR2 lE2
                  have hstx := hst.below HC3
                  have HC : Hid (cxC ((⟨iotaZ n, a2, c2⟩, ⟨List.replicate n 0, some ⟨y1.heap.size, 0, none⟩, n⟩) : QI × QI) = [.int .i64 0, .int .i64 0, .slice a2 n c2, .slice none 0 0, .slice (some ⟨y1.heap.size, 0, none⟩) n n, .int .i64 0]) := by show _ = _; simp [cxC, iotaZ_len]
                  have HC1' : Hid (∀ u ∈ ([.int .i64 0, .int .i64 0, .slice a2 n c2, .slice none 0 0, .slice (some ⟨y1.heap.size, 0, none⟩) n n, .int .i64 0] : List Value), u.oneCell' = true) := by show ∀ u ∈ _, _; rw [← HC.out]; exact cxC_one _
                  have hdj : ∀ b, InI a2 (iotaZ n).length b → ¬ InI (some ⟨y1.heap.size, 0, none⟩) (List.replicate n (0 : Int)).length b := fun b h1 h2 => by rw [iotaZ_len] at h1; obtain ⟨-, o, s, e3⟩ := h2; simp only [Option.some.injEq, Addr.mk.injEq] at e3; exact hne b h1 e3.1.symm
                  have hri : RowI y3 wr.heap.size a2 (iotaZ n).length := by rw [iotaZ_len]; exact HRI2
                  refine step_append_lies _ (by rfl) _ _ 25 (by rfl) x.heap.size 49 i1 _ 6 96 Tryd.underlying25 hi1 hy0 hy1 hy2 rfl (by omega) v ps.length (ps.flatMap cxC) (by rfl) hstx.own ⟨y2.heap.size, 0, none⟩ 1 1 [.int .i64 0, .int .i64 0, .slice a2 n c2, .slice none 0 0, .slice (some ⟨y1.heap.size, 0, none⟩) n n, .int .i64 0] (by rfl) (by rfl) (World.news_of_block (cs := #[.int .i64 0, .int .i64 0, .slice a2 n c2, .slice none 0 0, .slice (some ⟨y1.heap.size, 0, none⟩) n n, .int .i64 0]) (t := 49) (fr := (0, 0)) HD2) HC1'.out (by omega) (by unfold maxLen; omega) (by omega) (by have := HC3.size; have := hst.Bw; omega) (y3.heap.size) rfl ?_
                  intro g2 cap2 w5 HO2 hgrow2 hat2 hlt2
                  rw [← HC.out] at HO2
                  have HN : Hid (CxSt x.heap.size gS u1 (w5.setCell ⟨gS, 3, none⟩ (.slice (some ⟨g2, 0, none⟩) (ps.length + 1) cap2)) (.slice (some ⟨g2, 0, none⟩) (ps.length + 1) cap2) (.slice av n cv) (ps ++ [((⟨iotaZ n, a2, c2⟩, ⟨List.replicate n 0, some ⟨y1.heap.size, 0, none⟩, n⟩) : QI × QI)])) := hst.step HC3 HI2 hri hin hir hdj hgrow2 HO2 hat2
                  have HM : Hid (∀ p ∈ ps ++ [((⟨iotaZ n, a2, c2⟩, ⟨List.replicate n 0, some ⟨y1.heap.size, 0, none⟩, n⟩) : QI × QI)], p.1.zs = iotaZ n ∧ p.2.zs = List.replicate n 0) := fun p hp => by
                    rcases List.mem_append.1 hp with h1 | h1
                    · exact HQ.out p h1
                    · simp at h1; subst h1; exact ⟨rfl, rfl⟩
                  have HL : Hid ((ps ++ [((⟨iotaZ n, a2, c2⟩, ⟨List.replicate n 0, some ⟨y1.heap.size, 0, none⟩, n⟩) : QI × QI)]).length = k + 1) := by show _ = _; rw [List.length_append, HQL.out]; rfl
                  have hvb : ∀ b, v.ownBlock = some b → x.heap.size ≤ b := fun b hb => (hst.own.lt b hb).1
                  have HKN : Hid (∀ b, b < x.heap.size → b ≠ gS → (w5.setCell ⟨gS, 3, none⟩ (.slice (some ⟨g2, 0, none⟩) (ps.length + 1) cap2)).heap[b]? = x.heap[b]?) := fun b hb hne => by
                    rw [Below.heap_setCell _ ⟨gS, _, none⟩ _ b (by simpa using hne), hgrow2.block b (by have := HC3.size; have := hst.Bw; omega) (fun e => by have := hvb b e.symm; omega), HC3.block b (by have := hst.Bw; omega)]
                    exact HKB.out b hb hne
                  have hvS : some gS ≠ v.ownBlock := fun e => by have := (hstx.own.lt gS e.symm).1; have := hst.SB; omega
                  have zc : w5.cell? ⟨gS, 3, none⟩ = some v := (World.cell?_of_block (a := ⟨gS, 3, none⟩) (hgrow2.block gS (lt_of_cell hstx.c0) hvS)).trans hstx.c0
                  have zf : ∀ o, w5.frozen? ⟨gS, o, none⟩ = false := fun o => (World.frozen?_of_block (a := ⟨gS, o, none⟩) (hgrow2.block gS (lt_of_cell hstx.c0) hvS)).trans (hstx.fr o)
                  refine hK.out _ _ trivial (fun hHn => ?_)
                  clear hK KK hHn
                  try simp only [Act.put, List.setIfInBounds_toArray, List.set_cons_zero, List.set_cons_succ]
                  clear hgrow2 hat2 HR2 HD2 hin hir hri hdj hstx HO2 hvS hlt2 HC HC1' hvb HI2 HRI2 hne
                  refine wpAnyH_take (i := 10) (oi := ⟨_, _, _, _, _, _⟩) (v := ?vt36x10) rfl (by kernel_rfl) (by kernel_rfl) (by kernel_rfl) (fun _ _ _ h => h) (Or.inl ⟨by rfl, ?yt36x10⟩) trivial ?rt36x10
                  case yt36x10 => intro w hSw; clear hSw; go_simp; try with_reducible rfl
                  try simp only [Act.put, List.setIfInBounds_toArray, List.set_cons_zero, List.set_cons_succ]
                  refine wpAnyH_ready (rs := [11]) (by kernel_rfl) (by simp) ?_
                  refine AllReadyH.cons (o := ⟨_, _, _, _, _, _⟩) rfl (fun KK hK => ?b37n0) AllReadyH.nil
                  case b37n0 =>
                    go_simp
                    refine hK.out _ _ trivial (fun hHn => ?_)
                    clear hK KK hHn
                    try simp only [Act.put, List.setIfInBounds_toArray, List.set_cons_zero, List.set_cons_succ]
                    refine wpAnyH_done (by kernel_rfl) (NoPanic.normal ?_) _
                    clear zc zf hst
                    go_wp2
                    go_roundw
                    case rel => exact ⟨k + 1, _, _, by omega, by go_num, HL.out, HM.out, HKN.out, HN.out⟩
                    case measure => simp [intOf]; omega
        case b4n2 =>
          obtain ⟨y1, hy1⟩ : ∃ u, y0.alloc (.cells (madeCells #[Value.int .i64 0] n) 3) = u := ⟨_, rfl⟩
          have HR2 : y1.rowIs y0.heap.size 3 n (fun _ => .int .i64 0) := by rw [← hy1]; exact World.rowIs_made _ _ _ _
          have lE2 : wr.heap.size ≤ y0.heap.size := HC0.size
          have BE : Below y0.heap.size y0 y1 := by rw [← hy1]; exact alCu _ _
          have HC1 : Below wr.heap.size wr y1 := stCu HC0 BE
          go_simp
          refine hK.out _ _ trivial (fun hHn => ?_)
          clear hK KK hHn
          try simp only [Act.put, List.setIfInBounds_toArray, List.set_cons_zero, List.set_cons_succ]
          clear hy1 BE
          refine wpAnyH_ready (rs := [1, 3]) (by kernel_rfl) (by simp) ?_
          refine AllReadyH.cons (o := ⟨_, _, _, _, _, _⟩) rfl (fun KK hK => ?b38n0) (AllReadyH.cons (o := ⟨_, _, _, _, _, _⟩) rfl (fun KK hK => ?b38n1) AllReadyH.nil)
          case b38n0 =>
            have cL : y1.cell? ⟨gS, 3, none⟩ = some v := celB HC1 hst.c0
            go_simp
            refine hK.out _ _ trivial (fun hHn => ?_)
            clear hK KK hHn
            try simp only [Act.put, List.setIfInBounds_toArray, List.set_cons_zero, List.set_cons_succ]
            clear cL
            refine wpAnyH_ready (rs := [3]) (by kernel_rfl) (by simp) ?_
            refine AllReadyH.cons (o := ⟨_, _, _, _, _, _⟩) rfl (fun KK hK => ?b39n0) AllReadyH.nil
            case b39n0 =>
              go_simp
              refine (l17All_any n hn4 _).mono ?_
              rintro r y2 ⟨a2, c2, rfl, HI2, HRI2, hBk⟩
              have hne : ∀ b, InI a2 n b → b ≠ y0.heap.size := fun b hb e => by have := (HRI2.lt hb).1; have := HR2.lt; omega
              replace HR2 := HR2.of_block (hBk.block _ HR2.lt)
              replace HRI2 := HRI2.mono (B' := wr.heap.size) HC1.size
              have HC2 : Below wr.heap.size wr y2 := stCu HC1 hBk
              clear hBk
              go_wp2_with fail
              refine hK.out _ _ trivial (fun hHn => ?_)
              clear hK KK hHn
              try simp only [Act.put, List.setIfInBounds_toArray, List.set_cons_zero, List.set_cons_succ]
              refine wpAnyH_take (i := 4) (oi := ⟨_, _, _, _, _, _⟩) (v := ?vt40x4) rfl (by kernel_rfl) (by kernel_rfl) (by kernel_rfl) (fun _ _ _ h => h) (Or.inl ⟨by rfl, ?yt40x4⟩) trivial ?rt40x4
              case yt40x4 => intro w hSw; clear hSw; go_simp; try with_reducible rfl
              try simp only [Act.put, List.setIfInBounds_toArray, List.set_cons_zero, List.set_cons_succ]
              refine wpAnyH_take (i := 7) (oi := ⟨_, _, _, _, _, _⟩) (v := ?vt41x7) rfl (by kernel_rfl) (by kernel_rfl) (by kernel_rfl) (fun _ _ _ h => h) (Or.inl ⟨by rfl, ?yt41x7⟩) trivial ?rt41x7
              case yt41x7 => intro w hSw; clear hSw; go_simp; try with_reducible rfl
              try simp only [Act.put, List.setIfInBounds_toArray, List.set_cons_zero, List.set_cons_succ]
              refine wpAnyH_ready (rs := [8]) (by kernel_rfl) (by simp) ?_
              refine AllReadyH.cons (o := ⟨_, _, _, _, _, _⟩) rfl (fun KK hK => ?b42n0) AllReadyH.nil
              case b42n0 =>
                obtain ⟨y3, hy3⟩ : ∃ u, y2.alloc (.cells #[.int .i64 0, .int .i64 0, .slice a2 n c2, .slice none 0 0, .slice (some ⟨y0.heap.size, 0, none⟩) n n, .int .i64 0] 49) = u := ⟨_, rfl⟩
                have HD2 : y3.heap[y2.heap.size]? = some (.cells #[.int .i64 0, .int .i64 0, .slice a2 n c2, .slice none 0 0, .slice (some ⟨y0.heap.size, 0, none⟩) n n, .int .i64 0] 49 (0, 0)) := by rw [← hy3]; exact heap_alloc_new _ _
                have BE : Below y2.heap.size y2 y3 := by rw [← hy3]; exact alCu _ _
                have HC3 : Below wr.heap.size wr y3 := stCu HC2 BE
                replace HR2 := HR2.of_block (BE.block _ HR2.lt)
                replace HI2 := HI2.below BE
                replace HRI2 := HRI2.below BE
                go_simp
                refine hK.out _ _ trivial (fun hHn => ?_)
                clear hK KK hHn
                try simp only [Act.put, List.setIfInBounds_toArray, List.set_cons_zero, List.set_cons_succ]
                clear hy3 BE
                refine wpAnyH_ready (rs := [9]) (by kernel_rfl) (by simp) ?_
                refine AllReadyH.cons (o := ⟨_, _, _, _, _, _⟩) rfl (fun KK hK => ?b43n0) AllReadyH.nil
                case b43n0 =>
                  have hin := ints_rep HR2
                  have hir : RowI y3 wr.heap.size (some ⟨y0.heap.size, 0, none⟩) (List.replicate n (0 : Int)).length := rowI_rep HR2 lE2
                  have hstx := hst.below HC3
                  have HC : Hid (cxC ((⟨iotaZ n, a2, c2⟩, ⟨List.replicate n 0, some ⟨y0.heap.size, 0, none⟩, n⟩) : QI × QI) = [.int .i64 0, .int .i64 0, .slice a2 n c2, .slice none 0 0, .slice (some ⟨y0.heap.size, 0, none⟩) n n, .int .i64 0]) := by show _ = _; simp [cxC, iotaZ_len]
                  have HC1' : Hid (∀ u ∈ ([.int .i64 0, .int .i64 0, .slice a2 n c2, .slice none 0 0, .slice (some ⟨y0.heap.size, 0, none⟩) n n, .int .i64 0] : List Value), u.oneCell' = true) := by show ∀ u ∈ _, _; rw [← HC.out]; exact cxC_one _
                  have hdj : ∀ b, InI a2 (iotaZ n).length b → ¬ InI (some ⟨y0.heap.size, 0, none⟩) (List.replicate n (0 : Int)).length b := fun b h1 h2 => by rw [iotaZ_len] at h1; obtain ⟨-, o, s, e3⟩ := h2; simp only [Option.some.injEq, Addr.mk.injEq] at e3; exact hne b h1 e3.1.symm
                  have hri : RowI y3 wr.heap.size a2 (iotaZ n).length := by rw [iotaZ_len]; exact HRI2
                  refine step_append_lies _ (by rfl) _ _ 25 (by rfl) x.heap.size 49 i1 _ 6 96 Tryd.underlying25 hi1 hy0 hy1 hy2 rfl (by omega) v ps.length (ps.flatMap cxC) (by rfl) hstx.own ⟨y2.heap.size, 0, none⟩ 1 1 [.int .i64 0, .int .i64 0, .slice a2 n c2, .slice none 0 0, .slice (some ⟨y0.heap.size, 0, none⟩) n n, .int .i64 0] (by rfl) (by rfl) (World.news_of_block (cs := #[.int .i64 0, .int .i64 0, .slice a2 n c2, .slice none 0 0, .slice (some ⟨y0.heap.size, 0, none⟩) n n, .int .i64 0]) (t := 49) (fr := (0, 0)) HD2) HC1'.out (by omega) (by unfold maxLen; omega) (by omega) (by have := HC3.size; have := hst.Bw; omega) (y3.heap.size) rfl ?_
                  intro g2 cap2 w5 HO2 hgrow2 hat2 hlt2
                  rw [← HC.out] at HO2
                  have HN : Hid (CxSt x.heap.size gS u1 (w5.setCell ⟨gS, 3, none⟩ (.slice (some ⟨g2, 0, none⟩) (ps.length + 1) cap2)) (.slice (some ⟨g2, 0, none⟩) (ps.length + 1) cap2) (.slice av n cv) (ps ++ [((⟨iotaZ n, a2, c2⟩, ⟨List.replicate n 0, some ⟨y0.heap.size, 0, none⟩, n⟩) : QI × QI)])) := hst.step HC3 HI2 hri hin hir hdj hgrow2 HO2 hat2
                  have HM : Hid (∀ p ∈ ps ++ [((⟨iotaZ n, a2, c2⟩, ⟨List.replicate n 0, some ⟨y0.heap.size, 0, none⟩, n⟩) : QI × QI)], p.1.zs = iotaZ n ∧ p.2.zs = List.replicate n 0) := fun p hp => by
                    rcases List.mem_append.1 hp with h1 | h1
                    · exact HQ.out p h1
                    · simp at h1; subst h1; exact ⟨rfl, rfl⟩
                  have HL : Hid ((ps ++ [((⟨iotaZ n, a2, c2⟩, ⟨List.replicate n 0, some ⟨y0.heap.size, 0, none⟩, n⟩) : QI × QI)]).length = k + 1) := by show _ = _; rw [List.length_append, HQL.out]; rfl
                  have hvb : ∀ b, v.ownBlock = some b → x.heap.size ≤ b := fun b hb => (hst.own.lt b hb).1
                  have HKN : Hid (∀ b, b < x.heap.size → b ≠ gS → (w5.setCell ⟨gS, 3, none⟩ (.slice (some ⟨g2, 0, none⟩) (ps.length + 1) cap2)).heap[b]? = x.heap[b]?) := fun b hb hne => by
                    rw [Below.heap_setCell _ ⟨gS, _, none⟩ _ b (by simpa using hne), hgrow2.block b (by have := HC3.size; have := hst.Bw; omega) (fun e => by have := hvb b e.symm; omega), HC3.block b (by have := hst.Bw; omega)]
                    exact HKB.out b hb hne
                  have hvS : some gS ≠ v.ownBlock := fun e => by have := (hstx.own.lt gS e.symm).1; have := hst.SB; omega
                  have zc : w5.cell? ⟨gS, 3, none⟩ = some v := (World.cell?_of_block (a := ⟨gS, 3, none⟩) (hgrow2.block gS (lt_of_cell hstx.c0) hvS)).trans hstx.c0
                  have zf : ∀ o, w5.frozen? ⟨gS, o, none⟩ = false := fun o => (World.frozen?_of_block (a := ⟨gS, o, none⟩) (hgrow2.block gS (lt_of_cell hstx.c0) hvS)).trans (hstx.fr o)
                  refine hK.out _ _ trivial (fun hHn => ?_)
                  clear hK KK hHn
                  try simp only [Act.put, List.setIfInBounds_toArray, List.set_cons_zero, List.set_cons_succ]
                  clear hgrow2 hat2 HR2 HD2 hin hir hri hdj hstx HO2 hvS hlt2 HC HC1' hvb HI2 HRI2 hne
                  refine wpAnyH_take (i := 10) (oi := ⟨_, _, _, _, _, _⟩) (v := ?vt44x10) rfl (by kernel_rfl) (by kernel_rfl) (by kernel_rfl) (fun _ _ _ h => h) (Or.inl ⟨by rfl, ?yt44x10⟩) trivial ?rt44x10
                  case yt44x10 => intro w hSw; clear hSw; go_simp; try with_reducible rfl
                  try simp only [Act.put, List.setIfInBounds_toArray, List.set_cons_zero, List.set_cons_succ]
                  refine wpAnyH_ready (rs := [11]) (by kernel_rfl) (by simp) ?_
                  refine AllReadyH.cons (o := ⟨_, _, _, _, _, _⟩) rfl (fun KK hK => ?b45n0) AllReadyH.nil
                  case b45n0 =>
                    go_simp
                    refine hK.out _ _ trivial (fun hHn => ?_)
                    clear hK KK hHn
                    try simp only [Act.put, List.setIfInBounds_toArray, List.set_cons_zero, List.set_cons_succ]
                    refine wpAnyH_done (by kernel_rfl) (NoPanic.normal ?_) _
                    clear zc zf hst
                    go_wp2
                    go_roundw
                    case rel => exact ⟨k + 1, _, _, by omega, by go_num, HL.out, HM.out, HKN.out, HN.out⟩
                    case measure => simp [intOf]; omega
          case b38n1 =>
            go_simp
            refine (l17All_any n hn4 _).mono ?_
            rintro r y2 ⟨a2, c2, rfl, HI2, HRI2, hBk⟩
            have hne : ∀ b, InI a2 n b → b ≠ y0.heap.size := fun b hb e => by have := (HRI2.lt hb).1; have := HR2.lt; omega
            replace HR2 := HR2.of_block (hBk.block _ HR2.lt)
            replace HRI2 := HRI2.mono (B' := wr.heap.size) HC1.size
            have HC2 : Below wr.heap.size wr y2 := stCu HC1 hBk
            clear hBk
            go_wp2_with fail
            refine hK.out _ _ trivial (fun hHn => ?_)
            clear hK KK hHn
            try simp only [Act.put, List.setIfInBounds_toArray, List.set_cons_zero, List.set_cons_succ]
            refine wpAnyH_take (i := 4) (oi := ⟨_, _, _, _, _, _⟩) (v := ?vt46x4) rfl (by kernel_rfl) (by kernel_rfl) (by kernel_rfl) (fun _ _ _ h => h) (Or.inl ⟨by rfl, ?yt46x4⟩) trivial ?rt46x4
            case yt46x4 => intro w hSw; clear hSw; go_simp; try with_reducible rfl
            try simp only [Act.put, List.setIfInBounds_toArray, List.set_cons_zero, List.set_cons_succ]
            refine wpAnyH_take (i := 7) (oi := ⟨_, _, _, _, _, _⟩) (v := ?vt47x7) rfl (by kernel_rfl) (by kernel_rfl) (by kernel_rfl) (fun _ _ _ h => h) (Or.inl ⟨by rfl, ?yt47x7⟩) trivial ?rt47x7
            case yt47x7 => intro w hSw; clear hSw; go_simp; try with_reducible rfl
            try simp only [Act.put, List.setIfInBounds_toArray, List.set_cons_zero, List.set_cons_succ]
            refine wpAnyH_ready (rs := [1, 8]) (by kernel_rfl) (by simp) ?_
            refine AllReadyH.cons (o := ⟨_, _, _, _, _, _⟩) rfl (fun KK hK => ?b48n0) (AllReadyH.cons (o := ⟨_, _, _, _, _, _⟩) rfl (fun KK hK => ?b48n1) AllReadyH.nil)
            case b48n0 =>
              have cL : y2.cell? ⟨gS, 3, none⟩ = some v := celB HC2 hst.c0
              go_simp
              refine hK.out _ _ trivial (fun hHn => ?_)
              clear hK KK hHn
              try simp only [Act.put, List.setIfInBounds_toArray, List.set_cons_zero, List.set_cons_succ]
              clear cL
              refine wpAnyH_ready (rs := [8]) (by kernel_rfl) (by simp) ?_
              refine AllReadyH.cons (o := ⟨_, _, _, _, _, _⟩) rfl (fun KK hK => ?b49n0) AllReadyH.nil
              case b49n0 =>
                obtain ⟨y3, hy3⟩ : ∃ u, y2.alloc (.cells #[.int .i64 0, .int .i64 0, .slice a2 n c2, .slice none 0 0, .slice (some ⟨y0.heap.size, 0, none⟩) n n, .int .i64 0] 49) = u := ⟨_, rfl⟩
                have HD2 : y3.heap[y2.heap.size]? = some (.cells #[.int .i64 0, .int .i64 0, .slice a2 n c2, .slice none 0 0, .slice (some ⟨y0.heap.size, 0, none⟩) n n, .int .i64 0] 49 (0, 0)) := by rw [← hy3]; exact heap_alloc_new _ _
                have BE : Below y2.heap.size y2 y3 := by rw [← hy3]; exact alCu _ _
                have HC3 : Below wr.heap.size wr y3 := stCu HC2 BE
                replace HR2 := HR2.of_block (BE.block _ HR2.lt)
                replace HI2 := HI2.below BE
                replace HRI2 := HRI2.below BE
                go_simp
                refine hK.out _ _ trivial (fun hHn => ?_)
                clear hK KK hHn
                try simp only [Act.put, List.setIfInBounds_toArray, List.set_cons_zero, List.set_cons_succ]
                clear hy3 BE
                refine wpAnyH_ready (rs := [9]) (by kernel_rfl) (by simp) ?_
                refine AllReadyH.cons (o := ⟨_, _, _, _, _, _⟩) rfl (fun KK hK => ?b50n0) AllReadyH.nil
                case b50n0 =>
                  have hin := ints_rep HR2
                  have hir : RowI y3 wr.heap.size (some ⟨y0.heap.size, 0, none⟩) (List.replicate n (0 : Int)).length := rowI_rep HR2 lE2
                  have hstx := hst.below HC3
                  have HC : Hid (cxC ((⟨iotaZ n, a2, c2⟩, ⟨List.replicate n 0, some ⟨y0.heap.size, 0, none⟩, n⟩) : QI × QI) = [.int .i64 0, .int .i64 0, .slice a2 n c2, .slice none 0 0, .slice (some ⟨y0.heap.size, 0, none⟩) n n, .int .i64 0]) := by show _ = _; simp [cxC, iotaZ_len]
                  have HC1' : Hid (∀ u ∈ ([.int .i64 0, .int .i64 0, .slice a2 n c2, .slice none 0 0, .slice (some ⟨y0.heap.size, 0, none⟩) n n, .int .i64 0] : List Value), u.oneCell' = true) := by show ∀ u ∈ _, _; rw [← HC.out]; exact cxC_one _
                  have hdj : ∀ b, InI a2 (iotaZ n).length b → ¬ InI (some ⟨y0.heap.size, 0, none⟩) (List.replicate n (0 : Int)).length b := fun b h1 h2 => by rw [iotaZ_len] at h1; obtain ⟨-, o, s, e3⟩ := h2; simp only [Option.some.injEq, Addr.mk.injEq] at e3; exact hne b h1 e3.1.symm
                  have hri : RowI y3 wr.heap.size a2 (iotaZ n).length := by rw [iotaZ_len]; exact HRI2
                  refine step_append_lies _ (by rfl) _ _ 25 (by rfl) x.heap.size 49 i1 _ 6 96 Tryd.underlying25 hi1 hy0 hy1 hy2 rfl (by omega) v ps.length (ps.flatMap cxC) (by rfl) hstx.own ⟨y2.heap.size, 0, none⟩ 1 1 [.int .i64 0, .int .i64 0, .slice a2 n c2, .slice none 0 0, .slice (some ⟨y0.heap.size, 0, none⟩) n n, .int .i64 0] (by rfl) (by rfl) (World.news_of_block (cs := #[.int .i64 0, .int .i64 0, .slice a2 n c2, .slice none 0 0, .slice (some ⟨y0.heap.size, 0, none⟩) n n, .int .i64 0]) (t := 49) (fr := (0, 0)) HD2) HC1'.out (by omega) (by unfold maxLen; omega) (by omega) (by have := HC3.size; have := hst.Bw; omega) (y3.heap.size) rfl ?_
                  intro g2 cap2 w5 HO2 hgrow2 hat2 hlt2
                  rw [← HC.out] at HO2
                  have HN : Hid (CxSt x.heap.size gS u1 (w5.setCell ⟨gS, 3, none⟩ (.slice (some ⟨g2, 0, none⟩) (ps.length + 1) cap2)) (.slice (some ⟨g2, 0, none⟩) (ps.length + 1) cap2) (.slice av n cv) (ps ++ [((⟨iotaZ n, a2, c2⟩, ⟨List.replicate n 0, some ⟨y0.heap.size, 0, none⟩, n⟩) : QI × QI)])) := hst.step HC3 HI2 hri hin hir hdj hgrow2 HO2 hat2
                  have HM : Hid (∀ p ∈ ps ++ [((⟨iotaZ n, a2, c2⟩, ⟨List.replicate n 0, some ⟨y0.heap.size, 0, none⟩, n⟩) : QI × QI)], p.1.zs = iotaZ n ∧ p.2.zs = List.replicate n 0) := fun p hp => by
                    rcases List.mem_append.1 hp with h1 | h1
                    · exact HQ.out p h1
                    · simp at h1; subst h1; exact ⟨rfl, rfl⟩
                  have HL : Hid ((ps ++ [((⟨iotaZ n, a2, c2⟩, ⟨List.replicate n 0, some ⟨y0.heap.size, 0, none⟩, n⟩) : QI × QI)]).length = k + 1) := by show _ = _; rw [List.length_append, HQL.out]; rfl
                  have hvb : ∀ b, v.ownBlock = some b → x.heap.size ≤ b := fun b hb => (hst.own.lt b hb).1
                  have HKN : Hid (∀ b, b < x.heap.size → b ≠ gS → (w5.setCell ⟨gS, 3, none⟩ (.slice (some ⟨g2, 0, none⟩) (ps.length + 1) cap2)).heap[b]? = x.heap[b]?) := fun b hb hne => by
                    rw [Below.heap_setCell _ ⟨gS, _, none⟩ _ b (by simpa using hne), hgrow2.block b (by have := HC3.size; have := hst.Bw; omega) (fun e => by have := hvb b e.symm; omega), HC3.block b (by have := hst.Bw; omega)]
                    exact HKB.out b hb hne
                  have hvS : some gS ≠ v.ownBlock := fun e => by have := (hstx.own.lt gS e.symm).1; have := hst.SB; omega
                  have zc : w5.cell? ⟨gS, 3, none⟩ = some v := (World.cell?_of_block (a := ⟨gS, 3, none⟩) (hgrow2.block gS (lt_of_cell hstx.c0) hvS)).trans hstx.c0
                  have zf : ∀ o, w5.frozen? ⟨gS, o, none⟩ = false := fun o => (World.frozen?_of_block (a := ⟨gS, o, none⟩) (hgrow2.block gS (lt_of_cell hstx.c0) hvS)).trans (hstx.fr o)
                  refine hK.out _ _ trivial (fun hHn => ?_)
                  clear hK KK hHn
                  try simp only [Act.put, List.setIfInBounds_toArray, List.set_cons_zero, List.set_cons_succ]
                  clear hgrow2 hat2 HR2 HD2 hin hir hri hdj hstx HO2 hvS hlt2 HC HC1' hvb HI2 HRI2 hne
                  refine wpAnyH_take (i := 10) (oi := ⟨_, _, _, _, _, _⟩) (v := ?vt51x10) rfl (by kernel_rfl) (by kernel_rfl) (by kernel_rfl) (fun _ _ _ h => h) (Or.inl ⟨by rfl, ?yt51x10⟩) trivial ?rt51x10
                  case yt51x10 => intro w hSw; clear hSw; go_simp; try with_reducible rfl
                  try simp only [Act.put, List.setIfInBounds_toArray, List.set_cons_zero, List.set_cons_succ]
                  refine wpAnyH_ready (rs := [11]) (by kernel_rfl) (by simp) ?_
                  refine AllReadyH.cons (o := ⟨_, _, _, _, _, _⟩) rfl (fun KK hK => ?b52n0) AllReadyH.nil
                  case b52n0 =>
                    go_simp
                    refine hK.out _ _ trivial (fun hHn => ?_)
                    clear hK KK hHn
                    try simp only [Act.put, List.setIfInBounds_toArray, List.set_cons_zero, List.set_cons_succ]
                    refine wpAnyH_done (by kernel_rfl) (NoPanic.normal ?_) _
                    clear zc zf hst
                    go_wp2
                    go_roundw
                    case rel => exact ⟨k + 1, _, _, by omega, by go_num, HL.out, HM.out, HKN.out, HN.out⟩
                    case measure => simp [intOf]; omega
            case b48n1 =>
              obtain ⟨y3, hy3⟩ : ∃ u, y2.alloc (.cells #[.int .i64 0, .int .i64 0, .slice a2 n c2, .slice none 0 0, .slice (some ⟨y0.heap.size, 0, none⟩) n n, .int .i64 0] 49) = u := ⟨_, rfl⟩
              have HD2 : y3.heap[y2.heap.size]? = some (.cells #[.int .i64 0, .int .i64 0, .slice a2 n c2, .slice none 0 0, .slice (some ⟨y0.heap.size, 0, none⟩) n n, .int .i64 0] 49 (0, 0)) := by rw [← hy3]; exact heap_alloc_new _ _
              have BE : Below y2.heap.size y2 y3 := by rw [← hy3]; exact alCu _ _
              have HC3 : Below wr.heap.size wr y3 := stCu HC2 BE
              replace HR2 := HR2.of_block (BE.block _ HR2.lt)
              replace HI2 := HI2.below BE
              replace HRI2 := HRI2.below BE
              go_simp
              refine hK.out _ _ trivial (fun hHn => ?_)
              clear hK KK hHn
              try simp only [Act.put, List.setIfInBounds_toArray, List.set_cons_zero, List.set_cons_succ]
              clear hy3 BE
              refine wpAnyH_ready (rs := [1]) (by kernel_rfl) (by simp) ?_
              refine AllReadyH.cons (o := ⟨_, _, _, _, _, _⟩) rfl (fun KK hK => ?b53n0) AllReadyH.nil
              case b53n0 =>
                have cL : y3.cell? ⟨gS, 3, none⟩ = some v := celB HC3 hst.c0
                go_simp
                refine hK.out _ _ trivial (fun hHn => ?_)
                clear hK KK hHn
                try simp only [Act.put, List.setIfInBounds_toArray, List.set_cons_zero, List.set_cons_succ]
                clear cL
                refine wpAnyH_ready (rs := [9]) (by kernel_rfl) (by simp) ?_
                refine AllReadyH.cons (o := ⟨_, _, _, _, _, _⟩) rfl (fun KK hK => ?b54n0) AllReadyH.nil
                case b54n0 =>
                  have hin := ints_rep HR2
                  have hir : RowI y3 wr.heap.size (some ⟨y0.heap.size, 0, none⟩) (List.replicate n (0 : Int)).length := rowI_rep HR2 lE2
                  have hstx := hst.below HC3
                  have HC : Hid (cxC ((⟨iotaZ n, a2, c2⟩, ⟨List.replicate n 0, some ⟨y0.heap.size, 0, none⟩, n⟩) : QI × QI) = [.int .i64 0, .int .i64 0, .slice a2 n c2, .slice none 0 0, .slice (some ⟨y0.heap.size, 0, none⟩) n n, .int .i64 0]) := by show _ = _; simp [cxC, iotaZ_len]
                  have HC1' : Hid (∀ u ∈ ([.int .i64 0, .int .i64 0, .slice a2 n c2, .slice none 0 0, .slice (some ⟨y0.heap.size, 0, none⟩) n n, .int .i64 0] : List Value), u.oneCell' = true) := by show ∀ u ∈ _, _; rw [← HC.out]; exact cxC_one _
                  have hdj : ∀ b, InI a2 (iotaZ n).length b → ¬ InI (some ⟨y0.heap.size, 0, none⟩) (List.replicate n (0 : Int)).length b := fun b h1 h2 => by rw [iotaZ_len] at h1; obtain ⟨-, o, s, e3⟩ := h2; simp only [Option.some.injEq, Addr.mk.injEq] at e3; exact hne b h1 e3.1.symm
                  have hri : RowI y3 wr.heap.size a2 (iotaZ n).length := by rw [iotaZ_len]; exact HRI2
                  refine step_append_lies _ (by rfl) _ _ 25 (by rfl) x.heap.size 49 i1 _ 6 96 Tryd.underlying25 hi1 hy0 hy1 hy2 rfl (by omega) v ps.length (ps.flatMap cxC) (by rfl) hstx.own ⟨y2.heap.size, 0, none⟩ 1 1 [.int .i64 0, .int .i64 0, .slice a2 n c2, .slice none 0 0, .slice (some ⟨y0.heap.size, 0, none⟩) n n, .int .i64 0] (by rfl) (by rfl) (World.news_of_block (cs := #[.int .i64 0, .int .i64 0, .slice a2 n c2, .slice none 0 0, .slice (some ⟨y0.heap.size, 0, none⟩) n n, .int .i64 0]) (t := 49) (fr := (0, 0)) HD2) HC1'.out (by omega) (by unfold maxLen; omega) (by omega) (by have := HC3.size; have := hst.Bw; omega) (y3.heap.size) rfl ?_
                  intro g2 cap2 w5 HO2 hgrow2 hat2 hlt2
                  rw [← HC.out] at HO2
                  have HN : Hid (CxSt x.heap.size gS u1 (w5.setCell ⟨gS, 3, none⟩ (.slice (some ⟨g2, 0, none⟩) (ps.length + 1) cap2)) (.slice (some ⟨g2, 0, none⟩) (ps.length + 1) cap2) (.slice av n cv) (ps ++ [((⟨iotaZ n, a2, c2⟩, ⟨List.replicate n 0, some ⟨y0.heap.size, 0, none⟩, n⟩) : QI × QI)])) := hst.step HC3 HI2 hri hin hir hdj hgrow2 HO2 hat2
                  have HM : Hid (∀ p ∈ ps ++ [((⟨iotaZ n, a2, c2⟩, ⟨List.replicate n 0, some ⟨y0.heap.size, 0, none⟩, n⟩) : QI × QI)], p.1.zs = iotaZ n ∧ p.2.zs = List.replicate n 0) := fun p hp => by
                    rcases List.mem_append.1 hp with h1 | h1
                    · exact HQ.out p h1
                    · simp at h1; subst h1; exact ⟨rfl, rfl⟩
                  have HL : Hid ((ps ++ [((⟨iotaZ n, a2, c2⟩, ⟨List.replicate n 0, some ⟨y0.heap.size, 0, none⟩, n⟩) : QI × QI)]).length = k + 1) := by show _ = _; rw [List.length_append, HQL.out]; rfl
                  have hvb : ∀ b, v.ownBlock = some b → x.heap.size ≤ b := fun b hb => (hst.own.lt b hb).1
                  have HKN : Hid (∀ b, b < x.heap.size → b ≠ gS → (w5.setCell ⟨gS, 3, none⟩ (.slice (some ⟨g2, 0, none⟩) (ps.length + 1) cap2)).heap[b]? = x.heap[b]?) := fun b hb hne => by
                    rw [Below.heap_setCell _ ⟨gS, _, none⟩ _ b (by simpa using hne), hgrow2.block b (by have := HC3.size; have := hst.Bw; omega) (fun e => by have := hvb b e.symm; omega), HC3.block b (by have := hst.Bw; omega)]
                    exact HKB.out b hb hne
                  have hvS : some gS ≠ v.ownBlock := fun e => by have := (hstx.own.lt gS e.symm).1; have := hst.SB; omega
                  have zc : w5.cell? ⟨gS, 3, none⟩ = some v := (World.cell?_of_block (a := ⟨gS, 3, none⟩) (hgrow2.block gS (lt_of_cell hstx.c0) hvS)).trans hstx.c0
                  have zf : ∀ o, w5.frozen? ⟨gS, o, none⟩ = false := fun o => (World.frozen?_of_block (a := ⟨gS, o, none⟩) (hgrow2.block gS (lt_of_cell hstx.c0) hvS)).trans (hstx.fr o)
                  refine hK.out _ _ trivial (fun hHn => ?_)
                  clear hK KK hHn
                  try simp only [Act.put, List.setIfInBounds_toArray, List.set_cons_zero, List.set_cons_succ]
                  clear hgrow2 hat2 HR2 HD2 hin hir hri hdj hstx HO2 hvS hlt2 HC HC1' hvb HI2 HRI2 hne
                  refine wpAnyH_take (i := 10) (oi := ⟨_, _, _, _, _, _⟩) (v := ?vt55x10) rfl (by kernel_rfl) (by kernel_rfl) (by kernel_rfl) (fun _ _ _ h => h) (Or.inl ⟨by rfl, ?yt55x10⟩) trivial ?rt55x10
                  case yt55x10 => intro w hSw; clear hSw; go_simp; try with_reducible rfl
                  try simp only [Act.put, List.setIfInBounds_toArray, List.set_cons_zero, List.set_cons_succ]
                  refine wpAnyH_ready (rs := [11]) (by kernel_rfl) (by simp) ?_
                  refine AllReadyH.cons (o := ⟨_, _, _, _, _, _⟩) rfl (fun KK hK => ?b56n0) AllReadyH.nil
                  case b56n0 =>
                    go_simp
                    refine hK.out _ _ trivial (fun hHn => ?_)
                    clear hK KK hHn
                    try simp only [Act.put, List.setIfInBounds_toArray, List.set_cons_zero, List.set_cons_succ]
                    refine wpAnyH_done (by kernel_rfl) (NoPanic.normal ?_) _
                    clear zc zf hst
                    go_wp2
                    go_roundw
                    case rel => exact ⟨k + 1, _, _, by omega, by go_num, HL.out, HM.out, HKN.out, HN.out⟩
                    case measure => simp [intOf]; omega
      · obtain rfl : k = n := by omega
        obtain ⟨a1, c1, ev⟩ := ownsZ_form hst.own
        subst ev
        have hVb : ∀ b, InI av k b → wr.heap[b]? = x.heap[b]? := fun b hb => HKB.out b (by have := HLB.out b hb; omega) (fun e => by have := HLB.out b hb; omega)
        have HDn : Hid (CuO wr u1.heap.size ⟨0, 0, iotaZ k, List.replicate ps.length (ndZ k), []⟩ av a1 none (fun j => (ps.getD j p0N).1.a) (fun _ => none) (fun j => (ps.getD j p0N).2.a) (fun j => (ps.getD j p0N).1.c) (fun _ => 0) (fun j => (ps.getD j p0N).2.c)) := hst.done HQ.out (by omega) (HI.of_block (fun b hb => hVb b (by rw [iotaZ_len] at hb; exact hb))) (by rw [iotaZ_len]; exact HRI.of_block hVb) (fun b hb => by rw [iotaZ_len] at hb; have := HLB.out b hb; omega)
        rw [HQL.out] at HDn
        have e3 := hst.c0
        have e0 := hst.e0
        have e1 := hst.e1
        have e2 := hst.e2
        have e4 := hst.e4
        rw [HQL.out] at e3
        clear hst HQ hmk hVb HI HRI hpl
        go_wp2
        have E1 : Ending.returned (.tuple #[.agg #[.int .i64 0, .int .i64 0, .slice av k cv, .slice a1 k c1, .slice none 0 0], .bool true]) = Ending.returned (.tuple #[cuV (newCu (k : Int)) av cv a1 c1 none 0, .bool true]) := by rw [HE.out]; simp only [cuV, iotaZ_len, List.length_replicate, List.length_nil]
        refine bodyPost_ret (v := .tuple #[.agg #[.int .i64 0, .int .i64 0, .slice av k cv, .slice a1 k c1, .slice none 0 0], .bool true]) (by simp [results, Tryd.results5, go_sem, p0, p1, p2, p3, p4]) rfl ?_
        have HDz : CuO (((((wr.setCell ⟨w.heap.size, 0, none⟩ (.int .i64 0)).setCell ⟨w.heap.size, 1, none⟩ (.int .i64 0)).setCell ⟨w.heap.size, 2, none⟩ (.slice av k cv)).setCell ⟨w.heap.size, 3, none⟩ (.slice a1 k c1)).setCell ⟨w.heap.size, 4, none⟩ (.slice none 0 0)) u1.heap.size ⟨0, 0, iotaZ k, List.replicate k (ndZ k), []⟩ av a1 none (fun j => (ps.getD j p0N).1.a) (fun _ => none) (fun j => (ps.getD j p0N).2.a) (fun j => (ps.getD j p0N).1.c) (fun _ => 0) (fun j => (ps.getD j p0N).2.c) := HDn.out.of_block (fun b hb => by have := (HDn.out.lt hb).1; rw [Below.heap_setCell _ ⟨w.heap.size, _, none⟩ _ b (by simp; omega), Below.heap_setCell _ ⟨w.heap.size, _, none⟩ _ b (by simp; omega), Below.heap_setCell _ ⟨w.heap.size, _, none⟩ _ b (by simp; omega), Below.heap_setCell _ ⟨w.heap.size, _, none⟩ _ b (by simp; omega), Below.heap_setCell _ ⟨w.heap.size, _, none⟩ _ b (by simp; omega)])
        have E3 := (((((bB.trans (hB.mono (by omega))).setCell (Nat.le_refl _) (.int .i64 0) (p := ⟨w.heap.size, 0, none⟩)).setCell (Nat.le_refl _) (.int .i64 0) (p := ⟨w.heap.size, 1, none⟩)).setCell (Nat.le_refl _) (.slice av k cv) (p := ⟨w.heap.size, 2, none⟩)).setCell (Nat.le_refl _) (.slice a1 k c1) (p := ⟨w.heap.size, 3, none⟩)).setCell (Nat.le_refl _) (.slice none 0 0) (p := ⟨w.heap.size, 4, none⟩)
        exact ⟨av, a1, none, cv, c1, 0, E1, by rw [HE.out]; exact HDz.reads (by have := (newCu_small (k : Int)).1; rw [HE.out] at this; exact this), E3⟩

end Go.Proofs.YtekjpbfmiebigaaDoor
