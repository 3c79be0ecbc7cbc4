/-
  A new raft, the specification's side: spec.NewRaft. Made by mkranew.py.
-/
import Derived.Test.YtglncbhbeikclaaRaN
import Derived.Test.YtglncbhbeikclaaRaS
namespace Go.Proofs.Ytglncbhbeikclaa
open Go.RowKit

theorem rowIs_keepN {w w' : World} {b m : Nat} {t : TypeId} {f : Nat → Value} (h : w.rowIs b t m f) (hb : Below w.heap.size w w') : w'.rowIs b t m f := h.of_block (hb.block b h.lt)
theorem ints_rep {w : World} {b n : Nat} (h : w.rowIs b 3 n (fun _ => .int .i64 0)) : Ints w (some ⟨b, 0, none⟩) (List.replicate n 0) := fun i z hi => by
  rw [List.getElem?_replicate] at hi
  split at hi
  · rename_i hlt
    obtain rfl := Option.some.inj hi
    exact ⟨b, 0, rfl, by rw [Nat.zero_add]; exact h.cell hlt⟩
  · cases hi
theorem rowI_rep {w : World} {b n B : Nat} (h : w.rowIs b 3 n (fun _ => .int .i64 0)) (hB : B ≤ b) : RowI w B (some ⟨b, 0, none⟩) (List.replicate n (0 : Int)).length :=
  .inr ⟨b, n, _, rfl, hB, by simp, h⟩

set_option maxRecDepth 100000 in
set_option maxHeartbeats 16000000 in
theorem specNewRa_any (z : Int) (w : World) :
    Calls Try.prog 9 #[.int .i64 z] w fun e w' => ∃ a0 a1 c0 c1, e = .returned (.tuple #[raV (newRa z) a0 c0 a1 c1, .bool (inB z 1 5)]) ∧ RaR w' (newRa z) a0 a1 ∧ Below w.heap.size w w' := by
  obtain ⟨i1, hi1, hy0, hy1, hy2⟩ := infoZ Try.infoPe
  obtain ⟨u1, hu1⟩ : ∃ u, (w.alloc (.cells #[.slice none 0 0, .slice none 0 0] 25)) = u := ⟨_, rfl⟩
  have hS1 : u1.heap.size ≤ w.heap.size + 1 := by rw [← hu1]; simp
  have hS2 : w.heap.size + 1 ≤ u1.heap.size := by rw [← hu1]; simp
  have bB : Below w.heap.size w u1 := by rw [← hu1]; exact alRa _ _
  have g0 : u1.cell? ⟨w.heap.size, 0, none⟩ = some (.slice none 0 0) := by rw [← hu1]; simp [go_sem]
  have g1 : u1.cell? ⟨w.heap.size, 1, none⟩ = some (.slice none 0 0) := by rw [← hu1]; simp [go_sem]
  have gf : ∀ o, u1.frozen? ⟨w.heap.size, o, none⟩ = false := fun o => by rw [← hu1]; simp [go_sem]
  cases hg : inB z 1 5 with
  | false =>
    have HE : Hid (newRa z = ⟨[], []⟩) := newRa_bad hg
    go_enter Try.func9, Try.ntmps9
    go_wp2_with (go_at_call 35; refine (l1In_c _ _ _ _ _ hg).mono ?_; rintro e w' ⟨rfl, hw⟩; rw [hw]; clear hw w')
    go_wp2
    refine bodyPost_ret (v := .tuple #[.agg #[.slice none 0 0, .slice none 0 0], .bool false]) (by simp [results, Try.results9, go_sem, g0, g1]) rfl ⟨none, none, 0, 0, by rw [HE.out]; rfl, ?_, ?_⟩
    · rw [HE.out]; exact (newRa_zero _ 0).reads newRa_emptyS
    · exact (bB.setCell (Nat.le_refl _) _).setCell (Nat.le_refl _) _
  | true =>
    have hr := inB_t.1 hg
    obtain ⟨n, rfl⟩ : ∃ n : Nat, z = n := ⟨z.toNat, by omega⟩
    have hn5 : n ≤ 5 := by omega
    have HE : Hid (newRa n = ⟨(List.replicate n (List.replicate n 0)).map peN, []⟩) := newRa_good hg
    have hmk := run_make_row' (P := Try.prog) 50 3 (.int .i64 0) 8 Try.underlying50 Try.infoInt rfl .i64 .i64 n (by omega) (by omega)
    obtain ⟨u2, hu2⟩ : ∃ u, (u1.alloc (.cells #[.slice none 0 0, .slice none 0 0] 25)) = u := ⟨_, rfl⟩
    have hst0 : PeSt (u1.heap.size + 1) u1.heap.size u1 u2 (.slice none 0 0) [] := ⟨World.ownsRow_nil _ _ _ _, QIn.nil _ _, by rw [← hu2]; simp [go_sem], by rw [← hu2]; simp [go_sem], fun o => by rw [← hu2]; simp [go_sem], by rw [← hu2]; exact alRa _ _, by omega, by omega, by rw [← hu2]; simp⟩
    go_enter Try.func9, Try.ntmps9
    go_wp2_with (go_at_call 35; refine (l1In_c _ _ _ _ _ hg).mono ?_; rintro e w' ⟨rfl, hw⟩; rw [hw]; clear hw w')
    clear hu2 hg hr
    go_loopw [5] (fun i wr => ∃ (k : Nat) (v : Value) (qs : List QI), k ≤ n ∧ i = .int .i64 k ∧ Hid (qs.map QI.zs = List.replicate k (List.replicate n 0)) ∧ PeSt (u1.heap.size + 1) u1.heap.size u1 wr v qs) (fun i _ => n - (intOf i).toNat)
    case atStart => exact ⟨0, _, [], Nat.zero_le _, rfl, rfl, hst0⟩
    case round =>
      clear hst0
      obtain ⟨k, v, qs, hk, rfl, HQ, hst⟩ := hrel
      have hB := hst.bel
      have hlw := hst.Bw
      have r0 := celB hB g0
      have r1 := celB hB g1
      have rf : ∀ o, wr.frozen? ⟨w.heap.size, o, none⟩ = false := fun o => frzB hB (by omega) (gf o)
      have hql : qs.length ≤ k := by have h9 := congrArg List.length HQ.out; simp at h9; omega
      by_cases hlt : k < n
      · have hki : (k : Int) < (n : Int) := by omega
        go_wp2_with fail
        obtain ⟨x0, hx0⟩ : ∃ x, wr.drew = x := ⟨_, rfl⟩
        have HB0 : Below wr.heap.size wr x0 := by rw [← hx0]; exact (Below.refl _ _).drew
        refine wp_region_noPanic ?_
        refine wp_region_held_drew (S := fun _ => True) (by kernel_rfl) trivial (fun hHn => ?_)
        clear hHn
        rw [hx0]
        clear hx0
        refine wpAnyH_take (i := 0) (oi := ⟨_, _, _, _, _, _⟩) (v := ?vt1x0) rfl (by kernel_rfl) (by kernel_rfl) (by kernel_rfl) (fun _ _ _ h => h) (Or.inl ⟨by rfl, ?yt1x0⟩) trivial ?rt1x0
        case yt1x0 => intro w hSw; clear hSw; go_simp; try with_reducible rfl
        try simp only [Act.put, List.setIfInBounds_toArray, List.set_cons_zero, List.set_cons_succ]
        refine wpAnyH_take (i := 2) (oi := ⟨_, _, _, _, _, _⟩) (v := ?vt2x2) rfl (by kernel_rfl) (by kernel_rfl) (by kernel_rfl) (fun _ _ _ h => h) (Or.inl ⟨by rfl, ?yt2x2⟩) trivial ?rt2x2
        case yt2x2 => intro w hSw; clear hSw; go_simp; try with_reducible rfl
        try simp only [Act.put, List.setIfInBounds_toArray, List.set_cons_zero, List.set_cons_succ]
        refine wpAnyH_ready (rs := [1, 3]) (by kernel_rfl) (by simp) ?_
        refine AllReadyH.cons (o := ⟨_, _, _, _, _, _⟩) rfl (fun KK hK => ?b3n0) (AllReadyH.cons (o := ⟨_, _, _, _, _, _⟩) rfl (fun KK hK => ?b3n1) AllReadyH.nil)
        case b3n0 =>
          have cL : x0.cell? ⟨u1.heap.size, 0, none⟩ = some v := celB HB0 hst.c0
          go_simp
          refine hK.out _ _ trivial (fun hHn => ?_)
          clear hK KK hHn
          try simp only [Act.put, List.setIfInBounds_toArray, List.set_cons_zero, List.set_cons_succ]
          clear cL
          refine wpAnyH_ready (rs := [3]) (by kernel_rfl) (by simp) ?_
          refine AllReadyH.cons (o := ⟨_, _, _, _, _, _⟩) rfl (fun KK hK => ?b4n0) AllReadyH.nil
          case b4n0 =>
            obtain ⟨x1, hx1⟩ : ∃ u, x0.alloc (.cells (madeCells #[Value.int .i64 0] n) 3) = u := ⟨_, rfl⟩
            have HR : x1.rowIs x0.heap.size 3 n (fun _ => .int .i64 0) := by rw [← hx1]; exact World.rowIs_made _ _ _ _
            have lE : wr.heap.size ≤ x0.heap.size := HB0.size
            have BE : Below x0.heap.size x0 x1 := by rw [← hx1]; exact alRa _ _
            have HB1 : Below wr.heap.size wr x1 := stRa HB0 BE
            go_simp
            refine hK.out _ _ trivial (fun hHn => ?_)
            clear hK KK hHn
            try simp only [Act.put, List.setIfInBounds_toArray, List.set_cons_zero, List.set_cons_succ]
            clear hx1 BE
            refine wpAnyH_take (i := 4) (oi := ⟨_, _, _, _, _, _⟩) (v := ?vt5x4) rfl (by kernel_rfl) (by kernel_rfl) (by kernel_rfl) (fun _ _ _ h => h) (Or.inl ⟨by rfl, ?yt5x4⟩) trivial ?rt5x4
            case yt5x4 => intro w hSw; clear hSw; go_simp; try with_reducible rfl
            try simp only [Act.put, List.setIfInBounds_toArray, List.set_cons_zero, List.set_cons_succ]
            refine wpAnyH_ready (rs := [5]) (by kernel_rfl) (by simp) ?_
            refine AllReadyH.cons (o := ⟨_, _, _, _, _, _⟩) rfl (fun KK hK => ?b6n0) AllReadyH.nil
            case b6n0 =>
              obtain ⟨x2, hx2⟩ : ∃ u, x1.alloc (.cells #[.int .i64 0, .bool false, .slice none 0 0, .int .i64 0, .slice (some ⟨x0.heap.size, 0, none⟩) n n] 63) = u := ⟨_, rfl⟩
              have HD : x2.heap[x1.heap.size]? = some (.cells #[.int .i64 0, .bool false, .slice none 0 0, .int .i64 0, .slice (some ⟨x0.heap.size, 0, none⟩) n n] 63 (0, 0)) := by rw [← hx2]; exact heap_alloc_new _ _
              have BE : Below x1.heap.size x1 x2 := by rw [← hx2]; exact alRa _ _
              have HB2 : Below wr.heap.size wr x2 := stRa HB1 BE
              replace HR := rowIs_keepN HR BE
              go_simp
              refine hK.out _ _ trivial (fun hHn => ?_)
              clear hK KK hHn
              try simp only [Act.put, List.setIfInBounds_toArray, List.set_cons_zero, List.set_cons_succ]
              clear hx2 BE
              refine wpAnyH_ready (rs := [6]) (by kernel_rfl) (by simp) ?_
              refine AllReadyH.cons (o := ⟨_, _, _, _, _, _⟩) rfl (fun KK hK => ?b7n0) AllReadyH.nil
              case b7n0 =>
                have hin := ints_rep HR
                have hir : RowI x2 wr.heap.size (some ⟨x0.heap.size, 0, none⟩) (List.replicate n (0 : Int)).length := rowI_rep HR lE
                have hstx := hst.below HB2
                have HC : Hid (peC ⟨List.replicate n 0, some ⟨x0.heap.size, 0, none⟩, n⟩ = [.int .i64 0, .bool false, .slice none 0 0, .int .i64 0, .slice (some ⟨x0.heap.size, 0, none⟩) n n]) := by show _ = _; simp [peC]
                have HC1 : Hid (∀ u ∈ ([.int .i64 0, .bool false, .slice none 0 0, .int .i64 0, .slice (some ⟨x0.heap.size, 0, none⟩) n n] : List Value), u.oneCell' = true) := by show ∀ u ∈ _, _; rw [← HC.out]; exact peC_one _
                refine step_append_lies _ (by rfl) _ _ 22 (by rfl) (u1.heap.size + 1) 63 i1 _ 5 72 Try.underlying22 hi1 hy0 hy1 hy2 rfl (by omega) v qs.length (qs.flatMap peC) (by rfl) hstx.own ⟨x1.heap.size, 0, none⟩ 1 1 [.int .i64 0, .bool false, .slice none 0 0, .int .i64 0, .slice (some ⟨x0.heap.size, 0, none⟩) n n] (by rfl) (by rfl) (World.news_of_block (cs := #[.int .i64 0, .bool false, .slice none 0 0, .int .i64 0, .slice (some ⟨x0.heap.size, 0, none⟩) n n]) (t := 63) (fr := (0, 0)) HD) HC1.out (by omega) (by unfold maxLen; omega) (by omega) (by have := HB2.size; omega) (x2.heap.size) rfl ?_
                intro g2 cap2 w5 HO2 hgrow2 hat2 hlt2
                rw [← HC.out] at HO2
                have HN : Hid (PeSt (u1.heap.size + 1) u1.heap.size u1 (w5.setCell ⟨u1.heap.size, 0, none⟩ (.slice (some ⟨g2, 0, none⟩) (qs.length + 1) cap2)) (.slice (some ⟨g2, 0, none⟩) (qs.length + 1) cap2) (qs ++ [⟨List.replicate n 0, some ⟨x0.heap.size, 0, none⟩, n⟩])) := hst.step HB2 hin hir hgrow2 HO2 hat2
                have HM : Hid ((qs ++ [(⟨List.replicate n 0, some ⟨x0.heap.size, 0, none⟩, n⟩ : QI)]).map QI.zs = List.replicate (k + 1) (List.replicate n 0)) := by show _ = _; rw [List.map_append, HQ.out, List.replicate_succ']; rfl
                have hvS : some u1.heap.size ≠ v.ownBlock := fun e => by have := (hstx.own.lt u1.heap.size e.symm).1; omega
                have zc : w5.cell? ⟨u1.heap.size, 0, none⟩ = some v := (World.cell?_of_block (a := ⟨u1.heap.size, 0, none⟩) (hgrow2.block u1.heap.size (lt_of_cell hstx.c0) hvS)).trans hstx.c0
                have zf : ∀ o, w5.frozen? ⟨u1.heap.size, o, none⟩ = false := fun o => (World.frozen?_of_block (a := ⟨u1.heap.size, o, none⟩) (hgrow2.block u1.heap.size (lt_of_cell hstx.c0) hvS)).trans (hstx.fr o)
                refine hK.out _ _ trivial (fun hHn => ?_)
                clear hK KK hHn
                try simp only [Act.put, List.setIfInBounds_toArray, List.set_cons_zero, List.set_cons_succ]
                clear hgrow2 hat2 HR HD hin hir hstx HO2 hvS hlt2 HC HC1
                refine wpAnyH_take (i := 7) (oi := ⟨_, _, _, _, _, _⟩) (v := ?vt8x7) rfl (by kernel_rfl) (by kernel_rfl) (by kernel_rfl) (fun _ _ _ h => h) (Or.inl ⟨by rfl, ?yt8x7⟩) trivial ?rt8x7
                case yt8x7 => intro w hSw; clear hSw; go_simp; try with_reducible rfl
                try simp only [Act.put, List.setIfInBounds_toArray, List.set_cons_zero, List.set_cons_succ]
                refine wpAnyH_ready (rs := [8]) (by kernel_rfl) (by simp) ?_
                refine AllReadyH.cons (o := ⟨_, _, _, _, _, _⟩) rfl (fun KK hK => ?b9n0) AllReadyH.nil
                case b9n0 =>
                  go_simp
                  refine hK.out _ _ trivial (fun hHn => ?_)
                  clear hK KK hHn
                  try simp only [Act.put, List.setIfInBounds_toArray, List.set_cons_zero, List.set_cons_succ]
                  refine wpAnyH_done (by kernel_rfl) (NoPanic.normal ?_) _
                  clear zc zf hst
                  go_wp2
                  go_roundw
                  case rel => exact ⟨k + 1, _, _, by omega, by go_num, HM.out, HN.out⟩
                  case measure => simp [intOf]; omega
        case b3n1 =>
          obtain ⟨x1, hx1⟩ : ∃ u, x0.alloc (.cells (madeCells #[Value.int .i64 0] n) 3) = u := ⟨_, rfl⟩
          have HR : x1.rowIs x0.heap.size 3 n (fun _ => .int .i64 0) := by rw [← hx1]; exact World.rowIs_made _ _ _ _
          have lE : wr.heap.size ≤ x0.heap.size := HB0.size
          have BE : Below x0.heap.size x0 x1 := by rw [← hx1]; exact alRa _ _
          have HB1 : Below wr.heap.size wr x1 := stRa HB0 BE
          go_simp
          refine hK.out _ _ trivial (fun hHn => ?_)
          clear hK KK hHn
          try simp only [Act.put, List.setIfInBounds_toArray, List.set_cons_zero, List.set_cons_succ]
          clear hx1 BE
          refine wpAnyH_take (i := 4) (oi := ⟨_, _, _, _, _, _⟩) (v := ?vt10x4) rfl (by kernel_rfl) (by kernel_rfl) (by kernel_rfl) (fun _ _ _ h => h) (Or.inl ⟨by rfl, ?yt10x4⟩) trivial ?rt10x4
          case yt10x4 => intro w hSw; clear hSw; go_simp; try with_reducible rfl
          try simp only [Act.put, List.setIfInBounds_toArray, List.set_cons_zero, List.set_cons_succ]
          refine wpAnyH_ready (rs := [1, 5]) (by kernel_rfl) (by simp) ?_
          refine AllReadyH.cons (o := ⟨_, _, _, _, _, _⟩) rfl (fun KK hK => ?b11n0) (AllReadyH.cons (o := ⟨_, _, _, _, _, _⟩) rfl (fun KK hK => ?b11n1) AllReadyH.nil)
          case b11n0 =>
            have cL : x1.cell? ⟨u1.heap.size, 0, none⟩ = some v := celB HB1 hst.c0
            go_simp
            refine hK.out _ _ trivial (fun hHn => ?_)
            clear hK KK hHn
            try simp only [Act.put, List.setIfInBounds_toArray, List.set_cons_zero, List.set_cons_succ]
            clear cL
            refine wpAnyH_ready (rs := [5]) (by kernel_rfl) (by simp) ?_
            refine AllReadyH.cons (o := ⟨_, _, _, _, _, _⟩) rfl (fun KK hK => ?b12n0) AllReadyH.nil
            case b12n0 =>
              obtain ⟨x2, hx2⟩ : ∃ u, x1.alloc (.cells #[.int .i64 0, .bool false, .slice none 0 0, .int .i64 0, .slice (some ⟨x0.heap.size, 0, none⟩) n n] 63) = u := ⟨_, rfl⟩
              have HD : x2.heap[x1.heap.size]? = some (.cells #[.int .i64 0, .bool false, .slice none 0 0, .int .i64 0, .slice (some ⟨x0.heap.size, 0, none⟩) n n] 63 (0, 0)) := by rw [← hx2]; exact heap_alloc_new _ _
              have BE : Below x1.heap.size x1 x2 := by rw [← hx2]; exact alRa _ _
              have HB2 : Below wr.heap.size wr x2 := stRa HB1 BE
              replace HR := rowIs_keepN HR BE
              go_simp
              refine hK.out _ _ trivial (fun hHn => ?_)
              clear hK KK hHn
              try simp only [Act.put, List.setIfInBounds_toArray, List.set_cons_zero, List.set_cons_succ]
              clear hx2 BE
              refine wpAnyH_ready (rs := [6]) (by kernel_rfl) (by simp) ?_
              refine AllReadyH.cons (o := ⟨_, _, _, _, _, _⟩) rfl (fun KK hK => ?b13n0) AllReadyH.nil
              case b13n0 =>
                have hin := ints_rep HR
                have hir : RowI x2 wr.heap.size (some ⟨x0.heap.size, 0, none⟩) (List.replicate n (0 : Int)).length := rowI_rep HR lE
                have hstx := hst.below HB2
                have HC : Hid (peC ⟨List.replicate n 0, some ⟨x0.heap.size, 0, none⟩, n⟩ = [.int .i64 0, .bool false, .slice none 0 0, .int .i64 0, .slice (some ⟨x0.heap.size, 0, none⟩) n n]) := by show _ = _; simp [peC]
                have HC1 : Hid (∀ u ∈ ([.int .i64 0, .bool false, .slice none 0 0, .int .i64 0, .slice (some ⟨x0.heap.size, 0, none⟩) n n] : List Value), u.oneCell' = true) := by show ∀ u ∈ _, _; rw [← HC.out]; exact peC_one _
                refine step_append_lies _ (by rfl) _ _ 22 (by rfl) (u1.heap.size + 1) 63 i1 _ 5 72 Try.underlying22 hi1 hy0 hy1 hy2 rfl (by omega) v qs.length (qs.flatMap peC) (by rfl) hstx.own ⟨x1.heap.size, 0, none⟩ 1 1 [.int .i64 0, .bool false, .slice none 0 0, .int .i64 0, .slice (some ⟨x0.heap.size, 0, none⟩) n n] (by rfl) (by rfl) (World.news_of_block (cs := #[.int .i64 0, .bool false, .slice none 0 0, .int .i64 0, .slice (some ⟨x0.heap.size, 0, none⟩) n n]) (t := 63) (fr := (0, 0)) HD) HC1.out (by omega) (by unfold maxLen; omega) (by omega) (by have := HB2.size; omega) (x2.heap.size) rfl ?_
                intro g2 cap2 w5 HO2 hgrow2 hat2 hlt2
                rw [← HC.out] at HO2
                have HN : Hid (PeSt (u1.heap.size + 1) u1.heap.size u1 (w5.setCell ⟨u1.heap.size, 0, none⟩ (.slice (some ⟨g2, 0, none⟩) (qs.length + 1) cap2)) (.slice (some ⟨g2, 0, none⟩) (qs.length + 1) cap2) (qs ++ [⟨List.replicate n 0, some ⟨x0.heap.size, 0, none⟩, n⟩])) := hst.step HB2 hin hir hgrow2 HO2 hat2
                have HM : Hid ((qs ++ [(⟨List.replicate n 0, some ⟨x0.heap.size, 0, none⟩, n⟩ : QI)]).map QI.zs = List.replicate (k + 1) (List.replicate n 0)) := by show _ = _; rw [List.map_append, HQ.out, List.replicate_succ']; rfl
                have hvS : some u1.heap.size ≠ v.ownBlock := fun e => by have := (hstx.own.lt u1.heap.size e.symm).1; omega
                have zc : w5.cell? ⟨u1.heap.size, 0, none⟩ = some v := (World.cell?_of_block (a := ⟨u1.heap.size, 0, none⟩) (hgrow2.block u1.heap.size (lt_of_cell hstx.c0) hvS)).trans hstx.c0
                have zf : ∀ o, w5.frozen? ⟨u1.heap.size, o, none⟩ = false := fun o => (World.frozen?_of_block (a := ⟨u1.heap.size, o, none⟩) (hgrow2.block u1.heap.size (lt_of_cell hstx.c0) hvS)).trans (hstx.fr o)
                refine hK.out _ _ trivial (fun hHn => ?_)
                clear hK KK hHn
                try simp only [Act.put, List.setIfInBounds_toArray, List.set_cons_zero, List.set_cons_succ]
                clear hgrow2 hat2 HR HD hin hir hstx HO2 hvS hlt2 HC HC1
                refine wpAnyH_take (i := 7) (oi := ⟨_, _, _, _, _, _⟩) (v := ?vt14x7) rfl (by kernel_rfl) (by kernel_rfl) (by kernel_rfl) (fun _ _ _ h => h) (Or.inl ⟨by rfl, ?yt14x7⟩) trivial ?rt14x7
                case yt14x7 => intro w hSw; clear hSw; go_simp; try with_reducible rfl
                try simp only [Act.put, List.setIfInBounds_toArray, List.set_cons_zero, List.set_cons_succ]
                refine wpAnyH_ready (rs := [8]) (by kernel_rfl) (by simp) ?_
                refine AllReadyH.cons (o := ⟨_, _, _, _, _, _⟩) rfl (fun KK hK => ?b15n0) AllReadyH.nil
                case b15n0 =>
                  go_simp
                  refine hK.out _ _ trivial (fun hHn => ?_)
                  clear hK KK hHn
                  try simp only [Act.put, List.setIfInBounds_toArray, List.set_cons_zero, List.set_cons_succ]
                  refine wpAnyH_done (by kernel_rfl) (NoPanic.normal ?_) _
                  clear zc zf hst
                  go_wp2
                  go_roundw
                  case rel => exact ⟨k + 1, _, _, by omega, by go_num, HM.out, HN.out⟩
                  case measure => simp [intOf]; omega
          case b11n1 =>
            obtain ⟨x2, hx2⟩ : ∃ u, x1.alloc (.cells #[.int .i64 0, .bool false, .slice none 0 0, .int .i64 0, .slice (some ⟨x0.heap.size, 0, none⟩) n n] 63) = u := ⟨_, rfl⟩
            have HD : x2.heap[x1.heap.size]? = some (.cells #[.int .i64 0, .bool false, .slice none 0 0, .int .i64 0, .slice (some ⟨x0.heap.size, 0, none⟩) n n] 63 (0, 0)) := by rw [← hx2]; exact heap_alloc_new _ _
            have BE : Below x1.heap.size x1 x2 := by rw [← hx2]; exact alRa _ _
            have HB2 : Below wr.heap.size wr x2 := stRa HB1 BE
            replace HR := rowIs_keepN HR BE
            go_simp
            refine hK.out _ _ trivial (fun hHn => ?_)
            clear hK KK hHn
            try simp only [Act.put, List.setIfInBounds_toArray, List.set_cons_zero, List.set_cons_succ]
            clear hx2 BE
            refine wpAnyH_ready (rs := [1]) (by kernel_rfl) (by simp) ?_
            refine AllReadyH.cons (o := ⟨_, _, _, _, _, _⟩) rfl (fun KK hK => ?b16n0) AllReadyH.nil
            case b16n0 =>
              have cL : x2.cell? ⟨u1.heap.size, 0, none⟩ = some v := celB HB2 hst.c0
              go_simp
              refine hK.out _ _ trivial (fun hHn => ?_)
              clear hK KK hHn
              try simp only [Act.put, List.setIfInBounds_toArray, List.set_cons_zero, List.set_cons_succ]
              clear cL
              refine wpAnyH_ready (rs := [6]) (by kernel_rfl) (by simp) ?_
              refine AllReadyH.cons (o := ⟨_, _, _, _, _, _⟩) rfl (fun KK hK => ?b17n0) AllReadyH.nil
              case b17n0 =>
                have hin := ints_rep HR
                have hir : RowI x2 wr.heap.size (some ⟨x0.heap.size, 0, none⟩) (List.replicate n (0 : Int)).length := rowI_rep HR lE
                have hstx := hst.below HB2
                have HC : Hid (peC ⟨List.replicate n 0, some ⟨x0.heap.size, 0, none⟩, n⟩ = [.int .i64 0, .bool false, .slice none 0 0, .int .i64 0, .slice (some ⟨x0.heap.size, 0, none⟩) n n]) := by show _ = _; simp [peC]
                have HC1 : Hid (∀ u ∈ ([.int .i64 0, .bool false, .slice none 0 0, .int .i64 0, .slice (some ⟨x0.heap.size, 0, none⟩) n n] : List Value), u.oneCell' = true) := by show ∀ u ∈ _, _; rw [← HC.out]; exact peC_one _
                refine step_append_lies _ (by rfl) _ _ 22 (by rfl) (u1.heap.size + 1) 63 i1 _ 5 72 Try.underlying22 hi1 hy0 hy1 hy2 rfl (by omega) v qs.length (qs.flatMap peC) (by rfl) hstx.own ⟨x1.heap.size, 0, none⟩ 1 1 [.int .i64 0, .bool false, .slice none 0 0, .int .i64 0, .slice (some ⟨x0.heap.size, 0, none⟩) n n] (by rfl) (by rfl) (World.news_of_block (cs := #[.int .i64 0, .bool false, .slice none 0 0, .int .i64 0, .slice (some ⟨x0.heap.size, 0, none⟩) n n]) (t := 63) (fr := (0, 0)) HD) HC1.out (by omega) (by unfold maxLen; omega) (by omega) (by have := HB2.size; omega) (x2.heap.size) rfl ?_
                intro g2 cap2 w5 HO2 hgrow2 hat2 hlt2
                rw [← HC.out] at HO2
                have HN : Hid (PeSt (u1.heap.size + 1) u1.heap.size u1 (w5.setCell ⟨u1.heap.size, 0, none⟩ (.slice (some ⟨g2, 0, none⟩) (qs.length + 1) cap2)) (.slice (some ⟨g2, 0, none⟩) (qs.length + 1) cap2) (qs ++ [⟨List.replicate n 0, some ⟨x0.heap.size, 0, none⟩, n⟩])) := hst.step HB2 hin hir hgrow2 HO2 hat2
                have HM : Hid ((qs ++ [(⟨List.replicate n 0, some ⟨x0.heap.size, 0, none⟩, n⟩ : QI)]).map QI.zs = List.replicate (k + 1) (List.replicate n 0)) := by show _ = _; rw [List.map_append, HQ.out, List.replicate_succ']; rfl
                have hvS : some u1.heap.size ≠ v.ownBlock := fun e => by have := (hstx.own.lt u1.heap.size e.symm).1; omega
                have zc : w5.cell? ⟨u1.heap.size, 0, none⟩ = some v := (World.cell?_of_block (a := ⟨u1.heap.size, 0, none⟩) (hgrow2.block u1.heap.size (lt_of_cell hstx.c0) hvS)).trans hstx.c0
                have zf : ∀ o, w5.frozen? ⟨u1.heap.size, o, none⟩ = false := fun o => (World.frozen?_of_block (a := ⟨u1.heap.size, o, none⟩) (hgrow2.block u1.heap.size (lt_of_cell hstx.c0) hvS)).trans (hstx.fr o)
                refine hK.out _ _ trivial (fun hHn => ?_)
                clear hK KK hHn
                try simp only [Act.put, List.setIfInBounds_toArray, List.set_cons_zero, List.set_cons_succ]
                clear hgrow2 hat2 HR HD hin hir hstx HO2 hvS hlt2 HC HC1
                refine wpAnyH_take (i := 7) (oi := ⟨_, _, _, _, _, _⟩) (v := ?vt18x7) rfl (by kernel_rfl) (by kernel_rfl) (by kernel_rfl) (fun _ _ _ h => h) (Or.inl ⟨by rfl, ?yt18x7⟩) trivial ?rt18x7
                case yt18x7 => intro w hSw; clear hSw; go_simp; try with_reducible rfl
                try simp only [Act.put, List.setIfInBounds_toArray, List.set_cons_zero, List.set_cons_succ]
                refine wpAnyH_ready (rs := [8]) (by kernel_rfl) (by simp) ?_
                refine AllReadyH.cons (o := ⟨_, _, _, _, _, _⟩) rfl (fun KK hK => ?b19n0) AllReadyH.nil
                case b19n0 =>
                  go_simp
                  refine hK.out _ _ trivial (fun hHn => ?_)
                  clear hK KK hHn
                  try simp only [Act.put, List.setIfInBounds_toArray, List.set_cons_zero, List.set_cons_succ]
                  refine wpAnyH_done (by kernel_rfl) (NoPanic.normal ?_) _
                  clear zc zf hst
                  go_wp2
                  go_roundw
                  case rel => exact ⟨k + 1, _, _, by omega, by go_num, HM.out, HN.out⟩
                  case measure => simp [intOf]; omega
      · obtain rfl : k = n := by omega
        obtain ⟨av, cv, ev⟩ := ownsZ_form hst.own
        subst ev
        have HD : Hid (RaO wr (u1.heap.size + 1) ⟨(List.replicate k (List.replicate k 0)).map peN, []⟩ av none (fun _ => none) (fun j => (qs.getD j ⟨[], none, 0⟩).a) (fun _ => none) (fun _ => 0) (fun j => (qs.getD j ⟨[], none, 0⟩).c) (fun _ => 0)) := hst.done HQ.out
        have e0 := hst.c0
        have e1 := hst.c1
        have ef := hst.fr
        have hLq : Hid (((List.replicate k (List.replicate k (0 : Int))).map peN).length = qs.length) := by show _ = _; rw [← HQ.out]; simp
        clear hst HQ hmk
        go_wp2
        refine bodyPost_ret (v := .tuple #[.agg #[.slice av qs.length cv, .slice none 0 0], .bool true]) (by simp [results, Try.results9, go_sem, r0, r1]) rfl ⟨av, none, ⟨cv, 0, by rw [HE.out]; show _ = Ending.returned (.tuple #[.agg #[.slice av ((List.replicate k (List.replicate k (0 : Int))).map peN).length cv, .slice none 0 0], .bool true]); rw [hLq.out]⟩, ?_, ?_⟩
        · rw [HE.out]; exact (HD.out.of_block (fun b hb => by have := (HD.out.lt hb).1; rw [Below.heap_setCell _ ⟨w.heap.size, _, none⟩ _ b (by simp; omega), Below.heap_setCell _ ⟨w.heap.size, _, none⟩ _ b (by simp; omega)])).reads (by have := (newRa_small k).1; rw [HE.out] at this; exact this)
        · exact ((bB.trans (hB.mono (by omega))).setCell (Nat.le_refl _) _).setCell (Nat.le_refl _) _

end Go.Proofs.Ytglncbhbeikclaa
