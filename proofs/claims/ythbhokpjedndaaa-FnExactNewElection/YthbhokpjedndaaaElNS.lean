/-
  A new election, the specification's side: spec.NewElection. Made by mkelnew.py.
-/
import Derived.Test.YthbhokpjedndaaaElN
import Derived.Test.YthbhokpjedndaaaElS
namespace Go.Proofs.Ythbhokpjedndaaa
open Go.RowKit

theorem newEl_bad {L : List (List Int)} (h : L.all okLg = false) : newEl L = ⟨[], [], []⟩ ∧ okNE L = false := by simp [newEl, okNE, h]
theorem newEl_bad2 {L : List (List Int)} (h : inB L.length 1 5 = false) : newEl L = ⟨[], [], []⟩ ∧ okNE L = false := by simp [newEl, okNE, h]
theorem newEl_good {L : List (List Int)} (h : L.all okLg = true) (h2 : inB L.length 1 5 = true) : newEl L = ⟨L.map svN, [], []⟩ ∧ okNE L = true := by simp [newEl, okNE, h, h2]
theorem newEl_emptyS : ElS ⟨[], [], []⟩ := ⟨by simp, by simp, by simp, fun c hc => by simp at hc, fun k hk => by simp [SvK]; omega⟩
theorem goodE_keep {L : List (List Int)} {k : Nat} {l : List Int} (h : allTo okLg L (k + 1)) (hl : L[k]? = some l) : goodE l = true := by
  have := h k l (Nat.lt_succ_self _) hl
  simp only [okLg, Bool.and_eq_true] at this
  exact this.1

set_option maxRecDepth 100000 in
set_option maxHeartbeats 16000000 in
theorem specNewEl_any (L : List (List Int)) (a : Option Addr) (c : Nat) (w : World) (hs : Intss w a L) (hl : L.length ≤ 1048576) :
    Calls Try.prog 11 #[.slice a L.length c] w fun e w' => ∃ a0 a1 a2 c0 c1 c2, e = .returned (.tuple #[elV (newEl L) a0 c0 a1 c1 a2 c2, .bool (okNE L)]) ∧ ElR w' (newEl L) a0 a1 a2 ∧ Below w.heap.size w w' := by
  obtain ⟨i0, hi, hz0, hz1, hz2⟩ := infoZ Try.infoInt
  obtain ⟨i1, hi1, hy0, hy1, hy2⟩ := infoZ Try.infoSv
  obtain ⟨u1, hu1⟩ : ∃ u, (w.alloc (.cells #[.slice none 0 0, .slice none 0 0, .slice none 0 0] 36)) = u := ⟨_, rfl⟩
  have hS1 : u1.heap.size ≤ w.heap.size + 1 := by rw [← hu1]; simp
  have hS2 : w.heap.size + 1 ≤ u1.heap.size := by rw [← hu1]; simp
  obtain ⟨u2, hu2⟩ : ∃ u, (u1.alloc (.cells #[.slice none 0 0, .slice none 0 0, .slice none 0 0] 36)) = u := ⟨_, rfl⟩
  have bB : Below w.heap.size w u1 := by rw [← hu1]; exact alEl _ _
  have g0 : u1.cell? ⟨w.heap.size, 0, none⟩ = some (.slice none 0 0) := by rw [← hu1]; simp [go_sem]
  have g1 : u1.cell? ⟨w.heap.size, 1, none⟩ = some (.slice none 0 0) := by rw [← hu1]; simp [go_sem]
  have g2 : u1.cell? ⟨w.heap.size, 2, none⟩ = some (.slice none 0 0) := by rw [← hu1]; simp [go_sem]
  have gf : ∀ o, u1.frozen? ⟨w.heap.size, o, none⟩ = false := fun o => by rw [← hu1]; simp [go_sem]
  have hst0 : SvSt (u1.heap.size + 1) u1.heap.size u1 u2 (.slice none 0 0) [] := ⟨World.ownsRow_nil _ _ _ _, QIn.nil _ _, by rw [← hu2]; simp [go_sem], by rw [← hu2]; simp [go_sem], by rw [← hu2]; simp [go_sem], fun o => by rw [← hu2]; simp [go_sem], by rw [← hu2]; exact alEl _ _, by omega, by omega, by rw [← hu2]; simp⟩
  go_enter Try.func11, Try.ntmps11
  go_wp2
  clear hu2
  go_loopw [9] (fun i wr => ∃ (k : Nat) (v : Value) (qs : List QI), k ≤ L.length ∧ i = .int .i64 k ∧ Hid (allTo okLg L k) ∧ Hid (qs.map QI.zs = L.take k) ∧ SvSt (u1.heap.size + 1) u1.heap.size u1 wr v qs) (fun i _ => L.length - (intOf i).toNat)
  case atStart => exact ⟨0, _, [], Nat.zero_le _, rfl, allTo_zero _ _, rfl, hst0⟩
  case round =>
    clear hst0
    obtain ⟨k, v, qs, hk, rfl, HO, HQ, hst⟩ := hrel
    have hB := hst.bel
    have hlw := hst.Bw
    have r0 := celB hB g0
    have r1 := celB hB g1
    have r2 := celB hB g2
    have rf : ∀ o, wr.frozen? ⟨w.heap.size, o, none⟩ = false := fun o => frzB hB (by omega) (gf o)
    have hql : qs.length ≤ k := by have h9 := congrArg List.length HQ.out; simp at h9; omega
    by_cases hlt : k < L.length
    · obtain ⟨l, hkl⟩ := getL hlt
      obtain ⟨kb, ob, la, lc, ea, hcl, hlg0, hlm⟩ := ((hs.below bB).below hB) k l hkl
      subst ea
      have HK : Hid (L[k]? = some l) := hkl
      have hki : (k : Int) < (L.length : Int) := by omega
      have hlg := hlg0
      clear hkl hlg0
      obtain ⟨z, hz⟩ : ∃ z, lastZ l = z := ⟨_, rfl⟩
      have HZ : Hid (lastZ l = z) := hz
      clear hz
      cases h1 : goodE l with
      | false =>
        have HE : Hid (newEl L = ⟨[], [], []⟩ ∧ okNE L = false) := newEl_bad (all_bad HK.out (by simp [okLg, h1]))
        go_wp2_with (first | (go_at_call 29; refine (goodE_c _ _ _ _ _ hlg hlm h1).mono ?_; rintro e w' ⟨rfl, hw⟩; rw [hw]; clear hw w') | (go_at_call 30; refine (l9Last_any _ _ _ _ hlg hlm).mono ?_; rintro e w' ⟨he, hw⟩; rw [hw]; clear hw w'; rw [HZ.out] at he; subst he))
        go_wp2
        refine bodyPost_ret (v := .tuple #[.agg #[.slice none 0 0, .slice none 0 0, .slice none 0 0], .bool false]) (by simp [results, Try.results11, go_sem, r0, r1, r2]) rfl ⟨none, none, none, 0, 0, 0, by rw [HE.out.1, HE.out.2]; rfl, ?_, ?_⟩
        · rw [HE.out.1]; exact (newEl_zero _ 0).reads (newEl_emptyS)
        · exact ((((bB.trans (hB.mono (by omega))).setCell (Nat.le_refl _) _).setCell (Nat.le_refl _) _).setCell (Nat.le_refl _) _)
      | true =>
        by_cases h2 : 10 < z
        · have HE : Hid (newEl L = ⟨[], [], []⟩ ∧ okNE L = false) := newEl_bad (all_bad HK.out (by have := HZ.out; simp [okLg]; omega))
          go_wp2_with (first | (go_at_call 29; refine (goodE_c _ _ _ _ _ hlg hlm h1).mono ?_; rintro e w' ⟨rfl, hw⟩; rw [hw]; clear hw w') | (go_at_call 30; refine (l9Last_any _ _ _ _ hlg hlm).mono ?_; rintro e w' ⟨he, hw⟩; rw [hw]; clear hw w'; rw [HZ.out] at he; subst he))
          go_wp2
          refine bodyPost_ret (v := .tuple #[.agg #[.slice none 0 0, .slice none 0 0, .slice none 0 0], .bool false]) (by simp [results, Try.results11, go_sem, r0, r1, r2]) rfl ⟨none, none, none, 0, 0, 0, by rw [HE.out.1, HE.out.2]; rfl, ?_, ?_⟩
          · rw [HE.out.1]; exact (newEl_zero _ 0).reads (newEl_emptyS)
          · exact ((((bB.trans (hB.mono (by omega))).setCell (Nat.le_refl _) _).setCell (Nat.le_refl _) _).setCell (Nat.le_refl _) _)
        · have HA : Hid (allTo okLg L (k + 1)) := allTo_succ HO.out HK.out (by have := HZ.out; simp [okLg, h1]; omega)
          have HM : Hid (∀ a c, (qs ++ [(⟨l, a, c⟩ : QI)]).map QI.zs = L.take (k + 1)) := fun a c => by have := HQ.out; have h8 := HK.out; rw [takeL_snoc h8, List.map_append, this]; rfl
          have hl30 : l.length ≤ 30 := (goodE_t.1 h1).1
          clear h1
          have h1 : goodE l = true := goodE_keep HA.out HK.out
          go_wp2_with (first | (go_at_call 29; refine (goodE_c _ _ _ _ _ hlg hlm h1).mono ?_; rintro e w' ⟨rfl, hw⟩; rw [hw]; clear hw w') | (go_at_call 30; refine (l9Last_any _ _ _ _ hlg hlm).mono ?_; rintro e w' ⟨he, hw⟩; rw [hw]; clear hw w'; rw [HZ.out] at he; subst he))
          obtain ⟨x0, hx0⟩ : ∃ x, wr.drew = x := ⟨_, rfl⟩
          have HB0 : Below wr.heap.size wr x0 := by rw [← hx0]; exact (Below.refl _ _).drew
          refine wp_region_noPanic ?_
          refine wp_region_held_drew (S := fun _ => True) (by kernel_rfl) trivial (fun hHn => ?_)
          clear hHn
          rw [hx0]
          clear hx0
          refine wpAnyH_take (i := 0) (oi := ⟨_, _, _, _, _, _⟩) (v := ?vt1x0) rfl (by kernel_rfl) (by kernel_rfl) (by kernel_rfl) (fun _ _ _ h => h) (Or.inl ⟨by rfl, ?yt1x0⟩) trivial ?rt1x0
          case yt1x0 => intro w hSw; clear hSw; go_simp; try with_reducible rfl
          try simp only [Act.put, List.setIfInBounds_toArray, List.set_cons_zero, List.set_cons_succ]
          refine wpAnyH_take (i := 3) (oi := ⟨_, _, _, _, _, _⟩) (v := ?vt2x3) rfl (by kernel_rfl) (by kernel_rfl) (by kernel_rfl) (fun _ _ _ h => h) (Or.inl ⟨by rfl, ?yt2x3⟩) trivial ?rt2x3
          case yt2x3 => intro w hSw; clear hSw; go_simp; try with_reducible rfl
          try simp only [Act.put, List.setIfInBounds_toArray, List.set_cons_zero, List.set_cons_succ]
          refine wpAnyH_ready (rs := [1, 2]) (by kernel_rfl) (by simp) ?_
          refine AllReadyH.cons (o := ⟨_, _, _, _, _, _⟩) rfl (fun KK hK => ?b3n0) (AllReadyH.cons (o := ⟨_, _, _, _, _, _⟩) rfl (fun KK hK => ?b3n1) AllReadyH.nil)
          case b3n0 =>
            have cL : x0.cell? ⟨u1.heap.size, 0, none⟩ = some v := celB HB0 hst.c0
            go_simp
            refine hK.out _ _ trivial (fun hHn => ?_)
            clear hK KK hHn
            try simp only [Act.put, List.setIfInBounds_toArray, List.set_cons_zero, List.set_cons_succ]
            clear cL
            refine wpAnyH_ready (rs := [2]) (by kernel_rfl) (by simp) ?_
            refine AllReadyH.cons (o := ⟨_, _, _, _, _, _⟩) rfl (fun KK hK => ?b4n0) AllReadyH.nil
            case b4n0 =>
              obtain ⟨x1, hx1⟩ : ∃ u, x0.alloc (.cells #[] 3) = u := ⟨_, rfl⟩
              have HE : x1.heap[x0.heap.size]? = some (.cells #[] 3 (0, 0)) := by rw [← hx1]; exact heap_alloc_new _ _
              have BE : Below x0.heap.size x0 x1 := by rw [← hx1]; exact alEl _ _
              have HB1 : Below wr.heap.size wr x1 := stEl HB0 BE
              have lE : wr.heap.size ≤ x0.heap.size := HB0.size
              go_simp
              refine hK.out _ _ trivial (fun hHn => ?_)
              clear hK KK hHn
              try simp only [Act.put, List.setIfInBounds_toArray, List.set_cons_zero, List.set_cons_succ]
              clear hx1 BE
              refine wpAnyH_ready (rs := [4]) (by kernel_rfl) (by simp) ?_
              refine AllReadyH.cons (o := ⟨_, _, _, _, _, _⟩) rfl (fun KK hK => ?b5n0) AllReadyH.nil
              case b5n0 =>
                refine step_appZ _ (by rfl) _ _ 55 (by rfl) wr.heap.size 3 i0 _ 1 8 Try.underlying55 hi hz0 hz1 hz2 rfl (by decide) (.slice (some ⟨x0.heap.size, 0, none⟩) 0 0) 0 [] (by rfl) (owns_emptyZ HE (by omega)) (.slice la l.length lc) l.length (zCells l) (by rfl) (srcZ_ints _ (hlg.below HB1)) (by unfold maxLen; omega) (by omega) (by have := HB1.size; omega) ?_
                intro v1 x2 HV hgrow1 hat1
                simp only [Nat.zero_add, List.nil_append] at HV
                obtain ⟨a1, c1', rfl⟩ := ownsZ_form HV
                have HB2 : Below wr.heap.size wr x2 := HB1.grown hgrow1 (by have := HB1.size; omega) (fun q hq => by simp [Value.ownBlock] at hq; omega)
                refine hK.out _ _ trivial (fun hHn => ?_)
                clear hK KK hHn
                try simp only [Act.put, List.setIfInBounds_toArray, List.set_cons_zero, List.set_cons_succ]
                clear hgrow1 hat1 HE
                refine wpAnyH_take (i := 5) (oi := ⟨_, _, _, _, _, _⟩) (v := ?vt6x5) rfl (by kernel_rfl) (by kernel_rfl) (by kernel_rfl) (fun _ _ _ h => h) (Or.inl ⟨by rfl, ?yt6x5⟩) trivial ?rt6x5
                case yt6x5 => intro w hSw; clear hSw; go_simp; try with_reducible rfl
                try simp only [Act.put, List.setIfInBounds_toArray, List.set_cons_zero, List.set_cons_succ]
                refine wpAnyH_ready (rs := [6]) (by kernel_rfl) (by simp) ?_
                refine AllReadyH.cons (o := ⟨_, _, _, _, _, _⟩) rfl (fun KK hK => ?b7n0) AllReadyH.nil
                case b7n0 =>
                  obtain ⟨x3, hx3⟩ : ∃ u, x2.alloc (.cells #[.int .i64 10, .int .i64 (-1), .bool false, .bool false, .slice none 0 0, .slice a1 l.length c1'] 59) = u := ⟨_, rfl⟩
                  have HD : x3.heap[x2.heap.size]? = some (.cells #[.int .i64 10, .int .i64 (-1), .bool false, .bool false, .slice none 0 0, .slice a1 l.length c1'] 59 (0, 0)) := by rw [← hx3]; exact heap_alloc_new _ _
                  have BD : Below x2.heap.size x2 x3 := by rw [← hx3]; exact alEl _ _
                  have HB3 : Below wr.heap.size wr x3 := stEl HB2 BD
                  replace HV := ownsZ_below HV BD
                  go_simp
                  refine hK.out _ _ trivial (fun hHn => ?_)
                  clear hK KK hHn
                  try simp only [Act.put, List.setIfInBounds_toArray, List.set_cons_zero, List.set_cons_succ]
                  clear hx3 BD
                  refine wpAnyH_ready (rs := [7]) (by kernel_rfl) (by simp) ?_
                  refine AllReadyH.cons (o := ⟨_, _, _, _, _, _⟩) rfl (fun KK hK => ?b8n0) AllReadyH.nil
                  case b8n0 =>
                    have hin := ints_of_owns HV
                    have hstx := hst.below HB3
                    refine step_append_lies _ (by rfl) _ _ 32 (by rfl) (u1.heap.size + 1) 59 i1 _ 6 72 Try.underlying32 hi1 hy0 hy1 hy2 rfl (by omega) v qs.length (qs.flatMap svC) (by rfl) hstx.own ⟨x2.heap.size, 0, none⟩ 1 1 (svC ⟨l, a1, c1'⟩) (by rfl) (by rfl) (World.news_of_block (cs := #[.int .i64 10, .int .i64 (-1), .bool false, .bool false, .slice none 0 0, .slice a1 l.length c1']) (t := 59) (fr := (0, 0)) HD) (svC_one _) (by omega) (by unfold maxLen; omega) (by omega) (by have := HB3.size; omega) (x3.heap.size) rfl ?_
                    intro g2 cap2 w5 HO2 hgrow2 hat2 hlt2
                    have HN : Hid (SvSt (u1.heap.size + 1) u1.heap.size u1 (w5.setCell ⟨u1.heap.size, 0, none⟩ (.slice (some ⟨g2, 0, none⟩) (qs.length + 1) cap2)) (.slice (some ⟨g2, 0, none⟩) (qs.length + 1) cap2) (qs ++ [⟨l, a1, c1'⟩])) := hst.step HB3 hin.1 (hin.2.mono (Nat.le_refl _)) hgrow2 HO2 hat2
                    have hvS : some u1.heap.size ≠ v.ownBlock := fun e => by have := (hstx.own.lt u1.heap.size e.symm).1; omega
                    have zc : w5.cell? ⟨u1.heap.size, 0, none⟩ = some v := (World.cell?_of_block (a := ⟨u1.heap.size, 0, none⟩) (hgrow2.block u1.heap.size (lt_of_cell hstx.c0) hvS)).trans hstx.c0
                    have zf : ∀ o, w5.frozen? ⟨u1.heap.size, o, none⟩ = false := fun o => (World.frozen?_of_block (a := ⟨u1.heap.size, o, none⟩) (hgrow2.block u1.heap.size (lt_of_cell hstx.c0) hvS)).trans (hstx.fr o)
                    refine hK.out _ _ trivial (fun hHn => ?_)
                    clear hK KK hHn
                    try simp only [Act.put, List.setIfInBounds_toArray, List.set_cons_zero, List.set_cons_succ]
                    clear hgrow2 hat2 HV HD hin hstx HO2 hvS hlt2
                    refine wpAnyH_take (i := 8) (oi := ⟨_, _, _, _, _, _⟩) (v := ?vt9x8) rfl (by kernel_rfl) (by kernel_rfl) (by kernel_rfl) (fun _ _ _ h => h) (Or.inl ⟨by rfl, ?yt9x8⟩) trivial ?rt9x8
                    case yt9x8 => intro w hSw; clear hSw; go_simp; try with_reducible rfl
                    try simp only [Act.put, List.setIfInBounds_toArray, List.set_cons_zero, List.set_cons_succ]
                    refine wpAnyH_ready (rs := [9]) (by kernel_rfl) (by simp) ?_
                    refine AllReadyH.cons (o := ⟨_, _, _, _, _, _⟩) rfl (fun KK hK => ?b10n0) AllReadyH.nil
                    case b10n0 =>
                      go_simp
                      refine hK.out _ _ trivial (fun hHn => ?_)
                      clear hK KK hHn
                      try simp only [Act.put, List.setIfInBounds_toArray, List.set_cons_zero, List.set_cons_succ]
                      refine wpAnyH_done (by kernel_rfl) (NoPanic.normal ?_) _
                      clear zc zf hst
                      go_wp2
                      go_roundw
                      case rel => exact ⟨k + 1, _, qs ++ [QI.mk l a1 c1'], by omega, by go_num, HA.out, HM.out a1 c1', HN.out⟩
                      case measure => simp [intOf]; omega
          case b3n1 =>
            obtain ⟨x1, hx1⟩ : ∃ u, x0.alloc (.cells #[] 3) = u := ⟨_, rfl⟩
            have HE : x1.heap[x0.heap.size]? = some (.cells #[] 3 (0, 0)) := by rw [← hx1]; exact heap_alloc_new _ _
            have BE : Below x0.heap.size x0 x1 := by rw [← hx1]; exact alEl _ _
            have HB1 : Below wr.heap.size wr x1 := stEl HB0 BE
            have lE : wr.heap.size ≤ x0.heap.size := HB0.size
            go_simp
            refine hK.out _ _ trivial (fun hHn => ?_)
            clear hK KK hHn
            try simp only [Act.put, List.setIfInBounds_toArray, List.set_cons_zero, List.set_cons_succ]
            clear hx1 BE
            refine wpAnyH_ready (rs := [1, 4]) (by kernel_rfl) (by simp) ?_
            refine AllReadyH.cons (o := ⟨_, _, _, _, _, _⟩) rfl (fun KK hK => ?b11n0) (AllReadyH.cons (o := ⟨_, _, _, _, _, _⟩) rfl (fun KK hK => ?b11n1) AllReadyH.nil)
            case b11n0 =>
              have cL : x1.cell? ⟨u1.heap.size, 0, none⟩ = some v := celB HB1 hst.c0
              go_simp
              refine hK.out _ _ trivial (fun hHn => ?_)
              clear hK KK hHn
              try simp only [Act.put, List.setIfInBounds_toArray, List.set_cons_zero, List.set_cons_succ]
              clear cL
              refine wpAnyH_ready (rs := [4]) (by kernel_rfl) (by simp) ?_
              refine AllReadyH.cons (o := ⟨_, _, _, _, _, _⟩) rfl (fun KK hK => ?b12n0) AllReadyH.nil
              case b12n0 =>
                refine step_appZ _ (by rfl) _ _ 55 (by rfl) wr.heap.size 3 i0 _ 1 8 Try.underlying55 hi hz0 hz1 hz2 rfl (by decide) (.slice (some ⟨x0.heap.size, 0, none⟩) 0 0) 0 [] (by rfl) (owns_emptyZ HE (by omega)) (.slice la l.length lc) l.length (zCells l) (by rfl) (srcZ_ints _ (hlg.below HB1)) (by unfold maxLen; omega) (by omega) (by have := HB1.size; omega) ?_
                intro v1 x2 HV hgrow1 hat1
                simp only [Nat.zero_add, List.nil_append] at HV
                obtain ⟨a1, c1', rfl⟩ := ownsZ_form HV
                have HB2 : Below wr.heap.size wr x2 := HB1.grown hgrow1 (by have := HB1.size; omega) (fun q hq => by simp [Value.ownBlock] at hq; omega)
                refine hK.out _ _ trivial (fun hHn => ?_)
                clear hK KK hHn
                try simp only [Act.put, List.setIfInBounds_toArray, List.set_cons_zero, List.set_cons_succ]
                clear hgrow1 hat1 HE
                refine wpAnyH_take (i := 5) (oi := ⟨_, _, _, _, _, _⟩) (v := ?vt13x5) rfl (by kernel_rfl) (by kernel_rfl) (by kernel_rfl) (fun _ _ _ h => h) (Or.inl ⟨by rfl, ?yt13x5⟩) trivial ?rt13x5
                case yt13x5 => intro w hSw; clear hSw; go_simp; try with_reducible rfl
                try simp only [Act.put, List.setIfInBounds_toArray, List.set_cons_zero, List.set_cons_succ]
                refine wpAnyH_ready (rs := [6]) (by kernel_rfl) (by simp) ?_
                refine AllReadyH.cons (o := ⟨_, _, _, _, _, _⟩) rfl (fun KK hK => ?b14n0) AllReadyH.nil
                case b14n0 =>
                  obtain ⟨x3, hx3⟩ : ∃ u, x2.alloc (.cells #[.int .i64 10, .int .i64 (-1), .bool false, .bool false, .slice none 0 0, .slice a1 l.length c1'] 59) = u := ⟨_, rfl⟩
                  have HD : x3.heap[x2.heap.size]? = some (.cells #[.int .i64 10, .int .i64 (-1), .bool false, .bool false, .slice none 0 0, .slice a1 l.length c1'] 59 (0, 0)) := by rw [← hx3]; exact heap_alloc_new _ _
                  have BD : Below x2.heap.size x2 x3 := by rw [← hx3]; exact alEl _ _
                  have HB3 : Below wr.heap.size wr x3 := stEl HB2 BD
                  replace HV := ownsZ_below HV BD
                  go_simp
                  refine hK.out _ _ trivial (fun hHn => ?_)
                  clear hK KK hHn
                  try simp only [Act.put, List.setIfInBounds_toArray, List.set_cons_zero, List.set_cons_succ]
                  clear hx3 BD
                  refine wpAnyH_ready (rs := [7]) (by kernel_rfl) (by simp) ?_
                  refine AllReadyH.cons (o := ⟨_, _, _, _, _, _⟩) rfl (fun KK hK => ?b15n0) AllReadyH.nil
                  case b15n0 =>
                    have hin := ints_of_owns HV
                    have hstx := hst.below HB3
                    refine step_append_lies _ (by rfl) _ _ 32 (by rfl) (u1.heap.size + 1) 59 i1 _ 6 72 Try.underlying32 hi1 hy0 hy1 hy2 rfl (by omega) v qs.length (qs.flatMap svC) (by rfl) hstx.own ⟨x2.heap.size, 0, none⟩ 1 1 (svC ⟨l, a1, c1'⟩) (by rfl) (by rfl) (World.news_of_block (cs := #[.int .i64 10, .int .i64 (-1), .bool false, .bool false, .slice none 0 0, .slice a1 l.length c1']) (t := 59) (fr := (0, 0)) HD) (svC_one _) (by omega) (by unfold maxLen; omega) (by omega) (by have := HB3.size; omega) (x3.heap.size) rfl ?_
                    intro g2 cap2 w5 HO2 hgrow2 hat2 hlt2
                    have HN : Hid (SvSt (u1.heap.size + 1) u1.heap.size u1 (w5.setCell ⟨u1.heap.size, 0, none⟩ (.slice (some ⟨g2, 0, none⟩) (qs.length + 1) cap2)) (.slice (some ⟨g2, 0, none⟩) (qs.length + 1) cap2) (qs ++ [⟨l, a1, c1'⟩])) := hst.step HB3 hin.1 (hin.2.mono (Nat.le_refl _)) hgrow2 HO2 hat2
                    have hvS : some u1.heap.size ≠ v.ownBlock := fun e => by have := (hstx.own.lt u1.heap.size e.symm).1; omega
                    have zc : w5.cell? ⟨u1.heap.size, 0, none⟩ = some v := (World.cell?_of_block (a := ⟨u1.heap.size, 0, none⟩) (hgrow2.block u1.heap.size (lt_of_cell hstx.c0) hvS)).trans hstx.c0
                    have zf : ∀ o, w5.frozen? ⟨u1.heap.size, o, none⟩ = false := fun o => (World.frozen?_of_block (a := ⟨u1.heap.size, o, none⟩) (hgrow2.block u1.heap.size (lt_of_cell hstx.c0) hvS)).trans (hstx.fr o)
                    refine hK.out _ _ trivial (fun hHn => ?_)
                    clear hK KK hHn
                    try simp only [Act.put, List.setIfInBounds_toArray, List.set_cons_zero, List.set_cons_succ]
                    clear hgrow2 hat2 HV HD hin hstx HO2 hvS hlt2
                    refine wpAnyH_take (i := 8) (oi := ⟨_, _, _, _, _, _⟩) (v := ?vt16x8) rfl (by kernel_rfl) (by kernel_rfl) (by kernel_rfl) (fun _ _ _ h => h) (Or.inl ⟨by rfl, ?yt16x8⟩) trivial ?rt16x8
                    case yt16x8 => intro w hSw; clear hSw; go_simp; try with_reducible rfl
                    try simp only [Act.put, List.setIfInBounds_toArray, List.set_cons_zero, List.set_cons_succ]
                    refine wpAnyH_ready (rs := [9]) (by kernel_rfl) (by simp) ?_
                    refine AllReadyH.cons (o := ⟨_, _, _, _, _, _⟩) rfl (fun KK hK => ?b17n0) AllReadyH.nil
                    case b17n0 =>
                      go_simp
                      refine hK.out _ _ trivial (fun hHn => ?_)
                      clear hK KK hHn
                      try simp only [Act.put, List.setIfInBounds_toArray, List.set_cons_zero, List.set_cons_succ]
                      refine wpAnyH_done (by kernel_rfl) (NoPanic.normal ?_) _
                      clear zc zf hst
                      go_wp2
                      go_roundw
                      case rel => exact ⟨k + 1, _, qs ++ [QI.mk l a1 c1'], by omega, by go_num, HA.out, HM.out a1 c1', HN.out⟩
                      case measure => simp [intOf]; omega
            case b11n1 =>
              refine step_appZ _ (by rfl) _ _ 55 (by rfl) wr.heap.size 3 i0 _ 1 8 Try.underlying55 hi hz0 hz1 hz2 rfl (by decide) (.slice (some ⟨x0.heap.size, 0, none⟩) 0 0) 0 [] (by rfl) (owns_emptyZ HE (by omega)) (.slice la l.length lc) l.length (zCells l) (by rfl) (srcZ_ints _ (hlg.below HB1)) (by unfold maxLen; omega) (by omega) (by have := HB1.size; omega) ?_
              intro v1 x2 HV hgrow1 hat1
              simp only [Nat.zero_add, List.nil_append] at HV
              obtain ⟨a1, c1', rfl⟩ := ownsZ_form HV
              have HB2 : Below wr.heap.size wr x2 := HB1.grown hgrow1 (by have := HB1.size; omega) (fun q hq => by simp [Value.ownBlock] at hq; omega)
              refine hK.out _ _ trivial (fun hHn => ?_)
              clear hK KK hHn
              try simp only [Act.put, List.setIfInBounds_toArray, List.set_cons_zero, List.set_cons_succ]
              clear hgrow1 hat1 HE
              refine wpAnyH_take (i := 5) (oi := ⟨_, _, _, _, _, _⟩) (v := ?vt18x5) rfl (by kernel_rfl) (by kernel_rfl) (by kernel_rfl) (fun _ _ _ h => h) (Or.inl ⟨by rfl, ?yt18x5⟩) trivial ?rt18x5
              case yt18x5 => intro w hSw; clear hSw; go_simp; try with_reducible rfl
              try simp only [Act.put, List.setIfInBounds_toArray, List.set_cons_zero, List.set_cons_succ]
              refine wpAnyH_ready (rs := [1, 6]) (by kernel_rfl) (by simp) ?_
              refine AllReadyH.cons (o := ⟨_, _, _, _, _, _⟩) rfl (fun KK hK => ?b19n0) (AllReadyH.cons (o := ⟨_, _, _, _, _, _⟩) rfl (fun KK hK => ?b19n1) AllReadyH.nil)
              case b19n0 =>
                have cL : x2.cell? ⟨u1.heap.size, 0, none⟩ = some v := celB HB2 hst.c0
                go_simp
                refine hK.out _ _ trivial (fun hHn => ?_)
                clear hK KK hHn
                try simp only [Act.put, List.setIfInBounds_toArray, List.set_cons_zero, List.set_cons_succ]
                clear cL
                refine wpAnyH_ready (rs := [6]) (by kernel_rfl) (by simp) ?_
                refine AllReadyH.cons (o := ⟨_, _, _, _, _, _⟩) rfl (fun KK hK => ?b20n0) AllReadyH.nil
                case b20n0 =>
                  obtain ⟨x3, hx3⟩ : ∃ u, x2.alloc (.cells #[.int .i64 10, .int .i64 (-1), .bool false, .bool false, .slice none 0 0, .slice a1 l.length c1'] 59) = u := ⟨_, rfl⟩
                  have HD : x3.heap[x2.heap.size]? = some (.cells #[.int .i64 10, .int .i64 (-1), .bool false, .bool false, .slice none 0 0, .slice a1 l.length c1'] 59 (0, 0)) := by rw [← hx3]; exact heap_alloc_new _ _
                  have BD : Below x2.heap.size x2 x3 := by rw [← hx3]; exact alEl _ _
                  have HB3 : Below wr.heap.size wr x3 := stEl HB2 BD
                  replace HV := ownsZ_below HV BD
                  go_simp
                  refine hK.out _ _ trivial (fun hHn => ?_)
                  clear hK KK hHn
                  try simp only [Act.put, List.setIfInBounds_toArray, List.set_cons_zero, List.set_cons_succ]
                  clear hx3 BD
                  refine wpAnyH_ready (rs := [7]) (by kernel_rfl) (by simp) ?_
                  refine AllReadyH.cons (o := ⟨_, _, _, _, _, _⟩) rfl (fun KK hK => ?b21n0) AllReadyH.nil
                  case b21n0 =>
                    have hin := ints_of_owns HV
                    have hstx := hst.below HB3
                    refine step_append_lies _ (by rfl) _ _ 32 (by rfl) (u1.heap.size + 1) 59 i1 _ 6 72 Try.underlying32 hi1 hy0 hy1 hy2 rfl (by omega) v qs.length (qs.flatMap svC) (by rfl) hstx.own ⟨x2.heap.size, 0, none⟩ 1 1 (svC ⟨l, a1, c1'⟩) (by rfl) (by rfl) (World.news_of_block (cs := #[.int .i64 10, .int .i64 (-1), .bool false, .bool false, .slice none 0 0, .slice a1 l.length c1']) (t := 59) (fr := (0, 0)) HD) (svC_one _) (by omega) (by unfold maxLen; omega) (by omega) (by have := HB3.size; omega) (x3.heap.size) rfl ?_
                    intro g2 cap2 w5 HO2 hgrow2 hat2 hlt2
                    have HN : Hid (SvSt (u1.heap.size + 1) u1.heap.size u1 (w5.setCell ⟨u1.heap.size, 0, none⟩ (.slice (some ⟨g2, 0, none⟩) (qs.length + 1) cap2)) (.slice (some ⟨g2, 0, none⟩) (qs.length + 1) cap2) (qs ++ [⟨l, a1, c1'⟩])) := hst.step HB3 hin.1 (hin.2.mono (Nat.le_refl _)) hgrow2 HO2 hat2
                    have hvS : some u1.heap.size ≠ v.ownBlock := fun e => by have := (hstx.own.lt u1.heap.size e.symm).1; omega
                    have zc : w5.cell? ⟨u1.heap.size, 0, none⟩ = some v := (World.cell?_of_block (a := ⟨u1.heap.size, 0, none⟩) (hgrow2.block u1.heap.size (lt_of_cell hstx.c0) hvS)).trans hstx.c0
                    have zf : ∀ o, w5.frozen? ⟨u1.heap.size, o, none⟩ = false := fun o => (World.frozen?_of_block (a := ⟨u1.heap.size, o, none⟩) (hgrow2.block u1.heap.size (lt_of_cell hstx.c0) hvS)).trans (hstx.fr o)
                    refine hK.out _ _ trivial (fun hHn => ?_)
                    clear hK KK hHn
                    try simp only [Act.put, List.setIfInBounds_toArray, List.set_cons_zero, List.set_cons_succ]
                    clear hgrow2 hat2 HV HD hin hstx HO2 hvS hlt2
                    refine wpAnyH_take (i := 8) (oi := ⟨_, _, _, _, _, _⟩) (v := ?vt22x8) rfl (by kernel_rfl) (by kernel_rfl) (by kernel_rfl) (fun _ _ _ h => h) (Or.inl ⟨by rfl, ?yt22x8⟩) trivial ?rt22x8
                    case yt22x8 => intro w hSw; clear hSw; go_simp; try with_reducible rfl
                    try simp only [Act.put, List.setIfInBounds_toArray, List.set_cons_zero, List.set_cons_succ]
                    refine wpAnyH_ready (rs := [9]) (by kernel_rfl) (by simp) ?_
                    refine AllReadyH.cons (o := ⟨_, _, _, _, _, _⟩) rfl (fun KK hK => ?b23n0) AllReadyH.nil
                    case b23n0 =>
                      go_simp
                      refine hK.out _ _ trivial (fun hHn => ?_)
                      clear hK KK hHn
                      try simp only [Act.put, List.setIfInBounds_toArray, List.set_cons_zero, List.set_cons_succ]
                      refine wpAnyH_done (by kernel_rfl) (NoPanic.normal ?_) _
                      clear zc zf hst
                      go_wp2
                      go_roundw
                      case rel => exact ⟨k + 1, _, qs ++ [QI.mk l a1 c1'], by omega, by go_num, HA.out, HM.out a1 c1', HN.out⟩
                      case measure => simp [intOf]; omega
              case b19n1 =>
                obtain ⟨x3, hx3⟩ : ∃ u, x2.alloc (.cells #[.int .i64 10, .int .i64 (-1), .bool false, .bool false, .slice none 0 0, .slice a1 l.length c1'] 59) = u := ⟨_, rfl⟩
                have HD : x3.heap[x2.heap.size]? = some (.cells #[.int .i64 10, .int .i64 (-1), .bool false, .bool false, .slice none 0 0, .slice a1 l.length c1'] 59 (0, 0)) := by rw [← hx3]; exact heap_alloc_new _ _
                have BD : Below x2.heap.size x2 x3 := by rw [← hx3]; exact alEl _ _
                have HB3 : Below wr.heap.size wr x3 := stEl HB2 BD
                replace HV := ownsZ_below HV BD
                go_simp
                refine hK.out _ _ trivial (fun hHn => ?_)
                clear hK KK hHn
                try simp only [Act.put, List.setIfInBounds_toArray, List.set_cons_zero, List.set_cons_succ]
                clear hx3 BD
                refine wpAnyH_ready (rs := [1]) (by kernel_rfl) (by simp) ?_
                refine AllReadyH.cons (o := ⟨_, _, _, _, _, _⟩) rfl (fun KK hK => ?b24n0) AllReadyH.nil
                case b24n0 =>
                  have cL : x3.cell? ⟨u1.heap.size, 0, none⟩ = some v := celB HB3 hst.c0
                  go_simp
                  refine hK.out _ _ trivial (fun hHn => ?_)
                  clear hK KK hHn
                  try simp only [Act.put, List.setIfInBounds_toArray, List.set_cons_zero, List.set_cons_succ]
                  clear cL
                  refine wpAnyH_ready (rs := [7]) (by kernel_rfl) (by simp) ?_
                  refine AllReadyH.cons (o := ⟨_, _, _, _, _, _⟩) rfl (fun KK hK => ?b25n0) AllReadyH.nil
                  case b25n0 =>
                    have hin := ints_of_owns HV
                    have hstx := hst.below HB3
                    refine step_append_lies _ (by rfl) _ _ 32 (by rfl) (u1.heap.size + 1) 59 i1 _ 6 72 Try.underlying32 hi1 hy0 hy1 hy2 rfl (by omega) v qs.length (qs.flatMap svC) (by rfl) hstx.own ⟨x2.heap.size, 0, none⟩ 1 1 (svC ⟨l, a1, c1'⟩) (by rfl) (by rfl) (World.news_of_block (cs := #[.int .i64 10, .int .i64 (-1), .bool false, .bool false, .slice none 0 0, .slice a1 l.length c1']) (t := 59) (fr := (0, 0)) HD) (svC_one _) (by omega) (by unfold maxLen; omega) (by omega) (by have := HB3.size; omega) (x3.heap.size) rfl ?_
                    intro g2 cap2 w5 HO2 hgrow2 hat2 hlt2
                    have HN : Hid (SvSt (u1.heap.size + 1) u1.heap.size u1 (w5.setCell ⟨u1.heap.size, 0, none⟩ (.slice (some ⟨g2, 0, none⟩) (qs.length + 1) cap2)) (.slice (some ⟨g2, 0, none⟩) (qs.length + 1) cap2) (qs ++ [⟨l, a1, c1'⟩])) := hst.step HB3 hin.1 (hin.2.mono (Nat.le_refl _)) hgrow2 HO2 hat2
                    have hvS : some u1.heap.size ≠ v.ownBlock := fun e => by have := (hstx.own.lt u1.heap.size e.symm).1; omega
                    have zc : w5.cell? ⟨u1.heap.size, 0, none⟩ = some v := (World.cell?_of_block (a := ⟨u1.heap.size, 0, none⟩) (hgrow2.block u1.heap.size (lt_of_cell hstx.c0) hvS)).trans hstx.c0
                    have zf : ∀ o, w5.frozen? ⟨u1.heap.size, o, none⟩ = false := fun o => (World.frozen?_of_block (a := ⟨u1.heap.size, o, none⟩) (hgrow2.block u1.heap.size (lt_of_cell hstx.c0) hvS)).trans (hstx.fr o)
                    refine hK.out _ _ trivial (fun hHn => ?_)
                    clear hK KK hHn
                    try simp only [Act.put, List.setIfInBounds_toArray, List.set_cons_zero, List.set_cons_succ]
                    clear hgrow2 hat2 HV HD hin hstx HO2 hvS hlt2
                    refine wpAnyH_take (i := 8) (oi := ⟨_, _, _, _, _, _⟩) (v := ?vt26x8) rfl (by kernel_rfl) (by kernel_rfl) (by kernel_rfl) (fun _ _ _ h => h) (Or.inl ⟨by rfl, ?yt26x8⟩) trivial ?rt26x8
                    case yt26x8 => intro w hSw; clear hSw; go_simp; try with_reducible rfl
                    try simp only [Act.put, List.setIfInBounds_toArray, List.set_cons_zero, List.set_cons_succ]
                    refine wpAnyH_ready (rs := [9]) (by kernel_rfl) (by simp) ?_
                    refine AllReadyH.cons (o := ⟨_, _, _, _, _, _⟩) rfl (fun KK hK => ?b27n0) AllReadyH.nil
                    case b27n0 =>
                      go_simp
                      refine hK.out _ _ trivial (fun hHn => ?_)
                      clear hK KK hHn
                      try simp only [Act.put, List.setIfInBounds_toArray, List.set_cons_zero, List.set_cons_succ]
                      refine wpAnyH_done (by kernel_rfl) (NoPanic.normal ?_) _
                      clear zc zf hst
                      go_wp2
                      go_roundw
                      case rel => exact ⟨k + 1, _, qs ++ [QI.mk l a1 c1'], by omega, by go_num, HA.out, HM.out a1 c1', HN.out⟩
                      case measure => simp [intOf]; omega
    · obtain rfl : k = L.length := by omega
      have HA : Hid (L.all okLg = true) := all_done HO.out
      cases hg : inB L.length 1 5 with
      | false =>
        have HE : Hid (newEl L = ⟨[], [], []⟩ ∧ okNE L = false) := newEl_bad2 hg
        go_wp2_with (go_at_call 31; refine (l1In_c _ _ _ _ _ hg).mono ?_; rintro e w' ⟨rfl, hw⟩; rw [hw]; clear hw w')
        go_wp2
        refine bodyPost_ret (v := .tuple #[.agg #[.slice none 0 0, .slice none 0 0, .slice none 0 0], .bool false]) (by simp [results, Try.results11, go_sem, r0, r1, r2]) rfl ⟨none, none, none, 0, 0, 0, by rw [HE.out.1, HE.out.2]; rfl, ?_, ?_⟩
        · rw [HE.out.1]; exact (newEl_zero _ 0).reads (newEl_emptyS)
        · exact ((((bB.trans (hB.mono (by omega))).setCell (Nat.le_refl _) _).setCell (Nat.le_refl _) _).setCell (Nat.le_refl _) _)
      | true =>
        have HE : Hid (newEl L = ⟨L.map svN, [], []⟩ ∧ okNE L = true) := newEl_good HA.out hg
        obtain ⟨av, cv, ev⟩ := ownsZ_form hst.own
        subst ev
        have HQ' : Hid (qs.map QI.zs = L) := by have := HQ.out; rw [List.take_length] at this; exact this
        have HD : Hid (ElO wr (u1.heap.size + 1) ⟨L.map svN, [], []⟩ av none none (fun _ => none) (fun j => (qs.getD j ⟨[], none, 0⟩).a) (fun _ => 0) (fun j => (qs.getD j ⟨[], none, 0⟩).c)) := hst.done HQ'.out
        have e0 := hst.c0
        have e1 := hst.c1
        have e2 := hst.c2
        have ef := hst.fr
        have hLq : Hid ((L.map svN).length = qs.length) := by show _ = _; rw [← HQ'.out]; simp
        clear hst HQ HO
        go_wp2_with (go_at_call 31; refine (l1In_c _ _ _ _ _ hg).mono ?_; rintro e w' ⟨rfl, hw⟩; rw [hw]; clear hw w')
        refine bodyPost_ret (v := .tuple #[.agg #[.slice av qs.length cv, .slice none 0 0, .slice none 0 0], .bool true]) (by simp [results, Try.results11, go_sem, r0, r1, r2]) rfl ⟨av, none, none, cv, 0, 0, by rw [HE.out.1, HE.out.2]; show _ = Ending.returned (.tuple #[.agg #[.slice av (L.map svN).length cv, .slice none 0 0, .slice none 0 0], .bool true]); rw [hLq.out], ?_, ?_⟩
        · rw [HE.out.1]; exact (HD.out.of_block (fun b hb => by have := (HD.out.lt hb).1; rw [Below.heap_setCell _ ⟨w.heap.size, _, none⟩ _ b (by simp; omega), Below.heap_setCell _ ⟨w.heap.size, _, none⟩ _ b (by simp; omega), Below.heap_setCell _ ⟨w.heap.size, _, none⟩ _ b (by simp; omega)])).reads (by have := (newEl_small L).1; rw [HE.out.1] at this; exact this)
        · exact ((((bB.trans (hB.mono (by omega))).setCell (Nat.le_refl _) _).setCell (Nat.le_refl _) _).setCell (Nat.le_refl _) _)

end Go.Proofs.Ythbhokpjedndaaa
