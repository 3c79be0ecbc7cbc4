/-
  A new election, the program's side: impl.NewElection. Made by mkelnewi.py.
-/
import Derived.Test.YthbhokpjedndaaaElNS
import Derived.Test.YthbhokpjedndaaaElI1n
namespace Go.Proofs.Ythbhokpjedndaaa
open Go.RowKit

theorem tipOf_c (a : Option Addr) (c : Nat) (zs : List Int) (z : Int) (w : World) (hs : Ints w a zs) (hl : zs.length ≤ maxLen) (h : lastZ zs = z) :
    Calls Try.prog 35 #[.slice a zs.length c] w fun e w' => e = .returned (.agg #[.int .i64 z, .int .i64 zs.length]) ∧ Below w.heap.size w w' := by
  rw [← h]; exact tipOf_any a c zs w hs hl

theorem field_tip (z n : Int) (w : World) : (Go.Instr.field 64 (.agg #[.int .i64 z, .int .i64 n]) 0).run Try.prog w = .ok (.int .i64 z) w := by kernel_rfl

theorem SvO.mono {w : World} {B B' : Nat} {a : Option Addr} {l : List Sv} {r4 r5 : Nat → Option Addr} {k4 k5 : Nat → Nat} (h : SvO w B a l r4 r5 k4 k5) (hb : B' ≤ B) : SvO w B' a l r4 r5 k4 k5 := by
  rcases h with rfl | ⟨R, m, f, rfl, hR, hm, hrow, hp⟩
  · exact .inl rfl
  · exact .inr ⟨R, m, f, rfl, Nat.le_trans hb hR, hm, hrow, fun j c hj => by
      obtain ⟨x0, x1, x2, x3, x4, x5, x6, w4, x7, w5⟩ := hp j c hj
      exact ⟨x0, x1, x2, x3, x4, x5, x6, w4.mono hb, x7, w5.mono hb⟩⟩

theorem ElO.mono {w : World} {B B' : Nat} {s : El} {a0 a1 a2 : Option Addr} {r04 r05 : Nat → Option Addr} {k04 k05 : Nat → Nat} (h : ElO w B s a0 a1 a2 r04 r05 k04 k05) (hb : B' ≤ B) : ElO w B' s a0 a1 a2 r04 r05 k04 k05 :=
  ⟨h.svs.mono hb, h.svsD, h.post, h.postR.mono hb, h.led, h.ledR.mono hb⟩

theorem ownNumbers_any (a : Option Addr) (c : Nat) (l : List Int) (w : World) (hs : Ints w a l) (hl : l.length ≤ 30) :
    Calls Try.prog 36 #[.slice a l.length c] w fun r w' => ∃ a1 c1, r = .returned (.slice a1 l.length c1) ∧ w'.ownsRow w.heap.size 3 1 (.slice a1 l.length c1) l.length (zCells l) ∧ Below w.heap.size w w' := by
  obtain ⟨i0, hi, hz0, hz1, hz2⟩ := infoZ Try.infoInt
  go_enter Try.func36, Try.ntmps36
  go_wp2_with (at_builtin; refine wpList_appZ _ rfl _ _ 55 rfl w.heap.size 3 i0 _ 1 8 Try.underlying55 hi hz0 hz1 hz2 rfl (by decide) (.slice none 0 0) 0 [] rfl (World.ownsRow_nil _ _ _ _) (.slice a l.length c) l.length (zCells l) rfl (srcZ_ints _ hs) ?c3 ?c4 ?c5 ?_)
  case c3 => unfold maxLen; omega
  case c4 => omega
  case c5 => exact Nat.le_refl _
  intro v w1 hown hgrow hat
  try simp only [Nat.zero_add, List.nil_append] at hown
  obtain ⟨a1, c1, rfl⟩ := ownsZ_form hown
  have hB : Below w.heap.size w w1 := (Below.refl _ _).grown hgrow (Nat.le_refl _) (fun b hb => by simp [Value.ownBlock] at hb)
  clear hgrow hat
  go_wp2
  go_ret
  exact ⟨a1, c1, rfl, hown, hB⟩

set_option maxRecDepth 100000 in
set_option maxHeartbeats 16000000 in
theorem implNewEl_any (L : List (List Int)) (a : Option Addr) (c : Nat) (w : World) (hs : Intss w a L) (hl : L.length ≤ 1048576) :
    Calls Try.prog 13 #[.slice a L.length c] w fun e w' => ∃ a0 a1 a2 c0 c1 c2 r04 r05 k04 k05, e = .returned (.tuple #[elV (newEl L) a0 c0 a1 c1 a2 c2, .bool (okNE L)]) ∧ ElO w' w.heap.size (newEl L) a0 a1 a2 r04 r05 k04 k05 ∧ Below w.heap.size w w' := by
  obtain ⟨i1, hi1, hy0, hy1, hy2⟩ := infoZ Try.infoSv
  obtain ⟨u1, hu1⟩ : ∃ u, (w.alloc (.cells #[.slice none 0 0, .slice none 0 0, .slice none 0 0] 36)) = u := ⟨_, rfl⟩
  have hS1 : u1.heap.size ≤ w.heap.size + 1 := by rw [← hu1]; simp
  have hS2 : w.heap.size + 1 ≤ u1.heap.size := by rw [← hu1]; simp
  have bB : Below w.heap.size w u1 := by rw [← hu1]; exact alEl _ _
  have g0 : u1.cell? ⟨w.heap.size, 0, none⟩ = some (.slice none 0 0) := by rw [← hu1]; simp [go_sem]
  have g1 : u1.cell? ⟨w.heap.size, 1, none⟩ = some (.slice none 0 0) := by rw [← hu1]; simp [go_sem]
  have g2 : u1.cell? ⟨w.heap.size, 2, none⟩ = some (.slice none 0 0) := by rw [← hu1]; simp [go_sem]
  have gf : ∀ o, u1.frozen? ⟨w.heap.size, o, none⟩ = false := fun o => by rw [← hu1]; simp [go_sem]
  cases hg : inB L.length 1 5 with
  | false =>
    have HE : Hid (newEl L = ⟨[], [], []⟩ ∧ okNE L = false) := newEl_bad2 hg
    go_enter Try.func13, Try.ntmps13
    go_wp2_with (go_at_call 33; refine (oneUpTo_c _ _ _ _ hg).mono ?_; rintro e w' ⟨rfl, hw⟩; rw [hw]; clear hw w')
    go_wp2
    refine bodyPost_ret (v := .tuple #[.agg #[.slice none 0 0, .slice none 0 0, .slice none 0 0], .bool false]) (by simp [results, Try.results13, go_sem, g0, g1, g2]) rfl ⟨none, none, none, 0, 0, 0, fun _ => none, fun _ => none, fun _ => 0, fun _ => 0, by rw [HE.out.1, HE.out.2]; rfl, ?_, ?_⟩
    · rw [HE.out.1]; exact newEl_zero _ _
    · exact (((bB.setCell (Nat.le_refl _) _).setCell (Nat.le_refl _) _).setCell (Nat.le_refl _) _)
  | true =>
    obtain ⟨u2, hu2⟩ : ∃ u, (u1.alloc (.cells #[.slice none 0 0, .slice none 0 0, .slice none 0 0] 36)) = u := ⟨_, rfl⟩
    have hst0 : SvSt (u1.heap.size + 1) u1.heap.size u1 u2 (.slice none 0 0) [] := ⟨World.ownsRow_nil _ _ _ _, QIn.nil _ _, by rw [← hu2]; simp [go_sem], by rw [← hu2]; simp [go_sem], by rw [← hu2]; simp [go_sem], fun o => by rw [← hu2]; simp [go_sem], by rw [← hu2]; exact alEl _ _, by omega, by omega, by rw [← hu2]; simp⟩
    go_enter Try.func13, Try.ntmps13
    go_wp2_with (go_at_call 33; refine (oneUpTo_c _ _ _ _ hg).mono ?_; rintro e w' ⟨rfl, hw⟩; rw [hw]; clear hw w')
    clear hu2
    go_loopw [14] (fun i wr => ∃ (k : Nat) (v : Value) (qs : List QI), k ≤ L.length ∧ i = .int .i64 k ∧ Hid (allTo okLg L k) ∧ Hid (qs.map QI.zs = L.take k) ∧ SvSt (u1.heap.size + 1) u1.heap.size u1 wr v qs) (fun i _ => L.length - (intOf i).toNat)
    case atStart => exact ⟨0, _, [], Nat.zero_le _, rfl, allTo_zero _ _, rfl, hst0⟩
    case round =>
      clear hst0
      obtain ⟨k, v, qs, hk, rfl, HO, HQ, hst⟩ := hrel
      have hB := hst.bel
      have hlw := hst.Bw
      have r0 := celB hB g0
      have r1 := celB hB g1
      have r2 := celB hB g2
      have rf : ∀ o, wr.frozen? ⟨w.heap.size, o, none⟩ = false := fun o => frzB hB (by omega) (gf o)
      have hql : qs.length ≤ k := by have h9 := congrArg List.length HQ.out; simp at h9; omega
      have BW : Below w.heap.size w wr := bB.trans (hB.mono (by omega))
      by_cases hlt : k < L.length
      · obtain ⟨l, hkl⟩ := getL hlt
        obtain ⟨kb, ob, la, lc, ea, hcl, hlg0, hlm⟩ := ((hs.below bB).below hB) k l hkl
        subst ea
        have HK : Hid (L[k]? = some l) := hkl
        have hki : (k : Int) < (L.length : Int) := by omega
        have hlg := hlg0
        clear hkl hlg0
        obtain ⟨z, hz⟩ : ∃ z, lastZ l = z := ⟨_, rfl⟩
        have HZ : Hid (lastZ l = z) := hz
        clear hz
        cases h1 : goodE l with
        | false =>
          have HE : Hid (newEl L = ⟨[], [], []⟩ ∧ okNE L = false) := newEl_bad (all_bad HK.out (by simp [okLg, h1]))
          go_wp2_with (go_at_call 34; refine (implGoodE_c _ _ _ _ _ hlg hlm h1).mono ?_; rintro e w' ⟨rfl, hw⟩; rw [hw]; clear hw w')
          go_wp2
          refine bodyPost_ret (v := .tuple #[.agg #[.slice none 0 0, .slice none 0 0, .slice none 0 0], .bool false]) (by simp [results, Try.results13, go_sem, r0, r1, r2]) rfl ⟨none, none, none, 0, 0, 0, fun _ => none, fun _ => none, fun _ => 0, fun _ => 0, by rw [HE.out.1, HE.out.2]; rfl, ?_, ?_⟩
          · rw [HE.out.1]; exact newEl_zero _ _
          · exact (((BW.setCell (Nat.le_refl _) _).setCell (Nat.le_refl _) _).setCell (Nat.le_refl _) _)
        | true =>
          have hl30 : l.length ≤ 30 := (goodE_t.1 h1).1
          have H1 : Hid (goodE l = true) := h1
          go_wp2_with (go_at_call 34; refine (implGoodE_c _ _ _ _ _ hlg hlm h1).mono ?_; rintro e w' ⟨rfl, hw⟩; rw [hw]; clear hw w')
          refine (tipOf_c _ _ _ _ _ hlg hlm HZ.out).mono ?_
          rintro r wt ⟨rfl, hBt⟩
          have hfd := field_tip z l.length
          replace hst := hst.below hBt
          replace hlg := hlg.below hBt
          replace r0 := celB hBt r0
          replace r1 := celB hBt r1
          replace r2 := celB hBt r2
          replace rf : ∀ o, wt.frozen? ⟨w.heap.size, o, none⟩ = false := fun o => frzB hBt (by omega) (rf o)
          replace BW := BW.trans (hBt.mono BW.size)
          clear hB hlw hcl
          have hB := hst.bel
          have hlw := hst.Bw
          clear hBt
          clear h1
          by_cases h2 : 10 < z
          · have HE : Hid (newEl L = ⟨[], [], []⟩ ∧ okNE L = false) := newEl_bad (all_bad HK.out (by have := HZ.out; simp [okLg]; omega))
            go_wp2
            refine bodyPost_ret (v := .tuple #[.agg #[.slice none 0 0, .slice none 0 0, .slice none 0 0], .bool false]) (by simp [results, Try.results13, go_sem, r0, r1, r2]) rfl ⟨none, none, none, 0, 0, 0, fun _ => none, fun _ => none, fun _ => 0, fun _ => 0, by rw [HE.out.1, HE.out.2]; rfl, ?_, ?_⟩
            · rw [HE.out.1]; exact newEl_zero _ _
            · exact (((BW.setCell (Nat.le_refl _) _).setCell (Nat.le_refl _) _).setCell (Nat.le_refl _) _)
          · have HA : Hid (allTo okLg L (k + 1)) := allTo_succ HO.out HK.out (by have := HZ.out; simp [okLg, H1.out]; omega)
            have HM : Hid (∀ a c, (qs ++ [(⟨l, a, c⟩ : QI)]).map QI.zs = L.take (k + 1)) := fun a c => by have := HQ.out; have h8 := HK.out; rw [takeL_snoc h8, List.map_append, this]; rfl
            clear hs r0 r1 r2 rf BW
            go_wp2_with fail
            obtain ⟨x0, hx0⟩ : ∃ x, wt.drew = x := ⟨_, rfl⟩
            have HB0 : Below wt.heap.size wt x0 := by rw [← hx0]; exact (Below.refl _ _).drew
            refine wp_region_noPanic ?_
            refine wp_region_held_drew (S := fun _ => True) (by kernel_rfl) trivial (fun hHn => ?_)
            clear hHn
            rw [hx0]
            clear hx0
            refine wpAnyH_take (i := 0) (oi := ⟨_, _, _, _, _, _⟩) (v := ?vt1x0) rfl (by kernel_rfl) (by kernel_rfl) (by kernel_rfl) (fun _ _ _ h => h) (Or.inl ⟨by rfl, ?yt1x0⟩) trivial ?rt1x0
            case yt1x0 => intro w hSw; clear hSw; go_simp; try with_reducible rfl
            try simp only [Act.put, List.setIfInBounds_toArray, List.set_cons_zero, List.set_cons_succ]
            refine wpAnyH_take (i := 2) (oi := ⟨_, _, _, _, _, _⟩) (v := ?vt2x2) rfl (by kernel_rfl) (by kernel_rfl) (by kernel_rfl) (fun _ _ _ h => h) (Or.inl ⟨by rfl, ?yt2x2⟩) trivial ?rt2x2
            case yt2x2 => intro w hSw; clear hSw; go_simp; try with_reducible rfl
            try simp only [Act.put, List.setIfInBounds_toArray, List.set_cons_zero, List.set_cons_succ]
            refine wpAnyH_ready (rs := [1, 3]) (by kernel_rfl) (by simp) ?_
            refine AllReadyH.cons (o := ⟨_, _, _, _, _, _⟩) rfl (fun KK hK => ?b3n0) (AllReadyH.cons (o := ⟨_, _, _, _, _, _⟩) rfl (fun KK hK => ?b3n1) AllReadyH.nil)
            case b3n0 =>
              have cL : x0.cell? ⟨u1.heap.size, 0, none⟩ = some v := celB HB0 hst.c0
              go_simp
              refine hK.out _ _ trivial (fun hHn => ?_)
              clear hK KK hHn
              try simp only [Act.put, List.setIfInBounds_toArray, List.set_cons_zero, List.set_cons_succ]
              clear cL
              refine wpAnyH_ready (rs := [3]) (by kernel_rfl) (by simp) ?_
              refine AllReadyH.cons (o := ⟨_, _, _, _, _, _⟩) rfl (fun KK hK => ?b4n0) AllReadyH.nil
              case b4n0 =>
                have lC : wt.heap.size ≤ x0.heap.size := HB0.size
                go_simp
                refine (ownNumbers_any _ _ l _ (hlg.below HB0) hl30).mono ?_
                rintro r x1 ⟨a1, c1', rfl, HV, hBk⟩
                have HB1 : Below wt.heap.size wt x1 := stEl HB0 hBk
                clear hBk
                go_wp2_with fail
                refine hK.out _ _ trivial (fun hHn => ?_)
                clear hK KK hHn
                try simp only [Act.put, List.setIfInBounds_toArray, List.set_cons_zero, List.set_cons_succ]
                refine wpAnyH_take (i := 4) (oi := ⟨_, _, _, _, _, _⟩) (v := ?vt5x4) rfl (by kernel_rfl) (by kernel_rfl) (by kernel_rfl) (fun _ _ _ h => h) (Or.inl ⟨by rfl, ?yt5x4⟩) trivial ?rt5x4
                case yt5x4 => intro w hSw; clear hSw; go_simp; try with_reducible rfl
                try simp only [Act.put, List.setIfInBounds_toArray, List.set_cons_zero, List.set_cons_succ]
                refine wpAnyH_ready (rs := [5]) (by kernel_rfl) (by simp) ?_
                refine AllReadyH.cons (o := ⟨_, _, _, _, _, _⟩) rfl (fun KK hK => ?b6n0) AllReadyH.nil
                case b6n0 =>
                  obtain ⟨x2, hx2⟩ : ∃ u, x1.alloc (.cells #[.int .i64 10, .int .i64 (-1), .bool false, .bool false, .slice none 0 0, .slice a1 l.length c1'] 59) = u := ⟨_, rfl⟩
                  have HD : x2.heap[x1.heap.size]? = some (.cells #[.int .i64 10, .int .i64 (-1), .bool false, .bool false, .slice none 0 0, .slice a1 l.length c1'] 59 (0, 0)) := by rw [← hx2]; exact heap_alloc_new _ _
                  have BD : Below x1.heap.size x1 x2 := by rw [← hx2]; exact alEl _ _
                  have HB2 : Below wt.heap.size wt x2 := stEl HB1 BD
                  replace HV := ownsZ_below HV BD
                  go_simp
                  refine hK.out _ _ trivial (fun hHn => ?_)
                  clear hK KK hHn
                  try simp only [Act.put, List.setIfInBounds_toArray, List.set_cons_zero, List.set_cons_succ]
                  clear hx2 BD
                  refine wpAnyH_ready (rs := [6]) (by kernel_rfl) (by simp) ?_
                  refine AllReadyH.cons (o := ⟨_, _, _, _, _, _⟩) rfl (fun KK hK => ?b7n0) AllReadyH.nil
                  case b7n0 =>
                    have hin := ints_of_owns HV
                    have hstx := hst.below HB2
                    refine step_append_lies _ (by rfl) _ _ 32 (by rfl) (u1.heap.size + 1) 59 i1 _ 6 72 Try.underlying32 hi1 hy0 hy1 hy2 rfl (by omega) v qs.length (qs.flatMap svC) (by rfl) hstx.own ⟨x1.heap.size, 0, none⟩ 1 1 (svC ⟨l, a1, c1'⟩) (by rfl) (by rfl) (World.news_of_block (cs := #[.int .i64 10, .int .i64 (-1), .bool false, .bool false, .slice none 0 0, .slice a1 l.length c1']) (t := 59) (fr := (0, 0)) HD) (svC_one _) (by omega) (by unfold maxLen; omega) (by omega) (by have := HB2.size; omega) (x2.heap.size) rfl ?_
                    intro g2 cap2 w5 HO2 hgrow2 hat2 hlt2
                    have HN : Hid (SvSt (u1.heap.size + 1) u1.heap.size u1 (w5.setCell ⟨u1.heap.size, 0, none⟩ (.slice (some ⟨g2, 0, none⟩) (qs.length + 1) cap2)) (.slice (some ⟨g2, 0, none⟩) (qs.length + 1) cap2) (qs ++ [⟨l, a1, c1'⟩])) := hst.step HB2 hin.1 (hin.2.mono lC) hgrow2 HO2 hat2
                    have hvS : some u1.heap.size ≠ v.ownBlock := fun e => by have := (hstx.own.lt u1.heap.size e.symm).1; omega
                    have zc : w5.cell? ⟨u1.heap.size, 0, none⟩ = some v := (World.cell?_of_block (a := ⟨u1.heap.size, 0, none⟩) (hgrow2.block u1.heap.size (lt_of_cell hstx.c0) hvS)).trans hstx.c0
                    have zf : ∀ o, w5.frozen? ⟨u1.heap.size, o, none⟩ = false := fun o => (World.frozen?_of_block (a := ⟨u1.heap.size, o, none⟩) (hgrow2.block u1.heap.size (lt_of_cell hstx.c0) hvS)).trans (hstx.fr o)
                    refine hK.out _ _ trivial (fun hHn => ?_)
                    clear hK KK hHn
                    try simp only [Act.put, List.setIfInBounds_toArray, List.set_cons_zero, List.set_cons_succ]
                    clear hgrow2 hat2 HV HD hin hstx HO2 hvS hlt2
                    refine wpAnyH_take (i := 7) (oi := ⟨_, _, _, _, _, _⟩) (v := ?vt8x7) rfl (by kernel_rfl) (by kernel_rfl) (by kernel_rfl) (fun _ _ _ h => h) (Or.inl ⟨by rfl, ?yt8x7⟩) trivial ?rt8x7
                    case yt8x7 => intro w hSw; clear hSw; go_simp; try with_reducible rfl
                    try simp only [Act.put, List.setIfInBounds_toArray, List.set_cons_zero, List.set_cons_succ]
                    refine wpAnyH_ready (rs := [8]) (by kernel_rfl) (by simp) ?_
                    refine AllReadyH.cons (o := ⟨_, _, _, _, _, _⟩) rfl (fun KK hK => ?b9n0) AllReadyH.nil
                    case b9n0 =>
                      go_simp
                      refine hK.out _ _ trivial (fun hHn => ?_)
                      clear hK KK hHn
                      try simp only [Act.put, List.setIfInBounds_toArray, List.set_cons_zero, List.set_cons_succ]
                      refine wpAnyH_done (by kernel_rfl) (NoPanic.normal ?_) _
                      clear zc zf hst
                      go_wp2
                      go_roundw
                      case rel => exact ⟨k + 1, _, qs ++ [QI.mk l a1 c1'], by omega, by go_num, HA.out, HM.out a1 c1', HN.out⟩
                      case measure => simp [intOf]; omega
            case b3n1 =>
              have lC : wt.heap.size ≤ x0.heap.size := HB0.size
              go_simp
              refine (ownNumbers_any _ _ l _ (hlg.below HB0) hl30).mono ?_
              rintro r x1 ⟨a1, c1', rfl, HV, hBk⟩
              have HB1 : Below wt.heap.size wt x1 := stEl HB0 hBk
              clear hBk
              go_wp2_with fail
              refine hK.out _ _ trivial (fun hHn => ?_)
              clear hK KK hHn
              try simp only [Act.put, List.setIfInBounds_toArray, List.set_cons_zero, List.set_cons_succ]
              refine wpAnyH_take (i := 4) (oi := ⟨_, _, _, _, _, _⟩) (v := ?vt10x4) rfl (by kernel_rfl) (by kernel_rfl) (by kernel_rfl) (fun _ _ _ h => h) (Or.inl ⟨by rfl, ?yt10x4⟩) trivial ?rt10x4
              case yt10x4 => intro w hSw; clear hSw; go_simp; try with_reducible rfl
              try simp only [Act.put, List.setIfInBounds_toArray, List.set_cons_zero, List.set_cons_succ]
              refine wpAnyH_ready (rs := [1, 5]) (by kernel_rfl) (by simp) ?_
              refine AllReadyH.cons (o := ⟨_, _, _, _, _, _⟩) rfl (fun KK hK => ?b11n0) (AllReadyH.cons (o := ⟨_, _, _, _, _, _⟩) rfl (fun KK hK => ?b11n1) AllReadyH.nil)
              case b11n0 =>
                have cL : x1.cell? ⟨u1.heap.size, 0, none⟩ = some v := celB HB1 hst.c0
                go_simp
                refine hK.out _ _ trivial (fun hHn => ?_)
                clear hK KK hHn
                try simp only [Act.put, List.setIfInBounds_toArray, List.set_cons_zero, List.set_cons_succ]
                clear cL
                refine wpAnyH_ready (rs := [5]) (by kernel_rfl) (by simp) ?_
                refine AllReadyH.cons (o := ⟨_, _, _, _, _, _⟩) rfl (fun KK hK => ?b12n0) AllReadyH.nil
                case b12n0 =>
                  obtain ⟨x2, hx2⟩ : ∃ u, x1.alloc (.cells #[.int .i64 10, .int .i64 (-1), .bool false, .bool false, .slice none 0 0, .slice a1 l.length c1'] 59) = u := ⟨_, rfl⟩
                  have HD : x2.heap[x1.heap.size]? = some (.cells #[.int .i64 10, .int .i64 (-1), .bool false, .bool false, .slice none 0 0, .slice a1 l.length c1'] 59 (0, 0)) := by rw [← hx2]; exact heap_alloc_new _ _
                  have BD : Below x1.heap.size x1 x2 := by rw [← hx2]; exact alEl _ _
                  have HB2 : Below wt.heap.size wt x2 := stEl HB1 BD
                  replace HV := ownsZ_below HV BD
                  go_simp
                  refine hK.out _ _ trivial (fun hHn => ?_)
                  clear hK KK hHn
                  try simp only [Act.put, List.setIfInBounds_toArray, List.set_cons_zero, List.set_cons_succ]
                  clear hx2 BD
                  refine wpAnyH_ready (rs := [6]) (by kernel_rfl) (by simp) ?_
                  refine AllReadyH.cons (o := ⟨_, _, _, _, _, _⟩) rfl (fun KK hK => ?b13n0) AllReadyH.nil
                  case b13n0 =>
                    have hin := ints_of_owns HV
                    have hstx := hst.below HB2
                    refine step_append_lies _ (by rfl) _ _ 32 (by rfl) (u1.heap.size + 1) 59 i1 _ 6 72 Try.underlying32 hi1 hy0 hy1 hy2 rfl (by omega) v qs.length (qs.flatMap svC) (by rfl) hstx.own ⟨x1.heap.size, 0, none⟩ 1 1 (svC ⟨l, a1, c1'⟩) (by rfl) (by rfl) (World.news_of_block (cs := #[.int .i64 10, .int .i64 (-1), .bool false, .bool false, .slice none 0 0, .slice a1 l.length c1']) (t := 59) (fr := (0, 0)) HD) (svC_one _) (by omega) (by unfold maxLen; omega) (by omega) (by have := HB2.size; omega) (x2.heap.size) rfl ?_
                    intro g2 cap2 w5 HO2 hgrow2 hat2 hlt2
                    have HN : Hid (SvSt (u1.heap.size + 1) u1.heap.size u1 (w5.setCell ⟨u1.heap.size, 0, none⟩ (.slice (some ⟨g2, 0, none⟩) (qs.length + 1) cap2)) (.slice (some ⟨g2, 0, none⟩) (qs.length + 1) cap2) (qs ++ [⟨l, a1, c1'⟩])) := hst.step HB2 hin.1 (hin.2.mono lC) hgrow2 HO2 hat2
                    have hvS : some u1.heap.size ≠ v.ownBlock := fun e => by have := (hstx.own.lt u1.heap.size e.symm).1; omega
                    have zc : w5.cell? ⟨u1.heap.size, 0, none⟩ = some v := (World.cell?_of_block (a := ⟨u1.heap.size, 0, none⟩) (hgrow2.block u1.heap.size (lt_of_cell hstx.c0) hvS)).trans hstx.c0
                    have zf : ∀ o, w5.frozen? ⟨u1.heap.size, o, none⟩ = false := fun o => (World.frozen?_of_block (a := ⟨u1.heap.size, o, none⟩) (hgrow2.block u1.heap.size (lt_of_cell hstx.c0) hvS)).trans (hstx.fr o)
                    refine hK.out _ _ trivial (fun hHn => ?_)
                    clear hK KK hHn
                    try simp only [Act.put, List.setIfInBounds_toArray, List.set_cons_zero, List.set_cons_succ]
                    clear hgrow2 hat2 HV HD hin hstx HO2 hvS hlt2
                    refine wpAnyH_take (i := 7) (oi := ⟨_, _, _, _, _, _⟩) (v := ?vt14x7) rfl (by kernel_rfl) (by kernel_rfl) (by kernel_rfl) (fun _ _ _ h => h) (Or.inl ⟨by rfl, ?yt14x7⟩) trivial ?rt14x7
                    case yt14x7 => intro w hSw; clear hSw; go_simp; try with_reducible rfl
                    try simp only [Act.put, List.setIfInBounds_toArray, List.set_cons_zero, List.set_cons_succ]
                    refine wpAnyH_ready (rs := [8]) (by kernel_rfl) (by simp) ?_
                    refine AllReadyH.cons (o := ⟨_, _, _, _, _, _⟩) rfl (fun KK hK => ?b15n0) AllReadyH.nil
                    case b15n0 =>
                      go_simp
                      refine hK.out _ _ trivial (fun hHn => ?_)
                      clear hK KK hHn
                      try simp only [Act.put, List.setIfInBounds_toArray, List.set_cons_zero, List.set_cons_succ]
                      refine wpAnyH_done (by kernel_rfl) (NoPanic.normal ?_) _
                      clear zc zf hst
                      go_wp2
                      go_roundw
                      case rel => exact ⟨k + 1, _, qs ++ [QI.mk l a1 c1'], by omega, by go_num, HA.out, HM.out a1 c1', HN.out⟩
                      case measure => simp [intOf]; omega
              case b11n1 =>
                obtain ⟨x2, hx2⟩ : ∃ u, x1.alloc (.cells #[.int .i64 10, .int .i64 (-1), .bool false, .bool false, .slice none 0 0, .slice a1 l.length c1'] 59) = u := ⟨_, rfl⟩
                have HD : x2.heap[x1.heap.size]? = some (.cells #[.int .i64 10, .int .i64 (-1), .bool false, .bool false, .slice none 0 0, .slice a1 l.length c1'] 59 (0, 0)) := by rw [← hx2]; exact heap_alloc_new _ _
                have BD : Below x1.heap.size x1 x2 := by rw [← hx2]; exact alEl _ _
                have HB2 : Below wt.heap.size wt x2 := stEl HB1 BD
                replace HV := ownsZ_below HV BD
                go_simp
                refine hK.out _ _ trivial (fun hHn => ?_)
                clear hK KK hHn
                try simp only [Act.put, List.setIfInBounds_toArray, List.set_cons_zero, List.set_cons_succ]
                clear hx2 BD
                refine wpAnyH_ready (rs := [1]) (by kernel_rfl) (by simp) ?_
                refine AllReadyH.cons (o := ⟨_, _, _, _, _, _⟩) rfl (fun KK hK => ?b16n0) AllReadyH.nil
                case b16n0 =>
                  have cL : x2.cell? ⟨u1.heap.size, 0, none⟩ = some v := celB HB2 hst.c0
                  go_simp
                  refine hK.out _ _ trivial (fun hHn => ?_)
                  clear hK KK hHn
                  try simp only [Act.put, List.setIfInBounds_toArray, List.set_cons_zero, List.set_cons_succ]
                  clear cL
                  refine wpAnyH_ready (rs := [6]) (by kernel_rfl) (by simp) ?_
                  refine AllReadyH.cons (o := ⟨_, _, _, _, _, _⟩) rfl (fun KK hK => ?b17n0) AllReadyH.nil
                  case b17n0 =>
                    have hin := ints_of_owns HV
                    have hstx := hst.below HB2
                    refine step_append_lies _ (by rfl) _ _ 32 (by rfl) (u1.heap.size + 1) 59 i1 _ 6 72 Try.underlying32 hi1 hy0 hy1 hy2 rfl (by omega) v qs.length (qs.flatMap svC) (by rfl) hstx.own ⟨x1.heap.size, 0, none⟩ 1 1 (svC ⟨l, a1, c1'⟩) (by rfl) (by rfl) (World.news_of_block (cs := #[.int .i64 10, .int .i64 (-1), .bool false, .bool false, .slice none 0 0, .slice a1 l.length c1']) (t := 59) (fr := (0, 0)) HD) (svC_one _) (by omega) (by unfold maxLen; omega) (by omega) (by have := HB2.size; omega) (x2.heap.size) rfl ?_
                    intro g2 cap2 w5 HO2 hgrow2 hat2 hlt2
                    have HN : Hid (SvSt (u1.heap.size + 1) u1.heap.size u1 (w5.setCell ⟨u1.heap.size, 0, none⟩ (.slice (some ⟨g2, 0, none⟩) (qs.length + 1) cap2)) (.slice (some ⟨g2, 0, none⟩) (qs.length + 1) cap2) (qs ++ [⟨l, a1, c1'⟩])) := hst.step HB2 hin.1 (hin.2.mono lC) hgrow2 HO2 hat2
                    have hvS : some u1.heap.size ≠ v.ownBlock := fun e => by have := (hstx.own.lt u1.heap.size e.symm).1; omega
                    have zc : w5.cell? ⟨u1.heap.size, 0, none⟩ = some v := (World.cell?_of_block (a := ⟨u1.heap.size, 0, none⟩) (hgrow2.block u1.heap.size (lt_of_cell hstx.c0) hvS)).trans hstx.c0
                    have zf : ∀ o, w5.frozen? ⟨u1.heap.size, o, none⟩ = false := fun o => (World.frozen?_of_block (a := ⟨u1.heap.size, o, none⟩) (hgrow2.block u1.heap.size (lt_of_cell hstx.c0) hvS)).trans (hstx.fr o)
                    refine hK.out _ _ trivial (fun hHn => ?_)
                    clear hK KK hHn
                    try simp only [Act.put, List.setIfInBounds_toArray, List.set_cons_zero, List.set_cons_succ]
                    clear hgrow2 hat2 HV HD hin hstx HO2 hvS hlt2
                    refine wpAnyH_take (i := 7) (oi := ⟨_, _, _, _, _, _⟩) (v := ?vt18x7) rfl (by kernel_rfl) (by kernel_rfl) (by kernel_rfl) (fun _ _ _ h => h) (Or.inl ⟨by rfl, ?yt18x7⟩) trivial ?rt18x7
                    case yt18x7 => intro w hSw; clear hSw; go_simp; try with_reducible rfl
                    try simp only [Act.put, List.setIfInBounds_toArray, List.set_cons_zero, List.set_cons_succ]
                    refine wpAnyH_ready (rs := [8]) (by kernel_rfl) (by simp) ?_
                    refine AllReadyH.cons (o := ⟨_, _, _, _, _, _⟩) rfl (fun KK hK => ?b19n0) AllReadyH.nil
                    case b19n0 =>
                      go_simp
                      refine hK.out _ _ trivial (fun hHn => ?_)
                      clear hK KK hHn
                      try simp only [Act.put, List.setIfInBounds_toArray, List.set_cons_zero, List.set_cons_succ]
                      refine wpAnyH_done (by kernel_rfl) (NoPanic.normal ?_) _
                      clear zc zf hst
                      go_wp2
                      go_roundw
                      case rel => exact ⟨k + 1, _, qs ++ [QI.mk l a1 c1'], by omega, by go_num, HA.out, HM.out a1 c1', HN.out⟩
                      case measure => simp [intOf]; omega
      · obtain rfl : k = L.length := by omega
        have HA : Hid (L.all okLg = true) := all_done HO.out
        have HE : Hid (newEl L = ⟨L.map svN, [], []⟩ ∧ okNE L = true) := newEl_good HA.out hg
        obtain ⟨av, cv, ev⟩ := ownsZ_form hst.own
        subst ev
        have HQ' : Hid (qs.map QI.zs = L) := by have := HQ.out; rw [List.take_length] at this; exact this
        have HD : Hid (ElO wr (u1.heap.size + 1) ⟨L.map svN, [], []⟩ av none none (fun _ => none) (fun j => (qs.getD j ⟨[], none, 0⟩).a) (fun _ => 0) (fun j => (qs.getD j ⟨[], none, 0⟩).c)) := hst.done HQ'.out
        have e0 := hst.c0
        have e1 := hst.c1
        have e2 := hst.c2
        have ef := hst.fr
        have hLq : Hid ((L.map svN).length = qs.length) := by show _ = _; rw [← HQ'.out]; simp
        clear hst HQ HO
        go_wp2
        refine bodyPost_ret (v := .tuple #[.agg #[.slice av qs.length cv, .slice none 0 0, .slice none 0 0], .bool true]) (by simp [results, Try.results13, go_sem, r0, r1, r2]) rfl ⟨av, none, none, cv, 0, 0, fun _ => none, fun j => (qs.getD j ⟨[], none, 0⟩).a, fun _ => 0, fun j => (qs.getD j ⟨[], none, 0⟩).c, by rw [HE.out.1, HE.out.2]; show _ = Ending.returned (.tuple #[.agg #[.slice av (L.map svN).length cv, .slice none 0 0, .slice none 0 0], .bool true]); rw [hLq.out], ?_, ?_⟩
        · rw [HE.out.1]; exact (HD.out.of_block (fun b hb => by have := (HD.out.lt hb).1; rw [Below.heap_setCell _ ⟨w.heap.size, _, none⟩ _ b (by simp; omega), Below.heap_setCell _ ⟨w.heap.size, _, none⟩ _ b (by simp; omega), Below.heap_setCell _ ⟨w.heap.size, _, none⟩ _ b (by simp; omega)])).mono (by omega)
        · exact (((BW.setCell (Nat.le_refl _) _).setCell (Nat.le_refl _) _).setCell (Nat.le_refl _) _)

end Go.Proofs.Ythbhokpjedndaaa
