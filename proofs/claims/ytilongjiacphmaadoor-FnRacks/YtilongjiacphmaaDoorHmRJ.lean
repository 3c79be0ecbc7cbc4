/-
  Racks, the program's side: RacksOf.
-/
import Derived.Test.YtilongjiacphmaaDoorHmRI
namespace Go.Proofs.YtilongjiacphmaaDoor
open Go.RowKit

set_option maxRecDepth 100000 in
set_option maxHeartbeats 16000000 in
theorem implRacksOf_any (a : Option Addr) (c : Nat) (rk : List Int) (cp : Int) (w : World) (hs : Ints w a rk) (hl : rk.length ≤ maxLen) (hT : TabQ w) :
    Calls Tryd.prog 5 #[.slice a rk.length c, .int .i64 cp] w fun r w' => LAns w (racL rk cp) (racOk rk cp) r w' := by
  obtain ⟨i0, hi, hz0, hz1, hz2⟩ := infoZ Tryd.infoInts
  have hl' := hl
  unfold maxLen at hl'
  cases g1 : rkB rk with
  | false =>
    have HO : Hid (racOk rk cp = false) := by show _ = _; unfold racOk; rw [g1]; rfl
    have HL : Hid (racL rk cp = []) := by show _ = _; unfold racL; rw [HO.out]; rfl
    go_enter Tryd.func5, Tryd.ntmps5
    go_wp2_with (go_at_call 14; refine (goodRacks_c _ _ _ _ _ hs hl g1).mono ?_; rintro e w' ⟨rfl, hw⟩; rw [hw]; clear hw w')
    go_ret2
    rw [HO.out]
    exact lans_of (qs := []) (lst_start _) (by rw [HL.out]; rfl)
  | true =>
    cases g2 : inB cp 1 3 with
    | false =>
      have HO : Hid (racOk rk cp = false) := by show _ = _; unfold racOk; rw [g1, g2]; rfl
      have HL : Hid (racL rk cp = []) := by show _ = _; unfold racL; rw [HO.out]; rfl
      go_enter Tryd.func5, Tryd.ntmps5
      go_wp2_with (first | (go_at_call 14; refine (goodRacks_c _ _ _ _ _ hs hl g1).mono ?_; rintro e w' ⟨rfl, hw⟩; rw [hw]; clear hw w') | (go_at_call 15; refine (oneUpToR _ _ _ _ g2).mono ?_; rintro e w' ⟨rfl, hw⟩; rw [hw]; clear hw w'))
      go_ret2
      rw [HO.out]
      exact lans_of (qs := []) (lst_start _) (by rw [HL.out]; rfl)
    | true =>
      cases g3 : decide (cp ≤ (rk.length : Int)) with
      | false =>
        have HO : Hid (racOk rk cp = false) := by show _ = _; unfold racOk; rw [g1, g2, g3]; rfl
        have HL : Hid (racL rk cp = []) := by show _ = _; unfold racL; rw [HO.out]; rfl
        have g3' : (rk.length : Int) < cp := by have := of_decide_eq_false g3; omega
        clear g3
        go_enter Tryd.func5, Tryd.ntmps5
        go_wp2_with (first | (go_at_call 14; refine (goodRacks_c _ _ _ _ _ hs hl g1).mono ?_; rintro e w' ⟨rfl, hw⟩; rw [hw]; clear hw w') | (go_at_call 15; refine (oneUpToR _ _ _ _ g2).mono ?_; rintro e w' ⟨rfl, hw⟩; rw [hw]; clear hw w'))
        go_ret2
        rw [HO.out]
        exact lans_of (qs := []) (lst_start _) (by rw [HL.out]; rfl)
      | true =>
        obtain ⟨h3, b1, b0⟩ := rkB_is g1
        have b2 := inB_t.1 g2
        have b3 := of_decide_eq_true g3
        obtain ⟨cn, hcn⟩ := Int.eq_ofNat_of_zero_le (show 0 ≤ cp by omega)
        subst hcn
        have hcr : cn ≤ rk.length := by omega
        have hc3 : cn ≤ 3 ∧ 1 ≤ cn := by omega
        have HO : Hid (racOk rk (cn : Int) = true) := by show _ = _; unfold racOk; rw [g1, g2, g3]; rfl
        have HL : Hid (racL rk (cn : Int) = racTo rk (cn - 1) rk.length) := by show _ = _; unfold racL; rw [HO.out, if_pos rfl, Int.toNat_natCast]
        have g3d : decide (rk.length < cn) = false := decide_eq_false (by omega)
        have g3e : decide ((rk.length : Int) < (cn : Int)) = false := decide_eq_false (by omega)
        have H3 : Hid (Rk3 rk) := h3
        clear b2 b3 g3 h3
        go_enter Tryd.func5, Tryd.ntmps5
        go_wp2_with (first
          | (go_at_call 14; refine (goodRacks_c _ _ _ _ _ hs hl g1).mono ?_; rintro e w' ⟨rfl, hw⟩; rw [hw]; clear hw w')
          | (go_at_call 15; refine (oneUpToR _ _ _ _ g2).mono ?_; rintro e w' ⟨rfl, hw⟩; rw [hw]; clear hw w')
          | (at_make; refine wpList_make_own _ rfl _ _ 26 rfl w.heap.size 23 i0 (.slice none 0 0) 1 Tryd.underlying26 hi hz0 hz1 _ _ _ rk.length rfl rfl rfl (by rw [hz2]; omega) (by unfold maxLen; omega) (Nat.le_refl _) ?_; intro wm hownm hgm))
        have hst0 : LSt w wm (.slice (some ⟨w.heap.size, 0, none⟩) 0 rk.length) [] := ⟨hownm, QIn.nil _ _, (Below.refl _ _).grown hgm (Nat.le_refl _) (fun k hk => by cases hk)⟩
        clear g1 g2 g3d g3e hownm hgm
        go_loopw [6, 27] (fun v i wr => ∃ (h : Nat) (qs : List QI), h ≤ rk.length ∧ i = .int .i64 (h : Int) ∧ qs.map QI.zs = racTo rk (cn - 1) h ∧ LSt w wr v qs) (fun _ i _ => rk.length - (intOf i).toNat)
        case atStart => exact ⟨0, [], Nat.zero_le _, rfl, rfl, hst0⟩
        case round =>
          clear hst0
          obtain ⟨h, qs, hh, rfl, hqs, hst⟩ := hrel
          obtain ⟨av, cv, rfl⟩ := ownsZ_form hst.own
          have hql : qs.length = h := by have := congrArg List.length hqs; rwa [List.length_map, racTo_len] at this
          have hq6 : qs.length ≤ 6 := by omega
          have HQS : Hid (qs.map QI.zs = racTo rk (cn - 1) h) := hqs
          have HST : Hid (LSt w wr (.slice av qs.length cv) qs) := hst
          have hbel := hst.bel
          clear hqs hql
          by_cases hlt : h < rk.length
          · have hhi : (h : Int) < (rk.length : Int) := by omega
            have hsr := hs.below hbel
            have hTr := hT.belowRk hbel
            have HCP := (show Hid _ from copiesFrom_any a c rk h cn wr hsr ⟨b1, b0⟩ H3.out hlt hc3.2 hc3.1 hcr hTr)
            obtain ⟨g1, -, -⟩ := grwL_ok hlt (cn - 1) (by omega) (by omega)
            have HGL : Hid (racTo rk (cn - 1) (h + 1) = racTo rk (cn - 1) h ++ [grwL rk h (cn - 1)]) := racTo_succ _ _ _
            obtain ⟨L, hL⟩ : ∃ L, grwL rk h (cn - 1) = L := ⟨_, rfl⟩
            rw [hL] at HCP g1 HGL
            have hL3 : L.length ≤ 3 := by omega
            clear hL g1 hsr hTr hst
            go_wp2_with fail
            refine Calls.mono HCP.out ?_
            rintro r w1 ⟨la, lc, rfl, -, -, hown, hBi⟩
            obtain ⟨hI6, hR6⟩ := ints_of_owns hown
            have hst6 := lst_below HST.out hBi
            have hsz := hst6.bel.size
            have hal6 : ∀ o, Below w1.heap.size w1 (w1.alloc o) := fun o => (Below.refl _ _).alloc (Nat.le_refl _) o
            have hst7 := fun o => lst_below hst6 (hal6 o)
            clear HCP hown hbel
            go_wp2_with (at_builtin; refine wpList_append_lies _ rfl _ _ 26 rfl w.heap.size 23 i0 _ 1 24 Tryd.underlying26 hi hz0 hz1 hz2 rfl (by decide) (.slice av qs.length cv) qs.length (qs.map QI.val) rfl (hst7 _).own ⟨w1.heap.size, 0, none⟩ 1 1 [.slice la L.length lc] rfl rfl ?c1 ?c2 (by omega) ?c3 ?c4 ?c5 (w1.heap.size + 1) ?c6 ?_)
            try (case c1 => first | exact (fun j u h => h) | exact World.news_of_block (cs := #[.slice la L.length lc]) (t := 23) (fr := (0, 0)) (by first | exact (heap_alloc_new w1 _) | simpa using (heap_alloc_new w1 _)))
            case c2 => simp [Value.oneCell']
            case c3 => unfold maxLen; omega
            case c4 => omega
            case c5 => first | omega | (simp; omega)
            try (case c6 => simp)
            intro g8 cap8 w8 hown8 hgrow8 hat8 _
            have hst8 := lst_step (q := ⟨L, la, lc⟩) HST.out (hBi.trans ((hal6 _).mono hBi.size)) (hI6.below (hal6 _)) (hR6.below (hal6 _)) hgrow8 hown8
            have HS8 : Hid (LSt w w8 (.slice (some ⟨g8, 0, none⟩) (qs.length + 1) cap8) (qs ++ [⟨L, la, lc⟩])) := hst8
            clear hst8 hown8 hgrow8 hat8 hst7 hst6 hI6 hR6
            go_wp2_with fail
            go_roundw
            case rel => exact ⟨h + 1, qs ++ [⟨L, la, lc⟩], by omega, by go_num, by rw [List.map_append, HQS.out, HGL.out]; simp, HS8.out⟩
            case measure => simp [intOf]; omega
          · obtain rfl : h = rk.length := by omega
            clear hst hbel
            go_wp2
            go_ret2
            rw [HO.out]
            exact lans_of HST.out (by rw [HL.out]; exact HQS.out)

end Go.Proofs.YtilongjiacphmaaDoor
