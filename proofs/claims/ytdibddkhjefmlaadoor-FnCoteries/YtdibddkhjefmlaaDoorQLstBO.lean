/-
  Least lists, the program's side, handed the function literal of impl.BlocksOf: the contracts of impl.needsEach and impl.leastLists, the literal's own contract given.
-/
import Derived.Test.YtdibddkhjefmlaaDoorQOut
import Derived.Test.YtdibddkhjefmlaaDoorQLst
import Derived.Deep.RegionHeld3
namespace Go.Proofs.YtdibddkhjefmlaaDoor
open Go.RowKit

abbrev litBO (Bv : Nat) : Value := .func (.func 27) #[] #[.pointer (some ⟨Bv, 0, none⟩)]
/-- The literal answers 'en' of a set. -/
def EnoughBO (w0 : World) (Bv many : Nat) (en : Nat → Bool) : Prop :=
  ∀ (u : World) (x : Nat), Below w0.heap.size w0 u → x < 2 ^ many → Calls Tryd.prog 27 #[setV x, .pointer (some ⟨Bv, 0, none⟩)] u fun r u' => r = .returned (.bool (en x)) ∧ Below u.heap.size u u'

set_option maxRecDepth 100000 in
set_option maxHeartbeats 4000000 in
theorem needsEachBO_any (en : Nat → Bool) (w0 : World) (Bv many n : Nat) (HE : Hid (EnoughBO w0 Bv many en)) (hmany : many ≤ 7) (hn : n < 2 ^ many) (w : World) (hB0 : Below w0.heap.size w0 w) (hT : TabQ w) :
    Calls Tryd.prog 53 #[setV n, litBO Bv] w fun r w' => r = .returned (.bool (ndE en n)) ∧ Below w.heap.size w w' := by
  have hn7 : n < 128 := Nat.lt_of_lt_of_le hn (pow_small _ hmany)
  have hb : Below w.heap.size w (w.alloc (.cells #[.int .u64 (n : Int)] 56)) := (Below.refl _ _).alloc (Nat.le_refl _) _
  go_enter Tryd.func53, Tryd.ntmps53
  go_wp2_with fail
  refine (list_any n hn7 _ (hT.bel hb)).mono ?_
  intro r w1 hz
  obtain ⟨a1, c1, rfl, -, -, hk, -, hB1⟩ := hz.ints
  have BB := hb.trans (hB1.mono (by simp))
  have cN : w1.cell? ⟨w.heap.size, 0, none⟩ = some (.int .u64 (n : Int)) := (hB1.cell (p := ⟨w.heap.size, 0, none⟩) (by simp)).trans (by simp [go_sem])
  have hml := mi_len n
  clear hz hB1 hb hT
  go_wp2
  go_loopw [10] (fun i wr => ∃ k : Nat, k ≤ (mi n).length ∧ i = .int .i64 k ∧ Below w1.heap.size w1 wr ∧ ∀ j, j < k → en (wo n (2 ^ (zA (mi n) j).toNat)) = false) (fun i _ => (mi n).length - (intOf i).toNat)
  case atStart => exact ⟨0, Nat.zero_le _, rfl, Below.refl _ _, fun i hi => absurd hi (Nat.not_lt_zero _)⟩
  case round =>
    obtain ⟨k, hk', rfl, hBr, hok⟩ := hrel
    have HO : Hid (∀ j, j < k → en (wo n (2 ^ (zA (mi n) j).toNat)) = false) := hok
    clear hok
    have HW : Hid (Below w.heap.size w wr) := BB.trans (hBr.mono BB.size)
    have HW0 : Hid (Below w0.heap.size w0 wr) := hB0.trans (HW.out.mono hB0.size)
    by_cases hlt : k < (mi n).length
    · obtain ⟨b, off, rfl, hc⟩ := (hk.below hBr) k _ (zA_get hlt)
      obtain ⟨m, hm, e⟩ := mi_get (zA_get hlt)
      have hm7 := mem7_lt hm
      have hp7 : 2 ^ m < 128 := Nat.pow_lt_pow_right (by omega) hm7
      have hwo : wo n (2 ^ m) < 2 ^ many := Nat.lt_of_le_of_lt Nat.and_le_left hn
      have ek : (zA (mi n) k).toNat = m := by rw [e]; rfl
      rw [e] at hc
      have kk : wr.drew.cell? ⟨w.heap.size, 0, none⟩ = some (.int .u64 (n : Int)) := (hBr.cell (p := ⟨w.heap.size, 0, none⟩) (lt_of_cell cN)).trans cN
      have EK : Hid ((zA (mi n) k).toNat = m) := ek
      generalize hg : en (wo n (2 ^ m)) = g
      have HG : Hid (en (wo n (2 ^ m)) = g) := hg
      have HR : Hid (Below w1.heap.size w1 wr) := hBr
      clear hk e ek hg hBr cN hB0 BB
      cases g
      all_goals
        go_wp2_with fail
        go_region_held3 (fun w' => w'.cell? ⟨w.heap.size, 0, none⟩ = some (.int .u64 (n : Int)))
          (first | exact kk | go_keep)
          (first
            | (go_at_call 57; refine (only_any m hm7 _).mono ?_; rintro r wa ⟨rfl, hBa⟩; have Ba : Below wr.heap.size wr wa := Below.step_dr (Below.refl _ _) hBa; have kk : wa.cell? ⟨w.heap.size, 0, none⟩ = some (.int .u64 (n : Int)) := (hBa.cell (p := ⟨w.heap.size, 0, none⟩) (lt_of_cell kk)).trans kk)
            | (go_at_call 63; refine (without_any n (2 ^ m) hn7 hp7 _).mono ?_; rintro r wc ⟨rfl, hBc⟩; have Bc : Below wr.heap.size wr wc := Ba.trans (hBc.mono Ba.size); have kk : wc.cell? ⟨w.heap.size, 0, none⟩ = some (.int .u64 (n : Int)) := (hBc.cell (p := ⟨w.heap.size, 0, none⟩) (lt_of_cell kk)).trans kk)
            | (go_at_call 27; refine (HE.out _ _ (HW0.out.trans (Bc.mono HW0.out.size)) hwo).mono ?_; rintro r wd ⟨hr, hBd⟩; rw [HG.out] at hr; subst hr; have Bd : Below wr.heap.size wr wd := Bc.trans (hBd.mono Bc.size); have kk : wd.cell? ⟨w.heap.size, 0, none⟩ = some (.int .u64 (n : Int)) := (hBd.cell (p := ⟨w.heap.size, 0, none⟩) (lt_of_cell kk)).trans kk))
      · go_wp2
        go_roundw
        case rel =>
          refine ⟨k + 1, by omega, by go_num, HR.out.trans (Bd.mono HR.out.size), fun j hj => ?_⟩
          by_cases e : j = k
          · subst e; rw [EK.out]; exact HG.out
          · exact HO.out j (by omega)
        case measure => simp [intOf]; omega
      · go_wp2
        go_ret
        refine ⟨ret_bool (Eq.symm ?_), HW.out.trans (Bd.mono HW.out.size)⟩
        exact ndE_no hm HG.out
    · obtain rfl : k = (mi n).length := by omega
      clear hk
      go_wp2
      go_ret
      exact ⟨ret_bool (ndE_yes HO.out).symm, HW.out⟩

set_option maxRecDepth 100000 in
set_option maxHeartbeats 4000000 in
theorem leastListsBO_any (en : Nat → Bool) (w0 : World) (Bv many : Nat) (HE : Hid (EnoughBO w0 Bv many en)) (hmany : many ≤ 7) (w : World) (hB0 : Below w0.heap.size w0 w) (hT : TabQ w) :
    Calls Tryd.prog 26 #[.int .i64 (many : Int), litBO Bv] w fun r w' => LLAns w (lstTo en (2 ^ many)) r w' := by
  obtain ⟨i0, hi, hz0, hz1, hz2⟩ := info_parts Tryd.infoInts
  obtain ⟨P2, hP2⟩ : ∃ p, p = 2 ^ many := ⟨_, rfl⟩
  have hP128 : P2 ≤ 128 := by rw [hP2]; exact pow_small _ hmany
  have hwr : IntKind.u64.wrap ((2 : Int) ^ many) = (P2 : Int) := by
    rw [show (2 : Int) ^ many = (P2 : Int) by rw [hP2]; simp]
    simp [IntKind.wrap, IntKind.bits, IntKind.signed]; omega
  rw [← hP2]
  have HP2 : Hid (P2 = 2 ^ many) := hP2
  clear hP2
  go_enter Tryd.func26, Tryd.ntmps26
  go_wp2
  go_loopw [5, 6] (fun v i wr => ∃ k : Nat, ∃ qs : List QI, k ≤ P2 ∧ i = .int .u64 (k : Int) ∧ qs.map QI.zs = lstTo en k ∧ LSt w wr v qs) (fun _ i _ => P2 - (intOf i).toNat)
  case atStart => exact ⟨0, [], Nat.zero_le _, rfl, rfl, lst_start w⟩
  case round =>
    obtain ⟨k, qs, hk, rfl, hqs, hst⟩ := hrel
    have hql : qs.length ≤ 128 := by
      have h1 := congrArg List.length hqs
      have h2 := lstTo_len en k
      rw [List.length_map] at h1
      omega
    have HQS : Hid (qs.map QI.zs = lstTo en k) := hqs
    clear hqs
    by_cases hlt : k < P2
    · have HK2 : Hid (k < 2 ^ many) := by show k < 2 ^ many; rw [← HP2.out]; exact hlt
      have hk3 : (k : Int) < (P2 : Int) := by omega
      have hk7 : k < 128 := by omega
      obtain ⟨av, cv, rfl, -, -⟩ := ownsZ_cap hst.own
      have hal : Below wr.heap.size wr (wr.alloc (.cells #[.int .u64 (k : Int)] 56)) := (Below.refl _ _).alloc (Nat.le_refl _) _
      have BW := hst.bel.trans (hal.mono hst.bel.size)
      have B0 := hB0.trans (BW.mono hB0.size)
      have cK : (wr.alloc (.cells #[.int .u64 (k : Int)] 56)).cell? ⟨wr.heap.size, 0, none⟩ = some (.int .u64 (k : Int)) := by simp [go_sem]
      have HT : Hid (∀ u, Below w.heap.size w u → TabQ u) := fun u hu => hT.bel hu
      generalize hg : en k = g1
      have G1 : Hid (en k = g1) := hg
      clear hg
      generalize hg : ndE en k = g2
      have G2 : Hid (ndE en k = g2) := hg
      clear hg hT
      have HNO : Hid ((g1 && g2) = false → qs.map QI.zs = lstTo en (k + 1)) := fun h => by
        rw [HQS.out, lstTo_succ, lstB, G1.out, G2.out, h]; simp
      have HYES : Hid ((g1 && g2) = true → qs.map QI.zs ++ [mi k] = lstTo en (k + 1)) := fun h => by
        rw [HQS.out, lstTo_succ, lstB, G1.out, G2.out, h]; simp
      go_wp2_with fail
      refine (HE.out _ _ B0 HK2.out).mono ?_
      rintro r w2 ⟨hr, hB2⟩
      rw [G1.out] at hr
      subst hr
      have BW2 := BW.trans (hB2.mono BW.size)
      have Br2 : Below wr.heap.size wr w2 := hal.trans (hB2.mono hal.size)
      have cK2 := (hB2.cell (p := ⟨wr.heap.size, 0, none⟩) (lt_of_cell cK)).trans cK
      have B02 := hB0.trans (BW2.mono hB0.size)
      clear hB2 hal BW B0 cK
      cases g1 with
      | false =>
        have HST : Hid (LSt w w2 (.slice av qs.length cv) qs) := lst_below hst Br2
        clear hst
        go_wp2
        go_roundw
        case rel => exact ⟨k + 1, qs, by omega, by go_num, HNO.out rfl, HST.out⟩
        case measure => simp [intOf]; omega
      | true =>
      go_wp2_with fail
      refine (needsEachBO_any en w0 Bv many k HE hmany HK2.out _ B02 (HT.out _ BW2)).mono ?_
      rintro r w3 ⟨hr, hB3⟩
      rw [G2.out] at hr
      subst hr
      have BW3 := BW2.trans (hB3.mono BW2.size)
      have Br3 := Br2.trans (hB3.mono Br2.size)
      have cK3 := (hB3.cell (p := ⟨wr.heap.size, 0, none⟩) (lt_of_cell cK2)).trans cK2
      clear hB3 BW2 Br2 cK2 B02
      cases g2 with
      | false =>
        have HST : Hid (LSt w w3 (.slice av qs.length cv) qs) := lst_below hst Br3
        clear hst
        go_wp2
        go_roundw
        case rel => exact ⟨k + 1, qs, by omega, by go_num, HNO.out rfl, HST.out⟩
        case measure => simp [intOf]; omega
      | true =>
      go_wp2_with fail
      refine (list_any k hk7 _ (HT.out _ BW3)).mono ?_
      intro r w4 hz
      obtain ⟨a4, c4, rfl, -, -, hI4, hR4, hB4⟩ := hz.ints
      have Br4 := Br3.trans (hB4.mono Br3.size)
      have hR4' := hR4.mono (Br3.size)
      have hst4 := lst_below hst Br4
      have hsz := hst4.bel.size
      have hal4 : ∀ o, Below w4.heap.size w4 (w4.alloc o) := fun o => (Below.refl _ _).alloc (Nat.le_refl _) o
      have hst5 := fun o => lst_below hst4 (hal4 o)
      clear hz hB4 BW3 Br3 cK3 hR4
      go_wp2_with (at_builtin; refine wpList_append_lies _ rfl _ _ 23 rfl w.heap.size 31 i0 _ 1 24 Tryd.underlying23 hi hz0 hz1 hz2 rfl (by decide) (.slice av qs.length cv) qs.length (qs.map QI.val) rfl (hst5 _).own ⟨w4.heap.size, 0, none⟩ 1 1 [.slice a4 (mi k).length c4] rfl rfl ?c1 ?c2 (by omega) ?c3 ?c4 ?c5 (w4.heap.size + 1) ?c6 ?_)
      case c1 => exact World.news_of_block (cs := #[.slice a4 (mi k).length c4]) (t := 31) (fr := (0, 0)) (by first | exact (heap_alloc_new w4 _) | simpa using (heap_alloc_new w4 _))
      case c2 => simp [Value.oneCell']
      case c3 => unfold maxLen; omega
      case c4 => omega
      case c5 => simp; omega
      case c6 => simp
      intro g6 cap6 w6 hown6 hgrow6 hat6 _
      have hst6 := lst_step (q := ⟨mi k, a4, c4⟩) hst (Br4.trans ((hal4 _).mono Br4.size)) (hI4.below (hal4 _)) (hR4'.below (hal4 _)) hgrow6 hown6
      have HS6 : Hid (LSt w w6 (.slice (some ⟨g6, 0, none⟩) (qs.length + 1) cap6) (qs ++ [⟨mi k, a4, c4⟩])) := hst6
      clear hst6 hown6 hgrow6 hat6 hst5 hst4 hst hI4 hR4'
      go_wp2_with fail
      go_roundw
      case rel => exact ⟨k + 1, qs ++ [⟨mi k, a4, c4⟩], by omega, by go_num, by rw [List.map_append]; exact HYES.out rfl, HS6.out⟩
      case measure => simp [intOf]; omega
    · obtain rfl : k = P2 := by omega
      have hk3 : ¬ ((k : Int) < (k : Int)) := by omega
      go_wp2
      go_ret
      exact ⟨_, qs, rfl, HQS.out, hst⟩

end Go.Proofs.YtdibddkhjefmlaaDoor
