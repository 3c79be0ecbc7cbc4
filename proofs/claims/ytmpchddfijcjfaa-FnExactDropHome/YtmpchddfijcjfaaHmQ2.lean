/-
  Places that are spread, the specification's side: spec.l13Spread. Made by mkhmr.py.
-/
import Derived.Test.YtmpchddfijcjfaaHmQ1
namespace Go.Proofs.Ytmpchddfijcjfaa
open Go.RowKit

set_option maxRecDepth 100000 in
set_option maxHeartbeats 8000000 in
theorem l13Spread_any (n : Nat) (gone : Int) (a : Option Addr) (c : Nat) (l : List Int) (w : World) (hs : Ints w a l) (hn0 : 0 < n) (hn : n ≤ 6) (hl : l.length ≤ 16) (hr : ∀ i, i < l.length → -1 ≤ zA l i ∧ zA l i < (n : Int)) (hg : -1 ≤ gone ∧ gone < n) (hm0 : 0 < manyH n gone) :
    Calls Try.prog 40 #[.int .i64 (n : Int), .slice a l.length c, .int .i64 gone] w fun e w' => ∃ a' c', e = .returned (.slice a' l.length c') ∧ Ints w' a' (sprL n l gone) ∧ RowI w' w.heap.size a' l.length ∧ Below w.heap.size w w' := by
  have HR : Hid (∀ i, i < l.length → -1 ≤ zA l i ∧ zA l i < (n : Int)) := hr
  clear hr
  obtain ⟨i0, hi, hz0, hz1, hz2⟩ := infoZ Try.infoInt
  obtain ⟨e1, he1⟩ : ∃ u, (w.alloc (.cells #[] 3)) = u := ⟨_, rfl⟩
  have hE : e1.heap[w.heap.size]? = some (.cells #[] 3 (0, 0)) := by rw [← he1]; exact heap_alloc_new _ _
  have hBe : Below w.heap.size w e1 := by rw [← he1]; exact alHm _ _
  have hSe : w.heap.size < e1.heap.size := by rw [← he1]; simp
  have hsE := hs.below hBe
  go_enter Try.func40, Try.ntmps40
  go_wp2_with (at_builtin; refine wpList_appZ _ rfl _ _ 22 rfl w.heap.size 3 i0 _ 1 8 Try.underlying22 hi hz0 hz1 hz2 rfl (by decide) (.slice (some ⟨w.heap.size, 0, none⟩) 0 0) 0 [] rfl (owns_emptyZ hE (Nat.le_refl _)) (.slice a l.length c) l.length (zCells l) rfl (srcZ_ints _ hsE) ?c3 ?c4 ?c5 ?_)
  case c3 => unfold maxLen; omega
  case c4 => omega
  case c5 => omega
  intro v w5 hown hgrow hat
  try simp only [Nat.zero_add, List.nil_append] at hown
  obtain ⟨av, cv, rfl⟩ := ownsZ_form hown
  have B5 : Below w.heap.size w w5 := hBe.grown hgrow (by omega) (fun b hb => by simp [Value.ownBlock] at hb; omega)
  obtain ⟨mo, hout⟩ : ∃ mo, l = [] ∨ ∃ g, av = some ⟨g, 0, none⟩ ∧ w.heap.size ≤ g ∧ g < w5.heap.size ∧ IR w5 g mo l := by
    by_cases h0 : l.length = 0
    · exact ⟨0, .inl (List.eq_nil_of_length_eq_zero h0)⟩
    · obtain ⟨g, cap, f, hv, hg', hn', hR', -⟩ := row_of_ownsZ hown (by omega)
      simp only [Value.slice.injEq] at hv
      obtain ⟨rfl, -, rfl⟩ := hv
      rw [Nat.mul_one] at hR'
      exact ⟨_, .inr ⟨g, rfl, hg', hR'.lt, IR.of_row hn' hR' (ints_of_owns hown).1⟩⟩
  clear hgrow hat hown he1 hE hBe hsE hSe
  have hs5 := B5.size
  go_wp2
  go_loopw [22] (fun i wr => ∃ k : Nat, k ≤ l.length ∧ i = .int .i64 k ∧ (gnK l gone k = [] ∨ ∃ g, av = some ⟨g, 0, none⟩ ∧ w.heap.size ≤ g ∧ g < w5.heap.size ∧ IR wr g mo (gnK l gone k)) ∧ wr.heap.size = w5.heap.size ∧ Below w.heap.size w wr) (fun i _ => l.length - (intOf i).toNat)
  case atStart => exact ⟨0, Nat.zero_le _, rfl, hout, rfl, B5⟩
  case round =>
    clear hout B5
    obtain ⟨k, hk, rfl, hO, hsz, hB⟩ := hrel
    have HSZ : Hid (wr.heap.size = w5.heap.size) := hsz
    clear hsz
    by_cases hlt : k < l.length
    · have hkl : k < (gnK l gone k).length := by rw [gnK_len]; exact hlt
      rcases hO with e | ⟨g, rfl, h1, h2, h3⟩
      · rw [e] at hkl; simp at hkl
      have hc := h3.cell hkl
      have hf := h3.frozen k
      have hki : (k : Int) < (l.length : Int) := by omega
      have h3s := h3.set hkl (-1)
      have H3 : Hid (IR wr g mo (gnK l gone k)) := h3
      have H3s := (show Hid _ from h3s)
      obtain ⟨x, hx⟩ : ∃ x, zA (gnK l gone k) k = x := ⟨_, rfl⟩
      rw [hx] at hc
      clear h3 h3s
      by_cases e1 : 0 ≤ x
      · by_cases e2 : x = gone
        · have d2 : (x == gone) = true := by simp [e2]
          have HN : Hid (gnK l gone (k + 1) = (gnK l gone k).set k (-1)) := by show _ = _; rw [gnK, hx, if_pos ⟨e1, e2⟩]
          clear e2 hx
          go_wp2
          go_roundw
          case rel => exact ⟨k + 1, by omega, by go_num, .inr ⟨g, rfl, h1, h2, by rw [HN.out]; exact H3s.out⟩, by rw [← HSZ.out]; simp, hB.setCell h1 _⟩
          case measure => simp [intOf]; omega
        · have d2 : (x == gone) = false := by simp [e2]
          have HN : Hid (gnK l gone (k + 1) = gnK l gone k) := by show _ = _; rw [gnK, hx, if_neg (fun c => e2 c.2)]
          clear e2 hx
          go_wp2
          go_roundw
          case rel => exact ⟨k + 1, by omega, by go_num, .inr ⟨g, rfl, h1, h2, by rw [HN.out]; exact H3.out⟩, HSZ.out, hB⟩
          case measure => simp [intOf]; omega
      · have HN : Hid (gnK l gone (k + 1) = gnK l gone k) := by show _ = _; rw [gnK, hx, if_neg (fun c => e1 c.1)]
        clear hx
        go_wp2
        go_roundw
        case rel => exact ⟨k + 1, by omega, by go_num, .inr ⟨g, rfl, h1, h2, by rw [HN.out]; exact H3.out⟩, HSZ.out, hB⟩
        case measure => simp [intOf]; omega
    · obtain rfl : k = l.length := by omega
      clear hlt hk
      obtain ⟨o0, ho0⟩ : ∃ o, gnK l gone l.length = o := ⟨_, rfl⟩
      have HO0 : Hid (gnL l gone = o0) := ho0
      have hol : o0.length = l.length := by rw [← ho0]; exact gnK_len _ _ _
      have hrg : ∀ i, i < o0.length → -1 ≤ zA o0 i ∧ zA o0 i < (n : Int) := by rw [← ho0, gnK_len]; exact gnK_rg HR.out (by omega) _
      rw [ho0] at hO
      have hmem : ∀ z, z ∈ o0 → z < (n : Int) := fun z hz => by obtain ⟨i, hi, e⟩ := List.getElem_of_mem hz; have := (hrg i hi).2; rw [show zA o0 i = z from by simp [zA, List.getD_eq_getElem?_getD, hi, e]] at this; exact this
      have hIn : Ints wr av o0 := by rcases hO with e | ⟨g, e, h1, h2, h3⟩; (subst e; exact Ints.nil _ _); (subst e; exact h3.ints)
      have HOL : Hid (o0.length = l.length) := hol
      have HMem : Hid (∀ z, z ∈ o0 → z < (n : Int)) := hmem
      have HRg : Hid (∀ i, i < o0.length → -1 ≤ zA o0 i ∧ zA o0 i < (n : Int)) := hrg
      have hall := roomL_all (l := o0) hg hm0
      rw [hol] at hall
      have hRm : ∀ w2, Ints w2 av o0 → Calls Try.prog 46 #[.int .i64 (n : Int), .slice av l.length cv, .int .i64 gone] w2 fun e w' => ∃ g, e = .returned (.slice (some ⟨g, 0, none⟩) n n) ∧ IR w' g n (roomL n o0 gone) ∧ w2.heap.size ≤ g ∧ Below w2.heap.size w2 w' := fun w2 h2 => by
        have := l13Rooms_any n gone av cv o0 w2 h2 hn0 hn (by omega) hmem hg hm0
        rw [hol] at this
        exact this
      have hLd : ∀ w2, Ints w2 av o0 → Calls Try.prog 33 #[.int .i64 (n : Int), .slice av l.length cv] w2 fun e w' => ∃ g m, e = .returned (.slice (some ⟨g, 0, none⟩) n n) ∧ IR w' g m (loadL n o0) ∧ w2.heap.size ≤ g ∧ Below w2.heap.size w2 w' := fun w2 h2 => by
        have := l13Loads_c n av cv o0 w2 h2 hn0 (by omega) (by omega) hmem
        rw [hol] at this
        exact this
      have HRm := (show Hid _ from hRm)
      have HLd := (show Hid _ from hLd)
      have HAll := (show Hid _ from hall)
      clear hRm hLd hall hol hrg hmem ho0
      go_wp2_with fail
      refine (HRm.out _ hIn).mono ?_
      rintro r w6 ⟨R, rfl, hRs, hRw, hB6⟩
      go_wp2_with fail
      refine (HLd.out _ (hIn.below hB6)).mono ?_
      rintro r w7 ⟨gl, ml, rfl, hLs, hLw, hB7⟩
      have hRl := hRs.lt
      have HST : Hid (SpSt w w7 w.heap.size av mo R gl ml n l.length (roomL n o0 gone) o0) := ⟨by rcases hO with e | ⟨g, e, h1, h2, h3⟩; exact .inl e; exact .inr ⟨g, e, h1, by rw [← HSZ.out] at h2; omega, (h3.below hB6).below hB7⟩, hRs.below hB7, hLs, stHm (stHm hB hB6) hB7, HOL.out, HRg.out, HAll.out.1, by omega, by have := hB.size; omega⟩
      obtain ⟨rs, hrs⟩ : ∃ rs, roomL n o0 gone = rs := ⟨_, rfl⟩
      rw [hrs] at HST HAll
      have HSp : Hid (sprL n l gone = filTo rs n (cutTo rs l.length o0) l.length) := by show filTo (roomL n (gnL l gone) gone) n (cutTo (roomL n (gnL l gone) gone) (gnL l gone).length (gnL l gone)) (gnL l gone).length = _; rw [HO0.out, hrs, HOL.out]
      have HSum : Hid (smTo rs n = (l.length : Int)) := HAll.out.2.1
      have HLow : Hid (∀ h, h < n → 0 ≤ zA rs h ∧ zA rs h ≤ 17) := fun h hh => by have := HAll.out.2.2 h hh; have h9 := Nat.div_le_self l.length (manyH n gone); omega
      clear hrs HAll HRm HLd hIn hO hRs hLs HMem HRg HOL
      have hl1 : ((l.length : Int) - 1) = (l.length : Int) - 1 := rfl
      clear hl1
      go_wp2
      go_loopw [12] (fun s wr2 => ∃ (j : Nat) (o : List Int), j ≤ l.length ∧ s = .int .i64 ((j : Int) - 1) ∧ Hid (cutTo rs j o = cutTo rs l.length o0) ∧ Hid (SpSt w wr2 w.heap.size av mo R gl ml n l.length rs o)) (fun s _ => (intOf s + 1).toNat)
      case atStart => exact ⟨l.length, o0, Nat.le_refl _, by first | rfl | go_num, rfl, HST.out⟩
      case round =>
        clear HST
        obtain ⟨j, o, hj, rfl, HC, HS⟩ := hrel
        rcases Nat.eq_zero_or_pos j with h0 | h0
        · subst h0
          have HC0 : Hid (o = cutTo rs l.length o0) := HC.out
          have hz : ((0 : Nat) : Int) - 1 = -1 := rfl
          rw [hz]
          clear hz
          go_wp2
          go_loopw [80] (fun s wr2 => ∃ (k : Nat) (p : List Int), k ≤ l.length ∧ s = .int .i64 k ∧ Hid (p = filTo rs n (cutTo rs l.length o0) k) ∧ Hid (SpSt w wr2 w.heap.size av mo R gl ml n l.length rs p)) (fun s _ => l.length - (intOf s).toNat)
          case atStart => exact ⟨0, o, Nat.zero_le _, rfl, HC0.out, HS.out⟩
          case round =>
            clear HS HC0 HC
            obtain ⟨k, p, hk, rfl, HP, HS⟩ := hrel
            by_cases hlt : k < l.length
            · have hkp : k < p.length := by rw [HS.out.len]; exact hlt
              obtain ⟨g, rfl, h1, h2, h3⟩ := HS.out.get hkp
              have hc := h3.cell hkp
              have hf := h3.frozen k
              have hki : (k : Int) < (l.length : Int) := by omega
              obtain ⟨x, hx⟩ : ∃ x, zA p k = x := ⟨_, rfl⟩
              have HX : Hid (zA p k = x) := hx
              rw [hx] at hc
              clear hx
              by_cases e1 : 0 ≤ x
              · have HN : Hid (p = filTo rs n (cutTo rs l.length o0) (k + 1)) := by show _ = _; rw [filTo, ← HP.out, fil1, HX.out, if_neg (by omega)]
                go_wp2
                go_roundw
                case rel => exact ⟨k + 1, p, by omega, by go_num, HN.out, HS.out⟩
                case measure => simp [intOf]; omega
              · have e1' : x < 0 := by omega
                obtain ⟨t, ht1, ht2⟩ := some_room (n := n) (rs := rs) (o := p) (by rw [HSum.out, HS.out.len]) hkp (by rw [HX.out]; exact e1')
                obtain ⟨s, -, hs1, hs2, hs3, hs4⟩ := lstH_at ht2 (f := n) (Nat.zero_le t) (by omega)
                have hsn : s < n := by omega
                have HN : Hid (p.set k (s : Int) = filTo rs n (cutTo rs l.length o0) (k + 1)) := by show _ = _; rw [filTo, ← HP.out, fil1, HX.out, if_pos e1', hs2]
                have HS3 : Hid (∀ j, j < s → zA rs j ≤ cntA p j) := fun j hj => hs3 j (Nat.zero_le _) hj
                have HS4 : Hid (¬ zA rs s ≤ cntA p s) := hs4
                clear ht1 ht2 hs1 hs2 hs3 hs4 e1 t
                go_wp2
                go_loopw [16] (fun b wr2 => ∃ h : Nat, h ≤ s ∧ b = .int .i64 h ∧ Below wr.heap.size wr wr2) (fun b _ => s - (intOf b).toNat)
                case atStart => exact ⟨0, Nat.zero_le _, rfl, Below.refl _ _⟩
                case round =>
                  have HSo := HS
                  obtain ⟨h, hh, rfl, hB2⟩ := hrel
                  have HS2 := (show Hid _ from HS.out.below hB2)
                  have hhn : h < n := by omega
                  have hhi : (h : Int) < (n : Int) := by omega
                  have lc := HS2.out.lds.cell (by rw [loadL_len]; exact hhn : h < (loadL n p).length)
                  have lf := HS2.out.lds.frozen h
                  have rc := HS2.out.rms.cell (by rw [HS2.out.rl]; exact hhn : h < rs.length)
                  rw [loadL_zA hhn] at lc
                  have hcn : 0 ≤ cntA p h ∧ cntA p h ≤ 16 := by have := cntTo_le p (h : Int) p.length; have := HS.out.len; unfold cntA; omega
                  obtain ⟨y, hy⟩ : ∃ y, cntA p h = y := ⟨_, rfl⟩
                  obtain ⟨z, hz⟩ : ∃ z, zA rs h = z := ⟨_, rfl⟩
                  have HY : Hid (cntA p h = y) := hy
                  have HZ : Hid (zA rs h = z) := hz
                  rw [hy] at lc hcn
                  rw [hz] at rc
                  clear hy hz
                  by_cases hlt2 : h < s
                  · have e2 : z ≤ y := by have := HS3.out h hlt2; rw [HY.out, HZ.out] at this; exact this
                    go_wp2
                    go_quiet (fail)
                    go_wp2
                    go_roundw
                    case rel => exact ⟨h + 1, by omega, by go_num, below_drewN hB2 _⟩
                    case measure => first | (simp [intOf]; done) | (simp [intOf]; omega)
                  · have hhs : h = s := by omega
                    subst hhs
                    have e2 : y < z := by have := HS4.out; rw [HY.out, HZ.out] at this; omega
                    have hgl : g ≠ gl := by have := HS.out.d1; omega
                    have hc2 : wr.cell? ⟨g, k, none⟩ = some (.int .i64 x) := celB hB2 hc
                    have hf2 : wr.frozen? ⟨g, k, none⟩ = false := frzB hB2 (lt_of_cell hc) hf
                    have oc : ∀ v, (wr.setCell ⟨gl, h, none⟩ v).cell? ⟨g, k, none⟩ = some (.int .i64 x) := fun v => (World.cell?_setCell_other _ _ _ _ (by simp <;> (intro h; exact absurd h hgl))).trans hc2
                    clear hlt2 hh
                    go_wp2
                    go_quiet (fail)
                    go_wp2
                    go_roundw
                    case rel => exact ⟨k + 1, p.set k (h : Int), by omega, by go_num, HN.out, (HS2.out.below (below_drewN (Below.refl _ _) _)).move (Nat.le_refl _) hkp hhn (by have h9 := load_in (n := n) (h := h) hkp (by rw [HX.out]; exact e1'); rw [HY.out] at h9; exact h9) (by omega)⟩
                    case measure => first | (simp [intOf]; done) | (simp [intOf]; omega)
            · obtain rfl : k = l.length := by omega
              have HF : Hid (sprL n l gone = p) := by show _ = _; rw [HSp.out, HP.out]
              obtain ⟨fI, fR⟩ := HS.out.ints
              rw [HS.out.len] at fR
              have fB := HS.out.bel
              go_wp2
              refine bodyPost_ret (v := .slice av l.length cv) (by simp [results, Try.results40, go_sem]) rfl ⟨av, cv, rfl, by rw [HF.out]; exact fI, fR, fB⟩
        · obtain ⟨i, rfl⟩ : ∃ i, j = i + 1 := ⟨j - 1, by omega⟩
          have hii : ((i + 1 : Nat) : Int) - 1 = (i : Int) := by omega
          rw [hii]
          clear hii
          have hio : i < o.length := by rw [HS.out.len]; omega
          obtain ⟨g, rfl, h1, h2, h3⟩ := HS.out.get hio
          have hc := h3.cell hio
          have hf := h3.frozen i
          have hil : (i : Int) < (l.length : Int) := by omega
          have hrgi := HS.out.rg i hio
          obtain ⟨x, hx⟩ : ∃ x, zA o i = x := ⟨_, rfl⟩
          have HX : Hid (zA o i = x) := hx
          rw [hx] at hc hrgi
          clear hx
          by_cases e1 : 0 ≤ x
          · obtain ⟨q, rfl⟩ : ∃ q : Nat, x = q := ⟨x.toNat, by omega⟩
            have hqn : q < n := by omega
            have hqi : (q : Int) < (n : Int) := by omega
            have lc := HS.out.lds.cell (by rw [loadL_len]; exact hqn : q < (loadL n o).length)
            have lf := HS.out.lds.frozen q
            have rc := HS.out.rms.cell (by rw [HS.out.rl]; exact hqn : q < rs.length)
            rw [loadL_zA hqn] at lc
            have hcn : 0 ≤ cntA o q ∧ cntA o q ≤ 16 := by have := cntTo_le o (q : Int) o.length; have := HS.out.len; unfold cntA; omega
            have hMv := fun (hp : zA rs q < cntA o q) => HS.out.move (Nat.le_refl _) hio hqn (load_out hio HX.out) (by omega : (-1 : Int) ≤ -1 ∧ (-1 : Int) < n)
            have HMv := (show Hid _ from hMv)
            obtain ⟨y, hy⟩ : ∃ y, cntA o q = y := ⟨_, rfl⟩
            obtain ⟨z, hz⟩ : ∃ z, zA rs q = z := ⟨_, rfl⟩
            have HY : Hid (cntA o q = y) := hy
            have HZ : Hid (zA rs q = z) := hz
            rw [hy] at lc hcn HMv
            rw [hz] at rc HMv
            clear hMv hy hz
            have hgl : g ≠ gl := by have := HS.out.d1; omega
            by_cases e2 : z < y
            · have HN : Hid (cut1 rs o i = o.set i (-1)) := by show _ = _; unfold cut1; rw [HX.out]; exact if_pos ⟨by omega, by rw [Int.toNat_natCast, HY.out, HZ.out]; exact e2⟩
              have HC2 : Hid (cutTo rs i (o.set i (-1)) = cutTo rs l.length o0) := by show _ = _; rw [← HN.out]; exact HC.out
              have HM2 := (show Hid _ from HMv.out e2)
              have oc : ∀ v, (wr.setCell ⟨gl, q, none⟩ v).cell? ⟨g, i, none⟩ = some (.int .i64 (q : Int)) := fun v => (World.cell?_setCell_other _ _ _ _ (by simp <;> (intro h; exact absurd h hgl))).trans hc
              clear HMv
              go_wp2
              go_quiet (fail)
              go_wp2
              go_roundw
              case rel => exact ⟨i, o.set i (-1), by omega, by first | rfl | go_num, HC2.out, (HS.out.below (below_drewN (Below.refl _ _) _)).move (Nat.le_refl _) hio hqn (by have h9 := load_out (n := n) hio HX.out; rw [HY.out] at h9; exact h9) (by omega)⟩
              case measure => first | (simp [intOf]; done) | (simp [intOf]; omega)
            · have HN : Hid (cut1 rs o i = o) := by show _ = _; unfold cut1; rw [HX.out]; exact if_neg (fun c => e2 (by have := c.2; rw [Int.toNat_natCast, HY.out, HZ.out] at this; exact this))
              have HC2 : Hid (cutTo rs i o = cutTo rs l.length o0) := by show _ = _; have h9 := HC.out; rw [cutTo, HN.out] at h9; exact h9
              clear HMv
              go_wp2
              go_quiet (fail)
              go_wp2
              go_roundw
              case rel => exact ⟨i, o, by omega, by first | rfl | go_num, HC2.out, HS.out.below (below_drewN (Below.refl _ _) _)⟩
              case measure => first | (simp [intOf]; done) | (simp [intOf]; omega)
          · have d1 : decide (0 ≤ x) = false := by simp; omega
            have e1' : x < 0 := by omega
            have HN : Hid (cut1 rs o i = o) := by show _ = _; unfold cut1; rw [HX.out]; exact if_neg (fun c => e1 c.1)
            clear e1
            have HC2 : Hid (cutTo rs i o = cutTo rs l.length o0) := by show _ = _; have h9 := HC.out; rw [cutTo, HN.out] at h9; exact h9
            go_wp2
            go_quiet (fail)
            go_wp2
            go_roundw
            case rel => exact ⟨i, o, by omega, by first | rfl | go_num, HC2.out, HS.out.below (below_drewN (Below.refl _ _) _)⟩
            case measure => first | (simp [intOf]; done) | (simp [intOf]; omega)

end Go.Proofs.Ytmpchddfijcjfaa
