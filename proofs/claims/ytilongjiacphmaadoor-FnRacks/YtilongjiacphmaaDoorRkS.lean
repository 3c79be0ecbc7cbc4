/-
  Racks, the specification's side: l13HasRack, l13Fresh, RacksOf. Made by mkrks.py.
-/
import Derived.Test.YtilongjiacphmaaDoorRkM
import Derived.Test.YtilongjiacphmaaDoorQOutI
import Derived.Test.YtilongjiacphmaaDoorQSpec
import Derived.Test.YtilongjiacphmaaDoorAppZ
import Derived.Deep.AppendLies
namespace Go.Proofs.YtilongjiacphmaaDoor
open Go.RowKit

theorem any_no {α : Type} {f : α → Bool} {l : List α} (h : allTo (fun y => !f y) l l.length) : l.any f = false := by
  have := all_done h
  rw [List.any_eq_false]
  intro x hx hf
  have := List.all_eq_true.1 this x hx
  simp [hf] at this

set_option maxRecDepth 100000 in
set_option maxHeartbeats 4000000 in
theorem l13HasRack_any (a a2 : Option Addr) (c c2 : Nat) (rk l : List Int) (r : Int) (w : World) (hs : Ints w a rk) (hz : Ints w a2 l) (_hk : rk.length ≤ maxLen) (hl : l.length ≤ maxLen) (hr : ∀ z, z ∈ l → 0 ≤ z ∧ z < (rk.length : Int)) :
    Calls Tryd.prog 19 #[.slice a rk.length c, .slice a2 l.length c2, .int .i64 r] w fun e w' => e = .returned (.bool (hasR rk l r)) ∧ w' = w := by
  unfold maxLen at hl
  have HM : Hid (∀ z, z ∈ l → 0 ≤ z ∧ z < (rk.length : Int)) := hr
  clear hr
  go_enter Tryd.func19, Tryd.ntmps19
  go_wp2
  go_loop [11] (fun i => ∃ k : Nat, k ≤ l.length ∧ i = .int .i64 k ∧ Hid (allTo (fun h => !(zA rk h.toNat == r)) l k)) (fun i => l.length - (intOf i).toNat)
  case atStart => exact ⟨0, Nat.zero_le _, rfl, allTo_zero _ _⟩
  case round =>
    obtain ⟨k, hk', rfl, HO⟩ := hrel
    by_cases hlt : k < l.length
    · obtain ⟨b, off, rfl, hc⟩ := hz k _ (zA_get hlt)
      obtain ⟨f1, f2⟩ := HM.out _ (List.mem_of_getElem? (zA_get hlt))
      obtain ⟨f, hf⟩ : ∃ f : Nat, zA l k = f := ⟨(zA l k).toNat, by omega⟩
      have hfn : f < rk.length := by omega
      have HK : Hid (l[k]? = some (f : Int)) := by show _ = _; rw [zA_get hlt, hf]
      rw [hf] at hc
      have hfi : (f : Int) < (rk.length : Int) := by omega
      have h0f : (0 : Int) ≤ (f : Int) := by omega
      have hki : (k : Int) < (l.length : Int) := by omega
      obtain ⟨K, O, rfl, e0⟩ := hs f _ (zA_get hfn)
      have HV : Hid (zA rk (f : Int).toNat = zA rk f) := by show _ = _; rw [Int.toNat_natCast]
      clear f1 f2 hf hs hz
      cases d : (zA rk f == r) with
      | true =>
        have HE : Hid (hasR rk l r = true) := List.any_eq_true.2 ⟨(f : Int), List.mem_of_getElem? HK.out, by rw [HV.out]; exact d⟩
        go_wp2
        go_ret
        exact ⟨ret_bool HE.out.symm, rfl⟩
      | false =>
        have HN : Hid (allTo (fun h => !(zA rk h.toNat == r)) l (k + 1)) := allTo_succ HO.out HK.out (by rw [HV.out, d]; rfl)
        go_wp2
        go_round
        case rel => exact ⟨k + 1, by omega, by go_num, HN.out⟩
        case measure => simp [intOf]; omega
    · obtain rfl : k = l.length := by omega
      have HE : Hid (hasR rk l r = false) := any_no HO.out
      go_wp2
      go_ret
      exact ⟨ret_bool HE.out.symm, rfl⟩

theorem l13HasRack_c (a a2 : Option Addr) (c c2 : Nat) (rk l : List Int) (r : Int) (w : World) (hs : Ints w a rk) (hz : Ints w a2 l) (_hk : rk.length ≤ maxLen) (hl : l.length ≤ maxLen) (hr : ∀ z, z ∈ l → 0 ≤ z ∧ z < (rk.length : Int)) (b : Bool) (h : hasR rk l r = b) :
    Calls Tryd.prog 19 #[.slice a rk.length c, .slice a2 l.length c2, .int .i64 r] w fun e w' => e = .returned (.bool b) ∧ w' = w := by
  rw [← h]; exact l13HasRack_any a a2 c c2 rk l r w hs hz _hk hl hr

set_option maxRecDepth 100000 in
set_option maxHeartbeats 4000000 in
theorem l13Fresh_any (a a2 : Option Addr) (c c2 : Nat) (rk l : List Int) (w : World) (hs : Ints w a rk) (hz : Ints w a2 l) (_hk : rk.length ≤ maxLen) (hl : l.length ≤ maxLen) (hr : ∀ z, z ∈ l → 0 ≤ z ∧ z < (rk.length : Int)) :
    Calls Tryd.prog 20 #[.slice a rk.length c, .slice a2 l.length c2] w fun e w' => e = .returned (.bool (freB rk l)) ∧ w' = w := by
  have hk2 := _hk
  unfold maxLen at hk2
  go_enter Tryd.func20, Tryd.ntmps20
  go_wp2
  go_loop [9] (fun i => ∃ k : Nat, k ≤ rk.length ∧ i = .int .i64 k ∧ Hid (allTo (fun r => !!hasR rk l r) rk k)) (fun i => rk.length - (intOf i).toNat)
  case atStart => exact ⟨0, Nat.zero_le _, rfl, allTo_zero _ _⟩
  case round =>
    obtain ⟨k, hk', rfl, HO⟩ := hrel
    by_cases hlt : k < rk.length
    · have HK : Hid (rk[k]? = some (zA rk k)) := zA_get hlt
      have HH := fun b h => l13HasRack_c a a2 c c2 rk l (zA rk k) w hs hz _hk hl hr b h
      obtain ⟨b, off, rfl, e0⟩ := hs k _ (zA_get hlt)
      have hki : (k : Int) < (rk.length : Int) := by omega
      clear hs hz hr
      generalize zA rk k = y at *
      cases d : hasR rk l y with
      | true =>
        have HN : Hid (allTo (fun r => !!hasR rk l r) rk (k + 1)) := allTo_succ HO.out HK.out (by rw [d]; rfl)
        have HH' := HH true d
        clear HH d
        go_wp2_with (go_at_call 19; refine HH'.mono ?_; rintro e w' ⟨rfl, hw⟩; rw [hw]; clear hw w')
        go_round
        case rel => exact ⟨k + 1, by omega, by go_num, HN.out⟩
        case measure => simp [intOf]; omega
      | false =>
        have HE : Hid (freB rk l = true) := List.any_eq_true.2 ⟨y, List.mem_of_getElem? HK.out, by rw [d]; rfl⟩
        have HH' := HH false d
        clear HH d
        go_wp2_with (go_at_call 19; refine HH'.mono ?_; rintro e w' ⟨rfl, hw⟩; rw [hw]; clear hw w')
        go_ret
        exact ⟨ret_bool HE.out.symm, rfl⟩
    · obtain rfl : k = rk.length := by omega
      have HE : Hid (freB rk l = false) := any_no (f := fun r => !hasR rk l r) HO.out
      go_wp2
      go_ret
      exact ⟨ret_bool HE.out.symm, rfl⟩

theorem l13Fresh_c (a a2 : Option Addr) (c c2 : Nat) (rk l : List Int) (w : World) (hs : Ints w a rk) (hz : Ints w a2 l) (_hk : rk.length ≤ maxLen) (hl : l.length ≤ maxLen) (hr : ∀ z, z ∈ l → 0 ≤ z ∧ z < (rk.length : Int)) (b : Bool) (h : freB rk l = b) :
    Calls Tryd.prog 20 #[.slice a rk.length c, .slice a2 l.length c2] w fun e w' => e = .returned (.bool b) ∧ w' = w := by
  rw [← h]; exact l13Fresh_any a a2 c c2 rk l w hs hz _hk hl hr

def lnV : Value → Nat
  | .slice _ n _ => n
  | _ => 0

theorem owns_one (w : World) (z : Int) : (w.alloc (.cells #[.int .i64 z] 3)).ownsRow w.heap.size 3 1 (.slice (some ⟨w.heap.size, 0, none⟩) 1 1) 1 (zCells [z]) := by
  refine ⟨rfl, .inr ⟨w.heap.size, 1, #[.int .i64 z], rfl, Nat.le_refl _, ?_, Nat.le_refl _, by unfold maxLen; omega, ?_⟩⟩
  · have := heap_alloc_new w (.cells #[.int .i64 z] 3)
    first | exact this | simpa using this
  · simp [zCells]

set_option maxRecDepth 100000 in
set_option maxHeartbeats 16000000 in
theorem specRacksOf_any (a : Option Addr) (c : Nat) (rk : List Int) (cp : Int) (w : World) (hs : Ints w a rk) (hl : rk.length ≤ maxLen) :
    Calls Tryd.prog 6 #[.slice a rk.length c, .int .i64 cp] w fun r w' => LAns w (racL rk cp) (racOk rk cp) r w' := by
  obtain ⟨i0, hi, hz0, hz1, hz2⟩ := infoZ Tryd.infoInts
  have hl' := hl
  unfold maxLen at hl'
  cases g1 : rkB rk with
  | false =>
    have HO : Hid (racOk rk cp = false) := by show _ = _; unfold racOk; rw [g1]; rfl
    have HL : Hid (racL rk cp = []) := by show _ = _; unfold racL; rw [HO.out]; rfl
    go_enter Tryd.func6, Tryd.ntmps6
    go_wp2_with (first | (go_at_call 17; refine (l13Racks_c _ _ _ _ _ hs hl g1).mono ?_; rintro e w' ⟨rfl, hw⟩; rw [hw]; clear hw w') | (go_at_call 18; refine (l1In_m _ _ _ _ _ g2).mono ?_; rintro e w' ⟨rfl, hw⟩; rw [hw]; clear hw w'))
    go_ret2
    rw [HO.out]
    exact lans_of (qs := []) (lst_start _) (by rw [HL.out]; rfl)
  | true =>
    cases g2 : inB cp 1 3 with
    | false =>
      have HO : Hid (racOk rk cp = false) := by show _ = _; unfold racOk; rw [g1, g2]; rfl
      have HL : Hid (racL rk cp = []) := by show _ = _; unfold racL; rw [HO.out]; rfl
      go_enter Tryd.func6, Tryd.ntmps6
      go_wp2_with (first | (go_at_call 17; refine (l13Racks_c _ _ _ _ _ hs hl g1).mono ?_; rintro e w' ⟨rfl, hw⟩; rw [hw]; clear hw w') | (go_at_call 18; refine (l1In_m _ _ _ _ _ g2).mono ?_; rintro e w' ⟨rfl, hw⟩; rw [hw]; clear hw w'))
      go_ret2
      rw [HO.out]
      exact lans_of (qs := []) (lst_start _) (by rw [HL.out]; rfl)
    | true =>
      cases g3 : decide (cp ≤ (rk.length : Int)) with
      | false =>
        have HO : Hid (racOk rk cp = false) := by show _ = _; unfold racOk; rw [g1, g2, g3]; rfl
        have HL : Hid (racL rk cp = []) := by show _ = _; unfold racL; rw [HO.out]; rfl
        have g3' : (rk.length : Int) < cp := by have := of_decide_eq_false g3; omega
        clear g3
        go_enter Tryd.func6, Tryd.ntmps6
        go_wp2_with (first | (go_at_call 17; refine (l13Racks_c _ _ _ _ _ hs hl g1).mono ?_; rintro e w' ⟨rfl, hw⟩; rw [hw]; clear hw w') | (go_at_call 18; refine (l1In_m _ _ _ _ _ g2).mono ?_; rintro e w' ⟨rfl, hw⟩; rw [hw]; clear hw w'))
        go_ret2
        rw [HO.out]
        exact lans_of (qs := []) (lst_start _) (by rw [HL.out]; rfl)
      | true =>
        have b1 : rk.length ≤ 6 ∧ 1 ≤ rk.length := by simp only [rkB, Bool.and_eq_true] at g1; have := inB_t.1 g1.2; omega
        have b2 := inB_t.1 g2
        have b3 := of_decide_eq_true g3
        obtain ⟨cn, hcn⟩ := Int.eq_ofNat_of_zero_le (show 0 ≤ cp by omega)
        subst hcn
        have hcr : cn ≤ rk.length := by omega
        have hc3 : cn ≤ 3 ∧ 1 ≤ cn := by omega
        have HO : Hid (racOk rk (cn : Int) = true) := by show _ = _; unfold racOk; rw [g1, g2, g3]; rfl
        have HL : Hid (racL rk (cn : Int) = racTo rk (cn - 1) rk.length) := by show _ = _; unfold racL; rw [HO.out, if_pos rfl, Int.toNat_natCast]
        have g3d : decide (rk.length < cn) = false := decide_eq_false (by omega)
        have g3e : decide ((rk.length : Int) < (cn : Int)) = false := decide_eq_false (by omega)
        clear b2 b3 g3
        go_enter Tryd.func6, Tryd.ntmps6
        go_wp2_with (first | (go_at_call 17; refine (l13Racks_c _ _ _ _ _ hs hl g1).mono ?_; rintro e w' ⟨rfl, hw⟩; rw [hw]; clear hw w') | (go_at_call 18; refine (l1In_m _ _ _ _ _ g2).mono ?_; rintro e w' ⟨rfl, hw⟩; rw [hw]; clear hw w'))
        clear g1 g2 g3d g3e
        go_loopw [7, 32] (fun v i wr => ∃ (h : Nat) (qs : List QI), h ≤ rk.length ∧ i = .int .i64 (h : Int) ∧ qs.map QI.zs = racTo rk (cn - 1) h ∧ LSt w wr v qs) (fun _ i _ => rk.length - (intOf i).toNat)
        case atStart => exact ⟨0, [], Nat.zero_le _, rfl, rfl, lst_start w⟩
        case round =>
          rename World => w3
          obtain ⟨h, qs, hh, rfl, hqs, hst⟩ := hrel
          have hql : qs.length ≤ 6 := by
            have h1 := congrArg List.length hqs
            rw [List.length_map, racTo_len] at h1
            omega
          have HQS : Hid (qs.map QI.zs = racTo rk (cn - 1) h) := hqs
          clear hqs
          obtain ⟨av, cv, rfl, -, -⟩ := ownsZ_cap hst.own
          have BW3 : Hid (Below w.heap.size w w3) := hst.bel
          have HST : Hid (LSt w w3 (.slice av qs.length cv) qs) := hst
          clear hst
          by_cases hhl : h < rk.length
          · have hhi : (h : Int) < (rk.length : Int) := by omega
            have hw1 : IntKind.i64.wrap ((rk.length : Int) - 1) = (rk.length : Int) - 1 := by rw [IntKind.wrap_i64]; omega
            have HB30 : Hid (Below w3.heap.size w3 (w3.alloc (.cells #[.int .i64 (h : Int)] 3))) := (Below.refl _ _).alloc (Nat.le_refl _) _
            have HST0 : Hid ((w3.alloc (.cells #[.int .i64 (h : Int)] 3)).ownsRow w3.heap.size 3 1 (.slice (some ⟨w3.heap.size, 0, none⟩) 1 1) 1 (zCells [(h : Int)])) := owns_one w3 (h : Int)
            go_wp2
            go_loopw [9] (fun v wr => ∃ (m : Nat) (la : Option Addr) (lc : Nat) (L : List Int), m + 1 ≤ cn ∧ v = .slice la (m + 1) lc ∧ Hid (grwL rk h m = L) ∧ wr.ownsRow w3.heap.size 3 1 (.slice la (m + 1) lc) (m + 1) (zCells L) ∧ Below w3.heap.size w3 wr) (fun v _ => cn - lnV v)
            case atStart => exact ⟨0, some ⟨w3.heap.size, 0, none⟩, 1, [(h : Int)], by omega, rfl, rfl, HST0.out, HB30.out⟩
            case round =>
              clear HST0 HB30
              obtain ⟨m, la, lc, L, hmc, rfl, HG0, hown, hBi⟩ := hrel
              obtain ⟨gL1, gL2, gL3⟩ := grwL_ok hhl m (by omega) (by omega)
              rw [HG0.out] at gL1 gL2 gL3
              have HOW0 := hown
              rw [← gL1] at HOW0
              have HOW : Hid (wr.ownsRow w3.heap.size 3 1 (.slice la L.length lc) L.length (zCells L)) := HOW0
              have hI0 := (ints_of_owns HOW0).1
              by_cases hml : m + 1 < cn
              · have hmi : ((m : Int) + 1) < (cn : Int) := by omega
                have hmi' : (((m + 1 : Nat) : Int)) < (cn : Int) := by omega
                obtain ⟨y, y1, y2, y3⟩ := nxtR_ok hhl gL2 (by omega) (by omega)
                have hsr := hs.below (BW3.out.trans (hBi.mono BW3.out.size))
                have hlm : L.length ≤ maxLen := by unfold maxLen; omega
                have hL7 : L.length ≤ 100 := by omega
                have HHR : Hid (∀ (r : Int) (b : Bool), hasR rk L r = b → Calls Tryd.prog 19 #[.slice a rk.length c, .slice la (m + 1) lc, .int .i64 r] wr fun e w' => e = .returned (.bool b) ∧ w' = wr) := fun r b hb => by have := l13HasRack_c a la c lc rk L r wr hsr hI0 hl hlm gL3 b hb; rw [gL1] at this; exact this
                have HFR : Hid (∀ (b : Bool), freB rk L = b → Calls Tryd.prog 20 #[.slice a rk.length c, .slice la (m + 1) lc] wr fun e w' => e = .returned (.bool b) ∧ w' = wr) := fun b hb => by have := l13Fresh_c a la c lc rk L wr hsr hI0 hl hlm gL3 b hb; rw [gL1] at this; exact this
                have HHS : Hid (∀ (x : Nat) (b : Bool), L.contains (x : Int) = b → Calls Tryd.prog 21 #[.slice la (m + 1) lc, .int .i64 (x : Int)] wr fun e w' => e = .returned (.bool b) ∧ w' = wr) := fun x b hb => by have := l1Has_any la lc L (x : Int) wr hI0 hlm; rw [gL1, hb] at this; exact this
                have HRK : Hid (∀ x : Nat, x < rk.length → ∃ K O, a = some ⟨K, O, none⟩ ∧ wr.cell? ⟨K, O + x, none⟩ = some (.int .i64 (zA rk x))) := fun x hx => hsr x _ (zA_get hx)
                have HPT : Hid (Calls Tryd.prog 22 #[.slice la (m + 1) lc, .int .i64 (y : Int)] wr fun r w' => PutAns w3.heap.size wr (putL L (y : Int)) r w') := by have := l1Put_any L (y : Int) hL7 w3.heap.size la lc wr hBi.size HOW.out; rw [gL1] at this; exact this
                have HNX : Hid (nxtR rk h L = (y : Int)) := y2
                have HG : Hid (grwL rk h (m + 1) = putL L (y : Int)) := by show _ = _; rw [grwL, HG0.out, y2]
                have HPL : Hid ((putL L (y : Int)).length = m + 2) := by show _ = _; rw [putL_one _ _ y3, gL1]
                have HLm : Hid (L.length = m + 1) := gL1
                have HN1 : Hid (Value.int .i64 ((rk.length : Int) - 1) = .int .i64 ((rk.length - 1 : Nat) : Int)) := by show _ = _; rw [show (rk.length : Int) - 1 = ((rk.length - 1 : Nat) : Int) by omega]
                clear y2 y3 hown HOW0 hI0 gL1 gL2 gL3 hsr hlm
                go_wp2
                go_loop [10, 11] (fun v i => ∃ j : Nat, j ≤ rk.length - 1 ∧ i = .int .i64 ((rk.length - 1 - j : Nat) : Int) ∧ Hid (v = .int .i64 (bkTo (fA rk L) rk.length h (-1) j))) (fun _ i => (intOf i).toNat)
                case atStart => exact ⟨0, Nat.zero_le _, by first | rfl | (rw [Nat.sub_zero]; exact HN1.out), rfl⟩
                case round =>
                  obtain ⟨j, hj, rfl, HVN⟩ := hrel
                  obtain ⟨v, hv⟩ : ∃ v, bkTo (fA rk L) rk.length h (-1) j = v := ⟨_, rfl⟩
                  have HB0 : Hid (bkTo (fA rk L) rk.length h (-1) j = v) := hv
                  have hvv := HVN.out
                  rw [hv] at hvv
                  subst hvv
                  clear hv HVN
                  obtain ⟨kk, hkk⟩ : ∃ kk, rk.length - 1 - j = kk := ⟨_, rfl⟩
                  have HKK : Hid (rk.length - 1 - j = kk) := hkk
                  rw [hkk]
                  have hkb : kk ≤ 5 := by omega
                  by_cases hj2 : j < rk.length - 1
                  · have hkp : 0 < kk := by omega
                    clear hkk
                    obtain ⟨s, hs'⟩ : ∃ s, s = h + kk := ⟨_, rfl⟩
                    have e1 : (h : Int) + (kk : Int) = (s : Int) := by omega
                    have e2 : IntKind.i64.wrap (s : Int) = (s : Int) := by rw [IntKind.wrap_i64]; omega
                    have e3 : Int.tmod (s : Int) (rk.length : Int) = ((s % rk.length : Nat) : Int) := rfl
                    have hxl : s % rk.length < rk.length := Nat.mod_lt _ (by omega)
                    have HX : Hid ((h + kk) % rk.length = s % rk.length) := by show _ = _; rw [hs']
                    clear hs'
                    obtain ⟨x, hx⟩ : ∃ x, s % rk.length = x := ⟨_, rfl⟩
                    rw [hx] at e3 hxl
                    replace HX : Hid ((h + kk) % rk.length = x) := by show _ = _; rw [HX.out, hx]
                    clear hx
                    have hxi : (x : Int) < (rk.length : Int) := by omega
                    have hx0 : (0 : Int) ≤ (x : Int) := by omega
                    have e4 : IntKind.i64.wrap (x : Int) = (x : Int) := by rw [IntKind.wrap_i64]; omega
                    have e5 : (kk : Int) - 1 = ((kk - 1 : Nat) : Int) := by omega
                    have e6 : IntKind.i64.wrap ((kk - 1 : Nat) : Int) = ((kk - 1 : Nat) : Int) := by rw [IntKind.wrap_i64]; omega
                    have hkp : (0 : Int) < (kk : Int) := by omega
                    obtain ⟨K, O, eK, c0⟩ := HRK.out x hxl
                    cases gb : hasR rk L (zA rk x) with
                    | true =>
                      have HN : Hid (bkTo (fA rk L) rk.length h (-1) (j + 1) = v) := by show _ = _; rw [bkTo, HKK.out, HX.out, if_neg (by unfold fA; rw [gb]; simp)]; exact HB0.out
                      have hHR := HHR.out _ true gb
                      have HKN : Hid (rk.length - 1 - (j + 1) = kk - 1) := by show _ = _; have := HKK.out; omega
                      clear gb
                      subst eK
                      go_wp2_with (go_at_call 19; refine hHR.mono ?_; rintro e w' ⟨rfl, hw⟩; rw [hw]; clear hw w')
                      go_round
                      case rel => exact ⟨j + 1, by omega, by rw [HKN.out], by show _ = _; rw [HN.out]⟩
                      case measure => simp [intOf]; omega
                    | false =>
                      have HN : Hid (bkTo (fA rk L) rk.length h (-1) (j + 1) = (x : Int)) := by show _ = _; rw [bkTo, HKK.out, HX.out, if_pos (by unfold fA; rw [gb]; rfl)]
                      have hHR := HHR.out _ false gb
                      have HKN : Hid (rk.length - 1 - (j + 1) = kk - 1) := by show _ = _; have := HKK.out; omega
                      clear gb
                      subst eK
                      go_wp2_with (go_at_call 19; refine hHR.mono ?_; rintro e w' ⟨rfl, hw⟩; rw [hw]; clear hw w')
                      go_round
                      case rel => exact ⟨j + 1, by omega, by rw [HKN.out], by show _ = _; rw [HN.out]⟩
                      case measure => simp [intOf]; omega
                  · obtain rfl : kk = 0 := by omega
                    have hjj : j = rk.length - 1 := by omega
                    have HNA : Hid (Value.int .i64 v = .int .i64 (nxtA rk h L)) := by show _ = _; rw [nxtA, ← hjj, HB0.out]
                    clear hjj hkk HB0
                    go_wp2
                    go_loop [10, 13] (fun v i => ∃ j : Nat, j ≤ rk.length - 1 ∧ Hid (freB rk L = true → j = 0) ∧ i = .int .i64 ((rk.length - 1 - j : Nat) : Int) ∧ Hid (v = .int .i64 (bkTo (fB L) rk.length h (nxtA rk h L) j))) (fun _ i => (intOf i).toNat)
                    case atStart => exact ⟨0, Nat.zero_le _, fun _ => rfl, by first | rfl | (rw [Nat.sub_zero]; exact HN1.out), by first | exact HNA.out | rfl⟩
                    case round =>
                      clear HNA
                      obtain ⟨j, hj, HF0, rfl, HVN⟩ := hrel
                      obtain ⟨v, hv⟩ : ∃ v, bkTo (fB L) rk.length h (nxtA rk h L) j = v := ⟨_, rfl⟩
                      have HB0 : Hid (bkTo (fB L) rk.length h (nxtA rk h L) j = v) := hv
                      have hvv := HVN.out
                      rw [hv] at hvv
                      subst hvv
                      clear hv HVN
                      obtain ⟨kk, hkk⟩ : ∃ kk, rk.length - 1 - j = kk := ⟨_, rfl⟩
                      have HKK : Hid (rk.length - 1 - j = kk) := hkk
                      rw [hkk]
                      have hkb : kk ≤ 5 := by omega
                      by_cases hj2 : j < rk.length - 1
                      · have hkp : 0 < kk := by omega
                        clear hkk
                        cases gf : freB rk L with
                        | true =>
                          obtain rfl : j = 0 := HF0.out gf
                          have HY : Hid (v = (y : Int)) := by show _ = _; rw [← HB0.out, bkTo, ← HNX.out, nxtR, if_pos gf]
                          have hkp' : (0 : Int) < (kk : Int) := by omega
                          have hy := HY.out
                          subst hy
                          have hFR := HFR.out true gf
                          clear gf HY HB0
                          go_wp2_with (first | (go_at_call 20; refine hFR.mono ?_; rintro e w' ⟨rfl, hw⟩; rw [hw]; clear hw w') | fail)
                          go_wp2_with fail
                          refine HPT.out.mono ?_
                          rintro _ w5 ⟨a5, c5, rfl, hown5, hB5⟩
                          have B5 : Below w3.heap.size w3 w5 := hBi.trans (hB5.mono hBi.size)
                          rw [HPL.out] at hown5 ⊢
                          have HO5 : Hid (w5.ownsRow w3.heap.size 3 1 (.slice a5 (m + 2) c5) (m + 2) (zCells (putL L (y : Int)))) := hown5
                          clear hown5 hB5
                          go_wp2
                          go_roundw
                          case rel => exact ⟨m + 1, a5, c5, putL L (y : Int), by omega, rfl, HG.out, HO5.out, B5⟩
                          case measure => simp [lnV]; omega
                        | false =>
                          have hFR := HFR.out false gf
                          obtain ⟨s, hs'⟩ : ∃ s, s = h + kk := ⟨_, rfl⟩
                          have e1 : (h : Int) + (kk : Int) = (s : Int) := by omega
                          have e2 : IntKind.i64.wrap (s : Int) = (s : Int) := by rw [IntKind.wrap_i64]; omega
                          have e3 : Int.tmod (s : Int) (rk.length : Int) = ((s % rk.length : Nat) : Int) := rfl
                          have hxl : s % rk.length < rk.length := Nat.mod_lt _ (by omega)
                          have HX : Hid ((h + kk) % rk.length = s % rk.length) := by show _ = _; rw [hs']
                          clear hs'
                          obtain ⟨x, hx⟩ : ∃ x, s % rk.length = x := ⟨_, rfl⟩
                          rw [hx] at e3 hxl
                          replace HX : Hid ((h + kk) % rk.length = x) := by show _ = _; rw [HX.out, hx]
                          clear hx
                          have hxi : (x : Int) < (rk.length : Int) := by omega
                          have hx0 : (0 : Int) ≤ (x : Int) := by omega
                          have e4 : IntKind.i64.wrap (x : Int) = (x : Int) := by rw [IntKind.wrap_i64]; omega
                          have e5 : (kk : Int) - 1 = ((kk - 1 : Nat) : Int) := by omega
                          have e6 : IntKind.i64.wrap ((kk - 1 : Nat) : Int) = ((kk - 1 : Nat) : Int) := by rw [IntKind.wrap_i64]; omega
                          have hkp : (0 : Int) < (kk : Int) := by omega
                          cases gb : L.contains (x : Int) with
                          | true =>
                            have HN : Hid (bkTo (fB L) rk.length h (nxtA rk h L) (j + 1) = v) := by show _ = _; rw [bkTo, HKK.out, HX.out, if_neg (by unfold fB; rw [gb]; simp)]; exact HB0.out
                            have hHS := HHS.out x true gb
                            have HKN : Hid (rk.length - 1 - (j + 1) = kk - 1) := by show _ = _; have := HKK.out; omega
                            have HGF : Hid (freB rk L = false) := gf
                            clear gb gf
                            go_wp2_with (first | (go_at_call 20; refine hFR.mono ?_; rintro e w' ⟨rfl, hw⟩; rw [hw]; clear hw w') | (go_at_call 21; refine hHS.mono ?_; rintro e w' ⟨rfl, hw⟩; rw [hw]; clear hw w'))
                            go_round
                            case rel => exact ⟨j + 1, by omega, fun h => (by first | (rw [HGF.out] at h; cases h) | cases h), by rw [HKN.out], by show _ = _; rw [HN.out]⟩
                            case measure => simp [intOf]; omega
                          | false =>
                            have HN : Hid (bkTo (fB L) rk.length h (nxtA rk h L) (j + 1) = (x : Int)) := by show _ = _; rw [bkTo, HKK.out, HX.out, if_pos (by unfold fB; rw [gb]; rfl)]
                            have hHS := HHS.out x false gb
                            have HKN : Hid (rk.length - 1 - (j + 1) = kk - 1) := by show _ = _; have := HKK.out; omega
                            have HGF : Hid (freB rk L = false) := gf
                            clear gb gf
                            go_wp2_with (first | (go_at_call 20; refine hFR.mono ?_; rintro e w' ⟨rfl, hw⟩; rw [hw]; clear hw w') | (go_at_call 21; refine hHS.mono ?_; rintro e w' ⟨rfl, hw⟩; rw [hw]; clear hw w'))
                            go_round
                            case rel => exact ⟨j + 1, by omega, fun h => (by first | (rw [HGF.out] at h; cases h) | cases h), by rw [HKN.out], by show _ = _; rw [HN.out]⟩
                            case measure => simp [intOf]; omega
                      · obtain rfl : kk = 0 := by omega
                        have hjj : j = rk.length - 1 := by omega
                        have HY : Hid (v = (y : Int)) := by
                          show _ = _
                          rw [← HNX.out, nxtR]
                          cases gf : freB rk L with
                          | true => have := HF0.out gf; subst this; rw [if_pos rfl, ← HB0.out, bkTo]
                          | false => rw [if_neg (by simp), nxtB, ← hjj]; exact HB0.out.symm
                        have hy := HY.out
                        subst hy
                        clear hjj hkk HY HB0
                        go_wp2_with fail
                        refine HPT.out.mono ?_
                        rintro _ w5 ⟨a5, c5, rfl, hown5, hB5⟩
                        have B5 : Below w3.heap.size w3 w5 := hBi.trans (hB5.mono hBi.size)
                        rw [HPL.out] at hown5 ⊢
                        have HO5 : Hid (w5.ownsRow w3.heap.size 3 1 (.slice a5 (m + 2) c5) (m + 2) (zCells (putL L (y : Int)))) := hown5
                        clear hown5 hB5
                        go_wp2
                        go_roundw
                        case rel => exact ⟨m + 1, a5, c5, putL L (y : Int), by omega, rfl, HG.out, HO5.out, B5⟩
                        case measure => simp [lnV]; omega
              · have hmc' : m + 1 = cn := by omega
                have hmi : ¬ (((m : Int) + 1) < (cn : Int)) := by omega
                have HMC : Hid (cn - 1 = m) := by show _ = _; omega
                obtain ⟨hI6, hR6⟩ := ints_of_owns HOW0
                have hst6 := lst_below HST.out hBi
                have hsz := hst6.bel.size
                have hal6 : ∀ o, Below wr.heap.size wr (wr.alloc o) := fun o => (Below.refl _ _).alloc (Nat.le_refl _) o
                have hst7 := fun o => lst_below hst6 (hal6 o)
                have HLm : Hid (L.length = m + 1) := gL1
                have HGL : Hid (racTo rk (cn - 1) (h + 1) = racTo rk (cn - 1) h ++ [L]) := by show _ = _; rw [racTo_succ, HMC.out, HG0.out]
                clear hown HOW0 gL1 gL2 gL3 hmc'
                go_wp2_with (at_builtin; refine wpList_append_lies _ rfl _ _ 26 rfl w.heap.size 23 i0 _ 1 24 Tryd.underlying26 hi hz0 hz1 hz2 rfl (by decide) (.slice av qs.length cv) qs.length (qs.map QI.val) rfl (hst7 _).own ⟨wr.heap.size, 0, none⟩ 1 1 [.slice la (m + 1) lc] rfl rfl ?c1 ?c2 (by omega) ?c3 ?c4 ?c5 (wr.heap.size + 1) ?c6 ?_)
                try (case c1 => first | exact (fun j u h => h) | exact World.news_of_block (cs := #[.slice la (m + 1) lc]) (t := 23) (fr := (0, 0)) (by first | exact (heap_alloc_new wr _) | simpa using (heap_alloc_new wr _)))
                case c2 => simp [Value.oneCell']
                case c3 => unfold maxLen; omega
                case c4 => omega
                case c5 => first | omega | (simp; omega)
                try (case c6 => simp)
                intro g8 cap8 w8 hown8 hgrow8 hat8 _
                rw [← HLm.out] at hown8
                have hst8 := lst_step (q := ⟨L, la, lc⟩) HST.out (hBi.trans ((hal6 _).mono hBi.size)) (hI6.below (hal6 _)) (hR6.below (hal6 _)) hgrow8 hown8
                have HS8 : Hid (LSt w w8 (.slice (some ⟨g8, 0, none⟩) (qs.length + 1) cap8) (qs ++ [⟨L, la, lc⟩])) := hst8
                clear hst8 hown8 hgrow8 hat8 hst7 hst6 hI6 hR6
                go_wp2_with fail
                go_roundw
                case rel => exact ⟨h + 1, qs ++ [⟨L, la, lc⟩], by omega, by go_num, by rw [List.map_append, HQS.out, HGL.out]; simp, HS8.out⟩
                case measure => simp [intOf]; omega
          · obtain rfl : h = rk.length := by omega
            go_wp2
            go_ret2
            rw [HO.out]
            exact lans_of HST.out (by rw [HL.out]; exact HQS.out)

end Go.Proofs.YtilongjiacphmaaDoor
