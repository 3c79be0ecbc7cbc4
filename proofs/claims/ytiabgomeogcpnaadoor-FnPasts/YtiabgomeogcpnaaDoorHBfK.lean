/-
  Which event is ahead of which: the contracts of spec.l7There, spec.HappensBefore, impl.HappensBefore.
-/
import Derived.Test.YtiabgomeogcpnaaDoorThereK
namespace Go.Proofs.YtiabgomeogcpnaaDoor
open Go.RowKit

/-- What HappensBefore answers. -/
def hbB (procs : Int) (l : List Ev) (a b : Int) : Bool := thereB procs l a && thereB procs l b
def hbV (procs : Int) (l : List Ev) (a b : Int) : Bool := hbB procs l a b && ((maskTo l l.length).getD b.toNat 0).testBit a.toNat

theorem hbV_f {procs : Int} {l : List Ev} {a b : Int} (h : hbB procs l a b = false) : hbV procs l a b = false := by unfold hbV; rw [h]; rfl

set_option maxRecDepth 100000 in
set_option maxHeartbeats 2000000 in
theorem specHB_any (procs za zb : Int) (a : Option Addr) (l : List Ev) (w : World) (hs : Evs w a l) (hl : l.length ≤ maxLen) {lcap : Nat} (hcap : l.length ≤ lcap := by assumption) :
    Calls Tryd.prog 11 #[.int .i64 procs, .slice a l.length lcap, .int .i64 za, .int .i64 zb] w fun r w' => r = .returned (.tuple #[.bool (hbV procs l za zb), .bool (hbB procs l za zb)]) ∧ Below w.heap.size w w' := by
  generalize hga : thereB procs l za = ga
  generalize hgb : thereB procs l zb = gb
  have HGA : Hid (thereB procs l za = ga) := hga
  have HGB : Hid (thereB procs l zb = gb) := hgb
  have HHB : Hid (hbB procs l za zb = (ga && gb)) := by show _ = _; unfold hbB; rw [hga, hgb]
  clear hga hgb
  go_enter Tryd.func11, Tryd.ntmps11
  go_wp2_with fail
  refine (l7There_any procs za a l _ hs hl).mono ?_
  rintro r w1 ⟨hr, hB1⟩
  rw [HGA.out] at hr
  subst hr
  have hs1 := hs.below hB1
  cases ga with
  | false =>
    have HV : Hid (hbB procs l za zb = false) := HHB.out
    go_wp2
    go_ret2
    exact ⟨by rw [hbV_f HV.out, HV.out]; rfl, hB1⟩
  | true =>
  go_wp2_with fail
  refine (l7There_any procs zb a l _ hs1 hl).mono ?_
  rintro r w2 ⟨hr, hB2⟩
  rw [HGB.out] at hr
  subst hr
  have hs2 := hs1.below hB2
  have BB := hB1.trans (hB2.mono hB1.size)
  clear hs hs1 hB1 hB2
  cases gb with
  | false =>
    have HV : Hid (hbB procs l za zb = false) := HHB.out
    go_wp2
    go_ret2
    exact ⟨by rw [hbV_f HV.out, HV.out]; rfl, BB⟩
  | true =>
  obtain ⟨hgood, ha0, ha1⟩ := thereB_t.1 HGA.out
  obtain ⟨-, hb0, hb1⟩ := thereB_t.1 HGB.out
  obtain ⟨hok, hpr, h24⟩ := goodEv_t.1 hgood
  obtain ⟨nb, rfl⟩ := Int.eq_ofNat_of_zero_le hb0
  have hnb : nb < l.length := by omega
  go_wp2_with fail
  refine (l7Pasts_any procs a l _ hs2 hok h24).mono ?_
  rintro r w3 ⟨v, qs, rfl, hqs, hst⟩
  obtain ⟨av, cv, rfl, -, -⟩ := ownsZ_cap hst.own
  have hlen := maskTo_len l l.length
  have hql : qs.length = l.length := by have h1 := congrArg List.length hqs; simpa [hlen] using h1
  have hL2 : ((maskTo l l.length).map bitsL)[nb]? = some (bitsL ((maskTo l l.length).getD nb 0)) := by
    rw [List.getElem?_map, List.getD_eq_getElem?_getD, List.getElem?_eq_getElem (by omega)]; rfl
  have hss := (lst_out hst).intss (fun zs hzs => by
    rw [hqs] at hzs
    obtain ⟨m, -, rfl⟩ := List.mem_map.1 hzs
    have := bitsL_len m
    unfold maxLen; omega)
  rw [hqs] at hss
  obtain ⟨lb, lo, ai, ci, rfl, hcell, hxs, hxl⟩ := hss nb _ hL2
  have B3 := BB.trans (hst.bel.mono BB.size)
  have hx1 : (nb : Int) < (qs.length : Int) := by omega
  have HR : Hid (decide (za ∈ bitsL ((maskTo l l.length).getD nb 0)) = hbV procs l za (nb : Int)) := by
    show _ = _
    rw [Bool.eq_iff_iff, decide_eq_true_eq, bitsL_mem]
    unfold hbV
    rw [HHB.out]
    simp
    omega
  clear hss hL2 hst hs2 hqs hql hok hgood hlen BB
  generalize bitsL ((maskTo l l.length).getD nb 0) = xs at *
  go_wp2_with (go_at_call 22; refine (l1Has_any ai ci xs za _ hxs hxl).mono ?_; rintro r w4 ⟨hr, hw4⟩; rw [HR.out] at hr; subst hr; rw [hw4]; clear hw4 w4)
  go_ret2
  exact ⟨by rw [HHB.out]; rfl, B3⟩

set_option maxRecDepth 100000 in
set_option maxHeartbeats 2000000 in
theorem implHB_any (procs za zb : Int) (a : Option Addr) (l : List Ev) (w : World) (hs : Evs w a l) (hl : l.length ≤ maxLen) {lcap : Nat} (hcap : l.length ≤ lcap := by assumption) :
    Calls Tryd.prog 8 #[.int .i64 procs, .slice a l.length lcap, .int .i64 za, .int .i64 zb] w fun r w' => r = .returned (.tuple #[.bool (hbV procs l za zb), .bool (hbB procs l za zb)]) ∧ Below w.heap.size w w' := by
  go_enter Tryd.func8, Tryd.ntmps8
  go_wp2_with fail
  refine (implGoodEv_any procs a l _ hs hl).mono ?_
  rintro r w1 ⟨hr, hB1⟩
  generalize hg : goodEv procs l = g at hr
  have HG : Hid (goodEv procs l = g) := hg
  clear hg
  subst hr
  have hs1 := hs.below hB1
  unfold maxLen at hl
  cases g with
  | false =>
    have HV : Hid (hbB procs l za zb = false) := by show _ = _; unfold hbB thereB; rw [HG.out]; rfl
    clear hs1 hs
    go_wp2
    go_ret2
    exact ⟨by rw [hbV_f HV.out, HV.out]; rfl, hB1⟩
  | true =>
  obtain ⟨hok, hpr, h24⟩ := goodEv_t.1 HG.out
  have HOK : Hid (okEv procs l l.length) := hok
  clear hok
  have hwl : IntKind.i64.wrap ((l.length : Int) - 1) = (l.length : Int) - 1 := by simp [IntKind.wrap, IntKind.bits, IntKind.signed]; omega
  generalize hga : inB za 0 ((l.length : Int) - 1) = ga
  have HGA : Hid (inB za 0 ((l.length : Int) - 1) = ga) := hga
  clear hga
  cases ga with
  | false =>
    have HV : Hid (hbB procs l za zb = false) := by
      show _ = _
      unfold hbB
      rw [thereB_f (a := za) (fun h => by have := inB_f.1 HGA.out; omega)]; rfl
    clear hs1 hs
    go_wp2_with (go_at_call 15; refine (withinE _ _ _ _ HGA.out).mono ?_; rintro r w2 ⟨rfl, rfl⟩)
    go_ret2
    exact ⟨by rw [hbV_f HV.out, HV.out]; rfl, hB1⟩
  | true =>
  generalize hgb : inB zb 0 ((l.length : Int) - 1) = gb
  have HGB : Hid (inB zb 0 ((l.length : Int) - 1) = gb) := hgb
  clear hgb
  cases gb with
  | false =>
    have HV : Hid (hbB procs l za zb = false) := by
      show _ = _
      unfold hbB
      rw [thereB_f (a := zb) (fun h => by have := inB_f.1 HGB.out; omega)]; simp
    clear hs1 hs
    go_wp2_with (first | (go_at_call_of 15 (Value.int .i64 za); refine (withinE _ _ _ _ HGA.out).mono ?_; rintro r w2 ⟨rfl, hw2⟩; rw [hw2]; clear hw2 w2) | (go_at_call 15; refine (withinE _ _ _ _ HGB.out).mono ?_; rintro r w2 ⟨rfl, hw2⟩; rw [hw2]; clear hw2 w2))
    go_ret2
    exact ⟨by rw [hbV_f HV.out, HV.out]; rfl, hB1⟩
  | true =>
  have ha := inB_t.1 HGA.out
  have hb := inB_t.1 HGB.out
  have HHB : Hid (hbB procs l za zb = true) := by
    show _ = _
    unfold hbB
    rw [thereB_t.2 ⟨HG.out, ha.1, by omega⟩, thereB_t.2 ⟨HG.out, hb.1, by omega⟩]; rfl
  obtain ⟨na, rfl⟩ := Int.eq_ofNat_of_zero_le ha.1
  obtain ⟨nb, rfl⟩ := Int.eq_ofNat_of_zero_le hb.1
  have hna : na < 24 := by omega
  have hnb : nb < l.length := by omega
  have hpst := fun u hu => pastsOf_any procs a l u hu HOK.out h24 hcap
  have hlen := maskTo_len l l.length
  have HLEN : Hid ((maskTo l l.length).length = l.length) := hlen
  have hmr := maskTo_rg HOK.out h24 l.length (Nat.le_refl _)
  have hmq : (maskTo l l.length).getD nb 0 < 16777216 := by
    rw [List.getD_eq_getElem?_getD, List.getElem?_eq_getElem (by omega)]; exact hmr _ (List.getElem_mem _)
  have hp2 : 2 ^ na < 16777216 := bit_small (n := 24) hna
  have HR : Hid (((maskTo l l.length).getD nb 0 &&& 2 ^ na != 0) = hbV procs l (na : Int) (nb : Int)) := by
    show _ = _
    rw [and_bit]
    unfold hbV
    rw [HHB.out]; rfl
  have hnm : (maskTo l l.length)[nb]? = some ((maskTo l l.length).getD nb 0) := by rw [List.getD_eq_getElem?_getD, List.getElem?_eq_getElem (by omega)]; rfl
  have hon := only_any na hna
  generalize (maskTo l l.length).getD nb 0 = mq at *
  generalize 2 ^ na = p2 at *
  clear hlen hmr
  have hnb0 : (0 : Int) ≤ (nb : Int) := by omega
  have hnb1 : (nb : Int) < ((maskTo l l.length).length : Int) := by have := HLEN.out; omega
  generalize maskTo l l.length = ms at *
  go_wp2_with (first | (go_at_call_of 15 (Value.int .i64 (na : Int)); refine (withinE _ _ _ _ HGA.out).mono ?_; rintro r w2 ⟨rfl, hw2⟩; rw [hw2]; clear hw2 w2) | (go_at_call 15; refine (withinE _ _ _ _ HGB.out).mono ?_; rintro r w2 ⟨rfl, hw2⟩; rw [hw2]; clear hw2 w2))
  go_region_with (first
    | (go_at_call 16; (first | (refine (hpst _ (hs1.below (Below.refl _ _).drew)).mono ?_) | (refine (hpst _ hs4).mono ?_)); rintro r w3 ⟨v, rfl, hst⟩; obtain ⟨g, cv, rfl, hcell⟩ := own_set hst.own hnm; have BC : Below w.heap.size w w3 := (by first | exact hB1.drew.trans (hst.bel.mono hB1.size) | exact BC4.trans (hst.bel.mono BC4.size)))
    | (go_at_call 21; refine (hon _).mono ?_; rintro r w4 ⟨rfl, hB4⟩; have BC4 : Below w.heap.size w w4 := (by first | exact BC.trans (hB4.mono BC.size) | exact hB1.drew.trans (hB4.mono hB1.size)); have hs4 : Evs w4 a l := hs.below BC4; try (replace hcell := (hB4.cell (p := ⟨g, nb, none⟩) (lt_of_cell hcell)).trans hcell))
    | (go_at_call 20; refine (meets_any mq p2 hmq hp2 _).mono ?_; rintro r w5 ⟨hr, hB5⟩; rw [HR.out] at hr; subst hr; have BC5 : Below w.heap.size w w5 := (by first | exact BC4.trans (hB5.mono BC4.size) | exact BC.trans (hB5.mono BC.size))))
  all_goals
    go_wp2
    go_ret2
    exact ⟨by rw [HHB.out]; rfl, BC5⟩

end Go.Proofs.YtiabgomeogcpnaaDoor
