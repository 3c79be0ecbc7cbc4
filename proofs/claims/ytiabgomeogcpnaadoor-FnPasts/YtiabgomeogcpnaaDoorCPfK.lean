/-
  All that is ahead of one event: the contracts of spec.CausalPast, impl.CausalPast.
-/
import Derived.Test.YtiabgomeogcpnaaDoorThereK
import Derived.Test.YtiabgomeogcpnaaDoorLst24
namespace Go.Proofs.YtiabgomeogcpnaaDoor
open Go.RowKit

def cpL (procs : Int) (l : List Ev) (z : Int) : List Int := if thereB procs l z then bitsL ((maskTo l l.length).getD z.toNat 0) else []
theorem cpL_len (procs : Int) (l : List Ev) (z : Int) : (cpL procs l z).length ≤ 1000000 := by
  unfold cpL
  split
  · have := bitsL_len ((maskTo l l.length).getD z.toNat 0); omega
  · simp

/-- What a function answers that gathers numbers, and whether it could. -/
def PAnsB (w : World) (zs : List Int) (ok : Bool) (r : Ending) (w' : World) : Prop :=
  ∃ a c, r = .returned (.tuple #[.slice a zs.length c, .bool ok]) ∧ Ints w' a zs ∧ RowI w' w.heap.size a zs.length ∧ Below w.heap.size w w'

theorem pans_nil {w w' : World} {ok : Bool} (h : Below w.heap.size w w') : PAnsB w [] ok (.returned (.tuple #[.slice none 0 0, .bool ok])) w' :=
  ⟨none, 0, rfl, Ints.nil _ _, .inl rfl, h⟩

/-- One of the lists that were gathered. -/
theorem lst_one {w wr : World} {v : Value} {qs : List QI} {L : List (List Int)} {x : Nat} {zs : List Int} (h : LSt w wr v qs) (e : qs.map QI.zs = L) (hx : L[x]? = some zs) :
    ∃ g c ai ci, v = .slice (some ⟨g, 0, none⟩) qs.length c ∧ x < qs.length ∧ wr.cell? ⟨g, x, none⟩ = some (.slice ai zs.length ci) ∧ Ints wr ai zs ∧ RowI wr w.heap.size ai zs.length := by
  subst e
  rw [List.getElem?_map, Option.map_eq_some_iff] at hx
  obtain ⟨q, hq, rfl⟩ := hx
  have hlt := (List.getElem?_eq_some_iff.1 hq).1
  obtain ⟨a, c, rfl, -, -⟩ := ownsZ_cap h.own
  rcases (lst_out h).row with h1 | ⟨g, m, f, rfl, hg, hR, hml, hf⟩
  · omega
  · exact ⟨g, c, q.a, q.c, rfl, hlt, by rw [hR.cell (by omega), hf x q hq], h.ints.ints q (List.mem_of_getElem? hq), h.ints.row q (List.mem_of_getElem? hq)⟩

theorem mask_at {l : List Ev} {x : Nat} (hx : x < l.length) : (maskTo l l.length)[x]? = some ((maskTo l l.length).getD x 0) := by
  rw [List.getD_eq_getElem?_getD, List.getElem?_eq_getElem (by rw [maskTo_len]; exact hx)]; rfl

set_option maxRecDepth 100000 in
set_option maxHeartbeats 2000000 in
theorem specCP_any (procs z : Int) (a : Option Addr) (l : List Ev) (w : World) (hs : Evs w a l) (hl : l.length ≤ maxLen) {lcap : Nat} (hcap : l.length ≤ lcap := by assumption) :
    Calls Tryd.prog 6 #[.int .i64 procs, .slice a l.length lcap, .int .i64 z] w fun r w' => PAnsB w (cpL procs l z) (thereB procs l z) r w' := by
  generalize hga : thereB procs l z = ga
  have HGA : Hid (thereB procs l z = ga) := hga
  have HL : Hid (cpL procs l z = if ga then bitsL ((maskTo l l.length).getD z.toNat 0) else []) := by show _ = _; unfold cpL; rw [hga]
  clear hga
  go_enter Tryd.func6, Tryd.ntmps6
  go_wp2_with fail
  refine (l7There_any procs z a l _ hs hl).mono ?_
  rintro r w1 ⟨hr, hB1⟩
  rw [HGA.out] at hr
  subst hr
  have hs1 := hs.below hB1
  clear hs
  cases ga with
  | false =>
    go_wp2
    go_ret2
    rw [HL.out]
    exact pans_nil hB1
  | true =>
  obtain ⟨hgood, ha0, ha1⟩ := thereB_t.1 HGA.out
  obtain ⟨hok, hpr, h24⟩ := goodEv_t.1 hgood
  obtain ⟨n, rfl⟩ := Int.eq_ofNat_of_zero_le ha0
  have hnl : n < l.length := by omega
  have hma := mask_at hnl
  have HL2 : Hid (cpL procs l (n : Int) = bitsL ((maskTo l l.length).getD n 0)) := HL.out
  go_wp2_with fail
  refine (l7Pasts_any procs a l _ hs1 hok h24).mono ?_
  rintro r w3 ⟨v, qs, rfl, hqs, hst⟩
  obtain ⟨g, cv, ai, ci, rfl, hxl, hcell, hI, hR⟩ := lst_one hst hqs (x := n) (by rw [List.getElem?_map, hma]; rfl)
  have B3 := hB1.trans (hst.bel.mono hB1.size)
  have HR : Hid (RowI w3 w.heap.size ai (bitsL ((maskTo l l.length).getD n 0)).length) := hR.mono hB1.size
  have HI : Hid (Ints w3 ai (bitsL ((maskTo l l.length).getD n 0))) := hI
  have hx1 : (n : Int) < (qs.length : Int) := by omega
  clear hst hs1 hqs hok hgood hI hR hB1 hma HL
  generalize bitsL ((maskTo l l.length).getD n 0) = xs at *
  go_wp2
  go_ret2
  rw [HL2.out]
  exact ⟨ai, ci, rfl, HI.out, HR.out, B3⟩

set_option maxRecDepth 100000 in
set_option maxHeartbeats 2000000 in
theorem implCP_any (procs z : Int) (a : Option Addr) (l : List Ev) (w : World) (hs : Evs w a l) (hl : l.length ≤ maxLen) (hT : TabQ w) {lcap : Nat} (hcap : l.length ≤ lcap := by assumption) :
    Calls Tryd.prog 5 #[.int .i64 procs, .slice a l.length lcap, .int .i64 z] w fun r w' => PAnsB w (cpL procs l z) (thereB procs l z) r w' := by
  go_enter Tryd.func5, Tryd.ntmps5
  go_wp2_with fail
  refine (implGoodEv_any procs a l _ hs hl).mono ?_
  rintro r w1 ⟨hr, hB1⟩
  generalize hg : goodEv procs l = g at hr
  have HG : Hid (goodEv procs l = g) := hg
  clear hg
  subst hr
  have hs1 := hs.below hB1
  unfold maxLen at hl
  clear hs
  cases g with
  | false =>
    have HV : Hid (thereB procs l z = false) := thereB_f (fun h => by rw [HG.out] at h; cases h.1)
    clear hs1
    go_wp2
    go_ret2
    unfold cpL
    rw [HV.out]
    exact pans_nil hB1
  | true =>
  obtain ⟨hok, hpr, h24⟩ := goodEv_t.1 HG.out
  have hwl : IntKind.i64.wrap ((l.length : Int) - 1) = (l.length : Int) - 1 := by simp [IntKind.wrap, IntKind.bits, IntKind.signed]; omega
  generalize hga : inB z 0 ((l.length : Int) - 1) = ga
  have HGA : Hid (inB z 0 ((l.length : Int) - 1) = ga) := hga
  clear hga
  cases ga with
  | false =>
    have HV : Hid (thereB procs l z = false) := thereB_f (fun h => by have := inB_f.1 HGA.out; omega)
    clear hs1
    go_wp2_with (go_at_call 15; refine (withinE _ _ _ _ HGA.out).mono ?_; rintro r w2 ⟨rfl, hw2⟩; rw [hw2]; clear hw2 w2)
    go_ret2
    unfold cpL
    rw [HV.out]
    exact pans_nil hB1
  | true =>
  have ha := inB_t.1 HGA.out
  have HV : Hid (thereB procs l z = true) := thereB_t.2 ⟨HG.out, ha.1, by omega⟩
  obtain ⟨n, rfl⟩ := Int.eq_ofNat_of_zero_le ha.1
  have hnl : n < l.length := by omega
  have hma := mask_at hnl
  have HL2 : Hid (cpL procs l (n : Int) = bitsL ((maskTo l l.length).getD n 0)) := by show _ = _; unfold cpL; rw [HV.out]; rfl
  have hmq : (maskTo l l.length).getD n 0 < 16777216 := maskTo_rg hok h24 l.length (Nat.le_refl _) _ (List.mem_of_getElem? hma)
  have HLEN : Hid ((maskTo l l.length).length = l.length) := maskTo_len l l.length
  have hpst := fun u hu => pastsOf_any procs a l u hu hok h24 hcap
  have hn1 : (n : Int) < ((maskTo l l.length).length : Int) := by have := HLEN.out; omega
  generalize (maskTo l l.length).getD n 0 = mq at *
  generalize maskTo l l.length = ms at *
  clear hok
  go_wp2_with (first
    | (go_at_call 15; refine (withinE _ _ _ _ HGA.out).mono ?_; rintro r w2 ⟨rfl, hw2⟩; rw [hw2]; clear hw2 w2)
    | (go_at_call 16; refine (hpst _ hs1).mono ?_; rintro r w3 ⟨v, rfl, hst⟩; obtain ⟨g, cv, rfl, hcell⟩ := own_set hst.own hma; have B3 := hB1.trans (hst.bel.mono hB1.size); have hT3 := hT.bel B3)
    | (go_at_call 17; refine (list_any mq hmq _ hT3).mono ?_; intro r w4 hz; obtain ⟨ai, ci, rfl, -, -, hI, hR, hB4⟩ := hz.ints))
  have HI : Hid (Ints w4 ai (bitsL mq)) := hI
  have HR : Hid (RowI w4 w.heap.size ai (bitsL mq).length) := hR.mono B3.size
  have HB : Hid (Below w.heap.size w w4) := B3.trans (hB4.mono B3.size)
  clear hI hR hz hB4 B3 hst hcell hT3 hs1
  go_ret2
  rw [HL2.out, HV.out]
  exact ⟨ai, ci, rfl, HI.out, HR.out, HB.out⟩

end Go.Proofs.YtiabgomeogcpnaaDoor
