/-
  How many pairs of events there are of which neither is ahead: the contracts of spec.Concurrent, impl.Concurrent.
-/
import Derived.Test.YtambbgpofmojnaaDoorCPf
namespace Go.Proofs.YtambbgpofmojnaaDoor
open Go.RowKit

def cnTo (ms : List Nat) : Nat → Int
  | 0 => 0
  | k + 1 => cnTo ms k + ((k : Int) - (bitsL (ms.getD k 0)).length)
theorem cnTo_rg (ms : List Nat) : ∀ k : Nat, k ≤ 24 → -(24 * (k : Int)) ≤ cnTo ms k ∧ cnTo ms k ≤ 24 * (k : Int)
  | 0, _ => by simp [cnTo]
  | k + 1, h => by
    have ih := cnTo_rg ms k (by omega)
    have hb := bitsL_len (ms.getD k 0)
    rw [cnTo]; omega
def cnV (procs : Int) (l : List Ev) : Int := if goodEv procs l then cnTo (maskTo l l.length) l.length else 0

set_option maxRecDepth 100000 in
set_option maxHeartbeats 2000000 in
theorem specCn_any (procs : Int) (a : Option Addr) (l : List Ev) (w : World) (hs : Evs w a l) (hl : l.length ≤ maxLen) :
    Calls Tryd.prog 14 #[.int .i64 procs, .slice a l.length l.length] w fun r w' => r = .returned (.tuple #[.int .i64 (cnV procs l), .bool (goodEv procs l)]) ∧ Below w.heap.size w w' := by
  go_enter Tryd.func14, Tryd.ntmps14
  go_wp2_with fail
  refine (specGoodEv_any procs a l _ hs hl).mono ?_
  rintro r w1 ⟨hr, hB1⟩
  generalize hg : goodEv procs l = g at hr
  have HG : Hid (goodEv procs l = g) := hg
  have HL : Hid (cnV procs l = if g then cnTo (maskTo l l.length) l.length else 0) := by show _ = _; unfold cnV; rw [hg]
  clear hg
  subst hr
  have hs1 := hs.below hB1
  clear hs
  cases g with
  | false =>
    clear hs1
    go_wp2
    go_ret2
    exact ⟨by rw [HL.out, HG.out]; rfl, hB1⟩
  | true =>
  obtain ⟨hok, hpr, h24⟩ := goodEv_t.1 HG.out
  go_wp2_with fail
  refine (l7Pasts_any procs a l _ hs1 hok h24).mono ?_
  rintro r w3 ⟨v, qs, rfl, hqs, hst⟩
  have B3 := hB1.trans (hst.bel.mono hB1.size)
  have hone : ∀ x, x < l.length → ∃ g c ai ci, v = .slice (some ⟨g, 0, none⟩) qs.length c ∧ x < qs.length ∧ w3.cell? ⟨g, x, none⟩ = some (.slice ai (bitsL ((maskTo l l.length).getD x 0)).length ci) := fun x hx => by
    obtain ⟨g, cv, ai, ci, e, hxl, hcell, -, -⟩ := lst_one hst hqs (x := x) (by rw [List.getElem?_map, mask_at hx]; rfl)
    exact ⟨g, cv, ai, ci, e, hxl, hcell⟩
  clear hok hs1 hqs hB1
  obtain ⟨av, cv, rfl, -, -⟩ := ownsZ_cap hst.own
  clear hst
  generalize maskTo l l.length = ms at *
  go_wp2
  go_loop [7, 17] (fun n i => ∃ k : Nat, k ≤ l.length ∧ i = .int .i64 k ∧ ∃ x, n = .int .i64 x ∧ cnTo ms k = x) (fun _ i => l.length - (intOf i).toNat)
  case atStart => exact ⟨0, Nat.zero_le _, rfl, 0, rfl, rfl⟩
  case round =>
    obtain ⟨k, hk, rfl, n, rfl, hn⟩ := hrel
    have hrg := cnTo_rg ms k (by omega)
    rw [hn] at hrg
    by_cases hlt : k < l.length
    · obtain ⟨g, c, ai, ci, e, hxl, hcell⟩ := hone k hlt
      simp only [Value.slice.injEq] at e
      obtain ⟨rfl, -, rfl⟩ := e
      have hb := bitsL_len (ms.getD k 0)
      have HN : Hid (cnTo ms (k + 1) = n + ((k : Int) - (bitsL (ms.getD k 0)).length)) := by show _ = _; rw [cnTo, hn]
      have hk1 : (k : Int) < (qs.length : Int) := by omega
      clear hone hn
      generalize (bitsL (ms.getD k 0)).length = m at *
      go_wp2
      go_round
      case rel => exact ⟨k + 1, by omega, by go_num, _, rfl, by rw [HN.out]⟩
      case measure => simp [intOf]; omega
    · obtain rfl : k = l.length := by omega
      have HR : Hid (cnV procs l = n) := by show _ = _; rw [HL.out]; exact hn
      clear hone hn HL
      go_wp2
      go_ret2
      exact ⟨by rw [HR.out, HG.out]; rfl, B3⟩

set_option maxRecDepth 100000 in
set_option maxHeartbeats 2000000 in
theorem implCn_any (procs : Int) (a : Option Addr) (l : List Ev) (w : World) (hs : Evs w a l) (hl : l.length ≤ maxLen) (hT : TabQ w) :
    Calls Tryd.prog 15 #[.int .i64 procs, .slice a l.length l.length] w fun r w' => r = .returned (.tuple #[.int .i64 (cnV procs l), .bool (goodEv procs l)]) ∧ Below w.heap.size w w' := by
  go_enter Tryd.func15, Tryd.ntmps15
  go_wp2_with fail
  refine (implGoodEv_any procs a l _ hs hl).mono ?_
  rintro r w1 ⟨hr, hB1⟩
  generalize hg : goodEv procs l = g at hr
  have HG : Hid (goodEv procs l = g) := hg
  have HL : Hid (cnV procs l = if g then cnTo (maskTo l l.length) l.length else 0) := by show _ = _; unfold cnV; rw [hg]
  clear hg
  subst hr
  have hs1 := hs.below hB1
  clear hs
  cases g with
  | false =>
    clear hs1
    go_wp2
    go_ret2
    exact ⟨by rw [HL.out, HG.out]; rfl, hB1⟩
  | true =>
  obtain ⟨hok, hpr, h24⟩ := goodEv_t.1 HG.out
  have hmr := maskTo_rg hok h24 l.length (Nat.le_refl _)
  have HLEN : Hid ((maskTo l l.length).length = l.length) := maskTo_len l l.length
  have hml : (maskTo l l.length).length ≤ 24 := by have := HLEN.out; omega
  have HL2 : Hid (cnV procs l = cnTo (maskTo l l.length) (maskTo l l.length).length) := by show _ = _; rw [HLEN.out]; exact HL.out
  go_wp2_with fail
  refine (pastsOf_any procs a l _ hs1 hok h24).mono ?_
  rintro r w3 ⟨v, rfl, hst⟩
  have B3 := hB1.trans (hst.bel.mono hB1.size)
  clear hok hs1 HL HLEN hB1
  generalize maskTo l l.length = ms at *
  obtain ⟨av, cv, rfl, -, -⟩ := ownsZ_cap hst.own
  have hown := hst.own
  clear hst
  go_wp2
  go_loopw [6, 16] (fun n i wr => ∃ k : Nat, k ≤ ms.length ∧ i = .int .i64 k ∧ (∃ x, n = .int .i64 x ∧ cnTo ms k = x) ∧ Below w3.heap.size w3 wr) (fun _ i _ => ms.length - (intOf i).toNat)
  case atStart => exact ⟨0, Nat.zero_le _, rfl, ⟨0, rfl, rfl⟩, Below.refl _ _⟩
  case round =>
    obtain ⟨k, hk, rfl, ⟨n, rfl, hn⟩, hB⟩ := hrel
    have hrg := cnTo_rg ms k (by omega)
    rw [hn] at hrg
    have BW := B3.trans (hB.mono B3.size)
    by_cases hlt : k < ms.length
    · have hmk : ms[k]? = some (ms.getD k 0) := by rw [List.getD_eq_getElem?_getD, List.getElem?_eq_getElem hlt]; rfl
      obtain ⟨g, rfl, hc0⟩ := own_cell hown hlt hmk
      have hcell := (hB.cell (p := ⟨g, k, none⟩) (lt_of_cell hc0)).trans hc0
      have hmq : ms.getD k 0 < 16777216 := hmr _ (List.mem_of_getElem? hmk)
      have hb := bitsL_len (ms.getD k 0)
      have HN : Hid (cnTo ms (k + 1) = n + ((k : Int) - (bitsL (ms.getD k 0)).length)) := by show _ = _; rw [cnTo, hn]
      have hal : ∀ o, Below wr.heap.size wr (wr.alloc o) := fun o => (Below.refl _ _).alloc (Nat.le_refl _) o
      have hT2 := fun o => (hT.bel BW).bel (hal o)
      have HB2 : Hid (∀ o u, Below (wr.alloc o).heap.size (wr.alloc o) u → Below w3.heap.size w3 u) := fun o u hu => (hB.trans ((hal o).mono hB.size)).trans (hu.mono (by have := hB.size; simp; omega))
      clear hown hc0 hmk hmr hn hB BW
      generalize ms.getD k 0 = mq at *
      go_wp2_with fail
      refine (list_any mq hmq _ (hT2 _)).mono ?_
      intro r w4 hz
      obtain ⟨ai, ci, rfl, -, -, -, -, hB4⟩ := hz.ints
      have hB5 := HB2.out _ _ hB4
      clear hz hB4 hT2 HB2
      generalize (bitsL mq).length = m at *
      go_wp2
      go_roundw
      case rel => exact ⟨k + 1, by omega, by go_num, ⟨_, rfl, by rw [HN.out]⟩, hB5⟩
      case measure => simp [intOf]; omega
    · obtain rfl : k = ms.length := by omega
      have HR : Hid (cnV procs l = n) := by show _ = _; rw [HL2.out]; exact hn
      clear hn HL2 hown
      go_wp2
      go_ret2
      exact ⟨by rw [HR.out, HG.out]; rfl, BW⟩

end Go.Proofs.YtambbgpofmojnaaDoor
