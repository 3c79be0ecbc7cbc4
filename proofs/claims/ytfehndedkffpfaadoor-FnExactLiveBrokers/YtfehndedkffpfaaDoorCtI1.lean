/-
  The control, the program's side: whether a number is in a list, who lives of some, who leads a part. Made by mkcti.py.
-/
import Derived.Test.YtfehndedkffpfaaDoorCtIM
import Derived.Test.YtfehndedkffpfaaDoorAppZ
import Derived.Test.YtfehndedkffpfaaDoorZan
import Derived.Test.YtfehndedkffpfaaDoorQImpl
import Derived.Deep.RegionHeld3
import Derived.WalkMore
import Derived.Handy
namespace Go.Proofs.YtfehndedkffpfaaDoor
open Go.RowKit

theorem within_c (n hi : Int) (b : Bool) (w : World) (h : inB n 0 hi = b) : Calls Tryd.prog 49 #[.int .i64 n, .int .i64 hi] w fun e w' => e = .returned (.bool b) ∧ w' = w := by
  rw [← h]; exact within_any n hi w

theorem oneUpTo_c (n hi : Int) (b : Bool) (w : World) (h : inB n 1 hi = b) : Calls Tryd.prog 31 #[.int .i64 n, .int .i64 hi] w fun e w' => e = .returned (.bool b) ∧ w' = w := by
  rw [← h]; exact oneUpTo_any n hi w

theorem has_no {zs : List Int} {x : Int} (h : allTo (fun z => !(z == x)) zs zs.length) : zs.contains x = false := by
  rw [Bool.eq_false_iff]
  intro hc
  rw [List.contains_iff_mem] at hc
  obtain ⟨i, hi⟩ := List.getElem?_of_mem hc
  have hl : i < zs.length := by
    by_cases hl : i < zs.length
    · exact hl
    · rw [List.getElem?_eq_none (by omega)] at hi; cases hi
  have := h i x hl hi
  simp at this

set_option maxRecDepth 100000 in
set_option maxHeartbeats 4000000 in
theorem indexZ_any (a : Option Addr) (c : Nat) (zs : List Int) (x : Int) (w : World) (hs : Ints w a zs) (hl : zs.length ≤ maxLen) :
    Calls Tryd.prog 57 #[.slice a zs.length c, .int .i64 x] w fun r w' => (∃ z : Int, r = .returned (.int .i64 z) ∧ (0 ≤ z ↔ x ∈ zs)) ∧ w' = w := by
  unfold maxLen at hl
  go_enter Tryd.func57, Tryd.ntmps57
  go_wp2
  go_loop [8] (fun i => ∃ k : Nat, k ≤ zs.length ∧ i = .int .i64 k ∧ Hid (allTo (fun z => !(z == x)) zs k)) (fun i => zs.length - (intOf i).toNat)
  case atStart => exact ⟨0, Nat.zero_le _, rfl, allTo_zero _ _⟩
  case round =>
    obtain ⟨k, hk, rfl, HO⟩ := hrel
    by_cases hlt : k < zs.length
    · obtain ⟨b, off, rfl, hc⟩ := hs k _ (zA_get hlt)
      have HK : Hid (zs[k]? = some (zA zs k)) := zA_get hlt
      have hki : (k : Int) < (zs.length : Int) := by omega
      clear hs
      generalize zA zs k = y at *
      cases d : (x == y) with
      | true =>
        have HE : Hid (x ∈ zs) := by show _ ∈ _; rw [beq_iff_eq.1 d]; exact List.mem_of_getElem? HK.out
        go_wp2
        go_ret
        exact ⟨⟨_, rfl, ⟨fun _ => HE.out, fun _ => by omega⟩⟩, rfl⟩
      | false =>
        have HN : Hid (allTo (fun z => !(z == x)) zs (k + 1)) := allTo_succ HO.out HK.out (by rw [BEq.comm, d]; rfl)
        go_wp2
        go_round
        case rel => exact ⟨k + 1, by omega, by go_num, HN.out⟩
        case measure => simp [intOf]; omega
    · obtain rfl : k = zs.length := by omega
      have HE : Hid (¬ x ∈ zs) := fun h => by have := has_no HO.out; rw [List.contains_iff_mem.2 h] at this; cases this
      go_wp2
      go_ret
      exact ⟨⟨_, rfl, ⟨fun h => absurd h (by omega), fun h => absurd h HE.out⟩⟩, rfl⟩

theorem containsZ_any (a : Option Addr) (c : Nat) (zs : List Int) (x : Int) (w : World) (hs : Ints w a zs) (hl : zs.length ≤ maxLen) (hb : Bool) (hbe : zs.contains x = hb) :
    Calls Tryd.prog 56 #[.slice a zs.length c, .int .i64 x] w fun e w' => e = .returned (.bool hb) ∧ w' = w := by
  go_enter Tryd.func56, Tryd.ntmps56
  go_wp2_with fail
  refine (indexZ_any _ _ _ _ _ hs hl).mono ?_
  rintro r w1 ⟨⟨z, rfl, hz⟩, rfl⟩
  cases hb with
  | true =>
    have h0 := hz.2 (List.contains_iff_mem.1 hbe)
    clear hz hbe
    go_wp2
    go_ret
    exact ⟨rfl, rfl⟩
  | false =>
    have h0 : z < 0 := by
      by_cases h : 0 ≤ z
      · have := List.contains_iff_mem.2 (hz.1 h); rw [hbe] at this; cases this
      · omega
    clear hz hbe
    go_wp2
    go_ret
    exact ⟨ret_bool (by first | rfl | (simp; omega)), rfl⟩

/-- Numbers that are gathered, how many of them told apart. -/
def ZSn (B : Nat) (w wr : World) (v : Value) (n : Nat) (zs : List Int) : Prop := ZSt B w wr v zs ∧ zs.length = n
theorem ZSn.below {B : Nat} {w wr u : World} {v : Value} {n : Nat} {zs : List Int} (h : ZSn B w wr v n zs) (hb : Below wr.heap.size wr u) : ZSn B w u v n zs := ⟨zst_below h.1 hb, h.2⟩
theorem ZSn.own {B : Nat} {w wr : World} {v : Value} {n : Nat} {zs : List Int} (h : ZSn B w wr v n zs) : wr.ownsRow B 3 1 v n (zCells zs) := h.2 ▸ h.1.own
theorem ZSn.form {B : Nat} {w wr : World} {v : Value} {n : Nat} {zs : List Int} (h : ZSn B w wr v n zs) : ∃ a c, v = .slice a n c := ownsZ_form h.own
theorem ZSn.step {B : Nat} {w u w6 : World} {v : Value} {n : Nat} {zs : List Int} {q : Int} {g2 cap2 : Nat} (h : ZSn B w u v n zs) (hB : w.heap.size ≤ B)
    (hgrow : u.grownBy w6 v.ownBlock) (hown : w6.ownsRow B 3 1 (.slice (some ⟨g2, 0, none⟩) (n + 1) cap2) (n + 1) (zCells zs ++ zCells [q])) :
    ZSn B w w6 (.slice (some ⟨g2, 0, none⟩) (n + 1) cap2) (n + 1) (zs ++ [q]) := by
  obtain ⟨h1, rfl⟩ := h
  exact ⟨zst_step h1 hB hgrow hown, by simp⟩

set_option maxRecDepth 100000 in
set_option maxHeartbeats 4000000 in
theorem livingOf_any (a a2 : Option Addr) (c c2 : Nat) (zs : List Int) (brs : List Br) (w : World) (hz : Ints w a zs) (hl : zs.length ≤ 1000000) (hb : Brs w a2 brs) (_hbl : brs.length ≤ 1000000) (hr : ∀ z, z ∈ zs → 0 ≤ z ∧ z < (brs.length : Int)) :
    Calls Tryd.prog 21 #[.slice a zs.length c, .slice a2 brs.length c2] w fun r w' => ZAns w (livF brs zs) r w' := by
  obtain ⟨i0, hi, hz0, hz1, hz2⟩ := infoZ Tryd.infoInt
  have HR : Hid (∀ z, z ∈ zs → 0 ≤ z ∧ z < (brs.length : Int)) := hr
  clear hr
  go_enter Tryd.func21, Tryd.ntmps21
  go_wp2
  go_loopw [5, 10] (fun v i wr => ∃ (k n : Nat) (ys : List Int), k ≤ zs.length ∧ n ≤ k ∧ i = .int .i64 k ∧ Hid (livF brs (zs.take k) = ys) ∧ ZSn w.heap.size w wr v n ys) (fun _ i _ => zs.length - (intOf i).toNat)
  case atStart => exact ⟨0, 0, [], Nat.zero_le _, Nat.zero_le _, rfl, rfl, ⟨⟨World.ownsRow_nil _ _ _ _, Below.refl _ _⟩, rfl⟩⟩
  case round =>
    obtain ⟨k, n, ys, hk, hnk, rfl, HY, hst⟩ := hrel
    obtain ⟨aw, cw, rfl⟩ := hst.form
    have hB := hst.1.bel
    have hsz := hB.size
    by_cases hlt : k < zs.length
    · obtain ⟨b, off, rfl, hc⟩ := (hz.below hB) k _ (zA_get hlt)
      obtain ⟨f1, f2⟩ := HR.out _ (List.mem_of_getElem? (zA_get hlt))
      obtain ⟨f, hf⟩ : ∃ f : Nat, zA zs k = f := ⟨(zA zs k).toNat, by omega⟩
      have hfn : f < brs.length := by omega
      have HK : Hid (zs[k]? = some (f : Int)) := by show _ = _; rw [zA_get hlt, hf]
      rw [hf] at hc
      have hfi : (f : Int) < (brs.length : Int) := by omega
      have h0f : (0 : Int) ≤ (f : Int) := by omega
      have hki : (k : Int) < (zs.length : Int) := by omega
      obtain ⟨K, O, rfl, -, -, e2⟩ := (hb.below hB) f _ (brA_get hfn)
      obtain ⟨x, hx⟩ : ∃ x, (brA brs f).fenced = x := ⟨_, rfl⟩
      have HV : Hid (live brs (f : Int) = !x) := by show _ = _; unfold live; rw [Int.toNat_natCast, hx]
      rw [hx] at e2
      clear hx f1 f2 hf
      cases x with
      | true =>
        have HN : Hid (livF brs (zs.take (k + 1)) = ys) := (livF_f HK.out HV.out).trans HY.out
        have HS : Hid (ZSn w.heap.size w wr (.slice aw n cw) n ys) := hst
        clear hst
        go_wp2
        go_roundw
        case rel => exact ⟨k + 1, n, ys, by omega, by omega, by go_num, HN.out, HS.out⟩
        case measure => simp [intOf]; omega
      | false =>
        have HN : Hid (livF brs (zs.take (k + 1)) = ys ++ [(f : Int)]) := by show _ = _; rw [livF_t HK.out HV.out, HY.out]
        have hst2 : ∀ x, ZSn w.heap.size w (wr.alloc x) (.slice aw n cw) n ys := fun x => hst.below (alCt wr x)
        clear hst
        go_wp2_with (at_builtin; refine wpList_append_lies _ rfl _ _ 27 rfl w.heap.size 3 i0 _ 1 8 Tryd.underlying27 hi hz0 hz1 hz2 rfl (by decide) (.slice aw n cw) n (zCells ys) rfl (hst2 _).own ⟨wr.heap.size, 0, none⟩ 1 1 (zCells [(f : Int)]) rfl rfl ?c1 ?c2 (by omega) ?c3 ?c4 ?c5 (wr.heap.size + 1) ?c6 ?_)
        case c1 => first | exact (fun j u h => h) | exact World.news_of_block (cs := #[.int .i64 (f : Int)]) (t := 3) (fr := (0, 0)) (by first | exact (heap_alloc_new wr _) | simpa using (heap_alloc_new wr _))
        case c2 => simp [zCells, Value.oneCell']
        case c3 => unfold maxLen; omega
        case c4 => omega
        case c5 => first | omega | (simp; omega)
        try (case c6 => simp)
        intro g4 cap4 w4 hown4 hgrow4 hat4 _
        have HS4 : Hid (ZSn w.heap.size w w4 (.slice (some ⟨g4, 0, none⟩) (n + 1) cap4) (n + 1) (ys ++ [(f : Int)])) := (hst2 _).step (q := (f : Int)) (Nat.le_refl _) hgrow4 hown4
        clear hown4 hgrow4 hat4 hst2
        go_wp2_with fail
        go_roundw
        case rel => exact ⟨k + 1, n + 1, ys ++ [(f : Int)], by omega, by omega, by go_num, HN.out, HS4.out⟩
        case measure => simp [intOf]; omega
    · obtain rfl : k = zs.length := by omega
      have HE : Hid (ZAns w (livF brs zs) (.returned (.slice aw n cw)) wr) := by
        show ZAns _ _ _ _
        have h1 := HY.out
        rw [List.take_length] at h1
        rw [h1]
        exact zans_of hst.1
      go_wp2
      go_ret
      exact HE.out

abbrev pnV (p : Pn) (r0 : Option Addr) (k0 : Nat) (r1 : Option Addr) (k1 : Nat) : Value := .agg #[.slice r0 p.homes.length k0, .slice r1 p.steps.length k1, .int .i64 p.leader, .int .i64 p.epoch, .int .i64 p.stamp]

set_option maxRecDepth 100000 in
set_option maxHeartbeats 4000000 in
theorem leaderFor_any (p : Pn) (brs : List Br) (r0 r1 a2 : Option Addr) (k0 k1 c2 : Nat) (w : World) (h1 : Ints w r1 p.steps) (hb : Brs w a2 brs) (hl : p.steps.length ≤ 1000000) (hbl : brs.length ≤ 1000000) (hr : ∀ z, z ∈ p.steps → 0 ≤ z ∧ z < (brs.length : Int)) :
    Calls Tryd.prog 53 #[pnV p r0 k0 r1 k1, .slice a2 brs.length c2] w fun r w' => r = .returned (.int .i64 (ldrI brs p.leader p.steps)) ∧ Below w.heap.size w w' := by
  have HR : Hid (∀ z, z ∈ p.steps → 0 ≤ z ∧ z < (brs.length : Int)) := hr
  clear hr
  have hlen := livF_len brs p.steps
  obtain ⟨u0, hu0⟩ : ∃ u, (w.alloc (.cells #[.slice r0 p.homes.length k0, .slice r1 p.steps.length k1, .int .i64 p.leader, .int .i64 p.epoch, .int .i64 p.stamp] 61)) = u := ⟨_, rfl⟩
  have kk : u0.cell? ⟨w.heap.size, 0, none⟩ = some (.slice r0 p.homes.length k0) ∧ u0.cell? ⟨w.heap.size, 1, none⟩ = some (.slice r1 p.steps.length k1) ∧ u0.cell? ⟨w.heap.size, 2, none⟩ = some (.int .i64 p.leader) ∧ u0.cell? ⟨w.heap.size, 3, none⟩ = some (.int .i64 p.epoch) ∧ u0.cell? ⟨w.heap.size, 4, none⟩ = some (.int .i64 p.stamp) := by rw [← hu0]; simp [go_sem]
  have bB : Below w.heap.size w u0 := by rw [← hu0]; exact alCt _ _
  cases hq : livF brs p.steps with
  | nil =>
    have HE : Hid (ldrI brs p.leader p.steps = -1) := ldrI_nil hq
    go_enter Tryd.func53, Tryd.ntmps53
    go_wp2_with fail
    try rw [hu0]
    clear hu0
    refine (livingOf_any _ _ _ _ _ _ _ (h1.below bB) hl (hb.below bB) hbl HR.out).mono ?_
    intro r w1 hA
    obtain ⟨av, cv, rfl, -, -, hI, -, hB1⟩ := hA.ints
    clear hA
    have BB := stCt bB hB1
    have q2 := celB hB1 kk.2.2.1
    clear hB1 kk
    rw [hq]
    clear hI
    go_wp2
    go_ret
    exact ⟨ret_int (by rw [HE.out]), BB⟩
  | cons x y =>
    cases hc : (livF brs p.steps).contains p.leader with
    | true =>
      have HE : Hid (ldrI brs p.leader p.steps = p.leader) := ldrI_in hc
      go_enter Tryd.func53, Tryd.ntmps53
      go_wp2_with fail
      try rw [hu0]
      clear hu0
      refine (livingOf_any _ _ _ _ _ _ _ (h1.below bB) hl (hb.below bB) hbl HR.out).mono ?_
      intro r w1 hA
      obtain ⟨av, cv, rfl, -, -, hI, -, hB1⟩ := hA.ints
      clear hA
      have BB := stCt bB hB1
      have q2 := celB hB1 kk.2.2.1
      clear hB1 kk
      have hn0 : ((livF brs p.steps).length : Int) ≠ 0 := by rw [hq]; simp; omega
      have hlm : (livF brs p.steps).length ≤ maxLen := by unfold maxLen; omega
      clear hq
      generalize livF brs p.steps = L at *
      obtain ⟨n, hn⟩ : ∃ n, L.length = n := ⟨_, rfl⟩
      have hC := containsZ_any av cv L p.leader w1 hI hlm true hc
      rw [hn] at hn0 hC ⊢
      have HNN : Hid (L.length = n) := hn
      clear hn hlm hlen hc hI
      have hnb : ((n : Int) == 0) = false := by simpa using hn0
      clear hn0
      go_wp2_with (go_at_call 56; refine hC.mono ?_; rintro e w' ⟨rfl, hw⟩; rw [hw]; clear hw w')
      go_ret
      exact ⟨ret_int (by rw [HE.out]), BB⟩
    | false =>
      have HE : Hid (ldrI brs p.leader p.steps = x) := ldrI_out hq hc
      go_enter Tryd.func53, Tryd.ntmps53
      go_wp2_with fail
      try rw [hu0]
      clear hu0
      refine (livingOf_any _ _ _ _ _ _ _ (h1.below bB) hl (hb.below bB) hbl HR.out).mono ?_
      intro r w1 hA
      obtain ⟨av, cv, rfl, -, -, hI, -, hB1⟩ := hA.ints
      clear hA
      have BB := stCt bB hB1
      have q2 := celB hB1 kk.2.2.1
      clear hB1 kk
      have hI0 := hI 0 x (by rw [hq]; rfl)
      obtain ⟨b, off, rfl, hx0⟩ := hI0
      have hn0 : ((livF brs p.steps).length : Int) ≠ 0 := by rw [hq]; simp; omega
      have hlm : (livF brs p.steps).length ≤ maxLen := by unfold maxLen; omega
      clear hq
      generalize livF brs p.steps = L at *
      obtain ⟨n, hn⟩ : ∃ n, L.length = n := ⟨_, rfl⟩
      have hC := containsZ_any _ cv L p.leader w1 hI hlm false hc
      rw [hn] at hn0 hC ⊢
      clear hn hlm hlen hc hI
      have hnb : ((n : Int) == 0) = false := by simpa using hn0
      have hnp : (0 : Int) < (n : Int) := by omega
      clear hn0
      rw [Nat.add_zero] at hx0
      go_wp2_with (go_at_call 56; refine hC.mono ?_; rintro e w' ⟨rfl, hw⟩; rw [hw]; clear hw w')
      go_ret
      exact ⟨ret_int (by rw [HE.out]), BB⟩

end Go.Proofs.YtfehndedkffpfaaDoor
