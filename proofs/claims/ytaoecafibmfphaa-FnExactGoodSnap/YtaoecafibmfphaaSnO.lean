/-
  Worlds of chapter 8: OnWay and PictureOf, both sides.
-/
import Derived.Test.YtaoecafibmfphaaSnI6
import Derived.Test.YtaoecafibmfphaaSnS3
namespace Go.Proofs.Ytaoecafibmfphaa
open Go.RowKit

def onA (s : Sn) : Int := if goodSn s then onW s.chs else 0

set_option maxRecDepth 100000 in
set_option maxHeartbeats 2000000 in
theorem implOnWay_any (s : Sn) (a0 a1 a2 : Option Addr) (c0 c1 c2 : Nat) (w : World) (hs : SnR w s a0 a1 a2) (hl : SnB s) :
    Calls Try.prog 36 #[snV s a0 c0 a1 c1 a2 c2] w fun e w' => e = .returned (.tuple #[.int .i64 (onA s), .bool (goodSn s)]) ∧ Below w.heap.size w w' := by
  obtain ⟨u0, hu0⟩ : ∃ u0, (w.alloc (.cells #[.slice a0 s.am.length c0, .slice a1 s.chs.length c1, .slice a2 s.pcs.length c2, .int .i64 s.sent, .int .i64 s.total] 26)) = u0 := ⟨_, rfl⟩
  have kk : u0.cell? ⟨w.heap.size, 0, none⟩ = some (.slice a0 s.am.length c0) ∧ u0.cell? ⟨w.heap.size, 1, none⟩ = some (.slice a1 s.chs.length c1) ∧ u0.cell? ⟨w.heap.size, 2, none⟩ = some (.slice a2 s.pcs.length c2) ∧ u0.cell? ⟨w.heap.size, 3, none⟩ = some (.int .i64 s.sent) ∧ u0.cell? ⟨w.heap.size, 4, none⟩ = some (.int .i64 s.total) := by rw [← hu0]; simp [go_sem]
  have bB : Below w.heap.size w u0 := by rw [← hu0]; exact alB _ _
  have hs0 := hs.below bB
  have qq := kk
  obtain ⟨q0, q1, q2, q3, q4⟩ := qq
  generalize hg : goodSn s = g
  have HG : Hid (goodSn s = g) := hg
  clear hg
  go_enter Try.func36, Try.ntmps36
  go_wp2_with fail
  clear hu0 hs q0 q1 q2 q3 q4
  refine (implGoodSn_any s _ _ _ _ _ _ _ hs0 hl).mono ?_
  rintro r w1 ⟨hr, hB⟩
  rw [HG.out] at hr
  subst hr
  have kk1 := five8 hB kk
  have hs1 := hs0.below hB
  have BW := stB bB hB
  obtain ⟨q0, q1, q2, q3, q4⟩ := kk1
  clear kk hs0 hB
  cases g with
  | false =>
    have HA : Hid (onA s = 0) := by show _ = _; unfold onA; rw [HG.out]; rfl
    go_wp2
    exact bodyPost_ret (v := .tuple #[.int .i64 0, .bool false]) (by simp [results, Try.results36, go_sem]) rfl ⟨by rw [HA.out], BW⟩
  | true =>
    have hG := goodSn_g HG.out
    have HA : Hid (onA s = onW s.chs) := by show _ = _; unfold onA; rw [HG.out]; rfl
    go_wp2_with fail
    refine (onWays_any _ _ _ _ hs1.chs (by have := hG.chs16; omega) (goodChs_ways hG.chs)).mono ?_
    rintro r w2 ⟨rfl, hB2⟩
    replace BW := stB BW hB2
    clear hB2
    go_wp2
    exact bodyPost_ret (v := .tuple #[.int .i64 (onW s.chs), .bool true]) (by simp [results, Try.results36, go_sem]) rfl ⟨by rw [HA.out], BW⟩

set_option maxRecDepth 100000 in
set_option maxHeartbeats 2000000 in
theorem specOnWay_any (s : Sn) (a0 a1 a2 : Option Addr) (c0 c1 c2 : Nat) (w : World) (hs : SnR w s a0 a1 a2) (hl : SnB s) :
    Calls Try.prog 35 #[snV s a0 c0 a1 c1 a2 c2] w fun e w' => e = .returned (.tuple #[.int .i64 (onA s), .bool (goodSn s)]) ∧ Below w.heap.size w w' := by
  obtain ⟨u0, hu0⟩ : ∃ u0, (w.alloc (.cells #[.slice a0 s.am.length c0, .slice a1 s.chs.length c1, .slice a2 s.pcs.length c2, .int .i64 s.sent, .int .i64 s.total] 26)) = u0 := ⟨_, rfl⟩
  have kk : u0.cell? ⟨w.heap.size, 0, none⟩ = some (.slice a0 s.am.length c0) ∧ u0.cell? ⟨w.heap.size, 1, none⟩ = some (.slice a1 s.chs.length c1) ∧ u0.cell? ⟨w.heap.size, 2, none⟩ = some (.slice a2 s.pcs.length c2) ∧ u0.cell? ⟨w.heap.size, 3, none⟩ = some (.int .i64 s.sent) ∧ u0.cell? ⟨w.heap.size, 4, none⟩ = some (.int .i64 s.total) := by rw [← hu0]; simp [go_sem]
  have bB : Below w.heap.size w u0 := by rw [← hu0]; exact alB _ _
  have hs0 := hs.below bB
  have qq := kk
  obtain ⟨q0, q1, q2, q3, q4⟩ := qq
  generalize hg : goodSn s = g
  have HG : Hid (goodSn s = g) := hg
  clear hg
  go_enter Try.func35, Try.ntmps35
  go_wp2_with fail
  clear hu0 hs q0 q1 q2 q3 q4
  refine (specGoodSn_any s _ _ _ _ _ _ _ hs0 hl).mono ?_
  rintro r w1 ⟨hr, hB⟩
  rw [HG.out] at hr
  subst hr
  have kk1 := five8 hB kk
  have hs1 := hs0.below hB
  have BW := stB bB hB
  obtain ⟨q0, q1, q2, q3, q4⟩ := kk1
  clear kk hs0 hB
  cases g with
  | false =>
    have HA : Hid (onA s = 0) := by show _ = _; unfold onA; rw [HG.out]; rfl
    go_wp2
    exact bodyPost_ret (v := .tuple #[.int .i64 0, .bool false]) (by simp [results, Try.results35, go_sem]) rfl ⟨by rw [HA.out], BW⟩
  | true =>
    have hG := goodSn_g HG.out
    have HA : Hid (onA s = onW s.chs) := by show _ = _; unfold onA; rw [HG.out]; rfl
    go_wp2_with fail
    refine (l8OnWay_any s _ _ _ _ _ _ _ hs1.chs (by have := hG.chs16; omega) (goodChs_ways hG.chs)).mono ?_
    rintro r w2 ⟨rfl, hB2⟩
    replace BW := stB BW hB2
    clear hB2
    go_wp2
    exact bodyPost_ret (v := .tuple #[.int .i64 (onW s.chs), .bool true]) (by simp [results, Try.results35, go_sem]) rfl ⟨by rw [HA.out], BW⟩

/-- All that the first k pictures have. -/
def picTo (l : List Pc) : Nat → Int
  | 0 => 0
  | k + 1 => picTo l k + ((pcA l k).am + sumI (pcA l k).ins)
def wholeTo (l : List Pc) (k : Nat) : Prop := ∀ i, i < k → hasB (pcA l i).cl false = false
instance (l : List Pc) (k : Nat) : Decidable (wholeTo l k) := by unfold wholeTo; infer_instance
def wholeB (s : Sn) : Bool := goodSn s && decide (wholeTo s.pcs s.pcs.length)
def picA (s : Sn) : Int := if wholeB s then picTo s.pcs s.pcs.length else 0

theorem wholeTo_succ {l : List Pc} {k : Nat} (h : wholeTo l k) (h0 : hasB (pcA l k).cl false = false) : wholeTo l (k + 1) := fun i hi' => by
  by_cases e : i = k
  · subst e; exact h0
  · exact h i (by omega)

theorem picA_no {s : Sn} {k : Nat} (hk : k < s.pcs.length) (h : hasB (pcA s.pcs k).cl false = true) : wholeB s = false ∧ picA s = 0 := by
  have e : wholeB s = false := by
    unfold wholeB
    rw [decide_eq_false (fun g => by have := g k hk; rw [h] at this; cases this)]; simp
  exact ⟨e, by unfold picA; rw [e]; rfl⟩
theorem picA_bad {s : Sn} (h : goodSn s = false) : wholeB s = false ∧ picA s = 0 := by
  have e : wholeB s = false := by unfold wholeB; rw [h]; rfl
  exact ⟨e, by unfold picA; rw [e]; rfl⟩
theorem picA_yes {s : Sn} (h : goodSn s = true) (h2 : wholeTo s.pcs s.pcs.length) : wholeB s = true ∧ picA s = picTo s.pcs s.pcs.length := by
  have e : wholeB s = true := by unfold wholeB; rw [h, decide_eq_true h2]; rfl
  exact ⟨e, by unfold picA; rw [e]; rfl⟩

structure PcOk (p : Pc) (n : Nat) : Prop where
  am0 : 0 ≤ p.am
  am1 : p.am ≤ 1000
  li : p.ins.length = n
  lc : p.cl.length = n
  ins : allTo p.ins 1000000 p.ins.length

theorem pcOk_of {s : Sn} (h : SnG s) {k : Nat} (hk : k < s.pcs.length) : PcOk (pcA s.pcs k) s.am.length := by
  obtain ⟨h1, h2⟩ := goodPcs_t.1 h.pcs
  have h3 := h2 k hk
  obtain ⟨l1, l2, l3, -⟩ := (goodPc_iff (by omega)).1 h3 |>.1
  have l4 := inB_t.1 l3
  exact ⟨l4.1, l4.2, l1, l2, fun i hi => inB_t.1 (((goodPc_iff (by omega)).1 h3).2 i hi).1⟩

theorem PcOk.sum {p : Pc} {n k : Nat} (h : PcOk p n) (hn : n ≤ 4) (hk : k ≤ p.ins.length) : 0 ≤ sumTo p.ins k ∧ sumTo p.ins k ≤ 4000000 := by
  have := sumTo_rg k (fun i hi => h.ins i (by omega)) (by omega)
  have := h.li
  omega

theorem picTo_rg {s : Sn} (h : SnG s) : ∀ k, k ≤ s.pcs.length → 0 ≤ picTo s.pcs k ∧ picTo s.pcs k ≤ 4001000 * k
  | 0, _ => by simp [picTo]
  | k + 1, hk => by
    have h1 := picTo_rg h k (by omega)
    have h2 := pcOk_of h (k := k) (by omega)
    have h3 := h2.sum h.n4 (Nat.le_refl _)
    have h4 := h2.am0
    have h5 := h2.am1
    rw [picTo]
    unfold sumI
    omega

set_option maxRecDepth 100000 in
set_option maxHeartbeats 4000000 in
theorem implPicOf_any (s : Sn) (a0 a1 a2 : Option Addr) (c0 c1 c2 : Nat) (w : World) (hs : SnR w s a0 a1 a2) (hl : SnB s) :
    Calls Try.prog 32 #[snV s a0 c0 a1 c1 a2 c2] w fun e w' => e = .returned (.tuple #[.int .i64 (picA s), .bool (wholeB s)]) ∧ Below w.heap.size w w' := by
  obtain ⟨u0, hu0⟩ : ∃ u0, (w.alloc (.cells #[.slice a0 s.am.length c0, .slice a1 s.chs.length c1, .slice a2 s.pcs.length c2, .int .i64 s.sent, .int .i64 s.total] 26)) = u0 := ⟨_, rfl⟩
  have kk : u0.cell? ⟨w.heap.size, 0, none⟩ = some (.slice a0 s.am.length c0) ∧ u0.cell? ⟨w.heap.size, 1, none⟩ = some (.slice a1 s.chs.length c1) ∧ u0.cell? ⟨w.heap.size, 2, none⟩ = some (.slice a2 s.pcs.length c2) ∧ u0.cell? ⟨w.heap.size, 3, none⟩ = some (.int .i64 s.sent) ∧ u0.cell? ⟨w.heap.size, 4, none⟩ = some (.int .i64 s.total) := by rw [← hu0]; simp [go_sem]
  have bB : Below w.heap.size w u0 := by rw [← hu0]; exact alB _ _
  have hs0 := hs.below bB
  have qq := kk
  obtain ⟨q0, q1, q2, q3, q4⟩ := qq
  generalize hg : goodSn s = g
  have HG : Hid (goodSn s = g) := hg
  clear hg
  go_enter Try.func32, Try.ntmps32
  go_wp2_with fail
  clear hu0 hs q0 q1 q2 q3 q4
  refine (implGoodSn_any s _ _ _ _ _ _ _ hs0 hl).mono ?_
  rintro r w1 ⟨hr, hB⟩
  rw [HG.out] at hr
  subst hr
  have kk1 := five8 hB kk
  have hs1 := hs0.below hB
  have BW := stB bB hB
  obtain ⟨q0, q1, q2, q3, q4⟩ := kk1
  clear kk hs0 hB
  cases g with
  | false =>
    have HA : Hid (wholeB s = false ∧ picA s = 0) := picA_bad HG.out
    go_wp2
    exact bodyPost_ret (v := .tuple #[.int .i64 0, .bool false]) (by simp [results, Try.results32, go_sem]) rfl ⟨by rw [HA.out.1, HA.out.2], BW⟩
  | true =>
    have hG := goodSn_g HG.out
    have HSG : Hid (SnG s) := hG
    have hn4 := hG.n4
    have hpl : s.pcs.length = s.am.length := (goodPcs_t.1 hG.pcs).1
    have HPL : Hid (s.pcs.length = s.am.length) := hpl
    have hp4 : s.pcs.length ≤ 4 := by omega
    clear hG hpl
    go_wp2
    go_loopw [4, 13] (fun x y wr => ∃ k : Nat, k ≤ s.pcs.length ∧ x = .int .i64 (picTo s.pcs k) ∧ y = .int .i64 k ∧ wholeTo s.pcs k ∧ Below w1.heap.size w1 wr) (fun _ y _ => s.pcs.length - (intOf y).toNat)
    case atStart => exact ⟨0, Nat.zero_le _, rfl, rfl, fun i hi => absurd hi (Nat.not_lt_zero _), Below.refl _ _⟩
    case round =>
      obtain ⟨k, hk, rfl, rfl, hwh, hB⟩ := hrel
      have HW : Hid (wholeTo s.pcs k) := hwh
      clear hwh
      by_cases hlt : k < s.pcs.length
      · obtain ⟨kb, ob, rfl, r2, k2, r3, k3, d0, d1, d2, d3, x2, m2, x3, m3⟩ := (hs1.below hB).pcs k _ (pcA_get hlt)
        have hok := pcOk_of HSG.out hlt
        have h1 := picTo_rg HSG.out k hk
        have h2 := hok.sum hn4 (Nat.le_refl _)
        have h3 := hok.am0
        have h4 := hok.am1
        have h5 := hok.ins
        have h6 : (pcA s.pcs k).ins.length ≤ 1000 := by have := hok.li; omega
        have HN : Hid (picTo s.pcs (k + 1) = picTo s.pcs k + ((pcA s.pcs k).am + sumI (pcA s.pcs k).ins)) := rfl
        obtain ⟨p, hp⟩ : ∃ p, pcA s.pcs k = p := ⟨_, rfl⟩
        have HP : Hid (pcA s.pcs k = p) := hp
        rw [hp] at d0 d1 d2 d3 x2 m2 x3 m3 h2 h3 h4 h5 h6 HN
        replace h2 : 0 ≤ sumI p.ins ∧ sumI p.ins ≤ 4000000 := h2
        have BN : ∀ o, Below w1.heap.size w1 (wr.alloc o) := fun o => hB.alloc hB.size o
        have y3 : ∀ o, Bools (wr.alloc o) r3 p.cl := fun o => x3.below (alB wr o)
        have y2 : ∀ o n, Ints ((wr.alloc o).drewN n) r2 p.ins := fun o n => x2.below (below_drewN (alB wr o) n)
        clear hp hok x2 x3 hs1
        cases Gk : hasB p.cl false with
        | true =>
          have HA : Hid (wholeB s = false ∧ picA s = 0) := picA_no hlt (by rw [HP.out]; exact Gk)
          go_wp2_with (go_at_call 74; refine (containsB_any _ _ _ _ _ (y3 _) m3).mono ?_; rintro e w' ⟨he, rfl⟩; rw [Gk] at he; subst he)
          exact bodyPost_ret (v := .tuple #[.int .i64 0, .bool false]) (by simp [results, Try.results32, go_sem]) rfl ⟨by rw [HA.out.1, HA.out.2], stB BW (BN _)⟩
        | false =>
          have HX : Hid (wholeTo s.pcs (k + 1)) := wholeTo_succ HW.out (by rw [HP.out]; exact Gk)
          go_wp2_with (go_at_call 74; refine (containsB_any _ _ _ _ _ (y3 _) m3).mono ?_; rintro e w' ⟨he, rfl⟩; rw [Gk] at he; subst he)
          go_quiet ((go_at_call 65; exact Calls.quiet_of_same (together_any _ _ _ _ (y2 _ _) h6 h5)))
          go_wp2
          go_roundw
          case rel => exact ⟨k + 1, by omega, by rw [HN.out], by go_num, HX.out, below_drewN (BN _) _⟩
          case measure => simp [intOf]; omega
      · obtain rfl : k = s.pcs.length := by omega
        have HA : Hid (wholeB s = true ∧ picA s = picTo s.pcs s.pcs.length) := picA_yes HG.out HW.out
        go_wp2
        exact bodyPost_ret (v := .tuple #[.int .i64 (picTo s.pcs s.pcs.length), .bool true]) (by simp [results, Try.results32, go_sem]) rfl ⟨by rw [HA.out.1, HA.out.2], stB BW hB⟩

set_option maxRecDepth 100000 in
set_option maxHeartbeats 4000000 in
theorem specPicOf_any (s : Sn) (a0 a1 a2 : Option Addr) (c0 c1 c2 : Nat) (w : World) (hs : SnR w s a0 a1 a2) (hl : SnB s) :
    Calls Try.prog 31 #[snV s a0 c0 a1 c1 a2 c2] w fun e w' => e = .returned (.tuple #[.int .i64 (picA s), .bool (wholeB s)]) ∧ Below w.heap.size w w' := by
  obtain ⟨u0, hu0⟩ : ∃ u0, (w.alloc (.cells #[.slice a0 s.am.length c0, .slice a1 s.chs.length c1, .slice a2 s.pcs.length c2, .int .i64 s.sent, .int .i64 s.total] 26)) = u0 := ⟨_, rfl⟩
  have kk : u0.cell? ⟨w.heap.size, 0, none⟩ = some (.slice a0 s.am.length c0) ∧ u0.cell? ⟨w.heap.size, 1, none⟩ = some (.slice a1 s.chs.length c1) ∧ u0.cell? ⟨w.heap.size, 2, none⟩ = some (.slice a2 s.pcs.length c2) ∧ u0.cell? ⟨w.heap.size, 3, none⟩ = some (.int .i64 s.sent) ∧ u0.cell? ⟨w.heap.size, 4, none⟩ = some (.int .i64 s.total) := by rw [← hu0]; simp [go_sem]
  have bB : Below w.heap.size w u0 := by rw [← hu0]; exact alB _ _
  have hs0 := hs.below bB
  have qq := kk
  obtain ⟨q0, q1, q2, q3, q4⟩ := qq
  generalize hg : goodSn s = g
  have HG : Hid (goodSn s = g) := hg
  clear hg
  go_enter Try.func31, Try.ntmps31
  go_wp2_with fail
  clear hu0 hs q0 q1 q2 q3 q4
  refine (specGoodSn_any s _ _ _ _ _ _ _ hs0 hl).mono ?_
  rintro r w1 ⟨hr, hB⟩
  rw [HG.out] at hr
  subst hr
  have kk1 := five8 hB kk
  have hs1 := hs0.below hB
  have BW := stB bB hB
  obtain ⟨q0, q1, q2, q3, q4⟩ := kk1
  clear kk hs0 hB
  cases g with
  | false =>
    have HA : Hid (wholeB s = false ∧ picA s = 0) := picA_bad HG.out
    go_wp2
    exact bodyPost_ret (v := .tuple #[.int .i64 0, .bool false]) (by simp [results, Try.results31, go_sem]) rfl ⟨by rw [HA.out.1, HA.out.2], BW⟩
  | true =>
    have hG := goodSn_g HG.out
    have HSG : Hid (SnG s) := hG
    have hn4 := hG.n4
    have hpl : s.pcs.length = s.am.length := (goodPcs_t.1 hG.pcs).1
    have hp4 : s.pcs.length ≤ 4 := by omega
    clear hG hpl
    go_wp2
    go_loopw [4, 15] (fun x y wr => ∃ k : Nat, k ≤ s.pcs.length ∧ x = .int .i64 (picTo s.pcs k) ∧ y = .int .i64 k ∧ wholeTo s.pcs k ∧ Below w1.heap.size w1 wr) (fun _ y _ => s.pcs.length - (intOf y).toNat)
    case atStart => exact ⟨0, Nat.zero_le _, rfl, rfl, fun i hi => absurd hi (Nat.not_lt_zero _), Below.refl _ _⟩
    case round =>
      obtain ⟨k, hk, rfl, rfl, hwh, hB⟩ := hrel
      have HW : Hid (wholeTo s.pcs k) := hwh
      clear hwh
      by_cases hlt : k < s.pcs.length
      · obtain ⟨kb, ob, rfl, r2, k2, r3, k3, d0, d1, d2, d3, x2, m2, x3, m3⟩ := (hs1.below hB).pcs k _ (pcA_get hlt)
        have hok := pcOk_of HSG.out hlt
        have h1 := picTo_rg HSG.out k hk
        have HS : Hid (∀ j, j ≤ (pcA s.pcs k).ins.length → 0 ≤ sumTo (pcA s.pcs k).ins j ∧ sumTo (pcA s.pcs k).ins j ≤ 4000000) := fun j hj => hok.sum hn4 hj
        have h3 := hok.am0
        have h4 := hok.am1
        have HI : Hid (allTo (pcA s.pcs k).ins 1000000 (pcA s.pcs k).ins.length) := hok.ins
        have HLL : Hid ((pcA s.pcs k).cl.length = (pcA s.pcs k).ins.length) := hok.lc.trans hok.li.symm
        have HN : Hid (picTo s.pcs (k + 1) = picTo s.pcs k + ((pcA s.pcs k).am + sumI (pcA s.pcs k).ins)) := rfl
        obtain ⟨p, hp⟩ : ∃ p, pcA s.pcs k = p := ⟨_, rfl⟩
        have HP : Hid (pcA s.pcs k = p) := hp
        rw [hp] at d0 d1 d2 d3 x2 m2 x3 m3 h3 h4 HN HS HI HLL
        have BN : ∀ o, Below w1.heap.size w1 (wr.alloc o) := fun o => hB.alloc hB.size o
        unfold maxLen at m2 m3
        clear hp hok hs1
        go_wp2
        obtain ⟨cb, hcb⟩ : ∃ cb, (wr.alloc (.cells #[.bool p.tk, .int .i64 p.am, .slice r2 p.ins.length k2, .slice r3 p.cl.length k3] 65)) = cb := ⟨_, rfl⟩
        have v1 : cb.cell? ⟨wr.heap.size, 1, none⟩ = some (.int .i64 p.am) := by rw [← hcb]; simp [go_sem]
        have v2 : cb.cell? ⟨wr.heap.size, 2, none⟩ = some (.slice r2 p.ins.length k2) := by rw [← hcb]; simp [go_sem]
        have bC : Below wr.heap.size wr cb := by rw [← hcb]; exact alB _ _
        rw [hcb]
        clear hcb
        replace x2 := x2.below bC
        replace x3 := x3.below bC
        have BC := stB hB bC
        clear d0 d1 d2 d3 BN bC
        go_loop [4, 22] (fun x y => ∃ j : Nat, j ≤ p.cl.length ∧ x = .int .i64 (picTo s.pcs k + sumTo p.ins j) ∧ y = .int .i64 j ∧ hasTo p.cl false j) (fun _ y => p.cl.length - (intOf y).toNat)
        case atStart => exact ⟨0, Nat.zero_le _, by simp [sumTo], rfl, fun i hi => absurd hi (Nat.not_lt_zero _)⟩
        case round =>
          obtain ⟨j, hj, rfl, rfl, hha⟩ := hrel
          have HH : Hid (hasTo p.cl false j) := hha
          clear hha
          have h5 := HS.out j (by have := HLL.out; omega)
          by_cases hlt2 : j < p.cl.length
          · have hlt3 : j < p.ins.length := by have := HLL.out; omega
            obtain ⟨b3, o3, rfl, hc3⟩ := x3 j _ (boA_get hlt2)
            obtain ⟨b2, o2, rfl, hc2⟩ := x2 j _ (zA_get hlt3)
            have h6 := HI.out j hlt3
            have hj3 : (j : Int) < (p.ins.length : Int) := by omega
            have HT : Hid (sumTo p.ins (j + 1) = sumTo p.ins j + zA p.ins j) := rfl
            clear x2 x3
            cases hb : boA p.cl j with
            | false =>
              rw [hb] at hc3
              have HA : Hid (wholeB s = false ∧ picA s = 0) := picA_no hlt (by rw [HP.out]; exact has_t hlt2 hb)
              clear hb
              go_wp2
              exact bodyPost_ret (v := .tuple #[.int .i64 0, .bool false]) (by simp [results, Try.results31, go_sem]) rfl ⟨by rw [HA.out.1, HA.out.2], stB BW BC⟩
            | true =>
              rw [hb] at hc3
              have HX : Hid (hasTo p.cl false (j + 1)) := fun i hi => by
                by_cases e : i = j
                · subst e; rw [hb]; simp
                · exact HH.out i (by omega)
              clear hb
              go_wp2
              go_round
              case rel => exact ⟨j + 1, by omega, by rw [HT.out, ← Int.add_assoc], by go_num, HX.out⟩
              case measure => simp [intOf]; omega
          · obtain rfl : j = p.cl.length := by omega
            have HX : Hid (wholeTo s.pcs (k + 1)) := wholeTo_succ HW.out (by rw [HP.out]; exact has_f HH.out)
            have HQ : Hid (picTo s.pcs (k + 1) = picTo s.pcs k + sumTo p.ins p.cl.length + p.am) := by show _ = _; rw [HN.out, HLL.out]; unfold sumI; omega
            clear x2 x3
            go_wp2
            go_roundw
            case rel => exact ⟨k + 1, by omega, by rw [HQ.out], by go_num, HX.out, BC⟩
            case measure => simp [intOf]; omega
      · obtain rfl : k = s.pcs.length := by omega
        have HA : Hid (wholeB s = true ∧ picA s = picTo s.pcs s.pcs.length) := picA_yes HG.out HW.out
        go_wp2
        exact bodyPost_ret (v := .tuple #[.int .i64 (picTo s.pcs s.pcs.length), .bool true]) (by simp [results, Try.results31, go_sem]) rfl ⟨by rw [HA.out.1, HA.out.2], stB BW hB⟩

end Go.Proofs.Ytaoecafibmfphaa
