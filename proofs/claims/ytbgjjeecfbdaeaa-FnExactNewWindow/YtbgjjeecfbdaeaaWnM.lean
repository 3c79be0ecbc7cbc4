/-
  Windows on which nothing is on its way, compared, marked and held. Made by mkwnm.py.
-/
import Derived.Test.YtbgjjeecfbdaeaaNewI2
import Derived.Test.YtbgjjeecfbdaeaaOneP
import Derived.Test.YtbgjjeecfbdaeaaPartMk
import Derived.Test.YtbgjjeecfbdaeaaBls
namespace Go.Proofs.Ytbgjjeecfbdaeaa
open Go.RowKit

/-- What a window holds: its texts, who is told, the part. -/
structure Wn where
  txt : List ByteArray
  told : List Bool
  ps : List Pr
  bs : List Bt
  en : Int
abbrev wnV (s : Wn) (a0 : Option Addr) (c0 : Nat) (a1 : Option Addr) (c1 : Nat) (a2 : Option Addr) (c2 : Nat) (a3 : Option Addr) (c3 : Nat) : Value := .agg #[.slice a0 s.txt.length c0, .int .i64 0, .slice a1 s.told.length c1, .slice none 0 0, .slice none 0 0, .slice a2 s.ps.length c2, .slice a3 s.bs.length c3, .int .i64 s.en]
/-- It reads so. -/
structure WnR (w : World) (s : Wn) (a0 a1 a2 a3 : Option Addr) : Prop where
  txt : Strs w a0 s.txt
  told : Bools w a1 s.told
  ps : Prs w a2 s.ps
  bs : Bats w a3 s.bs
theorem WnR.below {w w' : World} {s : Wn} {a0 a1 a2 a3 : Option Addr} (h : WnR w s a0 a1 a2 a3) (hb : Below w.heap.size w w') : WnR w' s a0 a1 a2 a3 := ⟨h.txt.below hb, h.told.below hb, h.ps.below hb, h.bs.below hb⟩
structure WnL (s : Wn) : Prop where
  txt : s.txt.length ≤ 1000
  told : s.told.length ≤ 1000
  ps : s.ps.length ≤ 1
  bs : s.bs.length ≤ 1
/-- Its cells lie in this block. -/
def WnK (w : World) (b : Nat) (s : Wn) (a0 : Option Addr) (c0 : Nat) (a1 : Option Addr) (c1 : Nat) (a2 : Option Addr) (c2 : Nat) (a3 : Option Addr) (c3 : Nat) : Prop :=
  w.cell? ⟨b, 0, none⟩ = some (.slice a0 s.txt.length c0) ∧ w.cell? ⟨b, 1, none⟩ = some (.int .i64 0) ∧ w.cell? ⟨b, 2, none⟩ = some (.slice a1 s.told.length c1) ∧ w.cell? ⟨b, 3, none⟩ = some (.slice none 0 0) ∧ w.cell? ⟨b, 4, none⟩ = some (.slice none 0 0) ∧ w.cell? ⟨b, 5, none⟩ = some (.slice a2 s.ps.length c2) ∧ w.cell? ⟨b, 6, none⟩ = some (.slice a3 s.bs.length c3) ∧ w.cell? ⟨b, 7, none⟩ = some (.int .i64 s.en)
theorem WnK.of_block {w w' : World} {b : Nat} {s : Wn} {a0 a1 a2 a3 : Option Addr} {c0 c1 c2 c3 : Nat} (h : WnK w b s a0 c0 a1 c1 a2 c2 a3 c3) (hb : w'.heap[b]? = w.heap[b]?) : WnK w' b s a0 c0 a1 c1 a2 c2 a3 c3 := by
  obtain ⟨q0, q1, q2, q3, q4, q5, q6, q7⟩ := h
  exact ⟨(World.cell?_of_block (a := ⟨b, 0, none⟩) hb).trans q0, (World.cell?_of_block (a := ⟨b, 1, none⟩) hb).trans q1, (World.cell?_of_block (a := ⟨b, 2, none⟩) hb).trans q2, (World.cell?_of_block (a := ⟨b, 3, none⟩) hb).trans q3, (World.cell?_of_block (a := ⟨b, 4, none⟩) hb).trans q4, (World.cell?_of_block (a := ⟨b, 5, none⟩) hb).trans q5, (World.cell?_of_block (a := ⟨b, 6, none⟩) hb).trans q6, (World.cell?_of_block (a := ⟨b, 7, none⟩) hb).trans q7⟩
theorem WnK.lt {w : World} {b : Nat} {s : Wn} {a0 a1 a2 a3 : Option Addr} {c0 c1 c2 c3 : Nat} (h : WnK w b s a0 c0 a1 c1 a2 c2 a3 c3) : b < w.heap.size := lt_of_cell h.1
theorem WnK.keep {w w' : World} {b : Nat} {s : Wn} {a0 a1 a2 a3 : Option Addr} {c0 c1 c2 c3 : Nat} (h : WnK w b s a0 c0 a1 c1 a2 c2 a3 c3) (hb : Below w.heap.size w w') : WnK w' b s a0 c0 a1 c1 a2 c2 a3 c3 := h.of_block (hb.block _ h.lt)
theorem WnK.new (w : World) (s : Wn) (a0 a1 a2 a3 : Option Addr) (c0 c1 c2 c3 : Nat) : WnK (w.alloc (.cells #[.slice a0 s.txt.length c0, .int .i64 0, .slice a1 s.told.length c1, .slice none 0 0, .slice none 0 0, .slice a2 s.ps.length c2, .slice a3 s.bs.length c3, .int .i64 s.en] 32)) w.heap.size s a0 c0 a1 c1 a2 c2 a3 c3 := by
  unfold WnK; simp [go_sem]

set_option maxHeartbeats 400000 in
theorem eqReplyS_nil (w : World) : Calls Try.prog 24 #[.slice none 0 0, .slice none 0 0] w fun e w' => e = .returned (.bool true) ∧ w' = w := by
  go_enter Try.func24, Try.ntmps24
  go_wp2
  go_loop [5] (fun i => i = .int .i64 0) (fun _ => 0)
  case atStart => rfl
  case round =>
    obtain rfl := hrel
    go_wp2
    go_ret
    exact ⟨rfl, rfl⟩

set_option maxHeartbeats 400000 in
theorem markReplyS_nil (k : Nat) (w : World) : Calls Try.prog 29 #[.slice none 0 0, .int .i64 (k : Int)] w fun e w' => e = .returned (.int .i64 (k : Int)) ∧ w' = w := by
  go_enter Try.func29, Try.ntmps29
  go_wp2
  go_loopw [1, 5] (fun c i wr => c = .int .i64 (k : Int) ∧ i = .int .i64 0 ∧ w = wr) (fun _ _ _ => 0)
  case atStart => exact ⟨rfl, rfl, rfl⟩
  case round =>
    obtain ⟨rfl, rfl, rfl⟩ := hrel
    go_wp2
    go_ret
    exact ⟨rfl, rfl⟩

set_option maxHeartbeats 400000 in
theorem heldReplyS_nil (k : Nat) (w : World) : Calls Try.prog 34 #[.slice none 0 0, .int .i64 (k : Int)] w fun e w' => e = .returned (.int .i64 (k : Int)) ∧ w' = w := by
  go_enter Try.func34, Try.ntmps34
  go_wp2
  go_loopw [1, 5] (fun c i wr => c = .int .i64 (k : Int) ∧ i = .int .i64 0 ∧ w = wr) (fun _ _ _ => 0)
  case atStart => exact ⟨rfl, rfl, rfl⟩
  case round =>
    obtain ⟨rfl, rfl, rfl⟩ := hrel
    go_wp2
    go_ret
    exact ⟨rfl, rfl⟩

theorem ints_nilW (w : World) : Ints w none [] := fun i z hi => by simp at hi

set_option maxRecDepth 100000 in
set_option maxHeartbeats 4000000 in
theorem eqWindow_same (s : Wn) (a0 a1 a2 a3 b0 b1 b2 b3 : Option Addr) (c0 c1 c2 c3 d0 d1 d2 d3 : Nat) (w : World) (h : WnR w s a0 a1 a2 a3) (g : WnR w s b0 b1 b2 b3) (hz : WnL s) :
    Calls Try.prog 9 #[wnV s a0 c0 a1 c1 a2 c2 a3 c3, wnV s b0 d0 b1 d1 b2 d2 b3 d3] w fun e w' => e = .returned (.bool true) ∧ Below w.heap.size w w' := by
  have z0 := hz.txt
  have z1 := hz.told
  have z2 := hz.ps
  have z3 := hz.bs
  obtain ⟨u1, hu1⟩ : ∃ u, w.alloc (.cells #[.slice a0 s.txt.length c0, .int .i64 0, .slice a1 s.told.length c1, .slice none 0 0, .slice none 0 0, .slice a2 s.ps.length c2, .slice a3 s.bs.length c3, .int .i64 s.en] 32) = u := ⟨_, rfl⟩
  obtain ⟨u2, hu2⟩ : ∃ u, u1.alloc (.cells #[.slice b0 s.txt.length d0, .int .i64 0, .slice b1 s.told.length d1, .slice none 0 0, .slice none 0 0, .slice b2 s.ps.length d2, .slice b3 s.bs.length d3, .int .i64 s.en] 32) = u := ⟨_, rfl⟩
  have B1 : Below w.heap.size w u1 := by rw [← hu1]; exact al5 _ _
  have k1 : WnK u1 w.heap.size s a0 c0 a1 c1 a2 c2 a3 c3 := by rw [← hu1]; exact WnK.new _ _ _ _ _ _ _ _ _ _
  have hs1 : u1.heap.size = w.heap.size + 1 := by rw [← hu1]; simp
  have B2 : Below u1.heap.size u1 u2 := by rw [← hu2]; exact al5 _ _
  have g2 : WnK u2 (w.heap.size + 1) s b0 d0 b1 d1 b2 d2 b3 d3 := by rw [← hu2, ← hs1]; exact WnK.new _ _ _ _ _ _ _ _ _ _
  have k2 := k1.keep B2
  have BB := st5 B1 B2
  have BS := BB
  have k3 := k2
  have g3 := g2
  obtain ⟨p0, p1, p2, p3, p4, p5, p6, p7⟩ := k3
  obtain ⟨q0, q1, q2, q3, q4, q5, q6, q7⟩ := g3
  go_enter Try.func9, Try.ntmps9
  go_wp2_with fail
  try rw [hu1]
  try rw [hs1]
  try rw [hu2]
  clear hu1 hu2 hs1 k1 B1 B2 p0 p1 p2 p3 p4 p5 p6 p7 q0 q1 q2 q3 q4 q5 q6 q7
  refine (eqStringS_any _ _ _ _ s.txt s.txt _ (h.txt.below BB) (g.txt.below BB) (by unfold maxLen; omega) (by unfold maxLen; omega)).mono ?_
  rintro r v1 ⟨rfl, n1, hn1⟩
  have hB1 : Below u2.heap.size u2 v1 := by rw [hn1]; exact below_drewN (Below.refl _ _) n1
  rw [decide_eq_true (rfl : s.txt = s.txt)]
  clear hn1
  have kS := k2
  have gS := g2
  clear k2 g2 BB
  have kT := kS.keep hB1
  have gT := gS.keep hB1
  have BT := st5 BS hB1
  clear hB1 kS gS BS
  have kq := kT
  have gq := gT
  obtain ⟨p0, p1, p2, p3, p4, p5, p6, p7⟩ := kq
  obtain ⟨q0, q1, q2, q3, q4, q5, q6, q7⟩ := gq
  go_wp2_with fail
  clear p0 p1 p2 p3 p4 p5 p6 p7 q0 q1 q2 q3 q4 q5 q6 q7
  refine (eqBoolS_same _ _ _ _ s.told _ (h.told.below BT) (g.told.below BT) (by unfold maxLen; omega)).mono ?_
  rintro r v2 ⟨rfl, hB2⟩
  have kU := kT.keep hB2
  have gU := gT.keep hB2
  have BU := st5 BT hB2
  clear hB2 kT gT BT
  have kq := kU
  have gq := gU
  obtain ⟨p0, p1, p2, p3, p4, p5, p6, p7⟩ := kq
  obtain ⟨q0, q1, q2, q3, q4, q5, q6, q7⟩ := gq
  go_wp2_with fail
  clear p0 p1 p2 p3 p4 p5 p6 p7 q0 q1 q2 q3 q4 q5 q6 q7
  refine (eqIntS_same none none 0 0 [] _ (ints_nilW _) (ints_nilW _) (by unfold maxLen; simp)).mono ?_
  rintro r v3 ⟨rfl, hB3⟩
  have kV := kU.keep hB3
  have gV := gU.keep hB3
  have BV := st5 BU hB3
  clear hB3 kU gU BU
  have kq := kV
  have gq := gV
  obtain ⟨p0, p1, p2, p3, p4, p5, p6, p7⟩ := kq
  obtain ⟨q0, q1, q2, q3, q4, q5, q6, q7⟩ := gq
  go_wp2_with fail
  clear p0 p1 p2 p3 p4 p5 p6 p7 q0 q1 q2 q3 q4 q5 q6 q7
  refine (eqReplyS_nil _).mono ?_
  rintro r v4 ⟨rfl, rfl⟩
  have kq := kV
  have gq := gV
  obtain ⟨p0, p1, p2, p3, p4, p5, p6, p7⟩ := kq
  obtain ⟨q0, q1, q2, q3, q4, q5, q6, q7⟩ := gq
  go_wp2_with fail
  clear p0 p1 p2 p3 p4 p5 p6 p7 q0 q1 q2 q3 q4 q5 q6 q7
  refine (eqPart_same _ _ _ _ _ _ _ _ s.en s.ps s.bs _ (h.ps.below BV) (g.ps.below BV) (by unfold maxLen; omega) (h.bs.below BV) (g.bs.below BV) (by unfold maxLen; omega)).mono ?_
  rintro r v5 ⟨rfl, hB5⟩
  have BW := st5 BV hB5
  clear BV hB5 kV gV h g
  go_wp2
  go_ret
  exact ⟨rfl, BW⟩

theorem rowE_mono {w : World} {B B' : Nat} {a : Option Addr} {n : Nat} (h : RowE w B a n) (hb : B' ≤ B) : RowE w B' a n := by
  rcases h with h | ⟨g, o, m, f, e, hg, r⟩
  · exact .inl h
  · exact .inr ⟨g, o, m, f, e, by omega, r⟩
theorem PsRow.mono {w : World} {B B' : Nat} {a : Option Addr} {qs : List PQ} (h : PsRow w B a qs) (hb : B' ≤ B) : PsRow w B' a qs := by
  rcases h with h | ⟨g, m, f, e, hg, hm, r, rc, d⟩
  · exact .inl h
  · exact .inr ⟨g, m, f, e, by omega, hm, r, fun i q hq => ⟨(rc i q hq).1, rowE_mono (rc i q hq).2.1 hb, (rc i q hq).2.2⟩, d⟩
theorem LogRow.mono {w : World} {B B' : Nat} {a : Option Addr} {qs : List Q} (h : LogRow w B a qs) (hb : B' ≤ B) : LogRow w B' a qs := by
  rcases h with h | ⟨g, m, f, e, hg, hm, r, rc, d⟩
  · exact .inl h
  · exact .inr ⟨g, m, f, e, by omega, hm, r, fun i q hq => ⟨(rc i q hq).1, (rc i q hq).2.1.mono hb, (rc i q hq).2.2⟩, d⟩

theorem OnePart.out2 {B : Nat} {w : World} {id ep z : Int} {ss : List ByteArray} {gp cp gl cl : Nat} (h : OnePart B w id ep z ss gp cp gl cl) (hz : ∀ s, s ∈ ss → s.size ≤ maxLen) (hl : ss.length ≤ 8) :
    ∃ pq : PQ, ∃ q : Q, pq.b = prOne id ep z ss ∧ q.b = btOne id ep z ss ∧ Prs w (some ⟨gp, 0, none⟩) [prOne id ep z ss] ∧ Bats w (some ⟨gl, 0, none⟩) [btOne id ep z ss] ∧
      PsRow w B (some ⟨gp, 0, none⟩) [pq] ∧ LogRow w B (some ⟨gl, 0, none⟩) [q] ∧ (∀ b, InPs (some ⟨gp, 0, none⟩) [pq] b → ¬ InLog (some ⟨gl, 0, none⟩) [q] b) ∧ ∀ b, InPs (some ⟨gp, 0, none⟩) [pq] b ∨ InLog (some ⟨gl, 0, none⟩) [q] b → b ≤ gl := by
  obtain ⟨gw, cw, vR, h1, h2, h3, h4, h5, h6, h7⟩ := h
  obtain ⟨ra, rc, rfl⟩ := own5_form h4
  have hS := strs_own5 h4 hz
  obtain ⟨fp, hgp, hcp, hRp, hxp⟩ := row_of_own5 h1
  obtain ⟨fl, hgl, hcl, hRl, hxl⟩ := row_of_own5 h3
  have ep3 := hxp 3 (by omega)
  have el4 := hxl 4 (by omega)
  simp at ep3 el4
  have hra : ∀ b, InBlock ra ss.length b → gp < b ∧ b < gl := fun b ⟨h0, o, s, e⟩ => h7 b (by rw [e]; rfl)
  have hrow : RowAt w B ra ss.length := by
    by_cases h0 : ss.length = 0
    · exact .inl h0
    · obtain ⟨-, ⟨hv, h9⟩ | ⟨g', cap, cur, hv, hg, hh, hnc, hcap, hcs, ht⟩⟩ := h4
      · omega
      · simp only [Value.slice.injEq] at hv
        obtain ⟨rfl, -, rfl⟩ := hv
        have hall : ∀ i, i < rc * 1 → cur[i]? = some (cur.getD i undef) := fun i hi => by
          have h9 : i < cur.size := by omega
          simp [h9]
        exact .inr ⟨g', rc * 1, fun j => cur.getD j undef, rfl, hg, by omega, ⟨cur, hh, hcs, hall⟩⟩
  refine ⟨⟨prOne id ep z ss, some ⟨gw, 0, none⟩, cw⟩, ⟨btOne id ep z ss, ra, rc⟩, rfl, rfl, prs_own5 h1 h2, bats_own5 h3 hS (by unfold maxLen; omega), ?_, ?_, ?_⟩
  · refine .inr ⟨gp, cp * 4, fp, rfl, hgp, by simp; omega, hRp, fun i q hq => ?_, fun i j p q k hi hj hne => ?_⟩
    · have h0 : i = 0 := by have := (List.getElem?_eq_some_iff.1 hq).1; simp at this; exact this
      subst h0
      simp at hq
      subst hq
      refine ⟨ep3.symm, (dns_own5 h2).2, fun ⟨_, o, s, e⟩ => ?_⟩
      simp only [Option.some.injEq, Addr.mk.injEq] at e
      omega
    · have h0 := (List.getElem?_eq_some_iff.1 hi).1
      have h9 := (List.getElem?_eq_some_iff.1 hj).1
      simp at h0 h9
      omega
  · refine .inr ⟨gl, cl * 5, fl, rfl, hgl, by simp; omega, hRl, fun i q hq => ?_, fun i j p q k hi hj hne => ?_⟩
    · have h0 : i = 0 := by have := (List.getElem?_eq_some_iff.1 hq).1; simp at this; exact this
      subst h0
      simp at hq
      subst hq
      exact ⟨el4.symm, hrow, fun hb => by have := hra _ hb; omega⟩
    · have h0 := (List.getElem?_eq_some_iff.1 hi).1
      have h9 := (List.getElem?_eq_some_iff.1 hj).1
      simp at h0 h9
      omega
  · have hP : ∀ b, InPs (some ⟨gp, 0, none⟩) [(⟨prOne id ep z ss, some ⟨gw, 0, none⟩, cw⟩ : PQ)] b → b ≤ gp := by
      rintro b (⟨-, o, s, e⟩ | ⟨i, q, hq, -, o, s, e⟩)
      · simp only [Option.some.injEq, Addr.mk.injEq] at e; omega
      · have h0 : i = 0 := by have := (List.getElem?_eq_some_iff.1 hq).1; simp at this; exact this
        subst h0
        simp at hq
        subst hq
        simp only [Option.some.injEq, Addr.mk.injEq] at e
        omega
    refine ⟨?_, ?_⟩
    · rintro b hb (⟨-, o, s, e⟩ | ⟨i, q, hq, hk⟩)
      · have := hP b hb
        simp only [Option.some.injEq, Addr.mk.injEq] at e
        omega
      · have h0 : i = 0 := by have := (List.getElem?_eq_some_iff.1 hq).1; simp at this; exact this
        subst h0
        simp at hq
        subst hq
        have := hP b hb
        have := hra b hk
        omega
    · rintro b (hb | (⟨-, o, s, e⟩ | ⟨i, q, hq, hk⟩))
      · have := hP b hb; omega
      · simp only [Option.some.injEq, Addr.mk.injEq] at e; omega
      · have h0 : i = 0 := by have := (List.getElem?_eq_some_iff.1 hq).1; simp at this; exact this
        subst h0
        simp at hq
        subst hq
        have := hra b hk
        omega

/-- The window of the call's own. -/
structure WnO (w : World) (B : Nat) (s : Wn) (a0 a1 a2 a3 : Option Addr) : Prop where
  txt : Strs w a0 s.txt
  txtR : RowAt w B a0 s.txt.length
  told : Bools w a1 s.told
  toldR : RowO w B a1 s.told.length
  dj : ∀ b, InBlock a0 s.txt.length b → InI a1 s.told.length b → False
  part : (s.ps = [] ∧ s.bs = [] ∧ a2 = none ∧ a3 = none) ∨ ∃ gp cp gl cl P, a2 = some ⟨gp, 0, none⟩ ∧ a3 = some ⟨gl, 0, none⟩ ∧ s.ps = [prOne 0 0 0 [⟨#[]⟩]] ∧ s.bs = [btOne 0 0 0 [⟨#[]⟩]] ∧ B ≤ P ∧ OnePart P w 0 0 0 [⟨#[]⟩] gp cp gl cl ∧
    ∀ b, InBlock a0 s.txt.length b ∨ InI a1 s.told.length b → b < P ∨ gl < b
theorem one_high {w w' : World} {P : Nat} {id ep z : Int} {ss : List ByteArray} {gp cp gl cl : Nat} (h : OnePart P w id ep z ss gp cp gl cl) (hs : ∀ b, P ≤ b → b < w.heap.size → w'.heap[b]? = w.heap[b]?) : OnePart P w' id ep z ss gp cp gl cl := by
  obtain ⟨gw, cw, vR, h1, h2, h3, h4, h5⟩ := h
  have oh : ∀ {e : TypeId} {size : Nat} {v : Value} {n : Nat} {xs : List Value}, w.ownsRow P e size v n xs → w'.ownsRow P e size v n xs := fun {e size v n xs} k => by
    obtain ⟨k1, k2 | ⟨g, cap, cur, hv, hg, hh, r⟩⟩ := k
    · exact ⟨k1, .inl k2⟩
    · exact ⟨k1, .inr ⟨g, cap, cur, hv, hg, (hs g hg (Array.getElem?_eq_some_iff.1 hh).1).trans hh, r⟩⟩
  exact ⟨gw, cw, vR, oh h1, oh h2, oh h3, oh h4, h5⟩
theorem WnO.high {w w' : World} {B : Nat} {s : Wn} {a0 a1 a2 a3 : Option Addr} (h : WnO w B s a0 a1 a2 a3) (hs : ∀ b, B ≤ b → b < w.heap.size → w'.heap[b]? = w.heap[b]?) : WnO w' B s a0 a1 a2 a3 := by
  refine ⟨h.txt.of_block fun b hb => hs b (h.txtR.lt hb).1 (h.txtR.lt hb).2, h.txtR.of_block fun b hb => hs b (h.txtR.lt hb).1 (h.txtR.lt hb).2, h.told.of_block fun b hb => hs b (h.toldR.lt hb).1 (h.toldR.lt hb).2, h.toldR.of_block fun b hb => hs b (h.toldR.lt hb).1 (h.toldR.lt hb).2, h.dj, ?_⟩
  rcases h.part with h | ⟨gp, cp, gl, cl, P, e2, e3, e4, e5, hP, hO, hd⟩
  · exact .inl h
  · exact .inr ⟨gp, cp, gl, cl, P, e2, e3, e4, e5, hP, one_high hO fun b hb hl => hs b (by omega) hl, hd⟩
theorem WnO.below {w w' : World} {B : Nat} {s : Wn} {a0 a1 a2 a3 : Option Addr} (h : WnO w B s a0 a1 a2 a3) (hb : Below w.heap.size w w') : WnO w' B s a0 a1 a2 a3 := h.high fun b _ hl => hb.block b hl
theorem nil_prs (w : World) (a : Option Addr) : Prs w a [] := fun i b hi => by simp at hi
theorem nil_bats (w : World) (a : Option Addr) : Bats w a [] := fun i b hi => by simp at hi
theorem WnO.open_ {w : World} {B : Nat} {s : Wn} {a0 a1 a2 a3 : Option Addr} (h : WnO w B s a0 a1 a2 a3) :
    ∃ (pqs : List PQ) (qs : List Q), Prs w a2 s.ps ∧ Bats w a3 s.bs ∧ PsRow w B a2 pqs ∧ LogRow w B a3 qs ∧ pqs.length = s.ps.length ∧ qs.length = s.bs.length ∧ (∀ q, q ∈ pqs → q.b.win.length = 1) ∧ (∀ q, q ∈ qs → q.b.recs.length = 1) ∧ (∀ b, InPs a2 pqs b → ¬ InLog a3 qs b) ∧
      (∀ b, InPs a2 pqs b ∨ InLog a3 qs b → ¬ InBlock a0 s.txt.length b ∧ ¬ InI a1 s.told.length b) ∧ (∀ b, InPs a2 pqs b ∨ InLog a3 qs b → ∃ gl, a3 = some ⟨gl, 0, none⟩ ∧ b ≤ gl) ∧ ∀ k, kTo qs (pTo pqs k) = k + 6 * s.ps.length + 5 * s.bs.length := by
  rcases h.part with ⟨e1, e2, rfl, rfl⟩ | ⟨gp, cp, gl, cl, P, rfl, rfl, e4, e5, hP, hO, hd⟩
  · have noP : ∀ b, InPs none [] b → False := fun b hb => by
      rcases hb with ⟨hb, -⟩ | ⟨i, q, hq, -⟩
      · simp at hb
      · simp at hq
    have noL : ∀ b, InLog none [] b → False := fun b hb => by
      rcases hb with ⟨hb, -⟩ | ⟨i, q, hq, -⟩
      · simp at hb
      · simp at hq
    rw [e1, e2]
    exact ⟨[], [], nil_prs _ _, nil_bats _ _, .inl rfl, .inl rfl, rfl, rfl, fun q hq => (by simp at hq), fun q hq => (by simp at hq), fun b hb => (noP b hb).elim, fun b hb => (hb.elim (noP b) (noL b)).elim, fun b hb => (hb.elim (noP b) (noL b)).elim, fun k => (by simp [kTo, pTo])⟩
  · obtain ⟨pq, q, f1, f2, hp, hb, hpr, hlr, hdis, htop⟩ := hO.out2 (fun s hs => by obtain rfl := List.mem_singleton.1 hs; exact Nat.zero_le _) (by simp)
    have g1 : pq.b.win.length = 1 := by rw [f1]; rfl
    have g2 : q.b.recs.length = 1 := by rw [f2]; rfl
    rw [e4, e5]
    refine ⟨[pq], [q], hp, hb, PsRow.mono hpr hP, LogRow.mono hlr hP, rfl, rfl, fun x hx => by obtain rfl := List.mem_singleton.1 hx; exact g1, fun x hx => by obtain rfl := List.mem_singleton.1 hx; exact g2, hdis, fun b hb => ?_, fun b hb => ⟨gl, rfl, htop b hb⟩, fun k => ?_⟩
    · have h1 := htop b hb
      have h2 : P ≤ b := hb.elim (fun hb => (hpr.lt hb).1) (fun hb => (hlr.lt hb).1)
      exact ⟨fun h => by have := hd b (.inl h); omega, fun h => by have := hd b (.inr h); omega⟩
    · simp only [kTo, pTo, g1, g2, List.length_singleton]
theorem WnO.reads {w : World} {B : Nat} {s : Wn} {a0 a1 a2 a3 : Option Addr} (h : WnO w B s a0 a1 a2 a3) : WnR w s a0 a1 a2 a3 := by
  obtain ⟨pqs, qs, h1, h2, -⟩ := h.open_
  exact ⟨h.txt, h.told, h1, h2⟩
/-- Whose block it is. -/
def WnIn (w : World) (B b : Nat) : Prop := B ≤ b ∧ b < w.heap.size
/-- Marked. -/
def WnH (w : World) (s : Wn) (a0 a1 a2 a3 : Option Addr) : Prop := ∃ (pqs : List PQ) (qs : List Q), pqs.length = s.ps.length ∧ qs.length = s.bs.length ∧ Strs w a0 (markL 1 s.txt.length) ∧ Bools w a1 (markO (1 + s.txt.length) s.told.length) ∧ Prs w a2 (markPs pqs (1 + s.txt.length + s.told.length)) ∧ Bats w a3 (markQs qs (pTo pqs (1 + s.txt.length + s.told.length))) ∧
  kTo qs (pTo pqs (1 + s.txt.length + s.told.length)) = 1 + s.txt.length + s.told.length + 6 * s.ps.length + 5 * s.bs.length
theorem WnH.below {w w' : World} {s : Wn} {a0 a1 a2 a3 : Option Addr} (h : WnH w s a0 a1 a2 a3) (hb : Below w.heap.size w w') : WnH w' s a0 a1 a2 a3 := by
  obtain ⟨pqs, qs, h1, h2, h3, h4, h5, h6, h7⟩ := h
  exact ⟨pqs, qs, h1, h2, h3.below hb, h4.below hb, h5.below hb, h6.below hb, h7⟩

set_option maxRecDepth 100000 in
set_option maxHeartbeats 4000000 in
theorem markWindow_any (s : Wn) (B G : Nat) (a0 a1 a2 a3 : Option Addr) (c0 c1 c2 c3 : Nat) (w : World) (h : WnO w B s a0 a1 a2 a3) (hz : WnL s) (hBw : B ≤ w.heap.size) (hG1 : ∀ b, InBlock a0 s.txt.length b ∨ InI a1 s.told.length b → b < G) (hG2 : ∀ gl, a3 = some ⟨gl, 0, none⟩ → gl < G) :
    Calls Try.prog 12 #[wnV s a0 c0 a1 c1 a2 c2 a3 c3, .int .i64 1] w fun r w' => r = .returned (.int .i64 ((1 + s.txt.length + s.told.length + 6 * s.ps.length + 5 * s.bs.length : Nat) : Int)) ∧ WnH w' s a0 a1 a2 a3 ∧ Below B w w' ∧ ∀ b, G ≤ b → b < w.heap.size → w'.heap[b]? = w.heap[b]? := by
  have z0 := hz.txt
  have z1 := hz.told
  have z2 := hz.ps
  have z3 := hz.bs
  obtain ⟨u1, hu1⟩ : ∃ u, w.alloc (.cells #[.slice a0 s.txt.length c0, .int .i64 0, .slice a1 s.told.length c1, .slice none 0 0, .slice none 0 0, .slice a2 s.ps.length c2, .slice a3 s.bs.length c3, .int .i64 s.en] 32) = u := ⟨_, rfl⟩
  have B1 : Below w.heap.size w u1 := by rw [← hu1]; exact al5 _ _
  have k1 : WnK u1 w.heap.size s a0 c0 a1 c1 a2 c2 a3 c3 := by rw [← hu1]; exact WnK.new _ _ _ _ _ _ _ _ _ _
  have hs1 : u1.heap.size = w.heap.size + 1 := by rw [← hu1]; simp
  have hO := h.below B1
  have L0 : ∀ b, InBlock a0 s.txt.length b → b < w.heap.size := fun b hb => (h.txtR.lt hb).2
  have L1 : ∀ b, InI a1 s.told.length b → b < w.heap.size := fun b hb => (h.toldR.lt hb).2
  have L2 : ∀ pqs, PsRow w B a2 pqs → ∀ b, InPs a2 pqs b → b < w.heap.size := fun pqs hr b hb => (hr.lt hb).2
  have L3 : ∀ qs, LogRow w B a3 qs → ∀ b, InLog a3 qs b → b < w.heap.size := fun qs hr b hb => (hr.lt hb).2
  obtain ⟨pqs, qs, -, -, hpr0, hlr0, lp, lq, l1, l2, hdis, hap, htp, hK⟩ := h.open_
  have hG3 : ∀ b, InPs a2 pqs b ∨ InLog a3 qs b → b < G := fun b hb => by
    obtain ⟨gl, e, hle⟩ := htp b hb
    have := hG2 gl e
    omega
  have S0 : ∀ b, G ≤ b → b < w.heap.size → u1.heap[b]? = w.heap[b]? := fun b _ hl => B1.block b hl
  clear htp hG2
  have hpr := hpr0.below B1
  have hlr := hlr0.below B1
  have M2 := L2 pqs hpr0
  have M3 := L3 qs hlr0
  have hKK := hK (1 + s.txt.length + s.told.length)
  have hB1 : Below B w u1 := B1.mono hBw
  have hdj := h.dj
  have HD := fun (_ : Unit) => (show (∀ q, q ∈ pqs → q.b.win.length ≤ 1000000) ∧ (∀ q, q ∈ qs → q.b.recs.length ≤ 8) from ⟨fun q hq => by have := l1 q hq; omega, fun q hq => by have := l2 q hq; omega⟩)
  clear hpr0 hlr0 L2 L3 hK l1 l2 h B1
  have kq := k1
  obtain ⟨p0, p1, p2, p3, p4, p5, p6, p7⟩ := kq
  go_enter Try.func12, Try.ntmps12
  go_wp2_with fail
  try rw [hu1]
  clear hu1 p0 p1 p2 p3 p4 p5 p6 p7
  refine (markStringS_any _ _ _ B 1 _ hO.txtR (by omega) (by omega) (by omega)).mono ?_
  rintro r v1 ⟨rfl, hS, -, hB2, hO2⟩
  have hz1 := hB2.size
  have k2 := k1.of_block (hO2 w.heap.size (by omega) (fun hb => by have := L0 _ hb; omega))
  have oR := hO.toldR.of_block fun b hb => hO2 b (by have := L1 b hb; omega) (fun h => hdj b h hb)
  have pR := hpr.of_block fun b hb => hO2 b (by have := M2 b hb; omega) (hap b (.inl hb)).1
  have lR := hlr.of_block fun b hb => hO2 b (by have := M3 b hb; omega) (hap b (.inr hb)).1
  have BB := hB1.trans hB2
  have S1 : ∀ b, G ≤ b → b < w.heap.size → v1.heap[b]? = w.heap[b]? := fun b h1 h2 => (hO2 b (by omega) (fun h => by have := hG1 b (.inl h); omega)).trans (S0 b h1 h2)
  clear S0 hO2 hO hpr hlr k1 hB1 hB2
  have kq := k2
  obtain ⟨p0, p1, p2, p3, p4, p5, p6, p7⟩ := kq
  go_wp2_with fail
  clear p0 p1 p2 p3 p4 p5 p6 p7
  refine (markBoolS_any _ _ _ B (1 + s.txt.length) _ oR (by omega)).mono ?_
  rintro r v2 ⟨rfl, hT, -, hB3, hO3⟩
  have hz2 := hB3.size
  have k3 := k2.of_block (hO3 w.heap.size (by omega) (fun hb => by have := L1 _ hb; omega))
  have hS2 : Strs v2 a0 (markL 1 s.txt.length) := hS.of_block fun b hb => by rw [markL_length] at hb; exact hO3 b (by have := L0 b hb; omega) (fun h => hdj b hb h)
  have pR2 := pR.of_block fun b hb => hO3 b (by have := M2 b hb; omega) (hap b (.inl hb)).2
  have lR2 := lR.of_block fun b hb => hO3 b (by have := M3 b hb; omega) (hap b (.inr hb)).2
  have BB2 := BB.trans hB3
  have S2 : ∀ b, G ≤ b → b < w.heap.size → v2.heap[b]? = w.heap[b]? := fun b h1 h2 => (hO3 b (by omega) (fun h => by have := hG1 b (.inr h); omega)).trans (S1 b h1 h2)
  clear S1 hO3 oR pR lR k2 hB3 BB hS
  have kq := k3
  obtain ⟨p0, p1, p2, p3, p4, p5, p6, p7⟩ := kq
  go_wp2_with fail
  clear p0 p1 p2 p3 p4 p5 p6 p7
  refine (markIntS_any none 0 0 B (1 + s.txt.length + s.told.length) _ (.inl rfl) (by omega)).mono ?_
  rintro r v3 ⟨rfl, -, -, hB4, hO4⟩
  have hno : ∀ b, ¬ InI none 0 b := fun b hb => by have := hb.1; omega
  have hz3 := hB4.size
  have k4 := k3.of_block (hO4 w.heap.size (by omega) (hno _))
  have hS3 : Strs v3 a0 (markL 1 s.txt.length) := hS2.of_block fun b hb => by rw [markL_length] at hb; exact hO4 b (by have := L0 b hb; omega) (hno _)
  have hT3 : Bools v3 a1 (markO (1 + s.txt.length) s.told.length) := hT.of_block fun b hb => by rw [markO_length] at hb; exact hO4 b (by have := L1 b hb; omega) (hno _)
  have pR3 := pR2.of_block fun b hb => hO4 b (by have := M2 b hb; omega) (hno _)
  have lR3 := lR2.of_block fun b hb => hO4 b (by have := M3 b hb; omega) (hno _)
  have BB3 := BB2.trans hB4
  have S3 := fun (_ : Unit) => (show ∀ b, G ≤ b → b < w.heap.size → v3.heap[b]? = w.heap[b]? from fun b h1 h2 => (hO4 b (by omega) (hno _)).trans (S2 b h1 h2))
  have HG3 := fun (_ : Unit) => hG3
  clear S2 hG3 hG1 hO4 pR2 lR2 k3 hB4 BB2 hS2 hT
  have kq := k4
  obtain ⟨p0, p1, p2, p3, p4, p5, p6, p7⟩ := kq
  go_wp2_with fail
  clear p0 p1 p2 p3 p4 p5 p6 p7
  refine (markReplyS_nil (1 + s.txt.length + s.told.length) _).mono ?_
  rintro r v4 ⟨rfl, rfl⟩
  have kq := k4
  obtain ⟨p0, p1, p2, p3, p4, p5, p6, p7⟩ := kq
  have HM := fun (_ : Unit) => markPart_any a2 a3 c2 c3 B (1 + s.txt.length + s.told.length) s.en pqs qs v4 pR3 (HD ()).1 (by omega) lR3 (HD ()).2 (by omega) hdis (by omega) (by omega)
  rw [lp, lq] at HM
  have HLp := fun (_ : Unit) => lp
  have HLq := fun (_ : Unit) => lq
  have HKq := fun (_ : Unit) => hKK
  have HAp := fun (_ : Unit) => hap
  clear lp lq hKK hap hdis pR3 lR3 HD
  go_wp2_with fail
  clear p0 p1 p2 p3 p4 p5 p6 p7
  refine (HM ()).mono ?_
  rintro r v5 ⟨rfl, hP, hL, hB5, hO5⟩
  have BB4 := BB3.trans hB5
  have S4 := fun (_ : Unit) => (show ∀ b, G ≤ b → b < w.heap.size → v5.heap[b]? = w.heap[b]? from fun b h1 h2 => (hO5 b (by omega) (fun h => by have := HG3 () b (.inl h); omega) (fun h => by have := HG3 () b (.inr h); omega)).trans (S3 () b h1 h2))
  have HH : Hid (WnH v5 s a0 a1 a2 a3) := ⟨pqs, qs, HLp (), HLq (), hS3.of_block fun b hb => (by rw [markL_length] at hb; exact hO5 b (by have := L0 b hb; omega) (fun h => (HAp () b (.inl h)).1 hb) (fun h => (HAp () b (.inr h)).1 hb)), hT3.of_block fun b hb => (by rw [markO_length] at hb; exact hO5 b (by have := L1 b hb; omega) (fun h => (HAp () b (.inl h)).2 hb) (fun h => (HAp () b (.inr h)).2 hb)), hP, hL, HKq ()⟩
  rw [HKq ()]
  clear hO5 k4 hS3 hT3 hP hL HM
  go_wp2
  go_ret
  exact ⟨rfl, HH.out, BB4, S4 ()⟩

set_option maxRecDepth 100000 in
set_option maxHeartbeats 4000000 in
theorem heldWindow_any (s : Wn) (a0 a1 a2 a3 : Option Addr) (c0 c1 c2 c3 : Nat) (w : World) (h : WnH w s a0 a1 a2 a3) (hz : WnL s) :
    Calls Try.prog 13 #[wnV s a0 c0 a1 c1 a2 c2 a3 c3, .int .i64 1] w fun r w' => r = .returned (.int .i64 ((1 + s.txt.length + s.told.length + 6 * s.ps.length + 5 * s.bs.length : Nat) : Int)) ∧ Below w.heap.size w w' := by
  have z0 := hz.txt
  have z1 := hz.told
  have z2 := hz.ps
  have z3 := hz.bs
  obtain ⟨u1, hu1⟩ : ∃ u, w.alloc (.cells #[.slice a0 s.txt.length c0, .int .i64 0, .slice a1 s.told.length c1, .slice none 0 0, .slice none 0 0, .slice a2 s.ps.length c2, .slice a3 s.bs.length c3, .int .i64 s.en] 32) = u := ⟨_, rfl⟩
  have B1 : Below w.heap.size w u1 := by rw [← hu1]; exact al5 _ _
  have k1 : WnK u1 w.heap.size s a0 c0 a1 c1 a2 c2 a3 c3 := by rw [← hu1]; exact WnK.new _ _ _ _ _ _ _ _ _ _
  obtain ⟨pqs, qs, lp, lq, hS, hT, hP, hL, hKK⟩ := h
  have hk1 := pTo_ge pqs (1 + s.txt.length + s.told.length)
  have hk2 := kTo_ge qs (pTo pqs (1 + s.txt.length + s.told.length))
  have n1 : ¬ (((1 + s.txt.length : Nat) : Int) < 0) := by omega
  have n2 : ¬ (((1 + s.txt.length + s.told.length : Nat) : Int) < 0) := by omega
  have n3 : ¬ (((kTo qs (pTo pqs (1 + s.txt.length + s.told.length)) : Nat) : Int) < 0) := by omega
  have kq := k1
  obtain ⟨p0, p1, p2, p3, p4, p5, p6, p7⟩ := kq
  go_enter Try.func13, Try.ntmps13
  go_wp2_with fail
  try rw [hu1]
  clear hu1 p0 p1 p2 p3 p4 p5 p6 p7
  refine (heldStringS_any _ _ _ 1 _ (hS.below B1) (by omega) (by omega)).mono ?_
  rintro r v1 ⟨rfl, hB2⟩
  have k2 := k1.keep hB2
  have B2 := st5 B1 hB2
  clear hB2 k1 B1
  have kq := k2
  obtain ⟨p0, p1, p2, p3, p4, p5, p6, p7⟩ := kq
  go_wp2_with fail
  clear p0 p1 p2 p3 p4 p5 p6 p7
  refine (heldBoolS_any _ _ _ (1 + s.txt.length) _ (hT.below B2) (by omega)).mono ?_
  rintro r v2 ⟨rfl, rfl⟩
  have kq := k2
  obtain ⟨p0, p1, p2, p3, p4, p5, p6, p7⟩ := kq
  go_wp2_with fail
  clear p0 p1 p2 p3 p4 p5 p6 p7
  refine (heldIntS_any none 0 0 (1 + s.txt.length + s.told.length) _ (ints_nilW _) (by omega)).mono ?_
  rintro r v3 ⟨rfl, rfl⟩
  have kq := k2
  obtain ⟨p0, p1, p2, p3, p4, p5, p6, p7⟩ := kq
  go_wp2_with fail
  clear p0 p1 p2 p3 p4 p5 p6 p7
  refine (heldReplyS_nil (1 + s.txt.length + s.told.length) _).mono ?_
  rintro r v4 ⟨rfl, rfl⟩
  have kq := k2
  obtain ⟨p0, p1, p2, p3, p4, p5, p6, p7⟩ := kq
  have HM := fun (_ : Unit) => heldPart_any a2 a3 c2 c3 (1 + s.txt.length + s.told.length) s.en pqs qs v4 (hP.below B2) (by omega) (hL.below B2) (by omega) (by omega) (by omega)
  rw [lp, lq, hKK] at HM
  rw [hKK] at n3
  clear hP hL hKK hk1 hk2 lp lq hS hT
  go_wp2_with fail
  clear p0 p1 p2 p3 p4 p5 p6 p7
  refine (HM ()).mono ?_
  rintro r v5 ⟨rfl, hB5⟩
  have B5 := st5 B2 hB5
  clear hB5 B2 k2 HM
  go_wp2
  go_ret
  exact ⟨rfl, B5⟩

end Go.Proofs.Ytbgjjeecfbdaeaa
