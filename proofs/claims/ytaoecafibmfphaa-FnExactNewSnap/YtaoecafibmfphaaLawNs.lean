/-
  The walk of the law FnExactNewSnap: at every two numbers it answers true and leaves what was there as it was. Made by mknslaw.py.
-/
import Derived.Test.YtaoecafibmfphaaNsB
namespace Go.Proofs.Ytaoecafibmfphaa
open Go.RowKit

theorem five9 {u v : World} {b : Nat} {v0 v1 v2 v3 v4 : Value} (hb : v.heap[b]? = u.heap[b]?) (h : u.cell? ⟨b, 0, none⟩ = some v0 ∧ u.cell? ⟨b, 1, none⟩ = some v1 ∧ u.cell? ⟨b, 2, none⟩ = some v2 ∧ u.cell? ⟨b, 3, none⟩ = some v3 ∧ u.cell? ⟨b, 4, none⟩ = some v4) :
    v.cell? ⟨b, 0, none⟩ = some v0 ∧ v.cell? ⟨b, 1, none⟩ = some v1 ∧ v.cell? ⟨b, 2, none⟩ = some v2 ∧ v.cell? ⟨b, 3, none⟩ = some v3 ∧ v.cell? ⟨b, 4, none⟩ = some v4 :=
  ⟨(World.cell?_of_block (a := ⟨b, 0, none⟩) hb).trans h.1, (World.cell?_of_block (a := ⟨b, 1, none⟩) hb).trans h.2.1, (World.cell?_of_block (a := ⟨b, 2, none⟩) hb).trans h.2.2.1, (World.cell?_of_block (a := ⟨b, 3, none⟩) hb).trans h.2.2.2.1, (World.cell?_of_block (a := ⟨b, 4, none⟩) hb).trans h.2.2.2.2⟩

theorem five7 {u v : World} {b : Nat} {v0 v1 v2 v3 v4 : Value} (hb : Below u.heap.size u v) (h : u.cell? ⟨b, 0, none⟩ = some v0 ∧ u.cell? ⟨b, 1, none⟩ = some v1 ∧ u.cell? ⟨b, 2, none⟩ = some v2 ∧ u.cell? ⟨b, 3, none⟩ = some v3 ∧ u.cell? ⟨b, 4, none⟩ = some v4) :
    v.cell? ⟨b, 0, none⟩ = some v0 ∧ v.cell? ⟨b, 1, none⟩ = some v1 ∧ v.cell? ⟨b, 2, none⟩ = some v2 ∧ v.cell? ⟨b, 3, none⟩ = some v3 ∧ v.cell? ⟨b, 4, none⟩ = some v4 :=
  ⟨celB hb h.1, celB hb h.2.1, celB hb h.2.2.1, celB hb h.2.2.2.1, celB hb h.2.2.2.2⟩

theorem lt9 {u : World} {b : Nat} {v0 : Value} {q : Prop} (h : u.cell? ⟨b, 0, none⟩ = some v0 ∧ q) : b < u.heap.size := lt_of_cell h.1

set_option maxRecDepth 100000 in
set_option maxHeartbeats 8000000 in
theorem lawNs_any (p am : Int) (w : World) :
    Calls Try.prog 3 #[.int .i64 p, .int .i64 am] w fun r w' => r = .returned (.bool true) ∧ Below w.heap.size w w' := by
  obtain ⟨hSz, hS8, hL⟩ := newA_small p am
  have HI : Hid (∀ u : World, Calls Try.prog 11 #[.int .i64 p, .int .i64 am] u fun e u' => NsAns u (newA p am) (okN p am) e u') := fun u => implNs_any p am u
  have HS : Hid (∀ u : World, Calls Try.prog 10 #[.int .i64 p, .int .i64 am] u fun e u' => NsAns u (newA p am) (okN p am) e u') := fun u => specNs_any p am u
  generalize newA p am = s at *
  generalize okN p am = ok at *
  have hT : (ok != ok) = false := by cases ok <;> rfl
  have hk3 := hSz.k3
  obtain ⟨K, hKe⟩ : ∃ K, snK3 s 1 = K := ⟨_, rfl⟩
  have hne : ((K : Int) != (K : Int)) = false := by simp
  go_enter Try.func3, Try.ntmps3
  go_wp2_with fail
  refine (HS.out _).mono ?_
  rintro r w1 ⟨s0, sc0, s1, sc1, s2, sc2, sr, sk, sp2, sp3, sm2, sm3, rfl, W1, B1⟩
  have R1 := W1.reads hS8
  clear W1 HS
  obtain ⟨u1, hu1⟩ : ∃ u, (w1.alloc (.cells #[.slice s0 s.am.length sc0, .slice s1 s.chs.length sc1, .slice s2 s.pcs.length sc2, .int .i64 s.sent, .int .i64 s.total] 26)) = u := ⟨_, rfl⟩
  have ss : u1.cell? ⟨w1.heap.size, 0, none⟩ = some (.slice s0 s.am.length sc0) ∧ u1.cell? ⟨w1.heap.size, 1, none⟩ = some (.slice s1 s.chs.length sc1) ∧ u1.cell? ⟨w1.heap.size, 2, none⟩ = some (.slice s2 s.pcs.length sc2) ∧ u1.cell? ⟨w1.heap.size, 3, none⟩ = some (.int .i64 s.sent) ∧ u1.cell? ⟨w1.heap.size, 4, none⟩ = some (.int .i64 s.total) := by rw [← hu1]; simp [go_sem]
  have bu1 : Below w1.heap.size w1 u1 := by rw [← hu1]; exact alB _ _
  have zu1 : u1.heap.size = w1.heap.size + 1 := by rw [← hu1]; simp
  have qs := ss
  obtain ⟨e0, e1, e2, e3, e4⟩ := qs
  go_wp2_with fail
  clear hu1 e0 e1 e2 e3 e4
  refine (HI.out _).mono ?_
  rintro r w2 ⟨g0, gc0, g1, gc1, g2, gc2, gr, gk, gp2, gp3, gm2, gm3, rfl, W2, B2⟩
  replace ss := five7 B2 ss
  have BW := stB (stB B1 bu1) B2
  have BS := stB bu1 B2
  have zb2 := B2.size
  obtain ⟨u2, hu2⟩ : ∃ u, (w2.alloc (.cells #[.slice g0 s.am.length gc0, .slice g1 s.chs.length gc1, .slice g2 s.pcs.length gc2, .int .i64 s.sent, .int .i64 s.total] 26)) = u := ⟨_, rfl⟩
  have gg : u2.cell? ⟨w2.heap.size, 0, none⟩ = some (.slice g0 s.am.length gc0) ∧ u2.cell? ⟨w2.heap.size, 1, none⟩ = some (.slice g1 s.chs.length gc1) ∧ u2.cell? ⟨w2.heap.size, 2, none⟩ = some (.slice g2 s.pcs.length gc2) ∧ u2.cell? ⟨w2.heap.size, 3, none⟩ = some (.int .i64 s.sent) ∧ u2.cell? ⟨w2.heap.size, 4, none⟩ = some (.int .i64 s.total) := by rw [← hu2]; simp [go_sem]
  have bu2 : Below w2.heap.size w2 u2 := by rw [← hu2]; exact alB _ _
  have zu2 : u2.heap.size = w2.heap.size + 1 := by rw [← hu2]; simp
  replace ss := five7 bu2 ss
  have WG := W2.below bu2
  have nI : ¬ InI g0 s.am.length w2.heap.size := fun hi => by have := (W2.amr.lt hi).2; omega
  have nC : ¬ ChIn g1 s.chs gr w2.heap.size := fun hi => by have := (W2.chs.lt hi).2; omega
  have nP : ¬ PcIn g2 s.pcs gp2 gp3 w2.heap.size := fun hi => by have := (W2.pcs.lt hi).2; omega
  replace BW := stB BW bu2
  replace BS := stB BS bu2
  clear W2 B2 bu1
  have qs := ss
  obtain ⟨e0, e1, e2, e3, e4⟩ := qs
  have qg := gg
  obtain ⟨f0, f1, f2, f3, f4⟩ := qg
  go_wp2_with fail
  clear hu2 e0 e1 e2 e3 e4 f0 f1 f2 f3 f4
  refine (eqSnap_same s _ _ _ _ _ _ _ _ _ _ _ _ _ (WG.reads hS8) (R1.below BS) hL).mono ?_
  rintro r w3 ⟨rfl, B3⟩
  replace ss := five7 B3 ss
  replace gg := five7 B3 gg
  replace WG := WG.below B3
  replace BW := stB BW B3
  replace BS := stB BS B3
  have zb3 := B3.size
  clear B3 bu2
  have qg := gg
  obtain ⟨f0, f1, f2, f3, f4⟩ := qg
  go_wp2_with fail
  clear f0 f1 f2 f3 f4
  have zg := lt9 gg
  refine (markSnap_any s 1 (u1.heap.size + 1) _ _ _ _ _ _ gr gk gp2 gp3 gm2 gm3 _ WG hSz (by omega)).mono ?_
  rintro r w4 ⟨rfl, HH, B4, F4⟩
  rw [hKe]
  have zs := lt9 ss
  replace ss := five9 (B4.block _ (by omega)) ss
  replace gg := five9 (F4 _ zg nI nC nP) gg
  have BS4 : Below w1.heap.size w1 w4 := BS.trans (B4.mono (by omega))
  have B4w : Below w.heap.size w3 w4 := B4.mono (by have := B1.size; omega)
  replace BW := BW.trans B4w
  clear B4 F4 B4w WG nI nC nP BS zg zs
  have qg := gg
  obtain ⟨f0, f1, f2, f3, f4⟩ := qg
  go_wp2_with fail
  clear f0 f1 f2 f3 f4
  refine (heldSnap_any s 1 (u1.heap.size + 1) _ _ _ _ _ _ gr gk gp2 gp3 gm2 gm3 _ HH hSz).mono ?_
  rintro r w5 ⟨rfl, B5⟩
  rw [hKe]
  replace ss := five7 B5 ss
  replace gg := five7 B5 gg
  replace HH := HH.below B5
  replace BW := stB BW B5
  have BS5 := stB BS4 B5
  clear B5 BS4
  go_wp2_with fail
  refine (HI.out _).mono ?_
  rintro r w6 ⟨h0, hc0, h1, hc1, h2, hc2, hr, hk, hp2, hp3, hm2, hm3, rfl, W6, B6⟩
  replace ss := five7 B6 ss
  replace gg := five7 B6 gg
  replace HH := HH.below B6
  replace BW := stB BW B6
  have BS6 := stB BS5 B6
  clear B6 BS5 HI
  obtain ⟨u6, hu6⟩ : ∃ u, (w6.alloc (.cells #[.slice h0 s.am.length hc0, .slice h1 s.chs.length hc1, .slice h2 s.pcs.length hc2, .int .i64 s.sent, .int .i64 s.total] 26)) = u := ⟨_, rfl⟩
  have hh : u6.cell? ⟨w6.heap.size, 0, none⟩ = some (.slice h0 s.am.length hc0) ∧ u6.cell? ⟨w6.heap.size, 1, none⟩ = some (.slice h1 s.chs.length hc1) ∧ u6.cell? ⟨w6.heap.size, 2, none⟩ = some (.slice h2 s.pcs.length hc2) ∧ u6.cell? ⟨w6.heap.size, 3, none⟩ = some (.int .i64 s.sent) ∧ u6.cell? ⟨w6.heap.size, 4, none⟩ = some (.int .i64 s.total) := by rw [← hu6]; simp [go_sem]
  have bu6 : Below w6.heap.size w6 u6 := by rw [← hu6]; exact alB _ _
  have zu6 : u6.heap.size = w6.heap.size + 1 := by rw [← hu6]; simp
  replace ss := five7 bu6 ss
  replace gg := five7 bu6 gg
  replace HH := HH.below bu6
  have W7 := (W6.below bu6).reads hS8
  replace BW := stB BW bu6
  have R7 := R1.below (stB BS6 bu6)
  clear W6 bu6 BS6
  have qs := ss
  obtain ⟨e0, e1, e2, e3, e4⟩ := qs
  have qh := hh
  obtain ⟨f0, f1, f2, f3, f4⟩ := qh
  go_wp2_with fail
  clear hu6 e0 e1 e2 e3 e4 f0 f1 f2 f3 f4
  refine (eqSnap_same s _ _ _ _ _ _ _ _ _ _ _ _ _ W7 R7 hL).mono ?_
  rintro r w7 ⟨rfl, B7⟩
  replace gg := five7 B7 gg
  replace HH := HH.below B7
  replace BW := stB BW B7
  clear B7 R7 W7 ss hh R1
  have qg := gg
  obtain ⟨f0, f1, f2, f3, f4⟩ := qg
  go_wp2_with fail
  clear f0 f1 f2 f3 f4
  refine (heldSnap_any s 1 (u1.heap.size + 1) _ _ _ _ _ _ gr gk gp2 gp3 gm2 gm3 _ HH hSz).mono ?_
  rintro r w8 ⟨rfl, B8⟩
  rw [hKe]
  replace BW := stB BW B8
  clear B8 HH
  go_wp2
  go_ret
  exact ⟨rfl, BW⟩

end Go.Proofs.Ytaoecafibmfphaa
