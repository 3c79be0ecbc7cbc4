/-
  The walk of the law FnExactNewWindow: at all that can be read it answers true and leaves what was there as it was. Made by mkwnlaw.py.
-/
import Derived.Test.YtbgjjeecfbdaeaaWnI
import Derived.Test.YtbgjjeecfbdaeaaWnS
import Derived.WalkMore
namespace Go.Proofs.Ytbgjjeecfbdaeaa
open Go.RowKit

theorem WnO.top {w : World} {B : Nat} {s : Wn} {a0 a1 a2 a3 : Option Addr} (h : WnO w B s a0 a1 a2 a3) : ∀ gl, a3 = some ⟨gl, 0, none⟩ → gl < w.heap.size := by
  rcases h.part with ⟨e1, e2, rfl, rfl⟩ | ⟨gp, cp, gl, cl, P, rfl, rfl, e4, e5, hP, hO, hd⟩
  · exact fun gl e => by cases e
  · exact fun gl' e => by simp only [Option.some.injEq, Addr.mk.injEq, and_true] at e; subst e; exact hO.top

set_option maxRecDepth 100000 in
set_option maxHeartbeats 16000000 in
theorem lawWnH (L : List ByteArray) (s : Wn) (ok : Bool) (la : Option Addr) (lc : Nat) (w : World) (hs : Strs w la L) (hm : L.length ≤ maxLen) (hL : WnL s)
    (HS0 : ∀ (u : World) (b : Option Addr) (d : Nat), Strs u b L → Calls Try.prog 6 #[.slice b L.length d] u fun e u' => ∃ a0 a1 a2 a3 c0 c1 c2 c3, e = .returned (.tuple #[wnV s a0 c0 a1 c1 a2 c2 a3 c3, .bool ok]) ∧ WnR u' s a0 a1 a2 a3 ∧ Below u.heap.size u u')
    (HI0 : ∀ (u : World) (b : Option Addr) (d : Nat), Strs u b L → Calls Try.prog 8 #[.slice b L.length d] u fun e u' => ∃ a0 a1 a2 a3 c0 c1 c2 c3, e = .returned (.tuple #[wnV s a0 c0 a1 c1 a2 c2 a3 c3, .bool ok]) ∧ WnO u' u.heap.size s a0 a1 a2 a3 ∧ Below u.heap.size u u') :
    Calls Try.prog 3 #[.slice la L.length lc] w fun r w' => r = .returned (.bool true) ∧ Below w.heap.size w w' := by
  have hT : (ok != ok) = false := by cases ok <;> rfl
  obtain ⟨KK, hKK⟩ : ∃ KK : Nat, 1 + s.txt.length + s.told.length + 6 * s.ps.length + 5 * s.bs.length = KK := ⟨_, rfl⟩
  have hm2 : (((KK : Nat) : Int) != ((KK : Nat) : Int)) = false := by simp
  have hp0 : ¬ (((KK : Nat) : Int) < 0) := by omega
  have HKK := fun (_ : Unit) => hKK
  have HS := fun (_ : Unit) => HS0
  have HI := fun (_ : Unit) => HI0
  clear HS0 HI0 hKK
  have BW : Below w.heap.size w w := Below.refl _ _
  go_enter Try.func3, Try.ntmps3
  go_wp2_with fail
  refine (szStringS_any _ _ L _ _ (hs.below BW) hm (by omega) (by omega)).mono ?_
  rintro r w0 ⟨rfl, rfl⟩
  by_cases hbig : szS L 1048576 < 0
  · go_wp2
    go_ret
    exact ⟨rfl, BW⟩
  have hl1 : L.length ≤ 1048576 := by
    by_cases h : L.length ≤ 1048576
    · exact h
    · exact absurd (by rw [szS_neg 0 (by simp [total]; omega)]; omega) hbig
  have hq1 : ¬ (((1 + L.length : Nat) : Int) < 0) := by omega
  go_wp2_with fail
  refine (toStringS_any _ _ L _ (hs.below BW) hl1).mono ?_
  rintro r w1 ⟨rfl, R1, hB⟩
  have I1 := Strs.of_row R1 hs.size
  replace BW := st5 BW hB
  clear hB hbig
  go_wp2_with fail
  refine (HS () _ _ _ I1).mono ?_
  rintro r w2 ⟨a0, a1, a2, a3, c0, c1, c2, c3, rfl, TW, hB⟩
  replace BW := st5 BW hB
  clear hB HS R1 I1
  have zw := BW.size
  obtain ⟨u2, hu2⟩ : ∃ u, (w2.alloc (.cells #[.slice a0 s.txt.length c0, .int .i64 0, .slice a1 s.told.length c1, .slice none 0 0, .slice none 0 0, .slice a2 s.ps.length c2, .slice a3 s.bs.length c3, .int .i64 s.en] 32)) = u := ⟨_, rfl⟩
  have bu2 : Below w2.heap.size w2 u2 := by rw [← hu2]; exact al5 _ _
  have zu2 : w2.heap.size < u2.heap.size := by rw [← hu2]; simp
  have kv : WnK u2 w2.heap.size s a0 c0 a1 c1 a2 c2 a3 c3 := by rw [← hu2]; exact WnK.new _ _ _ _ _ _ _ _ _ _
  have B1 : Below w2.heap.size w2 u2 := bu2
  replace BW := st5 BW bu2
  have kq := kv
  obtain ⟨q0, q1, q2, q3, q4, q5, q6, q7⟩ := kq
  go_wp2_with fail
  try rw [hu2]
  clear hu2
  clear q0 q1 q2 q3 q4 q5 q6 q7
  refine (toStringS_any _ _ L _ (hs.below BW) hl1).mono ?_
  rintro r w3 ⟨rfl, R3, hB⟩
  have I3 := Strs.of_row R3 hs.size
  have zx : u2.heap.size < w3.heap.size := R3.lt
  obtain ⟨gx, hgx⟩ : ∃ g, u2.heap.size = g := ⟨_, rfl⟩
  replace BW := st5 BW hB
  replace B1 := st5 B1 hB
  replace kv := kv.keep hB
  rw [hgx] at R3 I3 zx zu2
  clear hB
  have kq := kv
  obtain ⟨q0, q1, q2, q3, q4, q5, q6, q7⟩ := kq
  go_wp2_with fail
  try rw [hgx]
  clear q0 q1 q2 q3 q4 q5 q6 q7
  refine (HI () _ _ _ I3).mono ?_
  rintro r w4 ⟨b0, b1, b2, b3, d0, d1, d2, d3, rfl, HO, hB⟩
  obtain ⟨NB, hNB⟩ : ∃ N, w3.heap.size = N := ⟨_, rfl⟩
  have z4 : NB ≤ w4.heap.size := by rw [← hNB]; exact hB.size
  replace BW := st5 BW hB
  replace B1 := st5 B1 hB
  replace kv := kv.keep hB
  replace R3 := R3.of_block (hB.block _ R3.lt)
  replace I3 := I3.below hB
  rw [hNB] at HO zx
  clear hB hNB
  have hG1 : ∀ b, InBlock b0 s.txt.length b ∨ InI b1 s.told.length b → b < w4.heap.size := fun b hb => hb.elim (fun h => (HO.txtR.lt h).2) (fun h => (HO.toldR.lt h).2)
  have hG2 : ∀ gl, b3 = some ⟨gl, 0, none⟩ → gl < w4.heap.size := HO.top
  obtain ⟨u4, hu4⟩ : ∃ u, (w4.alloc (.cells #[.slice b0 s.txt.length d0, .int .i64 0, .slice b1 s.told.length d1, .slice none 0 0, .slice none 0 0, .slice b2 s.ps.length d2, .slice b3 s.bs.length d3, .int .i64 s.en] 32)) = u := ⟨_, rfl⟩
  have bu4 : Below w4.heap.size w4 u4 := by rw [← hu4]; exact al5 _ _
  have zu4 : w4.heap.size < u4.heap.size := by rw [← hu4]; simp
  have kg : WnK u4 w4.heap.size s b0 d0 b1 d1 b2 d2 b3 d3 := by rw [← hu4]; exact WnK.new _ _ _ _ _ _ _ _ _ _
  replace BW := st5 BW bu4
  replace B1 := st5 B1 bu4
  replace kv := kv.keep bu4
  replace HO := HO.below bu4
  replace R3 := R3.of_block (bu4.block _ R3.lt)
  replace I3 := I3.below bu4
  obtain ⟨gb, hgb⟩ : ∃ g, w4.heap.size = g := ⟨_, rfl⟩
  rw [hgb] at kg z4 zu4 hG1 hG2
  have kq := kv
  obtain ⟨q0, q1, q2, q3, q4, q5, q6, q7⟩ := kq
  have kq := kg
  obtain ⟨j0, j1, j2, j3, j4, j5, j6, j7⟩ := kq
  go_wp2_with fail
  try rw [hu4]
  try rw [hgb]
  clear hu4
  clear q0 q1 q2 q3 q4 q5 q6 q7 j0 j1 j2 j3 j4 j5 j6 j7
  refine (eqWindow_same s _ _ _ _ _ _ _ _ _ _ _ _ _ _ _ _ _ HO.reads (TW.below B1) hL).mono ?_
  rintro r w5 ⟨rfl, hB⟩
  have z5 : u4.heap.size ≤ w5.heap.size := hB.size
  replace BW := st5 BW hB
  replace B1 := st5 B1 hB
  replace kv := kv.keep hB
  replace kg := kg.keep hB
  replace HO := HO.below hB
  replace R3 := R3.of_block (hB.block _ R3.lt)
  replace I3 := I3.below hB
  clear hB bu2 bu4 hgb hgx
  go_wp2_with fail
  refine (toStringS_any _ _ L _ (hs.below BW) hl1).mono ?_
  rintro r w6 ⟨rfl, R6, hB⟩
  have I6 := Strs.of_row R6 hs.size
  replace BW := st5 BW hB
  replace B1 := st5 B1 hB
  replace kv := kv.keep hB
  replace kg := kg.keep hB
  replace HO := HO.below hB
  have z6 : w5.heap.size ≤ w6.heap.size := hB.size
  replace R3 := R3.of_block (hB.block _ R3.lt)
  replace I3 := I3.below hB
  clear hB R6
  go_wp2_with fail
  refine (eqStringS_any _ _ _ _ L L _ I3 I6 hm hm).mono ?_
  rintro r w7 ⟨rfl, n7, hn7⟩
  rw [decide_eq_true (rfl : L = L)]
  have hB : Below w6.heap.size w6 w7 := by rw [hn7]; exact below_drewN (Below.refl _ _) n7
  clear hn7
  replace BW := st5 BW hB
  replace B1 := st5 B1 hB
  replace kv := kv.keep hB
  replace kg := kg.keep hB
  replace HO := HO.below hB
  replace R3 := R3.of_block (hB.block _ R3.lt)
  have z7 : w6.heap.size ≤ w7.heap.size := hB.size
  clear hB I3 I6
  go_wp2_with fail
  refine (markStringS_any _ _ _ gx 1 _ (.inr ⟨gx, L.length, _, rfl, Nat.le_refl _, Nat.le_refl _, R3⟩) (by omega) (by omega) (by omega)).mono ?_
  rintro r w8 ⟨rfl, -, -, hB, hO⟩
  have hnx : ∀ b, InBlock (some ⟨gx, 0, none⟩) L.length b → b = gx := fun b ⟨_, o, s, e⟩ => by simp only [Option.some.injEq, Addr.mk.injEq] at e; exact e.1.symm
  have z8 : w7.heap.size ≤ w8.heap.size := hB.size
  replace HO := HO.high (fun b h1 h2 => hO b h2 (fun h => by have := hnx b h; omega))
  replace kg := kg.of_block (hO gb (by omega) (fun h => by have := hnx _ h; omega))
  replace kv := kv.of_block (hB.block _ (by omega))
  replace BW := BW.trans (hB.mono (by omega))
  replace B1 := B1.trans (hB.mono (by omega))
  clear hB hO R3 hnx
  have kq := kv
  obtain ⟨q0, q1, q2, q3, q4, q5, q6, q7⟩ := kq
  have kq := kg
  obtain ⟨j0, j1, j2, j3, j4, j5, j6, j7⟩ := kq
  go_wp2_with fail
  clear q0 q1 q2 q3 q4 q5 q6 q7 j0 j1 j2 j3 j4 j5 j6 j7
  refine (eqWindow_same s _ _ _ _ _ _ _ _ _ _ _ _ _ _ _ _ _ HO.reads (TW.below B1) hL).mono ?_
  rintro r w9 ⟨rfl, hB⟩
  replace BW := st5 BW hB
  replace B1 := st5 B1 hB
  replace kv := kv.keep hB
  replace kg := kg.keep hB
  replace HO := HO.below hB
  have z9 : w8.heap.size ≤ w9.heap.size := hB.size
  clear hB
  have kq := kg
  obtain ⟨q0, q1, q2, q3, q4, q5, q6, q7⟩ := kq
  go_wp2_with fail
  clear q0 q1 q2 q3 q4 q5 q6 q7
  refine (markWindow_any s NB gb _ _ _ _ _ _ _ _ _ HO hL (by omega) hG1 hG2).mono ?_
  rintro r wA ⟨hr, HH, hB, hS⟩
  rw [HKK ()] at hr
  subst hr
  replace kv := kv.of_block (hB.block _ (by omega))
  replace kg := kg.of_block (hS gb (Nat.le_refl _) (by omega))
  replace BW := BW.trans (hB.mono (by omega))
  replace B1 := B1.trans (hB.mono (by omega))
  clear hB hS HO hG1 hG2
  have kq := kg
  obtain ⟨q0, q1, q2, q3, q4, q5, q6, q7⟩ := kq
  go_wp2_with fail
  clear q0 q1 q2 q3 q4 q5 q6 q7
  refine (heldWindow_any s _ _ _ _ _ _ _ _ _ HH hL).mono ?_
  rintro r wB ⟨hr, hB⟩
  rw [HKK ()] at hr
  subst hr
  replace BW := st5 BW hB
  replace B1 := st5 B1 hB
  replace kv := kv.keep hB
  replace kg := kg.keep hB
  replace HH := HH.below hB
  clear hB
  go_wp2_with fail
  refine (toStringS_any _ _ L _ (hs.below BW) hl1).mono ?_
  rintro r wC ⟨rfl, R9, hB⟩
  have I9 := Strs.of_row R9 hs.size
  replace BW := st5 BW hB
  replace B1 := st5 B1 hB
  replace kv := kv.keep hB
  replace kg := kg.keep hB
  replace HH := HH.below hB
  clear hB R9
  go_wp2_with fail
  refine (HI () _ _ _ I9).mono ?_
  rintro r wD ⟨f0, f1, f2, f3, e0, e1, e2, e3, rfl, HD, hB⟩
  have TD := HD.reads
  replace BW := st5 BW hB
  replace B1 := st5 B1 hB
  replace kv := kv.keep hB
  replace kg := kg.keep hB
  replace HH := HH.below hB
  clear hB HD I9 HI
  obtain ⟨uD, huD⟩ : ∃ u, (wD.alloc (.cells #[.slice f0 s.txt.length e0, .int .i64 0, .slice f1 s.told.length e1, .slice none 0 0, .slice none 0 0, .slice f2 s.ps.length e2, .slice f3 s.bs.length e3, .int .i64 s.en] 32)) = u := ⟨_, rfl⟩
  have buD : Below wD.heap.size wD uD := by rw [← huD]; exact al5 _ _
  have kh : WnK uD wD.heap.size s f0 e0 f1 e1 f2 e2 f3 e3 := by rw [← huD]; exact WnK.new _ _ _ _ _ _ _ _ _ _
  replace BW := st5 BW buD
  replace B1 := st5 B1 buD
  replace kv := kv.keep buD
  replace kg := kg.keep buD
  replace HH := HH.below buD
  replace TD := TD.below buD
  have kq := kv
  obtain ⟨q0, q1, q2, q3, q4, q5, q6, q7⟩ := kq
  have kq := kh
  obtain ⟨j0, j1, j2, j3, j4, j5, j6, j7⟩ := kq
  go_wp2_with fail
  try rw [huD]
  clear huD
  clear q0 q1 q2 q3 q4 q5 q6 q7 j0 j1 j2 j3 j4 j5 j6 j7
  refine (eqWindow_same s _ _ _ _ _ _ _ _ _ _ _ _ _ _ _ _ _ TD (TW.below B1) hL).mono ?_
  rintro r wE ⟨rfl, hB⟩
  replace BW := st5 BW hB
  replace kg := kg.keep hB
  replace HH := HH.below hB
  clear hB TD kh kv B1 TW
  have kq := kg
  obtain ⟨q0, q1, q2, q3, q4, q5, q6, q7⟩ := kq
  go_wp2_with fail
  clear q0 q1 q2 q3 q4 q5 q6 q7
  refine (heldWindow_any s _ _ _ _ _ _ _ _ _ HH hL).mono ?_
  rintro r wF ⟨hr, hB⟩
  rw [HKK ()] at hr
  subst hr
  replace BW := st5 BW hB
  clear hB HH kg
  go_wp2
  go_ret
  exact ⟨rfl, BW⟩

theorem lawWn_any (L : List ByteArray) (la : Option Addr) (lc : Nat) (w : World) (hs : Strs w la L) (hm : L.length ≤ maxLen) :
    Calls Try.prog 3 #[.slice la L.length lc] w fun r w' => r = .returned (.bool true) ∧ Below w.heap.size w w' :=
  lawWnH L (newWn L) (gT L) la lc w hs hm (newWn_small L) (fun u b d h => specNewWn_any b d L u h hm) (fun u b d h => implNewWn_any b d L u h hm)

end Go.Proofs.Ytbgjjeecfbdaeaa
