/-
  The walk of the law FnBatches.
-/
import Derived.Test.YtlinincmlilbjaaDoorBchD
import Derived.Test.YtlinincmlilbjaaDoorBchM
import Derived.Test.YtlinincmlilbjaaDoorEnds
import Derived.Test.YtlinincmlilbjaaDoorLogD
import Derived.Deep.Cut
import Derived.Deep.CutRange
import Derived.Deep.RegionHeld3
import Derived.Laws.BitsAllLaws
namespace Go.Proofs.YtlinincmlilbjaaDoor
open Go.RowKit

theorem stepB {w u v : World} (h1 : Below w.heap.size w u) (h2 : Below u.heap.size u v) : Below w.heap.size w v := h1.trans (h2.mono h1.size)
theorem encS_good {b : Bt} (hg : b.good = true) : encS b.off b.ep b.pr b.sq b.recs = ⟨(encB b).toArray⟩ := by
  obtain ⟨o, e, p, q, ss⟩ := b
  obtain ⟨o, e, p, q, rfl, rfl, rfl, rfl, -⟩ := good_all hg
  rw [encS_t hg]
  rfl
theorem took_zero {l : List UInt8} (h6 : l.length ≤ 600) (h0 : 0 < l.length) : tookOf l 0 = specTake l 0 := by
  unfold tookOf
  rw [if_pos ⟨h6, by omega, by omega⟩]
  rfl
theorem encB_low {b : Bt} (hg : b.good = true) : 15 ≤ (encB b).length ∧ (encB b).length ≤ 182 := btBytes_length hg
/-- What is told of a text that begins with a good batch's bytes. -/
theorem ans_head {b : Bt} (hg : b.good = true) {t : List UInt8} (ht : t.length ≤ 400) : ansB (encB b ++ t) 0 = b ∧ ansZ (encB b ++ t) 0 = ((encB b).length : Int) ∧ ansK (encB b ++ t) 0 = true := by
  have hl := encB_low hg
  have e : tookOf (encB b ++ t) 0 = some (b, (encB b).length) := by
    rw [took_zero (by rw [List.length_append]; omega) (by rw [List.length_append]; omega), take_head (rest := t) hg (by rw [List.drop_zero]), Nat.zero_add]
  exact ⟨by unfold ansB; rw [e], by unfold ansZ; rw [e], by unfold ansK; rw [e]; rfl⟩
theorem ans_turned {b : Bt} (hg : b.good = true) {p q : List UInt8} {x y : UInt8} (he : encB b = p ++ x :: q) (hxy : x ≠ y) : ansK (p ++ y :: q) 0 = false := by
  have hl := encB_low hg
  have hN : (encB b).length = (p ++ y :: q).length := by rw [he]; simp
  unfold ansK
  rw [took_zero (by omega) (by omega), take_turned hg he hxy]
  rfl
/-- What is told, written again, is what stood there. -/
theorem ans_again {l : List UInt8} {z : Int} (h : ansK l z = true) : (ansB l z).good = true ∧ ∃ n e : Nat, z = n ∧ ansZ l z = e ∧ n ≤ e ∧ e ≤ l.length ∧ encB (ansB l z) = (l.drop n).take (e - n) := by
  unfold ansK at h
  obtain ⟨⟨b, e⟩, he⟩ := Option.isSome_iff_exists.1 h
  have e1 : ansB l z = b := by unfold ansB; rw [he]
  have e2 : ansZ l z = e := by unfold ansZ; rw [he]
  rw [e1, e2]
  unfold tookOf at he
  split at he
  · rename_i hc
    obtain ⟨h1, h2, h3, h4⟩ := take_again he
    exact ⟨h1, z.toNat, e, by omega, rfl, h3, h2, h4⟩
  · cases he

theorem get_list {S : ByteArray} {i : Nat} (h : i < S.size) : S.data.toList[i]? = some (S[i]'h) := by
  rw [List.getElem?_eq_getElem (by simpa using h)]
  rfl
/-- The last two bytes are the sum of those ahead. -/
theorem sum_bytes {b : Bt} {S : ByteArray} {M C : Nat} (hS : S.data.toList = encB b) (hM : S.size = M + 2) (hC : crcOf (S.extract 0 M).data.toList = C) : (S[M]'(by omega)).toNat = C / 256 ∧ (S[M + 1]'(by omega)).toNat = C % 256 := by
  have hl : (encB b).length = M + 2 := by rw [← hS, ← hM]; rfl
  have hf := front_len b
  have hp := encB_parts b
  have e1 : (S.extract 0 M).data.toList = frontOf b.off.toNat b.ep.toNat b.pr.toNat b.sq.toNat b.recs := by
    have : (S.extract 0 M).data.toList = (encB b).take M := by rw [← hS]; simp [ByteArray.data_extract]
    rw [this, hp, List.take_left' (by omega)]
  rw [e1] at hC
  generalize frontOf b.off.toNat b.ep.toNat b.pr.toNat b.sq.toNat b.recs = f at *
  have hlt : C < 65536 := by rw [← hC]; exact crcFold_lt f 65535 (by omega)
  rw [hC] at hp
  have g0 := get_list (S := S) (i := M) (by omega)
  have g1 := get_list (S := S) (i := M + 1) (by omega)
  rw [hS, hp, List.getElem?_append_right (by omega)] at g0 g1
  rw [show M - f.length = 0 from by omega] at g0
  rw [show M + 1 - f.length = 1 from by omega] at g1
  have b0 : (be 2 C)[0]? = some (beByte 2 C 0) := rfl
  have b1 : (be 2 C)[1]? = some (beByte 2 C 1) := rfl
  rw [b0] at g0
  rw [b1] at g1
  rw [← Option.some.inj g0, ← Option.some.inj g1, beByte_toNat, beByte_toNat]
  constructor
  · show C / 256 ^ 1 % 256 = C / 256
    rw [Nat.pow_one]; omega
  · show C / 256 ^ 0 % 256 = C % 256
    rw [Nat.pow_zero, Nat.div_one]
/-- A byte turned: another one. -/
theorem turn_byte (x : UInt8) (d : Nat) (h1 : 1 ≤ d) (h2 : d ≤ 255) : ∃ y : UInt8, x ≠ y ∧ bits .xor .u8 (x.toNat : Int) (d : Int) = (y.toNat : Int) := by
  have hx : x.toNat < 256 := x.toNat_lt
  have hlt : x.toNat ^^^ d < 2 ^ 8 := Nat.xor_lt_two_pow (by omega) (by omega)
  have hy : (UInt8.ofNat (x.toNat ^^^ d)).toNat = x.toNat ^^^ d := by rw [UInt8.toNat_ofNat']; omega
  refine ⟨UInt8.ofNat (x.toNat ^^^ d), fun e => ?_, by rw [u8_xor_nat _ _ hx (by omega), hy]⟩
  have e2 := congrArg UInt8.toNat e
  rw [hy] at e2
  have : x.toNat ^^^ 0 = x.toNat ^^^ d := by rw [Nat.xor_zero]; exact e2
  have := xor_cancel this
  omega
theorem list_cut {l : List UInt8} {k : Nat} {x : UInt8} (h : l[k]? = some x) : l = l.take k ++ x :: l.drop (k + 1) := by
  obtain ⟨hk, e⟩ := List.getElem?_eq_some_iff.1 h
  rw [← e, List.getElem_cons_drop, List.take_append_drop]

set_option maxRecDepth 100000 in
set_option maxHeartbeats 16000000 in
theorem lawBatchesF_any (a a2 : Option Addr) (c c2 : Nat) (bs bs2 : List UInt8) (w : World) (hs : Bys w a bs) (hs2 : Bys w a2 bs2) (hm : bs.length ≤ 140737488351232) (hm2 : bs2.length ≤ 140737488351232) (hT : TabAt w) :
    Calls Tryd.prog 3 #[.slice a bs.length c, .slice a2 bs2.length c2] w fun r w' => r = .returned (.bool true) ∧ Below w.heap.size w w' := by
  by_cases hbig : 1048576 < bs.length + bs2.length
  · have hbI : (1048576 : Int) < (bs.length : Int) + (bs2.length : Int) := by omega
    go_enter Tryd.func3, Tryd.ntmps3
    go_wp2
    go_ret
    exact ⟨rfl, Below.refl _ _⟩
  have hbI : (bs.length : Int) + (bs2.length : Int) ≤ (1048576 : Int) := by omega
  have hl1 : bs.length ≤ 1048576 := by omega
  have hl2 : bs2.length ≤ 1048576 := by omega
  have hw0 : 0 < w.heap.size := lt_of_cell (hT 0 (by omega))
  clear hbig
  go_enter Tryd.func3, Tryd.ntmps3
  go_wp2_with fail
  refine (drawBatchBytes_any _ _ _ _ hs hl1).mono ?_
  rintro r w1 ⟨x, ra, rc, rfl, hst0, hle, B0⟩
  obtain ⟨eb, heb⟩ : ∃ b, w1.heap.size = b := ⟨_, rfl⟩
  obtain ⟨u1, hu1⟩ : ∃ u, w1.alloc (.cells #[.int .i64 x.off, .int .i64 x.ep, .int .i64 x.pr, .int .i64 x.sq, .slice ra x.recs.length rc] 25) = u := ⟨_, rfl⟩
  have bu1 : Below w1.heap.size w1 u1 := by rw [← hu1]; exact (Below.refl _ _).alloc (Nat.le_refl _) _
  have kb : BoxB u1 eb x (.slice ra x.recs.length rc) := by rw [← hu1, ← heb]; exact BoxB.new w1 x _
  have BW := stepB B0 bu1
  have hst := hst0.below bu1
  have hxl : x.recs.length ≤ maxLen := by unfold maxLen; omega
  have P1 := fun (u : World) (h1 : TabAt u) (h2 : Strs u ra x.recs) => implBatchBytes_any x.off x.ep x.pr x.sq x.recs ra rc u h1 h2 hxl
  have P2 := fun (u : World) (h2 : Strs u ra x.recs) => specBatchBytes_any x.off x.ep x.pr x.sq x.recs ra rc u h2 hxl
  have P3 := fun (u : World) (h2 : Strs u ra x.recs) => implEnd_any x.off x.ep x.pr x.sq x.recs ra rc u h2 hxl
  have P4 := fun (u : World) (h2 : Strs u ra x.recs) => specEnd_any x.off x.ep x.pr x.sq x.recs ra rc u h2 hxl
  have P5 := fun (u : World) (h2 : Strs u ra x.recs) => implGood_any x.off x.ep x.pr x.sq x.recs ra rc u h2 hxl
  obtain ⟨G, hG⟩ : ∃ G, Bt.good ⟨x.off, x.ep, x.pr, x.sq, x.recs⟩ = G := ⟨_, rfl⟩
  obtain ⟨S, hS⟩ : ∃ S, encS x.off x.ep x.pr x.sq x.recs = S := ⟨_, rfl⟩
  obtain ⟨E, hE⟩ : ∃ E, Bt.endOf ⟨x.off, x.ep, x.pr, x.sq, x.recs⟩ = E := ⟨_, rfl⟩
  simp only [hG, hS, hE] at P1 P2 P3 P4 P5
  have HG := fun (_ : Unit) => hG
  have HS := fun (_ : Unit) => hS
  have HE := fun (_ : Unit) => hE
  have HXL := fun (_ : Unit) => hxl
  clear hst0 B0 bu1 hG hS hE hxl
  obtain ⟨b0, b1, b2, b3, b4⟩ := kb.at_
  go_wp2_with fail
  try rw [hu1]
  try rw [heb]
  clear hu1 heb
  clear b0 b1 b2 b3 b4
  refine (P1 _ (hT.below BW hw0) hst).mono ?_
  rintro r w2 ⟨rfl, hB⟩
  replace kb := kb.below hB
  replace hst := hst.below hB
  replace BW := stepB BW hB
  clear hB P1
  obtain ⟨b0, b1, b2, b3, b4⟩ := kb.at_
  go_wp2_with fail
  clear b0 b1 b2 b3 b4
  refine (P2 _ hst).mono ?_
  rintro r w3 ⟨rfl, hB⟩
  replace kb := kb.below hB
  replace hst := hst.below hB
  replace BW := stepB BW hB
  clear hB P2
  obtain ⟨b0, b1, b2, b3, b4⟩ := kb.at_
  go_wp2_with fail
  clear b0 b1 b2 b3 b4
  refine (P3 _ hst).mono ?_
  rintro r w4 ⟨rfl, hB⟩
  replace kb := kb.below hB
  replace hst := hst.below hB
  replace BW := stepB BW hB
  clear hB P3
  obtain ⟨b0, b1, b2, b3, b4⟩ := kb.at_
  go_wp2_with fail
  clear b0 b1 b2 b3 b4
  refine (P4 _ hst).mono ?_
  rintro r w5 ⟨rfl, hB⟩
  replace kb := kb.below hB
  replace hst := hst.below hB
  replace BW := stepB BW hB
  clear hB P4
  have hgg : (G != G) = false := by cases G <;> rfl
  have hee : (E != E) = false := by simp
  obtain ⟨b0, b1, b2, b3, b4⟩ := kb.at_
  go_wp2_with fail
  clear b0 b1 b2 b3 b4
  refine (P5 _ hst).mono ?_
  rintro r w6 ⟨rfl, hB⟩
  replace kb := kb.below hB
  replace hst := hst.below hB
  replace BW := stepB BW hB
  clear hB P5
  obtain ⟨b0, b1, b2, b3, b4⟩ := kb.at_
  go_upto_if 96 with fail
  clear b0 b1 b2 b3 b4
  go_cut [] from 96 (fun wx => Below w6.heap.size w6 wx)
  case first =>
    cases G
    · go_wp2
      go_meet
      exact Below.refl _ _
    · have hg : x.good = true := HG ()
      have hSe : S = ⟨(encB x).toArray⟩ := (HS ()).symm.trans (encS_good hg)
      have hEe : E = x.off + (x.recs.length : Int) := (HE ()).symm.trans (endOf_t hg)
      obtain ⟨hN1, hN2⟩ := encB_low hg
      have hSb : S.data.toList = encB x := by rw [hSe]
      have hSz : S.size = (encB x).length := by rw [← hSb]; rfl
      have hTx := hT.below BW hw0
      have hS1 : 15 ≤ S.size := by omega
      have hS2 : S.size ≤ 182 := by omega
      have hxz : (S ++ ⟨#[120]⟩ : ByteArray).size = S.size + 1 := by rw [ByteArray.size_append]; rfl
      have hxb : (S ++ ⟨#[120]⟩ : ByteArray).data.toList = encB x ++ [120] := by rw [ByteArray.data_append, Array.toList_append, hSb]
      have T1 := fun (u : World) (hu : TabAt u) => implTakeF (S ++ ⟨#[120]⟩) 0 u (by rw [hxz]; unfold maxLen; omega) hu
      obtain ⟨t1, t2, t3⟩ := ans_head hg (t := [120]) (by simp)
      rw [← hxb] at t1 t2 t3
      simp only [t1, t2, t3] at T1
      simp only [← hSz] at T1
      have HD := fun (_ : Unit) => (show x.good = true ∧ S.data.toList = encB x ∧ S.size = (encB x).length from ⟨hg, hSb, hSz⟩)
      have hEo : (E != x.off + (x.recs.length : Int)) = false := by rw [hEe]; simp
      clear hg hSe hEe hSb hSz hN1 hN2 hxz hxb t1 t2 t3 hgg hee
      obtain ⟨b0, b1, b2, b3, b4⟩ := kb.at_
      go_wp2_with fail
      refine (T1 _ hTx).mono ?_
      rintro r wA ⟨aB, cB, rfl, hbk, -, hB⟩
      have BX := (show Below w6.heap.size w6 wA from hB)
      replace kb := kb.below hB
      replace hst := hst.below hB
      clear T1 hB b0 b1 b2 b3 b4
      obtain ⟨eB, heB⟩ : ∃ b, wA.heap.size = b := ⟨_, rfl⟩
      obtain ⟨uA, huA⟩ : ∃ u, wA.alloc (.cells #[.int .i64 x.off, .int .i64 x.ep, .int .i64 x.pr, .int .i64 x.sq, .slice aB x.recs.length cB] 25) = u := ⟨_, rfl⟩
      have buA : Below wA.heap.size wA uA := by rw [← huA]; exact (Below.refl _ _).alloc (Nat.le_refl _) _
      have kk : BoxB uA eB x (.slice aB x.recs.length cB) := by rw [← huA, ← heB]; exact BoxB.new wA x _
      replace BX := stepB BX buA
      replace hbk := hbk.below buA
      replace kb := kb.below buA
      replace hst := hst.below buA
      clear buA
      have hTA := hTx.below BX (lt_of_cell (hTx 0 (by omega)))
      obtain ⟨M, hMe⟩ : ∃ M : Nat, S.size = M + 2 := ⟨S.size - 2, by omega⟩
      have hM : (S.size : Int) - 2 = (M : Int) := by omega
      have hM0 : (0 : Int) ≤ (M : Int) := by omega
      have hMI : (M : Int) ≤ (S.size : Int) := by omega
      have hMS : M < S.size := by omega
      have hMS1 : M + 1 < S.size := by omega
      have hXz : (S.extract 0 M).size = M := by rw [ByteArray.size_extract]; omega
      obtain ⟨C, hC⟩ : ∃ C : Nat, crcOf (S.extract 0 M).data.toList = C := ⟨_, rfl⟩
      have e1 : sumI (S.extract 0 M) = (C : Int) := by unfold sumI; rw [if_pos (by omega), hC]
      have e2 : sumB (S.extract 0 M) = true := by unfold sumB; rw [hXz]; exact decide_eq_true (by omega)
      have HU := fun (_ : Unit) => implSumOf_any (S.extract 0 M) uA (by rw [hXz]; unfold maxLen; omega) hTA
      simp only [e1, e2] at HU
      have hCl : C < 65536 := by rw [← hC]; exact crcFold_lt _ 65535 (by omega)
      have HC := fun (_ : Unit) => hC
      have HMe := fun (_ : Unit) => hMe
      clear e1 e2 hXz hC hMe
      obtain ⟨b0, b1, b2, b3, b4⟩ := kb.at_
      obtain ⟨d0, d1, d2, d3, d4⟩ := kk.at_
      go_wp2_with fail
      try rw [huA]
      try rw [heB]
      clear huA heB b0 b1 b2 b3 b4 d0 d1 d2 d3 d4
      refine (HU ()).mono ?_
      rintro r wB ⟨rfl, rfl⟩
      clear HU
      obtain ⟨b0, b1, b2, b3, b4⟩ := kb.at_
      obtain ⟨d0, d1, d2, d3, d4⟩ := kk.at_
      go_wp2_with fail
      clear b0 b1 b2 b3 b4 d0 d1 d2 d3 d4
      refine (sameBatch_same x.off x.ep x.pr x.sq x.recs aB ra cB rc _ hbk hst (HXL ())).mono ?_
      rintro r wC ⟨rfl, hB⟩
      replace kb := kb.below hB
      have BY := stepB BX hB
      clear BX hB kk hbk hst
      have hof : (0 : Int) ≤ x.off ∧ x.off ≤ 100000 := by
        obtain ⟨h1, h2, h3⟩ := HD ()
        have := good_bounds h1
        omega
      obtain ⟨hof0, hof1⟩ := hof
      have hxl3 : (x.recs.length : Int) ≤ 3 := by omega
      have hsb := sum_bytes (HD ()).2.1 (HMe ()) (HC ())
      have hk1 : ((S[M]'hMS).toNat : Int) = (C : Int) / 256 := by rw [hsb.1]; rfl
      have hk3 : (S[S.size - 1]'(by omega)).toNat = C % 256 := by
        have e : ∀ (i : Nat) (h : i < S.size), i = M + 1 → (S[i]'h).toNat = C % 256 := fun i h e => by subst e; exact hsb.2
        exact e (S.size - 1) (by omega) (by have := HMe (); omega)
      have hk2 : (((S[S.size - 1]'(by omega)).toNat : Int) != (C : Int) % 256) = false := by rw [hk3]; simp
      clear hsb hk3
      have hs7 := (hs2.below BW).below BY
      have HH := fun (_ : Unit) => hTx
      obtain ⟨b0, b1, b2, b3, b4⟩ := kb.at_
      go_wp2_with fail
      clear b0 b1 b2 b3 b4 hk1 hk2 kb
      refine (numberOf_any _ _ _ _ hs7 hl2).mono ?_
      rintro r wD ⟨n, rfl, hn, hB⟩
      have BZ := stepB BY hB
      have hs8 := hs7.below hB
      clear hs7 hB BY hn
      have hq0 : ((S.size : Int) == 0) = false := by rw [beq_eq_false_iff_ne]; omega
      obtain ⟨k, hkk⟩ : ∃ k, n % S.size = k := ⟨_, rfl⟩
      have hkl : k < S.size := by rw [← hkk]; exact Nat.mod_lt _ (by omega)
      have hkq : (n : Int) % (S.size : Int) = (k : Int) := by rw [← hkk]; rfl
      have hk0 : (0 : Int) ≤ (k : Int) := by omega
      have hkI : (k : Int) < (S.size : Int) := by omega
      have hkI2 : (k : Int) ≤ (S.size : Int) := by omega
      have hkI3 : (k : Int) + 1 ≤ (S.size : Int) := by omega
      go_wp2_with fail
      have hS0 : (S.size : Int) ≤ 182 := by omega
      obtain ⟨k1, hk1⟩ : ∃ k1 : Nat, k1 = k + 1 := ⟨_, rfl⟩
      have hkw : IntKind.i64.wrap ((k : Int) + 1) = (k1 : Int) := by rw [IntKind.wrap_i64]; omega
      have hk10 : (0 : Int) ≤ (k1 : Int) := by omega
      have hk11 : (k1 : Int) ≤ (S.size : Int) := by omega
      have HK1 := fun (_ : Unit) => hk1
      clear hk1
      refine wp_region_noPanic ?_
      refine wp_region_held_drew (S := fun _ => True) (by kernel_rfl) trivial (fun hH => ?_)
      clear hH
      obtain ⟨x9, hx9⟩ : ∃ u, wD.drew = u := ⟨_, rfl⟩
      have B9 : Below wD.heap.size wD x9 := by rw [← hx9]; exact (Below.refl _ _).drew
      try rw [hx9]
      clear hx9
      replace BZ := stepB BZ B9
      replace hs8 := hs8.below B9
      clear B9
      refine wpAnyH_take (i := 0) (oi := ⟨_, _, _, _, _, _⟩) (v := ?vt0) rfl (by kernel_rfl) (by kernel_rfl) (by kernel_rfl) (fun _ _ _ h => h) (Or.inl ⟨by rfl, ?yt0⟩) trivial ?rt0
      case yt0 => intro w hSw; clear hSw; go_simp; try with_reducible rfl
      try simp only [Act.put, List.setIfInBounds_toArray, List.set_cons_zero, List.set_cons_succ]
      refine wpAnyH_take (i := 1) (oi := ⟨_, _, _, _, _, _⟩) (v := ?vt1) rfl (by kernel_rfl) (by kernel_rfl) (by kernel_rfl) (fun _ _ _ h => h) (Or.inl ⟨by rfl, ?yt1⟩) trivial ?rt1
      case yt1 => intro w hSw; clear hSw; go_simp; try with_reducible rfl
      try simp only [Act.put, List.setIfInBounds_toArray, List.set_cons_zero, List.set_cons_succ]
      refine wpAnyH_take (i := 2) (oi := ⟨_, _, _, _, _, _⟩) (v := ?vt2) rfl (by kernel_rfl) (by kernel_rfl) (by kernel_rfl) (fun _ _ _ h => h) (Or.inl ⟨by rfl, ?yt2⟩) trivial ?rt2
      case yt2 => intro w hSw; clear hSw; go_simp; try with_reducible rfl
      try simp only [Act.put, List.setIfInBounds_toArray, List.set_cons_zero, List.set_cons_succ]
      refine wpAnyH_take (i := 3) (oi := ⟨_, _, _, _, _, _⟩) (v := ?vt3) rfl (by kernel_rfl) (by kernel_rfl) (by kernel_rfl) (fun _ _ _ h => h) (Or.inl ⟨by rfl, ?yt3⟩) trivial ?rt3
      case yt3 => intro w hSw; clear hSw; go_simp; try with_reducible rfl
      try simp only [Act.put, List.setIfInBounds_toArray, List.set_cons_zero, List.set_cons_succ]
      refine wpAnyH_take (i := 4) (oi := ⟨_, _, _, _, _, _⟩) (v := ?vt4) rfl (by kernel_rfl) (by kernel_rfl) (by kernel_rfl) (fun _ _ _ h => h) (Or.inl ⟨by rfl, ?yt4⟩) trivial ?rt4
      case yt4 => intro w hSw; clear hSw; go_simp; try with_reducible rfl
      try simp only [Act.put, List.setIfInBounds_toArray, List.set_cons_zero, List.set_cons_succ]
      refine wpAnyH_take (i := 5) (oi := ⟨_, _, _, _, _, _⟩) (v := ?vt5) rfl (by kernel_rfl) (by kernel_rfl) (by kernel_rfl) (fun _ _ _ h => h) (Or.inl ⟨by rfl, ?yt5⟩) trivial ?rt5
      case yt5 => intro w hSw; clear hSw; go_simp; try with_reducible rfl
      try simp only [Act.put, List.setIfInBounds_toArray, List.set_cons_zero, List.set_cons_succ]
      refine wpAnyH_take (i := 6) (oi := ⟨_, _, _, _, _, _⟩) (v := ?vt6) rfl (by kernel_rfl) (by kernel_rfl) (by kernel_rfl) (fun _ _ _ h => h) (Or.inl ⟨by rfl, ?yt6⟩) trivial ?rt6
      case yt6 => intro w hSw; clear hSw; go_simp; try with_reducible rfl
      try simp only [Act.put, List.setIfInBounds_toArray, List.set_cons_zero, List.set_cons_succ]
      refine wpAnyH_take (i := 15) (oi := ⟨_, _, _, _, _, _⟩) (v := ?vt15) rfl (by kernel_rfl) (by kernel_rfl) (by kernel_rfl) (fun _ _ _ h => h) (Or.inl ⟨by rfl, ?yt15⟩) trivial ?rt15
      case yt15 => intro w hSw; clear hSw; go_simp; try with_reducible rfl
      try simp only [Act.put, List.setIfInBounds_toArray, List.set_cons_zero, List.set_cons_succ]
      refine wpAnyH_take (i := 16) (oi := ⟨_, _, _, _, _, _⟩) (v := ?vt16) rfl (by kernel_rfl) (by kernel_rfl) (by kernel_rfl) (fun _ _ _ h => h) (Or.inl ⟨by rfl, ?yt16⟩) trivial ?rt16
      case yt16 => intro w hSw; clear hSw; go_simp; try with_reducible rfl
      try simp only [Act.put, List.setIfInBounds_toArray, List.set_cons_zero, List.set_cons_succ]
      refine wpAnyH_take (i := 17) (oi := ⟨_, _, _, _, _, _⟩) (v := ?vt17) rfl (by kernel_rfl) (by kernel_rfl) (by kernel_rfl) (fun _ _ _ h => h) (Or.inl ⟨by rfl, ?yt17⟩) trivial ?rt17
      case yt17 => intro w hSw; clear hSw; go_simp; try with_reducible rfl
      try simp only [Act.put, List.setIfInBounds_toArray, List.set_cons_zero, List.set_cons_succ]
      refine wpAnyH_take (i := 18) (oi := ⟨_, _, _, _, _, _⟩) (v := ?vt18) rfl (by kernel_rfl) (by kernel_rfl) (by kernel_rfl) (fun _ _ _ h => h) (Or.inl ⟨by rfl, ?yt18⟩) trivial ?rt18
      case yt18 => intro w hSw; clear hSw; go_simp; try with_reducible rfl
      try simp only [Act.put, List.setIfInBounds_toArray, List.set_cons_zero, List.set_cons_succ]
      refine wpAnyH_ready (rs := [7]) (by kernel_rfl) (by simp) ?_
      refine AllReadyH.cons (o := ⟨_, _, _, _, _, _⟩) rfl (fun KK hK => ?_) AllReadyH.nil
      go_simp
      refine (numberOf_any _ _ _ _ hs8 hl2).mono ?_
      rintro r wE ⟨n2, rfl, hn2, hB⟩
      replace BZ := stepB BZ hB
      clear hB hs8 hn2
      refine hK.out _ _ trivial (fun hHn => ?_)
      clear hK KK hHn
      try simp only [Act.put, List.setIfInBounds_toArray, List.set_cons_zero, List.set_cons_succ]
      obtain ⟨d, hd⟩ : ∃ d : Nat, n2 % 255 = d := ⟨_, rfl⟩
      have hd2 : d < 255 := by rw [← hd]; exact Nat.mod_lt _ (by omega)
      have hdq : (n2 : Int) % 255 = (d : Int) := by rw [← hd]; rfl
      obtain ⟨d1, hd1⟩ : ∃ d1 : Nat, d1 = d + 1 := ⟨_, rfl⟩
      have hdI : (1 : Int) + (d : Int) = (d1 : Int) := by omega
      have hdl : (d1 : Int) ≤ 255 := by omega
      have hd0 : (0 : Int) ≤ (d1 : Int) := by omega
      have hdt : (n2 : Int).tmod 255 = (d : Int) := by rw [← hd]; rfl
      have hdw : IntKind.i64.wrap (1 + (d : Int)) = (d1 : Int) := by rw [IntKind.wrap_i64]; omega
      have hdy : IntKind.i64.wrap (d1 : Int) = (d1 : Int) := by rw [IntKind.wrap_i64]; omega
      have hdx : IntKind.i64.wrap (d : Int) = (d : Int) := by rw [IntKind.wrap_i64]; omega
      have hdu : IntKind.u8.wrap (d1 : Int) = (d1 : Int) := by rw [IntKind.wrap_u8']; omega
      obtain ⟨y, hne, hxr⟩ := turn_byte (S[k]'hkl) d1 (by omega) (by omega)
      have HY := fun (_ : Unit) => hne
      clear hd hne hd1
      refine wpAnyH_take (i := 8) (oi := ⟨_, _, _, _, _, _⟩) (v := ?vt8) rfl (by kernel_rfl) (by kernel_rfl) (by kernel_rfl) (fun _ _ _ h => h) (Or.inl ⟨by rfl, ?yt8⟩) trivial ?rt8
      case yt8 => intro w hSw; clear hSw; go_simp; try with_reducible rfl
      try simp only [Act.put, List.setIfInBounds_toArray, List.set_cons_zero, List.set_cons_succ]
      refine wpAnyH_take (i := 9) (oi := ⟨_, _, _, _, _, _⟩) (v := ?vt9) rfl (by kernel_rfl) (by kernel_rfl) (by kernel_rfl) (fun _ _ _ h => h) (Or.inl ⟨by rfl, ?yt9⟩) trivial ?rt9
      case yt9 => intro w hSw; clear hSw; go_simp; try with_reducible rfl
      try simp only [Act.put, List.setIfInBounds_toArray, List.set_cons_zero, List.set_cons_succ]
      refine wpAnyH_take (i := 10) (oi := ⟨_, _, _, _, _, _⟩) (v := ?vt10) rfl (by kernel_rfl) (by kernel_rfl) (by kernel_rfl) (fun _ _ _ h => h) (Or.inl ⟨by rfl, ?yt10⟩) trivial ?rt10
      case yt10 => intro w hSw; clear hSw; go_simp; try with_reducible rfl
      try simp only [Act.put, List.setIfInBounds_toArray, List.set_cons_zero, List.set_cons_succ]
      refine wpAnyH_take (i := 11) (oi := ⟨_, _, _, _, _, _⟩) (v := ?vt11) rfl (by kernel_rfl) (by kernel_rfl) (by kernel_rfl) (fun _ _ _ h => h) (Or.inl ⟨by rfl, ?yt11⟩) trivial ?rt11
      case yt11 => intro w hSw; clear hSw; go_simp; try with_reducible rfl
      try simp only [Act.put, List.setIfInBounds_toArray, List.set_cons_zero, List.set_cons_succ]
      refine wpAnyH_ready (rs := [12]) (by kernel_rfl) (by simp) ?_
      refine AllReadyH.cons (o := ⟨_, _, _, _, _, _⟩) rfl (fun KK hK => ?_) AllReadyH.nil
      have hcv := run_convert_bytes_back (P := Tryd.prog) (wE.alloc (.cells #[.int .u8 ((y.toNat : Nat) : Int)] 5)) 22 9 5 ⟨wE.heap.size, 0, none⟩ 1 [y] Tryd.underlying22 Tryd.underlying5 Tryd.underlying9 (fun j hj => by
          obtain rfl : j = 0 := by simpa using hj
          simp [go_sem])
      simp only [List.length_singleton] at hcv
      obtain ⟨wF, hwF⟩ : ∃ u, wE.alloc (.cells #[.int .u8 ((y.toNat : Nat) : Int)] 5) = u := ⟨_, rfl⟩
      have BF : Below wE.heap.size wE wF := by rw [← hwF]; exact (Below.refl _ _).alloc (Nat.le_refl _) _
      rw [hwF] at hcv
      replace BZ := stepB BZ BF
      clear BF
      obtain ⟨Y, hY⟩ : ∃ Y : ByteArray, (⟨[y].toArray⟩ : ByteArray) = Y := ⟨_, rfl⟩
      rw [hY] at hcv
      have HYY := fun (_ : Unit) => hY
      clear hY
      go_simp
      try rw [hwF]
      refine hK.out _ _ trivial (fun hHn => ?_)
      clear hK KK hHn
      try simp only [Act.put, List.setIfInBounds_toArray, List.set_cons_zero, List.set_cons_succ]
      clear hwF
      refine wpAnyH_ready (rs := [13]) (by kernel_rfl) (by simp) ?_
      refine AllReadyH.cons (o := ⟨_, _, _, _, _, _⟩) rfl (fun KK hK => ?_) AllReadyH.nil
      go_simp
      refine hK.out _ _ trivial (fun hHn => ?_)
      clear hK KK hHn
      try simp only [Act.put, List.setIfInBounds_toArray, List.set_cons_zero, List.set_cons_succ]
      clear hcv
      obtain ⟨A, hA⟩ : ∃ A : ByteArray, S.extract 0 k = A := ⟨_, rfl⟩
      obtain ⟨D, hD⟩ : ∃ D : ByteArray, S.extract k1 S.size = D := ⟨_, rfl⟩
      have hAz : A.size ≤ 200 := by rw [← hA, ByteArray.size_extract]; omega
      have hDz : D.size ≤ 200 := by rw [← hD, ByteArray.size_extract]; omega
      have hYz : Y.size = 1 := by rw [← HYY ()]; rfl
      have hc1 : ¬ 9223372036854775807 < A.size + Y.size := by omega
      have hc2 : ¬ 9223372036854775807 < A.size + Y.size + D.size := by omega
      simp only [hA, hD]
      have HAD := fun (_ : Unit) => (show S.extract 0 k = A ∧ S.extract k1 S.size = D from ⟨hA, hD⟩)
      clear hA hD hYz hAz hDz
      refine wpAnyH_take (i := 14) (oi := ⟨_, _, _, _, _, _⟩) (v := ?vt14) rfl (by kernel_rfl) (by kernel_rfl) (by kernel_rfl) (fun _ _ _ h => h) (Or.inl ⟨by rfl, ?yt14⟩) trivial ?rt14
      case yt14 => intro w hSw; clear hSw; go_simp; try with_reducible rfl
      try simp only [Act.put, List.setIfInBounds_toArray, List.set_cons_zero, List.set_cons_succ]
      refine wpAnyH_take (i := 19) (oi := ⟨_, _, _, _, _, _⟩) (v := ?vt19) rfl (by kernel_rfl) (by kernel_rfl) (by kernel_rfl) (fun _ _ _ h => h) (Or.inl ⟨by rfl, ?yt19⟩) trivial ?rt19
      case yt19 => intro w hSw; clear hSw; go_simp; try with_reducible rfl
      try simp only [Act.put, List.setIfInBounds_toArray, List.set_cons_zero, List.set_cons_succ]
      refine wpAnyH_take (i := 20) (oi := ⟨_, _, _, _, _, _⟩) (v := ?vt20) rfl (by kernel_rfl) (by kernel_rfl) (by kernel_rfl) (fun _ _ _ h => h) (Or.inl ⟨by rfl, ?yt20⟩) trivial ?rt20
      case yt20 => intro w hSw; clear hSw; go_simp; try with_reducible rfl
      try simp only [Act.put, List.setIfInBounds_toArray, List.set_cons_zero, List.set_cons_succ]
      refine wpAnyH_done (by kernel_rfl) (NoPanic.normal ?_) _
      obtain ⟨Q, hQ⟩ : ∃ Q : ByteArray, A ++ Y ++ D = Q := ⟨_, rfl⟩
      have hQb : Q.data.toList = (encB x).take k ++ y :: (encB x).drop (k + 1) := by
        rw [← hQ, ← HYY (), ← (HD ()).2.1, ← (HAD ()).1, ← (HAD ()).2, HK1 ()]
        simp [ByteArray.data_append, ByteArray.data_extract]
        try (rw [List.take_of_length_le (by simp)])
      have hcut := list_cut (get_list hkl)
      rw [(HD ()).2.1] at hcut
      have hQK : ansK Q.data.toList 0 = false := by rw [hQb]; exact ans_turned (HD ()).1 hcut (HY ())
      have hQs : Q.size ≤ maxLen := by
        have h1 : Q.data.toList.length = (encB x).length := by
          have h9 := congrArg List.length hcut
          rw [List.length_append, List.length_cons] at h9
          rw [hQb, List.length_append, List.length_cons]
          omega
        have h2 : Q.size = Q.data.toList.length := rfl
        have h3 := (HD ()).2.2
        unfold maxLen; omega
      have T2 := fun (u : World) (hu : TabAt u) => implTakeF Q 0 u hQs hu
      simp only [hQK] at T2
      clear hQb hcut hQK hQs
      go_wp2_with fail
      try rw [hQ]
      refine (T2 _ ((HH ()).below BZ (lt_of_cell ((HH ()) 0 (by omega))))).mono ?_
      rintro r wG ⟨aG, cG, rfl, -, -, hB⟩
      replace BZ := stepB BZ hB
      clear hB T2 hQ
      go_wp2_with fail
      go_meet
      exact stepB BZ ((Below.refl _ _).alloc (Nat.le_refl _) _)
  case rest =>
    have BC := BW.trans (hcut.mono BW.size)
    clear kb hst BW hcut hgg hee HG HS HE HXL hle hs
    have hsC := hs2.below BC
    go_wp2_with fail
    refine (drawTakeBatch_any _ _ _ _ hsC hl2).mono ?_
    rintro r v1 ⟨t, z, rfl, ht, hB⟩
    have B1 := stepB BC hB
    clear hsC hB BC
    have htm : t.size ≤ maxLen := by unfold maxLen; omega
    have HI := fun (u : World) (hu : TabAt u) => implTakeF t z u htm hu
    have HP := fun (u : World) => specTakeF t z u htm
    have HA := ans_again (l := t.data.toList) (z := z)
    have HXL : (ansB t.data.toList z).recs.length ≤ 8 := ansB_len _ _
    obtain ⟨X, hX⟩ : ∃ X, ansB t.data.toList z = X := ⟨_, rfl⟩
    obtain ⟨Z, hZ⟩ : ∃ Z, ansZ t.data.toList z = Z := ⟨_, rfl⟩
    obtain ⟨K, hK⟩ : ∃ K, ansK t.data.toList z = K := ⟨_, rfl⟩
    simp only [hX, hZ, hK] at HI HP HA HXL
    clear hX hZ hK
    have HAA := fun (_ : Unit) => HA
    clear HA
    go_wp2_with fail
    refine (HI _ (hT.below B1 hw0)).mono ?_
    rintro r v2 ⟨a3, c3, rfl, h3, -, hB⟩
    have B2 := stepB B1 hB
    clear HI B1 hB
    obtain ⟨ex, hex⟩ : ∃ b, v2.heap.size = b := ⟨_, rfl⟩
    obtain ⟨u2, hu2⟩ : ∃ u, v2.alloc (.cells #[.int .i64 X.off, .int .i64 X.ep, .int .i64 X.pr, .int .i64 X.sq, .slice a3 X.recs.length c3] 25) = u := ⟨_, rfl⟩
    have bu2 : Below v2.heap.size v2 u2 := by rw [← hu2]; exact (Below.refl _ _).alloc (Nat.le_refl _) _
    have kx : BoxB u2 ex X (.slice a3 X.recs.length c3) := by rw [← hu2, ← hex]; exact BoxB.new v2 X _
    replace B2 := stepB B2 bu2
    replace h3 := h3.below bu2
    clear bu2
    obtain ⟨b0, b1, b2, b3, b4⟩ := kx.at_
    go_wp2_with fail
    try rw [hu2]
    try rw [hex]
    clear hu2 hex b0 b1 b2 b3 b4
    refine (HP _).mono ?_
    rintro r v3 ⟨a4, c4, rfl, h4, -, hB⟩
    replace kx := kx.below hB
    replace h3 := h3.below hB
    have B3 := stepB B2 hB
    clear HP B2 hB
    obtain ⟨ey, hey⟩ : ∃ b, v3.heap.size = b := ⟨_, rfl⟩
    obtain ⟨u3, hu3⟩ : ∃ u, v3.alloc (.cells #[.int .i64 X.off, .int .i64 X.ep, .int .i64 X.pr, .int .i64 X.sq, .slice a4 X.recs.length c4] 25) = u := ⟨_, rfl⟩
    have bu3 : Below v3.heap.size v3 u3 := by rw [← hu3]; exact (Below.refl _ _).alloc (Nat.le_refl _) _
    have ky : BoxB u3 ey X (.slice a4 X.recs.length c4) := by rw [← hu3, ← hey]; exact BoxB.new v3 X _
    replace B3 := stepB B3 bu3
    replace h3 := h3.below bu3
    replace h4 := h4.below bu3
    replace kx := kx.below bu3
    clear bu3
    have hsD := hs2.below B3
    obtain ⟨b0, b1, b2, b3, b4⟩ := kx.at_
    obtain ⟨d0, d1, d2, d3, d4⟩ := ky.at_
    go_wp2_with fail
    try rw [hu3]
    try rw [hey]
    clear hu3 hey b0 b1 b2 b3 b4 d0 d1 d2 d3 d4
    refine (drawSumOf_any _ _ _ _ hsD hl2).mono ?_
    rintro r v4 ⟨U, rfl, hU, hB⟩
    replace kx := kx.below hB
    replace ky := ky.below hB
    replace h3 := h3.below hB
    replace h4 := h4.below hB
    have B4 := stepB B3 hB
    clear B3 hB hsD
    have hUm : U.size ≤ maxLen := by unfold maxLen; omega
    have HU := fun (_ : Unit) => implSumOf_any U v4 hUm (hT.below B4 hw0)
    have HV := fun (_ : Unit) => specSumOf_any U v4 hUm
    obtain ⟨D, hD⟩ : ∃ D, sumI U = D := ⟨_, rfl⟩
    obtain ⟨Q, hQ⟩ : ∃ Q, sumB U = Q := ⟨_, rfl⟩
    simp only [hD, hQ] at HU HV
    clear hD hQ hUm
    go_wp2_with fail
    refine (HU ()).mono ?_
    rintro r v5 ⟨rfl, rfl⟩
    go_wp2_with fail
    refine (HV ()).mono ?_
    rintro r v6 ⟨rfl, rfl⟩
    clear HU HV
    have hKK : (K != K) = false := by cases K <;> rfl
    have hQQ : (Q != Q) = false := by cases Q <;> rfl
    have hZZ : (Z != Z) = false := by simp
    have hDD : (D != D) = false := by simp
    obtain ⟨b0, b1, b2, b3, b4⟩ := kx.at_
    obtain ⟨d0, d1, d2, d3, d4⟩ := ky.at_
    go_wp2_with fail
    clear b0 b1 b2 b3 b4 d0 d1 d2 d3 d4 ky
    refine (sameBatch_same X.off X.ep X.pr X.sq X.recs a3 a4 c3 c4 _ h3 h4 (by unfold maxLen; omega)).mono ?_
    rintro r v7 ⟨rfl, hB⟩
    replace kx := kx.below hB
    replace h3 := h3.below hB
    have B7 := stepB B4 hB
    clear B4 hB h4
    cases K
    · go_wp2
      go_ret
      exact ⟨rfl, B7⟩
    · obtain ⟨hXg, n, e, rfl, rfl, hne, hel, henc⟩ := HAA () rfl
      have HX := fun (_ : Unit) => implBatchBytes_any X.off X.ep X.pr X.sq X.recs a3 c3 v7 (hT.below B7 hw0) h3 (by unfold maxLen; omega)
      have e1 : encS X.off X.ep X.pr X.sq X.recs = t.extract n e := by
        rw [encS_good hXg, henc]
        apply ByteArray.ext
        rw [ByteArray.data_extract]
        apply Array.ext'
        simp
      have e2 : Bt.good ⟨X.off, X.ep, X.pr, X.sq, X.recs⟩ = true := hXg
      simp only [e1, e2] at HX
      have hnI : (n : Int) ≤ (e : Int) := by omega
      have hts : t.data.toList.length = t.size := rfl
      have heI : (e : Int) ≤ (t.size : Int) := by omega
      have hn0 : (0 : Int) ≤ (n : Int) := by omega
      have he0 : (0 : Int) ≤ (e : Int) := by omega
      clear henc e1 e2 hXg HAA h3 hts hel hne
      obtain ⟨b0, b1, b2, b3, b4⟩ := kx.at_
      go_wp2_with fail
      clear b0 b1 b2 b3 b4
      refine (HX ()).mono ?_
      rintro r v8 ⟨rfl, hB⟩
      have B8 := stepB B7 hB
      clear B7 hB HX kx
      go_wp2
      go_ret
      exact ⟨rfl, B8⟩

end Go.Proofs.YtlinincmlilbjaaDoor
