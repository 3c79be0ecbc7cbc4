/-
  The walk of the law FnLogs, from the contract of (*l1Cur).batches.
-/
import Derived.Test.YtkphplppaaakiaaDoorBatF
import Derived.Test.YtkphplppaaakiaaDoorLogD
import Derived.Test.YtkphplppaaakiaaDoorLogM
import Derived.Test.YtkphplppaaakiaaDoorLogEnc2
import Derived.Test.YtkphplppaaakiaaDoorLogR
import Derived.Deep.Cut
import Derived.Deep.CutRange
namespace Go.Proofs.YtkphplppaaakiaaDoor
open Go.RowKit

theorem encB_le {b : Bt} (hg : b.good = true) : (encB b).length ≤ 1000000 := by
  rw [encB_len]
  obtain ⟨o, e, p, q, ss⟩ := b
  obtain ⟨_, _, _, _, _, _, _, _, _, _, _, _, _, h2, h3⟩ := good_all hg
  have := recLen_le ss h3
  show 14 + recLen ss ≤ _
  omega

theorem stepB {w u v : World} (h1 : Below w.heap.size w u) (h2 : Below u.heap.size u v) : Below w.heap.size w v := h1.trans (h2.mono h1.size)

set_option maxRecDepth 100000 in
set_option maxHeartbeats 16000000 in
theorem lawLogsF_any (HB : BatchesC) (a a2 : Option Addr) (c c2 : Nat) (bs bs2 : List UInt8) (w : World) (hs : Bys w a bs) (hs2 : Bys w a2 bs2) (hm : bs.length ≤ 140737488351232) (hm2 : bs2.length ≤ 140737488351232) (hT : TabAt w) :
    Calls Tryd.prog 3 #[.slice a bs.length c, .slice a2 bs2.length c2] w fun r w' => r = .returned (.bool true) ∧ Below w.heap.size w w' := by
  by_cases hbig : 1048576 < bs.length + bs2.length
  · have hbI : (1048576 : Int) < (bs.length : Int) + (bs2.length : Int) := by omega
    go_enter Tryd.func3, Tryd.ntmps3
    go_wp2
    go_ret
    exact ⟨rfl, Below.refl _ _⟩
  have hbI : (bs.length : Int) + (bs2.length : Int) ≤ (1048576 : Int) := by omega
  have hl1 : bs.length ≤ 1048576 := by omega
  have hl2 : bs2.length ≤ 1048576 := by omega
  have hw0 : 0 < w.heap.size := lt_of_cell (hT 0 (by omega))
  clear hbig
  go_enter Tryd.func3, Tryd.ntmps3
  go_wp2_with fail
  refine (drawLogBytes_any HB _ _ _ _ hs hl1).mono ?_
  rintro r w1 ⟨av, cv, l, rfl, hE1, hcv, h6, B1⟩
  have hlm : l.length ≤ maxLen := by unfold maxLen; omega
  have hT1 := hT.below B1 hw0
  go_wp2_with fail
  refine (implLogBytes_any l av cv w1 hT1 hE1 hlm hcv).mono ?_
  rintro r w2 ⟨rfl, hB2⟩
  have B2 := B1.trans (hB2.mono B1.size)
  have hE2 := hE1.below hB2
  have hT2 := hT.below B2 hw0
  clear hE1 hT1 hB2 B1
  go_wp2_with fail
  refine (specLogBytes_any l av cv w2 hE2 hlm).mono ?_
  rintro r w3 ⟨rfl, hB3⟩
  have B3 := B2.trans (hB3.mono B2.size)
  have hE3 := hE2.below hB3
  clear hE2 hB3 B2 hT2
  have hok : (logOk l != logOk l) = false := by cases logOk l <;> rfl
  go_wp2_with fail
  refine (implGoodLog_any av cv l w3 hE3 hlm hcv).mono ?_
  rintro r w4 ⟨rfl, hB4⟩
  have B4 := B3.trans (hB4.mono B3.size)
  have hE4 := hE3.below hB4
  clear hE3 hB4 B3
  go_wp2_with fail
  refine (specGoodLog_any av cv l w4 hE4 hlm).mono ?_
  rintro r w5 ⟨rfl, hB5⟩
  have B5 := B4.trans (hB5.mono B4.size)
  have hE5 := hE4.below hB5
  clear hE4 hB5 B4
  have hgg : (goodLog l != goodLog l) = false := by cases goodLog l <;> rfl
  have hT5 := hT.below B5 hw0
  obtain ⟨ok, hlk⟩ : ∃ b, logOk l = b := ⟨_, rfl⟩
  obtain ⟨S, hS⟩ : ∃ S, logS l = S := ⟨_, rfl⟩
  rw [hlk] at hok
  rw [hlk, hS]
  go_upto_if 59 with fail
  go_cut [] from 59 (fun wx => Below w5.heap.size w5 wx)
  case first =>
    cases ok
    · go_wp2
      go_meet
      exact Below.refl _ _
    · have hgl : goodLog l = true := by
        unfold logOk at hlk; rw [Bool.and_eq_true] at hlk; exact hlk.1
      have h600 : (logBytes l).length ≤ 600 := by
        unfold logOk at hlk; rw [Bool.and_eq_true] at hlk; exact of_decide_eq_true hlk.2
      have hS0 : logS l = ⟨(logBytes l).toArray⟩ := by unfold logS; rw [if_pos hlk]
      have hSb : S.data.toList = logBytes l := by rw [← hS, hS0]
      have hSz : S.size = (logBytes l).length := by rw [← hSb]; rfl
      have HR := implRead_got S w5 (by omega) hT5
      rw [hSb, readL_whole hgl] at HR
      simp only at HR
      rw [hSz] at HR
      have hdd : decide ((logBytes l).length = (logBytes l).length) = true := by simp
      rw [hdd, ← hSz] at HR
      have HGL := fun (_ : Unit) => hgl
      clear hdd hS hS0 hok hgg hgl
      go_wp2_with fail
      refine HR.mono ?_
      rintro r w6 ⟨ax, cx, rfl, hX, -, hB6⟩
      have hE6 := hE5.below hB6
      have hT6 := hT5.below hB6 (lt_of_cell (hT5 0 (by omega)))
      clear HR
      have hzz : ((S.size : Int) != (S.size : Int)) = false := by simp
      go_wp2_with fail
      refine (sameBatches_same _ _ _ _ _ _ hX hE6 hlm).mono ?_
      rintro r w7 ⟨rfl, hB7⟩
      have BX := stepB (stepB (Below.refl w5.heap.size w5) hB6) hB7
      have hE7 := hE6.below hB7
      have hT7 := hT6.below hB7 (lt_of_cell (hT6 0 (by omega)))
      have hs7 := (hs2.below B5).below BX
      clear hX hE6 hT6 hB6 hB7
      go_wp2_with fail
      refine (numberOf_any _ _ _ _ hs7 hl2).mono ?_
      rintro r w8 ⟨n, rfl, hn, hB8⟩
      have BY := stepB BX hB8
      have hE8 := hE7.below hB8
      have hT8 := hT7.below hB8 (lt_of_cell (hT7 0 (by omega)))
      have hq0 : ((S.size : Int) + 1 == 0) = false := by simp; omega
      obtain ⟨k, hkk⟩ : ∃ k, n % (S.size + 1) = k := ⟨_, rfl⟩
      have hk : k ≤ S.size := by rw [← hkk]; exact Nat.le_of_lt_succ (Nat.mod_lt _ (Nat.succ_pos _))
      have hkq : (n : Int) % ((S.size : Int) + 1) = (k : Int) := by rw [← hkk]; rfl
      have h6S : S.size ≤ 600 := by omega
      have hkI : (k : Int) ≤ (S.size : Int) := by omega
      have hk0 : (0 : Int) ≤ (k : Int) := by omega
      clear hs7 hE7 hT7 hB8 BX hn
      have HR2 := implRead_got (S.extract 0 k) w8 (by rw [ByteArray.size_extract]; omega) hT8
      have hXb : (S.extract 0 k).data.toList = (logBytes l).take k := by rw [← hSb]; simp [ByteArray.data_extract]
      have hXz : (S.extract 0 k).size = k := by rw [ByteArray.size_extract]; omega
      obtain ⟨m, m1, m2, m3, m4⟩ := readL_cut (HGL ()) k
      rw [hXb, m2, hXz] at HR2
      simp only at HR2
      have HRR := fun (_ : Unit) => HR2
      have HM := fun (_ : Unit) => (show m ≤ l.length ∧ lnB (l.take m) ≤ k ∧ ∀ b, l[m]? = some b → k < lnB (l.take m) + (encB b).length from ⟨m1, m3, m4⟩)
      have HSz : Hid (S.size = (logBytes l).length) := hSz
      clear HR2 hXb hXz m2 hSz hSb m1 m3 m4 h600
      go_wp2_with fail
      refine (HRR ()).mono ?_
      rintro r w9 ⟨ay, cy, rfl, hY, -, hB9⟩
      rw [hkq]
      have BZ := stepB BY hB9
      have hE9 := hE8.below hB9
      have hT9 := hT8.below hB9 (lt_of_cell (hT8 0 (by omega)))
      obtain ⟨m1, m3, m4⟩ := HM ()
      have htl : (l.take m).length = m := by rw [List.length_take]; omega
      have hTk : Bats w9 av (l.take m) := hE9.take m
      obtain ⟨e, he⟩ : ∃ e, lnB (l.take m) = e := ⟨_, rfl⟩
      obtain ⟨T, hTT⟩ : ∃ T, l.take m = T := ⟨_, rfl⟩
      rw [he] at m3 m4
      rw [he]
      rw [hTT] at htl hTk hY
      rw [hTT, htl]
      have hek : ¬ ((k : Int) < (e : Int)) := by omega
      have hml : ¬ ((l.length : Int) < (m : Int)) := by omega
      have hmc : (m : Int) ≤ (cv : Int) := by omega
      have hwI : ((e : Int) == (k : Int)) = decide (e = k) := by
        by_cases h : e = k
        · simp [h]
        · have h2 : ¬ (e : Int) = (k : Int) := by omega
          simp [h, h2]
      have HB0 := fun (_ : Unit) => sameBatches_same ay av cy cv T w9 hY hTk (by omega)
      rw [htl] at HB0
      have HX := fun (_ : Unit) => (show m ≤ l.length ∧ ∀ b, l[m]? = some b → k < e + (encB b).length from ⟨m1, m4⟩)
      clear HRR HM hE8 hT8 hB9 BY hY hTk he hTT m4 hkk hkq HSz
      cases hwb : decide (e = k)
      all_goals
        rw [hwb] at hwI
        go_wp2_with fail
        refine (HB0 ()).mono ?_
        rintro r wA ⟨rfl, hBA⟩
        have BA := stepB BZ hBA
        have hEA := hE9.below hBA
        have hTA := hT9.below hBA (lt_of_cell (hT9 0 (by omega)))
        clear HB0 BZ hE9 hT9 hBA htl
        by_cases hlt : m < l.length
        · obtain ⟨b, hb⟩ : ∃ b, l[m]? = some b := ⟨_, List.getElem?_eq_getElem hlt⟩
          have h4 := (HX ()).2 b hb
          have hgb := goodLog_all (HGL ()) b (List.mem_of_getElem? hb)
          obtain ⟨kb, ob, rfl, ra, rc, c0, c1, c2, c3, c4, hst, hrl⟩ := hEA m b hb
          have hmI : (m : Int) < (l.length : Int) := by omega
          have hm0 : (0 : Int) ≤ (m : Int) := by omega
          have HC := fun (_ : Unit) => implBytes_bt b ra rc wA hTA hst hgb
          have hsz : (⟨(btBytes b).toArray⟩ : ByteArray).size = (encB b).length := rfl
          obtain ⟨N, hN⟩ : ∃ N : ByteArray, (⟨(btBytes b).toArray⟩ : ByteArray) = N := ⟨_, rfl⟩
          rw [hN] at hsz HC
          have hle : ¬ ((e : Int) + (N.size : Int) ≤ (k : Int)) := by omega
          have hNs : N.size ≤ 1000000 := by
            rw [hsz]
            exact encB_le hgb
          clear hst hrl hgb hTA hN hb h4 hsz
          go_wp2_with fail
          refine (HC ()).mono ?_
          rintro r wB ⟨rfl, hBB⟩
          have BB := stepB BA hBB
          clear HC hBB c0 c1 c2 c3 c4
          go_wp2_with fail
          go_meet
          exact BB
        · obtain rfl : m = l.length := by omega
          have hmI : ¬ ((l.length : Int) < (l.length : Int)) := by omega
          go_wp2_with fail
          go_meet
          exact BA
  case rest =>
    have BC := B5.trans (hcut.mono B5.size)
    have hsC := hs2.below BC
    clear hs hE5 hT5 hcut B5 hgg hok hlk hS hlm h6 hcv
    go_wp2_with fail
    refine (drawReadLog_any HB _ _ _ _ hsC hl2).mono ?_
    rintro r v1 ⟨t, rfl, ht, hB1⟩
    have B1 := stepB BC hB1
    have hT1 := hT.below B1 hw0
    clear hsC hB1 BC
    have htm : t.size ≤ maxLen := by unfold maxLen; omega
    have HI := fun (_ : Unit) => implRead_all t v1 htm hT1
    have HS := fun (u : World) => specRead_got t u htm
    have hgd := goodRd t
    obtain ⟨L, hL⟩ : ∃ L, (if t.size ≤ 600 then (readL t.data.toList).1 else []) = L := ⟨_, rfl⟩
    obtain ⟨E, hE⟩ : ∃ E : Int, (if t.size ≤ 600 then (((readL t.data.toList).2 : Nat) : Int) else 0) = E := ⟨_, rfl⟩
    obtain ⟨D, hD⟩ : ∃ D, (if t.size ≤ 600 then decide ((readL t.data.toList).2 = t.size) else false) = D := ⟨_, rfl⟩
    simp only [hL, hE, hD] at HI HS hgd
    clear hL hE hD
    have HGD := fun (_ : Unit) => hgd
    clear hgd
    go_wp2_with fail
    refine (HI ()).mono ?_
    rintro r v2 ⟨a3, c3, rfl, hX, hXc, hLm, hB2⟩
    have B2 := stepB B1 hB2
    clear HI B1 hB2 hT1
    go_wp2_with fail
    refine (HS _).mono ?_
    rintro r v3 ⟨a4, c4, rfl, hY, hB3⟩
    have B3 := stepB B2 hB3
    have hX3 := hX.below hB3
    have hDD : (D == D) = true := by simp
    clear HS B2 hB3 hX
    go_wp2_with fail
    refine (sameBatches_same _ _ _ _ _ _ hX3 hY hLm).mono ?_
    rintro r v4 ⟨rfl, hB4⟩
    have B4 := stepB B3 hB4
    have hX4 := hX3.below hB4
    clear B3 hB4 hX3 hY
    go_wp2_with fail
    refine (implGoodLog_any _ _ _ _ hX4 hLm hXc).mono ?_
    rintro r v5 ⟨rfl, hB5⟩
    have B5 := stepB B4 hB5
    rw [HGD ()]
    clear hX4 hB5 B4
    go_wp2
    go_ret
    exact ⟨rfl, B5⟩

end Go.Proofs.YtkphplppaaakiaaDoor
