/-
  A log's bytes, the program's side: what impl.LogBytes answers; and the walk of the law FnExactLogBytes.
-/
import Derived.Test.YteefmbaehmcibaaDoorLogEnc
import Derived.Test.YteefmbaehmcibaaDoorLawLogAid
namespace Go.Proofs.YteefmbaehmcibaaDoor
open Go.RowKit

theorem logBytes_take_le {bs : List Bt} (k : Nat) : (logBytes (bs.take k)).length ≤ (logBytes bs).length := by
  have e : logBytes bs = logBytes (bs.take k) ++ logBytes (bs.drop k) := by
    simp only [logBytes]
    rw [← List.flatMap_append, List.take_append_drop]
  rw [e, List.length_append]; omega

set_option maxHeartbeats 2000000 in
theorem implLogBytes_any (bs : List Bt) (a : Option Addr) (c : Nat) (w : World) (hT : TabAt w) (hs : Bats w a bs) (hl : bs.length ≤ maxLen) (hcap : bs.length ≤ c) :
    Calls Tryd.prog 13 #[.slice a bs.length c] w fun r w' => r = .returned (.tuple #[.string (logS bs), .bool (logOk bs)]) ∧ Below w.heap.size w w' := by
  have HL : Hid (bs.length ≤ maxLen) := hl
  have hw0 : 0 < w.heap.size := lt_of_cell (hT 0 (by omega))
  unfold maxLen at hl
  by_cases hg : goodLog bs = false
  · have HE : Hid (logOk bs = false ∧ logS bs = ⟨#[]⟩) := by
      have h : logOk bs = false := by simp [logOk, hg]
      exact ⟨h, by simp [logS, h]⟩
    have HG : Hid (goodLog bs = false) := hg
    clear hg
    go_enter Tryd.func13, Tryd.ntmps13
    go_wp2_with fail
    refine (implGoodLog_any _ _ _ _ hs HL.out hcap).mono ?_
    rintro r w1 ⟨hr, hB⟩
    rw [HG.out] at hr
    subst hr
    go_wp2
    go_ret2
    exact ⟨ret_sb HE.out.2.symm HE.out.1.symm, hB⟩
  · have hg : goodLog bs = true := by simpa using hg
    have hall := goodLog_all hg
    have HG : Hid (goodLog bs = true) := hg
    have HA : Hid (∀ b, b ∈ bs → b.good = true) := hall
    clear hg hall
    go_enter Tryd.func13, Tryd.ntmps13
    go_wp2_with fail
    refine (implGoodLog_any _ _ _ _ hs HL.out hcap).mono ?_
    rintro r w1 ⟨hr, hB1⟩
    rw [HG.out] at hr
    subst hr
    go_wp2
    go_loopw [4, 14] (fun v i wr => ∃ k : Nat, k ≤ bs.length ∧ i = .int .i64 k ∧ wr.ownsRow w.heap.size 5 1 v (logBytes (bs.take k)).length (byteVals (logBytes (bs.take k))) ∧ (logBytes (bs.take k)).length ≤ 600 ∧ Below w.heap.size w wr) (fun _ i _ => bs.length - (intOf i).toNat)
    case atStart => exact ⟨0, Nat.zero_le _, rfl, by simpa [logBytes, byteVals] using World.ownsRow_nil _ _ _ _, by simp [logBytes], hB1⟩
    case round =>
      clear hB1
      obtain ⟨k, hk, rfl, hown, h600, hB⟩ := hrel
      by_cases hlt : k < bs.length
      · obtain ⟨b, hkb⟩ := getBt hlt
        obtain ⟨kb, ob, rfl, hbt⟩ := (hs.below hB) k b hkb
        obtain ⟨ra, rc, c0, c1, c2, c3, c4, hst, hsl⟩ := hbt
        have hgb := HA.out b (List.mem_of_getElem? hkb)
        have hbl := btBytes_length hgb
        have HB : Hid (b.good = true) := hgb
        have HS : Hid (logBytes (bs.take (k + 1)) = logBytes (bs.take k) ++ btBytes b) := logBytes_succ hkb
        have hb1 : Below wr.heap.size wr (wr.alloc (.cells #[.int .i64 b.off, .int .i64 b.ep, .int .i64 b.pr, .int .i64 b.sq, .slice ra b.recs.length rc] 28)) := (Below.refl _ _).alloc (Nat.le_refl _) _
        have hst1 := hst.below hb1
        have hBa := hB.trans (hb1.mono hB.size)
        have hT1 : TabAt (wr.alloc (.cells #[.int .i64 b.off, .int .i64 b.ep, .int .i64 b.pr, .int .i64 b.sq, .slice ra b.recs.length rc] 28)) := hT.below hBa hw0
        have HT : Hid ((logBytes (bs.take (k + 1))).length ≤ (logBytes bs).length) := logBytes_take_le (k + 1)
        clear hs hkb hgb hst hT
        go_wp2_with fail
        refine (implBytes_bt b _ _ _ hT1 hst1 HB.out).mono ?_
        rintro r w2 ⟨rfl, hB2⟩
        have hB2' := hBa.trans (hB2.mono hBa.size)
        have hown2 := owns_below (owns_below hown hb1) hB2
        have hz2 := hB2'.size
        have hsz : (⟨(btBytes b).toArray⟩ : ByteArray).size = (btBytes b).length := mkStr_eq _
        have hda : Hid ((⟨(btBytes b).toArray⟩ : ByteArray).data.toList = btBytes b) := by simp [Hid]
        have hsz2 : (⟨(btBytes b).toArray⟩ : ByteArray).size ≤ 182 := by rw [hsz]; omega
        have HZ : Hid ((⟨(btBytes b).toArray⟩ : ByteArray).size = (btBytes b).length) := hsz
        clear hsz hB hB2 hBa hb1 hst1 hown
        generalize (⟨(btBytes b).toArray⟩ : ByteArray) = u at *
        generalize logBytes (bs.take k) = L at *
        obtain ⟨ao, cap, hv⟩ := owns_form hown2
        subst hv
        by_cases hbig : (600 : Int) < (L.length : Int) + u.size
        · have HE : Hid (logOk bs = false ∧ logS bs = ⟨#[]⟩) := by
            have h : logOk bs = false := by
              have h1 := HT.out
              rw [HS.out, List.length_append] at h1
              have h2 := HZ.out
              simp only [logOk, HG.out, Bool.true_and, decide_eq_false_iff_not]; omega
            exact ⟨h, by simp [logS, h]⟩
          go_wp2
          go_ret2
          exact ⟨ret_sb HE.out.2.symm HE.out.1.symm, hB2'⟩
        · obtain ⟨i0, hi, hz0, hz1, hz3⟩ := info_parts Tryd.infoByte
          go_wp2_with (at_builtin; refine Lib.wpList_append_own_string _ rfl _ _ 43 9 rfl w.heap.size 5 i0 Tryd.underlying43 Tryd.underlying9 hi hz0 hz1 hz3 _ _ _ rfl hown2 u rfl ?c3 ?c4 ?c5 ?_)
          case c3 => unfold maxLen; omega
          case c4 => omega
          case c5 => omega
          intro v2 w3 ho3 hgrow _
          have hB3 := hB2'.grown hgrow (by omega) (fun q hq => ownBlock_ge hown2 hq)
          clear hown2 hgrow hB2'
          go_wp2
          go_roundw
          case rel =>
            refine ⟨k + 1, by omega, by go_num, ?_, ?_, hB3⟩
            · rw [strCells_eq, hda.out] at ho3
              rw [HS.out, List.length_append, byteVals_append, ← HZ.out]
              exact ho3
            · have h2 := HZ.out
              rw [HS.out, List.length_append]; omega
          case measure => simp [intOf]; omega
      · obtain rfl : k = bs.length := by omega
        rw [List.take_length] at hown h600
        have HE : Hid (logOk bs = true ∧ logS bs = ⟨(logBytes bs).toArray⟩) := by
          have h : logOk bs = true := by simp only [logOk, HG.out, Bool.true_and, decide_eq_true_eq]; exact h600
          exact ⟨h, by simp [logS, h]⟩
        have hcv := convert_own hown
        clear hown hs hT
        go_wp2
        go_ret2
        exact ⟨ret_sb HE.out.2.symm HE.out.1.symm, hB⟩

end Go.Proofs.YteefmbaehmcibaaDoor
