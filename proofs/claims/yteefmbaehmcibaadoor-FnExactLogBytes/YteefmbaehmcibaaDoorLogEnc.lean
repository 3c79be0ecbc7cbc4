/-
  A log's bytes: what spec.LogBytes and impl.LogBytes answer at every list of batches that can be read: the same.
-/
import Derived.Test.YteefmbaehmcibaaDoorLogs4
import Derived.Test.YteefmbaehmcibaaDoorLawBytes
namespace Go.Proofs.YteefmbaehmcibaaDoor
open Go.RowKit

def btBytes (b : Bt) : List UInt8 := bytesOf b.off.toNat b.ep.toNat b.pr.toNat b.sq.toNat b.recs
def logBytes (bs : List Bt) : List UInt8 := bs.flatMap btBytes

theorem logBytes_succ {bs : List Bt} {k : Nat} {b : Bt} (h : bs[k]? = some b) : logBytes (bs.take (k + 1)) = logBytes (bs.take k) ++ btBytes b := by
  rw [takeBt_snoc h]; simp [logBytes]

theorem goodFrom_all : ∀ (p : Option Bt) (bs : List Bt), goodFrom p bs = true → ∀ b, b ∈ bs → b.good = true
  | _, [], _, b, hb => by simp at hb
  | p, x :: r, h, b, hb => by
    rw [goodFrom, Bool.and_eq_true, Bool.and_eq_true] at h
    rcases List.mem_cons.1 hb with rfl | hb
    · exact h.1.1
    · exact goodFrom_all (some x) r h.2 b hb

theorem goodLog_all {bs : List Bt} (h : goodLog bs = true) : ∀ b, b ∈ bs → b.good = true := goodFrom_all none bs h

theorem bytesOf_length (o e p q : Nat) (ss : List ByteArray) : (bytesOf o e p q ss).length = 14 + recLen ss := by
  simp only [bytesOf, frontOf, List.length_append, be_length, bodyOf_length]; omega

theorem recLen_ge (ss : List ByteArray) : ss.length ≤ recLen ss := by
  induction ss with
  | nil => simp
  | cons s r ih =>
    have h3 : recLen (s :: r) = (1 + s.size) + recLen r := by
      simp only [recLen, recBytes, List.flatMap_cons, List.length_append, be_length]
      rfl
    simp only [List.length_cons]
    omega

theorem btBytes_length {b : Bt} (h : b.good = true) : 15 ≤ (btBytes b).length ∧ (btBytes b).length ≤ 182 := by
  obtain ⟨o, e, p, q, ss⟩ := b
  obtain ⟨_, _, _, _, _, _, _, _, _, _, _, _, h1, h2, h3⟩ := good_all h
  have := recLen_le ss h3
  have := recLen_ge ss
  unfold btBytes
  rw [bytesOf_length]
  simp only
  omega

theorem logBytes_length (bs : List Bt) (h : ∀ b, b ∈ bs → b.good = true) : 15 * bs.length ≤ (logBytes bs).length ∧ (logBytes bs).length ≤ 182 * bs.length := by
  induction bs with
  | nil => simp [logBytes]
  | cons b r ih =>
    have h1 := btBytes_length (h b (by simp))
    have h2 := ih (fun c hc => h c (by simp [hc]))
    have h3 : logBytes (b :: r) = btBytes b ++ logBytes r := by simp [logBytes]
    rw [h3, List.length_append, List.length_cons]
    omega

theorem l1Batch_bt (b : Bt) (a : Option Addr) (c : Nat) (w : World) (hs : Strs w a b.recs) (hg : b.good = true) :
    Calls Tryd.prog 17 #[.agg #[.int .i64 b.off, .int .i64 b.ep, .int .i64 b.pr, .int .i64 b.sq, .slice a b.recs.length c]] w fun r w' => r = .returned (.string ⟨(btBytes b).toArray⟩) ∧ Below w.heap.size w w' := by
  obtain ⟨o, e, p, q, ss⟩ := b
  obtain ⟨o, e, p, q, rfl, rfl, rfl, rfl, h1, h2, h3, h4, -, h5, h6⟩ := good_all hg
  simpa [btBytes] using l1Batch_any o e p q ss a c w hs h1 h2 h3 h4 h5 h6

theorem implBytes_bt (b : Bt) (a : Option Addr) (c : Nat) (w : World) (hT : TabAt w) (hs : Strs w a b.recs) (hg : b.good = true) :
    Calls Tryd.prog 8 #[.agg #[.int .i64 b.off, .int .i64 b.ep, .int .i64 b.pr, .int .i64 b.sq, .slice a b.recs.length c]] w fun r w' => r = .returned (.tuple #[.string ⟨(btBytes b).toArray⟩, .bool true]) ∧ Below w.heap.size w w' := by
  obtain ⟨o, e, p, q, ss⟩ := b
  obtain ⟨o, e, p, q, rfl, rfl, rfl, rfl, h1, h2, h3, h4, -, h5, h6⟩ := good_all hg
  simpa [btBytes] using implBatchBytes_good o e p q ss a c w hT hs h1 h2 h3 h4 h5 h6 hg

set_option maxHeartbeats 1000000 in
theorem l1Log_any (bs : List Bt) (a : Option Addr) (c : Nat) (w : World) (hs : Bats w a bs) (hl : bs.length ≤ 600) (hg : ∀ b, b ∈ bs → b.good = true) :
    Calls Tryd.prog 25 #[.slice a bs.length c] w fun r w' => r = .returned (.string ⟨(logBytes bs).toArray⟩) ∧ Below w.heap.size w w' := by
  have HG : Hid (∀ b, b ∈ bs → b.good = true) := hg
  clear hg
  go_enter Tryd.func25, Tryd.ntmps25
  go_wp2
  go_loopw [3, 8] (fun v i wr => ∃ k : Nat, k ≤ bs.length ∧ i = .int .i64 k ∧ ∃ t : ByteArray, v = .string t ∧ Is t (logBytes (bs.take k)) ∧ t.size ≤ 182 * k ∧ Below w.heap.size w wr) (fun _ i _ => bs.length - (intOf i).toNat)
  case atStart => exact ⟨0, Nat.zero_le _, rfl, _, rfl, by simp [Is, logBytes], by simp [ByteArray.size], Below.refl _ _⟩
  case round =>
    obtain ⟨k, hk, rfl, t, rfl, hI, hts, hB⟩ := hrel
    have HI : Hid (Is t (logBytes (bs.take k))) := hI
    clear hI
    by_cases hlt : k < bs.length
    · obtain ⟨b, hkb⟩ := getBt hlt
      obtain ⟨kb, ob, rfl, hbt⟩ := (hs.below hB) k b hkb
      obtain ⟨ra, rc, c0, c1, c2, c3, c4, hst, hsl⟩ := hbt
      have hgb := HG.out b (List.mem_of_getElem? hkb)
      have hbl := btBytes_length hgb
      have HB : Hid (b.good = true) := hgb
      have HS : Hid (logBytes (bs.take (k + 1)) = logBytes (bs.take k) ++ btBytes b) := logBytes_succ hkb
      have hb1 : Below wr.heap.size wr (wr.alloc (.cells #[.int .i64 b.off, .int .i64 b.ep, .int .i64 b.pr, .int .i64 b.sq, .slice ra b.recs.length rc] 28)) := (Below.refl _ _).alloc (Nat.le_refl _) _
      have hst1 := hst.below hb1
      clear hs hkb hgb hst
      go_wp2_with fail
      refine (l1Batch_bt b _ _ _ hst1 HB.out).mono ?_
      rintro r w1 ⟨rfl, hB1⟩
      have hBn := (hB.trans (hb1.mono hB.size)).trans (hB1.mono (by have := hB.size; simp; omega))
      have hsz : (⟨(btBytes b).toArray⟩ : ByteArray).size ≤ 182 := by rw [mkStr_eq]; omega
      have HX : Hid (Is ⟨(btBytes b).toArray⟩ (btBytes b)) := Is.mk _
      generalize (⟨(btBytes b).toArray⟩ : ByteArray) = u at *
      have N1 : ¬ (9223372036854775807 < t.size + u.size) := by omega
      clear hB hB1 hb1 hst1
      go_wp2
      go_roundw
      case rel =>
        refine ⟨k + 1, by omega, by go_num, _, rfl, ?_, by simp only [ByteArray.size_append]; omega, hBn⟩
        rw [HS.out]
        exact HI.out.append HX.out
      case measure => simp [intOf]; omega
    · obtain rfl : k = bs.length := by omega
      rw [List.take_length] at HI
      go_wp2
      go_ret
      exact ⟨ret_str (str_of_is HI.out), hB⟩

/-- What LogBytes answers. -/
def logOk (bs : List Bt) : Bool := goodLog bs && decide ((logBytes bs).length ≤ 600)
def logS (bs : List Bt) : ByteArray := if logOk bs then ⟨(logBytes bs).toArray⟩ else ⟨#[]⟩

set_option maxHeartbeats 1000000 in
theorem specLogBytes_any (bs : List Bt) (a : Option Addr) (c : Nat) (w : World) (hs : Bats w a bs) (hl : bs.length ≤ maxLen) :
    Calls Tryd.prog 11 #[.slice a bs.length c] w fun r w' => r = .returned (.tuple #[.string (logS bs), .bool (logOk bs)]) ∧ Below w.heap.size w w' := by
  have HL : Hid (bs.length ≤ maxLen) := hl
  unfold maxLen at hl
  by_cases hg : goodLog bs = false
  · have HE : Hid (logOk bs = false ∧ logS bs = ⟨#[]⟩) := by
      have h : logOk bs = false := by simp [logOk, hg]
      exact ⟨h, by simp [logS, h]⟩
    have HG : Hid (goodLog bs = false) := hg
    clear hg
    go_enter Tryd.func11, Tryd.ntmps11
    go_wp2_with fail
    refine (specGoodLog_any _ _ _ _ hs HL.out).mono ?_
    rintro r w1 ⟨hr, hB⟩
    rw [HG.out] at hr
    subst hr
    go_wp2
    go_ret2
    exact ⟨ret_sb HE.out.2.symm HE.out.1.symm, hB⟩
  · have hg : goodLog bs = true := by simpa using hg
    have hall := goodLog_all hg
    have hlen := logBytes_length bs hall
    have HG : Hid (goodLog bs = true) := hg
    have HA : Hid (∀ b, b ∈ bs → b.good = true) := hall
    clear hg hall
    by_cases h6 : (600 : Int) < bs.length
    · have HE : Hid (logOk bs = false ∧ logS bs = ⟨#[]⟩) := by
        have h : logOk bs = false := by simp only [logOk, HG.out, Bool.true_and, decide_eq_false_iff_not]; omega
        exact ⟨h, by simp [logS, h]⟩
      go_enter Tryd.func11, Tryd.ntmps11
      go_wp2_with fail
      refine (specGoodLog_any _ _ _ _ hs HL.out).mono ?_
      rintro r w1 ⟨hr, hB⟩
      rw [HG.out] at hr
      subst hr
      go_wp2
      go_ret2
      exact ⟨ret_sb HE.out.2.symm HE.out.1.symm, hB⟩
    · by_cases hbig : (600 : Int) < (logBytes bs).length
      · have HE : Hid (logOk bs = false ∧ logS bs = ⟨#[]⟩) := by
          have h : logOk bs = false := by simp only [logOk, HG.out, Bool.true_and, decide_eq_false_iff_not]; omega
          exact ⟨h, by simp [logS, h]⟩
        go_enter Tryd.func11, Tryd.ntmps11
        go_wp2_with fail
        refine (specGoodLog_any _ _ _ _ hs HL.out).mono ?_
        rintro r w1 ⟨hr, hB⟩
        rw [HG.out] at hr
        subst hr
        go_wp2_with fail
        refine (l1Log_any bs _ _ _ (hs.below hB) (by omega) HA.out).mono ?_
        rintro r w2 ⟨rfl, hB2⟩
        have hsz : (⟨(logBytes bs).toArray⟩ : ByteArray).size = (logBytes bs).length := mkStr_eq _
        have hsz2 : (600 : Int) < (⟨(logBytes bs).toArray⟩ : ByteArray).size := by rw [hsz]; exact hbig
        have hsz3 : ((⟨(logBytes bs).toArray⟩ : ByteArray).size : Int) ≤ 200000 := by rw [hsz]; omega
        clear hsz
        generalize (⟨(logBytes bs).toArray⟩ : ByteArray) = u at *
        go_wp2
        go_ret2
        exact ⟨ret_sb HE.out.2.symm HE.out.1.symm, hB.trans (hB2.mono hB.size)⟩
      · have HE : Hid (logOk bs = true ∧ logS bs = ⟨(logBytes bs).toArray⟩) := by
          have h : logOk bs = true := by simp only [logOk, HG.out, Bool.true_and, decide_eq_true_eq]; omega
          exact ⟨h, by simp [logS, h]⟩
        go_enter Tryd.func11, Tryd.ntmps11
        go_wp2_with fail
        refine (specGoodLog_any _ _ _ _ hs HL.out).mono ?_
        rintro r w1 ⟨hr, hB⟩
        rw [HG.out] at hr
        subst hr
        go_wp2_with fail
        refine (l1Log_any bs _ _ _ (hs.below hB) (by omega) HA.out).mono ?_
        rintro r w2 ⟨rfl, hB2⟩
        have hsz : (⟨(logBytes bs).toArray⟩ : ByteArray).size = (logBytes bs).length := mkStr_eq _
        have hsz2 : ((⟨(logBytes bs).toArray⟩ : ByteArray).size : Int) ≤ 600 := by rw [hsz]; omega
        have HU : Hid (logS bs = ⟨(logBytes bs).toArray⟩) := HE.out.2
        clear hsz
        generalize (⟨(logBytes bs).toArray⟩ : ByteArray) = u at *
        go_wp2
        go_ret2
        exact ⟨ret_sb HU.out.symm HE.out.1.symm, hB.trans (hB2.mono hB.size)⟩

end Go.Proofs.YteefmbaehmcibaaDoor
