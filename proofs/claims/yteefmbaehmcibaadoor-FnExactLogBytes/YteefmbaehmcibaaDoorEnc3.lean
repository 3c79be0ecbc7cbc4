/-
  A batch's bytes, the program's side: what impl.BatchBytes answers where the table holds its numbers.
-/
import Derived.Test.YteefmbaehmcibaaDoorEnc2
import Derived.Lib.AppendStr
namespace Go.Proofs.YteefmbaehmcibaaDoor
open Go.RowKit

theorem putNumber_is (v : Value) (l : List UInt8) (n m : Nat) (x M : Int) (hx : x = n) (hM : M = m) (B : Nat) (w : World) (hn : n ≤ 9223372036854775807) (hm : m ≤ 3) (hl : l.length ≤ 100000) (hB0 : B ≤ w.heap.size) (hown : w.ownsRow B 5 1 v l.length (byteVals l)) :
    Calls Tryd.prog 20 #[v, .int .i64 x, .int .i64 M] w fun e w' => ∃ v', e = .returned v' ∧ w'.ownsRow B 5 1 v' (l ++ be m n).length (byteVals (l ++ be m n)) ∧ Below B w w' := by
  subst hx; subst hM
  exact putNumber_any v l n m B w hn hm hl hB0 hown

theorem strCells_eq (s : ByteArray) : Lib.strCells s = byteVals s.data.toList := by simp [Lib.strCells, byteVals]

theorem TabAt.below {w w' : World} {B : Nat} (h : TabAt w) (hb : Below B w w') (hB : 0 < B) : TabAt w' := fun i hi => (hb.cell (p := ⟨0, i, none⟩) hB).trans (h i hi)

theorem Strs.belowB {w w' : World} {B : Nat} {a : Option Addr} {ss : List ByteArray} (h : Strs w a ss) (hb : Below B w w') (hB : w.heap.size ≤ B) : Strs w' a ss := h.below (hb.mono hB)

theorem recLen_le (ss : List ByteArray) (h : ∀ s, s ∈ ss → s.size ≤ 20) : recLen ss ≤ 21 * ss.length := by
  induction ss with
  | nil => simp [recLen, recBytes]
  | cons s r ih =>
    have h1 := h s (by simp)
    have h2 := ih (fun t ht => h t (by simp [ht]))
    have h3 : recLen (s :: r) = (1 + s.size) + recLen r := by
      simp only [recLen, recBytes, List.flatMap_cons, List.length_append, be_length]
      rfl
    simp only [List.length_cons]
    omega

theorem bodyOf_length (o e p q : Nat) (ss : List ByteArray) : (bodyOf o e p q ss).length = 10 + recLen ss := by
  simp only [bodyOf, List.length_append, be_length, recLen]

set_option maxHeartbeats 4000000 in
theorem implBatchBytes_good (o e p q : Nat) (ss : List ByteArray) (a : Option Addr) (c : Nat) (w : World) (hT : TabAt w) (hs : Strs w a ss) (h1 : o ≤ 100000) (h2 : e ≤ 1000) (h3 : p ≤ 65535) (h4 : q ≤ 65535) (hl : ss.length ≤ 8) (hr : ∀ s, s ∈ ss → s.size ≤ 20) (hg : Bt.good ⟨o, e, p, q, ss⟩ = true) :
    Calls Tryd.prog 8 #[.agg #[.int .i64 o, .int .i64 e, .int .i64 p, .int .i64 q, .slice a ss.length c]] w fun r w' => r = .returned (.tuple #[.string ⟨(bytesOf o e p q ss).toArray⟩, .bool true]) ∧ Below w.heap.size w w' := by
  have hb0 : Below w.heap.size w (w.alloc (.cells #[.int .i64 o, .int .i64 e, .int .i64 p, .int .i64 q, .slice a ss.length c] 28)) := (Below.refl _ _).alloc (Nat.le_refl _) _
  have hw0 : 0 < w.heap.size := lt_of_cell (hT 0 (by omega))
  have hs0 := hs.below hb0
  have hT0 : TabAt (w.alloc (.cells #[.int .i64 o, .int .i64 e, .int .i64 p, .int .i64 q, .slice a ss.length c] 28)) := hT.below hb0 hw0
  have hrl := recLen_le ss hr
  have HG : Hid (Bt.good ⟨o, e, p, q, ss⟩ = true) := hg
  have HR : Hid (∀ s, s ∈ ss → s.size ≤ 20) := hr
  have hlm : ss.length ≤ maxLen := by unfold maxLen; omega
  clear hg hr hT hs
  go_enter Tryd.func8, Tryd.ntmps8
  go_wp2_with fail
  refine (implGood_any _ _ _ _ _ _ _ _ hs0 hlm).mono ?_
  rintro r w1 ⟨hr, hB1⟩
  rw [HG.out] at hr
  subst hr
  obtain ⟨hc1, -⟩ := bcell hB1
  have hs1 := hs0.below hB1
  simp only [World.size_alloc] at hc1
  go_wp2_with fail
  refine (sizeOf_any _ _ _ _ _ _ _ _ hs1 hl HR.out).mono ?_
  rintro r w2 ⟨rfl, hB2⟩
  have hB2' := hB1.trans (hB2.mono hB1.size)
  clear hc1 hB1 hB2 hs1
  have HW2 : Below (w.heap.size + 1) (w.alloc (.cells #[.int .i64 o, .int .i64 e, .int .i64 p, .int .i64 q, .slice a ss.length c] 28)) w2 := by simpa using hB2'
  have hz2 := HW2.size
  simp only [World.size_alloc] at hz2
  clear hB2'
  go_wp2_with fail
  refine (putNumber_is _ [] (12 + recLen ss) 2 _ 2 (by omega) rfl (w.heap.size + 1) _ (by omega) (by omega) (by simp) (by omega) (World.ownsRow_nil _ _ _ _)).mono ?_
  rintro r w3 ⟨v3, rfl, ho3, hB3⟩
  have HW3 := HW2.trans hB3
  clear HW2 hB3 hz2
  have hc3 := fun i => HW3.cell (p := ⟨w.heap.size, i, none⟩) (by simp)
  have hz3 := HW3.size
  simp only [World.size_alloc] at hz3
  go_wp2_with fail
  refine (putNumber_is _ ([] ++ be 2 (12 + recLen ss)) o 3 _ 3 rfl rfl (w.heap.size + 1) _ (by omega) (by omega) (by simp [be_length]) (by omega) ho3).mono ?_
  rintro r w4 ⟨v4, rfl, ho4, hB4⟩
  have HW4 := HW3.trans hB4
  clear HW3 hB4 hz3 hc3 ho3
  have hc4 := fun i => HW4.cell (p := ⟨w.heap.size, i, none⟩) (by simp)
  have hz4 := HW4.size
  simp only [World.size_alloc] at hz4
  go_wp2_with fail
  refine (putNumber_is _ ([] ++ be 2 (12 + recLen ss) ++ be 3 o) e 2 _ 2 rfl rfl (w.heap.size + 1) _ (by omega) (by omega) (by simp [be_length]) (by omega) ho4).mono ?_
  rintro r w5 ⟨v5, rfl, ho5, hB5⟩
  have HW5 := HW4.trans hB5
  clear HW4 hB5 hz4 hc4 ho4
  have hc5 := fun i => HW5.cell (p := ⟨w.heap.size, i, none⟩) (by simp)
  have hz5 := HW5.size
  simp only [World.size_alloc] at hz5
  go_wp2_with fail
  refine (putNumber_is _ ([] ++ be 2 (12 + recLen ss) ++ be 3 o ++ be 2 e) p 2 _ 2 rfl rfl (w.heap.size + 1) _ (by omega) (by omega) (by simp [be_length]) (by omega) ho5).mono ?_
  rintro r w6 ⟨v6, rfl, ho6, hB6⟩
  have HW6 := HW5.trans hB6
  clear HW5 hB6 hz5 hc5 ho5
  have hc6 := fun i => HW6.cell (p := ⟨w.heap.size, i, none⟩) (by simp)
  have hz6 := HW6.size
  simp only [World.size_alloc] at hz6
  go_wp2_with fail
  refine (putNumber_is _ ([] ++ be 2 (12 + recLen ss) ++ be 3 o ++ be 2 e ++ be 2 p) q 2 _ 2 rfl rfl (w.heap.size + 1) _ (by omega) (by omega) (by simp [be_length]) (by omega) ho6).mono ?_
  rintro r w7 ⟨v7, rfl, ho7, hB7⟩
  have HW7 := HW6.trans hB7
  clear HW6 hB7 hz6 hc6 ho6
  have hc7 := fun i => HW7.cell (p := ⟨w.heap.size, i, none⟩) (by simp)
  have hz7 := HW7.size
  simp only [World.size_alloc] at hz7
  go_wp2_with fail
  refine (putNumber_is _ ([] ++ be 2 (12 + recLen ss) ++ be 3 o ++ be 2 e ++ be 2 p ++ be 2 q) ss.length 1 _ 1 rfl rfl (w.heap.size + 1) _ (by omega) (by omega) (by simp [be_length]) (by omega) ho7).mono ?_
  rintro r w8 ⟨v8, rfl, ho8, hB8⟩
  have HW8 := HW7.trans hB8
  clear HW7 hB8 hz7 hc7 ho7
  have hc8 := fun i => HW8.cell (p := ⟨w.heap.size, i, none⟩) (by simp)
  generalize hHd : [] ++ be 2 (12 + recLen ss) ++ be 3 o ++ be 2 e ++ be 2 p ++ be 2 q ++ be 1 ss.length = hd at ho8
  have HH : Hid (hd = [] ++ be 2 (12 + recLen ss) ++ be 3 o ++ be 2 e ++ be 2 p ++ be 2 q ++ be 1 ss.length) := hHd.symm
  have hhd : hd.length = 12 := by rw [← hHd]; simp [be_length]
  clear hHd
  go_wp2
  go_loopw [4, 40] (fun v i wr => ∃ k : Nat, k ≤ ss.length ∧ i = .int .i64 k ∧ wr.ownsRow (w.heap.size + 1) 5 1 v (hd ++ recBytes (ss.take k)).length (byteVals (hd ++ recBytes (ss.take k))) ∧ (recBytes (ss.take k)).length ≤ 21 * k ∧ Below (w.heap.size + 1) (w.alloc (.cells #[.int .i64 o, .int .i64 e, .int .i64 p, .int .i64 q, .slice a ss.length c] 28)) wr) (fun _ i _ => ss.length - (intOf i).toNat)
  case atStart => exact ⟨0, Nat.zero_le _, rfl, by simpa [recBytes] using ho8, by simp [recBytes], HW8⟩
  case round =>
    clear ho8 HW8 hc8
    obtain ⟨k, hk, rfl, hown, hrk, HW⟩ := hrel
    by_cases hlt : k < ss.length
    · obtain ⟨s, hks⟩ := getAt hlt
      obtain ⟨b, off, rfl, hc, hz'⟩ := (hs0.belowB HW (by simp)) k s hks
      have hz20 := HR.out s (List.mem_of_getElem? hks)
      have HS : Hid (recBytes (ss.take (k + 1)) = recBytes (ss.take k) ++ (be 1 s.size ++ s.data.toList)) := recBytes_succ hks
      have hzw := HW.size
      simp only [World.size_alloc] at hzw
      generalize recBytes (ss.take k) = rk at *
      obtain ⟨i0, hi, hz0, hz1, hz2⟩ := info_parts Tryd.infoByte
      clear hks hz'
      go_wp2_with fail
      refine (putNumber_is _ (hd ++ rk) s.size 1 _ 1 rfl rfl (w.heap.size + 1) _ (by omega) (by omega) (by simp; omega) (by omega) hown).mono ?_
      rintro r w1 ⟨v1, rfl, ho1, hB1⟩
      have HWn := HW.trans hB1
      have hzn := HWn.size
      simp only [World.size_alloc] at hzn
      have hlen : (hd ++ rk ++ be 1 s.size).length ≤ 200 := by simp [be_length]; omega
      clear hown HW hB1 hzw
      go_wp2_with (at_builtin; refine Lib.wpList_append_own_string _ rfl _ _ 43 9 rfl (w.heap.size + 1) 5 i0 Tryd.underlying43 Tryd.underlying9 hi hz0 hz1 hz2 _ _ _ rfl ho1 s rfl ?c3 ?c4 ?c5 ?_)
      case c3 => unfold maxLen; omega
      case c4 => omega
      case c5 => omega
      intro v2 w2' ho2 hgrow _
      have HW2 := HWn.grown hgrow (by omega) (fun q hq => ownBlock_ge ho1 hq)
      clear ho1 hgrow HWn
      go_wp2
      go_roundw
      case rel =>
        refine ⟨k + 1, by omega, by go_num, ?_, ?_, HW2⟩
        · rw [HS.out]
          have e1 : (hd ++ (rk ++ (be 1 s.size ++ s.data.toList))).length = 12 + (rk.length + (be 1 s.size).length) + s.size := by
            simp only [List.length_append, hhd]
            have : s.data.toList.length = s.size := rfl
            omega
          have e2 : byteVals (hd ++ (rk ++ (be 1 s.size ++ s.data.toList))) = byteVals (hd ++ (rk ++ be 1 s.size)) ++ byteVals s.data.toList := by simp only [byteVals_append, List.append_assoc]
          rw [e1, e2]
          rw [strCells_eq] at ho2
          simpa [hhd] using ho2
        · rw [HS.out]
          simp only [List.length_append, be_length, Array.length_toList]
          have : s.data.size = s.size := rfl
          omega
      case measure => simp [intOf]; omega
    · obtain rfl : k = ss.length := by omega
      rw [List.take_length] at hown hrk
      have HF : Hid (hd ++ recBytes ss = frontOf o e p q ss) := by
        rw [HH.out]
        show _ = be 2 ((bodyOf o e p q ss).length + 2) ++ bodyOf o e p q ss
        rw [bodyOf_length, show 10 + recLen ss + 2 = 12 + recLen ss from by omega]
        simp [bodyOf]
      have hfl : (hd ++ recBytes ss).length ≤ 600 := by rw [List.length_append]; omega
      have hTr : TabAt wr := hT0.below HW (by omega)
      have hzw := HW.size
      simp only [World.size_alloc] at hzw
      generalize hd ++ recBytes ss = fr at *
      have hcv := convert_own hown
      have hcl := crcOf_lt fr
      have hfs : (⟨fr.toArray⟩ : ByteArray).size ≤ 600 := by rw [mkStr_eq]; exact hfl
      clear hs0 hT0 hrk
      go_wp2_with fail
      refine (implSum_any _ _ hfs hTr).mono ?_
      rintro r w9 ⟨rfl, rfl⟩
      have hda : (⟨fr.toArray⟩ : ByteArray).data.toList = fr := by simp
      rw [hda]
      have HC : Hid (bytesOf o e p q ss = fr ++ be 2 (crcOf fr)) := by rw [HF.out]; rfl
      clear hda
      generalize crcOf fr = cr at *
      go_wp2_with fail
      refine (putNumber_is _ fr cr 2 _ 2 rfl rfl (w.heap.size + 1) _ (by omega) (by omega) (by omega) (by omega) hown).mono ?_
      rintro r w10 ⟨v10, rfl, ho10, hB10⟩
      have hcv2 := convert_own ho10
      rw [← HC.out] at hcv2
      have HE := hb0.trans ((HW.trans hB10).mono (by omega))
      clear hown HW hB10 ho10 hcv
      go_wp2
      go_ret2
      exact ⟨rfl, HE⟩

end Go.Proofs.YteefmbaehmcibaaDoor
