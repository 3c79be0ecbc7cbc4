/-
  A batch read from its bytes, the program's side: the contract of impl.readBatch.
-/
import Derived.Test.YtopndglgbollfaaDoorTake
namespace Go.Proofs.YtopndglgbollfaaDoor
open Go.RowKit

/-- What readBatch reads. -/
def readDec (t : List UInt8) : Option Bt :=
  match takeRecs (t.getD 11 0).toNat ((t.take (t.length - 2)).drop 12) with
  | some (ss, []) => if (hdr t ss).good = true then some (hdr t ss) else none
  | _ => none

theorem readDec_none {t : List UInt8} (h : ∀ rs, takeRecs (t.getD 11 0).toNat ((t.take (t.length - 2)).drop 12) ≠ some (rs, [])) : readDec t = none := by
  unfold readDec
  split
  · rename_i ss hr; exact absurd hr (h ss)
  · rfl

theorem readDec_some {t : List UInt8} {ss : List ByteArray} (h : takeRecs (t.getD 11 0).toNat ((t.take (t.length - 2)).drop 12) = some (ss, [])) : readDec t = if (hdr t ss).good = true then some (hdr t ss) else none := by
  unfold readDec; rw [h]

theorem owns_mono {w : World} {B B' : Nat} {e : TypeId} {size : Nat} {v : Value} {n : Nat} {xs : List Value} (h : w.ownsRow B e size v n xs) (hB : B' ≤ B) : w.ownsRow B' e size v n xs := by
  obtain ⟨h1, h2 | ⟨g, cap, cur, hv, hg, r⟩⟩ := h
  · exact ⟨h1, .inl h2⟩
  · exact ⟨h1, .inr ⟨g, cap, cur, hv, by omega, r⟩⟩

theorem strs_of_owns {w : World} {B : Nat} {a : Option Addr} {c : Nat} {ss : List ByteArray} (h : w.ownsRow B 9 1 (.slice a ss.length c) ss.length (strVals ss)) (hz : ∀ s, s ∈ ss → s.size < 256) : Strs w a ss := fun i s hi => by
  have hlt := (List.getElem?_eq_some_iff.1 hi).1
  obtain ⟨h1, ⟨hv, h0⟩ | ⟨g, cap, cur, hv, hg, hh, hn, hcap, hcs, ht⟩⟩ := h
  · omega
  · simp only [Value.slice.injEq] at hv
    obtain ⟨rfl, -, -⟩ := hv
    refine ⟨g, 0, rfl, ?_, by have := hz s (List.mem_of_getElem? hi); unfold maxLen; omega⟩
    have e : cur.toList[i]? = some (.string s) := by
      have : (cur.toList.take (ss.length * 1))[i]? = (strVals ss)[i]? := by rw [ht]
      rw [List.getElem?_take_of_lt (by omega)] at this
      rw [this]; simp [strVals, hi]
    rw [Nat.zero_add]
    simp only [World.cell?, hh]
    simpa using e

theorem recs_args {s : ByteArray} {K : Nat} (hK : s.size = K + 2) (h11 : 11 < s.size) : takeRecs (s.data.toList.getD 11 0).toNat ((s.data.toList.take (s.data.toList.length - 2)).drop 12) = takeRecs (s[11]'h11).toNat (s.extract 12 K).data.toList := by
  have e1 : s.data.toList.getD 11 0 = s[11]'h11 := by
    rw [List.getD_eq_getElem?_getD, List.getElem?_eq_getElem (by rw [size_len]; exact h11)]; rfl
  rw [e1, extract_toList, size_len, hK, List.drop_take]
  rfl

theorem hdr_args {s : ByteArray} (ss : List ByteArray) : hdr s.data.toList ss = ⟨(val (s.extract 2 5).data.toList : Nat), (val (s.extract 5 7).data.toList : Nat), (val (s.extract 7 9).data.toList : Nat), (val (s.extract 9 11).data.toList : Nat), ss⟩ := by
  simp only [extract_toList]; rfl

set_option maxRecDepth 100000 in
set_option maxHeartbeats 4000000 in
theorem readBatch_any (s : ByteArray) (w : World) (h14 : 14 ≤ s.size) (h600 : s.size ≤ 600) :
    Calls Tryd.prog 52 #[.string s] w fun r w' => ∃ (b : Bt) (a : Option Addr) (c : Nat) (ok : Bool), r = .returned (.tuple #[.agg #[.int .i64 b.off, .int .i64 b.ep, .int .i64 b.pr, .int .i64 b.sq, .slice a b.recs.length c], .bool ok]) ∧
      ((ok = true ∧ readDec s.data.toList = some b ∧ w'.ownsRow w.heap.size 9 1 (.slice a b.recs.length c) b.recs.length (strVals b.recs)) ∨ (ok = false ∧ readDec s.data.toList = none)) ∧ Below w.heap.size w w' := by
  have h11 : 11 < s.size := by omega
  have hb11 := (s[11]'h11).toNat_lt
  have hw11 : IntKind.i64.wrap ((s[11]'h11).toNat : Int) = ((s[11]'h11).toNat : Int) := by rw [IntKind.wrap_i64]; omega
  obtain ⟨K, hK⟩ : ∃ K, s.size = K + 2 := ⟨s.size - 2, by omega⟩
  have hk1 : (s.size : Int) - 2 = (K : Int) := by omega
  have hk2 : IntKind.i64.wrap (K : Int) = (K : Int) := by rw [IntKind.wrap_i64]; omega
  have hk4 : (12 : Int) ≤ (K : Int) := by omega
  have hk5 : (K : Int) ≤ (s.size : Int) := by omega
  have hk6 : (11 : Int) < (s.size : Int) := by omega
  have hxs : (s.extract 12 K).size ≤ 600 := by rw [ByteArray.size_extract]; omega
  have HK : Hid (s.size = K + 2) := hK
  clear hK
  go_enter Tryd.func52, Tryd.ntmps52
  go_wp2
  go_region_with (go_at_call 58; refine (readRecords_any _ _ _ hxs (by omega)).mono ?_; rintro r w1 ⟨v1, ok1, rfl, hR, hB1⟩)
  have HA := recs_args (K := K) HK.out h11
  have hz0 : Below w.heap.size w (w.alloc (.cells #[.int .i64 0, .int .i64 0, .int .i64 0, .int .i64 0, .slice none 0 0] 60)).drew := ((Below.refl _ _).alloc (Nat.le_refl _) _).drew
  have hB1' := hz0.trans (hB1.mono hz0.size)
  obtain ⟨hc1, hf1⟩ := bcell hB1
  simp only [World.size_drew, World.size_alloc] at hc1 hf1
  have hNlt : w.heap.size < w1.heap.size := by have := hB1.size; simp only [World.size_drew, World.size_alloc] at this; omega
  rcases hR with ⟨rfl, ss, htk, hown⟩ | ⟨rfl, hno⟩
  · have HD : Hid (readDec s.data.toList = if Bt.good ⟨(val ((s.data.toList.drop 2).take 3) : Nat), (val ((s.data.toList.drop 5).take 2) : Nat), (val ((s.data.toList.drop 7).take 2) : Nat), (val ((s.data.toList.drop 9).take 2) : Nat), ss⟩ = true then some ⟨(val ((s.data.toList.drop 2).take 3) : Nat), (val ((s.data.toList.drop 5).take 2) : Nat), (val ((s.data.toList.drop 7).take 2) : Nat), (val ((s.data.toList.drop 9).take 2) : Nat), ss⟩ else none) := readDec_some (by rw [HA]; exact htk)
    have hss := (takeRecs_inv _ _ _ _ htk).2.2
    have hn := (takeRecs_inv _ _ _ _ htk).2.1
    have hsl : ss.length ≤ maxLen := by unfold maxLen; omega
    obtain ⟨ra, rc, hv⟩ := owns_form hown
    subst hv
    have hst := strs_of_owns hown hss
    simp only [World.size_drew, World.size_alloc] at hown
    have hx1 : (s.extract 2 5).size ≤ 3 := by rw [ByteArray.size_extract]; omega
    have hx2 : (s.extract 5 7).size ≤ 3 := by rw [ByteArray.size_extract]; omega
    have hx3 : (s.extract 7 9).size ≤ 3 := by rw [ByteArray.size_extract]; omega
    have hx4 : (s.extract 9 11).size ≤ 3 := by rw [ByteArray.size_extract]; omega
    have s1 : (5 : Int) ≤ (s.size : Int) := by omega
    have s2 : (7 : Int) ≤ (s.size : Int) := by omega
    have s3 : (9 : Int) ≤ (s.size : Int) := by omega
    have s4 : (11 : Int) ≤ (s.size : Int) := by omega
    clear htk hss hn HA hB1 hz0 hxs hk1 hk2 hk4 hk5 hw11
    go_wp2
    go_region_with (first
      | (go_at_call_of 56 (Value.string (s.extract 2 5)); refine (numberIn_any _ _ hx1).mono ?_; rintro r w2 ⟨rfl, rfl⟩)
      | (go_at_call_of 56 (Value.string (s.extract 5 7)); refine (numberIn_any _ _ hx2).mono ?_; rintro r w2 ⟨rfl, rfl⟩)
      | (go_at_call_of 56 (Value.string (s.extract 7 9)); refine (numberIn_any _ _ hx3).mono ?_; rintro r w2 ⟨rfl, rfl⟩)
      | (go_at_call_of 56 (Value.string (s.extract 9 11)); refine (numberIn_any _ _ hx4).mono ?_; rintro r w2 ⟨rfl, rfl⟩))
    all_goals
      clear hx1 hx2 hx3 hx4 s1 s2 s3 s4
      generalize val (List.take 3 (List.drop 2 s.data.toList)) = A1 at *
      generalize val (List.take 2 (List.drop 5 s.data.toList)) = A2 at *
      generalize val (List.take 2 (List.drop 7 s.data.toList)) = A3 at *
      generalize val (List.take 2 (List.drop 9 s.data.toList)) = A4 at *
      have hz2 : Below w1.heap.size w1 (w1.alloc (.cells #[.int .i64 A1, .int .i64 A2, .int .i64 A3, .int .i64 A4, .slice ra ss.length rc] 60)).drew.drew := ((Below.refl _ _).alloc (Nat.le_refl _) _).drew.drew
      have hst2 := hst.below hz2
      have hown2 := owns_below hown hz2
      have hz1s := hB1'.size
      have hlt1 : w.heap.size < w1.heap.size := hNlt
      obtain ⟨g, hg⟩ : ∃ g, Bt.good ⟨(A1 : Nat), (A2 : Nat), (A3 : Nat), (A4 : Nat), ss⟩ = g := ⟨_, rfl⟩
      have HG : Hid (Bt.good ⟨(A1 : Nat), (A2 : Nat), (A3 : Nat), (A4 : Nat), ss⟩ = g) := hg
      clear hg
      go_wp2
      go_region_with (go_at_call 59; refine (implGood_any _ _ _ _ _ _ _ _ ?_ hsl).mono ?_; exact hst2; rintro r w5 ⟨hr, hB5⟩; rw [HG.out] at hr; subst hr; have hX5 := fun o => (bcell hB5).1 w1.heap.size o (by simp); have hN5 := fun o => (bcell hB5).1 w.heap.size o (by simp; omega); have hF5 := fun o => (bcell hB5).2 w.heap.size o (by simp; omega))
      all_goals
        have hown5 := owns_below hown2 hB5
        have hBf := (hB1'.trans (hz2.mono hz1s)).trans (hB5.mono (by have := hz2.size; omega))
        have hcN : ∀ o, w5.cell? ⟨w.heap.size, o, none⟩ = (w.alloc (.cells #[.int .i64 0, .int .i64 0, .int .i64 0, .int .i64 0, .slice none 0 0] 60)).cell? ⟨w.heap.size, o, none⟩ := fun o => by
          rw [hN5 o]
          exact (World.cell?_alloc_old w1 _ ⟨w.heap.size, o, none⟩ (Nat.ne_of_lt hNlt)).trans (hc1 _ o (Nat.lt_succ_self _))
        clear hown hown2 hst hst2 hz2 hc1 hf1 hB1' hX5 hN5 hF5
        go_wp2
        refine bodyPost_ret (v := .tuple #[.agg #[.int .i64 A1, .int .i64 A2, .int .i64 A3, .int .i64 A4, .slice ra ss.length rc], .bool g]) (by simp [results, Tryd.results52, go_sem, hcN]) rfl ⟨⟨A1, A2, A3, A4, ss⟩, ra, rc, g, rfl, ?_, ?_⟩
        · have hd := HD.out
          rw [HG.out] at hd
          cases g with
          | true => exact .inl ⟨rfl, by rw [hd]; rfl, owns_mono (ownsRow_setCell_below (ownsRow_setCell_below (ownsRow_setCell_below (ownsRow_setCell_below (ownsRow_setCell_below hown5 (Nat.lt_succ_self _) _) (Nat.lt_succ_self _) _) (Nat.lt_succ_self _) _) (Nat.lt_succ_self _) _) (Nat.lt_succ_self _) _) (Nat.le_succ _)⟩
          | false => exact .inr ⟨rfl, by rw [hd]; rfl⟩
        · exact ((((hBf.setCell (Nat.le_refl _) _).setCell (Nat.le_refl _) _).setCell (Nat.le_refl _) _).setCell (Nat.le_refl _) _).setCell (Nat.le_refl _) _
  · have HN : Hid (readDec s.data.toList = none) := readDec_none (fun rs h => hno rs (by rw [← HA]; exact h))
    clear hno HA hB1 hz0
    go_wp2
    refine bodyPost_ret (v := .tuple #[.agg #[.int .i64 0, .int .i64 0, .int .i64 0, .int .i64 0, .slice none 0 0], .bool false]) (by simp [results, Tryd.results52, go_sem, hc1]) rfl ⟨⟨0, 0, 0, 0, []⟩, none, 0, false, rfl, .inr ⟨rfl, HN.out⟩, ?_⟩
    exact ((((hB1'.setCell (Nat.le_refl _) _).setCell (Nat.le_refl _) _).setCell (Nat.le_refl _) _).setCell (Nat.le_refl _) _).setCell (Nat.le_refl _) _

end Go.Proofs.YtopndglgbollfaaDoor
