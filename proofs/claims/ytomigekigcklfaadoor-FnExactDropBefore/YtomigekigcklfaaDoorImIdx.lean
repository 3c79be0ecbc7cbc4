/-
  The marks of a segment's batches, the specification's side: the contract of spec.l2Index.
-/
import Derived.Test.YtomigekigcklfaaDoorImFor
import Derived.Test.YtomigekigcklfaaDoorDec2
namespace Go.Proofs.YtomigekigcklfaaDoor
open Go.RowKit

set_option maxRecDepth 100000 in
set_option maxHeartbeats 4000000 in
theorem l2Index_any (a : Option Addr) (c : Nat) (bs : List Bt) (w : World) (hs : Bats w a bs) (hl : bs.length ≤ 1000000) (hg : ∀ b, b ∈ bs → b.good = true) :
    Calls Tryd.prog 41 #[.slice a bs.length c] w fun r w' => ∃ v, r = .returned v ∧ ImSt w w' v (imL bs) := by
  obtain ⟨i0, hi, hz0, hz1, hz2⟩ := info_parts Tryd.infoIm
  have hg2 : ∀ b, b ∈ bs → b.recs.length ≤ 8 ∧ ∀ s, s ∈ b.recs → s.size ≤ 20 := fun b hb => by
    obtain ⟨o, e, p, q, -, -, -, -, -, -, -, -, -, h5, h6⟩ := good_all (o := b.off) (e := b.ep) (p := b.pr) (q := b.sq) (ss := b.recs) (hg b hb)
    exact ⟨h5, h6⟩
  have HFF : Hid (∀ k, k ≤ bs.length → (imTo bs k).1.length ≤ k ∧ (imTo bs k).2 ≤ 182 * k ∧ (∀ m, m ∈ (imTo bs k).1 → 0 ≤ m.at_ ∧ m.at_ ≤ 182 * k) ∧ ((imTo bs k).1 = [] ↔ k = 0)) := imTo_facts hg2
  have HG : Hid (∀ b, b ∈ bs → b.good = true) := hg
  clear hg hg2
  go_enter Tryd.func41, Tryd.ntmps41
  go_wp2_with fail
  go_loopw [3, 4, 9] (fun v at_ i wr => ∃ k : Nat, k ≤ bs.length ∧ i = .int .i64 (k : Int) ∧ at_ = .int .i64 ((imTo bs k).2 : Int) ∧ ImSt w wr v (imTo bs k).1) (fun _ _ i _ => bs.length - (intOf i).toNat)
  case atStart => exact ⟨0, Nat.zero_le _, rfl, rfl, imst_start w⟩
  case round =>
    obtain ⟨k, hk, rfl, rfl, hst⟩ := hrel
    obtain ⟨f1, f2, f3, f4⟩ := HFF.out k hk
    by_cases hlt : k < bs.length
    · obtain ⟨b, hb⟩ : ∃ b, bs[k]? = some b := ⟨_, List.getElem?_eq_getElem hlt⟩
      obtain ⟨kb, ob, hae, ra, rc, e0, e1, e2, e3, e4, eS, -⟩ := hs k b hb
      subst hae
      have lt := lt_of_cell e0
      have hgd := HG.out b (List.mem_of_getElem? hb)
      have ht0 := imTo_add hb
      obtain ⟨boff, bep, bpr, bsq, recs⟩ := b
      obtain ⟨o, e, p, q, rfl, rfl, rfl, rfl, g1, g2, g3, g4, -, g5, g6⟩ := good_all hgd
      simp only at e0 e1 e2 e3 e4 eS ht0
      have d0 := (hst.bel.cell (p := ⟨kb, ob + k * 5, none⟩) lt).trans e0
      have d1 := (hst.bel.cell (p := ⟨kb, ob + k * 5 + 1, none⟩) lt).trans e1
      have d2 := (hst.bel.cell (p := ⟨kb, ob + k * 5 + 2, none⟩) lt).trans e2
      have d3 := (hst.bel.cell (p := ⟨kb, ob + k * 5 + 3, none⟩) lt).trans e3
      have d4 := (hst.bel.cell (p := ⟨kb, ob + k * 5 + 4, none⟩) lt).trans e4
      have H20 : Hid (∀ s, s ∈ recs → s.size ≤ 20) := g6
      have hrl := recLen_le recs g6
      have HT : Hid (imTo bs (k + 1) = (imAdd (imTo bs k).1 (o : Int) (imTo bs k).2, (imTo bs k).2 + (14 + recLen recs))) := ht0
      clear ht0 hgd hb
      generalize imTo bs k = I at *
      obtain ⟨ms, n⟩ := I
      simp only at hst f1 f2 f3 f4
      obtain ⟨av, cv, rfl⟩ := ownsIm_form hst.own
      have hws := hst.bel.size
      have hown : (Value.slice av ms.length cv).ownBlock ≠ some wr.heap.size := fun h => by have := (hst.own.lt _ h).2; omega
      have hst1 : ∀ o, ImSt w (wr.alloc o) (.slice av ms.length cv) ms := fun o => imst_below hst ((Below.refl _ _).alloc (Nat.le_refl _) o)
      have hst2 : ∀ o o', ImSt w ((wr.alloc o).alloc o') (.slice av ms.length cv) ms := fun o o' => imst_below (hst1 o) ((Below.refl _ _).alloc (Nat.le_refl _) o')
      cases hlast : ms.getLast? with
      | none =>
        have hms0 : ms = [] := List.getLast?_eq_none_iff.1 hlast
        have hk0 : k = 0 := f4.1 hms0
        have HN : Hid (imAdd ms (o : Int) n = ms ++ [⟨o, n⟩]) := by show _ = _; unfold imAdd dueB; rw [hlast]; rfl
        have hz : ((k : Int) == 0) = true := by simp; omega
        clear hs e0 e1 e2 e3 e4 f3 f4 hst g6 hlast hms0 hk0
        go_wp2_with (at_builtin; refine wpList_append_lies _ rfl _ _ 50 rfl w.heap.size 96 i0 _ 2 16 Tryd.underlying50 hi hz0 hz1 hz2 rfl (by decide) (.slice av ms.length cv) ms.length (imCells ms) rfl (hst2 _ _).own ⟨wr.heap.size + 1, 0, none⟩ 1 1 (imCells [⟨o, n⟩]) rfl rfl ?c1 ?c2 (by omega) ?c3 ?c4 ?c5 (wr.heap.size + 1 + 1) ?c6 ?_)
        case c1 => intro j u h; simpa [imCells] using h
        case c2 => simp [imCells, Value.oneCell']
        case c3 => unfold maxLen; omega
        case c4 => omega
        case c5 => omega
        intro gA cap4 w4 hown4 hgrow hat4 hsz4
        have HSW : Hid (ImSt w w4 (.slice (some ⟨gA, 0, none⟩) (ms.length + 1) cap4) (ms ++ [⟨o, n⟩])) := imst_step (q := ⟨o, n⟩) (hst2 _ _) hgrow hown4
        have hfar := fun j => hgrow.cell_far ⟨wr.heap.size, j, none⟩ (by simp; omega) (fun h => hown h.symm)
        have kX : w4.cell? ⟨wr.heap.size, 0, none⟩ = some (.int .i64 (o : Int)) ∧ w4.cell? ⟨wr.heap.size, 1, none⟩ = some (.int .i64 (e : Int)) ∧ w4.cell? ⟨wr.heap.size, 2, none⟩ = some (.int .i64 (p : Int)) ∧ w4.cell? ⟨wr.heap.size, 3, none⟩ = some (.int .i64 (q : Int)) ∧ w4.cell? ⟨wr.heap.size, 4, none⟩ = some (.slice ra recs.length rc) := ⟨(hfar 0).trans (by simp), (hfar 1).trans (by simp), (hfar 2).trans (by simp), (hfar 3).trans (by simp), (hfar 4).trans (by simp)⟩
        clear hown4 hgrow hat4 hst2 hst1 hfar
        obtain ⟨x0, x1, x2, x3, x4⟩ := kX
        have eS2 := eS.below HSW.out.bel
        go_wp2_with fail
        refine (l1Batch_any o e p q recs _ _ _ eS2 g1 g2 g3 g4 g5 H20.out).mono ?_
        rintro r w3 ⟨rfl, hB3⟩
        have HS3 : Hid (ImSt w w3 (.slice (some ⟨gA, 0, none⟩) (ms.length + 1) cap4) (ms ++ [⟨o, n⟩])) := imst_below HSW.out hB3
        have hsz : (ByteArray.mk (bytesOf o e p q recs).toArray).size = 14 + recLen recs := by rw [mkStr_eq, bytesOf_len]
        clear hB3 eS2 x0 x1 x2 x3 x4 HSW
        generalize (ByteArray.mk (bytesOf o e p q recs).toArray) = str at *
        go_wp2_with fail
        go_roundw
        case rel => exact ⟨k + 1, by omega, by go_num, by rw [HT.out]; go_num, by rw [HT.out, HN.out]; exact HS3.out⟩
        case measure => simp [intOf]; omega
      | some m =>
        obtain ⟨j, hj⟩ : ∃ j, ms.length = j + 1 := ⟨ms.length - 1, by
          cases ms with
          | nil => simp at hlast
          | cons q r => simp⟩
        have hmn : ms[j]? = some m := by rw [List.getLast?_eq_getElem?, hj] at hlast; exact hlast
        obtain ⟨lb, lo, hav, c0, c1⟩ := (ims_of_owns hst.own).1 j m hmn
        obtain ⟨m0, m1⟩ := f3 m (List.mem_of_getElem? hmn)
        subst hav
        have hkb : lb < wr.heap.size := lt_of_cell c0
        have y1 : ∀ o, (wr.alloc o).cell? ⟨lb, lo + j * 2 + 1, none⟩ = some (.int .i64 m.at_) := fun o => (World.cell?_alloc_old wr o ⟨lb, lo + j * 2 + 1, none⟩ (by show lb ≠ wr.heap.size; omega)).trans c1
        have hdue : dueB ms n = decide (m.at_ + 40 ≤ n) := by unfold dueB; rw [hlast]
        have hk0 : ¬ k = 0 := fun h => by have := f4.2 h; rw [this] at hj; simp at hj
        have hz : ((k : Int) == 0) = false := by simp; omega
        have hkj3 : ((ms.length : Nat) : Int) - 1 = (j : Int) := by omega
        have h0m : (0 : Int) ≤ (j : Int) := by omega
        have hjl2 : (j : Int) < ((ms.length : Nat) : Int) := by omega
        have hkj : IntKind.i64.wrap (j : Int) = (j : Int) := by rw [IntKind.wrap_i64]; omega
        by_cases hd : m.at_ + 40 ≤ n
        · have HN : Hid (imAdd ms (o : Int) n = ms ++ [⟨o, n⟩]) := by show _ = _; unfold imAdd; rw [hdue, if_pos (decide_eq_true hd)]
          have hlt1 : decide (40 ≤ IntKind.i64.wrap ((n : Int) - m.at_)) = true := by rw [IntKind.wrap_i64]; simp; omega
          have hlt2 : decide (40 ≤ (n : Int) - m.at_) = true := by simp; omega
          clear hs e0 e1 e2 e3 e4 f3 f4 hst g6 hlast hdue hmn hk0 hj
          go_wp2_with (at_builtin; refine wpList_append_lies _ rfl _ _ 50 rfl w.heap.size 96 i0 _ 2 16 Tryd.underlying50 hi hz0 hz1 hz2 rfl (by decide) (.slice (some ⟨lb, lo, none⟩) ms.length cv) ms.length (imCells ms) rfl (hst2 _ _).own ⟨wr.heap.size + 1, 0, none⟩ 1 1 (imCells [⟨o, n⟩]) rfl rfl ?c1 ?c2 (by omega) ?c3 ?c4 ?c5 (wr.heap.size + 1 + 1) ?c6 ?_)
          case c1 => intro j u h; simpa [imCells] using h
          case c2 => simp [imCells, Value.oneCell']
          case c3 => unfold maxLen; omega
          case c4 => omega
          case c5 => omega
          intro gA cap4 w4 hown4 hgrow hat4 hsz4
          have HSW : Hid (ImSt w w4 (.slice (some ⟨gA, 0, none⟩) (ms.length + 1) cap4) (ms ++ [⟨o, n⟩])) := imst_step (q := ⟨o, n⟩) (hst2 _ _) hgrow hown4
          have hfar := fun j => hgrow.cell_far ⟨wr.heap.size, j, none⟩ (by simp; omega) (fun h => hown h.symm)
          have kX : w4.cell? ⟨wr.heap.size, 0, none⟩ = some (.int .i64 (o : Int)) ∧ w4.cell? ⟨wr.heap.size, 1, none⟩ = some (.int .i64 (e : Int)) ∧ w4.cell? ⟨wr.heap.size, 2, none⟩ = some (.int .i64 (p : Int)) ∧ w4.cell? ⟨wr.heap.size, 3, none⟩ = some (.int .i64 (q : Int)) ∧ w4.cell? ⟨wr.heap.size, 4, none⟩ = some (.slice ra recs.length rc) := ⟨(hfar 0).trans (by simp), (hfar 1).trans (by simp), (hfar 2).trans (by simp), (hfar 3).trans (by simp), (hfar 4).trans (by simp)⟩
          clear hown4 hgrow hat4 hst2 hst1 hfar
          obtain ⟨x0, x1, x2, x3, x4⟩ := kX
          have eS2 := eS.below HSW.out.bel
          go_wp2_with fail
          refine (l1Batch_any o e p q recs _ _ _ eS2 g1 g2 g3 g4 g5 H20.out).mono ?_
          rintro r w3 ⟨rfl, hB3⟩
          have HS3 : Hid (ImSt w w3 (.slice (some ⟨gA, 0, none⟩) (ms.length + 1) cap4) (ms ++ [⟨o, n⟩])) := imst_below HSW.out hB3
          have hsz : (ByteArray.mk (bytesOf o e p q recs).toArray).size = 14 + recLen recs := by rw [mkStr_eq, bytesOf_len]
          clear hB3 eS2 x0 x1 x2 x3 x4 HSW
          generalize (ByteArray.mk (bytesOf o e p q recs).toArray) = str at *
          go_wp2_with fail
          go_roundw
          case rel => exact ⟨k + 1, by omega, by go_num, by rw [HT.out]; go_num, by rw [HT.out, HN.out]; exact HS3.out⟩
          case measure => simp [intOf]; omega
        · have HN : Hid (imAdd ms (o : Int) n = ms) := by show _ = _; unfold imAdd; rw [hdue, if_neg (by simpa using hd)]
          have hlt1 : decide (40 ≤ IntKind.i64.wrap ((n : Int) - m.at_)) = false := by rw [IntKind.wrap_i64]; simp; omega
          have hlt2 : decide (40 ≤ (n : Int) - m.at_) = false := by simp; omega
          have HSW := fun o => (hst1 o)
          clear hs e0 e1 e2 e3 e4 f3 f4 hst g6 hlast hdue hmn hk0 hj hst2 hst1
          go_wp2_with fail
          refine (l1Batch_any o e p q recs _ _ _ (eS.below (HSW _).bel) g1 g2 g3 g4 g5 H20.out).mono ?_
          rintro r w3 ⟨rfl, hB3⟩
          have HS3 : Hid (ImSt w w3 (.slice (some ⟨lb, lo, none⟩) ms.length cv) ms) := imst_below (HSW _) hB3
          have hsz : (ByteArray.mk (bytesOf o e p q recs).toArray).size = 14 + recLen recs := by rw [mkStr_eq, bytesOf_len]
          clear hB3 HSW
          generalize (ByteArray.mk (bytesOf o e p q recs).toArray) = str at *
          go_wp2_with fail
          go_roundw
          case rel => exact ⟨k + 1, by omega, by go_num, by rw [HT.out]; go_num, by rw [HT.out, HN.out]; exact HS3.out⟩
          case measure => simp [intOf]; omega
    · obtain rfl : k = bs.length := by omega
      have HS : Hid (ImSt w wr _ (imL bs)) := hst
      clear hs hst f3 f4
      go_wp2
      go_ret
      exact ⟨_, rfl, HS.out⟩

end Go.Proofs.YtomigekigcklfaaDoor
