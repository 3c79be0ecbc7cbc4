/-
  All batches of a store, the specification's side: the contracts of spec.l2All and spec.AllBatches.
  Rows that stay rows, whatever is written into them; and marks that are written into a list of marks, whatever it held.
-/
import Derived.Test.YtjfmmnnidlgenaaDoorAllI
import Derived.Test.YtjfmmnnidlgenaaDoorGsSpec
import Derived.Test.YtjfmmnnidlgenaaDoorImToJ
namespace Go.Proofs.YtjfmmnnidlgenaaDoor
open Go.RowKit

theorem imF_fine {n : Nat} : ∀ {r : List Sg} {i : Nat} {next : Int} {all : List Bt} {z : Int × List Bt}, imF n i (rsOf r) next all = some z → ∀ g, g ∈ r → g.fine = true
  | [], _, _, _, _, _, g, hg => by cases hg
  | x :: r, i, next, all, z, h, g, hg => by
    simp only [rsOf, List.map_cons] at h
    rw [imF] at h
    split at h
    · rename_i ho
      rcases List.mem_cons.1 hg with rfl | hg
      · rw [imOk_eq] at ho
        simp only [Bool.and_eq_true] at ho
        exact ho.1
      · exact imF_fine (r := r) h g hg
    · cases h

/-- Of a good store every segment is good for itself, and there are eight at most. -/
theorem stG_fine {gs : List Sg} {x : Int} (h : stG gs x = true) : gs.length ≤ 8 ∧ ∀ g, g ∈ gs → g.fine = true := by
  cases gs with
  | nil => cases h
  | cons g0 r =>
    simp only [stG, Bool.and_eq_true, decide_eq_true_eq] at h
    refine ⟨h.1, ?_⟩
    have h2 := h.2.2
    unfold imGood at h2
    split at h2
    · cases h2
    · rename_i nx all hm
      exact imF_fine hm

theorem takeSg_snoc {gs : List Sg} {k : Nat} {g : Sg} (h : gs[k]? = some g) : gs.take (k + 1) = gs.take k ++ [g] := by
  obtain ⟨hlt, e⟩ := List.getElem?_eq_some_iff.1 h
  rw [List.take_add_one, h]; rfl

theorem stAll_snoc {gs : List Sg} {k : Nat} {g : Sg} (h : gs[k]? = some g) : stAll (gs.take (k + 1)) = stAll (gs.take k) ++ g.l := by
  rw [takeSg_snoc h]; simp [stAll]

set_option maxRecDepth 100000 in
set_option maxHeartbeats 2000000 in
theorem l2All_any (gs : List Sg) (a : Option Addr) (c : Nat) (x : Int) (w : World) (hs : Sgs w a gs) (h8 : gs.length ≤ 8) (hf : ∀ g, g ∈ gs → g.fine = true) :
    Calls Tryd.prog 35 #[.agg #[.slice a gs.length c, .int .i64 x]] w fun r w' => ∃ qs v, r = .returned v ∧ qsB qs = stAll gs ∧ RdSt w w' v qs := by
  have hb0 : ∀ o, Below w.heap.size w (w.alloc o) := fun o => (Below.refl _ _).alloc (Nat.le_refl _) o
  have ha : ∀ (u : World) o, Below u.heap.size u (u.alloc o) := fun u o => (Below.refl _ _).alloc (Nat.le_refl _) o
  obtain ⟨i0, hi, hz0, hz1, hz2⟩ := info_parts Tryd.infoBatch
  have HF : Hid (∀ g, g ∈ gs → g.fine = true) := hf
  have HS : Hid (Sgs w a gs) := hs
  clear hf hs
  go_enter Tryd.func35, Tryd.ntmps35
  go_wp2_with fail
  generalize hW0 : w.alloc (.cells #[.slice a gs.length c, .int .i64 x] 29) = W0 at *
  have B0 : Below w.heap.size w W0 := by rw [← hW0]; exact hb0 _
  clear hW0
  go_loopw [3, 11] (fun v i wr => ∃ (k : Nat) (qs : List Q), k ≤ gs.length ∧ i = .int .i64 k ∧ qs.length ≤ k * 1000 ∧ Hid (qsB qs = stAll (gs.take k)) ∧ RdSt W0 wr v qs) (fun _ i _ => gs.length - (intOf i).toNat)
  case atStart => exact ⟨0, [], Nat.zero_le _, rfl, Nat.zero_le _, rfl, rd_start W0⟩
  case round =>
    obtain ⟨k, qs, hk, rfl, hql, HQ0, hst⟩ := hrel
    obtain ⟨av, cv, rfl⟩ := owns_form hst.own
    have HST : Hid (RdSt W0 wr (.slice av qs.length cv) qs) := hst
    have BW : Below w.heap.size w wr := B0.trans (hst.bel.mono B0.size)
    by_cases hlt : k < gs.length
    · obtain ⟨g, hkg⟩ := getSg hlt
      obtain ⟨kb, ob, rfl, ra, rc, c0, c1, c2, -, -, -⟩ := (HS.out.below BW) k g hkg
      have hfi := HF.out g (List.mem_of_getElem? hkg)
      have hb6 := Sg.small hfi
      have hsh := Sg.short hfi
      have HK : Hid (stAll (gs.take (k + 1)) = stAll (gs.take k) ++ g.l) := stAll_snoc hkg
      clear hkg hst
      go_wp2_with fail
      refine (l1Read_any g.bytes _ (by omega)).mono ?_
      rintro r w1 ⟨ps, a1, cq, rfl, hq, hst1⟩
      have hst1' : RdSt wr w1 (.slice a1 ps.length cq) ps := rd_mono hst1 (ha _ _)
      have hq2 : qsB ps = g.l := hq
      have hpl : ps.length ≤ 1000 := by rw [← qsB_len ps, hq2]; exact hsh
      have HN : Hid (qsB (qs ++ ps) = stAll (gs.take (k + 1))) := by
        show _ = _
        rw [HK.out, ← HQ0.out, ← hq2]
        simp [qsB]
      have HSRC := rd_src hst1'
      have HO1 := owns_below HST.out.own hst1'.bel
      have hsz := HST.out.bel.size
      have hsz1 := hst1'.bel.size
      have hbase : W0.heap.size ≤ w1.heap.size := by omega
      clear hst1 hq hq2 c0 c1 c2 hsz hsz1
      go_wp2_with (at_builtin; refine append_anyB _ rfl _ _ 42 rfl W0.heap.size 35 i0 _ 5 56 Tryd.underlying42 hi hz0 hz1 hz2 rfl (by decide) (.slice av qs.length cv) qs.length (qsCells qs) rfl HO1 a1 ps.length cq (qsCells ps) rfl HSRC (qCells_oneCell ps) ?c3 ?c4 ?c5 ?_)
      case c3 => unfold maxLen; omega
      case c4 => omega
      case c5 => exact hbase
      intro v2 w2 hown2 hgrow2
      have HS2 : Hid (RdSt W0 w2 v2 (qs ++ ps)) := rd_join' HST.out hst1' hgrow2 hown2
      clear hown2 hgrow2 HO1 HSRC hst1' HST
      go_wp2
      go_roundw
      case rel => exact ⟨k + 1, qs ++ ps, by omega, by go_num, by rw [List.length_append]; omega, HN, HS2.out⟩
      case measure => simp [intOf]; omega
    · obtain rfl : k = gs.length := by omega
      have HE : Hid (qsB qs = stAll gs) := by
        show _ = _
        rw [HQ0.out, List.take_length]
      clear hst HQ0
      go_wp2
      go_ret
      exact ⟨qs, _, rfl, HE.out, rd_mono HST.out B0⟩

set_option maxRecDepth 100000 in
set_option maxHeartbeats 2000000 in
theorem specAll_any (gs : List Sg) (a : Option Addr) (c : Nat) (x : Int) (w : World) (hs : Sgs w a gs) (hl : gs.length ≤ 1048576) (hbytes : ∀ g, g ∈ gs → g.bytes.size ≤ 1048576) :
    Calls Tryd.prog 17 #[.agg #[.slice a gs.length c, .int .i64 x]] w fun r w' => AbAns w gs x r w' := by
  have hb0 : ∀ o, Below w.heap.size w (w.alloc o) := fun o => (Below.refl _ _).alloc (Nat.le_refl _) o
  have HBY : Hid (∀ g, g ∈ gs → g.bytes.size ≤ 1048576) := hbytes
  clear hbytes
  cases hg : stG gs x with
  | false =>
    have HG : Hid (stG gs x = false) := hg
    clear hg
    go_enter Tryd.func17, Tryd.ntmps17
    go_wp2_with fail
    refine (specGoodStore_any gs _ _ _ _ (hs.below (hb0 _)) hl HBY.out).mono ?_
    rintro r w1 ⟨hr, hB1⟩
    rw [st_same, HG.out] at hr
    subst hr
    have BB := (hb0 _).trans (hB1.mono (hb0 _).size)
    clear hB1
    go_wp2
    go_ret2
    exact AbAns.no HG.out BB
  | true =>
    have HG : Hid (stG gs x = true) := hg
    have hfi := stG_fine hg
    have h8 := hfi.1
    have HF : Hid (∀ g, g ∈ gs → g.fine = true) := hfi.2
    clear hg hfi
    go_enter Tryd.func17, Tryd.ntmps17
    go_wp2_with fail
    refine (specGoodStore_any gs _ _ _ _ (hs.below (hb0 _)) hl HBY.out).mono ?_
    rintro r w1 ⟨hr, hB1⟩
    rw [st_same, HG.out] at hr
    subst hr
    have BB := (hb0 _).trans (hB1.mono (hb0 _).size)
    have hcel := (bcell hB1).1
    simp only [World.size_alloc] at hcel
    have b0 : w1.cell? ⟨w.heap.size, 0, none⟩ = some (.slice a gs.length c) := (hcel _ _ (by omega)).trans (by simp)
    have b1 : w1.cell? ⟨w.heap.size, 1, none⟩ = some (.int .i64 x) := (hcel _ _ (by omega)).trans (by simp)
    have hs1 := hs.below BB
    clear hB1 hcel hs
    go_wp2_with fail
    refine (l2All_any gs _ _ _ _ hs1 h8 HF.out).mono ?_
    rintro r w2 ⟨qs, v, rfl, hq, hst⟩
    obtain ⟨a2, c2, rfl⟩ := owns_form hst.own
    have HA : Hid (qsB qs = stAll gs) := hq
    have HST : Hid (RdSt w w2 (.slice a2 qs.length c2) qs) := rd_mono hst BB
    clear hq hst
    go_wp2
    go_ret2
    exact AbAns.yes HG.out HA.out HST.out

end Go.Proofs.YtjfmmnnidlgenaaDoor

namespace Go.Proofs.YtjfmmnnidlgenaaDoor
open Go.RowKit

/-- Every row is still one, of its size. -/
def Keeps (w w' : World) : Prop := ∀ b t m f, w.rowIs b t m f → ∃ f', w'.rowIs b t m f'

theorem Keeps.refl (w : World) : Keeps w w := fun _ _ _ f h => ⟨f, h⟩
theorem Keeps.trans {a b c : World} (h : Keeps a b) (k : Keeps b c) : Keeps a c := fun g t m f hr => by
  obtain ⟨f1, h1⟩ := h g t m f hr
  exact k g t m f1 h1
theorem Keeps.below {w w' : World} (h : Below w.heap.size w w') : Keeps w w' := fun _ _ _ f hr => ⟨f, hr.of_block (h.block _ hr.lt)⟩
theorem Keeps.set (w : World) (N o : Nat) (v : Value) : Keeps w (w.setCell ⟨N, o, none⟩ v) := fun b t m f hr => by
  by_cases e : b = N
  · subst e
    exact ⟨_, hr.set o v⟩
  · exact ⟨f, hr.setOther (by simpa using e) v⟩

theorem RowIm.keeps {w w' : World} {B n : Nat} {a : Option Addr} (h : RowIm w B a n) (k : Keeps w w') : RowIm w' B a n := by
  rcases h with h | ⟨g, m, f, rfl, hg, hm, hR⟩
  · exact .inl h
  · obtain ⟨f', hR'⟩ := k _ _ _ _ hR
    exact .inr ⟨g, m, f', rfl, hg, hm, hR'⟩

set_option maxRecDepth 100000 in
set_option maxHeartbeats 1000000 in
theorem markMarkS_keep (a : Option Addr) (c n B k : Nat) (w : World) (h : RowIm w B a n) (h2 : k + 2 * n ≤ 1000000000) :
    Calls Tryd.prog 51 #[.slice a n c, .int .i64 k] w fun r w' => r = .returned (.int .i64 ((k + 2 * n : Nat) : Int)) ∧ Below B w w' ∧ Keeps w w' ∧ w'.heap.size = w.heap.size ∧ ∀ b, ¬ InBlock a n b → w'.heap[b]? = w.heap[b]? := by
  by_cases h0 : n = 0
  · subst h0
    go_enter Tryd.func51, Tryd.ntmps51
    go_wp2
    go_loopw [1, 5] (fun c i wr => c = .int .i64 (k : Int) ∧ i = .int .i64 0 ∧ w = wr) (fun _ _ _ => 0)
    case atStart => exact ⟨rfl, rfl, rfl⟩
    case round =>
      obtain ⟨rfl, rfl, rfl⟩ := hrel
      go_wp2
      go_ret
      exact ⟨ret_int (by simp), Below.refl _ _, Keeps.refl _, rfl, fun _ _ => rfl⟩
  · obtain ⟨g, m, f, rfl, hg, hm, hR⟩ := h.resolve_left h0
    go_enter Tryd.func51, Tryd.ntmps51
    go_wp2
    go_loopw [1, 5] (fun c i wr => ∃ j : Nat, j ≤ n ∧ c = .int .i64 ((k + 2 * j : Nat) : Int) ∧ i = .int .i64 (j : Int) ∧ (∃ f', wr.rowIs g 74 m f') ∧ Below B w wr ∧ Keeps w wr ∧ wr.heap.size = w.heap.size ∧ ∀ b, b ≠ g → wr.heap[b]? = w.heap[b]?) (fun _ i _ => n - (intOf i).toNat)
    case atStart => exact ⟨0, Nat.zero_le _, rfl, rfl, ⟨f, hR⟩, Below.refl _ _, Keeps.refl _, rfl, fun _ _ => rfl⟩
    case round =>
      clear hR
      obtain ⟨j, hj, rfl, rfl, ⟨f', hR⟩, hB, hK, hz, hO⟩ := hrel
      have HO : Hid (∀ b, b ≠ g → wr.heap[b]? = w.heap[b]?) := hO
      have HK : Hid (Keeps w wr) := hK
      have HZ : Hid (wr.heap.size = w.heap.size) := hz
      clear hO hK hz
      by_cases hlt : j < n
      · have c0 := hR.cell (i := j * 2) (by omega)
        have c1 := hR.cell (i := j * 2 + 1) (by omega)
        have f0 := hR.frozen
        have hR2 := (hR.set (j * 2) (.int .i64 ((k + 2 * j : Nat) : Int))).set (j * 2 + 1) (.int .i64 ((k + 2 * j + 1 : Nat) : Int))
        have hBn : Below B w ((wr.setCell ⟨g, j * 2, none⟩ (.int .i64 ((k + 2 * j : Nat) : Int))).setCell ⟨g, j * 2 + 1, none⟩ (.int .i64 ((k + 2 * j + 1 : Nat) : Int))) := (hB.setCell hg _).setCell hg _
        have HN : Hid (∀ b, b ≠ g → ((wr.setCell ⟨g, j * 2, none⟩ (.int .i64 ((k + 2 * j : Nat) : Int))).setCell ⟨g, j * 2 + 1, none⟩ (.int .i64 ((k + 2 * j + 1 : Nat) : Int))).heap[b]? = w.heap[b]?) := fun b hne => by
          rw [Below.heap_setCell _ ⟨g, j * 2 + 1, none⟩ _ b (by simpa using hne), Below.heap_setCell wr ⟨g, j * 2, none⟩ _ b (by simpa using hne), HO.out b hne]
        have HKN : Hid (Keeps w ((wr.setCell ⟨g, j * 2, none⟩ (.int .i64 ((k + 2 * j : Nat) : Int))).setCell ⟨g, j * 2 + 1, none⟩ (.int .i64 ((k + 2 * j + 1 : Nat) : Int)))) := (HK.out.trans (Keeps.set _ _ _ _)).trans (Keeps.set _ _ _ _)
        clear hR hB HO HK
        go_wp2
        go_roundw
        case rel => exact ⟨j + 1, by omega, by go_num, by go_num, ⟨_, hR2⟩, hBn, HKN.out, by simpa using HZ.out, HN.out⟩
        case measure => simp [intOf]; omega
      · obtain rfl : j = n := by omega
        go_wp2
        go_ret
        refine ⟨rfl, hB, HK.out, HZ.out, fun b hne => HO.out b (fun e => hne ?_)⟩
        subst e
        exact ⟨by omega, 0, none, rfl⟩

end Go.Proofs.YtjfmmnnidlgenaaDoor
