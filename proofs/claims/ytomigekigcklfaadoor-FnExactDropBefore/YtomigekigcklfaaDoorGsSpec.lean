/-
  Is a store good? The specification's side: the contract of spec.GoodStore.
-/
import Derived.Test.YtomigekigcklfaaDoorStAll
import Derived.Test.YtomigekigcklfaaDoorGs7A1
import Derived.Test.YtomigekigcklfaaDoorGs7B1
import Derived.Test.YtomigekigcklfaaDoorGs7C1
import Derived.Test.YtomigekigcklfaaDoorGs7P
import Derived.Test.YtomigekigcklfaaDoorReadSpec
namespace Go.Proofs.YtomigekigcklfaaDoor
open Go.RowKit

theorem stS_none {gs : List Sg} {x : Int} (h : spS gs.length 0 (rsOf gs) (-1) 0 = none) : stS gs x = false := by
  unfold stS; rw [h]

theorem stS_some {gs : List Sg} {x nx : Int} (h : spS gs.length 0 (rsOf gs) (-1) 0 = some nx) : stS gs x = (inB gs.length 1 8 && (decide (x = nx) && inB x 0 100000)) := by
  unfold stS; rw [h]

theorem stS_no {gs : List Sg} {x nx ep : Int} {k : Nat} {g : Sg} {r : List Rs} (h : spS gs.length k (rsOf (gs.drop k)) nx ep = spS gs.length 0 (rsOf gs) (-1) 0) (hk : rsOf (gs.drop k) = g.rs :: r) (hn : spOk gs.length k g.rs nx = false) : stS gs x = false := by
  apply stS_none
  rw [← h, hk, spS, hn]
  rfl

theorem stS_in {gs : List Sg} {x nx ep : Int} {k : Nat} {g : Sg} {r : List Rs} (h : spS gs.length k (rsOf (gs.drop k)) nx ep = spS gs.length 0 (rsOf gs) (-1) 0) (hk : rsOf (gs.drop k) = g.rs :: r) (hn : spIn g.l g.base ep = none) : stS gs x = false := by
  apply stS_none
  rw [← h, hk, spS]
  split
  · rw [show g.rs.l = g.l from rfl, show g.rs.base = g.base from rfl, hn]
  · rfl

theorem stS_on {gs : List Sg} {nx ep nx' ep' : Int} {k : Nat} {g : Sg} {r : List Rs} (h : spS gs.length k (rsOf (gs.drop k)) nx ep = spS gs.length 0 (rsOf gs) (-1) 0) (hk : rsOf (gs.drop k) = g.rs :: r) (ho : spOk gs.length k g.rs nx = true) (hn : spIn g.l g.base ep = some (nx', ep')) : spS gs.length (k + 1) r nx' ep' = spS gs.length 0 (rsOf gs) (-1) 0 := by
  rw [← h, hk, spS, if_pos ho, show g.rs.l = g.l from rfl, show g.rs.base = g.base from rfl, hn]

theorem spOk_eq (n k : Nat) (g : Sg) (nx : Int) : spOk n k g.rs nx = ((g.whole && !g.big && decide (g.idx = imL g.l)) && !(g.l.isEmpty && decide (k + 1 < n)) && inB g.base 0 100000 && !(decide (0 < k) && decide (g.base ≠ nx))) := rfl

/-- A segment without batches that is whole has no byte. -/
theorem Sg.none_of {g : Sg} (hw : g.whole = true) (h : g.l.length = 0) : g.bytes.size = 0 := by
  have h1 : (readL g.bytes.data.toList).2 = g.bytes.size := of_decide_eq_true hw
  unfold Sg.l readL at h
  unfold readL at h1
  rw [readR] at h h1
  split at h
  · rename_i hs
    rw [hs] at h1
    exact h1.symm
  · rename_i b e hs
    rw [hs] at h1
    simp only at h1 h
    split at h
    · simp at h
    · rename_i hf
      rw [if_neg hf] at h1
      exact h1.symm

set_option maxRecDepth 1000000 in
set_option maxHeartbeats 16000000 in
theorem specGoodStore_any (gs : List Sg) (a : Option Addr) (c : Nat) (x : Int) (w : World) (hs : Sgs w a gs) (hl : gs.length ≤ 1048576) (hbytes : ∀ g, g ∈ gs → g.bytes.size ≤ 1048576) :
    Calls Tryd.prog 22 #[.agg #[.slice a gs.length c, .int .i64 x]] w fun r w' => r = .returned (.bool (stS gs x)) ∧ Below w.heap.size w w' := by
  have hb0 : ∀ o, Below w.heap.size w (w.alloc o) := fun o => (Below.refl _ _).alloc (Nat.le_refl _) o
  have ha : ∀ (u : World) o, Below u.heap.size u (u.alloc o) := fun u o => (Below.refl _ _).alloc (Nat.le_refl _) o
  have HBY : Hid (∀ g, g ∈ gs → g.bytes.size ≤ 1048576) := hbytes
  have HS : Hid (Sgs w a gs) := hs
  clear hbytes hs
  go_enter Tryd.func22, Tryd.ntmps22
  go_wp2_with fail
  generalize hW0 : w.alloc (.cells #[.slice a gs.length c, .int .i64 x] 30) = W0 at *
  have B0 : Below w.heap.size w W0 := by rw [← hW0]; exact hb0 _
  have s0 : W0.cell? ⟨w.heap.size, 0, none⟩ = some (.slice a gs.length c) := by rw [← hW0]; simp
  have s1 : W0.cell? ⟨w.heap.size, 1, none⟩ = some (.int .i64 x) := by rw [← hW0]; simp
  have ls := lt_of_cell s1
  clear hW0
  go_loopw [3, 4, 14] (fun nv ev i wr => ∃ (k : Nat) (nx ep : Int), k ≤ gs.length ∧ i = .int .i64 k ∧ nv = .int .i64 nx ∧ ev = .int .i64 ep ∧ Hid (spS gs.length k (rsOf (gs.drop k)) nx ep = spS gs.length 0 (rsOf gs) (-1) 0) ∧ Below W0.heap.size W0 wr) (fun _ _ i _ => gs.length - (intOf i).toNat)
  case atStart => exact ⟨0, -1, 0, Nat.zero_le _, rfl, rfl, rfl, rfl, Below.refl _ _⟩
  case round =>
    obtain ⟨k, nx, ep, hk, rfl, rfl, rfl, HI0, hBW⟩ := hrel
    have BW : Below w.heap.size w wr := B0.trans (hBW.mono B0.size)
    have t0 : wr.cell? ⟨w.heap.size, 0, none⟩ = some (.slice a gs.length c) := (hBW.cell (p := ⟨w.heap.size, 0, none⟩) ls).trans s0
    have t1 : wr.cell? ⟨w.heap.size, 1, none⟩ = some (.int .i64 x) := (hBW.cell (p := ⟨w.heap.size, 1, none⟩) ls).trans s1
    have ls1 := lt_of_cell t1
    by_cases hlt : k < gs.length
    · obtain ⟨g, hkg⟩ := getSg hlt
      obtain ⟨kb, ob, rfl, ra, rc, c0, c1, c2, hix, hil, hbz⟩ := (HS.out.below BW) k g hkg
      have hbz2 : g.bytes.size ≤ 2000000 := by have := HBY.out g (List.mem_of_getElem? hkg); omega
      have HK : Hid (rsOf (gs.drop k) = g.rs :: rsOf (gs.drop (k + 1))) := by show _ = _; rw [dropSg_cons hkg]; rfl
      have HEND : Hid (decide ((readL g.bytes.data.toList).2 = g.bytes.size) = g.whole) := rfl
      clear hkg hbz
      go_wp2_with fail
      refine (l1Read_any g.bytes _ hbz2).mono ?_
      rintro r w1 ⟨ps, a1, cq, rfl, hq, hst⟩
      have HQ : Hid (qsB ps = g.l) := hq
      have hpl : ps.length ≤ 2000000 := by
        have h := readR_lenS g.bytes.data.toList (g.bytes.data.toList.length + 1) none 0 (Nat.zero_le _)
        rw [size_len] at h
        rw [← qsB_len ps, HQ.out]
        unfold Sg.l readL
        rw [size_len]
        omega
      have hbel := hst.bel
      have BW1 : Below w.heap.size w w1 := BW.trans (((ha wr _).trans (hbel.mono (ha wr _).size)).mono BW.size)
      have hcel := (bcell hbel).1
      simp only [World.size_alloc] at hcel
      have kk : w1.cell? ⟨w.heap.size, 0, none⟩ = some (.slice (some ⟨kb, ob, none⟩) gs.length c) ∧ w1.cell? ⟨wr.heap.size, 0, none⟩ = some (.int .i64 g.base) ∧ w1.cell? ⟨wr.heap.size, 1, none⟩ = some (.string g.bytes) ∧ w1.cell? ⟨wr.heap.size, 2, none⟩ = some (.slice ra g.idx.length rc) := by
        refine ⟨?_, (hcel _ _ (by omega)).trans (by simp), (hcel _ _ (by omega)).trans (by simp), (hcel _ _ (by omega)).trans (by simp)⟩
        rw [hcel _ _ (by omega), World.cell?_alloc_old wr _ ⟨w.heap.size, 0, none⟩ (by simp; omega)]
        exact t0
      have HIX : Ims w1 ra g.idx := (hix.below (ha _ _)).below hbel
      have hm : (gs.length : Int) - 1 = ((gs.length - 1 : Nat) : Int) := by omega
      have hn2 : gs.length ≤ 2000000 := by omega
      generalize gs.length - 1 = m at hm
      have HM : Hid (∀ u, Below w1.heap.size w1 u → Calls Tryd.prog 41 #[.slice a1 ps.length cq] u fun r w' => ∃ v, r = .returned v ∧ ImSt u w' v (imL g.l)) := fun u hu => by
        have h := l2Index_any a1 cq (qsB ps) u ((rd_bats hst).below hu) (by
          have h := readR_lenS g.bytes.data.toList (g.bytes.data.toList.length + 1) none 0 (Nat.zero_le _)
          rw [size_len] at h
          rw [HQ.out]
          unfold Sg.l readL
          rw [size_len]
          have := hbz2
          omega) (by rw [HQ.out]; exact goodLog_mem (readL_good _))
        rwa [qsB_len, HQ.out] at h
      have HLL : Hid (g.l.length = ps.length) := by show _ = _; rw [← HQ.out, qsB_len]
      have HEM : Hid (g.l.isEmpty = decide (ps.length = 0)) := by
        show _ = _
        rw [← HQ.out]
        cases ps with
        | nil => rfl
        | cons q t => simp [qsB]
      have HBG : Hid (g.big = (decide (1 < ps.length) && decide (120 < g.bytes.size))) := by show _ = _; unfold Sg.big; rw [HLL.out]
      have HBT : Hid (∀ u, Below w1.heap.size w1 u → Bats u a1 (qsB ps)) := fun u hu => (rd_bats hst).below hu
      have hsW : Below W0.heap.size W0 w1 := hBW.trans (((ha wr _).trans (hbel.mono (ha wr _).size)).mono hBW.size)
      clear hst hcel hix hbel hq c0 c1 c2
      go_wp2_with fail
      by_cases hz : (readL g.bytes.data.toList).2 = g.bytes.size
      case neg =>
        have HW : Hid (g.whole = false) := by show _ = _; rw [← HEND.out]; exact decide_eq_false hz
        have hzb : ((((readL g.bytes.data.toList).2 : Nat) : Int) != (g.bytes.size : Int)) = true := by simpa using (show (((readL g.bytes.data.toList).2 : Nat) : Int) ≠ (g.bytes.size : Int) by omega)
        clear hz
        have HN : Hid (stS gs x = false) := stS_no HI0.out HK.out (by
          rw [spOk_eq, HW.out]; simp)
        refine gs7N _ w.heap.size wr.heap.size gs.length c k ps.length cq rc m nx ((readL g.bytes.data.toList).2 : Nat) g (some ⟨kb, ob, none⟩) a1 ra _ _ _ _ _ _ _ _ _ _ _ _ _ _ _ _ _ _ _ _ _ _ _ _ _ _ _ _ _ _ _ _ _ _ _ _ _ _ _ _ _ _ _ _ _ _ _ _ _ _ _ _ _ _ _ _ _ _ _ _ _ _ _ _ _ _ _ _ _ _ _ _ _ _ _ _ _ _ _ _ _ _ _ _ _ _ _ _ _ _ _ _ _ _ _ _ _ _ _ _ _ _ _ _ _ _ _ _ _ _ _ _ _ _ _ _ kk hm hn2 hlt hpl hbz2  hzb ?_
        intro v25 v26 v27 v28 v29 v30 v31 v32 v33 v34 v35 v36 v37 v38 v39 v40 v41 v42 v43 v44 v45 v46 v47 v48 v49 v50 v51 v52 v53 v54 v55 v56 v57 v58 v59 v60 v61 v62 v63 v64 v65 v66 v67 v68 v69 v70 v71 v72 v73 v74 v75 v76 w4 hB4
        have BN : Below w.heap.size w w4 := BW1.trans (hB4.mono BW1.size)
        clear hB4 HM HIX kk
        go_wp2
        go_ret
        exact ⟨ret_bool HN.out.symm, BN⟩
      case pos =>
        have HW : Hid (g.whole = true) := by show _ = _; rw [← HEND.out]; exact decide_eq_true hz
        have HNO : Hid (ps.length = 0 → g.bytes.size = 0) := fun h => Sg.none_of HW.out (by rw [HLL.out]; exact h)
        have hzb : ((((readL g.bytes.data.toList).2 : Nat) : Int) != (g.bytes.size : Int)) = false := by rw [hz]; simp
        clear hz
        by_cases hbig : (120 : Int) < (g.bytes.size : Int) ∧ (1 : Int) < (ps.length : Int)
        · obtain ⟨b1, b2⟩ := hbig
          have HN : Hid (stS gs x = false) := stS_no HI0.out HK.out (by
            rw [spOk_eq, HBG.out, decide_eq_true (by omega), decide_eq_true (by omega)]; simp)
          refine gs7Big _ w.heap.size wr.heap.size gs.length c k ps.length cq rc m nx ((readL g.bytes.data.toList).2 : Nat) g (some ⟨kb, ob, none⟩) a1 ra _ _ _ _ _ _ _ _ _ _ _ _ _ _ _ _ _ _ _ _ _ _ _ _ _ _ _ _ _ _ _ _ _ _ _ _ _ _ _ _ _ _ _ _ _ _ _ _ _ _ _ _ _ _ _ _ _ _ _ _ _ _ _ _ _ _ _ _ _ _ _ _ _ _ _ _ _ _ _ _ _ _ _ _ _ _ _ _ _ _ _ _ _ _ _ _ _ _ _ _ _ _ _ _ _ _ _ _ _ _ _ _ _ _ _ _ kk hm hn2 hlt hpl hbz2  hzb b1 b2 ?_
          intro v25 v26 v27 v28 v29 v30 v31 v32 v33 v34 v35 v36 v37 v38 v39 v40 v41 v42 v43 v44 v45 v46 v47 v48 v49 v50 v51 v52 v53 v54 v55 v56 v57 v58 v59 v60 v61 v62 v63 v64 v65 v66 v67 v68 v69 v70 v71 v72 v73 v74 v75 v76 w4 hB4
          have BN : Below w.heap.size w w4 := BW1.trans (hB4.mono BW1.size)
          clear hB4 HM HIX kk
          go_wp2
          go_ret
          exact ⟨ret_bool HN.out.symm, BN⟩
        have HBF : Hid (g.big = false) := by
          show _ = _
          rw [HBG.out]
          cases hd : (decide (1 < ps.length) && decide (120 < g.bytes.size)) with
          | false => rfl
          | true => simp at hd; omega
        by_cases hemp : ps.length = 0 ∧ k + 1 < gs.length
        · obtain ⟨b1, b2⟩ := hemp
          have e0 := HNO.out b1
          have e1 : ((ps.length : Int) == 0) = true := by rw [b1]; rfl
          have e2 : (k : Int) < (m : Int) := by omega
          have e3 : ¬ (120 : Int) < (g.bytes.size : Int) := by omega
          have HN : Hid (stS gs x = false) := stS_no HI0.out HK.out (by
            rw [spOk_eq, HEM.out, decide_eq_true b1, decide_eq_true b2]; simp)
          refine gs7Emp _ w.heap.size wr.heap.size gs.length c k ps.length cq rc m nx ((readL g.bytes.data.toList).2 : Nat) g (some ⟨kb, ob, none⟩) a1 ra _ _ _ _ _ _ _ _ _ _ _ _ _ _ _ _ _ _ _ _ _ _ _ _ _ _ _ _ _ _ _ _ _ _ _ _ _ _ _ _ _ _ _ _ _ _ _ _ _ _ _ _ _ _ _ _ _ _ _ _ _ _ _ _ _ _ _ _ _ _ _ _ _ _ _ _ _ _ _ _ _ _ _ _ _ _ _ _ _ _ _ _ _ _ _ _ _ _ _ _ _ _ _ _ _ _ _ _ _ _ _ _ _ _ _ _ kk hm hn2 hlt hpl hbz2  hzb e3 e1 e2 ?_
          intro v25 v26 v27 v28 v29 v30 v31 v32 v33 v34 v35 v36 v37 v38 v39 v40 v41 v42 v43 v44 v45 v46 v47 v48 v49 v50 v51 v52 v53 v54 v55 v56 v57 v58 v59 v60 v61 v62 v63 v64 v65 v66 v67 v68 v69 v70 v71 v72 v73 v74 v75 v76 w4 hB4
          have BN : Below w.heap.size w w4 := BW1.trans (hB4.mono BW1.size)
          clear hB4 HM HIX kk
          go_wp2
          go_ret
          exact ⟨ret_bool HN.out.symm, BN⟩
        have HEF : Hid ((g.l.isEmpty && decide (k + 1 < gs.length)) = false) := by
          show _ = _
          rw [HEM.out]
          cases hd : (decide (ps.length = 0) && decide (k + 1 < gs.length)) with
          | false => rfl
          | true => rw [Bool.and_eq_true, decide_eq_true_eq, decide_eq_true_eq] at hd; exact absurd hd hemp
        have hcase : (((ps.length : Int) == 0) = true ∧ (¬ (120 : Int) < (g.bytes.size : Int)) ∧ ¬ (k : Int) < (m : Int)) ∨ (((ps.length : Int) == 0) = false ∧ ¬ (120 : Int) < (g.bytes.size : Int)) ∨ (((ps.length : Int) == 0) = false ∧ (120 : Int) < (g.bytes.size : Int) ∧ ¬ (1 : Int) < (ps.length : Int)) := by
          by_cases h0 : ps.length = 0
          · have := HNO.out h0
            exact .inl ⟨by rw [h0]; rfl, by omega, by omega⟩
          · have h1 : ((ps.length : Int) == 0) = false := beq_eq_false_iff_ne.2 (by omega)
            by_cases h2 : (120 : Int) < (g.bytes.size : Int)
            · exact .inr (.inr ⟨h1, h2, fun h => hbig ⟨h2, h⟩⟩)
            · exact .inr (.inl ⟨h1, h2⟩)
        clear hbig hemp
        by_cases hidx : g.idx = imL g.l
        case neg =>
          have HE : Hid (decide (g.idx = imL g.l) = false) := decide_eq_false hidx
          clear hidx
          rcases hcase with ⟨e1, e2, e3⟩ | ⟨e1, e2⟩ | ⟨e1, e2, e3⟩
          · have HN : Hid (stS gs x = false) := stS_no HI0.out HK.out (by
              rw [spOk_eq, HE.out]; simp)
            refine gs7AMk _ w.heap.size wr.heap.size gs.length c k ps.length cq rc m nx ((readL g.bytes.data.toList).2 : Nat) g (some ⟨kb, ob, none⟩) a1 ra _ _ _ _ _ _ _ _ _ _ _ _ _ _ _ _ _ _ _ _ _ _ _ _ _ _ _ _ _ _ _ _ _ _ _ _ _ _ _ _ _ _ _ _ _ _ _ _ _ _ _ _ _ _ _ _ _ _ _ _ _ _ _ _ _ _ _ _ _ _ _ _ _ _ _ _ _ _ _ _ _ _ _ _ _ _ _ _ _ _ _ _ _ _ _ _ _ _ _ _ _ _ _ _ _ _ _ _ _ _ _ _ _ _ _ _ kk hm hn2 hlt hpl hbz2 (imL g.l) HM HIX hil hzb e2 e1 e3 HE ?_
            intro v25 v26 v27 v28 v29 v30 v31 v32 v33 v34 v35 v36 v37 v38 v39 v40 v41 v42 v43 v44 v45 v46 v47 v48 v49 v50 v51 v52 v53 v54 v55 v56 v57 v58 v59 v60 v61 v62 v63 v64 v65 v66 v67 v68 v69 v70 v71 v72 v73 v74 v75 v76 w4 hB4
            have BN : Below w.heap.size w w4 := BW1.trans (hB4.mono BW1.size)
            clear hB4 HM HIX kk
            go_wp2
            go_ret
            exact ⟨ret_bool HN.out.symm, BN⟩
          · have HN : Hid (stS gs x = false) := stS_no HI0.out HK.out (by
              rw [spOk_eq, HE.out]; simp)
            refine gs7BMk _ w.heap.size wr.heap.size gs.length c k ps.length cq rc m nx ((readL g.bytes.data.toList).2 : Nat) g (some ⟨kb, ob, none⟩) a1 ra _ _ _ _ _ _ _ _ _ _ _ _ _ _ _ _ _ _ _ _ _ _ _ _ _ _ _ _ _ _ _ _ _ _ _ _ _ _ _ _ _ _ _ _ _ _ _ _ _ _ _ _ _ _ _ _ _ _ _ _ _ _ _ _ _ _ _ _ _ _ _ _ _ _ _ _ _ _ _ _ _ _ _ _ _ _ _ _ _ _ _ _ _ _ _ _ _ _ _ _ _ _ _ _ _ _ _ _ _ _ _ _ _ _ _ _ kk hm hn2 hlt hpl hbz2 (imL g.l) HM HIX hil hzb e2 e1 HE ?_
            intro v25 v26 v27 v28 v29 v30 v31 v32 v33 v34 v35 v36 v37 v38 v39 v40 v41 v42 v43 v44 v45 v46 v47 v48 v49 v50 v51 v52 v53 v54 v55 v56 v57 v58 v59 v60 v61 v62 v63 v64 v65 v66 v67 v68 v69 v70 v71 v72 v73 v74 v75 v76 w4 hB4
            have BN : Below w.heap.size w w4 := BW1.trans (hB4.mono BW1.size)
            clear hB4 HM HIX kk
            go_wp2
            go_ret
            exact ⟨ret_bool HN.out.symm, BN⟩
          · have HN : Hid (stS gs x = false) := stS_no HI0.out HK.out (by
              rw [spOk_eq, HE.out]; simp)
            refine gs7CMk _ w.heap.size wr.heap.size gs.length c k ps.length cq rc m nx ((readL g.bytes.data.toList).2 : Nat) g (some ⟨kb, ob, none⟩) a1 ra _ _ _ _ _ _ _ _ _ _ _ _ _ _ _ _ _ _ _ _ _ _ _ _ _ _ _ _ _ _ _ _ _ _ _ _ _ _ _ _ _ _ _ _ _ _ _ _ _ _ _ _ _ _ _ _ _ _ _ _ _ _ _ _ _ _ _ _ _ _ _ _ _ _ _ _ _ _ _ _ _ _ _ _ _ _ _ _ _ _ _ _ _ _ _ _ _ _ _ _ _ _ _ _ _ _ _ _ _ _ _ _ _ _ _ _ kk hm hn2 hlt hpl hbz2 (imL g.l) HM HIX hil hzb e2 e1 e3 HE ?_
            intro v25 v26 v27 v28 v29 v30 v31 v32 v33 v34 v35 v36 v37 v38 v39 v40 v41 v42 v43 v44 v45 v46 v47 v48 v49 v50 v51 v52 v53 v54 v55 v56 v57 v58 v59 v60 v61 v62 v63 v64 v65 v66 v67 v68 v69 v70 v71 v72 v73 v74 v75 v76 w4 hB4
            have BN : Below w.heap.size w w4 := BW1.trans (hB4.mono BW1.size)
            clear hB4 HM HIX kk
            go_wp2
            go_ret
            exact ⟨ret_bool HN.out.symm, BN⟩
        case pos =>
        have HE : Hid (decide (g.idx = imL g.l) = true) := decide_eq_true hidx
        clear hidx
        cases hin : inB g.base 0 100000 with
        | false =>
          have HI : Hid (inB g.base 0 100000 = false) := hin
          clear hin
          rcases hcase with ⟨e1, e2, e3⟩ | ⟨e1, e2⟩ | ⟨e1, e2, e3⟩
          · have HN : Hid (stS gs x = false) := stS_no HI0.out HK.out (by
              rw [spOk_eq, HI.out]; simp)
            refine gs7ABa _ w.heap.size wr.heap.size gs.length c k ps.length cq rc m nx ((readL g.bytes.data.toList).2 : Nat) g (some ⟨kb, ob, none⟩) a1 ra _ _ _ _ _ _ _ _ _ _ _ _ _ _ _ _ _ _ _ _ _ _ _ _ _ _ _ _ _ _ _ _ _ _ _ _ _ _ _ _ _ _ _ _ _ _ _ _ _ _ _ _ _ _ _ _ _ _ _ _ _ _ _ _ _ _ _ _ _ _ _ _ _ _ _ _ _ _ _ _ _ _ _ _ _ _ _ _ _ _ _ _ _ _ _ _ _ _ _ _ _ _ _ _ _ _ _ _ _ _ _ _ _ _ _ _ kk hm hn2 hlt hpl hbz2 (imL g.l) HM HIX hil hzb e2 e1 e3 HE HI ?_
            intro v25 v26 v27 v28 v29 v30 v31 v32 v33 v34 v35 v36 v37 v38 v39 v40 v41 v42 v43 v44 v45 v46 v47 v48 v49 v50 v51 v52 v53 v54 v55 v56 v57 v58 v59 v60 v61 v62 v63 v64 v65 v66 v67 v68 v69 v70 v71 v72 v73 v74 v75 v76 w4 hB4
            have BN : Below w.heap.size w w4 := BW1.trans (hB4.mono BW1.size)
            clear hB4 HM HIX kk
            go_wp2
            go_ret
            exact ⟨ret_bool HN.out.symm, BN⟩
          · have HN : Hid (stS gs x = false) := stS_no HI0.out HK.out (by
              rw [spOk_eq, HI.out]; simp)
            refine gs7BBa _ w.heap.size wr.heap.size gs.length c k ps.length cq rc m nx ((readL g.bytes.data.toList).2 : Nat) g (some ⟨kb, ob, none⟩) a1 ra _ _ _ _ _ _ _ _ _ _ _ _ _ _ _ _ _ _ _ _ _ _ _ _ _ _ _ _ _ _ _ _ _ _ _ _ _ _ _ _ _ _ _ _ _ _ _ _ _ _ _ _ _ _ _ _ _ _ _ _ _ _ _ _ _ _ _ _ _ _ _ _ _ _ _ _ _ _ _ _ _ _ _ _ _ _ _ _ _ _ _ _ _ _ _ _ _ _ _ _ _ _ _ _ _ _ _ _ _ _ _ _ _ _ _ _ kk hm hn2 hlt hpl hbz2 (imL g.l) HM HIX hil hzb e2 e1 HE HI ?_
            intro v25 v26 v27 v28 v29 v30 v31 v32 v33 v34 v35 v36 v37 v38 v39 v40 v41 v42 v43 v44 v45 v46 v47 v48 v49 v50 v51 v52 v53 v54 v55 v56 v57 v58 v59 v60 v61 v62 v63 v64 v65 v66 v67 v68 v69 v70 v71 v72 v73 v74 v75 v76 w4 hB4
            have BN : Below w.heap.size w w4 := BW1.trans (hB4.mono BW1.size)
            clear hB4 HM HIX kk
            go_wp2
            go_ret
            exact ⟨ret_bool HN.out.symm, BN⟩
          · have HN : Hid (stS gs x = false) := stS_no HI0.out HK.out (by
              rw [spOk_eq, HI.out]; simp)
            refine gs7CBa _ w.heap.size wr.heap.size gs.length c k ps.length cq rc m nx ((readL g.bytes.data.toList).2 : Nat) g (some ⟨kb, ob, none⟩) a1 ra _ _ _ _ _ _ _ _ _ _ _ _ _ _ _ _ _ _ _ _ _ _ _ _ _ _ _ _ _ _ _ _ _ _ _ _ _ _ _ _ _ _ _ _ _ _ _ _ _ _ _ _ _ _ _ _ _ _ _ _ _ _ _ _ _ _ _ _ _ _ _ _ _ _ _ _ _ _ _ _ _ _ _ _ _ _ _ _ _ _ _ _ _ _ _ _ _ _ _ _ _ _ _ _ _ _ _ _ _ _ _ _ _ _ _ _ kk hm hn2 hlt hpl hbz2 (imL g.l) HM HIX hil hzb e2 e1 e3 HE HI ?_
            intro v25 v26 v27 v28 v29 v30 v31 v32 v33 v34 v35 v36 v37 v38 v39 v40 v41 v42 v43 v44 v45 v46 v47 v48 v49 v50 v51 v52 v53 v54 v55 v56 v57 v58 v59 v60 v61 v62 v63 v64 v65 v66 v67 v68 v69 v70 v71 v72 v73 v74 v75 v76 w4 hB4
            have BN : Below w.heap.size w w4 := BW1.trans (hB4.mono BW1.size)
            clear hB4 HM HIX kk
            go_wp2
            go_ret
            exact ⟨ret_bool HN.out.symm, BN⟩
        | true =>
        have HI : Hid (inB g.base 0 100000 = true) := hin
        clear hin
        by_cases hne : 0 < k ∧ g.base ≠ nx
        · obtain ⟨f1, f2⟩ := hne
          have f3 : (0 : Int) < (k : Int) := by omega
          have f4 : (g.base != nx) = true := by simpa using f2
          rcases hcase with ⟨e1, e2, e3⟩ | ⟨e1, e2⟩ | ⟨e1, e2, e3⟩
          · have HN : Hid (stS gs x = false) := stS_no HI0.out HK.out (by
              rw [spOk_eq, decide_eq_true f1, decide_eq_true f2]; simp)
            refine gs7ANe _ w.heap.size wr.heap.size gs.length c k ps.length cq rc m nx ((readL g.bytes.data.toList).2 : Nat) g (some ⟨kb, ob, none⟩) a1 ra _ _ _ _ _ _ _ _ _ _ _ _ _ _ _ _ _ _ _ _ _ _ _ _ _ _ _ _ _ _ _ _ _ _ _ _ _ _ _ _ _ _ _ _ _ _ _ _ _ _ _ _ _ _ _ _ _ _ _ _ _ _ _ _ _ _ _ _ _ _ _ _ _ _ _ _ _ _ _ _ _ _ _ _ _ _ _ _ _ _ _ _ _ _ _ _ _ _ _ _ _ _ _ _ _ _ _ _ _ _ _ _ _ _ _ _ kk hm hn2 hlt hpl hbz2 (imL g.l) HM HIX hil hzb e2 e1 e3 HE HI f3 f1 f4 ?_
            intro v25 v26 v27 v28 v29 v30 v31 v32 v33 v34 v35 v36 v37 v38 v39 v40 v41 v42 v43 v44 v45 v46 v47 v48 v49 v50 v51 v52 v53 v54 v55 v56 v57 v58 v59 v60 v61 v62 v63 v64 v65 v66 v67 v68 v69 v70 v71 v72 v73 v74 v75 v76 w4 hB4
            have BN : Below w.heap.size w w4 := BW1.trans (hB4.mono BW1.size)
            clear hB4 HM HIX kk
            go_wp2
            go_ret
            exact ⟨ret_bool HN.out.symm, BN⟩
          · have HN : Hid (stS gs x = false) := stS_no HI0.out HK.out (by
              rw [spOk_eq, decide_eq_true f1, decide_eq_true f2]; simp)
            refine gs7BNe _ w.heap.size wr.heap.size gs.length c k ps.length cq rc m nx ((readL g.bytes.data.toList).2 : Nat) g (some ⟨kb, ob, none⟩) a1 ra _ _ _ _ _ _ _ _ _ _ _ _ _ _ _ _ _ _ _ _ _ _ _ _ _ _ _ _ _ _ _ _ _ _ _ _ _ _ _ _ _ _ _ _ _ _ _ _ _ _ _ _ _ _ _ _ _ _ _ _ _ _ _ _ _ _ _ _ _ _ _ _ _ _ _ _ _ _ _ _ _ _ _ _ _ _ _ _ _ _ _ _ _ _ _ _ _ _ _ _ _ _ _ _ _ _ _ _ _ _ _ _ _ _ _ _ kk hm hn2 hlt hpl hbz2 (imL g.l) HM HIX hil hzb e2 e1 HE HI f3 f1 f4 ?_
            intro v25 v26 v27 v28 v29 v30 v31 v32 v33 v34 v35 v36 v37 v38 v39 v40 v41 v42 v43 v44 v45 v46 v47 v48 v49 v50 v51 v52 v53 v54 v55 v56 v57 v58 v59 v60 v61 v62 v63 v64 v65 v66 v67 v68 v69 v70 v71 v72 v73 v74 v75 v76 w4 hB4
            have BN : Below w.heap.size w w4 := BW1.trans (hB4.mono BW1.size)
            clear hB4 HM HIX kk
            go_wp2
            go_ret
            exact ⟨ret_bool HN.out.symm, BN⟩
          · have HN : Hid (stS gs x = false) := stS_no HI0.out HK.out (by
              rw [spOk_eq, decide_eq_true f1, decide_eq_true f2]; simp)
            refine gs7CNe _ w.heap.size wr.heap.size gs.length c k ps.length cq rc m nx ((readL g.bytes.data.toList).2 : Nat) g (some ⟨kb, ob, none⟩) a1 ra _ _ _ _ _ _ _ _ _ _ _ _ _ _ _ _ _ _ _ _ _ _ _ _ _ _ _ _ _ _ _ _ _ _ _ _ _ _ _ _ _ _ _ _ _ _ _ _ _ _ _ _ _ _ _ _ _ _ _ _ _ _ _ _ _ _ _ _ _ _ _ _ _ _ _ _ _ _ _ _ _ _ _ _ _ _ _ _ _ _ _ _ _ _ _ _ _ _ _ _ _ _ _ _ _ _ _ _ _ _ _ _ _ _ _ _ kk hm hn2 hlt hpl hbz2 (imL g.l) HM HIX hil hzb e2 e1 e3 HE HI f3 f1 f4 ?_
            intro v25 v26 v27 v28 v29 v30 v31 v32 v33 v34 v35 v36 v37 v38 v39 v40 v41 v42 v43 v44 v45 v46 v47 v48 v49 v50 v51 v52 v53 v54 v55 v56 v57 v58 v59 v60 v61 v62 v63 v64 v65 v66 v67 v68 v69 v70 v71 v72 v73 v74 v75 v76 w4 hB4
            have BN : Below w.heap.size w w4 := BW1.trans (hB4.mono BW1.size)
            clear hB4 HM HIX kk
            go_wp2
            go_ret
            exact ⟨ret_bool HN.out.symm, BN⟩
        have HOK : Hid (spOk gs.length k g.rs nx = true) := by
          show _ = _
          rw [spOk_eq, HW.out, HBF.out, HE.out, HEF.out, HI.out]
          cases hd : (decide (0 < k) && decide (g.base ≠ nx)) with
          | false => rfl
          | true => simp at hd; exact absurd hd (by simpa using hne)
        have hfi : ((0 : Int) < (k : Int) ∧ 0 < k ∧ (g.base != nx) = false) ∨ (¬ (0 : Int) < (k : Int) ∧ ¬ 0 < k) := by
          by_cases h0 : 0 < k
          · refine .inl ⟨by omega, h0, ?_⟩
            have : g.base = nx := Decidable.byContradiction fun h => hne ⟨h0, h⟩
            simp [this]
          · exact .inr ⟨by omega, h0⟩
        clear hne
        refine gs7Pass _ w.heap.size wr.heap.size gs.length c k ps.length cq rc m nx ((readL g.bytes.data.toList).2 : Nat) g (some ⟨kb, ob, none⟩) a1 ra _ _ _ _ _ _ _ _ _ _ _ _ _ _ _ _ _ _ _ _ _ _ _ _ _ _ _ _ _ _ _ _ _ _ _ _ _ _ _ _ _ _ _ _ _ _ _ _ _ _ _ _ _ _ _ _ _ _ _ _ _ _ _ _ _ _ _ _ _ _ _ _ _ _ _ _ _ _ _ _ _ _ _ _ _ _ _ _ _ _ _ _ _ _ _ _ _ _ _ _ _ _ _ _ _ _ _ _ _ _ _ _ _ _ _ _ kk hm hn2 hlt hpl hbz2 (imL g.l) HM HIX hil hzb HE HI hcase hfi ?_
        intro v25 v26 v27 v28 v29 v30 v31 v32 v33 v34 v35 v36 v37 v38 v39 v40 v41 v42 v43 v44 v45 v46 v47 v48 v49 v50 v51 v52 v53 v54 v55 v56 v57 v58 v59 v60 v61 v62 v63 v64 v65 v66 v67 v68 v69 v70 v71 v72 v73 v74 v75 v76 w4 hB4
        have kk4 := four_keep hB4 kk
        have b0 := kk4.2.1
        have hs4 : Below W0.heap.size W0 w4 := hsW.trans (hB4.mono hsW.size)
        have HBT4 : Hid (∀ u, Below w4.heap.size w4 u → Bats u a1 (qsB ps)) := fun u hu => HBT.out u (hB4.trans (hu.mono hB4.size))
        clear kk4 kk HM HIX HBT hfi hcase hzb HE HI HEM HBG HEND HW HBF HEF HNO hB4 BW1 t0 t1 ls1 hsW
        go_wp2_with fail
        obtain ⟨wo, rfl⟩ : ∃ wo : World, wo = wr := ⟨_, rfl⟩
        clear b0
        go_loopw [3, 4, 82] (fun nv ev jv wr => ∃ (j : Nat) (ny ey : Int), j ≤ ps.length ∧ jv = .int .i64 j ∧ nv = .int .i64 ny ∧ ev = .int .i64 ey ∧ Hid (spIn (g.l.drop j) ny ey = spIn g.l g.base ep) ∧ Below w4.heap.size w4 wr) (fun _ _ jv _ => ps.length - (intOf jv).toNat)
        case atStart => exact ⟨0, g.base, ep, Nat.zero_le _, rfl, rfl, rfl, rfl, Below.refl _ _⟩
        case round =>
          obtain ⟨j, ny, ey, hj, rfl, rfl, rfl, HJ, hBJ⟩ := hrel
          have BJ : Below W0.heap.size W0 wr := hs4.trans (hBJ.mono hs4.size)
          have BJw : Below w.heap.size w wr := B0.trans (BJ.mono B0.size)
          by_cases hjl : j < ps.length
          · obtain ⟨b, hjb⟩ : ∃ b, (qsB ps)[j]? = some b := ⟨_, List.getElem?_eq_getElem (by rw [qsB_len]; exact hjl)⟩
            obtain ⟨kc, oc, hac, ra', rc', d0, d1, d2, d3, d4, -, hrl⟩ := (HBT4.out wr hBJ) j b hjb
            have hjb2 : g.l[j]? = some b := by rw [← HQ.out]; exact hjb
            have hgn := good_num (goodLog_mem (readL_good g.bytes.data.toList) b (List.mem_of_getElem? hjb2))
            have HD : Hid (g.l.drop j = b :: g.l.drop (j + 1)) := drop_cons hjb2
            obtain ⟨n0, n1, n2, n3⟩ := hgn
            subst hac
            clear hjb hjb2
            by_cases h1 : b.off = ny
            · by_cases h2 : b.ep < ey
              · have HN : Hid (stS gs x = false) := stS_in HI0.out HK.out (by
                  rw [← HJ.out, HD.out, spIn, if_neg (by omega)])
                have h1b : (b.off != ny) = false := by simpa using h1
                clear h1
                go_wp2
                go_ret
                exact ⟨ret_bool HN.out.symm, BJw.trans ((ha _ _).mono BJw.size)⟩
              · have HN : Hid (spIn (g.l.drop (j + 1)) (b.off + b.recs.length) b.ep = spIn g.l g.base ep) := by
                  show _ = _
                  rw [← HJ.out, HD.out, spIn, if_pos ⟨h1, by omega⟩]
                have h1b : (b.off != ny) = false := by simpa using h1
                clear h1
                have hBn : ∀ o, Below w4.heap.size w4 (wr.alloc o) := fun o => hBJ.trans ((ha wr o).mono hBJ.size)
                go_wp2
                go_roundw
                case rel => exact ⟨j + 1, b.off + b.recs.length, b.ep, by omega, by go_num, rfl, rfl, HN, hBn _⟩
                case measure => simp [intOf]; omega
            · have HN : Hid (stS gs x = false) := stS_in HI0.out HK.out (by
                rw [← HJ.out, HD.out, spIn, if_neg (fun h => h1 h.1)])
              have h1b : (b.off != ny) = true := by simpa using h1
              clear h1
              go_wp2
              go_ret
              exact ⟨ret_bool HN.out.symm, BJw.trans ((ha _ _).mono BJw.size)⟩
          · have HJ2 : Hid (spIn g.l g.base ep = some (ny, ey)) := by
              show _ = _
              rw [← HJ.out, List.drop_eq_nil_of_le (by rw [HLL.out]; omega)]
              rfl
            have HN : Hid (spS gs.length (k + 1) (rsOf (gs.drop (k + 1))) ny ey = spS gs.length 0 (rsOf gs) (-1) 0) := stS_on HI0.out HK.out HOK.out HJ2.out
            go_wp2
            go_roundw
            case rel => exact ⟨k + 1, ny, ey, by omega, by go_num, rfl, rfl, HN, BJ⟩
            case measure => simp [intOf]; omega
    · obtain rfl : k = gs.length := by omega
      have HE : Hid (spS gs.length 0 (rsOf gs) (-1) 0 = some nx) := by
        show _ = _
        rw [← HI0.out, List.drop_length]
        rfl
      clear HI0
      cases hin : inB gs.length 1 8 with
      | false =>
        have HN : Hid (stS gs x = false) := by show _ = _; rw [stS_some HE.out, hin]; rfl
        have HI : Hid (inB gs.length 1 8 = false) := hin
        clear hin
        go_wp2_with (go_at_call 42; refine (l1In_any _ _ _ _).mono ?_; rintro r w4 ⟨hr, hw4⟩; rw [HI.out] at hr; subst hr; subst hw4)
        go_ret
        exact ⟨ret_bool HN.out.symm, BW⟩
      | true =>
        have HI : Hid (inB gs.length 1 8 = true) := hin
        by_cases hx : x = nx
        · have HN : Hid (stS gs x = inB x 0 100000) := by show _ = _; rw [stS_some HE.out, hin, decide_eq_true hx]; simp
          have hxb : (x == nx) = true := by simpa using hx
          clear hin hx
          go_wp2_with (go_at_call 42; refine (l1In_any _ _ _ _).mono ?_; rintro r w4 ⟨hr, hw4⟩; first | (rw [HI.out] at hr; subst hr; subst hw4) | (subst hr; subst hw4))
          go_ret
          exact ⟨ret_bool HN.out.symm, BW⟩
        · have HN : Hid (stS gs x = false) := by show _ = _; rw [stS_some HE.out, hin, decide_eq_false hx]; simp
          have hxb : (x == nx) = false := by simpa using hx
          clear hin hx
          go_wp2_with (go_at_call 42; refine (l1In_any _ _ _ _).mono ?_; rintro r w4 ⟨hr, hw4⟩; rw [HI.out] at hr; subst hr; subst hw4)
          go_ret
          exact ⟨ret_bool HN.out.symm, BW⟩

end Go.Proofs.YtomigekigcklfaaDoor
