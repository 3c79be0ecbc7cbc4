/-
  A crash: the contract of spec.CrashDisk.
-/
import Derived.Test.YtljocofhefpapaaDskCrash2
import Derived.RegionTactic
namespace Go.Proofs.Ytljocofhefpapaa
open Go.RowKit

theorem crash_lo {z : Int} {f : Fl} (h : z < 0) : crashF z f = none := by unfold crashF; rw [inB_f.2 (by omega)]; rfl
theorem crash_hi {z : Int} {f : Fl} (h : (f.bytes.size : Int) - f.syn < z) : crashF z f = none := by unfold crashF; rw [inB_f.2 (by omega)]; rfl
theorem crash_mid {z : Int} {f : Fl} (hok : okF f = true) (h0 : ¬ z < 0) (h1 : ¬ (f.bytes.size : Int) - f.syn < z) : ∃ n : Nat, f.syn + z = (n : Int) ∧ crashF z f = some ⟨f.bytes.extract 0 n, (n : Int)⟩ ∧ (n : Int) ≤ (f.bytes.size : Int) ∧ (0 : Int) ≤ (n : Int) ∧ IntKind.i64.wrap (n : Int) = (n : Int) ∧ wrap64 (n : Int) = (n : Int) ∧ (f.bytes.extract 0 n).size ≤ maxLen := by
  obtain ⟨f4, f0, f1⟩ := okF_parts hok
  obtain ⟨n, hn⟩ := Int.eq_ofNat_of_zero_le (by omega : 0 ≤ f.syn + z)
  refine ⟨n, hn, by unfold crashF; rw [inB_t.2 (by omega), hn]; rfl, by omega, by omega, by rw [IntKind.wrap_i64]; omega, by unfold wrap64; omega, by rw [ByteArray.size_extract]; unfold maxLen; omega⟩
theorem wrap_len {f : Fl} (hok : okF f = true) : wrap64 ((f.bytes.size : Int) - f.syn) = (f.bytes.size : Int) - f.syn ∧ IntKind.i64.wrap ((f.bytes.size : Int) - f.syn) = (f.bytes.size : Int) - f.syn := by
  obtain ⟨f4, f0, f1⟩ := okF_parts hok
  exact ⟨by unfold wrap64; omega, by rw [IntKind.wrap_i64]; omega⟩

set_option maxRecDepth 100000 in
set_option maxHeartbeats 4000000 in
theorem specCrash_any (a : Option Addr) (c : Nat) (fs : List Fl) (a2 : Option Addr) (c2 : Nat) (ks : List Int) (w : World) (hs : Fls w a fs) (hl : fs.length ≤ maxLen) (hk : Ints w a2 ks) :
    Calls Try.prog 22 #[.agg #[.slice a fs.length c], .slice a2 ks.length c2] w fun r w' => ∃ a' c', r = .returned (.tuple #[.agg #[.slice a' (filesOf (crashD fs ks)).length c'], .bool (crashD fs ks).isSome]) ∧ Fls w' a' (filesOf (crashD fs ks)) ∧ RowF w' w.heap.size a' (filesOf (crashD fs ks)).length ∧ Below w.heap.size w w' := by
  have hb2 : ∀ x y, Below w.heap.size w ((w.alloc x).alloc y) := fun _ _ => ((Below.refl _ _).alloc (Nat.le_refl _) _).alloc (by simp) _
  have hl' := hl
  unfold maxLen at hl'
  obtain ⟨gd, hgd⟩ : ∃ gd, goodD fs = gd := ⟨_, rfl⟩
  have HG : Hid (goodD fs = gd) := hgd
  cases gd with
  | false =>
    rw [crashD_none (fun h => by rw [hgd] at h; exact absurd h.1 (by simp))]
    clear hgd
    go_enter Try.func22, Try.ntmps22
    go_wp2_with fail
    refine (specGoodDisk_any _ _ _ _ (hs.below (hb2 _ _)) hl).mono ?_
    rintro r w1 ⟨hr, hB1⟩
    rw [HG.out] at hr; subst hr
    have BB := (hb2 _ _).trans (hB1.mono (hb2 _ _).size)
    obtain ⟨hc1, hf1⟩ := fbcell hB1
    simp only [World.size_alloc] at hc1 hf1
    clear hB1
    go_wp2
    refine bodyPost_ret (v := .tuple #[.agg #[.slice none 0 0], .bool false]) (by simp [results, Try.results22, go_sem, hc1]) rfl ⟨none, 0, rfl, Fls.nil _ _, .inl rfl, BB.setCell (by simp) _⟩
  | true =>
    obtain ⟨l1, l4, hok⟩ := goodD_t hgd
    by_cases hkn : ks.length = fs.length
    · have HC : Hid (crashD fs ks = crashL fs ks) := by show _ = _; unfold crashD; rw [if_pos ⟨hgd, hkn⟩]
      rw [HC.out]
      have hne : ((ks.length : Int) != (fs.length : Int)) = false := by simp [hkn]
      have HKN : Hid (ks.length = fs.length) := hkn
      have HOK : Hid (∀ f, f ∈ fs → okF f = true) := hok
      have hz := hs.sizes
      clear hgd hok hkn
      obtain ⟨o, ho⟩ : ∃ o, crashL fs ks = o := ⟨_, rfl⟩
      have HO : Hid (crashL fs ks = o) := ho
      rw [ho]
      clear ho
      have lF : ∀ b, InB a fs.length b → b < w.heap.size := hs.lt
      have lK : ∀ b, InI a2 ks.length b → b < w.heap.size := hk.lt
      have HLF : Hid (∀ b, InB a fs.length b → b < w.heap.size) := lF
      have HLK : Hid (∀ b, InI a2 ks.length b → b < w.heap.size) := lK
      go_enter Try.func22, Try.ntmps22
      go_wp2_with fail
      refine (specGoodDisk_any _ _ _ _ (hs.below (hb2 _ _)) hl).mono ?_
      rintro r w1 ⟨hr, hB1⟩
      rw [HG.out] at hr; subst hr
      have BB := (hb2 _ _).trans (hB1.mono (hb2 _ _).size)
      obtain ⟨hc1, hf1⟩ := fbcell hB1
      have l1s := hB1.size
      simp only [World.size_alloc] at hc1 hf1 l1s
      have d0 : w1.cell? ⟨w.heap.size, 0, none⟩ = some (.slice a fs.length c) := (hc1 _ _ (by omega)).trans (by simp [go_sem])
      have r0 : w1.cell? ⟨w.heap.size + 1, 0, none⟩ = some (.slice none 0 0) := (hc1 _ _ (by omega)).trans (by simp [go_sem])
      have rf : w1.frozen? ⟨w.heap.size + 1, 0, none⟩ = false := (hf1 _ _ (by omega)).trans (by simp [go_sem])
      have HF1 := (hs.below (hb2 _ _)).below hB1
      have HK1 := (hk.below (hb2 _ _)).below hB1
      clear hB1 hc1 hf1 hs hk lF lK
      go_wp2_with fail
      refine (specOwn_any _ _ _ _ HF1 l1 l4).mono ?_
      rintro r w2 ⟨ao, co, rfl, H2, R2, hB2⟩
      obtain ⟨g, m, h, rfl, hg, hm, hR⟩ := R2.form (by omega)
      have HTo := FlTo.of_fls H2 hR hm
      have hgl := hR.lt
      obtain ⟨hc2, hf2⟩ := fbcell hB2
      have l2 := hB2.size
      have D2 : ∀ o, (w2.alloc o).cell? ⟨w.heap.size, 0, none⟩ = some (.slice a fs.length c) := fun o => (World.cell?_alloc_old w2 o ⟨w.heap.size, 0, none⟩ (by simp; omega)).trans ((hc2 _ _ (by omega)).trans d0)
      have ha2 : ∀ o, Below w2.heap.size w2 (w2.alloc o) := fun o => (Below.refl _ _).alloc (Nat.le_refl _) o
      have B2 := BB.trans (hB2.mono BB.size)
      have HST0 : Hid (∀ (x : Value), ((w2.alloc (.cells #[x] 24)).cell? ⟨w2.heap.size, 0, none⟩ = some x)) := fun x => by simp
      have HR0 : ∀ o, (w2.alloc o).rowIs g 54 m h := fun o => hR.of_block ((ha2 o).block g hgl)
      have HF2 : ∀ o, Fls (w2.alloc o) a fs := fun o => (HF1.below hB2).below (ha2 o)
      have HK2 : ∀ o, Ints (w2.alloc o) a2 ks := fun o => (HK1.below hB2).below (ha2 o)
      have RC2 : ∀ o, (w2.alloc o).cell? ⟨w.heap.size + 1, 0, none⟩ = some (.slice none 0 0) := fun o => (World.cell?_alloc_old w2 o ⟨w.heap.size + 1, 0, none⟩ (by simp; omega)).trans ((hc2 _ _ (by omega)).trans r0)
      have RF2 : ∀ o, (w2.alloc o).frozen? ⟨w.heap.size + 1, 0, none⟩ = false := fun o => (World.frozen?_alloc_old w2 o ⟨w.heap.size + 1, 0, none⟩ (by simp; omega)).trans ((hf2 _ _ (by omega)).trans rf)
      have BA : ∀ o, Below w.heap.size w (w2.alloc o) := fun o => B2.alloc B2.size o
      obtain ⟨O, hO⟩ : ∃ O, w2.heap.size = O := ⟨_, rfl⟩
      have HTo0 : Hid (FlTo h fs fs.length) := HTo
      clear hB2 hc2 hf2 HF1 HK1 BB d0 r0 rf R2 H2 hR HTo
      have hno : O ≠ g := by omega
      have hnr : w.heap.size + 1 ≠ g := by omega
      have hgw : w.heap.size ≤ g := by omega
      go_wp2_with fail
      go_loopw [27] (fun iv wr => ∃ (i : Nat) (ds : List Fl) (f' : Nat → Value), iv = .int .i64 (i : Int) ∧ i ≤ fs.length ∧ CrLeft fs ks i ds ∧ wr.rowIs g 54 m f' ∧ FlTo f' (ds ++ fs.drop i) fs.length ∧ wr.cell? ⟨O, 0, none⟩ = some (.slice (some ⟨g, 0, none⟩) fs.length co) ∧ Fls wr a fs ∧ Ints wr a2 ks ∧ wr.cell? ⟨w.heap.size + 1, 0, none⟩ = some (.slice none 0 0) ∧ wr.frozen? ⟨w.heap.size + 1, 0, none⟩ = false ∧ (∀ f, f ∈ ds → f.bytes.size ≤ maxLen) ∧ Below w.heap.size w wr) (fun iv _ => fs.length - (intOf iv).toNat)
      case atStart => exact ⟨0, [], h, rfl, Nat.zero_le _, cr_start _ _, HR0 _, by simpa using HTo0.out, by rw [← hO]; exact HST0.out _, HF2 _, HK2 _, RC2 _, RF2 _, (fun f hf => by simp at hf), BA _⟩
      case round =>
        clear HR0 HF2 HK2 RC2 RF2 BA D2 ha2
        obtain ⟨i, ds, f', rfl, hi, hcl, hR, hTo, oc, HF, HK, RC, RF, hdz, BB⟩ := hrel
        have HCL : Hid (CrLeft fs ks i ds) := hcl
        have hdl := hcl.1
        have HTO : Hid (FlTo f' (ds ++ fs.drop i) fs.length) := hTo
        have HDZ : Hid (∀ f, f ∈ ds → f.bytes.size ≤ maxLen) := hdz
        clear hcl hTo hdz
        by_cases hlt : i < fs.length
        · obtain ⟨f, hf⟩ := getFl hlt
          obtain ⟨z, hzi⟩ := getInt (zs := ks) (k := i) (by have := HKN.out; omega)
          obtain ⟨kb, ob, hae, c0, c1, -⟩ := HF i f hf
          obtain ⟨kb2, ob2, hae2, cm⟩ := HK i z hzi
          subst hae hae2
          have hfok := HOK.out f (List.mem_of_getElem? hf)
          obtain ⟨hws, hws2⟩ := wrap_len hfok
          have hiK : (i : Int) < (ks.length : Int) := by have := HKN.out; omega
          have hx6 : i + 1 ≤ fs.length := hlt
          have hxm : i * 2 < m ∧ i * 2 + 1 < m := by omega
          have CM : ∀ o, (wr.alloc o).cell? ⟨kb2, ob2 + i, none⟩ = some (.int .i64 z) := fun o => (World.cell?_alloc_old wr o ⟨kb2, ob2 + i, none⟩ (by have := lt_of_cell cm; simp; omega)).trans cm
          by_cases hz0 : z < 0
          · have hzd : decide (z < 0) = true := decide_eq_true hz0
            obtain rfl : o = none := by rw [← HO.out]; exact cr_bad HCL.out hf hzi (crash_lo hz0)
            clear hf hzi
            go_wp2_with fail
            go_quiet (fail)
            have hbq : Below wr.heap.size wr ((wr.alloc (.cells #[.string f.bytes, .int .i64 f.syn] 54)).drewN nq) := below_drewN ((Below.refl _ _).alloc (Nat.le_refl _) _) nq
            have v0 : ((wr.alloc (.cells #[.string f.bytes, .int .i64 f.syn] 54)).drewN nq).cell? ⟨wr.heap.size, 0, none⟩ = some (.string f.bytes) := by simp
            have v1 : ((wr.alloc (.cells #[.string f.bytes, .int .i64 f.syn] 54)).drewN nq).cell? ⟨wr.heap.size, 1, none⟩ = some (.int .i64 f.syn) := by simp
            have RCq := (hbq.cell (p := ⟨w.heap.size + 1, 0, none⟩) (lt_of_cell RC)).trans RC
            have RFq := (hbq.frozen (p := ⟨w.heap.size + 1, 0, none⟩) (lt_of_cell RC)).trans RF
            have BQ := BB.trans (hbq.mono BB.size)
            have cmq := (hbq.cell (p := ⟨kb2, ob2 + i, none⟩) (lt_of_cell cm)).trans cm
            have ocq := (hbq.cell (p := ⟨O, 0, none⟩) (lt_of_cell oc)).trans oc
            have hRq := hR.of_block (hbq.block g hR.lt)
            have HKq := HK.below hbq
            have HFq := HF.below hbq
            have lv := lt_of_cell v0
            generalize (wr.alloc (.cells #[.string f.bytes, .int .i64 f.syn] 54)).drewN nq = w5 at *
            clear hbq
            go_wp2
            refine bodyPost_ret (v := .tuple #[.agg #[.slice none 0 0], .bool false]) (by simp [results, Try.results22, go_sem, RCq]) rfl ⟨none, 0, rfl, Fls.nil _ _, .inl rfl, BQ.setCell (by simp) _⟩
          by_cases hz1 : (f.bytes.size : Int) - f.syn < z
          · have hzd : decide (z < 0) = false := decide_eq_false hz0
            obtain rfl : o = none := by rw [← HO.out]; exact cr_bad HCL.out hf hzi (crash_hi hz1)
            clear hf hzi
            go_wp2_with fail
            go_quiet (fail)
            have hbq : Below wr.heap.size wr ((wr.alloc (.cells #[.string f.bytes, .int .i64 f.syn] 54)).drewN nq) := below_drewN ((Below.refl _ _).alloc (Nat.le_refl _) _) nq
            have v0 : ((wr.alloc (.cells #[.string f.bytes, .int .i64 f.syn] 54)).drewN nq).cell? ⟨wr.heap.size, 0, none⟩ = some (.string f.bytes) := by simp
            have v1 : ((wr.alloc (.cells #[.string f.bytes, .int .i64 f.syn] 54)).drewN nq).cell? ⟨wr.heap.size, 1, none⟩ = some (.int .i64 f.syn) := by simp
            have RCq := (hbq.cell (p := ⟨w.heap.size + 1, 0, none⟩) (lt_of_cell RC)).trans RC
            have RFq := (hbq.frozen (p := ⟨w.heap.size + 1, 0, none⟩) (lt_of_cell RC)).trans RF
            have BQ := BB.trans (hbq.mono BB.size)
            have cmq := (hbq.cell (p := ⟨kb2, ob2 + i, none⟩) (lt_of_cell cm)).trans cm
            have ocq := (hbq.cell (p := ⟨O, 0, none⟩) (lt_of_cell oc)).trans oc
            have hRq := hR.of_block (hbq.block g hR.lt)
            have HKq := HK.below hbq
            have HFq := HF.below hbq
            have lv := lt_of_cell v0
            generalize (wr.alloc (.cells #[.string f.bytes, .int .i64 f.syn] 54)).drewN nq = w5 at *
            clear hbq
            go_wp2
            refine bodyPost_ret (v := .tuple #[.agg #[.slice none 0 0], .bool false]) (by simp [results, Try.results22, go_sem, RCq]) rfl ⟨none, 0, rfl, Fls.nil _ _, .inl rfl, BQ.setCell (by simp) _⟩
          · have hzd : decide (z < 0) = false := decide_eq_false hz0
            obtain ⟨n, hn, hcf, hnI, h0n, hwr, hwr2, hzn⟩ := crash_mid hfok hz0 hz1
            have HST : Hid (CrLeft fs ks (i + 1) (ds ++ [⟨f.bytes.extract 0 n, (n : Int)⟩])) := cr_step HCL.out hf hzi hcf
            have HSE : Hid ((ds ++ fs.drop i).set i ⟨f.bytes.extract 0 n, (n : Int)⟩ = (ds ++ [⟨f.bytes.extract 0 n, (n : Int)⟩]) ++ fs.drop (i + 1)) := cs_set hdl hf
            have HZN : Hid ((f.bytes.extract 0 n).size ≤ maxLen) := hzn
            clear hzn
            clear hf hzi hcf
            go_wp2_with fail
            go_quiet (fail)
            have hbq : Below wr.heap.size wr ((wr.alloc (.cells #[.string f.bytes, .int .i64 f.syn] 54)).drewN nq) := below_drewN ((Below.refl _ _).alloc (Nat.le_refl _) _) nq
            have v0 : ((wr.alloc (.cells #[.string f.bytes, .int .i64 f.syn] 54)).drewN nq).cell? ⟨wr.heap.size, 0, none⟩ = some (.string f.bytes) := by simp
            have v1 : ((wr.alloc (.cells #[.string f.bytes, .int .i64 f.syn] 54)).drewN nq).cell? ⟨wr.heap.size, 1, none⟩ = some (.int .i64 f.syn) := by simp
            have RCq := (hbq.cell (p := ⟨w.heap.size + 1, 0, none⟩) (lt_of_cell RC)).trans RC
            have RFq := (hbq.frozen (p := ⟨w.heap.size + 1, 0, none⟩) (lt_of_cell RC)).trans RF
            have BQ := BB.trans (hbq.mono BB.size)
            have cmq := (hbq.cell (p := ⟨kb2, ob2 + i, none⟩) (lt_of_cell cm)).trans cm
            have ocq := (hbq.cell (p := ⟨O, 0, none⟩) (lt_of_cell oc)).trans oc
            have hRq := hR.of_block (hbq.block g hR.lt)
            have HKq := HK.below hbq
            have HFq := HF.below hbq
            have lv := lt_of_cell v0
            generalize (wr.alloc (.cells #[.string f.bytes, .int .i64 f.syn] 54)).drewN nq = w5 at *
            clear hbq
            go_wp2_with fail
            go_quiet (fail)
            go_wp2_with fail
            have hb6 : Below w5.heap.size w5 (w5.drewN nq) := below_drewN (Below.refl _ _) nq
            have v0 := (hb6.cell (p := ⟨wr.heap.size, 0, none⟩) lv).trans v0
            have RC6 := (hb6.cell (p := ⟨w.heap.size + 1, 0, none⟩) (lt_of_cell RCq)).trans RCq
            have RF6 := (hb6.frozen (p := ⟨w.heap.size + 1, 0, none⟩) (lt_of_cell RCq)).trans RFq
            have B6 := BQ.trans (hb6.mono BQ.size)
            have oc6 := (hb6.cell (p := ⟨O, 0, none⟩) (lt_of_cell ocq)).trans ocq
            have hR6 := hRq.of_block (hb6.block g hRq.lt)
            have HK6 := HKq.below hb6
            have HF6 := HFq.below hb6
            generalize w5.drewN nq = w6 at *
            have g0 := hR6.cell (i := i * 2) hxm.1
            have g1 := hR6.cell (i := i * 2 + 1) hxm.2
            have gf := hR6.frozen
            have hset : ∀ b, b ≠ g → ((w6.setCell ⟨g, i * 2, none⟩ (.string (f.bytes.extract 0 n))).setCell ⟨g, i * 2 + 1, none⟩ (.int .i64 (n : Int))).drew.heap[b]? = w6.heap[b]? := fun b hb => by
              show ((w6.setCell ⟨g, i * 2, none⟩ (.string (f.bytes.extract 0 n))).setCell ⟨g, i * 2 + 1, none⟩ (.int .i64 (n : Int))).heap[b]? = _
              rw [Below.heap_setCell _ ⟨g, i * 2 + 1, none⟩ _ b (by simpa using hb), Below.heap_setCell w6 ⟨g, i * 2, none⟩ _ b (by simpa using hb)]
            have HRn : Hid (((w6.setCell ⟨g, i * 2, none⟩ (.string (f.bytes.extract 0 n))).setCell ⟨g, i * 2 + 1, none⟩ (.int .i64 (n : Int))).drew.rowIs g 54 m (fun j => if j = i * 2 + 1 then .int .i64 (n : Int) else if j = i * 2 then .string (f.bytes.extract 0 n) else f' j)) := row_drew ((hR6.set _ _).set _ _)
            have HTn : Hid (FlTo (fun j => if j = i * 2 + 1 then .int .i64 (n : Int) else if j = i * 2 then .string (f.bytes.extract 0 n) else f' j) ((ds ++ [⟨f.bytes.extract 0 n, (n : Int)⟩]) ++ fs.drop (i + 1)) fs.length) := by
              rw [← HSE.out]
              exact HTO.out.upd (by rw [if_neg (by omega), if_pos rfl]) (by rw [if_pos rfl]) (fun j h0 h1 => by rw [if_neg h1, if_neg h0])
            have HEn : Hid (((w6.setCell ⟨g, i * 2, none⟩ (.string (f.bytes.extract 0 n))).setCell ⟨g, i * 2 + 1, none⟩ (.int .i64 (n : Int))).drew.cell? ⟨O, 0, none⟩ = some (.slice (some ⟨g, 0, none⟩) fs.length co) ∧ Fls ((w6.setCell ⟨g, i * 2, none⟩ (.string (f.bytes.extract 0 n))).setCell ⟨g, i * 2 + 1, none⟩ (.int .i64 (n : Int))).drew (some ⟨kb, ob, none⟩) fs ∧ Ints ((w6.setCell ⟨g, i * 2, none⟩ (.string (f.bytes.extract 0 n))).setCell ⟨g, i * 2 + 1, none⟩ (.int .i64 (n : Int))).drew (some ⟨kb2, ob2, none⟩) ks ∧ ((w6.setCell ⟨g, i * 2, none⟩ (.string (f.bytes.extract 0 n))).setCell ⟨g, i * 2 + 1, none⟩ (.int .i64 (n : Int))).drew.cell? ⟨w.heap.size + 1, 0, none⟩ = some (.slice none 0 0) ∧ ((w6.setCell ⟨g, i * 2, none⟩ (.string (f.bytes.extract 0 n))).setCell ⟨g, i * 2 + 1, none⟩ (.int .i64 (n : Int))).drew.frozen? ⟨w.heap.size + 1, 0, none⟩ = false ∧ Below w.heap.size w ((w6.setCell ⟨g, i * 2, none⟩ (.string (f.bytes.extract 0 n))).setCell ⟨g, i * 2 + 1, none⟩ (.int .i64 (n : Int))).drew) :=
              ⟨(World.cell?_of_block (a := ⟨O, 0, none⟩) (hset O hno)).trans oc6, HF6.of_block (fun b hb => hset b (fun e => by have := HLF.out b hb; omega)), HK6.of_block (fun b hb => hset b (fun e => by have := HLK.out b hb; omega)), (World.cell?_of_block (a := ⟨w.heap.size + 1, 0, none⟩) (hset (w.heap.size + 1) hnr)).trans RC6, (World.frozen?_of_block (a := ⟨w.heap.size + 1, 0, none⟩) (hset (w.heap.size + 1) hnr)).trans RF6, ((B6.setCell hgw _).setCell hgw _).drew⟩
            have HDn : Hid (∀ y, y ∈ ds ++ [⟨f.bytes.extract 0 n, (n : Int)⟩] → y.bytes.size ≤ maxLen) := fun y hy => by
              rcases List.mem_append.1 hy with hy | hy
              · exact HDZ.out y hy
              · simp only [List.mem_singleton] at hy
                subst hy
                exact HZN.out
            clear hb6 hset HK6 HF6 B6 RC6 RF6 hR6
            go_region
            all_goals
              go_wp2_with fail
              go_roundw
              case rel => exact ⟨i + 1, ds ++ [⟨f.bytes.extract 0 n, (n : Int)⟩], _, by go_num, hx6, HST.out, HRn.out, HTn.out, HEn.out.1, HEn.out.2.1, HEn.out.2.2.1, HEn.out.2.2.2.1, HEn.out.2.2.2.2.1, HDn.out, HEn.out.2.2.2.2.2⟩
              case measure => simp [intOf]; omega
        · obtain rfl : i = fs.length := by omega
          obtain rfl : o = some ds := by rw [← HO.out]; exact cr_done HKN.out HCL.out
          have hto := HTO.out
          rw [List.drop_length, List.append_nil] at hto
          have HFd : Fls wr (some ⟨g, 0, none⟩) ds := Fls.of_row hR (by rw [hdl]; exact hm) (by rw [hdl]; exact hto) HDZ.out
          have HRe : Hid (∀ v, RowF (wr.setCell ⟨w.heap.size + 1, 0, none⟩ v) w.heap.size (some ⟨g, 0, none⟩) ds.length) := fun v => .inr ⟨g, m, f', rfl, hgw, by rw [hdl]; exact hm, World.rowIs.setOther hR (by simp; omega) v⟩
          have HFe : Hid (∀ v, Fls (wr.setCell ⟨w.heap.size + 1, 0, none⟩ v) (some ⟨g, 0, none⟩) ds) := fun v => Fls.of_row (World.rowIs.setOther hR (by simp; omega) v) (by rw [hdl]; exact hm) (by rw [hdl]; exact hto) HDZ.out
          have hltn : ¬ ((fs.length : Int) < (fs.length : Int)) := by omega
          clear HF HK HFd
          go_wp2
          first
            | exact bodyPost_ret (v := .tuple #[.agg #[.slice (some ⟨g, 0, none⟩) fs.length co], .bool true]) (by simp [results, Try.results22, go_sem, RC]) rfl ⟨some ⟨g, 0, none⟩, co, by simp [filesOf, hdl], HFe.out _, HRe.out _, BB.setCell (by simp) _⟩
            | exact bodyPost_ret (v := .tuple #[.agg #[.slice (some ⟨g, 0, none⟩) fs.length co], .bool true]) (by simp [results, Try.results22, go_sem, RC]) rfl ⟨some ⟨g, 0, none⟩, ⟨co, by simp [filesOf, hdl]⟩, HFe.out _, HRe.out _, BB.setCell (by simp) _⟩
    · rw [crashD_none (fun h => hkn h.2)]
      have hne : ((ks.length : Int) != (fs.length : Int)) = true := by simp; omega
      clear hgd hok
      go_enter Try.func22, Try.ntmps22
      go_wp2_with fail
      refine (specGoodDisk_any _ _ _ _ (hs.below (hb2 _ _)) hl).mono ?_
      rintro r w1 ⟨hr, hB1⟩
      rw [HG.out] at hr; subst hr
      have BB := (hb2 _ _).trans (hB1.mono (hb2 _ _).size)
      obtain ⟨hc1, hf1⟩ := fbcell hB1
      simp only [World.size_alloc] at hc1 hf1
      clear hB1
      go_wp2
      refine bodyPost_ret (v := .tuple #[.agg #[.slice none 0 0], .bool false]) (by simp [results, Try.results22, go_sem, hc1]) rfl ⟨none, 0, rfl, Fls.nil _ _, .inl rfl, BB.setCell (by simp) _⟩

end Go.Proofs.Ytljocofhefpapaa
