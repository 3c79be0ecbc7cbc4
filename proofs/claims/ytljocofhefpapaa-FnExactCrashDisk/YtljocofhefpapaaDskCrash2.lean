/-
  A crash: the contract of impl.CrashDisk.
-/
import Derived.Test.YtljocofhefpapaaDskCrash
import Derived.Test.YtljocofhefpapaaDskWithCra
namespace Go.Proofs.Ytljocofhefpapaa
open Go.RowKit

theorem cs_get {fs ds : List Fl} {i : Nat} {f : Fl} (hd : ds.length = i) (hf : fs[i]? = some f) : (ds ++ fs.drop i)[i]? = some f := by
  rw [List.getElem?_append_right (by omega), hd, Nat.sub_self, List.getElem?_drop]; exact hf

theorem cs_len {fs ds : List Fl} {i : Nat} (hd : ds.length = i) (hi : i ≤ fs.length) : (ds ++ fs.drop i).length = fs.length := by
  rw [List.length_append, List.length_drop]; omega

theorem cs_set {fs ds : List Fl} {i : Nat} {f x : Fl} (hd : ds.length = i) (hf : fs[i]? = some f) : (ds ++ fs.drop i).set i x = (ds ++ [x]) ++ fs.drop (i + 1) := by
  rw [dropFl hf, ← hd]
  simp

theorem cs_good {fs ds : List Fl} {i : Nat} {f x : Fl} (hd : ds.length = i) (hf : fs[i]? = some f) (hg : goodD (ds ++ fs.drop i) = true) (hx : okF x = true) : goodD ((ds ++ [x]) ++ fs.drop (i + 1)) = true := by
  obtain ⟨h1, h4, hok⟩ := goodD_t hg
  have hlt := (List.getElem?_eq_some_iff.1 hf).1
  have hl := cs_len hd (by omega : i ≤ fs.length)
  have hl2 := cs_len (ds := ds ++ [x]) (i := i + 1) (by simp [hd]) (by omega : i + 1 ≤ fs.length)
  simp only [goodD, Bool.and_eq_true, inB_t, List.all_eq_true]
  refine ⟨by omega, fun y hy => ?_⟩
  rw [← cs_set hd hf] at hy
  rcases List.mem_or_eq_of_mem_set hy with h | rfl
  · exact hok y h
  · exact hx

theorem cs_inF {cs : List Fl} {i : Nat} (hg : goodD cs = true) (hi : i < cs.length) : inF cs (i : Int) = true := by
  simp [inF, hg, hi]

/-- One file crashed. -/
theorem crashOne (m : Int) (fs ds : List Fl) (i : Nat) (f : Fl) (a : Option Addr) (c : Nat) (w : World) (hd : ds.length = i) (hf : fs[i]? = some f) (hg : goodD (ds ++ fs.drop i) = true) (hs : Fls w a (ds ++ fs.drop i)) :
    Calls Try.prog 38 #[.agg #[.slice a fs.length c], .int .i64 (i : Int), .func (.func 41) #[.int .i64 m] #[]] w fun r w' => ∃ a' c', (∀ x, crashF m f = some x → r = .returned (.tuple #[.agg #[.slice a' fs.length c'], .bool true]) ∧ Fls w' a' ((ds ++ [x]) ++ fs.drop (i + 1)) ∧ RowF w' w.heap.size a' fs.length) ∧ (crashF m f = none → r = .returned (.tuple #[.agg #[.slice a' 0 c'], .bool false])) ∧ Below w.heap.size w w' := by
  have hlt := (List.getElem?_eq_some_iff.1 hf).1
  have hl := cs_len hd (by omega : i ≤ fs.length)
  have h4 := (goodD_t hg).2.1
  have H := withCra_any m (crashF m) a c (ds ++ fs.drop i) (i : Int) w hs (by unfold maxLen; omega) (fun f w hok => left_any m f w hok) (fun f f' hok h => by have := (crashF_ok h hok).2; omega)
  rw [hl] at H
  refine H.mono ?_
  rintro r w' ⟨a', c', hr, hF, hR, hB⟩
  have hc := chg_some (g := crashF m) (cs_inF hg (by omega)) (cs_get hd hf)
  refine ⟨a', c', fun x hx => ?_, fun hn => ?_, hB⟩
  · rw [hx] at hc
    have e : filesOf (chg (ds ++ fs.drop i) (i : Int) (crashF m)) = (ds ++ [x]) ++ fs.drop (i + 1) := by rw [hc, ← cs_set hd hf]; rfl
    have hl2 : ((ds ++ [x]) ++ fs.drop (i + 1)).length = fs.length := cs_len (by simp [hd]) (by omega)
    rw [e] at hr hF hR
    rw [hl2] at hr hR
    rw [hc] at hr
    exact ⟨hr, hF, hR⟩
  · rw [hn] at hc
    rw [hc] at hr
    exact hr

set_option maxRecDepth 100000 in
set_option maxHeartbeats 4000000 in
theorem implCrash_any (a : Option Addr) (c : Nat) (fs : List Fl) (a2 : Option Addr) (c2 : Nat) (ks : List Int) (w : World) (hs : Fls w a fs) (hl : fs.length ≤ maxLen) (hk : Ints w a2 ks) :
    Calls Try.prog 24 #[.agg #[.slice a fs.length c], .slice a2 ks.length c2] w fun r w' => ∃ a' c', r = .returned (.tuple #[.agg #[.slice a' (filesOf (crashD fs ks)).length c'], .bool (crashD fs ks).isSome]) ∧ Fls w' a' (filesOf (crashD fs ks)) ∧ RowF w' w.heap.size a' (filesOf (crashD fs ks)).length ∧ Below w.heap.size w w' := by
  have hb2 : ∀ x y, Below w.heap.size w ((w.alloc x).alloc y) := fun _ _ => ((Below.refl _ _).alloc (Nat.le_refl _) _).alloc (by simp) _
  have hmf : ∀ (fn : Fn) (first cap : Array Value) (w : World), (Instr.makeFunc fn first cap).run Try.prog w = .ok (.func fn first cap) w := fun _ _ _ _ => rfl
  have hl' := hl
  unfold maxLen at hl'
  obtain ⟨gd, hgd⟩ : ∃ gd, goodD fs = gd := ⟨_, rfl⟩
  have HG : Hid (goodD fs = gd) := hgd
  cases gd with
  | false =>
    rw [crashD_none (fun h => by rw [hgd] at h; exact absurd h.1 (by simp))]
    clear hgd
    go_enter Try.func24, Try.ntmps24
    go_wp2_with fail
    refine (implGoodDisk_any _ _ _ _ (hs.below (hb2 _ _)) hl).mono ?_
    rintro r w1 ⟨hr, hB1⟩
    rw [HG.out] at hr; subst hr
    have BB := (hb2 _ _).trans (hB1.mono (hb2 _ _).size)
    obtain ⟨hc1, hf1⟩ := fbcell hB1
    simp only [World.size_alloc] at hc1 hf1
    clear hB1
    go_wp2
    refine bodyPost_ret (v := .tuple #[.agg #[.slice none 0 0], .bool false]) (by simp [results, Try.results24, go_sem, hc1]) rfl ⟨none, 0, rfl, Fls.nil _ _, .inl rfl, BB.setCell (by simp) _⟩
  | true =>
    obtain ⟨l1, l4, hok⟩ := goodD_t hgd
    by_cases hkn : ks.length = fs.length
    · have HC : Hid (crashD fs ks = crashL fs ks) := by show _ = _; unfold crashD; rw [if_pos ⟨hgd, hkn⟩]
      rw [HC.out]
      have hne : ((ks.length : Int) != (fs.length : Int)) = false := by simp [hkn]
      have HKN : Hid (ks.length = fs.length) := hkn
      have HOK : Hid (∀ f, f ∈ fs → okF f = true) := hok
      clear hgd hok hkn
      obtain ⟨o, ho⟩ : ∃ o, crashL fs ks = o := ⟨_, rfl⟩
      have HO : Hid (crashL fs ks = o) := ho
      rw [ho]
      clear ho
      go_enter Try.func24, Try.ntmps24
      go_wp2_with fail
      refine (implGoodDisk_any _ _ _ _ (hs.below (hb2 _ _)) hl).mono ?_
      rintro r w1 ⟨hr, hB1⟩
      rw [HG.out] at hr; subst hr
      have BB := (hb2 _ _).trans (hB1.mono (hb2 _ _).size)
      obtain ⟨hc1, hf1⟩ := fbcell hB1
      have l1s := hB1.size
      simp only [World.size_alloc] at hc1 hf1 l1s
      have d0 : w1.cell? ⟨w.heap.size, 0, none⟩ = some (.slice a fs.length c) := (hc1 _ _ (by omega)).trans (by simp [go_sem])
      have df : w1.frozen? ⟨w.heap.size, 0, none⟩ = false := (hf1 _ _ (by omega)).trans (by simp [go_sem])
      have r0 : w1.cell? ⟨w.heap.size + 1, 0, none⟩ = some (.slice none 0 0) := (hc1 _ _ (by omega)).trans (by simp [go_sem])
      have rf : w1.frozen? ⟨w.heap.size + 1, 0, none⟩ = false := (hf1 _ _ (by omega)).trans (by simp [go_sem])
      have lK0 : ∀ b, InI a2 ks.length b → b < w.heap.size := hk.lt
      have HF1 := (hs.below (hb2 _ _)).below hB1
      have HK1 := (hk.below (hb2 _ _)).below hB1
      clear hB1 hc1 hf1 hs hk
      go_wp2_with fail
      go_loopw [24] (fun iv wr => ∃ (i : Nat) (ds : List Fl) (ai : Option Addr) (ci : Nat), iv = .int .i64 (i : Int) ∧ i ≤ fs.length ∧ CrLeft fs ks i ds ∧ goodD (ds ++ fs.drop i) = true ∧ wr.cell? ⟨w.heap.size, 0, none⟩ = some (.slice ai fs.length ci) ∧ wr.frozen? ⟨w.heap.size, 0, none⟩ = false ∧ Fls wr ai (ds ++ fs.drop i) ∧ (i = 0 ∨ RowF wr (w.heap.size + 2) ai fs.length) ∧ wr.cell? ⟨w.heap.size + 1, 0, none⟩ = some (.slice none 0 0) ∧ wr.frozen? ⟨w.heap.size + 1, 0, none⟩ = false ∧ Ints wr a2 ks ∧ (∀ b, InI a2 ks.length b → b < w.heap.size) ∧ Below w.heap.size w wr) (fun iv _ => fs.length - (intOf iv).toNat)
      case atStart => exact ⟨0, [], a, c, rfl, Nat.zero_le _, cr_start _ _, by simpa using HG.out, d0, df, by simpa using HF1, .inl rfl, r0, rf, HK1, lK0, BB⟩
      case round =>
        clear d0 df r0 rf HF1 HK1 BB
        obtain ⟨i, ds, ai, ci, rfl, hi, hcl, hgi, d0, df, HF, HRow, r0, rf, HK, lK, BB⟩ := hrel
        have HCL : Hid (CrLeft fs ks i ds) := hcl
        have hdl := hcl.1
        have HGI : Hid (goodD (ds ++ fs.drop i) = true) := hgi
        clear hcl hgi
        by_cases hlt : i < fs.length
        · obtain ⟨f, hf⟩ := getFl hlt
          obtain ⟨m, hm⟩ := getInt (zs := ks) (k := i) (by have := HKN.out; omega)
          obtain ⟨kb, ob, rfl, cm⟩ := HK i m hm
          have HOne := crashOne m fs ds i f ai ci wr hdl hf HGI.out HF
          have lR := lt_of_cell r0
          have hiK : (i : Int) < (ks.length : Int) := by have := HKN.out; omega
          have hx6 : i + 1 ≤ fs.length := hlt
          have HHF : Hid (fs[i]? = some f) := hf
          have HHM : Hid (ks[i]? = some m) := hm
          cases hc : crashF m f with
          | none =>
            obtain rfl : o = none := by rw [← HO.out]; exact cr_bad HCL.out hf hm hc
            have HCF : Hid (crashF m f = none) := hc
            clear hf hm hc HF HRow
            go_wp2_with fail
            refine HOne.mono ?_
            rintro r w2 ⟨a', c', -, hno, hB2⟩
            have hr := hno HCF.out
            subst hr
            obtain ⟨hc2, hf2⟩ := fbcell hB2
            have l2 := hB2.size
            have R0 : ∀ o, (w2.alloc o).cell? ⟨w.heap.size + 1, 0, none⟩ = some (.slice none 0 0) := fun o => (World.cell?_alloc_old w2 o ⟨w.heap.size + 1, 0, none⟩ (by simp; omega)).trans ((hc2 _ _ lR).trans r0)
            have RF : ∀ o, (w2.alloc o).frozen? ⟨w.heap.size + 1, 0, none⟩ = false := fun o => (World.frozen?_alloc_old w2 o ⟨w.heap.size + 1, 0, none⟩ (by simp; omega)).trans ((hf2 _ _ lR).trans rf)
            have B2 := BB.trans (hB2.mono BB.size)
            have BA : ∀ o, Below w.heap.size w (w2.alloc o) := fun o => B2.alloc B2.size o
            clear hB2 hc2 hf2 hno HOne B2
            go_wp2
            refine bodyPost_ret (v := .tuple #[.agg #[.slice none 0 0], .bool false]) (by simp [results, Try.results24, go_sem, R0]) rfl ⟨none, 0, rfl, Fls.nil _ _, .inl rfl, (BA _).setCell (by simp) _⟩
          | some x =>
            have HST : Hid (CrLeft fs ks (i + 1) (ds ++ [x])) := cr_step HCL.out hf hm hc
            have HGN : Hid (goodD ((ds ++ [x]) ++ fs.drop (i + 1)) = true) := cs_good hdl hf HGI.out (crashF_ok hc (HOK.out f (List.mem_of_getElem? hf))).1
            have HCF : Hid (crashF m f = some x) := hc
            clear hf hm hc HF HRow
            go_wp2_with fail
            refine HOne.mono ?_
            rintro r w2 ⟨a', c', hso, -, hB2⟩
            obtain ⟨rfl, HF2, HR2⟩ := hso x HCF.out
            obtain ⟨hc2, hf2⟩ := fbcell hB2
            have l2 := hB2.size
            have lD : w.heap.size < wr.heap.size := by omega
            have D2 := (hc2 _ _ lD).trans d0
            have F2 := (hf2 _ _ lD).trans df
            have DA : ∀ o, (w2.alloc o).cell? ⟨w.heap.size, 0, none⟩ = some (.slice ai fs.length ci) := fun o => (World.cell?_alloc_old w2 o ⟨w.heap.size, 0, none⟩ (by simp; omega)).trans D2
            have FA : ∀ o, (w2.alloc o).frozen? ⟨w.heap.size, 0, none⟩ = false := fun o => (World.frozen?_alloc_old w2 o ⟨w.heap.size, 0, none⟩ (by simp; omega)).trans F2
            have B2 := BB.trans (hB2.mono BB.size)
            have hoth : ∀ b v o, b ≠ w.heap.size → b < w2.heap.size → ((w2.alloc o).setCell ⟨w.heap.size, 0, none⟩ v).heap[b]? = w2.heap[b]? := fun b v o hb hbl => by
              rw [Below.heap_setCell _ ⟨w.heap.size, 0, none⟩ v b (by simpa using hb), ((Below.refl w2.heap.size w2).alloc (Nat.le_refl _) o).block b hbl]
            have HE : Hid (∀ o, ((w2.alloc o).setCell ⟨w.heap.size, 0, none⟩ (.slice a' fs.length c')).cell? ⟨w.heap.size, 0, none⟩ = some (.slice a' fs.length c') ∧ ((w2.alloc o).setCell ⟨w.heap.size, 0, none⟩ (.slice a' fs.length c')).frozen? ⟨w.heap.size, 0, none⟩ = false ∧ Fls ((w2.alloc o).setCell ⟨w.heap.size, 0, none⟩ (.slice a' fs.length c')) a' ((ds ++ [x]) ++ fs.drop (i + 1)) ∧ RowF ((w2.alloc o).setCell ⟨w.heap.size, 0, none⟩ (.slice a' fs.length c')) (w.heap.size + 2) a' fs.length ∧ ((w2.alloc o).setCell ⟨w.heap.size, 0, none⟩ (.slice a' fs.length c')).cell? ⟨w.heap.size + 1, 0, none⟩ = some (.slice none 0 0) ∧ ((w2.alloc o).setCell ⟨w.heap.size, 0, none⟩ (.slice a' fs.length c')).frozen? ⟨w.heap.size + 1, 0, none⟩ = false ∧ Ints ((w2.alloc o).setCell ⟨w.heap.size, 0, none⟩ (.slice a' fs.length c')) (some ⟨kb, ob, none⟩) ks ∧ Below w.heap.size w ((w2.alloc o).setCell ⟨w.heap.size, 0, none⟩ (.slice a' fs.length c'))) := fun o => by
              have hl2 : ((ds ++ [x]) ++ fs.drop (i + 1)).length = fs.length := cs_len (by simp [hdl]) hx6
              refine ⟨?_, ?_, HF2.of_block (fun b hb => ?_), (HR2.of_block (fun b hb => ?_)).mono (by omega), ?_, ?_, (HK.below hB2).of_block (fun b hb => ?_), (B2.alloc B2.size o).setCell (by simp) _⟩
              · simp [go_sem, DA]
              · simp [go_sem, FA]
              · rw [hl2] at hb
                have := HR2.lt hb
                exact hoth b _ _ (by omega) this.2
              · have := HR2.lt hb
                exact hoth b _ _ (by omega) this.2
              · exact (World.cell?_of_block (a := ⟨w.heap.size + 1, 0, none⟩) (hoth (w.heap.size + 1) _ _ (by omega) (by omega))).trans ((hc2 _ _ lR).trans r0)
              · exact (World.frozen?_of_block (a := ⟨w.heap.size + 1, 0, none⟩) (hoth (w.heap.size + 1) _ _ (by omega) (by omega))).trans ((hf2 _ _ lR).trans rf)
              · have := lK b hb
                exact hoth b _ _ (by omega) (by omega)
            clear hso HF2 HR2 hc2 hf2 hB2 B2 hoth HOne
            go_wp2_with fail
            go_roundw
            case rel => exact ⟨i + 1, ds ++ [x], a', c', by go_num, hx6, HST.out, HGN.out, (HE.out _).1, (HE.out _).2.1, (HE.out _).2.2.1, .inr (HE.out _).2.2.2.1, (HE.out _).2.2.2.2.1, (HE.out _).2.2.2.2.2.1, (HE.out _).2.2.2.2.2.2.1, lK, (HE.out _).2.2.2.2.2.2.2⟩
            case measure => simp [intOf]; omega
        · obtain rfl : i = fs.length := by omega
          obtain rfl : o = some ds := by rw [← HO.out]; exact cr_done HKN.out HCL.out
          rw [List.drop_length, List.append_nil] at HF
          have hRow := HRow.resolve_left (by omega)
          have hiK : ¬ ((fs.length : Int) < (ks.length : Int)) := by have := HKN.out; omega
          have HFe : Hid (∀ v, Fls (wr.setCell ⟨w.heap.size + 1, 0, none⟩ v) ai ds) := fun v => HF.of_block (fun b hb => by
            rw [hdl] at hb
            have := (hRow.lt hb).1
            exact Below.heap_setCell _ ⟨w.heap.size + 1, 0, none⟩ v b (by simp; omega))
          have HRe : Hid (∀ v, RowF (wr.setCell ⟨w.heap.size + 1, 0, none⟩ v) w.heap.size ai ds.length) := fun v => by
            rw [hdl]
            exact (hRow.of_block (fun b hb => by
              have := (hRow.lt hb).1
              exact Below.heap_setCell _ ⟨w.heap.size + 1, 0, none⟩ v b (by simp; omega))).mono (by omega)
          clear HF HRow hRow HK
          go_wp2
          refine bodyPost_ret (v := .tuple #[.agg #[.slice ai fs.length ci], .bool true]) (by simp [results, Try.results24, go_sem, r0]) rfl ⟨ai, ⟨ci, by simp [filesOf, hdl]⟩, HFe.out _, HRe.out _, BB.setCell (by simp) _⟩
    · rw [crashD_none (fun h => hkn h.2)]
      have hne : ((ks.length : Int) != (fs.length : Int)) = true := by simp; omega
      clear hgd hok
      go_enter Try.func24, Try.ntmps24
      go_wp2_with fail
      refine (implGoodDisk_any _ _ _ _ (hs.below (hb2 _ _)) hl).mono ?_
      rintro r w1 ⟨hr, hB1⟩
      rw [HG.out] at hr; subst hr
      have BB := (hb2 _ _).trans (hB1.mono (hb2 _ _).size)
      obtain ⟨hc1, hf1⟩ := fbcell hB1
      simp only [World.size_alloc] at hc1 hf1
      clear hB1
      go_wp2
      refine bodyPost_ret (v := .tuple #[.agg #[.slice none 0 0], .bool false]) (by simp [results, Try.results24, go_sem, hc1]) rfl ⟨none, 0, rfl, Fls.nil _ _, .inl rfl, BB.setCell (by simp) _⟩

end Go.Proofs.Ytljocofhefpapaa
