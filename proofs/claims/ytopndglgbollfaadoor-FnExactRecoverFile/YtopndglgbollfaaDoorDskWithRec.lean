/-
  impl.withFile, handed (impl.whole).kept: one file of a good disk turned, all files copied.
-/
import Derived.Test.YtopndglgbollfaaDoorDskLoopD
namespace Go.Proofs.YtopndglgbollfaaDoor
open Go.RowKit

set_option maxRecDepth 100000 in
set_option maxHeartbeats 4000000 in
theorem withRec_any (at_ : Int) (gf : Fl → Option Fl) (a : Option Addr) (c : Nat) (fs : List Fl) (k : Int) (w : World) (hs : Fls w a fs) (hl : fs.length ≤ maxLen)
    (hC0 : ∀ (f : Fl) (u : World), okF f = true → fs[k.toNat]? = some f → Below w.heap.size w u → Calls Tryd.prog 25 #[.int .i64 at_, .agg #[.string f.bytes, .int .i64 f.syn]] u fun r w' => ∃ f' : Fl, r = .returned (.tuple #[.agg #[.string f'.bytes, .int .i64 f'.syn], .bool (gf f).isSome]) ∧ (∀ x, gf f = some x → x = f') ∧ Below u.heap.size u w')
    (hgz : ∀ f f', okF f = true → gf f = some f' → f'.bytes.size ≤ 100000) :
    Calls Tryd.prog 24 #[.agg #[.slice a fs.length c], .int .i64 k, .func (.func 25) #[.int .i64 at_] #[]] w fun r w' => ∃ a' c', r = .returned (.tuple #[.agg #[.slice a' (filesOf (chg fs k gf)).length c'], .bool (chg fs k gf).isSome]) ∧ Fls w' a' (filesOf (chg fs k gf)) ∧ RowF w' w.heap.size a' (filesOf (chg fs k gf)).length ∧ Below w.heap.size w w' := by
  have ha : ∀ (u : World) o, Below u.heap.size u (u.alloc o) := fun u o => (Below.refl _ _).alloc (Nat.le_refl _) o
  have hb2 : ∀ x y, Below w.heap.size w ((w.alloc x).alloc y) := fun _ _ => ((Below.refl _ _).alloc (Nat.le_refl _) _).alloc (by simp) _
  have HC : Hid (∀ (f : Fl) (u : World), okF f = true → fs[k.toNat]? = some f → Below w.heap.size w u → Calls Tryd.prog 25 #[.int .i64 at_, .agg #[.string f.bytes, .int .i64 f.syn]] u fun r w' => ∃ f' : Fl, r = .returned (.tuple #[.agg #[.string f'.bytes, .int .i64 f'.syn], .bool (gf f).isSome]) ∧ (∀ x, gf f = some x → x = f') ∧ Below u.heap.size u w') := hC0
  have HGZ : Hid (∀ f f', okF f = true → gf f = some f' → f'.bytes.size ≤ 100000) := hgz
  clear hC0 hgz
  obtain ⟨gd, hgd⟩ : ∃ gd, inF fs k = gd := ⟨_, rfl⟩
  have HG : Hid (inF fs k = gd) := hgd
  clear hgd
  cases gd with
  | false =>
    rw [chg_none HG.out]
    go_enter Tryd.func24, Tryd.ntmps24
    go_wp2_with fail
    refine (fileOf_any _ _ _ _ _ (hs.below (hb2 _ _)) hl).mono ?_
    rintro r w1 ⟨f, rfl, -, hB1⟩
    rw [HG.out]
    have BB := (hb2 _ _).trans (hB1.mono (hb2 _ _).size)
    obtain ⟨hc1, hf1⟩ := fbcell hB1
    have l1 := hB1.size
    simp only [World.size_alloc] at hc1 hf1 l1
    have r0 : ∀ o, (w1.alloc o).cell? ⟨w.heap.size + 1, 0, none⟩ = some (.slice none 0 0) := fun o => (World.cell?_alloc_old _ o ⟨w.heap.size + 1, 0, none⟩ (by simp; omega)).trans ((hc1 _ _ (by omega)).trans (by simp [go_sem]))
    have rf : ∀ o, (w1.alloc o).frozen? ⟨w.heap.size + 1, 0, none⟩ = false := fun o => (World.frozen?_alloc_old _ o ⟨w.heap.size + 1, 0, none⟩ (by simp; omega)).trans ((hf1 _ _ (by omega)).trans (by simp [go_sem]))
    clear hB1 hc1 hf1
    go_wp2
    refine bodyPost_ret (v := .tuple #[.agg #[.slice none 0 0], .bool false]) (by simp [results, Tryd.results24, go_sem, r0]) rfl ⟨none, 0, rfl, Fls.nil _ _, .inl rfl, (BB.alloc BB.size _).setCell (by simp) _⟩
  | true =>
    obtain ⟨hgD, hk0, hk1⟩ := inF_t HG.out
    obtain ⟨i, rfl⟩ := Int.eq_ofNat_of_zero_le hk0
    obtain ⟨l1, l4, hok⟩ := goodD_t hgD
    have hz := hs.sizes
    obtain ⟨f, hfi0⟩ := getFl (fs := fs) (k := i) (by omega)
    have HF0 : Hid (fs[i]? = some f) := hfi0
    have hfok := hok f (List.mem_of_getElem? hfi0)
    have hoz : ∀ f, f ∈ fs → f.bytes.size ≤ 400 := fun f h => (okF_parts (hok f h)).1
    have HOZ : Hid (∀ f, f ∈ fs → f.bytes.size ≤ 400) := hoz
    clear hok hgD hfi0 hoz
    obtain ⟨o, ho⟩ : ∃ o, gf f = o := ⟨_, rfl⟩
    have HO : Hid (gf f = o) := ho
    cases o with
    | none =>
      have HR : Hid (chg fs (i : Int) gf = none) := by show _ = _; rw [chg_some HG.out HF0.out, ho]; rfl
      clear ho
      rw [HR.out]
      go_enter Tryd.func24, Tryd.ntmps24
      go_wp2_with fail
      refine (fileOf_any _ _ _ _ _ (hs.below (hb2 _ _)) hl).mono ?_
      rintro r w1 ⟨fx, rfl, hfi, hB1⟩
      rw [HG.out]
      have hfi := hfi HG.out
      rw [Int.toNat_natCast, HF0.out] at hfi
      obtain rfl : f = fx := by simpa using hfi
      have BB := (hb2 _ _).trans (hB1.mono (hb2 _ _).size)
      obtain ⟨hc1, hf1⟩ := fbcell hB1
      have HA := (hs.below (hb2 _ _)).below hB1
      have l1s := hB1.size
      simp only [World.size_alloc] at hc1 hf1 l1s
      have a0 : w1.cell? ⟨w.heap.size, 0, none⟩ = some (.slice a fs.length c) := (hc1 _ _ (by omega)).trans (by simp [go_sem])
      have r0 : w1.cell? ⟨w.heap.size + 1, 0, none⟩ = some (.slice none 0 0) := (hc1 _ _ (by omega)).trans (by simp [go_sem])
      have rf : w1.frozen? ⟨w.heap.size + 1, 0, none⟩ = false := (hf1 _ _ (by omega)).trans (by simp [go_sem])
      clear hB1 hc1 hf1 hfi
      go_wp2_with fail
      refine (HC.out f _ hfok (by rw [Int.toNat_natCast]; exact HF0.out) (BB.alloc BB.size _)).mono ?_
      rintro r w2 ⟨f', rfl, hf', hB2⟩
      rw [HO.out]
      have BB2 := (BB.alloc BB.size _).trans (hB2.mono (by have := BB.size; simp; omega))
      obtain ⟨hc2, hf2⟩ := fbcell hB2
      have l2s := hB2.size
      simp only [World.size_alloc] at hc2 hf2 l2s
      have HA := (HA.below (ha _ _)).below hB2
      have a0 : w2.cell? ⟨w.heap.size, 0, none⟩ = some (.slice a fs.length c) := (hc2 _ _ (by omega)).trans ((World.cell?_alloc_old _ _ ⟨w.heap.size, 0, none⟩ (by simp; omega)).trans a0)
      have r0 : w2.cell? ⟨w.heap.size + 1, 0, none⟩ = some (.slice none 0 0) := (hc2 _ _ (by omega)).trans ((World.cell?_alloc_old _ _ ⟨w.heap.size + 1, 0, none⟩ (by simp; omega)).trans r0)
      have rf : w2.frozen? ⟨w.heap.size + 1, 0, none⟩ = false := (hf2 _ _ (by omega)).trans ((World.frozen?_alloc_old _ _ ⟨w.heap.size + 1, 0, none⟩ (by simp; omega)).trans rf)
      have t0 : w2.cell? ⟨w1.heap.size, 0, none⟩ = some (.string f.bytes) := (hc2 _ _ (by omega)).trans (by simp [go_sem])
      have t1 : w2.cell? ⟨w1.heap.size, 1, none⟩ = some (.int .i64 f.syn) := (hc2 _ _ (by omega)).trans (by simp [go_sem])
      have tf : ∀ j, w2.frozen? ⟨w1.heap.size, j, none⟩ = false := fun j => (hf2 _ _ (by omega)).trans (by simp [go_sem])
      clear hB2 hc2 hf2 BB
      have R0 : ∀ x y, ((w2.setCell ⟨w1.heap.size, 0, none⟩ x).setCell ⟨w1.heap.size, 1, none⟩ y).cell? ⟨w.heap.size + 1, 0, none⟩ = some (.slice none 0 0) := fun x y => (World.cell?_of_block (a := ⟨w.heap.size + 1, 0, none⟩) ((Below.heap_setCell _ ⟨w1.heap.size, 1, none⟩ y _ (by simp; omega)).trans (Below.heap_setCell w2 ⟨w1.heap.size, 0, none⟩ x _ (by simp; omega)))).trans r0
      have RF : ∀ x y, ((w2.setCell ⟨w1.heap.size, 0, none⟩ x).setCell ⟨w1.heap.size, 1, none⟩ y).frozen? ⟨w.heap.size + 1, 0, none⟩ = false := fun x y => (World.frozen?_of_block (a := ⟨w.heap.size + 1, 0, none⟩) ((Below.heap_setCell _ ⟨w1.heap.size, 1, none⟩ y _ (by simp; omega)).trans (Below.heap_setCell w2 ⟨w1.heap.size, 0, none⟩ x _ (by simp; omega)))).trans rf
      go_wp2
      refine bodyPost_ret (v := .tuple #[.agg #[.slice none 0 0], .bool false]) (by simp [results, Tryd.results24, go_sem, R0]) rfl ⟨none, 0, rfl, Fls.nil _ _, .inl rfl, ((BB2.setCell (by simp; omega) _).setCell (by simp; omega) _).setCell (by simp) _⟩
    | some x =>
      have HR : Hid (chg fs (i : Int) gf = some (fs.set i x)) := by show _ = _; rw [chg_some HG.out HF0.out, ho]; rfl
      have hxz := HGZ.out f x hfok ho
      clear ho
      rw [HR.out]
      go_enter Tryd.func24, Tryd.ntmps24
      go_wp2_with fail
      refine (fileOf_any _ _ _ _ _ (hs.below (hb2 _ _)) hl).mono ?_
      rintro r w1 ⟨fx, rfl, hfi, hB1⟩
      rw [HG.out]
      have hfi := hfi HG.out
      rw [Int.toNat_natCast, HF0.out] at hfi
      obtain rfl : f = fx := by simpa using hfi
      have BB := (hb2 _ _).trans (hB1.mono (hb2 _ _).size)
      obtain ⟨hc1, hf1⟩ := fbcell hB1
      have HA := (hs.below (hb2 _ _)).below hB1
      have l1s := hB1.size
      simp only [World.size_alloc] at hc1 hf1 l1s
      have a0 : w1.cell? ⟨w.heap.size, 0, none⟩ = some (.slice a fs.length c) := (hc1 _ _ (by omega)).trans (by simp [go_sem])
      have r0 : w1.cell? ⟨w.heap.size + 1, 0, none⟩ = some (.slice none 0 0) := (hc1 _ _ (by omega)).trans (by simp [go_sem])
      have rf : w1.frozen? ⟨w.heap.size + 1, 0, none⟩ = false := (hf1 _ _ (by omega)).trans (by simp [go_sem])
      clear hB1 hc1 hf1 hfi
      go_wp2_with fail
      refine (HC.out f _ hfok (by rw [Int.toNat_natCast]; exact HF0.out) (BB.alloc BB.size _)).mono ?_
      rintro r w2 ⟨f', rfl, hf', hB2⟩
      rw [HO.out]
      have BB2 := (BB.alloc BB.size _).trans (hB2.mono (by have := BB.size; simp; omega))
      obtain ⟨hc2, hf2⟩ := fbcell hB2
      have l2s := hB2.size
      simp only [World.size_alloc] at hc2 hf2 l2s
      have HA := (HA.below (ha _ _)).below hB2
      have a0 : w2.cell? ⟨w.heap.size, 0, none⟩ = some (.slice a fs.length c) := (hc2 _ _ (by omega)).trans ((World.cell?_alloc_old _ _ ⟨w.heap.size, 0, none⟩ (by simp; omega)).trans a0)
      have r0 : w2.cell? ⟨w.heap.size + 1, 0, none⟩ = some (.slice none 0 0) := (hc2 _ _ (by omega)).trans ((World.cell?_alloc_old _ _ ⟨w.heap.size + 1, 0, none⟩ (by simp; omega)).trans r0)
      have rf : w2.frozen? ⟨w.heap.size + 1, 0, none⟩ = false := (hf2 _ _ (by omega)).trans ((World.frozen?_alloc_old _ _ ⟨w.heap.size + 1, 0, none⟩ (by simp; omega)).trans rf)
      have t0 : w2.cell? ⟨w1.heap.size, 0, none⟩ = some (.string f.bytes) := (hc2 _ _ (by omega)).trans (by simp [go_sem])
      have t1 : w2.cell? ⟨w1.heap.size, 1, none⟩ = some (.int .i64 f.syn) := (hc2 _ _ (by omega)).trans (by simp [go_sem])
      have tf : ∀ j, w2.frozen? ⟨w1.heap.size, j, none⟩ = false := fun j => (hf2 _ _ (by omega)).trans (by simp [go_sem])
      clear hB2 hc2 hf2 BB
      obtain rfl := hf' x HO.out
      clear hf'
      obtain ⟨i0, hi, hz0, hz1, hz2⟩ := info_parts Tryd.infoFile
      have hmk := fun (u : World) => run_make (P := Tryd.prog) u 26 45 i0 _ Tryd.underlying26 hi hz0 .i64 .i64 0 (fs.length : Int) (by omega) (by omega) (by rw [hz2]; omega) (by omega)
      rw [hz1] at hmk
      simp only [Int.toNat_natCast, Int.toNat_zero] at hmk
      obtain ⟨w3, hw3⟩ : ∃ w3, (w2.setCell ⟨w1.heap.size, 0, none⟩ (.string x.bytes)).setCell ⟨w1.heap.size, 1, none⟩ (.int .i64 x.syn) = w3 := ⟨_, rfl⟩
      have s3 : w3.heap.size = w2.heap.size := by rw [← hw3]; simp
      have hoth : ∀ b, b ≠ w1.heap.size → w3.heap[b]? = w2.heap[b]? := fun b hb => by
        rw [← hw3, Below.heap_setCell _ ⟨w1.heap.size, 1, none⟩ _ b (by simpa using hb), Below.heap_setCell w2 ⟨w1.heap.size, 0, none⟩ _ b (by simpa using hb)]
      have a3 : w3.cell? ⟨w.heap.size, 0, none⟩ = some (.slice a fs.length c) := (World.cell?_of_block (a := ⟨w.heap.size, 0, none⟩) (hoth w.heap.size (by omega))).trans a0
      have r3 : w3.cell? ⟨w.heap.size + 1, 0, none⟩ = some (.slice none 0 0) := (World.cell?_of_block (a := ⟨w.heap.size + 1, 0, none⟩) (hoth (w.heap.size + 1) (by omega))).trans r0
      have rf3 : w3.frozen? ⟨w.heap.size + 1, 0, none⟩ = false := (World.frozen?_of_block (a := ⟨w.heap.size + 1, 0, none⟩) (hoth (w.heap.size + 1) (by omega))).trans rf
      have x0 : w3.cell? ⟨w1.heap.size, 0, none⟩ = some (.string x.bytes) := by rw [← hw3]; simp [go_sem, t0]
      have x1 : w3.cell? ⟨w1.heap.size, 1, none⟩ = some (.int .i64 x.syn) := by rw [← hw3]; simp [go_sem, t1]
      have lA : ∀ b, InB a fs.length b → b < w.heap.size := hs.lt
      have HA3 : Fls w3 a fs := HA.of_block (fun b hb => hoth b (by have := lA b hb; omega))
      have BB3 : Below w.heap.size w w3 := by rw [← hw3]; exact (BB2.setCell (by simp; omega) _).setCell (by simp; omega) _
      have HLA : Hid (∀ b, InB a fs.length b → b < w.heap.size) := lA
      clear HA BB2 r0 rf hoth lA
      have A3 : ∀ p q, ((w3.alloc p).alloc q).cell? ⟨w.heap.size, 0, none⟩ = some (.slice a fs.length c) := fun p q => (World.cell?_alloc_old _ q ⟨w.heap.size, 0, none⟩ (by simp; omega)).trans ((World.cell?_alloc_old _ p ⟨w.heap.size, 0, none⟩ (by simp; omega)).trans a3)
      have A3' := A3
      rw [← hw3] at A3
      have hTM : w.heap.size + 1 < w1.heap.size ∧ w1.heap.size < w3.heap.size := ⟨by omega, by omega⟩
      have HTM : Hid (w.heap.size + 1 < w1.heap.size ∧ w1.heap.size < w3.heap.size) := hTM
      have hS0 := ws_start (w := w) (w3 := w3) (T := w1.heap.size) (a := a) (fs := fs) (ys := fs.set i x) (x := x) (z := .agg #[.string ByteArray.empty, .int .i64 0]) (n := fs.length) x0 x1 HA3 r3 rf3 BB3 l4
      clear hTM
      clear s3
      go_wp2_with fail
      go_loopw [39] (fun iv wr => ∃ j g cap : Nat, j ≤ fs.length ∧ iv = .int .i64 (j : Int) ∧ WSt w w1.heap.size w3.heap.size a fs (fs.set i x) x j g cap wr) (fun iv _ => fs.length - (intOf iv).toNat)
      case atStart => exact ⟨0, w3.heap.size, fs.length, Nat.zero_le _, rfl, hS0⟩
      case round =>
        clear hS0 A3 A3' a3 r3 rf3 x0 x1 HA3 BB3 hw3 a0 t0 t1 tf hmk
        obtain ⟨j, g, cap, hj, rfl, hst⟩ := hrel
        have hTM := HTM.out
        by_cases hlt : j < fs.length
        · obtain ⟨b, hjb⟩ := getFl hlt
          have hsz := hst.sz
          have hneO : some (w3.heap.size + 1) ≠ (Value.slice (some ⟨g, 0, none⟩) j cap).ownBlock := by have := hst.ne; simp [Value.ownBlock]; omega
          have HU : Hid (∀ (o : Obj) (w5 : World), Below (wr.alloc o).drew.heap.size (wr.alloc o).drew w5 → Below wr.heap.size wr w5) := fun o w5 h => (((Below.refl wr.heap.size wr).alloc (Nat.le_refl _) o).drew).trans (h.mono (by simp))
          have oc := hst.oc
          have fo := hst.fo
          have O0 : ∀ o, (wr.alloc o).cell? ⟨w3.heap.size + 1, 0, none⟩ = some (.slice (some ⟨g, 0, none⟩) j cap) := fun o => (World.cell?_alloc_old wr o ⟨w3.heap.size + 1, 0, none⟩ (by simp; omega)).trans oc
          obtain ⟨kb, ob, rfl, b0, b1, -⟩ := hst.fl j b hjb
          by_cases hji : j = i
          · have he : ((j : Int) == (i : Int)) = true := by simp [hji]
            have HJ : Hid ((fs.set i x)[j]? = some x) := by show _ = _; rw [hji]; exact List.getElem?_set_self (by omega)
            have hez := hxz
            have x0 := hst.x0
            have x1 := hst.x1
            have X0 : ∀ o, (wr.alloc o).cell? ⟨w1.heap.size, 0, none⟩ = some (.string x.bytes) := fun o => (World.cell?_alloc_old wr o ⟨w1.heap.size, 0, none⟩ (by simp; omega)).trans x0
            have X1 : ∀ o, (wr.alloc o).cell? ⟨w1.heap.size, 1, none⟩ = some (.int .i64 x.syn) := fun o => (World.cell?_alloc_old wr o ⟨w1.heap.size, 1, none⟩ (by simp; omega)).trans x1
            clear hji hjb
            go_wp2_with fail
            go_region_law (first | (refine step_append_lies _ (by rfl) _ _ _ (by rfl) w3.heap.size 45 i0 _ 2 24 Tryd.underlying26 hi hz0 hz1 hz2 rfl (by omega) (.slice (some ⟨g, 0, none⟩) j cap) j (flCells ((fs.set i x).take j)) (by rfl) (hown5.alloc _) ⟨w5.heap.size, 0, none⟩ 1 1 [.string x.bytes, .int .i64 x.syn] (by rfl) (by rfl) (World.news_of_block (cs := #[.string x.bytes, .int .i64 x.syn]) (t := 45) (fr := (0, 0)) (heap_alloc_new w5 _)) (by simp [Value.oneCell']) (by omega) (by unfold maxLen; omega) (by omega) (by simp; omega) (w5.heap.size + 1) (by simp) ?_; intro g2 cap2 w6 hown6 hgrow hat hlt6; have c6 := (hgrow.cell_far ⟨w3.heap.size + 1, 0, none⟩ (by simp; omega) hneO).trans ((World.cell?_alloc_old w5 _ ⟨w3.heap.size + 1, 0, none⟩ (by simp; omega)).trans o5); have f6 := (hgrow.frozen_far ⟨w3.heap.size + 1, 0, none⟩ (by simp; omega) hneO).trans ((World.frozen?_alloc_old w5 _ ⟨w3.heap.size + 1, 0, none⟩ (by simp; omega)).trans p5)) | (go_simp; go_at_call 42; refine (clone_any _ _ hez).mono ?_; rintro r w5 ⟨rfl, hB5⟩; have hu5 := HU.out _ _ hB5; have o5 := (hu5.cell (p := ⟨w3.heap.size + 1, 0, none⟩) hsz).trans hst.oc; have p5 := (hu5.frozen (p := ⟨w3.heap.size + 1, 0, none⟩) hsz).trans hst.fo; have q5 : w5.cell? ⟨wr.heap.size, 1, none⟩ = some (.int .i64 x.syn) := (hB5.cell (p := ⟨wr.heap.size, 1, none⟩) (by simp)).trans (by simp [go_sem]); have s5 := hu5.size; have hown5 := ownsF_below hst.own hu5; have o5a := fun o => (World.cell?_alloc_old w5 o ⟨w3.heap.size + 1, 0, none⟩ (by simp; omega)).trans o5))
            all_goals
              have hst2 := ws_step hst HLA.out hTM.1 hTM.2 HJ.out (hu5.trans (((Below.refl w5.heap.size w5).alloc (Nat.le_refl _) _).mono s5)) hgrow hown6 (by simpa using hat)
              have HS2 : Hid (WSt w w1.heap.size w3.heap.size _ fs (fs.set i x) x (j + 1) g2 cap2 (w6.setCell ⟨w3.heap.size + 1, 0, none⟩ (.slice (some ⟨g2, 0, none⟩) (j + 1) cap2))) := hst2
              clear hst2 hown6 hgrow hat hlt6 c6 f6 o5 o5a p5 q5 hown5 hu5 hB5 s5 hst
              go_wp2_with fail
              go_roundw
              case rel => exact ⟨j + 1, g2, cap2, by omega, by go_num, HS2.out⟩
              case measure => simp [intOf]; omega
          · have he : ((j : Int) == (i : Int)) = false := by simp; omega
            have HJ : Hid ((fs.set i x)[j]? = some b) := by show _ = _; rw [List.getElem?_set_ne (fun h => hji h.symm)]; exact hjb
            have hez : b.bytes.size ≤ 100000 := by have := HOZ.out b (List.mem_of_getElem? hjb); omega
            clear hji hjb
            go_wp2_with fail
            go_region_law (first | (refine step_append_lies _ (by rfl) _ _ _ (by rfl) w3.heap.size 45 i0 _ 2 24 Tryd.underlying26 hi hz0 hz1 hz2 rfl (by omega) (.slice (some ⟨g, 0, none⟩) j cap) j (flCells ((fs.set i x).take j)) (by rfl) (hown5.alloc _) ⟨w5.heap.size, 0, none⟩ 1 1 [.string b.bytes, .int .i64 b.syn] (by rfl) (by rfl) (World.news_of_block (cs := #[.string b.bytes, .int .i64 b.syn]) (t := 45) (fr := (0, 0)) (heap_alloc_new w5 _)) (by simp [Value.oneCell']) (by omega) (by unfold maxLen; omega) (by omega) (by simp; omega) (w5.heap.size + 1) (by simp) ?_; intro g2 cap2 w6 hown6 hgrow hat hlt6; have c6 := (hgrow.cell_far ⟨w3.heap.size + 1, 0, none⟩ (by simp; omega) hneO).trans ((World.cell?_alloc_old w5 _ ⟨w3.heap.size + 1, 0, none⟩ (by simp; omega)).trans o5); have f6 := (hgrow.frozen_far ⟨w3.heap.size + 1, 0, none⟩ (by simp; omega) hneO).trans ((World.frozen?_alloc_old w5 _ ⟨w3.heap.size + 1, 0, none⟩ (by simp; omega)).trans p5)) | (go_simp; go_at_call 42; refine (clone_any _ _ hez).mono ?_; rintro r w5 ⟨rfl, hB5⟩; have hu5 := HU.out _ _ hB5; have o5 := (hu5.cell (p := ⟨w3.heap.size + 1, 0, none⟩) hsz).trans hst.oc; have p5 := (hu5.frozen (p := ⟨w3.heap.size + 1, 0, none⟩) hsz).trans hst.fo; have q5 : w5.cell? ⟨wr.heap.size, 1, none⟩ = some (.int .i64 b.syn) := (hB5.cell (p := ⟨wr.heap.size, 1, none⟩) (by simp)).trans (by simp [go_sem]); have s5 := hu5.size; have hown5 := ownsF_below hst.own hu5; have o5a := fun o => (World.cell?_alloc_old w5 o ⟨w3.heap.size + 1, 0, none⟩ (by simp; omega)).trans o5))
            all_goals
              have hst2 := ws_step hst HLA.out hTM.1 hTM.2 HJ.out (hu5.trans (((Below.refl w5.heap.size w5).alloc (Nat.le_refl _) _).mono s5)) hgrow hown6 (by simpa using hat)
              have HS2 : Hid (WSt w w1.heap.size w3.heap.size _ fs (fs.set i x) x (j + 1) g2 cap2 (w6.setCell ⟨w3.heap.size + 1, 0, none⟩ (.slice (some ⟨g2, 0, none⟩) (j + 1) cap2))) := hst2
              clear hst2 hown6 hgrow hat hlt6 c6 f6 o5 o5a p5 q5 hown5 hu5 hB5 s5 hst
              go_wp2_with fail
              go_roundw
              case rel => exact ⟨j + 1, g2, cap2, by omega, by go_num, HS2.out⟩
              case measure => simp [intOf]; omega
        · obtain rfl : j = fs.length := by omega
          have hty : (fs.set i x).take fs.length = fs.set i x := List.take_of_length_le (by rw [List.length_set]; omega)
          have hown := hst.own
          rw [hty] at hown
          have hown' : wr.ownsRow w3.heap.size 45 2 (.slice (some ⟨g, 0, none⟩) fs.length cap) (fs.set i x).length (flCells (fs.set i x)) := by rw [List.length_set]; exact hown
          obtain ⟨ae, ce, hve, -, hFe, hRe⟩ := fls_of_owns hown' (set_sizes hz (by unfold maxLen; omega))
          simp only [Value.slice.injEq] at hve
          obtain ⟨rfl, -, rfl⟩ := hve
          have oc := hst.oc
          have rc := hst.rc
          have rf := hst.rf
          have bel := hst.bel
          have hset : ∀ v b, InB (some ⟨g, 0, none⟩) (fs.set i x).length b → (wr.setCell ⟨w.heap.size + 1, 0, none⟩ v).heap[b]? = wr.heap[b]? := fun v b hb => by
            have := (hRe.lt hb).1
            exact Below.heap_setCell _ ⟨w.heap.size + 1, 0, none⟩ v b (by simp; omega)
          have HFe : Hid (∀ v, Fls (wr.setCell ⟨w.heap.size + 1, 0, none⟩ v) (some ⟨g, 0, none⟩) (fs.set i x)) := fun v => hFe.of_block (hset v)
          have HRe : Hid (∀ v, RowF (wr.setCell ⟨w.heap.size + 1, 0, none⟩ v) w.heap.size (some ⟨g, 0, none⟩) (fs.set i x).length) := fun v => (hRe.of_block (hset v)).mono (by omega)
          clear hst hown hown' hFe hRe hset hty
          go_wp2
          refine bodyPost_ret (v := .tuple #[.agg #[.slice (some ⟨g, 0, none⟩) fs.length cap], .bool true]) (by simp [results, Tryd.results24, go_sem, rc]) rfl ⟨some ⟨g, 0, none⟩, cap, by simp [filesOf], HFe.out _, HRe.out _, bel.setCell (by simp) _⟩

end Go.Proofs.YtopndglgbollfaaDoor
