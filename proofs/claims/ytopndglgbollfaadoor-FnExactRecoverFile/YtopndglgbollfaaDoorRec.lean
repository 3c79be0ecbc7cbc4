/-
  A file recovered: the contracts of (impl.whole).kept and impl.RecoverFile.
-/
import Derived.Test.YtopndglgbollfaaDoorDskWithRec
import Derived.Test.YtopndglgbollfaaDoorSurv
namespace Go.Proofs.YtopndglgbollfaaDoor
open Go.RowKit

theorem readR_le {l : List UInt8} : ∀ (k : Nat) (p : Option Bt) (at_ : Nat), at_ ≤ l.length → (readR l k p at_).2 ≤ l.length
  | 0, _, _, h => h
  | k + 1, p, at_, h => by
    unfold readR
    split
    · exact h
    · rename_i b e hs
      split
      · exact readR_le k _ e (specTake_end2 hs).2
      · exact h

theorem readL_le (l : List UInt8) : (readL l).2 ≤ l.length := readR_le _ _ _ (Nat.zero_le _)

def keptF (n : Nat) (f : Fl) : Option Fl := some ⟨f.bytes.extract 0 n, (n : Int)⟩

/-- Where a file's log ends, and its batches. -/
def recN (fs : List Fl) (k : Int) : Nat := match fs[k.toNat]? with
  | some f => (readL f.bytes.data.toList).2
  | none => 0

def recB (fs : List Fl) (k : Int) : List Bt := if inF fs k = true then (match fs[k.toNat]? with
  | some f => (readL f.bytes.data.toList).1
  | none => []) else []

theorem recB_none {fs : List Fl} {k : Int} (h : inF fs k = false) : recB fs k = [] := by unfold recB; rw [h]; rfl
theorem recB_some {fs : List Fl} {k : Nat} {f : Fl} (h : inF fs k = true) (hf : fs[k]? = some f) : recB fs k = (readL f.bytes.data.toList).1 := by
  unfold recB; rw [if_pos h, Int.toNat_natCast, hf]
theorem recN_some {fs : List Fl} {k : Nat} {f : Fl} (hf : fs[k]? = some f) : recN fs k = (readL f.bytes.data.toList).2 := by
  unfold recN; rw [Int.toNat_natCast, hf]

/-- What is answered: a disk, behind it in memory the batches, and whether. -/
def RecAns (w : World) (gs : List Fl) (bs : List Bt) (ok : Bool) (r : Ending) (w' : World) : Prop :=
  ∃ (a : Option Addr) (c : Nat) (qs : List Q) (b : Option Addr) (d : Nat) (w1 w2 : World), r = .returned (.tuple #[.agg #[.slice a gs.length c], .slice b qs.length d, .bool ok]) ∧ qsB qs = bs ∧ Fls w' a gs ∧ RowF w' w2.heap.size a gs.length ∧ RdSt w1 w2 (.slice b qs.length d) qs ∧ w.heap.size ≤ w1.heap.size ∧ w2.heap.size ≤ w'.heap.size ∧ (∀ x, w1.heap.size ≤ x → x < w2.heap.size → w'.heap[x]? = w2.heap[x]?) ∧ Below w.heap.size w w'

theorem rec_none {w w' : World} (hb : Below w.heap.size w w') : RecAns w (filesOf none) [] false (.returned (.tuple #[.agg #[.slice none 0 0], .slice none 0 0, .bool false])) w' :=
  ⟨none, 0, [], none, 0, w', w', rfl, rfl, Fls.nil _ _, .inl rfl, rd_start w', hb.size, Nat.le_refl _, fun _ _ _ => rfl, hb⟩

set_option maxHeartbeats 1000000 in
theorem kept_any (n : Nat) (f : Fl) (w : World) (hn : n ≤ f.bytes.size) (hf : f.bytes.size ≤ 400) :
    Calls Tryd.prog 25 #[.int .i64 n, .agg #[.string f.bytes, .int .i64 f.syn]] w fun r w' => ∃ f' : Fl, r = .returned (.tuple #[.agg #[.string f'.bytes, .int .i64 f'.syn], .bool (keptF n f).isSome]) ∧ (∀ x, keptF n f = some x → x = f') ∧ Below w.heap.size w w' := by
  have hb2 : ∀ x y, Below w.heap.size w ((w.alloc x).alloc y) := fun _ _ => ((Below.refl _ _).alloc (Nat.le_refl _) _).alloc (by simp) _
  have hnI : (n : Int) ≤ (f.bytes.size : Int) := by omega
  have h0n : (0 : Int) ≤ (n : Int) := by omega
  have hz : (f.bytes.extract 0 n).size = n := by rw [ByteArray.size_extract]; omega
  have HZ : Hid ((f.bytes.extract 0 n).size = n) := hz
  have hwr : IntKind.i64.wrap (n : Int) = (n : Int) := by rw [IntKind.wrap_i64]; omega
  have hwr2 : wrap64 (n : Int) = (n : Int) := by unfold wrap64; omega
  clear hz
  go_enter Tryd.func25, Tryd.ntmps25
  go_wp2_with fail
  refine (allSynced_any ⟨f.bytes.extract 0 n, 0⟩ _).mono ?_
  rintro r w1 ⟨f', hr, hf', hB1⟩
  obtain rfl := hf' _ rfl
  simp only [HZ.out, syncF, Option.isSome_some] at hr
  subst hr
  have BB := (hb2 _ _).trans (hB1.mono (hb2 _ _).size)
  obtain ⟨hc1, hf1⟩ := fbcell hB1
  simp only [World.size_alloc] at hc1 hf1
  clear hB1 hf'
  go_wp2
  refine bodyPost_ret (v := .tuple #[.agg #[.string (f.bytes.extract 0 n), .int .i64 (n : Int)], .bool true]) (by simp [results, Tryd.results25, go_sem, hc1]) rfl ⟨⟨f.bytes.extract 0 n, (n : Int)⟩, rfl, (fun x h => by simpa [keptF] using h.symm), (BB.setCell (by simp) _).setCell (by simp) _⟩

set_option maxRecDepth 100000 in
set_option maxHeartbeats 2000000 in
theorem implRec_any (a : Option Addr) (c : Nat) (fs : List Fl) (k : Int) (w : World) (hs : Fls w a fs) (hl : fs.length ≤ maxLen) (hTab : TabAt w) :
    Calls Tryd.prog 8 #[.agg #[.slice a fs.length c], .int .i64 k] w fun r w' => RecAns w (filesOf (chg fs k (keptF (recN fs k)))) (recB fs k) (inF fs k) r w' := by
  have hw0 : 0 < w.heap.size := lt_of_cell (hTab 0 (by omega))
  have hb2 : ∀ x y, Below w.heap.size w ((w.alloc x).alloc y) := fun _ _ => ((Below.refl _ _).alloc (Nat.le_refl _) _).alloc (by simp) _
  have hmf : ∀ (fn : Fn) (first cap : Array Value) (w : World), (Instr.makeFunc fn first cap).run Tryd.prog w = .ok (.func fn first cap) w := fun _ _ _ _ => rfl
  obtain ⟨gd, hgd⟩ : ∃ gd, inF fs k = gd := ⟨_, rfl⟩
  have HG : Hid (inF fs k = gd) := hgd
  rw [hgd]
  cases gd with
  | false =>
    rw [recB_none hgd, chg_none hgd]
    clear hgd
    go_enter Tryd.func8, Tryd.ntmps8
    go_wp2_with fail
    refine (fileOf_any _ _ _ _ _ (hs.below (hb2 _ _)) hl).mono ?_
    rintro r w1 ⟨f, rfl, -, hB1⟩
    rw [HG.out]
    have BB := (hb2 _ _).trans (hB1.mono (hb2 _ _).size)
    obtain ⟨hc1, hf1⟩ := fbcell hB1
    simp only [World.size_alloc] at hc1 hf1
    have l1s := hB1.size
    simp only [World.size_alloc] at l1s
    have r0 : ∀ o, (w1.alloc o).cell? ⟨w.heap.size + 1, 0, none⟩ = some (.slice none 0 0) := fun o => (World.cell?_alloc_old _ _ ⟨w.heap.size + 1, 0, none⟩ (by simp; omega)).trans ((hc1 _ _ (by omega)).trans (by simp [go_sem]))
    have rf : ∀ o, (w1.alloc o).frozen? ⟨w.heap.size + 1, 0, none⟩ = false := fun o => (World.frozen?_alloc_old _ _ ⟨w.heap.size + 1, 0, none⟩ (by simp; omega)).trans ((hf1 _ _ (by omega)).trans (by simp [go_sem]))
    have BB1 : ∀ o, Below w.heap.size w (w1.alloc o) := fun o => BB.alloc BB.size o
    clear hB1
    go_wp2
    refine bodyPost_ret (v := .tuple #[.agg #[.slice none 0 0], .slice none 0 0, .bool false]) (by simp [results, Tryd.results8, go_sem, r0]) rfl (rec_none ((BB1 _).setCell (by simp) _))
  | true =>
    obtain ⟨hgD, hk0, hk1⟩ := inF_t hgd
    obtain ⟨i, rfl⟩ := Int.eq_ofNat_of_zero_le hk0
    obtain ⟨l1, l4, hok⟩ := goodD_t hgD
    obtain ⟨f, hf⟩ := getFl (fs := fs) (k := i) (by omega)
    obtain ⟨f4, f0, f1⟩ := okF_parts (hok f (List.mem_of_getElem? hf))
    have hnle := readL_le f.bytes.data.toList
    rw [size_len] at hnle
    have HN : Hid ((readL f.bytes.data.toList).2 = recN fs i) := (recN_some hf).symm
    rw [recB_some hgd hf, recN_some hf]
    have H := fun u hu => withRec_any ((readL f.bytes.data.toList).2 : Nat) (keptF (readL f.bytes.data.toList).2) a c fs i u hu hl (fun f' w h hf' _ => by
        rw [Int.toNat_natCast, hf] at hf'
        obtain rfl : f = f' := by simpa using hf'
        exact kept_any _ f w hnle f4) (fun f f' hok h => by
      have := (okF_parts hok).1
      simp only [keptF, Option.some.injEq] at h
      subst h
      simp only [ByteArray.size_extract]
      omega)
    have hok1 : (chg fs i (keptF (readL f.bytes.data.toList).2)).isSome = true := by rw [chg_some hgd hf]; rfl
    rw [hok1] at H
    have HF0 : Hid (fs[i]? = some f) := hf
    generalize hbs : (readL f.bytes.data.toList).1 = bs at *
    generalize hnn : (readL f.bytes.data.toList).2 = n at *
    generalize hgs : filesOf (chg fs i (keptF n)) = gs at *
    have HBS : Hid ((readL f.bytes.data.toList).1 = bs) := hbs
    have HNN : Hid ((readL f.bytes.data.toList).2 = n) := hnn
    have HW : Hid (∀ u, Fls u a fs → _) := H
    clear hok hgD hgd hf hok1 hbs hnn hgs HN H
    go_enter Tryd.func8, Tryd.ntmps8
    go_wp2_with fail
    refine (fileOf_any _ _ _ _ _ (hs.below (hb2 _ _)) hl).mono ?_
    rintro r w1 ⟨fx, rfl, hfi, hB1⟩
    have hfi := hfi HG.out
    rw [Int.toNat_natCast, HF0.out] at hfi
    obtain rfl : f = fx := by simpa using hfi
    rw [HG.out]
    have BB := (hb2 _ _).trans (hB1.mono (hb2 _ _).size)
    have HA := (hs.below (hb2 _ _)).below hB1
    obtain ⟨hc1, hf1⟩ := fbcell hB1
    have l1s := hB1.size
    simp only [World.size_alloc] at hc1 hf1 l1s
    have BB1 : ∀ o, Below w.heap.size w (w1.alloc o) := fun o => BB.alloc BB.size o
    have hTb : ∀ o, TabAt (w1.alloc o) := fun o => hTab.below (BB1 o) hw0
    have ha1 : ∀ o, Below w1.heap.size w1 (w1.alloc o) := fun o => (Below.refl _ _).alloc (Nat.le_refl _) o
    have a0 : w1.cell? ⟨w.heap.size, 0, none⟩ = some (.slice a fs.length c) := (hc1 _ _ (by omega)).trans (by simp [go_sem])
    have r0 : w1.cell? ⟨w.heap.size + 1, 0, none⟩ = some (.slice none 0 0) := (hc1 _ _ (by omega)).trans (by simp [go_sem])
    have rf : w1.frozen? ⟨w.heap.size + 1, 0, none⟩ = false := (hf1 _ _ (by omega)).trans (by simp [go_sem])
    clear hB1 hs hfi hc1 hf1
    go_wp2_with fail
    refine (implRead_in f.bytes _ (by omega) (hTb _)).mono ?_
    rintro r w2 ⟨qs, a2, c2, rfl, hq, hst⟩
    rw [HNN.out]
    have hB2 := hst.bel
    have BB2 := (BB1 _).trans (hB2.mono (BB1 _).size)
    have HA := (HA.below (ha1 _)).below hB2
    obtain ⟨hc2, hf2⟩ := fbcell hB2
    have l2s := hB2.size
    simp only [World.size_alloc] at hc2 hf2 l2s
    have a0 : w2.cell? ⟨w.heap.size, 0, none⟩ = some (.slice a fs.length c) := (hc2 _ _ (by omega)).trans ((World.cell?_alloc_old _ _ ⟨w.heap.size, 0, none⟩ (by simp; omega)).trans a0)
    have r0 : w2.cell? ⟨w.heap.size + 1, 0, none⟩ = some (.slice none 0 0) := (hc2 _ _ (by omega)).trans ((World.cell?_alloc_old _ _ ⟨w.heap.size + 1, 0, none⟩ (by simp; omega)).trans r0)
    have rf : w2.frozen? ⟨w.heap.size + 1, 0, none⟩ = false := (hf2 _ _ (by omega)).trans ((World.frozen?_alloc_old _ _ ⟨w.heap.size + 1, 0, none⟩ (by simp; omega)).trans rf)
    have HST : Hid (RdSt _ w2 (.slice a2 qs.length c2) qs) := hst
    clear hB2 hc2 hf2 hst
    go_wp2_with fail
    refine (HW.out _ HA).mono ?_
    rintro r w3 ⟨a3, c3, rfl, H3, R3, hB3⟩
    have BB3 := BB2.trans (hB3.mono BB2.size)
    obtain ⟨hc3, hf3⟩ := fbcell hB3
    have l3s := hB3.size
    have r0 : w3.cell? ⟨w.heap.size + 1, 0, none⟩ = some (.slice none 0 0) := (hc3 _ _ (by omega)).trans r0
    have rf : w3.frozen? ⟨w.heap.size + 1, 0, none⟩ = false := (hf3 _ _ (by omega)).trans rf
    have R0 : ∀ o, (w3.alloc o).cell? ⟨w.heap.size + 1, 0, none⟩ = some (.slice none 0 0) := fun o => (World.cell?_alloc_old w3 o ⟨w.heap.size + 1, 0, none⟩ (by simp; omega)).trans r0
    have RF : ∀ o, (w3.alloc o).frozen? ⟨w.heap.size + 1, 0, none⟩ = false := fun o => (World.frozen?_alloc_old w3 o ⟨w.heap.size + 1, 0, none⟩ (by simp; omega)).trans rf
    have hset : ∀ o v x, x < w3.heap.size → x ≠ w.heap.size + 1 → ((w3.alloc o).setCell ⟨w.heap.size + 1, 0, none⟩ v).heap[x]? = w3.heap[x]? := fun o v x hl hx =>
      (Below.heap_setCell _ ⟨w.heap.size + 1, 0, none⟩ v x (by simp; omega)).trans (((Below.refl _ _).alloc (Nat.le_refl _) o).block x hl)
    have n5 : ¬ w.heap.size + 1 = w3.heap.size := by omega
    have n6 : ¬ w3.heap.size = w.heap.size + 1 := by omega
    have HE : Hid (∀ o v, RecAns w gs bs true (.returned (.tuple #[.agg #[.slice a3 gs.length c3], .slice a2 qs.length c2, .bool true])) ((w3.alloc o).setCell ⟨w.heap.size + 1, 0, none⟩ v)) := fun o v =>
      ⟨a3, c3, qs, a2, c2, _, w2, rfl, hq.trans HBS.out, H3.of_block (fun x hx => hset o v x (R3.lt hx).2 (by have := (R3.lt hx).1; omega)), R3.of_block (fun x hx => hset o v x (R3.lt hx).2 (by have := (R3.lt hx).1; omega)), HST.out, by simp; omega, by simp; omega, fun x h1 h2 => (hset o v x (by omega) (by simp at h1; omega)).trans (hB3.block x h2), (BB3.alloc BB3.size o).setCell (by simp) _⟩
    clear hB3 hc3 hf3 hset H3 R3 HST
    go_wp2
    refine bodyPost_ret (v := .tuple #[.agg #[.slice a3 gs.length c3], .slice a2 qs.length c2, .bool true]) (by simp [results, Tryd.results8, go_sem, R0]) rfl (HE.out _ _)

end Go.Proofs.YtopndglgbollfaaDoor
