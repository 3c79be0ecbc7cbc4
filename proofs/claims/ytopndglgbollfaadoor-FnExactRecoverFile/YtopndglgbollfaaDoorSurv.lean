/-
  What survives of a file: the contracts of spec.SurvivesIn and impl.SurvivesIn.
-/
import Derived.Test.YtopndglgbollfaaDoorLawRead
import Derived.Test.YtopndglgbollfaaDoorDskImpl
namespace Go.Proofs.YtopndglgbollfaaDoor
open Go.RowKit

/-- The batches that a file's synced bytes tell. -/
def survOf (fs : List Fl) (k : Int) : List Bt := if inF fs k = true then (match fs[k.toNat]? with
  | some f => (readL (f.bytes.extract 0 f.syn.toNat).data.toList).1
  | none => []) else []

theorem survOf_none {fs : List Fl} {k : Int} (h : inF fs k = false) : survOf fs k = [] := by unfold survOf; rw [h]; rfl
theorem survOf_some {fs : List Fl} {k : Nat} {f : Fl} (h : inF fs k = true) (hf : fs[k]? = some f) : survOf fs k = (readL (f.bytes.extract 0 f.syn.toNat).data.toList).1 := by
  unfold survOf; rw [if_pos h, Int.toNat_natCast, hf]

def RdAns2 (w : World) (bs : List Bt) (ok : Bool) (r : Ending) (w' : World) : Prop :=
  ∃ qs a c, r = .returned (.tuple #[.slice a qs.length c, .bool ok]) ∧ qsB qs = bs ∧ RdSt w w' (.slice a qs.length c) qs

theorem rd_base {w w2 w3 : World} {v : Value} {qs : List Q} (h : RdSt w2 w3 v qs) (hb : Below w.heap.size w w2) : RdSt w w3 v qs :=
  ⟨owns_mono h.own hb.size, fun q hq => ⟨owns_mono (h.recs q hq).1 hb.size, (h.recs q hq).2⟩, h.gne, h.dis, hb.trans (h.bel.mono hb.size)⟩

theorem rd_nil {w w2 : World} (hb : Below w.heap.size w w2) : RdSt w w2 (.slice none 0 0) [] := rd_base (rd_start w2) hb

set_option maxRecDepth 100000 in
set_option maxHeartbeats 2000000 in
theorem specSurv_any (a : Option Addr) (c : Nat) (fs : List Fl) (k : Int) (w : World) (hs : Fls w a fs) (hl : fs.length ≤ maxLen) :
    Calls Tryd.prog 15 #[.agg #[.slice a fs.length c], .int .i64 k] w fun r w' => RdAns2 w (survOf fs k) (inF fs k) r w' := by
  have hb1 : ∀ x, Below w.heap.size w (w.alloc x) := fun _ => (Below.refl _ _).alloc (Nat.le_refl _) _
  obtain ⟨gd, hgd⟩ : ∃ gd, inF fs k = gd := ⟨_, rfl⟩
  have HG : Hid (inF fs k = gd) := hgd
  rw [hgd]
  cases gd with
  | false =>
    rw [survOf_none hgd]
    clear hgd
    go_enter Tryd.func15, Tryd.ntmps15
    go_wp2_with fail
    refine (specFile_any _ _ _ _ _ (hs.below (hb1 _)) hl).mono ?_
    rintro r w1 ⟨hr, hB1⟩
    rw [HG.out] at hr; subst hr
    have BB := (hb1 _).trans (hB1.mono (hb1 _).size)
    go_wp2
    go_ret2
    exact ⟨[], none, 0, rfl, rfl, rd_nil BB⟩
  | true =>
    obtain ⟨hgD, hk0, hk1⟩ := inF_t hgd
    obtain ⟨i, rfl⟩ := Int.eq_ofNat_of_zero_le hk0
    obtain ⟨l1, l4, hok⟩ := goodD_t hgD
    obtain ⟨f, hf⟩ := getFl (fs := fs) (k := i) (by omega)
    obtain ⟨f4, f0, f1⟩ := okF_parts (hok f (List.mem_of_getElem? hf))
    obtain ⟨n, hn⟩ := Int.eq_ofNat_of_zero_le f0
    rw [survOf_some hgd hf, hn, Int.toNat_natCast]
    have hnI : (n : Int) ≤ (f.bytes.size : Int) := by omega
    have hxs : (f.bytes.extract 0 n).size ≤ 2000000 := by rw [ByteArray.size_extract]; omega
    clear hok hgD hgd
    go_enter Tryd.func15, Tryd.ntmps15
    go_wp2_with fail
    refine (specFile_any _ _ _ _ _ (hs.below (hb1 _)) hl).mono ?_
    rintro r w1 ⟨hr, hB1⟩
    rw [HG.out] at hr; subst hr
    have BB := (hb1 _).trans (hB1.mono (hb1 _).size)
    obtain ⟨kb, ob, rfl, d0, d1, -⟩ := ((hs.below (hb1 _)).below hB1) i f hf
    rw [hn] at d1
    obtain ⟨hc1, -⟩ := fbcell hB1
    simp only [World.size_alloc] at hc1
    have BB1 : ∀ o, Below w.heap.size w (w1.alloc o) := fun o => BB.alloc BB.size o
    clear hB1 hs hf
    go_wp2_with fail
    refine (l1Read_any (f.bytes.extract 0 n) _ hxs).mono ?_
    rintro r w2 ⟨qs, a2, c2, rfl, hq, hst⟩
    have hst2 := rd_base hst (BB1 _)
    go_wp2
    go_ret2
    exact ⟨qs, a2, c2, rfl, hq, hst2⟩

set_option maxRecDepth 100000 in
set_option maxHeartbeats 2000000 in
theorem implSurv_any (a : Option Addr) (c : Nat) (fs : List Fl) (k : Int) (w : World) (hs : Fls w a fs) (hl : fs.length ≤ maxLen) (hTab : TabAt w) :
    Calls Tryd.prog 16 #[.agg #[.slice a fs.length c], .int .i64 k] w fun r w' => RdAns2 w (survOf fs k) (inF fs k) r w' := by
  have hw0 : 0 < w.heap.size := lt_of_cell (hTab 0 (by omega))
  have hb1 : ∀ x, Below w.heap.size w (w.alloc x) := fun _ => (Below.refl _ _).alloc (Nat.le_refl _) _
  obtain ⟨gd, hgd⟩ : ∃ gd, inF fs k = gd := ⟨_, rfl⟩
  have HG : Hid (inF fs k = gd) := hgd
  rw [hgd]
  cases gd with
  | false =>
    rw [survOf_none hgd]
    clear hgd
    go_enter Tryd.func16, Tryd.ntmps16
    go_wp2_with fail
    refine (fileOf_any _ _ _ _ _ (hs.below (hb1 _)) hl).mono ?_
    rintro r w1 ⟨f, rfl, -, hB1⟩
    rw [HG.out]
    have BB := (hb1 _).trans (hB1.mono (hb1 _).size)
    have BB1 : ∀ o, Below w.heap.size w (w1.alloc o) := fun o => BB.alloc BB.size o
    go_wp2
    go_ret2
    exact ⟨[], none, 0, rfl, rfl, rd_nil (BB1 _)⟩
  | true =>
    obtain ⟨hgD, hk0, hk1⟩ := inF_t hgd
    obtain ⟨i, rfl⟩ := Int.eq_ofNat_of_zero_le hk0
    obtain ⟨l1, l4, hok⟩ := goodD_t hgD
    obtain ⟨f, hf⟩ := getFl (fs := fs) (k := i) (by omega)
    obtain ⟨f4, f0, f1⟩ := okF_parts (hok f (List.mem_of_getElem? hf))
    obtain ⟨n, hn⟩ := Int.eq_ofNat_of_zero_le f0
    rw [survOf_some hgd hf, hn, Int.toNat_natCast]
    have hnI : (n : Int) ≤ (f.bytes.size : Int) := by omega
    have hxs : (f.bytes.extract 0 n).size ≤ 600 := by rw [ByteArray.size_extract]; omega
    have HF0 : Hid (fs[i]? = some f) := hf
    clear hok hgD hgd hf
    go_enter Tryd.func16, Tryd.ntmps16
    go_wp2_with fail
    refine (fileOf_any _ _ _ _ _ (hs.below (hb1 _)) hl).mono ?_
    rintro r w1 ⟨fx, rfl, hfi, hB1⟩
    have hfi := hfi HG.out
    rw [Int.toNat_natCast, HF0.out] at hfi
    obtain rfl : f = fx := by simpa using hfi
    rw [HG.out]
    have BB := (hb1 _).trans (hB1.mono (hb1 _).size)
    have BB1 : ∀ o, Below w.heap.size w (w1.alloc o) := fun o => BB.alloc BB.size o
    have hTb : ∀ o, TabAt (w1.alloc o) := fun o => hTab.below (BB1 o) hw0
    rw [hn]
    clear hB1 hs hfi
    go_wp2_with fail
    refine (implRead_in (f.bytes.extract 0 n) _ hxs (hTb _)).mono ?_
    rintro r w2 ⟨qs, a2, c2, rfl, hq, hst⟩
    have hst2 := rd_base hst (BB1 _)
    go_wp2
    go_ret2
    exact ⟨qs, a2, c2, rfl, hq, hst2⟩

end Go.Proofs.YtopndglgbollfaaDoor
