/-
  The walk of the law FnExactWriteBatch: at every disk, number and batch it answers true and leaves what was there as it was, where the sum's table is laid.
-/
import Derived.Test.YteklkdnkfgfdiaaDoorWrReg
import Derived.Test.YteklkdnkfgfdiaaDoorLawSurv
import Derived.Test.YteklkdnkfgfdiaaDoorLawTake
namespace Go.Proofs.YteklkdnkfgfdiaaDoor
open Go.RowKit

theorem offW {w w' : World} {P : Nat → Prop} {b o : Nat} {v : Value} (hO : ∀ b, b < w.heap.size → ¬ P b → w'.heap[b]? = w.heap[b]?) (hn : ¬ P b) (h : w.cell? ⟨b, o, none⟩ = some v) : w'.cell? ⟨b, o, none⟩ = some v :=
  (World.cell?_of_block (a := ⟨b, o, none⟩) (hO b (lt_of_cell h) hn)).trans h

theorem boxW {w w' : World} {P : Nat → Prop} {N : Nat} {v0 v1 v2 v3 v4 : Value} (hO : ∀ b, b < w.heap.size → ¬ P b → w'.heap[b]? = w.heap[b]?) (hn : ¬ P N)
    (h : w.cell? ⟨N, 0, none⟩ = some v0 ∧ w.cell? ⟨N, 1, none⟩ = some v1 ∧ w.cell? ⟨N, 2, none⟩ = some v2 ∧ w.cell? ⟨N, 3, none⟩ = some v3 ∧ w.cell? ⟨N, 4, none⟩ = some v4) :
    w'.cell? ⟨N, 0, none⟩ = some v0 ∧ w'.cell? ⟨N, 1, none⟩ = some v1 ∧ w'.cell? ⟨N, 2, none⟩ = some v2 ∧ w'.cell? ⟨N, 3, none⟩ = some v3 ∧ w'.cell? ⟨N, 4, none⟩ = some v4 :=
  ⟨offW hO hn h.1, offW hO hn h.2.1, offW hO hn h.2.2.1, offW hO hn h.2.2.2.1, offW hO hn h.2.2.2.2⟩

set_option maxHeartbeats 1000000 in
theorem toBatch_row (o e p q : Int) (ss : List ByteArray) (a : Option Addr) (c : Nat) (w : World) (hs : Strs w a ss) (hl : ss.length ≤ 1048576) :
    Calls Tryd.prog 8 #[.agg #[.int .i64 o, .int .i64 e, .int .i64 p, .int .i64 q, .slice a ss.length c]] w fun r w' =>
      ∃ a' : Option Addr, r = .returned (.agg #[.int .i64 o, .int .i64 e, .int .i64 p, .int .i64 q, .slice a' ss.length ss.length]) ∧ Strs w' a' ss ∧ RowAt w' w.heap.size a' ss.length ∧ Below w.heap.size w w' := by
  have hz := hs.size
  go_enter Tryd.func8, Tryd.ntmps8
  go_wp2_with fail
  refine (toStringS_any _ _ _ _ (hs.below ((((Below.refl _ _).alloc (Nat.le_refl _) _).alloc (by simp) _).alloc (by simp; omega) _)) hl).mono ?_
  rintro r w1 ⟨rfl, hR, hB⟩
  have HB := (((((Below.refl w.heap.size w).alloc (Nat.le_refl _) _).alloc (by simp) _).alloc (by simp; omega) _).trans (hB.mono (by simp; omega)))
  obtain ⟨hc, hf⟩ := bcell hB
  have hz1 := hB.size
  simp only [World.size_alloc] at hc hf hz1 hR
  clear hB
  go_wp2
  refine bodyPost_ret (v := .agg #[.int .i64 o, .int .i64 e, .int .i64 p, .int .i64 q, .slice (some ⟨w.heap.size + 1 + 1 + 1, 0, none⟩) ss.length ss.length]) (by simp [results, Tryd.results8, go_sem, hc]) rfl ⟨_, rfl, ?_, ?_, ?_⟩
  · exact Strs.of_row ((((((hR.setOther (by simp) _).setOther (by simp; omega) _).setOther (by simp; omega) _).setOther (by simp; omega) _).setOther (by simp; omega) _).setOther (by simp; omega) _) hz
  · exact .inr ⟨_, _, _, rfl, by omega, Nat.le_refl _, ((((((hR.setOther (by simp) _).setOther (by simp; omega) _).setOther (by simp; omega) _).setOther (by simp; omega) _).setOther (by simp; omega) _).setOther (by simp; omega) _)⟩
  · exact (((((HB.setCell (by simp; omega) _).setCell (by simp) _).setCell (by simp) _).setCell (by simp) _).setCell (by simp) _).setCell (by simp) _

set_option maxRecDepth 100000 in
set_option maxHeartbeats 8000000 in
theorem lawWr_walk (fs gs : List Fl) (ok : Bool) (b : Bt) (k : Int) (a : Option Addr) (c : Nat) (a2 : Option Addr) (c2 : Nat) (w : World) (hs : Fls w a fs) (hl : fs.length ≤ maxLen) (hb : Strs w a2 b.recs) (hbl : b.recs.length ≤ maxLen) (hg4 : gs.length ≤ 4) (hTab : TabAt w)
    (HS0 : ∀ (w : World) (a : Option Addr) (c : Nat) (a2 : Option Addr) (c2 : Nat), TabAt w → Fls w a fs → Strs w a2 b.recs → Calls Tryd.prog 6 #[.agg #[.slice a fs.length c], .int .i64 k, .agg #[.int .i64 b.off, .int .i64 b.ep, .int .i64 b.pr, .int .i64 b.sq, .slice a2 b.recs.length c2]] w fun r w' => ∃ a' c', r = .returned (.tuple #[.agg #[.slice a' gs.length c'], .bool ok]) ∧ Fls w' a' gs ∧ RowF w' w.heap.size a' gs.length ∧ Below w.heap.size w w')
    (HI0 : ∀ (w : World) (a : Option Addr) (c : Nat) (a2 : Option Addr) (c2 : Nat), TabAt w → Fls w a fs → Strs w a2 b.recs → Calls Tryd.prog 9 #[.agg #[.slice a fs.length c], .int .i64 k, .agg #[.int .i64 b.off, .int .i64 b.ep, .int .i64 b.pr, .int .i64 b.sq, .slice a2 b.recs.length c2]] w fun r w' => ∃ a' c', r = .returned (.tuple #[.agg #[.slice a' gs.length c'], .bool ok]) ∧ Fls w' a' gs ∧ RowF w' w.heap.size a' gs.length ∧ Below w.heap.size w w') :
    Calls Tryd.prog 3 #[.agg #[.slice a fs.length c], .int .i64 k, .agg #[.int .i64 b.off, .int .i64 b.ep, .int .i64 b.pr, .int .i64 b.sq, .slice a2 b.recs.length c2]] w fun r w' => r = .returned (.bool true) ∧ Below w.heap.size w w' := by
  have hw0 : 0 < w.heap.size := lt_of_cell (hTab 0 (by omega))
  have ha : ∀ (u : World) o, Below u.heap.size u (u.alloc o) := fun u o => (Below.refl _ _).alloc (Nat.le_refl _) o
  have hT : (ok != ok) = false := by cases ok <;> rfl
  have hgm : gs.length ≤ maxLen := by unfold maxLen; omega
  have HS : Hid (∀ (w : World) (a : Option Addr) (c : Nat) (a2 : Option Addr) (c2 : Nat), TabAt w → Fls w a fs → Strs w a2 b.recs → Calls Tryd.prog 6 #[.agg #[.slice a fs.length c], .int .i64 k, .agg #[.int .i64 b.off, .int .i64 b.ep, .int .i64 b.pr, .int .i64 b.sq, .slice a2 b.recs.length c2]] w fun r w' => ∃ a' c', r = .returned (.tuple #[.agg #[.slice a' gs.length c'], .bool ok]) ∧ Fls w' a' gs ∧ RowF w' w.heap.size a' gs.length ∧ Below w.heap.size w w') := HS0
  have HI : Hid (∀ (w : World) (a : Option Addr) (c : Nat) (a2 : Option Addr) (c2 : Nat), TabAt w → Fls w a fs → Strs w a2 b.recs → Calls Tryd.prog 9 #[.agg #[.slice a fs.length c], .int .i64 k, .agg #[.int .i64 b.off, .int .i64 b.ep, .int .i64 b.pr, .int .i64 b.sq, .slice a2 b.recs.length c2]] w fun r w' => ∃ a' c', r = .returned (.tuple #[.agg #[.slice a' gs.length c'], .bool ok]) ∧ Fls w' a' gs ∧ RowF w' w.heap.size a' gs.length ∧ Below w.heap.size w w') := HI0
  clear HS0 HI0
  have lA : ∀ x, InB a fs.length x → x < w.heap.size := hs.ltS
  have lB : ∀ x, InBlock a2 b.recs.length x → x < w.heap.size := hb.ltT
  have hb0 : ∀ x y, Below w.heap.size w ((w.alloc x).alloc y) := fun _ _ => ((Below.refl _ _).alloc (Nat.le_refl _) _).alloc (by simp) _
  have hs0 := fun x y => hs.below (hb0 x y)
  have hc0 := fun x y => hb.below (hb0 x y)
  have hrg := szD_range fs (left := 1048576) (by omega)
  by_cases hn : szD fs 1048576 < 0
  · go_enter Tryd.func3, Tryd.ntmps3
    go_wp2_with fail
    refine (szDisk_any _ _ _ _ _ (hs0 _ _) hl (by omega) (by omega)).mono ?_
    rintro r w1 ⟨rfl, hB1⟩
    go_wp2
    go_ret
    exact ⟨rfl, Below.stepS (hb0 _ _) hB1⟩
  have hlen : fs.length ≤ 1048576 := by have := (szD_bound (fs := fs) (left := 1048576) (by omega)).1; omega
  by_cases hn2 : szS b.recs (szD fs 1048576) < 0
  · go_enter Tryd.func3, Tryd.ntmps3
    go_wp2_with fail
    refine (szDisk_any _ _ _ _ _ (hs0 _ _) hl (by omega) (by omega)).mono ?_
    rintro r w1 ⟨rfl, hB1⟩
    have kB := box_keep (N := w.heap.size + 1) (v0 := .int .i64 b.off) (v1 := .int .i64 b.ep) (v2 := .int .i64 b.pr) (v3 := .int .i64 b.sq) (v4 := .slice a2 b.recs.length c2) hB1 (by simp)
    have HC := (hc0 _ _).below hB1
    have BB := Below.stepS (hb0 _ _) hB1
    clear hB1
    go_wp2_with fail
    refine (szBatch_any _ _ _ _ _ _ _ _ _ HC hbl (by omega) (by omega)).mono ?_
    rintro r w2 ⟨rfl, hB2⟩
    go_wp2
    go_ret
    exact ⟨rfl, Below.stepS BB hB2⟩
  have hlen2 : b.recs.length ≤ 1048576 := by have := (szS_bound (ss := b.recs) (left := szD fs 1048576) (by omega)).1; omega
  go_enter Tryd.func3, Tryd.ntmps3
  go_wp2_with fail
  refine (szDisk_any _ _ _ _ _ (hs0 _ _) hl (by omega) (by omega)).mono ?_
  rintro r w1 ⟨rfl, hB1⟩
  have cA : w1.cell? ⟨w.heap.size, 0, none⟩ = some (.slice a fs.length c) := celS hB1 (by simp)
  have kB := box_keep (N := w.heap.size + 1) (v0 := .int .i64 b.off) (v1 := .int .i64 b.ep) (v2 := .int .i64 b.pr) (v3 := .int .i64 b.sq) (v4 := .slice a2 b.recs.length c2) hB1 (by simp)
  have HA := (hs0 _ _).below hB1
  have HC := (hc0 _ _).below hB1
  have BB := Below.stepS (hb0 _ _) hB1
  clear hB1 hs0 hc0 hb0
  go_wp2_with fail
  refine (szBatch_any _ _ _ _ _ _ _ _ _ HC hbl (by omega) (by omega)).mono ?_
  rintro r w2 ⟨rfl, hB2⟩
  replace cA := celS hB2 cA
  replace kB := box_keep hB2 kB
  replace HA := HA.below hB2
  replace HC := HC.below hB2
  replace BB := Below.stepS BB hB2
  clear hB2
  go_wp2_with fail
  refine wrL8 _ w.heap.size a fs gs ok c k b a2 c2 _ _ _ _ _ _ _ _ _ _ _ _ _ _ _ _ _ _ _ _ _ _ _ _ _ _ _ _ _ _ _ _ _ _ _ _ _ _ _ _ _ _ _ _ _ _ _ _ _ _ _ _ _ _ _ _ _ _ _ _ _ _ _ _ _ _ _ _ _ _ _ _ _ _ _ _ _ _ _ _ _ _ _ _ _ _ _ _ _ _ _ _ _ _ _ _ _ _ _ _ _ _ _ _ _ _ _ _ _ _ _ _ _ _ _ _ _ _ _ _ _ _ HA hlen HC hlen2 (hTab.below BB hw0) (by have := BB.size; omega) HS ⟨cA, kB⟩ ?_
  intro v29 v30 v31 v32 v33 v34 v35 v36 v37 w3 R aw cw hB3 HW hR cW
  replace cA := celS hB3 cA
  replace kB := box_keep hB3 kB
  replace HA := HA.below hB3
  replace HC := HC.below hB3
  replace BB := Below.stepS BB hB3
  have lW : ∀ x, InB aw gs.length x → x < w3.heap.size := HW.ltS
  have lR : R < w3.heap.size := lt_of_cell cW
  have lX0 : w.heap.size + 1 < w3.heap.size := lt_of_cell kB.1
  clear hB3 HS hR
  go_wp2_with fail
  refine (toDisk_any _ _ _ _ HA hlen).mono ?_
  rintro r w4 ⟨a4, rfl, HX, RX, hB4⟩
  replace cA := fun o => celS (ha w4 o) (celS hB4 cA)
  replace cW := fun o => celS (ha w4 o) (celS hB4 cW)
  replace kB := fun o => box_keep (ha w4 o) (box_keep hB4 kB)
  replace HA := HA.below hB4
  replace HC := HC.below hB4
  replace HW := HW.below hB4
  replace BB := Below.stepS BB hB4
  have l3 : w3.heap.size ≤ w4.heap.size := hB4.size
  have lX : ∀ x, InB a4 fs.length x → w3.heap.size ≤ x ∧ x < w4.heap.size := fun x hx => RX.lt hx
  clear hB4
  go_wp2_with fail
  refine (toBatch_row _ _ _ _ _ _ _ _ (HC.below (ha _ _)) hlen2).mono ?_
  rintro r w5 ⟨a5, rfl, HY, RY, hB5⟩
  have cX : w5.cell? ⟨w4.heap.size, 0, none⟩ = some (.slice a4 fs.length fs.length) := celS hB5 (by simp)
  have l4 : w4.heap.size < w5.heap.size := lt_of_cell cX
  replace cX := fun o => celS (ha w5 o) cX
  replace cA := fun o => celS (ha w5 o) (celS hB5 (cA _))
  replace cW := fun o => celS (ha w5 o) (celS hB5 (cW _))
  replace kB := fun o => box_keep (ha w5 o) (box_keep hB5 (kB _))
  replace HA := (HA.below (ha _ _)).below hB5
  replace HC := (HC.below (ha _ _)).below hB5
  replace HW := (HW.below (ha _ _)).below hB5
  replace HX := (HX.below (ha _ _)).below hB5
  replace RX := (RX.below (ha _ _)).below hB5
  replace BB := Below.stepS (Below.stepS BB (ha _ _)) hB5
  simp only [World.size_alloc] at RY
  have lY : ∀ x, InBlock a5 b.recs.length x → w4.heap.size + 1 ≤ x ∧ x < w5.heap.size := fun x hx => RY.lt hx
  clear hB5
  go_wp2_with fail
  refine (HI.out _ _ _ _ _ (hTab.below (Below.stepS BB (ha _ _)) hw0) (HX.below (ha _ _)) (HY.below (ha _ _))).mono ?_
  rintro r w6 ⟨ag, cg, rfl, HG, RG, hB6⟩
  have kY := box_keep (N := w5.heap.size) (v0 := .int .i64 b.off) (v1 := .int .i64 b.ep) (v2 := .int .i64 b.pr) (v3 := .int .i64 b.sq) (v4 := .slice a5 b.recs.length b.recs.length) hB6 (by simp)
  have l5 : w5.heap.size < w6.heap.size := lt_of_cell kY.1
  replace kY := fun o => box_keep (ha w6 o) kY
  replace cA := fun o => celS (ha w6 o) (celS hB6 (cA _))
  replace cW := fun o => celS (ha w6 o) (celS hB6 (cW _))
  replace cX := fun o => celS (ha w6 o) (celS hB6 (cX _))
  replace kB := fun o => box_keep (ha w6 o) (box_keep hB6 (kB _))
  replace HA := (HA.below (ha _ _)).below hB6
  replace HC := (HC.below (ha _ _)).below hB6
  replace HW := (HW.below (ha _ _)).below hB6
  replace HX := (HX.below (ha _ _)).below hB6
  replace RX := (RX.below (ha _ _)).below hB6
  replace HY := (HY.below (ha _ _)).below hB6
  replace RY := (RY.below (ha _ _)).below hB6
  replace BB := Below.stepS (Below.stepS BB (ha _ _)) hB6
  simp only [World.size_alloc] at RG
  have lG : ∀ x, InB ag gs.length x → w5.heap.size + 1 ≤ x ∧ x < w6.heap.size := fun x hx => RG.lt hx
  clear hB6
  go_wp2_with fail
  refine (eqDisk_same _ _ _ _ gs _ (HG.below (ha _ _)) (HW.below (ha _ _)) hgm).mono ?_
  rintro r w7 ⟨rfl, hB7⟩
  have cG : w7.cell? ⟨w6.heap.size, 0, none⟩ = some (.slice ag gs.length cg) := celS hB7 (by simp)
  have l6 : w6.heap.size < w7.heap.size := lt_of_cell cG
  replace cA := celS hB7 (cA _)
  replace cW := celS hB7 (cW _)
  replace cX := celS hB7 (cX _)
  replace kB := box_keep hB7 (kB _)
  replace kY := box_keep hB7 (kY _)
  replace HA := (HA.below (ha _ _)).below hB7
  replace HC := (HC.below (ha _ _)).below hB7
  replace HW := (HW.below (ha _ _)).below hB7
  replace HX := (HX.below (ha _ _)).below hB7
  replace RX := (RX.below (ha _ _)).below hB7
  replace HY := (HY.below (ha _ _)).below hB7
  replace RY := (RY.below (ha _ _)).below hB7
  replace HG := (HG.below (ha _ _)).below hB7
  replace RG := (RG.below (ha _ _)).below hB7
  replace BB := Below.stepS (Below.stepS BB (ha _ _)) hB7
  clear hB7
  have kk : w7.cell? ⟨w4.heap.size, 0, none⟩ = some (.slice a4 fs.length fs.length) ∧ w7.cell? ⟨w.heap.size, 0, none⟩ = some (.slice a fs.length c) := ⟨cX, cA⟩
  go_wp2_with fail
  go_region_held3 (fun w' => w'.cell? ⟨w4.heap.size, 0, none⟩ = some (.slice a4 fs.length fs.length) ∧ w'.cell? ⟨w.heap.size, 0, none⟩ = some (.slice a fs.length c))
    (first | exact kk | go_keep)
    (first
      | (go_at_call 7; refine (toDisk_any _ _ _ _ ?_ hlen).mono ?_; exact HA.below (Below.refl _ _).drew; rintro r w8 ⟨a8, rfl, H8, -, hB8⟩; have kk := twoS hB8 (N := w4.heap.size) (M := w.heap.size) (v0 := .slice a4 fs.length fs.length) (v1 := .slice a fs.length c) (by first | exact kk | simp [cX, cA]))
      | (go_at_call 10; refine (eqDisk_same _ _ _ _ fs _ ?_ ?_ hl).mono ?_; exact (HX.below (Below.refl _ _).drew).below hB8; exact H8; rintro r w9 ⟨rfl, hB9⟩; have kk := twoS hB9 (N := w4.heap.size) (M := w.heap.size) (v0 := .slice a4 fs.length fs.length) (v1 := .slice a fs.length c) kk))
  have T9 : Below w7.heap.size w7 w9 := (((Below.refl w7.heap.size w7).drew).trans (hB8.mono (by simp))).trans (hB9.mono (by have := hB8.size; simpa using this))
  replace cA := celS T9 cA
  replace cW := celS T9 cW
  replace cX := celS T9 cX
  replace cG := celS T9 cG
  replace kB := box_keep T9 kB
  replace kY := box_keep T9 kY
  replace HA := HA.below T9
  replace HC := HC.below T9
  replace HW := HW.below T9
  replace RX := RX.below T9
  replace HY := HY.below T9
  replace RY := RY.below T9
  replace HG := HG.below T9
  replace RG := RG.below T9
  replace BB := Below.stepS BB T9
  have l9 := T9.size
  clear T9 hB8 hB9 H8 kk HX
  have kk : (w9.cell? ⟨w5.heap.size, 0, none⟩ = some (.int .i64 b.off) ∧ w9.cell? ⟨w5.heap.size, 1, none⟩ = some (.int .i64 b.ep) ∧ w9.cell? ⟨w5.heap.size, 2, none⟩ = some (.int .i64 b.pr) ∧ w9.cell? ⟨w5.heap.size, 3, none⟩ = some (.int .i64 b.sq) ∧ w9.cell? ⟨w5.heap.size, 4, none⟩ = some (.slice a5 b.recs.length b.recs.length)) ∧ w9.cell? ⟨w.heap.size + 1, 0, none⟩ = some (.int .i64 b.off) ∧ w9.cell? ⟨w.heap.size + 1, 1, none⟩ = some (.int .i64 b.ep) ∧ w9.cell? ⟨w.heap.size + 1, 2, none⟩ = some (.int .i64 b.pr) ∧ w9.cell? ⟨w.heap.size + 1, 3, none⟩ = some (.int .i64 b.sq) ∧ w9.cell? ⟨w.heap.size + 1, 4, none⟩ = some (.slice a2 b.recs.length c2) := ⟨kY, kB⟩
  have kd := kk
  have d9 : Below w9.heap.size w9 w9.drew := (Below.refl _ _).drew
  go_wp2_with fail
  go_region_held3 (fun w' => (w'.cell? ⟨w5.heap.size, 0, none⟩ = some (.int .i64 b.off) ∧ w'.cell? ⟨w5.heap.size, 1, none⟩ = some (.int .i64 b.ep) ∧ w'.cell? ⟨w5.heap.size, 2, none⟩ = some (.int .i64 b.pr) ∧ w'.cell? ⟨w5.heap.size, 3, none⟩ = some (.int .i64 b.sq) ∧ w'.cell? ⟨w5.heap.size, 4, none⟩ = some (.slice a5 b.recs.length b.recs.length)) ∧ w'.cell? ⟨w.heap.size + 1, 0, none⟩ = some (.int .i64 b.off) ∧ w'.cell? ⟨w.heap.size + 1, 1, none⟩ = some (.int .i64 b.ep) ∧ w'.cell? ⟨w.heap.size + 1, 2, none⟩ = some (.int .i64 b.pr) ∧ w'.cell? ⟨w.heap.size + 1, 3, none⟩ = some (.int .i64 b.sq) ∧ w'.cell? ⟨w.heap.size + 1, 4, none⟩ = some (.slice a2 b.recs.length c2))
    (first | exact kk | go_keep)
    (first
      | (go_at_call 8; refine (toBatch_any _ _ _ _ _ _ _ _ (HC.below d9) hlen2).mono ?_; rintro r w10 ⟨aX, rfl, H10, hB10, -⟩; have kk : (w10.cell? ⟨w5.heap.size, 0, none⟩ = some (.int .i64 b.off) ∧ w10.cell? ⟨w5.heap.size, 1, none⟩ = some (.int .i64 b.ep) ∧ w10.cell? ⟨w5.heap.size, 2, none⟩ = some (.int .i64 b.pr) ∧ w10.cell? ⟨w5.heap.size, 3, none⟩ = some (.int .i64 b.sq) ∧ w10.cell? ⟨w5.heap.size, 4, none⟩ = some (.slice a5 b.recs.length b.recs.length)) ∧ w10.cell? ⟨w.heap.size + 1, 0, none⟩ = some (.int .i64 b.off) ∧ w10.cell? ⟨w.heap.size + 1, 1, none⟩ = some (.int .i64 b.ep) ∧ w10.cell? ⟨w.heap.size + 1, 2, none⟩ = some (.int .i64 b.pr) ∧ w10.cell? ⟨w.heap.size + 1, 3, none⟩ = some (.int .i64 b.sq) ∧ w10.cell? ⟨w.heap.size + 1, 4, none⟩ = some (.slice a2 b.recs.length c2) := ⟨box_keep (Below.stepS d9 hB10) kd.1, box_keep (Below.stepS d9 hB10) kd.2⟩; have ke := kk)
      | (go_at_call 11; refine (eqBatch_same _ _ _ _ _ _ _ _ _ _ (HY.below (Below.stepS d9 hB10)) H10 hbl).mono ?_; rintro r w11 ⟨rfl, hB11⟩; have kk : (w11.cell? ⟨w5.heap.size, 0, none⟩ = some (.int .i64 b.off) ∧ w11.cell? ⟨w5.heap.size, 1, none⟩ = some (.int .i64 b.ep) ∧ w11.cell? ⟨w5.heap.size, 2, none⟩ = some (.int .i64 b.pr) ∧ w11.cell? ⟨w5.heap.size, 3, none⟩ = some (.int .i64 b.sq) ∧ w11.cell? ⟨w5.heap.size, 4, none⟩ = some (.slice a5 b.recs.length b.recs.length)) ∧ w11.cell? ⟨w.heap.size + 1, 0, none⟩ = some (.int .i64 b.off) ∧ w11.cell? ⟨w.heap.size + 1, 1, none⟩ = some (.int .i64 b.ep) ∧ w11.cell? ⟨w.heap.size + 1, 2, none⟩ = some (.int .i64 b.pr) ∧ w11.cell? ⟨w.heap.size + 1, 3, none⟩ = some (.int .i64 b.sq) ∧ w11.cell? ⟨w.heap.size + 1, 4, none⟩ = some (.slice a2 b.recs.length c2) := ⟨box_keep hB11 ke.1, box_keep hB11 ke.2⟩))
  have T11 : Below w9.heap.size w9 w11 := Below.stepS (Below.stepS d9 hB10) hB11
  replace cA := celS T11 cA
  replace cW := celS T11 cW
  replace cX := celS T11 cX
  replace cG := celS T11 cG
  replace kB := box_keep T11 kB
  replace kY := box_keep T11 kY
  replace HA := HA.below T11
  replace HC := HC.below T11
  replace HW := HW.below T11
  replace RX := RX.below T11
  replace RY := RY.below T11
  replace HG := HG.below T11
  replace RG := RG.below T11
  replace BB := Below.stepS BB T11
  have l11 := T11.size
  clear T11 d9 hB10 hB11 H10 kk kd ke HY
  obtain ⟨k1, hk1⟩ : ∃ k1, 1 + 2 * fs.length = k1 := ⟨_, rfl⟩
  have hmd := markDisk_any a4 fs.length fs.length w3.heap.size 1 w11 RX (by omega) (by omega) (by omega)
  rw [hk1] at hmd
  go_wp2_with fail
  refine hmd.mono ?_
  rintro r w12 ⟨rfl, -, -, hB12, hO12⟩
  replace cA := offW hO12 (fun h => by have := lX _ h; omega) cA
  replace kB := boxW hO12 (fun h => by have := lX _ h; omega) kB
  replace cW := offW hO12 (fun h => by have := lX _ h; omega) cW
  replace cG := offW hO12 (fun h => by have := lX _ h; omega) cG
  replace kY := boxW hO12 (fun h => by have := lX _ h; omega) kY
  replace HA := HA.of_block (fun x h => hB12.block x (by have := lA x h; omega))
  replace HC := HC.of_block (fun x h => hB12.block x (by have := lB x h; omega))
  replace HW := HW.of_block (fun x h => hB12.block x (lW x h))
  replace RY := RY.of_block (fun x h => hO12 x (RY.lt h).2 (fun h' => by have := lX x h'; have := lY x h; omega))
  replace HG := HG.of_block (fun x h => hO12 x (HG.ltS x h) (fun h' => by have := lX x h'; have := lG x h; omega))
  replace RG := RG.of_block (fun x h => hO12 x (RG.lt h).2 (fun h' => by have := lX x h'; have := lG x h; omega))
  replace BB := BB.trans (hB12.mono (by omega))
  have l12 := hB12.size
  have hk1m : k1 ≤ 2097153 := by omega
  have hk10 : 1 ≤ k1 := by omega
  clear hB12 hO12 RX cX hmd hk1
  obtain ⟨k2, hk2⟩ : ∃ k2, k1 + b.recs.length = k2 := ⟨_, rfl⟩
  have hmb := markBatch_any b.off b.ep b.pr b.sq a5 b.recs.length b.recs.length (w4.heap.size + 1) k1 w12 RY hk10 (by omega) (by omega)
  rw [hk2] at hmb
  go_wp2_with fail
  refine hmb.mono ?_
  rintro r w13 ⟨rfl, -, hB13, hO13⟩
  replace cA := offW hO13 (fun h => by have := lY _ h; omega) cA
  replace kB := boxW hO13 (fun h => by have := lY _ h; omega) kB
  replace cW := offW hO13 (fun h => by have := lY _ h; omega) cW
  replace cG := offW hO13 (fun h => by have := lY _ h; omega) cG
  replace HA := HA.of_block (fun x h => hB13.block x (by have := lA x h; omega))
  replace HC := HC.of_block (fun x h => hB13.block x (by have := lB x h; omega))
  replace HW := HW.of_block (fun x h => hB13.block x (by have := lW x h; omega))
  replace HG := HG.of_block (fun x h => hO13 x (HG.ltS x h) (fun h' => by have := lY x h'; have := lG x h; omega))
  replace RG := RG.of_block (fun x h => hO13 x (RG.lt h).2 (fun h' => by have := lY x h'; have := lG x h; omega))
  replace BB := BB.trans (hB13.mono (by omega))
  have l13 := hB13.size
  have hk : ¬ ((k2 : Int) < 0) := by omega
  clear hB13 hO13 RY kY hmb hk2 hk10 hk1m
  go_wp2_with fail
  refine (eqDisk_same _ _ _ _ gs _ HG HW hgm).mono ?_
  rintro r w14 ⟨rfl, hB14⟩
  replace cA := celS hB14 cA
  replace cW := celS hB14 cW
  replace cG := celS hB14 cG
  replace kB := box_keep hB14 kB
  replace HA := HA.below hB14
  replace HC := HC.below hB14
  replace HW := HW.below hB14
  replace RG := RG.below hB14
  replace BB := Below.stepS BB hB14
  have l14 := hB14.size
  clear hB14 HG hk
  go_wp2_with fail
  refine (markDisk_any _ _ _ (w5.heap.size + 1) 1 _ RG (by omega) (by omega) (by omega)).mono ?_
  rintro r w15 ⟨rfl, HM, -, hB15, hO15⟩
  replace cA := offW hO15 (fun h => by have := lG _ h; omega) cA
  replace kB := boxW hO15 (fun h => by have := lG _ h; omega) kB
  replace cW := offW hO15 (fun h => by have := lG _ h; omega) cW
  replace cG := offW hO15 (fun h => by have := lG _ h; omega) cG
  replace HA := HA.of_block (fun x h => hB15.block x (by have := lA x h; omega))
  replace HC := HC.of_block (fun x h => hB15.block x (by have := lB x h; omega))
  replace HW := HW.of_block (fun x h => hB15.block x (by have := lW x h; omega))
  replace BB := BB.trans (hB15.mono (by omega))
  have hm : (((1 + 2 * gs.length : Nat) : Int) != ((1 + 2 * gs.length : Nat) : Int)) = false := by simp
  have hp : ¬ (((1 + 2 * gs.length : Nat) : Int) < 0) := by omega
  clear hB15 hO15 RG
  go_wp2_with fail
  refine (heldDisk_any _ _ gs.length 1 _ HM (by omega) (by omega)).mono ?_
  rintro r w16 ⟨rfl, hB16⟩
  replace cA := celS hB16 cA
  replace cW := celS hB16 cW
  replace cG := celS hB16 cG
  replace kB := box_keep hB16 kB
  replace HA := HA.below hB16
  replace HC := HC.below hB16
  replace HW := HW.below hB16
  replace HM := HM.below hB16
  replace BB := Below.stepS BB hB16
  clear hB16
  go_wp2_with fail
  refine wrL31 _ w.heap.size a fs gs ok c k b a2 c2 _ _ _ _ _ _ _ _ _ _ _ _ _ _ _ _ _ _ _ _ _ _ _ _ _ _ _ _ _ _ _ _ _ _ _ _ _ _ _ _ _ _ _ _ _ _ _ _ _ _ _ _ _ _ _ _ _ _ _ _ _ _ _ _ _ _ _ _ _ _ _ _ _ _ _ _ _ _ _ _ _ _ _ _ _ _ _ _ _ _ _ _ _ _ _ _ _ _ _ _ _ _ _ _ _ _ _ _ _ _ _ _ _ _ _ _ _ _ _ _ _ _ HA hlen HC hlen2 (hTab.below BB hw0) (by have := BB.size; omega) HI ⟨cA, kB⟩ ?_
  intro v98 v99 v100 v101 v102 v103 v104 v105 v106 w17 R2 ah ch hB17 HH hR2 cH
  replace cW := celS hB17 cW
  replace cG := celS hB17 cG
  replace HW := HW.below hB17
  replace HM := HM.below hB17
  replace BB := Below.stepS BB hB17
  clear hB17 HI HA HC cA kB hR2
  go_wp2_with fail
  refine (eqDisk_same _ _ _ _ gs _ HH HW hgm).mono ?_
  rintro r w18 ⟨rfl, hB18⟩
  replace cG := celS hB18 cG
  replace HM := HM.below hB18
  replace BB := Below.stepS BB hB18
  clear hB18 HH HW cW cH
  go_wp2_with fail
  refine (heldDisk_any _ _ gs.length 1 _ HM (by omega) (by omega)).mono ?_
  rintro r w19 ⟨rfl, hB19⟩
  replace BB := Below.stepS BB hB19
  clear hB19 HM
  go_wp2
  go_ret
  exact ⟨rfl, BB⟩

theorem wrote_len (fs : List Fl) (k : Int) (b : Bt) : (filesOf (wrote fs k b)).length ≤ 4 := by
  unfold wrote
  split
  · unfold chg
    split
    · rename_i h
      have := (goodD_t (inF_t h).1).2.1
      cases (fs[k.toNat]?.bind (entryF b (encS b.off b.ep b.pr b.sq b.recs))) with
      | none => simp [filesOf]
      | some f => simpa [filesOf] using this
    · simp [filesOf]
  · simp [filesOf]

theorem lawWr_any (fs : List Fl) (k : Int) (b : Bt) (a : Option Addr) (c : Nat) (a2 : Option Addr) (c2 : Nat) (w : World) (hs : Fls w a fs) (hl : fs.length ≤ maxLen) (hb : Strs w a2 b.recs) (hbl : b.recs.length ≤ maxLen) (hTab : TabAt w) :
    Calls Tryd.prog 3 #[.agg #[.slice a fs.length c], .int .i64 k, .agg #[.int .i64 b.off, .int .i64 b.ep, .int .i64 b.pr, .int .i64 b.sq, .slice a2 b.recs.length c2]] w fun r w' => r = .returned (.bool true) ∧ Below w.heap.size w w' :=
  lawWr_walk fs (filesOf (wrote fs k b)) (wrote fs k b).isSome b k a c a2 c2 w hs hl hb hbl (wrote_len fs k b) hTab
    (fun w a c a2 c2 _ h g => specWrite_any a c fs k b a2 c2 w h hl g hbl)
    (fun w a c a2 c2 hT h g => implWrite_any a c fs k b a2 c2 w h hl g hbl hT (encS_small _ _ _ _ _))

end Go.Proofs.YteklkdnkfgfdiaaDoor
