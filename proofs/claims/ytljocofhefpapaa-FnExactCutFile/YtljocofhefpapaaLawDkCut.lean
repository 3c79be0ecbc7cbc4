/-
  The walk of the law FnExactCutFile, the contracts of spec.CutFile and impl.CutFile given: at every disk that can be read it answers true and leaves what was there as it was.
-/
import Derived.Test.YtljocofhefpapaaDsk2
import Derived.Deep.RegionHeld3
namespace Go.Proofs.Ytljocofhefpapaa
open Go.RowKit

theorem Below.stepCut {W a b : World} (h : Below W.heap.size W a) (k : Below a.heap.size a b) : Below W.heap.size W b := h.trans (k.mono h.size)

theorem celCut {w w' : World} {b o : Nat} {v : Value} (hb : Below w.heap.size w w') (h : w.cell? ⟨b, o, none⟩ = some v) : w'.cell? ⟨b, o, none⟩ = some v := (hb.cell (p := ⟨b, o, none⟩) (lt_of_cell h)).trans h

theorem twoCut {W w1 : World} {N M : Nat} {v0 v1 : Value} (hB : Below W.heap.size W w1) (h : W.cell? ⟨N, 0, none⟩ = some v0 ∧ W.cell? ⟨M, 0, none⟩ = some v1) : w1.cell? ⟨N, 0, none⟩ = some v0 ∧ w1.cell? ⟨M, 0, none⟩ = some v1 :=
  ⟨celCut hB h.1, celCut hB h.2⟩

theorem offCut {w w' : World} {a : Option Addr} {n b o : Nat} {v : Value} (hO : ∀ b, b < w.heap.size → ¬ InB a n b → w'.heap[b]? = w.heap[b]?) (hn : ¬ InB a n b) (h : w.cell? ⟨b, o, none⟩ = some v) : w'.cell? ⟨b, o, none⟩ = some v :=
  (World.cell?_of_block (a := ⟨b, o, none⟩) (hO b (lt_of_cell h) hn)).trans h

/-- Files that lie in blocks below B stay, where what is marked lies from B on. -/
theorem Fls.farCut {w w' : World} {a : Option Addr} {fs : List Fl} {B : Nat} (h : Fls w a fs) (hb : Below B w w') (hlt : ∀ b, InB a fs.length b → b < B) : Fls w' a fs :=
  h.of_block fun b hi => hb.block b (hlt b hi)

theorem Fls.ltCut {w : World} {a : Option Addr} {fs : List Fl} (h : Fls w a fs) : ∀ b, InB a fs.length b → b < w.heap.size := fun b ⟨h0, o, s, e⟩ => by
  obtain ⟨f, hf⟩ := getFl (fs := fs) h0
  obtain ⟨k, o', e', hc, -⟩ := h 0 f hf
  rw [e'] at e
  simp only [Option.some.injEq, Addr.mk.injEq] at e
  have := lt_of_cell hc
  omega

set_option maxRecDepth 100000 in
set_option maxHeartbeats 8000000 in
theorem lawCutFile_any (fs gs : List Fl) (ok : Bool) (file at_ : Int) (a : Option Addr) (c : Nat) (w : World) (hs : Fls w a fs) (hl : fs.length ≤ maxLen) (hg : gs.length ≤ 4) 
    (HS0 : ∀ (w : World) (a : Option Addr) (c : Nat), Fls w a fs → Calls Try.prog 27 #[.agg #[.slice a fs.length c], .int .i64 file, .int .i64 at_] w fun r w' => ∃ a' c', r = .returned (.tuple #[.agg #[.slice a' gs.length c'], .bool ok]) ∧ Fls w' a' gs ∧ RowF w' w.heap.size a' gs.length ∧ Below w.heap.size w w')
    (HI0 : ∀ (w : World) (a : Option Addr) (c : Nat), Fls w a fs → Calls Try.prog 28 #[.agg #[.slice a fs.length c], .int .i64 file, .int .i64 at_] w fun r w' => ∃ a' c', r = .returned (.tuple #[.agg #[.slice a' gs.length c'], .bool ok]) ∧ Fls w' a' gs ∧ RowF w' w.heap.size a' gs.length ∧ Below w.heap.size w w') :
    Calls Try.prog 8 #[.agg #[.slice a fs.length c], .int .i64 file, .int .i64 at_] w fun r w' => r = .returned (.bool true) ∧ Below w.heap.size w w' := by
  have ha : ∀ (u : World) o, Below u.heap.size u (u.alloc o) := fun u o => (Below.refl _ _).alloc (Nat.le_refl _) o
  have hT : (ok != ok) = false := by cases ok <;> rfl
  have hgm : gs.length ≤ maxLen := by unfold maxLen; omega
  have HS : Hid (∀ (w : World) (a : Option Addr) (c : Nat), Fls w a fs → Calls Try.prog 27 #[.agg #[.slice a fs.length c], .int .i64 file, .int .i64 at_] w fun r w' => ∃ a' c', r = .returned (.tuple #[.agg #[.slice a' gs.length c'], .bool ok]) ∧ Fls w' a' gs ∧ RowF w' w.heap.size a' gs.length ∧ Below w.heap.size w w') := HS0
  have HI : Hid (∀ (w : World) (a : Option Addr) (c : Nat), Fls w a fs → Calls Try.prog 28 #[.agg #[.slice a fs.length c], .int .i64 file, .int .i64 at_] w fun r w' => ∃ a' c', r = .returned (.tuple #[.agg #[.slice a' gs.length c'], .bool ok]) ∧ Fls w' a' gs ∧ RowF w' w.heap.size a' gs.length ∧ Below w.heap.size w w') := HI0
  clear HS0 HI0
  have lA : ∀ b, InB a fs.length b → b < w.heap.size := hs.ltCut
  have hb0 : Below w.heap.size w (w.alloc (.cells #[.slice a fs.length c] 32)) := (Below.refl _ _).alloc (Nat.le_refl _) _
  have hs0 := hs.below hb0
  by_cases hn : szD fs 1048576 < 0
  · go_enter Try.func8, Try.ntmps8
    go_wp2_with fail
    refine (szDisk_any _ _ _ _ _ hs0 hl (by omega) (by omega)).mono ?_
    rintro r w1 ⟨rfl, hB1⟩
    go_wp2
    go_ret
    exact ⟨rfl, Below.stepCut hb0 hB1⟩
  have hlen : fs.length ≤ 1048576 := by have := (szD_bound (fs := fs) (left := 1048576) (by omega)).1; omega
  go_enter Try.func8, Try.ntmps8
  go_wp2_with fail
  refine (szDisk_any _ _ _ _ _ hs0 hl (by omega) (by omega)).mono ?_
  rintro r w1 ⟨rfl, hB1⟩
  have cA : w1.cell? ⟨w.heap.size, 0, none⟩ = some (.slice a fs.length c) := celCut hB1 (by simp)
  have HA := hs0.below hB1
  have BB := Below.stepCut hb0 hB1
  clear hB1 hs0 hb0
  go_wp2_with fail
  refine (toDisk_any _ _ _ _ HA hlen).mono ?_
  rintro r w2 ⟨a2, rfl, H2, -, hB2⟩
  replace cA := celCut hB2 cA
  replace HA := HA.below hB2
  replace BB := Below.stepCut BB hB2
  clear hB2
  go_wp2_with fail
  refine (HS.out _ _ _ H2).mono ?_
  rintro r w3 ⟨aw, cw, rfl, HW, -, hB3⟩
  replace cA := fun o => celCut (ha w3 o) (celCut hB3 cA)
  replace HA := HA.below hB3
  replace BB := Below.stepCut BB hB3
  have lW : ∀ b, InB aw gs.length b → b < w3.heap.size := HW.ltCut
  have lX0 : w.heap.size ≤ w3.heap.size := BB.size
  clear hB3 H2 HS
  go_wp2_with fail
  refine (toDisk_any _ _ _ _ (HA.below (ha _ _)) hlen).mono ?_
  rintro r w4 ⟨a4, rfl, HX, RX, hB4⟩
  replace cA := fun o => celCut (ha w4 o) (celCut hB4 (cA _))
  have cW : w4.cell? ⟨w3.heap.size, 0, none⟩ = some (.slice aw gs.length cw) := celCut hB4 (by simp)
  replace cW := fun o => celCut (ha w4 o) cW
  replace HA := (HA.below (ha _ _)).below hB4
  have HW := (HW.below (ha _ _)).below hB4
  replace BB := Below.stepCut (Below.stepCut BB (ha _ _)) hB4
  have l3 : w3.heap.size < w4.heap.size := by have := hB4.size; simp only [World.size_alloc] at this; omega
  simp only [World.size_alloc] at RX
  have lX : ∀ b, InB a4 fs.length b → w3.heap.size + 1 ≤ b ∧ b < w4.heap.size := fun b hb => RX.lt hb
  clear hB4
  go_wp2_with fail
  refine (HI.out _ _ _ (HX.below (ha _ _))).mono ?_
  rintro r w5 ⟨ag, cg, rfl, HG, RG, hB5⟩
  replace cA := fun o => celCut (ha w5 o) (celCut hB5 (cA _))
  replace cW := fun o => celCut (ha w5 o) (celCut hB5 (cW _))
  have cX : w5.cell? ⟨w4.heap.size, 0, none⟩ = some (.slice a4 fs.length fs.length) := celCut hB5 (by simp)
  replace cX := fun o => celCut (ha w5 o) cX
  replace HA := (HA.below (ha _ _)).below hB5
  replace HW := (HW.below (ha _ _)).below hB5
  have HX := (HX.below (ha _ _)).below hB5
  have RX := (RX.below (ha _ _)).below hB5
  replace BB := Below.stepCut (Below.stepCut BB (ha _ _)) hB5
  have l4 : w4.heap.size < w5.heap.size := by have := hB5.size; simp only [World.size_alloc] at this; omega
  simp only [World.size_alloc] at RG
  have lG : ∀ b, InB ag gs.length b → w4.heap.size + 1 ≤ b ∧ b < w5.heap.size := fun b hb => RG.lt hb
  clear hB5
  go_wp2_with fail
  refine (eqDisk_same _ _ _ _ gs _ (HG.below (ha _ _)) (HW.below (ha _ _)) hgm).mono ?_
  rintro r w6 ⟨rfl, hB6⟩
  replace cA := celCut hB6 (cA _)
  replace cW := celCut hB6 (cW _)
  replace cX := celCut hB6 (cX _)
  have cG : w6.cell? ⟨w5.heap.size, 0, none⟩ = some (.slice ag gs.length cg) := celCut hB6 (by simp)
  replace HA := (HA.below (ha _ _)).below hB6
  replace HW := (HW.below (ha _ _)).below hB6
  replace HX := (HX.below (ha _ _)).below hB6
  replace RX := (RX.below (ha _ _)).below hB6
  have HG := (HG.below (ha _ _)).below hB6
  have RG := (RG.below (ha _ _)).below hB6
  replace BB := Below.stepCut (Below.stepCut BB (ha _ _)) hB6
  have l5 : w5.heap.size < w6.heap.size := by have := hB6.size; simp only [World.size_alloc] at this; omega
  clear hB6
  go_wp2_with fail
  go_region_held3 (fun w' => w'.cell? ⟨w4.heap.size, 0, none⟩ = some (.slice a4 fs.length fs.length) ∧ w'.cell? ⟨w.heap.size, 0, none⟩ = some (.slice a fs.length c))
    (first | exact kk | go_keep)
    (first
      | (go_at_call 16; refine (toDisk_any _ _ _ _ ?_ hlen).mono ?_; exact HA.below (Below.refl _ _).drew; rintro r w7 ⟨a7, rfl, H7, -, hB7⟩; have kk := twoCut hB7 (N := w4.heap.size) (M := w.heap.size) (v0 := .slice a4 fs.length fs.length) (v1 := .slice a fs.length c) (by first | exact kk | simp [cX, cA]))
      | (go_at_call 11; refine (eqDisk_same _ _ _ _ fs _ ?_ ?_ hl).mono ?_; exact (HX.below (Below.refl _ _).drew).below hB7; exact H7; rintro r w8 ⟨rfl, hB8⟩; have kk := twoCut hB8 (N := w4.heap.size) (M := w.heap.size) (v0 := .slice a4 fs.length fs.length) (v1 := .slice a fs.length c) kk))
  have T8 : Below w6.heap.size w6 w8 := (((Below.refl w6.heap.size w6).drew).trans (hB7.mono (by simp))).trans (hB8.mono (by have := hB7.size; simpa using this))
  replace cA := celCut T8 cA
  replace cW := celCut T8 cW
  replace cX := celCut T8 cX
  replace cG := celCut T8 cG
  replace HA := HA.below T8
  replace HW := HW.below T8
  replace HG := HG.below T8
  replace RX := RX.below T8
  replace RG := RG.below T8
  replace BB := Below.stepCut BB T8
  have l8 := T8.size
  have l0 : w.heap.size < w3.heap.size + 1 := by
    have := lt_of_cell cA
    have := lX0
    omega
  clear T8 hB7 hB8 H7 kk HX
  go_wp2_with fail
  refine (markDisk_any _ _ _ (w3.heap.size + 1) 1 _ RX (by omega) (by omega) (by omega)).mono ?_
  rintro r w9 ⟨rfl, -, -, hB9, hO9⟩
  replace cA := offCut hO9 (fun h => by have := lX _ h; omega) cA
  replace cW := offCut hO9 (fun h => by have := lX _ h; omega) cW
  replace cG := offCut hO9 (fun h => by have := lX _ h; omega) cG
  replace HA := HA.farCut hB9 (fun b h => by have := lA b h; omega)
  replace HW := HW.farCut hB9 (fun b h => by have := lW b h; omega)
  replace HG := HG.of_block (fun b h => hO9 b (HG.ltCut b h) (fun h' => by have := lX b h'; have := lG b h; omega))
  replace RG := RG.of_block (fun b h => hO9 b (RG.lt h).2 (fun h' => by have := lX b h'; have := lG b h; omega))
  replace BB := BB.trans (hB9.mono (by omega))
  have l9 := hB9.size
  have hk : ¬ (((1 + 2 * fs.length : Nat) : Int) < 0) := by omega
  clear hB9 hO9 RX cX
  go_wp2_with fail
  refine (eqDisk_same _ _ _ _ gs _ HG HW hgm).mono ?_
  rintro r w10 ⟨rfl, hB10⟩
  replace cA := celCut hB10 cA
  replace cW := celCut hB10 cW
  replace cG := celCut hB10 cG
  replace HA := HA.below hB10
  replace HW := HW.below hB10
  replace RG := RG.below hB10
  replace BB := Below.stepCut BB hB10
  have l10 := hB10.size
  clear hB10 HG hk
  go_wp2_with fail
  refine (markDisk_any _ _ _ (w4.heap.size + 1) 1 _ RG (by omega) (by omega) (by omega)).mono ?_
  rintro r w11 ⟨rfl, HM, -, hB11, hO11⟩
  replace cA := offCut hO11 (fun h => by have := lG _ h; omega) cA
  replace cW := offCut hO11 (fun h => by have := lG _ h; omega) cW
  replace cG := offCut hO11 (fun h => by have := lG _ h; omega) cG
  replace HA := HA.farCut hB11 (fun b h => by have := lA b h; omega)
  replace HW := HW.farCut hB11 (fun b h => by have := lW b h; omega)
  replace BB := BB.trans (hB11.mono (by omega))
  have hm : (((1 + 2 * gs.length : Nat) : Int) != ((1 + 2 * gs.length : Nat) : Int)) = false := by simp
  have hp : ¬ (((1 + 2 * gs.length : Nat) : Int) < 0) := by omega
  clear hB11 hO11 RG
  go_wp2_with fail
  refine (heldDisk_any _ _ gs.length 1 _ HM (by omega) (by omega)).mono ?_
  rintro r w12 ⟨rfl, hB12⟩
  replace cA := celCut hB12 cA
  replace cW := celCut hB12 cW
  replace cG := celCut hB12 cG
  replace HA := HA.below hB12
  replace HW := HW.below hB12
  have HM := HM.below hB12
  replace BB := Below.stepCut BB hB12
  clear hB12
  go_wp2_with fail
  refine (toDisk_any _ _ _ _ HA hlen).mono ?_
  rintro r w13 ⟨a13, rfl, H13, -, hB13⟩
  replace cW := celCut hB13 cW
  replace cG := celCut hB13 cG
  replace HW := HW.below hB13
  replace HM := HM.below hB13
  replace BB := Below.stepCut BB hB13
  clear hB13 HA cA
  go_wp2_with fail
  refine (HI.out _ _ _ H13).mono ?_
  rintro r w14 ⟨ah, ch, rfl, HH, -, hB14⟩
  replace cW := fun o => celCut (ha w14 o) (celCut hB14 cW)
  replace cG := fun o => celCut (ha w14 o) (celCut hB14 cG)
  replace HW := HW.below hB14
  replace HM := HM.below hB14
  replace BB := Below.stepCut BB hB14
  clear hB14 H13 HI
  go_wp2_with fail
  refine (eqDisk_same _ _ _ _ gs _ (HH.below (ha _ _)) (HW.below (ha _ _)) hgm).mono ?_
  rintro r w15 ⟨rfl, hB15⟩
  replace cG := celCut hB15 (cG _)
  replace HM := (HM.below (ha _ _)).below hB15
  replace BB := Below.stepCut (Below.stepCut BB (ha _ _)) hB15
  clear hB15 HH HW cW
  go_wp2_with fail
  refine (heldDisk_any _ _ gs.length 1 _ HM (by omega) (by omega)).mono ?_
  rintro r w16 ⟨rfl, hB16⟩
  replace BB := Below.stepCut BB hB16
  clear hB16 HM
  go_wp2
  go_ret
  exact ⟨rfl, BB⟩

end Go.Proofs.Ytljocofhefpapaa
