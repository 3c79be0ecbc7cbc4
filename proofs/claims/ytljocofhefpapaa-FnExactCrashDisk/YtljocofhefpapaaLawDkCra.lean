/-
  The walk of the law FnExactCrashDisk, the contracts of spec.CrashDisk and impl.CrashDisk given: at every disk that can be read it answers true and leaves what was there as it was.
-/
import Derived.Test.YtljocofhefpapaaDsk2
import Derived.Test.YtljocofhefpapaaInts
import Derived.Deep.RegionHeld3
namespace Go.Proofs.Ytljocofhefpapaa
open Go.RowKit

theorem Below.stepCra {W a b : World} (h : Below W.heap.size W a) (k : Below a.heap.size a b) : Below W.heap.size W b := h.trans (k.mono h.size)

theorem celCra {w w' : World} {b o : Nat} {v : Value} (hb : Below w.heap.size w w') (h : w.cell? ⟨b, o, none⟩ = some v) : w'.cell? ⟨b, o, none⟩ = some v := (hb.cell (p := ⟨b, o, none⟩) (lt_of_cell h)).trans h

theorem twoCra {W w1 : World} {N M : Nat} {v0 v1 : Value} (hB : Below W.heap.size W w1) (h : W.cell? ⟨N, 0, none⟩ = some v0 ∧ W.cell? ⟨M, 0, none⟩ = some v1) : w1.cell? ⟨N, 0, none⟩ = some v0 ∧ w1.cell? ⟨M, 0, none⟩ = some v1 :=
  ⟨celCra hB h.1, celCra hB h.2⟩

theorem offCra {w w' : World} {a : Option Addr} {n b o : Nat} {v : Value} (hO : ∀ b, b < w.heap.size → ¬ InB a n b → w'.heap[b]? = w.heap[b]?) (hn : ¬ InB a n b) (h : w.cell? ⟨b, o, none⟩ = some v) : w'.cell? ⟨b, o, none⟩ = some v :=
  (World.cell?_of_block (a := ⟨b, o, none⟩) (hO b (lt_of_cell h) hn)).trans h

theorem offICra {w w' : World} {a : Option Addr} {n b o : Nat} {v : Value} (hO : ∀ b, b < w.heap.size → ¬ InI a n b → w'.heap[b]? = w.heap[b]?) (hn : ¬ InI a n b) (h : w.cell? ⟨b, o, none⟩ = some v) : w'.cell? ⟨b, o, none⟩ = some v :=
  (World.cell?_of_block (a := ⟨b, o, none⟩) (hO b (lt_of_cell h) hn)).trans h

/-- Files that lie in blocks below B stay, where what is marked lies from B on. -/
theorem Fls.farCra {w w' : World} {a : Option Addr} {fs : List Fl} {B : Nat} (h : Fls w a fs) (hb : Below B w w') (hlt : ∀ b, InB a fs.length b → b < B) : Fls w' a fs :=
  h.of_block fun b hi => hb.block b (hlt b hi)

theorem Fls.ltCra {w : World} {a : Option Addr} {fs : List Fl} (h : Fls w a fs) : ∀ b, InB a fs.length b → b < w.heap.size := fun b ⟨h0, o, s, e⟩ => by
  obtain ⟨f, hf⟩ := getFl (fs := fs) h0
  obtain ⟨k, o', e', hc, -⟩ := h 0 f hf
  rw [e'] at e
  simp only [Option.some.injEq, Addr.mk.injEq] at e
  have := lt_of_cell hc
  omega

set_option maxRecDepth 100000 in
set_option maxHeartbeats 8000000 in
theorem lawCrashDisk_any (fs gs : List Fl) (ok : Bool) (ks : List Int) (a : Option Addr) (c : Nat) (ak : Option Addr) (ck : Nat) (w : World) (hs : Fls w a fs) (hl : fs.length ≤ maxLen) (hg : gs.length ≤ 4) (hk : Ints w ak ks) (hkl : ks.length ≤ maxLen) 
    (HS0 : ∀ (w : World) (a : Option Addr) (c : Nat) (ak : Option Addr) (ck : Nat), Fls w a fs → Ints w ak ks → Calls Try.prog 22 #[.agg #[.slice a fs.length c], .slice ak ks.length ck] w fun r w' => ∃ a' c', r = .returned (.tuple #[.agg #[.slice a' gs.length c'], .bool ok]) ∧ Fls w' a' gs ∧ RowF w' w.heap.size a' gs.length ∧ Below w.heap.size w w')
    (HI0 : ∀ (w : World) (a : Option Addr) (c : Nat) (ak : Option Addr) (ck : Nat), Fls w a fs → Ints w ak ks → Calls Try.prog 24 #[.agg #[.slice a fs.length c], .slice ak ks.length ck] w fun r w' => ∃ a' c', r = .returned (.tuple #[.agg #[.slice a' gs.length c'], .bool ok]) ∧ Fls w' a' gs ∧ RowF w' w.heap.size a' gs.length ∧ Below w.heap.size w w') :
    Calls Try.prog 7 #[.agg #[.slice a fs.length c], .slice ak ks.length ck] w fun r w' => r = .returned (.bool true) ∧ Below w.heap.size w w' := by
  have ha : ∀ (u : World) o, Below u.heap.size u (u.alloc o) := fun u o => (Below.refl _ _).alloc (Nat.le_refl _) o
  have hT : (ok != ok) = false := by cases ok <;> rfl
  have hgm : gs.length ≤ maxLen := by unfold maxLen; omega
  have HS : Hid (∀ (w : World) (a : Option Addr) (c : Nat) (ak : Option Addr) (ck : Nat), Fls w a fs → Ints w ak ks → Calls Try.prog 22 #[.agg #[.slice a fs.length c], .slice ak ks.length ck] w fun r w' => ∃ a' c', r = .returned (.tuple #[.agg #[.slice a' gs.length c'], .bool ok]) ∧ Fls w' a' gs ∧ RowF w' w.heap.size a' gs.length ∧ Below w.heap.size w w') := HS0
  have HI : Hid (∀ (w : World) (a : Option Addr) (c : Nat) (ak : Option Addr) (ck : Nat), Fls w a fs → Ints w ak ks → Calls Try.prog 24 #[.agg #[.slice a fs.length c], .slice ak ks.length ck] w fun r w' => ∃ a' c', r = .returned (.tuple #[.agg #[.slice a' gs.length c'], .bool ok]) ∧ Fls w' a' gs ∧ RowF w' w.heap.size a' gs.length ∧ Below w.heap.size w w') := HI0
  clear HS0 HI0
  have lA : ∀ b, InB a fs.length b → b < w.heap.size := hs.ltCra
  have hb0 : Below w.heap.size w (w.alloc (.cells #[.slice a fs.length c] 32)) := (Below.refl _ _).alloc (Nat.le_refl _) _
  have hs0 := hs.below hb0
  have lI : ∀ b, InI ak ks.length b → b < w.heap.size := hk.lt
  have hk0 := hk.below hb0
  have hkm : ks.length ≤ maxLen := hkl
  unfold maxLen at hkl
  by_cases hbig : (1048576 : Int) < ks.length
  · go_enter Try.func7, Try.ntmps7
    go_wp2
    go_ret
    exact ⟨rfl, hb0⟩
  have hkn : ks.length ≤ 1048576 := by omega
  by_cases hn : szD fs 1048576 < 0
  · go_enter Try.func7, Try.ntmps7
    go_wp2_with fail
    refine (szDisk_any _ _ _ _ _ hs0 hl (by omega) (by omega)).mono ?_
    rintro r w1 ⟨rfl, hB1⟩
    go_wp2
    go_ret
    exact ⟨rfl, Below.stepCra hb0 hB1⟩
  have hlen : fs.length ≤ 1048576 := by have := (szD_bound (fs := fs) (left := 1048576) (by omega)).1; omega
  go_enter Try.func7, Try.ntmps7
  go_wp2_with fail
  refine (szDisk_any _ _ _ _ _ hs0 hl (by omega) (by omega)).mono ?_
  rintro r w1 ⟨rfl, hB1⟩
  have cA : w1.cell? ⟨w.heap.size, 0, none⟩ = some (.slice a fs.length c) := celCra hB1 (by simp)
  have HA := hs0.below hB1
  have KA := hk0.below hB1
  have BB := Below.stepCra hb0 hB1
  clear hB1 hs0 hb0 hk0
  go_wp2_with fail
  refine (toDisk_any _ _ _ _ HA hlen).mono ?_
  rintro r w2 ⟨a2, rfl, H2, -, hB2⟩
  replace cA := celCra hB2 cA
  replace HA := HA.below hB2
  replace KA := KA.below hB2
  replace BB := Below.stepCra BB hB2
  clear hB2
  go_wp2_with fail
  refine (toIntS_any _ _ _ _ KA hkn).mono ?_
  rintro r w2i ⟨a2i, rfl, K2, -, hB2i⟩
  replace cA := celCra hB2i cA
  replace HA := HA.below hB2i
  replace KA := KA.below hB2i
  replace H2 := H2.below hB2i
  replace BB := Below.stepCra BB hB2i
  clear hB2i
  go_wp2_with fail
  refine (HS.out _ _ _ _ _ H2 K2).mono ?_
  rintro r w3 ⟨aw, cw, rfl, HW, -, hB3⟩
  replace cA := fun o => celCra (ha w3 o) (celCra hB3 cA)
  replace HA := HA.below hB3
  replace KA := KA.below hB3
  replace BB := Below.stepCra BB hB3
  have lW : ∀ b, InB aw gs.length b → b < w3.heap.size := HW.ltCra
  have lX0 : w.heap.size ≤ w3.heap.size := BB.size
  clear hB3 H2 K2 HS
  go_wp2_with fail
  refine (toDisk_any _ _ _ _ (HA.below (ha _ _)) hlen).mono ?_
  rintro r w4 ⟨a4, rfl, HX, RX, hB4⟩
  replace cA := fun o => celCra (ha w4 o) (celCra hB4 (cA _))
  have cW : w4.cell? ⟨w3.heap.size, 0, none⟩ = some (.slice aw gs.length cw) := celCra hB4 (by simp)
  replace cW := fun o => celCra (ha w4 o) cW
  replace HA := (HA.below (ha _ _)).below hB4
  have HW := (HW.below (ha _ _)).below hB4
  replace BB := Below.stepCra (Below.stepCra BB (ha _ _)) hB4
  have l3 : w3.heap.size < w4.heap.size := by have := hB4.size; simp only [World.size_alloc] at this; omega
  simp only [World.size_alloc] at RX
  have lX : ∀ b, InB a4 fs.length b → w3.heap.size + 1 ≤ b ∧ b < w4.heap.size := fun b hb => RX.lt hb
  replace KA := (KA.below (ha _ _)).below hB4
  clear hB4
  go_wp2_with fail
  refine (toIntS_any _ _ _ _ (KA.below (ha _ _)) hkn).mono ?_
  rintro r w4i ⟨a4i, rfl, KX, RK, hB4i⟩
  replace cA := celCra hB4i (cA _)
  replace cW := celCra hB4i (cW _)
  have cX : w4i.cell? ⟨w4.heap.size, 0, none⟩ = some (.slice a4 fs.length fs.length) := celCra hB4i (by simp)
  replace HA := (HA.below (ha _ _)).below hB4i
  replace KA := (KA.below (ha _ _)).below hB4i
  replace HW := (HW.below (ha _ _)).below hB4i
  replace HX := (HX.below (ha _ _)).below hB4i
  replace RX := (RX.below (ha _ _)).below hB4i
  replace BB := Below.stepCra (Below.stepCra BB (ha _ _)) hB4i
  simp only [World.size_alloc] at RK
  have lKx : ∀ b, InI a4i ks.length b → w4.heap.size + 1 ≤ b ∧ b < w4i.heap.size := fun b hb => RK.lt hb
  have l4i : w4.heap.size < w4i.heap.size := lt_of_cell cX
  clear hB4i
  go_wp2_with fail
  refine (HI.out _ _ _ _ _ HX KX).mono ?_
  rintro r w5 ⟨ag, cg, rfl, HG, RG, hB5⟩
  replace cA := fun o => celCra (ha w5 o) (celCra hB5 cA)
  replace cW := fun o => celCra (ha w5 o) (celCra hB5 cW)
  replace cX := fun o => celCra (ha w5 o) (celCra hB5 cX)
  replace HA := HA.below hB5
  replace KA := KA.below hB5
  replace KX := KX.below hB5
  replace RK := RK.below hB5
  replace HW := HW.below hB5
  replace HX := HX.below hB5
  replace RX := RX.below hB5
  replace BB := Below.stepCra BB hB5
  have l4 : w4i.heap.size ≤ w5.heap.size := hB5.size
  have lG : ∀ b, InB ag gs.length b → w4i.heap.size ≤ b ∧ b < w5.heap.size := fun b hb => RG.lt hb
  clear hB5
  go_wp2_with fail
  refine (eqDisk_same _ _ _ _ gs _ (HG.below (ha _ _)) (HW.below (ha _ _)) hgm).mono ?_
  rintro r w6 ⟨rfl, hB6⟩
  replace cA := celCra hB6 (cA _)
  replace cW := celCra hB6 (cW _)
  replace cX := celCra hB6 (cX _)
  have cG : w6.cell? ⟨w5.heap.size, 0, none⟩ = some (.slice ag gs.length cg) := celCra hB6 (by simp)
  replace HA := (HA.below (ha _ _)).below hB6
  replace KA := (KA.below (ha _ _)).below hB6
  replace KX := (KX.below (ha _ _)).below hB6
  replace RK := (RK.below (ha _ _)).below hB6
  replace HW := (HW.below (ha _ _)).below hB6
  replace HX := (HX.below (ha _ _)).below hB6
  replace RX := (RX.below (ha _ _)).below hB6
  have HG := (HG.below (ha _ _)).below hB6
  have RG := (RG.below (ha _ _)).below hB6
  replace BB := Below.stepCra (Below.stepCra BB (ha _ _)) hB6
  have l5 : w5.heap.size < w6.heap.size := by have := hB6.size; simp only [World.size_alloc] at this; omega
  clear hB6
  go_wp2_with fail
  go_region_held3 (fun w' => w'.cell? ⟨w4.heap.size, 0, none⟩ = some (.slice a4 fs.length fs.length) ∧ w'.cell? ⟨w.heap.size, 0, none⟩ = some (.slice a fs.length c))
    (first | exact kk | go_keep)
    (first
      | (go_at_call 16; refine (toDisk_any _ _ _ _ ?_ hlen).mono ?_; exact HA.below (Below.refl _ _).drew; rintro r w7 ⟨a7, rfl, H7, -, hB7⟩; have kk := twoCra hB7 (N := w4.heap.size) (M := w.heap.size) (v0 := .slice a4 fs.length fs.length) (v1 := .slice a fs.length c) (by first | exact kk | simp [cX, cA]))
      | (go_at_call 11; refine (eqDisk_same _ _ _ _ fs _ ?_ ?_ hl).mono ?_; exact (HX.below (Below.refl _ _).drew).below hB7; exact H7; rintro r w8 ⟨rfl, hB8⟩; have kk := twoCra hB8 (N := w4.heap.size) (M := w.heap.size) (v0 := .slice a4 fs.length fs.length) (v1 := .slice a fs.length c) kk))
  have T8 : Below w6.heap.size w6 w8 := (((Below.refl w6.heap.size w6).drew).trans (hB7.mono (by simp))).trans (hB8.mono (by have := hB7.size; simpa using this))
  replace cA := celCra T8 cA
  replace cW := celCra T8 cW
  replace cX := celCra T8 cX
  replace cG := celCra T8 cG
  replace HA := HA.below T8
  replace KA := KA.below T8
  replace KX := KX.below T8
  replace RK := RK.below T8
  replace HW := HW.below T8
  replace HG := HG.below T8
  replace RX := RX.below T8
  replace RG := RG.below T8
  replace BB := Below.stepCra BB T8
  have l8 := T8.size
  have l0 : w.heap.size < w3.heap.size + 1 := by
    have := lt_of_cell cA
    have := lX0
    omega
  clear T8 hB7 hB8 H7 kk HX
  go_wp2_with fail
  refine (toIntS_any _ _ _ _ KA hkn).mono ?_
  rintro r w8i ⟨a8i, rfl, K8, -, hB8i⟩
  replace cA := celCra hB8i cA
  replace cW := celCra hB8i cW
  replace cX := celCra hB8i cX
  replace cG := celCra hB8i cG
  replace HA := HA.below hB8i
  replace KA := KA.below hB8i
  replace KX := KX.below hB8i
  replace RK := RK.below hB8i
  replace HW := HW.below hB8i
  replace HG := HG.below hB8i
  replace RX := RX.below hB8i
  replace RG := RG.below hB8i
  replace BB := Below.stepCra BB hB8i
  have l8i := hB8i.size
  clear hB8i
  go_wp2_with fail
  refine (eqIntS_same _ _ _ _ ks _ KX K8 hkm).mono ?_
  rintro r w8j ⟨rfl, hB8j⟩
  replace cA := celCra hB8j cA
  replace cW := celCra hB8j cW
  replace cX := celCra hB8j cX
  replace cG := celCra hB8j cG
  replace HA := HA.below hB8j
  replace KA := KA.below hB8j
  replace RK := RK.below hB8j
  replace HW := HW.below hB8j
  replace HG := HG.below hB8j
  replace RX := RX.below hB8j
  replace RG := RG.below hB8j
  replace BB := Below.stepCra BB hB8j
  have l8j := hB8j.size
  clear hB8j K8 KX
  go_wp2_with fail
  refine (markDisk_any _ _ _ (w3.heap.size + 1) 1 _ RX (by omega) (by omega) (by omega)).mono ?_
  rintro r w9 ⟨rfl, -, -, hB9, hO9⟩
  replace cA := offCra hO9 (fun h => by have := lX _ h; omega) cA
  replace cW := offCra hO9 (fun h => by have := lX _ h; omega) cW
  replace cG := offCra hO9 (fun h => by have := lX _ h; omega) cG
  replace HA := HA.farCra hB9 (fun b h => by have := lA b h; omega)
  replace HW := HW.farCra hB9 (fun b h => by have := lW b h; omega)
  replace HG := HG.of_block (fun b h => hO9 b (HG.ltCra b h) (fun h' => by have := lX b h'; have := lG b h; omega))
  replace RG := RG.of_block (fun b h => hO9 b (RG.lt h).2 (fun h' => by have := lX b h'; have := lG b h; omega))
  replace BB := BB.trans (hB9.mono (by omega))
  have l9 := hB9.size
  replace KA := KA.of_block (fun b h => hB9.block b (by have := lI b h; omega))
  replace RK := RK.of_block (fun b h => hO9 b (RK.lt h).2 (fun h' => by have := lX b h'; have := lKx b h; omega))
  clear hB9 hO9 RX cX
  go_wp2_with fail
  refine (markIntS_any _ _ _ (w4.heap.size + 1) (1 + 2 * fs.length) _ RK (by omega)).mono ?_
  rintro r w9i ⟨rfl, -, -, hB9i, hO9i⟩
  replace cA := offICra hO9i (fun h => by have := lKx _ h; omega) cA
  replace cW := offICra hO9i (fun h => by have := lKx _ h; omega) cW
  replace cG := offICra hO9i (fun h => by have := lKx _ h; omega) cG
  replace HA := HA.farCra hB9i (fun b h => by have := lA b h; omega)
  replace KA := KA.of_block (fun b h => hB9i.block b (by have := lI b h; omega))
  replace HW := HW.farCra hB9i (fun b h => by have := lW b h; omega)
  replace HG := HG.of_block (fun b h => hO9i b (HG.ltCra b h) (fun h' => by have := lKx b h'; have := lG b h; omega))
  replace RG := RG.of_block (fun b h => hO9i b (RG.lt h).2 (fun h' => by have := lKx b h'; have := lG b h; omega))
  replace BB := BB.trans (hB9i.mono (by omega))
  have l9i := hB9i.size
  have hk : ¬ (((1 + 2 * fs.length + ks.length : Nat) : Int) < 0) := by omega
  clear hB9i hO9i RK
  go_wp2_with fail
  refine (eqDisk_same _ _ _ _ gs _ HG HW hgm).mono ?_
  rintro r w10 ⟨rfl, hB10⟩
  replace cA := celCra hB10 cA
  replace cW := celCra hB10 cW
  replace cG := celCra hB10 cG
  replace HA := HA.below hB10
  replace KA := KA.below hB10
  replace HW := HW.below hB10
  replace RG := RG.below hB10
  replace BB := Below.stepCra BB hB10
  have l10 := hB10.size
  clear hB10 HG hk
  go_wp2_with fail
  refine (markDisk_any _ _ _ w4i.heap.size 1 _ RG (by omega) (by omega) (by omega)).mono ?_
  rintro r w11 ⟨rfl, HM, -, hB11, hO11⟩
  replace cA := offCra hO11 (fun h => by have := lG _ h; omega) cA
  replace cW := offCra hO11 (fun h => by have := lG _ h; omega) cW
  replace cG := offCra hO11 (fun h => by have := lG _ h; omega) cG
  replace HA := HA.farCra hB11 (fun b h => by have := lA b h; omega)
  replace KA := KA.of_block (fun b h => hB11.block b (by have := lI b h; omega))
  replace HW := HW.farCra hB11 (fun b h => by have := lW b h; omega)
  replace BB := BB.trans (hB11.mono (by omega))
  have hm : (((1 + 2 * gs.length : Nat) : Int) != ((1 + 2 * gs.length : Nat) : Int)) = false := by simp
  have hp : ¬ (((1 + 2 * gs.length : Nat) : Int) < 0) := by omega
  clear hB11 hO11 RG
  go_wp2_with fail
  refine (heldDisk_any _ _ gs.length 1 _ HM (by omega) (by omega)).mono ?_
  rintro r w12 ⟨rfl, hB12⟩
  replace cA := celCra hB12 cA
  replace cW := celCra hB12 cW
  replace cG := celCra hB12 cG
  replace HA := HA.below hB12
  replace KA := KA.below hB12
  replace HW := HW.below hB12
  have HM := HM.below hB12
  replace BB := Below.stepCra BB hB12
  clear hB12
  go_wp2_with fail
  refine (toDisk_any _ _ _ _ HA hlen).mono ?_
  rintro r w13 ⟨a13, rfl, H13, -, hB13⟩
  replace cW := celCra hB13 cW
  replace cG := celCra hB13 cG
  replace HW := HW.below hB13
  replace HM := HM.below hB13
  replace BB := Below.stepCra BB hB13
  replace KA := KA.below hB13
  clear hB13 HA cA
  go_wp2_with fail
  refine (toIntS_any _ _ _ _ KA hkn).mono ?_
  rintro r w13i ⟨a13i, rfl, K13, -, hB13i⟩
  replace cW := celCra hB13i cW
  replace cG := celCra hB13i cG
  replace HW := HW.below hB13i
  replace HM := HM.below hB13i
  replace H13 := H13.below hB13i
  replace BB := Below.stepCra BB hB13i
  clear hB13i KA
  go_wp2_with fail
  refine (HI.out _ _ _ _ _ H13 K13).mono ?_
  rintro r w14 ⟨ah, ch, rfl, HH, -, hB14⟩
  replace cW := fun o => celCra (ha w14 o) (celCra hB14 cW)
  replace cG := fun o => celCra (ha w14 o) (celCra hB14 cG)
  replace HW := HW.below hB14
  replace HM := HM.below hB14
  replace BB := Below.stepCra BB hB14
  clear hB14 H13 HI
  go_wp2_with fail
  refine (eqDisk_same _ _ _ _ gs _ (HH.below (ha _ _)) (HW.below (ha _ _)) hgm).mono ?_
  rintro r w15 ⟨rfl, hB15⟩
  replace cG := celCra hB15 (cG _)
  replace HM := (HM.below (ha _ _)).below hB15
  replace BB := Below.stepCra (Below.stepCra BB (ha _ _)) hB15
  clear hB15 HH HW cW
  go_wp2_with fail
  refine (heldDisk_any _ _ gs.length 1 _ HM (by omega) (by omega)).mono ?_
  rintro r w16 ⟨rfl, hB16⟩
  replace BB := Below.stepCra BB hB16
  clear hB16 HM
  go_wp2
  go_ret
  exact ⟨rfl, BB⟩

end Go.Proofs.Ytljocofhefpapaa
