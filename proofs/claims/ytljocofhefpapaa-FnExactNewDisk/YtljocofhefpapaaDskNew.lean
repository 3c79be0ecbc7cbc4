/-
  New disks: the contracts of spec.NewDisk and impl.NewDisk; the walk of the law FnExactNewDisk.
-/
import Derived.Test.YtljocofhefpapaaDsk2
namespace Go.Proofs.Ytljocofhefpapaa
open Go.RowKit

def newD (x : Int) : List Fl := if inB x 1 4 = true then List.replicate x.toNat ⟨ByteArray.empty, 0⟩ else []

theorem made_get (z0 z1 : Value) (n i : Nat) (h : i < n) : (madeCells #[z0, z1] (n * 2)).getD (i * 2) undef = z0 ∧ (madeCells #[z0, z1] (n * 2)).getD (i * 2 + 1) undef = z1 := by
  have e0 : i * 2 % 2 = 0 := by omega
  have e1 : (i * 2 + 1) % 2 = 1 := by omega
  have h0 : i * 2 < n * 2 := by omega
  have h1 : i * 2 + 1 < n * 2 := by omega
  constructor
  · simp [madeCells, Array.getD_eq_getD_getElem?, h0, e0]
  · simp [madeCells, Array.getD_eq_getD_getElem?, h1, e1]

theorem new_row (w : World) (n : Nat) (u : Obj) : Fls ((w.alloc u).alloc (.cells (madeCells #[.string ByteArray.empty, .int .i64 0] (n * 2)) 54)) (some ⟨w.heap.size + 1, 0, none⟩) (List.replicate n ⟨ByteArray.empty, 0⟩) ∧ RowF ((w.alloc u).alloc (.cells (madeCells #[.string ByteArray.empty, .int .i64 0] (n * 2)) 54)) w.heap.size (some ⟨w.heap.size + 1, 0, none⟩) (List.replicate n (⟨ByteArray.empty, 0⟩ : Fl)).length := by
  have hR := rowIs_of_allocF (w.alloc u) (madeCells #[.string ByteArray.empty, .int .i64 0] (n * 2)) 54
  rw [size_madeCells, World.size_alloc] at hR
  refine ⟨Fls.of_row hR (by rw [List.length_replicate]; omega) (fun i b hi hb => ?_) (fun b hb => ?_), .inr ⟨_, _, _, rfl, by omega, by rw [List.length_replicate]; omega, hR⟩⟩
  · rw [List.length_replicate] at hi
    obtain rfl : b = ⟨ByteArray.empty, 0⟩ := by
      rw [List.getElem?_replicate, if_pos hi] at hb
      simpa using hb.symm
    exact made_get _ _ n i hi
  · obtain ⟨-, rfl⟩ := List.mem_replicate.1 hb
    unfold maxLen
    simp only
    have : ByteArray.empty.size = 0 := rfl
    omega

theorem newD_len (x : Int) : (newD x).length ≤ 4 := by
  unfold newD
  split
  · rename_i h
    have := inB_t.1 h
    rw [List.length_replicate]; omega
  · simp

set_option maxHeartbeats 1000000 in
theorem specNewDisk_any (x : Int) (w : World) :
    Calls Try.prog 9 #[.int .i64 x] w fun r w' => ∃ a' c', r = .returned (.tuple #[.agg #[.slice a' (newD x).length c'], .bool (inB x 1 4)]) ∧ Fls w' a' (newD x) ∧ RowF w' w.heap.size a' (newD x).length ∧ Below w.heap.size w w' := by
  have hb0 : ∀ o, Below w.heap.size w (w.alloc o) := fun o => (Below.refl _ _).alloc (Nat.le_refl _) o
  have hb2 : ∀ x y, Below w.heap.size w ((w.alloc x).alloc y) := fun _ _ => ((Below.refl _ _).alloc (Nat.le_refl _) _).alloc (by simp) _
  obtain ⟨i, hi⟩ : ∃ i, inB x 1 4 = i := ⟨_, rfl⟩
  have HI : Hid (inB x 1 4 = i) := hi
  cases i with
  | false =>
    have e : newD x = [] := by unfold newD; rw [hi]; rfl
    rw [e, hi]
    clear hi
    go_enter Try.func9, Try.ntmps9
    go_wp2_with (go_at_call 29; refine (l1In_any _ _ _ _).mono ?_; rintro e w' ⟨he, rfl⟩; rw [HI.out] at he; subst he)
    first
      | exact bodyPost_ret (v := .tuple #[.agg #[.slice none 0 0], .bool false]) (by simp [results, Try.results9, go_sem]) rfl ⟨none, 0, rfl, Fls.nil _ _, .inl rfl, hb0 _⟩
      | exact bodyPost_ret (v := .tuple #[.agg #[.slice none 0 0], .bool false]) (by simp [results, Try.results9, go_sem]) rfl ⟨none, ⟨0, rfl⟩, Fls.nil _ _, .inl rfl, hb0 _⟩
  | true =>
    obtain ⟨h1, h4⟩ := inB_t.1 hi
    obtain ⟨n, rfl⟩ := Int.eq_ofNat_of_zero_le (by omega : 0 ≤ x)
    have e : newD (n : Int) = List.replicate n ⟨ByteArray.empty, 0⟩ := by unfold newD; rw [hi]; rfl
    rw [e, hi]
    have hmk := run_make_manyF (P := Try.prog) 22 54 _ 2 24 Try.underlying22 Try.infoFile .i64 .i64 n (by omega) (by omega)
    have HE := new_row w n
    have HE2 : ∀ u, RowF ((w.alloc u).alloc (.cells (madeCells #[.string ByteArray.empty, .int .i64 0] (n * 2)) 54)) w.heap.size (some ⟨w.heap.size + 1, 0, none⟩) n := fun u => by have := (HE u).2; rwa [List.length_replicate] at this
    clear hi
    go_enter Try.func9, Try.ntmps9
    go_wp2_with (go_at_call 29; refine (l1In_any _ _ _ _).mono ?_; rintro e w' ⟨he, rfl⟩; rw [HI.out] at he; subst he)
    first
      | exact bodyPost_ret (v := .tuple #[.agg #[.slice (some ⟨w.heap.size + 1, 0, none⟩) n n], .bool true]) (by simp [results, Try.results9, go_sem]) rfl ⟨some ⟨w.heap.size + 1, 0, none⟩, n, by simp, (HE _).1, (HE _).2, hb2 _ _⟩
      | exact bodyPost_ret (v := .tuple #[.agg #[.slice (some ⟨w.heap.size + 1, 0, none⟩) n n], .bool true]) (by simp [results, Try.results9, go_sem]) rfl ⟨some ⟨w.heap.size + 1, 0, none⟩, ⟨n, rfl⟩, (HE _).1, HE2 _, hb2 _ _⟩

set_option maxHeartbeats 1000000 in
theorem implNewDisk_any (x : Int) (w : World) :
    Calls Try.prog 10 #[.int .i64 x] w fun r w' => ∃ a' c', r = .returned (.tuple #[.agg #[.slice a' (newD x).length c'], .bool (inB x 1 4)]) ∧ Fls w' a' (newD x) ∧ RowF w' w.heap.size a' (newD x).length ∧ Below w.heap.size w w' := by
  have hb0 : ∀ o, Below w.heap.size w (w.alloc o) := fun o => (Below.refl _ _).alloc (Nat.le_refl _) o
  have hb2 : ∀ x y, Below w.heap.size w ((w.alloc x).alloc y) := fun _ _ => ((Below.refl _ _).alloc (Nat.le_refl _) _).alloc (by simp) _
  by_cases h1 : x < 1
  · have hi : inB x 1 4 = false := inB_f.2 (by omega)
    have e : newD x = [] := by unfold newD; rw [hi]; rfl
    rw [e, hi]
    clear hi
    go_enter Try.func10, Try.ntmps10
    go_wp2
    first
      | exact bodyPost_ret (v := .tuple #[.agg #[.slice none 0 0], .bool false]) (by simp [results, Try.results10, go_sem]) rfl ⟨none, 0, rfl, Fls.nil _ _, .inl rfl, hb0 _⟩
      | exact bodyPost_ret (v := .tuple #[.agg #[.slice none 0 0], .bool false]) (by simp [results, Try.results10, go_sem]) rfl ⟨none, ⟨0, rfl⟩, Fls.nil _ _, .inl rfl, hb0 _⟩
  by_cases h4 : 4 < x
  · have hi : inB x 1 4 = false := inB_f.2 (by omega)
    have e : newD x = [] := by unfold newD; rw [hi]; rfl
    rw [e, hi]
    clear hi
    go_enter Try.func10, Try.ntmps10
    go_wp2
    first
      | exact bodyPost_ret (v := .tuple #[.agg #[.slice none 0 0], .bool false]) (by simp [results, Try.results10, go_sem]) rfl ⟨none, 0, rfl, Fls.nil _ _, .inl rfl, hb0 _⟩
      | exact bodyPost_ret (v := .tuple #[.agg #[.slice none 0 0], .bool false]) (by simp [results, Try.results10, go_sem]) rfl ⟨none, ⟨0, rfl⟩, Fls.nil _ _, .inl rfl, hb0 _⟩
  · have hi : inB x 1 4 = true := inB_t.2 (by omega)
    obtain ⟨n, rfl⟩ := Int.eq_ofNat_of_zero_le (by omega : 0 ≤ x)
    have e : newD (n : Int) = List.replicate n ⟨ByteArray.empty, 0⟩ := by unfold newD; rw [hi]; rfl
    rw [e, hi]
    have hmk := run_make_manyF (P := Try.prog) 22 54 _ 2 24 Try.underlying22 Try.infoFile .i64 .i64 n (by omega) (by omega)
    have HE := new_row w n
    have HE2 : ∀ u, RowF ((w.alloc u).alloc (.cells (madeCells #[.string ByteArray.empty, .int .i64 0] (n * 2)) 54)) w.heap.size (some ⟨w.heap.size + 1, 0, none⟩) n := fun u => by have := (HE u).2; rwa [List.length_replicate] at this
    clear hi
    go_enter Try.func10, Try.ntmps10
    go_wp2
    first
      | exact bodyPost_ret (v := .tuple #[.agg #[.slice (some ⟨w.heap.size + 1, 0, none⟩) n n], .bool true]) (by simp [results, Try.results10, go_sem]) rfl ⟨some ⟨w.heap.size + 1, 0, none⟩, n, by simp, (HE _).1, (HE _).2, hb2 _ _⟩
      | exact bodyPost_ret (v := .tuple #[.agg #[.slice (some ⟨w.heap.size + 1, 0, none⟩) n n], .bool true]) (by simp [results, Try.results10, go_sem]) rfl ⟨some ⟨w.heap.size + 1, 0, none⟩, ⟨n, rfl⟩, (HE _).1, HE2 _, hb2 _ _⟩

theorem Below.stepNw {W a b : World} (h : Below W.heap.size W a) (k : Below a.heap.size a b) : Below W.heap.size W b := h.trans (k.mono h.size)

theorem celNw {w w' : World} {b o : Nat} {v : Value} (hb : Below w.heap.size w w') (h : w.cell? ⟨b, o, none⟩ = some v) : w'.cell? ⟨b, o, none⟩ = some v := (hb.cell (p := ⟨b, o, none⟩) (lt_of_cell h)).trans h

theorem offNw {w w' : World} {a : Option Addr} {n b o : Nat} {v : Value} (hO : ∀ b, b < w.heap.size → ¬ InB a n b → w'.heap[b]? = w.heap[b]?) (hn : ¬ InB a n b) (h : w.cell? ⟨b, o, none⟩ = some v) : w'.cell? ⟨b, o, none⟩ = some v :=
  (World.cell?_of_block (a := ⟨b, o, none⟩) (hO b (lt_of_cell h) hn)).trans h

theorem Fls.ltNw {w : World} {a : Option Addr} {fs : List Fl} (h : Fls w a fs) : ∀ b, InB a fs.length b → b < w.heap.size := fun b ⟨h0, o, s, e⟩ => by
  obtain ⟨f, hf⟩ := getFl (fs := fs) h0
  obtain ⟨k, o', e', hc, -⟩ := h 0 f hf
  rw [e'] at e
  simp only [Option.some.injEq, Addr.mk.injEq] at e
  have := lt_of_cell hc
  omega

set_option maxRecDepth 100000 in
set_option maxHeartbeats 4000000 in
theorem lawNewDisk_any (x : Int) (w : World) :
    Calls Try.prog 3 #[.int .i64 x] w fun r w' => r = .returned (.bool true) ∧ Below w.heap.size w w' := by
  have ha : ∀ (u : World) o, Below u.heap.size u (u.alloc o) := fun u o => (Below.refl _ _).alloc (Nat.le_refl _) o
  have hlen := newD_len x
  have HI0 := implNewDisk_any x
  have HS := specNewDisk_any x w
  generalize newD x = gs at *
  generalize inB x 1 4 = ok at *
  have hgm : gs.length ≤ maxLen := by unfold maxLen; omega
  have hT : (ok != ok) = false := by cases ok <;> rfl
  have HI : Hid (∀ w, Calls Try.prog 10 #[.int .i64 x] w fun r w' => ∃ a' c', r = .returned (.tuple #[.agg #[.slice a' gs.length c'], .bool ok]) ∧ Fls w' a' gs ∧ RowF w' w.heap.size a' gs.length ∧ Below w.heap.size w w') := HI0
  clear HI0
  go_enter Try.func3, Try.ntmps3
  go_wp2_with fail
  refine HS.mono ?_
  rintro r w1 ⟨aw, cw, rfl, HW, -, BB⟩
  have lW : ∀ b, InB aw gs.length b → b < w1.heap.size := HW.ltNw
  have l0 : w.heap.size ≤ w1.heap.size := BB.size
  clear HS
  go_wp2_with fail
  refine (HI.out _).mono ?_
  rintro r w2 ⟨ag, cg, rfl, HG, RG, hB2⟩
  have kW : w2.cell? ⟨w1.heap.size, 0, none⟩ = some (.slice aw gs.length cw) := celNw hB2 (by simp)
  have l1 : w1.heap.size < w2.heap.size := lt_of_cell kW
  replace HW := (HW.below (ha _ _)).below hB2
  replace BB := Below.stepNw (Below.stepNw BB (ha _ _)) hB2
  simp only [World.size_alloc] at RG
  have lG : ∀ b, InB ag gs.length b → w1.heap.size + 1 ≤ b ∧ b < w2.heap.size := fun b hb => RG.lt hb
  replace kW := fun o => celNw (ha w2 o) kW
  clear hB2
  go_wp2_with fail
  refine (eqDisk_same _ _ _ _ gs _ (HG.below (ha _ _)) (HW.below (ha _ _)) hgm).mono ?_
  rintro r w3 ⟨rfl, hB3⟩
  have kG : w3.cell? ⟨w2.heap.size, 0, none⟩ = some (.slice ag gs.length cg) := celNw hB3 (by simp)
  replace kW := celNw hB3 (kW _)
  have l2 : w2.heap.size < w3.heap.size := lt_of_cell kG
  replace HW := (HW.below (ha _ _)).below hB3
  replace RG := (RG.below (ha _ _)).below hB3
  replace BB := Below.stepNw (Below.stepNw BB (ha _ _)) hB3
  clear hB3 HG
  go_wp2_with fail
  refine (markDisk_any _ _ gs.length (w1.heap.size + 1) 1 _ RG (by omega) (by omega) (by omega)).mono ?_
  rintro r w4 ⟨rfl, HM, -, hB4, hO4⟩
  replace kG := offNw hO4 (fun h => by have := lG _ h; omega) kG
  replace kW := offNw hO4 (fun h => by have := lG _ h; omega) kW
  replace HW := HW.of_block (fun b hb => hB4.block b (by have := lW b hb; omega))
  replace BB := BB.trans (hB4.mono (by omega))
  have hm : (((1 + 2 * gs.length : Nat) : Int) != ((1 + 2 * gs.length : Nat) : Int)) = false := by simp
  have hp : ¬ (((1 + 2 * gs.length : Nat) : Int) < 0) := by omega
  clear hB4 hO4 RG
  go_wp2_with fail
  refine (heldDisk_any _ _ gs.length 1 _ HM (by omega) (by omega)).mono ?_
  rintro r w5 ⟨rfl, hB5⟩
  replace kG := celNw hB5 kG
  replace kW := celNw hB5 kW
  replace HW := HW.below hB5
  replace HM := HM.below hB5
  replace BB := Below.stepNw BB hB5
  clear hB5
  go_wp2_with fail
  refine (HI.out _).mono ?_
  rintro r w6 ⟨ah, ch, rfl, HH, -, hB6⟩
  replace kG := fun o => celNw (ha w6 o) (celNw hB6 kG)
  replace kW := fun o => celNw (ha w6 o) (celNw hB6 kW)
  replace HW := HW.below hB6
  replace HM := HM.below hB6
  replace BB := Below.stepNw BB hB6
  clear hB6 HI
  go_wp2_with fail
  refine (eqDisk_same _ _ _ _ gs _ (HH.below (ha _ _)) (HW.below (ha _ _)) hgm).mono ?_
  rintro r w7 ⟨rfl, hB7⟩
  replace kG := celNw hB7 (kG _)
  replace HM := (HM.below (ha _ _)).below hB7
  replace BB := Below.stepNw (Below.stepNw BB (ha _ _)) hB7
  clear hB7 HH HW kW
  go_wp2_with fail
  refine (heldDisk_any _ _ gs.length 1 _ HM (by omega) (by omega)).mono ?_
  rintro r w8 ⟨rfl, hB8⟩
  replace BB := Below.stepNw BB hB8
  clear hB8 HM
  go_wp2
  go_ret
  exact ⟨rfl, BB⟩

end Go.Proofs.Ytljocofhefpapaa
