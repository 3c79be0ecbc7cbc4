/-
  What FnBatches draws: DrawBatchBytes, DrawTakeBatch, DrawSumOf.
-/
import Derived.Test.YtlinincmlilbjaaDoorBatF
namespace Go.Proofs.YtlinincmlilbjaaDoor
open Go.RowKit

theorem set5 (u : World) (R : Nat) (v0 v1 v2 v3 v4 : Value) (b : Nat) (hb : b ≠ R) : (((((u.setCell ⟨R, 0, none⟩ v0).setCell ⟨R, 1, none⟩ v1).setCell ⟨R, 2, none⟩ v2).setCell ⟨R, 3, none⟩ v3).setCell ⟨R, 4, none⟩ v4).heap[b]? = u.heap[b]? := by
  rw [Below.heap_setCell _ ⟨R, _, none⟩ _ b (by simpa using hb), Below.heap_setCell _ ⟨R, _, none⟩ _ b (by simpa using hb), Below.heap_setCell _ ⟨R, _, none⟩ _ b (by simpa using hb), Below.heap_setCell _ ⟨R, _, none⟩ _ b (by simpa using hb), Below.heap_setCell _ ⟨R, _, none⟩ _ b (by simpa using hb)]
theorem row5 (w : World) : ∃ f, (w.alloc (.cells #[.int .i64 0, .int .i64 0, .int .i64 0, .int .i64 0, .slice none 0 0] 25)).rowIs w.heap.size 25 5 f := by
  obtain ⟨f, h1, -⟩ := (BoxB.new w ⟨0, 0, 0, 0, []⟩ (.slice none 0 0)).row
  exact ⟨f, h1⟩
/-- What a batch's drawing answers. -/
def DrawnB (w : World) (e : Ending) (w' : World) : Prop := ∃ (x : Bt) (ra : Option Addr) (rc : Nat), e = .returned (.agg #[.int .i64 x.off, .int .i64 x.ep, .int .i64 x.pr, .int .i64 x.sq, .slice ra x.recs.length rc]) ∧ w'.ownsRow (w.heap.size + 1) 9 1 (.slice ra x.recs.length rc) x.recs.length (strVals x.recs) ∧ (∀ s, s ∈ x.recs → s.size < 256) ∧ x.recs.length ≤ 3 ∧ Below w.heap.size w w'

set_option maxRecDepth 100000 in
set_option maxHeartbeats 4000000 in
theorem drawGoodBatch_any (a : Option Addr) (c : Nat) (bs : List UInt8) (w : World) (hs : Bys w a bs) (hl : bs.length ≤ 1048576) :
    Calls Tryd.prog 18 #[.slice a bs.length c] w fun e w' => DrawnB w e w' := by
  have hb : ∀ (v : World) o, Below v.heap.size v (v.alloc o) := fun v o => (Below.refl _ _).alloc (Nat.le_refl _) o
  obtain ⟨u0, hu0⟩ : ∃ u, w.alloc (.cells #[.int .i64 0, .int .i64 0, .int .i64 0, .int .i64 0, .slice none 0 0] 25) = u := ⟨_, rfl⟩
  have hB0 : Below w.heap.size w u0 := by rw [← hu0]; exact hb _ _
  have hz0 : u0.heap.size = w.heap.size + 1 := by rw [← hu0]; simp
  have hR : ∃ f, u0.rowIs w.heap.size 25 5 f := by rw [← hu0]; exact row5 w
  have hC := cur_newR (c := c) (hs.below hB0) hl
  obtain ⟨u, hu⟩ : ∃ u, u0.alloc (.cells #[.slice a bs.length c, .int .i64 0, .int .u64 0] 55) = u := ⟨_, rfl⟩
  have hB1 : Below u0.heap.size u0 u := by rw [← hu]; exact hb _ _
  have hps : u0.heap.size < u.heap.size := by rw [← hu]; simp
  rw [hu] at hC
  go_enter Tryd.func18, Tryd.ntmps18
  go_wp2_with fail
  try rw [hu0]
  try rw [← hz0]
  try rw [hu]
  clear hu0 hu
  refine (batch_any _ _ _ _ _ _ hC hps (by omega)).mono ?_
  rintro r w1 ⟨x, ra, rc, rfl, hown, hsm, hle, z1, hz1, C1, f1⟩
  obtain ⟨f, r0⟩ := hR
  have r1 := (r0.of_block (hB1.block _ (by omega))).of_block (f1.blk _ (by omega) (by omega))
  have d0 := r1.cell (i := 0) (by omega)
  have d1 := r1.cell (i := 1) (by omega)
  have d2 := r1.cell (i := 2) (by omega)
  have d3 := r1.cell (i := 3) (by omega)
  have d4 := r1.cell (i := 4) (by omega)
  have fz := fun o => r1.frozen o
  have HB := fun (_ : Unit) => (show Below w.heap.size w w1 from hB0.trans ((hB1.mono (by omega)).trans (f1.bel.mono (by omega))))
  have HO := fun (_ : Unit) => hown
  have HZ := fun (_ : Unit) => (show w.heap.size + 1 ≤ u.heap.size by omega)
  have HSM := fun (_ : Unit) => hsm
  clear hC C1 f1 hown hsm r0 r1 hB0 hB1 hz0 hps
  go_wp2
  refine bodyPost_ret (v := .agg #[.int .i64 x.off, .int .i64 x.ep, .int .i64 x.pr, .int .i64 x.sq, .slice ra x.recs.length rc]) (by simp [results, Tryd.results18, go_sem, d0, d1, d2, d3, d4]) rfl ⟨x, ra, rc, rfl, ?_, HSM (), hle, ?_⟩
  · exact owns_mono (ownsB_of_block (HO ()) fun q hq => set5 _ _ _ _ _ _ _ q (by have := ((HO ()).lt q hq).1; have := HZ (); omega)) (HZ ())
  · exact (((((HB ()).setCell (Nat.le_refl _) _).setCell (Nat.le_refl _) _).setCell (Nat.le_refl _) _).setCell (Nat.le_refl _) _).setCell (Nat.le_refl _) _

set_option maxRecDepth 100000 in
set_option maxHeartbeats 4000000 in
theorem drawBatchBytes_any (a : Option Addr) (c : Nat) (bs : List UInt8) (w : World) (hs : Bys w a bs) (hl : bs.length ≤ 1048576) :
    Calls Tryd.prog 4 #[.slice a bs.length c] w fun e w' => ∃ (x : Bt) (ra : Option Addr) (rc : Nat), e = .returned (.agg #[.int .i64 x.off, .int .i64 x.ep, .int .i64 x.pr, .int .i64 x.sq, .slice ra x.recs.length rc]) ∧ Strs w' ra x.recs ∧ x.recs.length ≤ 3 ∧ Below w.heap.size w w' := by
  have hb : ∀ (v : World) o, Below v.heap.size v (v.alloc o) := fun v o => (Below.refl _ _).alloc (Nat.le_refl _) o
  obtain ⟨u0, hu0⟩ : ∃ u, w.alloc (.cells #[.int .i64 0, .int .i64 0, .int .i64 0, .int .i64 0, .slice none 0 0] 25) = u := ⟨_, rfl⟩
  have hB0 : Below w.heap.size w u0 := by rw [← hu0]; exact hb _ _
  have hz0 : w.heap.size < u0.heap.size := by rw [← hu0]; simp
  have hR : ∃ f, u0.rowIs w.heap.size 25 5 f := by rw [← hu0]; exact row5 w
  go_enter Tryd.func4, Tryd.ntmps4
  go_wp2_with fail
  try rw [hu0]
  clear hu0
  refine (drawGoodBatch_any _ _ _ _ (hs.below hB0) hl).mono ?_
  rintro r w1 ⟨x, ra, rc, rfl, hown, hsm, hle, hB1⟩
  obtain ⟨f, r0⟩ := hR
  have r1 := r0.of_block (hB1.block _ hz0)
  have d0 := r1.cell (i := 0) (by omega)
  have d1 := r1.cell (i := 1) (by omega)
  have d2 := r1.cell (i := 2) (by omega)
  have d3 := r1.cell (i := 3) (by omega)
  have d4 := r1.cell (i := 4) (by omega)
  have fz := fun o => r1.frozen o
  have HB := fun (_ : Unit) => (show Below w.heap.size w w1 from hB0.trans (hB1.mono (by omega)))
  have HO := fun (_ : Unit) => hown
  have HSM := fun (_ : Unit) => hsm
  have HZ := fun (_ : Unit) => hz0
  clear hown hsm r0 r1 hB0 hB1 hz0
  go_wp2
  refine bodyPost_ret (v := .agg #[.int .i64 x.off, .int .i64 x.ep, .int .i64 x.pr, .int .i64 x.sq, .slice ra x.recs.length rc]) (by simp [results, Tryd.results4, go_sem, d0, d1, d2, d3, d4]) rfl ?_
  first
    | refine ⟨x, ra, rc, rfl, ?_, hle, ?_⟩
    | refine ⟨x, ra, ⟨rc, rfl⟩, ?_, hle, ?_⟩
  · exact strs_of_owns (ownsB_of_block (HO ()) fun q hq => set5 _ _ _ _ _ _ _ q (by have := ((HO ()).lt q hq).1; have := HZ (); omega)) (HSM ())
  · exact (((((HB ()).setCell (Nat.le_refl _) _).setCell (Nat.le_refl _) _).setCell (Nat.le_refl _) _).setCell (Nat.le_refl _) _).setCell (Nat.le_refl _) _

theorem drawSumOf_any (a : Option Addr) (c : Nat) (bs : List UInt8) (w : World) (hs : Bys w a bs) (hl : bs.length ≤ 1048576) :
    Calls Tryd.prog 16 #[.slice a bs.length c] w fun e w' => ∃ s : ByteArray, e = .returned (.string s) ∧ s.size ≤ 602 ∧ Below w.heap.size w w' := by
  go_enter Tryd.func16, Tryd.ntmps16
  go_wp2_with fail
  refine (drawReadLog_any batches_any _ _ _ _ hs hl).mono ?_
  rintro r w1 ⟨s, rfl, h6, B1⟩
  go_wp2
  go_ret
  exact ⟨s, rfl, h6, B1⟩

set_option maxRecDepth 100000 in
set_option maxHeartbeats 4000000 in
theorem drawTakeBatch_any (a : Option Addr) (c : Nat) (bs : List UInt8) (w : World) (hs : Bys w a bs) (hl : bs.length ≤ 1048576) :
    Calls Tryd.prog 14 #[.slice a bs.length c] w fun e w' => ∃ (s : ByteArray) (z : Int), e = .returned (.tuple #[.string s, .int .i64 z]) ∧ s.size ≤ 602 ∧ Below w.heap.size w w' := by
  have hb : ∀ o, Below w.heap.size w (w.alloc o) := fun o => (Below.refl _ _).alloc (Nat.le_refl _) o
  have hC := cur_newR (c := c) hs hl
  obtain ⟨u, hu⟩ : ∃ u, w.alloc (.cells #[.slice a bs.length c, .int .i64 0, .int .u64 0] 55) = u := ⟨_, rfl⟩
  have hB0 : Below w.heap.size w u := by rw [← hu]; exact hb _
  have hps : w.heap.size < u.heap.size := by rw [← hu]; simp
  rw [hu] at hC
  go_enter Tryd.func14, Tryd.ntmps14
  go_wp2_with fail
  try rw [hu]
  clear hu
  refine (logText_any batches_any _ _ _ _ _ _ hC hps (by omega)).mono ?_
  rintro r w1 ⟨s, rfl, h6, z1, hz1, C1, f1⟩
  have B1 := hB0.trans f1.bel
  clear hC f1
  go_wp2_with fail
  refine (one_any _ _ _ _ _ _ _ C1 (by omega)).mono ?_
  rintro r w2 ⟨b, rfl, z2, hz2, C2, f2⟩
  have B2 := B1.trans f2.bel
  clear C1 f2 B1
  cases b
  · go_wp2_with fail
    refine (pick_any _ _ _ _ _ _ _ C2 (by omega)).mono ?_
    rintro r w3 ⟨v, rfl, hv, z3, hz3, C3, f3⟩
    have B3 := B2.trans f3.bel
    have hvl : (v : Int) ≤ 10000 := by omega
    have hv0 : (0 : Int) ≤ (v : Int) := by omega
    generalize (v : Int) = vv at *
    obtain ⟨d, hd⟩ : ∃ d, vv - 1 = d := ⟨_, rfl⟩
    clear C2 C3 f3 B2 hv
    go_wp2
    go_ret2
    exact ⟨s, _, rfl, h6, B3⟩
  · clear C2
    go_wp2
    go_ret2
    exact ⟨s, 0, rfl, h6, B2⟩

end Go.Proofs.YtlinincmlilbjaaDoor
