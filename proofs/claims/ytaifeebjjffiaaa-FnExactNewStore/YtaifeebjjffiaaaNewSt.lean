/-
  Stores with no segment, or with one that has no marks: how the laws compare and mark them; what spec.NewStore and impl.NewStore answer.
-/
import Derived.Test.YtaifeebjjffiaaaGood
import Derived.Test.YtaifeebjjffiaaaMark
import Derived.Deep.RegionWith
namespace Go.Proofs.Ytaifeebjjffiaaa
open Go.RowKit

theorem bcellN {W w1 : World} (hb : Below W.heap.size W w1) : (∀ b o, b < W.heap.size → w1.cell? ⟨b, o, none⟩ = W.cell? ⟨b, o, none⟩) ∧ (∀ b o, b < W.heap.size → w1.frozen? ⟨b, o, none⟩ = W.frozen? ⟨b, o, none⟩) :=
  ⟨fun b o h => hb.cell (p := ⟨b, o, none⟩) h, fun b o h => hb.frozen (p := ⟨b, o, none⟩) h⟩

/-- A segment's cells. -/
def segVals (x : Int) (s : ByteArray) (j : Nat) : Value := if j = 0 then .int .i64 x else if j = 1 then .string s else .slice none 0 0

/-- No segment, or one without marks in a block of its own from B on. -/
def SegV (w : World) (B : Nat) (v : Value) (n : Nat) (x : Int) (s : ByteArray) : Prop :=
  (n = 0 ∧ v = .slice none 0 0) ∨ (n = 1 ∧ ∃ g, v = .slice (some ⟨g, 0, none⟩) 1 1 ∧ B ≤ g ∧ w.rowIs g 33 3 (segVals x s))

theorem SegV.below {w w' : World} {B : Nat} {v : Value} {n : Nat} {x : Int} {s : ByteArray} (h : SegV w B v n x s) (hb : Below w.heap.size w w') : SegV w' B v n x s := by
  rcases h with h | ⟨h, g, e, hg, hR⟩
  · exact .inl h
  · exact .inr ⟨h, g, e, hg, hR.of_block (hb.block _ hR.lt)⟩

theorem SegV.mono {w : World} {B B' : Nat} {v : Value} {n : Nat} {x : Int} {s : ByteArray} (h : SegV w B v n x s) (hb : B' ≤ B) : SegV w B' v n x s := by
  rcases h with h | ⟨h, g, e, hg, hR⟩
  · exact .inl h
  · exact .inr ⟨h, g, e, by omega, hR⟩

theorem markMarkS_nil (k : Int) (w : World) : Calls Try.prog 16 #[.slice none 0 0, .int .i64 k] w fun r w' => r = .returned (.int .i64 k) ∧ w' = w := by
  go_enter Try.func16, Try.ntmps16
  go_wp2
  go_loopw [1, 5] (fun c i wr => c = .int .i64 k ∧ i = .int .i64 0 ∧ w = wr) (fun _ _ _ => 0)
  case atStart => exact ⟨rfl, rfl, rfl⟩
  case round =>
    obtain ⟨rfl, rfl, rfl⟩ := hrel
    go_wp2
    go_ret
    exact ⟨rfl, rfl⟩

theorem heldMarkS_nil (k : Int) (w : World) : Calls Try.prog 17 #[.slice none 0 0, .int .i64 k] w fun r w' => r = .returned (.int .i64 k) ∧ w' = w := by
  go_enter Try.func17, Try.ntmps17
  go_wp2
  go_loopw [1, 5] (fun c i wr => c = .int .i64 k ∧ i = .int .i64 0 ∧ w = wr) (fun _ _ _ => 0)
  case atStart => exact ⟨rfl, rfl, rfl⟩
  case round =>
    obtain ⟨rfl, rfl, rfl⟩ := hrel
    go_wp2
    go_ret
    exact ⟨rfl, rfl⟩

theorem eqMarkS_nil (w : World) : Calls Try.prog 18 #[.slice none 0 0, .slice none 0 0] w fun r w' => r = .returned (.bool true) ∧ w' = w := by
  go_enter Try.func18, Try.ntmps18
  go_wp2
  go_loopw [5] (fun i wr => i = .int .i64 0 ∧ w = wr) (fun _ _ => 0)
  case atStart => exact ⟨rfl, rfl⟩
  case round =>
    obtain ⟨rfl, rfl⟩ := hrel
    go_wp2
    go_ret
    exact ⟨rfl, rfl⟩

set_option maxHeartbeats 1000000 in
theorem eqSegment_nil (x : Int) (w : World) :
    Calls Try.prog 14 #[.agg #[.int .i64 x, .string ⟨#[]⟩, .slice none 0 0], .agg #[.int .i64 x, .string ⟨#[]⟩, .slice none 0 0]] w fun r w' => r = .returned (.bool true) ∧ Below w.heap.size w w' := by
  have hb : ∀ x y, Below w.heap.size w ((w.alloc x).alloc y) := fun _ _ => ((Below.refl _ _).alloc (Nat.le_refl _) _).alloc (by simp) _
  go_enter Try.func14, Try.ntmps14
  go_wp2_with fail
  refine (eqMarkS_nil _).mono ?_
  rintro r w1 ⟨rfl, rfl⟩
  go_wp2
  go_ret
  exact ⟨rfl, hb _ _⟩

theorem segVals_cells {w : World} {g : Nat} {t : TypeId} {x : Int} {s : ByteArray} (h : w.rowIs g t 3 (segVals x s)) : w.cell? ⟨g, 0, none⟩ = some (.int .i64 x) ∧ w.cell? ⟨g, 1, none⟩ = some (.string s) ∧ w.cell? ⟨g, 2, none⟩ = some (.slice none 0 0) :=
  ⟨h.cell (i := 0) (by omega), h.cell (i := 1) (by omega), h.cell (i := 2) (by omega)⟩

set_option maxHeartbeats 1000000 in
theorem eqSegmentS_one (v1 v2 : Value) (n : Nat) (x : Int) (B1 B2 : Nat) (w : World) (h1 : SegV w B1 v1 n x ⟨#[]⟩) (h2 : SegV w B2 v2 n x ⟨#[]⟩) :
    Calls Try.prog 11 #[v1, v2] w fun r w' => r = .returned (.bool true) ∧ Below w.heap.size w w' := by
  rcases h1 with ⟨rfl, rfl⟩ | ⟨rfl, g1, rfl, -, hR1⟩
  · rcases h2 with ⟨-, rfl⟩ | ⟨h, -⟩
    · go_enter Try.func11, Try.ntmps11
      go_wp2
      go_loopw [5] (fun i wr => i = .int .i64 0 ∧ w = wr) (fun _ _ => 0)
      case atStart => exact ⟨rfl, rfl⟩
      case round =>
        obtain ⟨rfl, rfl⟩ := hrel
        go_wp2
        go_ret
        exact ⟨rfl, Below.refl _ _⟩
    · omega
  · rcases h2 with ⟨h, -⟩ | ⟨-, g2, rfl, -, hR2⟩
    · omega
    · obtain ⟨c0, c1, c2⟩ := segVals_cells hR1
      obtain ⟨d0, d1, d2⟩ := segVals_cells hR2
      have lt1 := lt_of_cell c0
      have lt2 := lt_of_cell d0
      clear hR1 hR2
      go_enter Try.func11, Try.ntmps11
      go_wp2
      go_loopw [5] (fun i wr => (i = .int .i64 0 ∧ w = wr) ∨ (i = .int .i64 1 ∧ Below w.heap.size w wr)) (fun i _ => 1 - (intOf i).toNat)
      case atStart => exact .inl ⟨rfl, rfl⟩
      case round =>
        rcases hrel with ⟨rfl, rfl⟩ | ⟨rfl, hB⟩
        · go_wp2
          go_region_with (go_at_call 14; refine (eqSegment_nil _ _).mono ?_; rintro r w1 ⟨rfl, hB1⟩)
          all_goals
            go_wp2
            go_roundw
            case rel => exact .inr ⟨rfl, ((Below.refl _ _).drew).trans (hB1.mono (by simp))⟩
            case measure => simp [intOf]
        · go_wp2
          go_ret
          exact ⟨rfl, hB⟩

set_option maxHeartbeats 1000000 in
theorem eqStore_one (v1 v2 : Value) (n : Nat) (x y : Int) (B1 B2 : Nat) (w : World) (h1 : SegV w B1 v1 n x ⟨#[]⟩) (h2 : SegV w B2 v2 n x ⟨#[]⟩) :
    Calls Try.prog 6 #[.agg #[v1, .int .i64 y], .agg #[v2, .int .i64 y]] w fun r w' => r = .returned (.bool true) ∧ Below w.heap.size w w' := by
  have hb : ∀ x y, Below w.heap.size w ((w.alloc x).alloc y) := fun _ _ => ((Below.refl _ _).alloc (Nat.le_refl _) _).alloc (by simp) _
  go_enter Try.func6, Try.ntmps6
  go_wp2_with fail
  refine (eqSegmentS_one _ _ n x B1 B2 _ (h1.below (hb _ _)) (h2.below (hb _ _))).mono ?_
  rintro r w1 ⟨rfl, hB1⟩
  obtain ⟨hc1, -⟩ := bcellN hB1
  have hBB := (hb _ _).trans (hB1.mono (hb _ _).size)
  simp only [World.size_alloc] at hc1
  clear hB1
  go_wp2
  go_ret
  exact ⟨rfl, hBB⟩

set_option maxRecDepth 100000 in
set_option maxHeartbeats 1000000 in
theorem markSegmentS_one (v : Value) (n : Nat) (x : Int) (s : ByteArray) (B k : Nat) (w : World) (h : SegV w B v n x s) (h1 : 1 ≤ k) (h2 : k ≤ 1000) (hBw : B ≤ w.heap.size) :
    Calls Try.prog 12 #[v, .int .i64 k] w fun r w' => r = .returned (.int .i64 (k + 2 * n)) ∧ SegV w' B v n k (markOf (k + 1)) ∧ Below B w w' ∧ ∀ b, b < w.heap.size → v.ownBlock ≠ some b → w'.heap[b]? = w.heap[b]? := by
  rcases h with ⟨rfl, rfl⟩ | ⟨rfl, g, rfl, hg, hR⟩
  · go_enter Try.func12, Try.ntmps12
    go_wp2
    go_loopw [1, 5] (fun c i wr => c = .int .i64 (k : Int) ∧ i = .int .i64 0 ∧ w = wr) (fun _ _ _ => 0)
    case atStart => exact ⟨rfl, rfl, rfl⟩
    case round =>
      obtain ⟨rfl, rfl, rfl⟩ := hrel
      go_wp2
      go_ret
      exact ⟨ret_int (by simp), .inl ⟨rfl, rfl⟩, Below.refl _ _, fun _ _ _ => rfl⟩
  · have hlt := hR.lt
    go_enter Try.func12, Try.ntmps12
    go_wp2
    go_loopw [1, 5] (fun c i wr => (c = .int .i64 (k : Int) ∧ i = .int .i64 0 ∧ w = wr) ∨ (c = .int .i64 ((k : Int) + 2) ∧ i = .int .i64 1 ∧ SegV wr B (.slice (some ⟨g, 0, none⟩) 1 1) 1 k (markOf (k + 1)) ∧ Below B w wr ∧ ∀ b, b < w.heap.size → b ≠ g → wr.heap[b]? = w.heap[b]?)) (fun _ i _ => 1 - (intOf i).toNat)
    case atStart => exact .inl ⟨rfl, rfl, rfl⟩
    case round =>
      rcases hrel with ⟨rfl, rfl, rfl⟩ | ⟨rfl, rfl, hV, hB, hO⟩
      · obtain ⟨c0, c1, c2⟩ := segVals_cells hR
        have f0 := hR.frozen 0
        have hR1 := hR.set 0 (.int .i64 (k : Int))
        have hb1 : Below B w (w.setCell ⟨g, 0, none⟩ (.int .i64 (k : Int))) := (Below.refl _ _).setCell hg _
        go_wp2_with fail
        rw [show ((k : Int) + 1) = ((k + 1 : Nat) : Int) from by simp]
        refine (markText_any (k + 1) _ (by omega) (by omega)).mono ?_
        rintro r w1 ⟨rfl, hz, hB1⟩
        have hR2 := (hR1.of_block (hB1.block _ hR1.lt))
        have hb2 := hb1.trans (hB1.mono (Nat.le_trans hBw hb1.size))
        have g1 := hR2.cell (i := 1) (by omega)
        have g2 := hR2.cell (i := 2) (by omega)
        have f1 := hR2.frozen 1
        have hR3 := hR2.set 1 (.string (markOf (k + 1)))
        have hb3 : Below B w (w1.setCell ⟨g, 1, none⟩ (.string (markOf (k + 1)))) := hb2.setCell hg _
        have HV : Hid (SegV (w1.setCell ⟨g, 1, none⟩ (.string (markOf (k + 1)))) B (.slice (some ⟨g, 0, none⟩) 1 1) 1 k (markOf (k + 1))) := by
          refine .inr ⟨rfl, g, rfl, hg, hR3.congr fun j hj => ?_⟩
          rcases (by omega : j = 0 ∨ j = 1 ∨ j = 2) with rfl | rfl | rfl <;> simp [segVals]
        simp [segVals] at g1 g2
        have g2' : (w1.setCell ⟨g, 1, none⟩ (.string (markOf (k + 1)))).cell? ⟨g, 2, none⟩ = some (.slice none 0 0) := by
          have := hR3.cell (i := 2) (by omega)
          simpa [segVals] using this
        have HO : Hid (∀ b, b < w.heap.size → b ≠ g → (w1.setCell ⟨g, 1, none⟩ (.string (markOf (k + 1)))).heap[b]? = w.heap[b]?) := fun b hb hne => by
          rw [Below.heap_setCell w1 ⟨g, 1, none⟩ _ b (by simpa using hne), hB1.block b (by simpa using hb), Below.heap_setCell w ⟨g, 0, none⟩ _ b (by simpa using hne)]
        clear hR hR1 hR2 hR3 hB1 hb1 hb2 hz
        go_wp2_with fail
        refine (markMarkS_nil _ _).mono ?_
        rintro r w2 ⟨rfl, rfl⟩
        go_wp2
        go_roundw
        case rel => exact .inr ⟨by go_num, by go_num, HV.out, hb3, HO.out⟩
        case measure => simp [intOf]
      · go_wp2
        go_ret
        exact ⟨ret_int (by omega), hV, hB, fun b hb hne => hO b hb (fun e => hne (by rw [e]; rfl))⟩

set_option maxRecDepth 100000 in
set_option maxHeartbeats 1000000 in
theorem heldSegmentS_one (v : Value) (n : Nat) (B k : Nat) (w : World) (h : SegV w B v n k (markOf (k + 1))) (h1 : 1 ≤ k) (h2 : k ≤ 1000) :
    Calls Try.prog 13 #[v, .int .i64 k] w fun r w' => r = .returned (.int .i64 (k + 2 * n)) ∧ Below w.heap.size w w' := by
  rcases h with ⟨rfl, rfl⟩ | ⟨rfl, g, rfl, hg, hR⟩
  · go_enter Try.func13, Try.ntmps13
    go_wp2
    go_loopw [1, 5] (fun c i wr => c = .int .i64 (k : Int) ∧ i = .int .i64 0 ∧ w = wr) (fun _ _ _ => 0)
    case atStart => exact ⟨rfl, rfl, rfl⟩
    case round =>
      obtain ⟨rfl, rfl, rfl⟩ := hrel
      go_wp2
      go_ret
      exact ⟨ret_int (by simp), Below.refl _ _⟩
  · have hlt := hR.lt
    go_enter Try.func13, Try.ntmps13
    go_wp2
    go_loopw [1, 5] (fun c i wr => (c = .int .i64 (k : Int) ∧ i = .int .i64 0 ∧ w = wr) ∨ (c = .int .i64 ((k : Int) + 2) ∧ i = .int .i64 1 ∧ Below w.heap.size w wr)) (fun _ i _ => 1 - (intOf i).toNat)
    case atStart => exact .inl ⟨rfl, rfl, rfl⟩
    case round =>
      rcases hrel with ⟨rfl, rfl, rfl⟩ | ⟨rfl, rfl, hB⟩
      · obtain ⟨c0, c1, c2⟩ := segVals_cells hR
        clear hR
        obtain ⟨mk, hmk⟩ : ∃ mk, markOf (k + 1) = mk := ⟨_, rfl⟩
        have HM : Hid (markOf (k + 1) = mk) := hmk
        rw [hmk] at c1
        clear hmk
        have hne : (!mk.toList == mk.toList) = false := by simp
        go_wp2
        go_region_with (go_at_call 15; rw [show ((k : Int) + 1) = ((k + 1 : Nat) : Int) from by simp]; refine (markText_any (k + 1) _ (by omega) (by omega)).mono ?_; rintro r w1 ⟨hr, hz, hB1⟩; rw [HM.out] at hr hz; subst hr; have d1 := ((bcellN hB1).1 g 1 (by simpa using hlt)).trans c1; have d2 := ((bcellN hB1).1 g 2 (by simpa using hlt)).trans c2)
        all_goals
          go_wp2_with fail
          refine (heldMarkS_nil _ _).mono ?_
          rintro r w2 ⟨rfl, rfl⟩
          go_wp2
          go_roundw
          case rel => exact .inr ⟨by go_num, by go_num, ((Below.refl _ _).drew).trans (hB1.mono (by simp))⟩
          case measure => simp [intOf]
      · go_wp2
        go_ret
        exact ⟨ret_int (by omega), hB⟩

set_option maxHeartbeats 1000000 in
theorem markStore_one (v : Value) (n : Nat) (x y : Int) (s : ByteArray) (B k : Nat) (w : World) (h : SegV w B v n x s) (h1 : 1 ≤ k) (h2 : k ≤ 1000) (hBw : B ≤ w.heap.size) :
    Calls Try.prog 7 #[.agg #[v, .int .i64 y], .int .i64 k] w fun r w' => r = .returned (.int .i64 (k + 2 * n)) ∧ SegV w' B v n k (markOf (k + 1)) ∧ Below B w w' ∧ ∀ b, b < w.heap.size → v.ownBlock ≠ some b → w'.heap[b]? = w.heap[b]? := by
  have hb0 : ∀ x, Below w.heap.size w (w.alloc x) := fun _ => (Below.refl _ _).alloc (Nat.le_refl _) _
  go_enter Try.func7, Try.ntmps7
  go_wp2_with fail
  refine (markSegmentS_one _ n x s B k _ (h.below (hb0 _)) h1 h2 (Nat.le_trans hBw (hb0 _).size)).mono ?_
  rintro r w1 ⟨rfl, hV, hB1, hO⟩
  have HO : Hid (∀ b, b < w.heap.size → v.ownBlock ≠ some b → w1.heap[b]? = w.heap[b]?) := fun b hb hne => by
    rw [hO b (by simp; omega) hne, (hb0 _).block b hb]
  have hBB := ((hb0 _).mono hBw).trans hB1
  clear hO
  go_wp2
  go_ret
  exact ⟨rfl, hV, hBB, HO.out⟩

set_option maxHeartbeats 1000000 in
theorem heldStore_one (v : Value) (n : Nat) (y : Int) (B k : Nat) (w : World) (h : SegV w B v n k (markOf (k + 1))) (h1 : 1 ≤ k) (h2 : k ≤ 1000) :
    Calls Try.prog 8 #[.agg #[v, .int .i64 y], .int .i64 k] w fun r w' => r = .returned (.int .i64 (k + 2 * n)) ∧ Below w.heap.size w w' := by
  have hb : ∀ x, Below w.heap.size w (w.alloc x) := fun _ => (Below.refl _ _).alloc (Nat.le_refl _) _
  go_enter Try.func8, Try.ntmps8
  go_wp2_with fail
  refine (heldSegmentS_one _ n B k _ (h.below (hb _)) h1 h2).mono ?_
  rintro r w1 ⟨rfl, hB1⟩
  have hBB := (hb _).trans (hB1.mono (hb _).size)
  have hp : ¬ ((k : Int) + 2 * n < 0) := by omega
  go_wp2
  go_ret
  exact ⟨rfl, hBB⟩

theorem seg_new (w : World) (o : Obj) {x : Int} : ((w.alloc o).alloc (.cells #[.int .i64 x, .string ⟨#[]⟩, .slice none 0 0] 33)).rowIs (w.heap.size + 1) 33 3 (segVals x ⟨#[]⟩) := by
  have h := World.rowIs_alloc (w.alloc o) #[.int .i64 x, .string ⟨#[]⟩, .slice none 0 0] 33 (segVals x ⟨#[]⟩) (fun i hi => by
    have hi : i < 3 := hi
    rcases (by omega : i = 0 ∨ i = 1 ∨ i = 2) with rfl | rfl | rfl <;> rfl)
  simpa using h

/-- What NewStore answers. -/
def nOf (x : Int) : Nat := if inB x 0 100000 = true then 1 else 0
def yOf (x : Int) : Int := if inB x 0 100000 = true then x else 0

set_option maxHeartbeats 1000000 in
theorem specNew_any (x : Int) (w : World) :
    Calls Try.prog 4 #[.int .i64 x] w fun r w' => ∃ v, r = .returned (.tuple #[.agg #[v, .int .i64 (yOf x)], .bool (inB x 0 100000)]) ∧ SegV w' w.heap.size v (nOf x) x ⟨#[]⟩ ∧ Below w.heap.size w w' := by
  have hb0 : ∀ o, Below w.heap.size w (w.alloc o) := fun o => (Below.refl _ _).alloc (Nat.le_refl _) o
  obtain ⟨i, hi⟩ : ∃ i, inB x 0 100000 = i := ⟨_, rfl⟩
  have HI : Hid (inB x 0 100000 = i) := hi
  unfold nOf yOf
  rw [hi]
  clear hi
  cases i with
  | false =>
    go_enter Try.func4, Try.ntmps4
    go_wp2_with (go_at_call 9; refine (l1In_any _ _ _ _).mono ?_; rintro e w' ⟨he, rfl⟩; rw [HI.out] at he; subst he)
    refine bodyPost_ret (v := .tuple #[.agg #[.slice none 0 0, .int .i64 0], .bool false]) (by simp [results, Try.results4, go_sem]) rfl ⟨_, rfl, .inl ⟨rfl, rfl⟩, hb0 _⟩
  | true =>
    go_enter Try.func4, Try.ntmps4
    go_wp2_with (go_at_call 9; refine (l1In_any _ _ _ _).mono ?_; rintro e w' ⟨he, rfl⟩; rw [HI.out] at he; subst he)
    refine bodyPost_ret (v := .tuple #[.agg #[.slice (some ⟨w.heap.size + 1, 0, none⟩) 1 1, .int .i64 x], .bool true]) (by simp [results, Try.results4, go_sem]) rfl ⟨_, rfl, .inr ⟨rfl, w.heap.size + 1, rfl, Nat.le_succ _, seg_new _ _⟩, (hb0 _).alloc (by simp) _⟩

set_option maxHeartbeats 1000000 in
theorem implNew_any (x : Int) (w : World) :
    Calls Try.prog 5 #[.int .i64 x] w fun r w' => ∃ v, r = .returned (.tuple #[.agg #[v, .int .i64 (yOf x)], .bool (inB x 0 100000)]) ∧ SegV w' w.heap.size v (nOf x) x ⟨#[]⟩ ∧ Below w.heap.size w w' := by
  have hb0 : ∀ o, Below w.heap.size w (w.alloc o) := fun o => (Below.refl _ _).alloc (Nat.le_refl _) o
  obtain ⟨i, hi⟩ : ∃ i, inB x 0 100000 = i := ⟨_, rfl⟩
  have HI : Hid (inB x 0 100000 = i) := hi
  unfold nOf yOf
  rw [hi]
  clear hi
  cases i with
  | false =>
    go_enter Try.func5, Try.ntmps5
    go_wp2_with (go_at_call 10; refine (within_any _ _ _).mono ?_; rintro e w' ⟨he, rfl⟩; rw [HI.out] at he; subst he)
    refine bodyPost_ret (v := .tuple #[.agg #[.slice none 0 0, .int .i64 0], .bool false]) (by simp [results, Try.results5, go_sem]) rfl ⟨_, rfl, .inl ⟨rfl, rfl⟩, hb0 _⟩
  | true =>
    go_enter Try.func5, Try.ntmps5
    go_wp2_with (go_at_call 10; refine (within_any _ _ _).mono ?_; rintro e w' ⟨he, rfl⟩; rw [HI.out] at he; subst he)
    refine bodyPost_ret (v := .tuple #[.agg #[.slice (some ⟨w.heap.size + 1, 0, none⟩) 1 1, .int .i64 x], .bool true]) (by simp [results, Try.results5, go_sem]) rfl ⟨_, rfl, .inr ⟨rfl, w.heap.size + 1, rfl, Nat.le_succ _, seg_new _ _⟩, (hb0 _).alloc (by simp) _⟩

end Go.Proofs.Ytaifeebjjffiaaa
