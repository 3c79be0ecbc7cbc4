/-
  The laws' helpers on a segment's marks: szMarkS, toMarkS, eqMarkS, markMarkS, heldMarkS.
-/
import Derived.Test.YtomigekigcklfaaDoorIm
import Derived.Deep.RegionWith
namespace Go.Proofs.YtomigekigcklfaaDoor
open Go.RowKit

def szIm (n : Nat) (left : Int) : Int := if left - n < 0 then -1 else left - n

theorem szMarkS_any (a : Option Addr) (c n : Nat) (left : Int) (w : World) (hl : n ≤ maxLen) (h0 : 0 ≤ left) (h1 : left ≤ 1048576) :
    Calls Tryd.prog 61 #[.slice a n c, .int .i64 left] w fun e w' => e = .returned (.int .i64 (szIm n left)) ∧ w' = w := by
  unfold maxLen at hl
  by_cases hn : left - n < 0
  · go_enter Tryd.func61, Tryd.ntmps61
    go_wp2
    go_ret
    exact ⟨ret_int (by unfold szIm; rw [if_pos hn]), rfl⟩
  · go_enter Tryd.func61, Tryd.ntmps61
    go_wp2
    go_ret
    exact ⟨ret_int (by unfold szIm; rw [if_neg (by omega)]), rfl⟩

set_option maxHeartbeats 1000000 in
theorem toMark_any (f : Im) (w : World) :
    Calls Tryd.prog 74 #[.agg #[.int .i64 f.off, .int .i64 f.at_]] w fun r w' => r = .returned (.agg #[.int .i64 f.off, .int .i64 f.at_]) ∧ Below w.heap.size w w' := by
  have hb : ∀ x y z, Below w.heap.size w (((w.alloc x).alloc y).alloc z) := fun _ _ _ => (((Below.refl _ _).alloc (Nat.le_refl _) _).alloc (by simp) _).alloc (by simp; omega) _
  go_enter Tryd.func74, Tryd.ntmps74
  go_wp2
  refine bodyPost_ret (v := .agg #[.int .i64 f.off, .int .i64 f.at_]) (by simp [results, Tryd.results74, go_sem]) rfl ⟨rfl, ?_⟩
  exact hb _ _ _

/-- make([]T, n), T of several cells. -/
theorem run_make_manyIm {P : Program} (t e : TypeId) (z : Value) (size bytes : Nat) (ht : P.underlying t = some (.slice e)) (hinfo : (P.info? e).map (fun i => (i.zero, i.size, i.bytes)) = some (some z, size, bytes))
    (kl kc : IntKind) (n : Nat) (hbytes : bytes * n ≤ 281474976710656) (h63 : n ≤ 9223372036854775807) (w : World) :
    (Instr.makeSlice t (.int kl (n : Int)) (.int kc (n : Int))).run P w = .ok (.slice (some ⟨w.heap.size, 0, none⟩) n n) (w.alloc (.cells (madeCells z.cells (n * size)) e)) := by
  obtain ⟨i, hi, hzz⟩ := Option.map_eq_some_iff.1 hinfo
  simp only [Prod.mk.injEq] at hzz
  obtain ⟨hz, rfl, rfl⟩ := hzz
  have hb' : (i.bytes : Int) * (n : Int) ≤ 281474976710656 := by
    have h : ((i.bytes * n : Nat) : Int) ≤ 281474976710656 := by omega
    rwa [Int.natCast_mul] at h
  have hr := run_make (P := P) w t e i z ht hi hz kl kc n n (by omega) (Int.le_refl _) hb' (by omega)
  simp only [Int.toNat_natCast] at hr
  exact hr

theorem rowIs_of_allocIm (w : World) (c : Array Value) (t : TypeId) : (w.alloc (.cells c t)).rowIs w.heap.size t c.size (fun j => c.getD j undef) :=
  World.rowIs_alloc w c t _ (fun i hi => by simp [hi])

/-- The row's first k marks are these. -/
def ImTo (f : Nat → Value) (fs : List Im) (k : Nat) : Prop :=
  ∀ i b, i < k → fs[i]? = some b → f (i * 2) = .int .i64 b.off ∧ f (i * 2 + 1) = .int .i64 b.at_

theorem im_step {w : World} {N m : Nat} {t : TypeId} {f : Nat → Value} {fs : List Im} {k : Nat} {b : Im} (hR : w.rowIs N t m f) (hO : ImTo f fs k) (hb : fs[k]? = some b) :
    ∃ g, ((w.setCell ⟨N, k * 2, none⟩ (.int .i64 b.off)).setCell ⟨N, k * 2 + 1, none⟩ (.int .i64 b.at_)).rowIs N t m g ∧ ImTo g fs (k + 1) := by
  refine ⟨_, (hR.set _ _).set _ _, fun i c hi hc => ?_⟩
  by_cases e : i = k
  · subst e
    obtain rfl : b = c := by rw [hb] at hc; simpa using hc
    constructor <;> simp
  · obtain ⟨h0, h1⟩ := hO i c (by omega) hc
    constructor
    · rw [if_neg (by omega), if_neg (by omega)]; exact h0
    · rw [if_neg (by omega), if_neg (by omega)]; exact h1

theorem Ims.of_row {w : World} {N m : Nat} {t : TypeId} {f : Nat → Value} {fs : List Im} (hR : w.rowIs N t m f) (hm : fs.length * 2 ≤ m) (hO : ImTo f fs fs.length) : Ims w (some ⟨N, 0, none⟩) fs := fun i b hi => by
  have hlt := (List.getElem?_eq_some_iff.1 hi).1
  obtain ⟨h0, h1⟩ := hO i b hlt hi
  refine ⟨N, 0, rfl, ?_, ?_⟩
  · rw [Nat.zero_add, hR.cell (by omega), h0]
  · rw [Nat.zero_add, hR.cell (by omega), h1]

theorem RowIm.of_block {w w' : World} {B : Nat} {a : Option Addr} {n : Nat} (h : RowIm w B a n) (hs : ∀ b, InBlock a n b → w'.heap[b]? = w.heap[b]?) : RowIm w' B a n := by
  rcases h with h | ⟨g, m, f, rfl, hg, hm, hR⟩
  · exact .inl h
  · by_cases h0 : n = 0
    · exact .inl h0
    · exact .inr ⟨g, m, f, rfl, hg, hm, hR.of_block (hs g ⟨by omega, 0, none, rfl⟩)⟩

theorem RowIm.lt {w : World} {B : Nat} {a : Option Addr} {n b : Nat} (h : RowIm w B a n) (hb : InBlock a n b) : B ≤ b ∧ b < w.heap.size := by
  obtain ⟨h0, o, s, e⟩ := hb
  rcases h with h | ⟨g, m, f, rfl, hg, hm, hR⟩
  · omega
  · simp only [Option.some.injEq, Addr.mk.injEq] at e
    have := hR.lt
    omega

theorem RowIm.below {w w' : World} {B : Nat} {a : Option Addr} {n : Nat} (h : RowIm w B a n) (hb : Below w.heap.size w w') : RowIm w' B a n :=
  h.of_block fun b hi => hb.block b (h.lt hi).2

theorem RowIm.mono {w : World} {B B' : Nat} {a : Option Addr} {n : Nat} (h : RowIm w B a n) (hb : B' ≤ B) : RowIm w B' a n := by
  rcases h with h | ⟨g, m, f, e, hg, r⟩
  · exact .inl h
  · exact .inr ⟨g, m, f, e, by omega, r⟩

theorem Ims.of_block {w w' : World} {a : Option Addr} {fs : List Im} (h : Ims w a fs) (hs : ∀ b, InBlock a fs.length b → w'.heap[b]? = w.heap[b]?) : Ims w' a fs := fun i s hi => by
  obtain ⟨b, off, e, h0, h1⟩ := h i s hi
  have hlt := (List.getElem?_eq_some_iff.1 hi).1
  have hh := hs b ⟨by omega, off, none, e⟩
  exact ⟨b, off, e, (World.cell?_of_block (a := ⟨b, off + i * 2, none⟩) hh).trans h0, (World.cell?_of_block (a := ⟨b, off + i * 2 + 1, none⟩) hh).trans h1⟩

theorem Ims.lt {w : World} {a : Option Addr} {fs : List Im} (h : Ims w a fs) : ∀ b, InBlock a fs.length b → b < w.heap.size := fun b ⟨h0, o, s, e⟩ => by
  obtain ⟨z, hz⟩ := getIm (fs := fs) h0
  obtain ⟨k, o', e', hc, -⟩ := h 0 z hz
  rw [e'] at e
  simp only [Option.some.injEq, Addr.mk.injEq] at e
  have := lt_of_cell hc
  omega

set_option maxHeartbeats 1000000 in
theorem toMarkS_any (a : Option Addr) (c : Nat) (fs : List Im) (w : World) (hs : Ims w a fs) (hl : fs.length ≤ 1048576) :
    Calls Tryd.prog 63 #[.slice a fs.length c] w fun e w' => ∃ a', e = .returned (.slice a' fs.length fs.length) ∧ Ims w' a' fs ∧ RowIm w' w.heap.size a' fs.length ∧ Below w.heap.size w w' := by
  have hmk := run_make_manyIm (P := Tryd.prog) 50 96 _ 2 16 Tryd.underlying50 Tryd.infoIm .i64 .i64 fs.length (by omega) (by omega)
  go_enter Tryd.func63, Tryd.ntmps63
  go_wp2
  have hB : ∀ o, Below w.heap.size w (w.alloc o) := fun o => (Below.refl _ _).alloc (Nat.le_refl _) o
  go_loopw [4] (fun i wr => ∃ k : Nat, k ≤ fs.length ∧ i = .int .i64 k ∧ ∃ f, wr.rowIs w.heap.size 96 (fs.length * 2) f ∧ ImTo f fs k ∧ Below w.heap.size w wr) (fun i _ => fs.length - (intOf i).toNat)
  case atStart => exact ⟨0, Nat.zero_le _, rfl, _, by simpa [size_madeCells] using rowIs_of_allocIm w (madeCells _ (fs.length * 2)) 96, fun i b hi => absurd hi (Nat.not_lt_zero _), hB _⟩
  case round =>
    clear hB
    obtain ⟨k, hk, rfl, f, hR, hO, hB⟩ := hrel
    by_cases hlt : k < fs.length
    · obtain ⟨b, hkb⟩ := getIm hlt
      obtain ⟨kb, ob, rfl, c0, c1⟩ := (hs.below hB) k b hkb
      have HK : Hid (fs[k]? = some b) := hkb
      have HO : Hid (ImTo f fs k) := hO
      clear hs hkb hO
      go_wp2_with fail
      refine (toMark_any b _).mono ?_
      rintro r w1 ⟨rfl, hB1⟩
      have hR1 : w1.rowIs w.heap.size 96 (fs.length * 2) f := hR.of_block (hB1.block _ hR.lt)
      have d0 := hR1.cell (i := k * 2) (by omega)
      have d1 := hR1.cell (i := k * 2 + 1) (by omega)
      have hf := hR1.frozen
      have hBn := hB.trans (hB1.mono hB.size)
      clear hB hB1 hR
      go_wp2
      go_roundw
      case rel =>
        obtain ⟨g, hg, hOg⟩ := im_step hR1 HO.out HK.out
        exact ⟨k + 1, by omega, by go_num, g, hg, hOg, (hBn.setCell (Nat.le_refl _) _).setCell (Nat.le_refl _) _⟩
      case measure => simp [intOf]; omega
    · go_wp2
      go_ret
      obtain rfl : k = fs.length := by omega
      exact ⟨_, rfl, Ims.of_row hR (Nat.le_refl _) hO, .inr ⟨_, _, _, rfl, Nat.le_refl _, Nat.le_refl _, hR⟩, hB⟩

set_option maxHeartbeats 1000000 in
theorem eqMark_same (f : Im) (w : World) :
    Calls Tryd.prog 77 #[.agg #[.int .i64 f.off, .int .i64 f.at_], .agg #[.int .i64 f.off, .int .i64 f.at_]] w fun r w' => r = .returned (.bool true) ∧ Below w.heap.size w w' := by
  have hb : ∀ x y, Below w.heap.size w ((w.alloc x).alloc y) := fun _ _ => ((Below.refl _ _).alloc (Nat.le_refl _) _).alloc (by simp) _
  go_enter Tryd.func77, Tryd.ntmps77
  go_wp2
  go_ret
  exact ⟨rfl, hb _ _⟩

set_option maxHeartbeats 1000000 in
theorem eqMarkS_same (a a2 : Option Addr) (c c2 : Nat) (fs : List Im) (w : World) (hx : Ims w a fs) (hy : Ims w a2 fs) (hl : fs.length ≤ maxLen) :
    Calls Tryd.prog 70 #[.slice a fs.length c, .slice a2 fs.length c2] w fun e w' => e = .returned (.bool true) ∧ Below w.heap.size w w' := by
  unfold maxLen at hl
  go_enter Tryd.func70, Tryd.ntmps70
  go_wp2
  go_loopw [5] (fun i wr => ∃ k : Nat, k ≤ fs.length ∧ i = .int .i64 k ∧ Below w.heap.size w wr) (fun i _ => fs.length - (intOf i).toNat)
  case atStart => exact ⟨0, Nat.zero_le _, rfl, Below.refl _ _⟩
  case round =>
    obtain ⟨k, hk, rfl, hB⟩ := hrel
    by_cases hlt : k < fs.length
    · obtain ⟨b, hkb⟩ := getIm hlt
      obtain ⟨kb, ob, rfl, c0, c1⟩ := (hx.below hB) k b hkb
      obtain ⟨kb2, ob2, rfl, d0, d1⟩ := (hy.below hB) k b hkb
      clear hx hy hkb
      go_wp2
      go_region_with (go_at_call 77; refine (eqMark_same _ _).mono ?_; rintro r w1 ⟨rfl, hB1⟩)
      all_goals
        go_wp2
        go_roundw
        case rel => exact ⟨k + 1, by omega, by go_num, hB.drew.trans (hB1.mono (by simpa using hB.size))⟩
        case measure => simp [intOf]; omega
    · go_wp2
      go_ret
      exact ⟨rfl, hB⟩

/-- n marked marks from k on. -/
def markIms (k n : Nat) : List Im := (List.range n).map fun i => ⟨((k + 2 * i : Nat) : Int), ((k + 2 * i + 1 : Nat) : Int)⟩

theorem markIms_length (k n : Nat) : (markIms k n).length = n := by simp [markIms]
theorem markIms_get {k n i : Nat} (h : i < n) : (markIms k n)[i]? = some ⟨((k + 2 * i : Nat) : Int), ((k + 2 * i + 1 : Nat) : Int)⟩ := by simp [markIms, h]

set_option maxRecDepth 100000 in
set_option maxHeartbeats 1000000 in
theorem markMarkS_any (a : Option Addr) (c n B k : Nat) (w : World) (h : RowIm w B a n) (h2 : k + 2 * n ≤ 1000000000) :
    Calls Tryd.prog 56 #[.slice a n c, .int .i64 k] w fun r w' => r = .returned (.int .i64 ((k + 2 * n : Nat) : Int)) ∧ Ims w' a (markIms k n) ∧ RowIm w' B a n ∧ Below B w w' ∧ ∀ b, b < w.heap.size → ¬ InBlock a n b → w'.heap[b]? = w.heap[b]? := by
  by_cases h0 : n = 0
  · subst h0
    go_enter Tryd.func56, Tryd.ntmps56
    go_wp2
    go_loopw [1, 5] (fun c i wr => c = .int .i64 (k : Int) ∧ i = .int .i64 0 ∧ w = wr) (fun _ _ _ => 0)
    case atStart => exact ⟨rfl, rfl, rfl⟩
    case round =>
      obtain ⟨rfl, rfl, rfl⟩ := hrel
      go_wp2
      go_ret
      exact ⟨ret_int (by simp), (fun i s hi => by simp [markIms] at hi), .inl rfl, Below.refl _ _, fun _ _ _ => rfl⟩
  · obtain ⟨g, m, f, rfl, hg, hm, hR⟩ := h.resolve_left h0
    go_enter Tryd.func56, Tryd.ntmps56
    go_wp2
    go_loopw [1, 5] (fun c i wr => ∃ j : Nat, j ≤ n ∧ c = .int .i64 ((k + 2 * j : Nat) : Int) ∧ i = .int .i64 (j : Int) ∧ (∃ f', wr.rowIs g 96 m f' ∧ ∀ q, q < j → f' (q * 2) = .int .i64 ((k + 2 * q : Nat) : Int) ∧ f' (q * 2 + 1) = .int .i64 ((k + 2 * q + 1 : Nat) : Int)) ∧ Below B w wr ∧ ∀ b, b < w.heap.size → b ≠ g → wr.heap[b]? = w.heap[b]?) (fun _ i _ => n - (intOf i).toNat)
    case atStart => exact ⟨0, Nat.zero_le _, rfl, rfl, ⟨f, hR, fun q hq => absurd hq (Nat.not_lt_zero _)⟩, Below.refl _ _, fun _ _ _ => rfl⟩
    case round =>
      clear hR
      obtain ⟨j, hj, rfl, rfl, ⟨f', hR, hq⟩, hB, hO⟩ := hrel
      have HQ : Hid (∀ q, q < j → f' (q * 2) = .int .i64 ((k + 2 * q : Nat) : Int) ∧ f' (q * 2 + 1) = .int .i64 ((k + 2 * q + 1 : Nat) : Int)) := hq
      have HO : Hid (∀ b, b < w.heap.size → b ≠ g → wr.heap[b]? = w.heap[b]?) := hO
      clear hq hO
      by_cases hlt : j < n
      · have c0 := hR.cell (i := j * 2) (by omega)
        have c1 := hR.cell (i := j * 2 + 1) (by omega)
        have f0 := hR.frozen
        have hR2 := (hR.set (j * 2) (.int .i64 ((k + 2 * j : Nat) : Int))).set (j * 2 + 1) (.int .i64 ((k + 2 * j + 1 : Nat) : Int))
        have hBn : Below B w ((wr.setCell ⟨g, j * 2, none⟩ (.int .i64 ((k + 2 * j : Nat) : Int))).setCell ⟨g, j * 2 + 1, none⟩ (.int .i64 ((k + 2 * j + 1 : Nat) : Int))) := (hB.setCell hg _).setCell hg _
        have HN : Hid (∀ b, b < w.heap.size → b ≠ g → ((wr.setCell ⟨g, j * 2, none⟩ (.int .i64 ((k + 2 * j : Nat) : Int))).setCell ⟨g, j * 2 + 1, none⟩ (.int .i64 ((k + 2 * j + 1 : Nat) : Int))).heap[b]? = w.heap[b]?) := fun b hb hne => by
          rw [Below.heap_setCell _ ⟨g, j * 2 + 1, none⟩ _ b (by simpa using hne), Below.heap_setCell wr ⟨g, j * 2, none⟩ _ b (by simpa using hne), HO.out b hb hne]
        clear hR hB HO
        go_wp2
        go_roundw
        case rel =>
          refine ⟨j + 1, by omega, by go_num, by go_num, ⟨_, hR2, fun q hq' => ?_⟩, hBn, HN.out⟩
          by_cases e : q = j
          · subst e
            refine ⟨?_, ?_⟩
            · rw [if_neg (by omega), if_pos rfl]
            · rw [if_pos rfl]
          · obtain ⟨g0, g1⟩ := HQ.out q (by omega)
            refine ⟨?_, ?_⟩
            · rw [if_neg (by omega), if_neg (by omega)]; exact g0
            · rw [if_neg (by omega), if_neg (by omega)]; exact g1
        case measure => simp [intOf]; omega
      · obtain rfl : j = n := by omega
        go_wp2
        go_ret
        refine ⟨rfl, fun i s hi => ?_, .inr ⟨g, m, f', rfl, hg, hm, hR⟩, hB, fun b hb hne => ?_⟩
        · have hi' : i < j := by have := (List.getElem?_eq_some_iff.1 hi).1; simpa [markIms_length] using this
          rw [markIms_get hi'] at hi
          simp only [Option.some.injEq] at hi
          subst hi
          obtain ⟨g0, g1⟩ := HQ.out i hi'
          refine ⟨g, 0, rfl, ?_, ?_⟩
          · rw [Nat.zero_add, hR.cell (by omega), g0]
          · rw [Nat.zero_add, hR.cell (by omega), g1]
        · by_cases e : b = g
          · subst e
            exact absurd ⟨by omega, 0, none, rfl⟩ hne
          · exact HO.out b hb e

set_option maxRecDepth 100000 in
set_option maxHeartbeats 1000000 in
theorem heldMarkS_any (a : Option Addr) (c n k : Nat) (w : World) (h : Ims w a (markIms k n)) (h2 : k + 2 * n ≤ 1000000000) :
    Calls Tryd.prog 57 #[.slice a n c, .int .i64 k] w fun r w' => r = .returned (.int .i64 ((k + 2 * n : Nat) : Int)) ∧ w' = w := by
  go_enter Tryd.func57, Tryd.ntmps57
  go_wp2
  go_loopw [1, 5] (fun c i wr => ∃ j : Nat, j ≤ n ∧ c = .int .i64 ((k + 2 * j : Nat) : Int) ∧ i = .int .i64 (j : Int) ∧ w = wr) (fun _ i _ => n - (intOf i).toNat)
  case atStart => exact ⟨0, Nat.zero_le _, rfl, rfl, rfl⟩
  case round =>
    obtain ⟨j, hj, rfl, rfl, rfl⟩ := hrel
    by_cases hlt : j < n
    · obtain ⟨b, off, rfl, hc, hd⟩ := h j _ (markIms_get hlt)
      clear h
      go_wp2
      go_roundw
      case rel => exact ⟨j + 1, by omega, by go_num, by go_num, by first | rfl | trivial⟩
      case measure => simp [intOf]; omega
    · obtain rfl : j = n := by omega
      go_wp2
      go_ret
      exact ⟨rfl, rfl⟩

end Go.Proofs.YtomigekigcklfaaDoor
