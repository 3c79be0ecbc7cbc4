/-
  Lists of Event as a call reads them, and the contracts of the laws' helpers on them: szEventS, toEvent, toEventS, eqEvent, eqEventS, markEventS.
-/
import Derived.Test.YtambbgpofmojnaaEp
import Derived.Deep.RegionWith
namespace Go.Proofs.Ytambbgpofmojnaa
open Go.RowKit

/-- One Event: its numbers. -/
structure Ev where
  pr : Int
  kd : Int
  ms : Int
deriving DecidableEq

/-- At block k, from cell o on, one lies. -/
def EvAt (w : World) (k o : Nat) (f : Ev) : Prop :=
  w.cell? ⟨k, o, none⟩ = some (.int .i64 f.pr) ∧ w.cell? ⟨k, o + 1, none⟩ = some (.int .i64 f.kd) ∧ w.cell? ⟨k, o + 2, none⟩ = some (.int .i64 f.ms)

/-- The slice value at 'a' reads as these. -/
def Evs (w : World) (a : Option Addr) (fs : List Ev) : Prop :=
  ∀ i f, fs[i]? = some f → ∃ k o, a = some ⟨k, o, none⟩ ∧ EvAt w k (o + i * 3) f

theorem EvAt.below {w w' : World} {k o : Nat} {f : Ev} (h : EvAt w k o f) (hb : Below w.heap.size w w') : EvAt w' k o f := by
  obtain ⟨h0, h1, h2⟩ := h
  have lt := lt_of_cell h0
  exact ⟨(hb.cell (p := ⟨k, o, none⟩) lt).trans h0, (hb.cell (p := ⟨k, o + 1, none⟩) lt).trans h1, (hb.cell (p := ⟨k, o + 2, none⟩) lt).trans h2⟩

theorem Evs.below {w w' : World} {a : Option Addr} {fs : List Ev} (h : Evs w a fs) (hb : Below w.heap.size w w') : Evs w' a fs := fun i f hi => by
  obtain ⟨k, o, e, hB⟩ := h i f hi
  exact ⟨k, o, e, hB.below hb⟩

theorem Evs.nil (w : World) (a : Option Addr) : Evs w a [] := fun i f hi => by simp at hi

theorem getEv {fs : List Ev} {k : Nat} (h : k < fs.length) : ∃ s, fs[k]? = some s := ⟨_, List.getElem?_eq_getElem h⟩

theorem takeEv_snoc {ss : List Ev} {k : Nat} {s : Ev} (h : ss[k]? = some s) : ss.take (k + 1) = ss.take k ++ [s] := by
  rw [List.take_add_one, h]; rfl

def szE (n : Nat) : Int := if (1048576 : Int) - n < 0 then -1 else 1048576 - n
theorem szE_neg {n : Nat} (h : (1048576 : Int) < n) : szE n = -1 := by unfold szE; rw [if_pos (by omega)]
theorem szE_pos {n : Nat} (h : n ≤ 1048576) : szE n = 1048576 - n := by unfold szE; rw [if_neg (by omega)]

theorem szEventS_any (a : Option Addr) (c n : Nat) (w : World) (hl : n ≤ maxLen) :
    Calls Try.prog 9 #[.slice a n c, .int .i64 1048576] w fun e w' => e = .returned (.int .i64 (szE n)) ∧ w' = w := by
  unfold maxLen at hl
  by_cases hn : (1048576 : Int) - n < 0
  · go_enter Try.func9, Try.ntmps9
    go_wp2
    go_ret
    exact ⟨ret_int (by unfold szE; rw [if_pos hn]), rfl⟩
  · go_enter Try.func9, Try.ntmps9
    go_wp2
    go_ret
    exact ⟨ret_int (by unfold szE; rw [if_neg (by omega)]), rfl⟩

set_option maxHeartbeats 1000000 in
theorem toEvent_any (f : Ev) (w : World) :
    Calls Try.prog 34 #[.agg #[.int .i64 f.pr, .int .i64 f.kd, .int .i64 f.ms]] w fun r w' => r = .returned (.agg #[.int .i64 f.pr, .int .i64 f.kd, .int .i64 f.ms]) ∧ Below w.heap.size w w' := by
  have hb : ∀ x y z, Below w.heap.size w (((w.alloc x).alloc y).alloc z) := fun _ _ _ => (((Below.refl _ _).alloc (Nat.le_refl _) _).alloc (by simp) _).alloc (by simp; omega) _
  go_enter Try.func34, Try.ntmps34
  go_wp2
  refine bodyPost_ret (v := .agg #[.int .i64 f.pr, .int .i64 f.kd, .int .i64 f.ms]) (by simp [results, Try.results34, go_sem]) rfl ⟨rfl, ?_⟩
  exact hb _ _ _

theorem Try.infoEv : (Try.prog.info? 48).map (fun i => (i.zero, i.size, i.bytes)) = some (some (.agg #[.int .i64 0, .int .i64 0, .int .i64 0]), 3, 24) := by kernel_rfl

/-- make([]T, n), T of several cells. -/
theorem run_make_manyV {P : Program} (t e : TypeId) (z : Value) (size bytes : Nat) (ht : P.underlying t = some (.slice e)) (hinfo : (P.info? e).map (fun i => (i.zero, i.size, i.bytes)) = some (some z, size, bytes))
    (kl kc : IntKind) (n : Nat) (hbytes : bytes * n ≤ 281474976710656) (h63 : n ≤ 9223372036854775807) (w : World) :
    (Instr.makeSlice t (.int kl (n : Int)) (.int kc (n : Int))).run P w = .ok (.slice (some ⟨w.heap.size, 0, none⟩) n n) (w.alloc (.cells (madeCells z.cells (n * size)) e)) := by
  obtain ⟨i, hi, hzz⟩ := Option.map_eq_some_iff.1 hinfo
  simp only [Prod.mk.injEq] at hzz
  obtain ⟨hz, rfl, rfl⟩ := hzz
  have hb' : (i.bytes : Int) * (n : Int) ≤ 281474976710656 := by
    have h : ((i.bytes * n : Nat) : Int) ≤ 281474976710656 := by omega
    rwa [Int.natCast_mul] at h
  have hr := run_make (P := P) w t e i z ht hi hz kl kc n n (by omega) (Int.le_refl _) hb' (by omega)
  simp only [Int.toNat_natCast] at hr
  exact hr

theorem rowIs_of_allocV (w : World) (c : Array Value) (t : TypeId) : (w.alloc (.cells c t)).rowIs w.heap.size t c.size (fun j => c.getD j undef) :=
  World.rowIs_alloc w c t _ (fun i hi => by simp [hi])

/-- The row's first k are these. -/
def EvTo (f : Nat → Value) (fs : List Ev) (k : Nat) : Prop :=
  ∀ i b, i < k → fs[i]? = some b → f (i * 3) = .int .i64 b.pr ∧ f (i * 3 + 1) = .int .i64 b.kd ∧ f (i * 3 + 2) = .int .i64 b.ms

theorem EvTo_step {w : World} {N m : Nat} {t : TypeId} {f : Nat → Value} {fs : List Ev} {k : Nat} {b : Ev} (hR : w.rowIs N t m f) (hO : EvTo f fs k) (hb : fs[k]? = some b) :
    ∃ g, (((w.setCell ⟨N, k * 3, none⟩ (.int .i64 b.pr)).setCell ⟨N, k * 3 + 1, none⟩ (.int .i64 b.kd)).setCell ⟨N, k * 3 + 2, none⟩ (.int .i64 b.ms)).rowIs N t m g ∧ EvTo g fs (k + 1) := by
  refine ⟨_, (((hR.set _ _).set _ _).set _ _), fun i c hi hc => ?_⟩
  by_cases e : i = k
  · subst e
    obtain rfl : b = c := by rw [hb] at hc; simpa using hc
    refine ⟨?_, ?_, ?_⟩ <;> simp
  · obtain ⟨h0, h1, h2⟩ := hO i c (by omega) hc
    refine ⟨?_, ?_, ?_⟩
    · rw [if_neg (by omega), if_neg (by omega), if_neg (by omega)]; exact h0
    · rw [if_neg (by omega), if_neg (by omega), if_neg (by omega)]; exact h1
    · rw [if_neg (by omega), if_neg (by omega), if_neg (by omega)]; exact h2

theorem Evs.of_row {w : World} {N m : Nat} {t : TypeId} {f : Nat → Value} {fs : List Ev} (hR : w.rowIs N t m f) (hm : fs.length * 3 ≤ m) (hO : EvTo f fs fs.length) : Evs w (some ⟨N, 0, none⟩) fs := fun i b hi => by
  have hlt := (List.getElem?_eq_some_iff.1 hi).1
  obtain ⟨h0, h1, h2⟩ := hO i b hlt hi
  refine ⟨N, 0, rfl, ?_, ?_, ?_⟩
  · rw [Nat.zero_add, hR.cell (by omega), h0]
  · rw [Nat.zero_add, hR.cell (by omega), h1]
  · rw [Nat.zero_add, hR.cell (by omega), h2]

/-- Room for n of them at 'a', in a block from B on that may be written. -/
def RowV (w : World) (B : Nat) (a : Option Addr) (n : Nat) : Prop :=
  n = 0 ∨ ∃ g m f, a = some ⟨g, 0, none⟩ ∧ B ≤ g ∧ n * 3 ≤ m ∧ w.rowIs g 48 m f

theorem RowV.of_block {w w' : World} {B : Nat} {a : Option Addr} {n : Nat} (h : RowV w B a n) (hs : ∀ b, InI a n b → w'.heap[b]? = w.heap[b]?) : RowV w' B a n := by
  rcases h with h | ⟨g, m, f, rfl, hg, hm, hR⟩
  · exact .inl h
  · by_cases h0 : n = 0
    · exact .inl h0
    · exact .inr ⟨g, m, f, rfl, hg, hm, hR.of_block (hs g ⟨by omega, 0, none, rfl⟩)⟩

theorem RowV.lt {w : World} {B : Nat} {a : Option Addr} {n b : Nat} (h : RowV w B a n) (hb : InI a n b) : B ≤ b ∧ b < w.heap.size := by
  obtain ⟨h0, o, s, e⟩ := hb
  rcases h with h | ⟨g, m, f, rfl, hg, hm, hR⟩
  · omega
  · simp only [Option.some.injEq, Addr.mk.injEq] at e
    have := hR.lt
    omega

theorem RowV.below {w w' : World} {B : Nat} {a : Option Addr} {n : Nat} (h : RowV w B a n) (hb : Below w.heap.size w w') : RowV w' B a n :=
  h.of_block fun b hi => hb.block b (h.lt hi).2

theorem RowV.mono {w : World} {B B' : Nat} {a : Option Addr} {n : Nat} (h : RowV w B a n) (hb : B' ≤ B) : RowV w B' a n := by
  rcases h with h | ⟨g, m, f, e, hg, r⟩
  · exact .inl h
  · exact .inr ⟨g, m, f, e, by omega, r⟩

theorem Evs.of_block {w w' : World} {a : Option Addr} {fs : List Ev} (h : Evs w a fs) (hs : ∀ b, InI a fs.length b → w'.heap[b]? = w.heap[b]?) : Evs w' a fs := fun i s hi => by
  obtain ⟨b, off, e, h0, h1, h2⟩ := h i s hi
  have hlt := (List.getElem?_eq_some_iff.1 hi).1
  have hh := hs b ⟨by omega, off, none, e⟩
  exact ⟨b, off, e, (World.cell?_of_block (a := ⟨b, off + i * 3, none⟩) hh).trans h0, (World.cell?_of_block (a := ⟨b, off + i * 3 + 1, none⟩) hh).trans h1, (World.cell?_of_block (a := ⟨b, off + i * 3 + 2, none⟩) hh).trans h2⟩

theorem Evs.lt {w : World} {a : Option Addr} {fs : List Ev} (h : Evs w a fs) : ∀ b, InI a fs.length b → b < w.heap.size := fun b ⟨h0, o, s, e⟩ => by
  obtain ⟨z, hz⟩ := getEv (fs := fs) h0
  obtain ⟨k, o', e', hc, -⟩ := h 0 z hz
  rw [e'] at e
  simp only [Option.some.injEq, Addr.mk.injEq] at e
  have := lt_of_cell hc
  omega

set_option maxHeartbeats 1000000 in
theorem toEventS_any (a : Option Addr) (c : Nat) (fs : List Ev) (w : World) (hs : Evs w a fs) (hl : fs.length ≤ 1048576) :
    Calls Try.prog 11 #[.slice a fs.length c] w fun e w' => ∃ a', e = .returned (.slice a' fs.length fs.length) ∧ Evs w' a' fs ∧ RowV w' w.heap.size a' fs.length ∧ Below w.heap.size w w' := by
  have hmk := run_make_manyV (P := Try.prog) 25 48 _ 3 24 Try.underlying25 Try.infoEv .i64 .i64 fs.length (by omega) (by omega)
  go_enter Try.func11, Try.ntmps11
  go_wp2
  have hB : ∀ o, Below w.heap.size w (w.alloc o) := fun o => (Below.refl _ _).alloc (Nat.le_refl _) o
  go_loopw [4] (fun i wr => ∃ k : Nat, k ≤ fs.length ∧ i = .int .i64 k ∧ ∃ f, wr.rowIs w.heap.size 48 (fs.length * 3) f ∧ EvTo f fs k ∧ Below w.heap.size w wr) (fun i _ => fs.length - (intOf i).toNat)
  case atStart => exact ⟨0, Nat.zero_le _, rfl, _, by simpa [size_madeCells] using rowIs_of_allocV w (madeCells _ (fs.length * 3)) 48, fun i b hi => absurd hi (Nat.not_lt_zero _), hB _⟩
  case round =>
    clear hB
    obtain ⟨k, hk, rfl, f, hR, hO, hB⟩ := hrel
    by_cases hlt : k < fs.length
    · obtain ⟨b, hkb⟩ := getEv hlt
      obtain ⟨kb, ob, rfl, c0, c1, c2⟩ := (hs.below hB) k b hkb
      have HK : Hid (fs[k]? = some b) := hkb
      have HO : Hid (EvTo f fs k) := hO
      clear hs hkb hO
      go_wp2_with fail
      refine (toEvent_any b _).mono ?_
      rintro r w1 ⟨rfl, hB1⟩
      have hR1 : w1.rowIs w.heap.size 48 (fs.length * 3) f := hR.of_block (hB1.block _ hR.lt)
      have d0 := hR1.cell (i := k * 3) (by omega)
      have d1 := hR1.cell (i := k * 3 + 1) (by omega)
      have d2 := hR1.cell (i := k * 3 + 2) (by omega)
      have hf := hR1.frozen
      have hBn := hB.trans (hB1.mono hB.size)
      clear hB hB1 hR
      go_wp2
      go_roundw
      case rel =>
        obtain ⟨g, hg, hOg⟩ := EvTo_step hR1 HO.out HK.out
        exact ⟨k + 1, by omega, by go_num, g, hg, hOg, (((hBn.setCell (Nat.le_refl _) _).setCell (Nat.le_refl _) _).setCell (Nat.le_refl _) _)⟩
      case measure => simp [intOf]; omega
    · go_wp2
      go_ret
      obtain rfl : k = fs.length := by omega
      exact ⟨_, rfl, Evs.of_row hR (Nat.le_refl _) hO, .inr ⟨_, _, _, rfl, Nat.le_refl _, Nat.le_refl _, hR⟩, hB⟩

set_option maxHeartbeats 1000000 in
theorem eqEvent_same (f : Ev) (w : World) :
    Calls Try.prog 38 #[.agg #[.int .i64 f.pr, .int .i64 f.kd, .int .i64 f.ms], .agg #[.int .i64 f.pr, .int .i64 f.kd, .int .i64 f.ms]] w fun r w' => r = .returned (.bool true) ∧ Below w.heap.size w w' := by
  have hb : ∀ x y, Below w.heap.size w ((w.alloc x).alloc y) := fun _ _ => ((Below.refl _ _).alloc (Nat.le_refl _) _).alloc (by simp) _
  go_enter Try.func38, Try.ntmps38
  go_wp2
  go_ret
  exact ⟨rfl, hb _ _⟩

set_option maxHeartbeats 1000000 in
theorem eqEventS_same (a a2 : Option Addr) (c c2 : Nat) (fs : List Ev) (w : World) (hx : Evs w a fs) (hy : Evs w a2 fs) (hl : fs.length ≤ maxLen) :
    Calls Try.prog 13 #[.slice a fs.length c, .slice a2 fs.length c2] w fun e w' => e = .returned (.bool true) ∧ Below w.heap.size w w' := by
  unfold maxLen at hl
  go_enter Try.func13, Try.ntmps13
  go_wp2
  go_loopw [5] (fun i wr => ∃ k : Nat, k ≤ fs.length ∧ i = .int .i64 k ∧ Below w.heap.size w wr) (fun i _ => fs.length - (intOf i).toNat)
  case atStart => exact ⟨0, Nat.zero_le _, rfl, Below.refl _ _⟩
  case round =>
    obtain ⟨k, hk, rfl, hB⟩ := hrel
    by_cases hlt : k < fs.length
    · obtain ⟨b, hkb⟩ := getEv hlt
      obtain ⟨kb, ob, rfl, c0, c1, c2⟩ := (hx.below hB) k b hkb
      obtain ⟨kb2, ob2, rfl, d0, d1, d2⟩ := (hy.below hB) k b hkb
      clear hx hy hkb
      go_wp2
      go_region_with (go_at_call 38; refine (eqEvent_same _ _).mono ?_; rintro r w1 ⟨rfl, hB1⟩)
      all_goals
        go_wp2
        go_roundw
        case rel => exact ⟨k + 1, by omega, by go_num, hB.drew.trans (hB1.mono (by simpa using hB.size))⟩
        case measure => simp [intOf]; omega
    · go_wp2
      go_ret
      exact ⟨rfl, hB⟩

/-- n marked ones from k on. -/
def markEv (k n : Nat) : List Ev := (List.range n).map fun i => ⟨((k + 3 * i : Nat) : Int), ((k + 3 * i + 1 : Nat) : Int), ((k + 3 * i + 2 : Nat) : Int)⟩

theorem markEv_length (k n : Nat) : (markEv k n).length = n := by simp [markEv]
theorem markEv_get {k n i : Nat} (h : i < n) : (markEv k n)[i]? = some ⟨((k + 3 * i : Nat) : Int), ((k + 3 * i + 1 : Nat) : Int), ((k + 3 * i + 2 : Nat) : Int)⟩ := by simp [markEv, h]

set_option maxRecDepth 100000 in
set_option maxHeartbeats 1000000 in
theorem markEventS_any (a : Option Addr) (c n B k : Nat) (w : World) (h : RowV w B a n) (h2 : k + 3 * n ≤ 1000000000) :
    Calls Try.prog 17 #[.slice a n c, .int .i64 k] w fun r w' => r = .returned (.int .i64 ((k + 3 * n : Nat) : Int)) ∧ Evs w' a (markEv k n) ∧ RowV w' B a n ∧ Below B w w' ∧ ∀ b, b < w.heap.size → ¬ InI a n b → w'.heap[b]? = w.heap[b]? := by
  by_cases h0 : n = 0
  · subst h0
    go_enter Try.func17, Try.ntmps17
    go_wp2
    go_loopw [1, 5] (fun c i wr => c = .int .i64 (k : Int) ∧ i = .int .i64 0 ∧ w = wr) (fun _ _ _ => 0)
    case atStart => exact ⟨rfl, rfl, rfl⟩
    case round =>
      obtain ⟨rfl, rfl, rfl⟩ := hrel
      go_wp2
      go_ret
      exact ⟨ret_int (by simp), (fun i s hi => by simp [markEv] at hi), .inl rfl, Below.refl _ _, fun _ _ _ => rfl⟩
  · obtain ⟨g, m, f, rfl, hg, hm, hR⟩ := h.resolve_left h0
    go_enter Try.func17, Try.ntmps17
    go_wp2
    go_loopw [1, 5] (fun c i wr => ∃ j : Nat, j ≤ n ∧ c = .int .i64 ((k + 3 * j : Nat) : Int) ∧ i = .int .i64 (j : Int) ∧ (∃ f', wr.rowIs g 48 m f' ∧ ∀ q, q < j → f' (q * 3) = .int .i64 ((k + 3 * q : Nat) : Int) ∧ f' (q * 3 + 1) = .int .i64 ((k + 3 * q + 1 : Nat) : Int) ∧ f' (q * 3 + 2) = .int .i64 ((k + 3 * q + 2 : Nat) : Int)) ∧ Below B w wr ∧ ∀ b, b < w.heap.size → b ≠ g → wr.heap[b]? = w.heap[b]?) (fun _ i _ => n - (intOf i).toNat)
    case atStart => exact ⟨0, Nat.zero_le _, rfl, rfl, ⟨f, hR, fun q hq => absurd hq (Nat.not_lt_zero _)⟩, Below.refl _ _, fun _ _ _ => rfl⟩
    case round =>
      clear hR
      obtain ⟨j, hj, rfl, rfl, ⟨f', hR, hq⟩, hB, hO⟩ := hrel
      have HQ : Hid (∀ q, q < j → f' (q * 3) = .int .i64 ((k + 3 * q : Nat) : Int) ∧ f' (q * 3 + 1) = .int .i64 ((k + 3 * q + 1 : Nat) : Int) ∧ f' (q * 3 + 2) = .int .i64 ((k + 3 * q + 2 : Nat) : Int)) := hq
      have HO : Hid (∀ b, b < w.heap.size → b ≠ g → wr.heap[b]? = w.heap[b]?) := hO
      clear hq hO
      by_cases hlt : j < n
      · have c0 := hR.cell (i := j * 3) (by omega)
        have c1 := hR.cell (i := j * 3 + 1) (by omega)
        have c2 := hR.cell (i := j * 3 + 2) (by omega)
        have f0 := hR.frozen
        have hR2 := (((hR.set (j * 3) (.int .i64 ((k + 3 * j : Nat) : Int))).set (j * 3 + 1) (.int .i64 ((k + 3 * j + 1 : Nat) : Int))).set (j * 3 + 2) (.int .i64 ((k + 3 * j + 2 : Nat) : Int)))
        have hBn : Below B w (((wr.setCell ⟨g, j * 3, none⟩ (.int .i64 ((k + 3 * j : Nat) : Int))).setCell ⟨g, j * 3 + 1, none⟩ (.int .i64 ((k + 3 * j + 1 : Nat) : Int))).setCell ⟨g, j * 3 + 2, none⟩ (.int .i64 ((k + 3 * j + 2 : Nat) : Int))) := (((hB.setCell hg _).setCell hg _).setCell hg _)
        have HN : Hid (∀ b, b < w.heap.size → b ≠ g → (((wr.setCell ⟨g, j * 3, none⟩ (.int .i64 ((k + 3 * j : Nat) : Int))).setCell ⟨g, j * 3 + 1, none⟩ (.int .i64 ((k + 3 * j + 1 : Nat) : Int))).setCell ⟨g, j * 3 + 2, none⟩ (.int .i64 ((k + 3 * j + 2 : Nat) : Int))).heap[b]? = w.heap[b]?) := fun b hb hne => by
          rw [Below.heap_setCell _ ⟨g, j * 3 + 2, none⟩ _ b (by simpa using hne), Below.heap_setCell _ ⟨g, j * 3 + 1, none⟩ _ b (by simpa using hne), Below.heap_setCell wr ⟨g, j * 3, none⟩ _ b (by simpa using hne), HO.out b hb hne]
        clear hR hB HO
        go_wp2
        go_roundw
        case rel =>
          refine ⟨j + 1, by omega, by go_num, by go_num, ⟨_, hR2, fun q hq' => ?_⟩, hBn, HN.out⟩
          by_cases e : q = j
          · subst e
            refine ⟨?_, ?_, ?_⟩
            · rw [if_neg (by omega), if_neg (by omega), if_pos rfl]
            · rw [if_neg (by omega), if_pos rfl]
            · rw [if_pos rfl]
          · obtain ⟨g0, g1, g2⟩ := HQ.out q (by omega)
            refine ⟨?_, ?_, ?_⟩
            · rw [if_neg (by omega), if_neg (by omega), if_neg (by omega)]; exact g0
            · rw [if_neg (by omega), if_neg (by omega), if_neg (by omega)]; exact g1
            · rw [if_neg (by omega), if_neg (by omega), if_neg (by omega)]; exact g2
        case measure => simp [intOf]; omega
      · obtain rfl : j = n := by omega
        go_wp2
        go_ret
        refine ⟨rfl, fun i s hi => ?_, .inr ⟨g, m, f', rfl, hg, hm, hR⟩, hB, fun b hb hne => ?_⟩
        · have hi' : i < j := by have := (List.getElem?_eq_some_iff.1 hi).1; simpa [markEv_length] using this
          rw [markEv_get hi'] at hi
          simp only [Option.some.injEq] at hi
          subst hi
          obtain ⟨g0, g1, g2⟩ := HQ.out i hi'
          refine ⟨g, 0, rfl, ?_, ?_, ?_⟩
          · rw [Nat.zero_add, hR.cell (by omega), g0]
          · rw [Nat.zero_add, hR.cell (by omega), g1]
          · rw [Nat.zero_add, hR.cell (by omega), g2]
        · by_cases e : b = g
          · subst e
            exact absurd ⟨by omega, 0, none, rfl⟩ hne
          · exact HO.out b hb e

end Go.Proofs.Ytambbgpofmojnaa
