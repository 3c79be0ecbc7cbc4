/-
  Files and disks as a call reads them, and the contracts of the laws' helpers on them: szFile, szFileS, szDisk, toFile, toFileS, toDisk, eqFile, eqFileS, eqDisk.
-/
import Derived.Test.YtopndglgbollfaaDoorGood
import Derived.Deep.RegionWith
namespace Go.Proofs.YtopndglgbollfaaDoor
open Go.RowKit

structure Fl where
  bytes : ByteArray
  syn : Int

/-- At block k, from cell o on, a file lies. -/
def FlAt (w : World) (k o : Nat) (f : Fl) : Prop :=
  w.cell? ⟨k, o, none⟩ = some (.string f.bytes) ∧ w.cell? ⟨k, o + 1, none⟩ = some (.int .i64 f.syn) ∧ f.bytes.size ≤ maxLen

/-- The slice value at 'a' reads as these files. -/
def Fls (w : World) (a : Option Addr) (fs : List Fl) : Prop :=
  ∀ i f, fs[i]? = some f → ∃ k o, a = some ⟨k, o, none⟩ ∧ FlAt w k (o + i * 2) f

theorem fbcell {W w1 : World} (hb : Below W.heap.size W w1) : (∀ b o, b < W.heap.size → w1.cell? ⟨b, o, none⟩ = W.cell? ⟨b, o, none⟩) ∧ (∀ b o, b < W.heap.size → w1.frozen? ⟨b, o, none⟩ = W.frozen? ⟨b, o, none⟩) :=
  ⟨fun b o h => hb.cell (p := ⟨b, o, none⟩) h, fun b o h => hb.frozen (p := ⟨b, o, none⟩) h⟩

theorem FlAt.below {w w' : World} {k o : Nat} {f : Fl} (h : FlAt w k o f) (hb : Below w.heap.size w w') : FlAt w' k o f := by
  obtain ⟨h0, h1, hz⟩ := h
  have lt := lt_of_cell h0
  exact ⟨(hb.cell (p := ⟨k, o, none⟩) lt).trans h0, (hb.cell (p := ⟨k, o + 1, none⟩) lt).trans h1, hz⟩

theorem Fls.below {w w' : World} {a : Option Addr} {fs : List Fl} (h : Fls w a fs) (hb : Below w.heap.size w w') : Fls w' a fs := fun i f hi => by
  obtain ⟨k, o, e, hB⟩ := h i f hi
  exact ⟨k, o, e, hB.below hb⟩

theorem Fls.nil (w : World) (a : Option Addr) : Fls w a [] := fun i f hi => by simp at hi

theorem Fls.sizes {w : World} {a : Option Addr} {fs : List Fl} (h : Fls w a fs) : ∀ f, f ∈ fs → f.bytes.size ≤ maxLen := fun f hf => by
  obtain ⟨i, hi, e⟩ := List.mem_iff_getElem.1 hf
  obtain ⟨_, _, _, _, _, hz⟩ := h i f (by rw [List.getElem?_eq_getElem hi, e])
  exact hz

theorem getFl {fs : List Fl} {k : Nat} (h : k < fs.length) : ∃ s, fs[k]? = some s := ⟨_, List.getElem?_eq_getElem h⟩

theorem takeFl_snoc {ss : List Fl} {k : Nat} {s : Fl} (h : ss[k]? = some s) : ss.take (k + 1) = ss.take k ++ [s] := by
  rw [List.take_add_one, h]; rfl

theorem dropFl {fs : List Fl} {k : Nat} {f : Fl} (h : fs[k]? = some f) : fs.drop k = f :: fs.drop (k + 1) := by
  obtain ⟨hlt, e⟩ := List.getElem?_eq_some_iff.1 h
  rw [List.drop_eq_getElem_cons hlt, e]

def szF (f : Fl) (left : Int) : Int := if left - f.bytes.size < 0 then -1 else left - f.bytes.size

theorem szF_range (f : Fl) {left : Int} (h : 0 ≤ left) : -1 ≤ szF f left ∧ szF f left ≤ left := by
  unfold szF; split <;> omega

theorem szFile_any (f : Fl) (left : Int) (w : World) (hz : f.bytes.size ≤ maxLen) (h0 : 0 ≤ left) (h1 : left ≤ 1048576) :
    Calls Tryd.prog 32 #[.agg #[.string f.bytes, .int .i64 f.syn], .int .i64 left] w fun r w' => r = .returned (.int .i64 (szF f left)) ∧ Below w.heap.size w w' := by
  have hb : ∀ o, Below w.heap.size w (w.alloc o) := fun o => (Below.refl _ _).alloc (Nat.le_refl _) o
  unfold maxLen at hz
  by_cases hn : left - (f.bytes.size : Int) < 0
  · go_enter Tryd.func32, Tryd.ntmps32
    go_wp2
    go_ret
    exact ⟨ret_int (by unfold szF; rw [if_pos hn]), hb _⟩
  · go_enter Tryd.func32, Tryd.ntmps32
    go_wp2
    go_ret
    exact ⟨ret_int (by unfold szF; rw [if_neg (by omega)]), hb _⟩

/-- What szFileS answers, the files one by one. -/
def szFs : List Fl → Int → Int
  | [], left => left
  | f :: r, left => if szF f left < 0 then -1 else szFs r (szF f left)

def szD (fs : List Fl) (left : Int) : Int := if left - fs.length < 0 then -1 else szFs fs (left - fs.length)

theorem szFs_range : ∀ (fs : List Fl) {left : Int}, 0 ≤ left → -1 ≤ szFs fs left ∧ szFs fs left ≤ left
  | [], left, h => by unfold szFs; omega
  | f :: r, left, h => by
    have h1 := szF_range f h
    unfold szFs
    split
    · omega
    · have := szFs_range r (left := szF f left) (by omega)
      omega

theorem szD_range (fs : List Fl) {left : Int} (h : 0 ≤ left) : -1 ≤ szD fs left ∧ szD fs left ≤ left := by
  unfold szD
  split
  · omega
  · have := szFs_range fs (left := left - fs.length) (by omega)
    omega

theorem szFs_bound : ∀ (fs : List Fl) {left : Int}, 0 ≤ left → 0 ≤ szFs fs left → ∀ f, f ∈ fs → (f.bytes.size : Int) ≤ left
  | [], left, _, _, f, hf => by simp at hf
  | g :: r, left, h0, h, f, hf => by
    unfold szFs at h
    split at h
    · omega
    · rename_i hn
      have h1 := szF_range g h0
      rcases List.mem_cons.1 hf with rfl | hf
      · unfold szF at hn; split at hn <;> omega
      · have := szFs_bound r (left := szF g left) (by omega) h f hf
        omega

theorem szD_bound {fs : List Fl} {left : Int} (h : 0 ≤ szD fs left) : (fs.length : Int) ≤ left ∧ ∀ f, f ∈ fs → (f.bytes.size : Int) ≤ left := by
  unfold szD at h
  split at h
  · omega
  · refine ⟨by omega, fun f hf => ?_⟩
    have := szFs_bound fs (left := left - fs.length) (by omega) h f hf
    omega

set_option maxHeartbeats 1000000 in
theorem szFileS_any (a : Option Addr) (c : Nat) (fs : List Fl) (left : Int) (w : World) (hs : Fls w a fs) (hl : fs.length ≤ maxLen) (h0 : 0 ≤ left) (h1 : left ≤ 1048576) :
    Calls Tryd.prog 17 #[.slice a fs.length c, .int .i64 left] w fun e w' => e = .returned (.int .i64 (szD fs left)) ∧ Below w.heap.size w w' := by
  unfold maxLen at hl
  by_cases hn : left - (fs.length : Int) < 0
  · go_enter Tryd.func17, Tryd.ntmps17
    go_wp2
    go_ret
    exact ⟨ret_int (by unfold szD; rw [if_pos hn]), Below.refl _ _⟩
  · go_enter Tryd.func17, Tryd.ntmps17
    go_wp2
    go_loopw [1, 5] (fun l i wr => ∃ k : Nat, k ≤ fs.length ∧ i = .int .i64 k ∧ ∃ lf : Int, 0 ≤ lf ∧ lf ≤ 1048576 ∧ l = .int .i64 lf ∧ szFs (fs.drop k) lf = szFs fs (left - fs.length) ∧ Below w.heap.size w wr) (fun _ i _ => fs.length - (intOf i).toNat)
    case atStart => exact ⟨0, Nat.zero_le _, rfl, _, by omega, by omega, rfl, rfl, Below.refl _ _⟩
    case round =>
      obtain ⟨k, hk, rfl, lf, hlf, hlf2, rfl, hsz, hB⟩ := hrel
      by_cases hlt : k < fs.length
      · obtain ⟨b, hkb⟩ := getFl hlt
        obtain ⟨kb, ob, rfl, c0, c1, hz⟩ := (hs.below hB) k b hkb
        have HD : Hid (szFs (fs.drop k) lf = szFs fs (left - fs.length)) := hsz
        clear hsz
        have hr := szF_range b hlf
        go_wp2_with fail
        refine (szFile_any b _ _ hz hlf hlf2).mono ?_
        rintro r w1 ⟨rfl, hB1⟩
        have hBn := hB.trans (hB1.mono hB.size)
        have HK : Hid (fs.drop k = b :: fs.drop (k + 1)) := dropFl hkb
        clear hs hB1 hB hkb c0 c1
        by_cases hneg : szF b lf < 0
        · go_wp2
          go_ret
          refine ⟨ret_int ?_, hBn⟩
          have e := HD.out
          rw [HK.out, szFs, if_pos hneg] at e
          unfold szD; rw [if_neg (by omega), ← e]
        · go_wp2
          go_roundw
          case rel =>
            refine ⟨k + 1, by omega, by go_num, _, by omega, by omega, rfl, ?_, hBn⟩
            have e := HD.out
            rwa [HK.out, szFs, if_neg (by omega)] at e
          case measure => simp [intOf]; omega
      · go_wp2
        go_ret
        refine ⟨ret_int ?_, hB⟩
        rw [List.drop_eq_nil_of_le (by omega)] at hsz
        unfold szD; rw [if_neg (by omega), ← hsz, szFs]

theorem szDisk_any (a : Option Addr) (c : Nat) (fs : List Fl) (left : Int) (w : World) (hs : Fls w a fs) (hl : fs.length ≤ maxLen) (h0 : 0 ≤ left) (h1 : left ≤ 1048576) :
    Calls Tryd.prog 5 #[.agg #[.slice a fs.length c], .int .i64 left] w fun e w' => e = .returned (.int .i64 (szD fs left)) ∧ Below w.heap.size w w' := by
  have hb : ∀ o, Below w.heap.size w (w.alloc o) := fun o => (Below.refl _ _).alloc (Nat.le_refl _) o
  have hr := szD_range fs h0
  by_cases hn : szD fs left < 0
  · go_enter Tryd.func5, Tryd.ntmps5
    go_wp2_with fail
    refine (szFileS_any _ _ _ _ _ (hs.below (hb _)) hl h0 h1).mono ?_
    rintro r w1 ⟨rfl, hB1⟩
    go_wp2
    go_ret
    exact ⟨ret_int (by omega), (hb _).trans (hB1.mono (hb _).size)⟩
  · go_enter Tryd.func5, Tryd.ntmps5
    go_wp2_with fail
    refine (szFileS_any _ _ _ _ _ (hs.below (hb _)) hl h0 h1).mono ?_
    rintro r w1 ⟨rfl, hB1⟩
    go_wp2
    go_ret
    exact ⟨rfl, (hb _).trans (hB1.mono (hb _).size)⟩

set_option maxHeartbeats 1000000 in
theorem toFile_any (f : Fl) (w : World) :
    Calls Tryd.prog 37 #[.agg #[.string f.bytes, .int .i64 f.syn]] w fun r w' => r = .returned (.agg #[.string f.bytes, .int .i64 f.syn]) ∧ Below w.heap.size w w' := by
  have hb : ∀ x y z, Below w.heap.size w (((w.alloc x).alloc y).alloc z) := fun _ _ _ => (((Below.refl _ _).alloc (Nat.le_refl _) _).alloc (by simp) _).alloc (by simp; omega) _
  go_enter Tryd.func37, Tryd.ntmps37
  go_wp2
  refine bodyPost_ret (v := .agg #[.string f.bytes, .int .i64 f.syn]) (by simp [results, Tryd.results37, go_sem]) rfl ⟨rfl, ?_⟩
  exact hb _ _ _

theorem Tryd.infoFile : (Tryd.prog.info? 45).map (fun i => (i.zero, i.size, i.bytes)) = some (some (.agg #[.string ByteArray.empty, .int .i64 0]), 2, 24) := by kernel_rfl

/-- make([]T, n), T of several cells. -/
theorem run_make_manyF {P : Program} (t e : TypeId) (z : Value) (size bytes : Nat) (ht : P.underlying t = some (.slice e)) (hinfo : (P.info? e).map (fun i => (i.zero, i.size, i.bytes)) = some (some z, size, bytes))
    (kl kc : IntKind) (n : Nat) (hbytes : bytes * n ≤ 281474976710656) (h63 : n ≤ 9223372036854775807) (w : World) :
    (Instr.makeSlice t (.int kl (n : Int)) (.int kc (n : Int))).run P w = .ok (.slice (some ⟨w.heap.size, 0, none⟩) n n) (w.alloc (.cells (madeCells z.cells (n * size)) e)) := by
  obtain ⟨i, hi, hzz⟩ := Option.map_eq_some_iff.1 hinfo
  simp only [Prod.mk.injEq] at hzz
  obtain ⟨hz, rfl, rfl⟩ := hzz
  have hb' : (i.bytes : Int) * (n : Int) ≤ 281474976710656 := by
    have h : ((i.bytes * n : Nat) : Int) ≤ 281474976710656 := by omega
    rwa [Int.natCast_mul] at h
  have hr := run_make (P := P) w t e i z ht hi hz kl kc n n (by omega) (Int.le_refl _) hb' (by omega)
  simp only [Int.toNat_natCast] at hr
  exact hr

theorem rowIs_of_allocF (w : World) (c : Array Value) (t : TypeId) : (w.alloc (.cells c t)).rowIs w.heap.size t c.size (fun j => c.getD j undef) :=
  World.rowIs_alloc w c t _ (fun i hi => by simp [hi])

/-- The row's first k files are these. -/
def FlTo (f : Nat → Value) (fs : List Fl) (k : Nat) : Prop :=
  ∀ i b, i < k → fs[i]? = some b → f (i * 2) = .string b.bytes ∧ f (i * 2 + 1) = .int .i64 b.syn

theorem fl_step {w : World} {N m : Nat} {t : TypeId} {f : Nat → Value} {fs : List Fl} {k : Nat} {b : Fl} (hR : w.rowIs N t m f) (hO : FlTo f fs k) (hb : fs[k]? = some b) :
    ∃ g, ((w.setCell ⟨N, k * 2, none⟩ (.string b.bytes)).setCell ⟨N, k * 2 + 1, none⟩ (.int .i64 b.syn)).rowIs N t m g ∧ FlTo g fs (k + 1) := by
  refine ⟨_, (hR.set _ _).set _ _, fun i c hi hc => ?_⟩
  by_cases e : i = k
  · subst e
    obtain rfl : b = c := by rw [hb] at hc; simpa using hc
    constructor <;> simp
  · obtain ⟨h0, h1⟩ := hO i c (by omega) hc
    constructor
    · rw [if_neg (by omega), if_neg (by omega)]; exact h0
    · rw [if_neg (by omega), if_neg (by omega)]; exact h1

theorem Fls.of_row {w : World} {N m : Nat} {t : TypeId} {f : Nat → Value} {fs : List Fl} (hR : w.rowIs N t m f) (hm : fs.length * 2 ≤ m) (hO : FlTo f fs fs.length) (hz : ∀ b, b ∈ fs → b.bytes.size ≤ maxLen) : Fls w (some ⟨N, 0, none⟩) fs := fun i b hi => by
  have hlt := (List.getElem?_eq_some_iff.1 hi).1
  obtain ⟨h0, h1⟩ := hO i b hlt hi
  refine ⟨N, 0, rfl, ?_, ?_, hz b (List.mem_of_getElem? hi)⟩
  · rw [Nat.zero_add, hR.cell (by omega), h0]
  · rw [Nat.zero_add, hR.cell (by omega), h1]

/-- Room for n files at 'a', in a block from B on that may be written. -/
def RowF (w : World) (B : Nat) (a : Option Addr) (n : Nat) : Prop :=
  n = 0 ∨ ∃ g m f, a = some ⟨g, 0, none⟩ ∧ B ≤ g ∧ n * 2 ≤ m ∧ w.rowIs g 45 m f

/-- The block where the slice's cells lie. -/
def InB (a : Option Addr) (n b : Nat) : Prop := 0 < n ∧ ∃ o s, a = some ⟨b, o, s⟩

theorem RowF.of_block {w w' : World} {B : Nat} {a : Option Addr} {n : Nat} (h : RowF w B a n) (hs : ∀ b, InB a n b → w'.heap[b]? = w.heap[b]?) : RowF w' B a n := by
  rcases h with h | ⟨g, m, f, rfl, hg, hm, hR⟩
  · exact .inl h
  · by_cases h0 : n = 0
    · exact .inl h0
    · exact .inr ⟨g, m, f, rfl, hg, hm, hR.of_block (hs g ⟨by omega, 0, none, rfl⟩)⟩

theorem RowF.lt {w : World} {B : Nat} {a : Option Addr} {n b : Nat} (h : RowF w B a n) (hb : InB a n b) : B ≤ b ∧ b < w.heap.size := by
  obtain ⟨h0, o, s, e⟩ := hb
  rcases h with h | ⟨g, m, f, rfl, hg, hm, hR⟩
  · omega
  · simp only [Option.some.injEq, Addr.mk.injEq] at e
    have := hR.lt
    omega

theorem RowF.below {w w' : World} {B : Nat} {a : Option Addr} {n : Nat} (h : RowF w B a n) (hb : Below w.heap.size w w') : RowF w' B a n :=
  h.of_block fun b hi => hb.block b (h.lt hi).2

theorem RowF.mono {w : World} {B B' : Nat} {a : Option Addr} {n : Nat} (h : RowF w B a n) (hb : B' ≤ B) : RowF w B' a n := by
  rcases h with h | ⟨g, m, f, e, hg, r⟩
  · exact .inl h
  · exact .inr ⟨g, m, f, e, by omega, r⟩

theorem Fls.of_block {w w' : World} {a : Option Addr} {fs : List Fl} (h : Fls w a fs) (hs : ∀ b, InB a fs.length b → w'.heap[b]? = w.heap[b]?) : Fls w' a fs := fun i s hi => by
  obtain ⟨b, off, e, h0, h1, hz⟩ := h i s hi
  have hlt := (List.getElem?_eq_some_iff.1 hi).1
  have hh := hs b ⟨by omega, off, none, e⟩
  exact ⟨b, off, e, (World.cell?_of_block (a := ⟨b, off + i * 2, none⟩) hh).trans h0, (World.cell?_of_block (a := ⟨b, off + i * 2 + 1, none⟩) hh).trans h1, hz⟩

set_option maxHeartbeats 1000000 in
theorem toFileS_any (a : Option Addr) (c : Nat) (fs : List Fl) (w : World) (hs : Fls w a fs) (hl : fs.length ≤ 1048576) :
    Calls Tryd.prog 21 #[.slice a fs.length c] w fun e w' => ∃ a', e = .returned (.slice a' fs.length fs.length) ∧ Fls w' a' fs ∧ RowF w' w.heap.size a' fs.length ∧ Below w.heap.size w w' := by
  have hmk := run_make_manyF (P := Tryd.prog) 26 45 _ 2 24 Tryd.underlying26 Tryd.infoFile .i64 .i64 fs.length (by omega) (by omega)
  have hz := hs.sizes
  go_enter Tryd.func21, Tryd.ntmps21
  go_wp2
  have hB : ∀ o, Below w.heap.size w (w.alloc o) := fun o => (Below.refl _ _).alloc (Nat.le_refl _) o
  go_loopw [4] (fun i wr => ∃ k : Nat, k ≤ fs.length ∧ i = .int .i64 k ∧ ∃ f, wr.rowIs w.heap.size 45 (fs.length * 2) f ∧ FlTo f fs k ∧ Below w.heap.size w wr) (fun i _ => fs.length - (intOf i).toNat)
  case atStart => exact ⟨0, Nat.zero_le _, rfl, _, by simpa [size_madeCells] using rowIs_of_allocF w (madeCells _ (fs.length * 2)) 45, fun i b hi => absurd hi (Nat.not_lt_zero _), hB _⟩
  case round =>
    clear hB
    obtain ⟨k, hk, rfl, f, hR, hO, hB⟩ := hrel
    by_cases hlt : k < fs.length
    · obtain ⟨b, hkb⟩ := getFl hlt
      obtain ⟨kb, ob, rfl, c0, c1, -⟩ := (hs.below hB) k b hkb
      have HK : Hid (fs[k]? = some b) := hkb
      have HO : Hid (FlTo f fs k) := hO
      clear hs hkb hz hO
      go_wp2_with fail
      refine (toFile_any b _).mono ?_
      rintro r w1 ⟨rfl, hB1⟩
      have hR1 : w1.rowIs w.heap.size 45 (fs.length * 2) f := hR.of_block (hB1.block _ hR.lt)
      have d0 := hR1.cell (i := k * 2) (by omega)
      have d1 := hR1.cell (i := k * 2 + 1) (by omega)
      have hf := hR1.frozen
      have hBn := hB.trans (hB1.mono hB.size)
      clear hB hB1 hR
      go_wp2
      go_roundw
      case rel =>
        obtain ⟨g, hg, hOg⟩ := fl_step hR1 HO.out HK.out
        exact ⟨k + 1, by omega, by go_num, g, hg, hOg, (hBn.setCell (Nat.le_refl _) _).setCell (Nat.le_refl _) _⟩
      case measure => simp [intOf]; omega
    · go_wp2
      go_ret
      obtain rfl : k = fs.length := by omega
      exact ⟨_, rfl, Fls.of_row hR (Nat.le_refl _) hO hz, .inr ⟨_, _, _, rfl, Nat.le_refl _, Nat.le_refl _, hR⟩, hB⟩

set_option maxHeartbeats 1000000 in
theorem toDisk_any (a : Option Addr) (c : Nat) (fs : List Fl) (w : World) (hs : Fls w a fs) (hl : fs.length ≤ 1048576) :
    Calls Tryd.prog 7 #[.agg #[.slice a fs.length c]] w fun e w' => ∃ a', e = .returned (.agg #[.slice a' fs.length fs.length]) ∧ Fls w' a' fs ∧ RowF w' w.heap.size a' fs.length ∧ Below w.heap.size w w' := by
  have hb : ∀ x y z, Below w.heap.size w (((w.alloc x).alloc y).alloc z) := fun _ _ _ => (((Below.refl _ _).alloc (Nat.le_refl _) _).alloc (by simp) _).alloc (by simp; omega) _
  go_enter Tryd.func7, Tryd.ntmps7
  go_wp2_with fail
  refine (toFileS_any _ _ _ _ (hs.below (hb _ _ _)) hl).mono ?_
  rintro r w1 ⟨a1, rfl, hF1, hR1, hB1⟩
  have HB := (hb _ _ _).trans (hB1.mono (hb _ _ _).size)
  obtain ⟨hc, hf⟩ := fbcell hB1
  simp only [World.size_alloc] at hc hf hR1
  clear hB1
  go_wp2
  have hset : ∀ x y b, InB a1 fs.length b → ((w1.setCell ⟨w.heap.size + 1 + 1, 0, none⟩ x).setCell ⟨w.heap.size + 1, 0, none⟩ y).heap[b]? = w1.heap[b]? := fun x y b hb => by
    have := (hR1.lt hb).1
    rw [Below.heap_setCell _ ⟨w.heap.size + 1, 0, none⟩ _ b (by simp; omega), Below.heap_setCell _ ⟨w.heap.size + 1 + 1, 0, none⟩ _ b (by simp; omega)]
  refine bodyPost_ret (v := .agg #[.slice a1 fs.length fs.length]) (by simp [results, Tryd.results7, go_sem, hc]) rfl ⟨a1, rfl, hF1.of_block (hset _ _), (hR1.of_block (hset _ _)).mono (by omega), (HB.setCell (by simp; omega) _).setCell (by simp) _⟩

end Go.Proofs.YtopndglgbollfaaDoor
