/-
  Lists of Row as a call reads them, and the contracts of the laws' helpers on them: szRow, szRowS, toRow, toRowS, eqRow, eqRowS. Made by mkbag.py.
-/
import Derived.Test.YtekjpbfmiebigaaDoorBagAid
namespace Go.Proofs.YtekjpbfmiebigaaDoor
open Go.RowKit

/-- One Row: what its fields read. -/
structure Rw where
  epoch : Int
  val : Int
deriving DecidableEq

/-- At block K, from cell o on, one lies. -/
def RwAt (w : World) (K o : Nat) (c : Rw) : Prop :=
  w.cell? ⟨K, o, none⟩ = some (.int .i64 c.epoch) ∧ w.cell? ⟨K, o + 1, none⟩ = some (.int .i64 c.val)

/-- The slice value at 'a' reads as these. -/
def Rws (w : World) (a : Option Addr) (l : List Rw) : Prop :=
  ∀ i c, l[i]? = some c → ∃ K o, a = some ⟨K, o, none⟩ ∧ RwAt w K (o + i * 2) c

theorem RwAt.below {w w' : World} {K o : Nat} {c : Rw} (h : RwAt w K o c) (hb : Below w.heap.size w w') : RwAt w' K o c := by
  obtain ⟨c0, c1⟩ := h
  have lt := lt_of_cell c0
  exact ⟨(hb.cell (p := ⟨K, o, none⟩) lt).trans c0, (hb.cell (p := ⟨K, o + 1, none⟩) lt).trans c1⟩

theorem Rws.below {w w' : World} {a : Option Addr} {l : List Rw} (h : Rws w a l) (hb : Below w.heap.size w w') : Rws w' a l := fun i c hi => by
  obtain ⟨K, o, e, hB⟩ := h i c hi
  exact ⟨K, o, e, hB.below hb⟩

theorem Rws.nil (w : World) (a : Option Addr) : Rws w a [] := fun i f hi => by simp at hi

theorem getRw {l : List Rw} {k : Nat} (h : k < l.length) : ∃ s, l[k]? = some s := ⟨_, List.getElem?_eq_getElem h⟩

theorem takeRw_snoc {l : List Rw} {k : Nat} {s : Rw} (h : l[k]? = some s) : l.take (k + 1) = l.take k ++ [s] := by
  rw [List.take_add_one, h]; rfl

theorem dropRw_cons {l : List Rw} {k : Nat} {b : Rw} (h : l[k]? = some b) : l.drop k = b :: l.drop (k + 1) := by
  obtain ⟨hlt, e⟩ := List.getElem?_eq_some_iff.1 h
  rw [List.drop_eq_getElem_cons hlt, e]

theorem szRowS_any (a : Option Addr) (c n : Nat) (left : Int) (w : World) (hl : n ≤ maxLen) (h0 : 0 ≤ left) (h1 : left ≤ 1048576) :
    Calls Tryd.prog 34 #[.slice a n c, .int .i64 left] w fun e w' => e = .returned (.int .i64 (szN n left)) ∧ w' = w := by
  unfold maxLen at hl
  by_cases hn : left - n < 0
  · go_enter Tryd.func34, Tryd.ntmps34
    go_wp2
    go_ret
    exact ⟨ret_int (by unfold szN; rw [if_pos hn]), rfl⟩
  · go_enter Tryd.func34, Tryd.ntmps34
    go_wp2
    go_ret
    exact ⟨ret_int (by unfold szN; rw [if_neg (by omega)]), rfl⟩

/-- What toRow answers. -/
def RwNew (w w' : World) (c : Rw) (r : Ending) : Prop :=
  r = .returned (.agg #[.int .i64 c.epoch, .int .i64 c.val]) ∧ Below w.heap.size w w'

set_option maxHeartbeats 2000000 in
theorem toRow_any (c : Rw) (w : World)   :
    Calls Tryd.prog 58 #[.agg #[.int .i64 c.epoch, .int .i64 c.val]] w fun r w' => RwNew w w' c r := by
  have hb3 : ∀ x y z, Below w.heap.size w (((w.alloc x).alloc y).alloc z) := fun _ _ _ => (((Below.refl _ _).alloc (Nat.le_refl _) _).alloc (by simp) _).alloc (by simp; omega) _
  go_enter Tryd.func58, Tryd.ntmps58
  go_wp2
  refine bodyPost_ret (v := .agg #[.int .i64 c.epoch, .int .i64 c.val]) (by simp [results, Tryd.results58, go_sem]) rfl ⟨rfl, ?_⟩
  exact hb3 _ _ _

theorem Tryd.infoRw : (Tryd.prog.info? 81).map (fun i => (i.zero, i.size, i.bytes)) = some (some (.agg #[.int .i64 0, .int .i64 0]), 2, 16) := by kernel_rfl

/-- The row at N holds the first k; their own lists lie behind N. -/
def RwTo (_w : World) (_N : Nat) (f : Nat → Value) (l : List Rw) (k : Nat) : Prop :=
  ∀ i c, i < k → l[i]? = some c → f (i * 2) = .int .i64 c.epoch ∧ f (i * 2 + 1) = .int .i64 c.val

theorem RwTo.below {w w' : World} {N : Nat} {f : Nat → Value} {l : List Rw} {k : Nat} (h : RwTo w N f l k) (_hb : Below w.heap.size w w') : RwTo w' N f l k := fun i c hi hc => by
  obtain ⟨c0, c1⟩ := h i c hi hc
  exact ⟨c0, c1⟩

set_option maxHeartbeats 1000000 in
theorem RwTo_step {w : World} {N : Nat} {t : TypeId} {m : Nat} {f : Nat → Value} {l : List Rw} {k : Nat} {b : Rw} (hR : w.rowIs N t (m * 2) f) (hO : RwTo w N f l k) (hb : l[k]? = some b) :
    ∃ g, ((w.setCell ⟨N, k * 2, none⟩ (.int .i64 b.epoch)).setCell ⟨N, k * 2 + 1, none⟩ (.int .i64 b.val)).rowIs N t (m * 2) g ∧ RwTo ((w.setCell ⟨N, k * 2, none⟩ (.int .i64 b.epoch)).setCell ⟨N, k * 2 + 1, none⟩ (.int .i64 b.val)) N g l (k + 1) := by
  refine ⟨_, ((hR.set _ _).set _ _), fun i c hi hc => ?_⟩
  by_cases e : i = k
  · subst e
    obtain rfl : b = c := by rw [hb] at hc; simpa using hc
    refine ⟨?_, ?_⟩ <;> simp
  · obtain ⟨c0, c1⟩ := hO i c (by omega) hc
    refine ⟨?_, ?_⟩
    · rw [if_neg (by omega), if_neg (by omega)]; exact c0
    · rw [if_neg (by omega), if_neg (by omega)]; exact c1

theorem Rws.of_to {w : World} {N : Nat} {t : TypeId} {f : Nat → Value} {l : List Rw} (hR : w.rowIs N t (l.length * 2) f) (hO : RwTo w N f l l.length) : Rws w (some ⟨N, 0, none⟩) l := fun i c hi => by
  have hlt := (List.getElem?_eq_some_iff.1 hi).1
  obtain ⟨c0, c1⟩ := hO i c hlt hi
  refine ⟨N, 0, rfl, ?_, ?_⟩
  · rw [Nat.zero_add, hR.cell (by omega), c0]
  · rw [Nat.zero_add, hR.cell (by omega), c1]

/-- It reads so, and all of it lies in blocks from B on. -/
def RwsA (w : World) (B : Nat) (a : Option Addr) (l : List Rw) : Prop := ∀ w2 : World, (∀ b, B ≤ b → b < w.heap.size → w2.heap[b]? = w.heap[b]?) → Rws w2 a l

theorem RwsA.here {w : World} {B : Nat} {a : Option Addr} {l : List Rw} (h : RwsA w B a l) : Rws w a l := h w fun _ _ _ => rfl

theorem RwsA.below {w w' : World} {B : Nat} {a : Option Addr} {l : List Rw} (h : RwsA w B a l) (hb : Below w.heap.size w w') : RwsA w' B a l := fun w2 h2 =>
  h w2 fun b h1 hl => (h2 b h1 (by have := hb.size; omega)).trans (hb.block b hl)

theorem RwsA.mono {w : World} {B B' : Nat} {a : Option Addr} {l : List Rw} (h : RwsA w B a l) (hb : B' ≤ B) : RwsA w B' a l := fun w2 h2 =>
  h w2 fun b h1 hl => h2 b (by omega) hl

theorem RwsA.setR {w : World} {B N : Nat} {a : Option Addr} {l : List Rw} (h : RwsA w B a l) (hN : N < B) (o : Nat) (v : Value) : RwsA (w.setCell ⟨N, o, none⟩ v) B a l := fun w2 h2 =>
  h w2 fun b h1 hl => (h2 b h1 (by simpa using hl)).trans (Below.heap_setCell w ⟨N, o, none⟩ v b (by simp; omega))

theorem RwsA.of_to {w : World} {N : Nat} {t : TypeId} {f : Nat → Value} {l : List Rw} (hR : w.rowIs N t (l.length * 2) f) (hO : RwTo w N f l l.length) : RwsA w N (some ⟨N, 0, none⟩) l := fun w2 h2 => by
  have hO2 : RwTo w2 N f l l.length := fun i c hi hc => by
    obtain ⟨c0, c1⟩ := hO i c hi hc
    exact ⟨c0, c1⟩
  exact Rws.of_to (hR.of_block (h2 N (Nat.le_refl _) hR.lt)) hO2

set_option maxHeartbeats 2000000 in
theorem toRowS_any (a : Option Addr) (c : Nat) (l : List Rw) (w : World) (hs : Rws w a l) (hl : l.length ≤ 1048576) :
    Calls Tryd.prog 39 #[.slice a l.length c] w fun e w' => ∃ a', e = .returned (.slice a' l.length l.length) ∧ Rws w' a' l ∧ RwsA w' w.heap.size a' l ∧ Below w.heap.size w w' := by
  have hmk := run_make_manyV (P := Tryd.prog) 26 81 _ 2 16 Tryd.underlying26 Tryd.infoRw .i64 .i64 l.length (by omega) (by omega)
  go_enter Tryd.func39, Tryd.ntmps39
  go_wp2
  have hB : ∀ o, Below w.heap.size w (w.alloc o) := fun o => (Below.refl _ _).alloc (Nat.le_refl _) o
  go_loopw [4] (fun i wr => ∃ k : Nat, k ≤ l.length ∧ i = .int .i64 k ∧ ∃ f, wr.rowIs w.heap.size 81 (l.length * 2) f ∧ RwTo wr w.heap.size f l k ∧ Below w.heap.size w wr) (fun i _ => l.length - (intOf i).toNat)
  case atStart => exact ⟨0, Nat.zero_le _, rfl, _, by simpa [size_madeCells] using rowIs_of_allocV w (madeCells _ (l.length * 2)) 81, fun i b hi => absurd hi (Nat.not_lt_zero _), hB _⟩
  case round =>
    clear hB
    obtain ⟨k, hk, rfl, f, hR, hO, hB⟩ := hrel
    by_cases hlt : k < l.length
    · obtain ⟨b, hkb⟩ := getRw hlt
      obtain ⟨kb, ob, rfl, hbt⟩ := (hs.below hB) k b hkb
      obtain ⟨c0, c1⟩ := hbt
      have HK : Hid (l[k]? = some b) := hkb
      clear hs hkb
      go_wp2_with fail
      refine (toRow_any b   _  ).mono ?_
      rintro r w1 ⟨rfl, hB1⟩
      have hR1 : w1.rowIs w.heap.size 81 (l.length * 2) f := hR.of_block (hB1.block _ hR.lt)
      have d0 := hR1.cell (i := k * 2) (by omega)
      have d1 := hR1.cell (i := k * 2 + 1) (by omega)
      have hf := hR1.frozen
      have hO1 := hO.below hB1
      have hBn := hB.trans (hB1.mono hB.size)
      clear hO hB hB1 hR
      go_wp2
      go_roundw
      case rel =>
        obtain ⟨g, hg, hOg⟩ := RwTo_step  hR1 hO1 HK.out  
        exact ⟨k + 1, by omega, by go_num, g, hg, hOg, ((hBn.setCell (Nat.le_refl _) _).setCell (Nat.le_refl _) _)⟩
      case measure => simp [intOf]; omega
    · go_wp2
      go_ret
      obtain rfl : k = l.length := by omega
      exact ⟨_, rfl, Rws.of_to hR hO, RwsA.of_to hR hO, hB⟩

/-- Room for n of them at 'a', in a block from B on that may be written. -/
def RowRw (w : World) (B : Nat) (a : Option Addr) (n : Nat) : Prop :=
  n = 0 ∨ ∃ g m f, a = some ⟨g, 0, none⟩ ∧ B ≤ g ∧ n * 2 ≤ m ∧ w.rowIs g 81 m f

theorem RowRw.of_block {w w' : World} {B : Nat} {a : Option Addr} {n : Nat} (h : RowRw w B a n) (hs : ∀ b, InI a n b → w'.heap[b]? = w.heap[b]?) : RowRw w' B a n := by
  rcases h with h | ⟨g, m, f, rfl, hg, hm, hR⟩
  · exact .inl h
  · by_cases h0 : n = 0
    · exact .inl h0
    · exact .inr ⟨g, m, f, rfl, hg, hm, hR.of_block (hs g ⟨by omega, 0, none, rfl⟩)⟩

theorem RowRw.lt {w : World} {B : Nat} {a : Option Addr} {n b : Nat} (h : RowRw w B a n) (hb : InI a n b) : B ≤ b ∧ b < w.heap.size := by
  obtain ⟨h0, o, s, e⟩ := hb
  rcases h with h | ⟨g, m, f, rfl, hg, hm, hR⟩
  · omega
  · simp only [Option.some.injEq, Addr.mk.injEq] at e
    have := hR.lt
    omega

theorem RowRw.below {w w' : World} {B : Nat} {a : Option Addr} {n : Nat} (h : RowRw w B a n) (hb : Below w.heap.size w w') : RowRw w' B a n :=
  h.of_block fun b hi => hb.block b (h.lt hi).2

theorem RowRw.mono {w : World} {B B' : Nat} {a : Option Addr} {n : Nat} (h : RowRw w B a n) (hb : B' ≤ B) : RowRw w B' a n := by
  rcases h with h | ⟨g, m, f, e, hg, r⟩
  · exact .inl h
  · exact .inr ⟨g, m, f, e, by omega, r⟩

theorem Rws.of_block {w w' : World} {a : Option Addr} {fs : List Rw} (h : Rws w a fs) (hs : ∀ b, InI a fs.length b → w'.heap[b]? = w.heap[b]?) : Rws w' a fs := fun i s hi => by
  obtain ⟨b, off, e, h0, h1⟩ := h i s hi
  have hlt := (List.getElem?_eq_some_iff.1 hi).1
  have hh := hs b ⟨by omega, off, none, e⟩
  exact ⟨b, off, e, (World.cell?_of_block (a := ⟨b, off + i * 2, none⟩) hh).trans h0, (World.cell?_of_block (a := ⟨b, off + i * 2 + 1, none⟩) hh).trans h1⟩

theorem Rws.lt {w : World} {a : Option Addr} {fs : List Rw} (h : Rws w a fs) : ∀ b, InI a fs.length b → b < w.heap.size := fun b ⟨h0, o, s, e⟩ => by
  obtain ⟨x, hx⟩ := getRw h0
  obtain ⟨k, off, e2, h1, -⟩ := h 0 x hx
  have := lt_of_cell h1
  rw [e] at e2
  simp only [Option.some.injEq, Addr.mk.injEq] at e2
  omega

theorem Rws.setR {w : World} {B N : Nat} {a : Option Addr} {zs : List Rw} (h : Rws w a zs) (r : RowRw w B a zs.length) (hN : N < B) (o : Nat) (v : Value) : Rws (w.setCell ⟨N, o, none⟩ v) a zs :=
  h.of_block fun b hb => Below.heap_setCell w ⟨N, o, none⟩ v b (by have := (r.lt hb).1; simp; omega)

theorem RowRw.setR {w : World} {B N n : Nat} {a : Option Addr} (r : RowRw w B a n) (hN : N < B) (o : Nat) (v : Value) : RowRw (w.setCell ⟨N, o, none⟩ v) B a n :=
  r.of_block fun b hb => Below.heap_setCell w ⟨N, o, none⟩ v b (by have := (r.lt hb).1; simp; omega)

set_option maxHeartbeats 2000000 in
theorem toRowS_row (a : Option Addr) (c : Nat) (l : List Rw) (w : World) (hs : Rws w a l) (hl : l.length ≤ 1048576) :
    Calls Tryd.prog 39 #[.slice a l.length c] w fun e w' => ∃ a', e = .returned (.slice a' l.length l.length) ∧ Rws w' a' l ∧ RowRw w' w.heap.size a' l.length ∧ Below w.heap.size w w' := by
  have hmk := run_make_manyV (P := Tryd.prog) 26 81 _ 2 16 Tryd.underlying26 Tryd.infoRw .i64 .i64 l.length (by omega) (by omega)
  go_enter Tryd.func39, Tryd.ntmps39
  go_wp2
  have hB : ∀ o, Below w.heap.size w (w.alloc o) := fun o => (Below.refl _ _).alloc (Nat.le_refl _) o
  go_loopw [4] (fun i wr => ∃ k : Nat, k ≤ l.length ∧ i = .int .i64 k ∧ ∃ f, wr.rowIs w.heap.size 81 (l.length * 2) f ∧ RwTo wr w.heap.size f l k ∧ Below w.heap.size w wr) (fun i _ => l.length - (intOf i).toNat)
  case atStart => exact ⟨0, Nat.zero_le _, rfl, _, by simpa [size_madeCells] using rowIs_of_allocV w (madeCells _ (l.length * 2)) 81, fun i b hi => absurd hi (Nat.not_lt_zero _), hB _⟩
  case round =>
    clear hB
    obtain ⟨k, hk, rfl, f, hR, hO, hB⟩ := hrel
    by_cases hlt : k < l.length
    · obtain ⟨b, hkb⟩ := getRw hlt
      obtain ⟨kb, ob, rfl, hbt⟩ := (hs.below hB) k b hkb
      obtain ⟨c0, c1⟩ := hbt
      have HK : Hid (l[k]? = some b) := hkb
      clear hs hkb
      go_wp2_with fail
      refine (toRow_any b   _  ).mono ?_
      rintro r w1 ⟨rfl, hB1⟩
      have hR1 : w1.rowIs w.heap.size 81 (l.length * 2) f := hR.of_block (hB1.block _ hR.lt)
      have d0 := hR1.cell (i := k * 2) (by omega)
      have d1 := hR1.cell (i := k * 2 + 1) (by omega)
      have hf := hR1.frozen
      have hO1 := hO.below hB1
      have hBn := hB.trans (hB1.mono hB.size)
      clear hO hB hB1 hR
      go_wp2
      go_roundw
      case rel =>
        obtain ⟨g, hg, hOg⟩ := RwTo_step  hR1 hO1 HK.out  
        exact ⟨k + 1, by omega, by go_num, g, hg, hOg, ((hBn.setCell (Nat.le_refl _) _).setCell (Nat.le_refl _) _)⟩
      case measure => simp [intOf]; omega
    · go_wp2
      go_ret
      obtain rfl : k = l.length := by omega
      exact ⟨_, rfl, Rws.of_to hR hO, .inr ⟨_, _, _, rfl, Nat.le_refl _, Nat.le_refl _, hR⟩, hB⟩

set_option maxHeartbeats 1000000 in
theorem eqRow_same (c : Rw) (w : World) :
    Calls Tryd.prog 49 #[.agg #[.int .i64 c.epoch, .int .i64 c.val], .agg #[.int .i64 c.epoch, .int .i64 c.val]] w fun r w' => r = .returned (.bool true) ∧ Below w.heap.size w w' := by
  have HB : ∀ x y, Below w.heap.size w ((w.alloc x).alloc y) := fun _ _ => ((Below.refl _ _).alloc (Nat.le_refl _) _).alloc (by simp) _
  go_enter Tryd.func49, Tryd.ntmps49
  go_wp2
  go_ret
  exact ⟨rfl, HB _ _⟩

set_option maxHeartbeats 1000000 in
theorem eqRowS_same (a a2 : Option Addr) (c c2 : Nat) (l : List Rw) (w : World) (hx : Rws w a l) (hy : Rws w a2 l) (hl : l.length ≤ maxLen) :
    Calls Tryd.prog 25 #[.slice a l.length c, .slice a2 l.length c2] w fun e w' => e = .returned (.bool true) ∧ Below w.heap.size w w' := by
  unfold maxLen at hl
  go_enter Tryd.func25, Tryd.ntmps25
  go_wp2
  go_loopw [5] (fun i wr => ∃ k : Nat, k ≤ l.length ∧ i = .int .i64 k ∧ Below w.heap.size w wr) (fun i _ => l.length - (intOf i).toNat)
  case atStart => exact ⟨0, Nat.zero_le _, rfl, Below.refl _ _⟩
  case round =>
    obtain ⟨k, hk, rfl, hB⟩ := hrel
    by_cases hlt : k < l.length
    · obtain ⟨b, hkb⟩ := getRw hlt
      obtain ⟨kb, ob, rfl, hbt⟩ := (hx.below hB) k b hkb
      obtain ⟨c0, c1⟩ := hbt
      obtain ⟨kb2, ob2, rfl, hbt2⟩ := (hy.below hB) k b hkb
      obtain ⟨d0, d1⟩ := hbt2
      clear hx hy hkb
      go_wp2
      go_region_with (go_at_call 49; refine (eqRow_same _  _ ).mono ?_; rintro r w1 ⟨rfl, hB1⟩)
      all_goals
        go_wp2
        go_roundw
        case rel => exact ⟨k + 1, by omega, by go_num, hB.drew.trans (hB1.mono (by simpa using hB.size))⟩
        case measure => simp [intOf]; omega
    · go_wp2
      go_ret
      exact ⟨rfl, hB⟩

end Go.Proofs.YtekjpbfmiebigaaDoor
