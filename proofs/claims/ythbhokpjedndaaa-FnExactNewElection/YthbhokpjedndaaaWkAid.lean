/-
  Rows that stay rows, whatever is written into them; marks of numbers and bools. Made by mkweak.py.
-/
import Derived.Test.YthbhokpjedndaaaBagAid
namespace Go.Proofs.Ythbhokpjedndaaa
open Go.RowKit

/-- Every row is still one, of its size. -/
def Kps (w w' : World) : Prop := ∀ b t m f, w.rowIs b t m f → ∃ f', w'.rowIs b t m f'

theorem Kps.refl (w : World) : Kps w w := fun _ _ _ f h => ⟨f, h⟩
theorem Kps.trans {a b c : World} (h : Kps a b) (k : Kps b c) : Kps a c := fun g t m f hr => by
  obtain ⟨f1, h1⟩ := h g t m f hr
  exact k g t m f1 h1
theorem Kps.below {w w' : World} (h : Below w.heap.size w w') : Kps w w' := fun _ _ _ f hr => ⟨f, hr.of_block (h.block _ hr.lt)⟩
theorem Kps.set {u w : World} (h : Kps u w) (N o : Nat) (v : Value) : Kps u (w.setCell ⟨N, o, none⟩ v) := h.trans fun b t m f hr => by
  by_cases e : b = N
  · subst e
    exact ⟨_, hr.set o v⟩
  · exact ⟨f, hr.setOther (by simpa using e) v⟩

theorem RowI.kps {w w' : World} {B n : Nat} {a : Option Addr} (h : RowI w B a n) (k : Kps w w') : RowI w' B a n := by
  rcases h with h | ⟨g, m, f, rfl, hg, hm, hR⟩
  · exact .inl h
  · obtain ⟨f', hR'⟩ := k _ _ _ _ hR
    exact .inr ⟨g, m, f', rfl, hg, hm, hR'⟩

theorem RowO.kps {w w' : World} {B n : Nat} {a : Option Addr} (h : RowO w B a n) (k : Kps w w') : RowO w' B a n := by
  rcases h with h | ⟨g, m, f, rfl, hg, hm, hR⟩
  · exact .inl h
  · obtain ⟨f', hR'⟩ := k _ _ _ _ hR
    exact .inr ⟨g, m, f', rfl, hg, hm, hR'⟩

/-- Only blocks from B on and below H were written; rows are still rows. -/
structure Wk (w w' : World) (B H : Nat) : Prop where
  bel : Below B w w'
  out : ∀ b, H ≤ b → b < w.heap.size → w'.heap[b]? = w.heap[b]?
  kps : Kps w w'

theorem Wk.refl (w : World) (B H : Nat) : Wk w w B H := ⟨Below.refl _ _, fun _ _ _ => rfl, Kps.refl _⟩
theorem Wk.set {w u : World} {B H N : Nat} (h : Wk w u B H) (h1 : B ≤ N) (h2 : N < H) (o : Nat) (v : Value) : Wk w (u.setCell ⟨N, o, none⟩ v) B H :=
  ⟨h.bel.setCell h1 _, fun b hb hl => (Below.heap_setCell u ⟨N, o, none⟩ v b (by simp; omega)).trans (h.out b hb hl), h.kps.set _ _ _⟩
theorem Wk.trans {a b c : World} {B H : Nat} (h : Wk a b B H) (k : Wk b c B H) : Wk a c B H :=
  ⟨h.bel.trans k.bel, fun x h1 h2 => (k.out x h1 (by have := h.bel.size; omega)).trans (h.out x h1 h2), h.kps.trans k.kps⟩
theorem Wk.of_mark {w w' : World} {B H n : Nat} {a : Option Addr} (hb : Below B w w') (hk : Kps w w') (ho : ∀ b, ¬ InI a n b → w'.heap[b]? = w.heap[b]?) (hH : ∀ b, InI a n b → b < H) : Wk w w' B H :=
  ⟨hb, fun b h1 _ => ho b fun h => by have := hH b h; omega, hk⟩
/-- Rows of other types than these were not written. -/
def Typ (ts : List TypeId) (w w' : World) : Prop := ∀ t b m f, w.rowIs b t m f → t ∉ ts → w'.heap[b]? = w.heap[b]?
theorem Typ.refl (ts : List TypeId) (w : World) : Typ ts w w := fun _ _ _ _ _ _ => rfl
theorem Typ.trans {ts : List TypeId} {a b c : World} (h : Typ ts a b) (k : Typ ts b c) : Typ ts a c := fun t x m f hr ht =>
  (k t x m f (hr.of_block (h t x m f hr ht)) ht).trans (h t x m f hr ht)
theorem row_type {w : World} {b m m' : Nat} {t t' : TypeId} {f f' : Nat → Value} (h : w.rowIs b t m f) (h' : w.rowIs b t' m' f') : t = t' := by
  obtain ⟨cs, h1, -, -⟩ := h
  obtain ⟨cs', h2, -, -⟩ := h'
  rw [h1] at h2
  simp only [Option.some.injEq, Obj.cells.injEq] at h2
  exact h2.2.1
theorem Typ.set {ts : List TypeId} {w u : World} {N m : Nat} {t : TypeId} {f : Nat → Value} (h : Typ ts w u) (hR : u.rowIs N t m f) (ht : t ∈ ts) (o : Nat) (v : Value) : Typ ts w (u.setCell ⟨N, o, none⟩ v) := fun t' b m' f' hr hn => by
  have hu := h t' b m' f' hr hn
  by_cases e : b = N
  · subst e
    exact absurd (row_type (hr.of_block hu) hR ▸ ht) hn
  · exact (Below.heap_setCell u ⟨N, o, none⟩ v b (by simpa using e)).trans hu
theorem Typ.of_row {ts : List TypeId} {w w' : World} {a : Option Addr} {n : Nat} (ho : ∀ b, ¬ InI a n b → w'.heap[b]? = w.heap[b]?) (hr : ∀ b, InI a n b → ∃ t m f, w.rowIs b t m f ∧ t ∈ ts) : Typ ts w w' := fun t b m f h hn => ho b fun hb => by
  obtain ⟨t', m', f', h', ht⟩ := hr b hb
  exact hn (row_type h h' ▸ ht)
theorem RowI.typ {w : World} {B n : Nat} {a : Option Addr} (h : RowI w B a n) {ts : List TypeId} (ht : 3 ∈ ts) : ∀ b, InI a n b → ∃ t m f, w.rowIs b t m f ∧ t ∈ ts := fun b ⟨h0, o, s, e⟩ => by
  rcases h with h | ⟨g, m, f, rfl, hg, hm, hR⟩
  · omega
  · simp only [Option.some.injEq, Addr.mk.injEq] at e
    obtain ⟨rfl, -⟩ := e
    exact ⟨_, m, f, hR, ht⟩

theorem RowO.typ {w : World} {B n : Nat} {a : Option Addr} (h : RowO w B a n) {ts : List TypeId} (ht : 4 ∈ ts) : ∀ b, InI a n b → ∃ t m f, w.rowIs b t m f ∧ t ∈ ts := fun b ⟨h0, o, s, e⟩ => by
  rcases h with h | ⟨g, m, f, rfl, hg, hm, hR⟩
  · omega
  · simp only [Option.some.injEq, Addr.mk.injEq] at e
    obtain ⟨rfl, -⟩ := e
    exact ⟨_, m, f, hR, ht⟩

/-- What lies below B or from H on reads as before. -/
theorem Wk.cell {w w' : World} {B H b o : Nat} {v : Value} (h : Wk w w' B H) (hb : b < B ∨ H ≤ b) (hc : w.cell? ⟨b, o, none⟩ = some v) : w'.cell? ⟨b, o, none⟩ = some v := by
  have hlt := lt_of_cell hc
  rcases hb with hb | hb
  · exact (h.bel.cell (p := ⟨b, o, none⟩) hb).trans hc
  · exact (World.cell?_of_block (a := ⟨b, o, none⟩) (h.out b hb hlt)).trans hc
theorem Wk.block {w w' : World} {B H b : Nat} (h : Wk w w' B H) (hb : b < B ∨ H ≤ b) (hlt : b < w.heap.size) : w'.heap[b]? = w.heap[b]? := by
  rcases hb with hb | hb
  · exact h.bel.block b hb
  · exact h.out b hb hlt

set_option maxRecDepth 100000 in
set_option maxHeartbeats 2000000 in
theorem markIntS_wk (a : Option Addr) (c n B k : Nat) (w : World) (h : RowI w B a n) (h2 : k + n ≤ 4000000000000000000) :
    Calls Try.prog 41 #[.slice a n c, .int .i64 (k : Int)] w fun r w' => r = .returned (.int .i64 ((k + n : Nat) : Int)) ∧ Below B w w' ∧ Kps w w' ∧ ∀ b, ¬ InI a n b → w'.heap[b]? = w.heap[b]? := by
  by_cases h0 : n = 0
  · subst h0
    go_enter Try.func41, Try.ntmps41
    go_wp2
    go_loopw [1, 5] (fun c i wr => c = .int .i64 (k : Int) ∧ i = .int .i64 0 ∧ w = wr) (fun _ _ _ => 0)
    case atStart => exact ⟨rfl, rfl, rfl⟩
    case round =>
      obtain ⟨rfl, rfl, rfl⟩ := hrel
      go_wp2
      go_ret
      exact ⟨ret_int (by simp), Below.refl _ _, Kps.refl _, fun _ _ => rfl⟩
  · obtain ⟨g, m, f, rfl, hg, hm, hR⟩ := h.resolve_left h0
    go_enter Try.func41, Try.ntmps41
    go_wp2
    go_loopw [1, 5] (fun c i wr => ∃ j : Nat, j ≤ n ∧ c = .int .i64 ((k + j : Nat) : Int) ∧ i = .int .i64 (j : Int) ∧ (∃ f', wr.rowIs g 3 m f') ∧ Below B w wr ∧ Hid (Kps w wr) ∧ Hid (∀ b, b ≠ g → wr.heap[b]? = w.heap[b]?)) (fun _ i _ => n - (intOf i).toNat)
    case atStart => exact ⟨0, Nat.zero_le _, rfl, rfl, ⟨f, hR⟩, Below.refl _ _, Kps.refl _, fun _ _ => rfl⟩
    case round =>
      clear hR
      obtain ⟨j, hj, rfl, rfl, ⟨f', hR⟩, hB, HK, HO⟩ := hrel
      by_cases hlt : j < n
      · have c0 := hR.cell (i := j) (by omega)
        have f0 := hR.frozen
        have HS : Hid (∀ x0, (∃ f2, (wr.setCell ⟨g, j, none⟩ x0).rowIs g 3 m f2) ∧ Below B w (wr.setCell ⟨g, j, none⟩ x0) ∧ Kps w (wr.setCell ⟨g, j, none⟩ x0) ∧ ∀ b, b ≠ g → (wr.setCell ⟨g, j, none⟩ x0).heap[b]? = w.heap[b]?) := fun x0 => ⟨⟨_, (hR.set _ _)⟩, (hB.setCell hg _), (Kps.set HK.out _ _ _), fun b hne => by
          rw [Below.heap_setCell _ ⟨g, j, none⟩ _ b (by simpa using hne), HO.out b hne]⟩
        clear hR hB HO HK
        go_wp2
        go_roundw
        case rel =>
          obtain ⟨s1, s2, s3, s4⟩ := HS.out _
          exact ⟨j + 1, by omega, by go_num, by go_num, s1, s2, s3, s4⟩
        case measure => simp [intOf]; omega
      · obtain rfl : j = n := by omega
        go_wp2
        go_ret
        refine ⟨rfl, hB, HK.out, fun b hne => HO.out b (fun e => hne ?_)⟩
        subst e
        exact ⟨by omega, 0, none, rfl⟩

end Go.Proofs.Ythbhokpjedndaaa
