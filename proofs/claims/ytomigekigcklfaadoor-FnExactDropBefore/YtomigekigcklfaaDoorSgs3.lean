/-
  Stores copied: the contracts of toSegment, toSegmentS, toStore.
-/
import Derived.Test.YtomigekigcklfaaDoorSgs2J
namespace Go.Proofs.YtomigekigcklfaaDoor
open Go.RowKit

theorem Ims.set {w : World} {a : Option Addr} {fs : List Im} {N : Nat} (h : Ims w a fs) (hF : FreshAt (N + 1) a) (o : Nat) (v : Value) : Ims (w.setCell ⟨N, o, none⟩ v) a fs := fun i s hi => by
  obtain ⟨b, off, rfl, h0, h1⟩ := h i s hi
  have := hF b off none rfl
  have hh := Below.heap_setCell w ⟨N, o, none⟩ v b (by simp; omega)
  exact ⟨b, off, rfl, (World.cell?_of_block (w := w) (a := ⟨b, off + i * 2, none⟩) hh).trans h0, (World.cell?_of_block (w := w) (a := ⟨b, off + i * 2 + 1, none⟩) hh).trans h1⟩

/-- A row's address: in its block, from its first cell on. -/
theorem RowIm.fresh {w : World} {B n : Nat} {a : Option Addr} (h : RowIm w B a n) (h0 : 0 < n) : FreshAt B a := fun b o s e => by
  rcases h with h | ⟨g, m, f, rfl, hg, -⟩
  · omega
  · simp only [Option.some.injEq, Addr.mk.injEq] at e
    omega

theorem Ims.set' {w : World} {a : Option Addr} {fs : List Im} {N : Nat} (h : Ims w a fs) (hF : 0 < fs.length → FreshAt (N + 1) a) (o : Nat) (v : Value) : Ims (w.setCell ⟨N, o, none⟩ v) a fs := fun i s hi => by
  have hlt := (List.getElem?_eq_some_iff.1 hi).1
  exact h.set (hF (by omega)) o v i s hi

set_option maxRecDepth 100000 in
set_option maxHeartbeats 1000000 in
theorem toSegment_any (g : Sg) (a : Option Addr) (c : Nat) (w : World) (hs : Ims w a g.idx) (hl : g.idx.length ≤ 1048576) :
    Calls Tryd.prog 48 #[.agg #[.int .i64 g.base, .string g.bytes, .slice a g.idx.length c]] w fun r w' =>
      ∃ a' : Option Addr, r = .returned (.agg #[.int .i64 g.base, .string g.bytes, .slice a' g.idx.length g.idx.length]) ∧ Ims w' a' g.idx ∧ RowIm w' w.heap.size a' g.idx.length ∧ Below w.heap.size w w' := by
  have hb3 : ∀ x y z, Below w.heap.size w (((w.alloc x).alloc y).alloc z) := fun _ _ _ => (((Below.refl _ _).alloc (Nat.le_refl _) _).alloc (by simp) _).alloc (by simp; omega) _
  go_enter Tryd.func48, Tryd.ntmps48
  go_wp2_with fail
  refine (toMarkS_any _ _ _ _ (hs.below ?_) hl).mono ?_
  exact hb3 _ _ _
  rintro r w1 ⟨a1, rfl, H1, R1, hB⟩
  have HB : Below w.heap.size w w1 := (hb3 _ _ _).trans (hB.mono (hb3 _ _ _).size)
  obtain ⟨hc, hf⟩ := bcell hB
  have hz1 := hB.size
  simp only [World.size_alloc] at hc hf hz1 R1
  have hF := R1.fresh
  have hRb : ∀ b, InBlock a1 g.idx.length b → w.heap.size + 1 + 1 + 1 ≤ b := fun b hb => (R1.lt hb).1
  have HR1 := R1
  clear hB
  have hF2 : 0 < g.idx.length → FreshAt (w.heap.size + 1 + 1 + 1) a1 := hF
  have hF1 : 0 < g.idx.length → FreshAt (w.heap.size + 1 + 1) a1 := fun h b o s e => by have := hF h b o s e; omega
  have hF0 : 0 < g.idx.length → FreshAt w.heap.size a1 := fun h b o s e => by have := hF h b o s e; omega
  clear hF R1
  go_wp2
  refine bodyPost_ret (v := .agg #[.int .i64 g.base, .string g.bytes, .slice a1 g.idx.length g.idx.length]) (by simp [results, Tryd.results48, go_sem, hc]) rfl ⟨_, rfl, ?_, ?_, ?_⟩
  · exact (((H1.set' hF2 _ _).set' hF1 _ _).set' hF1 _ _).set' hF1 _ _
  · refine (HR1.of_block (fun b hb => ?_)).mono (by omega)
    have := hRb b hb
    rw [Below.heap_setCell _ ⟨_, _, none⟩ _ b (by simp; omega), Below.heap_setCell _ ⟨_, _, none⟩ _ b (by simp; omega), Below.heap_setCell _ ⟨_, _, none⟩ _ b (by simp; omega), Below.heap_setCell _ ⟨_, _, none⟩ _ b (by simp; omega)]
  · exact (((HB.setCell (by simp; omega) _).setCell (by simp) _).setCell (by simp) _).setCell (by simp) _

/-- The row at N holds the first k segments; their marks lie behind N. -/
def SgTo (w : World) (N : Nat) (f : Nat → Value) (gs : List Sg) (k : Nat) : Prop :=
  ∀ i g, i < k → gs[i]? = some g → ∃ ra rc, f (i * 3) = .int .i64 g.base ∧ f (i * 3 + 1) = .string g.bytes ∧ f (i * 3 + 2) = .slice ra g.idx.length rc ∧ Ims w ra g.idx ∧ g.idx.length ≤ maxLen ∧ g.bytes.size ≤ maxLen ∧ RowIm w (N + 1) ra g.idx.length ∧ rc = g.idx.length

theorem SgTo.below {w w' : World} {N : Nat} {f : Nat → Value} {gs : List Sg} {k : Nat} (h : SgTo w N f gs k) (hb : Below w.heap.size w w') : SgTo w' N f gs k := fun i g hi hg => by
  obtain ⟨ra, rc, h0, h1, h2, hs, hl, hz, hF, hc⟩ := h i g hi hg
  exact ⟨ra, rc, h0, h1, h2, hs.below hb, hl, hz, hF.below hb, hc⟩

theorem RowIm.set' {w : World} {B N n : Nat} {a : Option Addr} (h : RowIm w B a n) (hN : N < B) (o : Nat) (v : Value) : RowIm (w.setCell ⟨N, o, none⟩ v) B a n :=
  h.of_block (fun b hb => Below.heap_setCell w ⟨N, o, none⟩ v b (by have := (h.lt hb).1; simp; omega))

theorem sg_step {w : World} {N : Nat} {t : TypeId} {n : Nat} {f : Nat → Value} {gs : List Sg} {k : Nat} {g : Sg} {a1 : Option Addr} {rc : Nat} (hrc : rc = g.idx.length) (hR : w.rowIs N t (n * 3) f) (hO : SgTo w N f gs k) (hg : gs[k]? = some g) (hs : Ims w a1 g.idx) (hl : g.idx.length ≤ maxLen) (hz : g.bytes.size ≤ maxLen) (hF : RowIm w (N + 1) a1 g.idx.length) :
    ∃ q, (((w.setCell ⟨N, k * 3, none⟩ (.int .i64 g.base)).setCell ⟨N, k * 3 + 1, none⟩ (.string g.bytes)).setCell ⟨N, k * 3 + 2, none⟩ (.slice a1 g.idx.length rc)).rowIs N t (n * 3) q ∧
      SgTo (((w.setCell ⟨N, k * 3, none⟩ (.int .i64 g.base)).setCell ⟨N, k * 3 + 1, none⟩ (.string g.bytes)).setCell ⟨N, k * 3 + 2, none⟩ (.slice a1 g.idx.length rc)) N q gs (k + 1) := by
  refine ⟨_, ((hR.set _ _).set _ _).set _ _, fun i c hi hc => ?_⟩
  by_cases e : i = k
  · subst e
    obtain rfl : g = c := by rw [hg] at hc; simpa using hc
    refine ⟨a1, rc, ?_, ?_, ?_, ((hs.set' hF.fresh _ _).set' hF.fresh _ _).set' hF.fresh _ _, hl, hz, ((hF.set' (by omega) _ _).set' (by omega) _ _).set' (by omega) _ _, hrc⟩ <;> simp
  · obtain ⟨ra, rc', h0, h1, h2, hs', hl', hz', hF', hc'⟩ := hO i c (by omega) hc
    refine ⟨ra, rc', ?_, ?_, ?_, ((hs'.set' hF'.fresh _ _).set' hF'.fresh _ _).set' hF'.fresh _ _, hl', hz', ((hF'.set' (by omega) _ _).set' (by omega) _ _).set' (by omega) _ _, hc'⟩
    · rw [if_neg (by omega), if_neg (by omega), if_neg (by omega)]; exact h0
    · rw [if_neg (by omega), if_neg (by omega), if_neg (by omega)]; exact h1
    · rw [if_neg (by omega), if_neg (by omega), if_neg (by omega)]; exact h2

theorem SgTo.set {w : World} {N M : Nat} {f : Nat → Value} {gs : List Sg} {k : Nat} (h : SgTo w N f gs k) (hM : M < N) (o : Nat) (v : Value) : SgTo (w.setCell ⟨M, o, none⟩ v) N f gs k := fun i g hi hg => by
  obtain ⟨ra, rc, h0, h1, h2, hs, hl, hz, hF, hc⟩ := h i g hi hg
  exact ⟨ra, rc, h0, h1, h2, hs.set' (fun h b o s e => by have := hF.fresh h b o s e; omega) o v, hl, hz, hF.set' (by omega) o v, hc⟩

theorem Sgs.of_row {w : World} {N : Nat} {t : TypeId} {f : Nat → Value} {gs : List Sg} (hR : w.rowIs N t (gs.length * 3) f) (hO : SgTo w N f gs gs.length) : Sgs w (some ⟨N, 0, none⟩) gs := fun i g hi => by
  have hlt := (List.getElem?_eq_some_iff.1 hi).1
  obtain ⟨ra, rc, h0, h1, h2, hs, hl, hz, -⟩ := hO i g hlt hi
  refine ⟨N, 0, rfl, ra, rc, ?_, ?_, ?_, hs, hl, hz⟩
  · rw [Nat.zero_add, hR.cell (by omega), h0]
  · rw [Nat.zero_add, hR.cell (by omega), h1]
  · rw [Nat.zero_add, hR.cell (by omega), h2]

/-- The segments lie in a row of their own from block B on, their marks in blocks behind it; all may be written. -/
def StRow (w : World) (B : Nat) (a : Option Addr) (gs : List Sg) : Prop :=
  ∃ N f, a = some ⟨N, 0, none⟩ ∧ B ≤ N ∧ w.rowIs N 52 (gs.length * 3) f ∧ SgTo w N f gs gs.length

theorem Tryd.infoSegment : (Tryd.prog.info? 52).map (fun i => (i.zero, i.size, i.bytes)) = some (some (.agg #[.int .i64 0, .string ⟨#[]⟩, .slice none 0 0]), 3, 48) := by kernel_rfl

set_option maxRecDepth 100000 in
set_option maxHeartbeats 2000000 in
theorem toSegmentS_any (a : Option Addr) (c : Nat) (gs : List Sg) (w : World) (hs : Sgs w a gs) (hl : gs.length ≤ 1048576) (hrec : ∀ g, g ∈ gs → g.idx.length ≤ 1048576) :
    Calls Tryd.prog 28 #[.slice a gs.length c] w fun e w' => ∃ f, e = .returned (.slice (some ⟨w.heap.size, 0, none⟩) gs.length gs.length) ∧ w'.rowIs w.heap.size 52 (gs.length * 3) f ∧ SgTo w' w.heap.size f gs gs.length ∧ Below w.heap.size w w' := by
  have hmk := run_make_manyIm (P := Tryd.prog) 28 52 _ 3 48 Tryd.underlying28 Tryd.infoSegment .i64 .i64 gs.length (by omega) (by omega)
  go_enter Tryd.func28, Tryd.ntmps28
  go_wp2
  have hB : ∀ o, Below w.heap.size w (w.alloc o) := fun o => (Below.refl _ _).alloc (Nat.le_refl _) o
  go_loopw [4] (fun i wr => ∃ k : Nat, k ≤ gs.length ∧ i = .int .i64 k ∧ ∃ f, wr.rowIs w.heap.size 52 (gs.length * 3) f ∧ SgTo wr w.heap.size f gs k ∧ Below w.heap.size w wr) (fun i _ => gs.length - (intOf i).toNat)
  case atStart => exact ⟨0, Nat.zero_le _, rfl, _, by simpa [size_madeCells] using rowIs_of_allocIm w (madeCells _ (gs.length * 3)) 52, fun i b hi => absurd hi (Nat.not_lt_zero _), hB _⟩
  case round =>
    clear hB
    obtain ⟨k, hk, rfl, f, hR, hO, hB⟩ := hrel
    by_cases hlt : k < gs.length
    · obtain ⟨g, hkb⟩ := getSg hlt
      obtain ⟨kb, ob, rfl, ra, rc, c0, c1, c2, hst, hsl, hsz⟩ := (hs.below hB) k g hkb
      have hrl := hrec g (List.mem_of_getElem? hkb)
      have HK : Hid (gs[k]? = some g) := hkb
      clear hs hkb
      go_wp2_with fail
      refine (toSegment_any g _ _ _ hst hrl).mono ?_
      rintro r w1 ⟨a1, rfl, hs1, hF1, hB1⟩
      have hR1 : w1.rowIs w.heap.size 52 (gs.length * 3) f := hR.of_block (hB1.block _ hR.lt)
      have d0 := hR1.cell (i := k * 3) (by omega)
      have d1 := hR1.cell (i := k * 3 + 1) (by omega)
      have d2 := hR1.cell (i := k * 3 + 2) (by omega)
      have hf := hR1.frozen
      have hO1 := hO.below hB1
      have hF : RowIm w1 (w.heap.size + 1) a1 g.idx.length := hF1.mono (by have := hR.lt; omega)
      have hBn := hB.trans (hB1.mono hB.size)
      clear hO hB hB1 hF1 hR
      go_wp2
      go_roundw
      case rel =>
        obtain ⟨q, hq, hOq⟩ := sg_step (rc := g.idx.length) rfl hR1 hO1 HK.out hs1 hsl hsz hF
        exact ⟨k + 1, by omega, by go_num, q, hq, hOq, ((hBn.setCell (Nat.le_refl _) _).setCell (Nat.le_refl _) _).setCell (Nat.le_refl _) _⟩
      case measure => simp [intOf]; omega
    · clear hs
      go_wp2
      go_ret
      obtain rfl : k = gs.length := by omega
      exact ⟨f, rfl, hR, hO, hB⟩

set_option maxRecDepth 100000 in
set_option maxHeartbeats 1000000 in
theorem toStore_any (a : Option Addr) (c : Nat) (gs : List Sg) (x : Int) (w : World) (hs : Sgs w a gs) (hl : gs.length ≤ 1048576) (hrec : ∀ g, g ∈ gs → g.idx.length ≤ 1048576) :
    Calls Tryd.prog 9 #[.agg #[.slice a gs.length c, .int .i64 x]] w fun r w' =>
      ∃ a' : Option Addr, r = .returned (.agg #[.slice a' gs.length gs.length, .int .i64 x]) ∧ Below w.heap.size w w' ∧ Sgs w' a' gs ∧ StRow w' w.heap.size a' gs := by
  have hb3 : ∀ x y z, Below w.heap.size w (((w.alloc x).alloc y).alloc z) := fun _ _ _ => (((Below.refl _ _).alloc (Nat.le_refl _) _).alloc (by simp) _).alloc (by simp; omega) _
  have HR : Hid (∀ g, g ∈ gs → g.idx.length ≤ 1048576) := hrec
  clear hrec
  go_enter Tryd.func9, Tryd.ntmps9
  go_wp2_with fail
  refine (toSegmentS_any _ _ _ _ (hs.below (hb3 _ _ _)) hl HR.out).mono ?_
  rintro r w1 ⟨f, rfl, hR, hO, hB⟩
  have HB : Below w.heap.size w w1 := (hb3 _ _ _).trans (hB.mono (hb3 _ _ _).size)
  obtain ⟨hc, hf⟩ := bcell hB
  have hz1 := hB.size
  simp only [World.size_alloc] at hc hf hz1 hR hO
  clear hB
  go_wp2
  refine bodyPost_ret (v := .agg #[.slice (some ⟨w.heap.size + 1 + 1 + 1, 0, none⟩) gs.length gs.length, .int .i64 x]) (by simp [results, Tryd.results9, go_sem, hc]) rfl ⟨_, rfl, ?_, ?_⟩
  · exact (((HB.setCell (by simp; omega) _).setCell (by simp; omega) _).setCell (by simp) _).setCell (by simp) _
  · refine ⟨?_, ⟨_, f, rfl, by omega, (((hR.setOther (by simp) _).setOther (by simp) _).setOther (by simp; omega) _).setOther (by simp; omega) _, (((hO.set (by omega) _ _).set (by omega) _ _).set (by omega) _ _).set (by omega) _ _⟩⟩
    exact Sgs.of_row ((((hR.setOther (by simp) _).setOther (by simp) _).setOther (by simp; omega) _).setOther (by simp; omega) _) ((((hO.set (by omega) _ _).set (by omega) _ _).set (by omega) _ _).set (by omega) _ _)

end Go.Proofs.YtomigekigcklfaaDoor
