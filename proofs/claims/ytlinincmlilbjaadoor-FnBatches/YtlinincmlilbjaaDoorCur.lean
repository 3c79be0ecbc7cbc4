/-
  The drawing of the laws: a cursor over bytes. What 'next', 'pick', 'one', 'among' do: some number within bounds comes; the cursor's own block turns, and nothing else.
-/
import Derived.Test.YtlinincmlilbjaaDoorInts
import Derived.Deep.RegionWith
namespace Go.Proofs.YtlinincmlilbjaaDoor
open Go.RowKit

/-- The slice value at 'a' reads as these bytes. -/
def Bys (w : World) (a : Option Addr) (bs : List UInt8) : Prop :=
  ∀ (i : Nat) (z : UInt8), bs[i]? = some z → ∃ b off, a = some ⟨b, off, none⟩ ∧ w.cell? ⟨b, off + i, none⟩ = some (.int .u8 (z.toNat : Int))

theorem Bys.of_block {w w' : World} {a : Option Addr} {bs : List UInt8} (h : Bys w a bs) (hs : ∀ b, InI a bs.length b → w'.heap[b]? = w.heap[b]?) : Bys w' a bs := fun i z hi => by
  obtain ⟨b, off, e, hc⟩ := h i z hi
  have hlt := (List.getElem?_eq_some_iff.1 hi).1
  exact ⟨b, off, e, (World.cell?_of_block (a := ⟨b, off + i, none⟩) (hs b ⟨by omega, off, none, e⟩)).trans hc⟩

theorem Bys.below {w w' : World} {a : Option Addr} {bs : List UInt8} (h : Bys w a bs) (hb : Below w.heap.size w w') : Bys w' a bs := fun i z hi => by
  obtain ⟨b, off, e, hc⟩ := h i z hi
  exact ⟨b, off, e, (hb.cell (p := ⟨b, off + i, none⟩) (lt_of_cell hc)).trans hc⟩

theorem Bys.lt {w : World} {a : Option Addr} {bs : List UInt8} (h : Bys w a bs) : ∀ b, InI a bs.length b → b < w.heap.size := fun b ⟨h0, o, s, e⟩ => by
  obtain ⟨k, o', e', hc⟩ := h 0 _ (List.getElem?_eq_getElem h0)
  rw [e'] at e
  simp only [Option.some.injEq, Addr.mk.injEq] at e
  have := lt_of_cell hc
  omega

/-- Nothing turns but block p, and what is new. -/
structure Far (p : Nat) (w w' : World) : Prop where
  bel : Below p w w'
  blk : ∀ b, b < w.heap.size → b ≠ p → w'.heap[b]? = w.heap[b]?

theorem Far.refl (p : Nat) (w : World) : Far p w w := ⟨Below.refl _ _, fun _ _ _ => rfl⟩
theorem Far.trans {p : Nat} {w w' w'' : World} (h : Far p w w') (k : Far p w' w'') : Far p w w'' :=
  ⟨h.bel.trans k.bel, fun b hb hp => (k.blk b (Nat.lt_of_lt_of_le hb h.bel.size) hp).trans (h.blk b hb hp)⟩
theorem Far.of_below {p : Nat} {w w' : World} (h : Below w.heap.size w w') (hp : p ≤ w.heap.size) : Far p w w' := ⟨h.mono hp, fun b hb _ => h.block b hb⟩
theorem Far.set {p i : Nat} {w : World} (v : Value) : Far p w (w.setCell ⟨p, i, none⟩ v) :=
  ⟨Below.setCell (Below.refl p w) (p := ⟨p, i, none⟩) (Nat.le_refl p) v, fun b _ hp => Below.heap_setCell w ⟨p, i, none⟩ v b (by simpa using hp)⟩
theorem Far.drewN {p : Nat} {w w' : World} (h : Far p w w') (n : Nat) : Far p w (w'.drewN n) :=
  ⟨below_drewN h.bel n, fun b hb hp => by rw [← h.blk b hb hp]; simp⟩

/-- The cursor at block p: its bytes, and how many were taken. -/
structure Cur (w : World) (p : Nat) (a : Option Addr) (bs : List UInt8) (c z : Nat) : Prop where
  c0 : w.cell? ⟨p, 0, none⟩ = some (.slice a bs.length c)
  c1 : w.cell? ⟨p, 1, none⟩ = some (.int .i64 (z : Int))
  c2 : ∃ s : Int, w.cell? ⟨p, 2, none⟩ = some (.int .u64 s)
  f : ∀ i, w.frozen? ⟨p, i, none⟩ = false
  by_ : Bys w a bs
  lo : ∀ b, InI a bs.length b → b < p
  sm : bs.length ≤ 1048576

theorem Cur.far {w w' : World} {p q : Nat} {a : Option Addr} {bs : List UInt8} {c z : Nat} (h : Cur w p a bs c z) (hf : Far q w w') (hq : p ≠ q) (hlo : p < q) : Cur w' p a bs c z := by
  have hb := hf.blk p (lt_of_cell h.c0) hq
  obtain ⟨s, hs⟩ := h.c2
  exact ⟨(World.cell?_of_block (a := ⟨p, 0, none⟩) hb).trans h.c0, (World.cell?_of_block (a := ⟨p, 1, none⟩) hb).trans h.c1, ⟨s, (World.cell?_of_block (a := ⟨p, 2, none⟩) hb).trans hs⟩, fun i => (World.frozen?_of_block (a := ⟨p, i, none⟩) hb).trans (h.f i), h.by_.of_block (fun b hi => hf.blk b (h.by_.lt b hi) (by have := h.lo b hi; omega)), h.lo, h.sm⟩

theorem Cur.below {w w' : World} {p : Nat} {a : Option Addr} {bs : List UInt8} {c z : Nat} (h : Cur w p a bs c z) (hf : Below w.heap.size w w') : Cur w' p a bs c z := by
  have hb := hf.block p (lt_of_cell h.c0)
  obtain ⟨s, hs⟩ := h.c2
  exact ⟨(World.cell?_of_block (a := ⟨p, 0, none⟩) hb).trans h.c0, (World.cell?_of_block (a := ⟨p, 1, none⟩) hb).trans h.c1, ⟨s, (World.cell?_of_block (a := ⟨p, 2, none⟩) hb).trans hs⟩, fun i => (World.frozen?_of_block (a := ⟨p, i, none⟩) hb).trans (h.f i), h.by_.below hf, h.lo, h.sm⟩

theorem seed_byte (x : Int) : ∃ v : Nat, v ≤ 255 ∧ wrap64 (bits .and .u64 (IntKind.u64.wrap x / 1099511627776) 255) = (v : Int) := by
  have hw : 0 ≤ IntKind.u64.wrap x ∧ IntKind.u64.wrap x < 18446744073709551616 := by
    rw [IntKind.wrap_u64]; omega
  obtain ⟨q, hq⟩ : ∃ q, IntKind.u64.wrap x = q := ⟨_, rfl⟩
  rw [hq] at hw ⊢
  rw [u64_and _ _ (by omega) (by omega) (by omega) (by omega)]
  refine ⟨(q / 1099511627776).toNat &&& (255 : Int).toNat, Nat.and_le_right, ?_⟩
  have : ((q / 1099511627776).toNat &&& (255 : Int).toNat) ≤ 255 := Nat.and_le_right
  unfold wrap64; omega

theorem Cur.step {w : World} {p : Nat} {a : Option Addr} {bs : List UInt8} {c z : Nat} (h : Cur w p a bs c z) (n n' : Nat) (s' : Int) :
    Cur ((((w.drewN n).setCell ⟨p, 1, none⟩ (.int .i64 ((z : Int) + 1))).setCell ⟨p, 2, none⟩ (.int .u64 s')).drewN n') p a bs c (z + 1) ∧ Far p w ((((w.drewN n).setCell ⟨p, 1, none⟩ (.int .i64 ((z : Int) + 1))).setCell ⟨p, 2, none⟩ (.int .u64 s')).drewN n') := by
  have hF : Far p w ((((w.drewN n).setCell ⟨p, 1, none⟩ (.int .i64 ((z : Int) + 1))).setCell ⟨p, 2, none⟩ (.int .u64 s')).drewN n') :=
    ((((Far.refl p w).drewN n).trans (Far.set _)).trans (Far.set _)).drewN n'
  obtain ⟨s, hs⟩ := h.c2
  refine ⟨⟨?_, ?_, ⟨s', ?_⟩, fun i => ?_, h.by_.of_block (fun b hi => hF.blk b (h.by_.lt b hi) (by have := h.lo b hi; omega)), h.lo, h.sm⟩, hF⟩
  · simp [go_sem, h.c0]
  · simp [go_sem, h.c1]
  · simp [go_sem, hs]
  · simp [go_sem, h.f]

set_option maxRecDepth 100000 in
set_option maxHeartbeats 2000000 in
theorem next_any (p : Nat) (a : Option Addr) (bs : List UInt8) (c z : Nat) (w : World) (h : Cur w p a bs c z) (hz : z ≤ 1000000000) :
    Calls Tryd.prog 44 #[.pointer (some ⟨p, 0, none⟩)] w fun e w' => ∃ v : Nat, e = .returned (.int .i64 (v : Int)) ∧ v ≤ 255 ∧ Cur w' p a bs c (z + 1) ∧ Far p w w' := by
  have hsm := h.sm
  obtain ⟨s, hs⟩ := h.c2
  have h0 := h.c0
  have h1 := h.c1
  have hf := h.f
  have HST := fun n n' s' => h.step n n' s'
  by_cases hlt : z < bs.length
  · obtain ⟨b, off, rfl, hc⟩ := h.by_ z _ (List.getElem?_eq_getElem hlt)
    obtain ⟨y, hy⟩ : ∃ y, bs[z].toNat = y := ⟨_, rfl⟩
    have hy2 : y ≤ 255 := by have := bs[z].toNat_lt; omega
    rw [hy] at hc
    have hyw : IntKind.i64.wrap (y : Int) = (y : Int) := by rw [IntKind.wrap_i64]; omega
    have d1 : (z : Int) < (bs.length : Int) := by omega
    have d2 : (z : Int) + 1 ≤ (bs.length : Int) := by omega
    have HS : Hid (∀ n n' s', Cur ((((w.drewN n).setCell ⟨p, 1, none⟩ (.int .i64 ((z : Int) + 1))).setCell ⟨p, 2, none⟩ (.int .u64 s')).drewN n') p (some ⟨b, off, none⟩) bs c (z + 1) ∧ Far p w ((((w.drewN n).setCell ⟨p, 1, none⟩ (.int .i64 ((z : Int) + 1))).setCell ⟨p, 2, none⟩ (.int .u64 s')).drewN n')) := HST
    clear HST h hy
    go_enter Tryd.func44, Tryd.ntmps44
    go_wp2
    go_quiet (fail)
    go_wp2
    go_quiet (fail)
    go_wp2
    go_quiet (fail)
    go_wp2
    go_ret
    exact ⟨y, ret_int (by first | rfl | simp), hy2, (HS.out _ _ _).1, (HS.out _ _ _).2⟩
  · have d1 : ¬ ((z : Int) < (bs.length : Int)) := by omega
    have d2 : ¬ ((z : Int) + 1 ≤ (bs.length : Int)) := by omega
    have HS : Hid (∀ n n' s', Cur ((((w.drewN n).setCell ⟨p, 1, none⟩ (.int .i64 ((z : Int) + 1))).setCell ⟨p, 2, none⟩ (.int .u64 s')).drewN n') p a bs c (z + 1) ∧ Far p w ((((w.drewN n).setCell ⟨p, 1, none⟩ (.int .i64 ((z : Int) + 1))).setCell ⟨p, 2, none⟩ (.int .u64 s')).drewN n')) := HST
    clear HST h
    go_enter Tryd.func44, Tryd.ntmps44
    go_wp2
    go_quiet (fail)
    go_wp2
    go_quiet (fail)
    go_wp2
    obtain ⟨v, hv, e⟩ := seed_byte (IntKind.u64.wrap (IntKind.u64.wrap (s * 6364136223846793005)) + 1442695040888963407)
    go_ret
    exact ⟨v, ret_int e, hv, (HS.out _ _ _).1, (HS.out _ _ _).2⟩

end Go.Proofs.YtlinincmlilbjaaDoor
