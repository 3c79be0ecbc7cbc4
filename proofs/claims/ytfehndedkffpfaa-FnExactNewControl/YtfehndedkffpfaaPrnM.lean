/-
  Lists of Partition that a call owns: where their own lists lie, that all of it lies apart, and the contracts of markPartitionS and heldPartitionS. Made by mkbags.py.
-/
import Derived.Test.YtfehndedkffpfaaPrn
namespace Go.Proofs.Ytfehndedkffpfaa
open Go.RowKit

/-- The j-th, by a row's cells: its own lists at these places, in room from B on. -/
def PnP (w : World) (B : Nat) (f : Nat → Value) (r0 r1 : Nat → Option Addr) (k0 k1 : Nat → Nat) (j : Nat) (c : Pn) : Prop :=
  f (j * 5) = .slice (r0 j) c.homes.length (k0 j) ∧ f (j * 5 + 1) = .slice (r1 j) c.steps.length (k1 j) ∧ f (j * 5 + 2) = .int .i64 c.leader ∧ f (j * 5 + 3) = .int .i64 c.epoch ∧ f (j * 5 + 4) = .int .i64 c.stamp ∧ Ints w (r0 j) c.homes ∧ RowI w B (r0 j) c.homes.length ∧ Ints w (r1 j) c.steps ∧ RowI w B (r1 j) c.steps.length

/-- The list lies in a row that may be written. -/
def PnO (w : World) (B : Nat) (a : Option Addr) (l : List Pn) (r0 r1 : Nat → Option Addr) (k0 k1 : Nat → Nat) : Prop :=
  l = [] ∨ ∃ R m f, a = some ⟨R, 0, none⟩ ∧ B ≤ R ∧ l.length * 5 ≤ m ∧ w.rowIs R 76 m f ∧ ∀ j c, l[j]? = some c → PnP w B f r0 r1 k0 k1 j c

/-- Whose block it is: the row's own, or one of the lists'. -/
def PnIn (a : Option Addr) (l : List Pn) (r0 r1 : Nat → Option Addr) (b : Nat) : Prop :=
  InI a l.length b ∨ ∃ j c, l[j]? = some c ∧ (InI (r0 j) c.homes.length b ∨ InI (r1 j) c.steps.length b)

/-- All of it lies apart. -/
structure PnD (a : Option Addr) (l : List Pn) (r0 r1 : Nat → Option Addr) : Prop where
  row0 : ∀ j c b, l[j]? = some c → InI (r0 j) c.homes.length b → ¬ InI a l.length b
  row1 : ∀ j c b, l[j]? = some c → InI (r1 j) c.steps.length b → ¬ InI a l.length b
  own0_0 : ∀ j c j' c' b, l[j]? = some c → l[j']? = some c' → j ≠ j' → InI (r0 j) c.homes.length b → ¬ InI (r0 j') c'.homes.length b
  own0_1 : ∀ j c j' c' b, l[j]? = some c → l[j']? = some c' → InI (r0 j) c.homes.length b → ¬ InI (r1 j') c'.steps.length b
  own1_1 : ∀ j c j' c' b, l[j]? = some c → l[j']? = some c' → j ≠ j' → InI (r1 j) c.steps.length b → ¬ InI (r1 j') c'.steps.length b

theorem PnP.of_block {w w' : World} {B : Nat} {f : Nat → Value} {r0 r1 : Nat → Option Addr} {k0 k1 : Nat → Nat} {j : Nat} {c : Pn} (h : PnP w B f r0 r1 k0 k1 j c) (h0 : ∀ b, InI (r0 j) c.homes.length b → w'.heap[b]? = w.heap[b]?) (h1 : ∀ b, InI (r1 j) c.steps.length b → w'.heap[b]? = w.heap[b]?) : PnP w' B f r0 r1 k0 k1 j c := by
  obtain ⟨c0, c1, c2, c3, c4, q0, w0, q1, w1⟩ := h
  exact ⟨c0, c1, c2, c3, c4, q0.of_block h0, w0.of_block h0, q1.of_block h1, w1.of_block h1⟩

theorem PnP.lt {w : World} {B : Nat} {f : Nat → Value} {r0 r1 : Nat → Option Addr} {k0 k1 : Nat → Nat} {j : Nat} {c : Pn} (h : PnP w B f r0 r1 k0 k1 j c) {b : Nat} (hb : InI (r0 j) c.homes.length b ∨ InI (r1 j) c.steps.length b) : B ≤ b ∧ b < w.heap.size := by
  obtain ⟨c0, c1, c2, c3, c4, q0, w0, q1, w1⟩ := h
  rcases hb with hb | hb
  · exact w0.lt hb
  · exact w1.lt hb

theorem PnO.of_block {w w' : World} {B : Nat} {a : Option Addr} {l : List Pn} {r0 r1 : Nat → Option Addr} {k0 k1 : Nat → Nat} (h : PnO w B a l r0 r1 k0 k1) (hs : ∀ b, PnIn a l r0 r1 b → w'.heap[b]? = w.heap[b]?) : PnO w' B a l r0 r1 k0 k1 := by
  rcases h with h | ⟨R, m, f, rfl, hR, hm, hrow, hp⟩
  · exact .inl h
  · by_cases h0 : l = []
    · exact .inl h0
    · have hpos : 0 < l.length := Nat.pos_of_ne_zero fun e => h0 (List.eq_nil_of_length_eq_zero e)
      exact .inr ⟨R, m, f, rfl, hR, hm, hrow.of_block (hs R (.inl ⟨hpos, 0, none, rfl⟩)), fun j c hj => (hp j c hj).of_block (fun b hb => hs b (.inr ⟨j, c, hj, .inl hb⟩)) (fun b hb => hs b (.inr ⟨j, c, hj, .inr (hb)⟩))⟩

theorem PnO.lt {w : World} {B : Nat} {a : Option Addr} {l : List Pn} {r0 r1 : Nat → Option Addr} {k0 k1 : Nat → Nat} (h : PnO w B a l r0 r1 k0 k1) {b : Nat} (hb : PnIn a l r0 r1 b) : B ≤ b ∧ b < w.heap.size := by
  rcases h with rfl | ⟨R, m, f, rfl, hR, hm, hrow, hp⟩
  · rcases hb with ⟨h, -⟩ | ⟨j, c, hj, -⟩
    · simp at h
    · simp at hj
  · rcases hb with ⟨-, o, s, e⟩ | ⟨j, c, hj, hb⟩
    · simp only [Option.some.injEq, Addr.mk.injEq] at e
      have := hrow.lt
      omega
    · exact (hp j c hj).lt hb

theorem PnO.below {w w' : World} {B : Nat} {a : Option Addr} {l : List Pn} {r0 r1 : Nat → Option Addr} {k0 k1 : Nat → Nat} (h : PnO w B a l r0 r1 k0 k1) (hb : Below w.heap.size w w') : PnO w' B a l r0 r1 k0 k1 :=
  h.of_block fun b hi => hb.block b (h.lt hi).2

theorem PnO.reads {w : World} {B : Nat} {a : Option Addr} {l : List Pn} {r0 r1 : Nat → Option Addr} {k0 k1 : Nat → Nat} (h : PnO w B a l r0 r1 k0 k1) (hl : ∀ c, c ∈ l → c.homes.length ≤ maxLen ∧ c.steps.length ≤ maxLen) : Pns w a l := fun j c hj => by
  have hlt := (List.getElem?_eq_some_iff.1 hj).1
  rcases h with rfl | ⟨R, m, f, rfl, hR, hm, hrow, hp⟩
  · simp at hj
  · obtain ⟨c0, c1, c2, c3, c4, q0, -, q1, -⟩ := hp j c hj
    have hmx := hl c (List.mem_of_getElem? hj)
    refine ⟨R, 0, rfl, r0 j, k0 j, r1 j, k1 j, ?_, ?_, ?_, ?_, ?_, q0, hmx.1, q1, hmx.2⟩
    · rw [Nat.zero_add, hrow.cell (by omega), c0]
    · rw [Nat.zero_add, hrow.cell (by omega), c1]
    · rw [Nat.zero_add, hrow.cell (by omega), c2]
    · rw [Nat.zero_add, hrow.cell (by omega), c3]
    · rw [Nat.zero_add, hrow.cell (by omega), c4]

def PnT (c : Pn) : Nat := 3 + c.homes.length + c.steps.length
/-- Marked from k on. -/
def PnM (k : Nat) (c : Pn) : Pn := ⟨markZ (k) c.homes.length, markZ (k + c.homes.length) c.steps.length, ((k + c.homes.length + c.steps.length : Nat) : Int), ((k + 1 + c.homes.length + c.steps.length : Nat) : Int), ((k + 2 + c.homes.length + c.steps.length : Nat) : Int)⟩
def PnK (l : List Pn) (k : Nat) : Nat → Nat
  | 0 => k
  | j + 1 => PnK l k j + match l[j]? with
    | some c => PnT c
    | none => 0
theorem PnK_succ {l : List Pn} {k j : Nat} {c : Pn} (h : l[j]? = some c) : PnK l k (j + 1) = PnK l k j + PnT c := by rw [PnK, h]
theorem PnK_mono (l : List Pn) (k : Nat) : ∀ i j, i ≤ j → PnK l k i ≤ PnK l k j
  | i, 0, h => by rw [Nat.le_zero.1 h]; exact Nat.le_refl _
  | i, j + 1, h => by
    by_cases e : i = j + 1
    · rw [e]; exact Nat.le_refl _
    · have := PnK_mono l k i j (by omega)
      rw [PnK]; omega
theorem PnM_homes (k : Nat) (c : Pn) : (PnM k c).homes.length = c.homes.length := by simp [PnM, markZ_length]
theorem PnM_steps (k : Nat) (c : Pn) : (PnM k c).steps.length = c.steps.length := by simp [PnM, markZ_length]

/-- The first i are marked. -/
def PnMix (l : List Pn) (k i j : Nat) (c : Pn) : Pn := if j < i then PnM (PnK l k j) c else c
theorem PnMix_homes (l : List Pn) (k i j : Nat) (c : Pn) : (PnMix l k i j c).homes.length = c.homes.length := by unfold PnMix; split <;> simp [PnM_homes]
theorem PnMix_steps (l : List Pn) (k i j : Nat) (c : Pn) : (PnMix l k i j c).steps.length = c.steps.length := by unfold PnMix; split <;> simp [PnM_steps]

/-- All of them marked. -/
def PnMs (l : List Pn) (k : Nat) : List Pn := l.mapIdx fun j c => PnM (PnK l k j) c
theorem PnMs_length (l : List Pn) (k : Nat) : (PnMs l k).length = l.length := by simp [PnMs]
theorem PnMs_get {l : List Pn} {k j : Nat} {c : Pn} (h : (PnMs l k)[j]? = some c) : ∃ d, l[j]? = some d ∧ c = PnM (PnK l k j) d := by
  simp only [PnMs, List.getElem?_mapIdx, Option.map_eq_some_iff] at h
  obtain ⟨d, h1, h2⟩ := h
  exact ⟨d, h1, h2.symm⟩
theorem PnMs_at {l : List Pn} {k j : Nat} {c : Pn} (h : l[j]? = some c) : (PnMs l k)[j]? = some (PnM (PnK l k j) c) := by
  simp only [PnMs, List.getElem?_mapIdx, h, Option.map_some]

set_option maxRecDepth 100000 in
set_option maxHeartbeats 8000000 in
theorem markPartitionS_any (a : Option Addr) (cp B k : Nat) (l : List Pn) (r0 r1 : Nat → Option Addr) (k0 k1 : Nat → Nat) (w : World) (h : PnO w B a l r0 r1 k0 k1) (D : PnD a l r0 r1) (hl : l.length ≤ 1000000) (h2 : PnK l k l.length ≤ 1000000000) :
    Calls Try.prog 42 #[.slice a l.length cp, .int .i64 (k : Int)] w fun r w' => r = .returned (.int .i64 ((PnK l k l.length : Nat) : Int)) ∧ PnO w' B a (PnMs l k) r0 r1 k0 k1 ∧ Below B w w' ∧ ∀ b, b < w.heap.size → ¬ PnIn a l r0 r1 b → w'.heap[b]? = w.heap[b]? := by
  by_cases h0 : l = []
  · subst h0
    go_enter Try.func42, Try.ntmps42
    go_wp2
    go_loopw [1, 5] (fun x y wr => x = .int .i64 (k : Int) ∧ y = .int .i64 0 ∧ w = wr) (fun _ _ _ => 0)
    case atStart => exact ⟨rfl, rfl, rfl⟩
    case round =>
      obtain ⟨rfl, rfl, rfl⟩ := hrel
      go_wp2
      go_ret
      exact ⟨rfl, .inl rfl, Below.refl _ _, fun _ _ _ => rfl⟩
  obtain ⟨R, m, f, rfl, hR, hm, hrow, hp⟩ := h.resolve_left h0
  have hpos : 0 < l.length := Nat.pos_of_ne_zero fun e => h0 (List.eq_nil_of_length_eq_zero e)
  have HIN : ∀ b, InI (some ⟨R, 0, none⟩) l.length b ↔ b = R := fun b => ⟨fun ⟨_, o, s, e⟩ => by simp at e; omega, fun e => ⟨hpos, 0, none, by simp [e]⟩⟩
  have hRz := hrow.lt
  go_enter Try.func42, Try.ntmps42
  go_wp2
  go_loopw [1, 5] (fun x y wr => ∃ i : Nat, i ≤ l.length ∧ x = .int .i64 ((PnK l k i : Nat) : Int) ∧ y = .int .i64 (i : Int) ∧ (∃ f', wr.rowIs R 76 m f' ∧ Hid (∀ j c, l[j]? = some c → PnP wr B f' r0 r1 k0 k1 j (PnMix l k i j c))) ∧ Below B w wr ∧ Hid (∀ b, b < w.heap.size → ¬ PnIn (some ⟨R, 0, none⟩) l r0 r1 b → wr.heap[b]? = w.heap[b]?)) (fun _ y _ => l.length - (intOf y).toNat)
  case atStart => exact ⟨0, Nat.zero_le _, rfl, rfl, ⟨f, hrow, fun j c hj => by simpa [PnMix] using hp j c hj⟩, Below.refl _ _, fun _ _ _ => rfl⟩
  case round =>
    clear hrow hp h
    obtain ⟨i, hi, rfl, rfl, ⟨f', hrow, HP⟩, hB, HO⟩ := hrel
    by_cases hlt : i < l.length
    · obtain ⟨c, hc⟩ := getPn hlt
      have HC : Hid (l[i]? = some c) := hc
      have hK : PnK l k (i + 1) = PnK l k i + PnT c := PnK_succ hc
      have hKm := PnK_mono l k (i + 1) l.length (by omega)
      have hpi := HP.out i c hc
      rw [show PnMix l k i i c = c by simp [PnMix]] at hpi
      obtain ⟨c0, c1, c2, c3, c4, q0, w0, q1, w1⟩ := hpi
      obtain ⟨K, hKe⟩ : ∃ K, PnK l k i = K := ⟨_, rfl⟩
      have HK : Hid (PnK l k i = K) := hKe
      rw [hKe] at hK ⊢
      have hKb : K + PnT c ≤ 1000000000 := by omega
      have HK1 : Hid (PnK l k (i + 1) = K + PnT c) := hK
      unfold PnT at hKb
      clear hKe hK hc hKm
      have hBz : w.heap.size ≤ wr.heap.size := hB.size
      have HPu : Hid (∀ j c, l[j]? = some c → j ≠ i → PnP wr B f' r0 r1 k0 k1 j (PnMix l k i j c)) := fun j c hj _ => HP.out j c hj
      clear HP
      have n0 : ∀ b, InI (r0 i) c.homes.length b → b ≠ R := fun b hb e => D.row0 i c b HC.out hb ((HIN b).2 e)
      have n1 : ∀ b, InI (r1 i) c.steps.length b → b ≠ R := fun b hb e => D.row1 i c b HC.out hb ((HIN b).2 e)
      clear q0
      clear q1
      have d0 := hrow.cell (i := i * 5) (by omega)
      rw [c0] at d0
      have d1 := hrow.cell (i := i * 5 + 1) (by omega)
      rw [c1] at d1
      have d2 := hrow.cell (i := i * 5 + 2) (by omega)
      rw [c2] at d2
      have d3 := hrow.cell (i := i * 5 + 3) (by omega)
      rw [c3] at d3
      have d4 := hrow.cell (i := i * 5 + 4) (by omega)
      rw [c4] at d4
      have hf := hrow.frozen
      have HS0 : Hid (∀ (_ : Unit), (∃ g, wr.rowIs R 76 m g ∧ (g (i * 5) = .slice (r0 i) c.homes.length (k0 i) ∧ g (i * 5 + 1) = .slice (r1 i) c.steps.length (k1 i) ∧ g (i * 5 + 2) = .int .i64 c.leader ∧ g (i * 5 + 3) = .int .i64 c.epoch ∧ g (i * 5 + 4) = .int .i64 c.stamp) ∧ (∀ j c, l[j]? = some c → j ≠ i → PnP wr B g r0 r1 k0 k1 j (PnMix l k i j c))) ∧ Below B w wr ∧ (∀ b, b ≠ R → wr.heap[b]? = wr.heap[b]?)) := fun _ => by
        have hus : ∀ b, b ≠ R → wr.heap[b]? = wr.heap[b]? := fun b hb => by rfl
        refine ⟨⟨_, hrow, ⟨by exact c0, by exact c1, by exact c2, by exact c3, by exact c4⟩, fun j c' hj hne => ?_⟩, hB, hus⟩
        obtain ⟨a0, a1, a2, a3, a4, x0, z0, x1, z1⟩ := HPu.out j c' hj hne
        exact ⟨by exact a0, by exact a1, by exact a2, by exact a3, by exact a4, x0.of_block fun b hb => hus b fun e => D.row0 j c' b hj (by rw [PnMix_homes] at hb; exact hb) ((HIN b).2 e), z0.of_block fun b hb => hus b fun e => D.row0 j c' b hj (by rw [PnMix_homes] at hb; exact hb) ((HIN b).2 e), x1.of_block fun b hb => hus b fun e => D.row1 j c' b hj (by rw [PnMix_steps] at hb; exact hb) ((HIN b).2 e), z1.of_block fun b hb => hus b fun e => D.row1 j c' b hj (by rw [PnMix_steps] at hb; exact hb) ((HIN b).2 e)⟩
      clear hrow hB HPu c0 c1 c2 c3 c4
      go_wp2_with fail
      have EK : Hid ((K : Int) = ((K : Nat) : Int)) := by show _ = _; omega
      first | rw [EK.out] | skip
      clear EK
      refine (markIntS_any _ _ c.homes.length B (K : Nat) _ w0 (by omega)).mono ?_
      rintro r v0 ⟨rfl, H0, S0, hB2, hO⟩
      have hB : Below B w v0 := (HS0.out ()).2.1.trans hB2
      have hus : ∀ b, b < wr.heap.size → b ≠ R → ¬ InI (r0 i) c.homes.length b → v0.heap[b]? = wr.heap[b]? := fun b hb h1 h3 => hO b hb h3
      have hz0 : wr.heap.size ≤ v0.heap.size := by have := hB2.size; simpa using this
      have HZ : ∃ g, v0.rowIs R 76 m g ∧ (g (i * 5) = .slice (r0 i) c.homes.length (k0 i) ∧ g (i * 5 + 1) = .slice (r1 i) c.steps.length (k1 i) ∧ g (i * 5 + 2) = .int .i64 c.leader ∧ g (i * 5 + 3) = .int .i64 c.epoch ∧ g (i * 5 + 4) = .int .i64 c.stamp) ∧ (∀ j c, l[j]? = some c → j ≠ i → PnP v0 B g r0 r1 k0 k1 j (PnMix l k i j c)) := by
        obtain ⟨g, h1, h3, h4⟩ := (HS0.out ()).1
        refine ⟨g, h1.of_block (hO R h1.lt (fun hb => n0 R hb rfl)), h3, fun j c' hj hne => ?_⟩
        have p0 := h4 j c' hj hne
        exact p0.of_block (w' := v0) (fun b hb => hO b (p0.lt (.inl hb)).2 (fun h => D.own0_0 i c j c' b HC.out hj (fun e => hne e.symm) h (by rw [PnMix_homes] at hb; exact hb))) (fun b hb => hO b (p0.lt (.inr (hb))).2 (fun h => D.own0_1 i c j c' b HC.out hj h (by rw [PnMix_steps] at hb; exact hb)))
      obtain ⟨g0, hrow, ⟨c0, c1, c2, c3, c4⟩, HPu'⟩ := HZ
      have HPu : Hid (∀ j c, l[j]? = some c → j ≠ i → PnP v0 B g0 r0 r1 k0 k1 j (PnMix l k i j c)) := HPu'
      replace w1 := w1.of_block fun b hb => hus b (w1.lt hb).2 (n1 b hb) (fun h => D.own0_1 i c i c b HC.out HC.out h hb)
      have HO2 : Hid (∀ b, b < w.heap.size → ¬ PnIn (some ⟨R, 0, none⟩) l r0 r1 b → v0.heap[b]? = w.heap[b]?) := fun b hb hn => (hus b (by have := hBz; omega) (fun e => hn (.inl ((HIN b).2 e))) (fun h => hn (.inr ⟨i, c, HC.out, .inl h⟩))).trans (HO.out b hb hn)
      replace HO := HO2
      clear hB2 hO HS0 HPu' HO2 hus hf d0 d1 d2 d3 d4 w0
      have hBz : w.heap.size ≤ v0.heap.size := hB.size
      obtain ⟨K0, hK0⟩ : ∃ K', (K : Nat) + c.homes.length = K' := ⟨_, rfl⟩
      rw [hK0]
      have HK0' : Hid ((K : Nat) + c.homes.length = K0) := hK0
      have hk0 : K0 ≤ (K : Nat) + c.homes.length := by omega
      have hg0 : (K : Nat) + c.homes.length ≤ K0 := by omega
      clear hK0
      have d0 := hrow.cell (i := i * 5) (by omega)
      rw [c0] at d0
      have d1 := hrow.cell (i := i * 5 + 1) (by omega)
      rw [c1] at d1
      have d2 := hrow.cell (i := i * 5 + 2) (by omega)
      rw [c2] at d2
      have d3 := hrow.cell (i := i * 5 + 3) (by omega)
      rw [c3] at d3
      have d4 := hrow.cell (i := i * 5 + 4) (by omega)
      rw [c4] at d4
      have hf := hrow.frozen
      have HS1 : Hid (∀ (_ : Unit), (∃ g, v0.rowIs R 76 m g ∧ (g (i * 5) = .slice (r0 i) c.homes.length (k0 i) ∧ g (i * 5 + 1) = .slice (r1 i) c.steps.length (k1 i) ∧ g (i * 5 + 2) = .int .i64 c.leader ∧ g (i * 5 + 3) = .int .i64 c.epoch ∧ g (i * 5 + 4) = .int .i64 c.stamp) ∧ (∀ j c, l[j]? = some c → j ≠ i → PnP v0 B g r0 r1 k0 k1 j (PnMix l k i j c))) ∧ Below B w v0 ∧ (∀ b, b ≠ R → v0.heap[b]? = v0.heap[b]?)) := fun _ => by
        have hus : ∀ b, b ≠ R → v0.heap[b]? = v0.heap[b]? := fun b hb => by rfl
        refine ⟨⟨_, hrow, ⟨by exact c0, by exact c1, by exact c2, by exact c3, by exact c4⟩, fun j c' hj hne => ?_⟩, hB, hus⟩
        obtain ⟨a0, a1, a2, a3, a4, x0, z0, x1, z1⟩ := HPu.out j c' hj hne
        exact ⟨by exact a0, by exact a1, by exact a2, by exact a3, by exact a4, x0.of_block fun b hb => hus b fun e => D.row0 j c' b hj (by rw [PnMix_homes] at hb; exact hb) ((HIN b).2 e), z0.of_block fun b hb => hus b fun e => D.row0 j c' b hj (by rw [PnMix_homes] at hb; exact hb) ((HIN b).2 e), x1.of_block fun b hb => hus b fun e => D.row1 j c' b hj (by rw [PnMix_steps] at hb; exact hb) ((HIN b).2 e), z1.of_block fun b hb => hus b fun e => D.row1 j c' b hj (by rw [PnMix_steps] at hb; exact hb) ((HIN b).2 e)⟩
      clear hrow hB HPu c0 c1 c2 c3 c4
      go_wp2_with fail
      have EK : Hid ((K0 : Int) = ((K0 : Nat) : Int)) := by show _ = _; omega
      first | rw [EK.out] | skip
      clear EK
      refine (markIntS_any _ _ c.steps.length B (K0 : Nat) _ w1 (by omega)).mono ?_
      rintro r v1 ⟨rfl, H1, S1, hB2, hO⟩
      have hB : Below B w v1 := (HS1.out ()).2.1.trans hB2
      have hus : ∀ b, b < v0.heap.size → b ≠ R → ¬ InI (r1 i) c.steps.length b → v1.heap[b]? = v0.heap[b]? := fun b hb h1 h3 => hO b hb h3
      have hz1 : v0.heap.size ≤ v1.heap.size := by have := hB2.size; simpa using this
      have HZ : ∃ g, v1.rowIs R 76 m g ∧ (g (i * 5) = .slice (r0 i) c.homes.length (k0 i) ∧ g (i * 5 + 1) = .slice (r1 i) c.steps.length (k1 i) ∧ g (i * 5 + 2) = .int .i64 c.leader ∧ g (i * 5 + 3) = .int .i64 c.epoch ∧ g (i * 5 + 4) = .int .i64 c.stamp) ∧ (∀ j c, l[j]? = some c → j ≠ i → PnP v1 B g r0 r1 k0 k1 j (PnMix l k i j c)) := by
        obtain ⟨g, h1, h3, h4⟩ := (HS1.out ()).1
        refine ⟨g, h1.of_block (hO R h1.lt (fun hb => n1 R hb rfl)), h3, fun j c' hj hne => ?_⟩
        have p0 := h4 j c' hj hne
        exact p0.of_block (w' := v1) (fun b hb => hO b (p0.lt (.inl hb)).2 (fun h => D.own0_1 j c' i c b hj HC.out (by rw [PnMix_homes] at hb; exact hb) h)) (fun b hb => hO b (p0.lt (.inr (hb))).2 (fun h => D.own1_1 i c j c' b HC.out hj (fun e => hne e.symm) h (by rw [PnMix_steps] at hb; exact hb)))
      obtain ⟨g1, hrow, ⟨c0, c1, c2, c3, c4⟩, HPu'⟩ := HZ
      have HPu : Hid (∀ j c, l[j]? = some c → j ≠ i → PnP v1 B g1 r0 r1 k0 k1 j (PnMix l k i j c)) := HPu'
      replace H0 := H0.of_block fun b hb => hus b (S0.lt (by rw [markZ_length] at hb; exact hb)).2 (n0 b (by rw [markZ_length] at hb; exact hb)) (fun h => D.own0_1 i c i c b HC.out HC.out (by rw [markZ_length] at hb; exact hb) h)
      replace S0 := S0.of_block fun b hb => hus b (S0.lt hb).2 (n0 b hb) (fun h => D.own0_1 i c i c b HC.out HC.out hb h)
      have HO2 : Hid (∀ b, b < w.heap.size → ¬ PnIn (some ⟨R, 0, none⟩) l r0 r1 b → v1.heap[b]? = w.heap[b]?) := fun b hb hn => (hus b (by have := hBz; omega) (fun e => hn (.inl ((HIN b).2 e))) (fun h => hn (.inr ⟨i, c, HC.out, .inr (h)⟩))).trans (HO.out b hb hn)
      replace HO := HO2
      clear hB2 hO HS1 HPu' HO2 hus hf d0 d1 d2 d3 d4 w1
      have hBz : w.heap.size ≤ v1.heap.size := hB.size
      obtain ⟨K1, hK1⟩ : ∃ K', (K0 : Nat) + c.steps.length = K' := ⟨_, rfl⟩
      rw [hK1]
      have HK1' : Hid ((K0 : Nat) + c.steps.length = K1) := hK1
      have hk1 : K1 ≤ (K0 : Nat) + c.steps.length := by omega
      have hg1 : (K0 : Nat) + c.steps.length ≤ K1 := by omega
      clear hK1
      have d0 := hrow.cell (i := i * 5) (by omega)
      rw [c0] at d0
      have d1 := hrow.cell (i := i * 5 + 1) (by omega)
      rw [c1] at d1
      have d2 := hrow.cell (i := i * 5 + 2) (by omega)
      rw [c2] at d2
      have d3 := hrow.cell (i := i * 5 + 3) (by omega)
      rw [c3] at d3
      have d4 := hrow.cell (i := i * 5 + 4) (by omega)
      rw [c4] at d4
      have hf := hrow.frozen
      have HS2 : Hid (∀ y2 y3 y4, (∃ g, (((v1.setCell ⟨R, i * 5 + 2, none⟩ y2).setCell ⟨R, i * 5 + 3, none⟩ y3).setCell ⟨R, i * 5 + 4, none⟩ y4).rowIs R 76 m g ∧ (g (i * 5) = .slice (r0 i) c.homes.length (k0 i) ∧ g (i * 5 + 1) = .slice (r1 i) c.steps.length (k1 i) ∧ g (i * 5 + 2) = y2 ∧ g (i * 5 + 3) = y3 ∧ g (i * 5 + 4) = y4) ∧ (∀ j c, l[j]? = some c → j ≠ i → PnP (((v1.setCell ⟨R, i * 5 + 2, none⟩ y2).setCell ⟨R, i * 5 + 3, none⟩ y3).setCell ⟨R, i * 5 + 4, none⟩ y4) B g r0 r1 k0 k1 j (PnMix l k i j c))) ∧ Below B w (((v1.setCell ⟨R, i * 5 + 2, none⟩ y2).setCell ⟨R, i * 5 + 3, none⟩ y3).setCell ⟨R, i * 5 + 4, none⟩ y4) ∧ (∀ b, b ≠ R → (((v1.setCell ⟨R, i * 5 + 2, none⟩ y2).setCell ⟨R, i * 5 + 3, none⟩ y3).setCell ⟨R, i * 5 + 4, none⟩ y4).heap[b]? = v1.heap[b]?)) := fun y2 y3 y4 => by
        have hus : ∀ b, b ≠ R → (((v1.setCell ⟨R, i * 5 + 2, none⟩ y2).setCell ⟨R, i * 5 + 3, none⟩ y3).setCell ⟨R, i * 5 + 4, none⟩ y4).heap[b]? = v1.heap[b]? := fun b hb => by rw [Below.heap_setCell _ ⟨R, _, none⟩ _ b (by simpa using hb), Below.heap_setCell _ ⟨R, _, none⟩ _ b (by simpa using hb), Below.heap_setCell _ ⟨R, _, none⟩ _ b (by simpa using hb)]
        refine ⟨⟨_, (((hrow.set _ _).set _ _).set _ _), ⟨by (try dsimp only); rw [if_neg (by omega), if_neg (by omega), if_neg (by omega)]; exact c0, by (try dsimp only); rw [if_neg (by omega), if_neg (by omega), if_neg (by omega)]; exact c1, by simp, by simp, by simp⟩, fun j c' hj hne => ?_⟩, (((hB.setCell hR _).setCell hR _).setCell hR _), hus⟩
        obtain ⟨a0, a1, a2, a3, a4, x0, z0, x1, z1⟩ := HPu.out j c' hj hne
        exact ⟨by (try dsimp only); rw [if_neg (by omega), if_neg (by omega), if_neg (by omega)]; exact a0, by (try dsimp only); rw [if_neg (by omega), if_neg (by omega), if_neg (by omega)]; exact a1, by (try dsimp only); rw [if_neg (by omega), if_neg (by omega), if_neg (by omega)]; exact a2, by (try dsimp only); rw [if_neg (by omega), if_neg (by omega), if_neg (by omega)]; exact a3, by (try dsimp only); rw [if_neg (by omega), if_neg (by omega), if_neg (by omega)]; exact a4, x0.of_block fun b hb => hus b fun e => D.row0 j c' b hj (by rw [PnMix_homes] at hb; exact hb) ((HIN b).2 e), z0.of_block fun b hb => hus b fun e => D.row0 j c' b hj (by rw [PnMix_homes] at hb; exact hb) ((HIN b).2 e), x1.of_block fun b hb => hus b fun e => D.row1 j c' b hj (by rw [PnMix_steps] at hb; exact hb) ((HIN b).2 e), z1.of_block fun b hb => hus b fun e => D.row1 j c' b hj (by rw [PnMix_steps] at hb; exact hb) ((HIN b).2 e)⟩
      clear hrow hB HPu c0 c1 c2 c3 c4
      have HFIN : Hid (∀ y2 y3 y4, y2 = .int .i64 ((K1 : Int)) → y3 = .int .i64 ((K1 : Int) + 1) → y4 = .int .i64 ((K1 : Int) + 1 + 1) → (∃ g, (((v1.setCell ⟨R, i * 5 + 2, none⟩ y2).setCell ⟨R, i * 5 + 3, none⟩ y3).setCell ⟨R, i * 5 + 4, none⟩ y4).rowIs R 76 m g ∧ Hid (∀ j c, l[j]? = some c → PnP (((v1.setCell ⟨R, i * 5 + 2, none⟩ y2).setCell ⟨R, i * 5 + 3, none⟩ y3).setCell ⟨R, i * 5 + 4, none⟩ y4) B g r0 r1 k0 k1 j (PnMix l k (i + 1) j c))) ∧ Below B w (((v1.setCell ⟨R, i * 5 + 2, none⟩ y2).setCell ⟨R, i * 5 + 3, none⟩ y3).setCell ⟨R, i * 5 + 4, none⟩ y4) ∧ Hid (∀ b, b < w.heap.size → ¬ PnIn (some ⟨R, 0, none⟩) l r0 r1 b → (((v1.setCell ⟨R, i * 5 + 2, none⟩ y2).setCell ⟨R, i * 5 + 3, none⟩ y3).setCell ⟨R, i * 5 + 4, none⟩ y4).heap[b]? = w.heap[b]?)) := fun y2 y3 y4 ey2 ey3 ey4 => by
        obtain ⟨⟨g, h1, ⟨e0, e1, e2, e3, e4⟩, h4⟩, h5, hus⟩ := HS2.out y2 y3 y4
        refine ⟨⟨g, h1, fun j c' hj => ?_⟩, h5, fun b hb hn => (hus b (fun e => hn (.inl ((HIN b).2 e)))).trans (HO.out b hb hn)⟩
        by_cases ej : j = i
        · subst ej
          have ec : c' = c := by have := HC.out; rw [hj] at this; exact Option.some.inj this
          subst ec
          have em : PnMix l k (j + 1) j c' = PnM K c' := by simp [PnMix, HK.out]
          rw [em]
          refine ⟨?_, ?_, ?_, ?_, ?_, ?_, ?_, ?_, ?_⟩
          · rw [e0, PnM_homes]
          · rw [e1, PnM_steps]
          · rw [e2, ey2]; first | rfl | (show Value.int .i64 _ = Value.int .i64 _; congr 1; show _ = (((_ : Nat)) : Int); have := HK0'.out; have := HK1'.out; omega)
          · rw [e3, ey3]; first | rfl | (show Value.int .i64 _ = Value.int .i64 _; congr 1; show _ = (((_ : Nat)) : Int); have := HK0'.out; have := HK1'.out; omega)
          · rw [e4, ey4]; first | rfl | (show Value.int .i64 _ = Value.int .i64 _; congr 1; show _ = (((_ : Nat)) : Int); have := HK0'.out; have := HK1'.out; omega)
          · have e9 : K = (K : Nat) := by have := HK0'.out; have := HK1'.out; omega
            show Ints _ _ (markZ (K) c'.homes.length)
            rw [e9]
            exact H0.of_block fun b hb => hus b (n0 b (by rw [markZ_length] at hb; exact hb))
          · rw [PnM_homes]; exact S0.of_block fun b hb => hus b (n0 b hb)
          · have e9 : K + c'.homes.length = (K0 : Nat) := by have := HK0'.out; have := HK1'.out; omega
            show Ints _ _ (markZ (K + c'.homes.length) c'.steps.length)
            rw [e9]
            exact H1.of_block fun b hb => hus b (n1 b (by rw [markZ_length] at hb; exact hb))
          · rw [PnM_steps]; exact S1.of_block fun b hb => hus b (n1 b hb)
        · have em : PnMix l k (i + 1) j c' = PnMix l k i j c' := by
            unfold PnMix
            by_cases hji : j < i
            · rw [if_pos hji, if_pos (by omega)]
            · rw [if_neg hji, if_neg (by omega)]
          rw [em]
          exact h4 j c' hj ej
      have HKE : Hid (PnK l k (i + 1) = K1 + 3) := by show _ = _; rw [HK1.out]; unfold PnT; have := HK0'.out; have := HK1'.out; omega
      clear HS2 HO H0 S0 n0 H1 S1 n1
      go_wp2
      go_roundw
      case rel =>
        obtain ⟨s1, s2, s3⟩ := HFIN.out _ _ _ (by first | rfl | (congr 1; done)) (by first | rfl | (congr 1; done)) (by first | rfl | (congr 1; done))
        exact ⟨i + 1, by omega, by first | (rw [HKE.out]; done) | (rw [HKE.out]; go_num), by go_num, s1, s2, s3⟩
      case measure => simp [intOf]; omega
    · obtain rfl : i = l.length := by omega
      go_wp2
      go_ret
      refine ⟨rfl, .inr ⟨R, m, f', rfl, hR, by rw [PnMs_length]; exact hm, hrow, fun j c hj => ?_⟩, hB, HO.out⟩
      obtain ⟨d, hd, rfl⟩ := PnMs_get hj
      have hjl := (List.getElem?_eq_some_iff.1 hd).1
      have := HP.out j d hd
      rwa [show PnMix l k l.length j d = PnM (PnK l k j) d by simp [PnMix, hjl]] at this

set_option maxRecDepth 100000 in
set_option maxHeartbeats 8000000 in
theorem heldPartitionS_any (a : Option Addr) (cp B k : Nat) (l : List Pn) (r0 r1 : Nat → Option Addr) (k0 k1 : Nat → Nat) (w : World) (h : PnO w B a (PnMs l k) r0 r1 k0 k1) (h2 : PnK l k l.length ≤ 1000000000) (hl : l.length ≤ 1000000) :
    Calls Try.prog 44 #[.slice a l.length cp, .int .i64 (k : Int)] w fun r w' => r = .returned (.int .i64 ((PnK l k l.length : Nat) : Int)) ∧ w' = w := by
  go_enter Try.func44, Try.ntmps44
  go_wp2
  go_loop [1, 5] (fun x y => ∃ i : Nat, i ≤ l.length ∧ x = .int .i64 ((PnK l k i : Nat) : Int) ∧ y = .int .i64 (i : Int)) (fun _ y => l.length - (intOf y).toNat)
  case atStart => exact ⟨0, Nat.zero_le _, rfl, rfl⟩
  case round =>
    obtain ⟨i, hi, rfl, rfl⟩ := hrel
    by_cases hlt : i < l.length
    · obtain ⟨c, hc⟩ := getPn hlt
      have hK : PnK l k (i + 1) = PnK l k i + PnT c := PnK_succ hc
      have hKm := PnK_mono l k (i + 1) l.length (by omega)
      rcases h with h | ⟨R, m, f, rfl, hR, hm, hrow, hp⟩
      · have := PnMs_length l k
        rw [h] at this
        simp at this
        omega
      rw [PnMs_length] at hm
      obtain ⟨c0, c1, c2, c3, c4, q0, -, q1, -⟩ := hp i _ (PnMs_at hc)
      obtain ⟨K, hKe⟩ : ∃ K, PnK l k i = K := ⟨_, rfl⟩
      rw [hKe] at hK c0 c1 c2 c3 c4 q0 q1 ⊢
      have hKb : K + PnT c ≤ 1000000000 := by omega
      have HK1 : Hid (PnK l k (i + 1) = K + PnT c) := hK
      unfold PnT at hKb
      clear hKe hK hKm
      obtain ⟨K0, hK0⟩ : ∃ K', (K : Nat) + c.homes.length = K' := ⟨_, rfl⟩
      obtain ⟨K1, hK1⟩ : ∃ K', (K0 : Nat) + c.steps.length = K' := ⟨_, rfl⟩
      have d0 : w.cell? ⟨R, i * 5, none⟩ = some (.slice (r0 i) c.homes.length (k0 i)) := by rw [hrow.cell (by omega), c0, PnM_homes]
      replace q0 : Ints w (r0 i) (markZ (K : Nat) c.homes.length) := by rw [show (K : Nat) = K from by omega]; exact q0
      have d1 : w.cell? ⟨R, i * 5 + 1, none⟩ = some (.slice (r1 i) c.steps.length (k1 i)) := by rw [hrow.cell (by omega), c1, PnM_steps]
      replace q1 : Ints w (r1 i) (markZ (K0 : Nat) c.steps.length) := by rw [show (K0 : Nat) = K + c.homes.length from by omega]; exact q1
      have d2 : w.cell? ⟨R, i * 5 + 2, none⟩ = some (.int .i64 ((K1 : Int))) := by rw [hrow.cell (by omega), c2]; first | rfl | (congr 1; show Value.int .i64 _ = Value.int .i64 _; congr 1; show (((_ : Nat)) : Int) = _; omega)
      have d3 : w.cell? ⟨R, i * 5 + 3, none⟩ = some (.int .i64 ((K1 : Int) + 1)) := by rw [hrow.cell (by omega), c3]; first | rfl | (congr 1; show Value.int .i64 _ = Value.int .i64 _; congr 1; show (((_ : Nat)) : Int) = _; omega)
      have d4 : w.cell? ⟨R, i * 5 + 4, none⟩ = some (.int .i64 ((K1 : Int) + 1 + 1)) := by rw [hrow.cell (by omega), c4]; first | rfl | (congr 1; show Value.int .i64 _ = Value.int .i64 _; congr 1; show (((_ : Nat)) : Int) = _; omega)
      have HKE : Hid (PnK l k (i + 1) = K1 + 3) := by show _ = _; rw [HK1.out]; unfold PnT; omega
      have HK0' : Hid ((K : Nat) + c.homes.length = K0) := hK0
      have hx0 : K0 ≤ 1000000000 := by omega
      have HK1' : Hid ((K0 : Nat) + c.steps.length = K1) := hK1
      have hx1 : K1 ≤ 1000000000 := by omega
      clear c0 c1 c2 c3 c4 hp hrow hc hK0 hK1
      go_wp2_with fail
      have EK : Hid ((K : Int) = ((K : Nat) : Int)) := by show _ = _; omega
      first | rw [EK.out] | skip
      clear EK
      refine (heldIntS_any _ _ c.homes.length (K : Nat) _ q0 (by have := HK0'.out; omega)).mono ?_
      rintro r w' ⟨rfl, hw⟩
      rw [hw]
      clear hw w'
      rw [HK0'.out]
      have np0 : ¬ ((K0 : Nat) : Int) < 0 := by omega
      go_wp2_with fail
      have EK : Hid ((K0 : Int) = ((K0 : Nat) : Int)) := by show _ = _; omega
      first | rw [EK.out] | skip
      clear EK
      refine (heldIntS_any _ _ c.steps.length (K0 : Nat) _ q1 (by have := HK1'.out; omega)).mono ?_
      rintro r w' ⟨rfl, hw⟩
      rw [hw]
      clear hw w'
      rw [HK1'.out]
      have np1 : ¬ ((K1 : Nat) : Int) < 0 := by omega
      go_wp2
      go_round
      case rel => exact ⟨i + 1, by omega, by first | (rw [HKE.out]; done) | (rw [HKE.out]; go_num), by go_num⟩
      case measure => simp [intOf]; omega
    · obtain rfl : i = l.length := by omega
      go_wp2
      go_ret
      exact ⟨rfl, rfl⟩

end Go.Proofs.Ytfehndedkffpfaa
