/-
  Lists of Replica that a call owns: where their own lists lie, that all of it lies apart, and the contracts of markReplicaS and heldReplicaS. Made by mkbags.py.
-/
import Derived.Test.YtkhbgdnhkaeamaaDoorRpl
import Derived.Test.YtkhbgdnhkaeamaaDoorRwiM
namespace Go.Proofs.YtkhbgdnhkaeamaaDoor
open Go.RowKit

/-- The j-th, by a row's cells: its own lists at these places, in room from B on. -/
def RpP (w : World) (B : Nat) (f : Nat → Value) (r0 : Nat → Option Addr) (k0 : Nat → Nat) (j : Nat) (c : Rp) : Prop :=
  f (j * 3) = .slice (r0 j) c.log.length (k0 j) ∧ f (j * 3 + 1) = .int .i64 c.epoch ∧ f (j * 3 + 2) = .int .i64 c.known ∧ Rws w (r0 j) c.log ∧ RowRw w B (r0 j) c.log.length

/-- The list lies in a row that may be written. -/
def RpO (w : World) (B : Nat) (a : Option Addr) (l : List Rp) (r0 : Nat → Option Addr) (k0 : Nat → Nat) : Prop :=
  l = [] ∨ ∃ R m f, a = some ⟨R, 0, none⟩ ∧ B ≤ R ∧ l.length * 3 ≤ m ∧ w.rowIs R 81 m f ∧ ∀ j c, l[j]? = some c → RpP w B f r0 k0 j c

/-- Whose block it is: the row's own, or one of the lists'. -/
def RpIn (a : Option Addr) (l : List Rp) (r0 : Nat → Option Addr) (b : Nat) : Prop :=
  InI a l.length b ∨ ∃ j c, l[j]? = some c ∧ (InI (r0 j) c.log.length b)

/-- All of it lies apart. -/
structure RpD (a : Option Addr) (l : List Rp) (r0 : Nat → Option Addr) : Prop where
  row0 : ∀ j c b, l[j]? = some c → InI (r0 j) c.log.length b → ¬ InI a l.length b
  own0_0 : ∀ j c j' c' b, l[j]? = some c → l[j']? = some c' → j ≠ j' → InI (r0 j) c.log.length b → ¬ InI (r0 j') c'.log.length b

theorem RpP.of_block {w w' : World} {B : Nat} {f : Nat → Value} {r0 : Nat → Option Addr} {k0 : Nat → Nat} {j : Nat} {c : Rp} (h : RpP w B f r0 k0 j c) (h0 : ∀ b, InI (r0 j) c.log.length b → w'.heap[b]? = w.heap[b]?) : RpP w' B f r0 k0 j c := by
  obtain ⟨c0, c1, c2, q0, w0⟩ := h
  exact ⟨c0, c1, c2, q0.of_block h0, w0.of_block h0⟩

theorem RpP.lt {w : World} {B : Nat} {f : Nat → Value} {r0 : Nat → Option Addr} {k0 : Nat → Nat} {j : Nat} {c : Rp} (h : RpP w B f r0 k0 j c) {b : Nat} (hb : InI (r0 j) c.log.length b) : B ≤ b ∧ b < w.heap.size := by
  obtain ⟨c0, c1, c2, q0, w0⟩ := h
  skip
  exact w0.lt hb

theorem RpO.of_block {w w' : World} {B : Nat} {a : Option Addr} {l : List Rp} {r0 : Nat → Option Addr} {k0 : Nat → Nat} (h : RpO w B a l r0 k0) (hs : ∀ b, RpIn a l r0 b → w'.heap[b]? = w.heap[b]?) : RpO w' B a l r0 k0 := by
  rcases h with h | ⟨R, m, f, rfl, hR, hm, hrow, hp⟩
  · exact .inl h
  · by_cases h0 : l = []
    · exact .inl h0
    · have hpos : 0 < l.length := Nat.pos_of_ne_zero fun e => h0 (List.eq_nil_of_length_eq_zero e)
      exact .inr ⟨R, m, f, rfl, hR, hm, hrow.of_block (hs R (.inl ⟨hpos, 0, none, rfl⟩)), fun j c hj => (hp j c hj).of_block (fun b hb => hs b (.inr ⟨j, c, hj, hb⟩))⟩

theorem RpO.lt {w : World} {B : Nat} {a : Option Addr} {l : List Rp} {r0 : Nat → Option Addr} {k0 : Nat → Nat} (h : RpO w B a l r0 k0) {b : Nat} (hb : RpIn a l r0 b) : B ≤ b ∧ b < w.heap.size := by
  rcases h with rfl | ⟨R, m, f, rfl, hR, hm, hrow, hp⟩
  · rcases hb with ⟨h, -⟩ | ⟨j, c, hj, -⟩
    · simp at h
    · simp at hj
  · rcases hb with ⟨-, o, s, e⟩ | ⟨j, c, hj, hb⟩
    · simp only [Option.some.injEq, Addr.mk.injEq] at e
      have := hrow.lt
      omega
    · exact (hp j c hj).lt hb

theorem RpO.below {w w' : World} {B : Nat} {a : Option Addr} {l : List Rp} {r0 : Nat → Option Addr} {k0 : Nat → Nat} (h : RpO w B a l r0 k0) (hb : Below w.heap.size w w') : RpO w' B a l r0 k0 :=
  h.of_block fun b hi => hb.block b (h.lt hi).2

theorem RpO.reads {w : World} {B : Nat} {a : Option Addr} {l : List Rp} {r0 : Nat → Option Addr} {k0 : Nat → Nat} (h : RpO w B a l r0 k0) (hl : ∀ c, c ∈ l → c.log.length ≤ maxLen) : Rps w a l := fun j c hj => by
  have hlt := (List.getElem?_eq_some_iff.1 hj).1
  rcases h with rfl | ⟨R, m, f, rfl, hR, hm, hrow, hp⟩
  · simp at hj
  · obtain ⟨c0, c1, c2, q0, -⟩ := hp j c hj
    have hmx := hl c (List.mem_of_getElem? hj)
    refine ⟨R, 0, rfl, r0 j, k0 j, ?_, ?_, ?_, q0, hmx⟩
    · rw [Nat.zero_add, hrow.cell (by omega), c0]
    · rw [Nat.zero_add, hrow.cell (by omega), c1]
    · rw [Nat.zero_add, hrow.cell (by omega), c2]

def RpT (c : Rp) : Nat := 2 + 2 * c.log.length
/-- Marked from k on. -/
def RpM (k : Nat) (c : Rp) : Rp := ⟨RwMk (k) c.log.length, ((k + 2 * c.log.length : Nat) : Int), ((k + 1 + 2 * c.log.length : Nat) : Int)⟩
def RpK (l : List Rp) (k : Nat) : Nat → Nat
  | 0 => k
  | j + 1 => RpK l k j + match l[j]? with
    | some c => RpT c
    | none => 0
theorem RpK_succ {l : List Rp} {k j : Nat} {c : Rp} (h : l[j]? = some c) : RpK l k (j + 1) = RpK l k j + RpT c := by rw [RpK, h]
theorem RpK_mono (l : List Rp) (k : Nat) : ∀ i j, i ≤ j → RpK l k i ≤ RpK l k j
  | i, 0, h => by rw [Nat.le_zero.1 h]; exact Nat.le_refl _
  | i, j + 1, h => by
    by_cases e : i = j + 1
    · rw [e]; exact Nat.le_refl _
    · have := RpK_mono l k i j (by omega)
      rw [RpK]; omega
theorem RpM_log (k : Nat) (c : Rp) : (RpM k c).log.length = c.log.length := by simp [RpM, RwMk_length]

/-- The first i are marked. -/
def RpMix (l : List Rp) (k i j : Nat) (c : Rp) : Rp := if j < i then RpM (RpK l k j) c else c
theorem RpMix_log (l : List Rp) (k i j : Nat) (c : Rp) : (RpMix l k i j c).log.length = c.log.length := by unfold RpMix; split <;> simp [RpM_log]

/-- All of them marked. -/
def RpMs (l : List Rp) (k : Nat) : List Rp := l.mapIdx fun j c => RpM (RpK l k j) c
theorem RpMs_length (l : List Rp) (k : Nat) : (RpMs l k).length = l.length := by simp [RpMs]
theorem RpMs_get {l : List Rp} {k j : Nat} {c : Rp} (h : (RpMs l k)[j]? = some c) : ∃ d, l[j]? = some d ∧ c = RpM (RpK l k j) d := by
  simp only [RpMs, List.getElem?_mapIdx, Option.map_eq_some_iff] at h
  obtain ⟨d, h1, h2⟩ := h
  exact ⟨d, h1, h2.symm⟩
theorem RpMs_at {l : List Rp} {k j : Nat} {c : Rp} (h : l[j]? = some c) : (RpMs l k)[j]? = some (RpM (RpK l k j) c) := by
  simp only [RpMs, List.getElem?_mapIdx, h, Option.map_some]

set_option maxRecDepth 100000 in
set_option maxHeartbeats 8000000 in
theorem markReplicaS_any (a : Option Addr) (cp B k : Nat) (l : List Rp) (r0 : Nat → Option Addr) (k0 : Nat → Nat) (w : World) (h : RpO w B a l r0 k0) (D : RpD a l r0) (hl : l.length ≤ 1000000) (h2 : RpK l k l.length ≤ 1000000000) :
    Calls Tryd.prog 35 #[.slice a l.length cp, .int .i64 (k : Int)] w fun r w' => r = .returned (.int .i64 ((RpK l k l.length : Nat) : Int)) ∧ RpO w' B a (RpMs l k) r0 k0 ∧ Below B w w' ∧ ∀ b, b < w.heap.size → ¬ RpIn a l r0 b → w'.heap[b]? = w.heap[b]? := by
  by_cases h0 : l = []
  · subst h0
    go_enter Tryd.func35, Tryd.ntmps35
    go_wp2
    go_loopw [1, 5] (fun x y wr => x = .int .i64 (k : Int) ∧ y = .int .i64 0 ∧ w = wr) (fun _ _ _ => 0)
    case atStart => exact ⟨rfl, rfl, rfl⟩
    case round =>
      obtain ⟨rfl, rfl, rfl⟩ := hrel
      go_wp2
      go_ret
      exact ⟨rfl, .inl rfl, Below.refl _ _, fun _ _ _ => rfl⟩
  obtain ⟨R, m, f, rfl, hR, hm, hrow, hp⟩ := h.resolve_left h0
  have hpos : 0 < l.length := Nat.pos_of_ne_zero fun e => h0 (List.eq_nil_of_length_eq_zero e)
  have HIN : ∀ b, InI (some ⟨R, 0, none⟩) l.length b ↔ b = R := fun b => ⟨fun ⟨_, o, s, e⟩ => by simp at e; omega, fun e => ⟨hpos, 0, none, by simp [e]⟩⟩
  have hRz := hrow.lt
  go_enter Tryd.func35, Tryd.ntmps35
  go_wp2
  go_loopw [1, 5] (fun x y wr => ∃ i : Nat, i ≤ l.length ∧ x = .int .i64 ((RpK l k i : Nat) : Int) ∧ y = .int .i64 (i : Int) ∧ (∃ f', wr.rowIs R 81 m f' ∧ Hid (∀ j c, l[j]? = some c → RpP wr B f' r0 k0 j (RpMix l k i j c))) ∧ Below B w wr ∧ Hid (∀ b, b < w.heap.size → ¬ RpIn (some ⟨R, 0, none⟩) l r0 b → wr.heap[b]? = w.heap[b]?)) (fun _ y _ => l.length - (intOf y).toNat)
  case atStart => exact ⟨0, Nat.zero_le _, rfl, rfl, ⟨f, hrow, fun j c hj => by simpa [RpMix] using hp j c hj⟩, Below.refl _ _, fun _ _ _ => rfl⟩
  case round =>
    clear hrow hp h
    obtain ⟨i, hi, rfl, rfl, ⟨f', hrow, HP⟩, hB, HO⟩ := hrel
    by_cases hlt : i < l.length
    · obtain ⟨c, hc⟩ := getRp hlt
      have HC : Hid (l[i]? = some c) := hc
      have hK : RpK l k (i + 1) = RpK l k i + RpT c := RpK_succ hc
      have hKm := RpK_mono l k (i + 1) l.length (by omega)
      have hpi := HP.out i c hc
      rw [show RpMix l k i i c = c by simp [RpMix]] at hpi
      obtain ⟨c0, c1, c2, q0, w0⟩ := hpi
      obtain ⟨K, hKe⟩ : ∃ K, RpK l k i = K := ⟨_, rfl⟩
      have HK : Hid (RpK l k i = K) := hKe
      rw [hKe] at hK ⊢
      have hKb : K + RpT c ≤ 1000000000 := by omega
      have HK1 : Hid (RpK l k (i + 1) = K + RpT c) := hK
      unfold RpT at hKb
      clear hKe hK hc hKm
      have hBz : w.heap.size ≤ wr.heap.size := hB.size
      have HPu : Hid (∀ j c, l[j]? = some c → j ≠ i → RpP wr B f' r0 k0 j (RpMix l k i j c)) := fun j c hj _ => HP.out j c hj
      clear HP
      have n0 : ∀ b, InI (r0 i) c.log.length b → b ≠ R := fun b hb e => D.row0 i c b HC.out hb ((HIN b).2 e)
      clear q0
      have d0 := hrow.cell (i := i * 3) (by omega)
      rw [c0] at d0
      have d1 := hrow.cell (i := i * 3 + 1) (by omega)
      rw [c1] at d1
      have d2 := hrow.cell (i := i * 3 + 2) (by omega)
      rw [c2] at d2
      have hf := hrow.frozen
      have HS0 : Hid (∀ (_ : Unit), (∃ g, wr.rowIs R 81 m g ∧ (g (i * 3) = .slice (r0 i) c.log.length (k0 i) ∧ g (i * 3 + 1) = .int .i64 c.epoch ∧ g (i * 3 + 2) = .int .i64 c.known) ∧ (∀ j c, l[j]? = some c → j ≠ i → RpP wr B g r0 k0 j (RpMix l k i j c))) ∧ Below B w wr ∧ (∀ b, b ≠ R → wr.heap[b]? = wr.heap[b]?)) := fun _ => by
        have hus : ∀ b, b ≠ R → wr.heap[b]? = wr.heap[b]? := fun b hb => by rfl
        refine ⟨⟨_, hrow, ⟨by exact c0, by exact c1, by exact c2⟩, fun j c' hj hne => ?_⟩, hB, hus⟩
        obtain ⟨a0, a1, a2, x0, z0⟩ := HPu.out j c' hj hne
        exact ⟨by exact a0, by exact a1, by exact a2, x0.of_block fun b hb => hus b fun e => D.row0 j c' b hj (by rw [RpMix_log] at hb; exact hb) ((HIN b).2 e), z0.of_block fun b hb => hus b fun e => D.row0 j c' b hj (by rw [RpMix_log] at hb; exact hb) ((HIN b).2 e)⟩
      clear hrow hB HPu c0 c1 c2
      go_wp2_with fail
      have EK : Hid ((K : Int) = ((K : Nat) : Int)) := by show _ = _; omega
      first | rw [EK.out] | skip
      clear EK
      refine (markRowS_any _ _ c.log.length B (K : Nat) _ w0 (by omega)).mono ?_
      rintro r v0 ⟨rfl, H0, S0, hB2, hO⟩
      have hB : Below B w v0 := (HS0.out ()).2.1.trans hB2
      have hus : ∀ b, b < wr.heap.size → b ≠ R → ¬ InI (r0 i) c.log.length b → v0.heap[b]? = wr.heap[b]? := fun b hb h1 h3 => hO b hb h3
      have hz0 : wr.heap.size ≤ v0.heap.size := by have := hB2.size; simpa using this
      have HZ : ∃ g, v0.rowIs R 81 m g ∧ (g (i * 3) = .slice (r0 i) c.log.length (k0 i) ∧ g (i * 3 + 1) = .int .i64 c.epoch ∧ g (i * 3 + 2) = .int .i64 c.known) ∧ (∀ j c, l[j]? = some c → j ≠ i → RpP v0 B g r0 k0 j (RpMix l k i j c)) := by
        obtain ⟨g, h1, h3, h4⟩ := (HS0.out ()).1
        refine ⟨g, h1.of_block (hO R h1.lt (fun hb => n0 R hb rfl)), h3, fun j c' hj hne => ?_⟩
        have p0 := h4 j c' hj hne
        exact p0.of_block (w' := v0) (fun b hb => hO b (p0.lt (hb)).2 (fun h => D.own0_0 i c j c' b HC.out hj (fun e => hne e.symm) h (by rw [RpMix_log] at hb; exact hb)))
      obtain ⟨g0, hrow, ⟨c0, c1, c2⟩, HPu'⟩ := HZ
      have HPu : Hid (∀ j c, l[j]? = some c → j ≠ i → RpP v0 B g0 r0 k0 j (RpMix l k i j c)) := HPu'
      have HO2 : Hid (∀ b, b < w.heap.size → ¬ RpIn (some ⟨R, 0, none⟩) l r0 b → v0.heap[b]? = w.heap[b]?) := fun b hb hn => (hus b (by have := hBz; omega) (fun e => hn (.inl ((HIN b).2 e))) (fun h => hn (.inr ⟨i, c, HC.out, h⟩))).trans (HO.out b hb hn)
      replace HO := HO2
      clear hB2 hO HS0 HPu' HO2 hus hf d0 d1 d2 w0
      have hBz : w.heap.size ≤ v0.heap.size := hB.size
      obtain ⟨K0, hK0⟩ : ∃ K', (K : Nat) + 2 * c.log.length = K' := ⟨_, rfl⟩
      rw [hK0]
      have HK0' : Hid ((K : Nat) + 2 * c.log.length = K0) := hK0
      have hk0 : K0 ≤ (K : Nat) + 2 * c.log.length := by omega
      have hg0 : (K : Nat) + 2 * c.log.length ≤ K0 := by omega
      clear hK0
      have d0 := hrow.cell (i := i * 3) (by omega)
      rw [c0] at d0
      have d1 := hrow.cell (i := i * 3 + 1) (by omega)
      rw [c1] at d1
      have d2 := hrow.cell (i := i * 3 + 2) (by omega)
      rw [c2] at d2
      have hf := hrow.frozen
      have HS1 : Hid (∀ y1 y2, (∃ g, ((v0.setCell ⟨R, i * 3 + 1, none⟩ y1).setCell ⟨R, i * 3 + 2, none⟩ y2).rowIs R 81 m g ∧ (g (i * 3) = .slice (r0 i) c.log.length (k0 i) ∧ g (i * 3 + 1) = y1 ∧ g (i * 3 + 2) = y2) ∧ (∀ j c, l[j]? = some c → j ≠ i → RpP ((v0.setCell ⟨R, i * 3 + 1, none⟩ y1).setCell ⟨R, i * 3 + 2, none⟩ y2) B g r0 k0 j (RpMix l k i j c))) ∧ Below B w ((v0.setCell ⟨R, i * 3 + 1, none⟩ y1).setCell ⟨R, i * 3 + 2, none⟩ y2) ∧ (∀ b, b ≠ R → ((v0.setCell ⟨R, i * 3 + 1, none⟩ y1).setCell ⟨R, i * 3 + 2, none⟩ y2).heap[b]? = v0.heap[b]?)) := fun y1 y2 => by
        have hus : ∀ b, b ≠ R → ((v0.setCell ⟨R, i * 3 + 1, none⟩ y1).setCell ⟨R, i * 3 + 2, none⟩ y2).heap[b]? = v0.heap[b]? := fun b hb => by rw [Below.heap_setCell _ ⟨R, _, none⟩ _ b (by simpa using hb), Below.heap_setCell _ ⟨R, _, none⟩ _ b (by simpa using hb)]
        refine ⟨⟨_, ((hrow.set _ _).set _ _), ⟨by (try dsimp only); rw [if_neg (by omega), if_neg (by omega)]; exact c0, by simp, by simp⟩, fun j c' hj hne => ?_⟩, ((hB.setCell hR _).setCell hR _), hus⟩
        obtain ⟨a0, a1, a2, x0, z0⟩ := HPu.out j c' hj hne
        exact ⟨by (try dsimp only); rw [if_neg (by omega), if_neg (by omega)]; exact a0, by (try dsimp only); rw [if_neg (by omega), if_neg (by omega)]; exact a1, by (try dsimp only); rw [if_neg (by omega), if_neg (by omega)]; exact a2, x0.of_block fun b hb => hus b fun e => D.row0 j c' b hj (by rw [RpMix_log] at hb; exact hb) ((HIN b).2 e), z0.of_block fun b hb => hus b fun e => D.row0 j c' b hj (by rw [RpMix_log] at hb; exact hb) ((HIN b).2 e)⟩
      clear hrow hB HPu c0 c1 c2
      have HFIN : Hid (∀ y1 y2, y1 = .int .i64 ((K0 : Int)) → y2 = .int .i64 ((K0 : Int) + 1) → (∃ g, ((v0.setCell ⟨R, i * 3 + 1, none⟩ y1).setCell ⟨R, i * 3 + 2, none⟩ y2).rowIs R 81 m g ∧ Hid (∀ j c, l[j]? = some c → RpP ((v0.setCell ⟨R, i * 3 + 1, none⟩ y1).setCell ⟨R, i * 3 + 2, none⟩ y2) B g r0 k0 j (RpMix l k (i + 1) j c))) ∧ Below B w ((v0.setCell ⟨R, i * 3 + 1, none⟩ y1).setCell ⟨R, i * 3 + 2, none⟩ y2) ∧ Hid (∀ b, b < w.heap.size → ¬ RpIn (some ⟨R, 0, none⟩) l r0 b → ((v0.setCell ⟨R, i * 3 + 1, none⟩ y1).setCell ⟨R, i * 3 + 2, none⟩ y2).heap[b]? = w.heap[b]?)) := fun y1 y2 ey1 ey2 => by
        obtain ⟨⟨g, h1, ⟨e0, e1, e2⟩, h4⟩, h5, hus⟩ := HS1.out y1 y2
        refine ⟨⟨g, h1, fun j c' hj => ?_⟩, h5, fun b hb hn => (hus b (fun e => hn (.inl ((HIN b).2 e)))).trans (HO.out b hb hn)⟩
        by_cases ej : j = i
        · subst ej
          have ec : c' = c := by have := HC.out; rw [hj] at this; exact Option.some.inj this
          subst ec
          have em : RpMix l k (j + 1) j c' = RpM K c' := by simp [RpMix, HK.out]
          rw [em]
          refine ⟨?_, ?_, ?_, ?_, ?_⟩
          · rw [e0, RpM_log]
          · rw [e1, ey1]; first | rfl | (show Value.int .i64 _ = Value.int .i64 _; congr 1; show _ = (((_ : Nat)) : Int); have := HK0'.out; omega)
          · rw [e2, ey2]; first | rfl | (show Value.int .i64 _ = Value.int .i64 _; congr 1; show _ = (((_ : Nat)) : Int); have := HK0'.out; omega)
          · have e9 : K = (K : Nat) := by have := HK0'.out; omega
            show Rws _ _ (RwMk (K) c'.log.length)
            rw [e9]
            exact H0.of_block fun b hb => hus b (n0 b (by rw [RwMk_length] at hb; exact hb))
          · rw [RpM_log]; exact S0.of_block fun b hb => hus b (n0 b hb)
        · have em : RpMix l k (i + 1) j c' = RpMix l k i j c' := by
            unfold RpMix
            by_cases hji : j < i
            · rw [if_pos hji, if_pos (by omega)]
            · rw [if_neg hji, if_neg (by omega)]
          rw [em]
          exact h4 j c' hj ej
      have HKE : Hid (RpK l k (i + 1) = K0 + 2) := by show _ = _; rw [HK1.out]; unfold RpT; have := HK0'.out; omega
      clear HS1 HO H0 S0 n0
      go_wp2
      go_roundw
      case rel =>
        obtain ⟨s1, s2, s3⟩ := HFIN.out _ _ (by first | rfl | (congr 1; done)) (by first | rfl | (congr 1; done))
        exact ⟨i + 1, by omega, by first | (rw [HKE.out]; done) | (rw [HKE.out]; go_num), by go_num, s1, s2, s3⟩
      case measure => simp [intOf]; omega
    · obtain rfl : i = l.length := by omega
      go_wp2
      go_ret
      refine ⟨rfl, .inr ⟨R, m, f', rfl, hR, by rw [RpMs_length]; exact hm, hrow, fun j c hj => ?_⟩, hB, HO.out⟩
      obtain ⟨d, hd, rfl⟩ := RpMs_get hj
      have hjl := (List.getElem?_eq_some_iff.1 hd).1
      have := HP.out j d hd
      rwa [show RpMix l k l.length j d = RpM (RpK l k j) d by simp [RpMix, hjl]] at this

set_option maxRecDepth 100000 in
set_option maxHeartbeats 8000000 in
theorem heldReplicaS_any (a : Option Addr) (cp B k : Nat) (l : List Rp) (r0 : Nat → Option Addr) (k0 : Nat → Nat) (w : World) (h : RpO w B a (RpMs l k) r0 k0) (h2 : RpK l k l.length ≤ 1000000000) (hl : l.length ≤ 1000000) :
    Calls Tryd.prog 37 #[.slice a l.length cp, .int .i64 (k : Int)] w fun r w' => r = .returned (.int .i64 ((RpK l k l.length : Nat) : Int)) ∧ w' = w := by
  go_enter Tryd.func37, Tryd.ntmps37
  go_wp2
  go_loop [1, 5] (fun x y => ∃ i : Nat, i ≤ l.length ∧ x = .int .i64 ((RpK l k i : Nat) : Int) ∧ y = .int .i64 (i : Int)) (fun _ y => l.length - (intOf y).toNat)
  case atStart => exact ⟨0, Nat.zero_le _, rfl, rfl⟩
  case round =>
    obtain ⟨i, hi, rfl, rfl⟩ := hrel
    by_cases hlt : i < l.length
    · obtain ⟨c, hc⟩ := getRp hlt
      have hK : RpK l k (i + 1) = RpK l k i + RpT c := RpK_succ hc
      have hKm := RpK_mono l k (i + 1) l.length (by omega)
      rcases h with h | ⟨R, m, f, rfl, hR, hm, hrow, hp⟩
      · have := RpMs_length l k
        rw [h] at this
        simp at this
        omega
      rw [RpMs_length] at hm
      obtain ⟨c0, c1, c2, q0, -⟩ := hp i _ (RpMs_at hc)
      obtain ⟨K, hKe⟩ : ∃ K, RpK l k i = K := ⟨_, rfl⟩
      rw [hKe] at hK c0 c1 c2 q0 ⊢
      have hKb : K + RpT c ≤ 1000000000 := by omega
      have HK1 : Hid (RpK l k (i + 1) = K + RpT c) := hK
      unfold RpT at hKb
      clear hKe hK hKm
      obtain ⟨K0, hK0⟩ : ∃ K', (K : Nat) + 2 * c.log.length = K' := ⟨_, rfl⟩
      have d0 : w.cell? ⟨R, i * 3, none⟩ = some (.slice (r0 i) c.log.length (k0 i)) := by rw [hrow.cell (by omega), c0, RpM_log]
      replace q0 : Rws w (r0 i) (RwMk (K : Nat) c.log.length) := by rw [show (K : Nat) = K from by omega]; exact q0
      have d1 : w.cell? ⟨R, i * 3 + 1, none⟩ = some (.int .i64 ((K0 : Int))) := by rw [hrow.cell (by omega), c1]; first | rfl | (congr 1; show Value.int .i64 _ = Value.int .i64 _; congr 1; show (((_ : Nat)) : Int) = _; omega)
      have d2 : w.cell? ⟨R, i * 3 + 2, none⟩ = some (.int .i64 ((K0 : Int) + 1)) := by rw [hrow.cell (by omega), c2]; first | rfl | (congr 1; show Value.int .i64 _ = Value.int .i64 _; congr 1; show (((_ : Nat)) : Int) = _; omega)
      have HKE : Hid (RpK l k (i + 1) = K0 + 2) := by show _ = _; rw [HK1.out]; unfold RpT; omega
      have HK0' : Hid ((K : Nat) + 2 * c.log.length = K0) := hK0
      have hx0 : K0 ≤ 1000000000 := by omega
      clear c0 c1 c2 hp hrow hc hK0
      go_wp2_with fail
      have EK : Hid ((K : Int) = ((K : Nat) : Int)) := by show _ = _; omega
      first | rw [EK.out] | skip
      clear EK
      refine (heldRowS_any _ _ c.log.length (K : Nat) _ q0 (by have := HK0'.out; omega)).mono ?_
      rintro r w' ⟨rfl, hw⟩
      rw [hw]
      clear hw w'
      rw [HK0'.out]
      have np0 : ¬ ((K0 : Nat) : Int) < 0 := by omega
      go_wp2
      go_round
      case rel => exact ⟨i + 1, by omega, by first | (rw [HKE.out]; done) | (rw [HKE.out]; go_num), by go_num⟩
      case measure => simp [intOf]; omega
    · obtain rfl : i = l.length := by omega
      go_wp2
      go_ret
      exact ⟨rfl, rfl⟩

end Go.Proofs.YtkhbgdnhkaeamaaDoor
