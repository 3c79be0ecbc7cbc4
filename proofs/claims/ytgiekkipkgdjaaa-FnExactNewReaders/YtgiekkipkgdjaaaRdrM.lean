/-
  Lists of Reader that a call owns: where their own lists lie, that all of it lies apart, and the contracts of markReaderS and heldReaderS. Made by mkbags.py.
-/
import Derived.Test.YtgiekkipkgdjaaaRdr
namespace Go.Proofs.Ytgiekkipkgdjaaa
open Go.RowKit

/-- The j-th, by a row's cells: its own lists at these places, in room from B on. -/
def RxP (w : World) (B : Nat) (f : Nat → Value) (r2 r3 : Nat → Option Addr) (k2 k3 : Nat → Nat) (j : Nat) (c : Rx) : Prop :=
  f (j * 4) = .bool c.inn ∧ f (j * 4 + 1) = .int .i64 c.gen ∧ f (j * 4 + 2) = .slice (r2 j) c.share.length (k2 j) ∧ f (j * 4 + 3) = .slice (r3 j) c.read.length (k3 j) ∧ Ints w (r2 j) c.share ∧ RowI w B (r2 j) c.share.length ∧ Ints w (r3 j) c.read ∧ RowI w B (r3 j) c.read.length

/-- The list lies in a row that may be written. -/
def RxO (w : World) (B : Nat) (a : Option Addr) (l : List Rx) (r2 r3 : Nat → Option Addr) (k2 k3 : Nat → Nat) : Prop :=
  l = [] ∨ ∃ R m f, a = some ⟨R, 0, none⟩ ∧ B ≤ R ∧ l.length * 4 ≤ m ∧ w.rowIs R 67 m f ∧ ∀ j c, l[j]? = some c → RxP w B f r2 r3 k2 k3 j c

/-- Whose block it is: the row's own, or one of the lists'. -/
def RxIn (a : Option Addr) (l : List Rx) (r2 r3 : Nat → Option Addr) (b : Nat) : Prop :=
  InI a l.length b ∨ ∃ j c, l[j]? = some c ∧ (InI (r2 j) c.share.length b ∨ InI (r3 j) c.read.length b)

/-- All of it lies apart. -/
structure RxD (a : Option Addr) (l : List Rx) (r2 r3 : Nat → Option Addr) : Prop where
  row2 : ∀ j c b, l[j]? = some c → InI (r2 j) c.share.length b → ¬ InI a l.length b
  row3 : ∀ j c b, l[j]? = some c → InI (r3 j) c.read.length b → ¬ InI a l.length b
  own2_2 : ∀ j c j' c' b, l[j]? = some c → l[j']? = some c' → j ≠ j' → InI (r2 j) c.share.length b → ¬ InI (r2 j') c'.share.length b
  own2_3 : ∀ j c j' c' b, l[j]? = some c → l[j']? = some c' → InI (r2 j) c.share.length b → ¬ InI (r3 j') c'.read.length b
  own3_3 : ∀ j c j' c' b, l[j]? = some c → l[j']? = some c' → j ≠ j' → InI (r3 j) c.read.length b → ¬ InI (r3 j') c'.read.length b

theorem RxP.of_block {w w' : World} {B : Nat} {f : Nat → Value} {r2 r3 : Nat → Option Addr} {k2 k3 : Nat → Nat} {j : Nat} {c : Rx} (h : RxP w B f r2 r3 k2 k3 j c) (h2 : ∀ b, InI (r2 j) c.share.length b → w'.heap[b]? = w.heap[b]?) (h3 : ∀ b, InI (r3 j) c.read.length b → w'.heap[b]? = w.heap[b]?) : RxP w' B f r2 r3 k2 k3 j c := by
  obtain ⟨c0, c1, c2, c3, q2, w2, q3, w3⟩ := h
  exact ⟨c0, c1, c2, c3, q2.of_block h2, w2.of_block h2, q3.of_block h3, w3.of_block h3⟩

theorem RxP.lt {w : World} {B : Nat} {f : Nat → Value} {r2 r3 : Nat → Option Addr} {k2 k3 : Nat → Nat} {j : Nat} {c : Rx} (h : RxP w B f r2 r3 k2 k3 j c) {b : Nat} (hb : InI (r2 j) c.share.length b ∨ InI (r3 j) c.read.length b) : B ≤ b ∧ b < w.heap.size := by
  obtain ⟨c0, c1, c2, c3, q2, w2, q3, w3⟩ := h
  rcases hb with hb | hb
  · exact w2.lt hb
  · exact w3.lt hb

theorem RxO.of_block {w w' : World} {B : Nat} {a : Option Addr} {l : List Rx} {r2 r3 : Nat → Option Addr} {k2 k3 : Nat → Nat} (h : RxO w B a l r2 r3 k2 k3) (hs : ∀ b, RxIn a l r2 r3 b → w'.heap[b]? = w.heap[b]?) : RxO w' B a l r2 r3 k2 k3 := by
  rcases h with h | ⟨R, m, f, rfl, hR, hm, hrow, hp⟩
  · exact .inl h
  · by_cases h0 : l = []
    · exact .inl h0
    · have hpos : 0 < l.length := Nat.pos_of_ne_zero fun e => h0 (List.eq_nil_of_length_eq_zero e)
      exact .inr ⟨R, m, f, rfl, hR, hm, hrow.of_block (hs R (.inl ⟨hpos, 0, none, rfl⟩)), fun j c hj => (hp j c hj).of_block (fun b hb => hs b (.inr ⟨j, c, hj, .inl hb⟩)) (fun b hb => hs b (.inr ⟨j, c, hj, .inr (hb)⟩))⟩

theorem RxO.lt {w : World} {B : Nat} {a : Option Addr} {l : List Rx} {r2 r3 : Nat → Option Addr} {k2 k3 : Nat → Nat} (h : RxO w B a l r2 r3 k2 k3) {b : Nat} (hb : RxIn a l r2 r3 b) : B ≤ b ∧ b < w.heap.size := by
  rcases h with rfl | ⟨R, m, f, rfl, hR, hm, hrow, hp⟩
  · rcases hb with ⟨h, -⟩ | ⟨j, c, hj, -⟩
    · simp at h
    · simp at hj
  · rcases hb with ⟨-, o, s, e⟩ | ⟨j, c, hj, hb⟩
    · simp only [Option.some.injEq, Addr.mk.injEq] at e
      have := hrow.lt
      omega
    · exact (hp j c hj).lt hb

theorem RxO.below {w w' : World} {B : Nat} {a : Option Addr} {l : List Rx} {r2 r3 : Nat → Option Addr} {k2 k3 : Nat → Nat} (h : RxO w B a l r2 r3 k2 k3) (hb : Below w.heap.size w w') : RxO w' B a l r2 r3 k2 k3 :=
  h.of_block fun b hi => hb.block b (h.lt hi).2

theorem RxO.reads {w : World} {B : Nat} {a : Option Addr} {l : List Rx} {r2 r3 : Nat → Option Addr} {k2 k3 : Nat → Nat} (h : RxO w B a l r2 r3 k2 k3) (hl : ∀ c, c ∈ l → c.share.length ≤ maxLen ∧ c.read.length ≤ maxLen) : Rxs w a l := fun j c hj => by
  have hlt := (List.getElem?_eq_some_iff.1 hj).1
  rcases h with rfl | ⟨R, m, f, rfl, hR, hm, hrow, hp⟩
  · simp at hj
  · obtain ⟨c0, c1, c2, c3, q2, -, q3, -⟩ := hp j c hj
    have hmx := hl c (List.mem_of_getElem? hj)
    refine ⟨R, 0, rfl, r2 j, k2 j, r3 j, k3 j, ?_, ?_, ?_, ?_, q2, hmx.1, q3, hmx.2⟩
    · rw [Nat.zero_add, hrow.cell (by omega), c0]
    · rw [Nat.zero_add, hrow.cell (by omega), c1]
    · rw [Nat.zero_add, hrow.cell (by omega), c2]
    · rw [Nat.zero_add, hrow.cell (by omega), c3]

def RxT (c : Rx) : Nat := 2 + c.share.length + c.read.length
/-- Marked from k on. -/
def RxM (k : Nat) (c : Rx) : Rx := ⟨mkO (k), ((k + 1 : Nat) : Int), markZ (k + 2) c.share.length, markZ (k + 2 + c.share.length) c.read.length⟩
def RxK (l : List Rx) (k : Nat) : Nat → Nat
  | 0 => k
  | j + 1 => RxK l k j + match l[j]? with
    | some c => RxT c
    | none => 0
theorem RxK_succ {l : List Rx} {k j : Nat} {c : Rx} (h : l[j]? = some c) : RxK l k (j + 1) = RxK l k j + RxT c := by rw [RxK, h]
theorem RxK_mono (l : List Rx) (k : Nat) : ∀ i j, i ≤ j → RxK l k i ≤ RxK l k j
  | i, 0, h => by rw [Nat.le_zero.1 h]; exact Nat.le_refl _
  | i, j + 1, h => by
    by_cases e : i = j + 1
    · rw [e]; exact Nat.le_refl _
    · have := RxK_mono l k i j (by omega)
      rw [RxK]; omega
theorem RxM_share (k : Nat) (c : Rx) : (RxM k c).share.length = c.share.length := by simp [RxM, markZ_length]
theorem RxM_read (k : Nat) (c : Rx) : (RxM k c).read.length = c.read.length := by simp [RxM, markZ_length]

/-- The first i are marked. -/
def RxMix (l : List Rx) (k i j : Nat) (c : Rx) : Rx := if j < i then RxM (RxK l k j) c else c
theorem RxMix_share (l : List Rx) (k i j : Nat) (c : Rx) : (RxMix l k i j c).share.length = c.share.length := by unfold RxMix; split <;> simp [RxM_share]
theorem RxMix_read (l : List Rx) (k i j : Nat) (c : Rx) : (RxMix l k i j c).read.length = c.read.length := by unfold RxMix; split <;> simp [RxM_read]

/-- All of them marked. -/
def RxMs (l : List Rx) (k : Nat) : List Rx := l.mapIdx fun j c => RxM (RxK l k j) c
theorem RxMs_length (l : List Rx) (k : Nat) : (RxMs l k).length = l.length := by simp [RxMs]
theorem RxMs_get {l : List Rx} {k j : Nat} {c : Rx} (h : (RxMs l k)[j]? = some c) : ∃ d, l[j]? = some d ∧ c = RxM (RxK l k j) d := by
  simp only [RxMs, List.getElem?_mapIdx, Option.map_eq_some_iff] at h
  obtain ⟨d, h1, h2⟩ := h
  exact ⟨d, h1, h2.symm⟩
theorem RxMs_at {l : List Rx} {k j : Nat} {c : Rx} (h : l[j]? = some c) : (RxMs l k)[j]? = some (RxM (RxK l k j) c) := by
  simp only [RxMs, List.getElem?_mapIdx, h, Option.map_some]

set_option maxRecDepth 100000 in
set_option maxHeartbeats 8000000 in
theorem markReaderS_any (a : Option Addr) (cp B k : Nat) (l : List Rx) (r2 r3 : Nat → Option Addr) (k2 k3 : Nat → Nat) (w : World) (h : RxO w B a l r2 r3 k2 k3) (D : RxD a l r2 r3) (hl : l.length ≤ 1000000) (h2 : RxK l k l.length ≤ 1000000000) :
    Calls Try.prog 47 #[.slice a l.length cp, .int .i64 (k : Int)] w fun r w' => r = .returned (.int .i64 ((RxK l k l.length : Nat) : Int)) ∧ RxO w' B a (RxMs l k) r2 r3 k2 k3 ∧ Below B w w' ∧ ∀ b, b < w.heap.size → ¬ RxIn a l r2 r3 b → w'.heap[b]? = w.heap[b]? := by
  by_cases h0 : l = []
  · subst h0
    go_enter Try.func47, Try.ntmps47
    go_wp2
    go_loopw [1, 5] (fun x y wr => x = .int .i64 (k : Int) ∧ y = .int .i64 0 ∧ w = wr) (fun _ _ _ => 0)
    case atStart => exact ⟨rfl, rfl, rfl⟩
    case round =>
      obtain ⟨rfl, rfl, rfl⟩ := hrel
      go_wp2
      go_ret
      exact ⟨rfl, .inl rfl, Below.refl _ _, fun _ _ _ => rfl⟩
  obtain ⟨R, m, f, rfl, hR, hm, hrow, hp⟩ := h.resolve_left h0
  have hpos : 0 < l.length := Nat.pos_of_ne_zero fun e => h0 (List.eq_nil_of_length_eq_zero e)
  have HIN : ∀ b, InI (some ⟨R, 0, none⟩) l.length b ↔ b = R := fun b => ⟨fun ⟨_, o, s, e⟩ => by simp at e; omega, fun e => ⟨hpos, 0, none, by simp [e]⟩⟩
  have hRz := hrow.lt
  go_enter Try.func47, Try.ntmps47
  go_wp2
  go_loopw [1, 5] (fun x y wr => ∃ i : Nat, i ≤ l.length ∧ x = .int .i64 ((RxK l k i : Nat) : Int) ∧ y = .int .i64 (i : Int) ∧ (∃ f', wr.rowIs R 67 m f' ∧ Hid (∀ j c, l[j]? = some c → RxP wr B f' r2 r3 k2 k3 j (RxMix l k i j c))) ∧ Below B w wr ∧ Hid (∀ b, b < w.heap.size → ¬ RxIn (some ⟨R, 0, none⟩) l r2 r3 b → wr.heap[b]? = w.heap[b]?)) (fun _ y _ => l.length - (intOf y).toNat)
  case atStart => exact ⟨0, Nat.zero_le _, rfl, rfl, ⟨f, hrow, fun j c hj => by simpa [RxMix] using hp j c hj⟩, Below.refl _ _, fun _ _ _ => rfl⟩
  case round =>
    clear hrow hp h
    obtain ⟨i, hi, rfl, rfl, ⟨f', hrow, HP⟩, hB, HO⟩ := hrel
    by_cases hlt : i < l.length
    · obtain ⟨c, hc⟩ := getRx hlt
      have HC : Hid (l[i]? = some c) := hc
      have hK : RxK l k (i + 1) = RxK l k i + RxT c := RxK_succ hc
      have hKm := RxK_mono l k (i + 1) l.length (by omega)
      have hpi := HP.out i c hc
      rw [show RxMix l k i i c = c by simp [RxMix]] at hpi
      obtain ⟨c0, c1, c2, c3, q2, w2, q3, w3⟩ := hpi
      obtain ⟨K, hKe⟩ : ∃ K, RxK l k i = K := ⟨_, rfl⟩
      have HK : Hid (RxK l k i = K) := hKe
      rw [hKe] at hK ⊢
      have hKb : K + RxT c ≤ 1000000000 := by omega
      have HK1 : Hid (RxK l k (i + 1) = K + RxT c) := hK
      unfold RxT at hKb
      clear hKe hK hc hKm
      have hBz : w.heap.size ≤ wr.heap.size := hB.size
      have HPu : Hid (∀ j c, l[j]? = some c → j ≠ i → RxP wr B f' r2 r3 k2 k3 j (RxMix l k i j c)) := fun j c hj _ => HP.out j c hj
      clear HP
      have n2 : ∀ b, InI (r2 i) c.share.length b → b ≠ R := fun b hb e => D.row2 i c b HC.out hb ((HIN b).2 e)
      have n3 : ∀ b, InI (r3 i) c.read.length b → b ≠ R := fun b hb e => D.row3 i c b HC.out hb ((HIN b).2 e)
      clear q2
      clear q3
      have d0 := hrow.cell (i := i * 4) (by omega)
      rw [c0] at d0
      have d1 := hrow.cell (i := i * 4 + 1) (by omega)
      rw [c1] at d1
      have d2 := hrow.cell (i := i * 4 + 2) (by omega)
      rw [c2] at d2
      have d3 := hrow.cell (i := i * 4 + 3) (by omega)
      rw [c3] at d3
      have hf := hrow.frozen
      have HS0 : Hid (∀ y0 y1, (∃ g, ((wr.setCell ⟨R, i * 4, none⟩ y0).setCell ⟨R, i * 4 + 1, none⟩ y1).rowIs R 67 m g ∧ (g (i * 4) = y0 ∧ g (i * 4 + 1) = y1 ∧ g (i * 4 + 2) = .slice (r2 i) c.share.length (k2 i) ∧ g (i * 4 + 3) = .slice (r3 i) c.read.length (k3 i)) ∧ (∀ j c, l[j]? = some c → j ≠ i → RxP ((wr.setCell ⟨R, i * 4, none⟩ y0).setCell ⟨R, i * 4 + 1, none⟩ y1) B g r2 r3 k2 k3 j (RxMix l k i j c))) ∧ Below B w ((wr.setCell ⟨R, i * 4, none⟩ y0).setCell ⟨R, i * 4 + 1, none⟩ y1) ∧ (∀ b, b ≠ R → ((wr.setCell ⟨R, i * 4, none⟩ y0).setCell ⟨R, i * 4 + 1, none⟩ y1).heap[b]? = wr.heap[b]?)) := fun y0 y1 => by
        have hus : ∀ b, b ≠ R → ((wr.setCell ⟨R, i * 4, none⟩ y0).setCell ⟨R, i * 4 + 1, none⟩ y1).heap[b]? = wr.heap[b]? := fun b hb => by rw [Below.heap_setCell _ ⟨R, _, none⟩ _ b (by simpa using hb), Below.heap_setCell _ ⟨R, _, none⟩ _ b (by simpa using hb)]
        refine ⟨⟨_, ((hrow.set _ _).set _ _), ⟨by simp, by simp, by (try dsimp only); rw [if_neg (by omega), if_neg (by omega)]; exact c2, by (try dsimp only); rw [if_neg (by omega), if_neg (by omega)]; exact c3⟩, fun j c' hj hne => ?_⟩, ((hB.setCell hR _).setCell hR _), hus⟩
        obtain ⟨a0, a1, a2, a3, x2, z2, x3, z3⟩ := HPu.out j c' hj hne
        exact ⟨by (try dsimp only); rw [if_neg (by omega), if_neg (by omega)]; exact a0, by (try dsimp only); rw [if_neg (by omega), if_neg (by omega)]; exact a1, by (try dsimp only); rw [if_neg (by omega), if_neg (by omega)]; exact a2, by (try dsimp only); rw [if_neg (by omega), if_neg (by omega)]; exact a3, x2.of_block fun b hb => hus b fun e => D.row2 j c' b hj (by rw [RxMix_share] at hb; exact hb) ((HIN b).2 e), z2.of_block fun b hb => hus b fun e => D.row2 j c' b hj (by rw [RxMix_share] at hb; exact hb) ((HIN b).2 e), x3.of_block fun b hb => hus b fun e => D.row3 j c' b hj (by rw [RxMix_read] at hb; exact hb) ((HIN b).2 e), z3.of_block fun b hb => hus b fun e => D.row3 j c' b hj (by rw [RxMix_read] at hb; exact hb) ((HIN b).2 e)⟩
      clear hrow hB HPu c0 c1 c2 c3
      go_wp2_with fail
      have EK : Hid ((K : Int) + 1 + 1 = ((K + 2 : Nat) : Int)) := by show _ = _; omega
      first | rw [EK.out] | skip
      clear EK
      refine (markIntS_any _ _ c.share.length B (K + 2 : Nat) _ (w2.of_block fun b hb => (HS0.out _ _).2.2 b (n2 b hb)) (by omega)).mono ?_
      rintro r v0 ⟨rfl, H2, S2, hB2, hO⟩
      have hB : Below B w v0 := (HS0.out _ _).2.1.trans hB2
      have hus : ∀ b, b < wr.heap.size → b ≠ R → ¬ InI (r2 i) c.share.length b → v0.heap[b]? = wr.heap[b]? := fun b hb h1 h3 => (hO b (by simpa using hb) h3).trans ((HS0.out _ _).2.2 b h1)
      have hz0 : wr.heap.size ≤ v0.heap.size := by have := hB2.size; simpa using this
      have HZ : ∃ g, v0.rowIs R 67 m g ∧ (g (i * 4) = .bool (((K : Int)) % 3 == 0) ∧ g (i * 4 + 1) = .int .i64 ((K : Int) + 1) ∧ g (i * 4 + 2) = .slice (r2 i) c.share.length (k2 i) ∧ g (i * 4 + 3) = .slice (r3 i) c.read.length (k3 i)) ∧ (∀ j c, l[j]? = some c → j ≠ i → RxP v0 B g r2 r3 k2 k3 j (RxMix l k i j c)) := by
        obtain ⟨g, h1, h3, h4⟩ := (HS0.out _ _).1
        refine ⟨g, h1.of_block (hO R h1.lt (fun hb => n2 R hb rfl)), h3, fun j c' hj hne => ?_⟩
        have p0 := h4 j c' hj hne
        exact p0.of_block (w' := v0) (fun b hb => hO b (p0.lt (.inl hb)).2 (fun h => D.own2_2 i c j c' b HC.out hj (fun e => hne e.symm) h (by rw [RxMix_share] at hb; exact hb))) (fun b hb => hO b (p0.lt (.inr (hb))).2 (fun h => D.own2_3 i c j c' b HC.out hj h (by rw [RxMix_read] at hb; exact hb)))
      obtain ⟨g0, hrow, ⟨c0, c1, c2, c3⟩, HPu'⟩ := HZ
      have HPu : Hid (∀ j c, l[j]? = some c → j ≠ i → RxP v0 B g0 r2 r3 k2 k3 j (RxMix l k i j c)) := HPu'
      replace w3 := w3.of_block fun b hb => hus b (w3.lt hb).2 (n3 b hb) (fun h => D.own2_3 i c i c b HC.out HC.out h hb)
      have HO2 : Hid (∀ b, b < w.heap.size → ¬ RxIn (some ⟨R, 0, none⟩) l r2 r3 b → v0.heap[b]? = w.heap[b]?) := fun b hb hn => (hus b (by have := hBz; omega) (fun e => hn (.inl ((HIN b).2 e))) (fun h => hn (.inr ⟨i, c, HC.out, .inl h⟩))).trans (HO.out b hb hn)
      replace HO := HO2
      clear hB2 hO HS0 HPu' HO2 hus hf d0 d1 d2 d3 w2
      have hBz : w.heap.size ≤ v0.heap.size := hB.size
      obtain ⟨K0, hK0⟩ : ∃ K', (K + 2 : Nat) + c.share.length = K' := ⟨_, rfl⟩
      rw [hK0]
      have HK0' : Hid ((K + 2 : Nat) + c.share.length = K0) := hK0
      have hk0 : K0 ≤ (K + 2 : Nat) + c.share.length := by omega
      have hg0 : (K + 2 : Nat) + c.share.length ≤ K0 := by omega
      clear hK0
      have d0 := hrow.cell (i := i * 4) (by omega)
      rw [c0] at d0
      have d1 := hrow.cell (i := i * 4 + 1) (by omega)
      rw [c1] at d1
      have d2 := hrow.cell (i := i * 4 + 2) (by omega)
      rw [c2] at d2
      have d3 := hrow.cell (i := i * 4 + 3) (by omega)
      rw [c3] at d3
      have hf := hrow.frozen
      have HS1 : Hid (∀ (_ : Unit), (∃ g, v0.rowIs R 67 m g ∧ (g (i * 4) = .bool (((K : Int)) % 3 == 0) ∧ g (i * 4 + 1) = .int .i64 ((K : Int) + 1) ∧ g (i * 4 + 2) = .slice (r2 i) c.share.length (k2 i) ∧ g (i * 4 + 3) = .slice (r3 i) c.read.length (k3 i)) ∧ (∀ j c, l[j]? = some c → j ≠ i → RxP v0 B g r2 r3 k2 k3 j (RxMix l k i j c))) ∧ Below B w v0 ∧ (∀ b, b ≠ R → v0.heap[b]? = v0.heap[b]?)) := fun _ => by
        have hus : ∀ b, b ≠ R → v0.heap[b]? = v0.heap[b]? := fun b hb => by rfl
        refine ⟨⟨_, hrow, ⟨by exact c0, by exact c1, by exact c2, by exact c3⟩, fun j c' hj hne => ?_⟩, hB, hus⟩
        obtain ⟨a0, a1, a2, a3, x2, z2, x3, z3⟩ := HPu.out j c' hj hne
        exact ⟨by exact a0, by exact a1, by exact a2, by exact a3, x2.of_block fun b hb => hus b fun e => D.row2 j c' b hj (by rw [RxMix_share] at hb; exact hb) ((HIN b).2 e), z2.of_block fun b hb => hus b fun e => D.row2 j c' b hj (by rw [RxMix_share] at hb; exact hb) ((HIN b).2 e), x3.of_block fun b hb => hus b fun e => D.row3 j c' b hj (by rw [RxMix_read] at hb; exact hb) ((HIN b).2 e), z3.of_block fun b hb => hus b fun e => D.row3 j c' b hj (by rw [RxMix_read] at hb; exact hb) ((HIN b).2 e)⟩
      clear hrow hB HPu c0 c1 c2 c3
      go_wp2_with fail
      have EK : Hid ((K0 : Int) = ((K0 : Nat) : Int)) := by show _ = _; omega
      first | rw [EK.out] | skip
      clear EK
      refine (markIntS_any _ _ c.read.length B (K0 : Nat) _ w3 (by omega)).mono ?_
      rintro r v1 ⟨rfl, H3, S3, hB2, hO⟩
      have hB : Below B w v1 := (HS1.out ()).2.1.trans hB2
      have hus : ∀ b, b < v0.heap.size → b ≠ R → ¬ InI (r3 i) c.read.length b → v1.heap[b]? = v0.heap[b]? := fun b hb h1 h3 => hO b hb h3
      have hz1 : v0.heap.size ≤ v1.heap.size := by have := hB2.size; simpa using this
      have HZ : ∃ g, v1.rowIs R 67 m g ∧ (g (i * 4) = .bool (((K : Int)) % 3 == 0) ∧ g (i * 4 + 1) = .int .i64 ((K : Int) + 1) ∧ g (i * 4 + 2) = .slice (r2 i) c.share.length (k2 i) ∧ g (i * 4 + 3) = .slice (r3 i) c.read.length (k3 i)) ∧ (∀ j c, l[j]? = some c → j ≠ i → RxP v1 B g r2 r3 k2 k3 j (RxMix l k i j c)) := by
        obtain ⟨g, h1, h3, h4⟩ := (HS1.out ()).1
        refine ⟨g, h1.of_block (hO R h1.lt (fun hb => n3 R hb rfl)), h3, fun j c' hj hne => ?_⟩
        have p0 := h4 j c' hj hne
        exact p0.of_block (w' := v1) (fun b hb => hO b (p0.lt (.inl hb)).2 (fun h => D.own2_3 j c' i c b hj HC.out (by rw [RxMix_share] at hb; exact hb) h)) (fun b hb => hO b (p0.lt (.inr (hb))).2 (fun h => D.own3_3 i c j c' b HC.out hj (fun e => hne e.symm) h (by rw [RxMix_read] at hb; exact hb)))
      obtain ⟨g1, hrow, ⟨c0, c1, c2, c3⟩, HPu'⟩ := HZ
      have HPu : Hid (∀ j c, l[j]? = some c → j ≠ i → RxP v1 B g1 r2 r3 k2 k3 j (RxMix l k i j c)) := HPu'
      replace H2 := H2.of_block fun b hb => hus b (S2.lt (by rw [markZ_length] at hb; exact hb)).2 (n2 b (by rw [markZ_length] at hb; exact hb)) (fun h => D.own2_3 i c i c b HC.out HC.out (by rw [markZ_length] at hb; exact hb) h)
      replace S2 := S2.of_block fun b hb => hus b (S2.lt hb).2 (n2 b hb) (fun h => D.own2_3 i c i c b HC.out HC.out hb h)
      have HO2 : Hid (∀ b, b < w.heap.size → ¬ RxIn (some ⟨R, 0, none⟩) l r2 r3 b → v1.heap[b]? = w.heap[b]?) := fun b hb hn => (hus b (by have := hBz; omega) (fun e => hn (.inl ((HIN b).2 e))) (fun h => hn (.inr ⟨i, c, HC.out, .inr (h)⟩))).trans (HO.out b hb hn)
      replace HO := HO2
      clear hB2 hO HS1 HPu' HO2 hus hf d0 d1 d2 d3 w3
      have hBz : w.heap.size ≤ v1.heap.size := hB.size
      obtain ⟨K1, hK1⟩ : ∃ K', (K0 : Nat) + c.read.length = K' := ⟨_, rfl⟩
      rw [hK1]
      have HK1' : Hid ((K0 : Nat) + c.read.length = K1) := hK1
      have hk1 : K1 ≤ (K0 : Nat) + c.read.length := by omega
      have hg1 : (K0 : Nat) + c.read.length ≤ K1 := by omega
      clear hK1
      have d0 := hrow.cell (i := i * 4) (by omega)
      rw [c0] at d0
      have d1 := hrow.cell (i := i * 4 + 1) (by omega)
      rw [c1] at d1
      have d2 := hrow.cell (i := i * 4 + 2) (by omega)
      rw [c2] at d2
      have d3 := hrow.cell (i := i * 4 + 3) (by omega)
      rw [c3] at d3
      have hf := hrow.frozen
      have HS2 : Hid (∀ (_ : Unit), (∃ g, v1.rowIs R 67 m g ∧ (g (i * 4) = .bool (((K : Int)) % 3 == 0) ∧ g (i * 4 + 1) = .int .i64 ((K : Int) + 1) ∧ g (i * 4 + 2) = .slice (r2 i) c.share.length (k2 i) ∧ g (i * 4 + 3) = .slice (r3 i) c.read.length (k3 i)) ∧ (∀ j c, l[j]? = some c → j ≠ i → RxP v1 B g r2 r3 k2 k3 j (RxMix l k i j c))) ∧ Below B w v1 ∧ (∀ b, b ≠ R → v1.heap[b]? = v1.heap[b]?)) := fun _ => by
        have hus : ∀ b, b ≠ R → v1.heap[b]? = v1.heap[b]? := fun b hb => by rfl
        refine ⟨⟨_, hrow, ⟨by exact c0, by exact c1, by exact c2, by exact c3⟩, fun j c' hj hne => ?_⟩, hB, hus⟩
        obtain ⟨a0, a1, a2, a3, x2, z2, x3, z3⟩ := HPu.out j c' hj hne
        exact ⟨by exact a0, by exact a1, by exact a2, by exact a3, x2.of_block fun b hb => hus b fun e => D.row2 j c' b hj (by rw [RxMix_share] at hb; exact hb) ((HIN b).2 e), z2.of_block fun b hb => hus b fun e => D.row2 j c' b hj (by rw [RxMix_share] at hb; exact hb) ((HIN b).2 e), x3.of_block fun b hb => hus b fun e => D.row3 j c' b hj (by rw [RxMix_read] at hb; exact hb) ((HIN b).2 e), z3.of_block fun b hb => hus b fun e => D.row3 j c' b hj (by rw [RxMix_read] at hb; exact hb) ((HIN b).2 e)⟩
      clear hrow hB HPu c0 c1 c2 c3
      have HFIN : Hid (∀ (_ : Unit), (∃ g, v1.rowIs R 67 m g ∧ Hid (∀ j c, l[j]? = some c → RxP v1 B g r2 r3 k2 k3 j (RxMix l k (i + 1) j c))) ∧ Below B w v1 ∧ Hid (∀ b, b < w.heap.size → ¬ RxIn (some ⟨R, 0, none⟩) l r2 r3 b → v1.heap[b]? = w.heap[b]?)) := fun _  => by
        obtain ⟨⟨g, h1, ⟨e0, e1, e2, e3⟩, h4⟩, h5, -⟩ := HS2.out ()
        refine ⟨⟨g, h1, fun j c' hj => ?_⟩, h5, fun b hb hn => HO.out b hb hn⟩
        by_cases ej : j = i
        · subst ej
          have ec : c' = c := by have := HC.out; rw [hj] at this; exact Option.some.inj this
          subst ec
          have em : RxMix l k (j + 1) j c' = RxM K c' := by simp [RxMix, HK.out]
          rw [em]
          refine ⟨?_, ?_, ?_, ?_, ?_, ?_, ?_, ?_⟩
          · rw [e0]; first | rfl | (show Value.bool _ = Value.bool _; congr 1; show _ = mkO _; unfold mkO; congr 2; have := HK0'.out; have := HK1'.out; omega)
          · rw [e1]; first | rfl | (show Value.int .i64 _ = Value.int .i64 _; congr 1; show _ = (((_ : Nat)) : Int); have := HK0'.out; have := HK1'.out; omega)
          · rw [e2, RxM_share]
          · rw [e3, RxM_read]
          · have e9 : K + 2 = (K + 2 : Nat) := by have := HK0'.out; have := HK1'.out; omega
            show Ints _ _ (markZ (K + 2) c'.share.length)
            rw [e9]
            exact H2
          · rw [RxM_share]; exact S2
          · have e9 : K + 2 + c'.share.length = (K0 : Nat) := by have := HK0'.out; have := HK1'.out; omega
            show Ints _ _ (markZ (K + 2 + c'.share.length) c'.read.length)
            rw [e9]
            exact H3
          · rw [RxM_read]; exact S3
        · have em : RxMix l k (i + 1) j c' = RxMix l k i j c' := by
            unfold RxMix
            by_cases hji : j < i
            · rw [if_pos hji, if_pos (by omega)]
            · rw [if_neg hji, if_neg (by omega)]
          rw [em]
          exact h4 j c' hj ej
      have HKE : Hid (RxK l k (i + 1) = K1) := by show _ = _; rw [HK1.out]; unfold RxT; have := HK0'.out; have := HK1'.out; omega
      clear HS2 HO H2 S2 n2 H3 S3 n3
      go_wp2
      go_roundw
      case rel =>
        obtain ⟨s1, s2, s3⟩ := HFIN.out () 
        exact ⟨i + 1, by omega, by first | (rw [HKE.out]; done) | (rw [HKE.out]; go_num), by go_num, s1, s2, s3⟩
      case measure => simp [intOf]; omega
    · obtain rfl : i = l.length := by omega
      go_wp2
      go_ret
      refine ⟨rfl, .inr ⟨R, m, f', rfl, hR, by rw [RxMs_length]; exact hm, hrow, fun j c hj => ?_⟩, hB, HO.out⟩
      obtain ⟨d, hd, rfl⟩ := RxMs_get hj
      have hjl := (List.getElem?_eq_some_iff.1 hd).1
      have := HP.out j d hd
      rwa [show RxMix l k l.length j d = RxM (RxK l k j) d by simp [RxMix, hjl]] at this

set_option maxRecDepth 100000 in
set_option maxHeartbeats 8000000 in
theorem heldReaderS_any (a : Option Addr) (cp B k : Nat) (l : List Rx) (r2 r3 : Nat → Option Addr) (k2 k3 : Nat → Nat) (w : World) (h : RxO w B a (RxMs l k) r2 r3 k2 k3) (h2 : RxK l k l.length ≤ 1000000000) (hl : l.length ≤ 1000000) :
    Calls Try.prog 48 #[.slice a l.length cp, .int .i64 (k : Int)] w fun r w' => r = .returned (.int .i64 ((RxK l k l.length : Nat) : Int)) ∧ w' = w := by
  go_enter Try.func48, Try.ntmps48
  go_wp2
  go_loop [1, 5] (fun x y => ∃ i : Nat, i ≤ l.length ∧ x = .int .i64 ((RxK l k i : Nat) : Int) ∧ y = .int .i64 (i : Int)) (fun _ y => l.length - (intOf y).toNat)
  case atStart => exact ⟨0, Nat.zero_le _, rfl, rfl⟩
  case round =>
    obtain ⟨i, hi, rfl, rfl⟩ := hrel
    by_cases hlt : i < l.length
    · obtain ⟨c, hc⟩ := getRx hlt
      have hK : RxK l k (i + 1) = RxK l k i + RxT c := RxK_succ hc
      have hKm := RxK_mono l k (i + 1) l.length (by omega)
      rcases h with h | ⟨R, m, f, rfl, hR, hm, hrow, hp⟩
      · have := RxMs_length l k
        rw [h] at this
        simp at this
        omega
      rw [RxMs_length] at hm
      obtain ⟨c0, c1, c2, c3, q2, -, q3, -⟩ := hp i _ (RxMs_at hc)
      obtain ⟨K, hKe⟩ : ∃ K, RxK l k i = K := ⟨_, rfl⟩
      rw [hKe] at hK c0 c1 c2 c3 q2 q3 ⊢
      have hKb : K + RxT c ≤ 1000000000 := by omega
      have HK1 : Hid (RxK l k (i + 1) = K + RxT c) := hK
      unfold RxT at hKb
      clear hKe hK hKm
      obtain ⟨K0, hK0⟩ : ∃ K', (K + 2 : Nat) + c.share.length = K' := ⟨_, rfl⟩
      obtain ⟨K1, hK1⟩ : ∃ K', (K0 : Nat) + c.read.length = K' := ⟨_, rfl⟩
      have d0 : w.cell? ⟨R, i * 4, none⟩ = some (.bool (((K : Int)) % 3 == 0)) := by rw [hrow.cell (by omega), c0]; first | rfl | (congr 1; show Value.bool _ = Value.bool _; congr 1; show mkO _ = _; unfold mkO; congr 2; omega)
      have b0 : (!((((K : Int)) % 3 == 0) == (((K : Int)) % 3 == 0))) = false := by simp
      have d1 : w.cell? ⟨R, i * 4 + 1, none⟩ = some (.int .i64 ((K : Int) + 1)) := by rw [hrow.cell (by omega), c1]; first | rfl | (congr 1; show Value.int .i64 _ = Value.int .i64 _; congr 1; show (((_ : Nat)) : Int) = _; omega)
      have d2 : w.cell? ⟨R, i * 4 + 2, none⟩ = some (.slice (r2 i) c.share.length (k2 i)) := by rw [hrow.cell (by omega), c2, RxM_share]
      replace q2 : Ints w (r2 i) (markZ (K + 2 : Nat) c.share.length) := by rw [show (K + 2 : Nat) = K + 2 from by omega]; exact q2
      have d3 : w.cell? ⟨R, i * 4 + 3, none⟩ = some (.slice (r3 i) c.read.length (k3 i)) := by rw [hrow.cell (by omega), c3, RxM_read]
      replace q3 : Ints w (r3 i) (markZ (K0 : Nat) c.read.length) := by rw [show (K0 : Nat) = K + 2 + c.share.length from by omega]; exact q3
      have HKE : Hid (RxK l k (i + 1) = K1) := by show _ = _; rw [HK1.out]; unfold RxT; omega
      have HK0' : Hid ((K + 2 : Nat) + c.share.length = K0) := hK0
      have hx0 : K0 ≤ 1000000000 := by omega
      have HK1' : Hid ((K0 : Nat) + c.read.length = K1) := hK1
      have hx1 : K1 ≤ 1000000000 := by omega
      clear c0 c1 c2 c3 hp hrow hc hK0 hK1
      go_wp2_with fail
      have EK : Hid ((K : Int) + 1 + 1 = ((K + 2 : Nat) : Int)) := by show _ = _; omega
      first | rw [EK.out] | skip
      clear EK
      refine (heldIntS_any _ _ c.share.length (K + 2 : Nat) _ q2 (by have := HK0'.out; omega)).mono ?_
      rintro r w' ⟨rfl, hw⟩
      rw [hw]
      clear hw w'
      rw [HK0'.out]
      have np0 : ¬ ((K0 : Nat) : Int) < 0 := by omega
      go_wp2_with fail
      have EK : Hid ((K0 : Int) = ((K0 : Nat) : Int)) := by show _ = _; omega
      first | rw [EK.out] | skip
      clear EK
      refine (heldIntS_any _ _ c.read.length (K0 : Nat) _ q3 (by have := HK1'.out; omega)).mono ?_
      rintro r w' ⟨rfl, hw⟩
      rw [hw]
      clear hw w'
      rw [HK1'.out]
      have np1 : ¬ ((K1 : Nat) : Int) < 0 := by omega
      go_wp2
      go_round
      case rel => exact ⟨i + 1, by omega, by first | (rw [HKE.out]; done) | (rw [HKE.out]; go_num), by go_num⟩
      case measure => simp [intOf]; omega
    · obtain rfl : i = l.length := by omega
      go_wp2
      go_ret
      exact ⟨rfl, rfl⟩

end Go.Proofs.Ytgiekkipkgdjaaa
