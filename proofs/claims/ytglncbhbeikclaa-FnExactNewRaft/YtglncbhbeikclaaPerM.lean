/-
  Lists of Peer that a call owns: where their own lists lie, that all of it lies apart, and the contracts of markPeerS and heldPeerS. Made by mkbags.py.
-/
import Derived.Test.YtglncbhbeikclaaPer
import Derived.Test.YtglncbhbeikclaaEryM
namespace Go.Proofs.Ytglncbhbeikclaa
open Go.RowKit

/-- The j-th, by a row's cells: its own lists at these places, in room from B on. -/
def PeP (w : World) (B : Nat) (f : Nat → Value) (r2 r4 : Nat → Option Addr) (k2 k4 : Nat → Nat) (j : Nat) (c : Pe) : Prop :=
  f (j * 5) = .int .i64 c.term ∧ f (j * 5 + 1) = .bool c.leads ∧ f (j * 5 + 2) = .slice (r2 j) c.log.length (k2 j) ∧ f (j * 5 + 3) = .int .i64 c.commit ∧ f (j * 5 + 4) = .slice (r4 j) c.mat.length (k4 j) ∧ Ens w (r2 j) c.log ∧ RowEn w B (r2 j) c.log.length ∧ Ints w (r4 j) c.mat ∧ RowI w B (r4 j) c.mat.length

/-- The list lies in a row that may be written. -/
def PeO (w : World) (B : Nat) (a : Option Addr) (l : List Pe) (r2 r4 : Nat → Option Addr) (k2 k4 : Nat → Nat) : Prop :=
  l = [] ∨ ∃ R m f, a = some ⟨R, 0, none⟩ ∧ B ≤ R ∧ l.length * 5 ≤ m ∧ w.rowIs R 63 m f ∧ ∀ j c, l[j]? = some c → PeP w B f r2 r4 k2 k4 j c

/-- Whose block it is: the row's own, or one of the lists'. -/
def PeIn (a : Option Addr) (l : List Pe) (r2 r4 : Nat → Option Addr) (b : Nat) : Prop :=
  InI a l.length b ∨ ∃ j c, l[j]? = some c ∧ (InI (r2 j) c.log.length b ∨ InI (r4 j) c.mat.length b)

/-- All of it lies apart. -/
structure PeD (a : Option Addr) (l : List Pe) (r2 r4 : Nat → Option Addr) : Prop where
  row2 : ∀ j c b, l[j]? = some c → InI (r2 j) c.log.length b → ¬ InI a l.length b
  row4 : ∀ j c b, l[j]? = some c → InI (r4 j) c.mat.length b → ¬ InI a l.length b
  own2_2 : ∀ j c j' c' b, l[j]? = some c → l[j']? = some c' → j ≠ j' → InI (r2 j) c.log.length b → ¬ InI (r2 j') c'.log.length b
  own2_4 : ∀ j c j' c' b, l[j]? = some c → l[j']? = some c' → InI (r2 j) c.log.length b → ¬ InI (r4 j') c'.mat.length b
  own4_4 : ∀ j c j' c' b, l[j]? = some c → l[j']? = some c' → j ≠ j' → InI (r4 j) c.mat.length b → ¬ InI (r4 j') c'.mat.length b

theorem PeP.of_block {w w' : World} {B : Nat} {f : Nat → Value} {r2 r4 : Nat → Option Addr} {k2 k4 : Nat → Nat} {j : Nat} {c : Pe} (h : PeP w B f r2 r4 k2 k4 j c) (h2 : ∀ b, InI (r2 j) c.log.length b → w'.heap[b]? = w.heap[b]?) (h4 : ∀ b, InI (r4 j) c.mat.length b → w'.heap[b]? = w.heap[b]?) : PeP w' B f r2 r4 k2 k4 j c := by
  obtain ⟨c0, c1, c2, c3, c4, q2, w2, q4, w4⟩ := h
  exact ⟨c0, c1, c2, c3, c4, q2.of_block h2, w2.of_block h2, q4.of_block h4, w4.of_block h4⟩

theorem PeP.lt {w : World} {B : Nat} {f : Nat → Value} {r2 r4 : Nat → Option Addr} {k2 k4 : Nat → Nat} {j : Nat} {c : Pe} (h : PeP w B f r2 r4 k2 k4 j c) {b : Nat} (hb : InI (r2 j) c.log.length b ∨ InI (r4 j) c.mat.length b) : B ≤ b ∧ b < w.heap.size := by
  obtain ⟨c0, c1, c2, c3, c4, q2, w2, q4, w4⟩ := h
  rcases hb with hb | hb
  · exact w2.lt hb
  · exact w4.lt hb

theorem PeO.of_block {w w' : World} {B : Nat} {a : Option Addr} {l : List Pe} {r2 r4 : Nat → Option Addr} {k2 k4 : Nat → Nat} (h : PeO w B a l r2 r4 k2 k4) (hs : ∀ b, PeIn a l r2 r4 b → w'.heap[b]? = w.heap[b]?) : PeO w' B a l r2 r4 k2 k4 := by
  rcases h with h | ⟨R, m, f, rfl, hR, hm, hrow, hp⟩
  · exact .inl h
  · by_cases h0 : l = []
    · exact .inl h0
    · have hpos : 0 < l.length := Nat.pos_of_ne_zero fun e => h0 (List.eq_nil_of_length_eq_zero e)
      exact .inr ⟨R, m, f, rfl, hR, hm, hrow.of_block (hs R (.inl ⟨hpos, 0, none, rfl⟩)), fun j c hj => (hp j c hj).of_block (fun b hb => hs b (.inr ⟨j, c, hj, .inl hb⟩)) (fun b hb => hs b (.inr ⟨j, c, hj, .inr (hb)⟩))⟩

theorem PeO.lt {w : World} {B : Nat} {a : Option Addr} {l : List Pe} {r2 r4 : Nat → Option Addr} {k2 k4 : Nat → Nat} (h : PeO w B a l r2 r4 k2 k4) {b : Nat} (hb : PeIn a l r2 r4 b) : B ≤ b ∧ b < w.heap.size := by
  rcases h with rfl | ⟨R, m, f, rfl, hR, hm, hrow, hp⟩
  · rcases hb with ⟨h, -⟩ | ⟨j, c, hj, -⟩
    · simp at h
    · simp at hj
  · rcases hb with ⟨-, o, s, e⟩ | ⟨j, c, hj, hb⟩
    · simp only [Option.some.injEq, Addr.mk.injEq] at e
      have := hrow.lt
      omega
    · exact (hp j c hj).lt hb

theorem PeO.below {w w' : World} {B : Nat} {a : Option Addr} {l : List Pe} {r2 r4 : Nat → Option Addr} {k2 k4 : Nat → Nat} (h : PeO w B a l r2 r4 k2 k4) (hb : Below w.heap.size w w') : PeO w' B a l r2 r4 k2 k4 :=
  h.of_block fun b hi => hb.block b (h.lt hi).2

theorem PeO.reads {w : World} {B : Nat} {a : Option Addr} {l : List Pe} {r2 r4 : Nat → Option Addr} {k2 k4 : Nat → Nat} (h : PeO w B a l r2 r4 k2 k4) (hl : ∀ c, c ∈ l → c.log.length ≤ maxLen ∧ c.mat.length ≤ maxLen) : Pes w a l := fun j c hj => by
  have hlt := (List.getElem?_eq_some_iff.1 hj).1
  rcases h with rfl | ⟨R, m, f, rfl, hR, hm, hrow, hp⟩
  · simp at hj
  · obtain ⟨c0, c1, c2, c3, c4, q2, -, q4, -⟩ := hp j c hj
    have hmx := hl c (List.mem_of_getElem? hj)
    refine ⟨R, 0, rfl, r2 j, k2 j, r4 j, k4 j, ?_, ?_, ?_, ?_, ?_, q2, hmx.1, q4, hmx.2⟩
    · rw [Nat.zero_add, hrow.cell (by omega), c0]
    · rw [Nat.zero_add, hrow.cell (by omega), c1]
    · rw [Nat.zero_add, hrow.cell (by omega), c2]
    · rw [Nat.zero_add, hrow.cell (by omega), c3]
    · rw [Nat.zero_add, hrow.cell (by omega), c4]

def PeT (c : Pe) : Nat := 3 + 2 * c.log.length + c.mat.length
/-- Marked from k on. -/
def PeM (k : Nat) (c : Pe) : Pe := ⟨((k : Nat) : Int), mkO (k + 1), EnMk (k + 2) c.log.length, ((k + 2 + 2 * c.log.length : Nat) : Int), markZ (k + 3 + 2 * c.log.length) c.mat.length⟩
def PeK (l : List Pe) (k : Nat) : Nat → Nat
  | 0 => k
  | j + 1 => PeK l k j + match l[j]? with
    | some c => PeT c
    | none => 0
theorem PeK_succ {l : List Pe} {k j : Nat} {c : Pe} (h : l[j]? = some c) : PeK l k (j + 1) = PeK l k j + PeT c := by rw [PeK, h]
theorem PeK_mono (l : List Pe) (k : Nat) : ∀ i j, i ≤ j → PeK l k i ≤ PeK l k j
  | i, 0, h => by rw [Nat.le_zero.1 h]; exact Nat.le_refl _
  | i, j + 1, h => by
    by_cases e : i = j + 1
    · rw [e]; exact Nat.le_refl _
    · have := PeK_mono l k i j (by omega)
      rw [PeK]; omega
theorem PeM_log (k : Nat) (c : Pe) : (PeM k c).log.length = c.log.length := by simp [PeM, EnMk_length]
theorem PeM_mat (k : Nat) (c : Pe) : (PeM k c).mat.length = c.mat.length := by simp [PeM, markZ_length]

/-- The first i are marked. -/
def PeMix (l : List Pe) (k i j : Nat) (c : Pe) : Pe := if j < i then PeM (PeK l k j) c else c
theorem PeMix_log (l : List Pe) (k i j : Nat) (c : Pe) : (PeMix l k i j c).log.length = c.log.length := by unfold PeMix; split <;> simp [PeM_log]
theorem PeMix_mat (l : List Pe) (k i j : Nat) (c : Pe) : (PeMix l k i j c).mat.length = c.mat.length := by unfold PeMix; split <;> simp [PeM_mat]

/-- All of them marked. -/
def PeMs (l : List Pe) (k : Nat) : List Pe := l.mapIdx fun j c => PeM (PeK l k j) c
theorem PeMs_length (l : List Pe) (k : Nat) : (PeMs l k).length = l.length := by simp [PeMs]
theorem PeMs_get {l : List Pe} {k j : Nat} {c : Pe} (h : (PeMs l k)[j]? = some c) : ∃ d, l[j]? = some d ∧ c = PeM (PeK l k j) d := by
  simp only [PeMs, List.getElem?_mapIdx, Option.map_eq_some_iff] at h
  obtain ⟨d, h1, h2⟩ := h
  exact ⟨d, h1, h2.symm⟩
theorem PeMs_at {l : List Pe} {k j : Nat} {c : Pe} (h : l[j]? = some c) : (PeMs l k)[j]? = some (PeM (PeK l k j) c) := by
  simp only [PeMs, List.getElem?_mapIdx, h, Option.map_some]

set_option maxRecDepth 100000 in
set_option maxHeartbeats 8000000 in
theorem markPeerS_any (a : Option Addr) (cp B k : Nat) (l : List Pe) (r2 r4 : Nat → Option Addr) (k2 k4 : Nat → Nat) (w : World) (h : PeO w B a l r2 r4 k2 k4) (D : PeD a l r2 r4) (hl : l.length ≤ 1000000) (h2 : PeK l k l.length ≤ 1000000000) :
    Calls Try.prog 39 #[.slice a l.length cp, .int .i64 (k : Int)] w fun r w' => r = .returned (.int .i64 ((PeK l k l.length : Nat) : Int)) ∧ PeO w' B a (PeMs l k) r2 r4 k2 k4 ∧ Below B w w' ∧ ∀ b, b < w.heap.size → ¬ PeIn a l r2 r4 b → w'.heap[b]? = w.heap[b]? := by
  by_cases h0 : l = []
  · subst h0
    go_enter Try.func39, Try.ntmps39
    go_wp2
    go_loopw [1, 5] (fun x y wr => x = .int .i64 (k : Int) ∧ y = .int .i64 0 ∧ w = wr) (fun _ _ _ => 0)
    case atStart => exact ⟨rfl, rfl, rfl⟩
    case round =>
      obtain ⟨rfl, rfl, rfl⟩ := hrel
      go_wp2
      go_ret
      exact ⟨rfl, .inl rfl, Below.refl _ _, fun _ _ _ => rfl⟩
  obtain ⟨R, m, f, rfl, hR, hm, hrow, hp⟩ := h.resolve_left h0
  have hpos : 0 < l.length := Nat.pos_of_ne_zero fun e => h0 (List.eq_nil_of_length_eq_zero e)
  have HIN : ∀ b, InI (some ⟨R, 0, none⟩) l.length b ↔ b = R := fun b => ⟨fun ⟨_, o, s, e⟩ => by simp at e; omega, fun e => ⟨hpos, 0, none, by simp [e]⟩⟩
  have hRz := hrow.lt
  go_enter Try.func39, Try.ntmps39
  go_wp2
  go_loopw [1, 5] (fun x y wr => ∃ i : Nat, i ≤ l.length ∧ x = .int .i64 ((PeK l k i : Nat) : Int) ∧ y = .int .i64 (i : Int) ∧ (∃ f', wr.rowIs R 63 m f' ∧ Hid (∀ j c, l[j]? = some c → PeP wr B f' r2 r4 k2 k4 j (PeMix l k i j c))) ∧ Below B w wr ∧ Hid (∀ b, b < w.heap.size → ¬ PeIn (some ⟨R, 0, none⟩) l r2 r4 b → wr.heap[b]? = w.heap[b]?)) (fun _ y _ => l.length - (intOf y).toNat)
  case atStart => exact ⟨0, Nat.zero_le _, rfl, rfl, ⟨f, hrow, fun j c hj => by simpa [PeMix] using hp j c hj⟩, Below.refl _ _, fun _ _ _ => rfl⟩
  case round =>
    clear hrow hp h
    obtain ⟨i, hi, rfl, rfl, ⟨f', hrow, HP⟩, hB, HO⟩ := hrel
    by_cases hlt : i < l.length
    · obtain ⟨c, hc⟩ := getPe hlt
      have HC : Hid (l[i]? = some c) := hc
      have hK : PeK l k (i + 1) = PeK l k i + PeT c := PeK_succ hc
      have hKm := PeK_mono l k (i + 1) l.length (by omega)
      have hpi := HP.out i c hc
      rw [show PeMix l k i i c = c by simp [PeMix]] at hpi
      obtain ⟨c0, c1, c2, c3, c4, q2, w2, q4, w4⟩ := hpi
      obtain ⟨K, hKe⟩ : ∃ K, PeK l k i = K := ⟨_, rfl⟩
      have HK : Hid (PeK l k i = K) := hKe
      rw [hKe] at hK ⊢
      have hKb : K + PeT c ≤ 1000000000 := by omega
      have HK1 : Hid (PeK l k (i + 1) = K + PeT c) := hK
      unfold PeT at hKb
      clear hKe hK hc hKm
      have hBz : w.heap.size ≤ wr.heap.size := hB.size
      have HPu : Hid (∀ j c, l[j]? = some c → j ≠ i → PeP wr B f' r2 r4 k2 k4 j (PeMix l k i j c)) := fun j c hj _ => HP.out j c hj
      clear HP
      have n2 : ∀ b, InI (r2 i) c.log.length b → b ≠ R := fun b hb e => D.row2 i c b HC.out hb ((HIN b).2 e)
      have n4 : ∀ b, InI (r4 i) c.mat.length b → b ≠ R := fun b hb e => D.row4 i c b HC.out hb ((HIN b).2 e)
      clear q2
      clear q4
      have d0 := hrow.cell (i := i * 5) (by omega)
      rw [c0] at d0
      have d1 := hrow.cell (i := i * 5 + 1) (by omega)
      rw [c1] at d1
      have d2 := hrow.cell (i := i * 5 + 2) (by omega)
      rw [c2] at d2
      have d3 := hrow.cell (i := i * 5 + 3) (by omega)
      rw [c3] at d3
      have d4 := hrow.cell (i := i * 5 + 4) (by omega)
      rw [c4] at d4
      have hf := hrow.frozen
      have HS0 : Hid (∀ y0 y1, (∃ g, ((wr.setCell ⟨R, i * 5, none⟩ y0).setCell ⟨R, i * 5 + 1, none⟩ y1).rowIs R 63 m g ∧ (g (i * 5) = y0 ∧ g (i * 5 + 1) = y1 ∧ g (i * 5 + 2) = .slice (r2 i) c.log.length (k2 i) ∧ g (i * 5 + 3) = .int .i64 c.commit ∧ g (i * 5 + 4) = .slice (r4 i) c.mat.length (k4 i)) ∧ (∀ j c, l[j]? = some c → j ≠ i → PeP ((wr.setCell ⟨R, i * 5, none⟩ y0).setCell ⟨R, i * 5 + 1, none⟩ y1) B g r2 r4 k2 k4 j (PeMix l k i j c))) ∧ Below B w ((wr.setCell ⟨R, i * 5, none⟩ y0).setCell ⟨R, i * 5 + 1, none⟩ y1) ∧ (∀ b, b ≠ R → ((wr.setCell ⟨R, i * 5, none⟩ y0).setCell ⟨R, i * 5 + 1, none⟩ y1).heap[b]? = wr.heap[b]?)) := fun y0 y1 => by
        have hus : ∀ b, b ≠ R → ((wr.setCell ⟨R, i * 5, none⟩ y0).setCell ⟨R, i * 5 + 1, none⟩ y1).heap[b]? = wr.heap[b]? := fun b hb => by rw [Below.heap_setCell _ ⟨R, _, none⟩ _ b (by simpa using hb), Below.heap_setCell _ ⟨R, _, none⟩ _ b (by simpa using hb)]
        refine ⟨⟨_, ((hrow.set _ _).set _ _), ⟨by simp, by simp, by (try dsimp only); rw [if_neg (by omega), if_neg (by omega)]; exact c2, by (try dsimp only); rw [if_neg (by omega), if_neg (by omega)]; exact c3, by (try dsimp only); rw [if_neg (by omega), if_neg (by omega)]; exact c4⟩, fun j c' hj hne => ?_⟩, ((hB.setCell hR _).setCell hR _), hus⟩
        obtain ⟨a0, a1, a2, a3, a4, x2, z2, x4, z4⟩ := HPu.out j c' hj hne
        exact ⟨by (try dsimp only); rw [if_neg (by omega), if_neg (by omega)]; exact a0, by (try dsimp only); rw [if_neg (by omega), if_neg (by omega)]; exact a1, by (try dsimp only); rw [if_neg (by omega), if_neg (by omega)]; exact a2, by (try dsimp only); rw [if_neg (by omega), if_neg (by omega)]; exact a3, by (try dsimp only); rw [if_neg (by omega), if_neg (by omega)]; exact a4, x2.of_block fun b hb => hus b fun e => D.row2 j c' b hj (by rw [PeMix_log] at hb; exact hb) ((HIN b).2 e), z2.of_block fun b hb => hus b fun e => D.row2 j c' b hj (by rw [PeMix_log] at hb; exact hb) ((HIN b).2 e), x4.of_block fun b hb => hus b fun e => D.row4 j c' b hj (by rw [PeMix_mat] at hb; exact hb) ((HIN b).2 e), z4.of_block fun b hb => hus b fun e => D.row4 j c' b hj (by rw [PeMix_mat] at hb; exact hb) ((HIN b).2 e)⟩
      clear hrow hB HPu c0 c1 c2 c3 c4
      go_wp2_with fail
      have EK : Hid ((K : Int) + 1 + 1 = ((K + 2 : Nat) : Int)) := by show _ = _; omega
      first | rw [EK.out] | skip
      clear EK
      refine (markEntryS_any _ _ c.log.length B (K + 2 : Nat) _ (w2.of_block fun b hb => (HS0.out _ _).2.2 b (n2 b hb)) (by omega)).mono ?_
      rintro r v0 ⟨rfl, H2, S2, hB2, hO⟩
      have hB : Below B w v0 := (HS0.out _ _).2.1.trans hB2
      have hus : ∀ b, b < wr.heap.size → b ≠ R → ¬ InI (r2 i) c.log.length b → v0.heap[b]? = wr.heap[b]? := fun b hb h1 h3 => (hO b (by simpa using hb) h3).trans ((HS0.out _ _).2.2 b h1)
      have hz0 : wr.heap.size ≤ v0.heap.size := by have := hB2.size; simpa using this
      have HZ : ∃ g, v0.rowIs R 63 m g ∧ (g (i * 5) = .int .i64 ((K : Int)) ∧ g (i * 5 + 1) = .bool (((K : Int) + 1) % 3 == 0) ∧ g (i * 5 + 2) = .slice (r2 i) c.log.length (k2 i) ∧ g (i * 5 + 3) = .int .i64 c.commit ∧ g (i * 5 + 4) = .slice (r4 i) c.mat.length (k4 i)) ∧ (∀ j c, l[j]? = some c → j ≠ i → PeP v0 B g r2 r4 k2 k4 j (PeMix l k i j c)) := by
        obtain ⟨g, h1, h3, h4⟩ := (HS0.out _ _).1
        refine ⟨g, h1.of_block (hO R h1.lt (fun hb => n2 R hb rfl)), h3, fun j c' hj hne => ?_⟩
        have p0 := h4 j c' hj hne
        exact p0.of_block (w' := v0) (fun b hb => hO b (p0.lt (.inl hb)).2 (fun h => D.own2_2 i c j c' b HC.out hj (fun e => hne e.symm) h (by rw [PeMix_log] at hb; exact hb))) (fun b hb => hO b (p0.lt (.inr (hb))).2 (fun h => D.own2_4 i c j c' b HC.out hj h (by rw [PeMix_mat] at hb; exact hb)))
      obtain ⟨g0, hrow, ⟨c0, c1, c2, c3, c4⟩, HPu'⟩ := HZ
      have HPu : Hid (∀ j c, l[j]? = some c → j ≠ i → PeP v0 B g0 r2 r4 k2 k4 j (PeMix l k i j c)) := HPu'
      replace w4 := w4.of_block fun b hb => hus b (w4.lt hb).2 (n4 b hb) (fun h => D.own2_4 i c i c b HC.out HC.out h hb)
      have HO2 : Hid (∀ b, b < w.heap.size → ¬ PeIn (some ⟨R, 0, none⟩) l r2 r4 b → v0.heap[b]? = w.heap[b]?) := fun b hb hn => (hus b (by have := hBz; omega) (fun e => hn (.inl ((HIN b).2 e))) (fun h => hn (.inr ⟨i, c, HC.out, .inl h⟩))).trans (HO.out b hb hn)
      replace HO := HO2
      clear hB2 hO HS0 HPu' HO2 hus hf d0 d1 d2 d3 d4 w2
      have hBz : w.heap.size ≤ v0.heap.size := hB.size
      obtain ⟨K0, hK0⟩ : ∃ K', (K + 2 : Nat) + 2 * c.log.length = K' := ⟨_, rfl⟩
      rw [hK0]
      have HK0' : Hid ((K + 2 : Nat) + 2 * c.log.length = K0) := hK0
      have hk0 : K0 ≤ (K + 2 : Nat) + 2 * c.log.length := by omega
      have hg0 : (K + 2 : Nat) + 2 * c.log.length ≤ K0 := by omega
      clear hK0
      have d0 := hrow.cell (i := i * 5) (by omega)
      rw [c0] at d0
      have d1 := hrow.cell (i := i * 5 + 1) (by omega)
      rw [c1] at d1
      have d2 := hrow.cell (i := i * 5 + 2) (by omega)
      rw [c2] at d2
      have d3 := hrow.cell (i := i * 5 + 3) (by omega)
      rw [c3] at d3
      have d4 := hrow.cell (i := i * 5 + 4) (by omega)
      rw [c4] at d4
      have hf := hrow.frozen
      have HS1 : Hid (∀ y3, (∃ g, (v0.setCell ⟨R, i * 5 + 3, none⟩ y3).rowIs R 63 m g ∧ (g (i * 5) = .int .i64 ((K : Int)) ∧ g (i * 5 + 1) = .bool (((K : Int) + 1) % 3 == 0) ∧ g (i * 5 + 2) = .slice (r2 i) c.log.length (k2 i) ∧ g (i * 5 + 3) = y3 ∧ g (i * 5 + 4) = .slice (r4 i) c.mat.length (k4 i)) ∧ (∀ j c, l[j]? = some c → j ≠ i → PeP (v0.setCell ⟨R, i * 5 + 3, none⟩ y3) B g r2 r4 k2 k4 j (PeMix l k i j c))) ∧ Below B w (v0.setCell ⟨R, i * 5 + 3, none⟩ y3) ∧ (∀ b, b ≠ R → (v0.setCell ⟨R, i * 5 + 3, none⟩ y3).heap[b]? = v0.heap[b]?)) := fun y3 => by
        have hus : ∀ b, b ≠ R → (v0.setCell ⟨R, i * 5 + 3, none⟩ y3).heap[b]? = v0.heap[b]? := fun b hb => by rw [Below.heap_setCell _ ⟨R, _, none⟩ _ b (by simpa using hb)]
        refine ⟨⟨_, (hrow.set _ _), ⟨by (try dsimp only); rw [if_neg (by omega)]; exact c0, by (try dsimp only); rw [if_neg (by omega)]; exact c1, by (try dsimp only); rw [if_neg (by omega)]; exact c2, by simp, by (try dsimp only); rw [if_neg (by omega)]; exact c4⟩, fun j c' hj hne => ?_⟩, (hB.setCell hR _), hus⟩
        obtain ⟨a0, a1, a2, a3, a4, x2, z2, x4, z4⟩ := HPu.out j c' hj hne
        exact ⟨by (try dsimp only); rw [if_neg (by omega)]; exact a0, by (try dsimp only); rw [if_neg (by omega)]; exact a1, by (try dsimp only); rw [if_neg (by omega)]; exact a2, by (try dsimp only); rw [if_neg (by omega)]; exact a3, by (try dsimp only); rw [if_neg (by omega)]; exact a4, x2.of_block fun b hb => hus b fun e => D.row2 j c' b hj (by rw [PeMix_log] at hb; exact hb) ((HIN b).2 e), z2.of_block fun b hb => hus b fun e => D.row2 j c' b hj (by rw [PeMix_log] at hb; exact hb) ((HIN b).2 e), x4.of_block fun b hb => hus b fun e => D.row4 j c' b hj (by rw [PeMix_mat] at hb; exact hb) ((HIN b).2 e), z4.of_block fun b hb => hus b fun e => D.row4 j c' b hj (by rw [PeMix_mat] at hb; exact hb) ((HIN b).2 e)⟩
      clear hrow hB HPu c0 c1 c2 c3 c4
      go_wp2_with fail
      have EK : Hid ((K0 : Int) + 1 = ((K0 + 1 : Nat) : Int)) := by show _ = _; omega
      first | rw [EK.out] | skip
      clear EK
      refine (markIntS_any _ _ c.mat.length B (K0 + 1 : Nat) _ (w4.of_block fun b hb => (HS1.out _).2.2 b (n4 b hb)) (by omega)).mono ?_
      rintro r v1 ⟨rfl, H4, S4, hB2, hO⟩
      have hB : Below B w v1 := (HS1.out _).2.1.trans hB2
      have hus : ∀ b, b < v0.heap.size → b ≠ R → ¬ InI (r4 i) c.mat.length b → v1.heap[b]? = v0.heap[b]? := fun b hb h1 h3 => (hO b (by simpa using hb) h3).trans ((HS1.out _).2.2 b h1)
      have hz1 : v0.heap.size ≤ v1.heap.size := by have := hB2.size; simpa using this
      have HZ : ∃ g, v1.rowIs R 63 m g ∧ (g (i * 5) = .int .i64 ((K : Int)) ∧ g (i * 5 + 1) = .bool (((K : Int) + 1) % 3 == 0) ∧ g (i * 5 + 2) = .slice (r2 i) c.log.length (k2 i) ∧ g (i * 5 + 3) = .int .i64 ((K0 : Int)) ∧ g (i * 5 + 4) = .slice (r4 i) c.mat.length (k4 i)) ∧ (∀ j c, l[j]? = some c → j ≠ i → PeP v1 B g r2 r4 k2 k4 j (PeMix l k i j c)) := by
        obtain ⟨g, h1, h3, h4⟩ := (HS1.out _).1
        refine ⟨g, h1.of_block (hO R h1.lt (fun hb => n4 R hb rfl)), h3, fun j c' hj hne => ?_⟩
        have p0 := h4 j c' hj hne
        exact p0.of_block (w' := v1) (fun b hb => hO b (p0.lt (.inl hb)).2 (fun h => D.own2_4 j c' i c b hj HC.out (by rw [PeMix_log] at hb; exact hb) h)) (fun b hb => hO b (p0.lt (.inr (hb))).2 (fun h => D.own4_4 i c j c' b HC.out hj (fun e => hne e.symm) h (by rw [PeMix_mat] at hb; exact hb)))
      obtain ⟨g1, hrow, ⟨c0, c1, c2, c3, c4⟩, HPu'⟩ := HZ
      have HPu : Hid (∀ j c, l[j]? = some c → j ≠ i → PeP v1 B g1 r2 r4 k2 k4 j (PeMix l k i j c)) := HPu'
      replace H2 := H2.of_block fun b hb => hus b (S2.lt (by rw [EnMk_length] at hb; exact hb)).2 (n2 b (by rw [EnMk_length] at hb; exact hb)) (fun h => D.own2_4 i c i c b HC.out HC.out (by rw [EnMk_length] at hb; exact hb) h)
      replace S2 := S2.of_block fun b hb => hus b (S2.lt hb).2 (n2 b hb) (fun h => D.own2_4 i c i c b HC.out HC.out hb h)
      have HO2 : Hid (∀ b, b < w.heap.size → ¬ PeIn (some ⟨R, 0, none⟩) l r2 r4 b → v1.heap[b]? = w.heap[b]?) := fun b hb hn => (hus b (by have := hBz; omega) (fun e => hn (.inl ((HIN b).2 e))) (fun h => hn (.inr ⟨i, c, HC.out, .inr (h)⟩))).trans (HO.out b hb hn)
      replace HO := HO2
      clear hB2 hO HS1 HPu' HO2 hus hf d0 d1 d2 d3 d4 w4
      have hBz : w.heap.size ≤ v1.heap.size := hB.size
      obtain ⟨K1, hK1⟩ : ∃ K', (K0 + 1 : Nat) + c.mat.length = K' := ⟨_, rfl⟩
      rw [hK1]
      have HK1' : Hid ((K0 + 1 : Nat) + c.mat.length = K1) := hK1
      have hk1 : K1 ≤ (K0 + 1 : Nat) + c.mat.length := by omega
      have hg1 : (K0 + 1 : Nat) + c.mat.length ≤ K1 := by omega
      clear hK1
      have d0 := hrow.cell (i := i * 5) (by omega)
      rw [c0] at d0
      have d1 := hrow.cell (i := i * 5 + 1) (by omega)
      rw [c1] at d1
      have d2 := hrow.cell (i := i * 5 + 2) (by omega)
      rw [c2] at d2
      have d3 := hrow.cell (i := i * 5 + 3) (by omega)
      rw [c3] at d3
      have d4 := hrow.cell (i := i * 5 + 4) (by omega)
      rw [c4] at d4
      have hf := hrow.frozen
      have HS2 : Hid (∀ (_ : Unit), (∃ g, v1.rowIs R 63 m g ∧ (g (i * 5) = .int .i64 ((K : Int)) ∧ g (i * 5 + 1) = .bool (((K : Int) + 1) % 3 == 0) ∧ g (i * 5 + 2) = .slice (r2 i) c.log.length (k2 i) ∧ g (i * 5 + 3) = .int .i64 ((K0 : Int)) ∧ g (i * 5 + 4) = .slice (r4 i) c.mat.length (k4 i)) ∧ (∀ j c, l[j]? = some c → j ≠ i → PeP v1 B g r2 r4 k2 k4 j (PeMix l k i j c))) ∧ Below B w v1 ∧ (∀ b, b ≠ R → v1.heap[b]? = v1.heap[b]?)) := fun _ => by
        have hus : ∀ b, b ≠ R → v1.heap[b]? = v1.heap[b]? := fun b hb => by rfl
        refine ⟨⟨_, hrow, ⟨by exact c0, by exact c1, by exact c2, by exact c3, by exact c4⟩, fun j c' hj hne => ?_⟩, hB, hus⟩
        obtain ⟨a0, a1, a2, a3, a4, x2, z2, x4, z4⟩ := HPu.out j c' hj hne
        exact ⟨by exact a0, by exact a1, by exact a2, by exact a3, by exact a4, x2.of_block fun b hb => hus b fun e => D.row2 j c' b hj (by rw [PeMix_log] at hb; exact hb) ((HIN b).2 e), z2.of_block fun b hb => hus b fun e => D.row2 j c' b hj (by rw [PeMix_log] at hb; exact hb) ((HIN b).2 e), x4.of_block fun b hb => hus b fun e => D.row4 j c' b hj (by rw [PeMix_mat] at hb; exact hb) ((HIN b).2 e), z4.of_block fun b hb => hus b fun e => D.row4 j c' b hj (by rw [PeMix_mat] at hb; exact hb) ((HIN b).2 e)⟩
      clear hrow hB HPu c0 c1 c2 c3 c4
      have HFIN : Hid (∀ (_ : Unit), (∃ g, v1.rowIs R 63 m g ∧ Hid (∀ j c, l[j]? = some c → PeP v1 B g r2 r4 k2 k4 j (PeMix l k (i + 1) j c))) ∧ Below B w v1 ∧ Hid (∀ b, b < w.heap.size → ¬ PeIn (some ⟨R, 0, none⟩) l r2 r4 b → v1.heap[b]? = w.heap[b]?)) := fun _  => by
        obtain ⟨⟨g, h1, ⟨e0, e1, e2, e3, e4⟩, h4⟩, h5, -⟩ := HS2.out ()
        refine ⟨⟨g, h1, fun j c' hj => ?_⟩, h5, fun b hb hn => HO.out b hb hn⟩
        by_cases ej : j = i
        · subst ej
          have ec : c' = c := by have := HC.out; rw [hj] at this; exact Option.some.inj this
          subst ec
          have em : PeMix l k (j + 1) j c' = PeM K c' := by simp [PeMix, HK.out]
          rw [em]
          refine ⟨?_, ?_, ?_, ?_, ?_, ?_, ?_, ?_, ?_⟩
          · rw [e0]; first | rfl | (show Value.int .i64 _ = Value.int .i64 _; congr 1; show _ = (((_ : Nat)) : Int); have := HK0'.out; have := HK1'.out; omega)
          · rw [e1]; first | rfl | (show Value.bool _ = Value.bool _; congr 1; show _ = mkO _; unfold mkO; congr 2; have := HK0'.out; have := HK1'.out; omega)
          · rw [e2, PeM_log]
          · rw [e3]; first | rfl | (show Value.int .i64 _ = Value.int .i64 _; congr 1; show _ = (((_ : Nat)) : Int); have := HK0'.out; have := HK1'.out; omega)
          · rw [e4, PeM_mat]
          · have e9 : K + 2 = (K + 2 : Nat) := by have := HK0'.out; have := HK1'.out; omega
            show Ens _ _ (EnMk (K + 2) c'.log.length)
            rw [e9]
            exact H2
          · rw [PeM_log]; exact S2
          · have e9 : K + 3 + 2 * c'.log.length = (K0 + 1 : Nat) := by have := HK0'.out; have := HK1'.out; omega
            show Ints _ _ (markZ (K + 3 + 2 * c'.log.length) c'.mat.length)
            rw [e9]
            exact H4
          · rw [PeM_mat]; exact S4
        · have em : PeMix l k (i + 1) j c' = PeMix l k i j c' := by
            unfold PeMix
            by_cases hji : j < i
            · rw [if_pos hji, if_pos (by omega)]
            · rw [if_neg hji, if_neg (by omega)]
          rw [em]
          exact h4 j c' hj ej
      have HKE : Hid (PeK l k (i + 1) = K1) := by show _ = _; rw [HK1.out]; unfold PeT; have := HK0'.out; have := HK1'.out; omega
      clear HS2 HO H2 S2 n2 H4 S4 n4
      go_wp2
      go_roundw
      case rel =>
        obtain ⟨s1, s2, s3⟩ := HFIN.out () 
        exact ⟨i + 1, by omega, by first | (rw [HKE.out]; done) | (rw [HKE.out]; go_num), by go_num, s1, s2, s3⟩
      case measure => simp [intOf]; omega
    · obtain rfl : i = l.length := by omega
      go_wp2
      go_ret
      refine ⟨rfl, .inr ⟨R, m, f', rfl, hR, by rw [PeMs_length]; exact hm, hrow, fun j c hj => ?_⟩, hB, HO.out⟩
      obtain ⟨d, hd, rfl⟩ := PeMs_get hj
      have hjl := (List.getElem?_eq_some_iff.1 hd).1
      have := HP.out j d hd
      rwa [show PeMix l k l.length j d = PeM (PeK l k j) d by simp [PeMix, hjl]] at this

set_option maxRecDepth 100000 in
set_option maxHeartbeats 8000000 in
theorem heldPeerS_any (a : Option Addr) (cp B k : Nat) (l : List Pe) (r2 r4 : Nat → Option Addr) (k2 k4 : Nat → Nat) (w : World) (h : PeO w B a (PeMs l k) r2 r4 k2 k4) (h2 : PeK l k l.length ≤ 1000000000) (hl : l.length ≤ 1000000) :
    Calls Try.prog 41 #[.slice a l.length cp, .int .i64 (k : Int)] w fun r w' => r = .returned (.int .i64 ((PeK l k l.length : Nat) : Int)) ∧ w' = w := by
  go_enter Try.func41, Try.ntmps41
  go_wp2
  go_loop [1, 5] (fun x y => ∃ i : Nat, i ≤ l.length ∧ x = .int .i64 ((PeK l k i : Nat) : Int) ∧ y = .int .i64 (i : Int)) (fun _ y => l.length - (intOf y).toNat)
  case atStart => exact ⟨0, Nat.zero_le _, rfl, rfl⟩
  case round =>
    obtain ⟨i, hi, rfl, rfl⟩ := hrel
    by_cases hlt : i < l.length
    · obtain ⟨c, hc⟩ := getPe hlt
      have hK : PeK l k (i + 1) = PeK l k i + PeT c := PeK_succ hc
      have hKm := PeK_mono l k (i + 1) l.length (by omega)
      rcases h with h | ⟨R, m, f, rfl, hR, hm, hrow, hp⟩
      · have := PeMs_length l k
        rw [h] at this
        simp at this
        omega
      rw [PeMs_length] at hm
      obtain ⟨c0, c1, c2, c3, c4, q2, -, q4, -⟩ := hp i _ (PeMs_at hc)
      obtain ⟨K, hKe⟩ : ∃ K, PeK l k i = K := ⟨_, rfl⟩
      rw [hKe] at hK c0 c1 c2 c3 c4 q2 q4 ⊢
      have hKb : K + PeT c ≤ 1000000000 := by omega
      have HK1 : Hid (PeK l k (i + 1) = K + PeT c) := hK
      unfold PeT at hKb
      clear hKe hK hKm
      obtain ⟨K0, hK0⟩ : ∃ K', (K + 2 : Nat) + 2 * c.log.length = K' := ⟨_, rfl⟩
      obtain ⟨K1, hK1⟩ : ∃ K', (K0 + 1 : Nat) + c.mat.length = K' := ⟨_, rfl⟩
      have d0 : w.cell? ⟨R, i * 5, none⟩ = some (.int .i64 ((K : Int))) := by rw [hrow.cell (by omega), c0]; first | rfl | (congr 1; show Value.int .i64 _ = Value.int .i64 _; congr 1; show (((_ : Nat)) : Int) = _; omega)
      have d1 : w.cell? ⟨R, i * 5 + 1, none⟩ = some (.bool (((K : Int) + 1) % 3 == 0)) := by rw [hrow.cell (by omega), c1]; first | rfl | (congr 1; show Value.bool _ = Value.bool _; congr 1; show mkO _ = _; unfold mkO; congr 2; omega)
      have b1 : (!((((K : Int) + 1) % 3 == 0) == (((K : Int) + 1) % 3 == 0))) = false := by simp
      have d2 : w.cell? ⟨R, i * 5 + 2, none⟩ = some (.slice (r2 i) c.log.length (k2 i)) := by rw [hrow.cell (by omega), c2, PeM_log]
      replace q2 : Ens w (r2 i) (EnMk (K + 2 : Nat) c.log.length) := by rw [show (K + 2 : Nat) = K + 2 from by omega]; exact q2
      have d3 : w.cell? ⟨R, i * 5 + 3, none⟩ = some (.int .i64 ((K0 : Int))) := by rw [hrow.cell (by omega), c3]; first | rfl | (congr 1; show Value.int .i64 _ = Value.int .i64 _; congr 1; show (((_ : Nat)) : Int) = _; omega)
      have d4 : w.cell? ⟨R, i * 5 + 4, none⟩ = some (.slice (r4 i) c.mat.length (k4 i)) := by rw [hrow.cell (by omega), c4, PeM_mat]
      replace q4 : Ints w (r4 i) (markZ (K0 + 1 : Nat) c.mat.length) := by rw [show (K0 + 1 : Nat) = K + 3 + 2 * c.log.length from by omega]; exact q4
      have HKE : Hid (PeK l k (i + 1) = K1) := by show _ = _; rw [HK1.out]; unfold PeT; omega
      have HK0' : Hid ((K + 2 : Nat) + 2 * c.log.length = K0) := hK0
      have hx0 : K0 ≤ 1000000000 := by omega
      have HK1' : Hid ((K0 + 1 : Nat) + c.mat.length = K1) := hK1
      have hx1 : K1 ≤ 1000000000 := by omega
      clear c0 c1 c2 c3 c4 hp hrow hc hK0 hK1
      go_wp2_with fail
      have EK : Hid ((K : Int) + 1 + 1 = ((K + 2 : Nat) : Int)) := by show _ = _; omega
      first | rw [EK.out] | skip
      clear EK
      refine (heldEntryS_any _ _ c.log.length (K + 2 : Nat) _ q2 (by have := HK0'.out; omega)).mono ?_
      rintro r w' ⟨rfl, hw⟩
      rw [hw]
      clear hw w'
      rw [HK0'.out]
      have np0 : ¬ ((K0 : Nat) : Int) < 0 := by omega
      go_wp2_with fail
      have EK : Hid ((K0 : Int) + 1 = ((K0 + 1 : Nat) : Int)) := by show _ = _; omega
      first | rw [EK.out] | skip
      clear EK
      refine (heldIntS_any _ _ c.mat.length (K0 + 1 : Nat) _ q4 (by have := HK1'.out; omega)).mono ?_
      rintro r w' ⟨rfl, hw⟩
      rw [hw]
      clear hw w'
      rw [HK1'.out]
      have np1 : ¬ ((K1 : Nat) : Int) < 0 := by omega
      go_wp2
      go_round
      case rel => exact ⟨i + 1, by omega, by first | (rw [HKE.out]; done) | (rw [HKE.out]; go_num), by go_num⟩
      case measure => simp [intOf]; omega
    · obtain rfl : i = l.length := by omega
      go_wp2
      go_ret
      exact ⟨rfl, rfl⟩

end Go.Proofs.Ytglncbhbeikclaa
