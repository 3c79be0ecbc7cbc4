/-
  Lists of Mail that a call owns: where their own lists lie, that all of it lies apart, and the contracts of markMailS and heldMailS. Made by mkbags.py.
-/
import Derived.Test.YtglncbhbeikclaaMal
import Derived.Test.YtglncbhbeikclaaEryM
namespace Go.Proofs.Ytglncbhbeikclaa
open Go.RowKit

/-- The j-th, by a row's cells: its own lists at these places, in room from B on. -/
def MaP (w : World) (B : Nat) (f : Nat → Value) (r6 : Nat → Option Addr) (k6 : Nat → Nat) (j : Nat) (c : Ma) : Prop :=
  f (j * 9) = .bool c.reply ∧ f (j * 9 + 1) = .int .i64 c.fr ∧ f (j * 9 + 2) = .int .i64 c.to ∧ f (j * 9 + 3) = .int .i64 c.term ∧ f (j * 9 + 4) = .int .i64 c.prev ∧ f (j * 9 + 5) = .int .i64 c.pterm ∧ f (j * 9 + 6) = .slice (r6 j) c.entry.length (k6 j) ∧ f (j * 9 + 7) = .int .i64 c.commit ∧ f (j * 9 + 8) = .int .i64 c.mat ∧ Ens w (r6 j) c.entry ∧ RowEn w B (r6 j) c.entry.length

/-- The list lies in a row that may be written. -/
def MaO (w : World) (B : Nat) (a : Option Addr) (l : List Ma) (r6 : Nat → Option Addr) (k6 : Nat → Nat) : Prop :=
  l = [] ∨ ∃ R m f, a = some ⟨R, 0, none⟩ ∧ B ≤ R ∧ l.length * 9 ≤ m ∧ w.rowIs R 73 m f ∧ ∀ j c, l[j]? = some c → MaP w B f r6 k6 j c

/-- Whose block it is: the row's own, or one of the lists'. -/
def MaIn (a : Option Addr) (l : List Ma) (r6 : Nat → Option Addr) (b : Nat) : Prop :=
  InI a l.length b ∨ ∃ j c, l[j]? = some c ∧ (InI (r6 j) c.entry.length b)

/-- All of it lies apart. -/
structure MaD (a : Option Addr) (l : List Ma) (r6 : Nat → Option Addr) : Prop where
  row6 : ∀ j c b, l[j]? = some c → InI (r6 j) c.entry.length b → ¬ InI a l.length b
  own6_6 : ∀ j c j' c' b, l[j]? = some c → l[j']? = some c' → j ≠ j' → InI (r6 j) c.entry.length b → ¬ InI (r6 j') c'.entry.length b

theorem MaP.of_block {w w' : World} {B : Nat} {f : Nat → Value} {r6 : Nat → Option Addr} {k6 : Nat → Nat} {j : Nat} {c : Ma} (h : MaP w B f r6 k6 j c) (h6 : ∀ b, InI (r6 j) c.entry.length b → w'.heap[b]? = w.heap[b]?) : MaP w' B f r6 k6 j c := by
  obtain ⟨c0, c1, c2, c3, c4, c5, c6, c7, c8, q6, w6⟩ := h
  exact ⟨c0, c1, c2, c3, c4, c5, c6, c7, c8, q6.of_block h6, w6.of_block h6⟩

theorem MaP.lt {w : World} {B : Nat} {f : Nat → Value} {r6 : Nat → Option Addr} {k6 : Nat → Nat} {j : Nat} {c : Ma} (h : MaP w B f r6 k6 j c) {b : Nat} (hb : InI (r6 j) c.entry.length b) : B ≤ b ∧ b < w.heap.size := by
  obtain ⟨c0, c1, c2, c3, c4, c5, c6, c7, c8, q6, w6⟩ := h
  skip
  exact w6.lt hb

theorem MaO.of_block {w w' : World} {B : Nat} {a : Option Addr} {l : List Ma} {r6 : Nat → Option Addr} {k6 : Nat → Nat} (h : MaO w B a l r6 k6) (hs : ∀ b, MaIn a l r6 b → w'.heap[b]? = w.heap[b]?) : MaO w' B a l r6 k6 := by
  rcases h with h | ⟨R, m, f, rfl, hR, hm, hrow, hp⟩
  · exact .inl h
  · by_cases h0 : l = []
    · exact .inl h0
    · have hpos : 0 < l.length := Nat.pos_of_ne_zero fun e => h0 (List.eq_nil_of_length_eq_zero e)
      exact .inr ⟨R, m, f, rfl, hR, hm, hrow.of_block (hs R (.inl ⟨hpos, 0, none, rfl⟩)), fun j c hj => (hp j c hj).of_block (fun b hb => hs b (.inr ⟨j, c, hj, hb⟩))⟩

theorem MaO.lt {w : World} {B : Nat} {a : Option Addr} {l : List Ma} {r6 : Nat → Option Addr} {k6 : Nat → Nat} (h : MaO w B a l r6 k6) {b : Nat} (hb : MaIn a l r6 b) : B ≤ b ∧ b < w.heap.size := by
  rcases h with rfl | ⟨R, m, f, rfl, hR, hm, hrow, hp⟩
  · rcases hb with ⟨h, -⟩ | ⟨j, c, hj, -⟩
    · simp at h
    · simp at hj
  · rcases hb with ⟨-, o, s, e⟩ | ⟨j, c, hj, hb⟩
    · simp only [Option.some.injEq, Addr.mk.injEq] at e
      have := hrow.lt
      omega
    · exact (hp j c hj).lt hb

theorem MaO.below {w w' : World} {B : Nat} {a : Option Addr} {l : List Ma} {r6 : Nat → Option Addr} {k6 : Nat → Nat} (h : MaO w B a l r6 k6) (hb : Below w.heap.size w w') : MaO w' B a l r6 k6 :=
  h.of_block fun b hi => hb.block b (h.lt hi).2

theorem MaO.reads {w : World} {B : Nat} {a : Option Addr} {l : List Ma} {r6 : Nat → Option Addr} {k6 : Nat → Nat} (h : MaO w B a l r6 k6) (hl : ∀ c, c ∈ l → c.entry.length ≤ maxLen) : Mas w a l := fun j c hj => by
  have hlt := (List.getElem?_eq_some_iff.1 hj).1
  rcases h with rfl | ⟨R, m, f, rfl, hR, hm, hrow, hp⟩
  · simp at hj
  · obtain ⟨c0, c1, c2, c3, c4, c5, c6, c7, c8, q6, -⟩ := hp j c hj
    have hmx := hl c (List.mem_of_getElem? hj)
    refine ⟨R, 0, rfl, r6 j, k6 j, ?_, ?_, ?_, ?_, ?_, ?_, ?_, ?_, ?_, q6, hmx⟩
    · rw [Nat.zero_add, hrow.cell (by omega), c0]
    · rw [Nat.zero_add, hrow.cell (by omega), c1]
    · rw [Nat.zero_add, hrow.cell (by omega), c2]
    · rw [Nat.zero_add, hrow.cell (by omega), c3]
    · rw [Nat.zero_add, hrow.cell (by omega), c4]
    · rw [Nat.zero_add, hrow.cell (by omega), c5]
    · rw [Nat.zero_add, hrow.cell (by omega), c6]
    · rw [Nat.zero_add, hrow.cell (by omega), c7]
    · rw [Nat.zero_add, hrow.cell (by omega), c8]

def MaT (c : Ma) : Nat := 8 + 2 * c.entry.length
/-- Marked from k on. -/
def MaM (k : Nat) (c : Ma) : Ma := ⟨mkO (k), ((k + 1 : Nat) : Int), ((k + 2 : Nat) : Int), ((k + 3 : Nat) : Int), ((k + 4 : Nat) : Int), ((k + 5 : Nat) : Int), EnMk (k + 6) c.entry.length, ((k + 6 + 2 * c.entry.length : Nat) : Int), ((k + 7 + 2 * c.entry.length : Nat) : Int)⟩
def MaK (l : List Ma) (k : Nat) : Nat → Nat
  | 0 => k
  | j + 1 => MaK l k j + match l[j]? with
    | some c => MaT c
    | none => 0
theorem MaK_succ {l : List Ma} {k j : Nat} {c : Ma} (h : l[j]? = some c) : MaK l k (j + 1) = MaK l k j + MaT c := by rw [MaK, h]
theorem MaK_mono (l : List Ma) (k : Nat) : ∀ i j, i ≤ j → MaK l k i ≤ MaK l k j
  | i, 0, h => by rw [Nat.le_zero.1 h]; exact Nat.le_refl _
  | i, j + 1, h => by
    by_cases e : i = j + 1
    · rw [e]; exact Nat.le_refl _
    · have := MaK_mono l k i j (by omega)
      rw [MaK]; omega
theorem MaM_entry (k : Nat) (c : Ma) : (MaM k c).entry.length = c.entry.length := by simp [MaM, EnMk_length]

/-- The first i are marked. -/
def MaMix (l : List Ma) (k i j : Nat) (c : Ma) : Ma := if j < i then MaM (MaK l k j) c else c
theorem MaMix_entry (l : List Ma) (k i j : Nat) (c : Ma) : (MaMix l k i j c).entry.length = c.entry.length := by unfold MaMix; split <;> simp [MaM_entry]

/-- All of them marked. -/
def MaMs (l : List Ma) (k : Nat) : List Ma := l.mapIdx fun j c => MaM (MaK l k j) c
theorem MaMs_length (l : List Ma) (k : Nat) : (MaMs l k).length = l.length := by simp [MaMs]
theorem MaMs_get {l : List Ma} {k j : Nat} {c : Ma} (h : (MaMs l k)[j]? = some c) : ∃ d, l[j]? = some d ∧ c = MaM (MaK l k j) d := by
  simp only [MaMs, List.getElem?_mapIdx, Option.map_eq_some_iff] at h
  obtain ⟨d, h1, h2⟩ := h
  exact ⟨d, h1, h2.symm⟩
theorem MaMs_at {l : List Ma} {k j : Nat} {c : Ma} (h : l[j]? = some c) : (MaMs l k)[j]? = some (MaM (MaK l k j) c) := by
  simp only [MaMs, List.getElem?_mapIdx, h, Option.map_some]

set_option maxRecDepth 100000 in
set_option maxHeartbeats 8000000 in
theorem markMailS_any (a : Option Addr) (cp B k : Nat) (l : List Ma) (r6 : Nat → Option Addr) (k6 : Nat → Nat) (w : World) (h : MaO w B a l r6 k6) (D : MaD a l r6) (hl : l.length ≤ 1000000) (h2 : MaK l k l.length ≤ 1000000000) :
    Calls Try.prog 40 #[.slice a l.length cp, .int .i64 (k : Int)] w fun r w' => r = .returned (.int .i64 ((MaK l k l.length : Nat) : Int)) ∧ MaO w' B a (MaMs l k) r6 k6 ∧ Below B w w' ∧ ∀ b, b < w.heap.size → ¬ MaIn a l r6 b → w'.heap[b]? = w.heap[b]? := by
  by_cases h0 : l = []
  · subst h0
    go_enter Try.func40, Try.ntmps40
    go_wp2
    go_loopw [1, 5] (fun x y wr => x = .int .i64 (k : Int) ∧ y = .int .i64 0 ∧ w = wr) (fun _ _ _ => 0)
    case atStart => exact ⟨rfl, rfl, rfl⟩
    case round =>
      obtain ⟨rfl, rfl, rfl⟩ := hrel
      go_wp2
      go_ret
      exact ⟨rfl, .inl rfl, Below.refl _ _, fun _ _ _ => rfl⟩
  obtain ⟨R, m, f, rfl, hR, hm, hrow, hp⟩ := h.resolve_left h0
  have hpos : 0 < l.length := Nat.pos_of_ne_zero fun e => h0 (List.eq_nil_of_length_eq_zero e)
  have HIN : ∀ b, InI (some ⟨R, 0, none⟩) l.length b ↔ b = R := fun b => ⟨fun ⟨_, o, s, e⟩ => by simp at e; omega, fun e => ⟨hpos, 0, none, by simp [e]⟩⟩
  have hRz := hrow.lt
  go_enter Try.func40, Try.ntmps40
  go_wp2
  go_loopw [1, 5] (fun x y wr => ∃ i : Nat, i ≤ l.length ∧ x = .int .i64 ((MaK l k i : Nat) : Int) ∧ y = .int .i64 (i : Int) ∧ (∃ f', wr.rowIs R 73 m f' ∧ Hid (∀ j c, l[j]? = some c → MaP wr B f' r6 k6 j (MaMix l k i j c))) ∧ Below B w wr ∧ Hid (∀ b, b < w.heap.size → ¬ MaIn (some ⟨R, 0, none⟩) l r6 b → wr.heap[b]? = w.heap[b]?)) (fun _ y _ => l.length - (intOf y).toNat)
  case atStart => exact ⟨0, Nat.zero_le _, rfl, rfl, ⟨f, hrow, fun j c hj => by simpa [MaMix] using hp j c hj⟩, Below.refl _ _, fun _ _ _ => rfl⟩
  case round =>
    clear hrow hp h
    obtain ⟨i, hi, rfl, rfl, ⟨f', hrow, HP⟩, hB, HO⟩ := hrel
    by_cases hlt : i < l.length
    · obtain ⟨c, hc⟩ := getMa hlt
      have HC : Hid (l[i]? = some c) := hc
      have hK : MaK l k (i + 1) = MaK l k i + MaT c := MaK_succ hc
      have hKm := MaK_mono l k (i + 1) l.length (by omega)
      have hpi := HP.out i c hc
      rw [show MaMix l k i i c = c by simp [MaMix]] at hpi
      obtain ⟨c0, c1, c2, c3, c4, c5, c6, c7, c8, q6, w6⟩ := hpi
      obtain ⟨K, hKe⟩ : ∃ K, MaK l k i = K := ⟨_, rfl⟩
      have HK : Hid (MaK l k i = K) := hKe
      rw [hKe] at hK ⊢
      have hKb : K + MaT c ≤ 1000000000 := by omega
      have HK1 : Hid (MaK l k (i + 1) = K + MaT c) := hK
      unfold MaT at hKb
      clear hKe hK hc hKm
      have hBz : w.heap.size ≤ wr.heap.size := hB.size
      have HPu : Hid (∀ j c, l[j]? = some c → j ≠ i → MaP wr B f' r6 k6 j (MaMix l k i j c)) := fun j c hj _ => HP.out j c hj
      clear HP
      have n6 : ∀ b, InI (r6 i) c.entry.length b → b ≠ R := fun b hb e => D.row6 i c b HC.out hb ((HIN b).2 e)
      clear q6
      have d0 := hrow.cell (i := i * 9) (by omega)
      rw [c0] at d0
      have d1 := hrow.cell (i := i * 9 + 1) (by omega)
      rw [c1] at d1
      have d2 := hrow.cell (i := i * 9 + 2) (by omega)
      rw [c2] at d2
      have d3 := hrow.cell (i := i * 9 + 3) (by omega)
      rw [c3] at d3
      have d4 := hrow.cell (i := i * 9 + 4) (by omega)
      rw [c4] at d4
      have d5 := hrow.cell (i := i * 9 + 5) (by omega)
      rw [c5] at d5
      have d6 := hrow.cell (i := i * 9 + 6) (by omega)
      rw [c6] at d6
      have d7 := hrow.cell (i := i * 9 + 7) (by omega)
      rw [c7] at d7
      have d8 := hrow.cell (i := i * 9 + 8) (by omega)
      rw [c8] at d8
      have hf := hrow.frozen
      have HS0 : Hid (∀ y0 y1 y2 y3 y4 y5, (∃ g, ((((((wr.setCell ⟨R, i * 9, none⟩ y0).setCell ⟨R, i * 9 + 1, none⟩ y1).setCell ⟨R, i * 9 + 2, none⟩ y2).setCell ⟨R, i * 9 + 3, none⟩ y3).setCell ⟨R, i * 9 + 4, none⟩ y4).setCell ⟨R, i * 9 + 5, none⟩ y5).rowIs R 73 m g ∧ (g (i * 9) = y0 ∧ g (i * 9 + 1) = y1 ∧ g (i * 9 + 2) = y2 ∧ g (i * 9 + 3) = y3 ∧ g (i * 9 + 4) = y4 ∧ g (i * 9 + 5) = y5 ∧ g (i * 9 + 6) = .slice (r6 i) c.entry.length (k6 i) ∧ g (i * 9 + 7) = .int .i64 c.commit ∧ g (i * 9 + 8) = .int .i64 c.mat) ∧ (∀ j c, l[j]? = some c → j ≠ i → MaP ((((((wr.setCell ⟨R, i * 9, none⟩ y0).setCell ⟨R, i * 9 + 1, none⟩ y1).setCell ⟨R, i * 9 + 2, none⟩ y2).setCell ⟨R, i * 9 + 3, none⟩ y3).setCell ⟨R, i * 9 + 4, none⟩ y4).setCell ⟨R, i * 9 + 5, none⟩ y5) B g r6 k6 j (MaMix l k i j c))) ∧ Below B w ((((((wr.setCell ⟨R, i * 9, none⟩ y0).setCell ⟨R, i * 9 + 1, none⟩ y1).setCell ⟨R, i * 9 + 2, none⟩ y2).setCell ⟨R, i * 9 + 3, none⟩ y3).setCell ⟨R, i * 9 + 4, none⟩ y4).setCell ⟨R, i * 9 + 5, none⟩ y5) ∧ (∀ b, b ≠ R → ((((((wr.setCell ⟨R, i * 9, none⟩ y0).setCell ⟨R, i * 9 + 1, none⟩ y1).setCell ⟨R, i * 9 + 2, none⟩ y2).setCell ⟨R, i * 9 + 3, none⟩ y3).setCell ⟨R, i * 9 + 4, none⟩ y4).setCell ⟨R, i * 9 + 5, none⟩ y5).heap[b]? = wr.heap[b]?)) := fun y0 y1 y2 y3 y4 y5 => by
        have hus : ∀ b, b ≠ R → ((((((wr.setCell ⟨R, i * 9, none⟩ y0).setCell ⟨R, i * 9 + 1, none⟩ y1).setCell ⟨R, i * 9 + 2, none⟩ y2).setCell ⟨R, i * 9 + 3, none⟩ y3).setCell ⟨R, i * 9 + 4, none⟩ y4).setCell ⟨R, i * 9 + 5, none⟩ y5).heap[b]? = wr.heap[b]? := fun b hb => by rw [Below.heap_setCell _ ⟨R, _, none⟩ _ b (by simpa using hb), Below.heap_setCell _ ⟨R, _, none⟩ _ b (by simpa using hb), Below.heap_setCell _ ⟨R, _, none⟩ _ b (by simpa using hb), Below.heap_setCell _ ⟨R, _, none⟩ _ b (by simpa using hb), Below.heap_setCell _ ⟨R, _, none⟩ _ b (by simpa using hb), Below.heap_setCell _ ⟨R, _, none⟩ _ b (by simpa using hb)]
        refine ⟨⟨_, ((((((hrow.set _ _).set _ _).set _ _).set _ _).set _ _).set _ _), ⟨by simp, by simp, by simp, by simp, by simp, by simp, by (try dsimp only); rw [if_neg (by omega), if_neg (by omega), if_neg (by omega), if_neg (by omega), if_neg (by omega), if_neg (by omega)]; exact c6, by (try dsimp only); rw [if_neg (by omega), if_neg (by omega), if_neg (by omega), if_neg (by omega), if_neg (by omega), if_neg (by omega)]; exact c7, by (try dsimp only); rw [if_neg (by omega), if_neg (by omega), if_neg (by omega), if_neg (by omega), if_neg (by omega), if_neg (by omega)]; exact c8⟩, fun j c' hj hne => ?_⟩, ((((((hB.setCell hR _).setCell hR _).setCell hR _).setCell hR _).setCell hR _).setCell hR _), hus⟩
        obtain ⟨a0, a1, a2, a3, a4, a5, a6, a7, a8, x6, z6⟩ := HPu.out j c' hj hne
        exact ⟨by (try dsimp only); rw [if_neg (by omega), if_neg (by omega), if_neg (by omega), if_neg (by omega), if_neg (by omega), if_neg (by omega)]; exact a0, by (try dsimp only); rw [if_neg (by omega), if_neg (by omega), if_neg (by omega), if_neg (by omega), if_neg (by omega), if_neg (by omega)]; exact a1, by (try dsimp only); rw [if_neg (by omega), if_neg (by omega), if_neg (by omega), if_neg (by omega), if_neg (by omega), if_neg (by omega)]; exact a2, by (try dsimp only); rw [if_neg (by omega), if_neg (by omega), if_neg (by omega), if_neg (by omega), if_neg (by omega), if_neg (by omega)]; exact a3, by (try dsimp only); rw [if_neg (by omega), if_neg (by omega), if_neg (by omega), if_neg (by omega), if_neg (by omega), if_neg (by omega)]; exact a4, by (try dsimp only); rw [if_neg (by omega), if_neg (by omega), if_neg (by omega), if_neg (by omega), if_neg (by omega), if_neg (by omega)]; exact a5, by (try dsimp only); rw [if_neg (by omega), if_neg (by omega), if_neg (by omega), if_neg (by omega), if_neg (by omega), if_neg (by omega)]; exact a6, by (try dsimp only); rw [if_neg (by omega), if_neg (by omega), if_neg (by omega), if_neg (by omega), if_neg (by omega), if_neg (by omega)]; exact a7, by (try dsimp only); rw [if_neg (by omega), if_neg (by omega), if_neg (by omega), if_neg (by omega), if_neg (by omega), if_neg (by omega)]; exact a8, x6.of_block fun b hb => hus b fun e => D.row6 j c' b hj (by rw [MaMix_entry] at hb; exact hb) ((HIN b).2 e), z6.of_block fun b hb => hus b fun e => D.row6 j c' b hj (by rw [MaMix_entry] at hb; exact hb) ((HIN b).2 e)⟩
      clear hrow hB HPu c0 c1 c2 c3 c4 c5 c6 c7 c8
      go_wp2_with fail
      have EK : Hid ((K : Int) + 1 + 1 + 1 + 1 + 1 + 1 = ((K + 6 : Nat) : Int)) := by show _ = _; omega
      first | rw [EK.out] | skip
      clear EK
      refine (markEntryS_any _ _ c.entry.length B (K + 6 : Nat) _ (w6.of_block fun b hb => (HS0.out _ _ _ _ _ _).2.2 b (n6 b hb)) (by omega)).mono ?_
      rintro r v0 ⟨rfl, H6, S6, hB2, hO⟩
      have hB : Below B w v0 := (HS0.out _ _ _ _ _ _).2.1.trans hB2
      have hus : ∀ b, b < wr.heap.size → b ≠ R → ¬ InI (r6 i) c.entry.length b → v0.heap[b]? = wr.heap[b]? := fun b hb h1 h3 => (hO b (by simpa using hb) h3).trans ((HS0.out _ _ _ _ _ _).2.2 b h1)
      have hz0 : wr.heap.size ≤ v0.heap.size := by have := hB2.size; simpa using this
      have HZ : ∃ g, v0.rowIs R 73 m g ∧ (g (i * 9) = .bool (((K : Int)) % 3 == 0) ∧ g (i * 9 + 1) = .int .i64 ((K : Int) + 1) ∧ g (i * 9 + 2) = .int .i64 ((K : Int) + 1 + 1) ∧ g (i * 9 + 3) = .int .i64 ((K : Int) + 1 + 1 + 1) ∧ g (i * 9 + 4) = .int .i64 ((K : Int) + 1 + 1 + 1 + 1) ∧ g (i * 9 + 5) = .int .i64 ((K : Int) + 1 + 1 + 1 + 1 + 1) ∧ g (i * 9 + 6) = .slice (r6 i) c.entry.length (k6 i) ∧ g (i * 9 + 7) = .int .i64 c.commit ∧ g (i * 9 + 8) = .int .i64 c.mat) ∧ (∀ j c, l[j]? = some c → j ≠ i → MaP v0 B g r6 k6 j (MaMix l k i j c)) := by
        obtain ⟨g, h1, h3, h4⟩ := (HS0.out _ _ _ _ _ _).1
        refine ⟨g, h1.of_block (hO R h1.lt (fun hb => n6 R hb rfl)), h3, fun j c' hj hne => ?_⟩
        have p0 := h4 j c' hj hne
        exact p0.of_block (w' := v0) (fun b hb => hO b (p0.lt (hb)).2 (fun h => D.own6_6 i c j c' b HC.out hj (fun e => hne e.symm) h (by rw [MaMix_entry] at hb; exact hb)))
      obtain ⟨g0, hrow, ⟨c0, c1, c2, c3, c4, c5, c6, c7, c8⟩, HPu'⟩ := HZ
      have HPu : Hid (∀ j c, l[j]? = some c → j ≠ i → MaP v0 B g0 r6 k6 j (MaMix l k i j c)) := HPu'
      have HO2 : Hid (∀ b, b < w.heap.size → ¬ MaIn (some ⟨R, 0, none⟩) l r6 b → v0.heap[b]? = w.heap[b]?) := fun b hb hn => (hus b (by have := hBz; omega) (fun e => hn (.inl ((HIN b).2 e))) (fun h => hn (.inr ⟨i, c, HC.out, h⟩))).trans (HO.out b hb hn)
      replace HO := HO2
      clear hB2 hO HS0 HPu' HO2 hus hf d0 d1 d2 d3 d4 d5 d6 d7 d8 w6
      have hBz : w.heap.size ≤ v0.heap.size := hB.size
      obtain ⟨K0, hK0⟩ : ∃ K', (K + 6 : Nat) + 2 * c.entry.length = K' := ⟨_, rfl⟩
      rw [hK0]
      have HK0' : Hid ((K + 6 : Nat) + 2 * c.entry.length = K0) := hK0
      have hk0 : K0 ≤ (K + 6 : Nat) + 2 * c.entry.length := by omega
      have hg0 : (K + 6 : Nat) + 2 * c.entry.length ≤ K0 := by omega
      clear hK0
      have d0 := hrow.cell (i := i * 9) (by omega)
      rw [c0] at d0
      have d1 := hrow.cell (i := i * 9 + 1) (by omega)
      rw [c1] at d1
      have d2 := hrow.cell (i := i * 9 + 2) (by omega)
      rw [c2] at d2
      have d3 := hrow.cell (i := i * 9 + 3) (by omega)
      rw [c3] at d3
      have d4 := hrow.cell (i := i * 9 + 4) (by omega)
      rw [c4] at d4
      have d5 := hrow.cell (i := i * 9 + 5) (by omega)
      rw [c5] at d5
      have d6 := hrow.cell (i := i * 9 + 6) (by omega)
      rw [c6] at d6
      have d7 := hrow.cell (i := i * 9 + 7) (by omega)
      rw [c7] at d7
      have d8 := hrow.cell (i := i * 9 + 8) (by omega)
      rw [c8] at d8
      have hf := hrow.frozen
      have HS1 : Hid (∀ y7 y8, (∃ g, ((v0.setCell ⟨R, i * 9 + 7, none⟩ y7).setCell ⟨R, i * 9 + 8, none⟩ y8).rowIs R 73 m g ∧ (g (i * 9) = .bool (((K : Int)) % 3 == 0) ∧ g (i * 9 + 1) = .int .i64 ((K : Int) + 1) ∧ g (i * 9 + 2) = .int .i64 ((K : Int) + 1 + 1) ∧ g (i * 9 + 3) = .int .i64 ((K : Int) + 1 + 1 + 1) ∧ g (i * 9 + 4) = .int .i64 ((K : Int) + 1 + 1 + 1 + 1) ∧ g (i * 9 + 5) = .int .i64 ((K : Int) + 1 + 1 + 1 + 1 + 1) ∧ g (i * 9 + 6) = .slice (r6 i) c.entry.length (k6 i) ∧ g (i * 9 + 7) = y7 ∧ g (i * 9 + 8) = y8) ∧ (∀ j c, l[j]? = some c → j ≠ i → MaP ((v0.setCell ⟨R, i * 9 + 7, none⟩ y7).setCell ⟨R, i * 9 + 8, none⟩ y8) B g r6 k6 j (MaMix l k i j c))) ∧ Below B w ((v0.setCell ⟨R, i * 9 + 7, none⟩ y7).setCell ⟨R, i * 9 + 8, none⟩ y8) ∧ (∀ b, b ≠ R → ((v0.setCell ⟨R, i * 9 + 7, none⟩ y7).setCell ⟨R, i * 9 + 8, none⟩ y8).heap[b]? = v0.heap[b]?)) := fun y7 y8 => by
        have hus : ∀ b, b ≠ R → ((v0.setCell ⟨R, i * 9 + 7, none⟩ y7).setCell ⟨R, i * 9 + 8, none⟩ y8).heap[b]? = v0.heap[b]? := fun b hb => by rw [Below.heap_setCell _ ⟨R, _, none⟩ _ b (by simpa using hb), Below.heap_setCell _ ⟨R, _, none⟩ _ b (by simpa using hb)]
        refine ⟨⟨_, ((hrow.set _ _).set _ _), ⟨by (try dsimp only); rw [if_neg (by omega), if_neg (by omega)]; exact c0, by (try dsimp only); rw [if_neg (by omega), if_neg (by omega)]; exact c1, by (try dsimp only); rw [if_neg (by omega), if_neg (by omega)]; exact c2, by (try dsimp only); rw [if_neg (by omega), if_neg (by omega)]; exact c3, by (try dsimp only); rw [if_neg (by omega), if_neg (by omega)]; exact c4, by (try dsimp only); rw [if_neg (by omega), if_neg (by omega)]; exact c5, by (try dsimp only); rw [if_neg (by omega), if_neg (by omega)]; exact c6, by simp, by simp⟩, fun j c' hj hne => ?_⟩, ((hB.setCell hR _).setCell hR _), hus⟩
        obtain ⟨a0, a1, a2, a3, a4, a5, a6, a7, a8, x6, z6⟩ := HPu.out j c' hj hne
        exact ⟨by (try dsimp only); rw [if_neg (by omega), if_neg (by omega)]; exact a0, by (try dsimp only); rw [if_neg (by omega), if_neg (by omega)]; exact a1, by (try dsimp only); rw [if_neg (by omega), if_neg (by omega)]; exact a2, by (try dsimp only); rw [if_neg (by omega), if_neg (by omega)]; exact a3, by (try dsimp only); rw [if_neg (by omega), if_neg (by omega)]; exact a4, by (try dsimp only); rw [if_neg (by omega), if_neg (by omega)]; exact a5, by (try dsimp only); rw [if_neg (by omega), if_neg (by omega)]; exact a6, by (try dsimp only); rw [if_neg (by omega), if_neg (by omega)]; exact a7, by (try dsimp only); rw [if_neg (by omega), if_neg (by omega)]; exact a8, x6.of_block fun b hb => hus b fun e => D.row6 j c' b hj (by rw [MaMix_entry] at hb; exact hb) ((HIN b).2 e), z6.of_block fun b hb => hus b fun e => D.row6 j c' b hj (by rw [MaMix_entry] at hb; exact hb) ((HIN b).2 e)⟩
      clear hrow hB HPu c0 c1 c2 c3 c4 c5 c6 c7 c8
      have HFIN : Hid (∀ y7 y8, y7 = .int .i64 ((K0 : Int)) → y8 = .int .i64 ((K0 : Int) + 1) → (∃ g, ((v0.setCell ⟨R, i * 9 + 7, none⟩ y7).setCell ⟨R, i * 9 + 8, none⟩ y8).rowIs R 73 m g ∧ Hid (∀ j c, l[j]? = some c → MaP ((v0.setCell ⟨R, i * 9 + 7, none⟩ y7).setCell ⟨R, i * 9 + 8, none⟩ y8) B g r6 k6 j (MaMix l k (i + 1) j c))) ∧ Below B w ((v0.setCell ⟨R, i * 9 + 7, none⟩ y7).setCell ⟨R, i * 9 + 8, none⟩ y8) ∧ Hid (∀ b, b < w.heap.size → ¬ MaIn (some ⟨R, 0, none⟩) l r6 b → ((v0.setCell ⟨R, i * 9 + 7, none⟩ y7).setCell ⟨R, i * 9 + 8, none⟩ y8).heap[b]? = w.heap[b]?)) := fun y7 y8 ey7 ey8 => by
        obtain ⟨⟨g, h1, ⟨e0, e1, e2, e3, e4, e5, e6, e7, e8⟩, h4⟩, h5, hus⟩ := HS1.out y7 y8
        refine ⟨⟨g, h1, fun j c' hj => ?_⟩, h5, fun b hb hn => (hus b (fun e => hn (.inl ((HIN b).2 e)))).trans (HO.out b hb hn)⟩
        by_cases ej : j = i
        · subst ej
          have ec : c' = c := by have := HC.out; rw [hj] at this; exact Option.some.inj this
          subst ec
          have em : MaMix l k (j + 1) j c' = MaM K c' := by simp [MaMix, HK.out]
          rw [em]
          refine ⟨?_, ?_, ?_, ?_, ?_, ?_, ?_, ?_, ?_, ?_, ?_⟩
          · rw [e0]; first | rfl | (show Value.bool _ = Value.bool _; congr 1; show _ = mkO _; unfold mkO; congr 2; have := HK0'.out; omega)
          · rw [e1]; first | rfl | (show Value.int .i64 _ = Value.int .i64 _; congr 1; show _ = (((_ : Nat)) : Int); have := HK0'.out; omega)
          · rw [e2]; first | rfl | (show Value.int .i64 _ = Value.int .i64 _; congr 1; show _ = (((_ : Nat)) : Int); have := HK0'.out; omega)
          · rw [e3]; first | rfl | (show Value.int .i64 _ = Value.int .i64 _; congr 1; show _ = (((_ : Nat)) : Int); have := HK0'.out; omega)
          · rw [e4]; first | rfl | (show Value.int .i64 _ = Value.int .i64 _; congr 1; show _ = (((_ : Nat)) : Int); have := HK0'.out; omega)
          · rw [e5]; first | rfl | (show Value.int .i64 _ = Value.int .i64 _; congr 1; show _ = (((_ : Nat)) : Int); have := HK0'.out; omega)
          · rw [e6, MaM_entry]
          · rw [e7, ey7]; first | rfl | (show Value.int .i64 _ = Value.int .i64 _; congr 1; show _ = (((_ : Nat)) : Int); have := HK0'.out; omega)
          · rw [e8, ey8]; first | rfl | (show Value.int .i64 _ = Value.int .i64 _; congr 1; show _ = (((_ : Nat)) : Int); have := HK0'.out; omega)
          · have e9 : K + 6 = (K + 6 : Nat) := by have := HK0'.out; omega
            show Ens _ _ (EnMk (K + 6) c'.entry.length)
            rw [e9]
            exact H6.of_block fun b hb => hus b (n6 b (by rw [EnMk_length] at hb; exact hb))
          · rw [MaM_entry]; exact S6.of_block fun b hb => hus b (n6 b hb)
        · have em : MaMix l k (i + 1) j c' = MaMix l k i j c' := by
            unfold MaMix
            by_cases hji : j < i
            · rw [if_pos hji, if_pos (by omega)]
            · rw [if_neg hji, if_neg (by omega)]
          rw [em]
          exact h4 j c' hj ej
      have HKE : Hid (MaK l k (i + 1) = K0 + 2) := by show _ = _; rw [HK1.out]; unfold MaT; have := HK0'.out; omega
      clear HS1 HO H6 S6 n6
      go_wp2
      go_roundw
      case rel =>
        obtain ⟨s1, s2, s3⟩ := HFIN.out _ _ (by first | rfl | (congr 1; done)) (by first | rfl | (congr 1; done))
        exact ⟨i + 1, by omega, by first | (rw [HKE.out]; done) | (rw [HKE.out]; go_num), by go_num, s1, s2, s3⟩
      case measure => simp [intOf]; omega
    · obtain rfl : i = l.length := by omega
      go_wp2
      go_ret
      refine ⟨rfl, .inr ⟨R, m, f', rfl, hR, by rw [MaMs_length]; exact hm, hrow, fun j c hj => ?_⟩, hB, HO.out⟩
      obtain ⟨d, hd, rfl⟩ := MaMs_get hj
      have hjl := (List.getElem?_eq_some_iff.1 hd).1
      have := HP.out j d hd
      rwa [show MaMix l k l.length j d = MaM (MaK l k j) d by simp [MaMix, hjl]] at this

set_option maxRecDepth 100000 in
set_option maxHeartbeats 8000000 in
theorem heldMailS_any (a : Option Addr) (cp B k : Nat) (l : List Ma) (r6 : Nat → Option Addr) (k6 : Nat → Nat) (w : World) (h : MaO w B a (MaMs l k) r6 k6) (h2 : MaK l k l.length ≤ 1000000000) (hl : l.length ≤ 1000000) :
    Calls Try.prog 42 #[.slice a l.length cp, .int .i64 (k : Int)] w fun r w' => r = .returned (.int .i64 ((MaK l k l.length : Nat) : Int)) ∧ w' = w := by
  go_enter Try.func42, Try.ntmps42
  go_wp2
  go_loop [1, 5] (fun x y => ∃ i : Nat, i ≤ l.length ∧ x = .int .i64 ((MaK l k i : Nat) : Int) ∧ y = .int .i64 (i : Int)) (fun _ y => l.length - (intOf y).toNat)
  case atStart => exact ⟨0, Nat.zero_le _, rfl, rfl⟩
  case round =>
    obtain ⟨i, hi, rfl, rfl⟩ := hrel
    by_cases hlt : i < l.length
    · obtain ⟨c, hc⟩ := getMa hlt
      have hK : MaK l k (i + 1) = MaK l k i + MaT c := MaK_succ hc
      have hKm := MaK_mono l k (i + 1) l.length (by omega)
      rcases h with h | ⟨R, m, f, rfl, hR, hm, hrow, hp⟩
      · have := MaMs_length l k
        rw [h] at this
        simp at this
        omega
      rw [MaMs_length] at hm
      obtain ⟨c0, c1, c2, c3, c4, c5, c6, c7, c8, q6, -⟩ := hp i _ (MaMs_at hc)
      obtain ⟨K, hKe⟩ : ∃ K, MaK l k i = K := ⟨_, rfl⟩
      rw [hKe] at hK c0 c1 c2 c3 c4 c5 c6 c7 c8 q6 ⊢
      have hKb : K + MaT c ≤ 1000000000 := by omega
      have HK1 : Hid (MaK l k (i + 1) = K + MaT c) := hK
      unfold MaT at hKb
      clear hKe hK hKm
      obtain ⟨K0, hK0⟩ : ∃ K', (K + 6 : Nat) + 2 * c.entry.length = K' := ⟨_, rfl⟩
      have d0 : w.cell? ⟨R, i * 9, none⟩ = some (.bool (((K : Int)) % 3 == 0)) := by rw [hrow.cell (by omega), c0]; first | rfl | (congr 1; show Value.bool _ = Value.bool _; congr 1; show mkO _ = _; unfold mkO; congr 2; omega)
      have b0 : (!((((K : Int)) % 3 == 0) == (((K : Int)) % 3 == 0))) = false := by simp
      have d1 : w.cell? ⟨R, i * 9 + 1, none⟩ = some (.int .i64 ((K : Int) + 1)) := by rw [hrow.cell (by omega), c1]; first | rfl | (congr 1; show Value.int .i64 _ = Value.int .i64 _; congr 1; show (((_ : Nat)) : Int) = _; omega)
      have d2 : w.cell? ⟨R, i * 9 + 2, none⟩ = some (.int .i64 ((K : Int) + 1 + 1)) := by rw [hrow.cell (by omega), c2]; first | rfl | (congr 1; show Value.int .i64 _ = Value.int .i64 _; congr 1; show (((_ : Nat)) : Int) = _; omega)
      have d3 : w.cell? ⟨R, i * 9 + 3, none⟩ = some (.int .i64 ((K : Int) + 1 + 1 + 1)) := by rw [hrow.cell (by omega), c3]; first | rfl | (congr 1; show Value.int .i64 _ = Value.int .i64 _; congr 1; show (((_ : Nat)) : Int) = _; omega)
      have d4 : w.cell? ⟨R, i * 9 + 4, none⟩ = some (.int .i64 ((K : Int) + 1 + 1 + 1 + 1)) := by rw [hrow.cell (by omega), c4]; first | rfl | (congr 1; show Value.int .i64 _ = Value.int .i64 _; congr 1; show (((_ : Nat)) : Int) = _; omega)
      have d5 : w.cell? ⟨R, i * 9 + 5, none⟩ = some (.int .i64 ((K : Int) + 1 + 1 + 1 + 1 + 1)) := by rw [hrow.cell (by omega), c5]; first | rfl | (congr 1; show Value.int .i64 _ = Value.int .i64 _; congr 1; show (((_ : Nat)) : Int) = _; omega)
      have d6 : w.cell? ⟨R, i * 9 + 6, none⟩ = some (.slice (r6 i) c.entry.length (k6 i)) := by rw [hrow.cell (by omega), c6, MaM_entry]
      replace q6 : Ens w (r6 i) (EnMk (K + 6 : Nat) c.entry.length) := by rw [show (K + 6 : Nat) = K + 6 from by omega]; exact q6
      have d7 : w.cell? ⟨R, i * 9 + 7, none⟩ = some (.int .i64 ((K0 : Int))) := by rw [hrow.cell (by omega), c7]; first | rfl | (congr 1; show Value.int .i64 _ = Value.int .i64 _; congr 1; show (((_ : Nat)) : Int) = _; omega)
      have d8 : w.cell? ⟨R, i * 9 + 8, none⟩ = some (.int .i64 ((K0 : Int) + 1)) := by rw [hrow.cell (by omega), c8]; first | rfl | (congr 1; show Value.int .i64 _ = Value.int .i64 _; congr 1; show (((_ : Nat)) : Int) = _; omega)
      have HKE : Hid (MaK l k (i + 1) = K0 + 2) := by show _ = _; rw [HK1.out]; unfold MaT; omega
      have HK0' : Hid ((K + 6 : Nat) + 2 * c.entry.length = K0) := hK0
      have hx0 : K0 ≤ 1000000000 := by omega
      clear c0 c1 c2 c3 c4 c5 c6 c7 c8 hp hrow hc hK0
      go_wp2_with fail
      have EK : Hid ((K : Int) + 1 + 1 + 1 + 1 + 1 + 1 = ((K + 6 : Nat) : Int)) := by show _ = _; omega
      first | rw [EK.out] | skip
      clear EK
      refine (heldEntryS_any _ _ c.entry.length (K + 6 : Nat) _ q6 (by have := HK0'.out; omega)).mono ?_
      rintro r w' ⟨rfl, hw⟩
      rw [hw]
      clear hw w'
      rw [HK0'.out]
      have np0 : ¬ ((K0 : Nat) : Int) < 0 := by omega
      go_wp2
      go_round
      case rel => exact ⟨i + 1, by omega, by first | (rw [HKE.out]; done) | (rw [HKE.out]; go_num), by go_num⟩
      case measure => simp [intOf]; omega
    · obtain rfl : i = l.length := by omega
      go_wp2
      go_ret
      exact ⟨rfl, rfl⟩

end Go.Proofs.Ytglncbhbeikclaa
