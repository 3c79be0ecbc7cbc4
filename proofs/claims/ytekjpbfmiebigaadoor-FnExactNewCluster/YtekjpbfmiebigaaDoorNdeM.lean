/-
  Lists of Node that a call owns: where their own lists lie, that all of it lies apart, and the contracts of markNodeS and heldNodeS. Made by mkbags.py.
-/
import Derived.Test.YtekjpbfmiebigaaDoorNde
import Derived.Test.YtekjpbfmiebigaaDoorRwiM
namespace Go.Proofs.YtekjpbfmiebigaaDoor
open Go.RowKit

/-- The j-th, by a row's cells: its own lists at these places, in room from B on. -/
def NdP (w : World) (B : Nat) (f : Nat → Value) (r2 r3 r4 : Nat → Option Addr) (k2 k3 k4 : Nat → Nat) (j : Nat) (c : Nd) : Prop :=
  f (j * 6) = .int .i64 c.epoch ∧ f (j * 6 + 1) = .int .i64 c.leader ∧ f (j * 6 + 2) = .slice (r2 j) c.steps.length (k2 j) ∧ f (j * 6 + 3) = .slice (r3 j) c.log.length (k3 j) ∧ f (j * 6 + 4) = .slice (r4 j) c.known.length (k4 j) ∧ f (j * 6 + 5) = .int .i64 c.told ∧ Ints w (r2 j) c.steps ∧ RowI w B (r2 j) c.steps.length ∧ Rws w (r3 j) c.log ∧ RowRw w B (r3 j) c.log.length ∧ Ints w (r4 j) c.known ∧ RowI w B (r4 j) c.known.length

/-- The list lies in a row that may be written. -/
def NdO (w : World) (B : Nat) (a : Option Addr) (l : List Nd) (r2 r3 r4 : Nat → Option Addr) (k2 k3 k4 : Nat → Nat) : Prop :=
  l = [] ∨ ∃ R m f, a = some ⟨R, 0, none⟩ ∧ B ≤ R ∧ l.length * 6 ≤ m ∧ w.rowIs R 49 m f ∧ ∀ j c, l[j]? = some c → NdP w B f r2 r3 r4 k2 k3 k4 j c

/-- Whose block it is: the row's own, or one of the lists'. -/
def NdIn (a : Option Addr) (l : List Nd) (r2 r3 r4 : Nat → Option Addr) (b : Nat) : Prop :=
  InI a l.length b ∨ ∃ j c, l[j]? = some c ∧ (InI (r2 j) c.steps.length b ∨ InI (r3 j) c.log.length b ∨ InI (r4 j) c.known.length b)

/-- All of it lies apart. -/
structure NdD (a : Option Addr) (l : List Nd) (r2 r3 r4 : Nat → Option Addr) : Prop where
  row2 : ∀ j c b, l[j]? = some c → InI (r2 j) c.steps.length b → ¬ InI a l.length b
  row3 : ∀ j c b, l[j]? = some c → InI (r3 j) c.log.length b → ¬ InI a l.length b
  row4 : ∀ j c b, l[j]? = some c → InI (r4 j) c.known.length b → ¬ InI a l.length b
  own2_2 : ∀ j c j' c' b, l[j]? = some c → l[j']? = some c' → j ≠ j' → InI (r2 j) c.steps.length b → ¬ InI (r2 j') c'.steps.length b
  own2_3 : ∀ j c j' c' b, l[j]? = some c → l[j']? = some c' → InI (r2 j) c.steps.length b → ¬ InI (r3 j') c'.log.length b
  own2_4 : ∀ j c j' c' b, l[j]? = some c → l[j']? = some c' → InI (r2 j) c.steps.length b → ¬ InI (r4 j') c'.known.length b
  own3_3 : ∀ j c j' c' b, l[j]? = some c → l[j']? = some c' → j ≠ j' → InI (r3 j) c.log.length b → ¬ InI (r3 j') c'.log.length b
  own3_4 : ∀ j c j' c' b, l[j]? = some c → l[j']? = some c' → InI (r3 j) c.log.length b → ¬ InI (r4 j') c'.known.length b
  own4_4 : ∀ j c j' c' b, l[j]? = some c → l[j']? = some c' → j ≠ j' → InI (r4 j) c.known.length b → ¬ InI (r4 j') c'.known.length b

theorem NdP.of_block {w w' : World} {B : Nat} {f : Nat → Value} {r2 r3 r4 : Nat → Option Addr} {k2 k3 k4 : Nat → Nat} {j : Nat} {c : Nd} (h : NdP w B f r2 r3 r4 k2 k3 k4 j c) (h2 : ∀ b, InI (r2 j) c.steps.length b → w'.heap[b]? = w.heap[b]?) (h3 : ∀ b, InI (r3 j) c.log.length b → w'.heap[b]? = w.heap[b]?) (h4 : ∀ b, InI (r4 j) c.known.length b → w'.heap[b]? = w.heap[b]?) : NdP w' B f r2 r3 r4 k2 k3 k4 j c := by
  obtain ⟨c0, c1, c2, c3, c4, c5, q2, w2, q3, w3, q4, w4⟩ := h
  exact ⟨c0, c1, c2, c3, c4, c5, q2.of_block h2, w2.of_block h2, q3.of_block h3, w3.of_block h3, q4.of_block h4, w4.of_block h4⟩

theorem NdP.lt {w : World} {B : Nat} {f : Nat → Value} {r2 r3 r4 : Nat → Option Addr} {k2 k3 k4 : Nat → Nat} {j : Nat} {c : Nd} (h : NdP w B f r2 r3 r4 k2 k3 k4 j c) {b : Nat} (hb : InI (r2 j) c.steps.length b ∨ InI (r3 j) c.log.length b ∨ InI (r4 j) c.known.length b) : B ≤ b ∧ b < w.heap.size := by
  obtain ⟨c0, c1, c2, c3, c4, c5, q2, w2, q3, w3, q4, w4⟩ := h
  rcases hb with hb | hb | hb
  · exact w2.lt hb
  · exact w3.lt hb
  · exact w4.lt hb

theorem NdO.of_block {w w' : World} {B : Nat} {a : Option Addr} {l : List Nd} {r2 r3 r4 : Nat → Option Addr} {k2 k3 k4 : Nat → Nat} (h : NdO w B a l r2 r3 r4 k2 k3 k4) (hs : ∀ b, NdIn a l r2 r3 r4 b → w'.heap[b]? = w.heap[b]?) : NdO w' B a l r2 r3 r4 k2 k3 k4 := by
  rcases h with h | ⟨R, m, f, rfl, hR, hm, hrow, hp⟩
  · exact .inl h
  · by_cases h0 : l = []
    · exact .inl h0
    · have hpos : 0 < l.length := Nat.pos_of_ne_zero fun e => h0 (List.eq_nil_of_length_eq_zero e)
      exact .inr ⟨R, m, f, rfl, hR, hm, hrow.of_block (hs R (.inl ⟨hpos, 0, none, rfl⟩)), fun j c hj => (hp j c hj).of_block (fun b hb => hs b (.inr ⟨j, c, hj, .inl hb⟩)) (fun b hb => hs b (.inr ⟨j, c, hj, .inr (.inl hb)⟩)) (fun b hb => hs b (.inr ⟨j, c, hj, .inr (.inr (hb))⟩))⟩

theorem NdO.lt {w : World} {B : Nat} {a : Option Addr} {l : List Nd} {r2 r3 r4 : Nat → Option Addr} {k2 k3 k4 : Nat → Nat} (h : NdO w B a l r2 r3 r4 k2 k3 k4) {b : Nat} (hb : NdIn a l r2 r3 r4 b) : B ≤ b ∧ b < w.heap.size := by
  rcases h with rfl | ⟨R, m, f, rfl, hR, hm, hrow, hp⟩
  · rcases hb with ⟨h, -⟩ | ⟨j, c, hj, -⟩
    · simp at h
    · simp at hj
  · rcases hb with ⟨-, o, s, e⟩ | ⟨j, c, hj, hb⟩
    · simp only [Option.some.injEq, Addr.mk.injEq] at e
      have := hrow.lt
      omega
    · exact (hp j c hj).lt hb

theorem NdO.below {w w' : World} {B : Nat} {a : Option Addr} {l : List Nd} {r2 r3 r4 : Nat → Option Addr} {k2 k3 k4 : Nat → Nat} (h : NdO w B a l r2 r3 r4 k2 k3 k4) (hb : Below w.heap.size w w') : NdO w' B a l r2 r3 r4 k2 k3 k4 :=
  h.of_block fun b hi => hb.block b (h.lt hi).2

theorem NdO.reads {w : World} {B : Nat} {a : Option Addr} {l : List Nd} {r2 r3 r4 : Nat → Option Addr} {k2 k3 k4 : Nat → Nat} (h : NdO w B a l r2 r3 r4 k2 k3 k4) (hl : ∀ c, c ∈ l → c.steps.length ≤ maxLen ∧ c.log.length ≤ maxLen ∧ c.known.length ≤ maxLen) : Nds w a l := fun j c hj => by
  have hlt := (List.getElem?_eq_some_iff.1 hj).1
  rcases h with rfl | ⟨R, m, f, rfl, hR, hm, hrow, hp⟩
  · simp at hj
  · obtain ⟨c0, c1, c2, c3, c4, c5, q2, -, q3, -, q4, -⟩ := hp j c hj
    have hmx := hl c (List.mem_of_getElem? hj)
    refine ⟨R, 0, rfl, r2 j, k2 j, r3 j, k3 j, r4 j, k4 j, ?_, ?_, ?_, ?_, ?_, ?_, q2, hmx.1, q3, hmx.2.1, q4, hmx.2.2⟩
    · rw [Nat.zero_add, hrow.cell (by omega), c0]
    · rw [Nat.zero_add, hrow.cell (by omega), c1]
    · rw [Nat.zero_add, hrow.cell (by omega), c2]
    · rw [Nat.zero_add, hrow.cell (by omega), c3]
    · rw [Nat.zero_add, hrow.cell (by omega), c4]
    · rw [Nat.zero_add, hrow.cell (by omega), c5]

def NdT (c : Nd) : Nat := 3 + c.steps.length + 2 * c.log.length + c.known.length
/-- Marked from k on. -/
def NdM (k : Nat) (c : Nd) : Nd := ⟨((k : Nat) : Int), ((k + 1 : Nat) : Int), markZ (k + 2) c.steps.length, RwMk (k + 2 + c.steps.length) c.log.length, markZ (k + 2 + c.steps.length + 2 * c.log.length) c.known.length, ((k + 2 + c.steps.length + 2 * c.log.length + c.known.length : Nat) : Int)⟩
def NdK (l : List Nd) (k : Nat) : Nat → Nat
  | 0 => k
  | j + 1 => NdK l k j + match l[j]? with
    | some c => NdT c
    | none => 0
theorem NdK_succ {l : List Nd} {k j : Nat} {c : Nd} (h : l[j]? = some c) : NdK l k (j + 1) = NdK l k j + NdT c := by rw [NdK, h]
theorem NdK_mono (l : List Nd) (k : Nat) : ∀ i j, i ≤ j → NdK l k i ≤ NdK l k j
  | i, 0, h => by rw [Nat.le_zero.1 h]; exact Nat.le_refl _
  | i, j + 1, h => by
    by_cases e : i = j + 1
    · rw [e]; exact Nat.le_refl _
    · have := NdK_mono l k i j (by omega)
      rw [NdK]; omega
theorem NdM_steps (k : Nat) (c : Nd) : (NdM k c).steps.length = c.steps.length := by simp [NdM, markZ_length]
theorem NdM_log (k : Nat) (c : Nd) : (NdM k c).log.length = c.log.length := by simp [NdM, RwMk_length]
theorem NdM_known (k : Nat) (c : Nd) : (NdM k c).known.length = c.known.length := by simp [NdM, markZ_length]

/-- The first i are marked. -/
def NdMix (l : List Nd) (k i j : Nat) (c : Nd) : Nd := if j < i then NdM (NdK l k j) c else c
theorem NdMix_steps (l : List Nd) (k i j : Nat) (c : Nd) : (NdMix l k i j c).steps.length = c.steps.length := by unfold NdMix; split <;> simp [NdM_steps]
theorem NdMix_log (l : List Nd) (k i j : Nat) (c : Nd) : (NdMix l k i j c).log.length = c.log.length := by unfold NdMix; split <;> simp [NdM_log]
theorem NdMix_known (l : List Nd) (k i j : Nat) (c : Nd) : (NdMix l k i j c).known.length = c.known.length := by unfold NdMix; split <;> simp [NdM_known]

/-- All of them marked. -/
def NdMs (l : List Nd) (k : Nat) : List Nd := l.mapIdx fun j c => NdM (NdK l k j) c
theorem NdMs_length (l : List Nd) (k : Nat) : (NdMs l k).length = l.length := by simp [NdMs]
theorem NdMs_get {l : List Nd} {k j : Nat} {c : Nd} (h : (NdMs l k)[j]? = some c) : ∃ d, l[j]? = some d ∧ c = NdM (NdK l k j) d := by
  simp only [NdMs, List.getElem?_mapIdx, Option.map_eq_some_iff] at h
  obtain ⟨d, h1, h2⟩ := h
  exact ⟨d, h1, h2.symm⟩
theorem NdMs_at {l : List Nd} {k j : Nat} {c : Nd} (h : l[j]? = some c) : (NdMs l k)[j]? = some (NdM (NdK l k j) c) := by
  simp only [NdMs, List.getElem?_mapIdx, h, Option.map_some]

set_option maxRecDepth 100000 in
set_option maxHeartbeats 8000000 in
theorem markNodeS_any (a : Option Addr) (cp B k : Nat) (l : List Nd) (r2 r3 r4 : Nat → Option Addr) (k2 k3 k4 : Nat → Nat) (w : World) (h : NdO w B a l r2 r3 r4 k2 k3 k4) (D : NdD a l r2 r3 r4) (hl : l.length ≤ 1000000) (h2 : NdK l k l.length ≤ 1000000000) :
    Calls Tryd.prog 27 #[.slice a l.length cp, .int .i64 (k : Int)] w fun r w' => r = .returned (.int .i64 ((NdK l k l.length : Nat) : Int)) ∧ NdO w' B a (NdMs l k) r2 r3 r4 k2 k3 k4 ∧ Below B w w' ∧ ∀ b, b < w.heap.size → ¬ NdIn a l r2 r3 r4 b → w'.heap[b]? = w.heap[b]? := by
  by_cases h0 : l = []
  · subst h0
    go_enter Tryd.func27, Tryd.ntmps27
    go_wp2
    go_loopw [1, 5] (fun x y wr => x = .int .i64 (k : Int) ∧ y = .int .i64 0 ∧ w = wr) (fun _ _ _ => 0)
    case atStart => exact ⟨rfl, rfl, rfl⟩
    case round =>
      obtain ⟨rfl, rfl, rfl⟩ := hrel
      go_wp2
      go_ret
      exact ⟨rfl, .inl rfl, Below.refl _ _, fun _ _ _ => rfl⟩
  obtain ⟨R, m, f, rfl, hR, hm, hrow, hp⟩ := h.resolve_left h0
  have hpos : 0 < l.length := Nat.pos_of_ne_zero fun e => h0 (List.eq_nil_of_length_eq_zero e)
  have HIN : ∀ b, InI (some ⟨R, 0, none⟩) l.length b ↔ b = R := fun b => ⟨fun ⟨_, o, s, e⟩ => by simp at e; omega, fun e => ⟨hpos, 0, none, by simp [e]⟩⟩
  have hRz := hrow.lt
  go_enter Tryd.func27, Tryd.ntmps27
  go_wp2
  go_loopw [1, 5] (fun x y wr => ∃ i : Nat, i ≤ l.length ∧ x = .int .i64 ((NdK l k i : Nat) : Int) ∧ y = .int .i64 (i : Int) ∧ (∃ f', wr.rowIs R 49 m f' ∧ Hid (∀ j c, l[j]? = some c → NdP wr B f' r2 r3 r4 k2 k3 k4 j (NdMix l k i j c))) ∧ Below B w wr ∧ Hid (∀ b, b < w.heap.size → ¬ NdIn (some ⟨R, 0, none⟩) l r2 r3 r4 b → wr.heap[b]? = w.heap[b]?)) (fun _ y _ => l.length - (intOf y).toNat)
  case atStart => exact ⟨0, Nat.zero_le _, rfl, rfl, ⟨f, hrow, fun j c hj => by simpa [NdMix] using hp j c hj⟩, Below.refl _ _, fun _ _ _ => rfl⟩
  case round =>
    clear hrow hp h
    obtain ⟨i, hi, rfl, rfl, ⟨f', hrow, HP⟩, hB, HO⟩ := hrel
    by_cases hlt : i < l.length
    · obtain ⟨c, hc⟩ := getNd hlt
      have HC : Hid (l[i]? = some c) := hc
      have hK : NdK l k (i + 1) = NdK l k i + NdT c := NdK_succ hc
      have hKm := NdK_mono l k (i + 1) l.length (by omega)
      have hpi := HP.out i c hc
      rw [show NdMix l k i i c = c by simp [NdMix]] at hpi
      obtain ⟨c0, c1, c2, c3, c4, c5, q2, w2, q3, w3, q4, w4⟩ := hpi
      obtain ⟨K, hKe⟩ : ∃ K, NdK l k i = K := ⟨_, rfl⟩
      have HK : Hid (NdK l k i = K) := hKe
      rw [hKe] at hK ⊢
      have hKb : K + NdT c ≤ 1000000000 := by omega
      have HK1 : Hid (NdK l k (i + 1) = K + NdT c) := hK
      unfold NdT at hKb
      clear hKe hK hc hKm
      have hBz : w.heap.size ≤ wr.heap.size := hB.size
      have HPu : Hid (∀ j c, l[j]? = some c → j ≠ i → NdP wr B f' r2 r3 r4 k2 k3 k4 j (NdMix l k i j c)) := fun j c hj _ => HP.out j c hj
      clear HP
      have n2 : ∀ b, InI (r2 i) c.steps.length b → b ≠ R := fun b hb e => D.row2 i c b HC.out hb ((HIN b).2 e)
      have n3 : ∀ b, InI (r3 i) c.log.length b → b ≠ R := fun b hb e => D.row3 i c b HC.out hb ((HIN b).2 e)
      have n4 : ∀ b, InI (r4 i) c.known.length b → b ≠ R := fun b hb e => D.row4 i c b HC.out hb ((HIN b).2 e)
      clear q2
      clear q3
      clear q4
      have d0 := hrow.cell (i := i * 6) (by omega)
      rw [c0] at d0
      have d1 := hrow.cell (i := i * 6 + 1) (by omega)
      rw [c1] at d1
      have d2 := hrow.cell (i := i * 6 + 2) (by omega)
      rw [c2] at d2
      have d3 := hrow.cell (i := i * 6 + 3) (by omega)
      rw [c3] at d3
      have d4 := hrow.cell (i := i * 6 + 4) (by omega)
      rw [c4] at d4
      have d5 := hrow.cell (i := i * 6 + 5) (by omega)
      rw [c5] at d5
      have hf := hrow.frozen
      have HS0 : Hid (∀ y0 y1, (∃ g, ((wr.setCell ⟨R, i * 6, none⟩ y0).setCell ⟨R, i * 6 + 1, none⟩ y1).rowIs R 49 m g ∧ (g (i * 6) = y0 ∧ g (i * 6 + 1) = y1 ∧ g (i * 6 + 2) = .slice (r2 i) c.steps.length (k2 i) ∧ g (i * 6 + 3) = .slice (r3 i) c.log.length (k3 i) ∧ g (i * 6 + 4) = .slice (r4 i) c.known.length (k4 i) ∧ g (i * 6 + 5) = .int .i64 c.told) ∧ (∀ j c, l[j]? = some c → j ≠ i → NdP ((wr.setCell ⟨R, i * 6, none⟩ y0).setCell ⟨R, i * 6 + 1, none⟩ y1) B g r2 r3 r4 k2 k3 k4 j (NdMix l k i j c))) ∧ Below B w ((wr.setCell ⟨R, i * 6, none⟩ y0).setCell ⟨R, i * 6 + 1, none⟩ y1) ∧ (∀ b, b ≠ R → ((wr.setCell ⟨R, i * 6, none⟩ y0).setCell ⟨R, i * 6 + 1, none⟩ y1).heap[b]? = wr.heap[b]?)) := fun y0 y1 => by
        have hus : ∀ b, b ≠ R → ((wr.setCell ⟨R, i * 6, none⟩ y0).setCell ⟨R, i * 6 + 1, none⟩ y1).heap[b]? = wr.heap[b]? := fun b hb => by rw [Below.heap_setCell _ ⟨R, _, none⟩ _ b (by simpa using hb), Below.heap_setCell _ ⟨R, _, none⟩ _ b (by simpa using hb)]
        refine ⟨⟨_, ((hrow.set _ _).set _ _), ⟨by simp, by simp, by (try dsimp only); rw [if_neg (by omega), if_neg (by omega)]; exact c2, by (try dsimp only); rw [if_neg (by omega), if_neg (by omega)]; exact c3, by (try dsimp only); rw [if_neg (by omega), if_neg (by omega)]; exact c4, by (try dsimp only); rw [if_neg (by omega), if_neg (by omega)]; exact c5⟩, fun j c' hj hne => ?_⟩, ((hB.setCell hR _).setCell hR _), hus⟩
        obtain ⟨a0, a1, a2, a3, a4, a5, x2, z2, x3, z3, x4, z4⟩ := HPu.out j c' hj hne
        exact ⟨by (try dsimp only); rw [if_neg (by omega), if_neg (by omega)]; exact a0, by (try dsimp only); rw [if_neg (by omega), if_neg (by omega)]; exact a1, by (try dsimp only); rw [if_neg (by omega), if_neg (by omega)]; exact a2, by (try dsimp only); rw [if_neg (by omega), if_neg (by omega)]; exact a3, by (try dsimp only); rw [if_neg (by omega), if_neg (by omega)]; exact a4, by (try dsimp only); rw [if_neg (by omega), if_neg (by omega)]; exact a5, x2.of_block fun b hb => hus b fun e => D.row2 j c' b hj (by rw [NdMix_steps] at hb; exact hb) ((HIN b).2 e), z2.of_block fun b hb => hus b fun e => D.row2 j c' b hj (by rw [NdMix_steps] at hb; exact hb) ((HIN b).2 e), x3.of_block fun b hb => hus b fun e => D.row3 j c' b hj (by rw [NdMix_log] at hb; exact hb) ((HIN b).2 e), z3.of_block fun b hb => hus b fun e => D.row3 j c' b hj (by rw [NdMix_log] at hb; exact hb) ((HIN b).2 e), x4.of_block fun b hb => hus b fun e => D.row4 j c' b hj (by rw [NdMix_known] at hb; exact hb) ((HIN b).2 e), z4.of_block fun b hb => hus b fun e => D.row4 j c' b hj (by rw [NdMix_known] at hb; exact hb) ((HIN b).2 e)⟩
      clear hrow hB HPu c0 c1 c2 c3 c4 c5
      go_wp2_with fail
      have EK : Hid ((K : Int) + 1 + 1 = ((K + 2 : Nat) : Int)) := by show _ = _; omega
      first | rw [EK.out] | skip
      clear EK
      refine (markIntS_any _ _ c.steps.length B (K + 2 : Nat) _ (w2.of_block fun b hb => (HS0.out _ _).2.2 b (n2 b hb)) (by omega)).mono ?_
      rintro r v0 ⟨rfl, H2, S2, hB2, hO⟩
      have hB : Below B w v0 := (HS0.out _ _).2.1.trans hB2
      have hus : ∀ b, b < wr.heap.size → b ≠ R → ¬ InI (r2 i) c.steps.length b → v0.heap[b]? = wr.heap[b]? := fun b hb h1 h3 => (hO b (by simpa using hb) h3).trans ((HS0.out _ _).2.2 b h1)
      have hz0 : wr.heap.size ≤ v0.heap.size := by have := hB2.size; simpa using this
      have HZ : ∃ g, v0.rowIs R 49 m g ∧ (g (i * 6) = .int .i64 ((K : Int)) ∧ g (i * 6 + 1) = .int .i64 ((K : Int) + 1) ∧ g (i * 6 + 2) = .slice (r2 i) c.steps.length (k2 i) ∧ g (i * 6 + 3) = .slice (r3 i) c.log.length (k3 i) ∧ g (i * 6 + 4) = .slice (r4 i) c.known.length (k4 i) ∧ g (i * 6 + 5) = .int .i64 c.told) ∧ (∀ j c, l[j]? = some c → j ≠ i → NdP v0 B g r2 r3 r4 k2 k3 k4 j (NdMix l k i j c)) := by
        obtain ⟨g, h1, h3, h4⟩ := (HS0.out _ _).1
        refine ⟨g, h1.of_block (hO R h1.lt (fun hb => n2 R hb rfl)), h3, fun j c' hj hne => ?_⟩
        have p0 := h4 j c' hj hne
        exact p0.of_block (w' := v0) (fun b hb => hO b (p0.lt (.inl hb)).2 (fun h => D.own2_2 i c j c' b HC.out hj (fun e => hne e.symm) h (by rw [NdMix_steps] at hb; exact hb))) (fun b hb => hO b (p0.lt (.inr (.inl hb))).2 (fun h => D.own2_3 i c j c' b HC.out hj h (by rw [NdMix_log] at hb; exact hb))) (fun b hb => hO b (p0.lt (.inr (.inr (hb)))).2 (fun h => D.own2_4 i c j c' b HC.out hj h (by rw [NdMix_known] at hb; exact hb)))
      obtain ⟨g0, hrow, ⟨c0, c1, c2, c3, c4, c5⟩, HPu'⟩ := HZ
      have HPu : Hid (∀ j c, l[j]? = some c → j ≠ i → NdP v0 B g0 r2 r3 r4 k2 k3 k4 j (NdMix l k i j c)) := HPu'
      replace w3 := w3.of_block fun b hb => hus b (w3.lt hb).2 (n3 b hb) (fun h => D.own2_3 i c i c b HC.out HC.out h hb)
      replace w4 := w4.of_block fun b hb => hus b (w4.lt hb).2 (n4 b hb) (fun h => D.own2_4 i c i c b HC.out HC.out h hb)
      have HO2 : Hid (∀ b, b < w.heap.size → ¬ NdIn (some ⟨R, 0, none⟩) l r2 r3 r4 b → v0.heap[b]? = w.heap[b]?) := fun b hb hn => (hus b (by have := hBz; omega) (fun e => hn (.inl ((HIN b).2 e))) (fun h => hn (.inr ⟨i, c, HC.out, .inl h⟩))).trans (HO.out b hb hn)
      replace HO := HO2
      clear hB2 hO HS0 HPu' HO2 hus hf d0 d1 d2 d3 d4 d5 w2
      have hBz : w.heap.size ≤ v0.heap.size := hB.size
      obtain ⟨K0, hK0⟩ : ∃ K', (K + 2 : Nat) + c.steps.length = K' := ⟨_, rfl⟩
      rw [hK0]
      have HK0' : Hid ((K + 2 : Nat) + c.steps.length = K0) := hK0
      have hk0 : K0 ≤ (K + 2 : Nat) + c.steps.length := by omega
      have hg0 : (K + 2 : Nat) + c.steps.length ≤ K0 := by omega
      clear hK0
      have d0 := hrow.cell (i := i * 6) (by omega)
      rw [c0] at d0
      have d1 := hrow.cell (i := i * 6 + 1) (by omega)
      rw [c1] at d1
      have d2 := hrow.cell (i := i * 6 + 2) (by omega)
      rw [c2] at d2
      have d3 := hrow.cell (i := i * 6 + 3) (by omega)
      rw [c3] at d3
      have d4 := hrow.cell (i := i * 6 + 4) (by omega)
      rw [c4] at d4
      have d5 := hrow.cell (i := i * 6 + 5) (by omega)
      rw [c5] at d5
      have hf := hrow.frozen
      have HS1 : Hid (∀ (_ : Unit), (∃ g, v0.rowIs R 49 m g ∧ (g (i * 6) = .int .i64 ((K : Int)) ∧ g (i * 6 + 1) = .int .i64 ((K : Int) + 1) ∧ g (i * 6 + 2) = .slice (r2 i) c.steps.length (k2 i) ∧ g (i * 6 + 3) = .slice (r3 i) c.log.length (k3 i) ∧ g (i * 6 + 4) = .slice (r4 i) c.known.length (k4 i) ∧ g (i * 6 + 5) = .int .i64 c.told) ∧ (∀ j c, l[j]? = some c → j ≠ i → NdP v0 B g r2 r3 r4 k2 k3 k4 j (NdMix l k i j c))) ∧ Below B w v0 ∧ (∀ b, b ≠ R → v0.heap[b]? = v0.heap[b]?)) := fun _ => by
        have hus : ∀ b, b ≠ R → v0.heap[b]? = v0.heap[b]? := fun b hb => by rfl
        refine ⟨⟨_, hrow, ⟨by exact c0, by exact c1, by exact c2, by exact c3, by exact c4, by exact c5⟩, fun j c' hj hne => ?_⟩, hB, hus⟩
        obtain ⟨a0, a1, a2, a3, a4, a5, x2, z2, x3, z3, x4, z4⟩ := HPu.out j c' hj hne
        exact ⟨by exact a0, by exact a1, by exact a2, by exact a3, by exact a4, by exact a5, x2.of_block fun b hb => hus b fun e => D.row2 j c' b hj (by rw [NdMix_steps] at hb; exact hb) ((HIN b).2 e), z2.of_block fun b hb => hus b fun e => D.row2 j c' b hj (by rw [NdMix_steps] at hb; exact hb) ((HIN b).2 e), x3.of_block fun b hb => hus b fun e => D.row3 j c' b hj (by rw [NdMix_log] at hb; exact hb) ((HIN b).2 e), z3.of_block fun b hb => hus b fun e => D.row3 j c' b hj (by rw [NdMix_log] at hb; exact hb) ((HIN b).2 e), x4.of_block fun b hb => hus b fun e => D.row4 j c' b hj (by rw [NdMix_known] at hb; exact hb) ((HIN b).2 e), z4.of_block fun b hb => hus b fun e => D.row4 j c' b hj (by rw [NdMix_known] at hb; exact hb) ((HIN b).2 e)⟩
      clear hrow hB HPu c0 c1 c2 c3 c4 c5
      go_wp2_with fail
      have EK : Hid ((K0 : Int) = ((K0 : Nat) : Int)) := by show _ = _; omega
      first | rw [EK.out] | skip
      clear EK
      refine (markRowS_any _ _ c.log.length B (K0 : Nat) _ w3 (by omega)).mono ?_
      rintro r v1 ⟨rfl, H3, S3, hB2, hO⟩
      have hB : Below B w v1 := (HS1.out ()).2.1.trans hB2
      have hus : ∀ b, b < v0.heap.size → b ≠ R → ¬ InI (r3 i) c.log.length b → v1.heap[b]? = v0.heap[b]? := fun b hb h1 h3 => hO b hb h3
      have hz1 : v0.heap.size ≤ v1.heap.size := by have := hB2.size; simpa using this
      have HZ : ∃ g, v1.rowIs R 49 m g ∧ (g (i * 6) = .int .i64 ((K : Int)) ∧ g (i * 6 + 1) = .int .i64 ((K : Int) + 1) ∧ g (i * 6 + 2) = .slice (r2 i) c.steps.length (k2 i) ∧ g (i * 6 + 3) = .slice (r3 i) c.log.length (k3 i) ∧ g (i * 6 + 4) = .slice (r4 i) c.known.length (k4 i) ∧ g (i * 6 + 5) = .int .i64 c.told) ∧ (∀ j c, l[j]? = some c → j ≠ i → NdP v1 B g r2 r3 r4 k2 k3 k4 j (NdMix l k i j c)) := by
        obtain ⟨g, h1, h3, h4⟩ := (HS1.out ()).1
        refine ⟨g, h1.of_block (hO R h1.lt (fun hb => n3 R hb rfl)), h3, fun j c' hj hne => ?_⟩
        have p0 := h4 j c' hj hne
        exact p0.of_block (w' := v1) (fun b hb => hO b (p0.lt (.inl hb)).2 (fun h => D.own2_3 j c' i c b hj HC.out (by rw [NdMix_steps] at hb; exact hb) h)) (fun b hb => hO b (p0.lt (.inr (.inl hb))).2 (fun h => D.own3_3 i c j c' b HC.out hj (fun e => hne e.symm) h (by rw [NdMix_log] at hb; exact hb))) (fun b hb => hO b (p0.lt (.inr (.inr (hb)))).2 (fun h => D.own3_4 i c j c' b HC.out hj h (by rw [NdMix_known] at hb; exact hb)))
      obtain ⟨g1, hrow, ⟨c0, c1, c2, c3, c4, c5⟩, HPu'⟩ := HZ
      have HPu : Hid (∀ j c, l[j]? = some c → j ≠ i → NdP v1 B g1 r2 r3 r4 k2 k3 k4 j (NdMix l k i j c)) := HPu'
      replace H2 := H2.of_block fun b hb => hus b (S2.lt (by rw [markZ_length] at hb; exact hb)).2 (n2 b (by rw [markZ_length] at hb; exact hb)) (fun h => D.own2_3 i c i c b HC.out HC.out (by rw [markZ_length] at hb; exact hb) h)
      replace S2 := S2.of_block fun b hb => hus b (S2.lt hb).2 (n2 b hb) (fun h => D.own2_3 i c i c b HC.out HC.out hb h)
      replace w4 := w4.of_block fun b hb => hus b (w4.lt hb).2 (n4 b hb) (fun h => D.own3_4 i c i c b HC.out HC.out h hb)
      have HO2 : Hid (∀ b, b < w.heap.size → ¬ NdIn (some ⟨R, 0, none⟩) l r2 r3 r4 b → v1.heap[b]? = w.heap[b]?) := fun b hb hn => (hus b (by have := hBz; omega) (fun e => hn (.inl ((HIN b).2 e))) (fun h => hn (.inr ⟨i, c, HC.out, .inr (.inl h)⟩))).trans (HO.out b hb hn)
      replace HO := HO2
      clear hB2 hO HS1 HPu' HO2 hus hf d0 d1 d2 d3 d4 d5 w3
      have hBz : w.heap.size ≤ v1.heap.size := hB.size
      obtain ⟨K1, hK1⟩ : ∃ K', (K0 : Nat) + 2 * c.log.length = K' := ⟨_, rfl⟩
      rw [hK1]
      have HK1' : Hid ((K0 : Nat) + 2 * c.log.length = K1) := hK1
      have hk1 : K1 ≤ (K0 : Nat) + 2 * c.log.length := by omega
      have hg1 : (K0 : Nat) + 2 * c.log.length ≤ K1 := by omega
      clear hK1
      have d0 := hrow.cell (i := i * 6) (by omega)
      rw [c0] at d0
      have d1 := hrow.cell (i := i * 6 + 1) (by omega)
      rw [c1] at d1
      have d2 := hrow.cell (i := i * 6 + 2) (by omega)
      rw [c2] at d2
      have d3 := hrow.cell (i := i * 6 + 3) (by omega)
      rw [c3] at d3
      have d4 := hrow.cell (i := i * 6 + 4) (by omega)
      rw [c4] at d4
      have d5 := hrow.cell (i := i * 6 + 5) (by omega)
      rw [c5] at d5
      have hf := hrow.frozen
      have HS2 : Hid (∀ (_ : Unit), (∃ g, v1.rowIs R 49 m g ∧ (g (i * 6) = .int .i64 ((K : Int)) ∧ g (i * 6 + 1) = .int .i64 ((K : Int) + 1) ∧ g (i * 6 + 2) = .slice (r2 i) c.steps.length (k2 i) ∧ g (i * 6 + 3) = .slice (r3 i) c.log.length (k3 i) ∧ g (i * 6 + 4) = .slice (r4 i) c.known.length (k4 i) ∧ g (i * 6 + 5) = .int .i64 c.told) ∧ (∀ j c, l[j]? = some c → j ≠ i → NdP v1 B g r2 r3 r4 k2 k3 k4 j (NdMix l k i j c))) ∧ Below B w v1 ∧ (∀ b, b ≠ R → v1.heap[b]? = v1.heap[b]?)) := fun _ => by
        have hus : ∀ b, b ≠ R → v1.heap[b]? = v1.heap[b]? := fun b hb => by rfl
        refine ⟨⟨_, hrow, ⟨by exact c0, by exact c1, by exact c2, by exact c3, by exact c4, by exact c5⟩, fun j c' hj hne => ?_⟩, hB, hus⟩
        obtain ⟨a0, a1, a2, a3, a4, a5, x2, z2, x3, z3, x4, z4⟩ := HPu.out j c' hj hne
        exact ⟨by exact a0, by exact a1, by exact a2, by exact a3, by exact a4, by exact a5, x2.of_block fun b hb => hus b fun e => D.row2 j c' b hj (by rw [NdMix_steps] at hb; exact hb) ((HIN b).2 e), z2.of_block fun b hb => hus b fun e => D.row2 j c' b hj (by rw [NdMix_steps] at hb; exact hb) ((HIN b).2 e), x3.of_block fun b hb => hus b fun e => D.row3 j c' b hj (by rw [NdMix_log] at hb; exact hb) ((HIN b).2 e), z3.of_block fun b hb => hus b fun e => D.row3 j c' b hj (by rw [NdMix_log] at hb; exact hb) ((HIN b).2 e), x4.of_block fun b hb => hus b fun e => D.row4 j c' b hj (by rw [NdMix_known] at hb; exact hb) ((HIN b).2 e), z4.of_block fun b hb => hus b fun e => D.row4 j c' b hj (by rw [NdMix_known] at hb; exact hb) ((HIN b).2 e)⟩
      clear hrow hB HPu c0 c1 c2 c3 c4 c5
      go_wp2_with fail
      have EK : Hid ((K1 : Int) = ((K1 : Nat) : Int)) := by show _ = _; omega
      first | rw [EK.out] | skip
      clear EK
      refine (markIntS_any _ _ c.known.length B (K1 : Nat) _ w4 (by omega)).mono ?_
      rintro r v2 ⟨rfl, H4, S4, hB2, hO⟩
      have hB : Below B w v2 := (HS2.out ()).2.1.trans hB2
      have hus : ∀ b, b < v1.heap.size → b ≠ R → ¬ InI (r4 i) c.known.length b → v2.heap[b]? = v1.heap[b]? := fun b hb h1 h3 => hO b hb h3
      have hz2 : v1.heap.size ≤ v2.heap.size := by have := hB2.size; simpa using this
      have HZ : ∃ g, v2.rowIs R 49 m g ∧ (g (i * 6) = .int .i64 ((K : Int)) ∧ g (i * 6 + 1) = .int .i64 ((K : Int) + 1) ∧ g (i * 6 + 2) = .slice (r2 i) c.steps.length (k2 i) ∧ g (i * 6 + 3) = .slice (r3 i) c.log.length (k3 i) ∧ g (i * 6 + 4) = .slice (r4 i) c.known.length (k4 i) ∧ g (i * 6 + 5) = .int .i64 c.told) ∧ (∀ j c, l[j]? = some c → j ≠ i → NdP v2 B g r2 r3 r4 k2 k3 k4 j (NdMix l k i j c)) := by
        obtain ⟨g, h1, h3, h4⟩ := (HS2.out ()).1
        refine ⟨g, h1.of_block (hO R h1.lt (fun hb => n4 R hb rfl)), h3, fun j c' hj hne => ?_⟩
        have p0 := h4 j c' hj hne
        exact p0.of_block (w' := v2) (fun b hb => hO b (p0.lt (.inl hb)).2 (fun h => D.own2_4 j c' i c b hj HC.out (by rw [NdMix_steps] at hb; exact hb) h)) (fun b hb => hO b (p0.lt (.inr (.inl hb))).2 (fun h => D.own3_4 j c' i c b hj HC.out (by rw [NdMix_log] at hb; exact hb) h)) (fun b hb => hO b (p0.lt (.inr (.inr (hb)))).2 (fun h => D.own4_4 i c j c' b HC.out hj (fun e => hne e.symm) h (by rw [NdMix_known] at hb; exact hb)))
      obtain ⟨g2, hrow, ⟨c0, c1, c2, c3, c4, c5⟩, HPu'⟩ := HZ
      have HPu : Hid (∀ j c, l[j]? = some c → j ≠ i → NdP v2 B g2 r2 r3 r4 k2 k3 k4 j (NdMix l k i j c)) := HPu'
      replace H2 := H2.of_block fun b hb => hus b (S2.lt (by rw [markZ_length] at hb; exact hb)).2 (n2 b (by rw [markZ_length] at hb; exact hb)) (fun h => D.own2_4 i c i c b HC.out HC.out (by rw [markZ_length] at hb; exact hb) h)
      replace S2 := S2.of_block fun b hb => hus b (S2.lt hb).2 (n2 b hb) (fun h => D.own2_4 i c i c b HC.out HC.out hb h)
      replace H3 := H3.of_block fun b hb => hus b (S3.lt (by rw [RwMk_length] at hb; exact hb)).2 (n3 b (by rw [RwMk_length] at hb; exact hb)) (fun h => D.own3_4 i c i c b HC.out HC.out (by rw [RwMk_length] at hb; exact hb) h)
      replace S3 := S3.of_block fun b hb => hus b (S3.lt hb).2 (n3 b hb) (fun h => D.own3_4 i c i c b HC.out HC.out hb h)
      have HO2 : Hid (∀ b, b < w.heap.size → ¬ NdIn (some ⟨R, 0, none⟩) l r2 r3 r4 b → v2.heap[b]? = w.heap[b]?) := fun b hb hn => (hus b (by have := hBz; omega) (fun e => hn (.inl ((HIN b).2 e))) (fun h => hn (.inr ⟨i, c, HC.out, .inr (.inr (h))⟩))).trans (HO.out b hb hn)
      replace HO := HO2
      clear hB2 hO HS2 HPu' HO2 hus hf d0 d1 d2 d3 d4 d5 w4
      have hBz : w.heap.size ≤ v2.heap.size := hB.size
      obtain ⟨K2, hK2⟩ : ∃ K', (K1 : Nat) + c.known.length = K' := ⟨_, rfl⟩
      rw [hK2]
      have HK2' : Hid ((K1 : Nat) + c.known.length = K2) := hK2
      have hk2 : K2 ≤ (K1 : Nat) + c.known.length := by omega
      have hg2 : (K1 : Nat) + c.known.length ≤ K2 := by omega
      clear hK2
      have d0 := hrow.cell (i := i * 6) (by omega)
      rw [c0] at d0
      have d1 := hrow.cell (i := i * 6 + 1) (by omega)
      rw [c1] at d1
      have d2 := hrow.cell (i := i * 6 + 2) (by omega)
      rw [c2] at d2
      have d3 := hrow.cell (i := i * 6 + 3) (by omega)
      rw [c3] at d3
      have d4 := hrow.cell (i := i * 6 + 4) (by omega)
      rw [c4] at d4
      have d5 := hrow.cell (i := i * 6 + 5) (by omega)
      rw [c5] at d5
      have hf := hrow.frozen
      have HS3 : Hid (∀ y5, (∃ g, (v2.setCell ⟨R, i * 6 + 5, none⟩ y5).rowIs R 49 m g ∧ (g (i * 6) = .int .i64 ((K : Int)) ∧ g (i * 6 + 1) = .int .i64 ((K : Int) + 1) ∧ g (i * 6 + 2) = .slice (r2 i) c.steps.length (k2 i) ∧ g (i * 6 + 3) = .slice (r3 i) c.log.length (k3 i) ∧ g (i * 6 + 4) = .slice (r4 i) c.known.length (k4 i) ∧ g (i * 6 + 5) = y5) ∧ (∀ j c, l[j]? = some c → j ≠ i → NdP (v2.setCell ⟨R, i * 6 + 5, none⟩ y5) B g r2 r3 r4 k2 k3 k4 j (NdMix l k i j c))) ∧ Below B w (v2.setCell ⟨R, i * 6 + 5, none⟩ y5) ∧ (∀ b, b ≠ R → (v2.setCell ⟨R, i * 6 + 5, none⟩ y5).heap[b]? = v2.heap[b]?)) := fun y5 => by
        have hus : ∀ b, b ≠ R → (v2.setCell ⟨R, i * 6 + 5, none⟩ y5).heap[b]? = v2.heap[b]? := fun b hb => by rw [Below.heap_setCell _ ⟨R, _, none⟩ _ b (by simpa using hb)]
        refine ⟨⟨_, (hrow.set _ _), ⟨by (try dsimp only); rw [if_neg (by omega)]; exact c0, by (try dsimp only); rw [if_neg (by omega)]; exact c1, by (try dsimp only); rw [if_neg (by omega)]; exact c2, by (try dsimp only); rw [if_neg (by omega)]; exact c3, by (try dsimp only); rw [if_neg (by omega)]; exact c4, by simp⟩, fun j c' hj hne => ?_⟩, (hB.setCell hR _), hus⟩
        obtain ⟨a0, a1, a2, a3, a4, a5, x2, z2, x3, z3, x4, z4⟩ := HPu.out j c' hj hne
        exact ⟨by (try dsimp only); rw [if_neg (by omega)]; exact a0, by (try dsimp only); rw [if_neg (by omega)]; exact a1, by (try dsimp only); rw [if_neg (by omega)]; exact a2, by (try dsimp only); rw [if_neg (by omega)]; exact a3, by (try dsimp only); rw [if_neg (by omega)]; exact a4, by (try dsimp only); rw [if_neg (by omega)]; exact a5, x2.of_block fun b hb => hus b fun e => D.row2 j c' b hj (by rw [NdMix_steps] at hb; exact hb) ((HIN b).2 e), z2.of_block fun b hb => hus b fun e => D.row2 j c' b hj (by rw [NdMix_steps] at hb; exact hb) ((HIN b).2 e), x3.of_block fun b hb => hus b fun e => D.row3 j c' b hj (by rw [NdMix_log] at hb; exact hb) ((HIN b).2 e), z3.of_block fun b hb => hus b fun e => D.row3 j c' b hj (by rw [NdMix_log] at hb; exact hb) ((HIN b).2 e), x4.of_block fun b hb => hus b fun e => D.row4 j c' b hj (by rw [NdMix_known] at hb; exact hb) ((HIN b).2 e), z4.of_block fun b hb => hus b fun e => D.row4 j c' b hj (by rw [NdMix_known] at hb; exact hb) ((HIN b).2 e)⟩
      clear hrow hB HPu c0 c1 c2 c3 c4 c5
      have HFIN : Hid (∀ y5, y5 = .int .i64 ((K2 : Int)) → (∃ g, (v2.setCell ⟨R, i * 6 + 5, none⟩ y5).rowIs R 49 m g ∧ Hid (∀ j c, l[j]? = some c → NdP (v2.setCell ⟨R, i * 6 + 5, none⟩ y5) B g r2 r3 r4 k2 k3 k4 j (NdMix l k (i + 1) j c))) ∧ Below B w (v2.setCell ⟨R, i * 6 + 5, none⟩ y5) ∧ Hid (∀ b, b < w.heap.size → ¬ NdIn (some ⟨R, 0, none⟩) l r2 r3 r4 b → (v2.setCell ⟨R, i * 6 + 5, none⟩ y5).heap[b]? = w.heap[b]?)) := fun y5 ey5 => by
        obtain ⟨⟨g, h1, ⟨e0, e1, e2, e3, e4, e5⟩, h4⟩, h5, hus⟩ := HS3.out y5
        refine ⟨⟨g, h1, fun j c' hj => ?_⟩, h5, fun b hb hn => (hus b (fun e => hn (.inl ((HIN b).2 e)))).trans (HO.out b hb hn)⟩
        by_cases ej : j = i
        · subst ej
          have ec : c' = c := by have := HC.out; rw [hj] at this; exact Option.some.inj this
          subst ec
          have em : NdMix l k (j + 1) j c' = NdM K c' := by simp [NdMix, HK.out]
          rw [em]
          refine ⟨?_, ?_, ?_, ?_, ?_, ?_, ?_, ?_, ?_, ?_, ?_, ?_⟩
          · rw [e0]; first | rfl | (show Value.int .i64 _ = Value.int .i64 _; congr 1; show _ = (((_ : Nat)) : Int); have := HK0'.out; have := HK1'.out; have := HK2'.out; omega)
          · rw [e1]; first | rfl | (show Value.int .i64 _ = Value.int .i64 _; congr 1; show _ = (((_ : Nat)) : Int); have := HK0'.out; have := HK1'.out; have := HK2'.out; omega)
          · rw [e2, NdM_steps]
          · rw [e3, NdM_log]
          · rw [e4, NdM_known]
          · rw [e5, ey5]; first | rfl | (show Value.int .i64 _ = Value.int .i64 _; congr 1; show _ = (((_ : Nat)) : Int); have := HK0'.out; have := HK1'.out; have := HK2'.out; omega)
          · have e9 : K + 2 = (K + 2 : Nat) := by have := HK0'.out; have := HK1'.out; have := HK2'.out; omega
            show Ints _ _ (markZ (K + 2) c'.steps.length)
            rw [e9]
            exact H2.of_block fun b hb => hus b (n2 b (by rw [markZ_length] at hb; exact hb))
          · rw [NdM_steps]; exact S2.of_block fun b hb => hus b (n2 b hb)
          · have e9 : K + 2 + c'.steps.length = (K0 : Nat) := by have := HK0'.out; have := HK1'.out; have := HK2'.out; omega
            show Rws _ _ (RwMk (K + 2 + c'.steps.length) c'.log.length)
            rw [e9]
            exact H3.of_block fun b hb => hus b (n3 b (by rw [RwMk_length] at hb; exact hb))
          · rw [NdM_log]; exact S3.of_block fun b hb => hus b (n3 b hb)
          · have e9 : K + 2 + c'.steps.length + 2 * c'.log.length = (K1 : Nat) := by have := HK0'.out; have := HK1'.out; have := HK2'.out; omega
            show Ints _ _ (markZ (K + 2 + c'.steps.length + 2 * c'.log.length) c'.known.length)
            rw [e9]
            exact H4.of_block fun b hb => hus b (n4 b (by rw [markZ_length] at hb; exact hb))
          · rw [NdM_known]; exact S4.of_block fun b hb => hus b (n4 b hb)
        · have em : NdMix l k (i + 1) j c' = NdMix l k i j c' := by
            unfold NdMix
            by_cases hji : j < i
            · rw [if_pos hji, if_pos (by omega)]
            · rw [if_neg hji, if_neg (by omega)]
          rw [em]
          exact h4 j c' hj ej
      have HKE : Hid (NdK l k (i + 1) = K2 + 1) := by show _ = _; rw [HK1.out]; unfold NdT; have := HK0'.out; have := HK1'.out; have := HK2'.out; omega
      clear HS3 HO H2 S2 n2 H3 S3 n3 H4 S4 n4
      go_wp2
      go_roundw
      case rel =>
        obtain ⟨s1, s2, s3⟩ := HFIN.out _ (by first | rfl | (congr 1; done))
        exact ⟨i + 1, by omega, by first | (rw [HKE.out]; done) | (rw [HKE.out]; go_num), by go_num, s1, s2, s3⟩
      case measure => simp [intOf]; omega
    · obtain rfl : i = l.length := by omega
      go_wp2
      go_ret
      refine ⟨rfl, .inr ⟨R, m, f', rfl, hR, by rw [NdMs_length]; exact hm, hrow, fun j c hj => ?_⟩, hB, HO.out⟩
      obtain ⟨d, hd, rfl⟩ := NdMs_get hj
      have hjl := (List.getElem?_eq_some_iff.1 hd).1
      have := HP.out j d hd
      rwa [show NdMix l k l.length j d = NdM (NdK l k j) d by simp [NdMix, hjl]] at this

set_option maxRecDepth 100000 in
set_option maxHeartbeats 8000000 in
theorem heldNodeS_any (a : Option Addr) (cp B k : Nat) (l : List Nd) (r2 r3 r4 : Nat → Option Addr) (k2 k3 k4 : Nat → Nat) (w : World) (h : NdO w B a (NdMs l k) r2 r3 r4 k2 k3 k4) (h2 : NdK l k l.length ≤ 1000000000) (hl : l.length ≤ 1000000) :
    Calls Tryd.prog 30 #[.slice a l.length cp, .int .i64 (k : Int)] w fun r w' => r = .returned (.int .i64 ((NdK l k l.length : Nat) : Int)) ∧ w' = w := by
  go_enter Tryd.func30, Tryd.ntmps30
  go_wp2
  go_loop [1, 5] (fun x y => ∃ i : Nat, i ≤ l.length ∧ x = .int .i64 ((NdK l k i : Nat) : Int) ∧ y = .int .i64 (i : Int)) (fun _ y => l.length - (intOf y).toNat)
  case atStart => exact ⟨0, Nat.zero_le _, rfl, rfl⟩
  case round =>
    obtain ⟨i, hi, rfl, rfl⟩ := hrel
    by_cases hlt : i < l.length
    · obtain ⟨c, hc⟩ := getNd hlt
      have hK : NdK l k (i + 1) = NdK l k i + NdT c := NdK_succ hc
      have hKm := NdK_mono l k (i + 1) l.length (by omega)
      rcases h with h | ⟨R, m, f, rfl, hR, hm, hrow, hp⟩
      · have := NdMs_length l k
        rw [h] at this
        simp at this
        omega
      rw [NdMs_length] at hm
      obtain ⟨c0, c1, c2, c3, c4, c5, q2, -, q3, -, q4, -⟩ := hp i _ (NdMs_at hc)
      obtain ⟨K, hKe⟩ : ∃ K, NdK l k i = K := ⟨_, rfl⟩
      rw [hKe] at hK c0 c1 c2 c3 c4 c5 q2 q3 q4 ⊢
      have hKb : K + NdT c ≤ 1000000000 := by omega
      have HK1 : Hid (NdK l k (i + 1) = K + NdT c) := hK
      unfold NdT at hKb
      clear hKe hK hKm
      obtain ⟨K0, hK0⟩ : ∃ K', (K + 2 : Nat) + c.steps.length = K' := ⟨_, rfl⟩
      obtain ⟨K1, hK1⟩ : ∃ K', (K0 : Nat) + 2 * c.log.length = K' := ⟨_, rfl⟩
      obtain ⟨K2, hK2⟩ : ∃ K', (K1 : Nat) + c.known.length = K' := ⟨_, rfl⟩
      have d0 : w.cell? ⟨R, i * 6, none⟩ = some (.int .i64 ((K : Int))) := by rw [hrow.cell (by omega), c0]; first | rfl | (congr 1; show Value.int .i64 _ = Value.int .i64 _; congr 1; show (((_ : Nat)) : Int) = _; omega)
      have d1 : w.cell? ⟨R, i * 6 + 1, none⟩ = some (.int .i64 ((K : Int) + 1)) := by rw [hrow.cell (by omega), c1]; first | rfl | (congr 1; show Value.int .i64 _ = Value.int .i64 _; congr 1; show (((_ : Nat)) : Int) = _; omega)
      have d2 : w.cell? ⟨R, i * 6 + 2, none⟩ = some (.slice (r2 i) c.steps.length (k2 i)) := by rw [hrow.cell (by omega), c2, NdM_steps]
      replace q2 : Ints w (r2 i) (markZ (K + 2 : Nat) c.steps.length) := by rw [show (K + 2 : Nat) = K + 2 from by omega]; exact q2
      have d3 : w.cell? ⟨R, i * 6 + 3, none⟩ = some (.slice (r3 i) c.log.length (k3 i)) := by rw [hrow.cell (by omega), c3, NdM_log]
      replace q3 : Rws w (r3 i) (RwMk (K0 : Nat) c.log.length) := by rw [show (K0 : Nat) = K + 2 + c.steps.length from by omega]; exact q3
      have d4 : w.cell? ⟨R, i * 6 + 4, none⟩ = some (.slice (r4 i) c.known.length (k4 i)) := by rw [hrow.cell (by omega), c4, NdM_known]
      replace q4 : Ints w (r4 i) (markZ (K1 : Nat) c.known.length) := by rw [show (K1 : Nat) = K + 2 + c.steps.length + 2 * c.log.length from by omega]; exact q4
      have d5 : w.cell? ⟨R, i * 6 + 5, none⟩ = some (.int .i64 ((K2 : Int))) := by rw [hrow.cell (by omega), c5]; first | rfl | (congr 1; show Value.int .i64 _ = Value.int .i64 _; congr 1; show (((_ : Nat)) : Int) = _; omega)
      have HKE : Hid (NdK l k (i + 1) = K2 + 1) := by show _ = _; rw [HK1.out]; unfold NdT; omega
      have HK0' : Hid ((K + 2 : Nat) + c.steps.length = K0) := hK0
      have hx0 : K0 ≤ 1000000000 := by omega
      have HK1' : Hid ((K0 : Nat) + 2 * c.log.length = K1) := hK1
      have hx1 : K1 ≤ 1000000000 := by omega
      have HK2' : Hid ((K1 : Nat) + c.known.length = K2) := hK2
      have hx2 : K2 ≤ 1000000000 := by omega
      clear c0 c1 c2 c3 c4 c5 hp hrow hc hK0 hK1 hK2
      go_wp2_with fail
      have EK : Hid ((K : Int) + 1 + 1 = ((K + 2 : Nat) : Int)) := by show _ = _; omega
      first | rw [EK.out] | skip
      clear EK
      refine (heldIntS_any _ _ c.steps.length (K + 2 : Nat) _ q2 (by have := HK0'.out; omega)).mono ?_
      rintro r w' ⟨rfl, hw⟩
      rw [hw]
      clear hw w'
      rw [HK0'.out]
      have np0 : ¬ ((K0 : Nat) : Int) < 0 := by omega
      go_wp2_with fail
      have EK : Hid ((K0 : Int) = ((K0 : Nat) : Int)) := by show _ = _; omega
      first | rw [EK.out] | skip
      clear EK
      refine (heldRowS_any _ _ c.log.length (K0 : Nat) _ q3 (by have := HK1'.out; omega)).mono ?_
      rintro r w' ⟨rfl, hw⟩
      rw [hw]
      clear hw w'
      rw [HK1'.out]
      have np1 : ¬ ((K1 : Nat) : Int) < 0 := by omega
      go_wp2_with fail
      have EK : Hid ((K1 : Int) = ((K1 : Nat) : Int)) := by show _ = _; omega
      first | rw [EK.out] | skip
      clear EK
      refine (heldIntS_any _ _ c.known.length (K1 : Nat) _ q4 (by have := HK2'.out; omega)).mono ?_
      rintro r w' ⟨rfl, hw⟩
      rw [hw]
      clear hw w'
      rw [HK2'.out]
      have np2 : ¬ ((K2 : Nat) : Int) < 0 := by omega
      go_wp2
      go_round
      case rel => exact ⟨i + 1, by omega, by first | (rw [HKE.out]; done) | (rw [HKE.out]; go_num), by go_num⟩
      case measure => simp [intOf]; omega
    · obtain rfl : i = l.length := by omega
      go_wp2
      go_ret
      exact ⟨rfl, rfl⟩

end Go.Proofs.YtekjpbfmiebigaaDoor
