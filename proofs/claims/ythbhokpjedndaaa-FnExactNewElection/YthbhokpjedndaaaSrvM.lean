/-
  Lists of Server that a call owns: where their own lists lie, that all of it lies apart, and the contracts of markServerS and heldServerS. Made by mkbagmark.py.
-/
import Derived.Test.YthbhokpjedndaaaSrv
namespace Go.Proofs.Ythbhokpjedndaaa
open Go.RowKit

/-- The j-th, by a row's cells: its own lists at these places, in room from B on. -/
def SvP (w : World) (B : Nat) (f : Nat → Value) (r4 r5 : Nat → Option Addr) (k4 k5 : Nat → Nat) (j : Nat) (c : Sv) : Prop :=
  f (j * 6) = .int .i64 c.term ∧ f (j * 6 + 1) = .int .i64 c.voted ∧ f (j * 6 + 2) = .bool c.stands ∧ f (j * 6 + 3) = .bool c.leads ∧ f (j * 6 + 4) = .slice (r4 j) c.got.length (k4 j) ∧ f (j * 6 + 5) = .slice (r5 j) c.log.length (k5 j) ∧ Ints w (r4 j) c.got ∧ RowI w B (r4 j) c.got.length ∧ Ints w (r5 j) c.log ∧ RowI w B (r5 j) c.log.length

/-- The list lies in a row that may be written. -/
def SvO (w : World) (B : Nat) (a : Option Addr) (l : List Sv) (r4 r5 : Nat → Option Addr) (k4 k5 : Nat → Nat) : Prop :=
  l = [] ∨ ∃ R m f, a = some ⟨R, 0, none⟩ ∧ B ≤ R ∧ l.length * 6 ≤ m ∧ w.rowIs R 59 m f ∧ ∀ j c, l[j]? = some c → SvP w B f r4 r5 k4 k5 j c

/-- Whose block it is: the row's own, or one of the lists'. -/
def SvIn (a : Option Addr) (l : List Sv) (r4 r5 : Nat → Option Addr) (b : Nat) : Prop :=
  InI a l.length b ∨ ∃ j c, l[j]? = some c ∧ (InI (r4 j) c.got.length b ∨ InI (r5 j) c.log.length b)

/-- All of it lies apart. -/
structure SvD (a : Option Addr) (l : List Sv) (r4 r5 : Nat → Option Addr) : Prop where
  row4 : ∀ j c b, l[j]? = some c → InI (r4 j) c.got.length b → ¬ InI a l.length b
  row5 : ∀ j c b, l[j]? = some c → InI (r5 j) c.log.length b → ¬ InI a l.length b
  own4_4 : ∀ j c j' c' b, l[j]? = some c → l[j']? = some c' → j ≠ j' → InI (r4 j) c.got.length b → ¬ InI (r4 j') c'.got.length b
  own4_5 : ∀ j c j' c' b, l[j]? = some c → l[j']? = some c' → InI (r4 j) c.got.length b → ¬ InI (r5 j') c'.log.length b
  own5_5 : ∀ j c j' c' b, l[j]? = some c → l[j']? = some c' → j ≠ j' → InI (r5 j) c.log.length b → ¬ InI (r5 j') c'.log.length b

theorem SvP.of_block {w w' : World} {B : Nat} {f : Nat → Value} {r4 r5 : Nat → Option Addr} {k4 k5 : Nat → Nat} {j : Nat} {c : Sv} (h : SvP w B f r4 r5 k4 k5 j c) (h4 : ∀ b, InI (r4 j) c.got.length b → w'.heap[b]? = w.heap[b]?) (h5 : ∀ b, InI (r5 j) c.log.length b → w'.heap[b]? = w.heap[b]?) : SvP w' B f r4 r5 k4 k5 j c := by
  obtain ⟨c0, c1, c2, c3, c4, c5, q4, w4, q5, w5⟩ := h
  exact ⟨c0, c1, c2, c3, c4, c5, q4.of_block h4, w4.of_block h4, q5.of_block h5, w5.of_block h5⟩

theorem SvP.lt {w : World} {B : Nat} {f : Nat → Value} {r4 r5 : Nat → Option Addr} {k4 k5 : Nat → Nat} {j : Nat} {c : Sv} (h : SvP w B f r4 r5 k4 k5 j c) {b : Nat} (hb : InI (r4 j) c.got.length b ∨ InI (r5 j) c.log.length b) : B ≤ b ∧ b < w.heap.size := by
  obtain ⟨c0, c1, c2, c3, c4, c5, q4, w4, q5, w5⟩ := h
  rcases hb with hb | hb
  · exact w4.lt hb
  · exact w5.lt hb

theorem SvO.of_block {w w' : World} {B : Nat} {a : Option Addr} {l : List Sv} {r4 r5 : Nat → Option Addr} {k4 k5 : Nat → Nat} (h : SvO w B a l r4 r5 k4 k5) (hs : ∀ b, SvIn a l r4 r5 b → w'.heap[b]? = w.heap[b]?) : SvO w' B a l r4 r5 k4 k5 := by
  rcases h with h | ⟨R, m, f, rfl, hR, hm, hrow, hp⟩
  · exact .inl h
  · by_cases h0 : l = []
    · exact .inl h0
    · have hpos : 0 < l.length := Nat.pos_of_ne_zero fun e => h0 (List.eq_nil_of_length_eq_zero e)
      exact .inr ⟨R, m, f, rfl, hR, hm, hrow.of_block (hs R (.inl ⟨hpos, 0, none, rfl⟩)), fun j c hj => (hp j c hj).of_block (fun b hb => hs b (.inr ⟨j, c, hj, .inl hb⟩)) (fun b hb => hs b (.inr ⟨j, c, hj, .inr (hb)⟩))⟩

theorem SvO.lt {w : World} {B : Nat} {a : Option Addr} {l : List Sv} {r4 r5 : Nat → Option Addr} {k4 k5 : Nat → Nat} (h : SvO w B a l r4 r5 k4 k5) {b : Nat} (hb : SvIn a l r4 r5 b) : B ≤ b ∧ b < w.heap.size := by
  rcases h with rfl | ⟨R, m, f, rfl, hR, hm, hrow, hp⟩
  · rcases hb with ⟨h, -⟩ | ⟨j, c, hj, -⟩
    · simp at h
    · simp at hj
  · rcases hb with ⟨-, o, s, e⟩ | ⟨j, c, hj, hb⟩
    · simp only [Option.some.injEq, Addr.mk.injEq] at e
      have := hrow.lt
      omega
    · exact (hp j c hj).lt hb

theorem SvO.below {w w' : World} {B : Nat} {a : Option Addr} {l : List Sv} {r4 r5 : Nat → Option Addr} {k4 k5 : Nat → Nat} (h : SvO w B a l r4 r5 k4 k5) (hb : Below w.heap.size w w') : SvO w' B a l r4 r5 k4 k5 :=
  h.of_block fun b hi => hb.block b (h.lt hi).2

theorem SvO.reads {w : World} {B : Nat} {a : Option Addr} {l : List Sv} {r4 r5 : Nat → Option Addr} {k4 k5 : Nat → Nat} (h : SvO w B a l r4 r5 k4 k5) (hl : ∀ c, c ∈ l → c.got.length ≤ maxLen ∧ c.log.length ≤ maxLen) : Svs w a l := fun j c hj => by
  have hlt := (List.getElem?_eq_some_iff.1 hj).1
  rcases h with rfl | ⟨R, m, f, rfl, hR, hm, hrow, hp⟩
  · simp at hj
  · obtain ⟨c0, c1, c2, c3, c4, c5, q4, -, q5, -⟩ := hp j c hj
    have hmx := hl c (List.mem_of_getElem? hj)
    refine ⟨R, 0, rfl, r4 j, k4 j, r5 j, k5 j, ?_, ?_, ?_, ?_, ?_, ?_, q4, hmx.1, q5, hmx.2⟩
    · rw [Nat.zero_add, hrow.cell (by omega), c0]
    · rw [Nat.zero_add, hrow.cell (by omega), c1]
    · rw [Nat.zero_add, hrow.cell (by omega), c2]
    · rw [Nat.zero_add, hrow.cell (by omega), c3]
    · rw [Nat.zero_add, hrow.cell (by omega), c4]
    · rw [Nat.zero_add, hrow.cell (by omega), c5]

def SvT (c : Sv) : Nat := 4 + c.got.length + c.log.length
/-- Marked from k on. -/
def SvM (k : Nat) (c : Sv) : Sv := ⟨((k : Nat) : Int), ((k + 1 : Nat) : Int), mkO (k + 2), mkO (k + 3), markZ (k + 4) c.got.length, markZ (k + 4 + c.got.length) c.log.length⟩
def SvK (l : List Sv) (k : Nat) : Nat → Nat
  | 0 => k
  | j + 1 => SvK l k j + match l[j]? with
    | some c => SvT c
    | none => 0
theorem SvK_succ {l : List Sv} {k j : Nat} {c : Sv} (h : l[j]? = some c) : SvK l k (j + 1) = SvK l k j + SvT c := by rw [SvK, h]
theorem SvK_mono (l : List Sv) (k : Nat) : ∀ i j, i ≤ j → SvK l k i ≤ SvK l k j
  | i, 0, h => by rw [Nat.le_zero.1 h]; exact Nat.le_refl _
  | i, j + 1, h => by
    by_cases e : i = j + 1
    · rw [e]; exact Nat.le_refl _
    · have := SvK_mono l k i j (by omega)
      rw [SvK]; omega
theorem SvM_got (k : Nat) (c : Sv) : (SvM k c).got.length = c.got.length := by simp [SvM, markZ_length]
theorem SvM_log (k : Nat) (c : Sv) : (SvM k c).log.length = c.log.length := by simp [SvM, markZ_length]

/-- The first i are marked. -/
def SvMix (l : List Sv) (k i j : Nat) (c : Sv) : Sv := if j < i then SvM (SvK l k j) c else c
theorem SvMix_got (l : List Sv) (k i j : Nat) (c : Sv) : (SvMix l k i j c).got.length = c.got.length := by unfold SvMix; split <;> simp [SvM_got]
theorem SvMix_log (l : List Sv) (k i j : Nat) (c : Sv) : (SvMix l k i j c).log.length = c.log.length := by unfold SvMix; split <;> simp [SvM_log]

/-- All of them marked. -/
def SvMs (l : List Sv) (k : Nat) : List Sv := l.mapIdx fun j c => SvM (SvK l k j) c
theorem SvMs_length (l : List Sv) (k : Nat) : (SvMs l k).length = l.length := by simp [SvMs]
theorem SvMs_get {l : List Sv} {k j : Nat} {c : Sv} (h : (SvMs l k)[j]? = some c) : ∃ d, l[j]? = some d ∧ c = SvM (SvK l k j) d := by
  simp only [SvMs, List.getElem?_mapIdx, Option.map_eq_some_iff] at h
  obtain ⟨d, h1, h2⟩ := h
  exact ⟨d, h1, h2.symm⟩
theorem SvMs_at {l : List Sv} {k j : Nat} {c : Sv} (h : l[j]? = some c) : (SvMs l k)[j]? = some (SvM (SvK l k j) c) := by
  simp only [SvMs, List.getElem?_mapIdx, h, Option.map_some]

set_option maxRecDepth 100000 in
set_option maxHeartbeats 4000000 in
theorem markServerS_any (a : Option Addr) (cp B k : Nat) (l : List Sv) (r4 r5 : Nat → Option Addr) (k4 k5 : Nat → Nat) (w : World) (h : SvO w B a l r4 r5 k4 k5) (D : SvD a l r4 r5) (hl : l.length ≤ 1000000) (h2 : SvK l k l.length ≤ 1000000000) :
    Calls Try.prog 42 #[.slice a l.length cp, .int .i64 (k : Int)] w fun r w' => r = .returned (.int .i64 ((SvK l k l.length : Nat) : Int)) ∧ SvO w' B a (SvMs l k) r4 r5 k4 k5 ∧ Below B w w' ∧ ∀ b, b < w.heap.size → ¬ SvIn a l r4 r5 b → w'.heap[b]? = w.heap[b]? := by
  by_cases h0 : l = []
  · subst h0
    go_enter Try.func42, Try.ntmps42
    go_wp2
    go_loopw [1, 5] (fun x y wr => x = .int .i64 (k : Int) ∧ y = .int .i64 0 ∧ w = wr) (fun _ _ _ => 0)
    case atStart => exact ⟨rfl, rfl, rfl⟩
    case round =>
      obtain ⟨rfl, rfl, rfl⟩ := hrel
      go_wp2
      go_ret
      exact ⟨rfl, .inl rfl, Below.refl _ _, fun _ _ _ => rfl⟩
  obtain ⟨R, m, f, rfl, hR, hm, hrow, hp⟩ := h.resolve_left h0
  have hpos : 0 < l.length := Nat.pos_of_ne_zero fun e => h0 (List.eq_nil_of_length_eq_zero e)
  have HIN : ∀ b, InI (some ⟨R, 0, none⟩) l.length b ↔ b = R := fun b => ⟨fun ⟨_, o, s, e⟩ => by simp at e; omega, fun e => ⟨hpos, 0, none, by simp [e]⟩⟩
  have hRz := hrow.lt
  go_enter Try.func42, Try.ntmps42
  go_wp2
  go_loopw [1, 5] (fun x y wr => ∃ i : Nat, i ≤ l.length ∧ x = .int .i64 ((SvK l k i : Nat) : Int) ∧ y = .int .i64 (i : Int) ∧ (∃ f', wr.rowIs R 59 m f' ∧ ∀ j c, l[j]? = some c → SvP wr B f' r4 r5 k4 k5 j (SvMix l k i j c)) ∧ Below B w wr ∧ ∀ b, b < w.heap.size → ¬ SvIn (some ⟨R, 0, none⟩) l r4 r5 b → wr.heap[b]? = w.heap[b]?) (fun _ y _ => l.length - (intOf y).toNat)
  case atStart => exact ⟨0, Nat.zero_le _, rfl, rfl, ⟨f, hrow, fun j c hj => by simpa [SvMix] using hp j c hj⟩, Below.refl _ _, fun _ _ _ => rfl⟩
  case round =>
    clear hrow hp h
    obtain ⟨i, hi, rfl, rfl, ⟨f', hrow, hp⟩, hB, hO⟩ := hrel
    have HO : Hid (∀ b, b < w.heap.size → ¬ SvIn (some ⟨R, 0, none⟩) l r4 r5 b → wr.heap[b]? = w.heap[b]?) := hO
    have HP : Hid (∀ j c, l[j]? = some c → SvP wr B f' r4 r5 k4 k5 j (SvMix l k i j c)) := hp
    clear hO hp
    by_cases hlt : i < l.length
    · obtain ⟨c, hc⟩ := getSv hlt
      have HC : Hid (l[i]? = some c) := hc
      have hK : SvK l k (i + 1) = SvK l k i + SvT c := SvK_succ hc
      have hKm := SvK_mono l k (i + 1) l.length (by omega)
      have hpi := HP.out i c hc
      rw [show SvMix l k i i c = c by simp [SvMix]] at hpi
      obtain ⟨c0, c1, c2, c3, c4, c5, q4, w4, q5, w5⟩ := hpi
      obtain ⟨K, hKe⟩ : ∃ K, SvK l k i = K := ⟨_, rfl⟩
      have HK : Hid (SvK l k i = K) := hKe
      rw [hKe] at hK ⊢
      have hKb : K + SvT c ≤ 1000000000 := by omega
      have HK1 : Hid (SvK l k (i + 1) = K + SvT c) := hK
      unfold SvT at hKb
      clear hKe hK hc hKm
      have d0 : wr.cell? ⟨R, i * 6, none⟩ = some (f' (i * 6)) := hrow.cell (by omega)
      have d1 : wr.cell? ⟨R, i * 6 + 1, none⟩ = some (f' (i * 6 + 1)) := hrow.cell (by omega)
      have d2 : wr.cell? ⟨R, i * 6 + 2, none⟩ = some (f' (i * 6 + 2)) := hrow.cell (by omega)
      have d3 : wr.cell? ⟨R, i * 6 + 3, none⟩ = some (f' (i * 6 + 3)) := hrow.cell (by omega)
      have d4 : wr.cell? ⟨R, i * 6 + 4, none⟩ = some (f' (i * 6 + 4)) := hrow.cell (by omega)
      have d5 : wr.cell? ⟨R, i * 6 + 5, none⟩ = some (f' (i * 6 + 5)) := hrow.cell (by omega)
      rw [c0] at d0
      rw [c1] at d1
      rw [c2] at d2
      rw [c3] at d3
      rw [c4] at d4
      rw [c5] at d5
      have hf := hrow.frozen
      obtain ⟨u, hu⟩ : ∃ u, ((((wr.setCell ⟨R, i * 6, none⟩ (.int .i64 ((K : Int)))).setCell ⟨R, i * 6 + 1, none⟩ (.int .i64 ((K : Int) + 1))).setCell ⟨R, i * 6 + 2, none⟩ (.bool (((K : Int) + 1 + 1) % 3 == 0))).setCell ⟨R, i * 6 + 3, none⟩ (.bool (((K : Int) + 1 + 1 + 1) % 3 == 0))) = u := ⟨_, rfl⟩
      have hus : ∀ b, b ≠ R → u.heap[b]? = wr.heap[b]? := fun b hb => by
        rw [← hu]
        rw [Below.heap_setCell _ ⟨R, _, none⟩ _ b (by simpa using hb), Below.heap_setCell _ ⟨R, _, none⟩ _ b (by simpa using hb), Below.heap_setCell _ ⟨R, _, none⟩ _ b (by simpa using hb), Below.heap_setCell _ ⟨R, _, none⟩ _ b (by simpa using hb)]
      obtain ⟨f1, hrow1, hf1, hf2⟩ : ∃ f1, u.rowIs R 59 m f1 ∧ (f1 (i * 6) = .int .i64 ((K : Int)) ∧ f1 (i * 6 + 1) = .int .i64 ((K : Int) + 1) ∧ f1 (i * 6 + 2) = .bool (((K : Int) + 1 + 1) % 3 == 0) ∧ f1 (i * 6 + 3) = .bool (((K : Int) + 1 + 1 + 1) % 3 == 0)) ∧ ∀ x, x ≠ i * 6 → x ≠ i * 6 + 1 → x ≠ i * 6 + 2 → x ≠ i * 6 + 3 → f1 x = f' x := by
        rw [← hu]
        refine ⟨_, ((((hrow.set _ _).set _ _).set _ _).set _ _), ⟨by simp, by simp, by simp, by simp⟩, fun x g0 g1 g2 g3 => ?_⟩
        rw [if_neg g3, if_neg g2, if_neg g1, if_neg g0]
      have hBu : Below B w u := by rw [← hu]; exact ((((hB.setCell hR _).setCell hR _).setCell hR _).setCell hR _)
      have e4 : u.cell? ⟨R, i * 6 + 4, none⟩ = some (.slice (r4 i) c.got.length (k4 i)) := by rw [hrow1.cell (by omega), hf2 _ (by omega) (by omega) (by omega) (by omega), c4]
      have e5 : u.cell? ⟨R, i * 6 + 5, none⟩ = some (.slice (r5 i) c.log.length (k5 i)) := by rw [hrow1.cell (by omega), hf2 _ (by omega) (by omega) (by omega) (by omega), c5]
      have n4 : ∀ b, InI (r4 i) c.got.length b → b ≠ R := fun b hb e => D.row4 i c b HC.out hb ((HIN b).2 e)
      have n5 : ∀ b, InI (r5 i) c.log.length b → b ≠ R := fun b hb e => D.row5 i c b HC.out hb ((HIN b).2 e)
      have R4 : RowI u B (r4 i) c.got.length := w4.of_block fun b hb => hus b (n4 b hb)
      have R5 : RowI u B (r5 i) c.log.length := w5.of_block fun b hb => hus b (n5 b hb)
      have HPu : Hid (∀ j c, l[j]? = some c → j ≠ i → SvP u B f1 r4 r5 k4 k5 j (SvMix l k i j c)) := fun j c' hj hne => by
        obtain ⟨a0, a1, a2, a3, a4, a5, x4, y4, x5, y5⟩ := HP.out j c' hj
        refine ⟨?_, ?_, ?_, ?_, ?_, ?_, x4.of_block fun b hb => hus b fun e => D.row4 j c' b hj (by rw [SvMix_got] at hb; exact hb) ((HIN b).2 e), y4.of_block fun b hb => hus b fun e => D.row4 j c' b hj (by rw [SvMix_got] at hb; exact hb) ((HIN b).2 e), x5.of_block fun b hb => hus b fun e => D.row5 j c' b hj (by rw [SvMix_log] at hb; exact hb) ((HIN b).2 e), y5.of_block fun b hb => hus b fun e => D.row5 j c' b hj (by rw [SvMix_log] at hb; exact hb) ((HIN b).2 e)⟩
        · rw [hf2 _ (by omega) (by omega) (by omega) (by omega)]; exact a0
        · rw [hf2 _ (by omega) (by omega) (by omega) (by omega)]; exact a1
        · rw [hf2 _ (by omega) (by omega) (by omega) (by omega)]; exact a2
        · rw [hf2 _ (by omega) (by omega) (by omega) (by omega)]; exact a3
        · rw [hf2 _ (by omega) (by omega) (by omega) (by omega)]; exact a4
        · rw [hf2 _ (by omega) (by omega) (by omega) (by omega)]; exact a5
      have hzu : u.heap.size = wr.heap.size := by rw [← hu]; simp
      go_wp2_with fail
      have ek : (((K : Int) + 1 + 1 + 1 + 1 : Int)) = ((K + 4 : Nat) : Int) := by omega
      try rw [ek]
      clear hu ek d0 d1 d2 d3 d4 d5
      refine (markIntS_any _ _ _ B (K + 4) _ R4 (by omega)).mono ?_
      rintro r w1' ⟨rfl, H4, S4, hB1, hO1⟩
      have hz1 := hB1.size
      have hrow2 : w1'.rowIs R 59 m f1 := hrow1.of_block (hO1 R hrow1.lt (fun hb => n4 R hb rfl))
      have e5 : w1'.cell? ⟨R, i * 6 + 5, none⟩ = some (.slice (r5 i) c.log.length (k5 i)) := (World.cell?_of_block (a := ⟨R, i * 6 + 5, none⟩) (hO1 R hrow1.lt (fun hb => n4 R hb rfl))).trans e5
      have R5' := R5.of_block fun b hb => hO1 b (R5.lt hb).2 (fun h => D.own4_5 i c i c b HC.out HC.out h hb)
      clear R5
      have R5 := R5'
      clear R5'
      go_wp2_with fail
      refine (markIntS_any _ _ _ B (K + 4 + c.got.length) _ R5 (by omega)).mono ?_
      rintro r w2' ⟨rfl, H5, S5, hB2, hO2⟩
      have hz2 := hB2.size
      have hrow3 : w2'.rowIs R 59 m f1 := hrow2.of_block (hO2 R hrow2.lt (fun hb => n5 R hb rfl))
      replace H4 := H4.of_block fun b hb => hO2 b (S4.lt (by rw [markZ_length] at hb; exact hb)).2 (fun h => D.own4_5 i c i c b HC.out HC.out (by rw [markZ_length] at hb; exact hb) h)
      replace S4 := S4.of_block fun b hb => hO2 b (S4.lt hb).2 (fun h => D.own4_5 i c i c b HC.out HC.out hb h)
      have BB : Below B w w2' := ((hBu.trans hB1).trans hB2)
      have HF : Hid (∀ b, b < w.heap.size → ¬ SvIn (some ⟨R, 0, none⟩) l r4 r5 b → w2'.heap[b]? = w.heap[b]?) := fun b hb hn => by
        have hbR : b ≠ R := fun e => hn (.inl ((HIN b).2 e))
        have hbz := hB.size
        rw [hO2 b (by omega) (fun h => hn (.inr ⟨i, c, HC.out, .inr (h)⟩)), hO1 b (by omega) (fun h => hn (.inr ⟨i, c, HC.out, .inl h⟩)), hus b hbR, HO.out b hb hn]
      have HPn : Hid (∀ j c, l[j]? = some c → SvP w2' B f1 r4 r5 k4 k5 j (SvMix l k (i + 1) j c)) := fun j c' hj => by
        by_cases ej : j = i
        · subst ej
          have ec : c' = c := by have := HC.out; rw [hj] at this; exact Option.some.inj this
          subst ec
          have em : SvMix l k (j + 1) j c' = SvM K c' := by simp [SvMix, HK.out]
          rw [em]
          refine ⟨?_, ?_, ?_, ?_, ?_, ?_, ?_, ?_, ?_, ?_⟩
          · rw [hf1.1]; first | rfl | (simp [SvM])
          · rw [hf1.2.1]; first | rfl | (simp [SvM]; try omega)
          · rw [hf1.2.2.1]; first | rfl | (simp [SvM, mkO])
          · rw [hf1.2.2.2]; first | rfl | (simp [SvM, mkO])
          · rw [hf2 _ (by omega) (by omega) (by omega) (by omega), c4, SvM_got]
          · rw [hf2 _ (by omega) (by omega) (by omega) (by omega), c5, SvM_log]
          · exact H4
          · rw [SvM_got]; exact S4
          · exact H5
          · rw [SvM_log]; exact S5
        · have em : SvMix l k (i + 1) j c' = SvMix l k i j c' := by
            unfold SvMix
            by_cases hji : j < i
            · rw [if_pos hji, if_pos (by omega)]
            · rw [if_neg hji, if_neg (by omega)]
          rw [em]
          have p0 := HPu.out j c' hj ej
          have p1 := (p0).of_block (w' := w1') (fun b hb => hO1 b ((p0).lt (.inl hb)).2 (fun h => D.own4_4 i c j c' b HC.out hj (fun e => ej e.symm) h (by rw [SvMix_got] at hb; exact hb))) (fun b hb => hO1 b ((p0).lt (.inr (hb))).2 (fun h => D.own4_5 i c j c' b HC.out hj h (by rw [SvMix_log] at hb; exact hb)))
          have p2 := (p1).of_block (w' := w2') (fun b hb => hO2 b ((p1).lt (.inl hb)).2 (fun h => D.own4_5 j c' i c b hj HC.out (by rw [SvMix_got] at hb; exact hb) h)) (fun b hb => hO2 b ((p1).lt (.inr (hb))).2 (fun h => D.own5_5 i c j c' b HC.out hj (fun e => ej e.symm) h (by rw [SvMix_log] at hb; exact hb)))
          exact p2
      clear HPu hus hzu hf1 hf2 HP HO c0 c1 c2 c3 c4 c5 q4 w4 e4 n4 q5 w5 e5 n5
      go_wp2
      go_roundw
      case rel => exact ⟨i + 1, by omega, by rw [HK1.out]; unfold SvT; go_num, by go_num, ⟨f1, hrow3, HPn.out⟩, BB, HF.out⟩
      case measure => simp [intOf]; omega
    · obtain rfl : i = l.length := by omega
      go_wp2
      go_ret
      refine ⟨rfl, .inr ⟨R, m, f', rfl, hR, by rw [SvMs_length]; exact hm, hrow, fun j c hj => ?_⟩, hB, HO.out⟩
      obtain ⟨d, hd, rfl⟩ := SvMs_get hj
      have hjl := (List.getElem?_eq_some_iff.1 hd).1
      have := HP.out j d hd
      rwa [show SvMix l k l.length j d = SvM (SvK l k j) d by simp [SvMix, hjl]] at this

set_option maxRecDepth 100000 in
set_option maxHeartbeats 4000000 in
theorem heldServerS_any (a : Option Addr) (cp B k : Nat) (l : List Sv) (r4 r5 : Nat → Option Addr) (k4 k5 : Nat → Nat) (w : World) (h : SvO w B a (SvMs l k) r4 r5 k4 k5) (h2 : SvK l k l.length ≤ 1000000000) (hl : l.length ≤ 1000000) :
    Calls Try.prog 45 #[.slice a l.length cp, .int .i64 (k : Int)] w fun r w' => r = .returned (.int .i64 ((SvK l k l.length : Nat) : Int)) ∧ w' = w := by
  go_enter Try.func45, Try.ntmps45
  go_wp2
  go_loop [1, 5] (fun x y => ∃ i : Nat, i ≤ l.length ∧ x = .int .i64 ((SvK l k i : Nat) : Int) ∧ y = .int .i64 (i : Int)) (fun _ y => l.length - (intOf y).toNat)
  case atStart => exact ⟨0, Nat.zero_le _, rfl, rfl⟩
  case round =>
    obtain ⟨i, hi, rfl, rfl⟩ := hrel
    by_cases hlt : i < l.length
    · obtain ⟨c, hc⟩ := getSv hlt
      have hK : SvK l k (i + 1) = SvK l k i + SvT c := SvK_succ hc
      have hKm := SvK_mono l k (i + 1) l.length (by omega)
      rcases h with h | ⟨R, m, f, rfl, hR, hm, hrow, hp⟩
      · have := SvMs_length l k
        rw [h] at this
        simp at this
        omega
      rw [SvMs_length] at hm
      obtain ⟨c0, c1, c2, c3, c4, c5, q4, -, q5, -⟩ := hp i _ (SvMs_at hc)
      obtain ⟨K, hKe⟩ : ∃ K, SvK l k i = K := ⟨_, rfl⟩
      rw [hKe] at hK c0 c1 c2 c3 c4 c5 q4 q5 ⊢
      have hKb : K + SvT c ≤ 1000000000 := by omega
      have HK1 : Hid (SvK l k (i + 1) = K + SvT c) := hK
      unfold SvT at hKb
      clear hKe hK hKm
      have d0 : w.cell? ⟨R, i * 6, none⟩ = some (.int .i64 ((K : Int))) := by rw [hrow.cell (by omega), c0]; first | rfl | (simp [SvM])
      have d1 : w.cell? ⟨R, i * 6 + 1, none⟩ = some (.int .i64 ((K : Int) + 1)) := by rw [hrow.cell (by omega), c1]; first | rfl | (simp [SvM]; try omega)
      have d2 : w.cell? ⟨R, i * 6 + 2, none⟩ = some (.bool (((K : Int) + 1 + 1) % 3 == 0)) := by rw [hrow.cell (by omega), c2]; first | rfl | (simp [SvM, mkO])
      have d3 : w.cell? ⟨R, i * 6 + 3, none⟩ = some (.bool (((K : Int) + 1 + 1 + 1) % 3 == 0)) := by rw [hrow.cell (by omega), c3]; first | rfl | (simp [SvM, mkO])
      have d4 : w.cell? ⟨R, i * 6 + 4, none⟩ = some (.slice (r4 i) c.got.length (k4 i)) := by rw [hrow.cell (by omega), c4, SvM_got]
      have d5 : w.cell? ⟨R, i * 6 + 5, none⟩ = some (.slice (r5 i) c.log.length (k5 i)) := by rw [hrow.cell (by omega), c5, SvM_log]
      have b2 : (!((((K : Int) + 1 + 1) % 3 == 0) == (((K : Int) + 1 + 1) % 3 == 0))) = false := by simp
      have b3 : (!((((K : Int) + 1 + 1 + 1) % 3 == 0) == (((K : Int) + 1 + 1 + 1) % 3 == 0))) = false := by simp
      replace q4 : Ints w (r4 i) (markZ (K + 4) c.got.length) := q4
      replace q5 : Ints w (r5 i) (markZ (K + 4 + c.got.length) c.log.length) := q5
      clear c0 c1 c2 c3 c4 c5 hp hrow hc
      go_wp2_with fail
      have ek : (((K : Int) + 1 + 1 + 1 + 1 : Int)) = ((K + 4 : Nat) : Int) := by omega
      try rw [ek]
      clear ek
      refine (heldIntS_any _ _ _ (K + 4) _ q4 (by omega)).mono ?_
      rintro r w' ⟨rfl, hw⟩
      rw [hw]
      clear hw w'
      go_wp2_with fail
      refine (heldIntS_any _ _ _ (K + 4 + c.got.length) _ q5 (by omega)).mono ?_
      rintro r w' ⟨rfl, hw⟩
      rw [hw]
      clear hw w'
      go_wp2
      go_round
      case rel => exact ⟨i + 1, by omega, by rw [HK1.out]; unfold SvT; go_num, by go_num⟩
      case measure => simp [intOf]; omega
    · obtain rfl : i = l.length := by omega
      go_wp2
      go_ret
      exact ⟨rfl, rfl⟩

end Go.Proofs.Ythbhokpjedndaaa
