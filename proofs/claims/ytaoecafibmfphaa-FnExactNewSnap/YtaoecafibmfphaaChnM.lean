/-
  Lists of Chan that a call owns: where their own lists lie, that all of it lies apart, and the contracts of markChanS and heldChanS. Made by mkbagmark.py.
-/
import Derived.Test.YtaoecafibmfphaaChn
namespace Go.Proofs.Ytaoecafibmfphaa
open Go.RowKit

/-- The j-th, by a row's cells: its own lists at these places, in room from B on. -/
def ChP (w : World) (B : Nat) (f : Nat → Value) (r2 : Nat → Option Addr) (k2 : Nat → Nat) (j : Nat) (c : Ch) : Prop :=
  f (j * 3) = .int .i64 c.fr ∧ f (j * 3 + 1) = .int .i64 c.to ∧ f (j * 3 + 2) = .slice (r2 j) c.way.length (k2 j) ∧ Ints w (r2 j) c.way ∧ RowI w B (r2 j) c.way.length

/-- The list lies in a row that may be written. -/
def ChO (w : World) (B : Nat) (a : Option Addr) (l : List Ch) (r2 : Nat → Option Addr) (k2 : Nat → Nat) : Prop :=
  l = [] ∨ ∃ R m f, a = some ⟨R, 0, none⟩ ∧ B ≤ R ∧ l.length * 3 ≤ m ∧ w.rowIs R 78 m f ∧ ∀ j c, l[j]? = some c → ChP w B f r2 k2 j c

/-- Whose block it is: the row's own, or one of the lists'. -/
def ChIn (a : Option Addr) (l : List Ch) (r2 : Nat → Option Addr) (b : Nat) : Prop :=
  InI a l.length b ∨ ∃ j c, l[j]? = some c ∧ (InI (r2 j) c.way.length b)

/-- All of it lies apart. -/
structure ChD (a : Option Addr) (l : List Ch) (r2 : Nat → Option Addr) : Prop where
  row2 : ∀ j c b, l[j]? = some c → InI (r2 j) c.way.length b → ¬ InI a l.length b
  own2_2 : ∀ j c j' c' b, l[j]? = some c → l[j']? = some c' → j ≠ j' → InI (r2 j) c.way.length b → ¬ InI (r2 j') c'.way.length b

theorem ChP.of_block {w w' : World} {B : Nat} {f : Nat → Value} {r2 : Nat → Option Addr} {k2 : Nat → Nat} {j : Nat} {c : Ch} (h : ChP w B f r2 k2 j c) (h2 : ∀ b, InI (r2 j) c.way.length b → w'.heap[b]? = w.heap[b]?) : ChP w' B f r2 k2 j c := by
  obtain ⟨c0, c1, c2, q2, w2⟩ := h
  exact ⟨c0, c1, c2, q2.of_block h2, w2.of_block h2⟩

theorem ChP.lt {w : World} {B : Nat} {f : Nat → Value} {r2 : Nat → Option Addr} {k2 : Nat → Nat} {j : Nat} {c : Ch} (h : ChP w B f r2 k2 j c) {b : Nat} (hb : InI (r2 j) c.way.length b) : B ≤ b ∧ b < w.heap.size := by
  obtain ⟨c0, c1, c2, q2, w2⟩ := h
  skip
  exact w2.lt hb

theorem ChO.of_block {w w' : World} {B : Nat} {a : Option Addr} {l : List Ch} {r2 : Nat → Option Addr} {k2 : Nat → Nat} (h : ChO w B a l r2 k2) (hs : ∀ b, ChIn a l r2 b → w'.heap[b]? = w.heap[b]?) : ChO w' B a l r2 k2 := by
  rcases h with h | ⟨R, m, f, rfl, hR, hm, hrow, hp⟩
  · exact .inl h
  · by_cases h0 : l = []
    · exact .inl h0
    · have hpos : 0 < l.length := Nat.pos_of_ne_zero fun e => h0 (List.eq_nil_of_length_eq_zero e)
      exact .inr ⟨R, m, f, rfl, hR, hm, hrow.of_block (hs R (.inl ⟨hpos, 0, none, rfl⟩)), fun j c hj => (hp j c hj).of_block (fun b hb => hs b (.inr ⟨j, c, hj, hb⟩))⟩

theorem ChO.lt {w : World} {B : Nat} {a : Option Addr} {l : List Ch} {r2 : Nat → Option Addr} {k2 : Nat → Nat} (h : ChO w B a l r2 k2) {b : Nat} (hb : ChIn a l r2 b) : B ≤ b ∧ b < w.heap.size := by
  rcases h with rfl | ⟨R, m, f, rfl, hR, hm, hrow, hp⟩
  · rcases hb with ⟨h, -⟩ | ⟨j, c, hj, -⟩
    · simp at h
    · simp at hj
  · rcases hb with ⟨-, o, s, e⟩ | ⟨j, c, hj, hb⟩
    · simp only [Option.some.injEq, Addr.mk.injEq] at e
      have := hrow.lt
      omega
    · exact (hp j c hj).lt hb

theorem ChO.below {w w' : World} {B : Nat} {a : Option Addr} {l : List Ch} {r2 : Nat → Option Addr} {k2 : Nat → Nat} (h : ChO w B a l r2 k2) (hb : Below w.heap.size w w') : ChO w' B a l r2 k2 :=
  h.of_block fun b hi => hb.block b (h.lt hi).2

theorem ChO.reads {w : World} {B : Nat} {a : Option Addr} {l : List Ch} {r2 : Nat → Option Addr} {k2 : Nat → Nat} (h : ChO w B a l r2 k2) (hl : ∀ c, c ∈ l → c.way.length ≤ maxLen) : Chs w a l := fun j c hj => by
  have hlt := (List.getElem?_eq_some_iff.1 hj).1
  rcases h with rfl | ⟨R, m, f, rfl, hR, hm, hrow, hp⟩
  · simp at hj
  · obtain ⟨c0, c1, c2, q2, -⟩ := hp j c hj
    have hmx := hl c (List.mem_of_getElem? hj)
    refine ⟨R, 0, rfl, r2 j, k2 j, ?_, ?_, ?_, q2, hmx⟩
    · rw [Nat.zero_add, hrow.cell (by omega), c0]
    · rw [Nat.zero_add, hrow.cell (by omega), c1]
    · rw [Nat.zero_add, hrow.cell (by omega), c2]

def ChT (c : Ch) : Nat := 2 + c.way.length
/-- Marked from k on. -/
def ChM (k : Nat) (c : Ch) : Ch := ⟨((k : Nat) : Int), ((k + 1 : Nat) : Int), markZ (k + 2) c.way.length⟩
def ChK (l : List Ch) (k : Nat) : Nat → Nat
  | 0 => k
  | j + 1 => ChK l k j + match l[j]? with
    | some c => ChT c
    | none => 0
theorem ChK_succ {l : List Ch} {k j : Nat} {c : Ch} (h : l[j]? = some c) : ChK l k (j + 1) = ChK l k j + ChT c := by rw [ChK, h]
theorem ChK_mono (l : List Ch) (k : Nat) : ∀ i j, i ≤ j → ChK l k i ≤ ChK l k j
  | i, 0, h => by rw [Nat.le_zero.1 h]; exact Nat.le_refl _
  | i, j + 1, h => by
    by_cases e : i = j + 1
    · rw [e]; exact Nat.le_refl _
    · have := ChK_mono l k i j (by omega)
      rw [ChK]; omega
theorem ChM_way (k : Nat) (c : Ch) : (ChM k c).way.length = c.way.length := by simp [ChM, markZ_length]

/-- The first i are marked. -/
def ChMix (l : List Ch) (k i j : Nat) (c : Ch) : Ch := if j < i then ChM (ChK l k j) c else c
theorem ChMix_way (l : List Ch) (k i j : Nat) (c : Ch) : (ChMix l k i j c).way.length = c.way.length := by unfold ChMix; split <;> simp [ChM_way]

/-- All of them marked. -/
def ChMs (l : List Ch) (k : Nat) : List Ch := l.mapIdx fun j c => ChM (ChK l k j) c
theorem ChMs_length (l : List Ch) (k : Nat) : (ChMs l k).length = l.length := by simp [ChMs]
theorem ChMs_get {l : List Ch} {k j : Nat} {c : Ch} (h : (ChMs l k)[j]? = some c) : ∃ d, l[j]? = some d ∧ c = ChM (ChK l k j) d := by
  simp only [ChMs, List.getElem?_mapIdx, Option.map_eq_some_iff] at h
  obtain ⟨d, h1, h2⟩ := h
  exact ⟨d, h1, h2.symm⟩
theorem ChMs_at {l : List Ch} {k j : Nat} {c : Ch} (h : l[j]? = some c) : (ChMs l k)[j]? = some (ChM (ChK l k j) c) := by
  simp only [ChMs, List.getElem?_mapIdx, h, Option.map_some]

set_option maxRecDepth 100000 in
set_option maxHeartbeats 4000000 in
theorem markChanS_any (a : Option Addr) (cp B k : Nat) (l : List Ch) (r2 : Nat → Option Addr) (k2 : Nat → Nat) (w : World) (h : ChO w B a l r2 k2) (D : ChD a l r2) (hl : l.length ≤ 1000000) (h2 : ChK l k l.length ≤ 1000000000) :
    Calls Try.prog 47 #[.slice a l.length cp, .int .i64 (k : Int)] w fun r w' => r = .returned (.int .i64 ((ChK l k l.length : Nat) : Int)) ∧ ChO w' B a (ChMs l k) r2 k2 ∧ Below B w w' ∧ ∀ b, b < w.heap.size → ¬ ChIn a l r2 b → w'.heap[b]? = w.heap[b]? := by
  by_cases h0 : l = []
  · subst h0
    go_enter Try.func47, Try.ntmps47
    go_wp2
    go_loopw [1, 5] (fun x y wr => x = .int .i64 (k : Int) ∧ y = .int .i64 0 ∧ w = wr) (fun _ _ _ => 0)
    case atStart => exact ⟨rfl, rfl, rfl⟩
    case round =>
      obtain ⟨rfl, rfl, rfl⟩ := hrel
      go_wp2
      go_ret
      exact ⟨rfl, .inl rfl, Below.refl _ _, fun _ _ _ => rfl⟩
  obtain ⟨R, m, f, rfl, hR, hm, hrow, hp⟩ := h.resolve_left h0
  have hpos : 0 < l.length := Nat.pos_of_ne_zero fun e => h0 (List.eq_nil_of_length_eq_zero e)
  have HIN : ∀ b, InI (some ⟨R, 0, none⟩) l.length b ↔ b = R := fun b => ⟨fun ⟨_, o, s, e⟩ => by simp at e; omega, fun e => ⟨hpos, 0, none, by simp [e]⟩⟩
  have hRz := hrow.lt
  go_enter Try.func47, Try.ntmps47
  go_wp2
  go_loopw [1, 5] (fun x y wr => ∃ i : Nat, i ≤ l.length ∧ x = .int .i64 ((ChK l k i : Nat) : Int) ∧ y = .int .i64 (i : Int) ∧ (∃ f', wr.rowIs R 78 m f' ∧ ∀ j c, l[j]? = some c → ChP wr B f' r2 k2 j (ChMix l k i j c)) ∧ Below B w wr ∧ ∀ b, b < w.heap.size → ¬ ChIn (some ⟨R, 0, none⟩) l r2 b → wr.heap[b]? = w.heap[b]?) (fun _ y _ => l.length - (intOf y).toNat)
  case atStart => exact ⟨0, Nat.zero_le _, rfl, rfl, ⟨f, hrow, fun j c hj => by simpa [ChMix] using hp j c hj⟩, Below.refl _ _, fun _ _ _ => rfl⟩
  case round =>
    clear hrow hp h
    obtain ⟨i, hi, rfl, rfl, ⟨f', hrow, hp⟩, hB, hO⟩ := hrel
    have HO : Hid (∀ b, b < w.heap.size → ¬ ChIn (some ⟨R, 0, none⟩) l r2 b → wr.heap[b]? = w.heap[b]?) := hO
    have HP : Hid (∀ j c, l[j]? = some c → ChP wr B f' r2 k2 j (ChMix l k i j c)) := hp
    clear hO hp
    by_cases hlt : i < l.length
    · obtain ⟨c, hc⟩ := getCh hlt
      have HC : Hid (l[i]? = some c) := hc
      have hK : ChK l k (i + 1) = ChK l k i + ChT c := ChK_succ hc
      have hKm := ChK_mono l k (i + 1) l.length (by omega)
      have hpi := HP.out i c hc
      rw [show ChMix l k i i c = c by simp [ChMix]] at hpi
      obtain ⟨c0, c1, c2, q2, w2⟩ := hpi
      obtain ⟨K, hKe⟩ : ∃ K, ChK l k i = K := ⟨_, rfl⟩
      have HK : Hid (ChK l k i = K) := hKe
      rw [hKe] at hK ⊢
      have hKb : K + ChT c ≤ 1000000000 := by omega
      have HK1 : Hid (ChK l k (i + 1) = K + ChT c) := hK
      unfold ChT at hKb
      clear hKe hK hc hKm
      have d0 : wr.cell? ⟨R, i * 3, none⟩ = some (f' (i * 3)) := hrow.cell (by omega)
      have d1 : wr.cell? ⟨R, i * 3 + 1, none⟩ = some (f' (i * 3 + 1)) := hrow.cell (by omega)
      have d2 : wr.cell? ⟨R, i * 3 + 2, none⟩ = some (f' (i * 3 + 2)) := hrow.cell (by omega)
      rw [c0] at d0
      rw [c1] at d1
      rw [c2] at d2
      have hf := hrow.frozen
      obtain ⟨u, hu⟩ : ∃ u, ((wr.setCell ⟨R, i * 3, none⟩ (.int .i64 ((K : Int)))).setCell ⟨R, i * 3 + 1, none⟩ (.int .i64 ((K : Int) + 1))) = u := ⟨_, rfl⟩
      have hus : ∀ b, b ≠ R → u.heap[b]? = wr.heap[b]? := fun b hb => by
        rw [← hu]
        rw [Below.heap_setCell _ ⟨R, _, none⟩ _ b (by simpa using hb), Below.heap_setCell _ ⟨R, _, none⟩ _ b (by simpa using hb)]
      obtain ⟨f1, hrow1, hf1, hf2⟩ : ∃ f1, u.rowIs R 78 m f1 ∧ (f1 (i * 3) = .int .i64 ((K : Int)) ∧ f1 (i * 3 + 1) = .int .i64 ((K : Int) + 1)) ∧ ∀ x, x ≠ i * 3 → x ≠ i * 3 + 1 → f1 x = f' x := by
        rw [← hu]
        refine ⟨_, ((hrow.set _ _).set _ _), ⟨by simp, by simp⟩, fun x g0 g1 => ?_⟩
        rw [if_neg g1, if_neg g0]
      have hBu : Below B w u := by rw [← hu]; exact ((hB.setCell hR _).setCell hR _)
      have e2 : u.cell? ⟨R, i * 3 + 2, none⟩ = some (.slice (r2 i) c.way.length (k2 i)) := by rw [hrow1.cell (by omega), hf2 _ (by omega) (by omega), c2]
      have n2 : ∀ b, InI (r2 i) c.way.length b → b ≠ R := fun b hb e => D.row2 i c b HC.out hb ((HIN b).2 e)
      have R2 : RowI u B (r2 i) c.way.length := w2.of_block fun b hb => hus b (n2 b hb)
      have HPu : Hid (∀ j c, l[j]? = some c → j ≠ i → ChP u B f1 r2 k2 j (ChMix l k i j c)) := fun j c' hj hne => by
        obtain ⟨a0, a1, a2, x2, y2⟩ := HP.out j c' hj
        refine ⟨?_, ?_, ?_, x2.of_block fun b hb => hus b fun e => D.row2 j c' b hj (by rw [ChMix_way] at hb; exact hb) ((HIN b).2 e), y2.of_block fun b hb => hus b fun e => D.row2 j c' b hj (by rw [ChMix_way] at hb; exact hb) ((HIN b).2 e)⟩
        · rw [hf2 _ (by omega) (by omega)]; exact a0
        · rw [hf2 _ (by omega) (by omega)]; exact a1
        · rw [hf2 _ (by omega) (by omega)]; exact a2
      have hzu : u.heap.size = wr.heap.size := by rw [← hu]; simp
      go_wp2_with fail
      have ek : (((K : Int) + 1 + 1 : Int)) = ((K + 2 : Nat) : Int) := by omega
      try rw [ek]
      clear hu ek d0 d1 d2
      refine (markIntS_any _ _ _ B (K + 2) _ R2 (by omega)).mono ?_
      rintro r w1' ⟨rfl, H2, S2, hB1, hO1⟩
      have hz1 := hB1.size
      have hrow2 : w1'.rowIs R 78 m f1 := hrow1.of_block (hO1 R hrow1.lt (fun hb => n2 R hb rfl))
      have BB : Below B w w1' := (hBu.trans hB1)
      have HF : Hid (∀ b, b < w.heap.size → ¬ ChIn (some ⟨R, 0, none⟩) l r2 b → w1'.heap[b]? = w.heap[b]?) := fun b hb hn => by
        have hbR : b ≠ R := fun e => hn (.inl ((HIN b).2 e))
        have hbz := hB.size
        rw [hO1 b (by omega) (fun h => hn (.inr ⟨i, c, HC.out, h⟩)), hus b hbR, HO.out b hb hn]
      have HPn : Hid (∀ j c, l[j]? = some c → ChP w1' B f1 r2 k2 j (ChMix l k (i + 1) j c)) := fun j c' hj => by
        by_cases ej : j = i
        · subst ej
          have ec : c' = c := by have := HC.out; rw [hj] at this; exact Option.some.inj this
          subst ec
          have em : ChMix l k (j + 1) j c' = ChM K c' := by simp [ChMix, HK.out]
          rw [em]
          refine ⟨?_, ?_, ?_, ?_, ?_⟩
          · rw [hf1.1]; simp [ChM]
          · rw [hf1.2]; simp [ChM]; try omega
          · rw [hf2 _ (by omega) (by omega), c2, ChM_way]
          · exact H2
          · rw [ChM_way]; exact S2
        · have em : ChMix l k (i + 1) j c' = ChMix l k i j c' := by
            unfold ChMix
            by_cases hji : j < i
            · rw [if_pos hji, if_pos (by omega)]
            · rw [if_neg hji, if_neg (by omega)]
          rw [em]
          have p0 := HPu.out j c' hj ej
          have p1 := (p0).of_block (w' := w1') (fun b hb => hO1 b ((p0).lt (hb)).2 (fun h => D.own2_2 i c j c' b HC.out hj (fun e => ej e.symm) h (by rw [ChMix_way] at hb; exact hb)))
          exact p1
      clear HPu hus hzu hf1 hf2 HP HO c0 c1 c2 q2 w2 e2 n2
      go_wp2
      go_roundw
      case rel => exact ⟨i + 1, by omega, by rw [HK1.out]; unfold ChT; go_num, by go_num, ⟨f1, hrow2, HPn.out⟩, BB, HF.out⟩
      case measure => simp [intOf]; omega
    · obtain rfl : i = l.length := by omega
      go_wp2
      go_ret
      refine ⟨rfl, .inr ⟨R, m, f', rfl, hR, by rw [ChMs_length]; exact hm, hrow, fun j c hj => ?_⟩, hB, HO.out⟩
      obtain ⟨d, hd, rfl⟩ := ChMs_get hj
      have hjl := (List.getElem?_eq_some_iff.1 hd).1
      have := HP.out j d hd
      rwa [show ChMix l k l.length j d = ChM (ChK l k j) d by simp [ChMix, hjl]] at this

set_option maxRecDepth 100000 in
set_option maxHeartbeats 4000000 in
theorem heldChanS_any (a : Option Addr) (cp B k : Nat) (l : List Ch) (r2 : Nat → Option Addr) (k2 : Nat → Nat) (w : World) (h : ChO w B a (ChMs l k) r2 k2) (h2 : ChK l k l.length ≤ 1000000000) (hl : l.length ≤ 1000000) :
    Calls Try.prog 50 #[.slice a l.length cp, .int .i64 (k : Int)] w fun r w' => r = .returned (.int .i64 ((ChK l k l.length : Nat) : Int)) ∧ w' = w := by
  go_enter Try.func50, Try.ntmps50
  go_wp2
  go_loop [1, 5] (fun x y => ∃ i : Nat, i ≤ l.length ∧ x = .int .i64 ((ChK l k i : Nat) : Int) ∧ y = .int .i64 (i : Int)) (fun _ y => l.length - (intOf y).toNat)
  case atStart => exact ⟨0, Nat.zero_le _, rfl, rfl⟩
  case round =>
    obtain ⟨i, hi, rfl, rfl⟩ := hrel
    by_cases hlt : i < l.length
    · obtain ⟨c, hc⟩ := getCh hlt
      have hK : ChK l k (i + 1) = ChK l k i + ChT c := ChK_succ hc
      have hKm := ChK_mono l k (i + 1) l.length (by omega)
      rcases h with h | ⟨R, m, f, rfl, hR, hm, hrow, hp⟩
      · have := ChMs_length l k
        rw [h] at this
        simp at this
        omega
      rw [ChMs_length] at hm
      obtain ⟨c0, c1, c2, q2, -⟩ := hp i _ (ChMs_at hc)
      obtain ⟨K, hKe⟩ : ∃ K, ChK l k i = K := ⟨_, rfl⟩
      rw [hKe] at hK c0 c1 c2 q2 ⊢
      have hKb : K + ChT c ≤ 1000000000 := by omega
      have HK1 : Hid (ChK l k (i + 1) = K + ChT c) := hK
      unfold ChT at hKb
      clear hKe hK hKm
      have d0 : w.cell? ⟨R, i * 3, none⟩ = some (.int .i64 ((K : Int))) := by rw [hrow.cell (by omega), c0]; simp [ChM]
      have d1 : w.cell? ⟨R, i * 3 + 1, none⟩ = some (.int .i64 ((K : Int) + 1)) := by rw [hrow.cell (by omega), c1]; simp [ChM]; try omega
      have d2 : w.cell? ⟨R, i * 3 + 2, none⟩ = some (.slice (r2 i) c.way.length (k2 i)) := by rw [hrow.cell (by omega), c2, ChM_way]
      replace q2 : Ints w (r2 i) (markZ (K + 2) c.way.length) := q2
      clear c0 c1 c2 hp hrow hc
      go_wp2_with fail
      have ek : (((K : Int) + 1 + 1 : Int)) = ((K + 2 : Nat) : Int) := by omega
      try rw [ek]
      clear ek
      refine (heldIntS_any _ _ _ (K + 2) _ q2 (by omega)).mono ?_
      rintro r w' ⟨rfl, hw⟩
      rw [hw]
      clear hw w'
      go_wp2
      go_round
      case rel => exact ⟨i + 1, by omega, by rw [HK1.out]; unfold ChT; go_num, by go_num⟩
      case measure => simp [intOf]; omega
    · obtain rfl : i = l.length := by omega
      go_wp2
      go_ret
      exact ⟨rfl, rfl⟩

end Go.Proofs.Ytaoecafibmfphaa
