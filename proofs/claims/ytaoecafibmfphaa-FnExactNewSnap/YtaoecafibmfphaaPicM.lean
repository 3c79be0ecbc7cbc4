/-
  Lists of Picture that a call owns: where their own lists lie, that all of it lies apart, and the contracts of markPictureS and heldPictureS. Made by mkbagmark.py.
-/
import Derived.Test.YtaoecafibmfphaaPic
namespace Go.Proofs.Ytaoecafibmfphaa
open Go.RowKit

/-- The j-th, by a row's cells: its own lists at these places, in room from B on. -/
def PcP (w : World) (B : Nat) (f : Nat → Value) (r2 r3 : Nat → Option Addr) (k2 k3 : Nat → Nat) (j : Nat) (c : Pc) : Prop :=
  f (j * 4) = .bool c.tk ∧ f (j * 4 + 1) = .int .i64 c.am ∧ f (j * 4 + 2) = .slice (r2 j) c.ins.length (k2 j) ∧ f (j * 4 + 3) = .slice (r3 j) c.cl.length (k3 j) ∧ Ints w (r2 j) c.ins ∧ RowI w B (r2 j) c.ins.length ∧ Bools w (r3 j) c.cl ∧ RowO w B (r3 j) c.cl.length

/-- The list lies in a row that may be written. -/
def PcO (w : World) (B : Nat) (a : Option Addr) (l : List Pc) (r2 r3 : Nat → Option Addr) (k2 k3 : Nat → Nat) : Prop :=
  l = [] ∨ ∃ R m f, a = some ⟨R, 0, none⟩ ∧ B ≤ R ∧ l.length * 4 ≤ m ∧ w.rowIs R 65 m f ∧ ∀ j c, l[j]? = some c → PcP w B f r2 r3 k2 k3 j c

/-- Whose block it is: the row's own, or one of the lists'. -/
def PcIn (a : Option Addr) (l : List Pc) (r2 r3 : Nat → Option Addr) (b : Nat) : Prop :=
  InI a l.length b ∨ ∃ j c, l[j]? = some c ∧ (InI (r2 j) c.ins.length b ∨ InI (r3 j) c.cl.length b)

/-- All of it lies apart. -/
structure PcD (a : Option Addr) (l : List Pc) (r2 r3 : Nat → Option Addr) : Prop where
  row2 : ∀ j c b, l[j]? = some c → InI (r2 j) c.ins.length b → ¬ InI a l.length b
  row3 : ∀ j c b, l[j]? = some c → InI (r3 j) c.cl.length b → ¬ InI a l.length b
  own2_2 : ∀ j c j' c' b, l[j]? = some c → l[j']? = some c' → j ≠ j' → InI (r2 j) c.ins.length b → ¬ InI (r2 j') c'.ins.length b
  own2_3 : ∀ j c j' c' b, l[j]? = some c → l[j']? = some c' → InI (r2 j) c.ins.length b → ¬ InI (r3 j') c'.cl.length b
  own3_3 : ∀ j c j' c' b, l[j]? = some c → l[j']? = some c' → j ≠ j' → InI (r3 j) c.cl.length b → ¬ InI (r3 j') c'.cl.length b

theorem PcP.of_block {w w' : World} {B : Nat} {f : Nat → Value} {r2 r3 : Nat → Option Addr} {k2 k3 : Nat → Nat} {j : Nat} {c : Pc} (h : PcP w B f r2 r3 k2 k3 j c) (h2 : ∀ b, InI (r2 j) c.ins.length b → w'.heap[b]? = w.heap[b]?) (h3 : ∀ b, InI (r3 j) c.cl.length b → w'.heap[b]? = w.heap[b]?) : PcP w' B f r2 r3 k2 k3 j c := by
  obtain ⟨c0, c1, c2, c3, q2, w2, q3, w3⟩ := h
  exact ⟨c0, c1, c2, c3, q2.of_block h2, w2.of_block h2, q3.of_block h3, w3.of_block h3⟩

theorem PcP.lt {w : World} {B : Nat} {f : Nat → Value} {r2 r3 : Nat → Option Addr} {k2 k3 : Nat → Nat} {j : Nat} {c : Pc} (h : PcP w B f r2 r3 k2 k3 j c) {b : Nat} (hb : InI (r2 j) c.ins.length b ∨ InI (r3 j) c.cl.length b) : B ≤ b ∧ b < w.heap.size := by
  obtain ⟨c0, c1, c2, c3, q2, w2, q3, w3⟩ := h
  rcases hb with hb | hb
  · exact w2.lt hb
  · exact w3.lt hb

theorem PcO.of_block {w w' : World} {B : Nat} {a : Option Addr} {l : List Pc} {r2 r3 : Nat → Option Addr} {k2 k3 : Nat → Nat} (h : PcO w B a l r2 r3 k2 k3) (hs : ∀ b, PcIn a l r2 r3 b → w'.heap[b]? = w.heap[b]?) : PcO w' B a l r2 r3 k2 k3 := by
  rcases h with h | ⟨R, m, f, rfl, hR, hm, hrow, hp⟩
  · exact .inl h
  · by_cases h0 : l = []
    · exact .inl h0
    · have hpos : 0 < l.length := Nat.pos_of_ne_zero fun e => h0 (List.eq_nil_of_length_eq_zero e)
      exact .inr ⟨R, m, f, rfl, hR, hm, hrow.of_block (hs R (.inl ⟨hpos, 0, none, rfl⟩)), fun j c hj => (hp j c hj).of_block (fun b hb => hs b (.inr ⟨j, c, hj, .inl hb⟩)) (fun b hb => hs b (.inr ⟨j, c, hj, .inr (hb)⟩))⟩

theorem PcO.lt {w : World} {B : Nat} {a : Option Addr} {l : List Pc} {r2 r3 : Nat → Option Addr} {k2 k3 : Nat → Nat} (h : PcO w B a l r2 r3 k2 k3) {b : Nat} (hb : PcIn a l r2 r3 b) : B ≤ b ∧ b < w.heap.size := by
  rcases h with rfl | ⟨R, m, f, rfl, hR, hm, hrow, hp⟩
  · rcases hb with ⟨h, -⟩ | ⟨j, c, hj, -⟩
    · simp at h
    · simp at hj
  · rcases hb with ⟨-, o, s, e⟩ | ⟨j, c, hj, hb⟩
    · simp only [Option.some.injEq, Addr.mk.injEq] at e
      have := hrow.lt
      omega
    · exact (hp j c hj).lt hb

theorem PcO.below {w w' : World} {B : Nat} {a : Option Addr} {l : List Pc} {r2 r3 : Nat → Option Addr} {k2 k3 : Nat → Nat} (h : PcO w B a l r2 r3 k2 k3) (hb : Below w.heap.size w w') : PcO w' B a l r2 r3 k2 k3 :=
  h.of_block fun b hi => hb.block b (h.lt hi).2

theorem PcO.reads {w : World} {B : Nat} {a : Option Addr} {l : List Pc} {r2 r3 : Nat → Option Addr} {k2 k3 : Nat → Nat} (h : PcO w B a l r2 r3 k2 k3) (hl : ∀ c, c ∈ l → c.ins.length ≤ maxLen ∧ c.cl.length ≤ maxLen) : Pcs w a l := fun j c hj => by
  have hlt := (List.getElem?_eq_some_iff.1 hj).1
  rcases h with rfl | ⟨R, m, f, rfl, hR, hm, hrow, hp⟩
  · simp at hj
  · obtain ⟨c0, c1, c2, c3, q2, -, q3, -⟩ := hp j c hj
    have hmx := hl c (List.mem_of_getElem? hj)
    refine ⟨R, 0, rfl, r2 j, k2 j, r3 j, k3 j, ?_, ?_, ?_, ?_, q2, hmx.1, q3, hmx.2⟩
    · rw [Nat.zero_add, hrow.cell (by omega), c0]
    · rw [Nat.zero_add, hrow.cell (by omega), c1]
    · rw [Nat.zero_add, hrow.cell (by omega), c2]
    · rw [Nat.zero_add, hrow.cell (by omega), c3]

def PcT (c : Pc) : Nat := 2 + c.ins.length + c.cl.length
/-- Marked from k on. -/
def PcM (k : Nat) (c : Pc) : Pc := ⟨mkO (k), ((k + 1 : Nat) : Int), markZ (k + 2) c.ins.length, markO (k + 2 + c.ins.length) c.cl.length⟩
def PcK (l : List Pc) (k : Nat) : Nat → Nat
  | 0 => k
  | j + 1 => PcK l k j + match l[j]? with
    | some c => PcT c
    | none => 0
theorem PcK_succ {l : List Pc} {k j : Nat} {c : Pc} (h : l[j]? = some c) : PcK l k (j + 1) = PcK l k j + PcT c := by rw [PcK, h]
theorem PcK_mono (l : List Pc) (k : Nat) : ∀ i j, i ≤ j → PcK l k i ≤ PcK l k j
  | i, 0, h => by rw [Nat.le_zero.1 h]; exact Nat.le_refl _
  | i, j + 1, h => by
    by_cases e : i = j + 1
    · rw [e]; exact Nat.le_refl _
    · have := PcK_mono l k i j (by omega)
      rw [PcK]; omega
theorem PcM_ins (k : Nat) (c : Pc) : (PcM k c).ins.length = c.ins.length := by simp [PcM, markZ_length]
theorem PcM_cl (k : Nat) (c : Pc) : (PcM k c).cl.length = c.cl.length := by simp [PcM, markO_length]

/-- The first i are marked. -/
def PcMix (l : List Pc) (k i j : Nat) (c : Pc) : Pc := if j < i then PcM (PcK l k j) c else c
theorem PcMix_ins (l : List Pc) (k i j : Nat) (c : Pc) : (PcMix l k i j c).ins.length = c.ins.length := by unfold PcMix; split <;> simp [PcM_ins]
theorem PcMix_cl (l : List Pc) (k i j : Nat) (c : Pc) : (PcMix l k i j c).cl.length = c.cl.length := by unfold PcMix; split <;> simp [PcM_cl]

/-- All of them marked. -/
def PcMs (l : List Pc) (k : Nat) : List Pc := l.mapIdx fun j c => PcM (PcK l k j) c
theorem PcMs_length (l : List Pc) (k : Nat) : (PcMs l k).length = l.length := by simp [PcMs]
theorem PcMs_get {l : List Pc} {k j : Nat} {c : Pc} (h : (PcMs l k)[j]? = some c) : ∃ d, l[j]? = some d ∧ c = PcM (PcK l k j) d := by
  simp only [PcMs, List.getElem?_mapIdx, Option.map_eq_some_iff] at h
  obtain ⟨d, h1, h2⟩ := h
  exact ⟨d, h1, h2.symm⟩
theorem PcMs_at {l : List Pc} {k j : Nat} {c : Pc} (h : l[j]? = some c) : (PcMs l k)[j]? = some (PcM (PcK l k j) c) := by
  simp only [PcMs, List.getElem?_mapIdx, h, Option.map_some]

set_option maxRecDepth 100000 in
set_option maxHeartbeats 4000000 in
theorem markPictureS_any (a : Option Addr) (cp B k : Nat) (l : List Pc) (r2 r3 : Nat → Option Addr) (k2 k3 : Nat → Nat) (w : World) (h : PcO w B a l r2 r3 k2 k3) (D : PcD a l r2 r3) (hl : l.length ≤ 1000000) (h2 : PcK l k l.length ≤ 1000000000) :
    Calls Try.prog 48 #[.slice a l.length cp, .int .i64 (k : Int)] w fun r w' => r = .returned (.int .i64 ((PcK l k l.length : Nat) : Int)) ∧ PcO w' B a (PcMs l k) r2 r3 k2 k3 ∧ Below B w w' ∧ ∀ b, b < w.heap.size → ¬ PcIn a l r2 r3 b → w'.heap[b]? = w.heap[b]? := by
  by_cases h0 : l = []
  · subst h0
    go_enter Try.func48, Try.ntmps48
    go_wp2
    go_loopw [1, 5] (fun x y wr => x = .int .i64 (k : Int) ∧ y = .int .i64 0 ∧ w = wr) (fun _ _ _ => 0)
    case atStart => exact ⟨rfl, rfl, rfl⟩
    case round =>
      obtain ⟨rfl, rfl, rfl⟩ := hrel
      go_wp2
      go_ret
      exact ⟨rfl, .inl rfl, Below.refl _ _, fun _ _ _ => rfl⟩
  obtain ⟨R, m, f, rfl, hR, hm, hrow, hp⟩ := h.resolve_left h0
  have hpos : 0 < l.length := Nat.pos_of_ne_zero fun e => h0 (List.eq_nil_of_length_eq_zero e)
  have HIN : ∀ b, InI (some ⟨R, 0, none⟩) l.length b ↔ b = R := fun b => ⟨fun ⟨_, o, s, e⟩ => by simp at e; omega, fun e => ⟨hpos, 0, none, by simp [e]⟩⟩
  have hRz := hrow.lt
  go_enter Try.func48, Try.ntmps48
  go_wp2
  go_loopw [1, 5] (fun x y wr => ∃ i : Nat, i ≤ l.length ∧ x = .int .i64 ((PcK l k i : Nat) : Int) ∧ y = .int .i64 (i : Int) ∧ (∃ f', wr.rowIs R 65 m f' ∧ ∀ j c, l[j]? = some c → PcP wr B f' r2 r3 k2 k3 j (PcMix l k i j c)) ∧ Below B w wr ∧ ∀ b, b < w.heap.size → ¬ PcIn (some ⟨R, 0, none⟩) l r2 r3 b → wr.heap[b]? = w.heap[b]?) (fun _ y _ => l.length - (intOf y).toNat)
  case atStart => exact ⟨0, Nat.zero_le _, rfl, rfl, ⟨f, hrow, fun j c hj => by simpa [PcMix] using hp j c hj⟩, Below.refl _ _, fun _ _ _ => rfl⟩
  case round =>
    clear hrow hp h
    obtain ⟨i, hi, rfl, rfl, ⟨f', hrow, hp⟩, hB, hO⟩ := hrel
    have HO : Hid (∀ b, b < w.heap.size → ¬ PcIn (some ⟨R, 0, none⟩) l r2 r3 b → wr.heap[b]? = w.heap[b]?) := hO
    have HP : Hid (∀ j c, l[j]? = some c → PcP wr B f' r2 r3 k2 k3 j (PcMix l k i j c)) := hp
    clear hO hp
    by_cases hlt : i < l.length
    · obtain ⟨c, hc⟩ := getPc hlt
      have HC : Hid (l[i]? = some c) := hc
      have hK : PcK l k (i + 1) = PcK l k i + PcT c := PcK_succ hc
      have hKm := PcK_mono l k (i + 1) l.length (by omega)
      have hpi := HP.out i c hc
      rw [show PcMix l k i i c = c by simp [PcMix]] at hpi
      obtain ⟨c0, c1, c2, c3, q2, w2, q3, w3⟩ := hpi
      obtain ⟨K, hKe⟩ : ∃ K, PcK l k i = K := ⟨_, rfl⟩
      have HK : Hid (PcK l k i = K) := hKe
      rw [hKe] at hK ⊢
      have hKb : K + PcT c ≤ 1000000000 := by omega
      have HK1 : Hid (PcK l k (i + 1) = K + PcT c) := hK
      unfold PcT at hKb
      clear hKe hK hc hKm
      have d0 : wr.cell? ⟨R, i * 4, none⟩ = some (f' (i * 4)) := hrow.cell (by omega)
      have d1 : wr.cell? ⟨R, i * 4 + 1, none⟩ = some (f' (i * 4 + 1)) := hrow.cell (by omega)
      have d2 : wr.cell? ⟨R, i * 4 + 2, none⟩ = some (f' (i * 4 + 2)) := hrow.cell (by omega)
      have d3 : wr.cell? ⟨R, i * 4 + 3, none⟩ = some (f' (i * 4 + 3)) := hrow.cell (by omega)
      rw [c0] at d0
      rw [c1] at d1
      rw [c2] at d2
      rw [c3] at d3
      have hf := hrow.frozen
      obtain ⟨u, hu⟩ : ∃ u, ((wr.setCell ⟨R, i * 4, none⟩ (.bool (((K : Int)) % 3 == 0))).setCell ⟨R, i * 4 + 1, none⟩ (.int .i64 ((K : Int) + 1))) = u := ⟨_, rfl⟩
      have hus : ∀ b, b ≠ R → u.heap[b]? = wr.heap[b]? := fun b hb => by
        rw [← hu]
        rw [Below.heap_setCell _ ⟨R, _, none⟩ _ b (by simpa using hb), Below.heap_setCell _ ⟨R, _, none⟩ _ b (by simpa using hb)]
      obtain ⟨f1, hrow1, hf1, hf2⟩ : ∃ f1, u.rowIs R 65 m f1 ∧ (f1 (i * 4) = .bool (((K : Int)) % 3 == 0) ∧ f1 (i * 4 + 1) = .int .i64 ((K : Int) + 1)) ∧ ∀ x, x ≠ i * 4 → x ≠ i * 4 + 1 → f1 x = f' x := by
        rw [← hu]
        refine ⟨_, ((hrow.set _ _).set _ _), ⟨by simp, by simp⟩, fun x g0 g1 => ?_⟩
        rw [if_neg g1, if_neg g0]
      have hBu : Below B w u := by rw [← hu]; exact ((hB.setCell hR _).setCell hR _)
      have e2 : u.cell? ⟨R, i * 4 + 2, none⟩ = some (.slice (r2 i) c.ins.length (k2 i)) := by rw [hrow1.cell (by omega), hf2 _ (by omega) (by omega), c2]
      have e3 : u.cell? ⟨R, i * 4 + 3, none⟩ = some (.slice (r3 i) c.cl.length (k3 i)) := by rw [hrow1.cell (by omega), hf2 _ (by omega) (by omega), c3]
      have n2 : ∀ b, InI (r2 i) c.ins.length b → b ≠ R := fun b hb e => D.row2 i c b HC.out hb ((HIN b).2 e)
      have n3 : ∀ b, InI (r3 i) c.cl.length b → b ≠ R := fun b hb e => D.row3 i c b HC.out hb ((HIN b).2 e)
      have R2 : RowI u B (r2 i) c.ins.length := w2.of_block fun b hb => hus b (n2 b hb)
      have R3 : RowO u B (r3 i) c.cl.length := w3.of_block fun b hb => hus b (n3 b hb)
      have HPu : Hid (∀ j c, l[j]? = some c → j ≠ i → PcP u B f1 r2 r3 k2 k3 j (PcMix l k i j c)) := fun j c' hj hne => by
        obtain ⟨a0, a1, a2, a3, x2, y2, x3, y3⟩ := HP.out j c' hj
        refine ⟨?_, ?_, ?_, ?_, x2.of_block fun b hb => hus b fun e => D.row2 j c' b hj (by rw [PcMix_ins] at hb; exact hb) ((HIN b).2 e), y2.of_block fun b hb => hus b fun e => D.row2 j c' b hj (by rw [PcMix_ins] at hb; exact hb) ((HIN b).2 e), x3.of_block fun b hb => hus b fun e => D.row3 j c' b hj (by rw [PcMix_cl] at hb; exact hb) ((HIN b).2 e), y3.of_block fun b hb => hus b fun e => D.row3 j c' b hj (by rw [PcMix_cl] at hb; exact hb) ((HIN b).2 e)⟩
        · rw [hf2 _ (by omega) (by omega)]; exact a0
        · rw [hf2 _ (by omega) (by omega)]; exact a1
        · rw [hf2 _ (by omega) (by omega)]; exact a2
        · rw [hf2 _ (by omega) (by omega)]; exact a3
      have hzu : u.heap.size = wr.heap.size := by rw [← hu]; simp
      go_wp2_with fail
      have ek : (((K : Int) + 1 + 1 : Int)) = ((K + 2 : Nat) : Int) := by omega
      try rw [ek]
      clear hu ek d0 d1 d2 d3
      refine (markIntS_any _ _ _ B (K + 2) _ R2 (by omega)).mono ?_
      rintro r w1' ⟨rfl, H2, S2, hB1, hO1⟩
      have hz1 := hB1.size
      have hrow2 : w1'.rowIs R 65 m f1 := hrow1.of_block (hO1 R hrow1.lt (fun hb => n2 R hb rfl))
      have e3 : w1'.cell? ⟨R, i * 4 + 3, none⟩ = some (.slice (r3 i) c.cl.length (k3 i)) := (World.cell?_of_block (a := ⟨R, i * 4 + 3, none⟩) (hO1 R hrow1.lt (fun hb => n2 R hb rfl))).trans e3
      have R3' := R3.of_block fun b hb => hO1 b (R3.lt hb).2 (fun h => D.own2_3 i c i c b HC.out HC.out h hb)
      clear R3
      have R3 := R3'
      clear R3'
      go_wp2_with fail
      refine (markBoolS_any _ _ _ B (K + 2 + c.ins.length) _ R3 (by omega)).mono ?_
      rintro r w2' ⟨rfl, H3, S3, hB2, hO2⟩
      have hz2 := hB2.size
      have hrow3 : w2'.rowIs R 65 m f1 := hrow2.of_block (hO2 R hrow2.lt (fun hb => n3 R hb rfl))
      replace H2 := H2.of_block fun b hb => hO2 b (S2.lt (by rw [markZ_length] at hb; exact hb)).2 (fun h => D.own2_3 i c i c b HC.out HC.out (by rw [markZ_length] at hb; exact hb) h)
      replace S2 := S2.of_block fun b hb => hO2 b (S2.lt hb).2 (fun h => D.own2_3 i c i c b HC.out HC.out hb h)
      have BB : Below B w w2' := ((hBu.trans hB1).trans hB2)
      have HF : Hid (∀ b, b < w.heap.size → ¬ PcIn (some ⟨R, 0, none⟩) l r2 r3 b → w2'.heap[b]? = w.heap[b]?) := fun b hb hn => by
        have hbR : b ≠ R := fun e => hn (.inl ((HIN b).2 e))
        have hbz := hB.size
        rw [hO2 b (by omega) (fun h => hn (.inr ⟨i, c, HC.out, .inr (h)⟩)), hO1 b (by omega) (fun h => hn (.inr ⟨i, c, HC.out, .inl h⟩)), hus b hbR, HO.out b hb hn]
      have HPn : Hid (∀ j c, l[j]? = some c → PcP w2' B f1 r2 r3 k2 k3 j (PcMix l k (i + 1) j c)) := fun j c' hj => by
        by_cases ej : j = i
        · subst ej
          have ec : c' = c := by have := HC.out; rw [hj] at this; exact Option.some.inj this
          subst ec
          have em : PcMix l k (j + 1) j c' = PcM K c' := by simp [PcMix, HK.out]
          rw [em]
          refine ⟨?_, ?_, ?_, ?_, ?_, ?_, ?_, ?_⟩
          · rw [hf1.1]; simp [PcM, mkO]
          · rw [hf1.2]; simp [PcM]; try omega
          · rw [hf2 _ (by omega) (by omega), c2, PcM_ins]
          · rw [hf2 _ (by omega) (by omega), c3, PcM_cl]
          · exact H2
          · rw [PcM_ins]; exact S2
          · exact H3
          · rw [PcM_cl]; exact S3
        · have em : PcMix l k (i + 1) j c' = PcMix l k i j c' := by
            unfold PcMix
            by_cases hji : j < i
            · rw [if_pos hji, if_pos (by omega)]
            · rw [if_neg hji, if_neg (by omega)]
          rw [em]
          have p0 := HPu.out j c' hj ej
          have p1 := (p0).of_block (w' := w1') (fun b hb => hO1 b ((p0).lt (.inl hb)).2 (fun h => D.own2_2 i c j c' b HC.out hj (fun e => ej e.symm) h (by rw [PcMix_ins] at hb; exact hb))) (fun b hb => hO1 b ((p0).lt (.inr (hb))).2 (fun h => D.own2_3 i c j c' b HC.out hj h (by rw [PcMix_cl] at hb; exact hb)))
          have p2 := (p1).of_block (w' := w2') (fun b hb => hO2 b ((p1).lt (.inl hb)).2 (fun h => D.own2_3 j c' i c b hj HC.out (by rw [PcMix_ins] at hb; exact hb) h)) (fun b hb => hO2 b ((p1).lt (.inr (hb))).2 (fun h => D.own3_3 i c j c' b HC.out hj (fun e => ej e.symm) h (by rw [PcMix_cl] at hb; exact hb)))
          exact p2
      clear HPu hus hzu hf1 hf2 HP HO c0 c1 c2 c3 q2 w2 e2 n2 q3 w3 e3 n3
      go_wp2
      go_roundw
      case rel => exact ⟨i + 1, by omega, by rw [HK1.out]; unfold PcT; go_num, by go_num, ⟨f1, hrow3, HPn.out⟩, BB, HF.out⟩
      case measure => simp [intOf]; omega
    · obtain rfl : i = l.length := by omega
      go_wp2
      go_ret
      refine ⟨rfl, .inr ⟨R, m, f', rfl, hR, by rw [PcMs_length]; exact hm, hrow, fun j c hj => ?_⟩, hB, HO.out⟩
      obtain ⟨d, hd, rfl⟩ := PcMs_get hj
      have hjl := (List.getElem?_eq_some_iff.1 hd).1
      have := HP.out j d hd
      rwa [show PcMix l k l.length j d = PcM (PcK l k j) d by simp [PcMix, hjl]] at this

set_option maxRecDepth 100000 in
set_option maxHeartbeats 4000000 in
theorem heldPictureS_any (a : Option Addr) (cp B k : Nat) (l : List Pc) (r2 r3 : Nat → Option Addr) (k2 k3 : Nat → Nat) (w : World) (h : PcO w B a (PcMs l k) r2 r3 k2 k3) (h2 : PcK l k l.length ≤ 1000000000) (hl : l.length ≤ 1000000) :
    Calls Try.prog 51 #[.slice a l.length cp, .int .i64 (k : Int)] w fun r w' => r = .returned (.int .i64 ((PcK l k l.length : Nat) : Int)) ∧ w' = w := by
  go_enter Try.func51, Try.ntmps51
  go_wp2
  go_loop [1, 5] (fun x y => ∃ i : Nat, i ≤ l.length ∧ x = .int .i64 ((PcK l k i : Nat) : Int) ∧ y = .int .i64 (i : Int)) (fun _ y => l.length - (intOf y).toNat)
  case atStart => exact ⟨0, Nat.zero_le _, rfl, rfl⟩
  case round =>
    obtain ⟨i, hi, rfl, rfl⟩ := hrel
    by_cases hlt : i < l.length
    · obtain ⟨c, hc⟩ := getPc hlt
      have hK : PcK l k (i + 1) = PcK l k i + PcT c := PcK_succ hc
      have hKm := PcK_mono l k (i + 1) l.length (by omega)
      rcases h with h | ⟨R, m, f, rfl, hR, hm, hrow, hp⟩
      · have := PcMs_length l k
        rw [h] at this
        simp at this
        omega
      rw [PcMs_length] at hm
      obtain ⟨c0, c1, c2, c3, q2, -, q3, -⟩ := hp i _ (PcMs_at hc)
      obtain ⟨K, hKe⟩ : ∃ K, PcK l k i = K := ⟨_, rfl⟩
      rw [hKe] at hK c0 c1 c2 c3 q2 q3 ⊢
      have hKb : K + PcT c ≤ 1000000000 := by omega
      have HK1 : Hid (PcK l k (i + 1) = K + PcT c) := hK
      unfold PcT at hKb
      clear hKe hK hKm
      have d0 : w.cell? ⟨R, i * 4, none⟩ = some (.bool (((K : Int)) % 3 == 0)) := by rw [hrow.cell (by omega), c0]; simp [PcM, mkO]
      have d1 : w.cell? ⟨R, i * 4 + 1, none⟩ = some (.int .i64 ((K : Int) + 1)) := by rw [hrow.cell (by omega), c1]; simp [PcM]; try omega
      have d2 : w.cell? ⟨R, i * 4 + 2, none⟩ = some (.slice (r2 i) c.ins.length (k2 i)) := by rw [hrow.cell (by omega), c2, PcM_ins]
      have d3 : w.cell? ⟨R, i * 4 + 3, none⟩ = some (.slice (r3 i) c.cl.length (k3 i)) := by rw [hrow.cell (by omega), c3, PcM_cl]
      have b0 : (!((((K : Int)) % 3 == 0) == (((K : Int)) % 3 == 0))) = false := by simp
      replace q2 : Ints w (r2 i) (markZ (K + 2) c.ins.length) := q2
      replace q3 : Bools w (r3 i) (markO (K + 2 + c.ins.length) c.cl.length) := q3
      clear c0 c1 c2 c3 hp hrow hc
      go_wp2_with fail
      have ek : (((K : Int) + 1 + 1 : Int)) = ((K + 2 : Nat) : Int) := by omega
      try rw [ek]
      clear ek
      refine (heldIntS_any _ _ _ (K + 2) _ q2 (by omega)).mono ?_
      rintro r w' ⟨rfl, hw⟩
      rw [hw]
      clear hw w'
      go_wp2_with fail
      refine (heldBoolS_any _ _ _ (K + 2 + c.ins.length) _ q3 (by omega)).mono ?_
      rintro r w' ⟨rfl, hw⟩
      rw [hw]
      clear hw w'
      go_wp2
      go_round
      case rel => exact ⟨i + 1, by omega, by rw [HK1.out]; unfold PcT; go_num, by go_num⟩
      case measure => simp [intOf]; omega
    · obtain rfl : i = l.length := by omega
      go_wp2
      go_ret
      exact ⟨rfl, rfl⟩

end Go.Proofs.Ytaoecafibmfphaa
