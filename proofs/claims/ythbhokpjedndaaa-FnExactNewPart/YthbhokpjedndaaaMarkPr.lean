/-
  Producers that a call owns, marked and held: markProducerS, heldProducerS.
-/
import Derived.Test.YthbhokpjedndaaaPrs
import Derived.Test.YthbhokpjedndaaaDns2
namespace Go.Proofs.Ythbhokpjedndaaa
open Go.RowKit

/-- A producer, where its window lies, and how much room it has. -/
structure PQ where
  b : Pr
  a : Option Addr
  c : Nat

/-- Where the marks of these producers end. -/
def pTo : List PQ → Nat → Nat
  | [], k => k
  | q :: r, k => pTo r (k + 3 + 3 * q.b.win.length)

def markP (k : Nat) (q : PQ) : Pr := ⟨((k : Nat) : Int), ((k + 1 : Nat) : Int), ((k + 2 : Nat) : Int), markDs (k + 3) q.b.win.length⟩
def markPs : List PQ → Nat → List Pr
  | [], _ => []
  | q :: r, k => markP k q :: markPs r (k + 3 + 3 * q.b.win.length)

theorem pTo_app : ∀ (xs : List PQ) (q : PQ) (k : Nat), pTo (xs ++ [q]) k = pTo xs k + 3 + 3 * q.b.win.length
  | [], q, k => rfl
  | p :: r, q, k => by simp only [List.cons_append, pTo]; exact pTo_app r q _

theorem pTo_ge : ∀ (xs : List PQ) (k : Nat), k ≤ pTo xs k
  | [], k => Nat.le_refl _
  | p :: r, k => by have := pTo_ge r (k + 3 + 3 * p.b.win.length); simp only [pTo]; omega

theorem takePQ_snoc {qs : List PQ} {i : Nat} {q : PQ} (h : qs[i]? = some q) : qs.take (i + 1) = qs.take i ++ [q] := by
  rw [List.take_add_one, h]; rfl

theorem pTo_split : ∀ (xs ys : List PQ) (k : Nat), pTo (xs ++ ys) k = pTo ys (pTo xs k)
  | [], ys, k => rfl
  | p :: r, ys, k => by simp only [List.cons_append, pTo]; exact pTo_split r ys _

theorem pTo_take (qs : List PQ) (i k : Nat) : pTo (qs.take i) k ≤ pTo qs k := by
  have := pTo_split (qs.take i) (qs.drop i) k
  rw [List.take_append_drop] at this
  rw [this]
  exact pTo_ge _ _

theorem markPs_len : ∀ (qs : List PQ) (k : Nat), (markPs qs k).length = qs.length
  | [], _ => rfl
  | q :: r, k => by simp [markPs, markPs_len r]

theorem markPs_get : ∀ (qs : List PQ) (k i : Nat) (q : PQ), qs[i]? = some q → (markPs qs k)[i]? = some (markP (pTo (qs.take i) k) q)
  | [], _, i, q, h => by simp at h
  | p :: r, k, 0, q, h => by simp at h; subst h; simp [markPs, pTo]
  | p :: r, k, i + 1, q, h => by
    have := markPs_get r (k + 3 + 3 * p.b.win.length) i q (by simpa using h)
    simpa [markPs, pTo] using this

/-- The list's row at g, and the rows of its producers' windows, all apart. -/
structure PgSt (w : World) (B g m : Nat) (qs : List PQ) (f : Nat → Value) : Prop where
  row : w.rowIs g 84 m f
  rcs : ∀ (i : Nat) (q : PQ), qs[i]? = some q → f (i * 4 + 3) = .slice q.a q.b.win.length q.c ∧ RowE w B q.a q.b.win.length ∧ ¬ InI q.a q.b.win.length g
  dis : ∀ (i j : Nat) (p q : PQ) (k : Nat), qs[i]? = some p → qs[j]? = some q → i ≠ j → InI p.a p.b.win.length k → ¬ InI q.a q.b.win.length k

/-- The first i producers bear their marks. -/
def MpTo (w : World) (f : Nat → Value) (qs : List PQ) (k i : Nat) : Prop :=
  ∀ (j : Nat) (q : PQ), j < i → qs[j]? = some q → f (j * 4) = .int .i64 ((pTo (qs.take j) k : Nat) : Int) ∧ f (j * 4 + 1) = .int .i64 ((pTo (qs.take j) k + 1 : Nat) : Int) ∧ f (j * 4 + 2) = .int .i64 ((pTo (qs.take j) k + 2 : Nat) : Int) ∧ Dns w q.a (markDs (pTo (qs.take j) k + 3) q.b.win.length)

/-- The blocks of a list and of its producers' windows. -/
def InPs (a : Option Addr) (qs : List PQ) (b : Nat) : Prop := InI a qs.length b ∨ ∃ (i : Nat) (q : PQ), qs[i]? = some q ∧ InI q.a q.b.win.length b

def setPF (f : Nat → Value) (i : Nat) (k : Nat) : Nat → Value := fun j => if j = i * 4 + 2 then .int .i64 ((k + 2 : Nat) : Int) else if j = i * 4 + 1 then .int .i64 ((k + 1 : Nat) : Int) else if j = i * 4 then .int .i64 ((k : Nat) : Int) else f j

def setPW (w : World) (g i k : Nat) : World := ((w.setCell ⟨g, i * 4, none⟩ (.int .i64 ((k : Nat) : Int))).setCell ⟨g, i * 4 + 1, none⟩ (.int .i64 ((k + 1 : Nat) : Int))).setCell ⟨g, i * 4 + 2, none⟩ (.int .i64 ((k + 2 : Nat) : Int))

theorem setPW_block (w : World) (g i k b : Nat) (h : b ≠ g) : (setPW w g i k).heap[b]? = w.heap[b]? := by
  unfold setPW
  rw [Below.heap_setCell _ ⟨g, i * 4 + 2, none⟩ _ b (by simpa using h), Below.heap_setCell _ ⟨g, i * 4 + 1, none⟩ _ b (by simpa using h), Below.heap_setCell w ⟨g, i * 4, none⟩ _ b (by simpa using h)]

theorem setPW_size (w : World) (g i k : Nat) : (setPW w g i k).heap.size = w.heap.size := by simp [setPW]

theorem pg_set {w : World} {B g m : Nat} {qs : List PQ} {f : Nat → Value} (h : PgSt w B g m qs f) (i k : Nat) : PgSt (setPW w g i k) B g m qs (setPF f i k) := by
  refine ⟨((h.row.set _ _).set _ _).set _ _, fun j q hq => ?_, h.dis⟩
  obtain ⟨h1, h2, h3⟩ := h.rcs j q hq
  refine ⟨?_, h2.of_block (fun b hb => setPW_block w g i k b (fun e => h3 (e ▸ hb))), h3⟩
  unfold setPF
  rw [if_neg (by omega), if_neg (by omega), if_neg (by omega)]
  exact h1

theorem mp_step {w w2 : World} {B g m : Nat} {qs : List PQ} {f : Nat → Value} {k i : Nat} {q : PQ} (h : PgSt w B g m qs f) (hM : MpTo w f qs k i) (hq : qs[i]? = some q)
    (hS : Dns w2 q.a (markDs (pTo (qs.take i) k + 3) q.b.win.length)) (hRow : RowE w2 B q.a q.b.win.length)
    (hO : ∀ b, ¬ InI q.a q.b.win.length b → w2.heap[b]? = (setPW w g i (pTo (qs.take i) k)).heap[b]?) :
    PgSt w2 B g m qs (setPF f i (pTo (qs.take i) k)) ∧ MpTo w2 (setPF f i (pTo (qs.take i) k)) qs k (i + 1) := by
  have hL := pg_set h i (pTo (qs.take i) k)
  refine ⟨⟨hL.row.of_block (hO g (h.rcs i q hq).2.2), fun j p hp => ?_, h.dis⟩, fun j p hj hp => ?_⟩
  · obtain ⟨h1, h2, h3⟩ := hL.rcs j p hp
    refine ⟨h1, ?_, h3⟩
    by_cases e : j = i
    · subst e
      obtain rfl : p = q := by rw [hp] at hq; simpa using hq
      exact hRow
    · exact h2.of_block (fun b hb => hO b (fun hb' => h.dis i j q p b hq hp (fun e' => e e'.symm) hb' hb))
  · by_cases e : j = i
    · subst e
      obtain rfl : p = q := by rw [hp] at hq; simpa using hq
      refine ⟨?_, ?_, ?_, hS⟩ <;> simp [setPF]
    · obtain ⟨m0, m1, m2, m4⟩ := hM j p (by omega) hp
      refine ⟨?_, ?_, ?_, m4.of_block (fun b hb => ?_)⟩
      · unfold setPF; rw [if_neg (by omega), if_neg (by omega), if_neg (by omega)]; exact m0
      · unfold setPF; rw [if_neg (by omega), if_neg (by omega), if_neg (by omega)]; exact m1
      · unfold setPF; rw [if_neg (by omega), if_neg (by omega), if_neg (by omega)]; exact m2
      · rw [markDs_length] at hb
        rw [hO b (fun hb' => h.dis i j q p b hq hp (fun e' => e e'.symm) hb' hb)]
        exact setPW_block w g i _ b (fun e' => (h.rcs j p hp).2.2 (e' ▸ hb))

theorem mp_prs {w : World} {B g m : Nat} {qs : List PQ} {f : Nat → Value} {k : Nat} (h : PgSt w B g m qs f) (hm : qs.length * 4 ≤ m) (hM : MpTo w f qs k qs.length) (h8 : ∀ q, q ∈ qs → q.b.win.length ≤ 1000000) : Prs w (some ⟨g, 0, none⟩) (markPs qs k) := fun i b hi => by
  have hlt := (List.getElem?_eq_some_iff.1 hi).1
  rw [markPs_len] at hlt
  obtain ⟨q, hq⟩ : ∃ q, qs[i]? = some q := ⟨_, List.getElem?_eq_getElem hlt⟩
  rw [markPs_get qs k i q hq] at hi
  simp only [Option.some.injEq] at hi
  subst hi
  obtain ⟨m0, m1, m2, m4⟩ := hM i q hlt hq
  have h8' := h8 q (List.mem_of_getElem? hq)
  refine ⟨g, 0, rfl, q.a, q.c, ?_, ?_, ?_, ?_, m4, by simp only [markP, markDs_length]; unfold maxLen; omega⟩
  · rw [Nat.zero_add, h.row.cell (by omega), m0]; rfl
  · rw [Nat.zero_add, h.row.cell (by omega), m1]; rfl
  · rw [Nat.zero_add, h.row.cell (by omega), m2]; rfl
  · rw [Nat.zero_add, h.row.cell (by omega), (h.rcs i q hq).1]
    simp only [markP, markDs_length]

theorem getPQ {qs : List PQ} {k : Nat} (h : k < qs.length) : ∃ q, qs[k]? = some q := ⟨_, List.getElem?_eq_getElem h⟩

/-- The list's row and its producers' windows' rows, from B on. -/
def PsRow (w : World) (B : Nat) (a : Option Addr) (qs : List PQ) : Prop :=
  qs.length = 0 ∨ ∃ g m f, a = some ⟨g, 0, none⟩ ∧ B ≤ g ∧ qs.length * 4 ≤ m ∧ PgSt w B g m qs f

theorem PsRow.lt {w : World} {B : Nat} {a : Option Addr} {qs : List PQ} (h : PsRow w B a qs) {b : Nat} (hb : InPs a qs b) : B ≤ b ∧ b < w.heap.size := by
  rcases h with h | ⟨g, m, f, rfl, hg, hm, hL⟩
  · have e : qs = [] := List.eq_nil_of_length_eq_zero h
    subst e
    rcases hb with ⟨h0, -⟩ | ⟨i, q, hq, -⟩
    · simp at h0
    · simp at hq
  · rcases hb with ⟨-, o, s, e⟩ | ⟨i, q, hq, hk⟩
    · simp only [Option.some.injEq, Addr.mk.injEq] at e
      have := hL.row.lt
      omega
    · exact (hL.rcs i q hq).2.1.lt hk

theorem PsRow.of_block {w w' : World} {B : Nat} {a : Option Addr} {qs : List PQ} (h : PsRow w B a qs) (hs : ∀ b, InPs a qs b → w'.heap[b]? = w.heap[b]?) : PsRow w' B a qs := by
  by_cases h0 : qs.length = 0
  · exact .inl h0
  obtain ⟨g, m, f, rfl, hg, hm, hL⟩ := h.resolve_left h0
  refine .inr ⟨g, m, f, rfl, hg, hm, hL.row.of_block (hs g (.inl ⟨by omega, 0, none, rfl⟩)), fun i q hq => ?_, hL.dis⟩
  obtain ⟨h1, h2, h3⟩ := hL.rcs i q hq
  exact ⟨h1, h2.of_block (fun b hb => hs b (.inr ⟨i, q, hq, hb⟩)), h3⟩

theorem PsRow.below {w w' : World} {B : Nat} {a : Option Addr} {qs : List PQ} (h : PsRow w B a qs) (hb : Below w.heap.size w w') : PsRow w' B a qs :=
  h.of_block fun b hi => hb.block b (h.lt hi).2

set_option maxRecDepth 100000 in
set_option maxHeartbeats 4000000 in
theorem markProducerS_row (a : Option Addr) (c B k : Nat) (qs : List PQ) (w : World) (h : PsRow w B a qs) (h8 : ∀ q, q ∈ qs → q.b.win.length ≤ 1000000) (h2 : pTo qs k ≤ 1000000000) (hq4 : qs.length ≤ 1000000) :
    Calls Try.prog 24 #[.slice a qs.length c, .int .i64 k] w fun r w' => r = .returned (.int .i64 ((pTo qs k : Nat) : Int)) ∧ Prs w' a (markPs qs k) ∧ PsRow w' B a qs ∧ Below B w w' ∧ ∀ b, ¬ InPs a qs b → w'.heap[b]? = w.heap[b]? := by
  by_cases h0 : qs.length = 0
  · obtain rfl : qs = [] := List.eq_nil_of_length_eq_zero h0
    clear h h0
    go_enter Try.func24, Try.ntmps24
    go_wp2
    go_loopw [1, 5] (fun c i wr => c = .int .i64 (k : Int) ∧ i = .int .i64 0 ∧ w = wr) (fun _ _ _ => 0)
    case atStart => exact ⟨rfl, rfl, rfl⟩
    case round =>
      obtain ⟨rfl, rfl, rfl⟩ := hrel
      go_wp2
      go_ret
      exact ⟨rfl, (fun i s hi => by simp [markPs] at hi), .inl rfl, Below.refl _ _, fun _ _ => rfl⟩
  · obtain ⟨g, m, f, rfl, hg, hm, hL⟩ := h.resolve_left h0
    have H8 : Hid (∀ q, q ∈ qs → q.b.win.length ≤ 1000000) := h8
    clear h h8
    go_enter Try.func24, Try.ntmps24
    go_wp2
    go_loopw [1, 5] (fun cv iv wr => ∃ (i : Nat) (f' : Nat → Value), i ≤ qs.length ∧ cv = .int .i64 ((pTo (qs.take i) k : Nat) : Int) ∧ iv = .int .i64 (i : Int) ∧ PgSt wr B g m qs f' ∧ MpTo wr f' qs k i ∧ Below B w wr ∧ ∀ b, ¬ InPs (some ⟨g, 0, none⟩) qs b → wr.heap[b]? = w.heap[b]?) (fun _ iv _ => qs.length - (intOf iv).toNat)
    case atStart => exact ⟨0, f, Nat.zero_le _, rfl, rfl, hL, (fun j q hj => absurd hj (Nat.not_lt_zero _)), Below.refl _ _, fun _ _ => rfl⟩
    case round =>
      clear hL
      obtain ⟨i, f', hi, rfl, rfl, hL, hM, hB, hO⟩ := hrel
      have HM : Hid (MpTo wr f' qs k i) := hM
      have HO : Hid (∀ b, ¬ InPs (some ⟨g, 0, none⟩) qs b → wr.heap[b]? = w.heap[b]?) := hO
      have HL : Hid (PgSt wr B g m qs f') := hL
      have hk1 := pTo_ge (qs.take i) k
      have hk2 := pTo_take qs i k
      clear hM hO
      by_cases hlt : i < qs.length
      · obtain ⟨q, hq⟩ := getPQ hlt
        have HQ : Hid (qs[i]? = some q) := hq
        have hk3 := pTo_take qs (i + 1) k
        rw [takePQ_snoc hq, pTo_app] at hk3
        have HK : Hid (pTo (qs.take (i + 1)) k = pTo (qs.take i) k + 3 + 3 * q.b.win.length) := by show _ = _; rw [takePQ_snoc hq, pTo_app]
        have hR := hL.row
        have c0 := hR.cell (i := i * 4) (by omega)
        have c1 := hR.cell (i := i * 4 + 1) (by omega)
        have c2 := hR.cell (i := i * 4 + 2) (by omega)
        have c3 := hR.cell (i := i * 4 + 3) (by omega)
        rw [(hL.rcs i q hq).1] at c3
        have fz := hR.frozen
        have hBz := hB.size
        obtain ⟨K, hK⟩ : ∃ K, pTo (qs.take i) k = K := ⟨_, rfl⟩
        have HKK : Hid (pTo (qs.take i) k = K) := hK
        rw [hK] at hk1 hk2 hk3
        rw [hK]
        have hS := pg_set hL i K
        have hrow := (hS.rcs i q hq).2.1
        have HSW : Hid (((wr.setCell ⟨g, i * 4, none⟩ (.int .i64 ((K : Nat) : Int))).setCell ⟨g, i * 4 + 1, none⟩ (.int .i64 ((K + 1 : Nat) : Int))).setCell ⟨g, i * 4 + 2, none⟩ (.int .i64 ((K + 2 : Nat) : Int)) = setPW wr g i K) := rfl
        have E1 : Hid ((K : Int) + 1 = ((K + 1 : Nat) : Int)) := by show _ = _; omega
        have E2 : Hid ((K : Int) + 1 + 1 = ((K + 2 : Nat) : Int)) := by show _ = _; omega
        have E3 : Hid ((K : Int) + 1 + 1 + 1 = ((K + 3 : Nat) : Int)) := by show _ = _; omega
        have hx2 : K + 3 + 3 * q.b.win.length ≤ 1000000000 := by omega
        have hx6 : i + 1 ≤ qs.length := hlt
        have hBs : Below B w (setPW wr g i K) := ((hB.setCell hg _).setCell hg _).setCell hg _
        have HX : Hid (∀ b, ¬ InPs (some ⟨g, 0, none⟩) qs b → (setPW wr g i K).heap[b]? = w.heap[b]? ∧ ¬ InI q.a q.b.win.length b) := fun b hn => by
          have hbg : b ≠ g := fun e => hn (.inl (e ▸ ⟨by omega, 0, none, rfl⟩))
          refine ⟨(setPW_block wr g i K b hbg).trans (HO.out b hn), fun hb' => hn (.inr ⟨i, q, hq, hb'⟩)⟩
        clear hL hR hK hS hB hq
        go_wp2_with fail
        rw [E3.out, E2.out, E1.out, HSW.out]
        refine (markDoneS_any _ _ q.b.win.length B (K + 3) _ hrow hx2).mono ?_
        rintro r w2 ⟨rfl, hS2, hR2, hB2, -, hO2⟩
        have hst := mp_step (k := k) HL.out HM.out HQ.out (by rw [HKK.out]; exact hS2) hR2 (by rw [HKK.out]; exact hO2)
        rw [HKK.out] at hst
        have HST : Hid (PgSt w2 B g m qs (setPF f' i K) ∧ MpTo w2 (setPF f' i K) qs k (i + 1)) := hst
        have HBn : Hid (Below B w w2) := hBs.trans hB2
        have HOn : Hid (∀ b, ¬ InPs (some ⟨g, 0, none⟩) qs b → w2.heap[b]? = w.heap[b]?) := fun b hn => by
          obtain ⟨e1, e3⟩ := HX.out b hn
          rw [hO2 b e3, e1]
        have HR0 : Hid (((K + 3 + 3 * q.b.win.length : Nat) : Int) = ((pTo (qs.take (i + 1)) k : Nat) : Int)) := by show _ = _; rw [HK.out, HKK.out]
        have HR : Hid ((K : Int) + 3 + 3 * (q.b.win.length : Int) = ((pTo (qs.take (i + 1)) k : Nat) : Int)) := by show _ = _; rw [← HR0.out]; omega
        clear hst hS2 hR2 hB2 hO2 hBs hrow HX c0 c1 c2 c3 fz
        go_wp2_with fail
        go_roundw
        case rel => exact ⟨i + 1, setPF f' i K, hx6, by first | rw [HR.out] | rw [HR0.out], by go_num, HST.out.1, HST.out.2, HBn.out, HOn.out⟩
        case measure => simp [intOf]; omega
      · have hlt : i = qs.length := by omega
        have e : qs.take i = qs := List.take_of_length_le (by omega)
        have HBt : Hid (Prs wr (some ⟨g, 0, none⟩) (markPs qs k)) := mp_prs HL.out hm (hlt ▸ HM.out) H8.out
        rw [e]
        clear HM
        go_wp2
        go_ret
        exact ⟨rfl, HBt.out, .inr ⟨g, m, f', rfl, hg, hm, HL.out⟩, hB, HO.out⟩

set_option maxRecDepth 100000 in
set_option maxHeartbeats 4000000 in
theorem heldProducerS_any (a : Option Addr) (c k : Nat) (qs : List PQ) (w : World) (h : Prs w a (markPs qs k)) (h2 : pTo qs k ≤ 1000000000) (hq4 : qs.length ≤ 1000000) :
    Calls Try.prog 26 #[.slice a qs.length c, .int .i64 k] w fun r w' => r = .returned (.int .i64 ((pTo qs k : Nat) : Int)) ∧ w' = w := by
  go_enter Try.func26, Try.ntmps26
  go_wp2
  go_loopw [1, 5] (fun cv iv wr => ∃ i : Nat, i ≤ qs.length ∧ cv = .int .i64 ((pTo (qs.take i) k : Nat) : Int) ∧ iv = .int .i64 (i : Int) ∧ w = wr) (fun _ iv _ => qs.length - (intOf iv).toNat)
  case atStart => exact ⟨0, Nat.zero_le _, rfl, rfl, rfl⟩
  case round =>
    obtain ⟨i, hi, rfl, rfl, rfl⟩ := hrel
    have hk1 := pTo_ge (qs.take i) k
    have hk2 := pTo_take qs i k
    by_cases hlt : i < qs.length
    · obtain ⟨q, hq⟩ := getPQ hlt
      have hk3 := pTo_take qs (i + 1) k
      rw [takePQ_snoc hq, pTo_app] at hk3
      have HK : Hid (pTo (qs.take (i + 1)) k = pTo (qs.take i) k + 3 + 3 * q.b.win.length) := by show _ = _; rw [takePQ_snoc hq, pTo_app]
      obtain ⟨kb, ob, rfl, ra, rc, c0, c1, c2, c3, hst, -⟩ := h i _ (markPs_get qs k i q hq)
      simp only [markP, markDs_length] at c0 c1 c2 c3 hst
      obtain ⟨K, hK⟩ : ∃ K, pTo (qs.take i) k = K := ⟨_, rfl⟩
      rw [hK] at c0 c1 c2 hst hk1 hk2 hk3
      have HKK : Hid (pTo (qs.take i) k = K) := hK
      rw [hK]
      have HS : Hid (Dns w ra (markDs (K + 3) q.b.win.length)) := hst
      have E3 : Hid ((K : Int) + 1 + 1 + 1 = ((K + 3 : Nat) : Int)) := by show _ = _; omega
      have e1 : ((K + 1 : Nat) : Int) = (K : Int) + 1 := by omega
      have e2 : ((K + 2 : Nat) : Int) = (K : Int) + 1 + 1 := by omega
      rw [e1] at c1
      rw [e2] at c2
      have n0 : ((K : Int) != (K : Int)) = false := by simp
      have n1 : ((K : Int) + 1 != (K : Int) + 1) = false := by simp
      have n2 : ((K : Int) + 1 + 1 != (K : Int) + 1 + 1) = false := by simp
      have hx2 : K + 3 + 3 * q.b.win.length ≤ 1000000000 := by omega
      have hx6 : i + 1 ≤ qs.length := hlt
      have hx7 : ¬ (((K + 3 + 3 * q.b.win.length : Nat) : Int) < 0) := by omega
      have HR0 : Hid (((K + 3 + 3 * q.b.win.length : Nat) : Int) = ((pTo (qs.take (i + 1)) k : Nat) : Int)) := by show _ = _; rw [HK.out, HKK.out]
      have HR : Hid ((K : Int) + 3 + 3 * (q.b.win.length : Int) = ((pTo (qs.take (i + 1)) k : Nat) : Int)) := by show _ = _; rw [← HR0.out]; omega
      clear h hq hst hK e1 e2
      go_wp2_with fail
      rw [E3.out]
      refine (heldDoneS_any _ _ q.b.win.length (K + 3) _ HS.out hx2).mono ?_
      rintro r w2 ⟨rfl, rfl⟩
      clear c0 c1 c2 c3
      go_wp2_with fail
      go_roundw
      case rel => exact ⟨i + 1, hx6, by first | rw [HR.out] | rw [HR0.out], by go_num, by first | rfl | trivial⟩
      case measure => simp [intOf]; omega
    · have e : qs.take i = qs := List.take_of_length_le (by omega)
      rw [e]
      go_wp2
      go_ret
      exact ⟨rfl, rfl⟩

end Go.Proofs.Ythbhokpjedndaaa
