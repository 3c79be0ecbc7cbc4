/-
  Lists of lists in memory of a call's own: how they are gathered, copied (toIntSS), marked and looked at again (markIntSS, heldIntSS).
-/
import Derived.Test.YthbhokpjedndaaaZan
import Derived.Test.YthbhokpjedndaaaIss
namespace Go.Proofs.Ythbhokpjedndaaa
open Go.RowKit

/-- The row of lists, and the lists, each in a block of its own. -/
structure OutQ (w : World) (B : Nat) (a : Option Addr) (qs : List QI) : Prop where
  row : qs.length = 0 ∨ ∃ g m f, a = some ⟨g, 0, none⟩ ∧ B ≤ g ∧ w.rowIs g 55 m f ∧ qs.length ≤ m ∧ ∀ (i : Nat) (q : QI), qs[i]? = some q → f i = q.val
  ints : QIn w B qs

/-- The blocks of the lists. -/
def InQ (qs : List QI) (b : Nat) : Prop := ∃ q ∈ qs, InI q.a q.zs.length b
def InO (a : Option Addr) (qs : List QI) (b : Nat) : Prop := InQ qs b ∨ InI a qs.length b

theorem OutQ.lt {w : World} {B : Nat} {a : Option Addr} {qs : List QI} (h : OutQ w B a qs) {b : Nat} (hb : InO a qs b) : B ≤ b ∧ b < w.heap.size := by
  rcases hb with ⟨q, hq, hi⟩ | ⟨h0, o, s, e⟩
  · exact (h.ints.row q hq).lt hi
  · rcases h.row with h1 | ⟨g, m, f, rfl, hg, hR, -, -⟩
    · omega
    · simp only [Option.some.injEq, Addr.mk.injEq] at e
      have := hR.lt
      omega

theorem OutQ.of_block {w w' : World} {B : Nat} {a : Option Addr} {qs : List QI} (h : OutQ w B a qs) (hs : ∀ b, InO a qs b → w'.heap[b]? = w.heap[b]?) : OutQ w' B a qs := by
  refine ⟨?_, ⟨fun q hq => (h.ints.ints q hq).of_block fun b hb => hs b (.inl ⟨q, hq, hb⟩), fun q hq => (h.ints.row q hq).of_block fun b hb => hs b (.inl ⟨q, hq, hb⟩), h.ints.apart⟩⟩
  rcases h.row with h1 | ⟨g, m, f, rfl, hg, hR, hm, hf⟩
  · exact .inl h1
  · by_cases h0 : qs.length = 0
    · exact .inl h0
    · exact .inr ⟨g, m, f, rfl, hg, hR.of_block (hs g (.inr ⟨by omega, 0, none, rfl⟩)), hm, hf⟩

theorem OutQ.below {w w' : World} {B : Nat} {a : Option Addr} {qs : List QI} (h : OutQ w B a qs) (hb : Below w.heap.size w w') : OutQ w' B a qs :=
  h.of_block fun b hi => hb.block b (h.lt hi).2

theorem OutQ.intss {w : World} {B : Nat} {a : Option Addr} {qs : List QI} (h : OutQ w B a qs) (hm : ∀ zs ∈ qs.map QI.zs, zs.length ≤ maxLen) : Intss w a (qs.map QI.zs) := fun i zs hi => by
  rw [List.getElem?_map, Option.map_eq_some_iff] at hi
  obtain ⟨q, hq, rfl⟩ := hi
  have hlt := (List.getElem?_eq_some_iff.1 hq).1
  have hmem := List.mem_of_getElem? hq
  rcases h.row with h1 | ⟨g, m, f, rfl, hg, hR, hml, hf⟩
  · omega
  · exact ⟨g, 0, q.a, q.c, rfl, by rw [Nat.zero_add, hR.cell (by omega), hf i q hq], h.ints.ints q hmem, hm _ (List.mem_map.2 ⟨q, hmem, rfl⟩)⟩

/-- A row of numbers is no row of lists. -/
theorem row_types {w : World} {B g m n : Nat} {f : Nat → Value} {a : Option Addr} (h : w.rowIs g 55 m f) (h' : RowI w B a n) : ¬ InI a n g := fun ⟨h0, o, s, e⟩ => by
  rcases h' with h1 | ⟨g', m', f', rfl, -, -, cs', hh', -⟩
  · omega
  · simp only [Option.some.injEq, Addr.mk.injEq] at e
    obtain ⟨rfl, -, -⟩ := e
    obtain ⟨cs, hh, -⟩ := h
    rw [hh] at hh'
    simp at hh'

/-- While lists are gathered. -/
structure LSt (w wr : World) (v : Value) (qs : List QI) : Prop where
  own : wr.ownsRow w.heap.size 55 1 v qs.length (qs.map QI.val)
  ints : QIn wr w.heap.size qs
  bel : Below w.heap.size w wr

theorem lst_start (w : World) : LSt w w (.slice none 0 0) [] := ⟨World.ownsRow_nil _ _ _ _, QIn.nil _ _, Below.refl _ _⟩

theorem lst_below {w wr u : World} {v : Value} {qs : List QI} (h : LSt w wr v qs) (hb : Below wr.heap.size wr u) : LSt w u v qs :=
  ⟨ownsZ_below h.own hb, h.ints.below hb, h.bel.trans (hb.mono h.bel.size)⟩

theorem own_types6 {w : World} {B B' n m : Nat} {v : Value} {xs : List Value} {a : Option Addr} (h : w.ownsRow B 55 1 v n xs) (h' : RowI w B' a m) {b : Nat} (hb : InI a m b) : v.ownBlock ≠ some b := fun e => by
  obtain ⟨-, ⟨rfl, -⟩ | ⟨g, cap, cur, rfl, -, hh, -⟩⟩ := h
  · simp [Value.ownBlock] at e
  · simp only [Value.ownBlock, Option.some.injEq] at e
    subst e
    obtain ⟨h0, o, s, rfl⟩ := hb
    rcases h' with h1 | ⟨g', m', f', e', -, -, cs', hh', -⟩
    · omega
    · simp only [Option.some.injEq, Addr.mk.injEq] at e'
      obtain ⟨rfl, -, -⟩ := e'
      rw [hh] at hh'
      simp at hh'

/-- One list more. -/
theorem lst_step {w wr u w6 : World} {v : Value} {qs : List QI} {q : QI} {g2 cap2 : Nat} (h : LSt w wr v qs) (hu : Below wr.heap.size wr u)
    (hqi : Ints u q.a q.zs) (hqr : RowI u wr.heap.size q.a q.zs.length)
    (hgrow : u.grownBy w6 v.ownBlock) (hown : w6.ownsRow w.heap.size 55 1 (.slice (some ⟨g2, 0, none⟩) (qs.length + 1) cap2) (qs.length + 1) (qs.map QI.val ++ [q.val])) :
    LSt w w6 (.slice (some ⟨g2, 0, none⟩) (qs.length + 1) cap2) (qs ++ [q]) := by
  have hU := lst_below h hu
  have hbs := h.bel.size
  have h2 : QIn u w.heap.size (qs ++ [q]) := hU.ints.snoc (N := wr.heap.size) (fun p hp b hb => ((h.ints.row p hp).lt hb).2) hbs hqi hqr
  have same : ∀ p ∈ qs ++ [q], ∀ b, InI p.a p.zs.length b → w6.heap[b]? = u.heap[b]? := fun p hp b hb => by
    refine hgrow.block b ((h2.row p hp).lt hb).2 (fun e => ?_)
    exact own_types6 hU.own (h2.row p hp) hb e.symm
  refine ⟨?_, ⟨fun p hp => (h2.ints p hp).of_block (same p hp), fun p hp => (h2.row p hp).of_block (same p hp), h2.apart⟩, hU.bel.grown hgrow (by have := hU.bel.size; omega) (fun k hk => (hU.own.lt k hk).1)⟩
  rw [List.map_append, List.length_append, List.length_singleton]
  exact hown

theorem lst_out {w wr : World} {a : Option Addr} {c : Nat} {qs : List QI} (h : LSt w wr (.slice a qs.length c) qs) : OutQ wr w.heap.size a qs := by
  refine ⟨?_, h.ints⟩
  by_cases h0 : qs.length = 0
  · exact .inl h0
  · obtain ⟨g, cap, f, hv, hg, hn, hR, hx⟩ := row_of_ownsZ h.own (by omega)
    simp only [Value.slice.injEq] at hv
    obtain ⟨rfl, -, rfl⟩ := hv
    rw [Nat.mul_one] at hR
    refine .inr ⟨g, _, f, rfl, hg, hR, hn, fun i q hq => ?_⟩
    have hlt := (List.getElem?_eq_some_iff.1 hq).1
    have := hx i (by omega)
    rw [List.getElem?_map, hq] at this
    exact (Option.some.inj this).symm

/-- What a function answers that gathers lists. -/
def LAns (w : World) (L : List (List Int)) (ok : Bool) (r : Ending) (w' : World) : Prop :=
  ∃ a c, ∃ qs : List QI, qs.map QI.zs = L ∧ r = .returned (.tuple #[.slice a qs.length c, .bool ok]) ∧ OutQ w' w.heap.size a qs ∧ Below w.heap.size w w'

/-- What a function answers that gathers lists and tells no more. -/
def LLAns (w : World) (L : List (List Int)) (r : Ending) (w' : World) : Prop := ∃ v, ∃ qs : List QI, r = .returned v ∧ qs.map QI.zs = L ∧ LSt w w' v qs

theorem lans_of {w wr : World} {v : Value} {qs : List QI} {L : List (List Int)} {ok : Bool} (h : LSt w wr v qs) (e : qs.map QI.zs = L) : LAns w L ok (.returned (.tuple #[v, .bool ok])) wr := by
  obtain ⟨a, c, rfl, -, -⟩ := ownsZ_cap h.own
  exact ⟨a, c, qs, e, rfl, lst_out h, h.bel⟩

theorem Try.infoInts2 : (Try.prog.info? 55).map (fun i => (i.zero, i.size, i.bytes)) = some (some (.slice none 0 0), 1, 24) := Try.infoInts

set_option maxHeartbeats 1000000 in
theorem toIntSS_out (a : Option Addr) (c : Nat) (L : List (List Int)) (w : World) (hs : Intss w a L) (hl : L.length ≤ 1048576) (hz : ∀ zs ∈ L, zs.length ≤ 1048576) :
    Calls Try.prog 12 #[.slice a L.length c] w fun e w' => ∃ a', ∃ qs : List QI, qs.map QI.zs = L ∧ e = .returned (.slice a' qs.length qs.length) ∧ OutQ w' w.heap.size a' qs ∧ Below w.heap.size w w' := by
  have hmk := run_make_row' (P := Try.prog) 30 55 (.slice none 0 0) 24 Try.underlying30 Try.infoInts rfl .i64 .i64 L.length (by omega) (by omega)
  go_enter Try.func12, Try.ntmps12
  go_wp2
  have hB : Below w.heap.size w (w.alloc (.cells (madeCells #[Value.slice none 0 0] L.length) 55)) := (Below.refl _ _).alloc (Nat.le_refl _) _
  have hR := World.rowIs_made w (Value.slice none 0 0) L.length 55
  go_loopw [4] (fun i wr => ∃ k : Nat, k ≤ L.length ∧ i = .int .i64 k ∧ (∃ f, wr.rowIs w.heap.size 55 L.length f ∧ ∃ qs : List QI, qs.map QI.zs = L.take k ∧ QIn wr (w.heap.size + 1) qs ∧ ∀ i q, qs[i]? = some q → f i = q.val) ∧ Below w.heap.size w wr) (fun i _ => L.length - (intOf i).toNat)
  case atStart => exact ⟨0, Nat.zero_le _, rfl, ⟨_, hR, [], by simp, QIn.nil _ _, fun i q h => by simp at h⟩, hB⟩
  case round =>
    clear hR hB
    obtain ⟨k, hk, rfl, ⟨f, hR, qs, hqs, hQ, hf⟩, hB⟩ := hrel
    by_cases hlt : k < L.length
    · obtain ⟨z, hkz⟩ := getL hlt
      obtain ⟨b, off, ai, ci, rfl, hc, hI, hm⟩ := (hs.below hB) k z hkz
      have HZ : Hid (z.length ≤ 1048576) := hz z (List.mem_of_getElem? hkz)
      have HK : Hid (qs.map QI.zs ++ [z] = L.take (k + 1)) := by show _ = _; rw [takeL_snoc hkz, hqs]
      have hql : qs.length = k := by have := congrArg List.length hqs; simp at this; omega
      have HL : Hid (qs.length = k) := hql
      have HF : Hid (∀ i q, qs[i]? = some q → f i = q.val) := hf
      clear hs hkz hz hqs hql hf
      go_wp2_with fail
      refine (toIntS_any _ _ _ _ hI HZ.out).mono ?_
      rintro r w1 ⟨a1, rfl, H1, R1, hB1⟩
      have hR1 : w1.rowIs w.heap.size 55 L.length f := hR.of_block (hB1.block _ hR.lt)
      have hd := hR1.cell hlt
      have hfz := hR1.frozen k
      have hsz := hR.lt
      have hQ1 := (hQ.below hB1).snoc (q := ⟨z, a1, z.length⟩) (N := wr.heap.size) (fun p hp b hb => ((hQ.row p hp).lt hb).2) (by omega) H1 R1
      have hBn := hB.trans (hB1.mono hB.size)
      clear hB hB1 hR H1 R1 hQ hI
      go_wp2
      go_roundw
      case rel =>
        refine ⟨k + 1, by omega, by go_num, ⟨_, hR1.set k (.slice a1 z.length z.length), qs ++ [⟨z, a1, z.length⟩], by rw [List.map_append]; exact HK.out, ⟨fun q hq => (hQ1.ints q hq).of_block fun b hb => ?_, fun q hq => (hQ1.row q hq).of_block fun b hb => ?_, hQ1.apart⟩, fun i q hi => ?_⟩, hBn.setCell (Nat.le_refl _) _⟩
        · have := ((hQ1.row q hq).lt hb).1
          rw [Below.heap_setCell _ _ _ b (by simp; omega)]
        · have := ((hQ1.row q hq).lt hb).1
          rw [Below.heap_setCell _ _ _ b (by simp; omega)]
        · have hL := HL.out
          by_cases e : i = k
          · subst e
            rw [List.getElem?_append_right (by omega)] at hi
            simp [hL] at hi
            subst hi
            simp
          · have hi2 := (List.getElem?_eq_some_iff.1 hi).1
            simp at hi2
            rw [List.getElem?_append_left (by omega)] at hi
            simp only [if_neg e]
            exact HF.out i q hi
      case measure => simp [intOf]; omega
    · go_wp2
      go_ret
      obtain rfl : k = L.length := by omega
      rw [List.take_length] at hqs
      have hql : qs.length = L.length := by have := congrArg List.length hqs; simpa using this
      exact ⟨some ⟨w.heap.size, 0, none⟩, qs, hqs, by rw [hql]; rfl, ⟨.inr ⟨w.heap.size, L.length, f, rfl, Nat.le_refl _, hR, by omega, hf⟩, hQ.mono (by omega)⟩, hB⟩

/-- How many numbers the first i lists have. -/
def qTo (qs : List QI) : Nat → Nat
  | 0 => 0
  | i + 1 => qTo qs i + ((qs[i]?).map fun q => q.zs.length).getD 0
theorem qTo_succ {qs : List QI} {i : Nat} {q : QI} (h : qs[i]? = some q) : qTo qs (i + 1) = qTo qs i + q.zs.length := by simp [qTo, h]
theorem qTo_mono (qs : List QI) : ∀ {i j : Nat}, i ≤ j → qTo qs i ≤ qTo qs j
  | i, 0, h => by obtain rfl : i = 0 := by omega
                  exact Nat.le_refl _
  | i, j + 1, h => by
    by_cases e : i = j + 1
    · subst e; exact Nat.le_refl _
    · exact Nat.le_trans (qTo_mono qs (i := i) (j := j) (by omega)) (by simp [qTo])

/-- The first j lists are marked from k on. -/
def markedTo (w : World) (k : Nat) (qs : List QI) (j : Nat) : Prop := ∀ (i : Nat) (q : QI), i < j → qs[i]? = some q → Ints w q.a (markZ (k + qTo qs i) q.zs.length)

theorem pair_apart {qs : List QI} (h : qs.Pairwise fun p q => ∀ b, InI p.a p.zs.length b → ¬ InI q.a q.zs.length b) {i j : Nat} {p q : QI} (hi : qs[i]? = some p) (hj : qs[j]? = some q) (hne : i ≠ j) {b : Nat} (hb : InI p.a p.zs.length b) : ¬ InI q.a q.zs.length b := by
  obtain ⟨li, ei⟩ := List.getElem?_eq_some_iff.1 hi
  obtain ⟨lj, ej⟩ := List.getElem?_eq_some_iff.1 hj
  subst ei ej
  rcases Nat.lt_or_gt_of_ne hne with e | e
  · exact (List.pairwise_iff_getElem.1 h) i j li lj e b hb
  · exact fun hq => (List.pairwise_iff_getElem.1 h) j i lj li e b hq hb

set_option maxRecDepth 100000 in
set_option maxHeartbeats 2000000 in
theorem markIntSS_any (a : Option Addr) (c B k : Nat) (qs : List QI) (w : World) (h : OutQ w B a qs) (hlen : qs.length ≤ 1048576) (h2 : k + qTo qs qs.length ≤ 1000000000) :
    Calls Try.prog 16 #[.slice a qs.length c, .int .i64 k] w fun r w' => r = .returned (.int .i64 ((k + qTo qs qs.length : Nat) : Int)) ∧ markedTo w' k qs qs.length ∧ Below B w w' ∧ ∀ b, b < w.heap.size → ¬ InQ qs b → w'.heap[b]? = w.heap[b]? := by
  go_enter Try.func16, Try.ntmps16
  go_wp2
  go_loopw [1, 5] (fun m i wr => ∃ j : Nat, j ≤ qs.length ∧ m = .int .i64 ((k + qTo qs j : Nat) : Int) ∧ i = .int .i64 (j : Int) ∧ (∀ q ∈ qs, RowI wr B q.a q.zs.length) ∧ markedTo wr k qs j ∧ Below B w wr ∧ ∀ b, b < w.heap.size → ¬ InQ qs b → wr.heap[b]? = w.heap[b]?) (fun _ i _ => qs.length - (intOf i).toNat)
  case atStart => exact ⟨0, Nat.zero_le _, rfl, rfl, h.ints.row, fun i q hi => absurd hi (Nat.not_lt_zero _), Below.refl _ _, fun _ _ _ => rfl⟩
  case round =>
    obtain ⟨j, hj, rfl, rfl, hRow, hM, hB, hO⟩ := hrel
    by_cases hlt : j < qs.length
    · obtain ⟨q, hq⟩ : ∃ q, qs[j]? = some q := ⟨_, List.getElem?_eq_getElem hlt⟩
      have hqm := List.mem_of_getElem? hq
      rcases h.row with h0 | ⟨g, m, f, rfl, hg, hR, hm, hf⟩
      · omega
      have hgQ : ¬ InQ qs g := fun ⟨p, hp, hb⟩ => row_types hR (h.ints.row p hp) hb
      have hR1 := hR.of_block (hO g hR.lt hgQ)
      have cO : wr.cell? ⟨g, j, none⟩ = some (.slice q.a q.zs.length q.c) := by rw [hR1.cell (by omega), hf j q hq]
      have hrq := hRow q hqm
      have hs := qTo_succ hq
      have hbd := qTo_mono qs (i := j + 1) (j := qs.length) (by omega)
      have HS : Hid (qTo qs (j + 1) = qTo qs j + q.zs.length) := hs
      have hk2 : k + qTo qs j + q.zs.length ≤ 1000000000 := by omega
      have HQ : Hid (qs[j]? = some q) := hq
      have HM : Hid (markedTo wr k qs j) := hM
      have HROW : Hid (∀ q ∈ qs, RowI wr B q.a q.zs.length) := hRow
      have HO : Hid (∀ b, b < w.heap.size → ¬ InQ qs b → wr.heap[b]? = w.heap[b]?) := hO
      have hwz := hB.size
      clear hq hM hRow hO hs hR hR1 hbd
      go_wp2_with fail
      refine (markIntS_any q.a q.c q.zs.length B (k + qTo qs j) wr hrq hk2).mono ?_
      rintro r w1 ⟨rfl, hI1, hR1, hB1, hO1⟩
      have HN : Hid (markedTo w1 k qs (j + 1)) := fun i p hi hp => by
        by_cases e : i = j
        · subst e
          obtain rfl : q = p := by have := HQ.out.symm.trans hp; simpa using this
          exact hI1
        · refine (HM.out i p (by omega) hp).of_block fun b hb => ?_
          rw [markZ_length] at hb
          exact hO1 b ((HROW.out p (List.mem_of_getElem? hp)).lt hb).2 (pair_apart h.ints.apart hp HQ.out e hb)
      have HR2 : Hid (∀ p ∈ qs, RowI w1 B p.a p.zs.length) := fun p hp => by
        obtain ⟨i, hi⟩ := List.getElem?_of_mem hp
        by_cases e : i = j
        · subst e
          obtain rfl : q = p := by have := HQ.out.symm.trans hi; simpa using this
          exact hR1
        · exact (HROW.out p hp).of_block fun b hb => hO1 b ((HROW.out p hp).lt hb).2 (pair_apart h.ints.apart hi HQ.out e hb)
      have HO2 : Hid (∀ b, b < w.heap.size → ¬ InQ qs b → w1.heap[b]? = w.heap[b]?) := fun b hb hn => by
        rw [hO1 b (by omega) (fun hi => hn ⟨q, hqm, hi⟩), HO.out b hb hn]
      have hBn := hB.trans hB1
      clear hB hB1 hI1 hR1 hO1 HM HROW HO hrq
      go_wp2
      go_roundw
      case rel => exact ⟨j + 1, by omega, by rw [HS.out]; go_num, by go_num, HR2.out, HN.out, hBn, HO2.out⟩
      case measure => simp [intOf]; omega
    · obtain rfl : j = qs.length := by omega
      have HM : Hid (markedTo wr k qs qs.length) := hM
      have HO : Hid (∀ b, b < w.heap.size → ¬ InQ qs b → wr.heap[b]? = w.heap[b]?) := hO
      clear hM hO hRow
      go_wp2
      go_ret
      exact ⟨rfl, HM.out, hB, HO.out⟩

end Go.Proofs.Ythbhokpjedndaaa
