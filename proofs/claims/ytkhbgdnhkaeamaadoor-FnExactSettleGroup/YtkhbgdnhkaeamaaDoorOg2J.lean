/-
  Replicas that a call owns and turns one by one: their row at R, their logs in rows of their own, all of it from B on and apart; of the first k the logs are its own already.
  Groups turned at one replica, in plain mathematics, and the same for groups that a call owns.
-/
import Derived.Test.YtkhbgdnhkaeamaaDoorGrpM
import Derived.Test.YtkhbgdnhkaeamaaDoorGrM
namespace Go.Proofs.YtkhbgdnhkaeamaaDoor
open Go.RowKit

/-- A replica, and where its log lies. -/
structure Rq where
  p : Rp
  a : Option Addr
  c : Nat

def RqP (f : Nat → Value) (i : Nat) (q : Rq) : Prop := f (i * 3) = .slice q.a q.p.log.length q.c ∧ f (i * 3 + 1) = .int .i64 q.p.epoch ∧ f (i * 3 + 2) = .int .i64 q.p.known

structure Ogk (w : World) (B R k : Nat) (qs : List Rq) : Prop where
  row : ∃ m f, qs.length * 3 ≤ m ∧ w.rowIs R 81 m f ∧ ∀ (i : Nat) (q : Rq), qs[i]? = some q → RqP f i q
  hB : B ≤ R
  lie : ∀ (i : Nat) (q : Rq), qs[i]? = some q → Rws w q.a q.p.log ∧ q.p.log.length ≤ maxLen
  own : ∀ (i : Nat) (q : Rq), qs[i]? = some q → i < k → RowRw w B q.a q.p.log.length
  lt : ∀ (i : Nat) (q : Rq) (b : Nat), qs[i]? = some q → InI q.a q.p.log.length b → b < w.heap.size
  ap : ∀ (i : Nat) (q : Rq) (b : Nat), qs[i]? = some q → InI q.a q.p.log.length b → b ≠ R
  dj : ∀ (i j : Nat) (q q' : Rq) (b : Nat), qs[i]? = some q → qs[j]? = some q' → i ≠ j → i < k → j < k → InI q.a q.p.log.length b → ¬ InI q'.a q'.p.log.length b
  cap : ∀ (i : Nat) (q : Rq), qs[i]? = some q → i < k → q.p.log.length ≤ q.c

theorem Ogk.size {w : World} {B R k : Nat} {qs : List Rq} (h : Ogk w B R k qs) : R < w.heap.size := by
  obtain ⟨m, f, -, hr, -⟩ := h.row
  exact hr.lt

theorem Ogk.of_block {w w' : World} {B R k : Nat} {qs : List Rq} (h : Ogk w B R k qs) (hz : w.heap.size ≤ w'.heap.size) (hb : ∀ b, b < w.heap.size → (b = R ∨ ∃ (i : Nat) (q : Rq), qs[i]? = some q ∧ InI q.a q.p.log.length b) → w'.heap[b]? = w.heap[b]?) : Ogk w' B R k qs := by
  obtain ⟨m, f, hm, hr, hp⟩ := h.row
  refine ⟨⟨m, f, hm, hr.of_block (hb R hr.lt (.inl rfl)), hp⟩, h.hB, fun i q hq => ?_, fun i q hq hk => ?_, fun i q b hq hi => ?_, h.ap, h.dj, h.cap⟩
  · exact ⟨(h.lie i q hq).1.of_block fun b hi => hb b (h.lt i q b hq hi) (.inr ⟨i, q, hq, hi⟩), (h.lie i q hq).2⟩
  · exact (h.own i q hq hk).of_block fun b hi => hb b (h.lt i q b hq hi) (.inr ⟨i, q, hq, hi⟩)
  · have := h.lt i q b hq hi; omega

theorem Ogk.below {w w' : World} {B R k : Nat} {qs : List Rq} (h : Ogk w B R k qs) (hb : Below w.heap.size w w') : Ogk w' B R k qs :=
  h.of_block hb.size fun b hlt _ => hb.block b hlt

theorem Ogk.reads {w : World} {B R k : Nat} {qs : List Rq} (h : Ogk w B R k qs) : Rps w (some ⟨R, 0, none⟩) (qs.map Rq.p) := fun i c hi => by
  rw [List.getElem?_map, Option.map_eq_some_iff] at hi
  obtain ⟨q, hq, rfl⟩ := hi
  obtain ⟨m, f, hm, hr, hp⟩ := h.row
  obtain ⟨c0, c1, c2⟩ := hp i q hq
  have hlt := (List.getElem?_eq_some_iff.1 hq).1
  refine ⟨R, 0, rfl, q.a, q.c, ?_, ?_, ?_, (h.lie i q hq).1, (h.lie i q hq).2⟩
  · rw [Nat.zero_add, hr.cell (by omega), c0]
  · rw [Nat.zero_add, hr.cell (by omega), c1]
  · rw [Nat.zero_add, hr.cell (by omega), c2]

/-- All of it is the call's own: what the laws want. -/
theorem Ogk.out {w : World} {B R : Nat} {qs : List Rq} (h : Ogk w B R qs.length qs) :
    RpO w B (some ⟨R, 0, none⟩) (qs.map Rq.p) (fun j => (qs.getD j ⟨⟨[], 0, 0⟩, none, 0⟩).a) (fun j => (qs.getD j ⟨⟨[], 0, 0⟩, none, 0⟩).c) ∧ RpD (some ⟨R, 0, none⟩) (qs.map Rq.p) (fun j => (qs.getD j ⟨⟨[], 0, 0⟩, none, 0⟩).a) := by
  have gt : ∀ (j : Nat) (c : Rp), (qs.map Rq.p)[j]? = some c → ∃ q, qs[j]? = some q ∧ q.p = c ∧ qs.getD j ⟨⟨[], 0, 0⟩, none, 0⟩ = q := fun j c hj => by
    rw [List.getElem?_map, Option.map_eq_some_iff] at hj
    obtain ⟨q, hq, rfl⟩ := hj
    exact ⟨q, hq, rfl, by simp [List.getD_eq_getElem?_getD, hq]⟩
  obtain ⟨m, f, hm, hr, hp⟩ := h.row
  refine ⟨.inr ⟨R, m, f, rfl, h.hB, by simpa using hm, hr, fun j c hj => ?_⟩, ⟨fun j c b hj hb => ?_, fun j c j' c' b hj hj' hne hb => ?_⟩⟩
  · obtain ⟨q, hq, rfl, e⟩ := gt j c hj
    obtain ⟨c0, c1, c2⟩ := hp j q hq
    have hlt := (List.getElem?_eq_some_iff.1 hq).1
    refine ⟨?_, c1, c2, ?_, ?_⟩
    · show f (j * 3) = .slice (qs.getD j _).a q.p.log.length (qs.getD j _).c
      rw [e]; exact c0
    · show Rws w (qs.getD j _).a q.p.log
      rw [e]; exact (h.lie j q hq).1
    · show RowRw w B (qs.getD j _).a q.p.log.length
      rw [e]; exact h.own j q hq hlt
  · obtain ⟨q, hq, rfl, e⟩ := gt j c hj
    have hb' : InI (qs.getD j ⟨⟨[], 0, 0⟩, none, 0⟩).a q.p.log.length b := hb
    rw [e] at hb'
    rintro ⟨-, o, s, e2⟩
    simp only [Option.some.injEq, Addr.mk.injEq] at e2
    exact h.ap j q b hq hb' e2.1.symm
  · obtain ⟨q, hq, rfl, e⟩ := gt j c hj
    obtain ⟨q', hq', rfl, e'⟩ := gt j' c' hj'
    have hb' : InI (qs.getD j ⟨⟨[], 0, 0⟩, none, 0⟩).a q.p.log.length b := hb
    rw [e] at hb'
    show ¬ InI (qs.getD j' ⟨⟨[], 0, 0⟩, none, 0⟩).a q'.p.log.length b
    rw [e']
    exact h.dj j j' q q' b hq hq' hne (List.getElem?_eq_some_iff.1 hq).1 (List.getElem?_eq_some_iff.1 hq').1 hb'

/-- One replica becomes another, whose log lies apart. -/
theorem Ogk.turn {w w' : World} {B R k k' j : Nat} {qs : List Rq} (h : Ogk w B R k qs) (hj : j < qs.length) (q : Rq) (hk : ∀ i, i < k' → i ≠ j → i < k)
    (hz : w'.heap.size = w.heap.size) (hblk : ∀ b, b ≠ R → w'.heap[b]? = w.heap[b]?)
    (hrow : ∀ m f, qs.length * 3 ≤ m → w.rowIs R 81 m f → ∀ q0, qs[j]? = some q0 → RqP f j q0 → ∃ f', w'.rowIs R 81 m f' ∧ RqP f' j q ∧ ∀ i, i ≠ j → f' (i * 3) = f (i * 3) ∧ f' (i * 3 + 1) = f (i * 3 + 1) ∧ f' (i * 3 + 2) = f (i * 3 + 2))
    (hl : Rws w q.a q.p.log) (hm : q.p.log.length ≤ maxLen) (hc : q.p.log.length ≤ q.c) (hr : RowRw w B q.a q.p.log.length) (hR : ∀ b, InI q.a q.p.log.length b → b ≠ R)
    (hA : ∀ b, InI q.a q.p.log.length b → ∀ (i : Nat) (p : Rq), qs[i]? = some p → i ≠ j → i < k → ¬ InI p.a p.p.log.length b) : Ogk w' B R k' (qs.set j q) := by
  obtain ⟨m, f, hm', hr', hp⟩ := h.row
  have hqj : qs[j]? = some qs[j] := List.getElem?_eq_getElem hj
  obtain ⟨f', h1, h2, h3⟩ := hrow m f hm' hr' _ hqj (hp j _ hqj)
  have gt : ∀ (i : Nat) (p : Rq), (qs.set j q)[i]? = some p → (i = j ∧ p = q) ∨ (i ≠ j ∧ qs[i]? = some p) := fun i p hi => by
    by_cases e : i = j
    · subst e
      rw [List.getElem?_set_self hj, Option.some.injEq] at hi
      exact .inl ⟨rfl, hi.symm⟩
    · rw [List.getElem?_set_ne (fun g => e g.symm)] at hi
      exact .inr ⟨e, hi⟩
  have sz : ∀ b, InI q.a q.p.log.length b → b < w.heap.size := fun b hb => (hr.lt hb).2
  refine ⟨⟨m, f', by simpa using hm', h1, fun i p hi => ?_⟩, h.hB, fun i p hi => ?_, fun i p hi hlt => ?_, fun i p b hi hb => ?_, fun i p b hi hb => ?_, fun i i' p p' b hi hi' hne hlt hlt' hb hb' => ?_, fun i p hi hlt => ?_⟩
  · rcases gt i p hi with ⟨rfl, rfl⟩ | ⟨e, hi⟩
    · exact h2
    · obtain ⟨c0, c1, c2⟩ := hp i p hi
      obtain ⟨d0, d1, d2⟩ := h3 i e
      exact ⟨d0.trans c0, d1.trans c1, d2.trans c2⟩
  · rcases gt i p hi with ⟨rfl, rfl⟩ | ⟨e, hi⟩
    · exact ⟨hl.of_block fun b hb => hblk b (hR b hb), hm⟩
    · exact ⟨(h.lie i p hi).1.of_block fun b hb => hblk b (h.ap i p b hi hb), (h.lie i p hi).2⟩
  · rcases gt i p hi with ⟨rfl, rfl⟩ | ⟨e, hi⟩
    · exact hr.of_block fun b hb => hblk b (hR b hb)
    · exact (h.own i p hi (hk i hlt e)).of_block fun b hb => hblk b (h.ap i p b hi hb)
  · rw [hz]
    rcases gt i p hi with ⟨rfl, rfl⟩ | ⟨e, hi⟩
    · exact sz b hb
    · exact h.lt i p b hi hb
  · rcases gt i p hi with ⟨rfl, rfl⟩ | ⟨e, hi⟩
    · exact hR b hb
    · exact h.ap i p b hi hb
  · rcases gt i p hi with ⟨e1, e2⟩ | ⟨e, hj1⟩
    · rcases gt i' p' hi' with ⟨e3, e4⟩ | ⟨e', hj2⟩
      · exact hne (e1.trans e3.symm)
      · rw [e2] at hb
        exact hA b hb i' p' hj2 e' (hk i' hlt' e') hb'
    · rcases gt i' p' hi' with ⟨e3, e4⟩ | ⟨e', hj2⟩
      · rw [e4] at hb'
        exact hA b hb' i p hj1 e (hk i hlt e) hb
      · exact h.dj i i' p p' b hj1 hj2 hne (hk i hlt e) (hk i' hlt' e') hb hb'
  · rcases gt i p hi with ⟨e1, e2⟩ | ⟨e, hj1⟩
    · rw [e2]; exact hc
    · exact h.cap i p hj1 (hk i hlt e)

/-- All three cells are stored. -/
theorem Ogk.set3 {w : World} {B R k k' j : Nat} {qs : List Rq} (h : Ogk w B R k qs) (hj : j < qs.length) (q : Rq) (hk : ∀ i, i < k' → i ≠ j → i < k)
    (hl : Rws w q.a q.p.log) (hm : q.p.log.length ≤ maxLen) (hc : q.p.log.length ≤ q.c) (hr : RowRw w B q.a q.p.log.length) (hR : ∀ b, InI q.a q.p.log.length b → b ≠ R)
    (hA : ∀ b, InI q.a q.p.log.length b → ∀ (i : Nat) (p : Rq), qs[i]? = some p → i ≠ j → i < k → ¬ InI p.a p.p.log.length b) :
    Ogk (((w.setCell ⟨R, j * 3, none⟩ (.slice q.a q.p.log.length q.c)).setCell ⟨R, j * 3 + 1, none⟩ (.int .i64 q.p.epoch)).setCell ⟨R, j * 3 + 2, none⟩ (.int .i64 q.p.known)) B R k' (qs.set j q) := by
  refine h.turn hj q hk (by simp) (fun b hb => ?_) (fun m f hm1 h1 q0 hq0 hp => ?_) hl hm hc hr hR hA
  · rw [Below.heap_setCell _ ⟨R, _, none⟩ _ b (fun e => hb e), Below.heap_setCell _ ⟨R, _, none⟩ _ b (fun e => hb e), Below.heap_setCell _ ⟨R, _, none⟩ _ b (fun e => hb e)]
  · refine ⟨_, ((h1.set (j * 3) _).set (j * 3 + 1) _).set (j * 3 + 2) _, ⟨?_, ?_, ?_⟩, fun i hi => ⟨?_, ?_, ?_⟩⟩
    · simp
    · simp
    · simp
    · try dsimp only
      rw [if_neg (by omega), if_neg (by omega), if_neg (by omega)]
    · try dsimp only
      rw [if_neg (by omega), if_neg (by omega), if_neg (by omega)]
    · try dsimp only
      rw [if_neg (by omega), if_neg (by omega), if_neg (by omega)]

/-- The log's cell alone is stored. -/
theorem Ogk.set1 {w : World} {B R k k' j : Nat} {qs : List Rq} (h : Ogk w B R k qs) (q0 q : Rq) (hj : qs[j]? = some q0) (he : q.p.epoch = q0.p.epoch) (hn : q.p.known = q0.p.known) (hk : ∀ i, i < k' → i ≠ j → i < k)
    (hl : Rws w q.a q.p.log) (hm : q.p.log.length ≤ maxLen) (hc : q.p.log.length ≤ q.c) (hr : RowRw w B q.a q.p.log.length) (hR : ∀ b, InI q.a q.p.log.length b → b ≠ R)
    (hA : ∀ b, InI q.a q.p.log.length b → ∀ (i : Nat) (p : Rq), qs[i]? = some p → i ≠ j → i < k → ¬ InI p.a p.p.log.length b) :
    Ogk (w.setCell ⟨R, j * 3, none⟩ (.slice q.a q.p.log.length q.c)) B R k' (qs.set j q) := by
  refine h.turn (List.getElem?_eq_some_iff.1 hj).1 q hk (by simp) (fun b hb => ?_) (fun m f hm1 h1 p hp hq => ?_) hl hm hc hr hR hA
  · rw [Below.heap_setCell _ ⟨R, _, none⟩ _ b (fun e => hb e)]
  · obtain rfl : p = q0 := Option.some.inj (hp.symm.trans hj)
    obtain ⟨-, d1, d2⟩ := hq
    refine ⟨_, h1.set (j * 3) _, ⟨?_, ?_, ?_⟩, fun i hi => ⟨?_, ?_, ?_⟩⟩
    · simp
    · try dsimp only
      rw [if_neg (by omega), d1, he]
    · try dsimp only
      rw [if_neg (by omega), d2, hn]
    · try dsimp only
      rw [if_neg (by omega)]
    · try dsimp only
      rw [if_neg (by omega)]
    · try dsimp only
      rw [if_neg (by omega)]

/-- A group that a call owns. -/
structure Gow (w : World) (B : Nat) (s : Gr) (a0 : Option Addr) (R : Nat) (qs : List Rq) : Prop where
  eqs : qs.map Rq.p = s.reps
  steps : Ints w a0 s.steps
  stepsR : RowI w B a0 s.steps.length
  stepsA : ∀ b, InI a0 s.steps.length b → b ≠ R
  og : Ogk w B R qs.length qs

theorem Gow.len {w : World} {B : Nat} {s : Gr} {a0 : Option Addr} {R : Nat} {qs : List Rq} (h : Gow w B s a0 R qs) : qs.length = s.reps.length := by rw [← h.eqs, List.length_map]
theorem Gow.below {w w' : World} {B : Nat} {s : Gr} {a0 : Option Addr} {R : Nat} {qs : List Rq} (h : Gow w B s a0 R qs) (hb : Below w.heap.size w w') : Gow w' B s a0 R qs :=
  ⟨h.eqs, h.steps.below hb, h.stepsR.below hb, h.stepsA, h.og.below hb⟩
theorem Gow.reads {w : World} {B : Nat} {s : Gr} {a0 : Option Addr} {R : Nat} {qs : List Rq} (h : Gow w B s a0 R qs) : GrR w s a0 (some ⟨R, 0, none⟩) :=
  ⟨h.steps, by rw [← h.eqs]; exact h.og.reads⟩
theorem Gow.out {w : World} {B : Nat} {s : Gr} {a0 : Option Addr} {R : Nat} {qs : List Rq} (h : Gow w B s a0 R qs) : GrO w B s a0 (some ⟨R, 0, none⟩) (fun j => (qs.getD j ⟨⟨[], 0, 0⟩, none, 0⟩).a) (fun j => (qs.getD j ⟨⟨[], 0, 0⟩, none, 0⟩).c) :=
  ⟨h.steps, h.stepsR, by rw [← h.eqs]; exact h.og.out.1, by rw [← h.eqs]; exact h.og.out.2⟩
theorem Gow.at {w : World} {B : Nat} {s : Gr} {a0 : Option Addr} {R : Nat} {qs : List Rq} (h : Gow w B s a0 R qs) {j : Nat} {p : Rp} (hp : s.reps[j]? = some p) : ∃ q, qs[j]? = some q ∧ q.p = p := by
  rw [← h.eqs, List.getElem?_map, Option.map_eq_some_iff] at hp
  exact hp

theorem Ogk.mono {w : World} {B B' R k : Nat} {qs : List Rq} (h : Ogk w B R k qs) (hb : B' ≤ B) : Ogk w B' R k qs :=
  ⟨h.row, Nat.le_trans hb h.hB, h.lie, fun i q hq hk => (h.own i q hq hk).mono hb, h.lt, h.ap, h.dj, h.cap⟩
theorem Gow.mono {w : World} {B B' : Nat} {s : Gr} {a0 : Option Addr} {R : Nat} {qs : List Rq} (h : Gow w B s a0 R qs) (hb : B' ≤ B) : Gow w B' s a0 R qs :=
  ⟨h.eqs, h.steps, h.stepsR.mono hb, h.stepsA, h.og.mono hb⟩
/-- What is not its own may change. -/
theorem Gow.of_block {w w' : World} {B : Nat} {s : Gr} {a0 : Option Addr} {R : Nat} {qs : List Rq} (h : Gow w B s a0 R qs) (hz : w.heap.size ≤ w'.heap.size) (hb : ∀ b, B ≤ b → b < w.heap.size → w'.heap[b]? = w.heap[b]?) : Gow w' B s a0 R qs := by
  refine ⟨h.eqs, h.steps.of_block fun b hi => ?_, h.stepsR.of_block fun b hi => ?_, h.stepsA, h.og.of_block hz fun b hlt hi => ?_⟩
  · have := h.stepsR.lt hi; exact hb b this.1 this.2
  · have := h.stepsR.lt hi; exact hb b this.1 this.2
  · rcases hi with rfl | ⟨i, q, hq, hi⟩
    · exact hb _ h.og.hB hlt
    · exact hb b ((h.og.own i q hq (List.getElem?_eq_some_iff.1 hq).1).lt hi).1 hlt
theorem Gow.setO {w : World} {B : Nat} {s : Gr} {a0 : Option Addr} {R : Nat} {qs : List Rq} (h : Gow w B s a0 R qs) {b : Nat} (hb : b < B) (o : Nat) (v : Value) : Gow (w.setCell ⟨b, o, none⟩ v) B s a0 R qs :=
  h.of_block (by simp) fun c hc _ => Below.heap_setCell _ ⟨b, o, none⟩ _ c (by simp; omega)
/-- The fields that are no lists. -/
theorem Gow.re {w : World} {B : Nat} {s t : Gr} {a0 : Option Addr} {R : Nat} {qs : List Rq} (h : Gow w B s a0 R qs) (h1 : t.steps = s.steps) (h2 : t.reps = s.reps) : Gow w B t a0 R qs :=
  ⟨by rw [h2]; exact h.eqs, by rw [h1]; exact h.steps, by rw [h1]; exact h.stepsR, by rw [h1]; exact h.stepsA, h.og⟩
theorem rws_lt {w : World} {a : Option Addr} {l : List Rw} {b : Nat} (h : Rws w a l) (hi : InI a l.length b) : b < w.heap.size := by
  obtain ⟨hn, o, s, e⟩ := hi
  obtain ⟨x, hx⟩ := getRw hn
  obtain ⟨K, o', e', c0, -⟩ := h 0 x hx
  rw [e] at e'
  simp only [Option.some.injEq, Addr.mk.injEq] at e'
  obtain ⟨rfl, -, -⟩ := e'
  exact lt_of_cell c0

end Go.Proofs.YtkhbgdnhkaeamaaDoor

namespace Go.Proofs.YtkhbgdnhkaeamaaDoor
open Go.RowKit

/-- The replica at place j becomes p. -/
def putR (s : Gr) (j : Nat) (p : Rp) : Gr := { s with reps := s.reps.set j p }
theorem putR_len (s : Gr) (j : Nat) (p : Rp) : (putR s j p).reps.length = s.reps.length := by simp [putR]
/-- It has this log, and knows it. -/
def upN (s : Gr) (j : Nat) (l : List Rw) : Gr := putR s j ⟨l, s.epoch, (l.length : Int)⟩

theorem Gow.put {w : World} {B : Nat} {s : Gr} {a0 : Option Addr} {R : Nat} {qs : List Rq} (h : Gow w B s a0 R qs) {j : Nat} (hj : j < qs.length) (q : Rq)
    (hl : Rws w q.a q.p.log) (hm : q.p.log.length ≤ maxLen) (hc : q.p.log.length ≤ q.c) (hr : RowRw w B q.a q.p.log.length) (hR : ∀ b, InI q.a q.p.log.length b → b ≠ R)
    (hA : ∀ b, InI q.a q.p.log.length b → ∀ (i : Nat) (p : Rq), qs[i]? = some p → i ≠ j → ¬ InI p.a p.p.log.length b) :
    Gow (((w.setCell ⟨R, j * 3, none⟩ (.slice q.a q.p.log.length q.c)).setCell ⟨R, j * 3 + 1, none⟩ (.int .i64 q.p.epoch)).setCell ⟨R, j * 3 + 2, none⟩ (.int .i64 q.p.known)) B (putR s j q.p) a0 R (qs.set j q) := by
  have hb : ∀ b, b ≠ R → (((w.setCell ⟨R, j * 3, none⟩ (.slice q.a q.p.log.length q.c)).setCell ⟨R, j * 3 + 1, none⟩ (.int .i64 q.p.epoch)).setCell ⟨R, j * 3 + 2, none⟩ (.int .i64 q.p.known)).heap[b]? = w.heap[b]? := fun b hb => by
    rw [Below.heap_setCell _ ⟨R, _, none⟩ _ b (fun e => hb e), Below.heap_setCell _ ⟨R, _, none⟩ _ b (fun e => hb e), Below.heap_setCell _ ⟨R, _, none⟩ _ b (fun e => hb e)]
  refine ⟨by rw [List.map_set, h.eqs]; rfl, h.steps.of_block fun b hi => hb b (h.stepsA b hi), h.stepsR.of_block fun b hi => hb b (h.stepsA b hi), h.stepsA, ?_⟩
  rw [List.length_set]
  exact h.og.set3 hj q (fun i hi _ => hi) hl hm hc hr hR (fun b hb i p hp hne _ => hA b hb i p hp hne)

/-- The log stays where it is. -/
theorem Gow.keep {w : World} {B : Nat} {s : Gr} {a0 : Option Addr} {R : Nat} {qs : List Rq} (h : Gow w B s a0 R qs) {j : Nat} {q : Rq} (hq : qs[j]? = some q) (e n : Int) :
    Gow (((w.setCell ⟨R, j * 3, none⟩ (.slice q.a q.p.log.length q.c)).setCell ⟨R, j * 3 + 1, none⟩ (.int .i64 e)).setCell ⟨R, j * 3 + 2, none⟩ (.int .i64 n)) B (putR s j ⟨q.p.log, e, n⟩) a0 R (qs.set j ⟨⟨q.p.log, e, n⟩, q.a, q.c⟩) := by
  have hj := (List.getElem?_eq_some_iff.1 hq).1
  exact h.put hj ⟨⟨q.p.log, e, n⟩, q.a, q.c⟩ (h.og.lie j q hq).1 (h.og.lie j q hq).2 (h.og.cap j q hq hj) (h.og.own j q hq hj) (fun b hi => h.og.ap j q b hq hi) (fun b hi i p hp hne hi' => h.og.dj j i q p b hq hp (fun e => hne e.symm) hj (List.getElem?_eq_some_iff.1 hp).1 hi hi')

/-- A log of the call's own that is new. -/
theorem Gow.fresh {w w0 : World} {B : Nat} {s : Gr} {a0 : Option Addr} {R : Nat} {qs : List Rq} (h : Gow w B s a0 R qs) (h0 : Gow w0 B s a0 R qs) {j : Nat} (hj : j < qs.length) (q : Rq) (hl : Rws w q.a q.p.log) (hm : q.p.log.length ≤ maxLen) (hc : q.p.log.length ≤ q.c) (hr : RowRw w w0.heap.size q.a q.p.log.length) :
    Gow (((w.setCell ⟨R, j * 3, none⟩ (.slice q.a q.p.log.length q.c)).setCell ⟨R, j * 3 + 1, none⟩ (.int .i64 q.p.epoch)).setCell ⟨R, j * 3 + 2, none⟩ (.int .i64 q.p.known)) B (putR s j q.p) a0 R (qs.set j q) :=
  h.put hj q hl hm hc (hr.mono (by have := h0.og.hB; have := h0.og.size; omega)) (fun b hi => by have := (hr.lt hi).1; have := h0.og.size; omega) (fun b hi i p hp _ hi' => by have := (hr.lt hi).1; have := h0.og.lt i p b hp hi'; omega)

/-- What the row's cells are. -/
theorem Gow.row {w : World} {B : Nat} {s : Gr} {a0 : Option Addr} {R : Nat} {qs : List Rq} (h : Gow w B s a0 R qs) : (∀ (i : Nat) (q : Rq), qs[i]? = some q → w.cell? ⟨R, i * 3, none⟩ = some (.slice q.a q.p.log.length q.c) ∧ w.cell? ⟨R, i * 3 + 1, none⟩ = some (.int .i64 q.p.epoch) ∧ w.cell? ⟨R, i * 3 + 2, none⟩ = some (.int .i64 q.p.known)) ∧ ∀ o, w.frozen? ⟨R, o, none⟩ = false := by
  obtain ⟨m, f, hm, hr, hp⟩ := h.og.row
  refine ⟨fun i q hq => ?_, hr.frozen⟩
  have hlt := (List.getElem?_eq_some_iff.1 hq).1
  obtain ⟨c0, c1, c2⟩ := hp i q hq
  exact ⟨by rw [hr.cell (by omega), c0], by rw [hr.cell (by omega), c1], by rw [hr.cell (by omega), c2]⟩

theorem Gow.set3b {w : World} {B R j : Nat} {v0 v1 v2 : Value} {W : World} (h : Below B W w) (hR : B ≤ R) : Below B W (((w.setCell ⟨R, j * 3, none⟩ v0).setCell ⟨R, j * 3 + 1, none⟩ v1).setCell ⟨R, j * 3 + 2, none⟩ v2) := ((h.setCell hR _).setCell hR _).setCell hR _

end Go.Proofs.YtkhbgdnhkaeamaaDoor
