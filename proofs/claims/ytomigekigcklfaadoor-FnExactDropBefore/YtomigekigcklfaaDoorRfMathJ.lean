/-
  Stores: where an offset lies: the segment, and the last mark at most.
  Reading on from a mark: what stands in a segment's bytes from a place on.
-/
import Derived.Test.YtomigekigcklfaaDoorAllI
namespace Go.Proofs.YtomigekigcklfaaDoor
open Go.RowKit

theorem chain_end : ∀ (l : List Bt) (a : Bt), a.good = true → goodFrom (some a) l = true → a.off + a.recs.length ≤ endB (a.off + a.recs.length) l
  | [], a, _, _ => by simp [endB]
  | b :: r, a, ha, h => by
    simp only [goodFrom, Bool.and_eq_true, followB] at h
    obtain ⟨⟨h1, h2⟩, h3⟩ := h
    rw [nextB_t ha] at h2
    simp only [Bool.and_eq_true, decide_eq_true_eq] at h2
    rw [endB_cons]
    have := chain_end r b h1 h3
    omega

theorem good_pos {b : Bt} (h : b.good = true) : 1 ≤ b.recs.length := by
  obtain ⟨o, e, p, q, h1, h2, h3, h4, a1, a2, a3, a4, a5, a6, -⟩ := good_all (o := b.off) (e := b.ep) (p := b.pr) (q := b.sq) (ss := b.recs) h
  omega

/-- A segment's end is not ahead of its base, and behind it where it has a batch. -/
theorem seg_end {g : Sg} (h : g.fine = true) (next : Int) (hb : g.base = next) : next ≤ endB next g.l ∧ (g.l ≠ [] → next < endB next g.l) := by
  have hg : goodLog g.l = true := readL_good _
  simp only [Sg.fine, Bool.and_eq_true] at h
  have hh := h.2
  unfold headOk at hh
  rw [show g.rs.l = g.l from rfl] at hh
  cases hl : g.l with
  | nil => simp [endB]
  | cons b t =>
    rw [hl] at hh hg
    simp only [decide_eq_true_eq, goodLog, goodFrom, Bool.and_eq_true] at hh hg
    have h1 := chain_end t b hg.1.1 hg.2
    have h2 := good_pos hg.1.1
    rw [endB_cons]
    have e3 : g.rs.base = g.base := rfl
    rw [e3] at hh
    refine ⟨by omega, fun _ => by omega⟩

/-- The bases rise; each lies between where the walk began and where it ended; a segment without batches lies at the end. -/
theorem imF_bases {n : Nat} : ∀ {r : List Sg} {i : Nat} {next nx : Int} {all all' : List Bt}, imF n i (rsOf r) next all = some (nx, all') → i + r.length = n → next ≤ nx ∧ (∀ g, g ∈ r → next ≤ g.base ∧ (g.l = [] → g.base = nx)) ∧ r.Pairwise (fun a b => a.base ≤ b.base)
  | [], i, next, nx, all, all', h, _ => by
    simp only [rsOf, List.map_nil, imF, Option.some.injEq, Prod.mk.injEq] at h
    exact ⟨by omega, (fun g hg => by cases hg), List.Pairwise.nil⟩
  | g :: r, i, next, nx, all, all', h, hn => by
    simp only [rsOf, List.map_cons] at h
    rw [imF] at h
    split at h
    · rename_i ho
      rw [imOk_eq] at ho
      simp only [Bool.and_eq_true, decide_eq_true_eq] at ho
      obtain ⟨hf, hb, he⟩ := ho
      simp only [List.length_cons] at hn
      obtain ⟨h1, h2, h3⟩ := imF_bases (r := r) h (by omega)
      rw [show g.rs.l = g.l from rfl] at h1 h2
      have hs := seg_end hf next hb
      refine ⟨by omega, fun x hx => ?_, List.pairwise_cons.2 ⟨fun x hx => ?_, h3⟩⟩
      · rcases List.mem_cons.1 hx with rfl | hx
        · refine ⟨by omega, fun hl => ?_⟩
          have hlt : ¬ i + 1 < n := fun hlt => by rw [hl] at he; simp [hlt] at he
          obtain rfl : r = [] := List.eq_nil_of_length_eq_zero (by omega)
          simp only [List.map_nil, imF, Option.some.injEq, Prod.mk.injEq] at h
          rw [show x.rs.l = x.l from rfl, hl] at h
          simp [endB] at h
          omega
        · have := h2 x hx
          exact ⟨by omega, this.2⟩
      · have := h2 x hx
        omega
    · cases h

/-- Is the offset one of the store's? -/
def stT (gs : List Sg) (x off : Int) : Bool := match gs with
  | [] => false
  | g :: r => stG (g :: r) x && (decide (g.base ≤ off) && decide (off < x))

/-- The segment in which the offset lies. -/
def SeekK (gs : List Sg) (off : Int) (k : Nat) (g : Sg) : Prop :=
  gs[k]? = some g ∧ g.base ≤ off ∧ ∀ j h, k < j → gs[j]? = some h → off < h.base

theorem SeekK.same {gs : List Sg} {off : Int} {k k' : Nat} {g g' : Sg} (h : SeekK gs off k g) (h' : SeekK gs off k' g') : k = k' ∧ g = g' := by
  have e : k = k' := by
    rcases Nat.lt_trichotomy k k' with hl | rfl | hl
    · have := h.2.2 k' g' hl h'.1
      have := h'.2.1
      omega
    · rfl
    · have := h'.2.2 k g hl h.1
      have := h.2.1
      omega
  subst e
  exact ⟨rfl, by have := h.1.symm.trans h'.1; simpa using this⟩

/-- Where the last mark at most stands. -/
def seekAt (ms : List Im) (off : Int) (at0 : Int) : Int := ms.foldl (fun a m => if m.off ≤ off then m.at_ else a) at0

theorem seekAt_skip : ∀ (ms : List Im) (off a : Int), (∀ m, m ∈ ms → off < m.off) → seekAt ms off a = a
  | [], _, _, _ => rfl
  | m :: r, off, a, h => by
    have h1 := h m List.mem_cons_self
    simp only [seekAt, List.foldl_cons]
    rw [if_neg (by omega)]
    exact seekAt_skip r off a (fun x hx => h x (List.mem_cons_of_mem _ hx))

theorem seekAt_last {ms : List Im} {off a : Int} {k : Nat} {m : Im} (hk : ms[k]? = some m) (hm : m.off ≤ off) (h : ∀ j x, k < j → ms[j]? = some x → off < x.off) : seekAt ms off a = m.at_ := by
  have hlt := (List.getElem?_eq_some_iff.1 hk).1
  have e : ms = ms.take k ++ m :: ms.drop (k + 1) := by
    have h1 := List.take_append_drop k ms
    rw [List.drop_eq_getElem_cons hlt, (List.getElem?_eq_some_iff.1 hk).2] at h1
    exact h1.symm
  unfold seekAt
  rw [e, List.foldl_append, List.foldl_cons, if_pos hm]
  refine seekAt_skip _ off _ (fun x hx => ?_)
  obtain ⟨i, hi, rfl⟩ := List.getElem_of_mem hx
  rw [List.length_drop] at hi
  refine h (k + 1 + i) _ (by omega) ?_
  rw [List.getElem_drop]
  exact List.getElem?_eq_getElem (by omega)

/-- What a store that holds the offset is like. -/
structure There (gs : List Sg) (off : Int) : Prop where
  pos : 0 < gs.length
  first : ∀ g : Sg, gs[0]? = some g → g.base ≤ off
  up : gs.Pairwise (fun a b => a.base ≤ b.base)
  mark : ∀ (k : Nat) (g : Sg), gs[k]? = some g → g.base ≤ off → ∃ (m : Im) (r : List Im), g.idx = m :: r ∧ m.off ≤ off
  most : gs.length ≤ 8
  fine : ∀ g, g ∈ gs → g.fine = true

theorem imS_head (m : Im) : ∀ (r : List Bt) (s : List Im × Nat) (t : List Im), s.1 = m :: t → ∃ t', (r.foldl imS s).1 = m :: t'
  | [], s, t, h => ⟨t, h⟩
  | b :: r, s, t, h => by
    rw [List.foldl_cons]
    by_cases hd : dueB s.1 s.2 = true
    · refine imS_head m r (imS s b) (t ++ [⟨b.off, s.2⟩]) ?_
      show (if dueB s.1 s.2 = true then s.1 ++ [⟨b.off, s.2⟩] else s.1) = _
      rw [if_pos hd, h, List.cons_append]
    · refine imS_head m r (imS s b) t ?_
      show (if dueB s.1 s.2 = true then s.1 ++ [⟨b.off, s.2⟩] else s.1) = _
      rw [if_neg hd, h]

theorem imL_cons (b : Bt) (r : List Bt) : ∃ t, imL (b :: r) = ⟨b.off, 0⟩ :: t := by
  unfold imL imTo
  rw [List.take_length, List.foldl_cons]
  exact imS_head ⟨b.off, 0⟩ r _ [] rfl

theorem imF_fine0 {n : Nat} : ∀ {r : List Sg} {i : Nat} {next : Int} {all : List Bt} {z : Int × List Bt}, imF n i (rsOf r) next all = some z → ∀ g, g ∈ r → g.fine = true
  | [], _, _, _, _, _, g, hg => by cases hg
  | x :: r, i, next, all, z, h, g, hg => by
    simp only [rsOf, List.map_cons] at h
    rw [imF] at h
    split at h
    · rename_i ho
      rcases List.mem_cons.1 hg with rfl | hg
      · rw [imOk_eq] at ho
        simp only [Bool.and_eq_true] at ho
        exact ho.1
      · exact imF_fine0 (r := r) h g hg
    · cases h

theorem stT_there {gs : List Sg} {x off : Int} (h : stT gs x off = true) : There gs off ∧ stG gs x = true ∧ off < x := by
  cases gs with
  | nil => cases h
  | cons g r =>
    simp only [stT, Bool.and_eq_true, decide_eq_true_eq] at h
    obtain ⟨hg, hb, hx⟩ := h
    have hg2 := hg
    simp only [stG, Bool.and_eq_true, decide_eq_true_eq] at hg2
    obtain ⟨h8, -, him⟩ := hg2
    unfold imGood at him
    split at him
    · cases him
    · rename_i nx all hm
      simp only [Bool.and_eq_true, decide_eq_true_eq] at him
      obtain ⟨h1, h2, h3⟩ := imF_bases hm (by simp)
      have hfi := imF_fine0 hm
      refine ⟨⟨by simp, fun g' hg' => by simp at hg'; subst hg'; exact hb, h3, fun k g' hk hle => ?_, h8, hfi⟩, hg, hx⟩
      have hmem := List.mem_of_getElem? hk
      have hne : g'.l ≠ [] := fun hl => by have := (h2 g' hmem).2 hl; omega
      have hf := hfi g' hmem
      simp only [Sg.fine, Sg.rs, Bool.and_eq_true, decide_eq_true_eq] at hf
      have hidx := hf.1.2
      have hhd := hf.2
      unfold headOk at hhd
      cases hl : g'.l with
      | nil => exact absurd hl hne
      | cons b t =>
        simp only [hl] at hhd
        simp only [decide_eq_true_eq] at hhd
        obtain ⟨t', e⟩ := imL_cons b t
        exact ⟨⟨b.off, 0⟩, t', by rw [hidx, hl, e], by simp only; omega⟩

end Go.Proofs.YtomigekigcklfaaDoor

namespace Go.Proofs.YtomigekigcklfaaDoor
open Go.RowKit

/-- From place a on these batches stand one behind the other, and end at e. -/
inductive Reads (l : List UInt8) : Nat → List Bt → Nat → Prop
  | nil (a : Nat) : Reads l a [] a
  | cons {a e1 e : Nat} {b : Bt} {bs : List Bt} : specTake l a = some (b, e1) → Reads l e1 bs e → Reads l a (b :: bs) e

theorem take_len {l : List UInt8} {n : Nat} {b : Bt} {e : Nat} (h : specTake l n = some (b, e)) : e = n + (14 + recLen b.recs) := by
  unfold specTake at h
  split at h
  · rename_i hc
    cases hd : specDec (l.drop n) with
    | none => rw [hd] at h; simp at h
    | some b' =>
      rw [hd] at h
      simp at h
      obtain ⟨rfl, rfl⟩ := h
      obtain ⟨hg, he⟩ := (specDec_iff b').1 hd
      have hl := congrArg List.length he
      unfold encB at hl
      rw [bytesOf_len, List.length_take] at hl
      have e1 : lenOf (l.drop n) = 2 + val ((l.drop n).take 2) := rfl
      rw [← e1, Nat.min_eq_left hc.2] at hl
      omega
  · simp at h

theorem reads_of_readR (l : List UInt8) : ∀ (k : Nat) (p : Option Bt) (n : Nat), Reads l n (readR l k p n).1 (readR l k p n).2
  | 0, _, n => Reads.nil n
  | k + 1, p, n => by
    rw [readR]
    split
    · exact Reads.nil n
    · rename_i b e h
      split
      · exact Reads.cons h (reads_of_readR l k (some b) e)
      · exact Reads.nil n

def lenB (bs : List Bt) : Nat := (bs.map fun b => 14 + recLen b.recs).sum

theorem Reads.end_eq {l : List UInt8} {a e : Nat} {bs : List Bt} (h : Reads l a bs e) : e = a + lenB bs := by
  induction h with
  | nil a => simp [lenB]
  | cons h _ ih =>
    have := take_len h
    simp only [lenB, List.map_cons, List.sum_cons] at *
    omega

theorem Reads.split {l : List UInt8} : ∀ {bs : List Bt} {a e : Nat}, Reads l a bs e → ∀ j, j ≤ bs.length → Reads l (a + lenB (bs.take j)) (bs.drop j) e
  | bs, a, e, h, 0, _ => by simpa [lenB] using h
  | [], a, e, h, j + 1, hj => by simp at hj
  | b :: r, a, e, h, j + 1, hj => by
    cases h with
    | cons h1 h2 =>
      have e1 := take_len h1
      have := Reads.split h2 j (by simpa using hj)
      simp only [List.take_succ_cons, List.drop_succ_cons, lenB, List.map_cons, List.sum_cons] at *
      rwa [show a + (14 + recLen b.recs + (List.map (fun b => 14 + recLen b.recs) (List.take j r)).sum) = a + (14 + recLen b.recs) + (List.map (fun b => 14 + recLen b.recs) (List.take j r)).sum by omega, ← e1]

theorem imS_pos : ∀ (bs : List Bt) (s : List Im × Nat), (bs.foldl imS s).2 = s.2 + lenB bs
  | [], s => by simp [lenB]
  | b :: r, s => by
    rw [List.foldl_cons, imS_pos r]
    simp only [imS, lenB, List.map_cons, List.sum_cons]
    omega

/-- Every mark stands where a batch begins. -/
theorem imS_marks (bs : List Bt) : ∀ (r pre : List Bt) (s : List Im × Nat), bs = pre ++ r → s.2 = lenB pre → (∀ m, m ∈ s.1 → ∃ j, j < bs.length ∧ m.at_ = (lenB (bs.take j) : Nat)) → ∀ m, m ∈ (r.foldl imS s).1 → ∃ j, j < bs.length ∧ m.at_ = (lenB (bs.take j) : Nat)
  | [], pre, s, _, _, hs => hs
  | b :: r, pre, s, hb, h2, hs => by
    rw [List.foldl_cons]
    refine imS_marks bs r (pre ++ [b]) (imS s b) (by rw [hb]; simp) ?_ ?_
    · simp only [imS, lenB, List.map_append, List.sum_append, List.map_cons, List.map_nil, List.sum_cons, List.sum_nil] at *
      omega
    · intro m hm
      simp only [imS] at hm
      split at hm
      · rcases List.mem_append.1 hm with hm | hm
        · exact hs m hm
        · simp only [List.mem_singleton] at hm
          subst hm
          refine ⟨pre.length, by rw [hb]; simp, ?_⟩
          simp only
          rw [hb, List.take_left, h2]
      · exact hs m hm

theorem imL_mark {bs : List Bt} {m : Im} (h : m ∈ imL bs) : ∃ j, j < bs.length ∧ m.at_ = (lenB (bs.take j) : Nat) := by
  unfold imL imTo at h
  rw [List.take_length] at h
  exact imS_marks bs bs [] ([], 0) rfl (by simp [lenB]) (fun m hm => by cases hm) m h

/-- A good segment's batches, from its first byte to its last. -/
theorem Sg.reads {g : Sg} (h : g.fine = true) : Reads g.bytes.data.toList 0 g.l g.bytes.data.toList.length := by
  simp only [Sg.fine, Sg.rs, Bool.and_eq_true] at h
  have hw : (readL g.bytes.data.toList).2 = g.bytes.size := of_decide_eq_true h.1.1.1
  have := reads_of_readR g.bytes.data.toList (g.bytes.data.toList.length + 1) none 0
  have e : (readR g.bytes.data.toList (g.bytes.data.toList.length + 1) none 0).2 = g.bytes.data.toList.length := hw.trans (size_len _).symm
  rw [e] at this
  exact this

theorem specTake_drop (l : List UInt8) (p n : Nat) : specTake (l.drop p) n = (specTake l (p + n)).map (fun x => (x.1, x.2 - p)) := by
  unfold specTake
  rw [List.drop_drop]
  split
  · rw [Option.map_map]
    congr 1
    funext b
    simp only [Function.comp_apply, Prod.mk.injEq, true_and]
    omega
  · rfl

/-- Read anew from a place on. -/
theorem readR_drop {l : List UInt8} {q : Nat} {cs : List Bt} {e : Nat} (h : Reads l q cs e) : ∀ (p n : Nat) (prev : Option Bt) (k : Nat), q = p + n → e = l.length → goodFrom prev cs = true → l.length < q + k → readR (l.drop p) k prev n = (cs, l.length - p) := by
  induction h with
  | nil a =>
    intro p n prev k hq he _ hk
    subst he
    cases k with
    | zero => omega
    | succ k =>
      rw [readR, specTake_drop, specTake_end (by omega)]
      simp only [Option.map_none]
      rw [show n = l.length - p by omega]
  | @cons a e1 e b bs h1 _ ih =>
    intro p n prev k hq he hg hk
    have h2 := specTake_end2 h1
    simp only [goodFrom, Bool.and_eq_true] at hg
    cases k with
    | zero => omega
    | succ k =>
      rw [readR, specTake_drop, ← hq, h1]
      simp only [Option.map_some]
      rw [if_pos hg.1.2, ih p (e1 - p) (some b) k (by omega) he hg.2 (by omega)]

/-- What a segment's bytes tell from a place on where a batch begins. -/
theorem readL_drop {l : List UInt8} {p : Nat} {cs : List Bt} (h : Reads l p cs l.length) (hg : goodLog cs = true) : readL (l.drop p) = (cs, l.length - p) := by
  unfold readL
  rw [List.length_drop]
  exact readR_drop h p 0 none _ rfl rfl hg (by have := h.end_eq; omega)

theorem goodFrom_none {a : Option Bt} {bs : List Bt} (h : goodFrom a bs = true) : goodFrom none bs = true := by
  cases bs with
  | nil => rfl
  | cons b r =>
    simp only [goodFrom, Bool.and_eq_true] at h ⊢
    exact ⟨⟨h.1.1, rfl⟩, h.2⟩

theorem goodLog_drop {bs : List Bt} (h : goodLog bs = true) (j : Nat) : goodLog (bs.drop j) = true := by
  unfold goodLog at *
  have e := List.take_append_drop j bs
  rw [← e, goodFrom_app, Bool.and_eq_true] at h
  exact goodFrom_none h.2

/-- The place to which the index leads: a batch begins there. -/
theorem seek_place {gs : List Sg} {off : Int} (h : There gs off) {k : Nat} {g : Sg} (hk : SeekK gs off k g) : ∃ j p : Nat, j < g.l.length ∧ seekAt g.idx off 0 = (p : Int) ∧ Reads g.bytes.data.toList p (g.l.drop j) g.bytes.data.toList.length := by
  have hf := h.fine g (List.mem_of_getElem? hk.1)
  obtain ⟨m, r, hmr, hmo⟩ := h.mark k g hk.1 hk.2.1
  have hex : ∃ m, m ∈ g.idx ∧ seekAt g.idx off 0 = m.at_ := by
    have key : ∀ (ms : List Im) (a : Int), (∃ m, m ∈ ms ∧ seekAt ms off a = m.at_) ∨ seekAt ms off a = a := fun ms => by
      induction ms with
      | nil => intro a; exact .inr rfl
      | cons m r ih =>
        intro a
        simp only [seekAt, List.foldl_cons]
        rcases ih (if m.off ≤ off then m.at_ else a) with ⟨x, hx, e⟩ | e
        · exact .inl ⟨x, List.mem_cons_of_mem _ hx, e⟩
        · by_cases hm : m.off ≤ off
          · rw [if_pos hm] at e ⊢
            exact .inl ⟨m, List.mem_cons_self, e⟩
          · rw [if_neg hm] at e ⊢
            exact .inr e
    rw [hmr]
    have := key r m.at_
    simp only [seekAt, List.foldl_cons]
    rw [if_pos hmo]
    rcases this with ⟨x, hx, e⟩ | e
    · exact ⟨x, List.mem_cons_of_mem _ hx, e⟩
    · exact ⟨m, List.mem_cons_self, e⟩
  obtain ⟨m', hm', e⟩ := hex
  have hidx : g.idx = imL g.l := by
    simp only [Sg.fine, Sg.rs, Bool.and_eq_true, decide_eq_true_eq] at hf
    exact hf.1.2
  rw [hidx] at hm'
  obtain ⟨j, hj, ej⟩ := imL_mark hm'
  refine ⟨j, lenB (g.l.take j), hj, by rw [e, ej], ?_⟩
  have := (Sg.reads hf).split j (by omega)
  rwa [Nat.zero_add] at this

/-- Of batches those that end behind an offset. -/
def behind (off : Int) (bs : List Bt) : List Bt := bs.filter fun b => decide (off < b.off + b.recs.length)

/-- What is read from an offset on: the rest of its segment, and what follows. -/
def restOf (gs : List Sg) (k j : Nat) (g : Sg) : List Bt := g.l.drop j ++ stAll (gs.drop (k + 1))

theorem behind_app (off : Int) (xs ys : List Bt) : behind off (xs ++ ys) = behind off xs ++ behind off ys := by simp [behind]

theorem take_join (many : Nat) (xs ys : List Bt) : (xs ++ ys).take many = xs.take many ++ ys.take (many - (xs.take many).length) := by
  rw [List.take_append, List.length_take]
  by_cases h : many ≤ xs.length
  · rw [Nat.min_eq_left h, Nat.sub_self, Nat.sub_eq_zero_of_le h]
  · rw [Nat.min_eq_right (by omega)]

end Go.Proofs.YtomigekigcklfaaDoor
