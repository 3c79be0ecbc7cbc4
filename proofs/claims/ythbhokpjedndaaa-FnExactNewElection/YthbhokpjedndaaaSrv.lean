/-
  Lists of Server as a call reads them, and the contracts of the laws' helpers on them: szServer, szServerS, toServer, toServerS, eqServer, eqServerS. Made by mkbag.py.
-/
import Derived.Test.YthbhokpjedndaaaBagAid
namespace Go.Proofs.Ythbhokpjedndaaa
open Go.RowKit

/-- One Server: what its fields read. -/
structure Sv where
  term : Int
  voted : Int
  stands : Bool
  leads : Bool
  got : List Int
  log : List Int
deriving DecidableEq

/-- At block K, from cell o on, one lies. -/
def SvAt (w : World) (K o : Nat) (c : Sv) : Prop :=
  ∃ r4 k4 r5 k5, w.cell? ⟨K, o, none⟩ = some (.int .i64 c.term) ∧ w.cell? ⟨K, o + 1, none⟩ = some (.int .i64 c.voted) ∧ w.cell? ⟨K, o + 2, none⟩ = some (.bool c.stands) ∧ w.cell? ⟨K, o + 3, none⟩ = some (.bool c.leads) ∧ w.cell? ⟨K, o + 4, none⟩ = some (.slice r4 c.got.length k4) ∧ w.cell? ⟨K, o + 5, none⟩ = some (.slice r5 c.log.length k5) ∧ Ints w r4 c.got ∧ c.got.length ≤ maxLen ∧ Ints w r5 c.log ∧ c.log.length ≤ maxLen

/-- The slice value at 'a' reads as these. -/
def Svs (w : World) (a : Option Addr) (l : List Sv) : Prop :=
  ∀ i c, l[i]? = some c → ∃ K o, a = some ⟨K, o, none⟩ ∧ SvAt w K (o + i * 6) c

theorem SvAt.below {w w' : World} {K o : Nat} {c : Sv} (h : SvAt w K o c) (hb : Below w.heap.size w w') : SvAt w' K o c := by
  obtain ⟨r4, k4, r5, k5, c0, c1, c2, c3, c4, c5, q4, m4, q5, m5⟩ := h
  have lt := lt_of_cell c0
  exact ⟨r4, k4, r5, k5, (hb.cell (p := ⟨K, o, none⟩) lt).trans c0, (hb.cell (p := ⟨K, o + 1, none⟩) lt).trans c1, (hb.cell (p := ⟨K, o + 2, none⟩) lt).trans c2, (hb.cell (p := ⟨K, o + 3, none⟩) lt).trans c3, (hb.cell (p := ⟨K, o + 4, none⟩) lt).trans c4, (hb.cell (p := ⟨K, o + 5, none⟩) lt).trans c5, q4.below hb, m4, q5.below hb, m5⟩

theorem Svs.below {w w' : World} {a : Option Addr} {l : List Sv} (h : Svs w a l) (hb : Below w.heap.size w w') : Svs w' a l := fun i c hi => by
  obtain ⟨K, o, e, hB⟩ := h i c hi
  exact ⟨K, o, e, hB.below hb⟩

theorem Svs.nil (w : World) (a : Option Addr) : Svs w a [] := fun i f hi => by simp at hi

theorem getSv {l : List Sv} {k : Nat} (h : k < l.length) : ∃ s, l[k]? = some s := ⟨_, List.getElem?_eq_getElem h⟩

theorem takeSv_snoc {l : List Sv} {k : Nat} {s : Sv} (h : l[k]? = some s) : l.take (k + 1) = l.take k ++ [s] := by
  rw [List.take_add_one, h]; rfl

theorem dropSv_cons {l : List Sv} {k : Nat} {b : Sv} (h : l[k]? = some b) : l.drop k = b :: l.drop (k + 1) := by
  obtain ⟨hlt, e⟩ := List.getElem?_eq_some_iff.1 h
  rw [List.drop_eq_getElem_cons hlt, e]

def szSv (c : Sv) (left : Int) : Int := if szN c.got.length left < 0 then -1 else szN c.log.length (szN c.got.length left)

theorem szSv_range (c : Sv) {left : Int} (h0 : 0 ≤ left) : -1 ≤ szSv c left ∧ szSv c left ≤ left := by
  unfold szSv
  have e0 := szN_range c.got.length (left := left)
  have e1 := szN_range c.log.length (left := (szN c.got.length left))
  repeat' split
  all_goals omega

theorem szSv_bound {c : Sv} {left : Int} (h : 0 ≤ szSv c left) : (c.got.length : Int) ≤ left ∧ (c.log.length : Int) ≤ left := by
  unfold szSv szN at h
  repeat' split at h
  all_goals omega

/-- What szServerS answers, one by one. -/
def szSvs' : List Sv → Int → Int
  | [], left => left
  | c :: r, left => if szSv c left < 0 then -1 else szSvs' r (szSv c left)

def szSvs (l : List Sv) (left : Int) : Int := if left - l.length < 0 then -1 else szSvs' l (left - l.length)

theorem szSvs'_range : ∀ (l : List Sv) (left : Int), 0 ≤ left → -1 ≤ szSvs' l left ∧ szSvs' l left ≤ left
  | [], left, h => by simp only [szSvs']; omega
  | c :: r, left, h => by
    have e := szSv_range c h
    simp only [szSvs']; split
    · omega
    · have := szSvs'_range r (szSv c left) (by omega)
      omega

theorem szSvs_range (l : List Sv) {left : Int} (h : 0 ≤ left) : -1 ≤ szSvs l left ∧ szSvs l left ≤ left := by
  unfold szSvs; split
  · omega
  · have := szSvs'_range l (left - l.length) (by omega)
    omega

theorem szSvs'_bound : ∀ (l : List Sv) (left : Int), left ≤ 1048576 → 0 ≤ left → 0 ≤ szSvs' l left → ∀ c, c ∈ l → c.got.length ≤ 1048576 ∧ c.log.length ≤ 1048576
  | [], left, _, _, _ => fun c hc => by simp at hc
  | d :: r, left, hl, h0, h => fun c hc => by
    simp only [szSvs'] at h; split at h
    · omega
    · have e := szSv_range d h0
      have e2 := szSv_bound (c := d) (left := left) (by omega)
      rcases List.mem_cons.1 hc with rfl | hc
      · omega
      · exact szSvs'_bound r (szSv d left) (by omega) (by omega) h c hc

theorem szSvs_bound {l : List Sv} {left : Int} (hl : left ≤ 1048576) (h : 0 ≤ szSvs l left) : l.length ≤ 1048576 ∧ ∀ c, c ∈ l → c.got.length ≤ 1048576 ∧ c.log.length ≤ 1048576 := by
  unfold szSvs at h; split at h
  · omega
  · exact ⟨by omega, szSvs'_bound l (left - l.length) (by omega) (by omega) h⟩

/-- What toServer answers. -/
def SvNew (w w' : World) (c : Sv) (r : Ending) : Prop :=
  ∃ s4 s5, r = .returned (.agg #[.int .i64 c.term, .int .i64 c.voted, .bool c.stands, .bool c.leads, .slice s4 c.got.length c.got.length, .slice s5 c.log.length c.log.length]) ∧ Ints w' s4 c.got ∧ RowI w' w.heap.size s4 c.got.length ∧ Ints w' s5 c.log ∧ RowI w' w.heap.size s5 c.log.length ∧ Below w.heap.size w w'

theorem Try.infoSv : (Try.prog.info? 59).map (fun i => (i.zero, i.size, i.bytes)) = some (some (.agg #[.int .i64 0, .int .i64 0, .bool false, .bool false, .slice none 0 0, .slice none 0 0]), 6, 72) := by kernel_rfl

/-- The row at N holds the first k; their own lists lie behind N. -/
def SvTo (w : World) (N : Nat) (f : Nat → Value) (l : List Sv) (k : Nat) : Prop :=
  ∀ i c, i < k → l[i]? = some c → ∃ r4 k4 r5 k5, f (i * 6) = .int .i64 c.term ∧ f (i * 6 + 1) = .int .i64 c.voted ∧ f (i * 6 + 2) = .bool c.stands ∧ f (i * 6 + 3) = .bool c.leads ∧ f (i * 6 + 4) = .slice r4 c.got.length k4 ∧ f (i * 6 + 5) = .slice r5 c.log.length k5 ∧ Ints w r4 c.got ∧ c.got.length ≤ maxLen ∧ RowI w (N + 1) r4 c.got.length ∧ Ints w r5 c.log ∧ c.log.length ≤ maxLen ∧ RowI w (N + 1) r5 c.log.length ∧ c.got.length ≤ k4 ∧ c.log.length ≤ k5

theorem SvTo.below {w w' : World} {N : Nat} {f : Nat → Value} {l : List Sv} {k : Nat} (h : SvTo w N f l k) (hb : Below w.heap.size w w') : SvTo w' N f l k := fun i c hi hc => by
  obtain ⟨r4, k4, r5, k5, c0, c1, c2, c3, c4, c5, q4, m4, R4, q5, m5, R5, e4, e5⟩ := h i c hi hc
  exact ⟨r4, k4, r5, k5, c0, c1, c2, c3, c4, c5, q4.below hb, m4, R4.below hb, q5.below hb, m5, R5.below hb, e4, e5⟩

set_option maxHeartbeats 1000000 in
theorem SvTo_step {w : World} {N : Nat} {t : TypeId} {m : Nat} {f : Nat → Value} {l : List Sv} {k : Nat} {b : Sv} {r4 : Option Addr} {k4 : Nat} {r5 : Option Addr} {k5 : Nat} (hR : w.rowIs N t (m * 6) f) (hO : SvTo w N f l k) (hb : l[k]? = some b) (h4 : Ints w r4 b.got) (m4 : b.got.length ≤ maxLen) (R4 : RowI w (N + 1) r4 b.got.length) (h5 : Ints w r5 b.log) (m5 : b.log.length ≤ maxLen) (R5 : RowI w (N + 1) r5 b.log.length) (e4 : b.got.length ≤ k4) (e5 : b.log.length ≤ k5) :
    ∃ g, ((((((w.setCell ⟨N, k * 6, none⟩ (.int .i64 b.term)).setCell ⟨N, k * 6 + 1, none⟩ (.int .i64 b.voted)).setCell ⟨N, k * 6 + 2, none⟩ (.bool b.stands)).setCell ⟨N, k * 6 + 3, none⟩ (.bool b.leads)).setCell ⟨N, k * 6 + 4, none⟩ (.slice r4 b.got.length k4)).setCell ⟨N, k * 6 + 5, none⟩ (.slice r5 b.log.length k5)).rowIs N t (m * 6) g ∧ SvTo ((((((w.setCell ⟨N, k * 6, none⟩ (.int .i64 b.term)).setCell ⟨N, k * 6 + 1, none⟩ (.int .i64 b.voted)).setCell ⟨N, k * 6 + 2, none⟩ (.bool b.stands)).setCell ⟨N, k * 6 + 3, none⟩ (.bool b.leads)).setCell ⟨N, k * 6 + 4, none⟩ (.slice r4 b.got.length k4)).setCell ⟨N, k * 6 + 5, none⟩ (.slice r5 b.log.length k5)) N g l (k + 1) := by
  refine ⟨_, ((((((hR.set _ _).set _ _).set _ _).set _ _).set _ _).set _ _), fun i c hi hc => ?_⟩
  by_cases e : i = k
  · subst e
    obtain rfl : b = c := by rw [hb] at hc; simpa using hc
    refine ⟨r4, k4, r5, k5, ?_, ?_, ?_, ?_, ?_, ?_, ((((((h4.setR R4 (by omega) _ _).setR (R4.setR (by omega) _ _) (by omega) _ _).setR ((R4.setR (by omega) _ _).setR (by omega) _ _) (by omega) _ _).setR (((R4.setR (by omega) _ _).setR (by omega) _ _).setR (by omega) _ _) (by omega) _ _).setR ((((R4.setR (by omega) _ _).setR (by omega) _ _).setR (by omega) _ _).setR (by omega) _ _) (by omega) _ _).setR (((((R4.setR (by omega) _ _).setR (by omega) _ _).setR (by omega) _ _).setR (by omega) _ _).setR (by omega) _ _) (by omega) _ _), m4, ((((((R4.setR (by omega) _ _).setR (by omega) _ _).setR (by omega) _ _).setR (by omega) _ _).setR (by omega) _ _).setR (by omega) _ _), ((((((h5.setR R5 (by omega) _ _).setR (R5.setR (by omega) _ _) (by omega) _ _).setR ((R5.setR (by omega) _ _).setR (by omega) _ _) (by omega) _ _).setR (((R5.setR (by omega) _ _).setR (by omega) _ _).setR (by omega) _ _) (by omega) _ _).setR ((((R5.setR (by omega) _ _).setR (by omega) _ _).setR (by omega) _ _).setR (by omega) _ _) (by omega) _ _).setR (((((R5.setR (by omega) _ _).setR (by omega) _ _).setR (by omega) _ _).setR (by omega) _ _).setR (by omega) _ _) (by omega) _ _), m5, ((((((R5.setR (by omega) _ _).setR (by omega) _ _).setR (by omega) _ _).setR (by omega) _ _).setR (by omega) _ _).setR (by omega) _ _), e4, e5⟩ <;> simp
  · obtain ⟨r4', k4', r5', k5', c0, c1, c2, c3, c4, c5, q4, m4', S4, q5, m5', S5, e4', e5'⟩ := hO i c (by omega) hc
    refine ⟨r4', k4', r5', k5', ?_, ?_, ?_, ?_, ?_, ?_, ((((((q4.setR S4 (by omega) _ _).setR (S4.setR (by omega) _ _) (by omega) _ _).setR ((S4.setR (by omega) _ _).setR (by omega) _ _) (by omega) _ _).setR (((S4.setR (by omega) _ _).setR (by omega) _ _).setR (by omega) _ _) (by omega) _ _).setR ((((S4.setR (by omega) _ _).setR (by omega) _ _).setR (by omega) _ _).setR (by omega) _ _) (by omega) _ _).setR (((((S4.setR (by omega) _ _).setR (by omega) _ _).setR (by omega) _ _).setR (by omega) _ _).setR (by omega) _ _) (by omega) _ _), m4', ((((((S4.setR (by omega) _ _).setR (by omega) _ _).setR (by omega) _ _).setR (by omega) _ _).setR (by omega) _ _).setR (by omega) _ _), ((((((q5.setR S5 (by omega) _ _).setR (S5.setR (by omega) _ _) (by omega) _ _).setR ((S5.setR (by omega) _ _).setR (by omega) _ _) (by omega) _ _).setR (((S5.setR (by omega) _ _).setR (by omega) _ _).setR (by omega) _ _) (by omega) _ _).setR ((((S5.setR (by omega) _ _).setR (by omega) _ _).setR (by omega) _ _).setR (by omega) _ _) (by omega) _ _).setR (((((S5.setR (by omega) _ _).setR (by omega) _ _).setR (by omega) _ _).setR (by omega) _ _).setR (by omega) _ _) (by omega) _ _), m5', ((((((S5.setR (by omega) _ _).setR (by omega) _ _).setR (by omega) _ _).setR (by omega) _ _).setR (by omega) _ _).setR (by omega) _ _), e4', e5'⟩
    · rw [if_neg (by omega), if_neg (by omega), if_neg (by omega), if_neg (by omega), if_neg (by omega), if_neg (by omega)]; exact c0
    · rw [if_neg (by omega), if_neg (by omega), if_neg (by omega), if_neg (by omega), if_neg (by omega), if_neg (by omega)]; exact c1
    · rw [if_neg (by omega), if_neg (by omega), if_neg (by omega), if_neg (by omega), if_neg (by omega), if_neg (by omega)]; exact c2
    · rw [if_neg (by omega), if_neg (by omega), if_neg (by omega), if_neg (by omega), if_neg (by omega), if_neg (by omega)]; exact c3
    · rw [if_neg (by omega), if_neg (by omega), if_neg (by omega), if_neg (by omega), if_neg (by omega), if_neg (by omega)]; exact c4
    · rw [if_neg (by omega), if_neg (by omega), if_neg (by omega), if_neg (by omega), if_neg (by omega), if_neg (by omega)]; exact c5

theorem Svs.of_to {w : World} {N : Nat} {t : TypeId} {f : Nat → Value} {l : List Sv} (hR : w.rowIs N t (l.length * 6) f) (hO : SvTo w N f l l.length) : Svs w (some ⟨N, 0, none⟩) l := fun i c hi => by
  have hlt := (List.getElem?_eq_some_iff.1 hi).1
  obtain ⟨r4, k4, r5, k5, c0, c1, c2, c3, c4, c5, q4, m4, -, q5, m5, -, -, -⟩ := hO i c hlt hi
  refine ⟨N, 0, rfl, r4, k4, r5, k5, ?_, ?_, ?_, ?_, ?_, ?_, q4, m4, q5, m5⟩
  · rw [Nat.zero_add, hR.cell (by omega), c0]
  · rw [Nat.zero_add, hR.cell (by omega), c1]
  · rw [Nat.zero_add, hR.cell (by omega), c2]
  · rw [Nat.zero_add, hR.cell (by omega), c3]
  · rw [Nat.zero_add, hR.cell (by omega), c4]
  · rw [Nat.zero_add, hR.cell (by omega), c5]

/-- Their lists are no longer than they have room for. -/
def SvsK (w : World) (a : Option Addr) (l : List Sv) : Prop :=
  ∀ i c, l[i]? = some c → ∃ K o r4 k4 r5 k5, a = some ⟨K, o, none⟩ ∧ w.cell? ⟨K, o + i * 6 + 4, none⟩ = some (.slice r4 c.got.length k4) ∧ c.got.length ≤ k4 ∧ w.cell? ⟨K, o + i * 6 + 5, none⟩ = some (.slice r5 c.log.length k5) ∧ c.log.length ≤ k5

theorem SvsK.below {w w' : World} {a : Option Addr} {l : List Sv} (h : SvsK w a l) (hb : Below w.heap.size w w') : SvsK w' a l := fun i c hi => by
  obtain ⟨K, o, r4, k4, r5, k5, e, x4, y4, x5, y5⟩ := h i c hi
  exact ⟨K, o, r4, k4, r5, k5, e, celB hb x4, y4, celB hb x5, y5⟩

theorem SvsK.of_to {w : World} {N : Nat} {t : TypeId} {f : Nat → Value} {l : List Sv} (hR : w.rowIs N t (l.length * 6) f) (hO : SvTo w N f l l.length) : SvsK w (some ⟨N, 0, none⟩) l := fun i c hi => by
  have hlt := (List.getElem?_eq_some_iff.1 hi).1
  obtain ⟨r4, k4, r5, k5, c0, c1, c2, c3, c4, c5, -, -, -, -, -, -, e4, e5⟩ := hO i c hlt hi
  refine ⟨N, 0, r4, k4, r5, k5, rfl, ?_, e4, ?_, e5⟩
  · rw [Nat.zero_add, hR.cell (by omega), c4]
  · rw [Nat.zero_add, hR.cell (by omega), c5]

/-- It reads so, and all of it lies in blocks from B on. -/
def SvsA (w : World) (B : Nat) (a : Option Addr) (l : List Sv) : Prop := ∀ w2 : World, (∀ b, B ≤ b → b < w.heap.size → w2.heap[b]? = w.heap[b]?) → Svs w2 a l ∧ SvsK w2 a l

theorem SvsA.here {w : World} {B : Nat} {a : Option Addr} {l : List Sv} (h : SvsA w B a l) : Svs w a l := (h w fun _ _ _ => rfl).1

theorem SvsA.hereK {w : World} {B : Nat} {a : Option Addr} {l : List Sv} (h : SvsA w B a l) : SvsK w a l := (h w fun _ _ _ => rfl).2

theorem SvsA.below {w w' : World} {B : Nat} {a : Option Addr} {l : List Sv} (h : SvsA w B a l) (hb : Below w.heap.size w w') : SvsA w' B a l := fun w2 h2 =>
  h w2 fun b h1 hl => (h2 b h1 (by have := hb.size; omega)).trans (hb.block b hl)

theorem SvsA.mono {w : World} {B B' : Nat} {a : Option Addr} {l : List Sv} (h : SvsA w B a l) (hb : B' ≤ B) : SvsA w B' a l := fun w2 h2 =>
  h w2 fun b h1 hl => h2 b (by omega) hl

theorem SvsA.setR {w : World} {B N : Nat} {a : Option Addr} {l : List Sv} (h : SvsA w B a l) (hN : N < B) (o : Nat) (v : Value) : SvsA (w.setCell ⟨N, o, none⟩ v) B a l := fun w2 h2 =>
  h w2 fun b h1 hl => (h2 b h1 (by simpa using hl)).trans (Below.heap_setCell w ⟨N, o, none⟩ v b (by simp; omega))

theorem SvsA.of_to {w : World} {N : Nat} {t : TypeId} {f : Nat → Value} {l : List Sv} (hR : w.rowIs N t (l.length * 6) f) (hO : SvTo w N f l l.length) : SvsA w N (some ⟨N, 0, none⟩) l := fun w2 h2 => by
  have hO2 : SvTo w2 N f l l.length := fun i c hi hc => by
    obtain ⟨r4, k4, r5, k5, c0, c1, c2, c3, c4, c5, q4, m4, R4, q5, m5, R5, e4, e5⟩ := hO i c hi hc
    exact ⟨r4, k4, r5, k5, c0, c1, c2, c3, c4, c5, q4.of_block fun b hb => h2 b (by have := (R4.lt hb).1; omega) (R4.lt hb).2, m4, R4.of_block fun b hb => h2 b (by have := (R4.lt hb).1; omega) (R4.lt hb).2, q5.of_block fun b hb => h2 b (by have := (R5.lt hb).1; omega) (R5.lt hb).2, m5, R5.of_block fun b hb => h2 b (by have := (R5.lt hb).1; omega) (R5.lt hb).2, e4, e5⟩
  exact ⟨Svs.of_to (hR.of_block (h2 N (Nat.le_refl _) hR.lt)) hO2, SvsK.of_to (hR.of_block (h2 N (Nat.le_refl _) hR.lt)) hO2⟩

set_option maxHeartbeats 1000000 in
theorem eqServer_same (c : Sv) (r4 t4 r5 t5 : Option Addr) (k4 j4 k5 j5 : Nat) (w : World) (h4 : Ints w r4 c.got) (g4 : Ints w t4 c.got) (l4 : c.got.length ≤ maxLen) (h5 : Ints w r5 c.log) (g5 : Ints w t5 c.log) (l5 : c.log.length ≤ maxLen) :
    Calls Try.prog 59 #[.agg #[.int .i64 c.term, .int .i64 c.voted, .bool c.stands, .bool c.leads, .slice r4 c.got.length k4, .slice r5 c.log.length k5], .agg #[.int .i64 c.term, .int .i64 c.voted, .bool c.stands, .bool c.leads, .slice t4 c.got.length j4, .slice t5 c.log.length j5]] w fun r w' => r = .returned (.bool true) ∧ Below w.heap.size w w' := by
  have b2 : (c.stands != c.stands) = false := by simp
  have b2' : (!(c.stands == c.stands)) = false := by simp
  have b3 : (c.leads != c.leads) = false := by simp
  have b3' : (!(c.leads == c.leads)) = false := by simp
  have HB : ∀ x y, Below w.heap.size w ((w.alloc x).alloc y) := fun _ _ => ((Below.refl _ _).alloc (Nat.le_refl _) _).alloc (by simp) _
  go_enter Try.func59, Try.ntmps59
  go_wp2_with fail
  refine (eqIntS_same _ _ _ _ _ _ (h4.below (HB _ _)) (g4.below (HB _ _)) l4).mono ?_
  rintro r w1 ⟨rfl, hB⟩
  have p5 : w1.cell? ⟨w.heap.size, 5, none⟩ = some (.slice r5 c.log.length k5) := celB hB (by simp [go_sem])
  have o5 : w1.cell? ⟨w.heap.size + 1, 5, none⟩ = some (.slice t5 c.log.length j5) := celB hB (by simp [go_sem])
  have BB : Below w.heap.size w w1 := (HB _ _).trans (hB.mono (HB _ _).size)
  clear hB
  go_wp2_with fail
  refine (eqIntS_same _ _ _ _ _ _ (h5.below BB) (g5.below BB) l5).mono ?_
  rintro r w2 ⟨rfl, hB⟩
  replace BB : Below w.heap.size w w2 := BB.trans (hB.mono BB.size)
  clear hB
  go_wp2
  go_ret
  exact ⟨rfl, BB⟩

set_option maxHeartbeats 1000000 in
theorem eqServerS_same (a a2 : Option Addr) (c c2 : Nat) (l : List Sv) (w : World) (hx : Svs w a l) (hy : Svs w a2 l) (hl : l.length ≤ maxLen) :
    Calls Try.prog 37 #[.slice a l.length c, .slice a2 l.length c2] w fun e w' => e = .returned (.bool true) ∧ Below w.heap.size w w' := by
  unfold maxLen at hl
  go_enter Try.func37, Try.ntmps37
  go_wp2
  go_loopw [5] (fun i wr => ∃ k : Nat, k ≤ l.length ∧ i = .int .i64 k ∧ Below w.heap.size w wr) (fun i _ => l.length - (intOf i).toNat)
  case atStart => exact ⟨0, Nat.zero_le _, rfl, Below.refl _ _⟩
  case round =>
    obtain ⟨k, hk, rfl, hB⟩ := hrel
    by_cases hlt : k < l.length
    · obtain ⟨b, hkb⟩ := getSv hlt
      obtain ⟨kb, ob, rfl, hbt⟩ := (hx.below hB) k b hkb
      obtain ⟨r4, k4, r5, k5, c0, c1, c2, c3, c4, c5, q4, m4, q5, m5⟩ := hbt
      obtain ⟨kb2, ob2, rfl, hbt2⟩ := (hy.below hB) k b hkb
      obtain ⟨t4, j4, t5, j5, d0, d1, d2, d3, d4, d5, g4, -, g5, -⟩ := hbt2
      clear hx hy hkb
      go_wp2
      go_region_with (go_at_call 59; refine (eqServer_same _ _ _ _ _ _ _ _ _ _ ?_ ?_ m4 ?_ ?_ m5).mono ?_; exact q4.below (Below.refl _ _).drew; exact g4.below (Below.refl _ _).drew; exact q5.below (Below.refl _ _).drew; exact g5.below (Below.refl _ _).drew; rintro r w1 ⟨rfl, hB1⟩)
      all_goals
        go_wp2
        go_roundw
        case rel => exact ⟨k + 1, by omega, by go_num, hB.drew.trans (hB1.mono (by simpa using hB.size))⟩
        case measure => simp [intOf]; omega
    · go_wp2
      go_ret
      exact ⟨rfl, hB⟩

end Go.Proofs.Ythbhokpjedndaaa
