/-
  Slices of batches as a call reads them, and the contracts of szBatchS, toBatchS, eqBatchS on them.
-/
import Derived.Test.YtopndglgbollfaaDoorBat
import Derived.Deep.RegionWith
namespace Go.Proofs.YtopndglgbollfaaDoor
open Go.RowKit

/-- At block k, from cell o on, a batch lies. -/
def BatAt (w : World) (k o : Nat) (b : Bt) : Prop :=
  ∃ ra rc, w.cell? ⟨k, o, none⟩ = some (.int .i64 b.off) ∧ w.cell? ⟨k, o + 1, none⟩ = some (.int .i64 b.ep) ∧ w.cell? ⟨k, o + 2, none⟩ = some (.int .i64 b.pr) ∧ w.cell? ⟨k, o + 3, none⟩ = some (.int .i64 b.sq) ∧
    w.cell? ⟨k, o + 4, none⟩ = some (.slice ra b.recs.length rc) ∧ Strs w ra b.recs ∧ b.recs.length ≤ maxLen

/-- The slice value at 'a' reads as these batches. -/
def Bats (w : World) (a : Option Addr) (bs : List Bt) : Prop :=
  ∀ i b, bs[i]? = some b → ∃ k o, a = some ⟨k, o, none⟩ ∧ BatAt w k (o + i * 5) b

theorem BatAt.below {w w' : World} {k o : Nat} {b : Bt} (h : BatAt w k o b) (hb : Below w.heap.size w w') : BatAt w' k o b := by
  obtain ⟨ra, rc, h0, h1, h2, h3, h4, hs, hl⟩ := h
  have lt := lt_of_cell h0
  exact ⟨ra, rc, (hb.cell (p := ⟨k, o, none⟩) lt).trans h0, (hb.cell (p := ⟨k, o + 1, none⟩) lt).trans h1, (hb.cell (p := ⟨k, o + 2, none⟩) lt).trans h2, (hb.cell (p := ⟨k, o + 3, none⟩) lt).trans h3, (hb.cell (p := ⟨k, o + 4, none⟩) lt).trans h4, hs.below hb, hl⟩

theorem Bats.below {w w' : World} {a : Option Addr} {bs : List Bt} (h : Bats w a bs) (hb : Below w.heap.size w w') : Bats w' a bs := fun i b hi => by
  obtain ⟨k, o, e, hB⟩ := h i b hi
  exact ⟨k, o, e, hB.below hb⟩

theorem getBt {bs : List Bt} {k : Nat} (h : k < bs.length) : ∃ s, bs[k]? = some s := ⟨_, List.getElem?_eq_getElem h⟩

theorem takeBt_snoc {ss : List Bt} {k : Nat} {s : Bt} (h : ss[k]? = some s) : ss.take (k + 1) = ss.take k ++ [s] := by
  rw [List.take_add_one, h]; rfl

theorem drop_cons {bs : List Bt} {k : Nat} {b : Bt} (h : bs[k]? = some b) : bs.drop k = b :: bs.drop (k + 1) := by
  obtain ⟨hlt, e⟩ := List.getElem?_eq_some_iff.1 h
  rw [List.drop_eq_getElem_cons hlt, e]

/-- What szBatchS answers, the batches one by one. -/
def szBs : List Bt → Int → Int
  | [], left => left
  | b :: r, left => if szS b.recs left < 0 then -1 else szBs r (szS b.recs left)

def szL (bs : List Bt) (left : Int) : Int := if left - bs.length < 0 then -1 else szBs bs (left - bs.length)

theorem Tryd.infoBatch : (Tryd.prog.info? 60).map (fun i => (i.zero, i.size, i.bytes)) = some (some (.agg #[.int .i64 0, .int .i64 0, .int .i64 0, .int .i64 0, .slice none 0 0]), 5, 56) := by kernel_rfl

/-- make([]T, n), T of several cells. -/
theorem run_make_many {P : Program} (t e : TypeId) (z : Value) (size bytes : Nat) (ht : P.underlying t = some (.slice e)) (hinfo : (P.info? e).map (fun i => (i.zero, i.size, i.bytes)) = some (some z, size, bytes))
    (kl kc : IntKind) (n : Nat) (hbytes : bytes * n ≤ 281474976710656) (h63 : n ≤ 9223372036854775807) (w : World) :
    (Instr.makeSlice t (.int kl (n : Int)) (.int kc (n : Int))).run P w = .ok (.slice (some ⟨w.heap.size, 0, none⟩) n n) (w.alloc (.cells (madeCells z.cells (n * size)) e)) := by
  obtain ⟨i, hi, hzz⟩ := Option.map_eq_some_iff.1 hinfo
  simp only [Prod.mk.injEq] at hzz
  obtain ⟨hz, rfl, rfl⟩ := hzz
  have hb' : (i.bytes : Int) * (n : Int) ≤ 281474976710656 := by
    have h : ((i.bytes * n : Nat) : Int) ≤ 281474976710656 := by omega
    rwa [Int.natCast_mul] at h
  have hr := run_make (P := P) w t e i z ht hi hz kl kc n n (by omega) (Int.le_refl _) hb' (by omega)
  simp only [Int.toNat_natCast] at hr
  exact hr

theorem rowIs_of_alloc (w : World) (c : Array Value) (t : TypeId) : (w.alloc (.cells c t)).rowIs w.heap.size t c.size (fun j => c.getD j undef) :=
  World.rowIs_alloc w c t _ (fun i hi => by simp [hi])

theorem Strs.set {w : World} {a : Option Addr} {ss : List ByteArray} {N : Nat} (h : Strs w a ss) (hF : FreshAt (N + 1) a) (o : Nat) (v : Value) : Strs (w.setCell ⟨N, o, none⟩ v) a ss := fun i s hi => by
  obtain ⟨b, off, rfl, hc, hz⟩ := h i s hi
  have := hF b off none rfl
  exact ⟨b, off, rfl, (World.cell?_of_block (w := w) (a := ⟨b, off + i, none⟩) (Below.heap_setCell w ⟨N, o, none⟩ v b (by simp; omega))).trans hc, hz⟩

/-- The row at N holds the first k batches; their records lie behind N. -/
def OwnTo (w : World) (N : Nat) (f : Nat → Value) (bs : List Bt) (k : Nat) : Prop :=
  ∀ i b, i < k → bs[i]? = some b → ∃ ra rc, f (i * 5) = .int .i64 b.off ∧ f (i * 5 + 1) = .int .i64 b.ep ∧ f (i * 5 + 2) = .int .i64 b.pr ∧ f (i * 5 + 3) = .int .i64 b.sq ∧ f (i * 5 + 4) = .slice ra b.recs.length rc ∧ Strs w ra b.recs ∧ b.recs.length ≤ maxLen ∧ FreshAt (N + 1) ra

theorem OwnTo.below {w w' : World} {N : Nat} {f : Nat → Value} {bs : List Bt} {k : Nat} (h : OwnTo w N f bs k) (hb : Below w.heap.size w w') : OwnTo w' N f bs k := fun i b hi hb' => by
  obtain ⟨ra, rc, h0, h1, h2, h3, h4, hs, hl, hF⟩ := h i b hi hb'
  exact ⟨ra, rc, h0, h1, h2, h3, h4, hs.below hb, hl, hF⟩

theorem own_step {w : World} {N : Nat} {t : TypeId} {n : Nat} {f : Nat → Value} {bs : List Bt} {k : Nat} {b : Bt} {a1 : Option Addr} {rc : Nat} (hR : w.rowIs N t (n * 5) f) (hO : OwnTo w N f bs k) (hb : bs[k]? = some b) (hs : Strs w a1 b.recs) (hl : b.recs.length ≤ maxLen) (hF : FreshAt (N + 1) a1) :
    ∃ g, (((((w.setCell ⟨N, k * 5, none⟩ (.int .i64 b.off)).setCell ⟨N, k * 5 + 1, none⟩ (.int .i64 b.ep)).setCell ⟨N, k * 5 + 2, none⟩ (.int .i64 b.pr)).setCell ⟨N, k * 5 + 3, none⟩ (.int .i64 b.sq)).setCell ⟨N, k * 5 + 4, none⟩ (.slice a1 b.recs.length rc)).rowIs N t (n * 5) g ∧
      OwnTo (((((w.setCell ⟨N, k * 5, none⟩ (.int .i64 b.off)).setCell ⟨N, k * 5 + 1, none⟩ (.int .i64 b.ep)).setCell ⟨N, k * 5 + 2, none⟩ (.int .i64 b.pr)).setCell ⟨N, k * 5 + 3, none⟩ (.int .i64 b.sq)).setCell ⟨N, k * 5 + 4, none⟩ (.slice a1 b.recs.length rc)) N g bs (k + 1) := by
  refine ⟨_, ((((hR.set _ _).set _ _).set _ _).set _ _).set _ _, fun i c hi hc => ?_⟩
  by_cases e : i = k
  · subst e
    obtain rfl : b = c := by rw [hb] at hc; simpa using hc
    refine ⟨a1, rc, ?_, ?_, ?_, ?_, ?_, ((((hs.set hF _ _).set hF _ _).set hF _ _).set hF _ _).set hF _ _, hl, hF⟩ <;> simp
  · obtain ⟨ra, rc', h0, h1, h2, h3, h4, hs', hl', hF'⟩ := hO i c (by omega) hc
    refine ⟨ra, rc', ?_, ?_, ?_, ?_, ?_, ((((hs'.set hF' _ _).set hF' _ _).set hF' _ _).set hF' _ _).set hF' _ _, hl', hF'⟩
    · rw [if_neg (by omega), if_neg (by omega), if_neg (by omega), if_neg (by omega), if_neg (by omega)]; exact h0
    · rw [if_neg (by omega), if_neg (by omega), if_neg (by omega), if_neg (by omega), if_neg (by omega)]; exact h1
    · rw [if_neg (by omega), if_neg (by omega), if_neg (by omega), if_neg (by omega), if_neg (by omega)]; exact h2
    · rw [if_neg (by omega), if_neg (by omega), if_neg (by omega), if_neg (by omega), if_neg (by omega)]; exact h3
    · rw [if_neg (by omega), if_neg (by omega), if_neg (by omega), if_neg (by omega), if_neg (by omega)]; exact h4

theorem Bats.of_own {w : World} {N : Nat} {t : TypeId} {f : Nat → Value} {bs : List Bt} (hR : w.rowIs N t (bs.length * 5) f) (hO : OwnTo w N f bs bs.length) : Bats w (some ⟨N, 0, none⟩) bs := fun i b hi => by
  have hlt := (List.getElem?_eq_some_iff.1 hi).1
  obtain ⟨ra, rc, h0, h1, h2, h3, h4, hs, hl, -⟩ := hO i b hlt hi
  refine ⟨N, 0, rfl, ra, rc, ?_, ?_, ?_, ?_, ?_, hs, hl⟩
  · rw [Nat.zero_add, hR.cell (by omega), h0]
  · rw [Nat.zero_add, hR.cell (by omega), h1]
  · rw [Nat.zero_add, hR.cell (by omega), h2]
  · rw [Nat.zero_add, hR.cell (by omega), h3]
  · rw [Nat.zero_add, hR.cell (by omega), h4]

end Go.Proofs.YtopndglgbollfaaDoor
