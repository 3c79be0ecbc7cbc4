/-
  A segment's marks as a call reads them, and as a call gathers them.
-/
import Derived.Test.YtomigekigcklfaaDoorMark2
import Derived.Test.YtomigekigcklfaaDoorLogs2J
import Derived.Test.YtomigekigcklfaaDoorEnc3J
import Derived.Deep.AppendLies
namespace Go.Proofs.YtomigekigcklfaaDoor
open Go.RowKit

/-- A segment's mark: a batch's offset, and where its bytes begin. -/
structure Im where
  off : Int
  at_ : Int
deriving DecidableEq

/-- At block k, from cell o on, a mark lies. -/
def ImAt (w : World) (k o : Nat) (f : Im) : Prop :=
  w.cell? ⟨k, o, none⟩ = some (.int .i64 f.off) ∧ w.cell? ⟨k, o + 1, none⟩ = some (.int .i64 f.at_)

/-- The slice value at 'a' reads as these marks. -/
def Ims (w : World) (a : Option Addr) (fs : List Im) : Prop :=
  ∀ i f, fs[i]? = some f → ∃ k o, a = some ⟨k, o, none⟩ ∧ ImAt w k (o + i * 2) f

theorem ImAt.below {w w' : World} {k o : Nat} {f : Im} (h : ImAt w k o f) (hb : Below w.heap.size w w') : ImAt w' k o f := by
  obtain ⟨h0, h1⟩ := h
  have lt := lt_of_cell h0
  exact ⟨(hb.cell (p := ⟨k, o, none⟩) lt).trans h0, (hb.cell (p := ⟨k, o + 1, none⟩) lt).trans h1⟩

theorem Ims.below {w w' : World} {a : Option Addr} {fs : List Im} (h : Ims w a fs) (hb : Below w.heap.size w w') : Ims w' a fs := fun i f hi => by
  obtain ⟨k, o, e, hB⟩ := h i f hi
  exact ⟨k, o, e, hB.below hb⟩

theorem Ims.nil (w : World) (a : Option Addr) : Ims w a [] := fun i f hi => by simp at hi

theorem getIm {fs : List Im} {k : Nat} (h : k < fs.length) : ∃ s, fs[k]? = some s := ⟨_, List.getElem?_eq_getElem h⟩

theorem Tryd.infoIm : (Tryd.prog.info? 96).map (fun i => (i.zero, i.size, i.bytes)) = some (some (.agg #[.int .i64 0, .int .i64 0]), 2, 16) := by kernel_rfl

/-- Room for n marks at 'a', in a block from B on that may be written. -/
def RowIm (w : World) (B : Nat) (a : Option Addr) (n : Nat) : Prop :=
  n = 0 ∨ ∃ g m f, a = some ⟨g, 0, none⟩ ∧ B ≤ g ∧ n * 2 ≤ m ∧ w.rowIs g 96 m f

def imCells : List Im → List Value
  | [] => []
  | m :: r => .int .i64 m.off :: .int .i64 m.at_ :: imCells r

theorem imCells_app : ∀ xs ys : List Im, imCells (xs ++ ys) = imCells xs ++ imCells ys
  | [], ys => rfl
  | q :: r, ys => by simp [imCells, imCells_app r ys]

theorem imCells_get : ∀ (ms : List Im) (i : Nat) (q : Im), ms[i]? = some q → (imCells ms)[i * 2]? = some (.int .i64 q.off) ∧ (imCells ms)[i * 2 + 1]? = some (.int .i64 q.at_)
  | [], i, q, h => by simp at h
  | p :: r, 0, q, h => by
    simp at h; subst h
    exact ⟨rfl, rfl⟩
  | p :: r, i + 1, q, h => by
    have := imCells_get r i q (by simpa using h)
    have e1 : (i + 1) * 2 = i * 2 + 1 + 1 := by omega
    rw [e1]
    exact ⟨this.1, this.2⟩

theorem ownsIm_form {w : World} {B : Nat} {e : TypeId} {size : Nat} {v : Value} {n : Nat} {xs : List Value} (h : w.ownsRow B e size v n xs) : ∃ a cap, v = .slice a n cap := by
  obtain ⟨-, ⟨rfl, rfl⟩ | ⟨g, cap, cur, rfl, -⟩⟩ := h
  · exact ⟨none, 0, rfl⟩
  · exact ⟨_, cap, rfl⟩

theorem ownsIm_below {w w' : World} {B : Nat} {e : TypeId} {size : Nat} {v : Value} {n : Nat} {xs : List Value} (h : w.ownsRow B e size v n xs) (hb : Below w.heap.size w w') : w'.ownsRow B e size v n xs := by
  obtain ⟨h1, h2 | ⟨g, cap, cur, hv, hg, hh, r⟩⟩ := h
  · exact ⟨h1, .inl h2⟩
  · have hlt := (Array.getElem?_eq_some_iff.1 hh).1
    exact ⟨h1, .inr ⟨g, cap, cur, hv, hg, (hb.block g hlt).trans hh, r⟩⟩

theorem ownsIm_mono {w : World} {B B' : Nat} {e : TypeId} {size : Nat} {v : Value} {n : Nat} {xs : List Value} (h : w.ownsRow B e size v n xs) (hB : B' ≤ B) : w.ownsRow B' e size v n xs := by
  obtain ⟨h1, h2 | ⟨g, cap, cur, hv, hg, r⟩⟩ := h
  · exact ⟨h1, .inl h2⟩
  · exact ⟨h1, .inr ⟨g, cap, cur, hv, by omega, r⟩⟩

theorem row_of_ownsIm {w : World} {B : Nat} {t : TypeId} {size : Nat} {v : Value} {n : Nat} {xs : List Value} (h : w.ownsRow B t size v n xs) (hn : 0 < n) :
    ∃ g cap f, v = .slice (some ⟨g, 0, none⟩) n cap ∧ B ≤ g ∧ n ≤ cap ∧ w.rowIs g t (cap * size) f ∧ ∀ i, i < n * size → xs[i]? = some (f i) := by
  obtain ⟨h1, ⟨hv, h0⟩ | ⟨g, cap, cur, hv, hg, hh, hnc, hcap, hcs, ht⟩⟩ := h
  · omega
  · have hle : n * size ≤ cap * size := Nat.mul_le_mul_right _ hnc
    refine ⟨g, cap, fun j => cur.getD j undef, hv, hg, hnc, ⟨cur, hh, hcs, fun i hi => by simp [hcs, hi]⟩, fun i hi => ?_⟩
    rw [← ht, List.getElem?_take_of_lt hi]
    have : i < cur.size := by omega
    simp [this]

/-- Marks that a call owns read as such, and may be written. -/
theorem ims_of_owns {w : World} {B : Nat} {a : Option Addr} {c : Nat} {ms : List Im} (h : w.ownsRow B 96 2 (.slice a ms.length c) ms.length (imCells ms)) : Ims w a ms ∧ RowIm w B a ms.length := by
  by_cases h0 : ms.length = 0
  · obtain rfl : ms = [] := List.eq_nil_of_length_eq_zero h0
    exact ⟨Ims.nil _ _, .inl rfl⟩
  · obtain ⟨g, cap, f, hv, hg, hn, hR, hx⟩ := row_of_ownsIm h (by omega)
    simp only [Value.slice.injEq] at hv
    obtain ⟨rfl, -, rfl⟩ := hv
    refine ⟨fun i b hi => ?_, .inr ⟨g, _, f, rfl, hg, Nat.mul_le_mul_right _ hn, hR⟩⟩
    have hlt := (List.getElem?_eq_some_iff.1 hi).1
    obtain ⟨g0, g1⟩ := imCells_get ms i b hi
    rw [hx _ (by omega)] at g0 g1
    have hle := Nat.mul_le_mul_right 2 hn
    refine ⟨g, 0, rfl, ?_, ?_⟩
    · rw [Nat.zero_add, hR.cell (by omega)]; exact g0
    · rw [Nat.zero_add, hR.cell (by omega)]; exact g1

/-- While marks are gathered. -/
structure ImSt (w wr : World) (v : Value) (ms : List Im) : Prop where
  own : wr.ownsRow w.heap.size 96 2 v ms.length (imCells ms)
  bel : Below w.heap.size w wr

theorem imst_start (w : World) : ImSt w w (.slice none 0 0) [] := ⟨World.ownsRow_nil _ _ _ _, Below.refl _ _⟩

theorem imst_below {w wr u : World} {v : Value} {ms : List Im} (h : ImSt w wr v ms) (hb : Below wr.heap.size wr u) : ImSt w u v ms :=
  ⟨ownsIm_below h.own hb, h.bel.trans (hb.mono h.bel.size)⟩

theorem imst_step {w u w6 : World} {v : Value} {ms : List Im} {q : Im} {g2 cap2 : Nat} (h : ImSt w u v ms)
    (hgrow : u.grownBy w6 v.ownBlock) (hown : w6.ownsRow w.heap.size 96 2 (.slice (some ⟨g2, 0, none⟩) (ms.length + 1) cap2) (ms.length + 1) (imCells ms ++ imCells [q])) :
    ImSt w w6 (.slice (some ⟨g2, 0, none⟩) (ms.length + 1) cap2) (ms ++ [q]) := by
  refine ⟨?_, h.bel.grown hgrow (by have := h.bel.size; omega) (fun k hk => (h.own.lt k hk).1)⟩
  rw [imCells_app, List.length_append, List.length_singleton]
  exact hown

abbrev imArr (q : Im) : Array Value := #[.int .i64 q.off, .int .i64 q.at_]

theorem imst_ans {w wr : World} {v : Value} {ms : List Im} (h : ImSt w wr v ms) : ∃ a' c', v = .slice a' ms.length c' ∧ Ims wr a' ms ∧ RowIm wr w.heap.size a' ms.length ∧ Below w.heap.size w wr := by
  obtain ⟨a, c, rfl⟩ := ownsIm_form h.own
  have := ims_of_owns h.own
  exact ⟨a, c, rfl, this.1, this.2, h.bel⟩

/-- Is a mark due where 'at_' bytes lie ahead? -/
def dueB (ms : List Im) (at_ : Nat) : Bool := match ms.getLast? with
  | none => true
  | some m => decide (m.at_ + 40 ≤ at_)

/-- One batch more: the marks, and the bytes ahead of the next. -/
def imS (s : List Im × Nat) (b : Bt) : List Im × Nat := (if dueB s.1 s.2 = true then s.1 ++ [⟨b.off, s.2⟩] else s.1, s.2 + (14 + recLen b.recs))
def imTo (bs : List Bt) (k : Nat) : List Im × Nat := (bs.take k).foldl imS ([], 0)
/-- The marks of a segment's batches. -/
def imL (bs : List Bt) : List Im := (imTo bs bs.length).1

theorem imTo_zero (bs : List Bt) : imTo bs 0 = ([], 0) := rfl
theorem imTo_succ {bs : List Bt} {k : Nat} {b : Bt} (h : bs[k]? = some b) : imTo bs (k + 1) = imS (imTo bs k) b := by
  unfold imTo
  rw [List.take_add_one, h]
  simp [List.foldl_append]

theorem imTo_facts {bs : List Bt} (hg : ∀ b, b ∈ bs → b.recs.length ≤ 8 ∧ ∀ s, s ∈ b.recs → s.size ≤ 20) : ∀ k, k ≤ bs.length → (imTo bs k).1.length ≤ k ∧ (imTo bs k).2 ≤ 182 * k ∧ (∀ m, m ∈ (imTo bs k).1 → 0 ≤ m.at_ ∧ m.at_ ≤ 182 * k) ∧ ((imTo bs k).1 = [] ↔ k = 0)
  | 0, _ => by simp [imTo_zero]
  | k + 1, h => by
    obtain ⟨h1, h2, h3, h4⟩ := imTo_facts hg k (by omega)
    obtain ⟨b, hb⟩ : ∃ b, bs[k]? = some b := ⟨_, List.getElem?_eq_getElem (by omega)⟩
    have hbm := hg b (List.mem_of_getElem? hb)
    have hr := recLen_le b.recs hbm.2
    rw [imTo_succ hb]
    unfold imS
    by_cases hd : dueB (imTo bs k).1 (imTo bs k).2 = true
    · rw [if_pos hd]
      refine ⟨by simp; omega, by simp only; omega, fun m hm => ?_, by simp⟩
      simp only [List.mem_append, List.mem_singleton] at hm
      rcases hm with hm | rfl
      · have := h3 m hm; omega
      · simp only; omega
    · rw [if_neg hd]
      refine ⟨by simp only; omega, by simp only; omega, fun m hm => by have := h3 m hm; omega, ?_⟩
      constructor
      · intro e
        exfalso
        simp only at e
        rw [e] at hd
        exact hd rfl
      · intro e; omega

end Go.Proofs.YtomigekigcklfaaDoor
