/-
  What holds while impl.withFile copies the files of a disk.
-/
import Derived.Test.YtopndglgbollfaaDoorDskImpl
import Derived.Test.YtopndglgbollfaaDoorClone
import Derived.Deep.RegionLaw
import Derived.Deep.AppendLies
namespace Go.Proofs.YtopndglgbollfaaDoor
open Go.RowKit

theorem ownsF_of_block {w w' : World} {B : Nat} {e : TypeId} {size : Nat} {v : Value} {n : Nat} {xs : List Value} (h : w.ownsRow B e size v n xs) (hs : ∀ q, v.ownBlock = some q → w'.heap[q]? = w.heap[q]?) : w'.ownsRow B e size v n xs := by
  obtain ⟨h1, h2 | ⟨g, cap, cur, hv, hg, hh, r⟩⟩ := h
  · exact ⟨h1, .inl h2⟩
  · exact ⟨h1, .inr ⟨g, cap, cur, hv, hg, (hs g (by rw [hv]; rfl)).trans hh, r⟩⟩

theorem ownsF_below {w w' : World} {B : Nat} {e : TypeId} {size : Nat} {v : Value} {n : Nat} {xs : List Value} (h : w.ownsRow B e size v n xs) (hb : Below w.heap.size w w') : w'.ownsRow B e size v n xs :=
  ownsF_of_block h fun q hq => hb.block q (h.lt q hq).2

theorem Fls.lt {w : World} {a : Option Addr} {fs : List Fl} (h : Fls w a fs) : ∀ b, InB a fs.length b → b < w.heap.size := fun b ⟨h0, o, s, e⟩ => by
  obtain ⟨f, hf⟩ := getFl (fs := fs) h0
  obtain ⟨k, o', e', hc, -⟩ := h 0 f hf
  rw [e'] at e
  simp only [Option.some.injEq, Addr.mk.injEq] at e
  have := lt_of_cell hc
  omega

/-- While the files are copied: W the blocks that were there, T the block of the turned file, M + 1 that of the answer's variable. -/
structure WSt (w : World) (T M : Nat) (a : Option Addr) (fs ys : List Fl) (x : Fl) (j g cap : Nat) (wr : World) : Prop where
  oc : wr.cell? ⟨M + 1, 0, none⟩ = some (.slice (some ⟨g, 0, none⟩) j cap)
  fo : wr.frozen? ⟨M + 1, 0, none⟩ = false
  ne : g ≠ M + 1
  own : wr.ownsRow M 45 2 (.slice (some ⟨g, 0, none⟩) j cap) j (flCells (ys.take j))
  x0 : wr.cell? ⟨T, 0, none⟩ = some (.string x.bytes)
  x1 : wr.cell? ⟨T, 1, none⟩ = some (.int .i64 x.syn)
  fl : Fls wr a fs
  rc : wr.cell? ⟨w.heap.size + 1, 0, none⟩ = some (.slice none 0 0)
  rf : wr.frozen? ⟨w.heap.size + 1, 0, none⟩ = false
  bel : Below w.heap.size w wr
  sz : M + 1 < wr.heap.size

theorem ws_step {w : World} {T M : Nat} {a : Option Addr} {fs ys : List Fl} {x e : Fl} {j g cap g2 cap2 : Nat} {wr u w6 : World} (h : WSt w T M a fs ys x j g cap wr) (hla : ∀ b, InB a fs.length b → b < w.heap.size) (hT : w.heap.size + 1 < T) (hM : T < M) (he : ys[j]? = some e)
    (hu : Below wr.heap.size wr u) (hgrow : u.grownBy w6 (Value.slice (some ⟨g, 0, none⟩) j cap).ownBlock) (hown : w6.ownsRow M 45 2 (.slice (some ⟨g2, 0, none⟩) (j + 1) cap2) (j + 1) (flCells (ys.take j) ++ [.string e.bytes, .int .i64 e.syn]))
    (hat : (Value.slice (some ⟨g, 0, none⟩) j cap).ownBlock = some g2 ∨ g2 = u.heap.size) :
    WSt w T M a fs ys x (j + 1) g2 cap2 (w6.setCell ⟨M + 1, 0, none⟩ (.slice (some ⟨g2, 0, none⟩) (j + 1) cap2)) := by
  have hgM : M ≤ g := (h.own.lt g rfl).1
  have hgl : g < wr.heap.size := (h.own.lt g rfl).2
  have hus := hu.size
  have hsz := h.sz
  have hne2 : g2 ≠ M + 1 := by
    rcases hat with e' | e'
    · simp only [Value.ownBlock, Option.some.injEq] at e'
      have := h.ne
      omega
    · omega
  have hblk : ∀ b, b < wr.heap.size → b ≠ g → w6.heap[b]? = wr.heap[b]? := fun b hb hne => (hgrow.block b (by omega) (by simpa [Value.ownBlock] using hne)).trans (hu.block b hb)
  have hset : ∀ b, b < wr.heap.size → b ≠ g → b ≠ M + 1 → (w6.setCell ⟨M + 1, 0, none⟩ (.slice (some ⟨g2, 0, none⟩) (j + 1) cap2)).heap[b]? = wr.heap[b]? := fun b hb hne hn => (Below.heap_setCell _ ⟨M + 1, 0, none⟩ _ b (by simpa using hn)).trans (hblk b hb hne)
  have ltT := lt_of_cell h.x0
  have ltR := lt_of_cell h.rc
  have hbs := h.bel.size
  refine ⟨?_, ?_, hne2, ?_, ?_, ?_, ?_, ?_, ?_, ?_, ?_⟩
  · have hc : w6.cell? ⟨M + 1, 0, none⟩ = some (.slice (some ⟨g, 0, none⟩) j cap) := (World.cell?_of_block (a := ⟨M + 1, 0, none⟩) (hblk (M + 1) hsz (by have := h.ne; omega))).trans h.oc
    simp [go_sem, hc]
  · have hf : w6.frozen? ⟨M + 1, 0, none⟩ = false := (World.frozen?_of_block (a := ⟨M + 1, 0, none⟩) (hblk (M + 1) hsz (by have := h.ne; omega))).trans h.fo
    simp [go_sem, hf]
  · have et : flCells (ys.take (j + 1)) = flCells (ys.take j) ++ [.string e.bytes, .int .i64 e.syn] := by
      rw [takeFl_snoc he, flCells_app]; rfl
    rw [et]
    exact ownsF_of_block hown fun q hq => by
      simp only [Value.ownBlock, Option.some.injEq] at hq
      exact Below.heap_setCell _ ⟨M + 1, 0, none⟩ _ q (by simp; omega)
  · exact (World.cell?_of_block (a := ⟨T, 0, none⟩) (hset T ltT (by omega) (by omega))).trans h.x0
  · exact (World.cell?_of_block (a := ⟨T, 1, none⟩) (hset T ltT (by omega) (by omega))).trans h.x1
  · exact h.fl.of_block fun b hb => hset b (by have := hla b hb; omega) (by have := hla b hb; omega) (by have := hla b hb; omega)
  · exact (World.cell?_of_block (a := ⟨w.heap.size + 1, 0, none⟩) (hset (w.heap.size + 1) ltR (by omega) (by omega))).trans h.rc
  · exact (World.frozen?_of_block (a := ⟨w.heap.size + 1, 0, none⟩) (hset (w.heap.size + 1) ltR (by omega) (by omega))).trans h.rf
  · exact ((h.bel.trans (hu.mono h.bel.size)).grown hgrow (by omega) (fun q hq => by simp [Value.ownBlock] at hq; omega)).setCell (by simp; omega) _
  · have := hgrow.size
    simp
    omega

theorem ws_start {w w3 : World} {T : Nat} {a : Option Addr} {fs ys : List Fl} {x : Fl} {z : Value} {n : Nat} (x0 : w3.cell? ⟨T, 0, none⟩ = some (.string x.bytes)) (x1 : w3.cell? ⟨T, 1, none⟩ = some (.int .i64 x.syn)) (fl : Fls w3 a fs) (rc : w3.cell? ⟨w.heap.size + 1, 0, none⟩ = some (.slice none 0 0)) (rf : w3.frozen? ⟨w.heap.size + 1, 0, none⟩ = false) (bel : Below w.heap.size w w3) (hn : n ≤ 4) :
    WSt w T w3.heap.size a fs ys x 0 w3.heap.size n ((w3.alloc (.cells (madeCells z.cells (n * 2)) 45)).alloc (.cells #[.slice (some ⟨w3.heap.size, 0, none⟩) 0 n] 28)) := by
  have hb : ∀ p q, Below w3.heap.size w3 ((w3.alloc p).alloc q) := fun _ _ => ((Below.refl _ _).alloc (Nat.le_refl _) _).alloc (by simp) _
  have cel : ∀ {b o : Nat} {v : Value} (p q : Obj), w3.cell? ⟨b, o, none⟩ = some v → ((w3.alloc p).alloc q).cell? ⟨b, o, none⟩ = some v := fun {b o v} p q h => ((hb p q).cell (p := ⟨b, o, none⟩) (lt_of_cell h)).trans h
  have hbs := bel.size
  refine ⟨by simp [go_sem], by simp [go_sem], by omega, ?_, cel _ _ x0, cel _ _ x1, fl.below (hb _ _), cel _ _ rc, ?_, bel.trans ((hb _ _).mono bel.size), by simp⟩
  · exact (World.ownsRow_made (base := w3.heap.size) (e := 45) (size := 2) w3 (madeCells z.cells (n * 2)) n (Nat.le_refl _) (by unfold maxLen; omega) (by rw [size_madeCells])).alloc _
  · exact ((hb _ _).frozen (p := ⟨w.heap.size + 1, 0, none⟩) (lt_of_cell rc)).trans rf

theorem app_run {w5 : World} {M g j cap : Nat} {xs : List Value} (e : Fl) (hown : w5.ownsRow M 45 2 (.slice (some ⟨g, 0, none⟩) j cap) j xs) (hj : j ≤ 8) (hM : M ≤ w5.heap.size) :
    ∃ g2 cap2 w6, (Builtin.append_ #[26, 26] 26 #[.slice (some ⟨g, 0, none⟩) j cap, .slice (some ⟨w5.heap.size, 0, none⟩) 1 1]).run Tryd.prog (w5.alloc (.cells #[.string e.bytes, .int .i64 e.syn] 45)) = .ok (.slice (some ⟨g2, 0, none⟩) (j + 1) cap2) w6 ∧
      w6.ownsRow M 45 2 (.slice (some ⟨g2, 0, none⟩) (j + 1) cap2) (j + 1) (xs ++ [.string e.bytes, .int .i64 e.syn]) ∧ (w5.alloc (.cells #[.string e.bytes, .int .i64 e.syn] 45)).grownBy w6 (Value.slice (some ⟨g, 0, none⟩) j cap).ownBlock ∧ ((Value.slice (some ⟨g, 0, none⟩) j cap).ownBlock = some g2 ∨ g2 = w5.heap.size + 1) ∧ g2 < w6.heap.size := by
  obtain ⟨i0, hi, hz0, hz1, hz2⟩ := info_parts Tryd.infoFile
  exact run_append_lies _ 26 26 M 45 i0 _ 2 24 Tryd.underlying26 hi hz0 hz1 hz2 rfl (by omega) _ j xs (hown.alloc _) ⟨w5.heap.size, 0, none⟩ 1 1 [.string e.bytes, .int .i64 e.syn] rfl (World.news_of_block (cs := #[.string e.bytes, .int .i64 e.syn]) (t := 45) (fr := (0, 0)) (heap_alloc_new w5 _)) (by simp [Value.oneCell']) (by omega) (by unfold maxLen; omega) (by omega) (by simp; omega) (w5.heap.size + 1) (by simp)

end Go.Proofs.YtopndglgbollfaaDoor
