/-
  Lists of events that are cut, gathered anew and written into: what spec.(*l1Cur).events does with those that wait, and with one event in the end.
-/
import Derived.Test.YtiabgomeogcpnaaDoorPstD
namespace Go.Proofs.YtiabgomeogcpnaaDoor
open Go.RowKit

/-- The events of a row that a call owns, apart from the cursor. -/
theorem evs_nb {w : World} {B p : Nat} {a : Option Addr} {c : Nat} {l : List Ev} (h : w.ownsRow B 58 3 (.slice a l.length c) l.length (l.flatMap evC)) (hp : p < B) : (Evs w a l ∧ ∀ b, InI a l.length b → b ≠ p) ∧ l.length ≤ c :=
  ⟨⟨(evs_of_owns h).1, fun b hb => by
    obtain ⟨-, o, s, e⟩ := hb
    have := (h.lt b (by rw [e]; rfl)).1
    omega⟩, (evs_of_owns h).2⟩
/-- What was drawn stays, whatever the cursor does. -/
theorem E_far {w w' : World} {p : Nat} {a : Option Addr} {l : List Ev} (h : Evs w a l ∧ ∀ b, InI a l.length b → b ≠ p) (hf : Far p w w') : Evs w' a l ∧ ∀ b, InI a l.length b → b ≠ p :=
  ⟨h.1.of_block fun b hb => hf.blk b (h.1.lt b hb) (h.2 b hb), h.2⟩

theorem evs_take {w : World} {a : Option Addr} {l : List Ev} (h : Evs w a l) (j : Nat) : Evs w a (l.take j) := fun i z hi => by
  have hlt := (List.getElem?_eq_some_iff.1 hi).1
  rw [List.length_take] at hlt
  rw [List.getElem?_take_of_lt (by omega)] at hi
  exact h i z hi
/-- Where what follows a place begins. -/
def pdE (b o c j : Nat) : Option Addr := if c = j + 1 then some ⟨b, o, none⟩ else some ⟨b, o + (j + 1) * 3, none⟩
theorem pdE_eq (b o c j : Nat) : (if c = j + 1 then some (⟨b, o, none⟩ : Addr) else some ⟨b, o + (j + 1) * 3, none⟩) = pdE b o c j := rfl
theorem evs_pd {w : World} {b o c j : Nat} {l : List Ev} (h : Evs w (some ⟨b, o, none⟩) l) (hc : l.length ≤ c) (_hj : j < l.length) : Evs w (pdE b o c j) (l.drop (j + 1)) := by
  unfold pdE
  split
  · rw [List.drop_of_length_le (by omega)]; exact Evs.nil _ _
  · intro i z hi
    rw [List.getElem?_drop] at hi
    obtain ⟨b', o', e, hc⟩ := h _ z hi
    simp only [Option.some.injEq, Addr.mk.injEq, and_true] at e
    obtain ⟨rfl, rfl⟩ := e
    refine ⟨b, o + (j + 1) * 3, rfl, ?_⟩
    rw [show o + (j + 1) * 3 + i * 3 = o + (j + 1 + i) * 3 by omega]
    exact hc
theorem srcE {w : World} {a : Option Addr} {c n : Nat} {l : List Ev} (hn : l.length = n) (h : Evs w a l) : SrcZ w (.slice a n c) n 3 (l.flatMap evC) := by
  subst hn
  refine srcZ_flat (C := evC) (s := 3) evC_len (by omega) (fun e => evC_one e) c (fun i x hi => ?_)
  obtain ⟨k, o, e, h0, h1, h2⟩ := h i x hi
  refine ⟨k, o, e, fun r u hu => ?_⟩
  have hr : r < 3 := by have := (List.getElem?_eq_some_iff.1 hu).1; simpa [evC] using this
  rcases (by omega : r = 0 ∨ r = 1 ∨ r = 2) with rfl | rfl | rfl
  · obtain rfl : Value.int .i64 x.pr = u := by simpa [evC] using hu
    exact h0
  · obtain rfl : Value.int .i64 x.kd = u := by simpa [evC] using hu
    exact h1
  · obtain rfl : Value.int .i64 x.ms = u := by simpa [evC] using hu
    exact h2
theorem erase_ownE {w : World} {B j : Nat} {v : Value} {x : List Ev} (hel : (x.eraseIdx j).length = j + (x.length - (j + 1))) (h : w.ownsRow B 58 3 v (j + (x.length - (j + 1))) ((x.take j).flatMap evC ++ (x.drop (j + 1)).flatMap evC)) : w.ownsRow B 58 3 v (x.eraseIdx j).length ((x.eraseIdx j).flatMap evC) := by
  rw [hel, List.eraseIdx_eq_take_drop_succ, List.flatMap_append]; exact h
theorem own_leE {N B q : Nat} (lx : B ≤ N) (hq : (Value.slice (some ⟨N, 0, none⟩) 0 0).ownBlock = some q) : B ≤ q := by
  simp [Value.ownBlock] at hq; omega
theorem erase_numsE (x : List Ev) (j : Nat) (hjl : j < x.length) (hx7 : x.length ≤ 25) :
    Hid ((x.take j).length = j) ∧ Hid ((x.drop (j + 1)).length = x.length - (j + 1)) ∧ Hid (0 + j ≤ maxLen) ∧ Hid ((0 + j) * 24 ≤ 140737488355328) ∧ Hid (j + (x.length - (j + 1)) ≤ maxLen) ∧ Hid ((j + (x.length - (j + 1))) * 24 ≤ 140737488355328) ∧ Hid ((x.eraseIdx j).length = j + (x.length - (j + 1))) := by
  have hel : (x.eraseIdx j).length = j + (x.length - (j + 1)) := by rw [List.length_eraseIdx]; simp [hjl]; omega
  refine ⟨?_, ?_, ?_, ?_, ?_, ?_, hel⟩
  · show _ = _; rw [List.length_take]; omega
  · show _ = _; rw [List.length_drop]
  · show _ ≤ _; unfold maxLen; omega
  · show _ ≤ _; omega
  · show _ ≤ _; unfold maxLen; omega
  · show _ ≤ _; omega
theorem wk_le {x : List Ev} {q k n : Nat} (h : (x.eraseIdx q).length = q + (x.length - (q + 1))) (hq : q < x.length) (hw : x.length + k ≤ n) : (x.eraseIdx q).length + (k - 1) ≤ n := by omega
theorem owns_emptyE {w : World} {b B : Nat} {t : TypeId} (h : w.heap[b]? = some (.cells #[] t (0, 0))) (hB : B ≤ b) : w.ownsRow B t 3 (.slice (some ⟨b, 0, none⟩) 0 0) 0 [] := owns_emptyZ h hB

theorem cur_set {u : World} {p : Nat} {a : Option Addr} {bs : List UInt8} {c z g i : Nat} {v : Value} (h : Cur u p a bs c z) (hg : p < g) : Cur (u.setCell ⟨g, i, none⟩ v) p a bs c z := by
  have same : ∀ b, b ≠ g → (u.setCell ⟨g, i, none⟩ v).heap[b]? = u.heap[b]? := fun b hb => Below.heap_setCell u ⟨g, i, none⟩ v b hb
  have hb := same p (by omega)
  obtain ⟨s, hs2⟩ := h.c2
  exact ⟨(World.cell?_of_block (a := ⟨p, 0, none⟩) hb).trans h.c0, (World.cell?_of_block (a := ⟨p, 1, none⟩) hb).trans h.c1, ⟨s, (World.cell?_of_block (a := ⟨p, 2, none⟩) hb).trans hs2⟩, fun i => (World.frozen?_of_block (a := ⟨p, i, none⟩) hb).trans (h.f i), h.by_.of_block (fun b hi => same b (by have := h.lo b hi; omega)), h.lo, h.sm⟩
theorem far_set {w u : World} {p g i : Nat} {v : Value} (h : Far p w u) (hp : p < w.heap.size) (hg : w.heap.size ≤ g) : Far p w (u.setCell ⟨g, i, none⟩ v) :=
  ⟨Below.setCell h.bel (p := ⟨g, i, none⟩) (by show p ≤ g; omega) v, fun b hb hne => (Below.heap_setCell u ⟨g, i, none⟩ v b (by show b ≠ g; omega)).trans (h.blk b hb hne)⟩

/-- One event of a row put anew. -/
theorem evs_put {w : World} {B c j : Nat} {a : Option Addr} {l : List Ev} (e : Ev) (h : w.ownsRow B 58 3 (.slice a l.length c) l.length (l.flatMap evC)) (hj : j < l.length) :
    ∃ g, a = some ⟨g, 0, none⟩ ∧ B ≤ g ∧ (∃ x, w.cell? ⟨g, j * 3, none⟩ = some x) ∧ (∃ x, w.cell? ⟨g, j * 3 + 1, none⟩ = some x) ∧ (∃ x, w.cell? ⟨g, j * 3 + 2, none⟩ = some x) ∧ (∀ o, w.frozen? ⟨g, o, none⟩ = false) ∧ l.length ≤ c ∧
      Evs (((w.setCell ⟨g, j * 3, none⟩ (.int .i64 e.pr)).setCell ⟨g, j * 3 + 1, none⟩ (.int .i64 e.kd)).setCell ⟨g, j * 3 + 2, none⟩ (.int .i64 e.ms)) (some ⟨g, 0, none⟩) (l.set j e) := by
  obtain ⟨hE, hlc⟩ := evs_of_owns h
  obtain ⟨g, cap, f, hv, hg, hn, hR, hx⟩ := row_of_ownsZ h (by omega)
  simp only [Value.slice.injEq] at hv
  obtain ⟨rfl, -, rfl⟩ := hv
  refine ⟨g, rfl, hg, ⟨_, hR.cell (by omega)⟩, ⟨_, hR.cell (by omega)⟩, ⟨_, hR.cell (by omega)⟩, fun o => hR.frozen o, hlc, fun i x hi => ⟨g, 0, rfl, ?_⟩⟩
  have hilt : i < l.length := by have := (List.getElem?_eq_some_iff.1 hi).1; simpa using this
  have R3 := ((hR.set (j * 3) (.int .i64 e.pr)).set (j * 3 + 1) (.int .i64 e.kd)).set (j * 3 + 2) (.int .i64 e.ms)
  by_cases e1 : i = j
  · subst e1
    rw [List.getElem?_set_self hilt] at hi
    obtain rfl := Option.some.inj hi
    refine ⟨?_, ?_, ?_⟩
    · rw [Nat.zero_add, R3.cell (by omega)]; simp
    · rw [Nat.zero_add, R3.cell (by omega)]; simp
    · rw [Nat.zero_add, R3.cell (by omega)]; simp
  · rw [List.getElem?_set_ne (by omega)] at hi
    obtain ⟨k, o, ea, h0, h1, h2⟩ := hE i x hi
    simp only [Option.some.injEq, Addr.mk.injEq, and_true] at ea
    obtain ⟨rfl, rfl⟩ := ea
    rw [Nat.zero_add, hR.cell (by omega)] at h0 h1 h2
    refine ⟨?_, ?_, ?_⟩
    · rw [Nat.zero_add, R3.cell (by omega), ← h0]; simp; rw [if_neg (by omega), if_neg (by omega), if_neg (by omega)]
    · rw [Nat.zero_add, R3.cell (by omega), ← h1]; simp; rw [if_neg (by omega), if_neg (by omega), if_neg (by omega)]
    · rw [Nat.zero_add, R3.cell (by omega), ← h2]; simp; rw [if_neg (by omega), if_neg (by omega), if_neg (by omega)]

end Go.Proofs.YtiabgomeogcpnaaDoor
