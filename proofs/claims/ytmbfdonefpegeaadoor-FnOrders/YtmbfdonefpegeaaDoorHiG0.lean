/-
  The search for the least order, the program's side: what its boxes hold, what a call keeps.
-/
import Derived.Test.YtmbfdonefpegeaaDoorHiN
import Derived.Test.YtmbfdonefpegeaaDoorHiI3
import Derived.Test.YtmbfdonefpegeaaDoorHiI2J
import Derived.Test.YtmbfdonefpegeaaDoorZan
import Derived.RangeFuncBox
namespace Go.Proofs.YtmbfdonefpegeaaDoor
open Go.RowKit

/-- All that lay is as it was but the box of the order and the order's own row. -/
def Kp (BO : Nat) (v : Value) (w w' : World) : Prop := w.heap.size ≤ w'.heap.size ∧ ∀ b, b < w.heap.size → b ≠ BO → some b ≠ v.ownBlock → w'.heap[b]? = w.heap[b]?
theorem Kp.refl (BO : Nat) (v : Value) (w : World) : Kp BO v w w := ⟨Nat.le_refl _, fun _ _ _ _ => rfl⟩
theorem Kp.of_below {BO : Nat} {v : Value} {w w' : World} (h : Below w.heap.size w w') : Kp BO v w w' := ⟨h.size, fun b hb _ _ => h.block b hb⟩
theorem Kp.bel {BO : Nat} {v : Value} {w u w' : World} (h : Kp BO v w u) (k : Below u.heap.size u w') : Kp BO v w w' := ⟨Nat.le_trans h.1 k.size, fun b hb h1 h2 => (k.block b (Nat.lt_of_lt_of_le hb h.1)).trans (h.2 b hb h1 h2)⟩
/-- The row that is written now is the row of the start or a new one. -/
def OwnK (v v1 : Value) (n : Nat) : Prop := ∀ b, v1.ownBlock = some b → v.ownBlock = some b ∨ n ≤ b
theorem OwnK.refl (v : Value) (n : Nat) : OwnK v v n := fun _ h => .inl h
theorem OwnK.trans {v v1 v2 : Value} {n m : Nat} (h : OwnK v v1 n) (k : OwnK v1 v2 m) (hm : n ≤ m) : OwnK v v2 n := fun b hb => by
  rcases k b hb with g | g
  · exact h b g
  · exact .inr (Nat.le_trans hm g)
theorem Kp.step {BO : Nat} {v v1 : Value} {w u w' : World} (h : Kp BO v w u) (hv : OwnK v v1 w.heap.size) (k : Kp BO v1 u w') : Kp BO v w w' :=
  ⟨Nat.le_trans h.1 k.1, fun b hb h1 h2 => (k.2 b (Nat.lt_of_lt_of_le hb h.1) h1 (fun e => by
    rcases hv b e.symm with g | g
    · exact h2 g.symm
    · omega)).trans (h.2 b hb h1 h2)⟩
theorem Kp.cell {BO : Nat} {v : Value} {w w' : World} {b off : Nat} {x : Value} (h : Kp BO v w w') (hb : b < w.heap.size) (h1 : b ≠ BO) (h2 : some b ≠ v.ownBlock) (hc : w.cell? ⟨b, off, none⟩ = some x) : w'.cell? ⟨b, off, none⟩ = some x :=
  (World.cell?_of_block (a := ⟨b, off, none⟩) (h.2 b hb h1 h2)).trans hc
theorem Kp.vx {BO : Nat} {v : Value} {w w' : World} {R : Nat} {p q r : Int} (h : Kp BO v w w') (h1 : R ≠ BO) (h2 : some R ≠ v.ownBlock) (hV : Vx w R p q r) : Vx w' R p q r :=
  World.rowIs.of_block hV (h.2 R (World.rowIs.lt hV) h1 h2)
theorem Kp.ints {BO M : Nat} {v : Value} {w w' : World} {a : Option Addr} {zs : List Int} (h : Kp BO v w w') (h1 : BO < M) (h2 : ∀ b, v.ownBlock = some b → b < M) (hz : Ints w a zs) (hr : RowI w M a zs.length) : Ints w' a zs ∧ RowI w' M a zs.length := by
  have hb : ∀ b, InI a zs.length b → w'.heap[b]? = w.heap[b]? := fun b hb => by
    have := hr.lt hb
    exact h.2 b this.2 (by omega) (fun e => by have := h2 b e.symm; omega)
  exact ⟨hz.of_block hb, hr.of_block hb⟩

abbrev goV (N : Nat) : Value := .func (.func 41) #[] #[.pointer (some ⟨N + 1, 0, none⟩), .pointer (some ⟨N, 0, none⟩), .pointer (some ⟨N + 2, 0, none⟩), .pointer (some ⟨N + 3, 0, none⟩)]

/-- What the boxes of a search hold. -/
structure GoSt (w : World) (N : Nat) (fv : Value) (a : Option Addr) (c : Nat) (l : List Cl) (ord : List Int) (v : Value) : Prop where
  cl : w.cell? ⟨N, 0, none⟩ = some (.slice a l.length c)
  cm : w.cell? ⟨N + 1, 0, none⟩ = some fv
  cg : w.cell? ⟨N + 3, 0, none⟩ = some (goV N)
  co : Boxed w (N + 2) 24 v
  own : w.ownsRow (N + 4) 3 1 v ord.length (zCells ord)
  hs : ∀ w', Below N w w' → Cls w' a l
  tab : TabQ w
  one : 1 < N
  sz : N + 4 ≤ w.heap.size

theorem GoSt.lists {w : World} {N : Nat} {fv : Value} {a : Option Addr} {c : Nat} {l : List Cl} {ord : List Int} {v : Value} (h : GoSt w N fv a c l ord v) : Cls w a l := h.hs w (Below.refl _ _)
theorem GoSt.lt {w : World} {N : Nat} {fv : Value} {a : Option Addr} {c : Nat} {l : List Cl} {ord : List Int} {v : Value} (h : GoSt w N fv a c l ord v) {b : Nat} (hb : v.ownBlock = some b) : N + 4 ≤ b ∧ b < w.heap.size := h.own.lt b hb
theorem GoSt.bel {w w' : World} {N : Nat} {fv : Value} {a : Option Addr} {c : Nat} {l : List Cl} {ord : List Int} {v : Value} (h : GoSt w N fv a c l ord v) (hb : Below w.heap.size w w') : GoSt w' N fv a c l ord v :=
  ⟨celB hb h.cl, celB hb h.cm, celB hb h.cg, (hb.block _ h.co.lt).trans h.co, ownsZ_below h.own hb, fun w2 h2 => h.hs w2 ((hb.mono (by have := h.sz; omega)).trans h2), h.tab.bel hb, h.one, Nat.le_trans h.sz hb.size⟩
/-- Behind a call or a store that wrote the order. -/
theorem GoSt.put {w w' : World} {N : Nat} {fv : Value} {a : Option Addr} {c : Nat} {l : List Cl} {ord ord' : List Int} {v v' : Value} (h : GoSt w N fv a c l ord v) (hb : Below N w w') (hk : Kp (N + 2) v w w') (hc : Boxed w' (N + 2) 24 v') (ho : w'.ownsRow (N + 4) 3 1 v' ord'.length (zCells ord')) : GoSt w' N fv a c l ord' v' :=
  have hs := h.sz
  have ne : ∀ k, k < 4 → some (N + k) ≠ v.ownBlock := fun k hk e => by have := h.lt e.symm; omega
  ⟨hk.cell (by omega) (by omega) (ne 0 (by omega)) h.cl, hk.cell (by omega) (by omega) (ne 1 (by omega)) h.cm, hk.cell (by omega) (by omega) (ne 3 (by omega)) h.cg, hc, ho, fun w2 h2 => h.hs w2 (hb.trans h2), h.tab.below hb h.one, h.one, Nat.le_trans hs hk.1⟩

/-- A row cut by its last number. -/
theorem own_pop {w : World} {base : Nat} {e : TypeId} {g cap : Nat} {zs : List Int} {z : Int} (h : w.ownsRow base e 1 (.slice (some ⟨g, 0, none⟩) (zs ++ [z]).length cap) (zs ++ [z]).length (zCells (zs ++ [z]))) :
    w.ownsRow base e 1 (.slice (some ⟨g, 0, none⟩) zs.length cap) zs.length (zCells zs) := by
  obtain ⟨h1, h2⟩ := h
  rcases h2 with ⟨h0, _⟩ | ⟨g', cap', cur, hv, hg, hh, hn, hcap, hsz, htake⟩
  · cases h0
  · cases hv
    have hl : (zs ++ [z]).length = zs.length + 1 := by simp
    refine ⟨by simp [zCells], .inr ⟨g, cap, cur, rfl, hg, hh, by omega, hcap, hsz, ?_⟩⟩
    have h3 : (cur.toList.take ((zs ++ [z]).length * 1)).take (zs.length * 1) = (zCells (zs ++ [z])).take (zs.length * 1) := by rw [htake]
    rw [List.take_take, Nat.min_eq_left (by omega)] at h3
    rw [h3, zCells_app, Nat.mul_one, List.take_append_of_le_length (by simp [zCells]), List.take_of_length_le (by simp [zCells])]

/-- The order is longer by one. -/
theorem GoSt.grow {w w4 : World} {tmp : Obj} {N g cap m : Nat} {fv : Value} {a : Option Addr} {c : Nat} {l : List Cl} {ord : List Int} {v : Value} (h : GoSt w N fv a c l ord v)
    (hown : w4.ownsRow (N + 4) 3 1 (.slice (some ⟨g, 0, none⟩) (ord.length + 1) cap) (ord.length + 1) (zCells ord ++ zCells [(m : Int)])) (hgrow : (w.alloc tmp).grownBy w4 v.ownBlock) (hat : v.ownBlock = some g ∨ g = w.heap.size + 1) :
    Boxed w4 (N + 2) 24 v ∧ GoSt (w4.setCell ⟨N + 2, 0, none⟩ (.slice (some ⟨g, 0, none⟩) (ord.length + 1) cap)) N fv a c l (ord ++ [(m : Int)]) (.slice (some ⟨g, 0, none⟩) (ord.length + 1) cap)
      ∧ Below N w (w4.setCell ⟨N + 2, 0, none⟩ (.slice (some ⟨g, 0, none⟩) (ord.length + 1) cap)) ∧ Kp (N + 2) v w (w4.setCell ⟨N + 2, 0, none⟩ (.slice (some ⟨g, 0, none⟩) (ord.length + 1) cap)) ∧ OwnK v (.slice (some ⟨g, 0, none⟩) (ord.length + 1) cap) w.heap.size := by
  have hsz := h.sz
  have hv1 : Boxed w4 (N + 2) 24 v := (h.co.alloc tmp).kept hgrow (h.co.not_row (by decide) h.own)
  have hB : Below N w (w4.setCell ⟨N + 2, 0, none⟩ (.slice (some ⟨g, 0, none⟩) (ord.length + 1) cap)) :=
    (((Below.refl N w).alloc (by omega) tmp).grown hgrow (by simp; omega) (fun j ej => by have := (h.lt ej).1; omega)).setCell (p := ⟨N + 2, 0, none⟩) (by simp) _
  have hK : Kp (N + 2) v w (w4.setCell ⟨N + 2, 0, none⟩ (.slice (some ⟨g, 0, none⟩) (ord.length + 1) cap)) := ⟨hB.size, fun b hb h1 h2 => by
    rw [Below.heap_setCell w4 ⟨N + 2, 0, none⟩ _ b (by simpa using h1), hgrow.block b (by simp; omega) h2]
    exact (alHi w tmp).block b hb⟩
  have hO : OwnK v (.slice (some ⟨g, 0, none⟩) (ord.length + 1) cap) w.heap.size := fun b hb => by
    obtain rfl : g = b := by simpa [Value.ownBlock] using hb
    rcases hat with e | e
    · exact .inl e
    · exact .inr (by omega)
  have hr : (w4.setCell ⟨N + 2, 0, none⟩ (.slice (some ⟨g, 0, none⟩) (ord.length + 1) cap)).ownsRow (N + 4) 3 1 (.slice (some ⟨g, 0, none⟩) (ord.length + 1) cap) (ord ++ [(m : Int)]).length (zCells (ord ++ [(m : Int)])) := by
    rw [zCells_app, List.length_append, List.length_singleton]
    exact hown.kept (grownBy_setCell' w4 (N + 2) _) (.inr (fun e => by have := hown.lt (N + 2) e; omega))
  exact ⟨hv1, h.put hB hK (hv1.set _) hr, hB, hK, hO⟩
/-- The order is shorter by its last one. -/
theorem GoSt.pop {w : World} {N g cap : Nat} {z : Int} {fv : Value} {a : Option Addr} {c : Nat} {l : List Cl} {ord : List Int} (h : GoSt w N fv a c l (ord ++ [z]) (.slice (some ⟨g, 0, none⟩) (ord.length + 1) cap)) :
    GoSt (w.setCell ⟨N + 2, 0, none⟩ (.slice (some ⟨g, 0, none⟩) ord.length cap)) N fv a c l ord (.slice (some ⟨g, 0, none⟩) ord.length cap)
      ∧ Below N w (w.setCell ⟨N + 2, 0, none⟩ (.slice (some ⟨g, 0, none⟩) ord.length cap)) ∧ (∀ v, Kp (N + 2) v w (w.setCell ⟨N + 2, 0, none⟩ (.slice (some ⟨g, 0, none⟩) ord.length cap))) := by
  have hB : Below N w (w.setCell ⟨N + 2, 0, none⟩ (.slice (some ⟨g, 0, none⟩) ord.length cap)) := (Below.refl N w).setCell (p := ⟨N + 2, 0, none⟩) (by simp) _
  have hK : ∀ v, Kp (N + 2) v w (w.setCell ⟨N + 2, 0, none⟩ (.slice (some ⟨g, 0, none⟩) ord.length cap)) := fun v => ⟨hB.size, fun b _ h1 _ => Below.heap_setCell w ⟨N + 2, 0, none⟩ _ b (by simpa using h1)⟩
  have ho := h.own
  have hl : (ord ++ [z]).length = ord.length + 1 := by simp
  have ho2 := own_pop (g := g) (cap := cap) (zs := ord) (z := z) (by rw [hl] at ho ⊢; exact ho)
  have hr : (w.setCell ⟨N + 2, 0, none⟩ (.slice (some ⟨g, 0, none⟩) ord.length cap)).ownsRow (N + 4) 3 1 (.slice (some ⟨g, 0, none⟩) ord.length cap) ord.length (zCells ord) :=
    ho2.kept (grownBy_setCell' w (N + 2) _) (.inr (fun e => by have := ho2.lt (N + 2) e; omega))
  exact ⟨h.put hB (hK _) (h.co.set _) hr, hB, hK⟩

/-- What a call of the search answers. -/
def GoAns (cl : Bool) (n : Nat) (N : Nat) (fv : Value) (a : Option Addr) (c : Nat) (l : List Cl) (ord : List Int) (v : Value) (w : World) (e : Ending) (w' : World) : Prop :=
  ∃ v', e = .returned (.bool (decide ((findL l cl n ord).length = l.length))) ∧ GoSt w' N fv a c l (if (findL l cl n ord).length = l.length then findL l cl n ord else ord) v' ∧ Below N w w' ∧ Kp (N + 2) v w w' ∧ OwnK v v' w.heap.size
theorem GoAns.yes {cl : Bool} {n N : Nat} {fv : Value} {a : Option Addr} {c : Nat} {l : List Cl} {ord R : List Int} {v v' : Value} {w w' : World} (hR : findL l cl n ord = R) (hl : R.length = l.length) (h1 : GoSt w' N fv a c l R v') (h2 : Below N w w') (h3 : Kp (N + 2) v w w') (h4 : OwnK v v' w.heap.size) : GoAns cl n N fv a c l ord v w (.returned (.bool true)) w' :=
  ⟨v', by rw [hR, decide_eq_true hl], by rw [hR, if_pos hl]; exact h1, h2, h3, h4⟩
theorem GoAns.no {cl : Bool} {n N : Nat} {fv : Value} {a : Option Addr} {c : Nat} {l : List Cl} {ord : List Int} {v v' : Value} {w w' : World} (hR : ¬ (findL l cl n ord).length = l.length) (h1 : GoSt w' N fv a c l ord v') (h2 : Below N w w') (h3 : Kp (N + 2) v w w') (h4 : OwnK v v' w.heap.size) : GoAns cl n N fv a c l ord v w (.returned (.bool false)) w' :=
  ⟨v', by rw [decide_eq_false hR], by rw [if_neg hR]; exact h1, h2, h3, h4⟩
theorem GoAns.yes_of {cl : Bool} {n N : Nat} {fv : Value} {a : Option Addr} {c : Nat} {l : List Cl} {ord : List Int} {v : Value} {w w' : World} {e : Ending} (h : GoAns cl n N fv a c l ord v w e w') (hl : (findL l cl n ord).length = l.length) : ∃ v', e = .returned (.bool true) ∧ GoSt w' N fv a c l (findL l cl n ord) v' ∧ Below N w w' ∧ Kp (N + 2) v w w' ∧ OwnK v v' w.heap.size := by
  obtain ⟨v', h1, h2, h3⟩ := h
  rw [decide_eq_true hl] at h1
  rw [if_pos hl] at h2
  exact ⟨v', h1, h2, h3⟩
theorem GoAns.no_of {cl : Bool} {n N : Nat} {fv : Value} {a : Option Addr} {c : Nat} {l : List Cl} {ord : List Int} {z : Int} {v : Value} {w w' : World} {e : Ending} (h : GoAns cl n N fv a c l (ord ++ [z]) v w e w') (hl : ¬ (findL l cl n (ord ++ [z])).length = l.length) : ∃ g cap, e = .returned (.bool false) ∧ GoSt w' N fv a c l (ord ++ [z]) (.slice (some ⟨g, 0, none⟩) (ord.length + 1) cap) ∧ Below N w w' ∧ Kp (N + 2) v w w' ∧ OwnK v (.slice (some ⟨g, 0, none⟩) (ord.length + 1) cap) w.heap.size := by
  obtain ⟨v', h1, h2, h3⟩ := h
  rw [decide_eq_false hl] at h1
  rw [if_neg hl] at h2
  have ho := h2.own
  have hle : (ord ++ [z]).length = ord.length + 1 := by simp
  rw [hle] at ho
  obtain ⟨g, cap, rfl⟩ := ownsRow_succ ho
  exact ⟨g, cap, h1, h2, h3⟩
def GoC (cl : Bool) (fv : Value) (l : List Cl) (a : Option Addr) (c N n : Nat) : Prop := ∀ (s : Nat) (ord : List Int) (p q r : Int) (v : Value) (w : World), GoSt w N fv a c l ord v → gone l ord s n → lgTo l ord ord.length = some [p, q, r] → ord.length + n = l.length →
  Calls Tryd.prog 41 #[setV s, arV p q r, .pointer (some ⟨N + 1, 0, none⟩), .pointer (some ⟨N, 0, none⟩), .pointer (some ⟨N + 2, 0, none⟩), .pointer (some ⟨N + 3, 0, none⟩)] w fun e w' => GoAns cl n N fv a c l ord v w e w'

theorem two7 {m : Nat} (h : m < 7) : 2 ^ m < 128 := by
  rcases (by omega : m = 0 ∨ m = 1 ∨ m = 2 ∨ m = 3 ∨ m = 4 ∨ m = 5 ∨ m = 6) with rfl | rfl | rfl | rfl | rfl | rfl | rfl <;> decide
theorem ownsRow_cap7 {w : World} {base g cap l : Nat} {e : TypeId} {xs : List Value} (h : w.ownsRow base e 1 (.slice (some ⟨g, 0, none⟩) l cap) l xs) : l ≤ cap := by
  obtain ⟨a, c, hv, h1, -⟩ := ownsZ_cap h
  cases hv
  exact h1

theorem getS {s k : Nat} (h : k < (mi s).length) : ∃ m, (mem7 s)[k]? = some m ∧ zA (mi s) k = (m : Int) := by
  have h2 : k < (mem7 s).length := by unfold mi at h; simpa using h
  refine ⟨(mem7 s)[k], List.getElem?_eq_getElem h2, ?_⟩
  simp [zA, mi, List.getD_eq_getElem?_getD, h2]

theorem endsA_c (x y : Cl) (b : Bool) (w : World) (h : befB false x y = b) :
    Calls Tryd.prog 25 #[clV x, clV y] w fun r w' => r = .returned (.bool b) ∧ Below w.heap.size w w' :=
  ends_c x y b w (by rw [← h]; simp [befB])

end Go.Proofs.YtmbfdonefpegeaaDoor
