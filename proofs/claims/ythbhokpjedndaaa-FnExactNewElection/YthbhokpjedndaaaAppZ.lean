/-
  append onto a row that the call owns, of any slice that reads as these cells; rows of structs by their cells. Made by mkappz.py.
-/
import Derived.Test.YthbhokpjedndaaaZCell
import Derived.Maps.AppendAt
import Derived.Deep.Upon
import Derived.Deep.Slices
import Derived.Deep.AppendLies
namespace Go.Proofs.Ythbhokpjedndaaa
open Go.RowKit

/-- The slice value reads as these cells. -/
def SrcZ (w : World) (x : Value) (m size : Nat) (news : List Value) : Prop :=
  (∃ c, x = .slice none 0 c ∧ m = 0 ∧ news = []) ∨ ∃ ad c, x = .slice (some ad) m c ∧ news.length = m * size ∧ (∀ j u, news[j]? = some u → w.cell? (ad.add j) = some u) ∧ ∀ u ∈ news, u.oneCell' = true

theorem grownBy_reflZ (w : World) (r : Option Nat) : w.grownBy w r := ⟨rfl, rfl, rfl, Nat.le_refl _, fun _ _ _ => rfl⟩

theorem run_appZ {P : Program} (w : World) (base : Nat) (t ty e : TypeId) (i : TypeInfo) (z : Value) (size bytes : Nat) (ht : P.underlying t = some (.slice e)) (hi : P.info? e = some i) (hz : i.zero = some z)
    (hsize : i.size = size) (hby : i.bytes = bytes) (hzs : z.cells.size = size) (hsz : 0 < size)
    (v : Value) (n : Nat) (xs : List Value) (hown : w.ownsRow base e size v n xs) (x : Value) (m : Nat) (news : List Value) (hx : SrcZ w x m size news)
    (h63 : n + m ≤ maxLen) (hbytes : (n + m) * bytes ≤ 140737488355328) (hbase : base ≤ w.heap.size) :
    ∃ v' w', (Builtin.append_ #[t, t] ty #[v, x]).run P w = .ok v' w' ∧ w'.ownsRow base e size v' (n + m) (xs ++ news) ∧ w.grownBy w' v.ownBlock ∧ (v'.ownBlock = v.ownBlock ∨ v'.ownBlock = some w.heap.size) := by
  rcases hx with ⟨c, rfl, rfl, rfl⟩ | ⟨ad, c, rfl, hl, hn, h1⟩
  · have hform : ∃ b sl sc, v = .slice b sl sc ∧ sl ≤ sc := by
      obtain ⟨-, ⟨rfl, rfl⟩ | ⟨g, cap, cur, rfl, -, -, hc, -⟩⟩ := hown
      · exact ⟨none, 0, 0, rfl, Nat.le_refl _⟩
      · exact ⟨_, _, _, rfl, hc⟩
    obtain ⟨b, sl, sc, rfl, hle⟩ := hform
    refine ⟨_, w, run_append_nothing w t t ty e i ht hi b sl sc hle _ (Src.ofNil w ht c), ?_, grownBy_reflZ _ _, .inl rfl⟩
    simpa using hown
  · obtain ⟨v', w', hr, h2, h3, _, h5⟩ := run_append_own_at (P := P) w base t ty e i z size bytes ht hi hz hsize hby hzs hsz v n xs hown ad m c news hl hn h1 h63 hbytes hbase
    exact ⟨v', w', hr, h2, h3, h5⟩

theorem wp_appZ {P : Program} (w : World) {o : Oper} {a : Act} {K : Act → World → Prop} {Q : Exit → Act → World → Prop} (s x : Operand) (t : TypeId)
    (ho : o.op = .call { callee := .builtin .append, args := #[s, x], argTypes := #[t, t] })
    (base : Nat) (e : TypeId) (i : TypeInfo) (z : Value) (size bytes : Nat) (ht : P.underlying t = some (.slice e)) (hi : P.info? e = some i) (hz : i.zero = some z)
    (hsize : i.size = size) (hby : i.bytes = bytes) (hzs : z.cells.size = size) (hsz : 0 < size)
    (v : Value) (n : Nat) (xs : List Value) (hs : a.eval s = v) (hown : w.ownsRow base e size v n xs) (xv : Value) (m : Nat) (news : List Value) (hx : a.eval x = xv) (hsrc : SrcZ w xv m size news)
    (h63 : n + m ≤ maxLen) (hbytes : (n + m) * bytes ≤ 140737488355328) (hbase : base ≤ w.heap.size)
    (h : ∀ v' w', w'.ownsRow base e size v' (n + m) (xs ++ news) → w.grownBy w' v.ownBlock → (v'.ownBlock = v.ownBlock ∨ v'.ownBlock = some w.heap.size) → K (a.put o.dst v') w') : o.wp P a w K Q := by
  obtain ⟨v', w', hr, h2, h3, h4⟩ := run_appZ (P := P) w base t o.type e i z size bytes ht hi hz hsize hby hzs hsz v n xs hown xv m news hsrc h63 hbytes hbase
  unfold Oper.wp execOp
  simp only [ho, resolve, invoke, builtin, Sem.run_bind, Sem.run_pure, Result.andThen_ok, List.map_toArray, List.map_cons, List.map_nil, hs, hx, hr]
  exact h v' w' h2 h3 h4

theorem wpList_appZ {P : Program} (w : World) {ops : Array Oper} {rest : List Oper} {o : Oper} {a : Act} {Q : Exit → Act → World → Prop} (hgd : o.guard = none) (s x : Operand) (t : TypeId)
    (ho : o.op = .call { callee := .builtin .append, args := #[s, x], argTypes := #[t, t] })
    (base : Nat) (e : TypeId) (i : TypeInfo) (z : Value) (size bytes : Nat) (ht : P.underlying t = some (.slice e)) (hi : P.info? e = some i) (hz : i.zero = some z)
    (hsize : i.size = size) (hby : i.bytes = bytes) (hzs : z.cells.size = size) (hsz : 0 < size)
    (v : Value) (n : Nat) (xs : List Value) (hs : a.eval s = v) (hown : w.ownsRow base e size v n xs) (xv : Value) (m : Nat) (news : List Value) (hx : a.eval x = xv) (hsrc : SrcZ w xv m size news)
    (h63 : n + m ≤ maxLen) (hbytes : (n + m) * bytes ≤ 140737488355328) (hbase : base ≤ w.heap.size)
    (h : ∀ v' w', w'.ownsRow base e size v' (n + m) (xs ++ news) → w.grownBy w' v.ownBlock → (v'.ownBlock = v.ownBlock ∨ v'.ownBlock = some w.heap.size) → wpList P ops Q rest (a.put o.dst v') w') : wpList P ops Q (o :: rest) a w :=
  wpList_plain hgd fun _ hK => wp_appZ w s x t ho base e i z size bytes ht hi hz hsize hby hzs hsz v n xs hs hown xv m news hx hsrc h63 hbytes hbase fun v' w' h2 h3 h4 => hK _ _ (h v' w' h2 h3 h4)

theorem step_appZ {P : Program} (w : World) {ops : Array Oper} {o : Oper} {a : Act} {K : Act → World → Prop} {Q : Exit → Act → World → Prop} {E : Prop} (hgd : o.guard = none) (s x : Operand) (t : TypeId)
    (ho : o.op = .call { callee := .builtin .append, args := #[s, x], argTypes := #[t, t] })
    (base : Nat) (e : TypeId) (i : TypeInfo) (z : Value) (size bytes : Nat) (ht : P.underlying t = some (.slice e)) (hi : P.info? e = some i) (hz : i.zero = some z)
    (hsize : i.size = size) (hby : i.bytes = bytes) (hzs : z.cells.size = size) (hsz : 0 < size)
    (v : Value) (n : Nat) (xs : List Value) (hs : a.eval s = v) (hown : w.ownsRow base e size v n xs) (xv : Value) (m : Nat) (news : List Value) (hx : a.eval x = xv) (hsrc : SrcZ w xv m size news)
    (h63 : n + m ≤ maxLen) (hbytes : (n + m) * bytes ≤ 140737488355328) (hbase : base ≤ w.heap.size)
    (h : ∀ v' w', w'.ownsRow base e size v' (n + m) (xs ++ news) → w.grownBy w' v.ownBlock → (v'.ownBlock = v.ownBlock ∨ v'.ownBlock = some w.heap.size) → K (a.put o.dst v') w') :
    if Region.wanted o (yielded ops a.tmps) = true then Oper.wp P o a w K Q else E := by
  have hw : Region.wanted o (yielded ops a.tmps) = true := by simp [Region.wanted, hgd]
  rw [if_pos hw]
  exact wp_appZ w s x t ho base e i z size bytes ht hi hz hsize hby hzs hsz v n xs hs hown xv m news hx hsrc h63 hbytes hbase h

section flat
variable {α : Type} {C : α → List Value} {s : Nat}

theorem flatZ_len (hC : ∀ x, (C x).length = s) : ∀ xs : List α, (xs.flatMap C).length = xs.length * s
  | [] => by simp
  | x :: r => by rw [List.flatMap_cons, List.length_append, hC, flatZ_len hC r, List.length_cons, Nat.add_mul]; omega

theorem flatZ_get (hC : ∀ x, (C x).length = s) : ∀ (xs : List α) (i r : Nat) (x : α), xs[i]? = some x → r < s → (xs.flatMap C)[i * s + r]? = (C x)[r]?
  | [], i, r, x, h, _ => by simp at h
  | y :: t, 0, r, x, h, hr => by
    simp at h; subst h
    rw [List.flatMap_cons, Nat.zero_mul, Nat.zero_add, List.getElem?_append_left (by rw [hC]; exact hr)]
  | y :: t, i + 1, r, x, h, hr => by
    have e : (i + 1) * s + r = (C y).length + (i * s + r) := by rw [hC, Nat.add_mul]; omega
    rw [List.flatMap_cons, e, List.getElem?_append_right (by omega), Nat.add_sub_cancel_left]
    exact flatZ_get hC t i r x (by simpa using h) hr

theorem srcZ_flat (hC : ∀ x, (C x).length = s) (hs : 0 < s) (h1 : ∀ x, ∀ u ∈ C x, u.oneCell' = true) {w : World} {a : Option Addr} (c : Nat) {xs : List α}
    (h : ∀ i x, xs[i]? = some x → ∃ k o, a = some ⟨k, o, none⟩ ∧ ∀ (r : Nat) u, (C x)[r]? = some u → w.cell? ⟨k, o + i * s + r, none⟩ = some u) : SrcZ w (.slice a xs.length c) xs.length s (xs.flatMap C) := by
  cases xs with
  | nil =>
    cases a with
    | none => exact .inl ⟨c, rfl, rfl, rfl⟩
    | some ad => exact .inr ⟨ad, c, rfl, by simp, fun j u hu => by simp at hu, fun u hu => by simp at hu⟩
  | cons x0 t =>
    obtain ⟨k, o, rfl, -⟩ := h 0 x0 rfl
    refine .inr ⟨⟨k, o, none⟩, c, rfl, flatZ_len hC _, fun j u hu => ?_, fun u hu => ?_⟩
    · have hj := (List.getElem?_eq_some_iff.1 hu).1
      rw [flatZ_len hC] at hj
      have hi : j / s < (x0 :: t).length := Nat.div_lt_of_lt_mul (by rw [Nat.mul_comm]; exact hj)
      have hr := Nat.mod_lt j hs
      have ej : j = j / s * s + j % s := by rw [Nat.mul_comm]; exact (Nat.div_add_mod j s).symm
      have hx : (x0 :: t)[j / s]? = some (x0 :: t)[j / s] := List.getElem?_eq_getElem hi
      rw [ej, flatZ_get hC _ _ _ _ hx hr] at hu
      obtain ⟨k', o', e, hc⟩ := h _ _ hx
      simp only [Option.some.injEq, Addr.mk.injEq, and_true] at e
      obtain ⟨rfl, rfl⟩ := e
      have := hc _ _ hu
      rw [Go.WideShapes.add_plain, ej, ← Nat.add_assoc]
      simpa using this
    · obtain ⟨x, -, hx⟩ := List.mem_flatMap.1 hu
      exact h1 x u hx

theorem ownZ_flat (hC : ∀ x, (C x).length = s) {w : World} {B : Nat} {t : TypeId} {a : Option Addr} {c : Nat} {xs : List α} (h : w.ownsRow B t s (.slice a xs.length c) xs.length (xs.flatMap C)) :
    ∀ i x, xs[i]? = some x → ∃ k, a = some ⟨k, 0, none⟩ ∧ B ≤ k ∧ ∀ (r : Nat) u, (C x)[r]? = some u → w.cell? ⟨k, i * s + r, none⟩ = some u := fun i x hi => by
  have hlt := (List.getElem?_eq_some_iff.1 hi).1
  obtain ⟨g, cap, f, hv, hg, hn, hR, hx⟩ := row_of_ownsZ h (by omega)
  simp only [Value.slice.injEq] at hv
  obtain ⟨rfl, -, rfl⟩ := hv
  refine ⟨g, rfl, hg, fun r u hu => ?_⟩
  have hr := (List.getElem?_eq_some_iff.1 hu).1
  rw [hC] at hr
  have hle : (i + 1) * s ≤ xs.length * s := Nat.mul_le_mul_right _ hlt
  have hle2 : xs.length * s ≤ c * s := Nat.mul_le_mul_right _ hn
  rw [Nat.add_mul] at hle
  have e := hx (i * s + r) (by omega)
  rw [flatZ_get hC xs i r x hi hr, hu] at e
  rw [hR.cell (by omega)]
  exact e.symm
end flat

theorem owns_emptyZ {w : World} {B g : Nat} {t : TypeId} {size : Nat} (h : w.heap[g]? = some (.cells #[] t (0, 0))) (hg : B ≤ g) : w.ownsRow B t size (.slice (some ⟨g, 0, none⟩) 0 0) 0 [] :=
  ⟨by simp, .inr ⟨g, 0, #[], rfl, hg, h, Nat.le_refl _, Nat.zero_le _, by simp, by simp⟩⟩

theorem infoZ {P : Program} {e : TypeId} {z : Value} {size bytes : Nat} (h : (P.info? e).map (fun i => (i.zero, i.size, i.bytes)) = some (some z, size, bytes)) :
    ∃ i, P.info? e = some i ∧ i.zero = some z ∧ i.size = size ∧ i.bytes = bytes := by
  obtain ⟨i, hi, hzz⟩ := Option.map_eq_some_iff.1 h
  simp only [Prod.mk.injEq] at hzz
  exact ⟨i, hi, hzz.1, hzz.2.1, hzz.2.2⟩

/-- Numbers that are read, as a source. -/
theorem srcZ_ints {w : World} {a : Option Addr} {zs : List Int} (c : Nat) (h : Ints w a zs) : SrcZ w (.slice a zs.length c) zs.length 1 (zCells zs) := by
  have := srcZ_flat (C := fun z : Int => [Value.int .i64 z]) (s := 1) (fun _ => rfl) (by decide) (fun x u hu => by simp at hu; subst hu; rfl) (w := w) (a := a) c (xs := zs) fun i z hi => by
    obtain ⟨k, o, e, hc⟩ := h i z hi
    refine ⟨k, o, e, fun r u hu => ?_⟩
    match r, hu with
    | 0, hu => simp at hu; subst hu; simpa using hc
    | r + 1, hu => simp at hu
  have e : ∀ l : List Int, l.flatMap (fun z : Int => [Value.int .i64 z]) = zCells l := fun l => by
    induction l with
    | nil => rfl
    | cons z r ih => rw [List.flatMap_cons, ih]; rfl
  rwa [e] at this

end Go.Proofs.Ythbhokpjedndaaa
