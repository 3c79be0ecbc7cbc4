/-
  Vector clocks, plainly.
-/
import Derived.Test.YtambbgpofmojnaaEvC
import Derived.Test.YtambbgpofmojnaaClk3
namespace Go.Proofs.Ytambbgpofmojnaa
open Go.RowKit

/-- What comes of the vectors at the first j places joined. -/
def jnTo (vs : List (List Int)) (ks : List Int) (n : Nat) : Nat → List Int
  | 0 => List.replicate n 0
  | j + 1 => joinL (jnTo vs ks n j) (vs.getD (zA ks j).toNat []) n
/-- One more at a place. -/
def incL (zs : List Int) (p : Nat) : List Int := zs.set p (zA zs p + 1)
/-- The vectors of the first k events. -/
def vecTo (n : Nat) (l : List Ev) : Nat → List (List Int)
  | 0 => []
  | k + 1 => vecTo n l k ++ [incL (jnTo (vecTo n l k) (causes l k (evA l k)) n (causes l k (evA l k)).length) (evA l k).pr.toNat]

theorem vecTo_len (n : Nat) (l : List Ev) : ∀ k, (vecTo n l k).length = k
  | 0 => rfl
  | k + 1 => by rw [vecTo, List.length_append, vecTo_len n l k]; rfl

theorem jnTo_len (vs : List (List Int)) (ks : List Int) (n : Nat) : ∀ j, (jnTo vs ks n j).length = n
  | 0 => by simp [jnTo]
  | j + 1 => by rw [jnTo, joinL_len]

theorem incL_len (zs : List Int) (p : Nat) : (incL zs p).length = zs.length := by simp [incL]
theorem incL_at {zs : List Int} {p i : Nat} (hp : p < zs.length) : zA (incL zs p) i = if i = p then zA zs p + 1 else zA zs i := by
  unfold incL zA
  rw [List.getD_eq_getElem?_getD, List.getElem?_set]
  by_cases e : p = i
  · subst e; simp [hp]
  · rw [if_neg e, if_neg (fun h => e h.symm), List.getD_eq_getElem?_getD]

/-- Numbers from 0 up to B. -/
def upB (B : Int) (zs : List Int) (n : Nat) : Prop := ∀ i, i < n → 0 ≤ zA zs i ∧ zA zs i ≤ B

theorem zA_rep (n i : Nat) : zA (List.replicate n 0) i = 0 := by
  unfold zA
  rw [List.getD_eq_getElem?_getD, List.getElem?_replicate]
  split <;> rfl

theorem jnTo_up {vs : List (List Int)} {ks : List Int} {n : Nat} {B : Int} (hB : 0 ≤ B) (h : ∀ v ∈ vs, upB B v n) (hk : ∀ z ∈ ks, 0 ≤ z ∧ z < vs.length) : ∀ j, j ≤ ks.length → upB B (jnTo vs ks n j) n
  | 0, _ => fun i _ => by rw [jnTo, zA_rep]; exact ⟨Int.le_refl _, hB⟩
  | j + 1, hj => fun i hi => by
    have ih := jnTo_up hB h hk j (by omega) i hi
    have h1 := hk _ (List.mem_of_getElem? (zA_get (by omega : j < ks.length)))
    have h2 := h (vs.getD (zA ks j).toNat []) (by
      rw [List.getD_eq_getElem?_getD, List.getElem?_eq_getElem (by omega)]
      exact List.getElem_mem _) i hi
    rw [jnTo, joinL_at hi]
    omega

theorem vecTo_up {procs : Int} {n : Nat} (hn : procs = (n : Int)) {l : List Ev} (h : okEv procs l l.length) : ∀ k, k ≤ l.length → ∀ v ∈ vecTo n l k, v.length = n ∧ upB (k : Int) v n
  | 0, _ => by simp [vecTo]
  | k + 1, hk => fun v hv => by
    have ih := vecTo_up hn h k (by omega)
    rw [vecTo, List.mem_append] at hv
    rcases hv with hv | hv
    · obtain ⟨h1, h2⟩ := ih v hv
      exact ⟨h1, fun i hi => by have := h2 i hi; omega⟩
    · simp only [List.mem_singleton] at hv
      have hp := (h k (by omega)).1
      have hup := jnTo_up (n := n) (B := (k : Int)) (by omega) (fun v hv => (ih v hv).2) (ks := causes l k (evA l k)) (fun z hz => by rw [vecTo_len]; exact causes_mem (h k (by omega)).2 hz) _ (Nat.le_refl _)
      have hl := jnTo_len (vecTo n l k) (causes l k (evA l k)) n (causes l k (evA l k)).length
      rw [hv]
      refine ⟨by rw [incL_len, hl], fun i hi => ?_⟩
      rw [incL_at (by rw [hl]; omega)]
      split
      · rename_i e
        have := hup _ (by omega : (evA l k).pr.toNat < n); omega
      · have := hup i hi; omega

def vcL (procs : Int) (l : List Ev) : List (List Int) := if goodEv procs l then vecTo procs.toNat l l.length else []
theorem vcL_small (procs : Int) (l : List Ev) : (vcL procs l).length ≤ 128 ∧ ∀ zs ∈ vcL procs l, zs.length ≤ 7 := by
  unfold vcL
  split
  · rename_i h
    obtain ⟨h1, h2, h3⟩ := goodEv_t.1 h
    refine ⟨by rw [vecTo_len]; omega, fun zs hz => ?_⟩
    have := (vecTo_up (n := procs.toNat) (by omega) h1 l.length (Nat.le_refl _) zs hz).1
    omega
  · simp

/-- One more at a place of a row that the call owns. -/
theorem inc_row {w : World} {B g m p : Nat} {f : Nat → Value} {zs : List Int} (hI : Ints w (some ⟨g, 0, none⟩) zs) (hR : w.rowIs g 3 m f) (hm : zs.length ≤ m) (hg : B ≤ g) (hp : p < zs.length) :
    Ints (w.setCell ⟨g, p, none⟩ (.int .i64 (zA zs p + 1))) (some ⟨g, 0, none⟩) (incL zs p) ∧ RowI (w.setCell ⟨g, p, none⟩ (.int .i64 (zA zs p + 1))) B (some ⟨g, 0, none⟩) (incL zs p).length := by
  have hR2 := hR.set p (.int .i64 (zA zs p + 1))
  refine ⟨ints_fn hR2 (by rw [incL_len]; exact hm) (fun i hi => ?_), .inr ⟨g, m, _, rfl, hg, by rw [incL_len]; exact hm, hR2⟩⟩
  rw [incL_len] at hi
  rw [incL_at hp]
  by_cases e : i = p
  · rw [if_pos e, if_pos e]
  · rw [if_neg e, if_neg e]
    obtain ⟨g', o, e', hc⟩ := hI i _ (zA_get hi)
    simp only [Option.some.injEq, Addr.mk.injEq, and_true] at e'
    obtain ⟨rfl, rfl⟩ := e'
    rw [Nat.zero_add, hR.cell (by omega)] at hc
    exact Option.some.inj hc

end Go.Proofs.Ytambbgpofmojnaa
