/-
  The control in plain mathematics: good brokers, parts and controls; who leads what, who lives, what is offline.
-/
import Derived.Test.YtfehndedkffpfaaDoorCtl
import Derived.Test.YtfehndedkffpfaaDoorGnM
namespace Go.Proofs.YtfehndedkffpfaaDoor
open Go.RowKit

def okBr (nx : Int) (b : Br) : Bool := decide (0 ≤ b.epoch) && (decide (b.epoch < nx) && (inB b.left 0 9 && ((b.fenced == decide (b.left = 0)) && !(decide (b.epoch = 0) && decide (0 < b.left)))))

def brA (l : List Br) (i : Nat) : Br := l.getD i ⟨0, 0, false⟩
theorem brA_some {l : List Br} {k : Nat} {z : Br} (h : l[k]? = some z) : brA l k = z := by simp [brA, List.getD_eq_getElem?_getD, h]
theorem brA_get {l : List Br} {k : Nat} (h : k < l.length) : l[k]? = some (brA l k) := by simp [brA, List.getD_eq_getElem?_getD, List.getElem?_eq_getElem h]

/-- A broker that lives. -/
def live (brs : List Br) (k : Int) : Bool := !(brA brs k.toNat).fenced
def firstZ (brs : List Br) (l : List Int) : Int := (l.find? (live brs)).getD (-1)
def ldOk (brs : List Br) (p : Pn) : Bool := if p.leader = -1 then !p.steps.any (live brs) else p.steps.contains p.leader && live brs p.leader
def okPn (brs : List Br) (p : Pn) : Bool :=
  !decide (p.homes.length = 0) && (riseB p.homes brs.length && (!decide (p.steps.length = 0) && (riseB p.steps brs.length && (hasL p.homes p.steps && (ldOk brs p && (inB p.epoch 0 1000 && inB p.stamp 0 1000))))))
def midCt (s : Ct) : Bool := inB s.brks.length 1 6 && (decide (s.parts.length ≤ 5) && inB s.next 1 1000)
def goodCt (s : Ct) : Bool := s.brks.all (okBr s.next) && (midCt s && s.parts.all (okPn s.brks))
theorem goodCt_1 {s : Ct} (h : s.brks.all (okBr s.next) = false) : goodCt s = false := by simp [goodCt, h]
theorem goodCt_2 {s : Ct} (h : midCt s = false) : goodCt s = false := by simp [goodCt, h]
theorem goodCt_3 {s : Ct} (h : s.parts.all (okPn s.brks) = false) : goodCt s = false := by simp [goodCt, h]
theorem goodCt_4 {s : Ct} (h1 : s.brks.all (okBr s.next) = true) (h2 : midCt s = true) (h3 : s.parts.all (okPn s.brks) = true) : goodCt s = true := by simp [goodCt, h1, h2, h3]
theorem goodCt_len {s : Ct} (h : goodCt s = true) : 1 ≤ s.brks.length ∧ s.brks.length ≤ 6 ∧ s.parts.length ≤ 5 := by
  simp only [goodCt, midCt, Bool.and_eq_true, decide_eq_true_eq] at h
  have := inB_t.1 h.2.1.1
  exact ⟨by omega, by omega, h.2.1.2.1⟩

/-- The places, from the front, where it holds. -/
def placesTo {α : Type} (f : α → Bool) (l : List α) : Nat → List Int
  | 0 => []
  | k + 1 => placesTo f l k ++ (match l[k]? with | some x => if f x = true then [(k : Int)] else [] | none => [])
def placesL {α : Type} (f : α → Bool) (l : List α) : List Int := placesTo f l l.length
theorem placesTo_t {α : Type} {f : α → Bool} {l : List α} {k : Nat} {x : α} (h : l[k]? = some x) (hf : f x = true) : placesTo f l (k + 1) = placesTo f l k ++ [(k : Int)] := by simp [placesTo, h, hf]
theorem placesTo_f {α : Type} {f : α → Bool} {l : List α} {k : Nat} {x : α} (h : l[k]? = some x) (hf : f x = false) : placesTo f l (k + 1) = placesTo f l k := by simp [placesTo, h, hf]
theorem placesTo_len {α : Type} (f : α → Bool) (l : List α) : ∀ k, (placesTo f l k).length ≤ k
  | 0 => by simp [placesTo]
  | k + 1 => by
    have := placesTo_len f l k
    rw [placesTo, List.length_append]
    cases l[k]? with
    | none => simp; omega
    | some x => simp only; split <;> simp <;> omega

def ldsB (s : Ct) (z : Int) : Bool := goodCt s && thB s.brks.length z
def ldsL (s : Ct) (z : Int) : List Int := if ldsB s z = true then placesL (fun p : Pn => decide (p.leader = z)) s.parts else []
def liveL (s : Ct) : List Int := if goodCt s = true then placesL (fun b : Br => !b.fenced) s.brks else []
def offL (s : Ct) : List Int := if goodCt s = true then placesL (fun p : Pn => decide (p.leader = -1)) s.parts else []
theorem places_short {α : Type} {f : α → Bool} {l : List α} (h : l.length ≤ 6) : (placesL f l).length ≤ 1000000 := by have := placesTo_len f l l.length; unfold placesL; omega
theorem ldsL_len (s : Ct) (z : Int) : (ldsL s z).length ≤ 1000000 := by
  unfold ldsL
  split
  · rename_i h
    simp only [ldsB, Bool.and_eq_true] at h
    have := goodCt_len h.1
    exact places_short (by omega)
  · simp
theorem liveL_len (s : Ct) : (liveL s).length ≤ 1000000 := by
  unfold liveL
  split
  · rename_i h
    have := goodCt_len h
    exact places_short (by omega)
  · simp
theorem offL_len (s : Ct) : (offL s).length ≤ 1000000 := by
  unfold offL
  split
  · rename_i h
    have := goodCt_len h
    exact places_short (by omega)
  · simp

end Go.Proofs.YtfehndedkffpfaaDoor
