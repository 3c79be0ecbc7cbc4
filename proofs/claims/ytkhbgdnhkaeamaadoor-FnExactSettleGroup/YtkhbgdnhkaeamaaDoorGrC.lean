/-
  Groups of replicas, the specification's side: CommittedRows. Made by mkgrc.py.
-/
import Derived.Test.YtkhbgdnhkaeamaaDoorGrS3J
import Derived.Test.YtkhbgdnhkaeamaaDoorAppZ
import Derived.Deep.RegionHeld3
namespace Go.Proofs.YtkhbgdnhkaeamaaDoor
open Go.RowKit

def crL (g : Gr) : List Rw := if goodGr g = true then (leadL g).take g.high.toNat else []
theorem crL_f {g : Gr} (h : goodGr g = false) : crL g = [] := by simp [crL, h]
theorem sameN_self : ∀ l : List Rw, sameN l l = l.length
  | [] => by simp [sameN]
  | x :: xs => by rw [sameN, if_pos rfl, sameN_self xs]; rfl
theorem goodGr_high {g : Gr} (h : goodGr g = true) : 0 ≤ g.high ∧ g.high ≤ ((leadL g).length : Int) ∧ (leadL g).length ≤ 30 ∧ 0 ≤ g.leader ∧ g.leader < (g.reps.length : Int) ∧ g.reps.length ≤ 4 := by
  simp only [goodGr, Bool.and_eq_true, decide_eq_true_eq] at h
  obtain ⟨h1, h2⟩ := h
  obtain ⟨h3, h4⟩ := head_lead h1
  have hr := h2 g.leader.toNat (by omega)
  simp only [headGr, Bool.and_eq_true, decide_eq_true_eq] at h1
  have hn := inB_t.1 h1.1
  have hc := h1.2.2.2.1
  simp only [okRp, Bool.and_eq_true] at hr
  have e : ((g.leader.toNat : Nat) : Int) = g.leader := by omega
  have h5 := hr.2.2.2.2.1
  rw [e, hc] at h5
  have h6 : g.high ≤ (sameN (rpA g.reps g.leader.toNat).log (leadL g) : Int) := by simpa using h5
  rw [show (rpA g.reps g.leader.toNat).log = leadL g from rfl, sameN_self] at h6
  have h7 := hr.1
  rw [show (rpA g.reps g.leader.toNat).log = leadL g from rfl] at h7
  simp only [rlogB, Bool.and_eq_true, decide_eq_true_eq] at h7
  exact ⟨h1.2.2.2.2, h6, h7.2, h3, h4, by omega⟩
theorem crL_len (g : Gr) : (crL g).length ≤ 1000000 := by
  unfold crL
  split
  · rename_i h
    have := (goodGr_high h).2.2.1
    simp only [List.length_take]
    omega
  · simp

def rwC (e : Rw) : List Value := [.int .i64 e.epoch, .int .i64 e.val]
theorem rwC_len (e : Rw) : (rwC e).length = 2 := rfl
theorem rwC_one (e : Rw) : ∀ u ∈ rwC e, u.oneCell' = true := fun u hu => by simp [rwC] at hu; rcases hu with rfl | rfl <;> rfl

/-- The first m rows that are read, as a source. -/
theorem srcZ_rws {w : World} {a : Option Addr} {l : List Rw} {m : Nat} (c : Nat) (h : Rws w a l) (hm : m ≤ l.length) : SrcZ w (.slice a m c) m 2 ((l.take m).flatMap rwC) := by
  have hl : (l.take m).length = m := by simp; omega
  have := srcZ_flat (C := rwC) (s := 2) rwC_len (by decide) rwC_one (w := w) (a := a) c (xs := l.take m) fun i z hi => by
    have hlt : i < m := by have := (List.getElem?_eq_some_iff.1 hi).1; omega
    rw [List.getElem?_take_of_lt hlt] at hi
    obtain ⟨k, o, e, c0, c1⟩ := h i z hi
    refine ⟨k, o, e, fun r u hu => ?_⟩
    match r, hu with
    | 0, hu => simp [rwC] at hu; subst hu; simpa using c0
    | 1, hu => simp [rwC] at hu; subst hu; simpa using c1
    | r + 2, hu => simp [rwC] at hu
  rwa [hl] at this

theorem rws_of_owns {w : World} {B : Nat} {a : Option Addr} {c : Nat} {l : List Rw} (h : w.ownsRow B 98 2 (.slice a l.length c) l.length (l.flatMap rwC)) : Rws w a l := fun i z hi => by
  obtain ⟨k, e, -, hc⟩ := ownZ_flat (C := rwC) (s := 2) rwC_len h i z hi
  exact ⟨k, 0, e, by simpa using hc 0 _ rfl, by simpa using hc 1 _ rfl⟩

end Go.Proofs.YtkhbgdnhkaeamaaDoor
