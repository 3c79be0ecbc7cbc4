/-
  A part with one producer and one batch, as the laws read, mark and hold it.
-/
import Derived.Test.YthbhokpjedndaaaNewS
namespace Go.Proofs.Ythbhokpjedndaaa
open Go.RowKit

/-- The one producer and the one batch. -/
def prOne (id ep z : Int) (ss : List ByteArray) : Pr := ⟨id, ep, ss.length, [⟨0, ss.length, z⟩]⟩
def btOne (id ep z : Int) (ss : List ByteArray) : Bt := ⟨z, ep, id, 0, ss⟩

theorem row_of_own5 {w : World} {B : Nat} {t : TypeId} {size : Nat} {g n c : Nat} {xs : List Value} (h : w.ownsRow B t size (.slice (some ⟨g, 0, none⟩) n c) n xs) :
    ∃ f, B ≤ g ∧ n ≤ c ∧ w.rowIs g t (c * size) f ∧ ∀ i, i < n * size → xs[i]? = some (f i) := by
  obtain ⟨h1, ⟨hv, h0⟩ | ⟨g', cap, cur, hv, hg, hh, hnc, hcap, hcs, ht⟩⟩ := h
  · cases hv
  · simp only [Value.slice.injEq, Option.some.injEq, Addr.mk.injEq, and_true, true_and] at hv
    obtain ⟨rfl, rfl⟩ := hv
    have hle : n * size ≤ c * size := Nat.mul_le_mul_right _ hnc
    refine ⟨fun j => cur.getD j undef, hg, hnc, ⟨cur, hh, hcs, fun i hi => by simp [hcs, hi]⟩, fun i hi => ?_⟩
    rw [← ht, List.getElem?_take_of_lt hi]
    have : i < cur.size := by omega
    simp [this]

theorem strs_own5 {w : World} {B : Nat} {a : Option Addr} {c : Nat} {ss : List ByteArray} (h : w.ownsRow B 9 1 (.slice a ss.length c) ss.length (strVals ss)) (hz : ∀ s, s ∈ ss → s.size ≤ maxLen) : Strs w a ss := by
  intro i s hi
  have hlt := (List.getElem?_eq_some_iff.1 hi).1
  obtain ⟨-, ⟨hv, h0⟩ | ⟨g', cap, cur, hv, hg, hh, hnc, hcap, hcs, ht⟩⟩ := h
  · omega
  · simp only [Value.slice.injEq] at hv
    obtain ⟨rfl, -, rfl⟩ := hv
    refine ⟨g', 0, rfl, ?_, hz s (List.mem_of_getElem? hi)⟩
    have e : (strVals ss)[i]? = some (.string s) := by simp [strVals, hi]
    rw [← ht, List.getElem?_take_of_lt (by omega)] at e
    rw [Nat.zero_add]
    simp only [World.cell?, hh]
    simpa using e

theorem dns_own5 {w : World} {B g c : Nat} {a b z : Int} (h : w.ownsRow B 103 3 (.slice (some ⟨g, 0, none⟩) 1 c) 1 [.int .i64 a, .int .i64 b, .int .i64 z]) : Dns w (some ⟨g, 0, none⟩) [⟨a, b, z⟩] ∧ RowE w B (some ⟨g, 0, none⟩) 1 := by
  obtain ⟨f, hg, hc, hR, hx⟩ := row_of_own5 h
  have e0 := hx 0 (by omega)
  have e1 := hx 1 (by omega)
  have e2 := hx 2 (by omega)
  simp at e0 e1 e2
  refine ⟨fun i d hi => ?_, .inr ⟨g, 0, c * 3, f, rfl, hg, by omega, hR⟩⟩
  have h0 : i = 0 := by have := (List.getElem?_eq_some_iff.1 hi).1; simp at this; exact this
  subst h0
  simp at hi
  subst hi
  refine ⟨g, 0, rfl, ?_, ?_, ?_⟩
  · rw [hR.cell (by omega)]; exact congrArg some e0.symm
  · rw [hR.cell (by omega)]; exact congrArg some e1.symm
  · rw [hR.cell (by omega)]; exact congrArg some e2.symm

theorem prs_own5 {w : World} {B g c gw cw : Nat} {id ep nx a b z : Int} (h : w.ownsRow B 84 4 (.slice (some ⟨g, 0, none⟩) 1 c) 1 [.int .i64 id, .int .i64 ep, .int .i64 nx, .slice (some ⟨gw, 0, none⟩) 1 cw])
    (h2 : w.ownsRow B 103 3 (.slice (some ⟨gw, 0, none⟩) 1 cw) 1 [.int .i64 a, .int .i64 b, .int .i64 z]) : Prs w (some ⟨g, 0, none⟩) [⟨id, ep, nx, [⟨a, b, z⟩]⟩] := by
  obtain ⟨f, hg, hc, hR, hx⟩ := row_of_own5 h
  have e0 := hx 0 (by omega)
  have e1 := hx 1 (by omega)
  have e2 := hx 2 (by omega)
  have e3 := hx 3 (by omega)
  simp at e0 e1 e2 e3
  intro i d hi
  have h0 : i = 0 := by have := (List.getElem?_eq_some_iff.1 hi).1; simp at this; exact this
  subst h0
  simp at hi
  subst hi
  refine ⟨g, 0, rfl, some ⟨gw, 0, none⟩, cw, ?_, ?_, ?_, ?_, (dns_own5 h2).1, by unfold maxLen; simp⟩
  · rw [hR.cell (by omega)]; exact congrArg some e0.symm
  · rw [hR.cell (by omega)]; exact congrArg some e1.symm
  · rw [hR.cell (by omega)]; exact congrArg some e2.symm
  · rw [hR.cell (by omega)]; exact congrArg some e3.symm

theorem bats_own5 {w : World} {B g c : Nat} {o e p q : Int} {ra : Option Addr} {rc : Nat} {ss : List ByteArray} (h : w.ownsRow B 48 5 (.slice (some ⟨g, 0, none⟩) 1 c) 1 [.int .i64 o, .int .i64 e, .int .i64 p, .int .i64 q, .slice ra ss.length rc]) (hs : Strs w ra ss) (hl : ss.length ≤ maxLen) :
    Bats w (some ⟨g, 0, none⟩) [⟨o, e, p, q, ss⟩] := by
  obtain ⟨f, hg, hc, hR, hx⟩ := row_of_own5 h
  have e0 := hx 0 (by omega)
  have e1 := hx 1 (by omega)
  have e2 := hx 2 (by omega)
  have e3 := hx 3 (by omega)
  have e4 := hx 4 (by omega)
  simp at e0 e1 e2 e3 e4
  intro i d hi
  have h0 : i = 0 := by have := (List.getElem?_eq_some_iff.1 hi).1; simp at this; exact this
  subst h0
  simp at hi
  subst hi
  refine ⟨g, 0, rfl, ra, rc, ?_, ?_, ?_, ?_, ?_, hs, hl⟩
  · rw [hR.cell (by omega)]; exact congrArg some e0.symm
  · rw [hR.cell (by omega)]; exact congrArg some e1.symm
  · rw [hR.cell (by omega)]; exact congrArg some e2.symm
  · rw [hR.cell (by omega)]; exact congrArg some e3.symm
  · rw [hR.cell (by omega)]; exact congrArg some e4.symm

theorem own5_form {w : World} {B : Nat} {t : TypeId} {size : Nat} {v : Value} {n : Nat} {xs : List Value} (h : w.ownsRow B t size v n xs) : ∃ a c, v = .slice a n c := by
  obtain ⟨-, ⟨rfl, rfl⟩ | ⟨g, cap, cur, rfl, -⟩⟩ := h
  · exact ⟨none, 0, rfl⟩
  · exact ⟨_, cap, rfl⟩

/-- What the laws want of it. -/
theorem OnePart.out {B : Nat} {w : World} {id ep z : Int} {ss : List ByteArray} {gp cp gl cl : Nat} (h : OnePart B w id ep z ss gp cp gl cl) (hz : ∀ s, s ∈ ss → s.size ≤ maxLen) (hl : ss.length ≤ 8) :
    ∃ pq : PQ, ∃ q : Q, pq.b = prOne id ep z ss ∧ q.b = btOne id ep z ss ∧ Prs w (some ⟨gp, 0, none⟩) [prOne id ep z ss] ∧ Bats w (some ⟨gl, 0, none⟩) [btOne id ep z ss] ∧
      PsRow w B (some ⟨gp, 0, none⟩) [pq] ∧ LogRow w B (some ⟨gl, 0, none⟩) [q] ∧ ∀ b, InPs (some ⟨gp, 0, none⟩) [pq] b → ¬ InLog (some ⟨gl, 0, none⟩) [q] b := by
  obtain ⟨gw, cw, vR, h1, h2, h3, h4, h5, h6, h7⟩ := h
  obtain ⟨ra, rc, rfl⟩ := own5_form h4
  have hS := strs_own5 h4 hz
  obtain ⟨fp, hgp, hcp, hRp, hxp⟩ := row_of_own5 h1
  obtain ⟨fl, hgl, hcl, hRl, hxl⟩ := row_of_own5 h3
  have ep3 := hxp 3 (by omega)
  have el4 := hxl 4 (by omega)
  simp at ep3 el4
  have hra : ∀ b, InBlock ra ss.length b → gp < b ∧ b < gl := fun b ⟨h0, o, s, e⟩ => h7 b (by rw [e]; rfl)
  have hrow : RowAt w B ra ss.length := by
    by_cases h0 : ss.length = 0
    · exact .inl h0
    · obtain ⟨-, ⟨hv, h9⟩ | ⟨g', cap, cur, hv, hg, hh, hnc, hcap, hcs, ht⟩⟩ := h4
      · omega
      · simp only [Value.slice.injEq] at hv
        obtain ⟨rfl, -, rfl⟩ := hv
        have hall : ∀ i, i < rc * 1 → cur[i]? = some (cur.getD i undef) := fun i hi => by
          have h9 : i < cur.size := by omega
          simp [h9]
        exact .inr ⟨g', rc * 1, fun j => cur.getD j undef, rfl, hg, by omega, ⟨cur, hh, hcs, hall⟩⟩
  refine ⟨⟨prOne id ep z ss, some ⟨gw, 0, none⟩, cw⟩, ⟨btOne id ep z ss, ra, rc⟩, rfl, rfl, prs_own5 h1 h2, bats_own5 h3 hS (by unfold maxLen; omega), ?_, ?_, ?_⟩
  · refine .inr ⟨gp, cp * 4, fp, rfl, hgp, by simp; omega, hRp, fun i q hq => ?_, fun i j p q k hi hj hne => ?_⟩
    · have h0 : i = 0 := by have := (List.getElem?_eq_some_iff.1 hq).1; simp at this; exact this
      subst h0
      simp at hq
      subst hq
      refine ⟨ep3.symm, (dns_own5 h2).2, fun ⟨_, o, s, e⟩ => ?_⟩
      simp only [Option.some.injEq, Addr.mk.injEq] at e
      omega
    · have h0 := (List.getElem?_eq_some_iff.1 hi).1
      have h9 := (List.getElem?_eq_some_iff.1 hj).1
      simp at h0 h9
      omega
  · refine .inr ⟨gl, cl * 5, fl, rfl, hgl, by simp; omega, hRl, fun i q hq => ?_, fun i j p q k hi hj hne => ?_⟩
    · have h0 : i = 0 := by have := (List.getElem?_eq_some_iff.1 hq).1; simp at this; exact this
      subst h0
      simp at hq
      subst hq
      exact ⟨el4.symm, hrow, fun hb => by have := hra _ hb; omega⟩
    · have h0 := (List.getElem?_eq_some_iff.1 hi).1
      have h9 := (List.getElem?_eq_some_iff.1 hj).1
      simp at h0 h9
      omega
  · have hP : ∀ b, InPs (some ⟨gp, 0, none⟩) [(⟨prOne id ep z ss, some ⟨gw, 0, none⟩, cw⟩ : PQ)] b → b ≤ gp := by
      rintro b (⟨-, o, s, e⟩ | ⟨i, q, hq, -, o, s, e⟩)
      · simp only [Option.some.injEq, Addr.mk.injEq] at e; omega
      · have h0 : i = 0 := by have := (List.getElem?_eq_some_iff.1 hq).1; simp at this; exact this
        subst h0
        simp at hq
        subst hq
        simp only [Option.some.injEq, Addr.mk.injEq] at e
        omega
    rintro b hb (⟨-, o, s, e⟩ | ⟨i, q, hq, hk⟩)
    · have := hP b hb
      simp only [Option.some.injEq, Addr.mk.injEq] at e
      omega
    · have h0 : i = 0 := by have := (List.getElem?_eq_some_iff.1 hq).1; simp at this; exact this
      subst h0
      simp at hq
      subst hq
      have := hP b hb
      have := hra b hk
      omega

/-- A part with one producer and one batch of one empty record, in memory from B on. -/
def SPart (B : Nat) (w : World) (id ep : Int) (gp cp gl cl : Nat) : Prop := ∃ gw cw g c,
      w.ownsRow B 84 4 (.slice (some ⟨gp, 0, none⟩) 1 cp) 1 [.int .i64 id, .int .i64 ep, .int .i64 1, .slice (some ⟨gw, 0, none⟩) 1 cw] ∧
      w.ownsRow B 103 3 (.slice (some ⟨gw, 0, none⟩) 1 cw) 1 [.int .i64 0, .int .i64 1, .int .i64 0] ∧
      w.ownsRow B 48 5 (.slice (some ⟨gl, 0, none⟩) 1 cl) 1 [.int .i64 0, .int .i64 ep, .int .i64 id, .int .i64 0, .slice (some ⟨g, 0, none⟩) 1 c] ∧
      w.cell? ⟨g, 0, none⟩ = some (.string ⟨#[]⟩) ∧ B ≤ g

theorem SPart.below {B : Nat} {w w' : World} {id ep : Int} {gp cp gl cl : Nat} (h : SPart B w id ep gp cp gl cl) (hb : Below w.heap.size w w') : SPart B w' id ep gp cp gl cl := by
  obtain ⟨gw, cw, g, c, h1, h2, h3, h4, h5⟩ := h
  exact ⟨gw, cw, g, c, owns_below h1 hb, owns_below h2 hb, owns_below h3 hb, cel5 hb h4, h5⟩

theorem SPart.mono {B B' : Nat} {w : World} {id ep : Int} {gp cp gl cl : Nat} (h : SPart B w id ep gp cp gl cl) (hb : B' ≤ B) : SPart B' w id ep gp cp gl cl := by
  obtain ⟨gw, cw, g, c, h1, h2, h3, h4, h5⟩ := h
  exact ⟨gw, cw, g, c, owns_mono h1 hb, owns_mono h2 hb, owns_mono h3 hb, h4, Nat.le_trans hb h5⟩

theorem SPart.set {B : Nat} {w : World} {id ep : Int} {gp cp gl cl k o : Nat} {x : Value} (h : SPart B w id ep gp cp gl cl) (hb : k < B) : SPart B (w.setCell ⟨k, o, none⟩ x) id ep gp cp gl cl := by
  obtain ⟨gw, cw, g, c, h1, h2, h3, h4, h5⟩ := h
  exact ⟨gw, cw, g, c, own5 h1 (fun q hq => by have := h1.lt q hq; omega), own5 h2 (fun q hq => by have := h2.lt q hq; omega), own5 h3 (fun q hq => by have := h3.lt q hq; omega), sc5 (by omega) h4, h5⟩

theorem SPart.out {B : Nat} {w : World} {id ep : Int} {gp cp gl cl : Nat} (h : SPart B w id ep gp cp gl cl) :
    Prs w (some ⟨gp, 0, none⟩) [prOne id ep 0 [⟨#[]⟩]] ∧ Bats w (some ⟨gl, 0, none⟩) [btOne id ep 0 [⟨#[]⟩]] := by
  obtain ⟨gw, cw, g, c, h1, h2, h3, h4, h5⟩ := h
  exact ⟨prs_own5 h1 h2, bats_own5 (ss := [⟨#[]⟩]) h3 (strs_one h4) (by unfold maxLen; simp)⟩

/-- What is asked of spec.l5Ask. -/
def AskC : Prop := ∀ (id ep : Int) (g c : Nat) (w : World), w.cell? ⟨g, 0, none⟩ = some (.string ⟨#[]⟩) →
    Calls Try.prog 48 #[.agg #[.slice none 0 0, .slice none 0 0, .int .i64 0], .agg #[.int .i64 id, .int .i64 ep, .int .i64 0, .slice (some ⟨g, 0, none⟩) 1 c]] w fun r w' => ∃ gp cp gl cl, r = .returned (.tuple #[.agg #[.slice (some ⟨gp, 0, none⟩) 1 cp, .slice (some ⟨gl, 0, none⟩) 1 cl, .int .i64 1], .int .i64 0, .int .i64 0]) ∧ SPart w.heap.size w' id ep gp cp gl cl ∧ Below w.heap.size w w'

end Go.Proofs.Ythbhokpjedndaaa
