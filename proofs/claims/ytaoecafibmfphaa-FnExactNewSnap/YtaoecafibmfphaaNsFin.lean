/-
  A new world of chapter 8, gathered: it is the world that NewSnap answers, in memory of the call's own.
-/
import Derived.Test.YtaoecafibmfphaaNsSt
namespace Go.Proofs.Ytaoecafibmfphaa
open Go.RowKit

def blankPc (n : Nat) : Pc := ⟨false, 0, List.replicate n 0, List.replicate n false⟩
def newSn (n : Nat) (am tot : Int) : Sn := ⟨List.replicate n am, chansL n, List.replicate n (blankPc n), 0, tot⟩

theorem getRep {α : Type} {n i : Nat} {x y : α} (h : (List.replicate n x)[i]? = some y) : i < n ∧ y = x := by
  obtain ⟨h1, h2⟩ := List.getElem?_eq_some_iff.1 h
  simp at h1 h2
  exact ⟨h1, h2.symm⟩

theorem pc_len {n : Nat} {c : Pc} {l : List Pc} (hl : ∀ c, c ∈ l → c = blankPc n) (hc : c ∈ l) : c.ins.length = n ∧ c.cl.length = n := by
  rw [hl c hc]; simp [blankPc]

theorem inI_at {b n q : Nat} (h : InI (some ⟨b, 0, none⟩) n q) : q = b := by
  obtain ⟨-, o, s, e⟩ := h
  simp at e; omega

theorem NsSt.done {B S n : Nat} {am tot : Int} {w wr u : World} {v0 v1 v2 : Value} {bl : List (Nat × Nat)} (h : NsSt B S n am tot w wr n n v0 v1 v2 bl) (hn : 0 < n) (hu : ∀ q, B ≤ q → u.heap[q]? = wr.heap[q]?) :
    ∃ a0 c0 a1 c1 a2 c2 r k p2 p3 m2 m3, v0 = .slice a0 n c0 ∧ v1 = .slice a1 (chansL n).length c1 ∧ v2 = .slice a2 n c2 ∧ SnW u B (newSn n am tot) a0 a1 a2 r k p2 p3 m2 m3 := by
  obtain ⟨a0, c0, e0⟩ := ownsC_form h.o0
  obtain ⟨a1, c1, e1⟩ := ownsC_form h.o1
  obtain ⟨a2, c2, e2⟩ := ownsC_form h.o2
  have hwf := h.o2
  have q0 := ownsC_of_block (w' := u) h.o0 fun q hq => hu q (h.o0.lt q hq).1
  have q1 := ownsC_of_block (w' := u) h.o1 fun q hq => hu q (h.o1.lt q hq).1
  have q2 := ownsC_of_block (w' := u) h.o2 fun q hq => hu q (h.o2.lt q hq).1
  have D0 := h.d0
  have D1 := h.d1
  have D2 := h.d2
  subst e0 e1 e2
  have o0 : u.ownsRow B 3 1 (.slice a0 (List.replicate n am).length c0) (List.replicate n am).length (zCells (List.replicate n am)) := by simpa using q0
  obtain ⟨I0, R0⟩ := ints_of_owns o0
  have b0 : ∀ q, InI a0 n q → (Value.slice a0 n c0).ownBlock = some q := fun q ⟨_, o, s, e⟩ => by rw [e]; rfl
  have b1 : ∀ q, InI a1 (chansL n).length q → (Value.slice a1 (chansL n).length c1).ownBlock = some q := fun q ⟨_, o, s, e⟩ => by rw [e]; rfl
  have b2 : ∀ q, InI a2 n q → (Value.slice a2 n c2).ownBlock = some q := fun q ⟨_, o, s, e⟩ => by rw [e]; rfl
  have hbl : ∀ j, j < n → ∃ p, bl[j]? = some p ∧ p ∈ bl := fun j hj => ⟨_, List.getElem?_eq_getElem (by have := h.len; omega), List.getElem_mem _⟩
  have hP : ∀ j c, (List.replicate n (blankPc n))[j]? = some c → ∃ p, bl[j]? = some p ∧ p ∈ bl ∧ c = blankPc n := fun j c hj => by
    obtain ⟨h1, h2⟩ := getRep hj
    obtain ⟨p, h3, h4⟩ := hbl j h1
    exact ⟨p, h3, h4, h2⟩
  have hway : ∀ j (c : Ch), (chansL n)[j]? = some c → c.way = [] := fun j c hj => by
    obtain ⟨_, _, -, -, -, -, e⟩ := chansL_mem (List.mem_of_getElem? hj)
    exact e
  refine ⟨a0, c0, a1, c1, a2, c2, fun _ => none, fun _ => 0, fun j => some ⟨(bl.getD j (0, 0)).1, 0, none⟩, fun j => some ⟨(bl.getD j (0, 0)).2, 0, none⟩, fun _ => n, fun _ => n, rfl, rfl, rfl, ?_⟩
  have gD : ∀ j p, bl[j]? = some p → bl.getD j (0, 0) = p := fun j p hp => by rw [List.getD_eq_getElem?_getD, hp]; rfl
  have inCh : ∀ q, ChIn a1 (chansL n) (fun _ => none) q → (Value.slice a1 (chansL n).length c1).ownBlock = some q := fun q hq => by
    rcases hq with hq | ⟨j, c, hj, hq⟩
    · exact b1 q hq
    · obtain ⟨-, o, s, e⟩ := hq
      cases e
  have inPc : ∀ q, PcIn a2 (List.replicate n (blankPc n)) (fun j => some ⟨(bl.getD j (0, 0)).1, 0, none⟩) (fun j => some ⟨(bl.getD j (0, 0)).2, 0, none⟩) q → (Value.slice a2 n c2).ownBlock = some q ∨ ∃ p ∈ bl, q = p.1 ∨ q = p.2 := fun q hq => by
    rcases hq with hq | ⟨j, c, hj, hq⟩
    · left; exact b2 q (by simpa using hq)
    · right
      obtain ⟨p, hp, hm, -⟩ := hP j c hj
      simp only [gD j p hp] at hq
      rcases hq with hq | hq
      · exact ⟨p, hm, .inl (inI_at hq)⟩
      · exact ⟨p, hm, .inr (inI_at hq)⟩
  refine ⟨I0, R0, ?_, ⟨fun j c b hj hb => ?_, fun j c j' c' b hj hj' hne hb => ?_⟩, ?_, ⟨fun j c b hj hb => ?_, fun j c b hj hb => ?_, fun j c j' c' b hj hj' hne hb => ?_, fun j c j' c' b hj hj' hb => ?_, fun j c j' c' b hj hj' hne hb => ?_⟩, fun b hb hc => ?_, fun b hb hp => ?_, fun b hc hp => ?_⟩
  · -- channels
    by_cases hc0 : chansL n = []
    · exact .inl hc0
    · have hpos : 0 < (chansL n).length := Nat.pos_of_ne_zero fun e => hc0 (List.eq_nil_of_length_eq_zero e)
      obtain ⟨g, cap, f, hv, hg, hcap, hrow, hx⟩ := row_of_ownsC q1 hpos
      simp only [Value.slice.injEq] at hv
      obtain ⟨rfl, -, rfl⟩ := hv
      refine .inr ⟨g, _, f, rfl, hg, Nat.mul_le_mul_right 3 hcap, hrow, fun j c hj => ?_⟩
      replace hj : (chansL n)[j]? = some c := hj
      have hlt := (List.getElem?_eq_some_iff.1 hj).1
      obtain ⟨x0, x1, x2⟩ := chCells_get (chansL n) j c hj
      rw [hx _ (by omega)] at x0 x1 x2
      have ew := hway j c hj
      exact ⟨Option.some.inj x0, Option.some.inj x1, by rw [ew]; exact Option.some.inj x2, by rw [ew]; exact Ints.nil _ _, by rw [ew]; exact .inl rfl⟩
  · rw [hway j c hj] at hb; exact absurd hb.1 (by simp)
  · rw [hway j c hj] at hb; exact absurd hb.1 (by simp)
  · -- pictures
    obtain ⟨g, cap, f, hv, hg, hcap, hrow, hx⟩ := row_of_ownsC q2 hn
    simp only [Value.slice.injEq] at hv
    obtain ⟨rfl, -, rfl⟩ := hv
    refine .inr ⟨g, _, f, rfl, hg, by simp only [newSn, List.length_replicate]; exact Nat.mul_le_mul_right 4 hcap, hrow, fun j c hj => ?_⟩
    obtain ⟨p, hp, hm, rfl⟩ := hP j c hj
    have hlt := (getRep hj).1
    obtain ⟨x0, x1, x2, x3⟩ := pcCells_get n bl j p hp
    rw [hx _ (by omega)] at x0 x1 x2 x3
    obtain ⟨r2, r3⟩ := h.rows p hm
    have g2 := (h.ge p hm).1
    have g3 := (h.ge p hm).2
    have s2 := r2.of_block (w' := u) (hu p.1 g2)
    have s3 := r3.of_block (w' := u) (hu p.2 g3)
    have k0 : (blankPc n).ins.length = n := by simp [blankPc]
    have k1 : (blankPc n).cl.length = n := by simp [blankPc]
    refine ⟨Option.some.inj x0, Option.some.inj x1, ?_, ?_, ?_, ?_, ?_, ?_⟩
    · simp only [k0, gD j p hp]; exact Option.some.inj x2
    · simp only [k1, gD j p hp]; exact Option.some.inj x3
    · simp only [gD j p hp]
      exact Ints.of_row s2 (by rw [k0]; exact Nat.le_refl _) fun i z hi => by obtain ⟨-, rfl⟩ := getRep hi; rfl
    · simp only [gD j p hp]; rw [k0]
      exact .inr ⟨p.1, n, _, rfl, g2, Nat.le_refl _, s2⟩
    · simp only [gD j p hp]
      exact Bools.of_row s3 (by rw [k1]; exact Nat.le_refl _) fun i z hi => by obtain ⟨-, rfl⟩ := getRep hi; rfl
    · simp only [gD j p hp]; rw [k1]
      exact .inr ⟨p.2, n, _, rfl, g3, Nat.le_refl _, s3⟩
  · obtain ⟨p, hp, hm, -⟩ := hP j c hj
    simp only [gD j p hp] at hb
    have eb := inI_at hb
    intro hr
    have := (D2 b (b2 b (by simpa [newSn] using hr))).2 p hm
    omega
  · obtain ⟨p, hp, hm, -⟩ := hP j c hj
    simp only [gD j p hp] at hb
    have eb := inI_at hb
    intro hr
    have := (D2 b (b2 b (by simpa [newSn] using hr))).2 p hm
    omega
  · obtain ⟨p, hp, hm, -⟩ := hP j c hj
    obtain ⟨p', hp', hm', -⟩ := hP j' c' hj'
    simp only [gD j p hp] at hb
    have eb := inI_at hb
    intro hr
    simp only [gD j' p' hp'] at hr
    have eb' := inI_at hr
    have hd : p.1 ≠ p'.1 := by
      obtain ⟨l1, y1⟩ := List.getElem?_eq_some_iff.1 hp
      obtain ⟨l2, y2⟩ := List.getElem?_eq_some_iff.1 hp'
      have hpw := List.pairwise_iff_getElem.1 h.dp
      rcases Nat.lt_or_gt_of_ne hne with hlt | hlt
      · have := hpw j j' l1 l2 hlt
        rw [y1, y2] at this
        exact this.1
      · have := hpw j' j l2 l1 hlt
        rw [y1, y2] at this
        exact fun e => this.1 e.symm
    omega
  · obtain ⟨p, hp, hm, -⟩ := hP j c hj
    obtain ⟨p', hp', hm', -⟩ := hP j' c' hj'
    simp only [gD j p hp] at hb
    have eb := inI_at hb
    intro hr
    simp only [gD j' p' hp'] at hr
    have eb' := inI_at hr
    have hd : p.1 ≠ p'.2 := by
      obtain ⟨l1, y1⟩ := List.getElem?_eq_some_iff.1 hp
      obtain ⟨l2, y2⟩ := List.getElem?_eq_some_iff.1 hp'
      have hpw := List.pairwise_iff_getElem.1 h.dp
      rcases Nat.lt_trichotomy j j' with hlt | rfl | hlt
      · have := hpw j j' l1 l2 hlt
        rw [y1, y2] at this
        exact this.2.1
      · have e : p = p' := by rw [← y1, ← y2]
        subst e
        exact (h.db p hm).2.2
      · have := hpw j' j l2 l1 hlt
        rw [y1, y2] at this
        exact fun e => this.2.2.1 e.symm
    omega
  · obtain ⟨p, hp, hm, -⟩ := hP j c hj
    obtain ⟨p', hp', hm', -⟩ := hP j' c' hj'
    simp only [gD j p hp] at hb
    have eb := inI_at hb
    intro hr
    simp only [gD j' p' hp'] at hr
    have eb' := inI_at hr
    have hd : p.2 ≠ p'.2 := by
      obtain ⟨l1, y1⟩ := List.getElem?_eq_some_iff.1 hp
      obtain ⟨l2, y2⟩ := List.getElem?_eq_some_iff.1 hp'
      have hpw := List.pairwise_iff_getElem.1 h.dp
      rcases Nat.lt_or_gt_of_ne hne with hlt | hlt
      · have := hpw j j' l1 l2 hlt
        rw [y1, y2] at this
        exact this.2.2.2
      · have := hpw j' j l2 l1 hlt
        rw [y1, y2] at this
        exact fun e => this.2.2.2 e.symm
    omega
  · have e := D0 b (b0 b (by simpa [newSn] using hb))
    exact e.2.1 (inCh b hc)
  · have e := D0 b (b0 b (by simpa [newSn] using hb))
    rcases inPc b hp with hp | ⟨p, hm, hp⟩
    · exact e.2.2.1 hp
    · have := e.2.2.2 p hm; omega
  · have e := D1 b (inCh b hc)
    rcases inPc b hp with hp | ⟨p, hm, hp⟩
    · exact e.2.1 hp
    · have := e.2.2 p hm; omega

end Go.Proofs.Ytaoecafibmfphaa
