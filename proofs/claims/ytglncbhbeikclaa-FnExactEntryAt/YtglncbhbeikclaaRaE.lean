/-
  Rafts, the specification's side: EntryAt. Made by mkra2.py.
-/
import Derived.Test.YtglncbhbeikclaaRaS3
import Derived.BigQuiet
namespace Go.Proofs.Ytglncbhbeikclaa
open Go.RowKit

/-- The entry that EntryAt tells, if there is one. -/
def eaO (s : Ra) (p k : Int) : Option En :=
  if goodRa s = true ∧ thB s.prs.length p = true ∧ 0 ≤ k then (match s.prs[p.toNat]? with | some q => q.log[k.toNat]? | none => none) else none
def eaA (s : Ra) (p k : Int) : En := (eaO s p k).getD ⟨0, 0⟩
def eaB (s : Ra) (p k : Int) : Bool := (eaO s p k).isSome
theorem ea_none {s : Ra} {p k : Int} (h : eaO s p k = none) : eaA s p k = ⟨0, 0⟩ ∧ eaB s p k = false := by simp [eaA, eaB, h]
theorem ea_some {s : Ra} {p k : Int} {e : En} (h : eaO s p k = some e) : eaA s p k = e ∧ eaB s p k = true := by simp [eaA, eaB, h]

set_option maxRecDepth 100000 in
set_option maxHeartbeats 8000000 in
theorem specEntryAt_any (s : Ra) (p k : Int) (a0 a1 : Option Addr) (c0 c1 : Nat) (w : World) (hs : RaR w s a0 a1) (hl : RaL s) :
    Calls Try.prog 32 #[raV s a0 c0 a1 c1, .int .i64 p, .int .i64 k] w fun e w' => e = .returned (.tuple #[.agg #[.int .i64 (eaA s p k).term, .int .i64 (eaA s p k).val], .bool (eaB s p k)]) ∧ Below w.heap.size w w' := by
  obtain ⟨u0, hu0⟩ : ∃ u0, (w.alloc (.cells #[.slice a0 s.prs.length c0, .slice a1 s.mail.length c1] 25)) = u0 := ⟨_, rfl⟩
  have kk : u0.cell? ⟨w.heap.size, 0, none⟩ = some (.slice a0 s.prs.length c0) ∧ u0.cell? ⟨w.heap.size, 1, none⟩ = some (.slice a1 s.mail.length c1) := by rw [← hu0]; simp [go_sem]
  have bB : Below w.heap.size w u0 := by rw [← hu0]; exact alRa _ _
  have hS : u0.heap.size = w.heap.size + 1 := by rw [← hu0]; simp
  obtain ⟨u, hu⟩ : ∃ u, (u0.alloc (.cells #[.int .i64 0, .int .i64 0] 56)) = u := ⟨_, rfl⟩
  have jj : u.cell? ⟨u0.heap.size, 0, none⟩ = some (.int .i64 0) ∧ u.cell? ⟨u0.heap.size, 1, none⟩ = some (.int .i64 0) := by rw [← hu]; simp [go_sem]
  have gf : ∀ o, u.frozen? ⟨u0.heap.size, o, none⟩ = false := fun o => by rw [← hu]; simp [go_sem]
  have lu : u0.heap.size < u.heap.size := by rw [← hu]; simp
  have hz : w.heap.size ≤ u0.heap.size := by omega
  have bU : Below u0.heap.size u0 u := by rw [← hu]; exact alRa _ _
  obtain ⟨q0, q1⟩ := kk
  replace q0 := celB bU q0
  replace q1 := celB bU q1
  replace bB := stRa bB bU
  obtain ⟨j0, j1⟩ := jj
  clear bU hS
  cases hg : goodRa s with
  | false =>
    have HE : Hid (eaA s p k = ⟨0, 0⟩ ∧ eaB s p k = false) := ea_none (by simp [eaO, hg])
    go_enter Try.func32, Try.ntmps32
    go_wp2_with fail
    refine (specGoodRa_c s _ _ _ _ _ _ (hs.below bB) hl hg).mono ?_
    rintro r w1 ⟨rfl, hB1⟩
    have BB := hB1
    clear hB1
    have i0 := celB BB j0
    have i1 := celB BB j1
    have rf : ∀ o, w1.frozen? ⟨u0.heap.size, o, none⟩ = false := fun o => frzB BB (by omega) (gf o)
    clear j0 j1 gf hu hu0
    go_wp2
    refine bodyPost_ret (v := .tuple #[.agg #[.int .i64 0, .int .i64 0], .bool false]) (by simp [results, Try.results32, go_sem, i0, i1]) rfl ⟨by rw [HE.out.1, HE.out.2], ?_⟩
    exact ((stRa bB BB).setCell hz _).setCell hz _
  | true =>
    cases ht : thB s.prs.length p with
    | false =>
      have HE : Hid (eaA s p k = ⟨0, 0⟩ ∧ eaB s p k = false) := ea_none (by simp [eaO, ht])
      go_enter Try.func32, Try.ntmps32
      go_wp2_with fail
      refine (specGoodRa_c s _ _ _ _ _ _ (hs.below bB) hl hg).mono ?_
      rintro r w1 ⟨rfl, hB1⟩
      have p0 := celB hB1 q0
      have p1 := celB hB1 q1
      go_wp2_with fail
      refine (l10There_q s _ _ _ _ _ _ _ ht).mono ?_
      rintro r w2 ⟨rfl, hB2⟩
      have BB := stRa hB1 hB2
      have p0' := celB hB2 p0
      have p1' := celB hB2 p1
      clear hB1 hB2 p0 p1 q0 q1
      have i0 := celB BB j0
      have i1 := celB BB j1
      have rf : ∀ o, w2.frozen? ⟨u0.heap.size, o, none⟩ = false := fun o => frzB BB (by omega) (gf o)
      clear j0 j1 gf hu hu0
      go_wp2
      refine bodyPost_ret (v := .tuple #[.agg #[.int .i64 0, .int .i64 0], .bool false]) (by simp [results, Try.results32, go_sem, i0, i1]) rfl ⟨by rw [HE.out.1, HE.out.2], ?_⟩
      exact ((stRa bB BB).setCell hz _).setCell hz _
    | true =>
      by_cases hk0 : k < 0
      · have HE : Hid (eaA s p k = ⟨0, 0⟩ ∧ eaB s p k = false) := ea_none (by simp [eaO]; omega)
        go_enter Try.func32, Try.ntmps32
        go_wp2_with fail
        refine (specGoodRa_c s _ _ _ _ _ _ (hs.below bB) hl hg).mono ?_
        rintro r w1 ⟨rfl, hB1⟩
        have p0 := celB hB1 q0
        have p1 := celB hB1 q1
        go_wp2_with fail
        refine (l10There_q s _ _ _ _ _ _ _ ht).mono ?_
        rintro r w2 ⟨rfl, hB2⟩
        have BB := stRa hB1 hB2
        have p0' := celB hB2 p0
        have p1' := celB hB2 p1
        clear hB1 hB2 p0 p1 q0 q1
        have i0 := celB BB j0
        have i1 := celB BB j1
        have rf : ∀ o, w2.frozen? ⟨u0.heap.size, o, none⟩ = false := fun o => frzB BB (by omega) (gf o)
        clear j0 j1 gf hu hu0
        go_wp2
        refine bodyPost_ret (v := .tuple #[.agg #[.int .i64 0, .int .i64 0], .bool false]) (by simp [results, Try.results32, go_sem, i0, i1]) rfl ⟨by rw [HE.out.1, HE.out.2], ?_⟩
        exact ((stRa bB BB).setCell hz _).setCell hz _
      obtain ⟨g1, g2⟩ := thB_t.1 ht
      obtain ⟨f, rfl⟩ : ∃ f : Nat, p = f := ⟨p.toNat, by omega⟩
      obtain ⟨m, rfl⟩ : ∃ m : Nat, k = m := ⟨k.toNat, by omega⟩
      have hfn : f < s.prs.length := by omega
      obtain ⟨b, hkb⟩ := getPe hfn
      obtain ⟨kb, ob, ea, r2, k2, r4, k4, -, -, e2, -, -, z2, m2, -, -⟩ := hs.prs f b hkb
      subst ea
      have hfi : (f : Int) < (s.prs.length : Int) := by omega
      have HO : Hid (eaO s f m = b.log[m]?) := by show _ = _; simp [eaO, hg, ht, hkb]
      by_cases hm : m < b.log.length
      · obtain ⟨e, hke⟩ := getEn hm
        obtain ⟨ke, oe, ea, y0, y1⟩ := z2 m e hke
        subst ea
        have HE : Hid (eaA s f m = e ∧ eaB s f m = true) := ea_some (by rw [HO.out, hke])
        have hmi : (m : Int) < (b.log.length : Int) := by omega
        replace e2 := celB bB e2
        replace y0 := celB bB y0
        replace y1 := celB bB y1
        clear hke hkb z2 HO
        go_enter Try.func32, Try.ntmps32
        go_wp2_with fail
        refine (specGoodRa_c s _ _ _ _ _ _ (hs.below bB) hl hg).mono ?_
        rintro r w1 ⟨rfl, hB1⟩
        have p0 := celB hB1 q0
        have p1 := celB hB1 q1
        go_wp2_with fail
        refine (l10There_q s _ _ _ _ _ _ _ ht).mono ?_
        rintro r w2 ⟨rfl, hB2⟩
        have BB := stRa hB1 hB2
        have p0' := celB hB2 p0
        have p1' := celB hB2 p1
        clear hB1 hB2 p0 p1 q0 q1
        have i0 := celB BB j0
        have i1 := celB BB j1
        have rf : ∀ o, w2.frozen? ⟨u0.heap.size, o, none⟩ = false := fun o => frzB BB (by omega) (gf o)
        clear j0 j1 gf hu hu0
        replace e2 := celB BB e2
        replace y0 := celB BB y0
        replace y1 := celB BB y1
        go_wp2
        refine bodyPost_ret (v := .tuple #[.agg #[.int .i64 e.term, .int .i64 e.val], .bool true]) (by simp [results, Try.results32, go_sem, i0, i1]) rfl ⟨by rw [HE.out.1, HE.out.2], ?_⟩
        exact ((stRa bB BB).setCell hz _).setCell hz _
      · have HE : Hid (eaA s f m = ⟨0, 0⟩ ∧ eaB s f m = false) := ea_none (by rw [HO.out, List.getElem?_eq_none_iff]; omega)
        have hmi : (b.log.length : Int) ≤ (m : Int) := by omega
        replace e2 := celB bB e2
        clear hkb z2 HO
        go_enter Try.func32, Try.ntmps32
        go_wp2_with fail
        refine (specGoodRa_c s _ _ _ _ _ _ (hs.below bB) hl hg).mono ?_
        rintro r w1 ⟨rfl, hB1⟩
        have p0 := celB hB1 q0
        have p1 := celB hB1 q1
        go_wp2_with fail
        refine (l10There_q s _ _ _ _ _ _ _ ht).mono ?_
        rintro r w2 ⟨rfl, hB2⟩
        have BB := stRa hB1 hB2
        have p0' := celB hB2 p0
        have p1' := celB hB2 p1
        clear hB1 hB2 p0 p1 q0 q1
        have i0 := celB BB j0
        have i1 := celB BB j1
        have rf : ∀ o, w2.frozen? ⟨u0.heap.size, o, none⟩ = false := fun o => frzB BB (by omega) (gf o)
        clear j0 j1 gf hu hu0
        replace e2 := celB BB e2
        go_wp2
        refine bodyPost_ret (v := .tuple #[.agg #[.int .i64 0, .int .i64 0], .bool false]) (by simp [results, Try.results32, go_sem, i0, i1]) rfl ⟨by rw [HE.out.1, HE.out.2], ?_⟩
        exact ((stRa bB BB).setCell hz _).setCell hz _

end Go.Proofs.Ytglncbhbeikclaa
