/-
  Rafts, the program's side: impl.LeadersIn and impl.EntryAt. Made by mkrai2.py.
-/
import Derived.Test.YtglncbhbeikclaaRaI3
import Derived.Test.YtglncbhbeikclaaRaE
namespace Go.Proofs.Ytglncbhbeikclaa
open Go.RowKit

set_option maxRecDepth 100000 in
set_option maxHeartbeats 8000000 in
theorem implLeadersIn_any (s : Ra) (a0 a1 : Option Addr) (c0 c1 : Nat) (w : World) (hs : RaR w s a0 a1) (hb : RaB s) :
    Calls Try.prog 28 #[raV s a0 c0 a1 c1] w fun e w' => ∃ a' c', e = .returned (.tuple #[.slice a' (ldrs s).length c', .bool (goodRa s)]) ∧ Ints w' a' (ldrs s) ∧ RowI w' w.heap.size a' (ldrs s).length ∧ Below w.heap.size w w' := by
  obtain ⟨u0, hu0⟩ : ∃ u0, (w.alloc (.cells #[.slice a0 s.prs.length c0, .slice a1 s.mail.length c1] 25)) = u0 := ⟨_, rfl⟩
  have kk : u0.cell? ⟨w.heap.size, 0, none⟩ = some (.slice a0 s.prs.length c0) ∧ u0.cell? ⟨w.heap.size, 1, none⟩ = some (.slice a1 s.mail.length c1) := by rw [← hu0]; simp [go_sem]
  have bB : Below w.heap.size w u0 := by rw [← hu0]; exact alRa _ _
  obtain ⟨q0, q1⟩ := kk
  obtain ⟨i0, hi, hz0, hz1, hz2⟩ := infoR Try.infoInt
  cases hg : goodRa s with
  | false =>
    have HE : Hid (ldrs s = []) := by show _ = _; simp [ldrs, hg]
    go_enter Try.func28, Try.ntmps28
    go_wp2_with fail
    refine (implGoodRa_c s _ _ _ _ _ (hs.below bB) hb.len _ hg).mono ?_
    rintro r w1 ⟨rfl, hB1⟩
    have BB := stRa bB hB1
    clear hB1
    go_wp2
    refine bodyPost_ret (v := .tuple #[.slice none 0 0, .bool false]) (by simp [results, Try.results28, go_sem]) rfl ⟨none, 0, by rw [HE.out]; rfl, by rw [HE.out]; exact Ints.nil _ _, .inl (by rw [HE.out]; rfl), BB⟩
  | true =>
    have hlen := goodRa_len hg
    have HE : Hid (ldrs s = ldrsTo s.prs s.prs.length) := by show _ = _; simp [ldrs, hg]
    go_enter Try.func28, Try.ntmps28
    go_wp2_with fail
    refine (implGoodRa_c s _ _ _ _ _ (hs.below bB) hb.len _ hg).mono ?_
    rintro r w1 ⟨rfl, hB1⟩
    have p0 := celB hB1 q0
    have B1 : Below w.heap.size w w1 := stRa bB hB1
    clear hu0 hB1
    go_wp2
    go_loopw [4, 13] (fun v i wr => ∃ k : Nat, k ≤ s.prs.length ∧ i = .int .i64 k ∧ ZSt w.heap.size w wr v (ldrsTo s.prs k)) (fun _ i _ => s.prs.length - (intOf i).toNat)
    case atStart => exact ⟨0, Nat.zero_le _, rfl, ⟨World.ownsRow_nil _ _ _ _, B1⟩⟩
    case round =>
      clear p0 B1
      obtain ⟨k, hk, rfl, hst⟩ := hrel
      obtain ⟨aw, cw, rfl⟩ := ownsZ_form hst.own
      have hzl := ldrsTo_len s.prs k
      have hB := hst.bel
      have hsz := hB.size
      by_cases hlt : k < s.prs.length
      · obtain ⟨b, hkb⟩ := getPe hlt
        obtain ⟨kb, ob, ea, r2, k2, r4, k4, e0, e1, e2, e3, e4, z2, m2, z4, m4⟩ := (hs.prs.below hB) k b hkb
        subst ea
        have hki : (k : Int) < (s.prs.length : Int) := by omega
        cases hld : b.leads with
        | true =>
          have HN : Hid (ldrsTo s.prs (k + 1) = ldrsTo s.prs k ++ [(k : Int)]) := ldrsTo_t hkb hld
          rw [hld] at e1
          clear hkb hld z2 z4
          generalize ldrsTo s.prs k = zs at *
          have hst2 : ∀ x y, ZSt w.heap.size w ((wr.alloc x).alloc y) (.slice aw zs.length cw) zs := fun x y => zst_below (zst_below hst (alRa wr x)) (alRa _ y)
          clear hst
          go_wp2_with (at_builtin; refine wpList_append_lies _ rfl _ _ 50 rfl w.heap.size 3 i0 _ 1 8 Try.underlying50 hi hz0 hz1 hz2 rfl (by decide) (.slice aw zs.length cw) zs.length (zCells zs) rfl (hst2 _ _).own ⟨wr.heap.size + 1, 0, none⟩ 1 1 (zCells [(k : Int)]) rfl rfl ?c1 ?c2 (by omega) ?c3 ?c4 ?c5 (wr.heap.size + 1 + 1) ?c6 ?_)
          case c1 => first | exact (fun j u h => h) | exact World.news_of_block (cs := #[.int .i64 (k : Int)]) (t := 3) (fr := (0, 0)) (by first | exact (heap_alloc_new (wr.alloc _) _) | simpa using (heap_alloc_new (wr.alloc _) _))
          case c2 => simp [zCells, Value.oneCell']
          case c3 => unfold maxLen; omega
          case c4 => omega
          case c5 => first | omega | (simp; omega)
          try (case c6 => simp)
          intro g4 cap4 w4 hown4 hgrow4 hat4 _
          have HS4 : Hid (ZSt w.heap.size w w4 (.slice (some ⟨g4, 0, none⟩) (zs.length + 1) cap4) (zs ++ [(k : Int)])) := zst_step (q := (k : Int)) (hst2 _ _) (Nat.le_refl _) hgrow4 hown4
          clear hown4 hgrow4 hat4 hst2 e0 e1 e2 e3 e4
          go_wp2_with fail
          go_roundw
          case rel => exact ⟨k + 1, by omega, by go_num, by rw [HN.out]; exact HS4.out⟩
          case measure => simp [intOf]; omega
        | false =>
          have HN : Hid (ldrsTo s.prs (k + 1) = ldrsTo s.prs k) := ldrsTo_f hkb hld
          rw [hld] at e1
          clear hkb hld z2 z4
          generalize ldrsTo s.prs k = zs at *
          have HS : Hid (∀ x, ZSt w.heap.size w (wr.alloc x) (.slice aw zs.length cw) zs) := fun x => zst_below hst (alRa wr x)
          clear hst
          go_wp2
          go_roundw
          case rel => exact ⟨k + 1, by omega, by go_num, by rw [HN.out]; exact HS.out _⟩
          case measure => simp [intOf]; omega
      · obtain rfl : k = s.prs.length := by omega
        have HI := (ints_of_owns hst.own).1
        have HR := (ints_of_owns hst.own).2
        rw [← HE.out] at HI HR
        obtain ⟨n, hn⟩ : ∃ n, (ldrsTo s.prs s.prs.length).length = n := ⟨_, rfl⟩
        have HN : Hid ((ldrs s).length = n) := by show _ = _; rw [HE.out]; exact hn
        rw [hn]
        clear hn hst
        go_wp2
        refine bodyPost_ret (v := .tuple #[.slice aw n cw, .bool true]) (by simp [results, Try.results28, go_sem]) rfl ⟨aw, cw, by rw [HN.out], HI, HR, hB⟩

set_option maxRecDepth 100000 in
set_option maxHeartbeats 8000000 in
theorem implEntryAt_any (s : Ra) (p k : Int) (a0 a1 : Option Addr) (c0 c1 : Nat) (w : World) (hs : RaR w s a0 a1) (hb : RaB s) :
    Calls Try.prog 33 #[raV s a0 c0 a1 c1, .int .i64 p, .int .i64 k] w fun e w' => e = .returned (.tuple #[.agg #[.int .i64 (eaA s p k).term, .int .i64 (eaA s p k).val], .bool (eaB s p k)]) ∧ Below w.heap.size w w' := by
  obtain ⟨u0, hu0⟩ : ∃ u0, (w.alloc (.cells #[.slice a0 s.prs.length c0, .slice a1 s.mail.length c1] 25)) = u0 := ⟨_, rfl⟩
  have kk : u0.cell? ⟨w.heap.size, 0, none⟩ = some (.slice a0 s.prs.length c0) ∧ u0.cell? ⟨w.heap.size, 1, none⟩ = some (.slice a1 s.mail.length c1) := by rw [← hu0]; simp [go_sem]
  have bB : Below w.heap.size w u0 := by rw [← hu0]; exact alRa _ _
  have hS : u0.heap.size = w.heap.size + 1 := by rw [← hu0]; simp
  obtain ⟨u, hu⟩ : ∃ u, (u0.alloc (.cells #[.int .i64 0, .int .i64 0] 56)) = u := ⟨_, rfl⟩
  have jj : u.cell? ⟨u0.heap.size, 0, none⟩ = some (.int .i64 0) ∧ u.cell? ⟨u0.heap.size, 1, none⟩ = some (.int .i64 0) := by rw [← hu]; simp [go_sem]
  have gf : ∀ o, u.frozen? ⟨u0.heap.size, o, none⟩ = false := fun o => by rw [← hu]; simp [go_sem]
  have lu : u0.heap.size < u.heap.size := by rw [← hu]; simp
  have hz : w.heap.size ≤ u0.heap.size := by omega
  have bU : Below u0.heap.size u0 u := by rw [← hu]; exact alRa _ _
  obtain ⟨q0, q1⟩ := kk
  replace q0 := celB bU q0
  replace q1 := celB bU q1
  replace bB := stRa bB bU
  obtain ⟨j0, j1⟩ := jj
  clear bU hS
  have hlp := hb.prs
  cases hg : goodRa s with
  | false =>
    have HE : Hid (eaA s p k = ⟨0, 0⟩ ∧ eaB s p k = false) := ea_none (by simp [eaO, hg])
    go_enter Try.func33, Try.ntmps33
    go_wp2_with fail
    refine (implGoodRa_c s _ _ _ _ _ (hs.below bB) hb.len _ hg).mono ?_
    rintro r w1 ⟨rfl, BB⟩
    have i0 := celB BB j0
    have i1 := celB BB j1
    have rf : ∀ o, w1.frozen? ⟨u0.heap.size, o, none⟩ = false := fun o => frzB BB (by omega) (gf o)
    clear j0 j1 gf hu hu0
    go_wp2
    refine bodyPost_ret (v := .tuple #[.agg #[.int .i64 0, .int .i64 0], .bool false]) (by simp [results, Try.results33, go_sem, i0, i1]) rfl ⟨by rw [HE.out.1, HE.out.2], ?_⟩
    exact ((stRa bB BB).setCell hz _).setCell hz _
  | true =>
    cases ht : thB s.prs.length p with
    | false =>
      have HE : Hid (eaA s p k = ⟨0, 0⟩ ∧ eaB s p k = false) := ea_none (by simp [eaO, ht])
      have ht' : inB p 0 ((s.prs.length : Int) - 1) = false := by rw [thB_in, ht]
      go_enter Try.func33, Try.ntmps33
      go_wp2_with fail
      refine (implGoodRa_c s _ _ _ _ _ (hs.below bB) hb.len _ hg).mono ?_
      rintro r w1 ⟨rfl, BB⟩
      have p0 := celB BB q0
      have p1 := celB BB q1
      have i0 := celB BB j0
      have i1 := celB BB j1
      have rf : ∀ o, w1.frozen? ⟨u0.heap.size, o, none⟩ = false := fun o => frzB BB (by omega) (gf o)
      clear j0 j1 gf hu hu0
      go_wp2_with fail
      refine (within_c _ _ _ _ ht').mono ?_
      rintro e w' ⟨rfl, rfl⟩
      go_wp2
      refine bodyPost_ret (v := .tuple #[.agg #[.int .i64 0, .int .i64 0], .bool false]) (by simp [results, Try.results33, go_sem, i0, i1]) rfl ⟨by rw [HE.out.1, HE.out.2], ?_⟩
      exact ((stRa bB BB).setCell hz _).setCell hz _
    | true =>
      obtain ⟨g1, g2⟩ := thB_t.1 ht
      obtain ⟨f, rfl⟩ : ∃ f : Nat, p = f := ⟨p.toNat, by omega⟩
      have ht' : inB (f : Int) 0 ((s.prs.length : Int) - 1) = true := by rw [thB_in, ht]
      have hfn : f < s.prs.length := by omega
      obtain ⟨b, hkb⟩ := getPe hfn
      obtain ⟨kb, ob, ea, r2, k2, r4, k4, -, -, e2, -, -, z2, m2, -, -⟩ := hs.prs f b hkb
      subst ea
      have hfi : (f : Int) < (s.prs.length : Int) := by omega
      unfold maxLen at m2
      cases hk' : inB k 0 ((b.log.length : Int) - 1) with
      | false =>
        have HE : Hid (eaA s f k = ⟨0, 0⟩ ∧ eaB s f k = false) := ea_none (by
          have h9 := inB_f.1 hk'
          unfold eaO
          split
          · simp only [Int.toNat_natCast, hkb]
            rw [List.getElem?_eq_none_iff]
            omega
          · rfl)
        replace e2 := celB bB e2
        clear hkb z2 g1 g2 ht
        go_enter Try.func33, Try.ntmps33
        go_wp2_with fail
        refine (implGoodRa_c s _ _ _ _ _ (hs.below bB) hb.len _ hg).mono ?_
        rintro r w1 ⟨rfl, BB⟩
        have p0 := celB BB q0
        have p1 := celB BB q1
        replace e2 := celB BB e2
        have i0 := celB BB j0
        have i1 := celB BB j1
        have rf : ∀ o, w1.frozen? ⟨u0.heap.size, o, none⟩ = false := fun o => frzB BB (by omega) (gf o)
        clear j0 j1 gf hu hu0
        go_wp2_with fail
        refine (within_c _ _ _ _ ht').mono ?_
        rintro e w' ⟨rfl, rfl⟩
        go_wp2_with fail
        refine (within_c _ _ _ _ hk').mono ?_
        rintro e w' ⟨rfl, rfl⟩
        go_wp2
        refine bodyPost_ret (v := .tuple #[.agg #[.int .i64 0, .int .i64 0], .bool false]) (by simp [results, Try.results33, go_sem, i0, i1]) rfl ⟨by rw [HE.out.1, HE.out.2], ?_⟩
        exact ((stRa bB BB).setCell hz _).setCell hz _
      | true =>
        have h9 := inB_t.1 hk'
        obtain ⟨m, rfl⟩ : ∃ m : Nat, k = m := ⟨k.toNat, by omega⟩
        have hm : m < b.log.length := by omega
        clear h9
        obtain ⟨e, hke⟩ := getEn hm
        obtain ⟨ke, oe, ea, y0, y1⟩ := z2 m e hke
        subst ea
        have HE : Hid (eaA s f m = e ∧ eaB s f m = true) := ea_some (by simp [eaO, hg, ht, hkb, hke])
        have hmi : (m : Int) < (b.log.length : Int) := by omega
        replace e2 := celB bB e2
        replace y0 := celB bB y0
        replace y1 := celB bB y1
        clear hkb hke z2 g1 g2 ht
        go_enter Try.func33, Try.ntmps33
        go_wp2_with fail
        refine (implGoodRa_c s _ _ _ _ _ (hs.below bB) hb.len _ hg).mono ?_
        rintro r w1 ⟨rfl, BB⟩
        have p0 := celB BB q0
        have p1 := celB BB q1
        replace e2 := celB BB e2
        replace y0 := celB BB y0
        replace y1 := celB BB y1
        have i0 := celB BB j0
        have i1 := celB BB j1
        have rf : ∀ o, w1.frozen? ⟨u0.heap.size, o, none⟩ = false := fun o => frzB BB (by omega) (gf o)
        clear j0 j1 gf hu hu0
        go_wp2_with fail
        refine (within_c _ _ _ _ ht').mono ?_
        rintro e w' ⟨rfl, rfl⟩
        go_wp2_with fail
        refine (within_c _ _ _ _ hk').mono ?_
        rintro e w' ⟨rfl, rfl⟩
        go_wp2
        refine bodyPost_ret (v := .tuple #[.agg #[.int .i64 e.term, .int .i64 e.val], .bool true]) (by simp [results, Try.results33, go_sem, i0, i1]) rfl ⟨by rw [HE.out.1, HE.out.2], ?_⟩
        exact ((stRa bB BB).setCell hz _).setCell hz _

end Go.Proofs.Ytglncbhbeikclaa
