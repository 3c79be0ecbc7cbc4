/-
  Clusters, the specification's side: BehindIn. Made by mkcus3.py.
-/
import Derived.Test.YtekjpbfmiebigaaDoorCuS4
import Derived.Test.YtekjpbfmiebigaaDoorZan
import Derived.Test.YtekjpbfmiebigaaDoorAppZ
import Derived.Deep.AppendLies
namespace Go.Proofs.YtekjpbfmiebigaaDoor
open Go.RowKit

theorem bhdTo_len (s : Cu) : ∀ k, (bhdTo s k).length ≤ k
  | 0 => by simp [bhdTo]
  | k + 1 => by
    have := bhdTo_len s k
    rw [bhdTo]
    split
    · simp; omega
    · omega
theorem bhdTo_t {s : Cu} {k : Nat} {x : Nd} (hk : s.nodes[k]? = some x) (h : bhd s x = true) : bhdTo s (k + 1) = bhdTo s k ++ [(k : Int)] := by rw [bhdTo, ndA_some hk, if_pos h]
theorem bhdTo_f {s : Cu} {k : Nat} {x : Nd} (hk : s.nodes[k]? = some x) (h : bhd s x = false) : bhdTo s (k + 1) = bhdTo s k := by rw [bhdTo, ndA_some hk, if_neg (by rw [h]; simp)]

theorem bhdL_len (s : Cu) : (bhdL s).length ≤ 1000000 := by
  unfold bhdL
  split
  · rename_i h
    have h1 := bhdTo_len s s.nodes.length
    have h2 := goodCu_len h
    omega
  · simp

set_option maxRecDepth 100000 in
set_option maxHeartbeats 8000000 in
theorem specBehindIn_any (s : Cu) (a0 a1 a2 : Option Addr) (c0 c1 c2 : Nat) (w : World) (hs : CuR w s a0 a1 a2) (hl : CuL s) :
    Calls Tryd.prog 11 #[cuV s a0 c0 a1 c1 a2 c2] w fun e w' => ∃ a' c', e = .returned (.tuple #[.slice a' (bhdL s).length c', .bool (goodCu s)]) ∧ Ints w' a' (bhdL s) ∧ Below w.heap.size w w' := by
  obtain ⟨u0, hu0⟩ : ∃ u0, (w.alloc (.cells #[.int .i64 s.tep, .int .i64 s.tld, .slice a0 s.tst.length c0, .slice a1 s.nodes.length c1, .slice a2 s.acked.length c2] 28)) = u0 := ⟨_, rfl⟩
  have q0 : u0.cell? ⟨w.heap.size, 0, none⟩ = some (.int .i64 s.tep) := by rw [← hu0]; simp [go_sem]
  have q1 : u0.cell? ⟨w.heap.size, 1, none⟩ = some (.int .i64 s.tld) := by rw [← hu0]; simp [go_sem]
  have q2 : u0.cell? ⟨w.heap.size, 2, none⟩ = some (.slice a0 s.tst.length c0) := by rw [← hu0]; simp [go_sem]
  have q3 : u0.cell? ⟨w.heap.size, 3, none⟩ = some (.slice a1 s.nodes.length c1) := by rw [← hu0]; simp [go_sem]
  have q4 : u0.cell? ⟨w.heap.size, 4, none⟩ = some (.slice a2 s.acked.length c2) := by rw [← hu0]; simp [go_sem]
  have bB : Below w.heap.size w u0 := by rw [← hu0]; exact alCu _ _
  have mm := hl.nodes
  unfold maxLen at mm
  obtain ⟨i0, hi, hz0, hz1, hz2⟩ := infoZ Tryd.infoInt
  cases hg : goodCu s with
  | false =>
    have HE : Hid (bhdL s = []) := by show _ = _; simp [bhdL, hg]
    go_enter Tryd.func11, Tryd.ntmps11
    go_wp2_with fail
    refine (specGoodCu_c s _ _ _ _ _ _ _ _ (hs.below bB) hl hg).mono ?_
    rintro r w1 ⟨rfl, hB1⟩
    have BB := stCu bB hB1
    clear hB1 hu0
    go_wp2
    refine bodyPost_ret (v := .tuple #[.slice none 0 0, .bool false]) (by simp [results, Tryd.results11, go_sem]) rfl ⟨none, 0, by rw [HE.out]; rfl, by rw [HE.out]; exact Ints.nil _ _, BB⟩
  | true =>
    have hlen := goodCu_len hg
    have HE : Hid (bhdL s = bhdTo s s.nodes.length) := by show _ = _; simp [bhdL, hg]
    go_enter Tryd.func11, Tryd.ntmps11
    go_wp2_with fail
    refine (specGoodCu_c s _ _ _ _ _ _ _ _ (hs.below bB) hl hg).mono ?_
    rintro r w1 ⟨rfl, hB1⟩
    have B1 := stCu bB hB1
    replace q0 := celB hB1 q0
    replace q1 := celB hB1 q1
    replace q2 := celB hB1 q2
    replace q3 := celB hB1 q3
    replace q4 := celB hB1 q4
    clear hB1 hu0
    go_wp2
    go_loopw [4, 13] (fun v i wr => ∃ k : Nat, k ≤ s.nodes.length ∧ i = .int .i64 k ∧ ZSt w1.heap.size w1 wr v (bhdTo s k)) (fun _ i _ => s.nodes.length - (intOf i).toNat)
    case atStart => exact ⟨0, Nat.zero_le _, rfl, ⟨World.ownsRow_nil _ _ _ _, Below.refl _ _⟩⟩
    case round =>
      obtain ⟨k, hk, rfl, hst⟩ := hrel
      have hB := hst.bel
      replace q0 := celB hB q0
      replace q1 := celB hB q1
      replace q2 := celB hB q2
      replace q3 := celB hB q3
      replace q4 := celB hB q4
      obtain ⟨aw, cw, rfl⟩ := ownsZ_form hst.own
      have hzl := bhdTo_len s k
      have hBel := stCu B1 hB
      by_cases hlt : k < s.nodes.length
      · obtain ⟨x, hx⟩ : ∃ x, s.nodes[k]? = some x := ⟨_, List.getElem?_eq_getElem hlt⟩
        have HK : Hid (s.nodes[k]? = some x) := hx
        have hki : (k : Int) < (s.nodes.length : Int) := by omega
        have hNB := hs.nodes.below hBel
        clear hx
        cases ht : bhd s x with
        | true =>
          have HN : Hid (bhdTo s (k + 1) = bhdTo s k ++ [(k : Int)]) := bhdTo_t HK.out ht
          generalize bhdTo s k = zs at *
          obtain ⟨kb, ob, ea, r2, k2, r3, k3, r4, k4, e0, e1, e2, e3, e4, e5, z2, m2, z3, m3, z4, m4⟩ := hNB k x HK.out
          subst ea
          clear z3 z4 hNB
          have q0v := fun o => celB (alCu wr o) q0
          have q1v := fun o => celB (alCu wr o) q1
          have q2v := fun o => celB (alCu wr o) q2
          go_wp2_with fail
          refine (l17Same_c x.epoch x.leader s.tep s.tld _ _ _ _ x.steps s.tst _ _ (z2.below (alCu wr _)) ((hs.tst.below hBel).below (alCu wr _)) m2 hl.tst (by have := ht; simp only [bhd, Bool.not_eq_true'] at this; exact this)).mono ?_
          rintro r w3 ⟨rfl, hB3'⟩
          have hB3 := stCu (alCu wr _) hB3'
          clear hB3' z2 e0 e1 e2 e3 e4 e5 q0v q1v q2v
          replace hst := zst_below hst hB3
          clear hB3
          have hsz := hst.bel.size
          have hst2 : ∀ x, ZSt w1.heap.size w1 (w3.alloc x) (.slice aw zs.length cw) zs := fun x => zst_below hst (alCu w3 x)
          clear hst
          go_wp2_with (at_builtin; refine wpList_append_lies _ rfl _ _ 22 rfl w1.heap.size 3 i0 _ 1 8 Tryd.underlying22 hi hz0 hz1 hz2 rfl (by decide) (.slice aw zs.length cw) zs.length (zCells zs) rfl (hst2 _).own ⟨w3.heap.size, 0, none⟩ 1 1 (zCells [(k : Int)]) rfl rfl ?c1 ?c2 (by omega) ?c3 ?c4 ?c5 (w3.heap.size + 1) ?c6 ?_)
          case c1 => exact World.news_of_block (cs := #[.int .i64 (k : Int)]) (t := 3) (fr := (0, 0)) (by first | exact (heap_alloc_new w3 _) | simpa using (heap_alloc_new w3 _))
          case c2 => simp [zCells, Value.oneCell']
          case c3 => unfold maxLen; omega
          case c4 => omega
          case c5 => first | omega | (simp; omega)
          try (case c6 => simp)
          intro g4 cap4 w4 hown4 hgrow4 hat4 _
          have HS4 : Hid (ZSt w1.heap.size w1 w4 (.slice (some ⟨g4, 0, none⟩) (zs.length + 1) cap4) (zs ++ [(k : Int)])) := zst_step (q := (k : Int)) (hst2 _) (Nat.le_refl _) hgrow4 hown4
          clear hown4 hgrow4 hat4 hst2
          go_wp2_with fail
          go_roundw
          case rel => exact ⟨k + 1, by omega, by go_num, by rw [HN.out]; exact HS4.out⟩
          case measure => simp [intOf]; omega
        | false =>
          have HN : Hid (bhdTo s (k + 1) = bhdTo s k) := bhdTo_f HK.out ht
          generalize bhdTo s k = zs at *
          obtain ⟨kb, ob, ea, r2, k2, r3, k3, r4, k4, e0, e1, e2, e3, e4, e5, z2, m2, z3, m3, z4, m4⟩ := hNB k x HK.out
          subst ea
          clear z3 z4 hNB
          have q0v := fun o => celB (alCu wr o) q0
          have q1v := fun o => celB (alCu wr o) q1
          have q2v := fun o => celB (alCu wr o) q2
          go_wp2_with fail
          refine (l17Same_c x.epoch x.leader s.tep s.tld _ _ _ _ x.steps s.tst _ _ (z2.below (alCu wr _)) ((hs.tst.below hBel).below (alCu wr _)) m2 hl.tst (by have := ht; simp only [bhd, Bool.not_eq_false'] at this; exact this)).mono ?_
          rintro r w3 ⟨rfl, hB3'⟩
          have hB3 := stCu (alCu wr _) hB3'
          clear hB3' z2 e0 e1 e2 e3 e4 e5 q0v q1v q2v
          have HS : Hid (ZSt w1.heap.size w1 w3 (.slice aw zs.length cw) zs) := zst_below hst hB3
          clear hst hB3 hB
          go_wp2
          go_roundw
          case rel => exact ⟨k + 1, by omega, by go_num, by rw [HN.out]; exact HS.out⟩
          case measure => simp [intOf]; omega
      · obtain rfl : k = s.nodes.length := by omega
        have HI := (ints_of_owns hst.own).1
        rw [← HE.out] at HI
        obtain ⟨n, hn⟩ : ∃ n, (bhdTo s s.nodes.length).length = n := ⟨_, rfl⟩
        have HN : Hid ((bhdL s).length = n) := by show _ = _; rw [HE.out]; exact hn
        rw [hn]
        clear hn hst
        go_wp2
        refine bodyPost_ret (v := .tuple #[.slice aw n cw, .bool true]) (by simp [results, Tryd.results11, go_sem]) rfl ⟨aw, cw, by rw [HN.out], HI, hBel⟩

end Go.Proofs.YtekjpbfmiebigaaDoor
