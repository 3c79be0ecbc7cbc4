/-
  Clusters, the specification's side: ThinkLead. Made by mkcus3.py.
-/
import Derived.Test.YtekjpbfmiebigaaCuS3
import Derived.Test.YtekjpbfmiebigaaZan
import Derived.Test.YtekjpbfmiebigaaAppZ
import Derived.Deep.AppendLies
namespace Go.Proofs.Ytekjpbfmiebigaa
open Go.RowKit

theorem goodCu_len {s : Cu} (h : goodCu s = true) : s.nodes.length ≤ 4 := by
  simp only [goodCu, headCu, Bool.and_eq_true] at h
  have := inB_t.1 h.1.1
  omega
theorem thkTo_len (s : Cu) : ∀ k, (thkTo s k).length ≤ k
  | 0 => by simp [thkTo]
  | k + 1 => by
    have := thkTo_len s k
    rw [thkTo]
    split
    · simp; omega
    · omega
theorem thkTo_t {s : Cu} {k : Nat} {x : Nd} (hk : s.nodes[k]? = some x) (h : thinks k x = true) : thkTo s (k + 1) = thkTo s k ++ [(k : Int)] := by rw [thkTo, ndA_some hk, if_pos h]
theorem thkTo_f {s : Cu} {k : Nat} {x : Nd} (hk : s.nodes[k]? = some x) (h : thinks k x = false) : thkTo s (k + 1) = thkTo s k := by rw [thkTo, ndA_some hk, if_neg (by rw [h]; simp)]

set_option maxRecDepth 100000 in
set_option maxHeartbeats 8000000 in
theorem specThinkLead_any (s : Cu) (a0 a1 a2 : Option Addr) (c0 c1 c2 : Nat) (w : World) (hs : CuR w s a0 a1 a2) (hl : CuL s) :
    Calls Try.prog 10 #[cuV s a0 c0 a1 c1 a2 c2] w fun e w' => ∃ a' c', e = .returned (.tuple #[.slice a' (thkL s).length c', .bool (goodCu s)]) ∧ Ints w' a' (thkL s) ∧ Below w.heap.size w w' := by
  obtain ⟨u0, hu0⟩ : ∃ u0, (w.alloc (.cells #[.int .i64 s.tep, .int .i64 s.tld, .slice a0 s.tst.length c0, .slice a1 s.nodes.length c1, .slice a2 s.acked.length c2] 35)) = u0 := ⟨_, rfl⟩
  have q0 : u0.cell? ⟨w.heap.size, 0, none⟩ = some (.int .i64 s.tep) := by rw [← hu0]; simp [go_sem]
  have q1 : u0.cell? ⟨w.heap.size, 1, none⟩ = some (.int .i64 s.tld) := by rw [← hu0]; simp [go_sem]
  have q2 : u0.cell? ⟨w.heap.size, 2, none⟩ = some (.slice a0 s.tst.length c0) := by rw [← hu0]; simp [go_sem]
  have q3 : u0.cell? ⟨w.heap.size, 3, none⟩ = some (.slice a1 s.nodes.length c1) := by rw [← hu0]; simp [go_sem]
  have q4 : u0.cell? ⟨w.heap.size, 4, none⟩ = some (.slice a2 s.acked.length c2) := by rw [← hu0]; simp [go_sem]
  have bB : Below w.heap.size w u0 := by rw [← hu0]; exact alCu _ _
  have mm := hl.nodes
  unfold maxLen at mm
  obtain ⟨i0, hi, hz0, hz1, hz2⟩ := infoZ Try.infoInt
  cases hg : goodCu s with
  | false =>
    have HE : Hid (thkL s = []) := by show _ = _; simp [thkL, hg]
    go_enter Try.func10, Try.ntmps10
    go_wp2_with fail
    refine (specGoodCu_c s _ _ _ _ _ _ _ _ (hs.below bB) hl hg).mono ?_
    rintro r w1 ⟨rfl, hB1⟩
    have BB := stCu bB hB1
    clear hB1 hu0
    go_wp2
    refine bodyPost_ret (v := .tuple #[.slice none 0 0, .bool false]) (by simp [results, Try.results10, go_sem]) rfl ⟨none, 0, by rw [HE.out]; rfl, by rw [HE.out]; exact Ints.nil _ _, BB⟩
  | true =>
    have hlen := goodCu_len hg
    have HE : Hid (thkL s = thkTo s s.nodes.length) := by show _ = _; simp [thkL, hg]
    go_enter Try.func10, Try.ntmps10
    go_wp2_with fail
    refine (specGoodCu_c s _ _ _ _ _ _ _ _ (hs.below bB) hl hg).mono ?_
    rintro r w1 ⟨rfl, hB1⟩
    have B1 := stCu bB hB1
    replace q0 := celB hB1 q0
    replace q1 := celB hB1 q1
    replace q2 := celB hB1 q2
    replace q3 := celB hB1 q3
    replace q4 := celB hB1 q4
    clear hB1 hu0
    go_wp2
    go_loopw [4, 12] (fun v i wr => ∃ k : Nat, k ≤ s.nodes.length ∧ i = .int .i64 k ∧ ZSt w1.heap.size w1 wr v (thkTo s k)) (fun _ i _ => s.nodes.length - (intOf i).toNat)
    case atStart => exact ⟨0, Nat.zero_le _, rfl, ⟨World.ownsRow_nil _ _ _ _, Below.refl _ _⟩⟩
    case round =>
      obtain ⟨k, hk, rfl, hst⟩ := hrel
      have hB := hst.bel
      replace q0 := celB hB q0
      replace q1 := celB hB q1
      replace q2 := celB hB q2
      replace q3 := celB hB q3
      replace q4 := celB hB q4
      obtain ⟨aw, cw, rfl⟩ := ownsZ_form hst.own
      have hzl := thkTo_len s k
      have hBel := stCu B1 hB
      by_cases hlt : k < s.nodes.length
      · obtain ⟨x, hx⟩ : ∃ x, s.nodes[k]? = some x := ⟨_, List.getElem?_eq_getElem hlt⟩
        have HK : Hid (s.nodes[k]? = some x) := hx
        have hki : (k : Int) < (s.nodes.length : Int) := by omega
        skip
        clear hx
        cases ht : thinks k x with
        | true =>
          have HN : Hid (thkTo s (k + 1) = thkTo s k ++ [(k : Int)]) := thkTo_t HK.out ht
          generalize thkTo s k = zs at *
          go_wp2_with fail
          refine (l17Thinks_c s _ _ _ _ _ _ k x _ _ (hs.below hBel) hl HK.out ht).mono ?_
          rintro r w3 ⟨rfl, hB3⟩
          replace hst := zst_below hst hB3
          clear hB3
          have hsz := hst.bel.size
          have hst2 : ∀ x, ZSt w1.heap.size w1 (w3.alloc x) (.slice aw zs.length cw) zs := fun x => zst_below hst (alCu w3 x)
          clear hst
          go_wp2_with (at_builtin; refine wpList_append_lies _ rfl _ _ 22 rfl w1.heap.size 3 i0 _ 1 8 Try.underlying22 hi hz0 hz1 hz2 rfl (by decide) (.slice aw zs.length cw) zs.length (zCells zs) rfl (hst2 _).own ⟨w3.heap.size, 0, none⟩ 1 1 (zCells [(k : Int)]) rfl rfl ?c1 ?c2 (by omega) ?c3 ?c4 ?c5 (w3.heap.size + 1) ?c6 ?_)
          case c1 => exact World.news_of_block (cs := #[.int .i64 (k : Int)]) (t := 3) (fr := (0, 0)) (by first | exact (heap_alloc_new w3 _) | simpa using (heap_alloc_new w3 _))
          case c2 => simp [zCells, Value.oneCell']
          case c3 => unfold maxLen; omega
          case c4 => omega
          case c5 => first | omega | (simp; omega)
          try (case c6 => simp)
          intro g4 cap4 w4 hown4 hgrow4 hat4 _
          have HS4 : Hid (ZSt w1.heap.size w1 w4 (.slice (some ⟨g4, 0, none⟩) (zs.length + 1) cap4) (zs ++ [(k : Int)])) := zst_step (q := (k : Int)) (hst2 _) (Nat.le_refl _) hgrow4 hown4
          clear hown4 hgrow4 hat4 hst2
          go_wp2_with fail
          go_roundw
          case rel => exact ⟨k + 1, by omega, by go_num, by rw [HN.out]; exact HS4.out⟩
          case measure => simp [intOf]; omega
        | false =>
          have HN : Hid (thkTo s (k + 1) = thkTo s k) := thkTo_f HK.out ht
          generalize thkTo s k = zs at *
          go_wp2_with fail
          refine (l17Thinks_c s _ _ _ _ _ _ k x _ _ (hs.below hBel) hl HK.out ht).mono ?_
          rintro r w3 ⟨rfl, hB3⟩
          have HS : Hid (ZSt w1.heap.size w1 w3 (.slice aw zs.length cw) zs) := zst_below hst hB3
          clear hst hB3 hB
          go_wp2
          go_roundw
          case rel => exact ⟨k + 1, by omega, by go_num, by rw [HN.out]; exact HS.out⟩
          case measure => simp [intOf]; omega
      · obtain rfl : k = s.nodes.length := by omega
        have HI := (ints_of_owns hst.own).1
        rw [← HE.out] at HI
        obtain ⟨n, hn⟩ : ∃ n, (thkTo s s.nodes.length).length = n := ⟨_, rfl⟩
        have HN : Hid ((thkL s).length = n) := by show _ = _; rw [HE.out]; exact hn
        rw [hn]
        clear hn hst
        go_wp2
        refine bodyPost_ret (v := .tuple #[.slice aw n cw, .bool true]) (by simp [results, Try.results10, go_sem]) rfl ⟨aw, cw, by rw [HN.out], HI, hBel⟩

end Go.Proofs.Ytekjpbfmiebigaa
