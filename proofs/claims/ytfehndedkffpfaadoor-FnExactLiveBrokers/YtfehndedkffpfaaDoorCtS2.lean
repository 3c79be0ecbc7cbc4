/-
  The control, the specification's side: LiveBrokers, OfflineParts, LeadsIn. Made by mkcts2.py.
-/
import Derived.Test.YtfehndedkffpfaaDoorCtS
import Derived.Test.YtfehndedkffpfaaDoorZan
import Derived.Test.YtfehndedkffpfaaDoorAppZ
namespace Go.Proofs.YtfehndedkffpfaaDoor
open Go.RowKit

set_option maxRecDepth 100000 in
set_option maxHeartbeats 8000000 in
theorem specLiveBrokers_any (s : Ct) (a0 a1 : Option Addr) (c0 c1 : Nat) (w : World) (hs : CtR w s a0 a1) (hl : CtL s) :
    Calls Tryd.prog 5 #[ctV s a0 c0 a1 c1] w fun e w' => ∃ a' c', e = .returned (.tuple #[.slice a' (liveL s).length c', .bool (goodCt s)]) ∧ Ints w' a' (liveL s) ∧ Below w.heap.size w w' := by
  obtain ⟨u0, hu0⟩ : ∃ u0, (w.alloc (.cells #[.slice a0 s.brks.length c0, .slice a1 s.parts.length c1, .int .i64 s.next] 33)) = u0 := ⟨_, rfl⟩
  have q0 : u0.cell? ⟨w.heap.size, 0, none⟩ = some (.slice a0 s.brks.length c0) := by rw [← hu0]; simp [go_sem]
  have q1 : u0.cell? ⟨w.heap.size, 1, none⟩ = some (.slice a1 s.parts.length c1) := by rw [← hu0]; simp [go_sem]
  have q2 : u0.cell? ⟨w.heap.size, 2, none⟩ = some (.int .i64 s.next) := by rw [← hu0]; simp [go_sem]
  have bB : Below w.heap.size w u0 := by rw [← hu0]; exact alCt _ _
  obtain ⟨i0, hi, hz0, hz1, hz2⟩ := infoZ Tryd.infoInt
  cases hg : goodCt s with
  | false =>
    have HE : Hid (liveL s = [] ∧ goodCt s = false) := by constructor <;> simp [liveL, hg]
    go_enter Tryd.func5, Tryd.ntmps5
    go_wp2_with fail
    refine (specGoodCt_c s _ _ _ _ _ _ (hs.below bB) hl hg).mono ?_
    rintro r w1 ⟨rfl, hB1⟩
    have BB := stCt bB hB1
    have p0 := celB hB1 q0
    clear hB1
    go_wp2
    refine bodyPost_ret (v := .tuple #[.slice none 0 0, .bool false]) (by simp [results, Tryd.results5, go_sem]) rfl ⟨none, 0, by first | (rw [HE.out.1, HE.out.2]; rfl) | (rw [HE.out.1]; rfl), by rw [HE.out.1]; exact Ints.nil _ _, BB⟩
  | true =>
    have hlen := goodCt_len hg
    have HE : Hid (liveL s = placesTo (fun b : Br => !b.fenced) s.brks s.brks.length) := by show _ = _; simp [liveL, hg, placesL]
    have HOk : Hid (goodCt s = true) := by show _ = _; simp [hg]
    go_enter Tryd.func5, Tryd.ntmps5
    go_wp2_with fail
    refine (specGoodCt_c s _ _ _ _ _ _ (hs.below bB) hl hg).mono ?_
    rintro r w1 ⟨rfl, hB1⟩
    have p0 := celB hB1 q0
    have p1 := celB hB1 q1
    have B1 : Below w.heap.size w w1 := stCt bB hB1
    clear hu0 hB1
    go_wp2
    go_loopw [4, 13] (fun v i wr => ∃ k : Nat, k ≤ s.brks.length ∧ i = .int .i64 k ∧ ZSt w.heap.size w wr v (placesTo (fun b : Br => !b.fenced) s.brks k)) (fun _ i _ => s.brks.length - (intOf i).toNat)
    case atStart => exact ⟨0, Nat.zero_le _, rfl, ⟨World.ownsRow_nil _ _ _ _, B1⟩⟩
    case round =>
      clear p0 p1 B1
      obtain ⟨k, hk, rfl, hst⟩ := hrel
      obtain ⟨aw, cw, rfl⟩ := ownsZ_form hst.own
      have hzl := placesTo_len (fun b : Br => !b.fenced) s.brks k
      have hB := hst.bel
      have hsz := hB.size
      by_cases hlt : k < s.brks.length
      · obtain ⟨b, hkb⟩ := getBr hlt
        obtain ⟨kb, ob, ea, e0, e1, e2⟩ := (hs.brks.below hB) k b hkb
        subst ea
        have hki : (k : Int) < (s.brks.length : Int) := by omega
        cases hld : b.fenced with
        | false =>
          have HN : Hid (placesTo (fun b : Br => !b.fenced) s.brks (k + 1) = placesTo (fun b : Br => !b.fenced) s.brks k ++ [(k : Int)]) := placesTo_t hkb (by simp [hld])
          rw [hld] at e2
          clear hkb hld
          generalize placesTo (fun b : Br => !b.fenced) s.brks k = zs at *
          have hst2 : ∀ x y, ZSt w.heap.size w ((wr.alloc x).alloc y) (.slice aw zs.length cw) zs := fun x y => zst_below (zst_below hst (alCt wr x)) (alCt _ y)
          clear hst
          go_wp2_with (at_builtin; refine wpList_append_lies _ rfl _ _ 27 rfl w.heap.size 3 i0 _ 1 8 Tryd.underlying27 hi hz0 hz1 hz2 rfl (by decide) (.slice aw zs.length cw) zs.length (zCells zs) rfl (hst2 _ _).own ⟨wr.heap.size + 1, 0, none⟩ 1 1 (zCells [(k : Int)]) rfl rfl ?c1 ?c2 (by omega) ?c3 ?c4 ?c5 (wr.heap.size + 1 + 1) ?c6 ?_)
          case c1 => first | exact (fun j u h => h) | exact World.news_of_block (cs := #[.int .i64 (k : Int)]) (t := 3) (fr := (0, 0)) (by first | exact (heap_alloc_new (wr.alloc _) _) | simpa using (heap_alloc_new (wr.alloc _) _))
          case c2 => simp [zCells, Value.oneCell']
          case c3 => unfold maxLen; omega
          case c4 => omega
          case c5 => first | omega | (simp; omega)
          try (case c6 => simp)
          intro g4 cap4 w4 hown4 hgrow4 hat4 _
          have HS4 : Hid (ZSt w.heap.size w w4 (.slice (some ⟨g4, 0, none⟩) (zs.length + 1) cap4) (zs ++ [(k : Int)])) := zst_step (q := (k : Int)) (hst2 _ _) (Nat.le_refl _) hgrow4 hown4
          clear hown4 hgrow4 hat4 hst2
          go_wp2_with fail
          go_roundw
          case rel => exact ⟨k + 1, by omega, by go_num, by rw [HN.out]; exact HS4.out⟩
          case measure => simp [intOf]; omega
        | true =>
          have HN : Hid (placesTo (fun b : Br => !b.fenced) s.brks (k + 1) = placesTo (fun b : Br => !b.fenced) s.brks k) := placesTo_f hkb (by simp [hld])
          rw [hld] at e2
          clear hkb hld
          generalize placesTo (fun b : Br => !b.fenced) s.brks k = zs at *
          have HS : Hid (∀ x, ZSt w.heap.size w (wr.alloc x) (.slice aw zs.length cw) zs) := fun x => zst_below hst (alCt wr x)
          clear hst
          go_wp2
          go_roundw
          case rel => exact ⟨k + 1, by omega, by go_num, by rw [HN.out]; exact HS.out _⟩
          case measure => simp [intOf]; omega
      · obtain rfl : k = s.brks.length := by omega
        have HI := (ints_of_owns hst.own).1
        rw [← HE.out] at HI
        obtain ⟨n, hn⟩ : ∃ n, (placesTo (fun b : Br => !b.fenced) s.brks s.brks.length).length = n := ⟨_, rfl⟩
        have HN : Hid ((liveL s).length = n) := by show _ = _; rw [HE.out]; exact hn
        rw [hn]
        clear hn hst
        go_wp2
        refine bodyPost_ret (v := .tuple #[.slice aw n cw, .bool true]) (by simp [results, Tryd.results5, go_sem]) rfl ⟨aw, cw, by first | rw [HN.out, HOk.out] | rw [HN.out], HI, hB⟩

end Go.Proofs.YtfehndedkffpfaaDoor
