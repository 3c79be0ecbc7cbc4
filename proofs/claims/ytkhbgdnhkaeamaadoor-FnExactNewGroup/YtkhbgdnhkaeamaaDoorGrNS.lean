/-
  A new group of replicas, the specification's side: spec.NewGroup.
-/
import Derived.Test.YtkhbgdnhkaeamaaDoorGrN
import Derived.Test.YtkhbgdnhkaeamaaDoorGrS
import Derived.Deep.AppendLies
namespace Go.Proofs.YtkhbgdnhkaeamaaDoor
open Go.RowKit

theorem l1In_g (n lo hi : Int) (b : Bool) (w : World) (h : inB n lo hi = b) : Calls Tryd.prog 28 #[.int .i64 n, .int .i64 lo, .int .i64 hi] w fun e w' => e = .returned (.bool b) ∧ w' = w := by
  rw [← h]; exact l1In_any n lo hi w

set_option maxRecDepth 100000 in
set_option maxHeartbeats 8000000 in
theorem specNewGr_any (z : Int) (w : World) :
    Calls Tryd.prog 7 #[.int .i64 z] w fun e w' => ∃ a0 a1 c0 c1, e = .returned (.tuple #[grV (newGr z) a0 c0 a1 c1, .bool (inB z 2 4)]) ∧ GrR w' (newGr z) a0 a1 ∧ Below w.heap.size w w' := by
  obtain ⟨i0, hi, hz0, hz1, hz2⟩ := infoZ Tryd.infoInt
  obtain ⟨u1, hu1⟩ : ∃ u, (w.alloc (.cells #[.int .i64 0, .int .i64 0, .slice none 0 0, .int .i64 0, .slice none 0 0] 25)) = u := ⟨_, rfl⟩
  have hS1 : u1.heap.size ≤ w.heap.size + 1 := by rw [← hu1]; simp
  have hS1' : w.heap.size + 1 ≤ u1.heap.size := by rw [← hu1]; simp
  have bB : Below w.heap.size w u1 := by rw [← hu1]; exact alGr _ _
  have g0 : u1.cell? ⟨w.heap.size, 0, none⟩ = some (.int .i64 0) := by rw [← hu1]; simp [go_sem]
  have g1 : u1.cell? ⟨w.heap.size, 1, none⟩ = some (.int .i64 0) := by rw [← hu1]; simp [go_sem]
  have g2 : u1.cell? ⟨w.heap.size, 2, none⟩ = some (.slice none 0 0) := by rw [← hu1]; simp [go_sem]
  have g3 : u1.cell? ⟨w.heap.size, 3, none⟩ = some (.int .i64 0) := by rw [← hu1]; simp [go_sem]
  have g4 : u1.cell? ⟨w.heap.size, 4, none⟩ = some (.slice none 0 0) := by rw [← hu1]; simp [go_sem]
  have gf : ∀ o, u1.frozen? ⟨w.heap.size, o, none⟩ = false := fun o => by rw [← hu1]; simp [go_sem]
  cases hg : inB z 2 4 with
  | false =>
    have HE : Hid (newGr z = ⟨0, 0, [], 0, []⟩) := newGr_f hg
    go_enter Tryd.func7, Tryd.ntmps7
    go_wp2_with (go_at_call 28; refine (l1In_g _ _ _ _ _ hg).mono ?_; rintro e w' ⟨rfl, hw⟩; rw [hw]; clear hw w')
    refine bodyPost_ret (v := .tuple #[.agg #[.int .i64 0, .int .i64 0, .slice none 0 0, .int .i64 0, .slice none 0 0], .bool false]) (by simp [results, Tryd.results7, go_sem, g0, g1, g2, g3, g4]) rfl ⟨none, none, 0, 0, by rw [HE.out]; rfl, ?_, ?_⟩
    · rw [HE.out]; exact (newGr_zero _ 0).reads (by have := (newGr_small z).1; rw [HE.out] at this; exact this)
    · exact ((((bB.setCell (Nat.le_refl _) _).setCell (Nat.le_refl _) _).setCell (Nat.le_refl _) _).setCell (Nat.le_refl _) _).setCell (Nat.le_refl _) _
  | true =>
    have hz := inB_t.1 hg
    obtain ⟨n, rfl⟩ : ∃ n : Nat, z = n := ⟨z.toNat, by omega⟩
    have hn4 : n ≤ 4 := by omega
    have HE : Hid (newGr (n : Int) = ⟨0, 0, iotaZ n, 0, List.replicate n rpZ⟩) := newGr_t hg
    clear hz
    have hmk := run_make_manyV (P := Tryd.prog) 23 81 _ 3 40 Tryd.underlying23 Tryd.infoRp .i64 .i64 n (by omega) (by omega)
    obtain ⟨u2, hu2⟩ : ∃ u, (u1.alloc (.cells (madeCells #[.slice none 0 0, .int .i64 0, .int .i64 0] (n * 3)) 81)) = u := ⟨_, rfl⟩
    have hS2 : u2.heap.size ≤ u1.heap.size + 1 := by rw [← hu2]; simp
    have hS2' : u1.heap.size + 1 ≤ u2.heap.size := by rw [← hu2]; simp
    have hR2 : u2.rowIs u1.heap.size 81 (n * 3) (fun j => (#[.slice none 0 0, .int .i64 0, .int .i64 0] : Array Value)[j % 3]!) := by rw [← hu2]; exact rowIs_madeV _ _ _ _
    have B2 : Below u1.heap.size u1 u2 := by rw [← hu2]; exact alGr _ _
    obtain ⟨u3, hu3⟩ : ∃ u, (u2.alloc (.cells #[.int .i64 0, .int .i64 0, .slice none 0 0, .int .i64 0, .slice (some ⟨u1.heap.size, 0, none⟩) n n] 25)) = u := ⟨_, rfl⟩
    have B3 : Below u2.heap.size u2 u3 := by rw [← hu3]; exact alGr _ _
    have hS3 : u3.heap.size ≤ u2.heap.size + 1 := by rw [← hu3]; simp
    have hS3' : u2.heap.size + 1 ≤ u3.heap.size := by rw [← hu3]; simp
    have hst0 : GnSt u2.heap.size u2 u3 (.slice none 0 0) (.slice (some ⟨u1.heap.size, 0, none⟩) n n) 0 := ⟨World.ownsRow_nil _ _ _ _, by rw [← hu3]; simp [go_sem], by rw [← hu3]; simp [go_sem], by rw [← hu3]; simp [go_sem], by rw [← hu3]; simp [go_sem], by rw [← hu3]; simp [go_sem], fun o => by rw [← hu3]; simp [go_sem], B3, by omega⟩
    go_enter Tryd.func7, Tryd.ntmps7
    go_wp2_with (go_at_call 28; refine (l1In_g _ _ _ _ _ hg).mono ?_; rintro e w' ⟨rfl, hw⟩; rw [hw]; clear hw w')
    clear hu3 hu2 hmk
    go_loopw [5] (fun i wr => ∃ (k : Nat) (v : Value), k ≤ n ∧ i = .int .i64 k ∧ GnSt u2.heap.size u2 wr v (.slice (some ⟨u1.heap.size, 0, none⟩) n n) k) (fun i _ => n - (intOf i).toNat)
    case atStart => exact ⟨0, _, Nat.zero_le _, rfl, hst0⟩
    case round =>
      clear hst0
      obtain ⟨k, v, hk, rfl, hst⟩ := hrel
      have hBw := hst.Bw
      by_cases hlt : k < n
      · have hki : (k : Int) < (n : Int) := by omega
        have cL := hst.c2
        have fL := hst.fr
        have HST : Hid (∀ o, GnSt u2.heap.size u2 (wr.alloc o) v (.slice (some ⟨u1.heap.size, 0, none⟩) n n) k) := fun o => hst.below (alGr wr o)
        go_wp2_with (at_builtin; refine wpList_append_lies _ rfl _ _ 22 rfl (u2.heap.size + 1) 3 i0 _ 1 8 Tryd.underlying22 hi hz0 hz1 hz2 rfl (by decide) v k (zCells (iotaZ k)) rfl (HST.out _).own ⟨wr.heap.size, 0, none⟩ 1 1 [.int .i64 (k : Int)] rfl rfl ?c1 ?c2 (by omega) ?c3 ?c4 ?c5 (wr.heap.size + 1) ?c6 ?_)
        case c1 => exact World.news_of_block (cs := #[.int .i64 (k : Int)]) (t := 3) (fr := (0, 0)) (by first | exact (heap_alloc_new wr _) | simpa using (heap_alloc_new wr _))
        case c2 => simp [Value.oneCell']
        case c3 => unfold maxLen; omega
        case c4 => omega
        case c5 => simp; omega
        case c6 => simp
        intro g4 cap4 w4 hown4 hgrow hat4 _
        have HS4 : Hid (GnSt u2.heap.size u2 (w4.setCell ⟨u2.heap.size, 2, none⟩ (.slice (some ⟨g4, 0, none⟩) (k + 1) cap4)) (.slice (some ⟨g4, 0, none⟩) (k + 1) cap4) (.slice (some ⟨u1.heap.size, 0, none⟩) n n) (k + 1)) := (HST.out _).step hgrow hown4
        have hxS : some u2.heap.size ≠ v.ownBlock := fun e => by have := ((HST.out (.cells #[.int .i64 (k : Int)] 3)).own.lt _ e.symm).1; omega
        have zc : w4.cell? ⟨u2.heap.size, 2, none⟩ = some v := (World.cell?_of_block (a := ⟨u2.heap.size, 2, none⟩) (hgrow.block u2.heap.size (by simp; omega) hxS)).trans (HST.out _).c2
        have zf : ∀ o, w4.frozen? ⟨u2.heap.size, o, none⟩ = false := fun o => (World.frozen?_of_block (a := ⟨u2.heap.size, o, none⟩) (hgrow.block u2.heap.size (by simp; omega) hxS)).trans ((HST.out _).fr o)
        clear hown4 hgrow hat4 HST hst cL fL hxS
        go_wp2
        go_roundw
        case rel => exact ⟨k + 1, _, by omega, by go_num, HS4.out⟩
        case measure => simp [intOf]; omega
      · obtain rfl : k = n := by omega
        obtain ⟨av, cv, ev⟩ := ownsZ_form hst.own
        subst ev
        have hBl := hst.bel
        have hin := ints_of_owns (zs := iotaZ k) (by rw [iotaZ_len]; exact hst.own)
        have hrow : wr.rowIs u1.heap.size 81 (k * 3) (fun j => (#[.slice none 0 0, .int .i64 0, .int .i64 0] : Array Value)[j % 3]!) := hR2.of_block (hBl.block _ (by omega))
        have HO : Hid (GrO wr u1.heap.size ⟨0, 0, iotaZ k, 0, List.replicate k rpZ⟩ av (some ⟨u1.heap.size, 0, none⟩) (fun _ => none) (fun _ => 0)) :=
          ⟨hin.1, hin.2.mono (by omega), zeroRps hrow (Nat.le_refl _), by
            constructor
            · intro j c b hj hb
              rw [List.eq_of_mem_replicate (List.mem_of_getElem? hj)] at hb
              exact absurd hb.1 (by simp [rpZ])
            · intro j c j' c' b hj hj' hne hb
              rw [List.eq_of_mem_replicate (List.mem_of_getElem? hj)] at hb
              exact absurd hb.1 (by simp [rpZ])⟩
        have e0 := hst.c0
        have e1 := hst.c1
        have e2 := hst.c2
        have e3 := hst.c3
        have e4 := hst.c4
        have rc : ∀ (o : Nat) x, u1.cell? ⟨w.heap.size, o, none⟩ = some x → wr.cell? ⟨w.heap.size, o, none⟩ = some x := fun o x hc => (hBl.cell (p := ⟨w.heap.size, o, none⟩) (by show w.heap.size < u2.heap.size; omega)).trans (celB B2 hc)
        have r0 := rc 0 _ g0
        have r1 := rc 1 _ g1
        have r2 := rc 2 _ g2
        have r3 := rc 3 _ g3
        have r4 := rc 4 _ g4
        have rf : ∀ o, wr.frozen? ⟨w.heap.size, o, none⟩ = false := fun o => (hBl.frozen (p := ⟨w.heap.size, o, none⟩) (by show w.heap.size < u2.heap.size; omega)).trans (frzB B2 (by omega) (gf o))
        have BW : Below w.heap.size w wr := (stGr bB B2).trans (hBl.mono (by omega))
        clear hst rc hin hrow hBl
        go_wp2
        refine bodyPost_ret (v := .tuple #[.agg #[.int .i64 0, .int .i64 0, .slice av k cv, .int .i64 0, .slice (some ⟨u1.heap.size, 0, none⟩) k k], .bool true]) (by simp [results, Tryd.results7, go_sem, r0, r1, r2, r3, r4]) rfl ⟨av, some ⟨u1.heap.size, 0, none⟩, cv, k, ?_, ?_, ?_⟩
        · rw [HE.out]; simp [grV, iotaZ_len]
        · rw [HE.out]
          refine GrO.reads (B := u1.heap.size) (r10 := fun _ => none) (k10 := fun _ => 0) (HO.out.of_block fun b hb => ?_) (by have := (newGr_small (k : Int)).1; rw [HE.out] at this; exact this)
          have := (HO.out.lt hb).1
          rw [Below.heap_setCell _ ⟨w.heap.size, _, none⟩ _ b (by simp; omega), Below.heap_setCell _ ⟨w.heap.size, _, none⟩ _ b (by simp; omega), Below.heap_setCell _ ⟨w.heap.size, _, none⟩ _ b (by simp; omega), Below.heap_setCell _ ⟨w.heap.size, _, none⟩ _ b (by simp; omega), Below.heap_setCell _ ⟨w.heap.size, _, none⟩ _ b (by simp; omega)]
        · exact ((((BW.setCell (Nat.le_refl _) _).setCell (Nat.le_refl _) _).setCell (Nat.le_refl _) _).setCell (Nat.le_refl _) _).setCell (Nat.le_refl _) _

end Go.Proofs.YtkhbgdnhkaeamaaDoor
