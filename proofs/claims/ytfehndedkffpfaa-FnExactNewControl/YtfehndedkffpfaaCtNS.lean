/-
  A new control, the specification's side: spec.NewControl. Made by mkcts2.py.
-/
import Derived.Test.YtfehndedkffpfaaCtN
import Derived.Test.YtfehndedkffpfaaCtS0
import Derived.Deep.AppendLies
namespace Go.Proofs.Ytfehndedkffpfaa
open Go.RowKit

set_option maxRecDepth 100000 in
set_option maxHeartbeats 8000000 in
theorem specNewCt_any (z : Int) (w : World) :
    Calls Try.prog 9 #[.int .i64 z] w fun e w' => ∃ a0 a1 c0 c1, e = .returned (.tuple #[ctV (newCt z) a0 c0 a1 c1, .bool (inB z 1 6)]) ∧ CtR w' (newCt z) a0 a1 ∧ Below w.heap.size w w' := by
  obtain ⟨i0, hi, hz0, hz1, hz2⟩ := infoZ Try.infoBr
  obtain ⟨u1, hu1⟩ : ∃ u, (w.alloc (.cells #[.slice none 0 0, .slice none 0 0, .int .i64 0] 25)) = u := ⟨_, rfl⟩
  have hS1 : u1.heap.size ≤ w.heap.size + 1 := by rw [← hu1]; simp
  have hS1' : w.heap.size + 1 ≤ u1.heap.size := by rw [← hu1]; simp
  have bB : Below w.heap.size w u1 := by rw [← hu1]; exact alCt _ _
  have g0 : u1.cell? ⟨w.heap.size, 0, none⟩ = some (.slice none 0 0) := by rw [← hu1]; simp [go_sem]
  have g1 : u1.cell? ⟨w.heap.size, 1, none⟩ = some (.slice none 0 0) := by rw [← hu1]; simp [go_sem]
  have g2 : u1.cell? ⟨w.heap.size, 2, none⟩ = some (.int .i64 0) := by rw [← hu1]; simp [go_sem]
  have gf : ∀ o, u1.frozen? ⟨w.heap.size, o, none⟩ = false := fun o => by rw [← hu1]; simp [go_sem]
  cases hg : inB z 1 6 with
  | false =>
    have HE : Hid (newCt z = ⟨[], [], 0⟩) := newCt_f hg
    go_enter Try.func9, Try.ntmps9
    go_wp2_with (go_at_call 37; refine (l1In_k _ _ _ _ _ hg).mono ?_; rintro e w' ⟨rfl, hw⟩; rw [hw]; clear hw w')
    refine bodyPost_ret (v := .tuple #[.agg #[.slice none 0 0, .slice none 0 0, .int .i64 0], .bool false]) (by simp [results, Try.results9, go_sem, g0, g1, g2]) rfl ⟨none, none, 0, 0, by rw [HE.out]; rfl, ?_, ?_⟩
    · rw [HE.out]; exact (newCt_nil _ 0 _).reads (by have := (newCt_small z).1; rw [HE.out] at this; exact this)
    · exact ((bB.setCell (Nat.le_refl _) _).setCell (Nat.le_refl _) _).setCell (Nat.le_refl _) _
  | true =>
    have hz := inB_t.1 hg
    obtain ⟨n, rfl⟩ : ∃ n : Nat, z = n := ⟨z.toNat, by omega⟩
    have hn4 : n ≤ 6 := by omega
    have HE : Hid (newCt (n : Int) = ⟨List.replicate n brN, [], 1⟩) := newCt_t hg
    clear hz
    obtain ⟨u3, hu3⟩ : ∃ u, (u1.alloc (.cells #[.slice none 0 0, .slice none 0 0, .int .i64 1] 25)) = u := ⟨_, rfl⟩
    have B3 : Below u1.heap.size u1 u3 := by rw [← hu3]; exact alCt _ _
    have hS3 : u3.heap.size ≤ u1.heap.size + 1 := by rw [← hu3]; simp
    have hS3' : u1.heap.size + 1 ≤ u3.heap.size := by rw [← hu3]; simp
    have hst0 : CnSt u1.heap.size u1 u3 (.slice none 0 0) 0 := ⟨World.ownsRow_nil _ _ _ _, by rw [← hu3]; simp [go_sem], by rw [← hu3]; simp [go_sem], by rw [← hu3]; simp [go_sem], fun o => by rw [← hu3]; simp [go_sem], B3, by omega⟩
    go_enter Try.func9, Try.ntmps9
    go_wp2_with (go_at_call 37; refine (l1In_k _ _ _ _ _ hg).mono ?_; rintro e w' ⟨rfl, hw⟩; rw [hw]; clear hw w')
    clear hu3
    go_loopw [5] (fun i wr => ∃ (k : Nat) (v : Value), k ≤ n ∧ i = .int .i64 k ∧ CnSt u1.heap.size u1 wr v k) (fun i _ => n - (intOf i).toNat)
    case atStart => exact ⟨0, _, Nat.zero_le _, rfl, hst0⟩
    case round =>
      clear hst0
      obtain ⟨k, v, hk, rfl, hst⟩ := hrel
      have hBw := hst.Bw
      by_cases hlt : k < n
      · have hki : (k : Int) < (n : Int) := by omega
        have cL := hst.c0
        have fL := hst.fr
        have HST : Hid (∀ o, CnSt u1.heap.size u1 (wr.alloc o) v k) := fun o => hst.below (alCt wr o)
        go_wp2_with (at_builtin; refine wpList_append_lies _ rfl _ _ 22 rfl (u1.heap.size + 1) 67 i0 _ 3 24 Try.underlying22 hi hz0 hz1 hz2 rfl (by decide) v k ((List.replicate k brN).flatMap brC) rfl (HST.out _).own ⟨wr.heap.size, 0, none⟩ 1 1 (brC brN) rfl rfl ?c1 ?c2 (by omega) ?c3 ?c4 ?c5 (wr.heap.size + 1) ?c6 ?_)
        case c1 => exact World.news_of_block (cs := #[.int .i64 0, .int .i64 0, .bool true]) (t := 67) (fr := (0, 0)) (by first | exact (heap_alloc_new wr _) | simpa using (heap_alloc_new wr _))
        case c2 => exact brC_one _
        case c3 => unfold maxLen; omega
        case c4 => omega
        case c5 => simp; omega
        case c6 => simp
        intro g4 cap4 w4 hown4 hgrow hat4 _
        have HS4 : Hid (CnSt u1.heap.size u1 (w4.setCell ⟨u1.heap.size, 0, none⟩ (.slice (some ⟨g4, 0, none⟩) (k + 1) cap4)) (.slice (some ⟨g4, 0, none⟩) (k + 1) cap4) (k + 1)) := (HST.out _).step hgrow hown4
        have hxS : some u1.heap.size ≠ v.ownBlock := fun e => by have := ((HST.out (.cells #[] 3)).own.lt _ e.symm).1; omega
        have zc : w4.cell? ⟨u1.heap.size, 0, none⟩ = some v := (World.cell?_of_block (a := ⟨u1.heap.size, 0, none⟩) (hgrow.block u1.heap.size (by simp; omega) hxS)).trans (HST.out _).c0
        have zf : ∀ o, w4.frozen? ⟨u1.heap.size, o, none⟩ = false := fun o => (World.frozen?_of_block (a := ⟨u1.heap.size, o, none⟩) (hgrow.block u1.heap.size (by simp; omega) hxS)).trans ((HST.out _).fr o)
        clear hown4 hgrow hat4 HST hst cL fL hxS
        go_wp2
        go_roundw
        case rel => exact ⟨k + 1, _, by omega, by go_num, HS4.out⟩
        case measure => simp [intOf]; omega
      · obtain rfl : k = n := by omega
        obtain ⟨av, cv, ev⟩ := ownsZ_form hst.own
        subst ev
        have hBl := hst.bel
        have HO : Hid (CtO wr (u1.heap.size + 1) ⟨List.replicate k brN, [], 1⟩ av none (fun _ => none) (fun _ => none) (fun _ => 0) (fun _ => 0)) := hst.done
        have e0 := hst.c0
        have e1 := hst.c1
        have e2 := hst.c2
        have rc : ∀ (o : Nat) x, u1.cell? ⟨w.heap.size, o, none⟩ = some x → wr.cell? ⟨w.heap.size, o, none⟩ = some x := fun o x hc => (hBl.cell (p := ⟨w.heap.size, o, none⟩) (by show w.heap.size < u1.heap.size; omega)).trans hc
        have r0 := rc 0 _ g0
        have r1 := rc 1 _ g1
        have r2 := rc 2 _ g2
        have rf : ∀ o, wr.frozen? ⟨w.heap.size, o, none⟩ = false := fun o => (hBl.frozen (p := ⟨w.heap.size, o, none⟩) (by show w.heap.size < u1.heap.size; omega)).trans (gf o)
        have BW : Below w.heap.size w wr := bB.trans (hBl.mono (by omega))
        clear hst rc hBl
        go_wp2
        have E1 : Ending.returned (.tuple #[.agg #[.slice av k cv, .slice none 0 0, .int .i64 1], .bool true]) = Ending.returned (.tuple #[ctV (newCt (k : Int)) av cv none 0, .bool true]) := by rw [HE.out]; simp [ctV]
        refine bodyPost_ret (v := .tuple #[.agg #[.slice av k cv, .slice none 0 0, .int .i64 1], .bool true]) (by simp [results, Try.results9, go_sem, r0, r1, r2]) rfl ?_
        have E2 : CtR (((wr.setCell ⟨w.heap.size, 0, none⟩ (.slice av k cv)).setCell ⟨w.heap.size, 1, none⟩ (.slice none 0 0)).setCell ⟨w.heap.size, 2, none⟩ (.int .i64 1)) (newCt (k : Int)) av none := by
          rw [HE.out]
          refine CtO.reads (B := u1.heap.size + 1) (r10 := fun _ => none) (r11 := fun _ => none) (k10 := fun _ => 0) (k11 := fun _ => 0) (HO.out.of_block fun b hb => ?_) (by have := (newCt_small (k : Int)).1; rw [HE.out] at this; exact this)
          have := (HO.out.lt hb).1
          rw [Below.heap_setCell _ ⟨w.heap.size, _, none⟩ _ b (by simp; omega), Below.heap_setCell _ ⟨w.heap.size, _, none⟩ _ b (by simp; omega), Below.heap_setCell _ ⟨w.heap.size, _, none⟩ _ b (by simp; omega)]
        have E3 := ((BW.setCell (Nat.le_refl _) (.slice av k cv) (p := ⟨w.heap.size, 0, none⟩)).setCell (Nat.le_refl _) (.slice none 0 0) (p := ⟨w.heap.size, 1, none⟩)).setCell (Nat.le_refl _) (.int .i64 1) (p := ⟨w.heap.size, 2, none⟩)
        first | exact ⟨av, none, cv, 0, E1, E2, E3⟩ | exact ⟨av, none, ⟨cv, 0, E1⟩, E2, E3⟩

end Go.Proofs.Ytfehndedkffpfaa
