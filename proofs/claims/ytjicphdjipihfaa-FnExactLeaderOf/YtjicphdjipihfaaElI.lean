/-
  Elections, the program's side: impl.MayLead. Made by mkeli2.py.
-/
import Derived.Test.YtjicphdjipihfaaElI0
namespace Go.Proofs.Ytjicphdjipihfaa
open Go.RowKit

theorem moreThanHalf_any (a n : Nat) (x : Bool) (w : World) (ha : a ≤ 1000) (_hn : n ≤ 1000) (h : decide (n < 2 * a) = x) :
    Calls Try.prog 62 #[.int .i64 (a : Int), .int .i64 (n : Int)] w fun e w' => e = .returned (.bool x) ∧ w' = w := by
  have h' : decide ((n : Int) < 2 * (a : Int)) = x := by rw [← h]; exact decide_eq_decide.2 (by omega)
  clear h
  go_enter Try.func62, Try.ntmps62
  go_wp2
  go_ret
  exact ⟨ret_bool (by rw [← h']), rfl⟩

set_option maxRecDepth 100000 in
set_option maxHeartbeats 8000000 in
theorem implMayLead_any (s : El) (z : Int) (a0 a1 a2 : Option Addr) (c0 c1 c2 : Nat) (w : World) (hs : ElR w s a0 a1 a2) (hb : ElB s) :
    Calls Try.prog 28 #[elV s a0 c0 a1 c1 a2 c2, .int .i64 z] w fun e w' => e = .returned (.tuple #[.bool (mlA s z), .bool (mlB s z)]) ∧ Below w.heap.size w w' := by
  obtain ⟨u0, hu0⟩ : ∃ u0, (w.alloc (.cells #[.slice a0 s.svs.length c0, .slice a1 s.post.length c1, .slice a2 s.led.length c2] 28)) = u0 := ⟨_, rfl⟩
  have kk : u0.cell? ⟨w.heap.size, 0, none⟩ = some (.slice a0 s.svs.length c0) ∧ u0.cell? ⟨w.heap.size, 1, none⟩ = some (.slice a1 s.post.length c1) ∧ u0.cell? ⟨w.heap.size, 2, none⟩ = some (.slice a2 s.led.length c2) := by rw [← hu0]; simp [go_sem]
  have bB : Below w.heap.size w u0 := by rw [← hu0]; exact alEl _ _
  obtain ⟨q0, q1, q2⟩ := kk
  cases hg : goodEl s with
  | false =>
    have HE : Hid (mlA s z = false ∧ mlB s z = false) := ml_bad (by simp [mlB, hg])
    go_enter Try.func28, Try.ntmps28
    go_wp2_with fail
    refine (implGoodEl_c s _ _ _ _ _ _ _ _ (hs.below bB) hb hg).mono ?_
    rintro r w1 ⟨rfl, hB1⟩
    clear hu0
    have BB := stEl bB hB1
    clear hB1
    go_wp2
    refine bodyPost_ret (v := .tuple #[.bool false, .bool false]) (by simp [results, Try.results28, go_sem]) rfl ⟨by rw [HE.out.1, HE.out.2], BB⟩
  | true =>
    have hlen := goodEl_len hg
    cases ht : thB s.svs.length z with
    | false =>
      have HE : Hid (mlA s z = false ∧ mlB s z = false) := ml_bad (by simp [mlB, ht])
      have ht' : inB z 0 ((s.svs.length : Int) - 1) = false := by rw [thB_in]; exact ht
      go_enter Try.func28, Try.ntmps28
      go_wp2_with fail
      refine (implGoodEl_c s _ _ _ _ _ _ _ _ (hs.below bB) hb hg).mono ?_
      rintro r w1 ⟨rfl, hB1⟩
      have p0 := celB hB1 q0
      clear hu0
      go_wp2_with (go_at_call 61; refine (within_c _ _ _ _ (by exact ht')).mono ?_; rintro e w' ⟨rfl, rfl⟩)
      refine bodyPost_ret (v := .tuple #[.bool false, .bool false]) (by simp [results, Try.results28, go_sem]) rfl ⟨by rw [HE.out.1, HE.out.2], stEl bB hB1⟩
    | true =>
      have ht' : inB z 0 ((s.svs.length : Int) - 1) = true := by rw [thB_in]; exact ht
      obtain ⟨g1, g2⟩ := thB_t.1 ht
      obtain ⟨f, rfl⟩ : ∃ f : Nat, z = f := ⟨z.toNat, by omega⟩
      have hfn : f < s.svs.length := by omega
      obtain ⟨kf, of, ea, r4, k4, r5, k5, -, -, -, -, -, e5, -, -, z5, m5⟩ := hs.svs f _ (svA_get hfn)
      subst ea
      obtain ⟨lg, hlg⟩ : ∃ lg, (svA s.svs f).log = lg := ⟨_, rfl⟩
      rw [hlg] at e5 z5 m5
      have HU : Hid (∀ x, upOf s f x = upT (lastZ lg) lg.length (lastZ x.log) x.log.length) := by intro x; show upZ (lastZ (svA s.svs (f : Int).toNat).log) (svA s.svs (f : Int).toNat).log.length x.log = _; rw [Int.toNat_natCast, hlg]; rfl
      have hfi : (f : Int) < (s.svs.length : Int) := by omega
      have mm5 := m5
      unfold maxLen at mm5
      clear hlg
      go_enter Try.func28, Try.ntmps28
      go_wp2_with fail
      refine (implGoodEl_c s _ _ _ _ _ _ _ _ (hs.below bB) hb hg).mono ?_
      rintro r w1 ⟨rfl, hB1⟩
      have p0 := celB hB1 q0
      have x5 := celB hB1 (celB bB e5)
      clear hu0
      go_wp2_with (go_at_call 61; refine (within_c _ _ _ _ (by exact ht')).mono ?_; rintro e w' ⟨rfl, rfl⟩)
      refine (tipOf_any _ _ _ _ ((z5.below bB).below hB1) m5).mono ?_
      rintro r w2 ⟨rfl, hB2⟩
      obtain ⟨u3, hu3⟩ : ∃ u3, (w2.alloc (.cells #[.int .i64 (lastZ lg), .int .i64 lg.length] 62)) = u3 := ⟨_, rfl⟩
      have q30 : u3.cell? ⟨w2.heap.size, 0, none⟩ = some (.int .i64 (lastZ lg)) := by rw [← hu3]; simp [go_sem]
      have q31 : u3.cell? ⟨w2.heap.size, 1, none⟩ = some (.int .i64 lg.length) := by rw [← hu3]; simp [go_sem]
      have B3 : Below u0.heap.size u0 u3 := by rw [← hu3]; exact stEl (stEl hB1 hB2) (alEl _ _)
      have p03 := celB B3 q0
      clear p0 x5 hB1 hB2
      go_wp2
      clear hu3
      go_loopw [7, 32] (fun n i wr => ∃ k : Nat, k ≤ s.svs.length ∧ i = .int .i64 k ∧ n = .int .i64 (((s.svs.take k).countP (upOf s f) : Nat) : Int) ∧ Below u3.heap.size u3 wr) (fun _ i _ => s.svs.length - (intOf i).toNat)
      case atStart => exact ⟨0, Nat.zero_le _, rfl, by simp, Below.refl _ _⟩
      case round =>
        obtain ⟨k, hk, rfl, rfl, hB⟩ := hrel
        have p0 := celB hB p03
        have p30 := celB hB q30
        have p31 := celB hB q31
        have hcl := cnt_le (s := s) (k := f) k
        by_cases hlt : k < s.svs.length
        · obtain ⟨b, hkb⟩ := getSv hlt
          obtain ⟨kb, ob, ea', t4, j4, t5, j5, d0, d1, d2, d3, d4, d5, -, -, y5, n5⟩ := (((hs.svs.below bB).below B3).below hB) k b hkb
          simp only [Option.some.injEq, Addr.mk.injEq, and_true] at ea'
          obtain ⟨rfl, rfl⟩ := ea'
          have HC := cnt_succ (k := f) hkb
          have hki : (k : Int) < (s.svs.length : Int) := by omega
          obtain ⟨C, hC⟩ : ∃ C, (s.svs.take k).countP (upOf s f) = C := ⟨_, rfl⟩
          rw [hC] at hcl HC ⊢
          obtain ⟨g, hgu⟩ : ∃ g, upT (lastZ lg) lg.length (lastZ b.log) b.log.length = g := ⟨_, rfl⟩
          have HG : Hid (upT (lastZ lg) lg.length (lastZ b.log) b.log.length = g) := hgu
          rw [HU.out b, hgu] at HC
          have HC' : Hid ((s.svs.take (k + 1)).countP (upOf s f) = C + if g = true then 1 else 0) := HC
          clear HC hC hkb hgu
          go_wp2_with fail
          obtain ⟨u, hu⟩ : ∃ u, wr.alloc (.cells #[.int .i64 b.term, .int .i64 b.voted, .bool b.stands, .bool b.leads, .slice t4 b.got.length j4, .slice t5 b.log.length j5] 58) = u := ⟨_, rfl⟩
          have BX : Below wr.heap.size wr u.drew := by rw [← hu]; exact (alEl _ _).drew
          have BB : Below u3.heap.size u3 u.drew := stEl hB BX
          have kk : u.drew.cell? ⟨w2.heap.size, 0, none⟩ = some (.int .i64 (lastZ lg)) ∧ u.drew.cell? ⟨w2.heap.size, 1, none⟩ = some (.int .i64 lg.length) ∧ u.drew.cell? ⟨wr.heap.size, 5, none⟩ = some (.slice t5 b.log.length j5) := ⟨celB BX p30, celB BX p31, by rw [← hu]; simp [go_sem]⟩
          rw [hu]
          clear hu d0 d1 d2 d3 d4 d5
          refine wp_region_noPanic ?_
          refine wp_region_held_drew (S := fun w' => w'.cell? ⟨w2.heap.size, 0, none⟩ = some (.int .i64 (lastZ lg)) ∧ w'.cell? ⟨w2.heap.size, 1, none⟩ = some (.int .i64 lg.length) ∧ w'.cell? ⟨wr.heap.size, 5, none⟩ = some (.slice t5 b.log.length j5)) (by kernel_rfl) kk (fun hH => ?_)
          refine wpAnyH_take (i := 0) (oi := ⟨_, _, _, _, _, _⟩) (v := ?vm0) rfl (by kernel_rfl) (by kernel_rfl) (by kernel_rfl) (fun _ _ _ h => h) (Or.inl ⟨by rfl, ?ym0⟩) (by assumption) ?rm0
          case ym0 => intro w hSw; (try dsimp only at hSw); go_simp; try with_reducible rfl
          try simp only [Act.put, List.setIfInBounds_toArray, List.set_cons_zero, List.set_cons_succ]
          refine wpAnyH_take (i := 1) (oi := ⟨_, _, _, _, _, _⟩) (v := ?vm1) rfl (by kernel_rfl) (by kernel_rfl) (by kernel_rfl) (fun _ _ _ h => h) (Or.inl ⟨by rfl, ?ym1⟩) (by assumption) ?rm1
          case ym1 => intro w hSw; (try dsimp only at hSw); go_simp; try with_reducible rfl
          try simp only [Act.put, List.setIfInBounds_toArray, List.set_cons_zero, List.set_cons_succ]
          refine wpAnyH_take (i := 2) (oi := ⟨_, _, _, _, _, _⟩) (v := ?vm2) rfl (by kernel_rfl) (by kernel_rfl) (by kernel_rfl) (fun _ _ _ h => h) (Or.inl ⟨by rfl, ?ym2⟩) (by assumption) ?rm2
          case ym2 => intro w hSw; (try dsimp only at hSw); go_simp; try with_reducible rfl
          try simp only [Act.put, List.setIfInBounds_toArray, List.set_cons_zero, List.set_cons_succ]
          refine wpAnyH_ready (rs := [3]) (by kernel_rfl) (by simp) ?_
          refine AllReadyH.cons (o := ⟨_, _, _, _, _, _⟩) rfl (fun KK hK => ?_) AllReadyH.nil
          go_simp
          refine (tipOf_any _ _ _ _ (y5.below BX) n5).mono ?_
          rintro r W1 ⟨rfl, hBk⟩
          have kk1 : W1.cell? ⟨w2.heap.size, 0, none⟩ = some (.int .i64 (lastZ lg)) ∧ W1.cell? ⟨w2.heap.size, 1, none⟩ = some (.int .i64 lg.length) ∧ W1.cell? ⟨wr.heap.size, 5, none⟩ = some (.slice t5 b.log.length j5) := ⟨celB hBk kk.1, celB hBk kk.2.1, celB hBk kk.2.2⟩
          have BB1 := stEl BB hBk
          clear hBk
          go_wp2_with fail
          refine hK.out _ _ kk1 (fun hH3 => ?_)
          clear hK KK hH
          try simp only [Act.put, List.setIfInBounds_toArray, List.set_cons_zero, List.set_cons_succ]
          refine wpAnyH_ready (rs := [4]) (by kernel_rfl) (by simp) ?_
          refine AllReadyH.cons (o := ⟨_, _, _, _, _, _⟩) rfl (fun KK hK => ?_) AllReadyH.nil
          go_simp
          refine (upToDate_any _ _ _ _ _).mono ?_
          rintro r W2 ⟨hr, hBk⟩
          rw [HG.out] at hr
          subst hr
          have kk2 : W2.cell? ⟨w2.heap.size, 0, none⟩ = some (.int .i64 (lastZ lg)) ∧ W2.cell? ⟨w2.heap.size, 1, none⟩ = some (.int .i64 lg.length) ∧ W2.cell? ⟨wr.heap.size, 5, none⟩ = some (.slice t5 b.log.length j5) := ⟨celB hBk kk1.1, celB hBk kk1.2.1, celB hBk kk1.2.2⟩
          have BB2 := stEl BB1 hBk
          clear hBk
          go_wp2_with fail
          refine hK.out _ _ kk2 (fun hH4 => ?_)
          clear hK KK hH3
          try simp only [Act.put, List.setIfInBounds_toArray, List.set_cons_zero, List.set_cons_succ]
          refine wpAnyH_done (by kernel_rfl) (NoPanic.normal ?_) _
          cases g
          · go_wp2
            go_roundw
            case rel => exact ⟨k + 1, by omega, by go_num, by rw [HC'.out]; simp, BB2⟩
            case measure => simp [intOf]; omega
          · go_wp2
            go_roundw
            case rel => exact ⟨k + 1, by omega, by go_num, by rw [HC'.out]; simp, BB2⟩
            case measure => simp [intOf]; omega
        · obtain rfl : k = s.svs.length := by omega
          rw [List.take_length] at hcl ⊢
          obtain ⟨C, hC⟩ : ∃ C, s.svs.countP (upOf s f) = C := ⟨_, rfl⟩
          rw [hC] at hcl ⊢
          obtain ⟨b, hb'⟩ : ∃ b, decide (s.svs.length < 2 * C) = b := ⟨_, rfl⟩
          have HE : Hid (mlA s f = b ∧ mlB s f = true) := by constructor <;> simp [mlA, mlB, hg, ht, hC, hb']
          clear hC
          have hC1 : C ≤ 1000 := by omega
          have hn1 : s.svs.length ≤ 1000 := by omega
          go_wp2_with (go_at_call 62; refine (moreThanHalf_any _ _ _ _ hC1 hn1 hb').mono ?_; rintro e w' ⟨rfl, rfl⟩)
          refine bodyPost_ret (v := .tuple #[.bool b, .bool true]) (by simp [results, Try.results28, go_sem]) rfl ⟨by rw [HE.out.1, HE.out.2], stEl bB (stEl B3 hB)⟩

end Go.Proofs.Ytjicphdjipihfaa
