/-
  So many members, each as far behind the one ahead: the contract of impl.inSteps. Made by mkgri3.py.
  A new group, the program's side: impl.NewGroup. Made by mkgri3.py.
-/
import Derived.Test.YtkhbgdnhkaeamaaDoorQImpl
import Derived.Test.YtkhbgdnhkaeamaaDoorGrN
import Derived.Test.YtkhbgdnhkaeamaaDoorQList
import Derived.Deep.RegionHeld3
import Derived.WalkMore
namespace Go.Proofs.YtkhbgdnhkaeamaaDoor
open Go.RowKit

/-- So many members, each as far behind the one ahead. -/
def stTo (fr by_ : Nat) : Nat → Nat
  | 0 => 0
  | k + 1 => stTo fr by_ k ||| 2 ^ (fr + k * by_)

theorem p7 {m : Nat} (h : m < 7) : 2 ^ m < 128 := Nat.pow_lt_pow_right (by omega) h

theorem stTo_lt {fr by_ many : Nat} (h : ∀ k, k < many → fr + k * by_ < 7) : ∀ k, k ≤ many → stTo fr by_ k < 128
  | 0, _ => by simp [stTo]
  | k + 1, hk => or_lt (stTo_lt h k (by omega)) (p7 (h k (by omega)))

set_option maxHeartbeats 2000000 in
theorem inSteps_any (fr by_ many : Nat) (hm : many ≤ 7) (hfr : fr ≤ 7) (hby : by_ ≤ 7) (h : ∀ k, k < many → fr + k * by_ < 7) (w : World) :
    Calls Tryd.prog 30 #[.int .i64 (fr : Int), .int .i64 (by_ : Int), .int .i64 (many : Int)] w fun r w' => r = .returned (setV (stTo fr by_ many)) ∧ Below w.heap.size w w' := by
  go_enter Tryd.func30, Tryd.ntmps30
  go_wp2
  have hB : ∀ x y, Below w.heap.size w ((w.alloc x).alloc y) := fun _ _ => ((Below.refl _ _).alloc (Nat.le_refl _) _).alloc (by simp) _
  have hR1 := fun x => (rowIs_of_alloc6 w #[.int .u64 0] 60).of_block (w' := (w.alloc (.cells #[.int .u64 0] 60)).alloc x) (((Below.refl _ _).alloc (Nat.le_refl _) _).block _ (by simp))
  have hR2 := rowIs_of_alloc6 (w.alloc (.cells #[.int .u64 0] 60)) #[.int .u64 0] 60
  simp only [World.size_alloc] at hR2
  go_loopw [10] (fun i wr => ∃ k : Nat, k ≤ many ∧ i = .int .i64 k ∧ Below w.heap.size w wr ∧ (∃ f, wr.rowIs w.heap.size 60 1 f) ∧ ∃ f, wr.rowIs (w.heap.size + 1) 60 1 f ∧ f 0 = .int .u64 (stTo fr by_ k : Int)) (fun i _ => many - (intOf i).toNat)
  case atStart => exact ⟨0, Nat.zero_le _, rfl, hB _ _, ⟨_, hR1 _⟩, _, hR2, rfl⟩
  case round =>
    clear hR1 hR2 hB
    obtain ⟨k, hk, rfl, hB, ⟨f1, hR1⟩, f2, hR2, h2⟩ := hrel
    have hm128 := stTo_lt h k hk
    have c1 := hR1.cell (i := 0) (by omega)
    have c2 := hR2.cell (i := 0) (by omega)
    rw [h2] at c2
    have z1 := hR1.frozen 0
    have z2 := hR2.frozen 0
    have hsz := hR2.lt
    have HR1 : Hid (wr.rowIs w.heap.size 60 1 f1) := hR1
    have HR2 : Hid (wr.rowIs (w.heap.size + 1) 60 1 f2) := hR2
    clear hR1 hR2 h2
    by_cases hlt : k < many
    · obtain ⟨m, hmm⟩ : ∃ m, m = fr + k * by_ := ⟨_, rfl⟩
      have hm7 : m < 7 := by have := h k hlt; omega
      have hp7 : 2 ^ m < 128 := p7 hm7
      have HN : Hid (stTo fr by_ (k + 1) = stTo fr by_ k ||| 2 ^ m) := by show _ = _; rw [hmm]; rfl
      obtain ⟨p, hp⟩ : ∃ p, p = k * by_ := ⟨_, rfl⟩
      have e1 : (k : Int) * (by_ : Int) = (p : Int) := by rw [hp]; simp
      have e2 : (fr : Int) + (p : Int) = (m : Int) := by rw [hmm, ← hp]; simp
      have hp50 : p ≤ 49 := by rw [hp]; exact Nat.mul_le_mul (by omega : k ≤ 7) hby
      have e3 : IntKind.i64.wrap (p : Int) = (p : Int) := by rw [IntKind.wrap_i64]; omega
      have e4 : IntKind.i64.wrap (m : Int) = (m : Int) := by rw [IntKind.wrap_i64]; omega
      clear hmm hp h
      generalize stTo fr by_ k = st at *
      go_wp2_with fail
      go_region_with (first
        | (go_at_call 59; refine (only_any m hm7 _).mono ?_; rintro r w1 ⟨rfl, hB1⟩; have hz1 : wr.heap.size ≤ w1.heap.size := hB1.size; have cA := (keep_dr hB1 (b := w.heap.size + 1) (off := 0) hsz).1.trans c2; have fA := (keep_dr hB1 (b := w.heap.size + 1) (off := 0) hsz).2.trans z2)
        | (go_at_call 58; refine (joined_any _ _ [st, 2 ^ m] _ (sets_two hm128 hp7 (by simp) (by simp)) (by simp)).mono ?_; rintro r w2 ⟨rfl, hB2⟩; have hz2 := hB2.size; have cB := (keep_al hB2 (b := w.heap.size + 1) (off := 0) (by omega)).1.trans cA; have fB := (keep_al hB2 (b := w.heap.size + 1) (off := 0) (by omega)).2.trans fA))
      all_goals
        rw [orTo_two]
        go_wp2
        go_roundw
        case rel =>
          have R1 := row_al (row_dr HR1.out hB1) hB2
          have R2 := row_al (row_dr HR2.out hB1) hB2
          refine ⟨k + 1, by omega, by go_num, (Below.step_al (Below.step_dr hB hB1) hB2).setCell (by simp) _, ⟨_, R1.setOther (by simp) _⟩, _, R2.set 0 _, ?_⟩
          rw [HN.out]; simp
        case measure => simp [intOf]; omega
    · obtain rfl : k = many := by omega
      clear h
      go_wp2
      refine bodyPost_ret (v := setV (stTo fr by_ k)) (by simp [results, Tryd.results30, go_sem, c1]) rfl ⟨rfl, hB.setCell (Nat.le_refl _) _⟩

end Go.Proofs.YtkhbgdnhkaeamaaDoor

namespace Go.Proofs.YtkhbgdnhkaeamaaDoor
open Go.RowKit

theorem goodReplicas_z (z : Int) (b : Bool) (w : World) (h : inB z 2 4 = b) : Calls Tryd.prog 29 #[.int .i64 z] w fun e w' => e = .returned (.bool b) ∧ w' = w := by
  cases b with
  | false =>
    have h9 := inB_f.1 h
    by_cases h1 : (2 : Int) ≤ z
    · have h2 : decide (z ≤ 4) = false := decide_eq_false (by omega)
      clear h9
      go_enter Tryd.func29, Tryd.ntmps29
      go_wp2
      go_ret
      exact ⟨rfl, rfl⟩
    · have h1' : z < 2 := by omega
      clear h9
      go_enter Tryd.func29, Tryd.ntmps29
      go_wp2
      go_ret
      exact ⟨rfl, rfl⟩
  | true =>
    obtain ⟨h1, h2⟩ := inB_t.1 h
    have h3 : decide (z ≤ 4) = true := decide_eq_true h2
    clear h2 h
    go_enter Tryd.func29, Tryd.ntmps29
    go_wp2
    go_ret
    exact ⟨rfl, rfl⟩

theorem miSt {n : Nat} (h : n ≤ 4) : mi (stTo 0 1 n) = iotaZ n := by
  rcases (by omega : n = 0 ∨ n = 1 ∨ n = 2 ∨ n = 3 ∨ n = 4) with rfl | rfl | rfl | rfl | rfl <;> decide +kernel

theorem RpO.mono {w : World} {B B' : Nat} {a : Option Addr} {l : List Rp} {r0 : Nat → Option Addr} {k0 : Nat → Nat} (h : RpO w B a l r0 k0) (hb : B' ≤ B) : RpO w B' a l r0 k0 := by
  rcases h with rfl | ⟨R, m, f, rfl, hR, hm, hrow, hp⟩
  · exact .inl rfl
  · exact .inr ⟨R, m, f, rfl, Nat.le_trans hb hR, hm, hrow, fun j c hj => by
      obtain ⟨x0, x1, x2, x3, x4⟩ := hp j c hj
      exact ⟨x0, x1, x2, x3, x4.mono hb⟩⟩

theorem GrO.mono {w : World} {B B' : Nat} {s : Gr} {a0 a1 : Option Addr} {r10 : Nat → Option Addr} {k10 : Nat → Nat} (h : GrO w B s a0 a1 r10 k10) (hb : B' ≤ B) : GrO w B' s a0 a1 r10 k10 :=
  ⟨h.steps, h.stepsR.mono hb, h.reps.mono hb, h.repsD⟩

set_option maxRecDepth 100000 in
set_option maxHeartbeats 8000000 in
theorem implNewGr_any (z : Int) (w : World) (HT : TabQ w) :
    Calls Tryd.prog 8 #[.int .i64 z] w fun e w' => ∃ a0 a1 c0 c1 r10 k10, e = .returned (.tuple #[grV (newGr z) a0 c0 a1 c1, .bool (inB z 2 4)]) ∧ GrO w' w.heap.size (newGr z) a0 a1 r10 k10 ∧ Below w.heap.size w w' := by
  obtain ⟨u1, hu1⟩ : ∃ u, (w.alloc (.cells #[.int .i64 0, .int .i64 0, .slice none 0 0, .int .i64 0, .slice none 0 0] 25)) = u := ⟨_, rfl⟩
  have hS1 : u1.heap.size ≤ w.heap.size + 1 := by rw [← hu1]; simp
  have hS1' : w.heap.size + 1 ≤ u1.heap.size := by rw [← hu1]; simp
  have bB : Below w.heap.size w u1 := by rw [← hu1]; exact alGr _ _
  have g0 : u1.cell? ⟨w.heap.size, 0, none⟩ = some (.int .i64 0) := by rw [← hu1]; simp [go_sem]
  have g1 : u1.cell? ⟨w.heap.size, 1, none⟩ = some (.int .i64 0) := by rw [← hu1]; simp [go_sem]
  have g2 : u1.cell? ⟨w.heap.size, 2, none⟩ = some (.slice none 0 0) := by rw [← hu1]; simp [go_sem]
  have g3 : u1.cell? ⟨w.heap.size, 3, none⟩ = some (.int .i64 0) := by rw [← hu1]; simp [go_sem]
  have g4 : u1.cell? ⟨w.heap.size, 4, none⟩ = some (.slice none 0 0) := by rw [← hu1]; simp [go_sem]
  have gf : ∀ o, u1.frozen? ⟨w.heap.size, o, none⟩ = false := fun o => by rw [← hu1]; simp [go_sem]
  cases hg : inB z 2 4 with
  | false =>
    have HE : Hid (newGr z = ⟨0, 0, [], 0, []⟩) := newGr_f hg
    go_enter Tryd.func8, Tryd.ntmps8
    go_wp2_with (go_at_call 29; refine (goodReplicas_z _ _ _ hg).mono ?_; rintro e w' ⟨rfl, hw⟩; rw [hw]; clear hw w')
    refine bodyPost_ret (v := .tuple #[.agg #[.int .i64 0, .int .i64 0, .slice none 0 0, .int .i64 0, .slice none 0 0], .bool false]) (by simp [results, Tryd.results8, go_sem, g0, g1, g2, g3, g4]) rfl ⟨none, none, 0, 0, fun _ => none, fun _ => 0, by rw [HE.out]; rfl, ?_, ?_⟩
    · rw [HE.out]; exact newGr_zero _ _
    · exact ((((bB.setCell (Nat.le_refl _) _).setCell (Nat.le_refl _) _).setCell (Nat.le_refl _) _).setCell (Nat.le_refl _) _).setCell (Nat.le_refl _) _
  | true =>
    have hz := inB_t.1 hg
    obtain ⟨n, rfl⟩ : ∃ n : Nat, z = n := ⟨z.toNat, by omega⟩
    have hn4 : n ≤ 4 := by omega
    have HE : Hid (newGr (n : Int) = ⟨0, 0, iotaZ n, 0, List.replicate n rpZ⟩) := newGr_t hg
    clear hz
    have hmk := run_make_manyV (P := Tryd.prog) 23 81 _ 3 40 Tryd.underlying23 Tryd.infoRp .i64 .i64 n (by omega) (by omega)
    have hst7 : stTo 0 1 n < 128 := stTo_lt (many := n) (fun k hk => by omega) n (Nat.le_refl _)
    have HMI : Hid (mi (stTo 0 1 n) = iotaZ n) := miSt hn4
    go_enter Tryd.func8, Tryd.ntmps8
    go_wp2_with (first | (go_at_call 29; refine (goodReplicas_z _ _ _ hg).mono ?_; rintro e w' ⟨rfl, hw⟩; rw [hw]; clear hw w') | fail)
    clear hg
    obtain ⟨x0, hx0⟩ : ∃ x, u1.drew = x := ⟨_, rfl⟩
    have HB0 : Below u1.heap.size u1 x0 := by rw [← hx0]; exact (Below.refl _ _).drew
    refine wp_region_noPanic ?_
    refine wp_region_held_drew (S := fun _ => True) (by kernel_rfl) trivial (fun hHn => ?_)
    clear hHn
    rw [hx0]
    clear hx0
    refine wpAnyH_take (i := 0) (oi := ⟨_, _, _, _, _, _⟩) (v := ?vt1x0) rfl (by kernel_rfl) (by kernel_rfl) (by kernel_rfl) (fun _ _ _ h => h) (Or.inl ⟨by rfl, ?yt1x0⟩) trivial ?rt1x0
    case yt1x0 => intro w hSw; clear hSw; go_simp; try with_reducible rfl
    try simp only [Act.put, List.setIfInBounds_toArray, List.set_cons_zero, List.set_cons_succ]
    refine wpAnyH_take (i := 3) (oi := ⟨_, _, _, _, _, _⟩) (v := ?vt2x3) rfl (by kernel_rfl) (by kernel_rfl) (by kernel_rfl) (fun _ _ _ h => h) (Or.inl ⟨by rfl, ?yt2x3⟩) trivial ?rt2x3
    case yt2x3 => intro w hSw; clear hSw; go_simp; try with_reducible rfl
    try simp only [Act.put, List.setIfInBounds_toArray, List.set_cons_zero, List.set_cons_succ]
    refine wpAnyH_ready (rs := [1, 4]) (by kernel_rfl) (by simp) ?_
    refine AllReadyH.cons (o := ⟨_, _, _, _, _, _⟩) rfl (fun KK hK => ?b3n0) (AllReadyH.cons (o := ⟨_, _, _, _, _, _⟩) rfl (fun KK hK => ?b3n1) AllReadyH.nil)
    case b3n0 =>
      go_simp
      refine (inSteps_any 0 1 n (by omega) (by omega) (by omega) (fun k hk => by omega) _).mono ?_
      rintro r x1 ⟨rfl, hBk⟩
      have HB1 : Below u1.heap.size u1 x1 := stGr HB0 hBk
      clear hBk
      go_wp2_with fail
      refine hK.out _ _ trivial (fun hHn => ?_)
      clear hK KK hHn
      try simp only [Act.put, List.setIfInBounds_toArray, List.set_cons_zero, List.set_cons_succ]
      refine wpAnyH_ready (rs := [2, 4]) (by kernel_rfl) (by simp) ?_
      refine AllReadyH.cons (o := ⟨_, _, _, _, _, _⟩) rfl (fun KK hK => ?b4n0) (AllReadyH.cons (o := ⟨_, _, _, _, _, _⟩) rfl (fun KK hK => ?b4n1) AllReadyH.nil)
      case b4n0 =>
        go_simp
        refine (list_any (stTo 0 1 n) hst7 _ (HT.bel (stGr bB HB1))).mono ?_
        intro r x2 hAns
        obtain ⟨av, cv, hr, -, -, HI, HRI, hBk⟩ := hAns.ints
        rw [HMI.out, iotaZ_len] at hr
        rw [HMI.out] at HI HRI
        rw [iotaZ_len] at HRI
        subst hr
        have HB2 : Below u1.heap.size u1 x2 := stGr HB1 hBk
        replace HRI := HRI.mono (B' := u1.heap.size) HB1.size
        clear hBk hAns
        go_wp2_with fail
        refine hK.out _ _ trivial (fun hHn => ?_)
        clear hK KK hHn
        try simp only [Act.put, List.setIfInBounds_toArray, List.set_cons_zero, List.set_cons_succ]
        refine wpAnyH_ready (rs := [4]) (by kernel_rfl) (by simp) ?_
        refine AllReadyH.cons (o := ⟨_, _, _, _, _, _⟩) rfl (fun KK hK => ?b5n0) AllReadyH.nil
        case b5n0 =>
          obtain ⟨x3, hx3⟩ : ∃ u, x2.alloc (.cells (madeCells #[.slice none 0 0, .int .i64 0, .int .i64 0] (n * 3)) 81) = u := ⟨_, rfl⟩
          have HR : x3.rowIs x2.heap.size 81 (n * 3) (fun j => (#[.slice none 0 0, .int .i64 0, .int .i64 0] : Array Value)[j % 3]!) := by rw [← hx3]; exact rowIs_madeV _ _ _ _
          have lR : u1.heap.size ≤ x2.heap.size := HB2.size
          have hBk : Below x2.heap.size x2 x3 := by rw [← hx3]; exact alGr _ _
          have HB3 : Below u1.heap.size u1 x3 := stGr HB2 hBk
          replace HI := HI.below hBk
          replace HRI := HRI.below hBk
          go_simp
          refine hK.out _ _ trivial (fun hHn => ?_)
          clear hK KK hHn
          try simp only [Act.put, List.setIfInBounds_toArray, List.set_cons_zero, List.set_cons_succ]
          clear hx3 hBk
          refine wpAnyH_take (i := 5) (oi := ⟨_, _, _, _, _, _⟩) (v := ?vt6x5) rfl (by kernel_rfl) (by kernel_rfl) (by kernel_rfl) (fun _ _ _ h => h) (Or.inl ⟨by rfl, ?yt6x5⟩) trivial ?rt6x5
          case yt6x5 => intro w hSw; clear hSw; go_simp; try with_reducible rfl
          try simp only [Act.put, List.setIfInBounds_toArray, List.set_cons_zero, List.set_cons_succ]
          refine wpAnyH_ready (rs := [6]) (by kernel_rfl) (by simp) ?_
          refine AllReadyH.cons (o := ⟨_, _, _, _, _, _⟩) rfl (fun KK hK => ?b7n0) AllReadyH.nil
          case b7n0 =>
            have r0 := celB HB3 g0
            have r1 := celB HB3 g1
            have r2 := celB HB3 g2
            have r3 := celB HB3 g3
            have r4 := celB HB3 g4
            have rf : ∀ o, x3.frozen? ⟨w.heap.size, o, none⟩ = false := fun o => frzB HB3 (by omega) (gf o)
            go_simp
            refine hK.out _ _ trivial (fun hHn => ?_)
            clear hK KK hHn
            try simp only [Act.put, List.setIfInBounds_toArray, List.set_cons_zero, List.set_cons_succ]
            refine wpAnyH_take (i := 7) (oi := ⟨_, _, _, _, _, _⟩) (v := ?vt8x7) rfl (by kernel_rfl) (by kernel_rfl) (by kernel_rfl) (fun _ _ _ h => h) (Or.inl ⟨by rfl, ?yt8x7⟩) trivial ?rt8x7
            case yt8x7 => intro w hSw; clear hSw; go_simp; try with_reducible rfl
            try simp only [Act.put, List.setIfInBounds_toArray, List.set_cons_zero, List.set_cons_succ]
            refine wpAnyH_done (by kernel_rfl) (NoPanic.normal ?_) _
            have HO : Hid (GrO x3 u1.heap.size ⟨0, 0, iotaZ n, 0, List.replicate n rpZ⟩ av (some ⟨x2.heap.size, 0, none⟩) (fun _ => none) (fun _ => 0)) :=
              ⟨HI, by rw [iotaZ_len]; exact HRI, zeroRps HR lR, by
                constructor
                · intro j c b hj hb
                  rw [List.eq_of_mem_replicate (List.mem_of_getElem? hj)] at hb
                  exact absurd hb.1 (by simp [rpZ])
                · intro j c j' c' b hj hj' hne hb
                  rw [List.eq_of_mem_replicate (List.mem_of_getElem? hj)] at hb
                  exact absurd hb.1 (by simp [rpZ])⟩
            have BW : Below w.heap.size w x3 := stGr bB HB3
            clear HI HRI HR lR
            go_wp2
            refine bodyPost_ret (v := .tuple #[.agg #[.int .i64 0, .int .i64 0, .slice av n cv, .int .i64 0, .slice (some ⟨x2.heap.size, 0, none⟩) n n], .bool true]) (by simp [results, Tryd.results8, go_sem, r0, r1, r2, r3, r4]) rfl ⟨av, some ⟨x2.heap.size, 0, none⟩, cv, n, (fun _ => none), (fun _ => 0), ?_, ?_, ?_⟩
            · rw [HE.out]; simp [grV, iotaZ_len]
            · rw [HE.out]
              refine GrO.mono (B := u1.heap.size) (HO.out.of_block fun b hb => ?_) (by omega)
              have := (HO.out.lt hb).1
              rw [Below.heap_setCell _ ⟨w.heap.size, _, none⟩ _ b (by simp; omega), Below.heap_setCell _ ⟨w.heap.size, _, none⟩ _ b (by simp; omega), Below.heap_setCell _ ⟨w.heap.size, _, none⟩ _ b (by simp; omega), Below.heap_setCell _ ⟨w.heap.size, _, none⟩ _ b (by simp; omega), Below.heap_setCell _ ⟨w.heap.size, _, none⟩ _ b (by simp; omega)]
            · exact ((((BW.setCell (Nat.le_refl _) _).setCell (Nat.le_refl _) _).setCell (Nat.le_refl _) _).setCell (Nat.le_refl _) _).setCell (Nat.le_refl _) _
      case b4n1 =>
        obtain ⟨x2, hx2⟩ : ∃ u, x1.alloc (.cells (madeCells #[.slice none 0 0, .int .i64 0, .int .i64 0] (n * 3)) 81) = u := ⟨_, rfl⟩
        have HR : x2.rowIs x1.heap.size 81 (n * 3) (fun j => (#[.slice none 0 0, .int .i64 0, .int .i64 0] : Array Value)[j % 3]!) := by rw [← hx2]; exact rowIs_madeV _ _ _ _
        have lR : u1.heap.size ≤ x1.heap.size := HB1.size
        have hBk : Below x1.heap.size x1 x2 := by rw [← hx2]; exact alGr _ _
        have HB2 : Below u1.heap.size u1 x2 := stGr HB1 hBk
        go_simp
        refine hK.out _ _ trivial (fun hHn => ?_)
        clear hK KK hHn
        try simp only [Act.put, List.setIfInBounds_toArray, List.set_cons_zero, List.set_cons_succ]
        clear hx2 hBk
        refine wpAnyH_ready (rs := [2]) (by kernel_rfl) (by simp) ?_
        refine AllReadyH.cons (o := ⟨_, _, _, _, _, _⟩) rfl (fun KK hK => ?b9n0) AllReadyH.nil
        case b9n0 =>
          go_simp
          refine (list_any (stTo 0 1 n) hst7 _ (HT.bel (stGr bB HB2))).mono ?_
          intro r x3 hAns
          obtain ⟨av, cv, hr, -, -, HI, HRI, hBk⟩ := hAns.ints
          rw [HMI.out, iotaZ_len] at hr
          rw [HMI.out] at HI HRI
          rw [iotaZ_len] at HRI
          subst hr
          have HB3 : Below u1.heap.size u1 x3 := stGr HB2 hBk
          replace HRI := HRI.mono (B' := u1.heap.size) HB2.size
          replace HR := HR.of_block (hBk.block _ HR.lt)
          clear hBk hAns
          go_wp2_with fail
          refine hK.out _ _ trivial (fun hHn => ?_)
          clear hK KK hHn
          try simp only [Act.put, List.setIfInBounds_toArray, List.set_cons_zero, List.set_cons_succ]
          refine wpAnyH_take (i := 5) (oi := ⟨_, _, _, _, _, _⟩) (v := ?vt10x5) rfl (by kernel_rfl) (by kernel_rfl) (by kernel_rfl) (fun _ _ _ h => h) (Or.inl ⟨by rfl, ?yt10x5⟩) trivial ?rt10x5
          case yt10x5 => intro w hSw; clear hSw; go_simp; try with_reducible rfl
          try simp only [Act.put, List.setIfInBounds_toArray, List.set_cons_zero, List.set_cons_succ]
          refine wpAnyH_ready (rs := [6]) (by kernel_rfl) (by simp) ?_
          refine AllReadyH.cons (o := ⟨_, _, _, _, _, _⟩) rfl (fun KK hK => ?b11n0) AllReadyH.nil
          case b11n0 =>
            have r0 := celB HB3 g0
            have r1 := celB HB3 g1
            have r2 := celB HB3 g2
            have r3 := celB HB3 g3
            have r4 := celB HB3 g4
            have rf : ∀ o, x3.frozen? ⟨w.heap.size, o, none⟩ = false := fun o => frzB HB3 (by omega) (gf o)
            go_simp
            refine hK.out _ _ trivial (fun hHn => ?_)
            clear hK KK hHn
            try simp only [Act.put, List.setIfInBounds_toArray, List.set_cons_zero, List.set_cons_succ]
            refine wpAnyH_take (i := 7) (oi := ⟨_, _, _, _, _, _⟩) (v := ?vt12x7) rfl (by kernel_rfl) (by kernel_rfl) (by kernel_rfl) (fun _ _ _ h => h) (Or.inl ⟨by rfl, ?yt12x7⟩) trivial ?rt12x7
            case yt12x7 => intro w hSw; clear hSw; go_simp; try with_reducible rfl
            try simp only [Act.put, List.setIfInBounds_toArray, List.set_cons_zero, List.set_cons_succ]
            refine wpAnyH_done (by kernel_rfl) (NoPanic.normal ?_) _
            have HO : Hid (GrO x3 u1.heap.size ⟨0, 0, iotaZ n, 0, List.replicate n rpZ⟩ av (some ⟨x1.heap.size, 0, none⟩) (fun _ => none) (fun _ => 0)) :=
              ⟨HI, by rw [iotaZ_len]; exact HRI, zeroRps HR lR, by
                constructor
                · intro j c b hj hb
                  rw [List.eq_of_mem_replicate (List.mem_of_getElem? hj)] at hb
                  exact absurd hb.1 (by simp [rpZ])
                · intro j c j' c' b hj hj' hne hb
                  rw [List.eq_of_mem_replicate (List.mem_of_getElem? hj)] at hb
                  exact absurd hb.1 (by simp [rpZ])⟩
            have BW : Below w.heap.size w x3 := stGr bB HB3
            clear HI HRI HR lR
            go_wp2
            refine bodyPost_ret (v := .tuple #[.agg #[.int .i64 0, .int .i64 0, .slice av n cv, .int .i64 0, .slice (some ⟨x1.heap.size, 0, none⟩) n n], .bool true]) (by simp [results, Tryd.results8, go_sem, r0, r1, r2, r3, r4]) rfl ⟨av, some ⟨x1.heap.size, 0, none⟩, cv, n, (fun _ => none), (fun _ => 0), ?_, ?_, ?_⟩
            · rw [HE.out]; simp [grV, iotaZ_len]
            · rw [HE.out]
              refine GrO.mono (B := u1.heap.size) (HO.out.of_block fun b hb => ?_) (by omega)
              have := (HO.out.lt hb).1
              rw [Below.heap_setCell _ ⟨w.heap.size, _, none⟩ _ b (by simp; omega), Below.heap_setCell _ ⟨w.heap.size, _, none⟩ _ b (by simp; omega), Below.heap_setCell _ ⟨w.heap.size, _, none⟩ _ b (by simp; omega), Below.heap_setCell _ ⟨w.heap.size, _, none⟩ _ b (by simp; omega), Below.heap_setCell _ ⟨w.heap.size, _, none⟩ _ b (by simp; omega)]
            · exact ((((BW.setCell (Nat.le_refl _) _).setCell (Nat.le_refl _) _).setCell (Nat.le_refl _) _).setCell (Nat.le_refl _) _).setCell (Nat.le_refl _) _
    case b3n1 =>
      obtain ⟨x1, hx1⟩ : ∃ u, x0.alloc (.cells (madeCells #[.slice none 0 0, .int .i64 0, .int .i64 0] (n * 3)) 81) = u := ⟨_, rfl⟩
      have HR : x1.rowIs x0.heap.size 81 (n * 3) (fun j => (#[.slice none 0 0, .int .i64 0, .int .i64 0] : Array Value)[j % 3]!) := by rw [← hx1]; exact rowIs_madeV _ _ _ _
      have lR : u1.heap.size ≤ x0.heap.size := HB0.size
      have hBk : Below x0.heap.size x0 x1 := by rw [← hx1]; exact alGr _ _
      have HB1 : Below u1.heap.size u1 x1 := stGr HB0 hBk
      go_simp
      refine hK.out _ _ trivial (fun hHn => ?_)
      clear hK KK hHn
      try simp only [Act.put, List.setIfInBounds_toArray, List.set_cons_zero, List.set_cons_succ]
      clear hx1 hBk
      refine wpAnyH_ready (rs := [1]) (by kernel_rfl) (by simp) ?_
      refine AllReadyH.cons (o := ⟨_, _, _, _, _, _⟩) rfl (fun KK hK => ?b13n0) AllReadyH.nil
      case b13n0 =>
        go_simp
        refine (inSteps_any 0 1 n (by omega) (by omega) (by omega) (fun k hk => by omega) _).mono ?_
        rintro r x2 ⟨rfl, hBk⟩
        have HB2 : Below u1.heap.size u1 x2 := stGr HB1 hBk
        replace HR := HR.of_block (hBk.block _ HR.lt)
        clear hBk
        go_wp2_with fail
        refine hK.out _ _ trivial (fun hHn => ?_)
        clear hK KK hHn
        try simp only [Act.put, List.setIfInBounds_toArray, List.set_cons_zero, List.set_cons_succ]
        refine wpAnyH_ready (rs := [2]) (by kernel_rfl) (by simp) ?_
        refine AllReadyH.cons (o := ⟨_, _, _, _, _, _⟩) rfl (fun KK hK => ?b14n0) AllReadyH.nil
        case b14n0 =>
          go_simp
          refine (list_any (stTo 0 1 n) hst7 _ (HT.bel (stGr bB HB2))).mono ?_
          intro r x3 hAns
          obtain ⟨av, cv, hr, -, -, HI, HRI, hBk⟩ := hAns.ints
          rw [HMI.out, iotaZ_len] at hr
          rw [HMI.out] at HI HRI
          rw [iotaZ_len] at HRI
          subst hr
          have HB3 : Below u1.heap.size u1 x3 := stGr HB2 hBk
          replace HRI := HRI.mono (B' := u1.heap.size) HB2.size
          replace HR := HR.of_block (hBk.block _ HR.lt)
          clear hBk hAns
          go_wp2_with fail
          refine hK.out _ _ trivial (fun hHn => ?_)
          clear hK KK hHn
          try simp only [Act.put, List.setIfInBounds_toArray, List.set_cons_zero, List.set_cons_succ]
          refine wpAnyH_take (i := 5) (oi := ⟨_, _, _, _, _, _⟩) (v := ?vt15x5) rfl (by kernel_rfl) (by kernel_rfl) (by kernel_rfl) (fun _ _ _ h => h) (Or.inl ⟨by rfl, ?yt15x5⟩) trivial ?rt15x5
          case yt15x5 => intro w hSw; clear hSw; go_simp; try with_reducible rfl
          try simp only [Act.put, List.setIfInBounds_toArray, List.set_cons_zero, List.set_cons_succ]
          refine wpAnyH_ready (rs := [6]) (by kernel_rfl) (by simp) ?_
          refine AllReadyH.cons (o := ⟨_, _, _, _, _, _⟩) rfl (fun KK hK => ?b16n0) AllReadyH.nil
          case b16n0 =>
            have r0 := celB HB3 g0
            have r1 := celB HB3 g1
            have r2 := celB HB3 g2
            have r3 := celB HB3 g3
            have r4 := celB HB3 g4
            have rf : ∀ o, x3.frozen? ⟨w.heap.size, o, none⟩ = false := fun o => frzB HB3 (by omega) (gf o)
            go_simp
            refine hK.out _ _ trivial (fun hHn => ?_)
            clear hK KK hHn
            try simp only [Act.put, List.setIfInBounds_toArray, List.set_cons_zero, List.set_cons_succ]
            refine wpAnyH_take (i := 7) (oi := ⟨_, _, _, _, _, _⟩) (v := ?vt17x7) rfl (by kernel_rfl) (by kernel_rfl) (by kernel_rfl) (fun _ _ _ h => h) (Or.inl ⟨by rfl, ?yt17x7⟩) trivial ?rt17x7
            case yt17x7 => intro w hSw; clear hSw; go_simp; try with_reducible rfl
            try simp only [Act.put, List.setIfInBounds_toArray, List.set_cons_zero, List.set_cons_succ]
            refine wpAnyH_done (by kernel_rfl) (NoPanic.normal ?_) _
            have HO : Hid (GrO x3 u1.heap.size ⟨0, 0, iotaZ n, 0, List.replicate n rpZ⟩ av (some ⟨x0.heap.size, 0, none⟩) (fun _ => none) (fun _ => 0)) :=
              ⟨HI, by rw [iotaZ_len]; exact HRI, zeroRps HR lR, by
                constructor
                · intro j c b hj hb
                  rw [List.eq_of_mem_replicate (List.mem_of_getElem? hj)] at hb
                  exact absurd hb.1 (by simp [rpZ])
                · intro j c j' c' b hj hj' hne hb
                  rw [List.eq_of_mem_replicate (List.mem_of_getElem? hj)] at hb
                  exact absurd hb.1 (by simp [rpZ])⟩
            have BW : Below w.heap.size w x3 := stGr bB HB3
            clear HI HRI HR lR
            go_wp2
            refine bodyPost_ret (v := .tuple #[.agg #[.int .i64 0, .int .i64 0, .slice av n cv, .int .i64 0, .slice (some ⟨x0.heap.size, 0, none⟩) n n], .bool true]) (by simp [results, Tryd.results8, go_sem, r0, r1, r2, r3, r4]) rfl ⟨av, some ⟨x0.heap.size, 0, none⟩, cv, n, (fun _ => none), (fun _ => 0), ?_, ?_, ?_⟩
            · rw [HE.out]; simp [grV, iotaZ_len]
            · rw [HE.out]
              refine GrO.mono (B := u1.heap.size) (HO.out.of_block fun b hb => ?_) (by omega)
              have := (HO.out.lt hb).1
              rw [Below.heap_setCell _ ⟨w.heap.size, _, none⟩ _ b (by simp; omega), Below.heap_setCell _ ⟨w.heap.size, _, none⟩ _ b (by simp; omega), Below.heap_setCell _ ⟨w.heap.size, _, none⟩ _ b (by simp; omega), Below.heap_setCell _ ⟨w.heap.size, _, none⟩ _ b (by simp; omega), Below.heap_setCell _ ⟨w.heap.size, _, none⟩ _ b (by simp; omega)]
            · exact ((((BW.setCell (Nat.le_refl _) _).setCell (Nat.le_refl _) _).setCell (Nat.le_refl _) _).setCell (Nat.le_refl _) _).setCell (Nat.le_refl _) _

end Go.Proofs.YtkhbgdnhkaeamaaDoor
