/-
  Elections, the program's side: impl.goodPost. Made by mkeli.py.
-/
import Derived.Test.YtjicphdjipihfaaElI2
namespace Go.Proofs.Ytjicphdjipihfaa
open Go.RowKit

set_option maxRecDepth 100000 in
set_option maxHeartbeats 16000000 in
theorem goodPost_any (l : List Lt) (svs : List Sv) (a b : Option Addr) (c d : Nat) (w : World) (hs : Lts w a l) (hl : l.length ≤ maxLen) (hv : Svs w b svs) (hn : svs.length ≤ 1000) :
    Calls Try.prog 57 #[.slice a l.length c, .slice b svs.length d] w fun e w' => e = .returned (.bool (decide (l.length ≤ 20) && l.all (okLt svs))) ∧ Below w.heap.size w w' := by
  unfold maxLen at hl
  by_cases h20 : l.length ≤ 20
  · have h20' : (l.length : Int) ≤ 20 := by omega
    have H20 : Hid (l.length ≤ 20) := h20
    clear h20
    go_enter Try.func57, Try.ntmps57
    go_wp2
    go_loopw [12] (fun i wr => ∃ k : Nat, k ≤ l.length ∧ i = .int .i64 k ∧ Hid (allTo (okLt svs) l k) ∧ Below w.heap.size w wr) (fun i _ => l.length - (intOf i).toNat)
    case atStart => exact ⟨0, Nat.zero_le _, rfl, allTo_zero _ _, Below.refl _ _⟩
    case round =>
      obtain ⟨k, hk, rfl, HO, hB⟩ := hrel
      by_cases hlt : k < l.length
      · obtain ⟨m, hkb⟩ := getLt hlt
        obtain ⟨kb, ob, rfl, e0, e1, e2, e3, e4, e5, e6⟩ := (hs.below hB) k m hkb
        have HK : Hid (l[k]? = some m) := hkb
        have hki : (k : Int) < (l.length : Int) := by omega
        clear hkb
        cases h1 : okEnds svs.length m with
        | false =>
          have HE : Hid ((decide (l.length ≤ 20) && l.all (okLt svs)) = false) := by show _ = _; rw [all_bad HK.out (okLt_1 h1)]; simp
          go_wp2_with fail
          obtain ⟨u, hu⟩ : ∃ u, wr.alloc (.cells #[.int .i64 m.to, .int .i64 m.fr, .int .i64 m.term, .bool m.asks, .int .i64 m.last, .int .i64 m.long, .bool m.grant] 75) = u := ⟨_, rfl⟩
          have BB : Below w.heap.size w u.drew := by rw [← hu]; exact (stEl hB (alEl _ _)).drew
          have kk : u.drew.cell? ⟨wr.heap.size, 0, none⟩ = some (.int .i64 m.to) ∧ u.drew.cell? ⟨wr.heap.size, 1, none⟩ = some (.int .i64 m.fr) ∧ u.drew.cell? ⟨wr.heap.size, 2, none⟩ = some (.int .i64 m.term) ∧ u.drew.cell? ⟨wr.heap.size, 3, none⟩ = some (.bool m.asks) ∧ u.drew.cell? ⟨wr.heap.size, 4, none⟩ = some (.int .i64 m.last) ∧ u.drew.cell? ⟨wr.heap.size, 5, none⟩ = some (.int .i64 m.long) ∧ u.drew.cell? ⟨wr.heap.size, 6, none⟩ = some (.bool m.grant) := ⟨by rw [← hu]; simp [go_sem], by rw [← hu]; simp [go_sem], by rw [← hu]; simp [go_sem], by rw [← hu]; simp [go_sem], by rw [← hu]; simp [go_sem], by rw [← hu]; simp [go_sem], by rw [← hu]; simp [go_sem]⟩
          rw [hu]
          clear hu
          refine wp_region_noPanic ?_
          refine wp_region_held_drew (S := fun w' => w'.cell? ⟨wr.heap.size, 0, none⟩ = some (.int .i64 m.to) ∧ w'.cell? ⟨wr.heap.size, 1, none⟩ = some (.int .i64 m.fr) ∧ w'.cell? ⟨wr.heap.size, 2, none⟩ = some (.int .i64 m.term) ∧ w'.cell? ⟨wr.heap.size, 3, none⟩ = some (.bool m.asks) ∧ w'.cell? ⟨wr.heap.size, 4, none⟩ = some (.int .i64 m.last) ∧ w'.cell? ⟨wr.heap.size, 5, none⟩ = some (.int .i64 m.long) ∧ w'.cell? ⟨wr.heap.size, 6, none⟩ = some (.bool m.grant)) (by kernel_rfl) kk (fun hH => ?_)
          refine wpAnyH_take (i := 0) (oi := ⟨_, _, _, _, _, _⟩) (v := ?va0) rfl (by kernel_rfl) (by kernel_rfl) (by kernel_rfl) (fun _ _ _ h => h) (Or.inl ⟨by rfl, ?ya0⟩) (by assumption) ?ra0
          case ya0 => intro w hSw; (try dsimp only at hSw); go_simp; try with_reducible rfl
          try simp only [Act.put, List.setIfInBounds_toArray, List.set_cons_zero, List.set_cons_succ]
          refine wpAnyH_take (i := 1) (oi := ⟨_, _, _, _, _, _⟩) (v := ?va1) rfl (by kernel_rfl) (by kernel_rfl) (by kernel_rfl) (fun _ _ _ h => h) (Or.inl ⟨by rfl, ?ya1⟩) (by assumption) ?ra1
          case ya1 => intro w hSw; (try dsimp only at hSw); go_simp; try with_reducible rfl
          try simp only [Act.put, List.setIfInBounds_toArray, List.set_cons_zero, List.set_cons_succ]
          refine wpAnyH_take (i := 2) (oi := ⟨_, _, _, _, _, _⟩) (v := ?va2) rfl (by kernel_rfl) (by kernel_rfl) (by kernel_rfl) (fun _ _ _ h => h) (Or.inl ⟨by rfl, ?ya2⟩) (by assumption) ?ra2
          case ya2 => intro w hSw; (try dsimp only at hSw); go_simp; try with_reducible rfl
          try simp only [Act.put, List.setIfInBounds_toArray, List.set_cons_zero, List.set_cons_succ]
          refine wpAnyH_ready (rs := [3]) (by kernel_rfl) (by simp) ?_
          refine AllReadyH.cons (o := ⟨_, _, _, _, _, _⟩) rfl (fun KK hK => ?_) AllReadyH.nil
          go_simp
          refine (goodEnds_c m _ _ _ hn h1).mono ?_
          rintro r W1 ⟨rfl, hBk⟩
          have kk1 : W1.cell? ⟨wr.heap.size, 0, none⟩ = some (.int .i64 m.to) ∧ W1.cell? ⟨wr.heap.size, 1, none⟩ = some (.int .i64 m.fr) ∧ W1.cell? ⟨wr.heap.size, 2, none⟩ = some (.int .i64 m.term) ∧ W1.cell? ⟨wr.heap.size, 3, none⟩ = some (.bool m.asks) ∧ W1.cell? ⟨wr.heap.size, 4, none⟩ = some (.int .i64 m.last) ∧ W1.cell? ⟨wr.heap.size, 5, none⟩ = some (.int .i64 m.long) ∧ W1.cell? ⟨wr.heap.size, 6, none⟩ = some (.bool m.grant) := by obtain ⟨k0, k1, k2, k3, k4, k5, k6⟩ := kk; exact ⟨celB hBk k0, celB hBk k1, celB hBk k2, celB hBk k3, celB hBk k4, celB hBk k5, celB hBk k6⟩
          replace BB := stEl BB hBk
          clear hBk
          go_wp2_with fail
          refine hK.out _ _ kk1 (fun hH3 => ?_)
          clear hK KK hH
          try simp only [Act.put, List.setIfInBounds_toArray, List.set_cons_zero, List.set_cons_succ]
          refine wpAnyH_take (i := 4) (oi := ⟨_, _, _, _, _, _⟩) (v := ?va4) rfl (by kernel_rfl) (by kernel_rfl) (by kernel_rfl) (fun _ _ _ h => h) (Or.inl ⟨by rfl, ?ya4⟩) (by assumption) ?ra4
          case ya4 => intro w hSw; (try dsimp only at hSw); go_simp; try with_reducible rfl
          try simp only [Act.put, List.setIfInBounds_toArray, List.set_cons_zero, List.set_cons_succ]
          refine wpAnyH_take (i := 5) (oi := ⟨_, _, _, _, _, _⟩) (v := ?va5) rfl (by kernel_rfl) (by kernel_rfl) (by kernel_rfl) (fun _ _ _ h => h) (Or.inl ⟨by rfl, ?ya5⟩) (by assumption) ?ra5
          case ya5 => intro w hSw; (try dsimp only at hSw); go_simp; try with_reducible rfl
          try simp only [Act.put, List.setIfInBounds_toArray, List.set_cons_zero, List.set_cons_succ]
          refine wpAnyH_take (i := 6) (oi := ⟨_, _, _, _, _, _⟩) (v := undef) rfl (by kernel_rfl) (by kernel_rfl) (by kernel_rfl) (fun _ _ _ h => h) (Or.inr ⟨by rfl, rfl⟩) (by assumption) ?_
          try simp only [Act.put, List.setIfInBounds_toArray, List.set_cons_zero, List.set_cons_succ]
          refine wpAnyH_take (i := 7) (oi := ⟨_, _, _, _, _, _⟩) (v := undef) rfl (by kernel_rfl) (by kernel_rfl) (by kernel_rfl) (fun _ _ _ h => h) (Or.inr ⟨by rfl, rfl⟩) (by assumption) ?_
          try simp only [Act.put, List.setIfInBounds_toArray, List.set_cons_zero, List.set_cons_succ]
          refine wpAnyH_take (i := 8) (oi := ⟨_, _, _, _, _, _⟩) (v := undef) rfl (by kernel_rfl) (by kernel_rfl) (by kernel_rfl) (fun _ _ _ h => h) (Or.inr ⟨by rfl, rfl⟩) (by assumption) ?_
          try simp only [Act.put, List.setIfInBounds_toArray, List.set_cons_zero, List.set_cons_succ]
          refine wpAnyH_take (i := 9) (oi := ⟨_, _, _, _, _, _⟩) (v := undef) rfl (by kernel_rfl) (by kernel_rfl) (by kernel_rfl) (fun _ _ _ h => h) (Or.inr ⟨by rfl, rfl⟩) (by assumption) ?_
          try simp only [Act.put, List.setIfInBounds_toArray, List.set_cons_zero, List.set_cons_succ]
          refine wpAnyH_take (i := 10) (oi := ⟨_, _, _, _, _, _⟩) (v := undef) rfl (by kernel_rfl) (by kernel_rfl) (by kernel_rfl) (fun _ _ _ h => h) (Or.inr ⟨by rfl, rfl⟩) (by assumption) ?_
          try simp only [Act.put, List.setIfInBounds_toArray, List.set_cons_zero, List.set_cons_succ]
          refine wpAnyH_take (i := 11) (oi := ⟨_, _, _, _, _, _⟩) (v := undef) rfl (by kernel_rfl) (by kernel_rfl) (by kernel_rfl) (fun _ _ _ h => h) (Or.inr ⟨by rfl, rfl⟩) (by assumption) ?_
          try simp only [Act.put, List.setIfInBounds_toArray, List.set_cons_zero, List.set_cons_succ]
          refine wpAnyH_take (i := 12) (oi := ⟨_, _, _, _, _, _⟩) (v := undef) rfl (by kernel_rfl) (by kernel_rfl) (by kernel_rfl) (fun _ _ _ h => h) (Or.inr ⟨by rfl, rfl⟩) (by assumption) ?_
          try simp only [Act.put, List.setIfInBounds_toArray, List.set_cons_zero, List.set_cons_succ]
          refine wpAnyH_take (i := 13) (oi := ⟨_, _, _, _, _, _⟩) (v := undef) rfl (by kernel_rfl) (by kernel_rfl) (by kernel_rfl) (fun _ _ _ h => h) (Or.inr ⟨by rfl, rfl⟩) (by assumption) ?_
          try simp only [Act.put, List.setIfInBounds_toArray, List.set_cons_zero, List.set_cons_succ]
          refine wpAnyH_take (i := 14) (oi := ⟨_, _, _, _, _, _⟩) (v := undef) rfl (by kernel_rfl) (by kernel_rfl) (by kernel_rfl) (fun _ _ _ h => h) (Or.inr ⟨by rfl, rfl⟩) (by assumption) ?_
          try simp only [Act.put, List.setIfInBounds_toArray, List.set_cons_zero, List.set_cons_succ]
          refine wpAnyH_take (i := 15) (oi := ⟨_, _, _, _, _, _⟩) (v := undef) rfl (by kernel_rfl) (by kernel_rfl) (by kernel_rfl) (fun _ _ _ h => h) (Or.inr ⟨by rfl, rfl⟩) (by assumption) ?_
          try simp only [Act.put, List.setIfInBounds_toArray, List.set_cons_zero, List.set_cons_succ]
          refine wpAnyH_take (i := 16) (oi := ⟨_, _, _, _, _, _⟩) (v := ?va16) rfl (by kernel_rfl) (by kernel_rfl) (by kernel_rfl) (fun _ _ _ h => h) (Or.inl ⟨by rfl, ?ya16⟩) (by assumption) ?ra16
          case ya16 => intro w hSw; (try dsimp only at hSw); go_simp; try with_reducible rfl
          try simp only [Act.put, List.setIfInBounds_toArray, List.set_cons_zero, List.set_cons_succ]
          refine wpAnyH_take (i := 17) (oi := ⟨_, _, _, _, _, _⟩) (v := ?va17) rfl (by kernel_rfl) (by kernel_rfl) (by kernel_rfl) (fun _ _ _ h => h) (Or.inl ⟨by rfl, ?ya17⟩) (by assumption) ?ra17
          case ya17 => intro w hSw; (try dsimp only at hSw); go_simp; try with_reducible rfl
          try simp only [Act.put, List.setIfInBounds_toArray, List.set_cons_zero, List.set_cons_succ]
          refine wpAnyH_take (i := 18) (oi := ⟨_, _, _, _, _, _⟩) (v := undef) rfl (by kernel_rfl) (by kernel_rfl) (by kernel_rfl) (fun _ _ _ h => h) (Or.inr ⟨by rfl, rfl⟩) (by assumption) ?_
          try simp only [Act.put, List.setIfInBounds_toArray, List.set_cons_zero, List.set_cons_succ]
          refine wpAnyH_take (i := 19) (oi := ⟨_, _, _, _, _, _⟩) (v := undef) rfl (by kernel_rfl) (by kernel_rfl) (by kernel_rfl) (fun _ _ _ h => h) (Or.inr ⟨by rfl, rfl⟩) (by assumption) ?_
          try simp only [Act.put, List.setIfInBounds_toArray, List.set_cons_zero, List.set_cons_succ]
          refine wpAnyH_take (i := 20) (oi := ⟨_, _, _, _, _, _⟩) (v := undef) rfl (by kernel_rfl) (by kernel_rfl) (by kernel_rfl) (fun _ _ _ h => h) (Or.inr ⟨by rfl, rfl⟩) (by assumption) ?_
          try simp only [Act.put, List.setIfInBounds_toArray, List.set_cons_zero, List.set_cons_succ]
          refine wpAnyH_take (i := 21) (oi := ⟨_, _, _, _, _, _⟩) (v := undef) rfl (by kernel_rfl) (by kernel_rfl) (by kernel_rfl) (fun _ _ _ h => h) (Or.inr ⟨by rfl, rfl⟩) (by assumption) ?_
          try simp only [Act.put, List.setIfInBounds_toArray, List.set_cons_zero, List.set_cons_succ]
          refine wpAnyH_take (i := 22) (oi := ⟨_, _, _, _, _, _⟩) (v := ?va22) rfl (by kernel_rfl) (by kernel_rfl) (by kernel_rfl) (fun _ _ _ h => h) (Or.inl ⟨by rfl, ?ya22⟩) (by assumption) ?ra22
          case ya22 => intro w hSw; (try dsimp only at hSw); go_simp; try with_reducible rfl
          try simp only [Act.put, List.setIfInBounds_toArray, List.set_cons_zero, List.set_cons_succ]
          refine wpAnyH_done (by kernel_rfl) (NoPanic.normal ?_) _
          go_wp2
          go_ret
          exact ⟨ret_bool HE.out.symm, BB⟩
        | true =>
          obtain ⟨g1, g2⟩ := okEnds_fr h1
          obtain ⟨f, hf⟩ : ∃ f : Nat, m.fr = f := ⟨m.fr.toNat, by omega⟩
          have hfn : f < svs.length := by omega
          obtain ⟨K, O, rfl, r4, k4, r5, k5, hcv, -, -, -, -, -, -, -, -, -⟩ := (hv.below hB) f _ (svA_get hfn)
          obtain ⟨tm, htm⟩ : ∃ tm, (svA svs f).term = tm := ⟨_, rfl⟩
          rw [htm] at hcv
          have ef : m.fr.toNat = f := by omega
          have HT : Hid ((svA svs m.fr.toNat).term = tm) := by show _ = _; rw [ef]; exact htm
          have hfi : (f : Int) < (svs.length : Int) := by omega
          have h0f : (0 : Int) ≤ (f : Int) := by omega
          cases h2 : inB m.term 0 tm with
          | false =>
            have HE : Hid ((decide (l.length ≤ 20) && l.all (okLt svs)) = false) := by show _ = _; rw [all_bad HK.out (okLt_2 (by rw [HT.out]; exact h2))]; simp
            clear g1 g2 ef htm
            obtain ⟨mto, mfr, mterm, masks, mlast, mlong, mgrant⟩ := m
            simp only at *
            subst hf
            go_wp2_with fail
            obtain ⟨u, hu⟩ : ∃ u, wr.alloc (.cells #[.int .i64 mto, .int .i64 (f : Int), .int .i64 mterm, .bool masks, .int .i64 mlast, .int .i64 mlong, .bool mgrant] 75) = u := ⟨_, rfl⟩
            have BB : Below w.heap.size w u.drew := by rw [← hu]; exact (stEl hB (alEl _ _)).drew
            have kk : u.drew.cell? ⟨wr.heap.size, 0, none⟩ = some (.int .i64 mto) ∧ u.drew.cell? ⟨wr.heap.size, 1, none⟩ = some (.int .i64 (f : Int)) ∧ u.drew.cell? ⟨wr.heap.size, 2, none⟩ = some (.int .i64 mterm) ∧ u.drew.cell? ⟨wr.heap.size, 3, none⟩ = some (.bool masks) ∧ u.drew.cell? ⟨wr.heap.size, 4, none⟩ = some (.int .i64 mlast) ∧ u.drew.cell? ⟨wr.heap.size, 5, none⟩ = some (.int .i64 mlong) ∧ u.drew.cell? ⟨wr.heap.size, 6, none⟩ = some (.bool mgrant) ∧ u.drew.cell? ⟨K, O + f * 6, none⟩ = some (.int .i64 tm) := ⟨by rw [← hu]; simp [go_sem], by rw [← hu]; simp [go_sem], by rw [← hu]; simp [go_sem], by rw [← hu]; simp [go_sem], by rw [← hu]; simp [go_sem], by rw [← hu]; simp [go_sem], by rw [← hu]; simp [go_sem], celB (by rw [← hu]; exact (alEl _ _).drew) hcv⟩
            rw [hu]
            clear hu
            refine wp_region_noPanic ?_
            refine wp_region_held_drew (S := fun w' => w'.cell? ⟨wr.heap.size, 0, none⟩ = some (.int .i64 mto) ∧ w'.cell? ⟨wr.heap.size, 1, none⟩ = some (.int .i64 (f : Int)) ∧ w'.cell? ⟨wr.heap.size, 2, none⟩ = some (.int .i64 mterm) ∧ w'.cell? ⟨wr.heap.size, 3, none⟩ = some (.bool masks) ∧ w'.cell? ⟨wr.heap.size, 4, none⟩ = some (.int .i64 mlast) ∧ w'.cell? ⟨wr.heap.size, 5, none⟩ = some (.int .i64 mlong) ∧ w'.cell? ⟨wr.heap.size, 6, none⟩ = some (.bool mgrant) ∧ w'.cell? ⟨K, O + f * 6, none⟩ = some (.int .i64 tm)) (by kernel_rfl) kk (fun hH => ?_)
            refine wpAnyH_take (i := 0) (oi := ⟨_, _, _, _, _, _⟩) (v := ?vb0) rfl (by kernel_rfl) (by kernel_rfl) (by kernel_rfl) (fun _ _ _ h => h) (Or.inl ⟨by rfl, ?yb0⟩) (by assumption) ?rb0
            case yb0 => intro w hSw; (try dsimp only at hSw); go_simp; try with_reducible rfl
            try simp only [Act.put, List.setIfInBounds_toArray, List.set_cons_zero, List.set_cons_succ]
            refine wpAnyH_take (i := 1) (oi := ⟨_, _, _, _, _, _⟩) (v := ?vb1) rfl (by kernel_rfl) (by kernel_rfl) (by kernel_rfl) (fun _ _ _ h => h) (Or.inl ⟨by rfl, ?yb1⟩) (by assumption) ?rb1
            case yb1 => intro w hSw; (try dsimp only at hSw); go_simp; try with_reducible rfl
            try simp only [Act.put, List.setIfInBounds_toArray, List.set_cons_zero, List.set_cons_succ]
            refine wpAnyH_take (i := 2) (oi := ⟨_, _, _, _, _, _⟩) (v := ?vb2) rfl (by kernel_rfl) (by kernel_rfl) (by kernel_rfl) (fun _ _ _ h => h) (Or.inl ⟨by rfl, ?yb2⟩) (by assumption) ?rb2
            case yb2 => intro w hSw; (try dsimp only at hSw); go_simp; try with_reducible rfl
            try simp only [Act.put, List.setIfInBounds_toArray, List.set_cons_zero, List.set_cons_succ]
            refine wpAnyH_ready (rs := [3]) (by kernel_rfl) (by simp) ?_
            refine AllReadyH.cons (o := ⟨_, _, _, _, _, _⟩) rfl (fun KK hK => ?_) AllReadyH.nil
            go_simp
            refine (goodEnds_c ⟨mto, (f : Int), mterm, masks, mlast, mlong, mgrant⟩ _ _ _ hn h1).mono ?_
            rintro r W1 ⟨rfl, hBk⟩
            have kk1 : W1.cell? ⟨wr.heap.size, 0, none⟩ = some (.int .i64 mto) ∧ W1.cell? ⟨wr.heap.size, 1, none⟩ = some (.int .i64 (f : Int)) ∧ W1.cell? ⟨wr.heap.size, 2, none⟩ = some (.int .i64 mterm) ∧ W1.cell? ⟨wr.heap.size, 3, none⟩ = some (.bool masks) ∧ W1.cell? ⟨wr.heap.size, 4, none⟩ = some (.int .i64 mlast) ∧ W1.cell? ⟨wr.heap.size, 5, none⟩ = some (.int .i64 mlong) ∧ W1.cell? ⟨wr.heap.size, 6, none⟩ = some (.bool mgrant) ∧ W1.cell? ⟨K, O + f * 6, none⟩ = some (.int .i64 tm) := by obtain ⟨k0, k1, k2, k3, k4, k5, k6, k7⟩ := kk; exact ⟨celB hBk k0, celB hBk k1, celB hBk k2, celB hBk k3, celB hBk k4, celB hBk k5, celB hBk k6, celB hBk k7⟩
            replace BB := stEl BB hBk
            clear hBk
            go_wp2_with fail
            refine hK.out _ _ kk1 (fun hH3 => ?_)
            clear hK KK hH
            try simp only [Act.put, List.setIfInBounds_toArray, List.set_cons_zero, List.set_cons_succ]
            refine wpAnyH_take (i := 4) (oi := ⟨_, _, _, _, _, _⟩) (v := ?vb4) rfl (by kernel_rfl) (by kernel_rfl) (by kernel_rfl) (fun _ _ _ h => h) (Or.inl ⟨by rfl, ?yb4⟩) (by assumption) ?rb4
            case yb4 => intro w hSw; (try dsimp only at hSw); go_simp; try with_reducible rfl
            try simp only [Act.put, List.setIfInBounds_toArray, List.set_cons_zero, List.set_cons_succ]
            refine wpAnyH_take (i := 5) (oi := ⟨_, _, _, _, _, _⟩) (v := ?vb5) rfl (by kernel_rfl) (by kernel_rfl) (by kernel_rfl) (fun _ _ _ h => h) (Or.inl ⟨by rfl, ?yb5⟩) (by assumption) ?rb5
            case yb5 => intro w hSw; (try dsimp only at hSw); go_simp; try with_reducible rfl
            try simp only [Act.put, List.setIfInBounds_toArray, List.set_cons_zero, List.set_cons_succ]
            refine wpAnyH_take (i := 6) (oi := ⟨_, _, _, _, _, _⟩) (v := ?vb6) rfl (by kernel_rfl) (by kernel_rfl) (by kernel_rfl) (fun _ _ _ h => h) (Or.inl ⟨by rfl, ?yb6⟩) (by assumption) ?rb6
            case yb6 => intro w hSw; (try dsimp only at hSw); go_simp; try with_reducible rfl
            try simp only [Act.put, List.setIfInBounds_toArray, List.set_cons_zero, List.set_cons_succ]
            refine wpAnyH_take (i := 7) (oi := ⟨_, _, _, _, _, _⟩) (v := ?vb7) rfl (by kernel_rfl) (by kernel_rfl) (by kernel_rfl) (fun _ _ _ h => h) (Or.inl ⟨by rfl, ?yb7⟩) (by assumption) ?rb7
            case yb7 => intro w hSw; (try dsimp only at hSw); go_simp; try with_reducible rfl
            try simp only [Act.put, List.setIfInBounds_toArray, List.set_cons_zero, List.set_cons_succ]
            refine wpAnyH_take (i := 8) (oi := ⟨_, _, _, _, _, _⟩) (v := ?vb8) rfl (by kernel_rfl) (by kernel_rfl) (by kernel_rfl) (fun _ _ _ h => h) (Or.inl ⟨by rfl, ?yb8⟩) (by assumption) ?rb8
            case yb8 => intro w hSw; (try dsimp only at hSw); go_simp; try with_reducible rfl
            try simp only [Act.put, List.setIfInBounds_toArray, List.set_cons_zero, List.set_cons_succ]
            refine wpAnyH_take (i := 9) (oi := ⟨_, _, _, _, _, _⟩) (v := ?vb9) rfl (by kernel_rfl) (by kernel_rfl) (by kernel_rfl) (fun _ _ _ h => h) (Or.inl ⟨by rfl, ?yb9⟩) (by assumption) ?rb9
            case yb9 => intro w hSw; (try dsimp only at hSw); go_simp; try with_reducible rfl
            try simp only [Act.put, List.setIfInBounds_toArray, List.set_cons_zero, List.set_cons_succ]
            refine wpAnyH_take (i := 10) (oi := ⟨_, _, _, _, _, _⟩) (v := ?vb10) rfl (by kernel_rfl) (by kernel_rfl) (by kernel_rfl) (fun _ _ _ h => h) (Or.inl ⟨by rfl, ?yb10⟩) (by assumption) ?rb10
            case yb10 => intro w hSw; (try dsimp only at hSw); go_simp; try with_reducible rfl
            try simp only [Act.put, List.setIfInBounds_toArray, List.set_cons_zero, List.set_cons_succ]
            refine wpAnyH_take (i := 11) (oi := ⟨_, _, _, _, _, _⟩) (v := ?vb11) rfl (by kernel_rfl) (by kernel_rfl) (by kernel_rfl) (fun _ _ _ h => h) (Or.inl ⟨by rfl, ?yb11⟩) (by assumption) ?rb11
            case yb11 => intro w hSw; (try dsimp only at hSw); go_simp; try with_reducible rfl
            try simp only [Act.put, List.setIfInBounds_toArray, List.set_cons_zero, List.set_cons_succ]
            refine wpAnyH_take (i := 12) (oi := ⟨_, _, _, _, _, _⟩) (v := ?vb12) rfl (by kernel_rfl) (by kernel_rfl) (by kernel_rfl) (fun _ _ _ h => h) (Or.inl ⟨by rfl, ?yb12⟩) (by assumption) ?rb12
            case yb12 => intro w hSw; (try dsimp only at hSw); go_simp; try with_reducible rfl
            try simp only [Act.put, List.setIfInBounds_toArray, List.set_cons_zero, List.set_cons_succ]
            refine wpAnyH_take (i := 13) (oi := ⟨_, _, _, _, _, _⟩) (v := ?vb13) rfl (by kernel_rfl) (by kernel_rfl) (by kernel_rfl) (fun _ _ _ h => h) (Or.inl ⟨by rfl, ?yb13⟩) (by assumption) ?rb13
            case yb13 => intro w hSw; (try dsimp only at hSw); go_simp; try with_reducible rfl
            try simp only [Act.put, List.setIfInBounds_toArray, List.set_cons_zero, List.set_cons_succ]
            refine wpAnyH_ready (rs := [14]) (by kernel_rfl) (by simp) ?_
            refine AllReadyH.cons (o := ⟨_, _, _, _, _, _⟩) rfl (fun KK hK => ?_) AllReadyH.nil
            go_simp
            refine (within_c _ _ _ _ h2).mono ?_
            rintro r _ ⟨rfl, rfl⟩
            go_wp2_with fail
            refine hK.out _ _ kk1 (fun hH14 => ?_)
            clear hK KK hH3
            try simp only [Act.put, List.setIfInBounds_toArray, List.set_cons_zero, List.set_cons_succ]
            refine wpAnyH_take (i := 15) (oi := ⟨_, _, _, _, _, _⟩) (v := ?vb15) rfl (by kernel_rfl) (by kernel_rfl) (by kernel_rfl) (fun _ _ _ h => h) (Or.inl ⟨by rfl, ?yb15⟩) (by assumption) ?rb15
            case yb15 => intro w hSw; (try dsimp only at hSw); go_simp; try with_reducible rfl
            try simp only [Act.put, List.setIfInBounds_toArray, List.set_cons_zero, List.set_cons_succ]
            refine wpAnyH_take (i := 16) (oi := ⟨_, _, _, _, _, _⟩) (v := ?vb16) rfl (by kernel_rfl) (by kernel_rfl) (by kernel_rfl) (fun _ _ _ h => h) (Or.inl ⟨by rfl, ?yb16⟩) (by assumption) ?rb16
            case yb16 => intro w hSw; (try dsimp only at hSw); go_simp; try with_reducible rfl
            try simp only [Act.put, List.setIfInBounds_toArray, List.set_cons_zero, List.set_cons_succ]
            refine wpAnyH_take (i := 17) (oi := ⟨_, _, _, _, _, _⟩) (v := ?vb17) rfl (by kernel_rfl) (by kernel_rfl) (by kernel_rfl) (fun _ _ _ h => h) (Or.inl ⟨by rfl, ?yb17⟩) (by assumption) ?rb17
            case yb17 => intro w hSw; (try dsimp only at hSw); go_simp; try with_reducible rfl
            try simp only [Act.put, List.setIfInBounds_toArray, List.set_cons_zero, List.set_cons_succ]
            refine wpAnyH_take (i := 18) (oi := ⟨_, _, _, _, _, _⟩) (v := undef) rfl (by kernel_rfl) (by kernel_rfl) (by kernel_rfl) (fun _ _ _ h => h) (Or.inr ⟨by rfl, rfl⟩) (by assumption) ?_
            try simp only [Act.put, List.setIfInBounds_toArray, List.set_cons_zero, List.set_cons_succ]
            refine wpAnyH_take (i := 19) (oi := ⟨_, _, _, _, _, _⟩) (v := undef) rfl (by kernel_rfl) (by kernel_rfl) (by kernel_rfl) (fun _ _ _ h => h) (Or.inr ⟨by rfl, rfl⟩) (by assumption) ?_
            try simp only [Act.put, List.setIfInBounds_toArray, List.set_cons_zero, List.set_cons_succ]
            refine wpAnyH_take (i := 20) (oi := ⟨_, _, _, _, _, _⟩) (v := undef) rfl (by kernel_rfl) (by kernel_rfl) (by kernel_rfl) (fun _ _ _ h => h) (Or.inr ⟨by rfl, rfl⟩) (by assumption) ?_
            try simp only [Act.put, List.setIfInBounds_toArray, List.set_cons_zero, List.set_cons_succ]
            refine wpAnyH_take (i := 21) (oi := ⟨_, _, _, _, _, _⟩) (v := undef) rfl (by kernel_rfl) (by kernel_rfl) (by kernel_rfl) (fun _ _ _ h => h) (Or.inr ⟨by rfl, rfl⟩) (by assumption) ?_
            try simp only [Act.put, List.setIfInBounds_toArray, List.set_cons_zero, List.set_cons_succ]
            refine wpAnyH_take (i := 22) (oi := ⟨_, _, _, _, _, _⟩) (v := ?vb22) rfl (by kernel_rfl) (by kernel_rfl) (by kernel_rfl) (fun _ _ _ h => h) (Or.inl ⟨by rfl, ?yb22⟩) (by assumption) ?rb22
            case yb22 => intro w hSw; (try dsimp only at hSw); go_simp; try with_reducible rfl
            try simp only [Act.put, List.setIfInBounds_toArray, List.set_cons_zero, List.set_cons_succ]
            refine wpAnyH_done (by kernel_rfl) (NoPanic.normal ?_) _
            go_wp2
            go_ret
            exact ⟨ret_bool HE.out.symm, BB⟩
          | true =>
            have H3 : Hid (okLt svs m = okKind m) := okLt_3 h1 (by rw [HT.out]; exact h2)
            cases h3 : okKind m with
            | false =>
              have HE : Hid ((decide (l.length ≤ 20) && l.all (okLt svs)) = false) := by show _ = _; rw [all_bad HK.out (by rw [H3.out]; exact h3)]; simp
              clear g1 g2 ef htm
              obtain ⟨mto, mfr, mterm, masks, mlast, mlong, mgrant⟩ := m
              simp only at *
              subst hf
              cases masks with
              | true =>
                go_wp2_with fail
                obtain ⟨u, hu⟩ : ∃ u, wr.alloc (.cells #[.int .i64 mto, .int .i64 (f : Int), .int .i64 mterm, .bool true, .int .i64 mlast, .int .i64 mlong, .bool mgrant] 75) = u := ⟨_, rfl⟩
                have BB : Below w.heap.size w u.drew := by rw [← hu]; exact (stEl hB (alEl _ _)).drew
                have kk : u.drew.cell? ⟨wr.heap.size, 0, none⟩ = some (.int .i64 mto) ∧ u.drew.cell? ⟨wr.heap.size, 1, none⟩ = some (.int .i64 (f : Int)) ∧ u.drew.cell? ⟨wr.heap.size, 2, none⟩ = some (.int .i64 mterm) ∧ u.drew.cell? ⟨wr.heap.size, 3, none⟩ = some (.bool true) ∧ u.drew.cell? ⟨wr.heap.size, 4, none⟩ = some (.int .i64 mlast) ∧ u.drew.cell? ⟨wr.heap.size, 5, none⟩ = some (.int .i64 mlong) ∧ u.drew.cell? ⟨wr.heap.size, 6, none⟩ = some (.bool mgrant) ∧ u.drew.cell? ⟨K, O + f * 6, none⟩ = some (.int .i64 tm) := ⟨by rw [← hu]; simp [go_sem], by rw [← hu]; simp [go_sem], by rw [← hu]; simp [go_sem], by rw [← hu]; simp [go_sem], by rw [← hu]; simp [go_sem], by rw [← hu]; simp [go_sem], by rw [← hu]; simp [go_sem], celB (by rw [← hu]; exact (alEl _ _).drew) hcv⟩
                rw [hu]
                clear hu
                refine wp_region_noPanic ?_
                refine wp_region_held_drew (S := fun w' => w'.cell? ⟨wr.heap.size, 0, none⟩ = some (.int .i64 mto) ∧ w'.cell? ⟨wr.heap.size, 1, none⟩ = some (.int .i64 (f : Int)) ∧ w'.cell? ⟨wr.heap.size, 2, none⟩ = some (.int .i64 mterm) ∧ w'.cell? ⟨wr.heap.size, 3, none⟩ = some (.bool true) ∧ w'.cell? ⟨wr.heap.size, 4, none⟩ = some (.int .i64 mlast) ∧ w'.cell? ⟨wr.heap.size, 5, none⟩ = some (.int .i64 mlong) ∧ w'.cell? ⟨wr.heap.size, 6, none⟩ = some (.bool mgrant) ∧ w'.cell? ⟨K, O + f * 6, none⟩ = some (.int .i64 tm)) (by kernel_rfl) kk (fun hH => ?_)
                refine wpAnyH_take (i := 0) (oi := ⟨_, _, _, _, _, _⟩) (v := ?vnt0) rfl (by kernel_rfl) (by kernel_rfl) (by kernel_rfl) (fun _ _ _ h => h) (Or.inl ⟨by rfl, ?ynt0⟩) (by assumption) ?rnt0
                case ynt0 => intro w hSw; (try dsimp only at hSw); go_simp; try with_reducible rfl
                try simp only [Act.put, List.setIfInBounds_toArray, List.set_cons_zero, List.set_cons_succ]
                refine wpAnyH_take (i := 1) (oi := ⟨_, _, _, _, _, _⟩) (v := ?vnt1) rfl (by kernel_rfl) (by kernel_rfl) (by kernel_rfl) (fun _ _ _ h => h) (Or.inl ⟨by rfl, ?ynt1⟩) (by assumption) ?rnt1
                case ynt1 => intro w hSw; (try dsimp only at hSw); go_simp; try with_reducible rfl
                try simp only [Act.put, List.setIfInBounds_toArray, List.set_cons_zero, List.set_cons_succ]
                refine wpAnyH_take (i := 2) (oi := ⟨_, _, _, _, _, _⟩) (v := ?vnt2) rfl (by kernel_rfl) (by kernel_rfl) (by kernel_rfl) (fun _ _ _ h => h) (Or.inl ⟨by rfl, ?ynt2⟩) (by assumption) ?rnt2
                case ynt2 => intro w hSw; (try dsimp only at hSw); go_simp; try with_reducible rfl
                try simp only [Act.put, List.setIfInBounds_toArray, List.set_cons_zero, List.set_cons_succ]
                refine wpAnyH_ready (rs := [3]) (by kernel_rfl) (by simp) ?_
                refine AllReadyH.cons (o := ⟨_, _, _, _, _, _⟩) rfl (fun KK hK => ?_) AllReadyH.nil
                go_simp
                refine (goodEnds_c ⟨mto, (f : Int), mterm, true, mlast, mlong, mgrant⟩ _ _ _ hn h1).mono ?_
                rintro r W1 ⟨rfl, hBk⟩
                have kk1 : W1.cell? ⟨wr.heap.size, 0, none⟩ = some (.int .i64 mto) ∧ W1.cell? ⟨wr.heap.size, 1, none⟩ = some (.int .i64 (f : Int)) ∧ W1.cell? ⟨wr.heap.size, 2, none⟩ = some (.int .i64 mterm) ∧ W1.cell? ⟨wr.heap.size, 3, none⟩ = some (.bool true) ∧ W1.cell? ⟨wr.heap.size, 4, none⟩ = some (.int .i64 mlast) ∧ W1.cell? ⟨wr.heap.size, 5, none⟩ = some (.int .i64 mlong) ∧ W1.cell? ⟨wr.heap.size, 6, none⟩ = some (.bool mgrant) ∧ W1.cell? ⟨K, O + f * 6, none⟩ = some (.int .i64 tm) := by obtain ⟨k0, k1, k2, k3, k4, k5, k6, k7⟩ := kk; exact ⟨celB hBk k0, celB hBk k1, celB hBk k2, celB hBk k3, celB hBk k4, celB hBk k5, celB hBk k6, celB hBk k7⟩
                replace BB := stEl BB hBk
                clear hBk
                go_wp2_with fail
                refine hK.out _ _ kk1 (fun hH3 => ?_)
                clear hK KK hH
                try simp only [Act.put, List.setIfInBounds_toArray, List.set_cons_zero, List.set_cons_succ]
                refine wpAnyH_take (i := 4) (oi := ⟨_, _, _, _, _, _⟩) (v := ?vnt4) rfl (by kernel_rfl) (by kernel_rfl) (by kernel_rfl) (fun _ _ _ h => h) (Or.inl ⟨by rfl, ?ynt4⟩) (by assumption) ?rnt4
                case ynt4 => intro w hSw; (try dsimp only at hSw); go_simp; try with_reducible rfl
                try simp only [Act.put, List.setIfInBounds_toArray, List.set_cons_zero, List.set_cons_succ]
                refine wpAnyH_take (i := 5) (oi := ⟨_, _, _, _, _, _⟩) (v := ?vnt5) rfl (by kernel_rfl) (by kernel_rfl) (by kernel_rfl) (fun _ _ _ h => h) (Or.inl ⟨by rfl, ?ynt5⟩) (by assumption) ?rnt5
                case ynt5 => intro w hSw; (try dsimp only at hSw); go_simp; try with_reducible rfl
                try simp only [Act.put, List.setIfInBounds_toArray, List.set_cons_zero, List.set_cons_succ]
                refine wpAnyH_take (i := 6) (oi := ⟨_, _, _, _, _, _⟩) (v := ?vnt6) rfl (by kernel_rfl) (by kernel_rfl) (by kernel_rfl) (fun _ _ _ h => h) (Or.inl ⟨by rfl, ?ynt6⟩) (by assumption) ?rnt6
                case ynt6 => intro w hSw; (try dsimp only at hSw); go_simp; try with_reducible rfl
                try simp only [Act.put, List.setIfInBounds_toArray, List.set_cons_zero, List.set_cons_succ]
                refine wpAnyH_take (i := 7) (oi := ⟨_, _, _, _, _, _⟩) (v := ?vnt7) rfl (by kernel_rfl) (by kernel_rfl) (by kernel_rfl) (fun _ _ _ h => h) (Or.inl ⟨by rfl, ?ynt7⟩) (by assumption) ?rnt7
                case ynt7 => intro w hSw; (try dsimp only at hSw); go_simp; try with_reducible rfl
                try simp only [Act.put, List.setIfInBounds_toArray, List.set_cons_zero, List.set_cons_succ]
                refine wpAnyH_take (i := 8) (oi := ⟨_, _, _, _, _, _⟩) (v := ?vnt8) rfl (by kernel_rfl) (by kernel_rfl) (by kernel_rfl) (fun _ _ _ h => h) (Or.inl ⟨by rfl, ?ynt8⟩) (by assumption) ?rnt8
                case ynt8 => intro w hSw; (try dsimp only at hSw); go_simp; try with_reducible rfl
                try simp only [Act.put, List.setIfInBounds_toArray, List.set_cons_zero, List.set_cons_succ]
                refine wpAnyH_take (i := 9) (oi := ⟨_, _, _, _, _, _⟩) (v := ?vnt9) rfl (by kernel_rfl) (by kernel_rfl) (by kernel_rfl) (fun _ _ _ h => h) (Or.inl ⟨by rfl, ?ynt9⟩) (by assumption) ?rnt9
                case ynt9 => intro w hSw; (try dsimp only at hSw); go_simp; try with_reducible rfl
                try simp only [Act.put, List.setIfInBounds_toArray, List.set_cons_zero, List.set_cons_succ]
                refine wpAnyH_take (i := 10) (oi := ⟨_, _, _, _, _, _⟩) (v := ?vnt10) rfl (by kernel_rfl) (by kernel_rfl) (by kernel_rfl) (fun _ _ _ h => h) (Or.inl ⟨by rfl, ?ynt10⟩) (by assumption) ?rnt10
                case ynt10 => intro w hSw; (try dsimp only at hSw); go_simp; try with_reducible rfl
                try simp only [Act.put, List.setIfInBounds_toArray, List.set_cons_zero, List.set_cons_succ]
                refine wpAnyH_take (i := 11) (oi := ⟨_, _, _, _, _, _⟩) (v := ?vnt11) rfl (by kernel_rfl) (by kernel_rfl) (by kernel_rfl) (fun _ _ _ h => h) (Or.inl ⟨by rfl, ?ynt11⟩) (by assumption) ?rnt11
                case ynt11 => intro w hSw; (try dsimp only at hSw); go_simp; try with_reducible rfl
                try simp only [Act.put, List.setIfInBounds_toArray, List.set_cons_zero, List.set_cons_succ]
                refine wpAnyH_take (i := 12) (oi := ⟨_, _, _, _, _, _⟩) (v := ?vnt12) rfl (by kernel_rfl) (by kernel_rfl) (by kernel_rfl) (fun _ _ _ h => h) (Or.inl ⟨by rfl, ?ynt12⟩) (by assumption) ?rnt12
                case ynt12 => intro w hSw; (try dsimp only at hSw); go_simp; try with_reducible rfl
                try simp only [Act.put, List.setIfInBounds_toArray, List.set_cons_zero, List.set_cons_succ]
                refine wpAnyH_take (i := 13) (oi := ⟨_, _, _, _, _, _⟩) (v := ?vnt13) rfl (by kernel_rfl) (by kernel_rfl) (by kernel_rfl) (fun _ _ _ h => h) (Or.inl ⟨by rfl, ?ynt13⟩) (by assumption) ?rnt13
                case ynt13 => intro w hSw; (try dsimp only at hSw); go_simp; try with_reducible rfl
                try simp only [Act.put, List.setIfInBounds_toArray, List.set_cons_zero, List.set_cons_succ]
                refine wpAnyH_ready (rs := [14]) (by kernel_rfl) (by simp) ?_
                refine AllReadyH.cons (o := ⟨_, _, _, _, _, _⟩) rfl (fun KK hK => ?_) AllReadyH.nil
                go_simp
                refine (within_c _ _ _ _ h2).mono ?_
                rintro r _ ⟨rfl, rfl⟩
                go_wp2_with fail
                refine hK.out _ _ kk1 (fun hH14 => ?_)
                clear hK KK hH3
                try simp only [Act.put, List.setIfInBounds_toArray, List.set_cons_zero, List.set_cons_succ]
                refine wpAnyH_take (i := 15) (oi := ⟨_, _, _, _, _, _⟩) (v := ?vnt15) rfl (by kernel_rfl) (by kernel_rfl) (by kernel_rfl) (fun _ _ _ h => h) (Or.inl ⟨by rfl, ?ynt15⟩) (by assumption) ?rnt15
                case ynt15 => intro w hSw; (try dsimp only at hSw); go_simp; try with_reducible rfl
                try simp only [Act.put, List.setIfInBounds_toArray, List.set_cons_zero, List.set_cons_succ]
                refine wpAnyH_take (i := 16) (oi := ⟨_, _, _, _, _, _⟩) (v := ?vnt16) rfl (by kernel_rfl) (by kernel_rfl) (by kernel_rfl) (fun _ _ _ h => h) (Or.inl ⟨by rfl, ?ynt16⟩) (by assumption) ?rnt16
                case ynt16 => intro w hSw; (try dsimp only at hSw); go_simp; try with_reducible rfl
                try simp only [Act.put, List.setIfInBounds_toArray, List.set_cons_zero, List.set_cons_succ]
                refine wpAnyH_take (i := 17) (oi := ⟨_, _, _, _, _, _⟩) (v := ?vnt17) rfl (by kernel_rfl) (by kernel_rfl) (by kernel_rfl) (fun _ _ _ h => h) (Or.inl ⟨by rfl, ?ynt17⟩) (by assumption) ?rnt17
                case ynt17 => intro w hSw; (try dsimp only at hSw); go_simp; try with_reducible rfl
                try simp only [Act.put, List.setIfInBounds_toArray, List.set_cons_zero, List.set_cons_succ]
                refine wpAnyH_take (i := 18) (oi := ⟨_, _, _, _, _, _⟩) (v := ?vnt18) rfl (by kernel_rfl) (by kernel_rfl) (by kernel_rfl) (fun _ _ _ h => h) (Or.inl ⟨by rfl, ?ynt18⟩) (by assumption) ?rnt18
                case ynt18 => intro w hSw; (try dsimp only at hSw); go_simp; try with_reducible rfl
                try simp only [Act.put, List.setIfInBounds_toArray, List.set_cons_zero, List.set_cons_succ]
                refine wpAnyH_ready (rs := [19]) (by kernel_rfl) (by simp) ?_
                refine AllReadyH.cons (o := ⟨_, _, _, _, _, _⟩) rfl (fun KK hK => ?_) AllReadyH.nil
                go_simp
                refine (posted_t ⟨mto, (f : Int), mterm, true, mlast, mlong, mgrant⟩ _ rfl).mono ?_
                rintro r W2 ⟨rfl, hBk⟩
                have kk2 : W2.cell? ⟨wr.heap.size, 0, none⟩ = some (.int .i64 mto) ∧ W2.cell? ⟨wr.heap.size, 1, none⟩ = some (.int .i64 (f : Int)) ∧ W2.cell? ⟨wr.heap.size, 2, none⟩ = some (.int .i64 mterm) ∧ W2.cell? ⟨wr.heap.size, 3, none⟩ = some (.bool true) ∧ W2.cell? ⟨wr.heap.size, 4, none⟩ = some (.int .i64 mlast) ∧ W2.cell? ⟨wr.heap.size, 5, none⟩ = some (.int .i64 mlong) ∧ W2.cell? ⟨wr.heap.size, 6, none⟩ = some (.bool mgrant) ∧ W2.cell? ⟨K, O + f * 6, none⟩ = some (.int .i64 tm) := by obtain ⟨k0, k1, k2, k3, k4, k5, k6, k7⟩ := kk1; exact ⟨celB hBk k0, celB hBk k1, celB hBk k2, celB hBk k3, celB hBk k4, celB hBk k5, celB hBk k6, celB hBk k7⟩
                replace BB := stEl BB hBk
                clear hBk
                go_wp2_with fail
                refine hK.out _ _ kk2 (fun hH19 => ?_)
                clear hK KK hH14
                try simp only [Act.put, List.setIfInBounds_toArray, List.set_cons_zero, List.set_cons_succ]
                refine wpAnyH_ready (rs := [20]) (by kernel_rfl) (by simp) ?_
                refine AllReadyH.cons (o := ⟨_, _, _, _, _, _⟩) rfl (fun KK hK => ?_) AllReadyH.nil
                go_simp
                refine (asks_c ⟨mto, (f : Int), mterm, true, mlast, mlong, mgrant⟩ _ _ rfl h3).mono ?_
                rintro r W3 ⟨rfl, hBk⟩
                have kk3 : W3.cell? ⟨wr.heap.size, 0, none⟩ = some (.int .i64 mto) ∧ W3.cell? ⟨wr.heap.size, 1, none⟩ = some (.int .i64 (f : Int)) ∧ W3.cell? ⟨wr.heap.size, 2, none⟩ = some (.int .i64 mterm) ∧ W3.cell? ⟨wr.heap.size, 3, none⟩ = some (.bool true) ∧ W3.cell? ⟨wr.heap.size, 4, none⟩ = some (.int .i64 mlast) ∧ W3.cell? ⟨wr.heap.size, 5, none⟩ = some (.int .i64 mlong) ∧ W3.cell? ⟨wr.heap.size, 6, none⟩ = some (.bool mgrant) ∧ W3.cell? ⟨K, O + f * 6, none⟩ = some (.int .i64 tm) := by obtain ⟨k0, k1, k2, k3, k4, k5, k6, k7⟩ := kk2; exact ⟨celB hBk k0, celB hBk k1, celB hBk k2, celB hBk k3, celB hBk k4, celB hBk k5, celB hBk k6, celB hBk k7⟩
                replace BB := stEl BB hBk
                clear hBk
                go_wp2_with fail
                refine hK.out _ _ kk3 (fun hH20 => ?_)
                clear hK KK hH19
                try simp only [Act.put, List.setIfInBounds_toArray, List.set_cons_zero, List.set_cons_succ]
                refine wpAnyH_take (i := 21) (oi := ⟨_, _, _, _, _, _⟩) (v := ?vnt21) rfl (by kernel_rfl) (by kernel_rfl) (by kernel_rfl) (fun _ _ _ h => h) (Or.inl ⟨by rfl, ?ynt21⟩) (by assumption) ?rnt21
                case ynt21 => intro w hSw; (try dsimp only at hSw); go_simp; try with_reducible rfl
                try simp only [Act.put, List.setIfInBounds_toArray, List.set_cons_zero, List.set_cons_succ]
                refine wpAnyH_take (i := 22) (oi := ⟨_, _, _, _, _, _⟩) (v := ?vnt22) rfl (by kernel_rfl) (by kernel_rfl) (by kernel_rfl) (fun _ _ _ h => h) (Or.inl ⟨by rfl, ?ynt22⟩) (by assumption) ?rnt22
                case ynt22 => intro w hSw; (try dsimp only at hSw); go_simp; try with_reducible rfl
                try simp only [Act.put, List.setIfInBounds_toArray, List.set_cons_zero, List.set_cons_succ]
                refine wpAnyH_done (by kernel_rfl) (NoPanic.normal ?_) _
                go_wp2
                go_ret
                exact ⟨ret_bool HE.out.symm, BB⟩
              | false =>
                go_wp2_with fail
                obtain ⟨u, hu⟩ : ∃ u, wr.alloc (.cells #[.int .i64 mto, .int .i64 (f : Int), .int .i64 mterm, .bool false, .int .i64 mlast, .int .i64 mlong, .bool mgrant] 75) = u := ⟨_, rfl⟩
                have BB : Below w.heap.size w u.drew := by rw [← hu]; exact (stEl hB (alEl _ _)).drew
                have kk : u.drew.cell? ⟨wr.heap.size, 0, none⟩ = some (.int .i64 mto) ∧ u.drew.cell? ⟨wr.heap.size, 1, none⟩ = some (.int .i64 (f : Int)) ∧ u.drew.cell? ⟨wr.heap.size, 2, none⟩ = some (.int .i64 mterm) ∧ u.drew.cell? ⟨wr.heap.size, 3, none⟩ = some (.bool false) ∧ u.drew.cell? ⟨wr.heap.size, 4, none⟩ = some (.int .i64 mlast) ∧ u.drew.cell? ⟨wr.heap.size, 5, none⟩ = some (.int .i64 mlong) ∧ u.drew.cell? ⟨wr.heap.size, 6, none⟩ = some (.bool mgrant) ∧ u.drew.cell? ⟨K, O + f * 6, none⟩ = some (.int .i64 tm) := ⟨by rw [← hu]; simp [go_sem], by rw [← hu]; simp [go_sem], by rw [← hu]; simp [go_sem], by rw [← hu]; simp [go_sem], by rw [← hu]; simp [go_sem], by rw [← hu]; simp [go_sem], by rw [← hu]; simp [go_sem], celB (by rw [← hu]; exact (alEl _ _).drew) hcv⟩
                rw [hu]
                clear hu
                refine wp_region_noPanic ?_
                refine wp_region_held_drew (S := fun w' => w'.cell? ⟨wr.heap.size, 0, none⟩ = some (.int .i64 mto) ∧ w'.cell? ⟨wr.heap.size, 1, none⟩ = some (.int .i64 (f : Int)) ∧ w'.cell? ⟨wr.heap.size, 2, none⟩ = some (.int .i64 mterm) ∧ w'.cell? ⟨wr.heap.size, 3, none⟩ = some (.bool false) ∧ w'.cell? ⟨wr.heap.size, 4, none⟩ = some (.int .i64 mlast) ∧ w'.cell? ⟨wr.heap.size, 5, none⟩ = some (.int .i64 mlong) ∧ w'.cell? ⟨wr.heap.size, 6, none⟩ = some (.bool mgrant) ∧ w'.cell? ⟨K, O + f * 6, none⟩ = some (.int .i64 tm)) (by kernel_rfl) kk (fun hH => ?_)
                refine wpAnyH_take (i := 0) (oi := ⟨_, _, _, _, _, _⟩) (v := ?vnf0) rfl (by kernel_rfl) (by kernel_rfl) (by kernel_rfl) (fun _ _ _ h => h) (Or.inl ⟨by rfl, ?ynf0⟩) (by assumption) ?rnf0
                case ynf0 => intro w hSw; (try dsimp only at hSw); go_simp; try with_reducible rfl
                try simp only [Act.put, List.setIfInBounds_toArray, List.set_cons_zero, List.set_cons_succ]
                refine wpAnyH_take (i := 1) (oi := ⟨_, _, _, _, _, _⟩) (v := ?vnf1) rfl (by kernel_rfl) (by kernel_rfl) (by kernel_rfl) (fun _ _ _ h => h) (Or.inl ⟨by rfl, ?ynf1⟩) (by assumption) ?rnf1
                case ynf1 => intro w hSw; (try dsimp only at hSw); go_simp; try with_reducible rfl
                try simp only [Act.put, List.setIfInBounds_toArray, List.set_cons_zero, List.set_cons_succ]
                refine wpAnyH_take (i := 2) (oi := ⟨_, _, _, _, _, _⟩) (v := ?vnf2) rfl (by kernel_rfl) (by kernel_rfl) (by kernel_rfl) (fun _ _ _ h => h) (Or.inl ⟨by rfl, ?ynf2⟩) (by assumption) ?rnf2
                case ynf2 => intro w hSw; (try dsimp only at hSw); go_simp; try with_reducible rfl
                try simp only [Act.put, List.setIfInBounds_toArray, List.set_cons_zero, List.set_cons_succ]
                refine wpAnyH_ready (rs := [3]) (by kernel_rfl) (by simp) ?_
                refine AllReadyH.cons (o := ⟨_, _, _, _, _, _⟩) rfl (fun KK hK => ?_) AllReadyH.nil
                go_simp
                refine (goodEnds_c ⟨mto, (f : Int), mterm, false, mlast, mlong, mgrant⟩ _ _ _ hn h1).mono ?_
                rintro r W1 ⟨rfl, hBk⟩
                have kk1 : W1.cell? ⟨wr.heap.size, 0, none⟩ = some (.int .i64 mto) ∧ W1.cell? ⟨wr.heap.size, 1, none⟩ = some (.int .i64 (f : Int)) ∧ W1.cell? ⟨wr.heap.size, 2, none⟩ = some (.int .i64 mterm) ∧ W1.cell? ⟨wr.heap.size, 3, none⟩ = some (.bool false) ∧ W1.cell? ⟨wr.heap.size, 4, none⟩ = some (.int .i64 mlast) ∧ W1.cell? ⟨wr.heap.size, 5, none⟩ = some (.int .i64 mlong) ∧ W1.cell? ⟨wr.heap.size, 6, none⟩ = some (.bool mgrant) ∧ W1.cell? ⟨K, O + f * 6, none⟩ = some (.int .i64 tm) := by obtain ⟨k0, k1, k2, k3, k4, k5, k6, k7⟩ := kk; exact ⟨celB hBk k0, celB hBk k1, celB hBk k2, celB hBk k3, celB hBk k4, celB hBk k5, celB hBk k6, celB hBk k7⟩
                replace BB := stEl BB hBk
                clear hBk
                go_wp2_with fail
                refine hK.out _ _ kk1 (fun hH3 => ?_)
                clear hK KK hH
                try simp only [Act.put, List.setIfInBounds_toArray, List.set_cons_zero, List.set_cons_succ]
                refine wpAnyH_take (i := 4) (oi := ⟨_, _, _, _, _, _⟩) (v := ?vnf4) rfl (by kernel_rfl) (by kernel_rfl) (by kernel_rfl) (fun _ _ _ h => h) (Or.inl ⟨by rfl, ?ynf4⟩) (by assumption) ?rnf4
                case ynf4 => intro w hSw; (try dsimp only at hSw); go_simp; try with_reducible rfl
                try simp only [Act.put, List.setIfInBounds_toArray, List.set_cons_zero, List.set_cons_succ]
                refine wpAnyH_take (i := 5) (oi := ⟨_, _, _, _, _, _⟩) (v := ?vnf5) rfl (by kernel_rfl) (by kernel_rfl) (by kernel_rfl) (fun _ _ _ h => h) (Or.inl ⟨by rfl, ?ynf5⟩) (by assumption) ?rnf5
                case ynf5 => intro w hSw; (try dsimp only at hSw); go_simp; try with_reducible rfl
                try simp only [Act.put, List.setIfInBounds_toArray, List.set_cons_zero, List.set_cons_succ]
                refine wpAnyH_take (i := 6) (oi := ⟨_, _, _, _, _, _⟩) (v := ?vnf6) rfl (by kernel_rfl) (by kernel_rfl) (by kernel_rfl) (fun _ _ _ h => h) (Or.inl ⟨by rfl, ?ynf6⟩) (by assumption) ?rnf6
                case ynf6 => intro w hSw; (try dsimp only at hSw); go_simp; try with_reducible rfl
                try simp only [Act.put, List.setIfInBounds_toArray, List.set_cons_zero, List.set_cons_succ]
                refine wpAnyH_take (i := 7) (oi := ⟨_, _, _, _, _, _⟩) (v := ?vnf7) rfl (by kernel_rfl) (by kernel_rfl) (by kernel_rfl) (fun _ _ _ h => h) (Or.inl ⟨by rfl, ?ynf7⟩) (by assumption) ?rnf7
                case ynf7 => intro w hSw; (try dsimp only at hSw); go_simp; try with_reducible rfl
                try simp only [Act.put, List.setIfInBounds_toArray, List.set_cons_zero, List.set_cons_succ]
                refine wpAnyH_take (i := 8) (oi := ⟨_, _, _, _, _, _⟩) (v := ?vnf8) rfl (by kernel_rfl) (by kernel_rfl) (by kernel_rfl) (fun _ _ _ h => h) (Or.inl ⟨by rfl, ?ynf8⟩) (by assumption) ?rnf8
                case ynf8 => intro w hSw; (try dsimp only at hSw); go_simp; try with_reducible rfl
                try simp only [Act.put, List.setIfInBounds_toArray, List.set_cons_zero, List.set_cons_succ]
                refine wpAnyH_take (i := 9) (oi := ⟨_, _, _, _, _, _⟩) (v := ?vnf9) rfl (by kernel_rfl) (by kernel_rfl) (by kernel_rfl) (fun _ _ _ h => h) (Or.inl ⟨by rfl, ?ynf9⟩) (by assumption) ?rnf9
                case ynf9 => intro w hSw; (try dsimp only at hSw); go_simp; try with_reducible rfl
                try simp only [Act.put, List.setIfInBounds_toArray, List.set_cons_zero, List.set_cons_succ]
                refine wpAnyH_take (i := 10) (oi := ⟨_, _, _, _, _, _⟩) (v := ?vnf10) rfl (by kernel_rfl) (by kernel_rfl) (by kernel_rfl) (fun _ _ _ h => h) (Or.inl ⟨by rfl, ?ynf10⟩) (by assumption) ?rnf10
                case ynf10 => intro w hSw; (try dsimp only at hSw); go_simp; try with_reducible rfl
                try simp only [Act.put, List.setIfInBounds_toArray, List.set_cons_zero, List.set_cons_succ]
                refine wpAnyH_take (i := 11) (oi := ⟨_, _, _, _, _, _⟩) (v := ?vnf11) rfl (by kernel_rfl) (by kernel_rfl) (by kernel_rfl) (fun _ _ _ h => h) (Or.inl ⟨by rfl, ?ynf11⟩) (by assumption) ?rnf11
                case ynf11 => intro w hSw; (try dsimp only at hSw); go_simp; try with_reducible rfl
                try simp only [Act.put, List.setIfInBounds_toArray, List.set_cons_zero, List.set_cons_succ]
                refine wpAnyH_take (i := 12) (oi := ⟨_, _, _, _, _, _⟩) (v := ?vnf12) rfl (by kernel_rfl) (by kernel_rfl) (by kernel_rfl) (fun _ _ _ h => h) (Or.inl ⟨by rfl, ?ynf12⟩) (by assumption) ?rnf12
                case ynf12 => intro w hSw; (try dsimp only at hSw); go_simp; try with_reducible rfl
                try simp only [Act.put, List.setIfInBounds_toArray, List.set_cons_zero, List.set_cons_succ]
                refine wpAnyH_take (i := 13) (oi := ⟨_, _, _, _, _, _⟩) (v := ?vnf13) rfl (by kernel_rfl) (by kernel_rfl) (by kernel_rfl) (fun _ _ _ h => h) (Or.inl ⟨by rfl, ?ynf13⟩) (by assumption) ?rnf13
                case ynf13 => intro w hSw; (try dsimp only at hSw); go_simp; try with_reducible rfl
                try simp only [Act.put, List.setIfInBounds_toArray, List.set_cons_zero, List.set_cons_succ]
                refine wpAnyH_ready (rs := [14]) (by kernel_rfl) (by simp) ?_
                refine AllReadyH.cons (o := ⟨_, _, _, _, _, _⟩) rfl (fun KK hK => ?_) AllReadyH.nil
                go_simp
                refine (within_c _ _ _ _ h2).mono ?_
                rintro r _ ⟨rfl, rfl⟩
                go_wp2_with fail
                refine hK.out _ _ kk1 (fun hH14 => ?_)
                clear hK KK hH3
                try simp only [Act.put, List.setIfInBounds_toArray, List.set_cons_zero, List.set_cons_succ]
                refine wpAnyH_take (i := 15) (oi := ⟨_, _, _, _, _, _⟩) (v := ?vnf15) rfl (by kernel_rfl) (by kernel_rfl) (by kernel_rfl) (fun _ _ _ h => h) (Or.inl ⟨by rfl, ?ynf15⟩) (by assumption) ?rnf15
                case ynf15 => intro w hSw; (try dsimp only at hSw); go_simp; try with_reducible rfl
                try simp only [Act.put, List.setIfInBounds_toArray, List.set_cons_zero, List.set_cons_succ]
                refine wpAnyH_take (i := 16) (oi := ⟨_, _, _, _, _, _⟩) (v := ?vnf16) rfl (by kernel_rfl) (by kernel_rfl) (by kernel_rfl) (fun _ _ _ h => h) (Or.inl ⟨by rfl, ?ynf16⟩) (by assumption) ?rnf16
                case ynf16 => intro w hSw; (try dsimp only at hSw); go_simp; try with_reducible rfl
                try simp only [Act.put, List.setIfInBounds_toArray, List.set_cons_zero, List.set_cons_succ]
                refine wpAnyH_take (i := 17) (oi := ⟨_, _, _, _, _, _⟩) (v := ?vnf17) rfl (by kernel_rfl) (by kernel_rfl) (by kernel_rfl) (fun _ _ _ h => h) (Or.inl ⟨by rfl, ?ynf17⟩) (by assumption) ?rnf17
                case ynf17 => intro w hSw; (try dsimp only at hSw); go_simp; try with_reducible rfl
                try simp only [Act.put, List.setIfInBounds_toArray, List.set_cons_zero, List.set_cons_succ]
                refine wpAnyH_take (i := 18) (oi := ⟨_, _, _, _, _, _⟩) (v := ?vnf18) rfl (by kernel_rfl) (by kernel_rfl) (by kernel_rfl) (fun _ _ _ h => h) (Or.inl ⟨by rfl, ?ynf18⟩) (by assumption) ?rnf18
                case ynf18 => intro w hSw; (try dsimp only at hSw); go_simp; try with_reducible rfl
                try simp only [Act.put, List.setIfInBounds_toArray, List.set_cons_zero, List.set_cons_succ]
                refine wpAnyH_ready (rs := [19]) (by kernel_rfl) (by simp) ?_
                refine AllReadyH.cons (o := ⟨_, _, _, _, _, _⟩) rfl (fun KK hK => ?_) AllReadyH.nil
                go_simp
                refine (posted_f ⟨mto, (f : Int), mterm, false, mlast, mlong, mgrant⟩ _ rfl).mono ?_
                rintro r W2 ⟨rfl, hBk⟩
                have kk2 : W2.cell? ⟨wr.heap.size, 0, none⟩ = some (.int .i64 mto) ∧ W2.cell? ⟨wr.heap.size, 1, none⟩ = some (.int .i64 (f : Int)) ∧ W2.cell? ⟨wr.heap.size, 2, none⟩ = some (.int .i64 mterm) ∧ W2.cell? ⟨wr.heap.size, 3, none⟩ = some (.bool false) ∧ W2.cell? ⟨wr.heap.size, 4, none⟩ = some (.int .i64 mlast) ∧ W2.cell? ⟨wr.heap.size, 5, none⟩ = some (.int .i64 mlong) ∧ W2.cell? ⟨wr.heap.size, 6, none⟩ = some (.bool mgrant) ∧ W2.cell? ⟨K, O + f * 6, none⟩ = some (.int .i64 tm) := by obtain ⟨k0, k1, k2, k3, k4, k5, k6, k7⟩ := kk1; exact ⟨celB hBk k0, celB hBk k1, celB hBk k2, celB hBk k3, celB hBk k4, celB hBk k5, celB hBk k6, celB hBk k7⟩
                replace BB := stEl BB hBk
                clear hBk
                go_wp2_with fail
                refine hK.out _ _ kk2 (fun hH19 => ?_)
                clear hK KK hH14
                try simp only [Act.put, List.setIfInBounds_toArray, List.set_cons_zero, List.set_cons_succ]
                refine wpAnyH_ready (rs := [20]) (by kernel_rfl) (by simp) ?_
                refine AllReadyH.cons (o := ⟨_, _, _, _, _, _⟩) rfl (fun KK hK => ?_) AllReadyH.nil
                go_simp
                refine (answers_c ⟨mto, (f : Int), mterm, false, mlast, mlong, mgrant⟩ _ _ rfl h3).mono ?_
                rintro r W3 ⟨rfl, hBk⟩
                have kk3 : W3.cell? ⟨wr.heap.size, 0, none⟩ = some (.int .i64 mto) ∧ W3.cell? ⟨wr.heap.size, 1, none⟩ = some (.int .i64 (f : Int)) ∧ W3.cell? ⟨wr.heap.size, 2, none⟩ = some (.int .i64 mterm) ∧ W3.cell? ⟨wr.heap.size, 3, none⟩ = some (.bool false) ∧ W3.cell? ⟨wr.heap.size, 4, none⟩ = some (.int .i64 mlast) ∧ W3.cell? ⟨wr.heap.size, 5, none⟩ = some (.int .i64 mlong) ∧ W3.cell? ⟨wr.heap.size, 6, none⟩ = some (.bool mgrant) ∧ W3.cell? ⟨K, O + f * 6, none⟩ = some (.int .i64 tm) := by obtain ⟨k0, k1, k2, k3, k4, k5, k6, k7⟩ := kk2; exact ⟨celB hBk k0, celB hBk k1, celB hBk k2, celB hBk k3, celB hBk k4, celB hBk k5, celB hBk k6, celB hBk k7⟩
                replace BB := stEl BB hBk
                clear hBk
                go_wp2_with fail
                refine hK.out _ _ kk3 (fun hH20 => ?_)
                clear hK KK hH19
                try simp only [Act.put, List.setIfInBounds_toArray, List.set_cons_zero, List.set_cons_succ]
                refine wpAnyH_take (i := 21) (oi := ⟨_, _, _, _, _, _⟩) (v := ?vnf21) rfl (by kernel_rfl) (by kernel_rfl) (by kernel_rfl) (fun _ _ _ h => h) (Or.inl ⟨by rfl, ?ynf21⟩) (by assumption) ?rnf21
                case ynf21 => intro w hSw; (try dsimp only at hSw); go_simp; try with_reducible rfl
                try simp only [Act.put, List.setIfInBounds_toArray, List.set_cons_zero, List.set_cons_succ]
                refine wpAnyH_take (i := 22) (oi := ⟨_, _, _, _, _, _⟩) (v := ?vnf22) rfl (by kernel_rfl) (by kernel_rfl) (by kernel_rfl) (fun _ _ _ h => h) (Or.inl ⟨by rfl, ?ynf22⟩) (by assumption) ?rnf22
                case ynf22 => intro w hSw; (try dsimp only at hSw); go_simp; try with_reducible rfl
                try simp only [Act.put, List.setIfInBounds_toArray, List.set_cons_zero, List.set_cons_succ]
                refine wpAnyH_done (by kernel_rfl) (NoPanic.normal ?_) _
                go_wp2
                go_ret
                exact ⟨ret_bool HE.out.symm, BB⟩
            | true =>
              have HN : Hid (allTo (okLt svs) l (k + 1)) := allTo_succ HO.out HK.out (by rw [H3.out]; exact h3)
              clear g1 g2 ef htm
              obtain ⟨mto, mfr, mterm, masks, mlast, mlong, mgrant⟩ := m
              simp only at *
              subst hf
              cases masks with
              | true =>
                go_wp2_with fail
                obtain ⟨u, hu⟩ : ∃ u, wr.alloc (.cells #[.int .i64 mto, .int .i64 (f : Int), .int .i64 mterm, .bool true, .int .i64 mlast, .int .i64 mlong, .bool mgrant] 75) = u := ⟨_, rfl⟩
                have BB : Below w.heap.size w u.drew := by rw [← hu]; exact (stEl hB (alEl _ _)).drew
                have kk : u.drew.cell? ⟨wr.heap.size, 0, none⟩ = some (.int .i64 mto) ∧ u.drew.cell? ⟨wr.heap.size, 1, none⟩ = some (.int .i64 (f : Int)) ∧ u.drew.cell? ⟨wr.heap.size, 2, none⟩ = some (.int .i64 mterm) ∧ u.drew.cell? ⟨wr.heap.size, 3, none⟩ = some (.bool true) ∧ u.drew.cell? ⟨wr.heap.size, 4, none⟩ = some (.int .i64 mlast) ∧ u.drew.cell? ⟨wr.heap.size, 5, none⟩ = some (.int .i64 mlong) ∧ u.drew.cell? ⟨wr.heap.size, 6, none⟩ = some (.bool mgrant) ∧ u.drew.cell? ⟨K, O + f * 6, none⟩ = some (.int .i64 tm) := ⟨by rw [← hu]; simp [go_sem], by rw [← hu]; simp [go_sem], by rw [← hu]; simp [go_sem], by rw [← hu]; simp [go_sem], by rw [← hu]; simp [go_sem], by rw [← hu]; simp [go_sem], by rw [← hu]; simp [go_sem], celB (by rw [← hu]; exact (alEl _ _).drew) hcv⟩
                rw [hu]
                clear hu
                refine wp_region_noPanic ?_
                refine wp_region_held_drew (S := fun w' => w'.cell? ⟨wr.heap.size, 0, none⟩ = some (.int .i64 mto) ∧ w'.cell? ⟨wr.heap.size, 1, none⟩ = some (.int .i64 (f : Int)) ∧ w'.cell? ⟨wr.heap.size, 2, none⟩ = some (.int .i64 mterm) ∧ w'.cell? ⟨wr.heap.size, 3, none⟩ = some (.bool true) ∧ w'.cell? ⟨wr.heap.size, 4, none⟩ = some (.int .i64 mlast) ∧ w'.cell? ⟨wr.heap.size, 5, none⟩ = some (.int .i64 mlong) ∧ w'.cell? ⟨wr.heap.size, 6, none⟩ = some (.bool mgrant) ∧ w'.cell? ⟨K, O + f * 6, none⟩ = some (.int .i64 tm)) (by kernel_rfl) kk (fun hH => ?_)
                refine wpAnyH_take (i := 0) (oi := ⟨_, _, _, _, _, _⟩) (v := ?vgt0) rfl (by kernel_rfl) (by kernel_rfl) (by kernel_rfl) (fun _ _ _ h => h) (Or.inl ⟨by rfl, ?ygt0⟩) (by assumption) ?rgt0
                case ygt0 => intro w hSw; (try dsimp only at hSw); go_simp; try with_reducible rfl
                try simp only [Act.put, List.setIfInBounds_toArray, List.set_cons_zero, List.set_cons_succ]
                refine wpAnyH_take (i := 1) (oi := ⟨_, _, _, _, _, _⟩) (v := ?vgt1) rfl (by kernel_rfl) (by kernel_rfl) (by kernel_rfl) (fun _ _ _ h => h) (Or.inl ⟨by rfl, ?ygt1⟩) (by assumption) ?rgt1
                case ygt1 => intro w hSw; (try dsimp only at hSw); go_simp; try with_reducible rfl
                try simp only [Act.put, List.setIfInBounds_toArray, List.set_cons_zero, List.set_cons_succ]
                refine wpAnyH_take (i := 2) (oi := ⟨_, _, _, _, _, _⟩) (v := ?vgt2) rfl (by kernel_rfl) (by kernel_rfl) (by kernel_rfl) (fun _ _ _ h => h) (Or.inl ⟨by rfl, ?ygt2⟩) (by assumption) ?rgt2
                case ygt2 => intro w hSw; (try dsimp only at hSw); go_simp; try with_reducible rfl
                try simp only [Act.put, List.setIfInBounds_toArray, List.set_cons_zero, List.set_cons_succ]
                refine wpAnyH_ready (rs := [3]) (by kernel_rfl) (by simp) ?_
                refine AllReadyH.cons (o := ⟨_, _, _, _, _, _⟩) rfl (fun KK hK => ?_) AllReadyH.nil
                go_simp
                refine (goodEnds_c ⟨mto, (f : Int), mterm, true, mlast, mlong, mgrant⟩ _ _ _ hn h1).mono ?_
                rintro r W1 ⟨rfl, hBk⟩
                have kk1 : W1.cell? ⟨wr.heap.size, 0, none⟩ = some (.int .i64 mto) ∧ W1.cell? ⟨wr.heap.size, 1, none⟩ = some (.int .i64 (f : Int)) ∧ W1.cell? ⟨wr.heap.size, 2, none⟩ = some (.int .i64 mterm) ∧ W1.cell? ⟨wr.heap.size, 3, none⟩ = some (.bool true) ∧ W1.cell? ⟨wr.heap.size, 4, none⟩ = some (.int .i64 mlast) ∧ W1.cell? ⟨wr.heap.size, 5, none⟩ = some (.int .i64 mlong) ∧ W1.cell? ⟨wr.heap.size, 6, none⟩ = some (.bool mgrant) ∧ W1.cell? ⟨K, O + f * 6, none⟩ = some (.int .i64 tm) := by obtain ⟨k0, k1, k2, k3, k4, k5, k6, k7⟩ := kk; exact ⟨celB hBk k0, celB hBk k1, celB hBk k2, celB hBk k3, celB hBk k4, celB hBk k5, celB hBk k6, celB hBk k7⟩
                replace BB := stEl BB hBk
                clear hBk
                go_wp2_with fail
                refine hK.out _ _ kk1 (fun hH3 => ?_)
                clear hK KK hH
                try simp only [Act.put, List.setIfInBounds_toArray, List.set_cons_zero, List.set_cons_succ]
                refine wpAnyH_take (i := 4) (oi := ⟨_, _, _, _, _, _⟩) (v := ?vgt4) rfl (by kernel_rfl) (by kernel_rfl) (by kernel_rfl) (fun _ _ _ h => h) (Or.inl ⟨by rfl, ?ygt4⟩) (by assumption) ?rgt4
                case ygt4 => intro w hSw; (try dsimp only at hSw); go_simp; try with_reducible rfl
                try simp only [Act.put, List.setIfInBounds_toArray, List.set_cons_zero, List.set_cons_succ]
                refine wpAnyH_take (i := 5) (oi := ⟨_, _, _, _, _, _⟩) (v := ?vgt5) rfl (by kernel_rfl) (by kernel_rfl) (by kernel_rfl) (fun _ _ _ h => h) (Or.inl ⟨by rfl, ?ygt5⟩) (by assumption) ?rgt5
                case ygt5 => intro w hSw; (try dsimp only at hSw); go_simp; try with_reducible rfl
                try simp only [Act.put, List.setIfInBounds_toArray, List.set_cons_zero, List.set_cons_succ]
                refine wpAnyH_take (i := 6) (oi := ⟨_, _, _, _, _, _⟩) (v := ?vgt6) rfl (by kernel_rfl) (by kernel_rfl) (by kernel_rfl) (fun _ _ _ h => h) (Or.inl ⟨by rfl, ?ygt6⟩) (by assumption) ?rgt6
                case ygt6 => intro w hSw; (try dsimp only at hSw); go_simp; try with_reducible rfl
                try simp only [Act.put, List.setIfInBounds_toArray, List.set_cons_zero, List.set_cons_succ]
                refine wpAnyH_take (i := 7) (oi := ⟨_, _, _, _, _, _⟩) (v := ?vgt7) rfl (by kernel_rfl) (by kernel_rfl) (by kernel_rfl) (fun _ _ _ h => h) (Or.inl ⟨by rfl, ?ygt7⟩) (by assumption) ?rgt7
                case ygt7 => intro w hSw; (try dsimp only at hSw); go_simp; try with_reducible rfl
                try simp only [Act.put, List.setIfInBounds_toArray, List.set_cons_zero, List.set_cons_succ]
                refine wpAnyH_take (i := 8) (oi := ⟨_, _, _, _, _, _⟩) (v := ?vgt8) rfl (by kernel_rfl) (by kernel_rfl) (by kernel_rfl) (fun _ _ _ h => h) (Or.inl ⟨by rfl, ?ygt8⟩) (by assumption) ?rgt8
                case ygt8 => intro w hSw; (try dsimp only at hSw); go_simp; try with_reducible rfl
                try simp only [Act.put, List.setIfInBounds_toArray, List.set_cons_zero, List.set_cons_succ]
                refine wpAnyH_take (i := 9) (oi := ⟨_, _, _, _, _, _⟩) (v := ?vgt9) rfl (by kernel_rfl) (by kernel_rfl) (by kernel_rfl) (fun _ _ _ h => h) (Or.inl ⟨by rfl, ?ygt9⟩) (by assumption) ?rgt9
                case ygt9 => intro w hSw; (try dsimp only at hSw); go_simp; try with_reducible rfl
                try simp only [Act.put, List.setIfInBounds_toArray, List.set_cons_zero, List.set_cons_succ]
                refine wpAnyH_take (i := 10) (oi := ⟨_, _, _, _, _, _⟩) (v := ?vgt10) rfl (by kernel_rfl) (by kernel_rfl) (by kernel_rfl) (fun _ _ _ h => h) (Or.inl ⟨by rfl, ?ygt10⟩) (by assumption) ?rgt10
                case ygt10 => intro w hSw; (try dsimp only at hSw); go_simp; try with_reducible rfl
                try simp only [Act.put, List.setIfInBounds_toArray, List.set_cons_zero, List.set_cons_succ]
                refine wpAnyH_take (i := 11) (oi := ⟨_, _, _, _, _, _⟩) (v := ?vgt11) rfl (by kernel_rfl) (by kernel_rfl) (by kernel_rfl) (fun _ _ _ h => h) (Or.inl ⟨by rfl, ?ygt11⟩) (by assumption) ?rgt11
                case ygt11 => intro w hSw; (try dsimp only at hSw); go_simp; try with_reducible rfl
                try simp only [Act.put, List.setIfInBounds_toArray, List.set_cons_zero, List.set_cons_succ]
                refine wpAnyH_take (i := 12) (oi := ⟨_, _, _, _, _, _⟩) (v := ?vgt12) rfl (by kernel_rfl) (by kernel_rfl) (by kernel_rfl) (fun _ _ _ h => h) (Or.inl ⟨by rfl, ?ygt12⟩) (by assumption) ?rgt12
                case ygt12 => intro w hSw; (try dsimp only at hSw); go_simp; try with_reducible rfl
                try simp only [Act.put, List.setIfInBounds_toArray, List.set_cons_zero, List.set_cons_succ]
                refine wpAnyH_take (i := 13) (oi := ⟨_, _, _, _, _, _⟩) (v := ?vgt13) rfl (by kernel_rfl) (by kernel_rfl) (by kernel_rfl) (fun _ _ _ h => h) (Or.inl ⟨by rfl, ?ygt13⟩) (by assumption) ?rgt13
                case ygt13 => intro w hSw; (try dsimp only at hSw); go_simp; try with_reducible rfl
                try simp only [Act.put, List.setIfInBounds_toArray, List.set_cons_zero, List.set_cons_succ]
                refine wpAnyH_ready (rs := [14]) (by kernel_rfl) (by simp) ?_
                refine AllReadyH.cons (o := ⟨_, _, _, _, _, _⟩) rfl (fun KK hK => ?_) AllReadyH.nil
                go_simp
                refine (within_c _ _ _ _ h2).mono ?_
                rintro r _ ⟨rfl, rfl⟩
                go_wp2_with fail
                refine hK.out _ _ kk1 (fun hH14 => ?_)
                clear hK KK hH3
                try simp only [Act.put, List.setIfInBounds_toArray, List.set_cons_zero, List.set_cons_succ]
                refine wpAnyH_take (i := 15) (oi := ⟨_, _, _, _, _, _⟩) (v := ?vgt15) rfl (by kernel_rfl) (by kernel_rfl) (by kernel_rfl) (fun _ _ _ h => h) (Or.inl ⟨by rfl, ?ygt15⟩) (by assumption) ?rgt15
                case ygt15 => intro w hSw; (try dsimp only at hSw); go_simp; try with_reducible rfl
                try simp only [Act.put, List.setIfInBounds_toArray, List.set_cons_zero, List.set_cons_succ]
                refine wpAnyH_take (i := 16) (oi := ⟨_, _, _, _, _, _⟩) (v := ?vgt16) rfl (by kernel_rfl) (by kernel_rfl) (by kernel_rfl) (fun _ _ _ h => h) (Or.inl ⟨by rfl, ?ygt16⟩) (by assumption) ?rgt16
                case ygt16 => intro w hSw; (try dsimp only at hSw); go_simp; try with_reducible rfl
                try simp only [Act.put, List.setIfInBounds_toArray, List.set_cons_zero, List.set_cons_succ]
                refine wpAnyH_take (i := 17) (oi := ⟨_, _, _, _, _, _⟩) (v := ?vgt17) rfl (by kernel_rfl) (by kernel_rfl) (by kernel_rfl) (fun _ _ _ h => h) (Or.inl ⟨by rfl, ?ygt17⟩) (by assumption) ?rgt17
                case ygt17 => intro w hSw; (try dsimp only at hSw); go_simp; try with_reducible rfl
                try simp only [Act.put, List.setIfInBounds_toArray, List.set_cons_zero, List.set_cons_succ]
                refine wpAnyH_take (i := 18) (oi := ⟨_, _, _, _, _, _⟩) (v := ?vgt18) rfl (by kernel_rfl) (by kernel_rfl) (by kernel_rfl) (fun _ _ _ h => h) (Or.inl ⟨by rfl, ?ygt18⟩) (by assumption) ?rgt18
                case ygt18 => intro w hSw; (try dsimp only at hSw); go_simp; try with_reducible rfl
                try simp only [Act.put, List.setIfInBounds_toArray, List.set_cons_zero, List.set_cons_succ]
                refine wpAnyH_ready (rs := [19]) (by kernel_rfl) (by simp) ?_
                refine AllReadyH.cons (o := ⟨_, _, _, _, _, _⟩) rfl (fun KK hK => ?_) AllReadyH.nil
                go_simp
                refine (posted_t ⟨mto, (f : Int), mterm, true, mlast, mlong, mgrant⟩ _ rfl).mono ?_
                rintro r W2 ⟨rfl, hBk⟩
                have kk2 : W2.cell? ⟨wr.heap.size, 0, none⟩ = some (.int .i64 mto) ∧ W2.cell? ⟨wr.heap.size, 1, none⟩ = some (.int .i64 (f : Int)) ∧ W2.cell? ⟨wr.heap.size, 2, none⟩ = some (.int .i64 mterm) ∧ W2.cell? ⟨wr.heap.size, 3, none⟩ = some (.bool true) ∧ W2.cell? ⟨wr.heap.size, 4, none⟩ = some (.int .i64 mlast) ∧ W2.cell? ⟨wr.heap.size, 5, none⟩ = some (.int .i64 mlong) ∧ W2.cell? ⟨wr.heap.size, 6, none⟩ = some (.bool mgrant) ∧ W2.cell? ⟨K, O + f * 6, none⟩ = some (.int .i64 tm) := by obtain ⟨k0, k1, k2, k3, k4, k5, k6, k7⟩ := kk1; exact ⟨celB hBk k0, celB hBk k1, celB hBk k2, celB hBk k3, celB hBk k4, celB hBk k5, celB hBk k6, celB hBk k7⟩
                replace BB := stEl BB hBk
                clear hBk
                go_wp2_with fail
                refine hK.out _ _ kk2 (fun hH19 => ?_)
                clear hK KK hH14
                try simp only [Act.put, List.setIfInBounds_toArray, List.set_cons_zero, List.set_cons_succ]
                refine wpAnyH_ready (rs := [20]) (by kernel_rfl) (by simp) ?_
                refine AllReadyH.cons (o := ⟨_, _, _, _, _, _⟩) rfl (fun KK hK => ?_) AllReadyH.nil
                go_simp
                refine (asks_c ⟨mto, (f : Int), mterm, true, mlast, mlong, mgrant⟩ _ _ rfl h3).mono ?_
                rintro r W3 ⟨rfl, hBk⟩
                have kk3 : W3.cell? ⟨wr.heap.size, 0, none⟩ = some (.int .i64 mto) ∧ W3.cell? ⟨wr.heap.size, 1, none⟩ = some (.int .i64 (f : Int)) ∧ W3.cell? ⟨wr.heap.size, 2, none⟩ = some (.int .i64 mterm) ∧ W3.cell? ⟨wr.heap.size, 3, none⟩ = some (.bool true) ∧ W3.cell? ⟨wr.heap.size, 4, none⟩ = some (.int .i64 mlast) ∧ W3.cell? ⟨wr.heap.size, 5, none⟩ = some (.int .i64 mlong) ∧ W3.cell? ⟨wr.heap.size, 6, none⟩ = some (.bool mgrant) ∧ W3.cell? ⟨K, O + f * 6, none⟩ = some (.int .i64 tm) := by obtain ⟨k0, k1, k2, k3, k4, k5, k6, k7⟩ := kk2; exact ⟨celB hBk k0, celB hBk k1, celB hBk k2, celB hBk k3, celB hBk k4, celB hBk k5, celB hBk k6, celB hBk k7⟩
                replace BB := stEl BB hBk
                clear hBk
                go_wp2_with fail
                refine hK.out _ _ kk3 (fun hH20 => ?_)
                clear hK KK hH19
                try simp only [Act.put, List.setIfInBounds_toArray, List.set_cons_zero, List.set_cons_succ]
                refine wpAnyH_take (i := 21) (oi := ⟨_, _, _, _, _, _⟩) (v := ?vgt21) rfl (by kernel_rfl) (by kernel_rfl) (by kernel_rfl) (fun _ _ _ h => h) (Or.inl ⟨by rfl, ?ygt21⟩) (by assumption) ?rgt21
                case ygt21 => intro w hSw; (try dsimp only at hSw); go_simp; try with_reducible rfl
                try simp only [Act.put, List.setIfInBounds_toArray, List.set_cons_zero, List.set_cons_succ]
                refine wpAnyH_take (i := 22) (oi := ⟨_, _, _, _, _, _⟩) (v := ?vgt22) rfl (by kernel_rfl) (by kernel_rfl) (by kernel_rfl) (fun _ _ _ h => h) (Or.inl ⟨by rfl, ?ygt22⟩) (by assumption) ?rgt22
                case ygt22 => intro w hSw; (try dsimp only at hSw); go_simp; try with_reducible rfl
                try simp only [Act.put, List.setIfInBounds_toArray, List.set_cons_zero, List.set_cons_succ]
                refine wpAnyH_done (by kernel_rfl) (NoPanic.normal ?_) _
                go_wp2
                go_roundw
                case rel => exact ⟨k + 1, by omega, by go_num, HN.out, BB⟩
                case measure => simp [intOf]; omega
              | false =>
                go_wp2_with fail
                obtain ⟨u, hu⟩ : ∃ u, wr.alloc (.cells #[.int .i64 mto, .int .i64 (f : Int), .int .i64 mterm, .bool false, .int .i64 mlast, .int .i64 mlong, .bool mgrant] 75) = u := ⟨_, rfl⟩
                have BB : Below w.heap.size w u.drew := by rw [← hu]; exact (stEl hB (alEl _ _)).drew
                have kk : u.drew.cell? ⟨wr.heap.size, 0, none⟩ = some (.int .i64 mto) ∧ u.drew.cell? ⟨wr.heap.size, 1, none⟩ = some (.int .i64 (f : Int)) ∧ u.drew.cell? ⟨wr.heap.size, 2, none⟩ = some (.int .i64 mterm) ∧ u.drew.cell? ⟨wr.heap.size, 3, none⟩ = some (.bool false) ∧ u.drew.cell? ⟨wr.heap.size, 4, none⟩ = some (.int .i64 mlast) ∧ u.drew.cell? ⟨wr.heap.size, 5, none⟩ = some (.int .i64 mlong) ∧ u.drew.cell? ⟨wr.heap.size, 6, none⟩ = some (.bool mgrant) ∧ u.drew.cell? ⟨K, O + f * 6, none⟩ = some (.int .i64 tm) := ⟨by rw [← hu]; simp [go_sem], by rw [← hu]; simp [go_sem], by rw [← hu]; simp [go_sem], by rw [← hu]; simp [go_sem], by rw [← hu]; simp [go_sem], by rw [← hu]; simp [go_sem], by rw [← hu]; simp [go_sem], celB (by rw [← hu]; exact (alEl _ _).drew) hcv⟩
                rw [hu]
                clear hu
                refine wp_region_noPanic ?_
                refine wp_region_held_drew (S := fun w' => w'.cell? ⟨wr.heap.size, 0, none⟩ = some (.int .i64 mto) ∧ w'.cell? ⟨wr.heap.size, 1, none⟩ = some (.int .i64 (f : Int)) ∧ w'.cell? ⟨wr.heap.size, 2, none⟩ = some (.int .i64 mterm) ∧ w'.cell? ⟨wr.heap.size, 3, none⟩ = some (.bool false) ∧ w'.cell? ⟨wr.heap.size, 4, none⟩ = some (.int .i64 mlast) ∧ w'.cell? ⟨wr.heap.size, 5, none⟩ = some (.int .i64 mlong) ∧ w'.cell? ⟨wr.heap.size, 6, none⟩ = some (.bool mgrant) ∧ w'.cell? ⟨K, O + f * 6, none⟩ = some (.int .i64 tm)) (by kernel_rfl) kk (fun hH => ?_)
                refine wpAnyH_take (i := 0) (oi := ⟨_, _, _, _, _, _⟩) (v := ?vgf0) rfl (by kernel_rfl) (by kernel_rfl) (by kernel_rfl) (fun _ _ _ h => h) (Or.inl ⟨by rfl, ?ygf0⟩) (by assumption) ?rgf0
                case ygf0 => intro w hSw; (try dsimp only at hSw); go_simp; try with_reducible rfl
                try simp only [Act.put, List.setIfInBounds_toArray, List.set_cons_zero, List.set_cons_succ]
                refine wpAnyH_take (i := 1) (oi := ⟨_, _, _, _, _, _⟩) (v := ?vgf1) rfl (by kernel_rfl) (by kernel_rfl) (by kernel_rfl) (fun _ _ _ h => h) (Or.inl ⟨by rfl, ?ygf1⟩) (by assumption) ?rgf1
                case ygf1 => intro w hSw; (try dsimp only at hSw); go_simp; try with_reducible rfl
                try simp only [Act.put, List.setIfInBounds_toArray, List.set_cons_zero, List.set_cons_succ]
                refine wpAnyH_take (i := 2) (oi := ⟨_, _, _, _, _, _⟩) (v := ?vgf2) rfl (by kernel_rfl) (by kernel_rfl) (by kernel_rfl) (fun _ _ _ h => h) (Or.inl ⟨by rfl, ?ygf2⟩) (by assumption) ?rgf2
                case ygf2 => intro w hSw; (try dsimp only at hSw); go_simp; try with_reducible rfl
                try simp only [Act.put, List.setIfInBounds_toArray, List.set_cons_zero, List.set_cons_succ]
                refine wpAnyH_ready (rs := [3]) (by kernel_rfl) (by simp) ?_
                refine AllReadyH.cons (o := ⟨_, _, _, _, _, _⟩) rfl (fun KK hK => ?_) AllReadyH.nil
                go_simp
                refine (goodEnds_c ⟨mto, (f : Int), mterm, false, mlast, mlong, mgrant⟩ _ _ _ hn h1).mono ?_
                rintro r W1 ⟨rfl, hBk⟩
                have kk1 : W1.cell? ⟨wr.heap.size, 0, none⟩ = some (.int .i64 mto) ∧ W1.cell? ⟨wr.heap.size, 1, none⟩ = some (.int .i64 (f : Int)) ∧ W1.cell? ⟨wr.heap.size, 2, none⟩ = some (.int .i64 mterm) ∧ W1.cell? ⟨wr.heap.size, 3, none⟩ = some (.bool false) ∧ W1.cell? ⟨wr.heap.size, 4, none⟩ = some (.int .i64 mlast) ∧ W1.cell? ⟨wr.heap.size, 5, none⟩ = some (.int .i64 mlong) ∧ W1.cell? ⟨wr.heap.size, 6, none⟩ = some (.bool mgrant) ∧ W1.cell? ⟨K, O + f * 6, none⟩ = some (.int .i64 tm) := by obtain ⟨k0, k1, k2, k3, k4, k5, k6, k7⟩ := kk; exact ⟨celB hBk k0, celB hBk k1, celB hBk k2, celB hBk k3, celB hBk k4, celB hBk k5, celB hBk k6, celB hBk k7⟩
                replace BB := stEl BB hBk
                clear hBk
                go_wp2_with fail
                refine hK.out _ _ kk1 (fun hH3 => ?_)
                clear hK KK hH
                try simp only [Act.put, List.setIfInBounds_toArray, List.set_cons_zero, List.set_cons_succ]
                refine wpAnyH_take (i := 4) (oi := ⟨_, _, _, _, _, _⟩) (v := ?vgf4) rfl (by kernel_rfl) (by kernel_rfl) (by kernel_rfl) (fun _ _ _ h => h) (Or.inl ⟨by rfl, ?ygf4⟩) (by assumption) ?rgf4
                case ygf4 => intro w hSw; (try dsimp only at hSw); go_simp; try with_reducible rfl
                try simp only [Act.put, List.setIfInBounds_toArray, List.set_cons_zero, List.set_cons_succ]
                refine wpAnyH_take (i := 5) (oi := ⟨_, _, _, _, _, _⟩) (v := ?vgf5) rfl (by kernel_rfl) (by kernel_rfl) (by kernel_rfl) (fun _ _ _ h => h) (Or.inl ⟨by rfl, ?ygf5⟩) (by assumption) ?rgf5
                case ygf5 => intro w hSw; (try dsimp only at hSw); go_simp; try with_reducible rfl
                try simp only [Act.put, List.setIfInBounds_toArray, List.set_cons_zero, List.set_cons_succ]
                refine wpAnyH_take (i := 6) (oi := ⟨_, _, _, _, _, _⟩) (v := ?vgf6) rfl (by kernel_rfl) (by kernel_rfl) (by kernel_rfl) (fun _ _ _ h => h) (Or.inl ⟨by rfl, ?ygf6⟩) (by assumption) ?rgf6
                case ygf6 => intro w hSw; (try dsimp only at hSw); go_simp; try with_reducible rfl
                try simp only [Act.put, List.setIfInBounds_toArray, List.set_cons_zero, List.set_cons_succ]
                refine wpAnyH_take (i := 7) (oi := ⟨_, _, _, _, _, _⟩) (v := ?vgf7) rfl (by kernel_rfl) (by kernel_rfl) (by kernel_rfl) (fun _ _ _ h => h) (Or.inl ⟨by rfl, ?ygf7⟩) (by assumption) ?rgf7
                case ygf7 => intro w hSw; (try dsimp only at hSw); go_simp; try with_reducible rfl
                try simp only [Act.put, List.setIfInBounds_toArray, List.set_cons_zero, List.set_cons_succ]
                refine wpAnyH_take (i := 8) (oi := ⟨_, _, _, _, _, _⟩) (v := ?vgf8) rfl (by kernel_rfl) (by kernel_rfl) (by kernel_rfl) (fun _ _ _ h => h) (Or.inl ⟨by rfl, ?ygf8⟩) (by assumption) ?rgf8
                case ygf8 => intro w hSw; (try dsimp only at hSw); go_simp; try with_reducible rfl
                try simp only [Act.put, List.setIfInBounds_toArray, List.set_cons_zero, List.set_cons_succ]
                refine wpAnyH_take (i := 9) (oi := ⟨_, _, _, _, _, _⟩) (v := ?vgf9) rfl (by kernel_rfl) (by kernel_rfl) (by kernel_rfl) (fun _ _ _ h => h) (Or.inl ⟨by rfl, ?ygf9⟩) (by assumption) ?rgf9
                case ygf9 => intro w hSw; (try dsimp only at hSw); go_simp; try with_reducible rfl
                try simp only [Act.put, List.setIfInBounds_toArray, List.set_cons_zero, List.set_cons_succ]
                refine wpAnyH_take (i := 10) (oi := ⟨_, _, _, _, _, _⟩) (v := ?vgf10) rfl (by kernel_rfl) (by kernel_rfl) (by kernel_rfl) (fun _ _ _ h => h) (Or.inl ⟨by rfl, ?ygf10⟩) (by assumption) ?rgf10
                case ygf10 => intro w hSw; (try dsimp only at hSw); go_simp; try with_reducible rfl
                try simp only [Act.put, List.setIfInBounds_toArray, List.set_cons_zero, List.set_cons_succ]
                refine wpAnyH_take (i := 11) (oi := ⟨_, _, _, _, _, _⟩) (v := ?vgf11) rfl (by kernel_rfl) (by kernel_rfl) (by kernel_rfl) (fun _ _ _ h => h) (Or.inl ⟨by rfl, ?ygf11⟩) (by assumption) ?rgf11
                case ygf11 => intro w hSw; (try dsimp only at hSw); go_simp; try with_reducible rfl
                try simp only [Act.put, List.setIfInBounds_toArray, List.set_cons_zero, List.set_cons_succ]
                refine wpAnyH_take (i := 12) (oi := ⟨_, _, _, _, _, _⟩) (v := ?vgf12) rfl (by kernel_rfl) (by kernel_rfl) (by kernel_rfl) (fun _ _ _ h => h) (Or.inl ⟨by rfl, ?ygf12⟩) (by assumption) ?rgf12
                case ygf12 => intro w hSw; (try dsimp only at hSw); go_simp; try with_reducible rfl
                try simp only [Act.put, List.setIfInBounds_toArray, List.set_cons_zero, List.set_cons_succ]
                refine wpAnyH_take (i := 13) (oi := ⟨_, _, _, _, _, _⟩) (v := ?vgf13) rfl (by kernel_rfl) (by kernel_rfl) (by kernel_rfl) (fun _ _ _ h => h) (Or.inl ⟨by rfl, ?ygf13⟩) (by assumption) ?rgf13
                case ygf13 => intro w hSw; (try dsimp only at hSw); go_simp; try with_reducible rfl
                try simp only [Act.put, List.setIfInBounds_toArray, List.set_cons_zero, List.set_cons_succ]
                refine wpAnyH_ready (rs := [14]) (by kernel_rfl) (by simp) ?_
                refine AllReadyH.cons (o := ⟨_, _, _, _, _, _⟩) rfl (fun KK hK => ?_) AllReadyH.nil
                go_simp
                refine (within_c _ _ _ _ h2).mono ?_
                rintro r _ ⟨rfl, rfl⟩
                go_wp2_with fail
                refine hK.out _ _ kk1 (fun hH14 => ?_)
                clear hK KK hH3
                try simp only [Act.put, List.setIfInBounds_toArray, List.set_cons_zero, List.set_cons_succ]
                refine wpAnyH_take (i := 15) (oi := ⟨_, _, _, _, _, _⟩) (v := ?vgf15) rfl (by kernel_rfl) (by kernel_rfl) (by kernel_rfl) (fun _ _ _ h => h) (Or.inl ⟨by rfl, ?ygf15⟩) (by assumption) ?rgf15
                case ygf15 => intro w hSw; (try dsimp only at hSw); go_simp; try with_reducible rfl
                try simp only [Act.put, List.setIfInBounds_toArray, List.set_cons_zero, List.set_cons_succ]
                refine wpAnyH_take (i := 16) (oi := ⟨_, _, _, _, _, _⟩) (v := ?vgf16) rfl (by kernel_rfl) (by kernel_rfl) (by kernel_rfl) (fun _ _ _ h => h) (Or.inl ⟨by rfl, ?ygf16⟩) (by assumption) ?rgf16
                case ygf16 => intro w hSw; (try dsimp only at hSw); go_simp; try with_reducible rfl
                try simp only [Act.put, List.setIfInBounds_toArray, List.set_cons_zero, List.set_cons_succ]
                refine wpAnyH_take (i := 17) (oi := ⟨_, _, _, _, _, _⟩) (v := ?vgf17) rfl (by kernel_rfl) (by kernel_rfl) (by kernel_rfl) (fun _ _ _ h => h) (Or.inl ⟨by rfl, ?ygf17⟩) (by assumption) ?rgf17
                case ygf17 => intro w hSw; (try dsimp only at hSw); go_simp; try with_reducible rfl
                try simp only [Act.put, List.setIfInBounds_toArray, List.set_cons_zero, List.set_cons_succ]
                refine wpAnyH_take (i := 18) (oi := ⟨_, _, _, _, _, _⟩) (v := ?vgf18) rfl (by kernel_rfl) (by kernel_rfl) (by kernel_rfl) (fun _ _ _ h => h) (Or.inl ⟨by rfl, ?ygf18⟩) (by assumption) ?rgf18
                case ygf18 => intro w hSw; (try dsimp only at hSw); go_simp; try with_reducible rfl
                try simp only [Act.put, List.setIfInBounds_toArray, List.set_cons_zero, List.set_cons_succ]
                refine wpAnyH_ready (rs := [19]) (by kernel_rfl) (by simp) ?_
                refine AllReadyH.cons (o := ⟨_, _, _, _, _, _⟩) rfl (fun KK hK => ?_) AllReadyH.nil
                go_simp
                refine (posted_f ⟨mto, (f : Int), mterm, false, mlast, mlong, mgrant⟩ _ rfl).mono ?_
                rintro r W2 ⟨rfl, hBk⟩
                have kk2 : W2.cell? ⟨wr.heap.size, 0, none⟩ = some (.int .i64 mto) ∧ W2.cell? ⟨wr.heap.size, 1, none⟩ = some (.int .i64 (f : Int)) ∧ W2.cell? ⟨wr.heap.size, 2, none⟩ = some (.int .i64 mterm) ∧ W2.cell? ⟨wr.heap.size, 3, none⟩ = some (.bool false) ∧ W2.cell? ⟨wr.heap.size, 4, none⟩ = some (.int .i64 mlast) ∧ W2.cell? ⟨wr.heap.size, 5, none⟩ = some (.int .i64 mlong) ∧ W2.cell? ⟨wr.heap.size, 6, none⟩ = some (.bool mgrant) ∧ W2.cell? ⟨K, O + f * 6, none⟩ = some (.int .i64 tm) := by obtain ⟨k0, k1, k2, k3, k4, k5, k6, k7⟩ := kk1; exact ⟨celB hBk k0, celB hBk k1, celB hBk k2, celB hBk k3, celB hBk k4, celB hBk k5, celB hBk k6, celB hBk k7⟩
                replace BB := stEl BB hBk
                clear hBk
                go_wp2_with fail
                refine hK.out _ _ kk2 (fun hH19 => ?_)
                clear hK KK hH14
                try simp only [Act.put, List.setIfInBounds_toArray, List.set_cons_zero, List.set_cons_succ]
                refine wpAnyH_ready (rs := [20]) (by kernel_rfl) (by simp) ?_
                refine AllReadyH.cons (o := ⟨_, _, _, _, _, _⟩) rfl (fun KK hK => ?_) AllReadyH.nil
                go_simp
                refine (answers_c ⟨mto, (f : Int), mterm, false, mlast, mlong, mgrant⟩ _ _ rfl h3).mono ?_
                rintro r W3 ⟨rfl, hBk⟩
                have kk3 : W3.cell? ⟨wr.heap.size, 0, none⟩ = some (.int .i64 mto) ∧ W3.cell? ⟨wr.heap.size, 1, none⟩ = some (.int .i64 (f : Int)) ∧ W3.cell? ⟨wr.heap.size, 2, none⟩ = some (.int .i64 mterm) ∧ W3.cell? ⟨wr.heap.size, 3, none⟩ = some (.bool false) ∧ W3.cell? ⟨wr.heap.size, 4, none⟩ = some (.int .i64 mlast) ∧ W3.cell? ⟨wr.heap.size, 5, none⟩ = some (.int .i64 mlong) ∧ W3.cell? ⟨wr.heap.size, 6, none⟩ = some (.bool mgrant) ∧ W3.cell? ⟨K, O + f * 6, none⟩ = some (.int .i64 tm) := by obtain ⟨k0, k1, k2, k3, k4, k5, k6, k7⟩ := kk2; exact ⟨celB hBk k0, celB hBk k1, celB hBk k2, celB hBk k3, celB hBk k4, celB hBk k5, celB hBk k6, celB hBk k7⟩
                replace BB := stEl BB hBk
                clear hBk
                go_wp2_with fail
                refine hK.out _ _ kk3 (fun hH20 => ?_)
                clear hK KK hH19
                try simp only [Act.put, List.setIfInBounds_toArray, List.set_cons_zero, List.set_cons_succ]
                refine wpAnyH_take (i := 21) (oi := ⟨_, _, _, _, _, _⟩) (v := ?vgf21) rfl (by kernel_rfl) (by kernel_rfl) (by kernel_rfl) (fun _ _ _ h => h) (Or.inl ⟨by rfl, ?ygf21⟩) (by assumption) ?rgf21
                case ygf21 => intro w hSw; (try dsimp only at hSw); go_simp; try with_reducible rfl
                try simp only [Act.put, List.setIfInBounds_toArray, List.set_cons_zero, List.set_cons_succ]
                refine wpAnyH_take (i := 22) (oi := ⟨_, _, _, _, _, _⟩) (v := ?vgf22) rfl (by kernel_rfl) (by kernel_rfl) (by kernel_rfl) (fun _ _ _ h => h) (Or.inl ⟨by rfl, ?ygf22⟩) (by assumption) ?rgf22
                case ygf22 => intro w hSw; (try dsimp only at hSw); go_simp; try with_reducible rfl
                try simp only [Act.put, List.setIfInBounds_toArray, List.set_cons_zero, List.set_cons_succ]
                refine wpAnyH_done (by kernel_rfl) (NoPanic.normal ?_) _
                go_wp2
                go_roundw
                case rel => exact ⟨k + 1, by omega, by go_num, HN.out, BB⟩
                case measure => simp [intOf]; omega
      · obtain rfl : k = l.length := by omega
        have HE : Hid ((decide (l.length ≤ 20) && l.all (okLt svs)) = true) := by show _ = _; rw [all_done HO.out, decide_eq_true H20.out]; rfl
        go_wp2
        go_ret
        exact ⟨ret_bool HE.out.symm, hB⟩
  · rw [decide_eq_false h20]
    have h20' : (20 : Int) < (l.length : Int) := by omega
    go_enter Try.func57, Try.ntmps57
    go_wp2
    go_ret
    exact ⟨ret_bool rfl, Below.refl _ _⟩

end Go.Proofs.Ytjicphdjipihfaa
