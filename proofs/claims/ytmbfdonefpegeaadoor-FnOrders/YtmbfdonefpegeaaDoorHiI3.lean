/-
  Histories, the program's side: impl.IsLegal. Made by mkhii2.py.
-/
import Derived.Test.YtmbfdonefpegeaaDoorHiI2J
import Derived.Test.YtmbfdonefpegeaaDoorHiS2J
namespace Go.Proofs.YtmbfdonefpegeaaDoor
open Go.RowKit

theorem behind_t (p q r p' q' r' : Int) (x : Cl) (w : World) (ho : 0 ≤ x.object ∧ x.object ≤ 2) (h : lgS [p, q, r] x = some [p', q', r']) :
    Calls Tryd.prog 21 #[arV p q r, clV x] w fun e w' => e = .returned (.tuple #[arV p' q' r', .bool true]) ∧ Below w.heap.size w w' := by
  refine (behind_any p q r x w ho).mono ?_
  rintro e w' ⟨h1, hB⟩
  refine ⟨?_, hB⟩
  rcases h1 with ⟨a, b, c, h1, h2⟩ | ⟨h1, h2⟩
  · rw [h] at h1
    simp only [Option.some.injEq, List.cons.injEq, and_true] at h1
    obtain ⟨rfl, rfl, rfl⟩ := h1
    exact h2
  · rw [h] at h1; cases h1
theorem behind_f (p q r : Int) (x : Cl) (w : World) (ho : 0 ≤ x.object ∧ x.object ≤ 2) (h : lgS [p, q, r] x = none) :
    Calls Tryd.prog 21 #[arV p q r, clV x] w fun e w' => e = .returned (.tuple #[arV p q r, .bool false]) ∧ Below w.heap.size w w' := by
  refine (behind_any p q r x w ho).mono ?_
  rintro e w' ⟨h1, hB⟩
  refine ⟨?_, hB⟩
  rcases h1 with ⟨a, b, c, h1, h2⟩ | ⟨h1, h2⟩
  · rw [h] at h1; cases h1
  · exact h2

set_option maxRecDepth 100000 in
set_option maxHeartbeats 8000000 in
theorem implIsLegal_any (a a2 : Option Addr) (c c2 : Nat) (l : List Cl) (zs : List Int) (w : World) (hs : Cls w a l) (hz : Ints w a2 zs) (hl : l.length ≤ maxLen) (hzl : zs.length ≤ maxLen) (hc : l.length ≤ c) (_hc2 : zs.length ≤ c2) :
    Calls Tryd.prog 5 #[.slice a l.length c, .slice a2 zs.length c2] w fun r w' => r = .returned (.tuple #[.bool (lglA l zs), .bool (isB l zs)]) ∧ Below w.heap.size w w' := by
  have hl' := hl
  have hzl' := hzl
  unfold maxLen at hl' hzl'
  cases hg : goodCl l with
  | false =>
    have HE : Hid (lglA l zs = false ∧ isB l zs = false) := by show _ ∧ _; simp [lglA, isB, hg]
    go_enter Tryd.func5, Tryd.ntmps5
    go_wp2_with fail
    refine (implGoodCl_c _ _ _ _ hs hl hc _ hg).mono ?_
    rintro r w1 ⟨rfl, BB⟩
    go_wp2
    refine bodyPost_ret (v := .tuple #[.bool false, .bool false]) (by simp [results, Tryd.results5, go_sem]) rfl ⟨by rw [HE.out.1, HE.out.2], BB⟩
  | true =>
    have h7 := (goodCl_t hg).2
    cases ho : ordB l.length zs with
    | false =>
      have HE : Hid (lglA l zs = false ∧ isB l zs = false) := by show _ ∧ _; simp [lglA, isB, ho]
      go_enter Tryd.func5, Tryd.ntmps5
      go_wp2_with fail
      refine (implGoodCl_c _ _ _ _ hs hl hc _ hg).mono ?_
      rintro r w1 ⟨rfl, BB⟩
      go_wp2_with fail
      refine (isOrderOf_c l.length zs _ _ _ _ _ _ (hz.below BB) hzl h7 ho).mono ?_
      rintro r w2 ⟨rfl, hB2⟩
      go_wp2
      refine bodyPost_ret (v := .tuple #[.bool false, .bool false]) (by simp [results, Tryd.results5, go_sem]) rfl ⟨by rw [HE.out.1, HE.out.2], stHi BB hB2⟩
    | true =>
      have hor : ∀ k, k < zs.length → 0 ≤ zA zs k ∧ zA zs k < (l.length : Int) := fun k hk => ((ordB_t ho).1 k hk).1
      have hob : ∀ k, k < l.length → 0 ≤ (clA l k).object ∧ (clA l k).object ≤ 2 := fun k hk => (okCl_t ((goodCl_t hg).1 k hk).1).2.1
      have HL : Hid (lglA l zs = legB l zs ∧ isB l zs = true) := by show _ ∧ _; simp [lglA, isB, hg, ho]
      go_enter Tryd.func5, Tryd.ntmps5
      go_wp2_with fail
      refine (implGoodCl_c _ _ _ _ hs hl hc _ hg).mono ?_
      rintro r w1 ⟨rfl, BB⟩
      go_wp2_with fail
      refine (isOrderOf_c l.length zs _ _ _ _ _ _ (hz.below BB) hzl h7 ho).mono ?_
      rintro r w2 ⟨rfl, hB2⟩
      have B2 := stHi BB hB2
      clear hB2 ho hg
      go_wp2
      have hBn : ∀ o, Below w2.heap.size w2 (w2.alloc o) := fun o => alHi _ _
      have V0 := Vx.new w2 0 0 0
      go_loopw [22] (fun i wr => ∃ (k : Nat) (p q r : Int), k ≤ zs.length ∧ i = .int .i64 k ∧ Hid (lgTo l zs k = some [p, q, r]) ∧ Vx wr w2.heap.size p q r ∧ Below w2.heap.size w2 wr) (fun i _ => zs.length - (intOf i).toNat)
      case atStart => exact ⟨0, 0, 0, 0, Nat.zero_le _, rfl, rfl, V0, hBn _⟩
      case round =>
        clear V0 hBn
        obtain ⟨k, p, q, r, hk, rfl, HG, hV, hB⟩ := hrel
        have B1 := stHi B2 hB
        by_cases hlt : k < zs.length
        · obtain ⟨zb, zo, rfl, z0⟩ := (hz.below B1) k _ (zA_get hlt)
          obtain ⟨h1, h2⟩ := hor k hlt
          obtain ⟨f, hf⟩ : ∃ f : Nat, zA zs k = f := ⟨(zA zs k).toNat, by omega⟩
          have HF : Hid ((zA zs k).toNat = f) := by show _ = _; omega
          rw [hf] at z0 h1 h2
          clear hf
          have hfl : f < l.length := by omega
          have hfi : (f : Int) < (l.length : Int) := by omega
          have hki : (k : Int) < (zs.length : Int) := by omega
          have hob' := hob f hfl
          obtain ⟨mb, mo, ea, m0, m1, m2, m3, m4, m5⟩ := (hs.below B1) f _ (clA_get hfl)
          subst ea
          obtain ⟨x, hx⟩ : ∃ x, clA l f = x := ⟨_, rfl⟩
          have HX : Hid (clA l f = x) := hx
          rw [hx] at m0 m1 m2 m3 m4 m5 hob'
          clear hx
          have HO2 : Hid (0 ≤ x.object ∧ x.object ≤ 2) := hob'
          clear hob'
          obtain ⟨v0, v1, v2⟩ := hV.cells
          have HV : Hid (Vx wr w2.heap.size p q r) := hV
          have HW : Hid (Below w2.heap.size w2 wr) := hB
          clear hV
          have BW : Below wr.heap.size wr wr := Below.refl _ _
          have hvl := HV.out.lt
          have hfz : ∀ i, wr.frozen? ⟨w2.heap.size, i, none⟩ = false := fun i => World.rowIs.frozen HV.out i
          cases hlg : lgS [p, q, r] x with
          | none =>
            have HE : Hid (legB l zs = false) := legB_bad (k := k + 1) (by omega) (by rw [lgTo, HG.out]; show lgS [p, q, r] (clA l (zA zs k).toNat) = none; rw [HF.out, HX.out]; exact hlg)
            have HLG : Hid (lgS [p, q, r] x = none) := hlg
            clear hlg
            go_wp2_with fail
            have kkw : wr.cell? ⟨w2.heap.size, 0, none⟩ = some (.int .i64 p) ∧ wr.cell? ⟨w2.heap.size, 1, none⟩ = some (.int .i64 q) ∧ wr.cell? ⟨w2.heap.size, 2, none⟩ = some (.int .i64 r) ∧ wr.cell? ⟨mb, mo + f * 6, none⟩ = some (.int .i64 x.client) ∧ wr.cell? ⟨mb, mo + f * 6 + 1, none⟩ = some (.int .i64 x.object) ∧ wr.cell? ⟨mb, mo + f * 6 + 2, none⟩ = some (.bool x.write) ∧ wr.cell? ⟨mb, mo + f * 6 + 3, none⟩ = some (.int .i64 x.value) ∧ wr.cell? ⟨mb, mo + f * 6 + 4, none⟩ = some (.int .i64 x.beg) ∧ wr.cell? ⟨mb, mo + f * 6 + 5, none⟩ = some (.int .i64 x.fin) := ⟨v0, v1, v2, m0, m1, m2, m3, m4, m5⟩
            have BD : Below wr.heap.size wr wr.drew := (Below.refl _ _).drew
            have kk : wr.drew.cell? ⟨w2.heap.size, 0, none⟩ = some (.int .i64 p) ∧ wr.drew.cell? ⟨w2.heap.size, 1, none⟩ = some (.int .i64 q) ∧ wr.drew.cell? ⟨w2.heap.size, 2, none⟩ = some (.int .i64 r) ∧ wr.drew.cell? ⟨mb, mo + f * 6, none⟩ = some (.int .i64 x.client) ∧ wr.drew.cell? ⟨mb, mo + f * 6 + 1, none⟩ = some (.int .i64 x.object) ∧ wr.drew.cell? ⟨mb, mo + f * 6 + 2, none⟩ = some (.bool x.write) ∧ wr.drew.cell? ⟨mb, mo + f * 6 + 3, none⟩ = some (.int .i64 x.value) ∧ wr.drew.cell? ⟨mb, mo + f * 6 + 4, none⟩ = some (.int .i64 x.beg) ∧ wr.drew.cell? ⟨mb, mo + f * 6 + 5, none⟩ = some (.int .i64 x.fin) := ⟨celB BD v0, celB BD v1, celB BD v2, celB BD m0, celB BD m1, celB BD m2, celB BD m3, celB BD m4, celB BD m5⟩
            refine wp_region_noPanic ?_
            refine wp_region_held_drew (S := fun w' => w'.cell? ⟨w2.heap.size, 0, none⟩ = some (.int .i64 p) ∧ w'.cell? ⟨w2.heap.size, 1, none⟩ = some (.int .i64 q) ∧ w'.cell? ⟨w2.heap.size, 2, none⟩ = some (.int .i64 r) ∧ w'.cell? ⟨mb, mo + f * 6, none⟩ = some (.int .i64 x.client) ∧ w'.cell? ⟨mb, mo + f * 6 + 1, none⟩ = some (.int .i64 x.object) ∧ w'.cell? ⟨mb, mo + f * 6 + 2, none⟩ = some (.bool x.write) ∧ w'.cell? ⟨mb, mo + f * 6 + 3, none⟩ = some (.int .i64 x.value) ∧ w'.cell? ⟨mb, mo + f * 6 + 4, none⟩ = some (.int .i64 x.beg) ∧ w'.cell? ⟨mb, mo + f * 6 + 5, none⟩ = some (.int .i64 x.fin)) (by kernel_rfl) kk (fun hH => ?_)
            refine wpAnyH_take (i := 0) (oi := ⟨_, _, _, _, _, _⟩) (v := ?vf0) rfl (by kernel_rfl) (by kernel_rfl) (by kernel_rfl) (fun _ _ _ h => h) (Or.inl ⟨by rfl, ?yf0⟩) (by assumption) ?rf0
            case yf0 => intro w hSw; (try dsimp only at hSw); go_simp; try with_reducible rfl
            try simp only [Act.put, List.setIfInBounds_toArray, List.set_cons_zero, List.set_cons_succ]
            refine wpAnyH_take (i := 1) (oi := ⟨_, _, _, _, _, _⟩) (v := ?vf1) rfl (by kernel_rfl) (by kernel_rfl) (by kernel_rfl) (fun _ _ _ h => h) (Or.inl ⟨by rfl, ?yf1⟩) (by assumption) ?rf1
            case yf1 => intro w hSw; (try dsimp only at hSw); go_simp; try with_reducible rfl
            try simp only [Act.put, List.setIfInBounds_toArray, List.set_cons_zero, List.set_cons_succ]
            refine wpAnyH_take (i := 2) (oi := ⟨_, _, _, _, _, _⟩) (v := ?vf2) rfl (by kernel_rfl) (by kernel_rfl) (by kernel_rfl) (fun _ _ _ h => h) (Or.inl ⟨by rfl, ?yf2⟩) (by assumption) ?rf2
            case yf2 => intro w hSw; (try dsimp only at hSw); go_simp; try with_reducible rfl
            try simp only [Act.put, List.setIfInBounds_toArray, List.set_cons_zero, List.set_cons_succ]
            refine wpAnyH_take (i := 3) (oi := ⟨_, _, _, _, _, _⟩) (v := ?vf3) rfl (by kernel_rfl) (by kernel_rfl) (by kernel_rfl) (fun _ _ _ h => h) (Or.inl ⟨by rfl, ?yf3⟩) (by assumption) ?rf3
            case yf3 => intro w hSw; (try dsimp only at hSw); go_simp; try with_reducible rfl
            try simp only [Act.put, List.setIfInBounds_toArray, List.set_cons_zero, List.set_cons_succ]
            refine wpAnyH_take (i := 4) (oi := ⟨_, _, _, _, _, _⟩) (v := ?vf4) rfl (by kernel_rfl) (by kernel_rfl) (by kernel_rfl) (fun _ _ _ h => h) (Or.inl ⟨by rfl, ?yf4⟩) (by assumption) ?rf4
            case yf4 => intro w hSw; (try dsimp only at hSw); go_simp; try with_reducible rfl
            try simp only [Act.put, List.setIfInBounds_toArray, List.set_cons_zero, List.set_cons_succ]
            refine wpAnyH_ready (rs := [5, 9]) (by kernel_rfl) (by simp) ?_
            refine AllReadyH.cons (o := ⟨_, _, _, _, _, _⟩) rfl (fun KK hK => ?f1) (AllReadyH.cons (o := ⟨_, _, _, _, _, _⟩) rfl (fun KK hK => ?f2) AllReadyH.nil)
            case f1 =>
              go_simp
              refine (behind_f p q r x _ HO2.out HLG.out).mono ?_
              rintro r9 wa ⟨rfl, hBa⟩
              have Ba := stHi BD hBa
              have kk1 : wa.cell? ⟨w2.heap.size, 0, none⟩ = some (.int .i64 p) ∧ wa.cell? ⟨w2.heap.size, 1, none⟩ = some (.int .i64 q) ∧ wa.cell? ⟨w2.heap.size, 2, none⟩ = some (.int .i64 r) ∧ wa.cell? ⟨mb, mo + f * 6, none⟩ = some (.int .i64 x.client) ∧ wa.cell? ⟨mb, mo + f * 6 + 1, none⟩ = some (.int .i64 x.object) ∧ wa.cell? ⟨mb, mo + f * 6 + 2, none⟩ = some (.bool x.write) ∧ wa.cell? ⟨mb, mo + f * 6 + 3, none⟩ = some (.int .i64 x.value) ∧ wa.cell? ⟨mb, mo + f * 6 + 4, none⟩ = some (.int .i64 x.beg) ∧ wa.cell? ⟨mb, mo + f * 6 + 5, none⟩ = some (.int .i64 x.fin) := (by obtain ⟨t0, t1, t2, t3, t4, t5, t6, t7, t8⟩ := kk; exact ⟨celB hBa t0, celB hBa t1, celB hBa t2, celB hBa t3, celB hBa t4, celB hBa t5, celB hBa t6, celB hBa t7, celB hBa t8⟩)
              go_wp2_with fail
              refine hK.out _ _ kk1 (fun hH5 => ?_)
              clear hK KK hH
              try simp only [Act.put, List.setIfInBounds_toArray, List.set_cons_zero, List.set_cons_succ]
              refine wpAnyH_take (i := 6) (oi := ⟨_, _, _, _, _, _⟩) (v := ?vfa6) rfl (by kernel_rfl) (by kernel_rfl) (by kernel_rfl) (fun _ _ _ h => h) (Or.inl ⟨by rfl, ?yfa6⟩) (by assumption) ?rfa6
              case yfa6 => intro w hSw; (try dsimp only at hSw); go_simp; try with_reducible rfl
              try simp only [Act.put, List.setIfInBounds_toArray, List.set_cons_zero, List.set_cons_succ]
              refine wpAnyH_take (i := 7) (oi := ⟨_, _, _, _, _, _⟩) (v := ?vfa7) rfl (by kernel_rfl) (by kernel_rfl) (by kernel_rfl) (fun _ _ _ h => h) (Or.inl ⟨by rfl, ?yfa7⟩) (by assumption) ?rfa7
              case yfa7 => intro w hSw; (try dsimp only at hSw); go_simp; try with_reducible rfl
              try simp only [Act.put, List.setIfInBounds_toArray, List.set_cons_zero, List.set_cons_succ]
              refine wpAnyH_take (i := 8) (oi := ⟨_, _, _, _, _, _⟩) (v := ?vfa8) rfl (by kernel_rfl) (by kernel_rfl) (by kernel_rfl) (fun _ _ _ h => h) (Or.inl ⟨by rfl, ?yfa8⟩) (by assumption) ?rfa8
              case yfa8 => intro w hSw; (try dsimp only at hSw); go_simp; try with_reducible rfl
              try simp only [Act.put, List.setIfInBounds_toArray, List.set_cons_zero, List.set_cons_succ]
              refine wpAnyH_ready (rs := [9]) (by kernel_rfl) (by simp) ?_
              refine AllReadyH.cons (o := ⟨_, _, _, _, _, _⟩) rfl (fun KK hK => ?_) AllReadyH.nil
              go_simp
              have kk2 : (wa.alloc (.cells #[.int .i64 0, .int .i64 0, .int .i64 0] 49)).cell? ⟨w2.heap.size, 0, none⟩ = some (.int .i64 p) ∧ (wa.alloc (.cells #[.int .i64 0, .int .i64 0, .int .i64 0] 49)).cell? ⟨w2.heap.size, 1, none⟩ = some (.int .i64 q) ∧ (wa.alloc (.cells #[.int .i64 0, .int .i64 0, .int .i64 0] 49)).cell? ⟨w2.heap.size, 2, none⟩ = some (.int .i64 r) ∧ (wa.alloc (.cells #[.int .i64 0, .int .i64 0, .int .i64 0] 49)).cell? ⟨mb, mo + f * 6, none⟩ = some (.int .i64 x.client) ∧ (wa.alloc (.cells #[.int .i64 0, .int .i64 0, .int .i64 0] 49)).cell? ⟨mb, mo + f * 6 + 1, none⟩ = some (.int .i64 x.object) ∧ (wa.alloc (.cells #[.int .i64 0, .int .i64 0, .int .i64 0] 49)).cell? ⟨mb, mo + f * 6 + 2, none⟩ = some (.bool x.write) ∧ (wa.alloc (.cells #[.int .i64 0, .int .i64 0, .int .i64 0] 49)).cell? ⟨mb, mo + f * 6 + 3, none⟩ = some (.int .i64 x.value) ∧ (wa.alloc (.cells #[.int .i64 0, .int .i64 0, .int .i64 0] 49)).cell? ⟨mb, mo + f * 6 + 4, none⟩ = some (.int .i64 x.beg) ∧ (wa.alloc (.cells #[.int .i64 0, .int .i64 0, .int .i64 0] 49)).cell? ⟨mb, mo + f * 6 + 5, none⟩ = some (.int .i64 x.fin) := (by obtain ⟨t0, t1, t2, t3, t4, t5, t6, t7, t8⟩ := kk1; exact ⟨celB (alHi wa _) t0, celB (alHi wa _) t1, celB (alHi wa _) t2, celB (alHi wa _) t3, celB (alHi wa _) t4, celB (alHi wa _) t5, celB (alHi wa _) t6, celB (alHi wa _) t7, celB (alHi wa _) t8⟩)
              refine hK.out _ _ kk2 (fun hH9 => ?_)
              clear hK KK hH5
              try simp only [Act.put, List.setIfInBounds_toArray, List.set_cons_zero, List.set_cons_succ]
              refine wpAnyH_ready (rs := [10]) (by kernel_rfl) (by simp) ?_
              refine AllReadyH.cons (o := ⟨_, _, _, _, _, _⟩) rfl (fun KK hK => ?_) AllReadyH.nil
              go_simp
              have Bp : Below wr.heap.size wr (wa.alloc (.cells #[.int .i64 p, .int .i64 q, .int .i64 r] 49)) := stHi Ba (alHi wa _)
              have kk3 : (wa.alloc (.cells #[.int .i64 p, .int .i64 q, .int .i64 r] 49)).cell? ⟨w2.heap.size, 0, none⟩ = some (.int .i64 p) ∧ (wa.alloc (.cells #[.int .i64 p, .int .i64 q, .int .i64 r] 49)).cell? ⟨w2.heap.size, 1, none⟩ = some (.int .i64 q) ∧ (wa.alloc (.cells #[.int .i64 p, .int .i64 q, .int .i64 r] 49)).cell? ⟨w2.heap.size, 2, none⟩ = some (.int .i64 r) ∧ (wa.alloc (.cells #[.int .i64 p, .int .i64 q, .int .i64 r] 49)).cell? ⟨mb, mo + f * 6, none⟩ = some (.int .i64 x.client) ∧ (wa.alloc (.cells #[.int .i64 p, .int .i64 q, .int .i64 r] 49)).cell? ⟨mb, mo + f * 6 + 1, none⟩ = some (.int .i64 x.object) ∧ (wa.alloc (.cells #[.int .i64 p, .int .i64 q, .int .i64 r] 49)).cell? ⟨mb, mo + f * 6 + 2, none⟩ = some (.bool x.write) ∧ (wa.alloc (.cells #[.int .i64 p, .int .i64 q, .int .i64 r] 49)).cell? ⟨mb, mo + f * 6 + 3, none⟩ = some (.int .i64 x.value) ∧ (wa.alloc (.cells #[.int .i64 p, .int .i64 q, .int .i64 r] 49)).cell? ⟨mb, mo + f * 6 + 4, none⟩ = some (.int .i64 x.beg) ∧ (wa.alloc (.cells #[.int .i64 p, .int .i64 q, .int .i64 r] 49)).cell? ⟨mb, mo + f * 6 + 5, none⟩ = some (.int .i64 x.fin) := by obtain ⟨t0, t1, t2, t3, t4, t5, t6, t7, t8⟩ := kkw; exact ⟨celB Bp t0, celB Bp t1, celB Bp t2, celB Bp t3, celB Bp t4, celB Bp t5, celB Bp t6, celB Bp t7, celB Bp t8⟩
              have PV := Vx.new wa p q r
              refine hK.out _ _ kk3 (fun hH10 => ?_)
              clear hK KK hH9
              try simp only [Act.put, List.setIfInBounds_toArray, List.set_cons_zero, List.set_cons_succ]
              refine wpAnyH_take (i := 11) (oi := ⟨_, _, _, _, _, _⟩) (v := ?vfa11) rfl (by kernel_rfl) (by kernel_rfl) (by kernel_rfl) (fun _ _ _ h => h) (Or.inl ⟨by rfl, ?yfa11⟩) (by assumption) ?rfa11
              case yfa11 => intro w hSw; (try dsimp only at hSw); go_simp; try with_reducible rfl
              try simp only [Act.put, List.setIfInBounds_toArray, List.set_cons_zero, List.set_cons_succ]
              refine wpAnyH_done (by kernel_rfl) (NoPanic.normal ?_) _
              generalize (wa.alloc (.cells #[.int .i64 p, .int .i64 q, .int .i64 r] 49)) = u9 at *
              generalize wa.heap.size = P at *
              have VB := HV.out.below Bp
              obtain ⟨e0, e1, e2⟩ := PV.cells
              clear PV kk3 hH10
              go_wp2
              refine bodyPost_ret (v := .tuple #[.bool false, .bool true]) (by simp [results, Tryd.results5, go_sem]) rfl ⟨by rw [HL.out.1, HL.out.2, HE.out], stHi B1 Bp⟩
            case f2 =>
              go_simp
              have Bo : Below wr.heap.size wr (wr.drew.alloc (.cells #[.int .i64 0, .int .i64 0, .int .i64 0] 49)) := stHi BD (alHi wr.drew _)
              have kk1 : (wr.drew.alloc (.cells #[.int .i64 0, .int .i64 0, .int .i64 0] 49)).cell? ⟨w2.heap.size, 0, none⟩ = some (.int .i64 p) ∧ (wr.drew.alloc (.cells #[.int .i64 0, .int .i64 0, .int .i64 0] 49)).cell? ⟨w2.heap.size, 1, none⟩ = some (.int .i64 q) ∧ (wr.drew.alloc (.cells #[.int .i64 0, .int .i64 0, .int .i64 0] 49)).cell? ⟨w2.heap.size, 2, none⟩ = some (.int .i64 r) ∧ (wr.drew.alloc (.cells #[.int .i64 0, .int .i64 0, .int .i64 0] 49)).cell? ⟨mb, mo + f * 6, none⟩ = some (.int .i64 x.client) ∧ (wr.drew.alloc (.cells #[.int .i64 0, .int .i64 0, .int .i64 0] 49)).cell? ⟨mb, mo + f * 6 + 1, none⟩ = some (.int .i64 x.object) ∧ (wr.drew.alloc (.cells #[.int .i64 0, .int .i64 0, .int .i64 0] 49)).cell? ⟨mb, mo + f * 6 + 2, none⟩ = some (.bool x.write) ∧ (wr.drew.alloc (.cells #[.int .i64 0, .int .i64 0, .int .i64 0] 49)).cell? ⟨mb, mo + f * 6 + 3, none⟩ = some (.int .i64 x.value) ∧ (wr.drew.alloc (.cells #[.int .i64 0, .int .i64 0, .int .i64 0] 49)).cell? ⟨mb, mo + f * 6 + 4, none⟩ = some (.int .i64 x.beg) ∧ (wr.drew.alloc (.cells #[.int .i64 0, .int .i64 0, .int .i64 0] 49)).cell? ⟨mb, mo + f * 6 + 5, none⟩ = some (.int .i64 x.fin) := (by obtain ⟨t0, t1, t2, t3, t4, t5, t6, t7, t8⟩ := kk; exact ⟨celB (alHi wr.drew _) t0, celB (alHi wr.drew _) t1, celB (alHi wr.drew _) t2, celB (alHi wr.drew _) t3, celB (alHi wr.drew _) t4, celB (alHi wr.drew _) t5, celB (alHi wr.drew _) t6, celB (alHi wr.drew _) t7, celB (alHi wr.drew _) t8⟩)
              refine hK.out _ _ kk1 (fun hH5 => ?_)
              clear hK KK hH
              try simp only [Act.put, List.setIfInBounds_toArray, List.set_cons_zero, List.set_cons_succ]
              refine wpAnyH_ready (rs := [5]) (by kernel_rfl) (by simp) ?_
              refine AllReadyH.cons (o := ⟨_, _, _, _, _, _⟩) rfl (fun KK hK => ?_) AllReadyH.nil
              go_simp
              refine (behind_f p q r x _ HO2.out HLG.out).mono ?_
              rintro r9 wa ⟨rfl, hBa⟩
              have Ba := stHi Bo hBa
              have kk2 : wa.cell? ⟨w2.heap.size, 0, none⟩ = some (.int .i64 p) ∧ wa.cell? ⟨w2.heap.size, 1, none⟩ = some (.int .i64 q) ∧ wa.cell? ⟨w2.heap.size, 2, none⟩ = some (.int .i64 r) ∧ wa.cell? ⟨mb, mo + f * 6, none⟩ = some (.int .i64 x.client) ∧ wa.cell? ⟨mb, mo + f * 6 + 1, none⟩ = some (.int .i64 x.object) ∧ wa.cell? ⟨mb, mo + f * 6 + 2, none⟩ = some (.bool x.write) ∧ wa.cell? ⟨mb, mo + f * 6 + 3, none⟩ = some (.int .i64 x.value) ∧ wa.cell? ⟨mb, mo + f * 6 + 4, none⟩ = some (.int .i64 x.beg) ∧ wa.cell? ⟨mb, mo + f * 6 + 5, none⟩ = some (.int .i64 x.fin) := (by obtain ⟨t0, t1, t2, t3, t4, t5, t6, t7, t8⟩ := kk1; exact ⟨celB hBa t0, celB hBa t1, celB hBa t2, celB hBa t3, celB hBa t4, celB hBa t5, celB hBa t6, celB hBa t7, celB hBa t8⟩)
              have PV0 : Vx wa wr.heap.size 0 0 0 := by simpa using (Vx.new wr.drew 0 0 0).below hBa
              go_wp2_with fail
              refine hK.out _ _ kk2 (fun hH9 => ?_)
              clear hK KK hH5
              try simp only [Act.put, List.setIfInBounds_toArray, List.set_cons_zero, List.set_cons_succ]
              refine wpAnyH_take (i := 6) (oi := ⟨_, _, _, _, _, _⟩) (v := ?vfb6) rfl (by kernel_rfl) (by kernel_rfl) (by kernel_rfl) (fun _ _ _ h => h) (Or.inl ⟨by rfl, ?yfb6⟩) (by assumption) ?rfb6
              case yfb6 => intro w hSw; (try dsimp only at hSw); go_simp; try with_reducible rfl
              try simp only [Act.put, List.setIfInBounds_toArray, List.set_cons_zero, List.set_cons_succ]
              refine wpAnyH_take (i := 7) (oi := ⟨_, _, _, _, _, _⟩) (v := ?vfb7) rfl (by kernel_rfl) (by kernel_rfl) (by kernel_rfl) (fun _ _ _ h => h) (Or.inl ⟨by rfl, ?yfb7⟩) (by assumption) ?rfb7
              case yfb7 => intro w hSw; (try dsimp only at hSw); go_simp; try with_reducible rfl
              try simp only [Act.put, List.setIfInBounds_toArray, List.set_cons_zero, List.set_cons_succ]
              refine wpAnyH_take (i := 8) (oi := ⟨_, _, _, _, _, _⟩) (v := ?vfb8) rfl (by kernel_rfl) (by kernel_rfl) (by kernel_rfl) (fun _ _ _ h => h) (Or.inl ⟨by rfl, ?yfb8⟩) (by assumption) ?rfb8
              case yfb8 => intro w hSw; (try dsimp only at hSw); go_simp; try with_reducible rfl
              try simp only [Act.put, List.setIfInBounds_toArray, List.set_cons_zero, List.set_cons_succ]
              refine wpAnyH_ready (rs := [10]) (by kernel_rfl) (by simp) ?_
              refine AllReadyH.cons (o := ⟨_, _, _, _, _, _⟩) rfl (fun KK hK => ?_) AllReadyH.nil
              have PVf : ∀ i, wa.frozen? ⟨wr.heap.size, i, none⟩ = false := fun i => World.rowIs.frozen PV0 i
              obtain ⟨PV1, PV2, PV3⟩ := PV0.cells
              go_simp
              have Bp : Below wr.heap.size wr ((((wa).setCell ⟨wr.heap.size, 0, none⟩ (.int .i64 p)).setCell ⟨wr.heap.size, 1, none⟩ (.int .i64 q)).setCell ⟨wr.heap.size, 2, none⟩ (.int .i64 r)) := ((Ba.setCell (Nat.le_refl _) _).setCell (Nat.le_refl _) _).setCell (Nat.le_refl _) _
              have kk3 : ((((wa).setCell ⟨wr.heap.size, 0, none⟩ (.int .i64 p)).setCell ⟨wr.heap.size, 1, none⟩ (.int .i64 q)).setCell ⟨wr.heap.size, 2, none⟩ (.int .i64 r)).cell? ⟨w2.heap.size, 0, none⟩ = some (.int .i64 p) ∧ ((((wa).setCell ⟨wr.heap.size, 0, none⟩ (.int .i64 p)).setCell ⟨wr.heap.size, 1, none⟩ (.int .i64 q)).setCell ⟨wr.heap.size, 2, none⟩ (.int .i64 r)).cell? ⟨w2.heap.size, 1, none⟩ = some (.int .i64 q) ∧ ((((wa).setCell ⟨wr.heap.size, 0, none⟩ (.int .i64 p)).setCell ⟨wr.heap.size, 1, none⟩ (.int .i64 q)).setCell ⟨wr.heap.size, 2, none⟩ (.int .i64 r)).cell? ⟨w2.heap.size, 2, none⟩ = some (.int .i64 r) ∧ ((((wa).setCell ⟨wr.heap.size, 0, none⟩ (.int .i64 p)).setCell ⟨wr.heap.size, 1, none⟩ (.int .i64 q)).setCell ⟨wr.heap.size, 2, none⟩ (.int .i64 r)).cell? ⟨mb, mo + f * 6, none⟩ = some (.int .i64 x.client) ∧ ((((wa).setCell ⟨wr.heap.size, 0, none⟩ (.int .i64 p)).setCell ⟨wr.heap.size, 1, none⟩ (.int .i64 q)).setCell ⟨wr.heap.size, 2, none⟩ (.int .i64 r)).cell? ⟨mb, mo + f * 6 + 1, none⟩ = some (.int .i64 x.object) ∧ ((((wa).setCell ⟨wr.heap.size, 0, none⟩ (.int .i64 p)).setCell ⟨wr.heap.size, 1, none⟩ (.int .i64 q)).setCell ⟨wr.heap.size, 2, none⟩ (.int .i64 r)).cell? ⟨mb, mo + f * 6 + 2, none⟩ = some (.bool x.write) ∧ ((((wa).setCell ⟨wr.heap.size, 0, none⟩ (.int .i64 p)).setCell ⟨wr.heap.size, 1, none⟩ (.int .i64 q)).setCell ⟨wr.heap.size, 2, none⟩ (.int .i64 r)).cell? ⟨mb, mo + f * 6 + 3, none⟩ = some (.int .i64 x.value) ∧ ((((wa).setCell ⟨wr.heap.size, 0, none⟩ (.int .i64 p)).setCell ⟨wr.heap.size, 1, none⟩ (.int .i64 q)).setCell ⟨wr.heap.size, 2, none⟩ (.int .i64 r)).cell? ⟨mb, mo + f * 6 + 4, none⟩ = some (.int .i64 x.beg) ∧ ((((wa).setCell ⟨wr.heap.size, 0, none⟩ (.int .i64 p)).setCell ⟨wr.heap.size, 1, none⟩ (.int .i64 q)).setCell ⟨wr.heap.size, 2, none⟩ (.int .i64 r)).cell? ⟨mb, mo + f * 6 + 5, none⟩ = some (.int .i64 x.fin) := by obtain ⟨t0, t1, t2, t3, t4, t5, t6, t7, t8⟩ := kkw; exact ⟨celB Bp t0, celB Bp t1, celB Bp t2, celB Bp t3, celB Bp t4, celB Bp t5, celB Bp t6, celB Bp t7, celB Bp t8⟩
              have PV := PV0.put p q r
              refine hK.out _ _ kk3 (fun hH10 => ?_)
              clear hK KK hH9
              try simp only [Act.put, List.setIfInBounds_toArray, List.set_cons_zero, List.set_cons_succ]
              refine wpAnyH_take (i := 11) (oi := ⟨_, _, _, _, _, _⟩) (v := ?vfb11) rfl (by kernel_rfl) (by kernel_rfl) (by kernel_rfl) (fun _ _ _ h => h) (Or.inl ⟨by rfl, ?yfb11⟩) (by assumption) ?rfb11
              case yfb11 => intro w hSw; (try dsimp only at hSw); go_simp; try with_reducible rfl
              try simp only [Act.put, List.setIfInBounds_toArray, List.set_cons_zero, List.set_cons_succ]
              refine wpAnyH_done (by kernel_rfl) (NoPanic.normal ?_) _
              generalize (((wa).setCell ⟨wr.heap.size, 0, none⟩ (.int .i64 p)).setCell ⟨wr.heap.size, 1, none⟩ (.int .i64 q)).setCell ⟨wr.heap.size, 2, none⟩ (.int .i64 r) = u9 at *
              obtain ⟨P, hP⟩ : ∃ P, wr.heap.size = P := ⟨_, rfl⟩
              have PV9 : Vx u9 P p q r := by rw [← hP]; exact PV
              replace PV := PV9
              clear PV9
              rw [hP]
              clear hP
              have VB := HV.out.below Bp
              obtain ⟨e0, e1, e2⟩ := PV.cells
              clear PV kk3 hH10
              go_wp2
              refine bodyPost_ret (v := .tuple #[.bool false, .bool true]) (by simp [results, Tryd.results5, go_sem]) rfl ⟨by rw [HL.out.1, HL.out.2, HE.out], stHi B1 Bp⟩
          | some us =>
            obtain ⟨p', q', r', rfl⟩ := lgS_three hlg
            have HN : Hid (lgTo l zs (k + 1) = some [p', q', r']) := by show _ = _; rw [lgTo, HG.out]; show lgS [p, q, r] (clA l (zA zs k).toNat) = _; rw [HF.out, HX.out]; exact hlg
            have HLG : Hid (lgS [p, q, r] x = some [p', q', r']) := hlg
            clear hlg
            go_wp2_with fail
            have kkw : wr.cell? ⟨w2.heap.size, 0, none⟩ = some (.int .i64 p) ∧ wr.cell? ⟨w2.heap.size, 1, none⟩ = some (.int .i64 q) ∧ wr.cell? ⟨w2.heap.size, 2, none⟩ = some (.int .i64 r) ∧ wr.cell? ⟨mb, mo + f * 6, none⟩ = some (.int .i64 x.client) ∧ wr.cell? ⟨mb, mo + f * 6 + 1, none⟩ = some (.int .i64 x.object) ∧ wr.cell? ⟨mb, mo + f * 6 + 2, none⟩ = some (.bool x.write) ∧ wr.cell? ⟨mb, mo + f * 6 + 3, none⟩ = some (.int .i64 x.value) ∧ wr.cell? ⟨mb, mo + f * 6 + 4, none⟩ = some (.int .i64 x.beg) ∧ wr.cell? ⟨mb, mo + f * 6 + 5, none⟩ = some (.int .i64 x.fin) := ⟨v0, v1, v2, m0, m1, m2, m3, m4, m5⟩
            have BD : Below wr.heap.size wr wr.drew := (Below.refl _ _).drew
            have kk : wr.drew.cell? ⟨w2.heap.size, 0, none⟩ = some (.int .i64 p) ∧ wr.drew.cell? ⟨w2.heap.size, 1, none⟩ = some (.int .i64 q) ∧ wr.drew.cell? ⟨w2.heap.size, 2, none⟩ = some (.int .i64 r) ∧ wr.drew.cell? ⟨mb, mo + f * 6, none⟩ = some (.int .i64 x.client) ∧ wr.drew.cell? ⟨mb, mo + f * 6 + 1, none⟩ = some (.int .i64 x.object) ∧ wr.drew.cell? ⟨mb, mo + f * 6 + 2, none⟩ = some (.bool x.write) ∧ wr.drew.cell? ⟨mb, mo + f * 6 + 3, none⟩ = some (.int .i64 x.value) ∧ wr.drew.cell? ⟨mb, mo + f * 6 + 4, none⟩ = some (.int .i64 x.beg) ∧ wr.drew.cell? ⟨mb, mo + f * 6 + 5, none⟩ = some (.int .i64 x.fin) := ⟨celB BD v0, celB BD v1, celB BD v2, celB BD m0, celB BD m1, celB BD m2, celB BD m3, celB BD m4, celB BD m5⟩
            refine wp_region_noPanic ?_
            refine wp_region_held_drew (S := fun w' => w'.cell? ⟨w2.heap.size, 0, none⟩ = some (.int .i64 p) ∧ w'.cell? ⟨w2.heap.size, 1, none⟩ = some (.int .i64 q) ∧ w'.cell? ⟨w2.heap.size, 2, none⟩ = some (.int .i64 r) ∧ w'.cell? ⟨mb, mo + f * 6, none⟩ = some (.int .i64 x.client) ∧ w'.cell? ⟨mb, mo + f * 6 + 1, none⟩ = some (.int .i64 x.object) ∧ w'.cell? ⟨mb, mo + f * 6 + 2, none⟩ = some (.bool x.write) ∧ w'.cell? ⟨mb, mo + f * 6 + 3, none⟩ = some (.int .i64 x.value) ∧ w'.cell? ⟨mb, mo + f * 6 + 4, none⟩ = some (.int .i64 x.beg) ∧ w'.cell? ⟨mb, mo + f * 6 + 5, none⟩ = some (.int .i64 x.fin)) (by kernel_rfl) kk (fun hH => ?_)
            refine wpAnyH_take (i := 0) (oi := ⟨_, _, _, _, _, _⟩) (v := ?vg0) rfl (by kernel_rfl) (by kernel_rfl) (by kernel_rfl) (fun _ _ _ h => h) (Or.inl ⟨by rfl, ?yg0⟩) (by assumption) ?rg0
            case yg0 => intro w hSw; (try dsimp only at hSw); go_simp; try with_reducible rfl
            try simp only [Act.put, List.setIfInBounds_toArray, List.set_cons_zero, List.set_cons_succ]
            refine wpAnyH_take (i := 1) (oi := ⟨_, _, _, _, _, _⟩) (v := ?vg1) rfl (by kernel_rfl) (by kernel_rfl) (by kernel_rfl) (fun _ _ _ h => h) (Or.inl ⟨by rfl, ?yg1⟩) (by assumption) ?rg1
            case yg1 => intro w hSw; (try dsimp only at hSw); go_simp; try with_reducible rfl
            try simp only [Act.put, List.setIfInBounds_toArray, List.set_cons_zero, List.set_cons_succ]
            refine wpAnyH_take (i := 2) (oi := ⟨_, _, _, _, _, _⟩) (v := ?vg2) rfl (by kernel_rfl) (by kernel_rfl) (by kernel_rfl) (fun _ _ _ h => h) (Or.inl ⟨by rfl, ?yg2⟩) (by assumption) ?rg2
            case yg2 => intro w hSw; (try dsimp only at hSw); go_simp; try with_reducible rfl
            try simp only [Act.put, List.setIfInBounds_toArray, List.set_cons_zero, List.set_cons_succ]
            refine wpAnyH_take (i := 3) (oi := ⟨_, _, _, _, _, _⟩) (v := ?vg3) rfl (by kernel_rfl) (by kernel_rfl) (by kernel_rfl) (fun _ _ _ h => h) (Or.inl ⟨by rfl, ?yg3⟩) (by assumption) ?rg3
            case yg3 => intro w hSw; (try dsimp only at hSw); go_simp; try with_reducible rfl
            try simp only [Act.put, List.setIfInBounds_toArray, List.set_cons_zero, List.set_cons_succ]
            refine wpAnyH_take (i := 4) (oi := ⟨_, _, _, _, _, _⟩) (v := ?vg4) rfl (by kernel_rfl) (by kernel_rfl) (by kernel_rfl) (fun _ _ _ h => h) (Or.inl ⟨by rfl, ?yg4⟩) (by assumption) ?rg4
            case yg4 => intro w hSw; (try dsimp only at hSw); go_simp; try with_reducible rfl
            try simp only [Act.put, List.setIfInBounds_toArray, List.set_cons_zero, List.set_cons_succ]
            refine wpAnyH_ready (rs := [5, 9]) (by kernel_rfl) (by simp) ?_
            refine AllReadyH.cons (o := ⟨_, _, _, _, _, _⟩) rfl (fun KK hK => ?g1) (AllReadyH.cons (o := ⟨_, _, _, _, _, _⟩) rfl (fun KK hK => ?g2) AllReadyH.nil)
            case g1 =>
              go_simp
              refine (behind_t p q r p' q' r' x _ HO2.out HLG.out).mono ?_
              rintro r9 wa ⟨rfl, hBa⟩
              have Ba := stHi BD hBa
              have kk1 : wa.cell? ⟨w2.heap.size, 0, none⟩ = some (.int .i64 p) ∧ wa.cell? ⟨w2.heap.size, 1, none⟩ = some (.int .i64 q) ∧ wa.cell? ⟨w2.heap.size, 2, none⟩ = some (.int .i64 r) ∧ wa.cell? ⟨mb, mo + f * 6, none⟩ = some (.int .i64 x.client) ∧ wa.cell? ⟨mb, mo + f * 6 + 1, none⟩ = some (.int .i64 x.object) ∧ wa.cell? ⟨mb, mo + f * 6 + 2, none⟩ = some (.bool x.write) ∧ wa.cell? ⟨mb, mo + f * 6 + 3, none⟩ = some (.int .i64 x.value) ∧ wa.cell? ⟨mb, mo + f * 6 + 4, none⟩ = some (.int .i64 x.beg) ∧ wa.cell? ⟨mb, mo + f * 6 + 5, none⟩ = some (.int .i64 x.fin) := (by obtain ⟨t0, t1, t2, t3, t4, t5, t6, t7, t8⟩ := kk; exact ⟨celB hBa t0, celB hBa t1, celB hBa t2, celB hBa t3, celB hBa t4, celB hBa t5, celB hBa t6, celB hBa t7, celB hBa t8⟩)
              go_wp2_with fail
              refine hK.out _ _ kk1 (fun hH5 => ?_)
              clear hK KK hH
              try simp only [Act.put, List.setIfInBounds_toArray, List.set_cons_zero, List.set_cons_succ]
              refine wpAnyH_take (i := 6) (oi := ⟨_, _, _, _, _, _⟩) (v := ?vga6) rfl (by kernel_rfl) (by kernel_rfl) (by kernel_rfl) (fun _ _ _ h => h) (Or.inl ⟨by rfl, ?yga6⟩) (by assumption) ?rga6
              case yga6 => intro w hSw; (try dsimp only at hSw); go_simp; try with_reducible rfl
              try simp only [Act.put, List.setIfInBounds_toArray, List.set_cons_zero, List.set_cons_succ]
              refine wpAnyH_take (i := 7) (oi := ⟨_, _, _, _, _, _⟩) (v := ?vga7) rfl (by kernel_rfl) (by kernel_rfl) (by kernel_rfl) (fun _ _ _ h => h) (Or.inl ⟨by rfl, ?yga7⟩) (by assumption) ?rga7
              case yga7 => intro w hSw; (try dsimp only at hSw); go_simp; try with_reducible rfl
              try simp only [Act.put, List.setIfInBounds_toArray, List.set_cons_zero, List.set_cons_succ]
              refine wpAnyH_take (i := 8) (oi := ⟨_, _, _, _, _, _⟩) (v := ?vga8) rfl (by kernel_rfl) (by kernel_rfl) (by kernel_rfl) (fun _ _ _ h => h) (Or.inl ⟨by rfl, ?yga8⟩) (by assumption) ?rga8
              case yga8 => intro w hSw; (try dsimp only at hSw); go_simp; try with_reducible rfl
              try simp only [Act.put, List.setIfInBounds_toArray, List.set_cons_zero, List.set_cons_succ]
              refine wpAnyH_ready (rs := [9]) (by kernel_rfl) (by simp) ?_
              refine AllReadyH.cons (o := ⟨_, _, _, _, _, _⟩) rfl (fun KK hK => ?_) AllReadyH.nil
              go_simp
              have kk2 : (wa.alloc (.cells #[.int .i64 0, .int .i64 0, .int .i64 0] 49)).cell? ⟨w2.heap.size, 0, none⟩ = some (.int .i64 p) ∧ (wa.alloc (.cells #[.int .i64 0, .int .i64 0, .int .i64 0] 49)).cell? ⟨w2.heap.size, 1, none⟩ = some (.int .i64 q) ∧ (wa.alloc (.cells #[.int .i64 0, .int .i64 0, .int .i64 0] 49)).cell? ⟨w2.heap.size, 2, none⟩ = some (.int .i64 r) ∧ (wa.alloc (.cells #[.int .i64 0, .int .i64 0, .int .i64 0] 49)).cell? ⟨mb, mo + f * 6, none⟩ = some (.int .i64 x.client) ∧ (wa.alloc (.cells #[.int .i64 0, .int .i64 0, .int .i64 0] 49)).cell? ⟨mb, mo + f * 6 + 1, none⟩ = some (.int .i64 x.object) ∧ (wa.alloc (.cells #[.int .i64 0, .int .i64 0, .int .i64 0] 49)).cell? ⟨mb, mo + f * 6 + 2, none⟩ = some (.bool x.write) ∧ (wa.alloc (.cells #[.int .i64 0, .int .i64 0, .int .i64 0] 49)).cell? ⟨mb, mo + f * 6 + 3, none⟩ = some (.int .i64 x.value) ∧ (wa.alloc (.cells #[.int .i64 0, .int .i64 0, .int .i64 0] 49)).cell? ⟨mb, mo + f * 6 + 4, none⟩ = some (.int .i64 x.beg) ∧ (wa.alloc (.cells #[.int .i64 0, .int .i64 0, .int .i64 0] 49)).cell? ⟨mb, mo + f * 6 + 5, none⟩ = some (.int .i64 x.fin) := (by obtain ⟨t0, t1, t2, t3, t4, t5, t6, t7, t8⟩ := kk1; exact ⟨celB (alHi wa _) t0, celB (alHi wa _) t1, celB (alHi wa _) t2, celB (alHi wa _) t3, celB (alHi wa _) t4, celB (alHi wa _) t5, celB (alHi wa _) t6, celB (alHi wa _) t7, celB (alHi wa _) t8⟩)
              refine hK.out _ _ kk2 (fun hH9 => ?_)
              clear hK KK hH5
              try simp only [Act.put, List.setIfInBounds_toArray, List.set_cons_zero, List.set_cons_succ]
              refine wpAnyH_ready (rs := [10]) (by kernel_rfl) (by simp) ?_
              refine AllReadyH.cons (o := ⟨_, _, _, _, _, _⟩) rfl (fun KK hK => ?_) AllReadyH.nil
              go_simp
              have Bp : Below wr.heap.size wr (wa.alloc (.cells #[.int .i64 p', .int .i64 q', .int .i64 r'] 49)) := stHi Ba (alHi wa _)
              have kk3 : (wa.alloc (.cells #[.int .i64 p', .int .i64 q', .int .i64 r'] 49)).cell? ⟨w2.heap.size, 0, none⟩ = some (.int .i64 p) ∧ (wa.alloc (.cells #[.int .i64 p', .int .i64 q', .int .i64 r'] 49)).cell? ⟨w2.heap.size, 1, none⟩ = some (.int .i64 q) ∧ (wa.alloc (.cells #[.int .i64 p', .int .i64 q', .int .i64 r'] 49)).cell? ⟨w2.heap.size, 2, none⟩ = some (.int .i64 r) ∧ (wa.alloc (.cells #[.int .i64 p', .int .i64 q', .int .i64 r'] 49)).cell? ⟨mb, mo + f * 6, none⟩ = some (.int .i64 x.client) ∧ (wa.alloc (.cells #[.int .i64 p', .int .i64 q', .int .i64 r'] 49)).cell? ⟨mb, mo + f * 6 + 1, none⟩ = some (.int .i64 x.object) ∧ (wa.alloc (.cells #[.int .i64 p', .int .i64 q', .int .i64 r'] 49)).cell? ⟨mb, mo + f * 6 + 2, none⟩ = some (.bool x.write) ∧ (wa.alloc (.cells #[.int .i64 p', .int .i64 q', .int .i64 r'] 49)).cell? ⟨mb, mo + f * 6 + 3, none⟩ = some (.int .i64 x.value) ∧ (wa.alloc (.cells #[.int .i64 p', .int .i64 q', .int .i64 r'] 49)).cell? ⟨mb, mo + f * 6 + 4, none⟩ = some (.int .i64 x.beg) ∧ (wa.alloc (.cells #[.int .i64 p', .int .i64 q', .int .i64 r'] 49)).cell? ⟨mb, mo + f * 6 + 5, none⟩ = some (.int .i64 x.fin) := by obtain ⟨t0, t1, t2, t3, t4, t5, t6, t7, t8⟩ := kkw; exact ⟨celB Bp t0, celB Bp t1, celB Bp t2, celB Bp t3, celB Bp t4, celB Bp t5, celB Bp t6, celB Bp t7, celB Bp t8⟩
              have PV := Vx.new wa p' q' r'
              refine hK.out _ _ kk3 (fun hH10 => ?_)
              clear hK KK hH9
              try simp only [Act.put, List.setIfInBounds_toArray, List.set_cons_zero, List.set_cons_succ]
              refine wpAnyH_take (i := 11) (oi := ⟨_, _, _, _, _, _⟩) (v := ?vga11) rfl (by kernel_rfl) (by kernel_rfl) (by kernel_rfl) (fun _ _ _ h => h) (Or.inl ⟨by rfl, ?yga11⟩) (by assumption) ?rga11
              case yga11 => intro w hSw; (try dsimp only at hSw); go_simp; try with_reducible rfl
              try simp only [Act.put, List.setIfInBounds_toArray, List.set_cons_zero, List.set_cons_succ]
              refine wpAnyH_done (by kernel_rfl) (NoPanic.normal ?_) _
              generalize (wa.alloc (.cells #[.int .i64 p', .int .i64 q', .int .i64 r'] 49)) = u9 at *
              generalize wa.heap.size = P at *
              have VB := HV.out.below Bp
              obtain ⟨e0, e1, e2⟩ := PV.cells
              have hfz : ∀ i, u9.frozen? ⟨w2.heap.size, i, none⟩ = false := fun i => World.rowIs.frozen VB i
              obtain ⟨d0, d1, d2⟩ := VB.cells
              have HVN : Hid (Vx (((u9.setCell ⟨w2.heap.size, 0, none⟩ (.int .i64 p')).setCell ⟨w2.heap.size, 1, none⟩ (.int .i64 q')).setCell ⟨w2.heap.size, 2, none⟩ (.int .i64 r')) w2.heap.size p' q' r') := VB.put p' q' r'
              have HBN : Hid (Below w2.heap.size w2 (((u9.setCell ⟨w2.heap.size, 0, none⟩ (.int .i64 p')).setCell ⟨w2.heap.size, 1, none⟩ (.int .i64 q')).setCell ⟨w2.heap.size, 2, none⟩ (.int .i64 r'))) := (((stHi HW.out Bp).setCell (Nat.le_refl _) _).setCell (Nat.le_refl _) _).setCell (Nat.le_refl _) _
              clear PV kk3 hH10 VB
              go_wp2
              go_roundw
              case rel => exact ⟨k + 1, p', q', r', by omega, by go_num, HN.out, HVN.out, HBN.out⟩
              case measure => simp [intOf]; omega
            case g2 =>
              go_simp
              have Bo : Below wr.heap.size wr (wr.drew.alloc (.cells #[.int .i64 0, .int .i64 0, .int .i64 0] 49)) := stHi BD (alHi wr.drew _)
              have kk1 : (wr.drew.alloc (.cells #[.int .i64 0, .int .i64 0, .int .i64 0] 49)).cell? ⟨w2.heap.size, 0, none⟩ = some (.int .i64 p) ∧ (wr.drew.alloc (.cells #[.int .i64 0, .int .i64 0, .int .i64 0] 49)).cell? ⟨w2.heap.size, 1, none⟩ = some (.int .i64 q) ∧ (wr.drew.alloc (.cells #[.int .i64 0, .int .i64 0, .int .i64 0] 49)).cell? ⟨w2.heap.size, 2, none⟩ = some (.int .i64 r) ∧ (wr.drew.alloc (.cells #[.int .i64 0, .int .i64 0, .int .i64 0] 49)).cell? ⟨mb, mo + f * 6, none⟩ = some (.int .i64 x.client) ∧ (wr.drew.alloc (.cells #[.int .i64 0, .int .i64 0, .int .i64 0] 49)).cell? ⟨mb, mo + f * 6 + 1, none⟩ = some (.int .i64 x.object) ∧ (wr.drew.alloc (.cells #[.int .i64 0, .int .i64 0, .int .i64 0] 49)).cell? ⟨mb, mo + f * 6 + 2, none⟩ = some (.bool x.write) ∧ (wr.drew.alloc (.cells #[.int .i64 0, .int .i64 0, .int .i64 0] 49)).cell? ⟨mb, mo + f * 6 + 3, none⟩ = some (.int .i64 x.value) ∧ (wr.drew.alloc (.cells #[.int .i64 0, .int .i64 0, .int .i64 0] 49)).cell? ⟨mb, mo + f * 6 + 4, none⟩ = some (.int .i64 x.beg) ∧ (wr.drew.alloc (.cells #[.int .i64 0, .int .i64 0, .int .i64 0] 49)).cell? ⟨mb, mo + f * 6 + 5, none⟩ = some (.int .i64 x.fin) := (by obtain ⟨t0, t1, t2, t3, t4, t5, t6, t7, t8⟩ := kk; exact ⟨celB (alHi wr.drew _) t0, celB (alHi wr.drew _) t1, celB (alHi wr.drew _) t2, celB (alHi wr.drew _) t3, celB (alHi wr.drew _) t4, celB (alHi wr.drew _) t5, celB (alHi wr.drew _) t6, celB (alHi wr.drew _) t7, celB (alHi wr.drew _) t8⟩)
              refine hK.out _ _ kk1 (fun hH5 => ?_)
              clear hK KK hH
              try simp only [Act.put, List.setIfInBounds_toArray, List.set_cons_zero, List.set_cons_succ]
              refine wpAnyH_ready (rs := [5]) (by kernel_rfl) (by simp) ?_
              refine AllReadyH.cons (o := ⟨_, _, _, _, _, _⟩) rfl (fun KK hK => ?_) AllReadyH.nil
              go_simp
              refine (behind_t p q r p' q' r' x _ HO2.out HLG.out).mono ?_
              rintro r9 wa ⟨rfl, hBa⟩
              have Ba := stHi Bo hBa
              have kk2 : wa.cell? ⟨w2.heap.size, 0, none⟩ = some (.int .i64 p) ∧ wa.cell? ⟨w2.heap.size, 1, none⟩ = some (.int .i64 q) ∧ wa.cell? ⟨w2.heap.size, 2, none⟩ = some (.int .i64 r) ∧ wa.cell? ⟨mb, mo + f * 6, none⟩ = some (.int .i64 x.client) ∧ wa.cell? ⟨mb, mo + f * 6 + 1, none⟩ = some (.int .i64 x.object) ∧ wa.cell? ⟨mb, mo + f * 6 + 2, none⟩ = some (.bool x.write) ∧ wa.cell? ⟨mb, mo + f * 6 + 3, none⟩ = some (.int .i64 x.value) ∧ wa.cell? ⟨mb, mo + f * 6 + 4, none⟩ = some (.int .i64 x.beg) ∧ wa.cell? ⟨mb, mo + f * 6 + 5, none⟩ = some (.int .i64 x.fin) := (by obtain ⟨t0, t1, t2, t3, t4, t5, t6, t7, t8⟩ := kk1; exact ⟨celB hBa t0, celB hBa t1, celB hBa t2, celB hBa t3, celB hBa t4, celB hBa t5, celB hBa t6, celB hBa t7, celB hBa t8⟩)
              have PV0 : Vx wa wr.heap.size 0 0 0 := by simpa using (Vx.new wr.drew 0 0 0).below hBa
              go_wp2_with fail
              refine hK.out _ _ kk2 (fun hH9 => ?_)
              clear hK KK hH5
              try simp only [Act.put, List.setIfInBounds_toArray, List.set_cons_zero, List.set_cons_succ]
              refine wpAnyH_take (i := 6) (oi := ⟨_, _, _, _, _, _⟩) (v := ?vgb6) rfl (by kernel_rfl) (by kernel_rfl) (by kernel_rfl) (fun _ _ _ h => h) (Or.inl ⟨by rfl, ?ygb6⟩) (by assumption) ?rgb6
              case ygb6 => intro w hSw; (try dsimp only at hSw); go_simp; try with_reducible rfl
              try simp only [Act.put, List.setIfInBounds_toArray, List.set_cons_zero, List.set_cons_succ]
              refine wpAnyH_take (i := 7) (oi := ⟨_, _, _, _, _, _⟩) (v := ?vgb7) rfl (by kernel_rfl) (by kernel_rfl) (by kernel_rfl) (fun _ _ _ h => h) (Or.inl ⟨by rfl, ?ygb7⟩) (by assumption) ?rgb7
              case ygb7 => intro w hSw; (try dsimp only at hSw); go_simp; try with_reducible rfl
              try simp only [Act.put, List.setIfInBounds_toArray, List.set_cons_zero, List.set_cons_succ]
              refine wpAnyH_take (i := 8) (oi := ⟨_, _, _, _, _, _⟩) (v := ?vgb8) rfl (by kernel_rfl) (by kernel_rfl) (by kernel_rfl) (fun _ _ _ h => h) (Or.inl ⟨by rfl, ?ygb8⟩) (by assumption) ?rgb8
              case ygb8 => intro w hSw; (try dsimp only at hSw); go_simp; try with_reducible rfl
              try simp only [Act.put, List.setIfInBounds_toArray, List.set_cons_zero, List.set_cons_succ]
              refine wpAnyH_ready (rs := [10]) (by kernel_rfl) (by simp) ?_
              refine AllReadyH.cons (o := ⟨_, _, _, _, _, _⟩) rfl (fun KK hK => ?_) AllReadyH.nil
              have PVf : ∀ i, wa.frozen? ⟨wr.heap.size, i, none⟩ = false := fun i => World.rowIs.frozen PV0 i
              obtain ⟨PV1, PV2, PV3⟩ := PV0.cells
              go_simp
              have Bp : Below wr.heap.size wr ((((wa).setCell ⟨wr.heap.size, 0, none⟩ (.int .i64 p')).setCell ⟨wr.heap.size, 1, none⟩ (.int .i64 q')).setCell ⟨wr.heap.size, 2, none⟩ (.int .i64 r')) := ((Ba.setCell (Nat.le_refl _) _).setCell (Nat.le_refl _) _).setCell (Nat.le_refl _) _
              have kk3 : ((((wa).setCell ⟨wr.heap.size, 0, none⟩ (.int .i64 p')).setCell ⟨wr.heap.size, 1, none⟩ (.int .i64 q')).setCell ⟨wr.heap.size, 2, none⟩ (.int .i64 r')).cell? ⟨w2.heap.size, 0, none⟩ = some (.int .i64 p) ∧ ((((wa).setCell ⟨wr.heap.size, 0, none⟩ (.int .i64 p')).setCell ⟨wr.heap.size, 1, none⟩ (.int .i64 q')).setCell ⟨wr.heap.size, 2, none⟩ (.int .i64 r')).cell? ⟨w2.heap.size, 1, none⟩ = some (.int .i64 q) ∧ ((((wa).setCell ⟨wr.heap.size, 0, none⟩ (.int .i64 p')).setCell ⟨wr.heap.size, 1, none⟩ (.int .i64 q')).setCell ⟨wr.heap.size, 2, none⟩ (.int .i64 r')).cell? ⟨w2.heap.size, 2, none⟩ = some (.int .i64 r) ∧ ((((wa).setCell ⟨wr.heap.size, 0, none⟩ (.int .i64 p')).setCell ⟨wr.heap.size, 1, none⟩ (.int .i64 q')).setCell ⟨wr.heap.size, 2, none⟩ (.int .i64 r')).cell? ⟨mb, mo + f * 6, none⟩ = some (.int .i64 x.client) ∧ ((((wa).setCell ⟨wr.heap.size, 0, none⟩ (.int .i64 p')).setCell ⟨wr.heap.size, 1, none⟩ (.int .i64 q')).setCell ⟨wr.heap.size, 2, none⟩ (.int .i64 r')).cell? ⟨mb, mo + f * 6 + 1, none⟩ = some (.int .i64 x.object) ∧ ((((wa).setCell ⟨wr.heap.size, 0, none⟩ (.int .i64 p')).setCell ⟨wr.heap.size, 1, none⟩ (.int .i64 q')).setCell ⟨wr.heap.size, 2, none⟩ (.int .i64 r')).cell? ⟨mb, mo + f * 6 + 2, none⟩ = some (.bool x.write) ∧ ((((wa).setCell ⟨wr.heap.size, 0, none⟩ (.int .i64 p')).setCell ⟨wr.heap.size, 1, none⟩ (.int .i64 q')).setCell ⟨wr.heap.size, 2, none⟩ (.int .i64 r')).cell? ⟨mb, mo + f * 6 + 3, none⟩ = some (.int .i64 x.value) ∧ ((((wa).setCell ⟨wr.heap.size, 0, none⟩ (.int .i64 p')).setCell ⟨wr.heap.size, 1, none⟩ (.int .i64 q')).setCell ⟨wr.heap.size, 2, none⟩ (.int .i64 r')).cell? ⟨mb, mo + f * 6 + 4, none⟩ = some (.int .i64 x.beg) ∧ ((((wa).setCell ⟨wr.heap.size, 0, none⟩ (.int .i64 p')).setCell ⟨wr.heap.size, 1, none⟩ (.int .i64 q')).setCell ⟨wr.heap.size, 2, none⟩ (.int .i64 r')).cell? ⟨mb, mo + f * 6 + 5, none⟩ = some (.int .i64 x.fin) := by obtain ⟨t0, t1, t2, t3, t4, t5, t6, t7, t8⟩ := kkw; exact ⟨celB Bp t0, celB Bp t1, celB Bp t2, celB Bp t3, celB Bp t4, celB Bp t5, celB Bp t6, celB Bp t7, celB Bp t8⟩
              have PV := PV0.put p' q' r'
              refine hK.out _ _ kk3 (fun hH10 => ?_)
              clear hK KK hH9
              try simp only [Act.put, List.setIfInBounds_toArray, List.set_cons_zero, List.set_cons_succ]
              refine wpAnyH_take (i := 11) (oi := ⟨_, _, _, _, _, _⟩) (v := ?vgb11) rfl (by kernel_rfl) (by kernel_rfl) (by kernel_rfl) (fun _ _ _ h => h) (Or.inl ⟨by rfl, ?ygb11⟩) (by assumption) ?rgb11
              case ygb11 => intro w hSw; (try dsimp only at hSw); go_simp; try with_reducible rfl
              try simp only [Act.put, List.setIfInBounds_toArray, List.set_cons_zero, List.set_cons_succ]
              refine wpAnyH_done (by kernel_rfl) (NoPanic.normal ?_) _
              generalize (((wa).setCell ⟨wr.heap.size, 0, none⟩ (.int .i64 p')).setCell ⟨wr.heap.size, 1, none⟩ (.int .i64 q')).setCell ⟨wr.heap.size, 2, none⟩ (.int .i64 r') = u9 at *
              obtain ⟨P, hP⟩ : ∃ P, wr.heap.size = P := ⟨_, rfl⟩
              have PV9 : Vx u9 P p' q' r' := by rw [← hP]; exact PV
              replace PV := PV9
              clear PV9
              rw [hP]
              clear hP
              have VB := HV.out.below Bp
              obtain ⟨e0, e1, e2⟩ := PV.cells
              have hfz : ∀ i, u9.frozen? ⟨w2.heap.size, i, none⟩ = false := fun i => World.rowIs.frozen VB i
              obtain ⟨d0, d1, d2⟩ := VB.cells
              have HVN : Hid (Vx (((u9.setCell ⟨w2.heap.size, 0, none⟩ (.int .i64 p')).setCell ⟨w2.heap.size, 1, none⟩ (.int .i64 q')).setCell ⟨w2.heap.size, 2, none⟩ (.int .i64 r')) w2.heap.size p' q' r') := VB.put p' q' r'
              have HBN : Hid (Below w2.heap.size w2 (((u9.setCell ⟨w2.heap.size, 0, none⟩ (.int .i64 p')).setCell ⟨w2.heap.size, 1, none⟩ (.int .i64 q')).setCell ⟨w2.heap.size, 2, none⟩ (.int .i64 r'))) := (((stHi HW.out Bp).setCell (Nat.le_refl _) _).setCell (Nat.le_refl _) _).setCell (Nat.le_refl _) _
              clear PV kk3 hH10 VB
              go_wp2
              go_roundw
              case rel => exact ⟨k + 1, p', q', r', by omega, by go_num, HN.out, HVN.out, HBN.out⟩
              case measure => simp [intOf]; omega
        · obtain rfl : k = zs.length := by omega
          have HE : Hid (legB l zs = true) := legB_done HG.out
          go_wp2
          refine bodyPost_ret (v := .tuple #[.bool true, .bool true]) (by simp [results, Tryd.results5, go_sem]) rfl ⟨by rw [HL.out.1, HL.out.2, HE.out], B1⟩

end Go.Proofs.YtmbfdonefpegeaaDoor
