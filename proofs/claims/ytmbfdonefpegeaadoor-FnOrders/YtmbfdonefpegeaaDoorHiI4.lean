/-
  Histories, the program's side: impl.RespectsTime. Made by mkhii2.py out of HiS2.
-/
import Derived.Test.YtmbfdonefpegeaaDoorHiI2J
import Derived.Test.YtmbfdonefpegeaaDoorHiS2J
namespace Go.Proofs.YtmbfdonefpegeaaDoor
open Go.RowKit

theorem endsB_c (x y : Cl) (b : Bool) (w : World) (h : befB false x y = b) :
    Calls Tryd.prog 25 #[clV x, clV y] w fun r w' => r = .returned (.bool b) ∧ Below w.heap.size w w' :=
  ends_c x y b w (by rw [← h]; simp [befB])

set_option maxRecDepth 100000 in
set_option maxHeartbeats 4000000 in
theorem implRespectsTime_any (a a2 : Option Addr) (c c2 : Nat) (l : List Cl) (zs : List Int) (w : World) (hs : Cls w a l) (hz : Ints w a2 zs) (hl : l.length ≤ maxLen) (hzl : zs.length ≤ maxLen) (hc : l.length ≤ c) (hc2 : zs.length ≤ c2) :
    Calls Tryd.prog 7 #[.slice a l.length c, .slice a2 zs.length c2] w fun r w' => r = .returned (.tuple #[.bool (rspA l zs), .bool (isB l zs)]) ∧ Below w.heap.size w w' := by
  have hl' := hl
  have hzl' := hzl
  unfold maxLen at hl' hzl'
  cases hg : goodCl l with
  | false =>
    have HE : Hid (rspA l zs = false ∧ isB l zs = false) := by show _ ∧ _; simp [rspA, isB, hg]
    go_enter Tryd.func7, Tryd.ntmps7
    go_wp2_with fail
    refine (implGoodCl_c _ _ _ _ hs hl hc _ hg).mono ?_
    rintro r w1 ⟨rfl, BB⟩
    go_wp2
    refine bodyPost_ret (v := .tuple #[.bool false, .bool false]) (by simp [results, Tryd.results7, go_sem]) rfl ⟨by rw [HE.out.1, HE.out.2], BB⟩
  | true =>
    have h7 := (goodCl_t hg).2
    cases ho : ordB l.length zs with
    | false =>
      have HE : Hid (rspA l zs = false ∧ isB l zs = false) := by show _ ∧ _; simp [rspA, isB, ho]
      go_enter Tryd.func7, Tryd.ntmps7
      go_wp2_with fail
      refine (implGoodCl_c _ _ _ _ hs hl hc _ hg).mono ?_
      rintro r w1 ⟨rfl, BB⟩
      go_wp2_with fail
      refine (isOrderOf_c l.length zs _ _ _ _ _ _ (hz.below BB) hzl h7 ho).mono ?_
      rintro r w2 ⟨rfl, hB2⟩
      have B2 := stHi BB hB2
      clear hB2
      go_wp2
      refine bodyPost_ret (v := .tuple #[.bool false, .bool false]) (by simp [results, Tryd.results7, go_sem]) rfl ⟨by rw [HE.out.1, HE.out.2], B2⟩
    | true =>
      have hor : ∀ k, k < zs.length → 0 ≤ zA zs k ∧ zA zs k < (l.length : Int) := fun k hk => ((ordB_t ho).1 k hk).1
      have HI : Hid (isB l zs = true) := by show _ = _; simp [isB, hg, ho]
      have HR : Hid (rspA l zs = rspB l zs) := by show _ = _; simp [rspA, HI.out]
      go_enter Tryd.func7, Tryd.ntmps7
      go_wp2_with fail
      refine (implGoodCl_c _ _ _ _ hs hl hc _ hg).mono ?_
      rintro r w1 ⟨rfl, BB⟩
      go_wp2_with fail
      refine (isOrderOf_c l.length zs _ _ _ _ _ _ (hz.below BB) hzl h7 ho).mono ?_
      rintro r w2 ⟨rfl, hB2⟩
      replace BB := stHi BB hB2
      clear hB2 ho hg
      go_wp2
      go_loopw [21] (fun i wr => ∃ k : Nat, k ≤ zs.length ∧ i = .int .i64 k ∧ Hid (rtTo l zs k) ∧ Below w2.heap.size w2 wr) (fun i _ => zs.length - (intOf i).toNat)
      case atStart => exact ⟨0, Nat.zero_le _, rfl, (fun i hi => absurd hi (Nat.not_lt_zero _)), Below.refl _ _⟩
      case round =>
        obtain ⟨k, hk, rfl, HO, hB⟩ := hrel
        have B1 := stHi BB hB
        by_cases hlt : k < zs.length
        · obtain ⟨zb, zo, rfl, z0⟩ := (hz.below B1) k _ (zA_get hlt)
          obtain ⟨h1, h2⟩ := hor k hlt
          obtain ⟨f, hf⟩ : ∃ f : Nat, zA zs k = f := ⟨(zA zs k).toNat, by omega⟩
          have HF : Hid ((zA zs k).toNat = f) := by show _ = _; omega
          rw [hf] at z0 h1 h2
          clear hf
          have hfl : f < l.length := by omega
          have hfi : (f : Int) < (l.length : Int) := by omega
          have hki : (k : Int) < (zs.length : Int) := by omega
          have hkc : (k : Int) + 1 ≤ (zs.length : Int) := by omega
          have hkd : (k : Int) + 1 ≤ (c2 : Int) := by omega
          obtain ⟨n, hn⟩ : ∃ n : Nat, zs.length - (k + 1) = n := ⟨_, rfl⟩
          have hni : (zs.length : Int) - ((k : Int) + 1) = (n : Int) := by omega
          have hnn : ((zs.length - (k + 1) : Nat) : Int) = (zs.length : Int) - ((k : Int) + 1) := by omega
          obtain ⟨mb, mo, ea, m0, m1, m2, m3, m4, m5⟩ := (hs.below B1) f _ (clA_get hfl)
          subst ea
          obtain ⟨x, hx⟩ : ∃ x, clA l f = x := ⟨_, rfl⟩
          have HX : Hid (clA l f = x) := hx
          rw [hx] at m0 m1 m2 m3 m4 m5
          clear hx
          clear hn hni hnn
          by_cases hcz : c2 = k + 1
          · have hz0 : zs.length - (k + 1) = 0 := by omega
            have HO1 : Hid (rtTo l zs (k + 1)) := rtTo_succ HO.out (fun j h1 h2 => by omega)
            go_wp2
            go_loopw [31] (fun i wr2 => i = .int .i64 0 ∧ Below wr.heap.size wr wr2) (fun _ _ => 0)
            case atStart => exact ⟨rfl, Below.refl _ _⟩
            case round =>
              obtain ⟨rfl, hB2⟩ := hrel
              have B2 := stHi hB hB2
              go_wp2
              go_roundw
              case rel => exact ⟨k + 1, by omega, by go_num, HO1.out, B2⟩
              case measure => simp [intOf]; omega
          · go_wp2
            go_loopw [31] (fun i wr2 => ∃ j : Nat, j ≤ zs.length - (k + 1) ∧ i = .int .i64 j ∧ Hid (∀ t, k < t → t < k + 1 + j → befB false (clA l (zA zs t).toNat) (clA l (zA zs k).toNat) = false) ∧ Below wr.heap.size wr wr2) (fun i _ => (zs.length - (k + 1)) - (intOf i).toNat)
            case atStart => exact ⟨0, Nat.zero_le _, rfl, (fun t h1 h2 => by omega), Below.refl _ _⟩
            case round =>
              obtain ⟨j, hj, rfl, HJ, hB2⟩ := hrel
              have B2 := stHi hB hB2
              have B3 := stHi B1 hB2
              by_cases hlt2 : j < zs.length - (k + 1)
              · have hm : k + 1 + j < zs.length := by omega
                obtain ⟨zb', zo', ez, y0⟩ := (hz.below B3) (k + 1 + j) _ (zA_get hm)
                simp only [Option.some.injEq, Addr.mk.injEq, and_true] at ez
                obtain ⟨rfl, rfl⟩ := ez
                obtain ⟨h3, h4⟩ := hor (k + 1 + j) hm
                obtain ⟨g, hg'⟩ : ∃ g : Nat, zA zs (k + 1 + j) = g := ⟨(zA zs (k + 1 + j)).toNat, by omega⟩
                have HGG : Hid ((zA zs (k + 1 + j)).toNat = g) := by show _ = _; omega
                rw [hg'] at y0 h3 h4
                clear hg'
                have hgl : g < l.length := by omega
                have hgi : (g : Int) < (l.length : Int) := by omega
                have hji : (j : Int) < ((zs.length - (k + 1) : Nat) : Int) := by omega
                have y1 : wr.cell? ⟨zb, zo + (k + 1) + j, none⟩ = some (.int .i64 (g : Int)) := by rw [Nat.add_assoc]; exact y0
                clear y0
                obtain ⟨eb, eo, ea, e0, e1, e2, e3, e4, e5⟩ := (hs.below B3) g _ (clA_get hgl)
                simp only [Option.some.injEq, Addr.mk.injEq, and_true] at ea
                obtain ⟨rfl, rfl⟩ := ea
                obtain ⟨y, hy⟩ : ∃ y, clA l g = y := ⟨_, rfl⟩
                have HY : Hid (clA l g = y) := hy
                rw [hy] at e0 e1 e2 e3 e4 e5
                clear hy
                have v0 := celB hB2 m0
                have v1 := celB hB2 m1
                have v2 := celB hB2 m2
                have v3 := celB hB2 m3
                have v4 := celB hB2 m4
                have v5 := celB hB2 m5
                cases hbf : befB false y x with
                | true =>
                  have HE : Hid (rspA l zs = false) := by show _ = _; rw [HR.out]; exact rspB_bad (i := k) (j := k + 1 + j) (by omega) hm (by rw [HGG.out, HF.out, HY.out, HX.out]; exact hbf)
                  clear HJ HO HF HGG
                  go_wp2_with fail
                  have kk : wr.drew.cell? ⟨mb, mo + f * 6, none⟩ = some (.int .i64 x.client) ∧ wr.drew.cell? ⟨mb, mo + f * 6 + 1, none⟩ = some (.int .i64 x.object) ∧ wr.drew.cell? ⟨mb, mo + f * 6 + 2, none⟩ = some (.bool x.write) ∧ wr.drew.cell? ⟨mb, mo + f * 6 + 3, none⟩ = some (.int .i64 x.value) ∧ wr.drew.cell? ⟨mb, mo + f * 6 + 4, none⟩ = some (.int .i64 x.beg) ∧ wr.drew.cell? ⟨mb, mo + f * 6 + 5, none⟩ = some (.int .i64 x.fin) ∧ wr.drew.cell? ⟨mb, mo + g * 6, none⟩ = some (.int .i64 y.client) ∧ wr.drew.cell? ⟨mb, mo + g * 6 + 1, none⟩ = some (.int .i64 y.object) ∧ wr.drew.cell? ⟨mb, mo + g * 6 + 2, none⟩ = some (.bool y.write) ∧ wr.drew.cell? ⟨mb, mo + g * 6 + 3, none⟩ = some (.int .i64 y.value) ∧ wr.drew.cell? ⟨mb, mo + g * 6 + 4, none⟩ = some (.int .i64 y.beg) ∧ wr.drew.cell? ⟨mb, mo + g * 6 + 5, none⟩ = some (.int .i64 y.fin) := ⟨v0, v1, v2, v3, v4, v5, e0, e1, e2, e3, e4, e5⟩
                  go_region_held3 (fun w' => w'.cell? ⟨mb, mo + f * 6, none⟩ = some (.int .i64 x.client) ∧ w'.cell? ⟨mb, mo + f * 6 + 1, none⟩ = some (.int .i64 x.object) ∧ w'.cell? ⟨mb, mo + f * 6 + 2, none⟩ = some (.bool x.write) ∧ w'.cell? ⟨mb, mo + f * 6 + 3, none⟩ = some (.int .i64 x.value) ∧ w'.cell? ⟨mb, mo + f * 6 + 4, none⟩ = some (.int .i64 x.beg) ∧ w'.cell? ⟨mb, mo + f * 6 + 5, none⟩ = some (.int .i64 x.fin) ∧ w'.cell? ⟨mb, mo + g * 6, none⟩ = some (.int .i64 y.client) ∧ w'.cell? ⟨mb, mo + g * 6 + 1, none⟩ = some (.int .i64 y.object) ∧ w'.cell? ⟨mb, mo + g * 6 + 2, none⟩ = some (.bool y.write) ∧ w'.cell? ⟨mb, mo + g * 6 + 3, none⟩ = some (.int .i64 y.value) ∧ w'.cell? ⟨mb, mo + g * 6 + 4, none⟩ = some (.int .i64 y.beg) ∧ w'.cell? ⟨mb, mo + g * 6 + 5, none⟩ = some (.int .i64 y.fin))
                    (first | exact kk | go_keep)
                    (first | (go_at_call 25; refine (endsB_c y x _ _ hbf).mono ?_; rintro r wa ⟨rfl, hBa⟩; have Ba : Below wr.heap.size wr wa := stHi (Below.refl _ _).drew hBa; have kk : wa.cell? ⟨mb, mo + f * 6, none⟩ = some (.int .i64 x.client) ∧ wa.cell? ⟨mb, mo + f * 6 + 1, none⟩ = some (.int .i64 x.object) ∧ wa.cell? ⟨mb, mo + f * 6 + 2, none⟩ = some (.bool x.write) ∧ wa.cell? ⟨mb, mo + f * 6 + 3, none⟩ = some (.int .i64 x.value) ∧ wa.cell? ⟨mb, mo + f * 6 + 4, none⟩ = some (.int .i64 x.beg) ∧ wa.cell? ⟨mb, mo + f * 6 + 5, none⟩ = some (.int .i64 x.fin) ∧ wa.cell? ⟨mb, mo + g * 6, none⟩ = some (.int .i64 y.client) ∧ wa.cell? ⟨mb, mo + g * 6 + 1, none⟩ = some (.int .i64 y.object) ∧ wa.cell? ⟨mb, mo + g * 6 + 2, none⟩ = some (.bool y.write) ∧ wa.cell? ⟨mb, mo + g * 6 + 3, none⟩ = some (.int .i64 y.value) ∧ wa.cell? ⟨mb, mo + g * 6 + 4, none⟩ = some (.int .i64 y.beg) ∧ wa.cell? ⟨mb, mo + g * 6 + 5, none⟩ = some (.int .i64 y.fin) := by obtain ⟨t0, t1, t2, t3, t4, t5, t6, t7, t8, t9, t10, t11⟩ := kk; exact ⟨celB hBa t0, celB hBa t1, celB hBa t2, celB hBa t3, celB hBa t4, celB hBa t5, celB hBa t6, celB hBa t7, celB hBa t8, celB hBa t9, celB hBa t10, celB hBa t11⟩))
                  go_wp2
                  refine bodyPost_ret (v := .tuple #[.bool false, .bool true]) (by simp [results, Tryd.results7, go_sem]) rfl ⟨by rw [HE.out, HI.out], stHi B3 Ba⟩
                | false =>
                  have HN : Hid (∀ t, k < t → t < k + 1 + (j + 1) → befB false (clA l (zA zs t).toNat) (clA l (zA zs k).toNat) = false) := fun t h1 h2 => by
                    by_cases e : t = k + 1 + j
                    · subst e; rw [HGG.out, HF.out, HY.out, HX.out]; exact hbf
                    · exact HJ.out t h1 (by omega)
                  clear HJ HO HF HGG
                  go_wp2_with fail
                  have kk : wr.drew.cell? ⟨mb, mo + f * 6, none⟩ = some (.int .i64 x.client) ∧ wr.drew.cell? ⟨mb, mo + f * 6 + 1, none⟩ = some (.int .i64 x.object) ∧ wr.drew.cell? ⟨mb, mo + f * 6 + 2, none⟩ = some (.bool x.write) ∧ wr.drew.cell? ⟨mb, mo + f * 6 + 3, none⟩ = some (.int .i64 x.value) ∧ wr.drew.cell? ⟨mb, mo + f * 6 + 4, none⟩ = some (.int .i64 x.beg) ∧ wr.drew.cell? ⟨mb, mo + f * 6 + 5, none⟩ = some (.int .i64 x.fin) ∧ wr.drew.cell? ⟨mb, mo + g * 6, none⟩ = some (.int .i64 y.client) ∧ wr.drew.cell? ⟨mb, mo + g * 6 + 1, none⟩ = some (.int .i64 y.object) ∧ wr.drew.cell? ⟨mb, mo + g * 6 + 2, none⟩ = some (.bool y.write) ∧ wr.drew.cell? ⟨mb, mo + g * 6 + 3, none⟩ = some (.int .i64 y.value) ∧ wr.drew.cell? ⟨mb, mo + g * 6 + 4, none⟩ = some (.int .i64 y.beg) ∧ wr.drew.cell? ⟨mb, mo + g * 6 + 5, none⟩ = some (.int .i64 y.fin) := ⟨v0, v1, v2, v3, v4, v5, e0, e1, e2, e3, e4, e5⟩
                  go_region_held3 (fun w' => w'.cell? ⟨mb, mo + f * 6, none⟩ = some (.int .i64 x.client) ∧ w'.cell? ⟨mb, mo + f * 6 + 1, none⟩ = some (.int .i64 x.object) ∧ w'.cell? ⟨mb, mo + f * 6 + 2, none⟩ = some (.bool x.write) ∧ w'.cell? ⟨mb, mo + f * 6 + 3, none⟩ = some (.int .i64 x.value) ∧ w'.cell? ⟨mb, mo + f * 6 + 4, none⟩ = some (.int .i64 x.beg) ∧ w'.cell? ⟨mb, mo + f * 6 + 5, none⟩ = some (.int .i64 x.fin) ∧ w'.cell? ⟨mb, mo + g * 6, none⟩ = some (.int .i64 y.client) ∧ w'.cell? ⟨mb, mo + g * 6 + 1, none⟩ = some (.int .i64 y.object) ∧ w'.cell? ⟨mb, mo + g * 6 + 2, none⟩ = some (.bool y.write) ∧ w'.cell? ⟨mb, mo + g * 6 + 3, none⟩ = some (.int .i64 y.value) ∧ w'.cell? ⟨mb, mo + g * 6 + 4, none⟩ = some (.int .i64 y.beg) ∧ w'.cell? ⟨mb, mo + g * 6 + 5, none⟩ = some (.int .i64 y.fin))
                    (first | exact kk | go_keep)
                    (first | (go_at_call 25; refine (endsB_c y x _ _ hbf).mono ?_; rintro r wa ⟨rfl, hBa⟩; have Ba : Below wr.heap.size wr wa := stHi (Below.refl _ _).drew hBa; have kk : wa.cell? ⟨mb, mo + f * 6, none⟩ = some (.int .i64 x.client) ∧ wa.cell? ⟨mb, mo + f * 6 + 1, none⟩ = some (.int .i64 x.object) ∧ wa.cell? ⟨mb, mo + f * 6 + 2, none⟩ = some (.bool x.write) ∧ wa.cell? ⟨mb, mo + f * 6 + 3, none⟩ = some (.int .i64 x.value) ∧ wa.cell? ⟨mb, mo + f * 6 + 4, none⟩ = some (.int .i64 x.beg) ∧ wa.cell? ⟨mb, mo + f * 6 + 5, none⟩ = some (.int .i64 x.fin) ∧ wa.cell? ⟨mb, mo + g * 6, none⟩ = some (.int .i64 y.client) ∧ wa.cell? ⟨mb, mo + g * 6 + 1, none⟩ = some (.int .i64 y.object) ∧ wa.cell? ⟨mb, mo + g * 6 + 2, none⟩ = some (.bool y.write) ∧ wa.cell? ⟨mb, mo + g * 6 + 3, none⟩ = some (.int .i64 y.value) ∧ wa.cell? ⟨mb, mo + g * 6 + 4, none⟩ = some (.int .i64 y.beg) ∧ wa.cell? ⟨mb, mo + g * 6 + 5, none⟩ = some (.int .i64 y.fin) := by obtain ⟨t0, t1, t2, t3, t4, t5, t6, t7, t8, t9, t10, t11⟩ := kk; exact ⟨celB hBa t0, celB hBa t1, celB hBa t2, celB hBa t3, celB hBa t4, celB hBa t5, celB hBa t6, celB hBa t7, celB hBa t8, celB hBa t9, celB hBa t10, celB hBa t11⟩))
                  go_wp2
                  go_roundw
                  case rel => exact ⟨j + 1, by omega, by go_num, HN.out, stHi hB2 Ba⟩
                  case measure => simp [intOf]; omega
              · obtain rfl : j = zs.length - (k + 1) := by omega
                have HO1 : Hid (rtTo l zs (k + 1)) := rtTo_succ HO.out (fun t h1 h2 => HJ.out t h1 (by omega))
                go_wp2
                go_roundw
                case rel => exact ⟨k + 1, by omega, by go_num, HO1.out, B2⟩
                case measure => simp [intOf]; omega
        · obtain rfl : k = zs.length := by omega
          have HE : Hid (rspA l zs = true) := by show _ = _; rw [HR.out]; exact rspB_done HO.out
          go_wp2
          refine bodyPost_ret (v := .tuple #[.bool true, .bool true]) (by simp [results, Tryd.results7, go_sem]) rfl ⟨by rw [HE.out, HI.out], B1⟩


end Go.Proofs.YtmbfdonefpegeaaDoor
