/-
  Histories, the program's side: impl.OnObject, impl.OverlapsIn. Made by mkhii2.py out of HiS3.
-/
import Derived.Test.YtmbfdonefpegeaaDoorHiI2J
import Derived.Test.YtmbfdonefpegeaaDoorHiS3
namespace Go.Proofs.YtmbfdonefpegeaaDoor
open Go.RowKit

theorem ovB_comm (x y : Cl) : ovB x y = ovB y x := by unfold ovB; rw [Bool.and_comm]

set_option maxRecDepth 100000 in
set_option maxHeartbeats 4000000 in
theorem implOnObject_any (z : Int) (a : Option Addr) (c : Nat) (l : List Cl) (w : World) (hs : Cls w a l) (hl : l.length ≤ maxLen) (hc : l.length ≤ c) :
    Calls Tryd.prog 12 #[.slice a l.length c, .int .i64 z] w fun r w' => ∃ a' c', r = .returned (.tuple #[.slice a' (onL l z).length c', .bool (onB l z)]) ∧ Cls w' a' (onL l z) ∧ RowCl w' w.heap.size a' (onL l z).length ∧ Below w.heap.size w w' := by
  have hl' := hl
  unfold maxLen at hl'
  obtain ⟨i0, hi, hz0, hz1, hz2⟩ := infoZ Tryd.infoCl
  cases hg : goodCl l with
  | false =>
    have HE : Hid (onL l z = [] ∧ onB l z = false) := by show _ ∧ _; simp [onL, onB, hg]
    go_enter Tryd.func12, Tryd.ntmps12
    go_wp2_with fail
    refine (implGoodCl_c _ _ _ _ hs hl hc _ hg).mono ?_
    rintro r w1 ⟨rfl, BB⟩
    go_wp2
    refine bodyPost_ret (v := .tuple #[.slice none 0 0, .bool false]) (by simp [results, Tryd.results12, go_sem]) rfl ⟨none, 0, by rw [HE.out.1, HE.out.2]; rfl, by rw [HE.out.1]; exact Cls.nil _ _, .inl (by rw [HE.out.1]; rfl), BB⟩
  | true =>
    cases ho : inB z 0 2 with
    | false =>
      have HE : Hid (onL l z = [] ∧ onB l z = false) := by show _ ∧ _; simp [onL, onB, ho]
      go_enter Tryd.func12, Tryd.ntmps12
      go_wp2_with fail
      refine (implGoodCl_c _ _ _ _ hs hl hc _ hg).mono ?_
      rintro r w1 ⟨rfl, BB⟩
      go_wp2_with (go_at_call 30; refine (within_c _ _ _ _ ho).mono ?_; rintro e w' ⟨rfl, hw⟩; rw [hw]; clear hw w')
      refine bodyPost_ret (v := .tuple #[.slice none 0 0, .bool false]) (by simp [results, Tryd.results12, go_sem]) rfl ⟨none, 0, by rw [HE.out.1, HE.out.2]; rfl, by rw [HE.out.1]; exact Cls.nil _ _, .inl (by rw [HE.out.1]; rfl), BB⟩
    | true =>
      have HE : Hid (onL l z = onTo l z l.length ∧ onB l z = true) := by show _ ∧ _; simp [onL, onB, hg, ho]
      have h7 := (goodCl_t hg).2
      go_enter Tryd.func12, Tryd.ntmps12
      go_wp2_with fail
      refine (implGoodCl_c _ _ _ _ hs hl hc _ hg).mono ?_
      rintro r w1 ⟨rfl, BB⟩
      go_wp2_with (go_at_call 30; refine (within_c _ _ _ _ ho).mono ?_; rintro e w' ⟨rfl, hw⟩; rw [hw]; clear hw w')
      go_loopw [6, 19] (fun v i wr => ∃ k : Nat, k ≤ l.length ∧ i = .int .i64 k ∧ ClSt w1.heap.size w1 wr v (onTo l z k)) (fun _ i _ => l.length - (intOf i).toNat)
      case atStart => exact ⟨0, Nat.zero_le _, rfl, ⟨World.ownsRow_nil _ _ _ _, Below.refl _ _⟩⟩
      case round =>
        obtain ⟨k, hk, rfl, hst⟩ := hrel
        obtain ⟨aw, cw, rfl⟩ := ownsZ_form hst.own
        have hzl := onTo_len l z k
        have hB := hst.bel
        have hsz := hB.size
        have B1 := stHi BB hB
        by_cases hlt : k < l.length
        · obtain ⟨mb, mo, ea, m0, m1, m2, m3, m4, m5⟩ := (hs.below B1) k _ (clA_get hlt)
          subst ea
          obtain ⟨x, hx⟩ : ∃ x, clA l k = x := ⟨_, rfl⟩
          have HX : Hid (clA l k = x) := hx
          rw [hx] at m0 m1 m2 m3 m4 m5
          clear hx
          have hki : (k : Int) < (l.length : Int) := by omega
          by_cases hob : x.object = z
          · have HN : Hid (onTo l z (k + 1) = onTo l z k ++ [x]) := by show _ = _; rw [onTo_t (by rw [HX.out]; exact hob), HX.out]
            have hd : (x.object == z) = true := by simp [hob]
            generalize onTo l z k = zs at *
            have hst2 : ∀ p q, ClSt w1.heap.size w1 ((wr.alloc p).alloc q) (.slice aw zs.length cw) zs := fun p q => clSt_below (clSt_below hst (alHi wr p)) (alHi _ q)
            clear hst hob
            go_wp2_with (at_builtin; refine wpList_append_lies _ rfl _ _ 23 rfl w1.heap.size 53 i0 _ 6 48 Tryd.underlying23 hi hz0 hz1 hz2 rfl (by decide) (.slice aw zs.length cw) zs.length (zs.flatMap clC) rfl (hst2 _ _).own ⟨wr.heap.size + 1, 0, none⟩ 1 1 (clC x) rfl rfl ?c1 (clC_one x) (by omega) ?c3 ?c4 ?c5 (wr.heap.size + 1 + 1) ?c6 ?_)
            case c1 => first | exact (fun j u h => h) | exact World.news_of_block (cs := #[.int .i64 x.client, .int .i64 x.object, .bool x.write, .int .i64 x.value, .int .i64 x.beg, .int .i64 x.fin]) (t := 53) (fr := (0, 0)) (by first | exact (heap_alloc_new (wr.alloc _) _) | simpa using (heap_alloc_new (wr.alloc _) _))
            case c3 => unfold maxLen; omega
            case c4 => omega
            case c5 => first | omega | (simp; omega)
            try (case c6 => simp)
            intro g4 cap4 w4 hown4 hgrow4 hat4 _
            have HS4 : Hid (ClSt w1.heap.size w1 w4 (.slice (some ⟨g4, 0, none⟩) (zs.length + 1) cap4) (zs ++ [x])) := clSt_step (hst2 _ _) (Nat.le_refl _) hgrow4 hown4
            clear hown4 hgrow4 hat4 hst2 m0 m1 m2 m3 m4 m5
            go_wp2_with fail
            go_roundw
            case rel => exact ⟨k + 1, by omega, by go_num, by rw [HN.out]; exact HS4.out⟩
            case measure => simp [intOf]; omega
          · have HN : Hid (onTo l z (k + 1) = onTo l z k) := onTo_f (by rw [HX.out]; exact hob)
            have hd : (x.object == z) = false := by simp [hob]
            generalize onTo l z k = zs at *
            have HS : Hid (∀ p, ClSt w1.heap.size w1 (wr.alloc p) (.slice aw zs.length cw) zs) := fun p => clSt_below hst (alHi wr p)
            clear hst hob
            go_wp2
            go_roundw
            case rel => exact ⟨k + 1, by omega, by go_num, by rw [HN.out]; exact HS.out _⟩
            case measure => simp [intOf]; omega
        · obtain rfl : k = l.length := by omega
          have HC := cls_of_owns hst.own
          have HR := rowCl_of_owns hst.own
          rw [← HE.out.1] at HC HR
          obtain ⟨n, hn⟩ : ∃ n, (onTo l z l.length).length = n := ⟨_, rfl⟩
          have HN : Hid ((onL l z).length = n) := by show _ = _; rw [HE.out.1]; exact hn
          rw [hn]
          clear hn hst
          go_wp2
          refine bodyPost_ret (v := .tuple #[.slice aw n cw, .bool true]) (by simp [results, Tryd.results12, go_sem]) rfl ⟨aw, cw, by rw [HN.out, HE.out.2], HC, HR.mono BB.size, B1⟩


set_option maxRecDepth 100000 in
set_option maxHeartbeats 4000000 in
theorem implOverlapsIn_any (a : Option Addr) (c : Nat) (l : List Cl) (w : World) (hs : Cls w a l) (hl : l.length ≤ maxLen) (hc : l.length ≤ c) :
    Calls Tryd.prog 10 #[.slice a l.length c] w fun r w' => r = .returned (.tuple #[.int .i64 (ovA l), .bool (goodCl l)]) ∧ Below w.heap.size w w' := by
  have hl' := hl
  unfold maxLen at hl'
  cases hg : goodCl l with
  | false =>
    have HE : Hid (ovA l = 0) := by show _ = _; simp [ovA, hg]
    go_enter Tryd.func10, Tryd.ntmps10
    go_wp2_with fail
    refine (implGoodCl_c _ _ _ _ hs hl hc _ hg).mono ?_
    rintro r w1 ⟨rfl, BB⟩
    go_wp2
    refine bodyPost_ret (v := .tuple #[.int .i64 0, .bool false]) (by simp [results, Tryd.results10, go_sem]) rfl ⟨by rw [HE.out], BB⟩
  | true =>
    have HE : Hid (ovA l = ((ovTo l l.length : Nat) : Int)) := by show _ = _; simp [ovA, hg]
    have h7 := (goodCl_t hg).2
    go_enter Tryd.func10, Tryd.ntmps10
    go_wp2_with fail
    refine (implGoodCl_c _ _ _ _ hs hl hc _ hg).mono ?_
    rintro r w1 ⟨rfl, BB⟩
    go_wp2
    go_loopw [4, 14] (fun s i wr => ∃ k n : Nat, k ≤ l.length ∧ i = .int .i64 k ∧ s = .int .i64 n ∧ Hid (ovTo l k = n) ∧ Below w1.heap.size w1 wr) (fun _ i _ => l.length - (intOf i).toNat)
    case atStart => exact ⟨0, 0, Nat.zero_le _, rfl, rfl, rfl, Below.refl _ _⟩
    case round =>
      obtain ⟨k, n, hk, rfl, rfl, HN, hB⟩ := hrel
      have B1 := stHi BB hB
      have hn49 : n ≤ 49 := by have := ovTo_le l k (by omega); rw [HN.out] at this; omega
      by_cases hlt : k < l.length
      · obtain ⟨mb, mo, ea, m0, m1, m2, m3, m4, m5⟩ := (hs.below B1) k _ (clA_get hlt)
        subst ea
        obtain ⟨x, hx⟩ : ∃ x, clA l k = x := ⟨_, rfl⟩
        have HX : Hid (clA l k = x) := hx
        rw [hx] at m0 m1 m2 m3 m4 m5
        clear hx
        have hki : (k : Int) < (l.length : Int) := by omega
        have hkc : (k : Int) ≤ (c : Int) := by omega
        obtain ⟨u1, hu1⟩ : ∃ u, (wr.alloc (.cells #[.int .i64 x.client, .int .i64 x.object, .bool x.write, .int .i64 x.value, .int .i64 x.beg, .int .i64 x.fin] 53)) = u := ⟨_, rfl⟩
        have q0 : u1.cell? ⟨wr.heap.size, 0, none⟩ = some (.int .i64 x.client) := by rw [← hu1]; simp [go_sem]
        have q1 : u1.cell? ⟨wr.heap.size, 1, none⟩ = some (.int .i64 x.object) := by rw [← hu1]; simp [go_sem]
        have q2 : u1.cell? ⟨wr.heap.size, 2, none⟩ = some (.bool x.write) := by rw [← hu1]; simp [go_sem]
        have q3 : u1.cell? ⟨wr.heap.size, 3, none⟩ = some (.int .i64 x.value) := by rw [← hu1]; simp [go_sem]
        have q4 : u1.cell? ⟨wr.heap.size, 4, none⟩ = some (.int .i64 x.beg) := by rw [← hu1]; simp [go_sem]
        have q5 : u1.cell? ⟨wr.heap.size, 5, none⟩ = some (.int .i64 x.fin) := by rw [← hu1]; simp [go_sem]
        have BU : Below wr.heap.size wr u1 := by rw [← hu1]; exact alHi _ _
        have B1u := stHi hB BU
        go_wp2
        go_loopw [4, 23] (fun s i wr2 => ∃ j p : Nat, j ≤ k ∧ i = .int .i64 j ∧ s = .int .i64 ((n + p : Nat) : Int) ∧ Hid (ovN l x j = p) ∧ Below u1.heap.size u1 wr2) (fun _ i _ => k - (intOf i).toNat)
        case atStart => exact ⟨0, 0, Nat.zero_le _, rfl, rfl, rfl, by first | exact Below.refl _ _ | (rw [hu1]; exact Below.refl _ _)⟩
        case round =>
          clear hu1
          obtain ⟨j, p, hj, rfl, rfl, HP, hB2⟩ := hrel
          have p0 := celB hB2 q0
          have p1 := celB hB2 q1
          have p2 := celB hB2 q2
          have p3 := celB hB2 q3
          have p4 := celB hB2 q4
          have p5 := celB hB2 q5
          have B2 := stHi (stHi B1 BU) hB2
          have B2u := stHi B1u hB2
          have hp7 : p ≤ 7 := by have := ovN_le l x j; rw [HP.out] at this; omega
          by_cases hlt2 : j < k
          · obtain ⟨eb, eo, ea, e0, e1, e2, e3, e4, e5⟩ := (hs.below B2) j _ (clA_get (by omega))
            simp only [Option.some.injEq, Addr.mk.injEq, and_true] at ea
            obtain ⟨rfl, rfl⟩ := ea
            obtain ⟨y, hy⟩ : ∃ y, clA l j = y := ⟨_, rfl⟩
            have HY : Hid (clA l j = y) := hy
            rw [hy] at e0 e1 e2 e3 e4 e5
            clear hy
            have hji : (j : Int) < (k : Int) := by omega
            have r0 := fun o => celB (alHi wr o) p0
            have r1 := fun o => celB (alHi wr o) p1
            have r2 := fun o => celB (alHi wr o) p2
            have r3 := fun o => celB (alHi wr o) p3
            have r4 := fun o => celB (alHi wr o) p4
            have r5 := fun o => celB (alHi wr o) p5
            have HS : Hid (ovN l x (j + 1) = p + (if ovB x y = true then 1 else 0)) := by show _ = _; rw [ovN, HP.out, HY.out]
            cases f1 : ovB x y with
            | true =>
              have HF : Hid (ovN l x (j + 1) = p + 1) := by show _ = _; rw [HS.out, f1]; rfl
              have hnp : ((n + p : Nat) : Int) + 1 = ((n + (p + 1) : Nat) : Int) := by omega
              have hov : ovB y x = true := by rw [ovB_comm]; exact f1
              clear f1
              go_wp2_with fail
              refine (overlaps_c x y _ _ hov).mono ?_
              rintro r9 w9 ⟨rfl, hB9⟩
              have B9 := stHi (stHi hB2 (alHi _ _)) hB9
              clear hB9
              go_wp2
              go_roundw
              case rel => exact ⟨j + 1, p + 1, by omega, by go_num, by first | rfl | go_num, HF.out, B9⟩
              case measure => simp [intOf]; omega
            | false =>
              have HF : Hid (ovN l x (j + 1) = p) := by show _ = _; rw [HS.out, f1]; rfl
              have hov : ovB y x = false := by rw [ovB_comm]; exact f1
              clear f1
              go_wp2_with fail
              refine (overlaps_c x y _ _ hov).mono ?_
              rintro r9 w9 ⟨rfl, hB9⟩
              have B9 := stHi (stHi hB2 (alHi _ _)) hB9
              clear hB9
              go_wp2
              go_roundw
              case rel => exact ⟨j + 1, p, by omega, by go_num, by first | rfl | go_num, HF.out, B9⟩
              case measure => simp [intOf]; omega
          · obtain rfl : j = k := by omega
            have HF : Hid (ovTo l (j + 1) = n + p) := by show _ = _; rw [ovTo, HN.out, HX.out, HP.out]
            go_wp2
            go_roundw
            case rel => exact ⟨j + 1, n + p, by omega, by go_num, rfl, HF.out, B2u⟩
            case measure => simp [intOf]; omega
      · obtain rfl : k = l.length := by omega
        go_wp2
        refine bodyPost_ret (v := .tuple #[.int .i64 (n : Int), .bool true]) (by simp [results, Tryd.results10, go_sem]) rfl ⟨by rw [HE.out, HN.out], B1⟩


end Go.Proofs.YtmbfdonefpegeaaDoor
