/-
  Groups that read, the specification's side: l14Share, l14Same.
-/
import Derived.Test.YtgiekkipkgdjaaaRgM
import Derived.Test.YtgiekkipkgdjaaaQSpec
import Derived.Test.YtgiekkipkgdjaaaZan
import Derived.Test.YtgiekkipkgdjaaaAppZ
import Derived.WalkMore
namespace Go.Proofs.Ytgiekkipkgdjaaa
open Go.RowKit

theorem shTo_t {m pl p : Nat} (h : 0 < m ∧ p % m = pl) : shTo m pl (p + 1) = shTo m pl p ++ [(p : Int)] := by rw [shTo, if_pos h]
theorem shTo_f {m pl p : Nat} (h : ¬ (0 < m ∧ p % m = pl)) : shTo m pl (p + 1) = shTo m pl p := by rw [shTo, if_neg h, List.append_nil]

set_option maxRecDepth 100000 in
set_option maxHeartbeats 4000000 in
theorem l14Share_any (s : Rg) (k : Nat) (a0 a1 a2 : Option Addr) (c0 c1 c2 : Nat) (w : World) (hs : Rxs w a0 s.rds) (hk : k < s.rds.length) (hn : s.rds.length ≤ 1000) (he : s.ends.length ≤ 1000) :
    Calls Try.prog 65 #[rgV s a0 c0 a1 c1 a2 c2, .int .i64 (k : Int)] w fun e w' => ∃ a' c', e = .returned (.slice a' (shareL s k).length c') ∧ Ints w' a' (shareL s k) ∧ Below w.heap.size w w' := by
  obtain ⟨i0, hi, hz0, hz1, hz2⟩ := infoZ Try.infoInt
  obtain ⟨u0, hu0⟩ : ∃ u0, (w.alloc (.cells #[.int .i64 s.gen, .slice a0 s.rds.length c0, .slice a1 s.com.length c1, .slice a2 s.ends.length c2] 25)) = u0 := ⟨_, rfl⟩
  have q1 : u0.cell? ⟨w.heap.size, 1, none⟩ = some (.slice a0 s.rds.length c0) := by rw [← hu0]; simp [go_sem]
  have q3 : u0.cell? ⟨w.heap.size, 3, none⟩ = some (.slice a2 s.ends.length c2) := by rw [← hu0]; simp [go_sem]
  have bB : Below w.heap.size w u0 := by rw [← hu0]; exact alRg _ _
  go_enter Try.func65, Try.ntmps65
  go_wp2
  clear hu0
  go_loopw [5, 6, 14] (fun m pl i wr => ∃ j : Nat, j ≤ s.rds.length ∧ i = .int .i64 j ∧ m = .int .i64 ((manyTo s.rds j : Nat) : Int) ∧ pl = .int .i64 (((if k < j then manyTo s.rds k else 0 : Nat)) : Int) ∧ Below u0.heap.size u0 wr) (fun _ _ i _ => s.rds.length - (intOf i).toNat)
  case atStart => exact ⟨0, Nat.zero_le _, rfl, rfl, by simp, Below.refl _ _⟩
  case round =>
    obtain ⟨j, hj, rfl, rfl, rfl, hB⟩ := hrel
    have p3 := celB hB q3
    have hml := manyTo_le s.rds j
    by_cases hlt : j < s.rds.length
    · obtain ⟨kb, ob, rfl, r2, k2, r3, k3, e0, e1, e2, e3, z2, m2, z3, m3⟩ := ((hs.below bB).below hB) j _ (rxA_get hlt)
      have hji : (j : Int) < (s.rds.length : Int) := by omega
      have HM : Hid (manyTo s.rds (j + 1) = manyTo s.rds j + if (rxA s.rds j).inn = true then 1 else 0) := rfl
      have HP : Hid ((if k < j + 1 then manyTo s.rds k else 0) = if j = k then manyTo s.rds j else (if k < j then manyTo s.rds k else 0)) := by
        show _ = _
        by_cases e : j = k
        · subst e; simp
        · rw [if_neg e]
          by_cases h : k < j
          · rw [if_pos h, if_pos (by omega)]
          · rw [if_neg h, if_neg (by omega)]
      obtain ⟨x, hx⟩ : ∃ x, rxA s.rds j = x := ⟨_, rfl⟩
      obtain ⟨M, hM⟩ : ∃ M, manyTo s.rds j = M := ⟨_, rfl⟩
      obtain ⟨Q, hQ⟩ : ∃ Q : Nat, (if k < j then manyTo s.rds k else 0) = Q := ⟨_, rfl⟩
      rw [hM, hQ] at HP
      rw [hM, hx] at HM
      rw [hM] at hml
      rw [hM, hQ]
      rw [hx] at e0 e1 e2 e3
      obtain ⟨b, hb⟩ : ∃ b, x.inn = b := ⟨_, rfl⟩
      rw [hb] at e0 HM
      clear hx hM hQ hb z2 z3 m2 m3
      by_cases e : j = k
      · have d : (((j : Nat) : Int) == (k : Int)) = true := by simp [e]
        have HP' : Hid ((if k < j + 1 then manyTo s.rds k else 0) = M) := by show _ = _; rw [HP.out, if_pos e]
        clear HP e
        cases b
        · have HM' : Hid (manyTo s.rds (j + 1) = M) := by show _ = _; rw [HM.out]; simp
          go_wp2
          go_roundw
          case rel => exact ⟨j + 1, by omega, by go_num, by rw [HM'.out], by rw [HP'.out], stRg hB (alRg _ _)⟩
          case measure => simp [intOf]; omega
        · have HM' : Hid (manyTo s.rds (j + 1) = M + 1) := by show _ = _; rw [HM.out]; simp
          go_wp2
          go_roundw
          case rel => exact ⟨j + 1, by omega, by go_num, by rw [HM'.out]; go_num, by rw [HP'.out], stRg hB (alRg _ _)⟩
          case measure => simp [intOf]; omega
      · have d : (((j : Nat) : Int) == (k : Int)) = false := by rw [beq_eq_false_iff_ne]; omega
        have HP' : Hid ((if k < j + 1 then manyTo s.rds k else 0) = Q) := by show _ = _; rw [HP.out, if_neg e]
        clear HP e
        cases b
        · have HM' : Hid (manyTo s.rds (j + 1) = M) := by show _ = _; rw [HM.out]; simp
          go_wp2
          go_roundw
          case rel => exact ⟨j + 1, by omega, by go_num, by rw [HM'.out], by rw [HP'.out], stRg hB (alRg _ _)⟩
          case measure => simp [intOf]; omega
        · have HM' : Hid (manyTo s.rds (j + 1) = M + 1) := by show _ = _; rw [HM.out]; simp
          go_wp2
          go_roundw
          case rel => exact ⟨j + 1, by omega, by go_num, by rw [HM'.out]; go_num, by rw [HP'.out], stRg hB (alRg _ _)⟩
          case measure => simp [intOf]; omega
    · obtain rfl : j = s.rds.length := by omega
      rw [if_pos hk]
      have HS : Hid (shareL s k = shTo (manyTo s.rds s.rds.length) (manyTo s.rds k) s.ends.length) := rfl
      have hkl := manyTo_le s.rds k
      obtain ⟨M, hM⟩ : ∃ M, manyTo s.rds s.rds.length = M := ⟨_, rfl⟩
      obtain ⟨Q, hQ⟩ : ∃ Q : Nat, manyTo s.rds k = Q := ⟨_, rfl⟩
      rw [hM] at hml
      rw [hQ] at hkl
      rw [hM, hQ] at HS ⊢
      have B1 : Below w.heap.size w wr := stRg bB hB
      clear hM hQ
      go_wp2
      go_loopw [9, 31] (fun v i wr => ∃ p : Nat, p ≤ s.ends.length ∧ i = .int .i64 p ∧ ZSt w.heap.size w wr v (shTo M Q p)) (fun _ i _ => s.ends.length - (intOf i).toNat)
      case atStart => exact ⟨0, Nat.zero_le _, rfl, ⟨World.ownsRow_nil _ _ _ _, B1⟩⟩
      case round =>
        clear p3 B1 hB
        obtain ⟨p, hp, rfl, hst⟩ := hrel
        obtain ⟨aw, cw, rfl⟩ := ownsZ_form hst.own
        have hzl := shTo_len M Q p
        have hB := hst.bel
        have hsz := hB.size
        by_cases hlt : p < s.ends.length
        · have hpi : (p : Int) < (s.ends.length : Int) := by omega
          by_cases h0 : 0 < M
          · have h0' : (0 : Int) < (M : Int) := by omega
            have hM0 : ((M : Int) == 0) = false := by rw [beq_eq_false_iff_ne]; omega
            have hrm : Int.tmod (p : Int) (M : Int) = ((p % M : Nat) : Int) := rfl
            have hmlt := Nat.mod_lt p h0
            by_cases he : p % M = Q
            · have d : (((p % M : Nat) : Int) == (Q : Int)) = true := by simp [he]
              have d' : (((p : Int).tmod (M : Int)) == (Q : Int)) = true := by rw [hrm]; exact d
              have HN : Hid (shTo M Q (p + 1) = shTo M Q p ++ [(p : Int)]) := shTo_t ⟨h0, he⟩
              clear he
              generalize shTo M Q p = zs at *
              have hst2 : ∀ y, ZSt w.heap.size w (wr.alloc y) (.slice aw zs.length cw) zs := fun y => zst_below hst (alRg wr y)
              clear hst
              go_wp2_with (at_builtin; refine wpList_append_lies _ rfl _ _ 22 rfl w.heap.size 3 i0 _ 1 8 Try.underlying22 hi hz0 hz1 hz2 rfl (by decide) (.slice aw zs.length cw) zs.length (zCells zs) rfl (hst2 _).own ⟨wr.heap.size, 0, none⟩ 1 1 (zCells [(p : Int)]) rfl rfl ?c1 ?c2 (by omega) ?c3 ?c4 ?c5 (wr.heap.size + 1) ?c6 ?_)
              case c1 => first | exact (fun j u h => h) | exact World.news_of_block (cs := #[.int .i64 (p : Int)]) (t := 3) (fr := (0, 0)) (by first | exact (heap_alloc_new wr _) | simpa using (heap_alloc_new wr _))
              case c2 => simp [zCells, Value.oneCell']
              case c3 => unfold maxLen; omega
              case c4 => omega
              case c5 => first | omega | (simp; omega)
              try (case c6 => simp)
              intro g4 cap4 w4 hown4 hgrow4 hat4 _
              have HS4 : Hid (ZSt w.heap.size w w4 (.slice (some ⟨g4, 0, none⟩) (zs.length + 1) cap4) (zs ++ [(p : Int)])) := zst_step (q := (p : Int)) (hst2 _) (Nat.le_refl _) hgrow4 hown4
              clear hown4 hgrow4 hat4 hst2
              go_wp2_with fail
              go_roundw
              case rel => exact ⟨p + 1, by omega, by go_num, by rw [HN.out]; exact HS4.out⟩
              case measure => simp [intOf]; omega
            · have d : (((p % M : Nat) : Int) == (Q : Int)) = false := by rw [beq_eq_false_iff_ne]; omega
              have d' : (((p : Int).tmod (M : Int)) == (Q : Int)) = false := by rw [hrm]; exact d
              have HN : Hid (shTo M Q (p + 1) = shTo M Q p) := shTo_f (fun h => he h.2)
              have HST : Hid (ZSt w.heap.size w wr (.slice aw (shTo M Q p).length cw) (shTo M Q p)) := hst
              clear he hst
              generalize shTo M Q p = zs at *
              go_wp2
              go_roundw
              case rel => exact ⟨p + 1, by omega, by go_num, by rw [HN.out]; exact HST.out⟩
              case measure => simp [intOf]; omega
          · have h0' : ¬ (0 : Int) < (M : Int) := by omega
            have HN : Hid (shTo M Q (p + 1) = shTo M Q p) := shTo_f (fun h => h0 h.1)
            have HST : Hid (ZSt w.heap.size w wr (.slice aw (shTo M Q p).length cw) (shTo M Q p)) := hst
            clear hst
            generalize shTo M Q p = zs at *
            go_wp2
            go_roundw
            case rel => exact ⟨p + 1, by omega, by go_num, by rw [HN.out]; exact HST.out⟩
            case measure => simp [intOf]; omega
        · obtain rfl : p = s.ends.length := by omega
          have HI := (ints_of_owns hst.own).1
          rw [← HS.out] at HI
          have HL : Hid ((shareL s k).length = (shTo M Q s.ends.length).length) := by show _ = _; rw [HS.out]
          generalize (shTo M Q s.ends.length).length = n at *
          clear hst
          go_wp2
          exact bodyPost_ret (v := .slice aw n cw) (by simp [results, Try.results65, go_sem]) rfl ⟨aw, cw, by rw [HL.out], HI, hB⟩

theorem l6Has_g (a a2 : Option Addr) (c c2 : Nat) (xs ys : List Int) (b : Bool) (w : World) (hx : Ints w a xs) (hy : Ints w a2 ys) (hl : xs.length ≤ maxLen) (hl2 : ys.length ≤ maxLen) (h : hasL xs ys = b) :
    Calls Try.prog 85 #[.slice a xs.length c, .slice a2 ys.length c2] w fun e w' => e = .returned (.bool b) ∧ w' = w := by
  rw [← h]; exact l6Has_any a a2 c c2 xs ys w hx hy hl hl2

theorem l14Same_any (a a2 : Option Addr) (c c2 : Nat) (xs ys : List Int) (w : World) (hx : Ints w a xs) (hy : Ints w a2 ys) (hl : xs.length ≤ maxLen) (hl2 : ys.length ≤ maxLen) :
    Calls Try.prog 75 #[.slice a xs.length c, .slice a2 ys.length c2] w fun e w' => e = .returned (.bool (sameB xs ys)) ∧ w' = w := by
  have hl' := hl
  have hl2' := hl2
  unfold maxLen at hl' hl2'
  cases h1 : hasL xs ys with
  | false =>
    have HE : Hid (sameB xs ys = false) := by show _ = _; simp [sameB, h1]
    go_enter Try.func75, Try.ntmps75
    go_wp2_with (go_at_call 85; refine (l6Has_g _ _ _ _ _ _ _ _ hx hy hl hl2 h1).mono ?_; rintro e w' ⟨rfl, rfl⟩)
    go_ret
    exact ⟨ret_bool HE.out.symm, rfl⟩
  | true =>
    obtain ⟨x, hx'⟩ : ∃ x, (((xs.length : Nat) : Int) == ((ys.length : Nat) : Int)) = x := ⟨_, rfl⟩
    have HE : Hid (sameB xs ys = x) := by show _ = _; rw [sameB, h1, ← hx', Bool.true_and, Bool.eq_iff_iff]; simp only [decide_eq_true_eq, beq_iff_eq]; omega
    go_enter Try.func75, Try.ntmps75
    go_wp2_with (go_at_call 85; refine (l6Has_g _ _ _ _ _ _ _ _ hx hy hl hl2 h1).mono ?_; rintro e w' ⟨rfl, rfl⟩)
    go_ret
    exact ⟨ret_bool (by rw [HE.out]), rfl⟩

end Go.Proofs.Ytgiekkipkgdjaaa
